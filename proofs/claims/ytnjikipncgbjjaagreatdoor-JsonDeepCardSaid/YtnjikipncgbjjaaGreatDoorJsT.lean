/- What the order of the fields is: a permutation, ascending by the names; two of one name stand next to each other; hasTwins of a list of fields. -/
import Derived.Test.YtnjikipncgbjjaaGreatDoorJsS
namespace Go.Proofs.YtnjikipncgbjjaaGreatDoor
open Go.RowKit Go.Sort
set_option linter.unusedVariables false
set_option maxRecDepth 100000

theorem cmp_lt : ∀ (a b : List UInt8), Lib.compareBytes a b < 0 ↔ a < b
  | [], [] => by simp [Lib.compareBytes]
  | [], _ :: _ => by simp [Lib.compareBytes]
  | _ :: _, [] => by simp [Lib.compareBytes]
  | a :: xs, b :: ys => by
    rw [Lib.compareBytes, List.cons_lt_cons_iff]
    by_cases h : a < b
    · simp [h]
    · by_cases h2 : b < a
      · have h3 : a ≠ b := fun e => by subst e; exact UInt8.lt_irrefl _ h2
        simp [h, h2, h3]
      · have h3 : a = b := by
          rw [UInt8.lt_iff_toNat_lt] at h h2
          exact UInt8.toNat_inj.1 (by omega)
        subst h3
        simp [h, cmp_lt xs ys]
theorem cf_lt (names : List ByteArray) (m : Nat) (i j : Fin (m + 1)) : ltOf (cfF names m) i j = ltStr (names.getD i.val ⟨#[]⟩).data.toList (names.getD j.val ⟨#[]⟩).data.toList := by
  unfold ltOf cfF ltStr
  exact decide_eq_decide.2 (cmp_lt _ _)
theorem swo_cf (names : List ByteArray) (m : Nat) : SWO (ltOf (cfF names m)) where
  irrefl x := by rw [cf_lt]; exact swo_ltStr.irrefl _
  trans x y z h1 h2 := by rw [cf_lt] at *; exact swo_ltStr.trans _ _ _ h1 h2
  ntrans x y z h1 h2 := by rw [cf_lt] at *; exact swo_ltStr.ntrans _ _ _ h1 h2
theorem ord_size (names : List ByteArray) (m : Nat) : (ordA names m).size = m + 1 := by unfold ordA; rw [size_insS]; simp
theorem ord_spec (names : List ByteArray) (m : Nat) : PermIn 0 (m + 1) (Array.ofFn id) (ordA names m) ∧ SortedIn (ltOf (cfF names m)) 0 (m + 1) (ordA names m) :=
  insertionSort_holds (swo_cf names m) (Array.ofFn id) 0 (m + 1) (Nat.zero_le _) (by simp)
theorem ext_all {α : Type} (d : Array α) (n : Nat) (h : d.size = n) : d.extract 0 n = d := by subst h; exact Array.extract_size
theorem ord_perm (names : List ByteArray) (m : Nat) : (ordA names m).toList.Perm (List.ofFn (id : Fin (m + 1) → Fin (m + 1))) := by
  have h := (ord_spec names m).1.2.2
  rw [ext_all _ _ (ord_size names m), ext_all _ _ (by simp)] at h
  simpa using h
theorem ord_sorted (names : List ByteArray) (m i j : Nat) (hij : i < j) (hj : j < m + 1) : ¬ (nmF names m j).data.toList < (nmF names m i).data.toList := by
  have h := (ord_spec names m).2 i j (Nat.zero_le _) hij hj
  rw [cf_lt] at h
  simpa [ltStr, nmF] using h
/-- The names in their order. -/
theorem nm_perm (names : List ByteArray) (m : Nat) (hl : names.length = m + 1) : ((List.range (m + 1)).map (nmF names m)).Perm names := by
  have h := (ord_perm names m).map (fun i : Fin (m + 1) => names.getD i.val ⟨#[]⟩)
  have e1 : (ordA names m).toList.map (fun i : Fin (m + 1) => names.getD i.val ⟨#[]⟩) = (List.range (m + 1)).map (nmF names m) := by
    apply List.ext_getElem
    · simp [ord_size]
    · intro i h1 h2
      have hi : i < (ordA names m).size := by simpa using h1
      rw [List.getElem_map, List.getElem_map, List.getElem_range, nmF, getElem!_pos (ordA names m) i hi]
      rfl
  have e2 : (List.ofFn (id : Fin (m + 1) → Fin (m + 1))).map (fun i : Fin (m + 1) => names.getD i.val ⟨#[]⟩) = names := by
    apply List.ext_getElem
    · simp [hl]
    · intro i h1 h2
      rw [List.getElem_map, List.getElem_ofFn]
      simp [List.getD_eq_getElem?_getD, h2]
  rw [e1, e2] at h
  exact h
theorem tw_spec (names : List ByteArray) (m : Nat) (hl : names.length = m + 1) : twB names m = true ↔ ¬ names.Nodup := by
  rw [← (nm_perm names m hl).nodup_iff]
  have hp : ((List.range (m + 1)).map (nmF names m)).Nodup ↔ ∀ i j, i < j → j < m + 1 → nmF names m i ≠ nmF names m j := by
    rw [List.nodup_iff_pairwise_ne, List.pairwise_iff_getElem]
    constructor
    · intro h i j h1 h2
      have := h i j (by simp; omega) (by simpa using h2) h1
      rwa [List.getElem_map, List.getElem_map, List.getElem_range, List.getElem_range] at this
    · intro h i j h1 h2 h3
      rw [List.getElem_map, List.getElem_map, List.getElem_range, List.getElem_range]
      exact h i j h3 (by simpa using h2)
  rw [hp]
  unfold twB
  rw [List.any_eq_true]
  constructor
  · rintro ⟨i, hi, he⟩ h
    exact h i (i + 1) (by omega) (by have := List.mem_range.1 hi; omega) (by simpa using (of_decide_eq_true he).symm)
  · intro h
    refine Classical.byContradiction fun hno => h fun i j hij hj e => hno ⟨i, List.mem_range.2 (by omega), decide_eq_true ?_⟩
    by_cases h1 : j = i + 1
    · rw [e, h1]
    · have a1 := ord_sorted names m i (i + 1) (by omega) (by omega)
      have a2 := ord_sorted names m (i + 1) j (by omega) hj
      rw [← e] at a2
      have a3 := List.le_antisymm (List.not_lt.1 a1) (List.not_lt.1 a2)
      have : (nmF names m i).data = (nmF names m (i + 1)).data := Array.toList_inj.1 a3
      show (⟨(nmF names m (i + 1)).data⟩ : ByteArray) = ⟨(nmF names m i).data⟩
      rw [this]

/-- Where the names of fields lie. -/
theorem LFs.names {w : World} {S : Nat → Prop} {b : Nat} : ∀ {o : Nat} {f : List (ByteArray × JV)}, LFs w S b o f → ∀ i, i < f.length → w.cell? ⟨b, o + 5 * i, none⟩ = some (.string ((f.map (·.1)).getD i ⟨#[]⟩))
  | _, [], _, i, hi => absurd hi (Nat.not_lt_zero _)
  | o, (n, v) :: r, h, i, hi => by
    simp only [LFs] at h
    cases i with
    | zero => simpa using h.1
    | succ i =>
      have := LFs.names h.2.2 i (by simpa using hi)
      rw [show o + 5 * (i + 1) = o + 5 + 5 * i by omega, this]
      simp

theorem twins_nil (p : Option Addr) (cap0 : Nat) (w : World) :
    Calls Tryz.prog 25 #[.slice p 0 cap0] w (fun e w' => e = .returned (.bool false) ∧ RowKit.Below w.heap.size w w') := by
  have CB := Lib.hid (byName_nil p cap0 w)
  go_enter Tryz.func25, Tryz.ntmps25
  go_wp2_with (go_at_call 40; (with_reducible refine CB.out.mono ?_); rintro e w1 ⟨rfl, hb⟩)
  have HB := Lib.hid hb
  clear hb CB
  go_loopg [10] 0 (fun _ s10 wr => s10 = .int .i64 0 ∧ wr = w1)
  case atStart => exact ⟨rfl, rfl⟩
  case round =>
    obtain ⟨rfl, rfl⟩ := hrel
    go_wp2_with fail
    go_ret
    exact ⟨rfl, HB.out⟩

/-- hasTwins of fewer than twenty fields. -/
theorem twins_any {w : World} {S : Nat → Prop} {a : Option Addr} {cap : Nat} (f : List (ByteArray × JV)) (h20 : f.length < 20) (h : f = [] ∨ ∃ b o, a = some ⟨b, o, none⟩ ∧ S b ∧ LFs w S b o f) :
    Calls Tryz.prog 25 #[.slice a f.length cap] w (fun e w' => e = .returned (.bool (decide (¬ (f.map (·.1)).Nodup))) ∧ RowKit.Below w.heap.size w w') := by
  by_cases hf : f = []
  · subst hf
    refine (twins_nil a cap w).mono fun e w' h => ?_
    simpa using h
  · rcases h with h | ⟨b, o, rfl, hs, hv⟩
    · exact absurd h hf
    · obtain ⟨m, hm⟩ : ∃ m, f.length = m + 1 := ⟨f.length - 1, by have := List.length_pos_iff.2 hf; omega⟩
      rw [hm]
      refine (twins_some b o m cap (by omega) (f.map (·.1)) w (fun i hi => hv.names i (by omega))).mono fun e w' h => ?_
      have e1 : twB (f.map (·.1)) m = decide (¬ (f.map (·.1)).Nodup) := by
        rw [Bool.eq_iff_iff, tw_spec _ _ (by simpa using hm)]; simp
      rw [← e1]
      exact h

/-- isSingle. -/
theorem isSingle_any {w : World} {S : Nat → Prop} (v : JV) {b o : Nat} (h : LAt w S v b o) :
    Calls Tryz.prog 39 #[.pointer (some ⟨b, o, none⟩)] w (fun e w' => e = .returned (.bool (decide (v.list = [] ∧ v.fields = []))) ∧ w' = w) := by
  obtain ⟨k, t, l, f⟩ := v
  obtain ⟨c0, c1, c2, c3, -, -, h2, h3, hv⟩ := h
  simp only [LV] at hv
  obtain ⟨-, -, ⟨a, cap, rfl, -⟩, ⟨a', cap', rfl, -⟩⟩ := hv
  have hlf : (l = [] ∧ f = []) ↔ ((l.length : Int) = 0 ∧ (f.length : Int) = 0) := by
    rw [← List.length_eq_zero_iff, ← List.length_eq_zero_iff]; omega
  have hd : decide (l = [] ∧ f = []) = (decide ((l.length : Int) = 0) && decide ((f.length : Int) = 0)) := by rw [decide_eq_decide.2 hlf, Bool.decide_and]
  show Calls _ _ _ _ fun e w' => e = .returned (.bool (decide (l = [] ∧ f = []))) ∧ w' = w
  rw [hd]
  clear hd hlf
  generalize l.length = nl at h2
  generalize f.length = nf at h3
  by_cases hn : (nl : Int) = 0
  · rw [decide_eq_true hn, Bool.true_and]
    go_enter Tryz.func39, Tryz.ntmps39
    go_wp2_with fail
    go_ret
    exact ⟨rfl, rfl⟩
  · rw [decide_eq_false hn, Bool.false_and]
    have hn' : decide ((nl : Int) = 0) = false := by simpa using hn
    go_enter Tryz.func39, Tryz.ntmps39
    go_wp2_with fail
    go_ret
    exact ⟨rfl, rfl⟩
end Go.Proofs.YtnjikipncgbjjaaGreatDoor
