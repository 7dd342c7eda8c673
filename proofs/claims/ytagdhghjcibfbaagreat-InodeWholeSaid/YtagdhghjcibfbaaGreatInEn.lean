/- Layer 8: a directory's entries, in their order. -/
import Derived.Test.YtagdhghjcibfbaaGreatInShelf3
import Derived.Test.YtagdhghjcibfbaaGreatInNn
import Derived.Maps.RangeWalk
import Derived.Maps.AppendAt
import Derived.Sort.LotA
import Derived.Sort.OwnSorted
import Derived.Laws.MakeOwn
namespace Go.Proofs.YtagdhghjcibfbaaGreat
open Go.RowKit Go.Sort Go.Shelf
set_option linter.unusedVariables false
set_option linter.unusedSectionVars false
set_option maxRecDepth 100000

theorem cmp_lt : ∀ (a b : List UInt8), Lib.compareBytes a b < 0 ↔ a < b
  | [], [] => by simp [Lib.compareBytes]
  | [], _ :: _ => by simp [Lib.compareBytes]
  | _ :: _, [] => by simp [Lib.compareBytes]
  | a :: xs, b :: ys => by
    rw [Lib.compareBytes, List.cons_lt_cons_iff]
    by_cases h : a < b
    · simp [h]
    · by_cases h2 : b < a
      · have h3 : a ≠ b := fun e => by subst e; exact UInt8.lt_irrefl _ h2
        simp [h, h2, h3]
      · have h3 : a = b := by
          rw [UInt8.lt_iff_toNat_lt] at h h2
          exact UInt8.toNat_inj.1 (by omega)
        subst h3
        simp [h, cmp_lt xs ys]
/-- An entry's two cells: the name, and what it leads to in l. -/
def encE (l : List (List UInt8 × Int)) (x : List UInt8) : List Value := [.string (bs x), .int .i64 ((aget x l).getD 0)]
def cfE (x y : List UInt8) : Int := Lib.compareBytes x y
theorem cfE_lt (x y : List UInt8) : ltOf cfE x y = ltStr x y := by
  unfold ltOf cfE ltStr
  exact decide_eq_decide.2 (cmp_lt _ _)
theorem swoE : SWO (ltOf cfE) where
  irrefl x := by rw [cfE_lt]; exact swo_ltStr.irrefl _
  trans x y z h1 h2 := by rw [cfE_lt] at *; exact swo_ltStr.trans _ _ _ h1 h2
  ntrans x y z h1 h2 := by rw [cfE_lt] at *; exact swo_ltStr.ntrans _ _ _ h1 h2
theorem totE (x y : List UInt8) (h1 : (ltOf cfE) x y = false) (h2 : (ltOf cfE) y x = false) : x = y := by
  rw [cfE_lt] at h1 h2
  unfold ltStr at h1 h2
  rw [decide_eq_false_iff_not] at h1 h2
  exact List.le_antisymm (List.not_lt.1 h2) (List.not_lt.1 h1)
theorem sortE_eq {l : List (List UInt8 × Int)} (hr : Ris bytesBefore l) {ks : List (List UInt8)} (hp : ks.Perm (l.map (·.1))) : ks.mergeSort (fun x y => !(ltOf cfE) y x) = l.map (·.1) := by
  have e : (fun x y : List UInt8 => !(ltOf cfE) y x) = fun x y => decide (x ≤ y) := by
    funext x y
    rw [cfE_lt]
    unfold ltStr
    rw [← decide_not]
    exact decide_eq_decide.2 List.not_lt
  rw [e]
  exact sorted_names hr hp
theorem entCmp_any (x y : List UInt8) (a b : Int) (W : World) : Calls Tryz.prog 76 #[.agg #[.string (bs x), .int .i64 a], .agg #[.string (bs y), .int .i64 b]] W fun e w' => e = .returned (.int .i64 (cfE x y)) ∧ ∃ q os', w' = grow (W.drewN q) os' := by
  have hcon := fun W' : World => Tryz.strings_Compare (bs x) (bs y) W'
  have e : Lib.compareBytes (bs x).data.toList (bs y).data.toList = cfE x y := by rw [bs_list, bs_list]; rfl
  rw [e] at hcon
  generalize cfE x y = r at hcon ⊢
  go_enter Tryz.func76, Tryz.ntmps76
  go_wp2_with (go_at_call 77; refine (hcon _).mono ?_; rintro e w' ⟨rfl, rfl⟩)
  go_ret
  exact ⟨rfl, 0, _, by rw [alloc_eq_grow, alloc_eq_grow, grow_grow]; rfl⟩
theorem sortE_any (l : List (List UInt8 × Int)) (blk cap : Nat) (ks : List (List UInt8)) (w : World) (hH : HoldsK (encE l) 2 w blk 0 ks.toArray) (hblk : blk < w.heap.size) (hsz : ks.length < 4611686018427387904) :
    Calls Tryz.prog 75 #[.slice (some ⟨blk, 0, none⟩) ks.length cap, .func (.func 76) #[] #[]] w fun e w' =>
      e = .returned (.tuple #[]) ∧ ∃ n os, w' = sortWorldK (encE l) 2 w blk 0 n (ks.mergeSort fun x y => !(ltOf cfE) y x).toArray os := by
  have eg : ∀ args w, (callFunc 76 args).run Tryz.prog w = .ok (.enter 76 args) w := enters_of Tryz.func76 (by kernel_rfl) rfl
  have hcon := AnyQ.slices_SortFunc_total Tryz.sortE 2 Tryz.isAgg74 Tryz.sizeOf74 (encE l) (fun _ => rfl) (fun x v hv => by simp [encE] at hv; rcases hv with rfl | rfl <;> rfl) cfE swoE 76 #[] blk 0 cap ks.toArray w eg
    (fun _ _ _ _ x y => entCmp_any x y _ _ _) hH hblk (by simpa using hsz) totE
  change Calls Tryz.prog 75 _ _ _ at hcon
  simpa using hcon

/-! ### A row of entries in memory -/
structure EnAt (w : World) (v : Value) (l : List (List UInt8 × Int)) (lo : Nat) : Prop where
  at_ : ∃ b c, v = .slice (some ⟨b, 0, none⟩) l.length c ∧ lo ≤ b ∧ b < w.heap.size ∧ ∀ j (h : j < l.length), w.cell? ⟨b, j * 2, none⟩ = some (.string (bs l[j].1)) ∧ w.cell? ⟨b, j * 2 + 1, none⟩ = some (.int .i64 l[j].2)
theorem EnAt.below {w w' : World} {v : Value} {l : List (List UInt8 × Int)} {lo B : Nat} (h : EnAt w v l lo) (hb : Below B w w') (hB : B = w.heap.size) : EnAt w' v l lo := by
  obtain ⟨b, c, h1, h2, h3, h4⟩ := h.at_
  subst hB
  exact ⟨b, c, h1, h2, Nat.lt_of_lt_of_le h3 hb.size, fun j hj => ⟨(hb.cell (show b < _ from h3)).trans (h4 j hj).1, (hb.cell (show b < _ from h3)).trans (h4 j hj).2⟩⟩
theorem flat_get (l : List (List UInt8 × Int)) : ∀ (ks : List (List UInt8)) (t : Nat), t < ks.length * 2 → (ks.flatMap (encE l))[t]? = some ((encE l (ks.getD (t / 2) []))[t % 2]!)
  | [], t, h => by simp at h
  | k :: r, t, h => by
    rw [List.flatMap_cons]
    match t with
    | 0 => rfl
    | 1 => rfl
    | t + 2 =>
      have := flat_get l r t (by simp only [List.length_cons] at h; omega)
      show (r.flatMap (encE l))[t]? = _
      rw [this, show (t + 2) / 2 = t / 2 + 1 by omega, show (t + 2) % 2 = t % 2 by omega]
      rfl
theorem holdsE {w : World} {g : Nat} {cur : Array Value} {e : TypeId} {l : List (List UInt8 × Int)} {ks : List (List UInt8)} (hb : w.heap[g]? = some (.cells cur e (0, 0))) (ht : cur.toList.take (ks.length * 2) = ks.flatMap (encE l)) : HoldsK (encE l) 2 w g 0 ks.toArray := by
  intro j hj
  have hj' : j < ks.length * 2 := by simpa using hj
  refine ⟨?_, by simp [World.frozen?, hb]⟩
  have h1 : (cur.toList.take (ks.length * 2))[j]? = (ks.flatMap (encE l))[j]? := by rw [ht]
  rw [List.getElem?_take_of_lt hj', flat_get l ks j hj'] at h1
  simp only [World.cell?, hb, Nat.zero_add, Option.isSome_none, Bool.false_eq_true, if_false]
  rw [← Array.getElem?_toList, h1]
  have h2 := get_flatK (encE l) 2 ks.toArray j (by simpa using hj')
  show some _ = some ((flatK (encE l) 2 ks.toArray)[j]!)
  rw [h2]
  congr 3
  have h4 : j / 2 < ks.length := by omega
  rw [List.getD_eq_getElem?_getD, List.getElem?_eq_getElem h4]
  simp [h4]
theorem grownBy_sortE {enc : List UInt8 → List Value} {w : World} {g n : Nat} {os : Array Obj} (d : Array (List UInt8)) : w.grownBy (sortWorldK enc 2 w g 0 n d os) (some g) := by
  unfold sortWorldK putRowK
  refine ⟨rfl, rfl, rfl, by simp, fun k hk hne => ?_⟩
  rw [heap_grow_old _ _ (by simpa using hk)]
  have : g ≠ k := fun e => hne (by rw [e])
  simp [putRow, mapBlock, Go.Sort.ahead, Array.getElem?_modify, this]
/-- What the sort leaves of a row whose names are l's: l. -/
theorem sortedE {w : World} {g n c lo : Nat} {os : Array Obj} {l : List (List UInt8 × Int)} {ks : List (List UInt8)} (hr : Ris bytesBefore l) (hp : ks.Perm (l.map (·.1))) (hH : HoldsK (encE l) 2 w g 0 ks.toArray) (hg : g < w.heap.size) (hlo : lo ≤ g) :
    EnAt (sortWorldK (encE l) 2 w g 0 n (ks.mergeSort fun x y => !(ltOf cfE) y x).toArray os) (.slice (some ⟨g, 0, none⟩) ks.length c) l lo := by
  have hlen : ks.length = l.length := by rw [hp.length_eq, List.length_map]
  rw [sortE_eq hr hp]
  have h2 := holdsK_sortWorldK_c (encE l) 2 w g 0 ks.toArray (l.map (·.1)).toArray n os hH hg (by simp [hlen])
  refine ⟨g, c, by rw [hlen], hlo, Nat.lt_of_lt_of_le hg (size_sortWorldK_c _ _ _ _ _ _ _ _), fun j hj => ?_⟩
  have hj' : j < ((l.map (·.1)).toArray).size := by simpa using hj
  have e : (l.map (·.1)).toArray[j]! = l[j].1 := by rw [getElem!_pos (l.map (·.1)).toArray j hj']; simp
  have a0 := (h2.cell hj' (show 0 < 2 by omega)).1
  have a1 := (h2.cell hj' (show 1 < 2 by omega)).1
  rw [e] at a0 a1
  have eg : aget l[j].1 l = some l[j].2 := mem_aget (ris_ne ord_S hr) (List.getElem_mem hj)
  simp only [Nat.zero_add, Nat.add_zero] at a0 a1
  exact ⟨a0, by rw [a1]; unfold encE; rw [eg]; rfl⟩
end Go.Proofs.YtagdhghjcibfbaaGreat
