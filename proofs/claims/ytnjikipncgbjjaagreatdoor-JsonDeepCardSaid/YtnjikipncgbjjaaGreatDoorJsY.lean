/- Helpers of walk: a loop whose measure lies in what is not seen; the frame's marks at its return; isSingle by cells; bounds. -/
import Derived.Test.YtnjikipncgbjjaaGreatDoorJsX
namespace Go.Proofs.YtnjikipncgbjjaaGreatDoor
open Go.RowKit Go.Shelf
attribute [local go_sem] Oper.semAt_some
set_option linter.unusedVariables false
set_option maxRecDepth 100000

section
variable {F : Fence} {n : Nat} {P : Program} {Q : Exit → Act → World → Prop} {a : Act} {w : World}
theorem least {p : Nat → Prop} : ∀ k, p k → ∃ k, p k ∧ ∀ j, p j → k ≤ j := by
  intro k
  induction k using Nat.strongRecOn with
  | _ k ih =>
    intro hk
    by_cases h : ∃ j, j < k ∧ p j
    · obtain ⟨j, hj, hp⟩ := h
      exact ih j hj hp
    · exact ⟨k, hk, fun j hj => Nat.le_of_not_lt fun hlt => h ⟨j, hlt, hj⟩⟩
theorem least' {p : Nat → Prop} (h : ∃ k, p k) : ∃ k, p k ∧ ∀ j, p j → k ≤ j := let ⟨k, hk⟩ := h; least k hk
open Classical in
/-- A loop whose invariant bears a number that falls. -/
theorem wpIn_loop_min {c : Code} (I : Nat → Act → World → Prop) (k0 : Nat) (h0 : I k0 a w) (round : ∀ k a w, I k a w → c.wpIn F n P (Exit.then (fun a' w' => ∃ k', k' < k ∧ I k' a' w') Q) a w) : (Code.loop c).wpIn F n P Q a w := by
  refine wpIn_loop (fun a w => ∃ k, I k a w) (fun a w => if h : ∃ k, I k a w then (least' h).choose else 0) ⟨k0, h0⟩ fun a w h => ?_
  refine wpIn_mono (round (least' h).choose a w (least' h).choose_spec.1) fun e a' w' hq => ?_
  cases e with
  | normal =>
    obtain ⟨k', hk, hI⟩ := hq
    refine ⟨⟨k', hI⟩, ?_⟩
    have h' : ∃ k, I k a' w' := ⟨k', hI⟩
    show (if h : ∃ k, I k a' w' then (least' h).choose else 0) < (if h : ∃ k, I k a w then (least' h).choose else 0)
    rw [dif_pos h', dif_pos h]
    exact Nat.lt_of_le_of_lt ((least' h').choose_spec.2 k' hI) hk
  | _ => exact hq

/-- The marks of the rounds' deferred calls are taken, one after another. -/
theorem leaves_coll {fn : Func} {tmps : Array Value} {R : Ending → World → Prop} : ∀ (Ds : List Nat) (w : World), Ds.Nodup → (∀ D ∈ Ds, w.heap[D]? = some (.deferred (some []))) →
    (∀ w', w'.os = w.os → w'.tape = w.tape → w'.output = w.output → w'.heap.size = w.heap.size → (∀ k, k ∉ Ds → w'.heap[k]? = w.heap[k]?) → LeavesInM F n P fn tmps R [] .returning w') →
    LeavesInM F n P fn tmps R (Ds.map fun D => { target := .collected D, args := #[] }) .returning w
  | [], w, _, _, h => h w rfl rfl rfl rfl (fun _ _ => rfl)
  | D :: Ds, w, hn, hd, h => by
    have hD := hd D (by simp)
    obtain ⟨hn1, hn2⟩ := List.nodup_cons.1 hn
    refine ⟨by simp, .inl ⟨D, _, rfl, run_takeDeferred hD, ?_⟩⟩
    refine leaves_coll Ds _ hn2 (fun D' h' => ?_) (fun w' e1 e2 e3 e4 e5 => h w' e1 e2 e3 (by rw [e4]; simp [World.putObj]) (fun k hk => ?_))
    · rw [World.putObj_heap_other (fun e => hn1 (by rw [← e]; exact h'))]
      exact hd D' (by simp [h'])
    · rw [e5 k (fun e => hk (by simp [e]))]
      exact World.putObj_heap_other (fun e => hk (by simp [e]))
end

theorem isSingle_c {w : World} {b o n2 n3 cap2 cap3 : Nat} {a2 a3 : Option Addr} (h2 : w.cell? ⟨b, o + 2, none⟩ = some (.slice a2 n2 cap2)) (h3 : w.cell? ⟨b, o + 3, none⟩ = some (.slice a3 n3 cap3)) :
    Calls Tryz.prog 39 #[.pointer (some ⟨b, o, none⟩)] w (fun e w' => e = .returned (.bool (decide (n2 = 0 ∧ n3 = 0))) ∧ w' = w) := by
  have hd : decide (n2 = 0 ∧ n3 = 0) = (decide ((n2 : Int) = 0) && decide ((n3 : Int) = 0)) := by
    rw [decide_eq_decide.2 (show (n2 = 0 ∧ n3 = 0) ↔ ((n2 : Int) = 0 ∧ (n3 : Int) = 0) by omega), Bool.decide_and]
  rw [hd]
  clear hd
  by_cases hn : (n2 : Int) = 0
  · rw [decide_eq_true hn, Bool.true_and]
    go_enter Tryz.func39, Tryz.ntmps39
    go_wp2_with fail
    go_ret
    exact ⟨rfl, rfl⟩
  · rw [decide_eq_false hn, Bool.false_and]
    have hn' : decide ((n2 : Int) = 0) = false := by simpa using hn
    go_enter Tryz.func39, Tryz.ntmps39
    go_wp2_with fail
    go_ret
    exact ⟨rfl, rfl⟩

theorem grL_bound (G : Nat × Nat → Option Int) (M : Int) (hM : 1 ≤ M) (h : ∀ a d, G a = some d → 0 ≤ d ∧ d ≤ M) : ∀ l : List (Nat × Nat), 0 ≤ grL G l ∧ grL G l ≤ M := by
  have key : ∀ (l : List (Nat × Nat)) (g : Int), 0 ≤ g → g ≤ M → 0 ≤ l.foldl (grD G) g ∧ l.foldl (grD G) g ≤ M := by
    intro l
    induction l with
    | nil => intro g h1 h2; exact ⟨h1, h2⟩
    | cons a l ih =>
      intro g h1 h2
      rw [List.foldl_cons]
      have hg : 0 ≤ (G a).getD 0 ∧ (G a).getD 0 ≤ M := by
        cases hG : G a with
        | none => simp; omega
        | some d => simpa using h a d hG
      exact ih _ (by unfold grD; omega) (by unfold grD; omega)
  exact fun l => key l 0 (by omega) (by omega)
end Go.Proofs.YtnjikipncgbjjaaGreatDoor
