/- The law InodeWhole holds for every input: any number, any slice of acts; it answers true, and leaves its arguments as they were. No condition. -/
import Derived.Test.YtagdhghjcibfbaaGreatInWl
import Derived.Test.YtagdhghjcibfbaaGreatInSd
import Derived.Test.YtagdhghjcibfbaaGreatInAct
import Derived.Test.YtagdhghjcibfbaaGreatRows
import Derived.Carry
import Derived.ProofKit
import Derived.OpenShut
import Derived.ShutString
import Derived.ChangeOld
import Derived.Below
namespace Go.Proofs.YtagdhghjcibfbaaGreat.inodeWhole
open Go.ChangeShapes Go.WideShapes Go.ChangeAt Go.RowKit
open Go.ChangeMaps (open_string shut_string)
set_option linter.unusedVariables false

theorem own : ownKnob Tryz.prog.godebug = none := by kernel_rfl
theorem laidOut : laidOutB Tryz.prog = true := by kernel_rfl

set_option maxRecDepth 100000 in
theorem lifted (os : Os) (started : os.Started) (H : Type) (enc : TypeId × Value → H) :
    ReturnsInHanded {} Tryz.checked os 4 .any (Rows.inodeWholeSpec.pre6 enc Tryz.prog Tryz.f4 Rows.inodeWholeRow.domain false) (Rows.inodeWholeSpec.post enc Tryz.prog Tryz.f4 false true false false) := by
  refine returnsInHanded_of_change (C := Tryz.checked) own started (by kernel_rfl) Tryz.func4
    (ChangeSpec.witness6 (enc := enc) (C := Tryz.checked) false ⟨#[], #[.int .u16 0, .slice none 0 0], []⟩ 8 (by kernel_rfl) (by kernel_rfl) (by kernel_rfl) (by kernel_rfl)) ?_
  intro W base args ds gs before hval0 hW hcnd _
  have hval : ∀ (j : Nat) t v, Tryz.f4.params[j]? = some t → args[j]? = some v → Value.okWide Tryz.prog W .any base t v := hval0
  have hW' := hW
  obtain ⟨p, q, hA0, hV, rfl, hfz, hnd⟩ := hW
  have hA : DataW.TrodAll enc Tryz.prog W 0 (fun _ => true) true Tryz.f4.params.toList args.toList ds p := hA0
  rw [Tryz.params4] at hA hval
  obtain ⟨v0, vs0, d0, ds0, p0, q0, hargs, rfl, rfl, h0, r0⟩ := trodAll_cons hA
  obtain ⟨v1, vs1, d1, ds1, p1, q1, rfl, rfl, rfl, h1, r1⟩ := trodAll_cons r0
  obtain ⟨rfl, rfl, rfl⟩ := trodAll_nil r1
  obtain rfl : args = #[v0, v1] := by cases args; simp_all
  obtain ⟨rfl, rfl⟩ := trodVars_none hV
  obtain ⟨a0, rfl, rfl, rfl, w0⟩ := open_int Tryz.underlying45 (hval 0 45 v0 rfl rfl) h0
  have hr : 0 ≤ a0 ∧ a0 ≤ 65535 := by simpa [Lit.wf, IntKind.min, IntKind.max, IntKind.signed, IntKind.bits] using w0
  obtain ⟨a1, len, cap, rfl⟩ := okWide_slice Tryz.underlying22 (hval 1 22 v1 rfl rfl)
  have h1k := h1
  obtain ⟨fuel, hf⟩ := h1
  clear hA0 hval0
  simp only [List.append_nil, List.nil_append] at hW'
  have hlt : ∀ x ∈ p1, x.block < W.heap.size := fun x hx => by simpa using hW'.lt x hx
  have fin : ∀ W', Below W.heap.size W W' → Rows.inodeWholeSpec.post enc Tryz.prog Tryz.f4 false true false false W #[.int .u16 a0, .slice a1 len cap] (.bool true) W' := by
    intro W' bel
    exact ⟨_, _, _, [], _, [], hW', trodAll_mk1 (shut_bool Tryz.underlying4 _), (trodAll_cons_mk (shut_int Tryz.underlying45 w0) (trodAll_mk1 (Below.trod laidOut (by kernel_rfl) (of_decide_eq_true (by kernel_rfl)) h1k bel hlt))), rfl, bel.frame _, fun h => by cases h⟩
  rcases open_acts hf with hcs | ⟨a, cap', l, hcs, hll, hat, hin⟩
  · obtain ⟨rfl, rfl, rfl⟩ : a1 = none ∧ len = 0 ∧ cap = 0 := by simpa [Value.cells] using hcs
    refine (lawWhole_any (fun v T w hv wf _ bd hN => sound_any v T w hv wf bd hN) a0 hr.1 (by omega) none [] 0 W (.inl rfl) (Nat.zero_le _) (fun x hx => by cases hx)).mono fun e W' ⟨he, bel⟩ => ?_
    exact ⟨_, he, fin W' bel⟩
  · obtain ⟨rfl, rfl, rfl⟩ : a1 = some a ∧ len = l.length ∧ cap = cap' := by simpa [Value.cells] using hcs
    refine (lawWhole_any (fun v T w hv wf _ bd hN => sound_any v T w hv wf bd hN) a0 hr.1 (by omega) (some a) l cap W hat hll hin).mono fun e W' ⟨he, bel⟩ => ?_
    exact ⟨_, he, fin W' bel⟩

theorem over : Rows.inodeWholeRow.holds Tryz.pinned (OpenSpec.ofChange Rows.inodeWholeSpec) :=
  OpenClaim.holds_of_wide 4 Tryz.f4 rfl rfl rfl rfl rfl rfl rfl ⟨rfl, rfl, rfl, rfl, rfl⟩ rfl rfl rfl rfl rfl (by kernel_rfl) Tryz.func4 (by kernel_rfl)
    (of_decide_eq_true (by kernel_rfl)) (by unfold Func.isWrapper; first | (rw [if_pos (by decide +kernel)]; kernel_rfl) | (rw [if_neg (by decide +kernel)]; exact ⟨rfl, rfl⟩))
    (fun os started H enc _ => lifted os started H enc)

theorem proved : Rows.InodeWholeSaid := over
#print axioms proved
end Go.Proofs.YtagdhghjcibfbaaGreat.inodeWhole
