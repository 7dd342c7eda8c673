/- The law InodeStays holds for every input: any text, any slice of acts; it answers true, and leaves its arguments as they were. No condition. -/
import Derived.Test.YtogdmbfinankhaaInStay
import Derived.Test.YtogdmbfinankhaaInAct
import Derived.Test.YtogdmbfinankhaaRows
import Derived.Carry
import Derived.ProofKit
import Derived.OpenShut
import Derived.ShutString
import Derived.ChangeOld
import Derived.Below
namespace Go.Proofs.Ytogdmbfinankhaa.inodeStays
open Go.ChangeShapes Go.WideShapes Go.ChangeAt Go.RowKit
open Go.ChangeMaps (open_string shut_string)
set_option linter.unusedVariables false

theorem own : ownKnob Try.prog.godebug = none := by kernel_rfl
theorem laidOut : laidOutB Try.prog = true := by kernel_rfl

set_option maxRecDepth 100000 in
theorem lifted (os : Os) (started : os.Started) (H : Type) (enc : TypeId × Value → H) :
    ReturnsInHanded {} Try.checked os 3 .any (Rows.inodeStaysSpec.pre6 enc Try.prog Try.f3 Rows.inodeStaysRow.domain false) (Rows.inodeStaysSpec.post enc Try.prog Try.f3 false true false false) := by
  refine returnsInHanded_of_change (C := Try.checked) own started (by kernel_rfl) Try.func3
    (ChangeSpec.witness6 (enc := enc) (C := Try.checked) false ⟨#[], #[.string ByteArray.empty, .slice none 0 0], []⟩ 8 (by kernel_rfl) (by kernel_rfl) (by kernel_rfl) (by kernel_rfl)) ?_
  intro W base args ds gs before hval0 hW hcnd _
  have hval : ∀ (j : Nat) t v, Try.f3.params[j]? = some t → args[j]? = some v → Value.okWide Try.prog W .any base t v := hval0
  have hW' := hW
  obtain ⟨p, q, hA0, hV, rfl, hfz, hnd⟩ := hW
  have hA : DataW.TrodAll enc Try.prog W 0 (fun _ => true) true Try.f3.params.toList args.toList ds p := hA0
  rw [Try.params3] at hA hval
  obtain ⟨v0, vs0, d0, ds0, p0, q0, hargs, rfl, rfl, h0, r0⟩ := trodAll_cons hA
  obtain ⟨v1, vs1, d1, ds1, p1, q1, rfl, rfl, rfl, h1, r1⟩ := trodAll_cons r0
  obtain ⟨rfl, rfl, rfl⟩ := trodAll_nil r1
  obtain rfl : args = #[v0, v1] := by cases args; simp_all
  obtain ⟨rfl, rfl⟩ := trodVars_none hV
  obtain ⟨a0, rfl, rfl, rfl, w0⟩ := open_string Try.underlying9 (hval 0 9 v0 rfl rfl) h0
  obtain ⟨a1, len, cap, rfl⟩ := okWide_slice Try.underlying22 (hval 1 22 v1 rfl rfl)
  have h1k := h1
  obtain ⟨fuel, hf⟩ := h1
  clear hA0 hval0
  simp only [List.append_nil, List.nil_append] at hW'
  have hlt : ∀ x ∈ p1, x.block < W.heap.size := fun x hx => by simpa using hW'.lt x hx
  have fin : ∀ W', Below W.heap.size W W' → Rows.inodeStaysSpec.post enc Try.prog Try.f3 false true false false W #[.string a0, .slice a1 len cap] (.bool true) W' := by
    intro W' bel
    exact ⟨_, _, _, [], _, [], hW', trodAll_mk1 (shut_bool Try.underlying4 _), (trodAll_cons_mk (shut_string Try.underlying9 w0) (trodAll_mk1 (Below.trod laidOut (by kernel_rfl) (of_decide_eq_true (by kernel_rfl)) h1k bel hlt))), rfl, bel.frame _, fun h => by cases h⟩
  rcases open_acts hf with hcs | ⟨a, cap', l, hcs, hll, hat, hin⟩
  · obtain ⟨rfl, rfl, rfl⟩ : a1 = none ∧ len = 0 ∧ cap = 0 := by simpa [Value.cells] using hcs
    refine (lawStays_any a0 none [] 0 W (.inl rfl) (Nat.zero_le _) (fun x hx => by cases hx)).mono fun e W' ⟨he, bel⟩ => ?_
    exact ⟨_, he, fin W' bel⟩
  · obtain ⟨rfl, rfl, rfl⟩ : a1 = some a ∧ len = l.length ∧ cap = cap' := by simpa [Value.cells] using hcs
    refine (lawStays_any a0 (some a) l cap W hat hll hin).mono fun e W' ⟨he, bel⟩ => ?_
    exact ⟨_, he, fin W' bel⟩

theorem over : Rows.inodeStaysRow.holds Try.pinned (OpenSpec.ofChange Rows.inodeStaysSpec) :=
  OpenClaim.holds_of_wide 3 Try.f3 rfl rfl rfl rfl rfl rfl rfl ⟨rfl, rfl, rfl, rfl, rfl⟩ rfl rfl rfl rfl rfl (by kernel_rfl) Try.func3 (by kernel_rfl)
    (of_decide_eq_true (by kernel_rfl)) (by unfold Func.isWrapper; first | (rw [if_pos (by decide +kernel)]; kernel_rfl) | (rw [if_neg (by decide +kernel)]; exact ⟨rfl, rfl⟩))
    (fun os started H enc _ => lifted os started H enc)

theorem proved : Rows.InodeStaysSaid := over
#print axioms proved
end Go.Proofs.Ytogdmbfinankhaa.inodeStays
