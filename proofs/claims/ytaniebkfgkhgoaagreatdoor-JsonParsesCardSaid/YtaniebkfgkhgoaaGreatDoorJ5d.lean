/- Get. Get: its contract. awake's closed texts. awake of layer 5. -/
import Derived.Test.YtaniebkfgkhgoaaGreatDoorJ5a
import Derived.Test.YtaniebkfgkhgoaaGreatDoorJ5b
import Derived.Test.YtaniebkfgkhgoaaGreatDoorJ5c
namespace Go.Proofs.YtaniebkfgkhgoaaGreatDoor
open Go.RowKit
set_option linter.unusedVariables false
set_option maxRecDepth 100000

theorem get1_any (m s : ByteArray) (nb : Nat) (k : Int) (t : ByteArray) (a : Option Addr) (n c : Nat) (a2 : Option Addr) (n2 d : Nat) (W : World) (hb : Boxed W nb 9 (.string m)) :
    Calls Tryz.prog 32 #[.agg #[.string s, .int .i64 k, .string t, .slice a n c, .slice a2 n2 d], .pointer (some ⟨nb, 0, none⟩)] W fun e W' => e = .returned (.bool (s.toList == m.toList)) ∧ RowKit.Below W.heap.size W W' := by
  have hc := (hb.alloc (.cells #[.string s, .int .i64 k, .string t, .slice a n c, .slice a2 n2 d] 51)).cell
  have HA : Hid (RowKit.Below W.heap.size W (W.alloc (.cells #[.string s, .int .i64 k, .string t, .slice a n c, .slice a2 n2 d] 51))) := Lib.hid ((Below.refl _ _).alloc (Nat.le_refl _) _)
  clear hb
  go_enter Tryz.func32, Tryz.ntmps32
  go_wp2_with fail
  go_ret
  exact ⟨rfl, HA.out⟩

/-- The field of a name. -/
def getG (v : JV) (m : ByteArray) : Option JV := (v.fields.find? fun q => q.1.toList == m.toList).map (·.2)
def GetPost (w : World) (v : JV) (ok : Bool) (e : Ending) (w' : World) : Prop :=
  ∃ (k : Int) (t : ByteArray) (a : Option Addr) (n c : Nat) (a2 : Option Addr) (n2 c2 : Nat), e = .returned (.tuple #[.agg #[.int .i64 k, .string t, .slice a n c, .slice a2 n2 c2], .bool ok]) ∧
    LV w' (fun b => b < w'.heap.size) v (.int .i64 k) (.string t) (.slice a n c) (.slice a2 n2 c2) ∧ RowKit.Below w.heap.size w w'
theorem get_end {w w1 : World} {a : Act} {v : JV} {ok : Bool} {k : Int} {t : ByteArray} {aa : Option Addr} {n c : Nat} {a2 : Option Addr} {n2 c2 : Nat} {rb : Nat} (hz : RB w1 rb (.int .i64 k) (.string t) (.slice aa n c) (.slice a2 n2 c2))
    (hp : a.tmps.getD 4 undef = .pointer (some ⟨rb, 0, none⟩)) (hu : a.tmps.getD 5 undef = .bool ok) (hd : a.defers = [])
    (hv : LV w1 (fun b => b < w1.heap.size) v (.int .i64 k) (.string t) (.slice aa n c) (.slice a2 n2 c2)) (hb : RowKit.Below w.heap.size w w1) :
    bodyPost Tryz.prog Tryz.f13 (GetPost w v ok) .ret a w1 := by
  have hR : GetPost w v ok (.returned (.tuple #[.agg #[.int .i64 k, .string t, .slice aa n c, .slice a2 n2 c2], .bool ok])) w1 := by
    unfold GetPost
    refine ⟨k, t, aa, n, c, a2, n2, c2, rfl, ?_, ?_⟩
    · exact hv
    · exact hb
  exact ret_val (p := 4) (u := 5) rfl hp hu hd hz hR
theorem ix_find (p : ByteArray × JV → Bool) (f : List (ByteArray × JV)) : (f.find? p = none ∧ ixOf p f = -1) ∨ ∃ (i : Nat) (q : ByteArray × JV), f[i]? = some q ∧ f.find? p = some q ∧ ixOf p f = (i : Int) := by
  unfold ixOf
  cases h : f.findIdx? p with
  | none =>
    left
    rw [List.findIdx?_eq_none_iff] at h
    exact ⟨List.find?_eq_none.2 (fun x hx => by rw [h x hx]; decide), rfl⟩
  | some i =>
    right
    have h' := h
    rw [List.findIdx?_eq_some_iff_getElem] at h
    obtain ⟨h1, h2, h3⟩ := h
    refine ⟨i, f[i], List.getElem?_eq_getElem h1, ?_, rfl⟩
    rw [List.find?_eq_some_iff_getElem]
    exact ⟨h2, i, h1, rfl, fun j hj => by have := h3 j hj; simpa using this⟩
end Go.Proofs.YtaniebkfgkhgoaaGreatDoor

namespace Go.Proofs.YtaniebkfgkhgoaaGreatDoor
open Go.RowKit
set_option linter.unusedVariables false
set_option maxRecDepth 100000

set_option maxHeartbeats 2000000 in
theorem get_any {S : Nat → Prop} (v : JV) (hsz : v.size ≤ 549755813888) (m : ByteArray) (k : Int) (t : ByteArray) (a : Option Addr) (n c : Nat) (a2 : Option Addr) (n2 c2 : Nat) (w : World) (hv : LV w S v (.int .i64 k) (.string t) (.slice a n c) (.slice a2 n2 c2)) :
    Calls Tryz.prog 13 #[.agg #[.int .i64 k, .string t, .slice a n c, .slice a2 n2 c2], .string m] w (match getG v m with | some u => GetPost w u true | none => GetPost w jZero false) := by
  obtain ⟨W1, hW1⟩ : ∃ W1, W1 = w.alloc (.cells #[.int .i64 k, .string t, .slice a n c, .slice a2 n2 c2] 26) := ⟨_, rfl⟩
  have hg1 : w.grownBy W1 none := by rw [hW1]; exact World.grownBy_alloc _ _ none
  have hz1 : W1.heap.size = w.heap.size + 1 := by rw [hW1]; simp
  have hb1 : RB W1 w.heap.size (.int .i64 k) (.string t) (.slice a n c) (.slice a2 n2 c2) := by rw [hW1]; exact RB.new w
  obtain ⟨W2, hW2⟩ : ∃ W2, W2 = W1.alloc (.cells #[.string m] 9) := ⟨_, rfl⟩
  have hg2 : W1.grownBy W2 none := by rw [hW2]; exact World.grownBy_alloc _ _ none
  have hz2 : W2.heap.size = w.heap.size + 2 := by rw [hW2, World.size_alloc, hz1]
  have hb2 : Boxed W2 (w.heap.size + 1) 9 (.string m) := by rw [hW2, ← hz1]; exact Boxed.new W1 _ _
  obtain ⟨W3, hW3⟩ : ∃ W3, W3 = W2.alloc (.cells #[.int .i64 0, .string ⟨#[]⟩, .slice none 0 0, .slice none 0 0] 26) := ⟨_, rfl⟩
  have hg3 : W2.grownBy W3 none := by rw [hW3]; exact World.grownBy_alloc _ _ none
  have hz3 : W3.heap.size = w.heap.size + 3 := by rw [hW3, World.size_alloc, hz2]
  have hb3 : RB W3 W2.heap.size (.int .i64 0) (.string ⟨#[]⟩) (.slice none 0 0) (.slice none 0 0) := by rw [hW3]; exact RB.new W2
  have hgn := gb_trans hg1 (gb_trans hg2 hg3)
  have hbx := hb2.kept hg3 (by simp)
  have hbv := hb1.gb (gb_trans hg2 hg3) (by simp)
  have hlv : LV W3 (fun b => b < w.heap.size) v (.int .i64 k) (.string t) (.slice a n c) (.slice a2 n2 c2) := LV.move (fun b hb hs => ⟨hgn.block b hb (by simp), hb⟩) v hv
  have hbel : RowKit.Below w.heap.size w W3 := below_of_gb hgn
  have hn2 : n2 = v.fields.length ∧ RowF W3 (fun b => b < w.heap.size) a2 v.fields := by
    obtain ⟨kk, tt, l, f⟩ := v
    unfold LV at hlv
    obtain ⟨-, -, -, ⟨a', cap', e1, e2⟩⟩ := hlv
    simp only [Value.slice.injEq] at e1
    obtain ⟨rfl, e3, -⟩ := e1
    exact ⟨e3, e2⟩
  obtain ⟨rfl, hrf⟩ := hn2
  have hfl : v.fields.length ≤ 1099511627776 := by have := (JV.length_list v).2; omega
  have CI : Hid (Calls Tryz.prog 31 #[.slice a2 v.fields.length c2, .func (.func 32) #[] #[.pointer (some ⟨w.heap.size + 1, 0, none⟩)]] W3 fun e w' => e = .returned (.int .i64 (ixOf (fun q => q.1.toList == m.toList) v.fields)) ∧ RowKit.Below W3.heap.size W3 w') := by
    refine Lib.hid (index_any (S := fun b => b < w.heap.size) _ _ (enters_of Tryz.func32 (by kernel_rfl) rfl) v.fields hfl a2 c2 W3 ?_ _ (fun q k t a n c a3 n3 d W hq hb => get1_any m q.1 (w.heap.size + 1) k t a n c a3 n3 d W ((hb.block _ (by omega)).trans hbx)))
    rcases hrf with e | ⟨b, o, e, _, h⟩
    · exact .inl e
    · exact .inr ⟨b, o, e, h⟩
  have hW1' := hW1.symm
  have hW2' := hW2.symm
  have hW3' := hW3.symm
  have HB3 := Lib.hid hb3
  have HBEL := Lib.hid hbel
  have HZ3 := Lib.hid hz3
  have HBV := Lib.hid hbv
  have HRF := Lib.hid hrf
  have v3 := hbv.c3
  have hz1' : W1.heap.size = w.heap.size + 1 := hz1
  have hz2' : W2.heap.size = w.heap.size + 2 := hz2
  have HZ1 := Lib.hid hz1
  have HZ2 := Lib.hid hz2
  rw [← hz1] at CI
  clear hW1 hW2 hW3 hb1 hb2 hb3 hg1 hg2 hg3 hgn hbx hbv hlv hbel hv hz1 hz2 hz3 hz1' hz2' hrf
  obtain ⟨PP, hPP⟩ : ∃ PP, (match getG v m with | some u => GetPost w u true | none => GetPost w jZero false) = PP := ⟨_, rfl⟩
  have HPP := Lib.hid hPP
  rw [hPP]
  clear hPP
  unfold getG at HPP
  generalize hnf : v.fields.length = nf at *
  have HNF := Lib.hid hnf
  clear hnf
  rcases ix_find (fun q => q.1.toList == m.toList) v.fields with ⟨h1, h2⟩ | ⟨i, q, h1, h2, h3⟩
  · rw [h2] at CI
    rw [h1] at HPP
    have hpp : PP = GetPost w jZero false := HPP.out.symm
    subst hpp
    go_enter Tryz.func13, Tryz.ntmps13
    go_wp2_with (go_at_call 31; (with_reducible refine CI.out.mono ?_); rintro e w1 ⟨rfl, hb⟩; have HB := Lib.hid hb; have HR := Lib.hid (HB3.out.below hb); have f0 := RB.fr HR.out 0; have f1 := RB.fr HR.out 1; have f2 := RB.fr HR.out 2; have f3 := RB.fr HR.out 3; have z0 := RB.c0 HR.out; have z1 := RB.c1 HR.out; have z2 := RB.c2 HR.out; have z3 := RB.c3 HR.out; clear hb)
    show bodyPost _ _ (GetPost w jZero false) _ _ _
    have hg := gb_set4 w1 W2.heap.size (.int .i64 0) (.string ⟨#[]⟩) (.slice none 0 0) (.slice none 0 0)
    have hbw : RowKit.Below w.heap.size w w1 := HBEL.out.trans (HB.out.mono HBEL.out.size)
    have h2 := HZ2.out
    exact get_end (HR.out.set4 _ _ _ _) rfl rfl rfl (LV.zero _ _) (hbw.grown hg hbw.size (fun k e => by have := Option.some.inj e; omega))
  · rw [h3] at CI
    rw [h2] at HPP
    have hpp : PP = GetPost w q.2 true := HPP.out.symm
    subst hpp
    have hif : i < nf := by have := (List.getElem?_eq_some_iff.1 h1).1; have := HNF.out; omega
    rcases HRF.out with e | ⟨b, o, hab, hsc, hlf⟩
    · rw [e] at h1; simp at h1
    subst hab
    have hat := (hlf.at _ i q h1).2
    rw [Nat.mul_comm 5 i] at hat
    have hqs : q.2.size ≤ 549755813888 := by have := JV.size_field (List.mem_of_getElem? h1); omega
    have CC : Hid (∀ w1, RowKit.Below W3.heap.size W3 w1 → Calls Tryz.prog 33 #[.pointer (some ⟨b, o + i * 5 + 1, none⟩)] w1 (CopyPost w1 (fun b => b < w.heap.size) q.2)) := by
      refine Lib.hid fun w1 hb => copy_any q.2 hqs w1 (fun b => b < w.heap.size) (fun b hb' => ?_) b (o + i * 5 + 1) (hat.kept (gb_below hb none) (by simp) (by simp)) (hsc.2.kept (gb_below hb none) (by simp))
      have h1 := hb.size
      have h2 := HBEL.out.size
      have h3 : b < w.heap.size := hb'
      omega
    have hii : ((i : Int)).toNat = i := by simp
    have hi0 : ¬ (i : Int) < 0 := by omega
    have V3 := Lib.hid v3
    clear hat hsc hlf hqs h1 h2 h3
    go_enter Tryz.func13, Tryz.ntmps13
    go_wp2_with (go_at_call 31; (with_reducible refine CI.out.mono ?_); rintro e w1 ⟨rfl, hb⟩; have HB := Lib.hid hb; have v3' := (hb.cell (p := ⟨w.heap.size, 3, none⟩) (World.block_lt_of_cell? W3 _ v3)).trans v3; clear hb; refine Hid.out ?_)
    refine Lib.hid ?_
    have CX := Lib.hid (CC.out w1 HB.out)
    go_wp2_with (go_at_call 33; (with_reducible refine CX.out.mono ?_); rintro e w4 h4; obtain ⟨k4, t4, a4, n4, c4, a5, n5, c5, rfl, hl4, hb4⟩ := h4; have HL4 := Lib.hid hl4; have HB4 := Lib.hid hb4; have HR4 := Lib.hid ((HB3.out.below HB.out).below hb4); have f0 := RB.fr HR4.out 0; have f1 := RB.fr HR4.out 1; have f2 := RB.fr HR4.out 2; have f3 := RB.fr HR4.out 3; have z0 := RB.c0 HR4.out; have z1 := RB.c1 HR4.out; have z2 := RB.c2 HR4.out; have z3 := RB.c3 HR4.out; clear hl4 hb4)
    show bodyPost _ _ (GetPost w q.2 true) _ _ _
    have hg := gb_set4 w4 W2.heap.size (.int .i64 k4) (.string t4) (.slice a4 n4 c4) (.slice a5 n5 c5)
    have hbw : RowKit.Below w.heap.size w w1 := HBEL.out.trans (HB.out.mono HBEL.out.size)
    have hbw4 : RowKit.Below w.heap.size w w4 := hbw.trans (HB4.out.mono hbw.size)
    have hz2 := HZ2.out
    have hz3 := HZ3.out
    have hsz1 := HB.out.size
    refine get_end (HR4.out.set4 _ _ _ _) rfl rfl rfl (LV.move (fun b hb hs => ⟨hg.block b hb (fun e => ?_), Nat.lt_of_lt_of_le hb hg.size⟩) q.2 HL4.out) (hbw4.grown hg hbw4.size (fun k e => by have := Option.some.inj e; omega))
    have he := Option.some.inj e
    rcases hs with ⟨h, _⟩ | ⟨h, _⟩
    · have h' : b < w.heap.size := h
      omega
    · omega
end Go.Proofs.YtaniebkfgkhgoaaGreatDoor

namespace Go.Proofs.YtaniebkfgkhgoaaGreatDoor
open Go.RowKit
set_option linter.unusedVariables false
set_option maxRecDepth 100000

def aT1 : List UInt8 := [32, 123, 32, 34, 98, 34, 32, 58, 32, 45, 49, 46, 53, 101, 43, 51, 32, 44, 32, 34, 97, 34, 32, 58, 32, 91, 32, 110, 117, 108, 108, 32, 44, 32, 116, 114, 117, 101, 44, 32, 34, 120, 34, 32, 93, 32, 125]
def aT2 : List UInt8 := [123, 34, 97, 34, 58, 49, 44, 34, 97, 34, 58, 50, 125]
def aT3 : List UInt8 := [91, 48, 49, 93]
def aP1 : List UInt8 := [123, 34, 97, 34, 58, 91, 110, 117, 108, 108, 44, 116, 114, 117, 101, 44, 34, 120, 34, 93, 44, 34, 98, 34, 58, 45, 49, 46, 53, 101, 43, 51, 125]
def aL : JV := ⟨6, ⟨#[]⟩, [⟨1, ⟨#[]⟩, [], []⟩, ⟨3, ⟨#[]⟩, [], []⟩, ⟨5, ⟨#[120]⟩, [], []⟩], []⟩
def aV1 : JV := ⟨7, ⟨#[]⟩, [], [(⟨#[98]⟩, ⟨4, ⟨#[45, 49, 46, 53, 101, 43, 51]⟩, [], []⟩), (⟨#[97]⟩, aL)]⟩
def aV2 : JV := ⟨7, ⟨#[]⟩, [], [(⟨#[97]⟩, ⟨4, ⟨#[49]⟩, [], []⟩), (⟨#[97]⟩, ⟨4, ⟨#[50]⟩, [], []⟩)]⟩
theorem aW1 : wholeG aT1 = some aV1 := by kernel_rfl
theorem aW2 : wholeG aT2 = some aV2 := by kernel_rfl
theorem aW3 : wholeG aT3 = none := by kernel_rfl
theorem aPr : valG 32 aV1 ([], false) = (aP1, false) := by kernel_rfl

/-! ### A property of all that stands in a value, to be reckoned -/
mutual
def JV.allB (p : JV → Bool) : JV → Bool
  | ⟨k, t, l, f⟩ => p ⟨k, t, l, f⟩ && (JV.allL p l && JV.allF p f)
def JV.allL (p : JV → Bool) : List JV → Bool
  | [] => true
  | v :: r => v.allB p && JV.allL p r
def JV.allF (p : JV → Bool) : List (ByteArray × JV) → Bool
  | [] => true
  | (_, v) :: r => v.allB p && JV.allF p r
end
theorem allL_mem {p : JV → Bool} : ∀ {l : List JV}, JV.allL p l = true → ∀ u ∈ l, u.allB p = true
  | x :: r, h, u, hu => by
    simp only [JV.allL, Bool.and_eq_true] at h
    rcases List.mem_cons.1 hu with rfl | hu
    · exact h.1
    · exact allL_mem h.2 u hu
theorem allF_mem {p : JV → Bool} : ∀ {f : List (ByteArray × JV)}, JV.allF p f = true → ∀ q ∈ f, q.2.allB p = true
  | (n, x) :: r, h, q, hq => by
    simp only [JV.allF, Bool.and_eq_true] at h
    rcases List.mem_cons.1 hq with rfl | hq
    · exact h.1
    · exact allF_mem h.2 q hq
theorem allB_in {p : JV → Bool} (v : JV) : v.allB p = true → ∀ u, JV.In v u → p u = true := by
  induction v using JV.ind with
  | h v h1 h2 =>
    intro h u hu
    obtain ⟨k, t, l, f⟩ := v
    simp only [JV.allB, Bool.and_eq_true] at h
    rcases JV.in_cases hu with rfl | ⟨x, hx, hi⟩ | ⟨q, hq, hi⟩
    · exact h.1
    · exact h1 x hx (allL_mem h.2.1 x hx) u hi
    · exact h2 q hq (allF_mem h.2.2 q hq) u hi
def bearB (u : JV) : Bool := decide (u.fields.length ≤ 1048576) && (decide (u.text.size ≤ 1048576) && u.fields.all fun q => decide (q.1.size ≤ 1048576))
theorem bear_of {v : JV} (hs : v.size ≤ 549755813888) (h : v.allB bearB = true) : Bear v := ⟨hs, fun u hu => by
  have := allB_in v h u hu
  simp only [bearB, Bool.and_eq_true, decide_eq_true_eq, List.all_eq_true] at this
  exact ⟨this.1, this.2.1, this.2.2⟩⟩
theorem aB1 : Bear aV1 := bear_of (by decide) (by decide)
theorem aB2 : Bear aV2 := bear_of (by decide) (by decide)
theorem aS1 : ∀ u, JV.In aV1 u → soundB u = true := allB_in aV1 (by kernel_rfl)
theorem aC1 : checkG aV1 = 0 := by unfold checkG; rw [if_pos ⟨aS1, by decide⟩]
theorem aN1 : ¬ Tw aV1 := fun ⟨u, hu, h⟩ => by
  have := allB_in (p := fun u => !twN u) aV1 (by decide) u hu
  rw [h] at this
  cases this
theorem aN2 : Tw aV2 := ⟨aV2, .root, by decide⟩
theorem aG1 : parseG aT1 = (aV1, 0) := by
  unfold parseG
  rw [if_neg (by decide), aW1]
  simp only [if_neg (show ¬ 32 < aV1.depth by decide), if_neg aN1]
theorem aG2 : parseG aT2 = (jZero, 8) := by
  unfold parseG
  rw [if_neg (by decide), aW2]
  simp only [if_neg (show ¬ 32 < aV2.depth by decide), if_pos aN2]
theorem aG3 : parseG aT3 = (jZero, 2) := by
  unfold parseG
  rw [if_neg (by decide), aW3]
theorem aPG : printG aV1 = (aP1, 0) := by
  unfold printG
  rw [if_pos aC1, aPr]
  simp
theorem aGe : getG aV1 ⟨#[97]⟩ = some aL := by kernel_rfl
end Go.Proofs.YtaniebkfgkhgoaaGreatDoor

namespace Go.Proofs.YtaniebkfgkhgoaaGreatDoor
open Go.RowKit
set_option linter.unusedVariables false
set_option maxRecDepth 100000

theorem aF1 : ∀ v, wholeG aT1 = some v → v.size ≤ 549755813888 ∧ ∀ u, JV.In v u → u.fields.length ≤ 1048576 := fun v h => by
  rw [aW1] at h; cases h
  exact ⟨aB1.1, fun u hu => (aB1.2 u hu).1⟩
theorem aF2 : ∀ v, wholeG aT2 = some v → v.size ≤ 549755813888 ∧ ∀ u, JV.In v u → u.fields.length ≤ 1048576 := fun v h => by
  rw [aW2] at h; cases h
  exact ⟨aB2.1, fun u hu => (aB2.2 u hu).1⟩
theorem aF3 : ∀ v, wholeG aT3 = some v → v.size ≤ 549755813888 ∧ ∀ u, JV.In v u → u.fields.length ≤ 1048576 := fun v h => by
  rw [aW3] at h; cases h
theorem aPa1 (w : World) (hT : Tab5 w) : Calls Tryz.prog 7 #[.string ⟨#[32, 123, 32, 34, 98, 34, 32, 58, 32, 45, 49, 46, 53, 101, 43, 51, 32, 44, 32, 34, 97, 34, 32, 58, 32, 91, 32, 110, 117, 108, 108, 32, 44, 32, 116, 114, 117, 101, 44, 32, 34, 120, 34, 32, 93, 32, 125]⟩] w (ParsePost w aV1 0) := by
  have h := parse_any aT1 (by decide) w hT aF1
  rw [aG1] at h
  exact h
theorem aPa2 (w : World) (hT : Tab5 w) : Calls Tryz.prog 7 #[.string ⟨#[123, 34, 97, 34, 58, 49, 44, 34, 97, 34, 58, 50, 125]⟩] w (ParsePost w jZero 8) := by
  have h := parse_any aT2 (by decide) w hT aF2
  rw [aG2] at h
  exact h
theorem aPa3 (w : World) (hT : Tab5 w) : Calls Tryz.prog 7 #[.string ⟨#[91, 48, 49, 93]⟩] w (ParsePost w jZero 2) := by
  have h := parse_any aT3 (by decide) w hT aF3
  rw [aG3] at h
  exact h
theorem aPri {S : Nat → Prop} (k : Int) (t : ByteArray) (a : Option Addr) (n c : Nat) (a2 : Option Addr) (n2 c2 : Nat) (w : World) (hT : Tab5 w) (hv : LV w S aV1 (.int .i64 k) (.string t) (.slice a n c) (.slice a2 n2 c2)) :
    Calls Tryz.prog 11 #[.agg #[.int .i64 k, .string t, .slice a n c, .slice a2 n2 c2]] w fun e W' => e = .returned (.tuple #[.string ⟨#[123, 34, 97, 34, 58, 91, 110, 117, 108, 108, 44, 116, 114, 117, 101, 44, 34, 120, 34, 93, 44, 34, 98, 34, 58, 45, 49, 46, 53, 101, 43, 51, 125]⟩, .int .i64 0]) ∧ RowKit.Below w.heap.size w W' := by
  have h := print_any aV1 aB1 k t a n c a2 n2 c2 w hT hv
  rw [aPG] at h
  exact h
theorem aGet {S : Nat → Prop} (k : Int) (t : ByteArray) (a : Option Addr) (n c : Nat) (a2 : Option Addr) (n2 c2 : Nat) (w : World) (hv : LV w S aV1 (.int .i64 k) (.string t) (.slice a n c) (.slice a2 n2 c2)) :
    Calls Tryz.prog 13 #[.agg #[.int .i64 k, .string t, .slice a n c, .slice a2 n2 c2], .string ⟨#[97]⟩] w (GetPost w aL true) := by
  have h := get_any aV1 aB1.1 ⟨#[97]⟩ k t a n c a2 n2 c2 w hv
  rw [aGe] at h
  exact h
theorem aDep {S : Nat → Prop} (k : Int) (t : ByteArray) (a : Option Addr) (n c : Nat) (a2 : Option Addr) (n2 c2 : Nat) (w : World) (hv : LV w S aV1 (.int .i64 k) (.string t) (.slice a n c) (.slice a2 n2 c2)) :
    Calls Tryz.prog 19 #[.agg #[.int .i64 k, .string t, .slice a n c, .slice a2 n2 c2]] w fun e W' => e = .returned (.int .i64 3) ∧ RowKit.Below w.heap.size w W' :=
  depth_any aV1 aB1.1 k t a n c a2 n2 c2 w hv

set_option maxHeartbeats 4000000 in
theorem awake5_any (w : World) (hT : Tab5 w) : Calls Tryz.prog 6 #[] w fun e w' => e = .returned (.bool true) ∧ RowKit.Below w.heap.size w w' := by
  have HT := Lib.hid hT
  have C1 := Lib.hid (aPa1 w hT)
  clear hT
  go_enter Tryz.func6, Tryz.ntmps6
  go_wp2_with (go_at_call 7; (with_reducible refine C1.out.mono ?_); rintro e w1 h1; obtain ⟨k, t, a, n, c, a2, n2, c2, rfl, hl1, hb1⟩ := h1; have HL1 := Lib.hid hl1; have HB1 := Lib.hid hb1; clear hl1 hb1; refine Hid.out ?_)
  refine Lib.hid ?_
  obtain ⟨W1, hW1⟩ : ∃ W1, w1.alloc (.cells #[.int .i64 k, .string t, .slice a n c, .slice a2 n2 c2] 26) = W1 := ⟨_, rfl⟩
  have hg1 : w1.grownBy W1 none := by rw [← hW1]; exact World.grownBy_alloc _ _ none
  have hr1 : RB W1 w1.heap.size (.int .i64 k) (.string t) (.slice a n c) (.slice a2 n2 c2) := by rw [← hW1]; exact RB.new w1
  have hlv1 : LV W1 (fun _ => True) aV1 (.int .i64 k) (.string t) (.slice a n c) (.slice a2 n2 c2) := LV.move (fun b hb hs => ⟨hg1.block b hb (by simp), trivial⟩) _ HL1.out
  have hb1 : RowKit.Below w.heap.size w W1 := HB1.out.grown hg1 HB1.out.size (by simp)
  have C2 := Lib.hid (aPri k t a n c a2 n2 c2 W1 (HT.out.below hb1) hlv1)
  have v0 := hr1.c0
  have v1 := hr1.c1
  have v2 := hr1.c2
  have v3 := hr1.c3
  have HR1 := Lib.hid hr1
  have HLV1 := Lib.hid hlv1
  have HBW1 := Lib.hid hb1
  clear hg1 hr1 hlv1 hb1
  go_wp2_with (go_at_call 11; (with_reducible refine C2.out.mono ?_); rintro e w2 ⟨rfl, hb2⟩; have HB2 := Lib.hid hb2; clear hb2; refine Hid.out ?_)
  refine Lib.hid ?_
  have hbw2 : RowKit.Below w.heap.size w w2 := HBW1.out.trans (HB2.out.mono HBW1.out.size)
  have HBW2 := Lib.hid hbw2
  have C3 := Lib.hid (aPa2 w2 (HT.out.below hbw2))
  clear v0 v1 v2 v3 hbw2 hW1
  go_wp2_with (go_at_call 7; (with_reducible refine C3.out.mono ?_); rintro e w3 h3; obtain ⟨k3, t3, a3, n3, c3, b3, m3, d3, rfl, hl3, hb3⟩ := h3; have HB3 := Lib.hid hb3; clear hl3 hb3; refine Hid.out ?_)
  refine Lib.hid ?_
  obtain ⟨W3, hW3⟩ : ∃ W3, w3.alloc (.cells #[.int .i64 k3, .string t3, .slice a3 n3 c3, .slice b3 m3 d3] 26) = W3 := ⟨_, rfl⟩
  have hg3 : w3.grownBy W3 none := by rw [← hW3]; exact World.grownBy_alloc _ _ none
  have hbw3 : RowKit.Below w2.heap.size w2 W3 := HB3.out.grown hg3 HB3.out.size (by simp)
  have HBW3 := Lib.hid (HBW2.out.trans (hbw3.mono HBW2.out.size))
  have HB23 := Lib.hid hbw3
  have C4 := Lib.hid (aPa3 W3 (HT.out.below HBW3.out))
  clear hg3 hbw3
  go_wp2_with (go_at_call 7; (with_reducible refine C4.out.mono ?_); rintro e w4 h4; obtain ⟨k4, t4, a4, n4, c4, b4, m4, d4, rfl, hl4, hb4⟩ := h4; have HB4 := Lib.hid hb4; clear hl4 hb4; refine Hid.out ?_)
  refine Lib.hid ?_
  clear hW3
  obtain ⟨W4, hW4⟩ : ∃ W4, w4.alloc (.cells #[.int .i64 k4, .string t4, .slice a4 n4 c4, .slice b4 m4 d4] 26) = W4 := ⟨_, rfl⟩
  have hg4 : w4.grownBy W4 none := by rw [← hW4]; exact World.grownBy_alloc _ _ none
  have hbw4 : RowKit.Below W3.heap.size W3 W4 := HB4.out.grown hg4 HB4.out.size (by simp)
  have HBW4 := Lib.hid (HBW3.out.trans (hbw4.mono HBW3.out.size))
  have h14 : RowKit.Below W1.heap.size W1 W4 := (HB2.out.trans (HB23.out.mono HB2.out.size)).trans (hbw4.mono (Nat.le_trans HB2.out.size HB23.out.size))
  have hr4 := HR1.out.below h14
  have hlv4 : LV W4 (fun _ => True) aV1 (.int .i64 k) (.string t) (.slice a n c) (.slice a2 n2 c2) := LV.move (fun b hb hs => ⟨h14.block b hb, trivial⟩) _ HLV1.out
  have C5 := Lib.hid (aGet k t a n c a2 n2 c2 W4 hlv4)
  have v0 := hr4.c0
  have v1 := hr4.c1
  have v2 := hr4.c2
  have v3 := hr4.c3
  have HR4 := Lib.hid hr4
  have HLV4 := Lib.hid hlv4
  clear hg4 hbw4 h14 hr4 hlv4
  go_wp2_with (go_at_call 13; (with_reducible refine C5.out.mono ?_); rintro e w5 h5; obtain ⟨k5, t5, a5, n5, c5, b5, m5, d5, rfl, hl5, hb5⟩ := h5; have HL5 := Lib.hid hl5; have HB5 := Lib.hid hb5; clear hl5 hb5; refine Hid.out ?_)
  refine Lib.hid ?_
  clear hW4 v0 v1 v2 v3
  have hn5 : n5 = 3 := by
    have h := HL5.out
    unfold aL LV at h
    obtain ⟨-, -, ⟨x, y, h, -⟩, -⟩ := h
    simp only [Value.slice.injEq] at h
    exact h.2.1
  subst hn5
  obtain ⟨W5, hW5⟩ : ∃ W5, w5.alloc (.cells #[.int .i64 k5, .string t5, .slice a5 3 c5, .slice b5 m5 d5] 26) = W5 := ⟨_, rfl⟩
  have hg5 : w5.grownBy W5 none := by rw [← hW5]; exact World.grownBy_alloc _ _ none
  have hbw5 : RowKit.Below W4.heap.size W4 W5 := HB5.out.grown hg5 HB5.out.size (by simp)
  have HBW5 := Lib.hid (HBW4.out.trans (hbw5.mono HBW4.out.size))
  have hr5 := HR4.out.below hbw5
  have hx5 : RB W5 w5.heap.size (.int .i64 k5) (.string t5) (.slice a5 3 c5) (.slice b5 m5 d5) := by rw [← hW5]; exact RB.new w5
  have hlv5 : LV W5 (fun _ => True) aV1 (.int .i64 k) (.string t) (.slice a n c) (.slice a2 n2 c2) := LV.move (fun b hb hs => ⟨hbw5.block b hb, trivial⟩) _ HLV4.out
  have C6 := Lib.hid (aDep k t a n c a2 n2 c2 W5 hlv5)
  have v0 := hr5.c0
  have v1 := hr5.c1
  have v2 := hr5.c2
  have v3 := hr5.c3
  have x2 := hx5.c2
  clear hg5 hbw5 hr5 hx5 hlv5
  go_wp2_with (go_at_call 19; (with_reducible refine C6.out.mono ?_); rintro e w6 ⟨rfl, hb6⟩; have HB6 := Lib.hid (HBW5.out.trans (hb6.mono HBW5.out.size)); clear hb6)
  go_ret
  exact ⟨rfl, HB6.out⟩
end Go.Proofs.YtaniebkfgkhgoaaGreatDoor
