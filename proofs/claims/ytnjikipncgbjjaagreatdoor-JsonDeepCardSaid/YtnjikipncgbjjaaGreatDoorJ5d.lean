/- Get. Get: its contract. awake's closed texts. awake of layer 5. JsonDeep's walk. -/
import Derived.Test.YtnjikipncgbjjaaGreatDoorJ5a
import Derived.Test.YtnjikipncgbjjaaGreatDoorJ5b
import Derived.Test.YtnjikipncgbjjaaGreatDoorJ5c
namespace Go.Proofs.YtnjikipncgbjjaaGreatDoor
open Go.RowKit
set_option linter.unusedVariables false
set_option maxRecDepth 100000

theorem get1_any (m s : ByteArray) (nb : Nat) (k : Int) (t : ByteArray) (a : Option Addr) (n c : Nat) (a2 : Option Addr) (n2 d : Nat) (W : World) (hb : Boxed W nb 9 (.string m)) :
    Calls Tryz.prog 33 #[.agg #[.string s, .int .i64 k, .string t, .slice a n c, .slice a2 n2 d], .pointer (some ⟨nb, 0, none⟩)] W fun e W' => e = .returned (.bool (s.toList == m.toList)) ∧ RowKit.Below W.heap.size W W' := by
  have hc := (hb.alloc (.cells #[.string s, .int .i64 k, .string t, .slice a n c, .slice a2 n2 d] 52)).cell
  have HA : Hid (RowKit.Below W.heap.size W (W.alloc (.cells #[.string s, .int .i64 k, .string t, .slice a n c, .slice a2 n2 d] 52))) := Lib.hid ((Below.refl _ _).alloc (Nat.le_refl _) _)
  clear hb
  go_enter Tryz.func33, Tryz.ntmps33
  go_wp2_with fail
  go_ret
  exact ⟨rfl, HA.out⟩

/-- The field of a name. -/
def getG (v : JV) (m : ByteArray) : Option JV := (v.fields.find? fun q => q.1.toList == m.toList).map (·.2)
def GetPost (w : World) (v : JV) (ok : Bool) (e : Ending) (w' : World) : Prop :=
  ∃ (k : Int) (t : ByteArray) (a : Option Addr) (n c : Nat) (a2 : Option Addr) (n2 c2 : Nat), e = .returned (.tuple #[.agg #[.int .i64 k, .string t, .slice a n c, .slice a2 n2 c2], .bool ok]) ∧
    LV w' (fun b => b < w'.heap.size) v (.int .i64 k) (.string t) (.slice a n c) (.slice a2 n2 c2) ∧ RowKit.Below w.heap.size w w'
theorem get_end {w w1 : World} {a : Act} {v : JV} {ok : Bool} {k : Int} {t : ByteArray} {aa : Option Addr} {n c : Nat} {a2 : Option Addr} {n2 c2 : Nat} {rb : Nat} (hz : RB w1 rb (.int .i64 k) (.string t) (.slice aa n c) (.slice a2 n2 c2))
    (hp : a.tmps.getD 4 undef = .pointer (some ⟨rb, 0, none⟩)) (hu : a.tmps.getD 5 undef = .bool ok) (hd : a.defers = [])
    (hv : LV w1 (fun b => b < w1.heap.size) v (.int .i64 k) (.string t) (.slice aa n c) (.slice a2 n2 c2)) (hb : RowKit.Below w.heap.size w w1) :
    bodyPost Tryz.prog Tryz.f14 (GetPost w v ok) .ret a w1 := by
  have hR : GetPost w v ok (.returned (.tuple #[.agg #[.int .i64 k, .string t, .slice aa n c, .slice a2 n2 c2], .bool ok])) w1 := by
    unfold GetPost
    refine ⟨k, t, aa, n, c, a2, n2, c2, rfl, ?_, ?_⟩
    · exact hv
    · exact hb
  exact ret_val (p := 4) (u := 5) rfl hp hu hd hz hR
theorem ix_find (p : ByteArray × JV → Bool) (f : List (ByteArray × JV)) : (f.find? p = none ∧ ixOf p f = -1) ∨ ∃ (i : Nat) (q : ByteArray × JV), f[i]? = some q ∧ f.find? p = some q ∧ ixOf p f = (i : Int) := by
  unfold ixOf
  cases h : f.findIdx? p with
  | none =>
    left
    rw [List.findIdx?_eq_none_iff] at h
    exact ⟨List.find?_eq_none.2 (fun x hx => by rw [h x hx]; decide), rfl⟩
  | some i =>
    right
    have h' := h
    rw [List.findIdx?_eq_some_iff_getElem] at h
    obtain ⟨h1, h2, h3⟩ := h
    refine ⟨i, f[i], List.getElem?_eq_getElem h1, ?_, rfl⟩
    rw [List.find?_eq_some_iff_getElem]
    exact ⟨h2, i, h1, rfl, fun j hj => by have := h3 j hj; simpa using this⟩
end Go.Proofs.YtnjikipncgbjjaaGreatDoor

namespace Go.Proofs.YtnjikipncgbjjaaGreatDoor
open Go.RowKit
set_option linter.unusedVariables false
set_option maxRecDepth 100000

set_option maxHeartbeats 2000000 in
theorem get_any {S : Nat → Prop} (v : JV) (hsz : v.size ≤ 549755813888) (m : ByteArray) (k : Int) (t : ByteArray) (a : Option Addr) (n c : Nat) (a2 : Option Addr) (n2 c2 : Nat) (w : World) (hv : LV w S v (.int .i64 k) (.string t) (.slice a n c) (.slice a2 n2 c2)) :
    Calls Tryz.prog 14 #[.agg #[.int .i64 k, .string t, .slice a n c, .slice a2 n2 c2], .string m] w (match getG v m with | some u => GetPost w u true | none => GetPost w jZero false) := by
  obtain ⟨W1, hW1⟩ : ∃ W1, W1 = w.alloc (.cells #[.int .i64 k, .string t, .slice a n c, .slice a2 n2 c2] 26) := ⟨_, rfl⟩
  have hg1 : w.grownBy W1 none := by rw [hW1]; exact World.grownBy_alloc _ _ none
  have hz1 : W1.heap.size = w.heap.size + 1 := by rw [hW1]; simp
  have hb1 : RB W1 w.heap.size (.int .i64 k) (.string t) (.slice a n c) (.slice a2 n2 c2) := by rw [hW1]; exact RB.new w
  obtain ⟨W2, hW2⟩ : ∃ W2, W2 = W1.alloc (.cells #[.string m] 9) := ⟨_, rfl⟩
  have hg2 : W1.grownBy W2 none := by rw [hW2]; exact World.grownBy_alloc _ _ none
  have hz2 : W2.heap.size = w.heap.size + 2 := by rw [hW2, World.size_alloc, hz1]
  have hb2 : Boxed W2 (w.heap.size + 1) 9 (.string m) := by rw [hW2, ← hz1]; exact Boxed.new W1 _ _
  obtain ⟨W3, hW3⟩ : ∃ W3, W3 = W2.alloc (.cells #[.int .i64 0, .string ⟨#[]⟩, .slice none 0 0, .slice none 0 0] 26) := ⟨_, rfl⟩
  have hg3 : W2.grownBy W3 none := by rw [hW3]; exact World.grownBy_alloc _ _ none
  have hz3 : W3.heap.size = w.heap.size + 3 := by rw [hW3, World.size_alloc, hz2]
  have hb3 : RB W3 W2.heap.size (.int .i64 0) (.string ⟨#[]⟩) (.slice none 0 0) (.slice none 0 0) := by rw [hW3]; exact RB.new W2
  have hgn := gb_trans hg1 (gb_trans hg2 hg3)
  have hbx := hb2.kept hg3 (by simp)
  have hbv := hb1.gb (gb_trans hg2 hg3) (by simp)
  have hlv : LV W3 (fun b => b < w.heap.size) v (.int .i64 k) (.string t) (.slice a n c) (.slice a2 n2 c2) := LV.move (fun b hb hs => ⟨hgn.block b hb (by simp), hb⟩) v hv
  have hbel : RowKit.Below w.heap.size w W3 := below_of_gb hgn
  have hn2 : n2 = v.fields.length ∧ RowF W3 (fun b => b < w.heap.size) a2 v.fields := by
    obtain ⟨kk, tt, l, f⟩ := v
    unfold LV at hlv
    obtain ⟨-, -, -, ⟨a', cap', e1, e2⟩⟩ := hlv
    simp only [Value.slice.injEq] at e1
    obtain ⟨rfl, e3, -⟩ := e1
    exact ⟨e3, e2⟩
  obtain ⟨rfl, hrf⟩ := hn2
  have hfl : v.fields.length ≤ 1099511627776 := by have := (JV.length_list v).2; omega
  have CI : Hid (Calls Tryz.prog 32 #[.slice a2 v.fields.length c2, .func (.func 33) #[] #[.pointer (some ⟨w.heap.size + 1, 0, none⟩)]] W3 fun e w' => e = .returned (.int .i64 (ixOf (fun q => q.1.toList == m.toList) v.fields)) ∧ RowKit.Below W3.heap.size W3 w') := by
    refine Lib.hid (index_any (S := fun b => b < w.heap.size) _ _ (enters_of Tryz.func33 (by kernel_rfl) rfl) v.fields hfl a2 c2 W3 ?_ _ (fun q k t a n c a3 n3 d W hq hb => get1_any m q.1 (w.heap.size + 1) k t a n c a3 n3 d W ((hb.block _ (by omega)).trans hbx)))
    rcases hrf with e | ⟨b, o, e, _, h⟩
    · exact .inl e
    · exact .inr ⟨b, o, e, h⟩
  have hW1' := hW1.symm
  have hW2' := hW2.symm
  have hW3' := hW3.symm
  have HB3 := Lib.hid hb3
  have HBEL := Lib.hid hbel
  have HZ3 := Lib.hid hz3
  have HBV := Lib.hid hbv
  have HRF := Lib.hid hrf
  have v3 := hbv.c3
  have hz1' : W1.heap.size = w.heap.size + 1 := hz1
  have hz2' : W2.heap.size = w.heap.size + 2 := hz2
  have HZ1 := Lib.hid hz1
  have HZ2 := Lib.hid hz2
  rw [← hz1] at CI
  clear hW1 hW2 hW3 hb1 hb2 hb3 hg1 hg2 hg3 hgn hbx hbv hlv hbel hv hz1 hz2 hz3 hz1' hz2' hrf
  obtain ⟨PP, hPP⟩ : ∃ PP, (match getG v m with | some u => GetPost w u true | none => GetPost w jZero false) = PP := ⟨_, rfl⟩
  have HPP := Lib.hid hPP
  rw [hPP]
  clear hPP
  unfold getG at HPP
  generalize hnf : v.fields.length = nf at *
  have HNF := Lib.hid hnf
  clear hnf
  rcases ix_find (fun q => q.1.toList == m.toList) v.fields with ⟨h1, h2⟩ | ⟨i, q, h1, h2, h3⟩
  · rw [h2] at CI
    rw [h1] at HPP
    have hpp : PP = GetPost w jZero false := HPP.out.symm
    subst hpp
    go_enter Tryz.func14, Tryz.ntmps14
    go_wp2_with (go_at_call 32; (with_reducible refine CI.out.mono ?_); rintro e w1 ⟨rfl, hb⟩; have HB := Lib.hid hb; have HR := Lib.hid (HB3.out.below hb); have f0 := RB.fr HR.out 0; have f1 := RB.fr HR.out 1; have f2 := RB.fr HR.out 2; have f3 := RB.fr HR.out 3; have z0 := RB.c0 HR.out; have z1 := RB.c1 HR.out; have z2 := RB.c2 HR.out; have z3 := RB.c3 HR.out; clear hb)
    show bodyPost _ _ (GetPost w jZero false) _ _ _
    have hg := gb_set4 w1 W2.heap.size (.int .i64 0) (.string ⟨#[]⟩) (.slice none 0 0) (.slice none 0 0)
    have hbw : RowKit.Below w.heap.size w w1 := HBEL.out.trans (HB.out.mono HBEL.out.size)
    have h2 := HZ2.out
    exact get_end (HR.out.set4 _ _ _ _) rfl rfl rfl (LV.zero _ _) (hbw.grown hg hbw.size (fun k e => by have := Option.some.inj e; omega))
  · rw [h3] at CI
    rw [h2] at HPP
    have hpp : PP = GetPost w q.2 true := HPP.out.symm
    subst hpp
    have hif : i < nf := by have := (List.getElem?_eq_some_iff.1 h1).1; have := HNF.out; omega
    rcases HRF.out with e | ⟨b, o, hab, hsc, hlf⟩
    · rw [e] at h1; simp at h1
    subst hab
    have hat := (hlf.at _ i q h1).2
    rw [Nat.mul_comm 5 i] at hat
    have hqs : q.2.size ≤ 549755813888 := by have := JV.size_field (List.mem_of_getElem? h1); omega
    have CC : Hid (∀ w1, RowKit.Below W3.heap.size W3 w1 → Calls Tryz.prog 34 #[.pointer (some ⟨b, o + i * 5 + 1, none⟩)] w1 (CopyPost w1 (fun b => b < w.heap.size) q.2)) := by
      refine Lib.hid fun w1 hb => copy_any q.2 hqs w1 (fun b => b < w.heap.size) (fun b hb' => ?_) b (o + i * 5 + 1) (hat.kept (gb_below hb none) (by simp) (by simp)) (hsc.2.kept (gb_below hb none) (by simp))
      have h1 := hb.size
      have h2 := HBEL.out.size
      have h3 : b < w.heap.size := hb'
      omega
    have hii : ((i : Int)).toNat = i := by simp
    have hi0 : ¬ (i : Int) < 0 := by omega
    have V3 := Lib.hid v3
    clear hat hsc hlf hqs h1 h2 h3
    go_enter Tryz.func14, Tryz.ntmps14
    go_wp2_with (go_at_call 32; (with_reducible refine CI.out.mono ?_); rintro e w1 ⟨rfl, hb⟩; have HB := Lib.hid hb; have v3' := (hb.cell (p := ⟨w.heap.size, 3, none⟩) (World.block_lt_of_cell? W3 _ v3)).trans v3; clear hb; refine Hid.out ?_)
    refine Lib.hid ?_
    have CX := Lib.hid (CC.out w1 HB.out)
    go_wp2_with (go_at_call 34; (with_reducible refine CX.out.mono ?_); rintro e w4 h4; obtain ⟨k4, t4, a4, n4, c4, a5, n5, c5, rfl, hl4, hb4⟩ := h4; have HL4 := Lib.hid hl4; have HB4 := Lib.hid hb4; have HR4 := Lib.hid ((HB3.out.below HB.out).below hb4); have f0 := RB.fr HR4.out 0; have f1 := RB.fr HR4.out 1; have f2 := RB.fr HR4.out 2; have f3 := RB.fr HR4.out 3; have z0 := RB.c0 HR4.out; have z1 := RB.c1 HR4.out; have z2 := RB.c2 HR4.out; have z3 := RB.c3 HR4.out; clear hl4 hb4)
    show bodyPost _ _ (GetPost w q.2 true) _ _ _
    have hg := gb_set4 w4 W2.heap.size (.int .i64 k4) (.string t4) (.slice a4 n4 c4) (.slice a5 n5 c5)
    have hbw : RowKit.Below w.heap.size w w1 := HBEL.out.trans (HB.out.mono HBEL.out.size)
    have hbw4 : RowKit.Below w.heap.size w w4 := hbw.trans (HB4.out.mono hbw.size)
    have hz2 := HZ2.out
    have hz3 := HZ3.out
    have hsz1 := HB.out.size
    refine get_end (HR4.out.set4 _ _ _ _) rfl rfl rfl (LV.move (fun b hb hs => ⟨hg.block b hb (fun e => ?_), Nat.lt_of_lt_of_le hb hg.size⟩) q.2 HL4.out) (hbw4.grown hg hbw4.size (fun k e => by have := Option.some.inj e; omega))
    have he := Option.some.inj e
    rcases hs with ⟨h, _⟩ | ⟨h, _⟩
    · have h' : b < w.heap.size := h
      omega
    · omega
end Go.Proofs.YtnjikipncgbjjaaGreatDoor

namespace Go.Proofs.YtnjikipncgbjjaaGreatDoor
open Go.RowKit
set_option linter.unusedVariables false
set_option maxRecDepth 100000

def aT1 : List UInt8 := [32, 123, 32, 34, 98, 34, 32, 58, 32, 45, 49, 46, 53, 101, 43, 51, 32, 44, 32, 34, 97, 34, 32, 58, 32, 91, 32, 110, 117, 108, 108, 32, 44, 32, 116, 114, 117, 101, 44, 32, 34, 120, 34, 32, 93, 32, 125]
def aT2 : List UInt8 := [123, 34, 97, 34, 58, 49, 44, 34, 97, 34, 58, 50, 125]
def aT3 : List UInt8 := [91, 48, 49, 93]
def aP1 : List UInt8 := [123, 34, 97, 34, 58, 91, 110, 117, 108, 108, 44, 116, 114, 117, 101, 44, 34, 120, 34, 93, 44, 34, 98, 34, 58, 45, 49, 46, 53, 101, 43, 51, 125]
def aL : JV := ⟨6, ⟨#[]⟩, [⟨1, ⟨#[]⟩, [], []⟩, ⟨3, ⟨#[]⟩, [], []⟩, ⟨5, ⟨#[120]⟩, [], []⟩], []⟩
def aV1 : JV := ⟨7, ⟨#[]⟩, [], [(⟨#[98]⟩, ⟨4, ⟨#[45, 49, 46, 53, 101, 43, 51]⟩, [], []⟩), (⟨#[97]⟩, aL)]⟩
def aV2 : JV := ⟨7, ⟨#[]⟩, [], [(⟨#[97]⟩, ⟨4, ⟨#[49]⟩, [], []⟩), (⟨#[97]⟩, ⟨4, ⟨#[50]⟩, [], []⟩)]⟩
theorem aW1 : wholeG aT1 = some aV1 := by kernel_rfl
theorem aW2 : wholeG aT2 = some aV2 := by kernel_rfl
theorem aW3 : wholeG aT3 = none := by kernel_rfl
theorem aPr : valG 32 aV1 ([], false) = (aP1, false) := by kernel_rfl

/-! ### A property of all that stands in a value, to be reckoned -/
mutual
def JV.allB (p : JV → Bool) : JV → Bool
  | ⟨k, t, l, f⟩ => p ⟨k, t, l, f⟩ && (JV.allL p l && JV.allF p f)
def JV.allL (p : JV → Bool) : List JV → Bool
  | [] => true
  | v :: r => v.allB p && JV.allL p r
def JV.allF (p : JV → Bool) : List (ByteArray × JV) → Bool
  | [] => true
  | (_, v) :: r => v.allB p && JV.allF p r
end
theorem allL_mem {p : JV → Bool} : ∀ {l : List JV}, JV.allL p l = true → ∀ u ∈ l, u.allB p = true
  | x :: r, h, u, hu => by
    simp only [JV.allL, Bool.and_eq_true] at h
    rcases List.mem_cons.1 hu with rfl | hu
    · exact h.1
    · exact allL_mem h.2 u hu
theorem allF_mem {p : JV → Bool} : ∀ {f : List (ByteArray × JV)}, JV.allF p f = true → ∀ q ∈ f, q.2.allB p = true
  | (n, x) :: r, h, q, hq => by
    simp only [JV.allF, Bool.and_eq_true] at h
    rcases List.mem_cons.1 hq with rfl | hq
    · exact h.1
    · exact allF_mem h.2 q hq
theorem allB_in {p : JV → Bool} (v : JV) : v.allB p = true → ∀ u, JV.In v u → p u = true := by
  induction v using JV.ind with
  | h v h1 h2 =>
    intro h u hu
    obtain ⟨k, t, l, f⟩ := v
    simp only [JV.allB, Bool.and_eq_true] at h
    rcases JV.in_cases hu with rfl | ⟨x, hx, hi⟩ | ⟨q, hq, hi⟩
    · exact h.1
    · exact h1 x hx (allL_mem h.2.1 x hx) u hi
    · exact h2 q hq (allF_mem h.2.2 q hq) u hi
def bearB (u : JV) : Bool := decide (u.fields.length < 20) && (decide (u.text.size ≤ 1048576) && u.fields.all fun q => decide (q.1.size ≤ 1048576))
theorem bear_of {v : JV} (hs : v.size ≤ 549755813888) (h : v.allB bearB = true) : Bear v := ⟨hs, fun u hu => by
  have := allB_in v h u hu
  simp only [bearB, Bool.and_eq_true, decide_eq_true_eq, List.all_eq_true] at this
  exact ⟨this.1, this.2.1, this.2.2⟩⟩
theorem aB1 : Bear aV1 := bear_of (by decide) (by decide)
theorem aB2 : Bear aV2 := bear_of (by decide) (by decide)
theorem aS1 : ∀ u, JV.In aV1 u → soundB u = true := allB_in aV1 (by kernel_rfl)
theorem aC1 : checkG aV1 = 0 := by unfold checkG; rw [if_pos ⟨aS1, by decide⟩]
theorem aN1 : ¬ Tw aV1 := fun ⟨u, hu, h⟩ => by
  have := allB_in (p := fun u => !twN u) aV1 (by decide) u hu
  rw [h] at this
  cases this
theorem aN2 : Tw aV2 := ⟨aV2, .root, by decide⟩
theorem aG1 : parseG aT1 = (aV1, 0) := by
  unfold parseG
  rw [if_neg (by decide), aW1]
  simp only [if_neg (show ¬ 32 < aV1.depth by decide), if_neg aN1]
theorem aG2 : parseG aT2 = (jZero, 8) := by
  unfold parseG
  rw [if_neg (by decide), aW2]
  simp only [if_neg (show ¬ 32 < aV2.depth by decide), if_pos aN2]
theorem aG3 : parseG aT3 = (jZero, 2) := by
  unfold parseG
  rw [if_neg (by decide), aW3]
theorem aPG : printG aV1 = (aP1, 0) := by
  unfold printG
  rw [if_pos aC1, aPr]
  simp
theorem aGe : getG aV1 ⟨#[97]⟩ = some aL := by kernel_rfl
end Go.Proofs.YtnjikipncgbjjaaGreatDoor

namespace Go.Proofs.YtnjikipncgbjjaaGreatDoor
open Go.RowKit
set_option linter.unusedVariables false
set_option maxRecDepth 100000

theorem aF1 : ∀ v, wholeG aT1 = some v → v.size ≤ 549755813888 ∧ ∀ u, JV.In v u → u.fields.length < 20 := fun v h => by
  rw [aW1] at h; cases h
  exact ⟨aB1.1, fun u hu => (aB1.2 u hu).1⟩
theorem aF2 : ∀ v, wholeG aT2 = some v → v.size ≤ 549755813888 ∧ ∀ u, JV.In v u → u.fields.length < 20 := fun v h => by
  rw [aW2] at h; cases h
  exact ⟨aB2.1, fun u hu => (aB2.2 u hu).1⟩
theorem aF3 : ∀ v, wholeG aT3 = some v → v.size ≤ 549755813888 ∧ ∀ u, JV.In v u → u.fields.length < 20 := fun v h => by
  rw [aW3] at h; cases h
theorem aPa1 (w : World) (hT : Tab5 w) : Calls Tryz.prog 8 #[.string ⟨#[32, 123, 32, 34, 98, 34, 32, 58, 32, 45, 49, 46, 53, 101, 43, 51, 32, 44, 32, 34, 97, 34, 32, 58, 32, 91, 32, 110, 117, 108, 108, 32, 44, 32, 116, 114, 117, 101, 44, 32, 34, 120, 34, 32, 93, 32, 125]⟩] w (ParsePost w aV1 0) := by
  have h := parse_any aT1 (by decide) w hT aF1
  rw [aG1] at h
  exact h
theorem aPa2 (w : World) (hT : Tab5 w) : Calls Tryz.prog 8 #[.string ⟨#[123, 34, 97, 34, 58, 49, 44, 34, 97, 34, 58, 50, 125]⟩] w (ParsePost w jZero 8) := by
  have h := parse_any aT2 (by decide) w hT aF2
  rw [aG2] at h
  exact h
theorem aPa3 (w : World) (hT : Tab5 w) : Calls Tryz.prog 8 #[.string ⟨#[91, 48, 49, 93]⟩] w (ParsePost w jZero 2) := by
  have h := parse_any aT3 (by decide) w hT aF3
  rw [aG3] at h
  exact h
theorem aPri {S : Nat → Prop} (k : Int) (t : ByteArray) (a : Option Addr) (n c : Nat) (a2 : Option Addr) (n2 c2 : Nat) (w : World) (hT : Tab5 w) (hv : LV w S aV1 (.int .i64 k) (.string t) (.slice a n c) (.slice a2 n2 c2)) :
    Calls Tryz.prog 12 #[.agg #[.int .i64 k, .string t, .slice a n c, .slice a2 n2 c2]] w fun e W' => e = .returned (.tuple #[.string ⟨#[123, 34, 97, 34, 58, 91, 110, 117, 108, 108, 44, 116, 114, 117, 101, 44, 34, 120, 34, 93, 44, 34, 98, 34, 58, 45, 49, 46, 53, 101, 43, 51, 125]⟩, .int .i64 0]) ∧ RowKit.Below w.heap.size w W' := by
  have h := print_any aV1 aB1 k t a n c a2 n2 c2 w hT hv
  rw [aPG] at h
  exact h
theorem aGet {S : Nat → Prop} (k : Int) (t : ByteArray) (a : Option Addr) (n c : Nat) (a2 : Option Addr) (n2 c2 : Nat) (w : World) (hv : LV w S aV1 (.int .i64 k) (.string t) (.slice a n c) (.slice a2 n2 c2)) :
    Calls Tryz.prog 14 #[.agg #[.int .i64 k, .string t, .slice a n c, .slice a2 n2 c2], .string ⟨#[97]⟩] w (GetPost w aL true) := by
  have h := get_any aV1 aB1.1 ⟨#[97]⟩ k t a n c a2 n2 c2 w hv
  rw [aGe] at h
  exact h
theorem aDep {S : Nat → Prop} (k : Int) (t : ByteArray) (a : Option Addr) (n c : Nat) (a2 : Option Addr) (n2 c2 : Nat) (w : World) (hv : LV w S aV1 (.int .i64 k) (.string t) (.slice a n c) (.slice a2 n2 c2)) :
    Calls Tryz.prog 20 #[.agg #[.int .i64 k, .string t, .slice a n c, .slice a2 n2 c2]] w fun e W' => e = .returned (.int .i64 3) ∧ RowKit.Below w.heap.size w W' :=
  depth_any aV1 aB1.1 k t a n c a2 n2 c2 w hv

set_option maxHeartbeats 4000000 in
theorem awake5_any (w : World) (hT : Tab5 w) : Calls Tryz.prog 7 #[] w fun e w' => e = .returned (.bool true) ∧ RowKit.Below w.heap.size w w' := by
  have HT := Lib.hid hT
  have C1 := Lib.hid (aPa1 w hT)
  clear hT
  go_enter Tryz.func7, Tryz.ntmps7
  go_wp2_with (go_at_call 8; (with_reducible refine C1.out.mono ?_); rintro e w1 h1; obtain ⟨k, t, a, n, c, a2, n2, c2, rfl, hl1, hb1⟩ := h1; have HL1 := Lib.hid hl1; have HB1 := Lib.hid hb1; clear hl1 hb1; refine Hid.out ?_)
  refine Lib.hid ?_
  obtain ⟨W1, hW1⟩ : ∃ W1, w1.alloc (.cells #[.int .i64 k, .string t, .slice a n c, .slice a2 n2 c2] 26) = W1 := ⟨_, rfl⟩
  have hg1 : w1.grownBy W1 none := by rw [← hW1]; exact World.grownBy_alloc _ _ none
  have hr1 : RB W1 w1.heap.size (.int .i64 k) (.string t) (.slice a n c) (.slice a2 n2 c2) := by rw [← hW1]; exact RB.new w1
  have hlv1 : LV W1 (fun _ => True) aV1 (.int .i64 k) (.string t) (.slice a n c) (.slice a2 n2 c2) := LV.move (fun b hb hs => ⟨hg1.block b hb (by simp), trivial⟩) _ HL1.out
  have hb1 : RowKit.Below w.heap.size w W1 := HB1.out.grown hg1 HB1.out.size (by simp)
  have C2 := Lib.hid (aPri k t a n c a2 n2 c2 W1 (HT.out.below hb1) hlv1)
  have v0 := hr1.c0
  have v1 := hr1.c1
  have v2 := hr1.c2
  have v3 := hr1.c3
  have HR1 := Lib.hid hr1
  have HLV1 := Lib.hid hlv1
  have HBW1 := Lib.hid hb1
  clear hg1 hr1 hlv1 hb1
  go_wp2_with (go_at_call 12; (with_reducible refine C2.out.mono ?_); rintro e w2 ⟨rfl, hb2⟩; have HB2 := Lib.hid hb2; clear hb2; refine Hid.out ?_)
  refine Lib.hid ?_
  have hbw2 : RowKit.Below w.heap.size w w2 := HBW1.out.trans (HB2.out.mono HBW1.out.size)
  have HBW2 := Lib.hid hbw2
  have C3 := Lib.hid (aPa2 w2 (HT.out.below hbw2))
  clear v0 v1 v2 v3 hbw2 hW1
  go_wp2_with (go_at_call 8; (with_reducible refine C3.out.mono ?_); rintro e w3 h3; obtain ⟨k3, t3, a3, n3, c3, b3, m3, d3, rfl, hl3, hb3⟩ := h3; have HB3 := Lib.hid hb3; clear hl3 hb3; refine Hid.out ?_)
  refine Lib.hid ?_
  obtain ⟨W3, hW3⟩ : ∃ W3, w3.alloc (.cells #[.int .i64 k3, .string t3, .slice a3 n3 c3, .slice b3 m3 d3] 26) = W3 := ⟨_, rfl⟩
  have hg3 : w3.grownBy W3 none := by rw [← hW3]; exact World.grownBy_alloc _ _ none
  have hbw3 : RowKit.Below w2.heap.size w2 W3 := HB3.out.grown hg3 HB3.out.size (by simp)
  have HBW3 := Lib.hid (HBW2.out.trans (hbw3.mono HBW2.out.size))
  have HB23 := Lib.hid hbw3
  have C4 := Lib.hid (aPa3 W3 (HT.out.below HBW3.out))
  clear hg3 hbw3
  go_wp2_with (go_at_call 8; (with_reducible refine C4.out.mono ?_); rintro e w4 h4; obtain ⟨k4, t4, a4, n4, c4, b4, m4, d4, rfl, hl4, hb4⟩ := h4; have HB4 := Lib.hid hb4; clear hl4 hb4; refine Hid.out ?_)
  refine Lib.hid ?_
  clear hW3
  obtain ⟨W4, hW4⟩ : ∃ W4, w4.alloc (.cells #[.int .i64 k4, .string t4, .slice a4 n4 c4, .slice b4 m4 d4] 26) = W4 := ⟨_, rfl⟩
  have hg4 : w4.grownBy W4 none := by rw [← hW4]; exact World.grownBy_alloc _ _ none
  have hbw4 : RowKit.Below W3.heap.size W3 W4 := HB4.out.grown hg4 HB4.out.size (by simp)
  have HBW4 := Lib.hid (HBW3.out.trans (hbw4.mono HBW3.out.size))
  have h14 : RowKit.Below W1.heap.size W1 W4 := (HB2.out.trans (HB23.out.mono HB2.out.size)).trans (hbw4.mono (Nat.le_trans HB2.out.size HB23.out.size))
  have hr4 := HR1.out.below h14
  have hlv4 : LV W4 (fun _ => True) aV1 (.int .i64 k) (.string t) (.slice a n c) (.slice a2 n2 c2) := LV.move (fun b hb hs => ⟨h14.block b hb, trivial⟩) _ HLV1.out
  have C5 := Lib.hid (aGet k t a n c a2 n2 c2 W4 hlv4)
  have v0 := hr4.c0
  have v1 := hr4.c1
  have v2 := hr4.c2
  have v3 := hr4.c3
  have HR4 := Lib.hid hr4
  have HLV4 := Lib.hid hlv4
  clear hg4 hbw4 h14 hr4 hlv4
  go_wp2_with (go_at_call 14; (with_reducible refine C5.out.mono ?_); rintro e w5 h5; obtain ⟨k5, t5, a5, n5, c5, b5, m5, d5, rfl, hl5, hb5⟩ := h5; have HL5 := Lib.hid hl5; have HB5 := Lib.hid hb5; clear hl5 hb5; refine Hid.out ?_)
  refine Lib.hid ?_
  clear hW4 v0 v1 v2 v3
  have hn5 : n5 = 3 := by
    have h := HL5.out
    unfold aL LV at h
    obtain ⟨-, -, ⟨x, y, h, -⟩, -⟩ := h
    simp only [Value.slice.injEq] at h
    exact h.2.1
  subst hn5
  obtain ⟨W5, hW5⟩ : ∃ W5, w5.alloc (.cells #[.int .i64 k5, .string t5, .slice a5 3 c5, .slice b5 m5 d5] 26) = W5 := ⟨_, rfl⟩
  have hg5 : w5.grownBy W5 none := by rw [← hW5]; exact World.grownBy_alloc _ _ none
  have hbw5 : RowKit.Below W4.heap.size W4 W5 := HB5.out.grown hg5 HB5.out.size (by simp)
  have HBW5 := Lib.hid (HBW4.out.trans (hbw5.mono HBW4.out.size))
  have hr5 := HR4.out.below hbw5
  have hx5 : RB W5 w5.heap.size (.int .i64 k5) (.string t5) (.slice a5 3 c5) (.slice b5 m5 d5) := by rw [← hW5]; exact RB.new w5
  have hlv5 : LV W5 (fun _ => True) aV1 (.int .i64 k) (.string t) (.slice a n c) (.slice a2 n2 c2) := LV.move (fun b hb hs => ⟨hbw5.block b hb, trivial⟩) _ HLV4.out
  have C6 := Lib.hid (aDep k t a n c a2 n2 c2 W5 hlv5)
  have v0 := hr5.c0
  have v1 := hr5.c1
  have v2 := hr5.c2
  have v3 := hr5.c3
  have x2 := hx5.c2
  clear hg5 hbw5 hr5 hx5 hlv5
  go_wp2_with (go_at_call 20; (with_reducible refine C6.out.mono ?_); rintro e w6 ⟨rfl, hb6⟩; have HB6 := Lib.hid (HBW5.out.trans (hb6.mono HBW5.out.size)); clear hb6)
  go_ret
  exact ⟨rfl, HB6.out⟩
end Go.Proofs.YtnjikipncgbjjaaGreatDoor

namespace Go.Proofs.YtnjikipncgbjjaaGreatDoor
open Go.RowKit
set_option linter.unusedVariables false
set_option maxRecDepth 100000

theorem u8_lo {n : Int} (h : (Lit.int .u8 n).wf = true) : 0 ≤ n := by
  have h2 : 0 ≤ n ∧ n ≤ 255 := by simpa [Lit.wf, IntKind.min, IntKind.max, IntKind.signed, IntKind.bits] using h
  exact h2.1
theorem u8_hi {n : Int} (h : (Lit.int .u8 n).wf = true) : n < 256 := by
  have h2 : 0 ≤ n ∧ n ≤ 255 := by simpa [Lit.wf, IntKind.min, IntKind.max, IntKind.signed, IntKind.bits] using h
  omega
theorem bs_add (w0 : World) (x y : List UInt8) (h : x.length + y.length ≤ 9223372036854775807) : (Op.stringOp .add (bs x) (bs y)).run Tryz.prog w0 = .ok (.string (bs (x ++ y))) w0 := by
  unfold bs
  rw [run_string_add_sum w0 _ _ (by simp [ByteArray.size]; omega)]
  exact congrArg (fun z => Result.ok (Value.string z) w0) (ByteArray.mk_append_mk x y)
theorem brk_len (k : Nat) : (brk k).length = 2 * k := by simp [brk]; omega
theorem brk_l (k : Nat) (hk : k ≤ 100) (w0 : World) : (Op.stringOp .add ⟨#[91]⟩ (bs (brk k))).run Tryz.prog w0 = .ok (.string (bs (91 :: brk k))) w0 := bs_add w0 [91] (brk k) (by rw [brk_len]; simp; omega)
theorem brk_r (k : Nat) (hk : k ≤ 100) (w0 : World) : (Op.stringOp .add (bs (91 :: brk k)) ⟨#[93]⟩).run Tryz.prog w0 = .ok (.string (bs (brk (k + 1)))) w0 := by
  rw [← brk_succ]
  exact bs_add w0 (91 :: brk k) [93] (by rw [List.length_cons, brk_len]; simp; omega)
/-- v of JsonDeep, in its block. -/
def DpI (w : World) (n : Nat) (wr : World) : Prop :=
  ∃ (a : Option Addr) (c : Nat), RB wr w.heap.size (.int .i64 6) (.string ⟨#[]⟩) (.slice a (dLen n) c) (.slice none 0 0) ∧ LV wr (· ≠ w.heap.size) (deepV n) (.int .i64 6) (.string ⟨#[]⟩) (.slice a (dLen n) c) (.slice none 0 0) ∧ RowKit.Below w.heap.size w wr
theorem DpI.start (w : World) : DpI w 0 (w.alloc (.cells #[.int .i64 6, .string ⟨#[]⟩, .slice none 0 0, .slice none 0 0] 26)) := by
  refine ⟨none, 0, RB.new w, ?_, (Below.refl _ w).alloc (Nat.le_refl _) _⟩
  unfold deepV LV
  exact ⟨rfl, rfl, ⟨none, 0, rfl, .inl rfl⟩, ⟨none, 0, rfl, .inl rfl⟩⟩

theorem DpI.step {w wr : World} {j : Nat} {a : Option Addr} {c : Nat} (hr : RB wr w.heap.size (.int .i64 6) (.string ⟨#[]⟩) (.slice a (dLen j) c) (.slice none 0 0)) (hv : LV wr (· ≠ w.heap.size) (deepV j) (.int .i64 6) (.string ⟨#[]⟩) (.slice a (dLen j) c) (.slice none 0 0)) (hb : RowKit.Below w.heap.size w wr) :
    DpI w (j + 1) (((((wr.alloc (.cells #[.int .i64 6, .string ⟨#[]⟩, .slice a (dLen j) c, .slice none 0 0] 26)).setCell ⟨w.heap.size, 0, none⟩ (.int .i64 6)).setCell ⟨w.heap.size, 1, none⟩ (.string ⟨#[]⟩)).setCell ⟨w.heap.size, 2, none⟩ (.slice (some ⟨wr.heap.size, 0, none⟩) 1 1)).setCell ⟨w.heap.size, 3, none⟩ (.slice none 0 0)) := by
  have hlt := hr.lt
  have ga := gb_alloc wr (.cells #[.int .i64 6, .string ⟨#[]⟩, .slice a (dLen j) c, .slice none 0 0] 26) none
  have hr2 := hr.gb ga (by simp)
  have hn := RB.new (x0 := .int .i64 6) (x1 := .string ⟨#[]⟩) (x2 := .slice a (dLen j) c) (x3 := .slice none 0 0) wr
  have hb2 := hb.grown ga hb.size (by simp)
  generalize wr.alloc _ = W2 at ga hr2 hn hb2 ⊢
  have hr3 := hr2.set4 (.int .i64 6) (.string ⟨#[]⟩) (.slice (some ⟨wr.heap.size, 0, none⟩) 1 1) (.slice none 0 0)
  have g := gb_set4 W2 w.heap.size (.int .i64 6) (.string ⟨#[]⟩) (.slice (some ⟨wr.heap.size, 0, none⟩) 1 1) (.slice none 0 0)
  generalize World.setCell _ _ _ = W3 at hr3 g ⊢
  have hn3 := hn.gb g (by simp; omega)
  have hv3 : LV W3 (· ≠ w.heap.size) (deepV j) (.int .i64 6) (.string ⟨#[]⟩) (.slice a (dLen j) c) (.slice none 0 0) :=
    LV.move (fun b hb hs => ⟨(g.block b (Nat.lt_of_lt_of_le hb ga.size) (fun e => hs (Option.some.inj e))).trans (ga.block b hb (by simp)), hs⟩) _ hv
  refine ⟨_, _, hr3, ?_, below_gb hb2 hb2.size g (Nat.le_refl _)⟩
  unfold deepV LV
  refine ⟨rfl, rfl, ⟨_, _, rfl, .inr ⟨_, _, rfl, ⟨by omega, ⟨_, _, hn3⟩⟩, ?_⟩⟩, ⟨none, 0, rfl, .inl rfl⟩⟩
  unfold LVs
  refine ⟨⟨_, _, _, _, hn3.c0, hn3.c1, hn3.c2, hn3.c3, hv3⟩, ?_⟩
  unfold LVs
  trivial

theorem dp_hF (m : Nat) (hm : m < 64) : ∀ v, wholeG (brk (m + 1)) = some v → v.size ≤ 549755813888 ∧ ∀ u, JV.In v u → u.fields.length < 20 := fun v h => by
  rw [deepV_whole m hm] at h
  cases h
  have hB := deepV_bear m (by omega)
  exact ⟨hB.1, fun u hu => (hB.2 u hu).1⟩
theorem dp_parse1 (m : Nat) (hm : m < 64) (h : 32 ≤ m) (w : World) (hT : Tab5 w) :
    Calls Tryz.prog 8 #[.string (bs (brk (m + 1)))] w fun e w' => (∃ (a : Option Addr) (c : Nat) (a2 : Option Addr) (c2 : Nat), e = .returned (.tuple #[.agg #[.int .i64 0, .string ⟨#[]⟩, .slice a 0 c, .slice a2 0 c2], .int .i64 5])) ∧ RowKit.Below w.heap.size w w' := by
  have hp := parse_any (brk (m + 1)) (by rw [brk_len]; omega) w hT (dp_hF m hm)
  rw [deepV_parse m hm, if_pos (by omega)] at hp
  refine hp.mono ?_
  rintro e w' ⟨k, t, a, n, c, a2, n2, c2, rfl, hl, hb⟩
  refine ⟨?_, hb⟩
  unfold jZero LV at hl
  obtain ⟨h0, h1, ⟨a', c', h2, -⟩, ⟨a3, c3, h3, -⟩⟩ := hl
  cases h0; cases h1; cases h2; cases h3
  exact ⟨_, _, _, _, rfl⟩
theorem dp_parse2 (m : Nat) (h : m < 32) (w : World) (hT : Tab5 w) :
    Calls Tryz.prog 8 #[.string (bs (brk (m + 1)))] w fun e w' => (∃ (a : Option Addr) (c : Nat) (a2 : Option Addr) (c2 : Nat), e = .returned (.tuple #[.agg #[.int .i64 6, .string ⟨#[]⟩, .slice a (dLen m) c, .slice a2 0 c2], .int .i64 0]) ∧ LV w' (fun _ => True) (deepV m) (.int .i64 6) (.string ⟨#[]⟩) (.slice a (dLen m) c) (.slice a2 0 c2)) ∧ RowKit.Below w.heap.size w w' := by
  have hp := parse_any (brk (m + 1)) (by rw [brk_len]; omega) w hT (dp_hF m (by omega))
  rw [deepV_parse m (by omega), if_neg (by omega)] at hp
  refine hp.mono ?_
  rintro e w' ⟨k, t, a, n, c, a2, n2, c2, rfl, hl, hb⟩
  refine ⟨?_, hb⟩
  have hl2 : LV w' (fun _ => True) (deepV m) (.int .i64 k) (.string t) (.slice a n c) (.slice a2 n2 c2) := LV.move (fun b hb hs => ⟨rfl, trivial⟩) _ hl
  obtain ⟨x, xc, x3, xc3, e0, e1, e2, e3⟩ := deep_shape m hl2
  cases e0; cases e1; cases e2; cases e3
  exact ⟨_, _, _, _, rfl, hl2⟩
theorem dp_print1 {S : Nat → Prop} (m : Nat) (hm : m < 64) (h : 32 ≤ m) (a : Option Addr) (c : Nat) (a2 : Option Addr) (c2 : Nat) (w : World) (hT : Tab5 w) (hv : LV w S (deepV m) (.int .i64 6) (.string ⟨#[]⟩) (.slice a (dLen m) c) (.slice a2 0 c2)) :
    Calls Tryz.prog 12 #[.agg #[.int .i64 6, .string ⟨#[]⟩, .slice a (dLen m) c, .slice a2 0 c2]] w fun e W' => e = .returned (.tuple #[.string ⟨#[]⟩, .int .i64 1]) ∧ RowKit.Below w.heap.size w W' := by
  have hp := print_any (deepV m) (deepV_bear m (by omega)) 6 ⟨#[]⟩ a (dLen m) c a2 0 c2 w hT hv
  rw [deepV_print m, if_pos (by omega)] at hp
  exact hp
theorem dp_print2 {S : Nat → Prop} (m : Nat) (h : m < 32) (a : Option Addr) (c : Nat) (a2 : Option Addr) (c2 : Nat) (w : World) (hT : Tab5 w) (hv : LV w S (deepV m) (.int .i64 6) (.string ⟨#[]⟩) (.slice a (dLen m) c) (.slice a2 0 c2)) :
    Calls Tryz.prog 12 #[.agg #[.int .i64 6, .string ⟨#[]⟩, .slice a (dLen m) c, .slice a2 0 c2]] w fun e W' => e = .returned (.tuple #[.string (bs (brk (m + 1))), .int .i64 0]) ∧ RowKit.Below w.heap.size w W' := by
  have hp := print_any (deepV m) (deepV_bear m (by omega)) 6 ⟨#[]⟩ a (dLen m) c a2 0 c2 w hT hv
  rw [deepV_print m, if_neg (by omega)] at hp
  exact hp
theorem dp_depth {S : Nat → Prop} (m : Nat) (hm : m < 64) (a : Option Addr) (c : Nat) (a2 : Option Addr) (c2 : Nat) (w : World) (hv : LV w S (deepV m) (.int .i64 6) (.string ⟨#[]⟩) (.slice a (dLen m) c) (.slice a2 0 c2)) :
    Calls Tryz.prog 20 #[.agg #[.int .i64 6, .string ⟨#[]⟩, .slice a (dLen m) c, .slice a2 0 c2]] w fun e W' => e = .returned (.int .i64 (1 + (m : Int))) ∧ RowKit.Below w.heap.size w W' := by
  have hp := depth_any (deepV m) (deepV_bear m (by omega)).1 6 ⟨#[]⟩ a (dLen m) c a2 0 c2 w hv
  rw [deepV_depth, show ((m + 1 : Nat) : Int) = 1 + (m : Int) by omega] at hp
  exact hp

set_option maxHeartbeats 2000000 in
theorem jdeep_any (a0 : Int) (h0 : 0 ≤ a0) (h255 : a0 < 256) (w : World) (hT : Tab5 w) :
    Calls Tryz.prog 6 #[.int .u8 a0] w fun e w' => e = .returned (.bool true) ∧ RowKit.Below w.heap.size w w' := by
  obtain ⟨m, hm⟩ : ∃ m : Nat, (m : Int) = a0 % 64 := ⟨(a0 % 64).toNat, by omega⟩
  have hm64 : m < 64 := by omega
  have hand : bits .and .u8 a0 63 = (m : Int) := (show bits .and .u8 a0 63 = a0 % 64 from bits_mask .u8 8 (by decide) wraps_u8 6 (by decide) a0 h0 h255).trans hm.symm
  clear hm h0 h255
  have hmm : (0 : Int) ≤ (m : Int) := by omega
  have hw : IntKind.i64.wrap (1 + (m : Int)) = 1 + (m : Int) := IntWalk.i64_in _ (by omega)
  have HT := Lib.hid hT
  have HS := Lib.hid (DpI.start w)
  clear hT
  go_enter Tryz.func6, Tryz.ntmps6
  go_wp2_with fail
  generalize World.alloc _ _ = w1 at HS ⊢
  go_loopw [4, 6] (fun ss kk wr => ∃ k : Nat, k ≤ 1 + m ∧ ss = .string (bs (brk k)) ∧ kk = .int .i64 k ∧ Hid (DpI w (k - 1) wr)) (fun _ kk _ => 1 + m - (intOf kk).toNat)
  case atStart => exact ⟨0, Nat.zero_le _, rfl, rfl, HS⟩
  case round =>
    clear HS
    obtain ⟨k, hk, rfl, rfl, HI⟩ := hrel
    by_cases hlt : k < 1 + m
    · obtain ⟨a, c, hr, hv, hb⟩ := HI.out
      have hlt' : (k : Int) < 1 + (m : Int) := by omega
      have q0 := hr.c0
      have q1 := hr.c1
      have q2 := hr.c2
      have q3 := hr.c3
      have qf := fun i => hr.fr i
      have HR := Lib.hid hr
      have HV := Lib.hid hv
      have HB := Lib.hid hb
      have hl := brk_l k (by omega)
      have hrr := brk_r k (by omega)
      clear hr hv hb HI
      cases k with
      | zero =>
        go_wp2_with fail
        go_roundw
        case rel => exact ⟨1, by omega, rfl, by simp, _, _, HR.out, HV.out, HB.out⟩
        case measure => simp [intOf]
      | succ j =>
        have hj0 : (0 : Int) < (j : Int) + 1 := by omega
        rw [Nat.add_sub_cancel] at q2 HR HV
        have HST := Lib.hid (DpI.step HR.out HV.out HB.out)
        have hr2 := HR.out.gb (gb_alloc wr (.cells #[.int .i64 6, .string ⟨#[]⟩, .slice a (dLen j) c, .slice none 0 0] 26) none) (by simp)
        generalize dLen j = dj at q2 hr2 HST
        have n0 := hr2.c0
        have n1 := hr2.c1
        have n2 := hr2.c2
        have n3 := hr2.c3
        have nf := fun i => hr2.fr i
        clear hr2 HR HV
        go_wp2_with fail
        go_roundw
        case rel => exact ⟨j + 1 + 1, hlt, rfl, by simp, HST⟩
        case measure => simp [intOf]; omega
    · obtain rfl : k = 1 + m := by omega
      obtain ⟨a, c, hr, hv, hb⟩ := HI.out
      rw [show 1 + m - 1 = m by omega] at hr hv
      rw [Nat.add_comm 1 m] at *
      have hbt : RowKit.Below w.heap.size w wr := hb
      have q0 := hr.c0
      have q1 := hr.c1
      have q2 := hr.c2
      have q3 := hr.c3
      have HR := Lib.hid hr
      have HV := Lib.hid hv
      have HB := Lib.hid hb
      clear hr hv hb HI hbt hlt hk
      by_cases hd : 32 ≤ m
      · have hgt : (32 : Int) < 1 + (m : Int) := by omega
        have C1 := Lib.hid (dp_parse1 m hm64 hd wr (HT.out.below HB.out))
        generalize bs (brk (m + 1)) = tx at C1 ⊢
        go_wp2_with (go_at_call 8; (with_reducible refine C1.out.mono ?_); rintro e w2 ⟨⟨xa, xc, xa2, xc2, rfl⟩, hb2⟩; have HB2 := Lib.hid hb2; clear hb2; refine Hid.out ?_)
        refine Lib.hid ?_
        obtain ⟨W2, hW2⟩ : ∃ W2, w2.alloc (.cells #[.int .i64 0, .string ⟨#[]⟩, .slice xa 0 xc, .slice xa2 0 xc2] 26) = W2 := ⟨_, rfl⟩
        have hg2 : w2.grownBy W2 none := by rw [← hW2]; exact World.grownBy_alloc _ _ none
        have hx2 : RB W2 w2.heap.size (.int .i64 0) (.string ⟨#[]⟩) (.slice xa 0 xc) (.slice xa2 0 xc2) := by rw [← hW2]; exact RB.new w2
        have hbw2 : RowKit.Below wr.heap.size wr W2 := HB2.out.grown hg2 HB2.out.size (by simp)
        have HX2 := Lib.hid hx2
        have HR2 := Lib.hid (HR.out.below hbw2)
        have HV2 := Lib.hid (LV.move (S' := (· ≠ w.heap.size)) (fun b hb hs => ⟨hbw2.block b hb, hs⟩) _ HV.out)
        have HBB2 := Lib.hid (HB.out.trans (hbw2.mono HB.out.size))
        clear hg2 hx2 hbw2 q0 q1 q2 q3
        have C2 := Lib.hid (dp_print1 m hm64 hd a c none 0 W2 (HT.out.below HBB2.out) HV2.out)
        have C3 := Lib.hid (fun w3 hv3 => dp_depth (S := (· ≠ w.heap.size)) m hm64 a c none 0 w3 hv3)
        have q0 := HR2.out.c0
        have q1 := HR2.out.c1
        have q2 := HR2.out.c2
        have q3 := HR2.out.c3
        have HDL : Hid (∃ dn, dLen m = dn) := Lib.hid ⟨_, rfl⟩
        generalize dLen m = dn at *
        go_wp2_with (go_at_call 12; (with_reducible refine C2.out.mono ?_); rintro e w3 ⟨rfl, hb3⟩; have HB3 := Lib.hid hb3; clear hb3; refine Hid.out ?_)
        refine Lib.hid ?_
        have hr3 := HR2.out.below HB3.out
        have hx3 := HX2.out.below HB3.out
        have hv3 := LV.move (S' := (· ≠ w.heap.size)) (fun b hb hs => ⟨HB3.out.block b hb, hs⟩) _ HV2.out
        have C4 := Lib.hid (C3.out w3 hv3)
        have HBB3 := Lib.hid (HBB2.out.trans (HB3.out.mono HBB2.out.size))
        clear q0 q1 q2 q3 hW2
        have q0 := hr3.c0
        have q1 := hr3.c1
        have q2 := hr3.c2
        have q3 := hr3.c3
        have x0 := hx3.c0
        clear hr3 hx3 hv3
        go_wp2_with first
          | (go_at_call 20; (with_reducible refine C4.out.mono ?_); rintro e w4 ⟨rfl, hb4⟩; have HB4 := Lib.hid hb4; have HBB4 := Lib.hid (HBB3.out.trans (hb4.mono HBB3.out.size)); clear hb4)
          | (go_at_call 7; refine (awake5_any _ (HT.out.below HBB4.out)).mono ?_; rintro e w5 ⟨rfl, hb5⟩; have HBB5 := Lib.hid (HBB4.out.trans (hb5.mono HBB4.out.size)); clear hb5)
        go_ret
        exact ⟨rfl, HBB5.out⟩
      · have hle : (1 : Int) + (m : Int) ≤ 32 := by omega
        have C1 := Lib.hid (dp_parse2 m (by omega) wr (HT.out.below HB.out))
        have CP := Lib.hid (fun W2 hT hv => dp_print2 (S := (· ≠ w.heap.size)) m (by omega) a c none 0 W2 hT hv)
        have CD := Lib.hid (fun xa xc xa2 xc2 w3 hv3 => dp_depth (S := fun _ => True) m hm64 xa xc xa2 xc2 w3 hv3)
        have CX := Lib.hid (fun xa xc xa2 xc2 w3 h1 h2 => exact_deep m w3 (fun _ => True) (· ≠ w.heap.size) xa xc xa2 xc2 a c none 0 h1 h2)
        generalize bs (brk (m + 1)) = tx at C1 CP ⊢
        generalize hdn : dLen m = dn at C1 CP CD CX HR HV q2
        clear hdn
        go_wp2_with (go_at_call 8; (with_reducible refine C1.out.mono ?_); rintro e w2 ⟨⟨xa, xc, xa2, xc2, rfl, hl2⟩, hb2⟩; have HB2 := Lib.hid hb2; have HL2 := Lib.hid hl2; clear hb2 hl2; refine Hid.out ?_)
        refine Lib.hid ?_
        obtain ⟨W2, hW2⟩ : ∃ W2, w2.alloc (.cells #[.int .i64 6, .string ⟨#[]⟩, .slice xa dn xc, .slice xa2 0 xc2] 26) = W2 := ⟨_, rfl⟩
        have hg2 : w2.grownBy W2 none := by rw [← hW2]; exact World.grownBy_alloc _ _ none
        have hx2 : RB W2 w2.heap.size (.int .i64 6) (.string ⟨#[]⟩) (.slice xa dn xc) (.slice xa2 0 xc2) := by rw [← hW2]; exact RB.new w2
        have hbw2 : RowKit.Below wr.heap.size wr W2 := HB2.out.grown hg2 HB2.out.size (by simp)
        have HX2 := Lib.hid hx2
        have HR2 := Lib.hid (HR.out.below hbw2)
        have HV2 := Lib.hid (LV.move (S' := (· ≠ w.heap.size)) (fun b hb hs => ⟨hbw2.block b hb, hs⟩) _ HV.out)
        have HXV2 := Lib.hid (LV.move (S' := fun _ => True) (fun b hb hs => ⟨hg2.block b hb (by simp), trivial⟩) _ HL2.out)
        have HBB2 := Lib.hid (HB.out.trans (hbw2.mono HB.out.size))
        clear hg2 hx2 hbw2 q0 q1 q2 q3
        have C2 := Lib.hid (CP.out W2 (HT.out.below HBB2.out) HV2.out)
        have q0 := HR2.out.c0
        have q1 := HR2.out.c1
        have q2 := HR2.out.c2
        have q3 := HR2.out.c3
        go_wp2_with (go_at_call 12; (with_reducible refine C2.out.mono ?_); rintro e w3 ⟨rfl, hb3⟩; have HB3 := Lib.hid hb3; clear hb3; refine Hid.out ?_)
        refine Lib.hid ?_
        have hr3 := HR2.out.below HB3.out
        have hx3 := HX2.out.below HB3.out
        have hv3 := LV.move (S' := (· ≠ w.heap.size)) (fun b hb hs => ⟨HB3.out.block b hb, hs⟩) _ HV2.out
        have HXV3 := Lib.hid (LV.move (S' := fun _ => True) (fun b hb hs => ⟨HB3.out.block b hb, trivial⟩) _ HXV2.out)
        have C4 := Lib.hid (CX.out xa xc xa2 xc2 w3 HXV3.out hv3)
        have HBB3 := Lib.hid (HBB2.out.trans (HB3.out.mono HBB2.out.size))
        clear q0 q1 q2 q3 hW2
        have q0 := hr3.c0
        have q1 := hr3.c1
        have q2 := hr3.c2
        have q3 := hr3.c3
        have x0 := hx3.c0
        have x1 := hx3.c1
        have x2 := hx3.c2
        have x3 := hx3.c3
        have HX3 := Lib.hid hx3
        clear hr3 hx3 hv3
        go_wp2_with (go_at_call 10; (with_reducible refine C4.out.mono ?_); rintro e w4 ⟨rfl, hb4⟩; have HB4 := Lib.hid hb4; have HBB4 := Lib.hid (HBB3.out.trans (hb4.mono HBB3.out.size)); clear hb4; refine Hid.out ?_)
        refine Lib.hid ?_
        have hx4 := HX3.out.below HB4.out
        have C5 := Lib.hid (CD.out xa xc xa2 xc2 w4 (LV.move (S' := fun _ => True) (fun b hb hs => ⟨HB4.out.block b hb, trivial⟩) _ HXV3.out))
        clear q0 q1 q2 q3 x0 x1 x2 x3
        have x0 := hx4.c0
        have x1 := hx4.c1
        have x2 := hx4.c2
        have x3 := hx4.c3
        clear hx4
        go_wp2_with first
          | (go_at_call 20; (with_reducible refine C5.out.mono ?_); rintro e w5 ⟨rfl, hb5⟩; have HBB5 := Lib.hid (HBB4.out.trans (hb5.mono HBB4.out.size)); clear hb5)
          | (go_at_call 7; refine (awake5_any _ (HT.out.below HBB5.out)).mono ?_; rintro e w6 ⟨rfl, hb6⟩; have HBB6 := Lib.hid (HBB5.out.trans (hb6.mono HBB5.out.size)); clear hb6)
        go_ret
        exact ⟨rfl, HBB6.out⟩
end Go.Proofs.YtnjikipncgbjjaaGreatDoor
