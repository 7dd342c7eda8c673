/- Layer 5's reference: Parse, given read. -/
import Derived.Test.YtaniebkfgkhgoaaGreatDoorJR2
import Derived.Test.YtaniebkfgkhgoaaGreatDoorJR3
import Derived.Test.YtaniebkfgkhgoaaGreatDoorJ5c
namespace Go.Proofs.YtaniebkfgkhgoaaGreatDoor
open Go.RowKit
set_option linter.unusedVariables false
set_option maxRecDepth 100000

theorem tw_same (v : JV) : Tw v ↔ TwP v := by
  unfold Tw TwP twN
  simp only [decide_eq_true_eq]
/-- The end: the result's cell is read. -/
theorem rp_end {w w1 : World} {a : Act} {v : JV} {er k : Int} {t : ByteArray} {aa : Option Addr} {n c : Nat} {a2 : Option Addr} {n2 c2 : Nat} (hz : RB w1 w.heap.size (.int .i64 k) (.string t) (.slice aa n c) (.slice a2 n2 c2))
    (hp : a.tmps.getD 2 undef = .pointer (some ⟨w.heap.size, 0, none⟩)) (hu : a.tmps.getD 3 undef = .int .i64 er) (hd : a.defers = [])
    (hv : LV w1 (fun b => w.heap.size < b ∧ b < w1.heap.size) v (.int .i64 k) (.string t) (.slice aa n c) (.slice a2 n2 c2)) (hb : RowKit.Below w.heap.size w w1) :
    bodyPost Tryz.prog Tryz.f8 (ParsePost w v er) .ret a w1 :=
  ret_val (p := 2) (u := 3) rfl hp hu hd hz ⟨k, t, aa, n, c, a2, n2, c2, rfl, hv, hb⟩

set_option maxHeartbeats 4000000 in
theorem rparse_any (l : List UInt8) (hl : l.length ≤ 65536) (f : Nat) (hf : 2 * l.length + 1 ≤ f) (hR : ∀ w0 : World, Calls Tryz.prog 25 #[.string (bs l)] w0 (RdPost w0 ((rdE refSg f).1 (sk l)))) (w : World) :
    Calls Tryz.prog 8 #[.string (bs l)] w (ParsePost w (parseG l).1 (parseG l).2) := by
  have hz : ¬ (65536 : Int) < ((bs l).size : Int) := by rw [bs_size]; omega
  have hzn : ¬ 65536 < l.length := by omega
  have hwh := whole_ref l f hf
  have hok := whole_ok l hl
  obtain ⟨W, hW⟩ : ∃ W, w.alloc (.cells #[.int .i64 0, .string ⟨#[]⟩, .slice none 0 0, .slice none 0 0] 26) = W := ⟨_, rfl⟩
  have hRB : RB W w.heap.size (.int .i64 0) (.string ⟨#[]⟩) (.slice none 0 0) (.slice none 0 0) := by rw [← hW]; exact RB.new w
  have hBW : RowKit.Below w.heap.size w W := by rw [← hW]; exact (Below.refl _ w).alloc (Nat.le_refl _) _
  have hWz : W.heap.size = w.heap.size + 1 := by rw [← hW]; simp
  have CR := Lib.hid (hR W)
  have HRB := Lib.hid hRB
  have HBW := Lib.hid hBW
  have HWZ := Lib.hid hWz
  have HP : Hid (parseG l = match wholeG l with | none => (jZero, 2) | some v => (@ite _ (32 < v.depth) _ (jZero, 5) (@ite _ (TwP v) (Classical.propDecidable _) (jZero, 8) (v, 0)))) := Lib.hid (by
    unfold parseG
    rw [if_neg hzn]
    cases wholeG l with
    | none => rfl
    | some v =>
      show _ = _
      by_cases h1 : 32 < v.depth
      · simp only [if_pos h1]
      · simp only [if_neg h1]
        by_cases h2 : TwP v
        · rw [if_pos h2, if_pos ((tw_same v).2 h2)]
        · rw [if_neg h2, if_neg (fun h => h2 ((tw_same v).1 h))])
  clear hR hRB hBW hWz hzn
  obtain ⟨R, hRR⟩ : ∃ R, R = parseG l := ⟨_, rfl⟩
  rw [← hRR]
  have HR := Lib.hid (hRR.trans HP.out)
  clear hRR HP
  rw [hwh] at HR hok
  generalize (rdE refSg f).1 (sk l) = o at *
  clear hwh hf hl
  have hW' := hW
  clear hW
  go_enter Tryz.func8, Tryz.ntmps8
  go_wp2_with (first | (go_at_call 25; (with_reducible refine CR.out.mono ?_); rintro e w3 ⟨k, t, a, n, cc, a2, n2, cc2, rest, ok, rfl, hb3, ho3⟩; have HB3 := Lib.hid hb3; have HO3 := Lib.hid ho3; clear hb3 ho3; refine Hid.out ?_))
  refine Lib.hid ?_
  obtain ⟨W4, hW4⟩ : ∃ W4, w3.alloc (.cells #[.int .i64 k, .string t, .slice a n cc, .slice a2 n2 cc2] 26) = W4 := ⟨_, rfl⟩
  have hb34 : RowKit.Below w3.heap.size w3 W4 := by rw [← hW4]; exact (Below.refl _ w3).alloc (Nat.le_refl _) _
  have hv4 : RB W4 w3.heap.size (.int .i64 k) (.string t) (.slice a n cc) (.slice a2 n2 cc2) := by rw [← hW4]; exact RB.new w3
  have hz4 : W4.heap.size = w3.heap.size + 1 := by rw [← hW4]; simp
  have hx4 := (HRB.out.below HB3.out).below hb34
  have hbw4 : RowKit.Below w.heap.size w W4 := HBW.out.trans ((HB3.out.trans (hb34.mono HB3.out.size)).mono HBW.out.size)
  have HB34 := Lib.hid hb34
  have HV4 := Lib.hid hv4
  have HZ4 := Lib.hid hz4
  have HX4 := Lib.hid hx4
  have HBW4 := Lib.hid hbw4
  clear hb34 hv4 hz4 hx4 hbw4
  cases o with
  | none =>
    have hk : ok = false := HO3.out
    subst hk
    have hR : R = (jZero, 2) := HR.out
    subst hR
    have x0 := HX4.out.c0; have x1 := HX4.out.c1; have x2 := HX4.out.c2; have x3 := HX4.out.c3; have y0 := HX4.out.fr 0; have y1 := HX4.out.fr 1; have y2 := HX4.out.fr 2; have y3 := HX4.out.fr 3
    go_wp2_with fail
    exact rp_end (HX4.out.set4 _ _ _ _) rfl rfl rfl (LV.zero _ _) (HBW4.out.grown (gb_set4 _ w.heap.size _ _ _ _) HBW4.out.size (fun k e => by cases e; exact Nat.le_refl _))
  | some p =>
    obtain ⟨v, r⟩ := p
    obtain ⟨hk, hr, hlv⟩ := HO3.out
    subst hk
    subst hr
    cases r with
    | cons b r' =>
      have hR : R = (jZero, 2) := HR.out
      subst hR
      have he : ¬ (bs (b :: r')).toList = [] := by rw [Lib.toList_data]; simp [bs]
      have he2 : (bs (b :: r')).toList.isEmpty = false := by rw [Lib.toList_data]; rfl
      have x0 := HX4.out.c0; have x1 := HX4.out.c1; have x2 := HX4.out.c2; have x3 := HX4.out.c3; have y0 := HX4.out.fr 0; have y1 := HX4.out.fr 1; have y2 := HX4.out.fr 2; have y3 := HX4.out.fr 3
      go_wp2_with fail
      exact rp_end (HX4.out.set4 _ _ _ _) rfl rfl rfl (LV.zero _ _) (HBW4.out.grown (gb_set4 _ w.heap.size _ _ _ _) HBW4.out.size (fun k e => by cases e; exact Nat.le_refl _))
    | nil =>
      have he : (bs []).toList = [] := by rw [Lib.toList_data]; rfl
      have he2 : (bs []).toList.isEmpty = true := by rw [he]; rfl
      have hsz := (hok v rfl).1
      have hlv4 : LV W4 (fun b => W.heap.size < b ∧ b < w3.heap.size) v (.int .i64 k) (.string t) (.slice a n cc) (.slice a2 n2 cc2) := LV.move (fun b hb hs => ⟨HB34.out.block b hb, hs⟩) v hlv
      have CD := Lib.hid (rdepth_any v.size v k t a n cc a2 n2 cc2 W4 (Nat.le_refl _) hsz hlv4)
      have HLV := Lib.hid hlv4
      have HSZ := Lib.hid hsz
      have x0 := HX4.out.c0; have x1 := HX4.out.c1; have x2 := HX4.out.c2; have x3 := HX4.out.c3; have y0 := HX4.out.fr 0; have y1 := HX4.out.fr 1; have y2 := HX4.out.fr 2; have y3 := HX4.out.fr 3
      have v0 := HV4.out.c0; have v1 := HV4.out.c1; have v2 := HV4.out.c2; have v3 := HV4.out.c3
      clear hlv hlv4 hsz hok
      by_cases hd : 32 < v.depth
      · have hR : R = (jZero, 5) := HR.out.trans (if_pos hd)
        subst hR
        have hdz : (32 : Int) < (v.depth : Int) := by omega
        go_wp2_with (go_at_call 20; (with_reducible refine CD.out.mono ?_); rintro e w5 ⟨rfl, hb5⟩; have hX5 := HX4.out.below hb5; have HB5 : Hid (RowKit.Below w.heap.size w w5) := Lib.hid (HBW4.out.trans (hb5.mono HBW4.out.size)); clear hb5 x0 x1 x2 x3 y0 y1 y2 y3; have x0 := hX5.c0; have x1 := hX5.c1; have x2 := hX5.c2; have x3 := hX5.c3; have y0 := hX5.fr 0; have y1 := hX5.fr 1; have y2 := hX5.fr 2; have y3 := hX5.fr 3; have HX5 := Lib.hid hX5; clear hX5; refine Hid.out ?_)
        refine Lib.hid ?_
        go_wp2_with fail
        exact rp_end (HX5.out.set4 _ _ _ _) rfl rfl rfl (LV.zero _ _) (HB5.out.grown (gb_set4 _ w.heap.size _ _ _ _) HB5.out.size (fun k e => by cases e; exact Nat.le_refl _))
      · have hdz : ¬ (32 : Int) < (v.depth : Int) := by omega
        have HR2 := Lib.hid (HR.out.trans (if_neg hd))
        go_wp2_with (go_at_call 20; (with_reducible refine CD.out.mono ?_); rintro e w5 ⟨rfl, hb5⟩; have HB45 := Lib.hid hb5; clear hb5; refine Hid.out ?_)
        refine Lib.hid ?_
        have hX5 := HX4.out.below HB45.out
        have hV5 := HV4.out.below HB45.out
        have HB5 : Hid (RowKit.Below w.heap.size w w5) := Lib.hid (HBW4.out.trans (HB45.out.mono HBW4.out.size))
        have hlv5 : LV w5 (fun b => W.heap.size < b ∧ b < w3.heap.size) v (.int .i64 k) (.string t) (.slice a n cc) (.slice a2 n2 cc2) := LV.move (fun b hb hs => ⟨HB45.out.block b hb, hs⟩) v HLV.out
        have CT := Lib.hid (twice_any v.size v k t a n cc a2 n2 cc2 w5 (Nat.le_refl _) HSZ.out hlv5)
        have HLV5 := Lib.hid hlv5
        have HX5 := Lib.hid hX5
        have HV5 := Lib.hid hV5
        clear x0 x1 x2 x3 y0 y1 y2 y3 v0 v1 v2 v3 hlv5
        have v0 := hV5.c0; have v1 := hV5.c1; have v2 := hV5.c2; have v3 := hV5.c3
        clear hX5 hV5
        by_cases ht : TwP v
        · have hR : R = (jZero, 8) := HR2.out.trans (if_pos ht)
          subst hR
          rw [twV_t ht] at CT
          go_wp2_with (go_at_call 26; (with_reducible refine CT.out.mono ?_); rintro e w6 ⟨rfl, hb6⟩; have hX6 := HX5.out.below hb6; have HB6 : Hid (RowKit.Below w.heap.size w w6) := Lib.hid (HB5.out.trans (hb6.mono HB5.out.size)); clear hb6; have x0 := hX6.c0; have x1 := hX6.c1; have x2 := hX6.c2; have x3 := hX6.c3; have y0 := hX6.fr 0; have y1 := hX6.fr 1; have y2 := hX6.fr 2; have y3 := hX6.fr 3; have HX6 := Lib.hid hX6; clear hX6; refine Hid.out ?_)
          refine Lib.hid ?_
          go_wp2_with fail
          exact rp_end (HX6.out.set4 _ _ _ _) rfl rfl rfl (LV.zero _ _) (HB6.out.grown (gb_set4 _ w.heap.size _ _ _ _) HB6.out.size (fun k e => by cases e; exact Nat.le_refl _))
        · have hR : R = (v, 0) := HR2.out.trans (if_neg ht)
          subst hR
          rw [twV_f ht] at CT
          go_wp2_with (go_at_call 26; (with_reducible refine CT.out.mono ?_); rintro e w6 ⟨rfl, hb6⟩; have hX6 := HX5.out.below hb6; have hV6 := HV5.out.below hb6; have HB6 : Hid (RowKit.Below w.heap.size w w6) := Lib.hid (HB5.out.trans (hb6.mono HB5.out.size)); have HLV6 : Hid (LV w6 (fun b => W.heap.size < b ∧ b < w3.heap.size) v (.int .i64 k) (.string t) (.slice a n cc) (.slice a2 n2 cc2)) := Lib.hid (LV.move (fun b hb hs => ⟨hb6.block b hb, hs⟩) v HLV5.out); have HSS : Hid (w5.heap.size ≤ w6.heap.size) := Lib.hid hb6.size; clear hb6 v0 v1 v2 v3; have x0 := hX6.c0; have x1 := hX6.c1; have x2 := hX6.c2; have x3 := hX6.c3; have y0 := hX6.fr 0; have y1 := hX6.fr 1; have y2 := hX6.fr 2; have y3 := hX6.fr 3; have v0 := hV6.c0; have v1 := hV6.c1; have v2 := hV6.c2; have v3 := hV6.c3; have HX6 := Lib.hid hX6; clear hX6 hV6; refine Hid.out ?_)
          refine Lib.hid ?_
          go_wp2_with fail
          refine rp_end (HX6.out.set4 _ _ _ _) rfl rfl rfl ?_ (HB6.out.grown (gb_set4 _ w.heap.size _ _ _ _) HB6.out.size (fun k e => by cases e; exact Nat.le_refl _))
          refine LV.move (fun b hb hs => ⟨(gb_set4 w6 w.heap.size _ _ _ _).block b hb (by have := hs.1; have := HBW.out.size; intro e; cases e; omega), by have := hs.1; have := HBW.out.size; omega, ?_⟩) v HLV6.out
          have h1 := (gb_set4 w6 w.heap.size (.int .i64 k) (.string t) (.slice a n cc) (.slice a2 n2 cc2)).size
          omega
end Go.Proofs.YtaniebkfgkhgoaaGreatDoor
