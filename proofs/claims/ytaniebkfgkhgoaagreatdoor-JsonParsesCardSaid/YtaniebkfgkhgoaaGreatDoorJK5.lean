/- The contract of put, of an object. -/
import Derived.Test.YtaniebkfgkhgoaaGreatDoorJ4
namespace Go.Proofs.YtaniebkfgkhgoaaGreatDoor
open Go.RowKit
set_option linter.unusedVariables false
set_option maxRecDepth 100000
variable {X : Nat → Prop}

set_option maxHeartbeats 16000000 in
theorem put_obj (l : List UInt8) (hl : l.length ≤ 500000) (P : Nat) (F : Fr) (hF : F.obj = true) (K : List Fr) (hFn : F.els.length ≤ 500000) (sv : Value) (R : List Value) (v : JV) (k0 : Int) (t0 : ByteArray) (a0 : Option Addr) (n0 c0 : Nat) (a2 : Option Addr) (n2 c2 : Nat) (w0 w : World) (hT : Tab5 w0) (h : PS X w0 w P l (F :: K) sv R)
    (hv : LV w (free (blks P sv R) X) v (.int .i64 k0) (.string t0) (.slice a0 n0 c0) (.slice a2 n2 c2)) :
    Calls Tryz.prog 44 #[.pointer (some ⟨P, 0, none⟩), .agg #[.int .i64 k0, .string t0, .slice a0 n0 c0, .slice a2 n2 c2]] w (OutPost (X := X) w0 w P (blks P sv R) (putG v F K l)) := by
  obtain ⟨i0, hi, hz0, hz1, hz2⟩ := info_parts info_val
  obtain ⟨i1, gi, gz0, gz1, gz2⟩ := info_parts info_fld
  obtain ⟨W, hW⟩ : ∃ W, W = (w.alloc (.cells #[.int .i64 k0, .string t0, .slice a0 n0 c0, .slice a2 n2 c2] 26)).alloc (.cells #[.int .i64 0, .string ⟨#[]⟩, .slice none 0 0, .slice none 0 0] 26) := ⟨_, rfl⟩
  have hWb : Below w.heap.size w W := by rw [hW]; exact ((Below.refl _ _).alloc (Nat.le_refl _) _).alloc (by simp) _
  have HWZ : Hid (W.heap.size = w.heap.size + 2) := by show W.heap.size = _; rw [hW]; simp
  have HA : Hid (RB W w.heap.size (.int .i64 k0) (.string t0) (.slice a0 n0 c0) (.slice a2 n2 c2)) := by
    show RB W _ _ _ _ _
    rw [hW]; exact RB.below (RB.new w) ((Below.refl _ _).alloc (Nat.le_refl _) _)
  have HB : Hid (RB W (w.heap.size + 1) (.int .i64 0) (.string ⟨#[]⟩) (.slice none 0 0) (.slice none 0 0)) := by
    show RB W _ _ _ _ _
    rw [hW, show w.heap.size + 1 = (w.alloc (.cells #[.int .i64 k0, .string t0, .slice a0 n0 c0, .slice a2 n2 c2] 26)).heap.size by simp]; exact RB.new _
  have H := Lib.hid h
  have hE := h.enter hWb
  have HW := Lib.hid hE
  have HWB := Lib.hid hWb
  have HV := Lib.hid (LV.move (S' := free (blks P sv R) (newer X w W)) (fun b hb hs => ⟨hWb.block b hb, free_newer hb hs⟩) v hv)
  obtain ⟨g, cap, rv, R', rfl, rfl, hcap, hcm, hgP, hg0, hc, hf⟩ := hE.top
  have hr := hE.rows
  simp only [Rows] at hr
  obtain ⟨⟨cs, ho, he⟩, hrest⟩ := hr
  obtain ⟨ra, rc, rfl⟩ := own_shape ho
  have HO := Lib.hid ho
  have HE := Lib.hid he
  have q0 := hc 0 _ rfl
  rw [Nat.add_zero] at q0
  have Q2 := Lib.hid (hc 2 _ rfl)
  have Q3 := Lib.hid (hc 3 _ rfl)
  have Q5 := Lib.hid (hc 5 _ rfl)
  have HF := Lib.hid (hf (K.length * 6 + 2))
  have HF3 := Lib.hid (hf (K.length * 6 + 3))
  have p1 := hE.blk.c1
  have b0 := HA.out.c0
  have b1 := HA.out.c1
  have b2 := HA.out.c2
  have b3 := HA.out.c3
  have hgl : g < W.heap.size := World.block_lt_of_cell? W _ q0
  have hbl : w.heap.size < W.heap.size := by have := HWZ.out; omega
  have e0 : ∀ o, (W.alloc o).cell? ⟨w.heap.size, 0, none⟩ = some (.int .i64 k0) := fun o => (World.cell?_alloc_lt W o ⟨w.heap.size, 0, none⟩ hbl).trans b0
  have e1 : ∀ o, (W.alloc o).cell? ⟨w.heap.size, 1, none⟩ = some (.string t0) := fun o => (World.cell?_alloc_lt W o ⟨w.heap.size, 1, none⟩ hbl).trans b1
  have e2 : ∀ o, (W.alloc o).cell? ⟨w.heap.size, 2, none⟩ = some (.slice a0 n0 c0) := fun o => (World.cell?_alloc_lt W o ⟨w.heap.size, 2, none⟩ hbl).trans b2
  have e3 : ∀ o, (W.alloc o).cell? ⟨w.heap.size, 3, none⟩ = some (.slice a2 n2 c2) := fun o => (World.cell?_alloc_lt W o ⟨w.heap.size, 3, none⟩ hbl).trans b3
  clear hv h hE hc ho he hWb hrest hf
  have HFF := Lib.hid hF
  clear hF
  generalize hk : K.length = k at *
  have HK := Lib.hid hk
  generalize hnn : F.els.length = n at *
  have HNN := Lib.hid hnn
  clear hk hnn
  go_enter Tryz.func44, Tryz.ntmps44
  have hW' := hW.symm
  clear hW
  have hni : (n : Int) < (n : Int) + 1 := by omega
  go_upto_if 26 with fail
  go_cut [] (fun wx => AddedR (X := newer X w W) w0 W P l F v K (.slice (some ⟨g, 0, none⟩) (k + 1) cap) (.slice ra n rc) R' wx)
  case first =>
   have hel : elCells F (.int .i64 k0) (.string t0) (.slice a0 n0 c0) (.slice a2 n2 c2) = if F.obj then [.string F.name, .int .i64 k0, .string t0, .slice a0 n0 c0, .slice a2 n2 c2] else [.int .i64 k0, .string t0, .slice a0 n0 c0, .slice a2 n2 c2] := rfl
   have HEL := Lib.hid hel
   clear hel
   have HO' := HO
   rw [HFF.out] at HO'
   change Hid (W.ownsRow w0.heap.size 51 5 _ _ _) at HO'
   have HCL := Lib.hid HO'.out.1
   have hkd : frKind F = 7 := by unfold frKind; rw [HFF.out]; rfl
   have q2 := Q3.out
   rw [show frFlds F (.slice ra n rc) = .slice ra n rc by unfold frFlds; rw [HFF.out]; rfl] at q2
   have hca : ∀ o, (W.alloc o).cell? ⟨g, k * 6 + 3, none⟩ = some (.slice ra n rc) := fun o => (World.cell?_alloc_lt W o ⟨g, _, none⟩ hgl).trans q2
   have q5 := Q5.out
   have hcb : ∀ o, (W.alloc o).cell? ⟨g, k * 6 + 5, none⟩ = some (.string F.name) := fun o => (World.cell?_alloc_lt W o ⟨g, _, none⟩ hgl).trans q5
   go_wp2_with fail
   go_region_law (refine step_append_lies _ (by rfl) _ _ _ (by rfl) w0.heap.size 51 i1 _ 5 88 Tryz.underlying24 gi gz0 gz1 gz2 rfl (by omega) (.slice ra n rc) n cs (by rfl) ((HO'.out.alloc _).drew) ⟨W.heap.size, 0, none⟩ 1 1 [.string ⟨#[]⟩, .int .i64 0, .string ⟨#[]⟩, .slice none 0 0, .slice none 0 0] (by rfl) (by rfl) (World.news_of_block (cs := #[.string ⟨#[]⟩, .int .i64 0, .string ⟨#[]⟩, .slice none 0 0, .slice none 0 0]) (t := 51) (fr := (0, 0)) (heap_alloc_new W _)) (by simp [Value.oneCell']) (by omega) (by unfold maxLen; omega) (by omega) (by have := HW.out.below.size; simp; omega) (W.heap.size + 1) (by simp) ?_; intro gg cap' w1 hown1 hgrow hat hltt; have kp := put_keep H.out HW.out HA.out hgl HF3.out q2 _ _ hgrow; have fw := kp.1; have cw := kp.2.1; have u0 := RB.c0 kp.2.2; have u1 := RB.c1 kp.2.2; have u2 := RB.c2 kp.2.2; have u3 := RB.c3 kp.2.2; clear kp; have v0 := hown1.frozenAt (n * 5); have v1 := hown1.frozenAt (n * 5 + 1); have v2 := hown1.frozenAt (n * 5 + 2); have v3 := hown1.frozenAt (n * 5 + 3); have v4 := hown1.frozenAt (n * 5 + 4); have y0 := new_cell hown1 HO'.out.1 0 (by omega) _ rfl; have y1 := new_cell hown1 HO'.out.1 1 (by omega) _ rfl; have y2 := new_cell hown1 HO'.out.1 2 (by omega) _ rfl; have y3 := new_cell hown1 HO'.out.1 3 (by omega) _ rfl; have y4 := new_cell hown1 HO'.out.1 4 (by omega) _ rfl; rw [Nat.add_zero] at y0; have hne : g ≠ gg := (by rcases hat with e | e; exact (fun e' => HW.out.apart.2.2 _ (by simp) gg e (by rw [e']; rfl)); omega); have cw3 := fun a b c d => cell_past (cell_past (cell_past (cell_past cw hne (n * 5) a) hne (n * 5 + 1) b) hne (n * 5 + 2) c) hne (n * 5 + 3) d)
   all_goals go_wp2_with fail
   all_goals go_meet
   all_goals first | (with_reducible exact AddedR.of5 HFF.out HW.out HE.out HV.out HK.out HNN.out HCL.out hown1 hgrow hat) | (with_reducible exact AddedR.of5b hne HFF.out HW.out HE.out HV.out HK.out HNN.out HCL.out hown1 hgrow hat)
  case rest =>
   obtain ⟨gg, nn, cap', HP0, hch, hsub⟩ := hcut
   have HP := Lib.hid HP0
   have HCH := Lib.hid hch
   have HSUB := Lib.hid hsub
   have m4 : wc.cell? ⟨g, k * 6 + 4, none⟩ = some (.int .u8 F.mark.toNat) := HP0.cells HK.out 4 _ rfl
   have HNB : Hid (w.heap.size + 1 ∉ blks P (.slice (some ⟨g, 0, none⟩) (k + 1) cap) (.slice ra n rc :: R')) := fun e => by have := (H.out.lt _ e).1; omega
   have HZC : Hid (RB wc (w.heap.size + 1) (.int .i64 0) (.string ⟨#[]⟩) (.slice none 0 0) (.slice none 0 0)) := hch.heap HB.out HNB.out
   have hwl : w.heap.size + 1 < W.heap.size := by have := HWZ.out; omega
   have HNB2 : Hid (w.heap.size + 1 ∉ blks P (.slice (some ⟨g, 0, none⟩) (k + 1) cap) (.slice (some ⟨gg, 0, none⟩) nn cap' :: R')) := fun e => by
     rcases hsub _ e with e | e
     · exact HNB.out e
     · omega
   have hwP : w.heap.size + 1 ≠ P := by have := H.out.blk.lt; omega
   have HWP := Lib.hid hwP
   have HZP : Hid (∀ w5, wc.grownBy w5 (some P) → RB w5 (w.heap.size + 1) (.int .i64 0) (.string ⟨#[]⟩) (.slice none 0 0) (.slice none 0 0)) := fun w5 g5 => HZC.out.gb g5 (by simpa using hwP)
   clear HP0 hch hsub hwP b0 b1 b2 b3 q0 p1 e0 e1 e2 e3 hW' hni
   generalize hmk : (F.mark.toNat : Int) = mk at m4
   have HMK := Lib.hid hmk
   clear hmk
   cases hm : takeG F.mark l with
   | some r =>
     have CT : Hid (∀ wx, PB wx P (bs l) (.slice (some ⟨g, 0, none⟩) (k + 1) cap) → Calls Tryz.prog 68 #[.pointer (some ⟨P, 0, none⟩), .int .u8 mk] wx fun e w' => e = .returned (.bool true) ∧ PB w' P (bs r) (.slice (some ⟨g, 0, none⟩) (k + 1) cap) ∧ wx.grownBy w' (some P)) := fun wx hx => by rw [← HMK.out]; exact take_yes F.mark l r hm (by omega) P _ wx hx
     have HOG : Hid (putG v F K l = .val (F.add v).close r K) := by show putG v F K l = _; unfold putG; rw [hm]
     obtain ⟨⟨la, ln, lc, hL⟩, ⟨fa, fn, fc, hFl⟩⟩ := fr_shape (F.add v) (some ⟨gg, 0, none⟩) nn cap'
     have HKC : Hid (∀ w5, PS (newer X w W) w0 w5 P r (F.add v :: K) (.slice (some ⟨g, 0, none⟩) (k + 1) cap) (.slice (some ⟨gg, 0, none⟩) nn cap' :: R') → w5.cell? ⟨g, k * 6, none⟩ = some (.int .i64 (frKind (F.add v))) ∧ w5.cell? ⟨g, k * 6 + 1, none⟩ = some (.string ⟨#[]⟩) ∧ w5.cell? ⟨g, k * 6 + 2, none⟩ = some (.slice la ln lc) ∧ w5.cell? ⟨g, k * 6 + 3, none⟩ = some (.slice fa fn fc)) := fun w5 h5 =>
       ⟨h5.cells HK.out 0 _ rfl, h5.cells HK.out 1 _ rfl, by rw [← hL]; exact h5.cells HK.out 2 _ rfl, by rw [← hFl]; exact h5.cells HK.out 3 _ rfl⟩
     have HLV : Hid (∀ w5, PS (newer X w W) w0 w5 P r (F.add v :: K) (.slice (some ⟨g, 0, none⟩) (k + 1) cap) (.slice (some ⟨gg, 0, none⟩) nn cap' :: R') →
         PS (newer X w W) w0 (w5.setCell ⟨P, 1, none⟩ (.slice (some ⟨g, 0, none⟩) k cap)) P r K (.slice (some ⟨g, 0, none⟩) k cap) R' ∧
         LV (w5.setCell ⟨P, 1, none⟩ (.slice (some ⟨g, 0, none⟩) k cap)) (free (blks P (.slice (some ⟨g, 0, none⟩) k cap) R') (newer X w W)) (F.add v).close (.int .i64 (frKind (F.add v))) (.string ⟨#[]⟩) (.slice la ln lc) (.slice fa fn fc) ∧
         Ch (· = P) w5 (w5.setCell ⟨P, 1, none⟩ (.slice (some ⟨g, 0, none⟩) k cap)) ∧ (∀ b ∈ blks P (.slice (some ⟨g, 0, none⟩) k cap) R', b ∈ blks P (.slice (some ⟨g, 0, none⟩) (k + 1) cap) (.slice (some ⟨gg, 0, none⟩) nn cap' :: R'))) := fun w5 h5 => by
       rw [← HK.out] at h5 ⊢
       rw [← hL, ← hFl]
       exact h5.closed
     generalize frKind (F.add v) = kd at HKC HLV
     clear hL hFl hm hT HF HF3 Q2 Q3 Q5 HE HO HV
     have hkc : (k : Int) ≤ (cap : Int) := by omega
     have hwP : ¬ (w.heap.size + 1 = P) := HWP.out
     have hwP2 : ¬ (P = w.heap.size + 1) := fun e => HWP.out e.symm
     go_wp2_with (go_at_call 68; (with_reducible refine (CT.out _ HP.out.blk).mono ?_); rintro e w5 ⟨rfl, hp5, hg5⟩; have H5 := Lib.hid (HP.out.text hg5 hp5); have HZ5 := Lib.hid (HZP.out _ hg5); have C5 := Lib.hid (HP.out.inP hg5); have m0 := (HKC.out _ H5.out).1; have m1 := (HKC.out _ H5.out).2.1; have m2 := (HKC.out _ H5.out).2.2.1; have m3 := (HKC.out _ H5.out).2.2.2; have q1 := PB.c1 H5.out.blk; have fp := PB.fr H5.out.blk 1; have hPl := PB.lt H5.out.blk; have hZl := RB.lt HZ5.out; have z0 := RB.c0 HZ5.out; have z1 := RB.c1 HZ5.out; have z2 := RB.c2 HZ5.out; have z3 := RB.c3 HZ5.out; have f0 := RB.fr HZ5.out 0; have f1 := RB.fr HZ5.out 1; have f2 := RB.fr HZ5.out 2; have f3 := RB.fr HZ5.out 3; clear hp5 hg5 m4)
     rw [HOG.out]
     have X5 := HLV.out w5 H5.out
     exact val_end2 (p := 4) (u := 5) rfl HWB.out H.out.below.size (by omega) hwl ((HCH.out.trans C5.out (fun x hx e => (HSUB.out x e).elim id (fun e => absurd hx (by omega)))).trans X5.2.2.1 (fun x _ e => by subst e; simp [blks])) (fun x hx => HSUB.out x (X5.2.2.2 x hx)) X5.1 X5.2.1 (HZ5.out.gb (gb_set w5 ⟨P, 1, none⟩ _) (by simpa using HWP.out)) rfl rfl rfl
   | none =>
     have CT : Hid (∀ wx, PB wx P (bs l) (.slice (some ⟨g, 0, none⟩) (k + 1) cap) → Calls Tryz.prog 68 #[.pointer (some ⟨P, 0, none⟩), .int .u8 mk] wx fun e w' => e = .returned (.bool false) ∧ wx = w') := fun wx hx => by rw [← HMK.out]; exact take_no F.mark l hm P _ wx hx
     have z0 := RB.c0 HZC.out
     have z1 := RB.c1 HZC.out
     have z2 := RB.c2 HZC.out
     have z3 := RB.c3 HZC.out
     have f0 := RB.fr HZC.out 0
     have f1 := RB.fr HZC.out 1
     have f2 := RB.fr HZC.out 2
     have f3 := RB.fr HZC.out 3
     have HMN : Hid (mk ≠ 44) := by
       show mk ≠ 44
       rw [← HMK.out]; unfold Fr.mark; split <;> decide
     cases h4 : takeG 44 l with
     | none =>
       have CN : Hid (∀ wx, PB wx P (bs l) (.slice (some ⟨g, 0, none⟩) (k + 1) cap) → Calls Tryz.prog 68 #[.pointer (some ⟨P, 0, none⟩), .int .u8 44] wx fun e w' => e = .returned (.bool false) ∧ wx = w') := fun wx hx => take_no 44 l h4 P _ wx hx
       have HOG : Hid (putG v F K l = .fail) := by show putG v F K l = _; unfold putG; rw [hm, h4]
       clear hm h4 hT HF HF3 Q2 Q3 Q5 HE HO HV
       go_wp2_with (first
         | (go_at_call_of 68 mk; (with_reducible refine (CT.out _ HP.out.blk).mono ?_); rintro e w5 ⟨rfl, rfl⟩)
         | (go_at_call 68; (with_reducible refine (CN.out _ HP.out.blk).mono ?_); rintro e w5 ⟨rfl, rfl⟩))
       rw [HOG.out]
       exact fail_end (p := 4) (u := 5) rfl HWB.out (by omega) HCH.out HZC.out rfl rfl rfl
     | some r =>
       have hrl : r.length ≤ 500000 := by
         unfold takeG at h4; split at h4
         · cases h4; exact Nat.le_trans (sk_len _) (by rw [List.length_drop]; omega)
         · cases h4
       have CN : Hid (∀ wx, PB wx P (bs l) (.slice (some ⟨g, 0, none⟩) (k + 1) cap) → Calls Tryz.prog 68 #[.pointer (some ⟨P, 0, none⟩), .int .u8 44] wx fun e w' => e = .returned (.bool true) ∧ PB w' P (bs r) (.slice (some ⟨g, 0, none⟩) (k + 1) cap) ∧ wx.grownBy w' (some P)) := fun wx hx => take_yes 44 l r h4 (by omega) P _ wx hx
       have HOG : Hid (putG v F K l = moreG (F.add v) K r) := by show putG v F K l = _; unfold putG; rw [hm, h4]
       have CM : Hid (∀ w5, PS (newer X w W) w0 w5 P r (F.add v :: K) (.slice (some ⟨g, 0, none⟩) (k + 1) cap) (.slice (some ⟨gg, 0, none⟩) nn cap' :: R') → Calls Tryz.prog 71 #[.pointer (some ⟨P, 0, none⟩)] w5 fun e w' => e = .returned (.bool (nameG (F.add v) r).isSome) ∧ Ch (· ∈ blks P (.slice (some ⟨g, 0, none⟩) (k + 1) cap) (.slice (some ⟨gg, 0, none⟩) nn cap' :: R')) w5 w' ∧ ∀ F' r', nameG (F.add v) r = some (F', r') → PS (newer X w W) w0 w' P r' (F' :: K) (.slice (some ⟨g, 0, none⟩) (k + 1) cap) (.slice (some ⟨gg, 0, none⟩) nn cap' :: R')) :=
         fun w5 h5 => name_one r hrl P (F.add v) K _ _ w0 w5 hT h5
       generalize hbb : (nameG (F.add v) r).isSome = bb at CM
       have HBB := Lib.hid hbb
       clear hm h4 hT HF HF3 Q2 Q3 Q5 HE HO HV hbb z0 z1 z2 z3 f0 f1 f2 f3
       go_wp2_with (first
         | (go_at_call_of 68 mk; (with_reducible refine (CT.out _ HP.out.blk).mono ?_); rintro e w5 ⟨rfl, rfl⟩)
         | (go_at_call 68; (with_reducible refine (CN.out _ HP.out.blk).mono ?_); rintro e w5 ⟨rfl, hp5, hg5⟩; have H5 := Lib.hid (HP.out.text hg5 hp5); have HZ5 := Lib.hid (HZP.out _ hg5); have C5 := Lib.hid (HP.out.inP hg5); clear hp5 hg5)
         | (go_at_call 71; (with_reducible refine (CM.out _ H5.out).mono ?_); rintro e w6 ⟨rfl, hc6, h6⟩; have HZ6 := Lib.hid (hc6.heap HZ5.out HNB2.out); have C6 := Lib.hid hc6; have H6 := Lib.hid h6; have z0 := RB.c0 HZ6.out; have z1 := RB.c1 HZ6.out; have z2 := RB.c2 HZ6.out; have z3 := RB.c3 HZ6.out; have f0 := RB.fr HZ6.out 0; have f1 := RB.fr HZ6.out 1; have f2 := RB.fr HZ6.out 2; have f3 := RB.fr HZ6.out 3; clear hc6 h6))
       rw [HOG.out]
       exact more_end (p := 4) (u := 5) rfl HWB.out H.out.below.size (by omega) hwl (HCH.out.trans C5.out (fun x hx e => (HSUB.out x e).elim id (fun e => absurd hx (by omega)))) HSUB.out C6.out H6.out HZ6.out rfl (by rw [HBB.out]; rfl) rfl
end Go.Proofs.YtaniebkfgkhgoaaGreatDoor
