/- Layer 8: add, New, Make. -/
import Derived.Test.YtagdhghjcibfbaaGreatInL
namespace Go.Proofs.YtagdhghjcibfbaaGreat
open Go.RowKit
set_option linter.unusedVariables false
set_option linter.unusedSectionVars false
set_option maxRecDepth 100000

/-- An inode comes: its number is fresh, its blocks are no other's. -/
theorem TbAt.comes {w w' : World} {t : Nat} {T : Tb} {A : Int → Nat × Nat} {mb : Nat} (h : TbAt w t T A mb) (id : Int) (n : Nd) (nb kb : Nat) (hf : aget id T.nodes = none) (g : Ch (fun k => k = mb) w w') (h1 : ∀ k, Own t mb A T.nodes k → k ≠ nb) (h2 : ∀ k, Own t mb A T.nodes k → k ≠ kb)
    (hnb : NB w' nb (.bool n.dir) (.int .i64 n.links) (.int .i64 n.holds) (.string (bs n.data)) (.map (if n.dir then some kb else none))) (hkb : n.dir = true → MapS w' kb n.names)
    (hb : MapI w' mb (aput ltI id nb (nodePairs A T.nodes))) : TbAt w' t { T with nodes := aput ltI id n T.nodes } (fun x => if x = id then (nb, kb) else A x) mb := by
  have get : ∀ i x, aget i (aput ltI id n T.nodes) = some x → (i = id ∧ x = n) ∨ (i ≠ id ∧ aget i T.nodes = some x) := fun i x hx => by
    rw [aget_put] at hx
    split at hx
    · next e => cases hx; exact .inl ⟨e, rfl⟩
    · next e => exact .inr ⟨e, hx⟩
  have o1 : ∀ i x, aget i T.nodes = some x → (A i).1 ≠ nb := fun i x hx => h1 _ (.inr (.inr ⟨i, x, hx, .inl rfl⟩))
  have o2 : ∀ i x, aget i T.nodes = some x → x.dir = true → (A i).2 ≠ kb := fun i x hx hd => h2 _ (.inr (.inr ⟨i, x, hx, .inr ⟨hd, rfl⟩⟩))
  refine ⟨h.tb.ch g h.t_mb, ?_, fun i x hx => ?_, fun i x hx hd => ?_, fun i j x y hx hy hne => ?_, fun i j x y hx hy dx dy hne => ?_, fun i x hx dx => ?_⟩
  · show MapI w' mb (nodePairs _ (aput ltI id n T.nodes))
    have e : nodePairs (fun x => if x = id then (nb, kb) else A x) (aput ltI id n T.nodes) = aput ltI id (nb : Int) (nodePairs A T.nodes) := by
      unfold aput nodePairs
      rw [ains_map (fun p : Int × Nd => (((if p.1 = id then (nb, kb) else A p.1).1 : Nat) : Int)), adel_map (fun p : Int × Nd => (((if p.1 = id then (nb, kb) else A p.1).1 : Nat) : Int))]
      simp only [if_true]
      have e2 : (T.nodes.map fun p => (p.1, (((if p.1 = id then (nb, kb) else A p.1).1 : Nat) : Int))) = T.nodes.map fun p => (p.1, ((A p.1).1 : Int)) :=
        List.map_congr_left fun p hp => by rw [if_neg (aget_none.1 hf p hp)]
      rw [e2]
    rw [e]; exact hb
  · rcases get i x hx with ⟨e1, e2⟩ | ⟨hne, gx⟩
    · rw [e1, e2]; simp only [if_true]; exact hnb
    · simp only [if_neg hne]; exact (h.nd i x gx).ch g (map_nb h.mp (h.nd i x gx))
  · rcases get i x hx with ⟨e1, e2⟩ | ⟨hne, gx⟩
    · rw [e1, e2]; simp only [if_true]; exact hkb (e2 ▸ hd)
    · simp only [if_neg hne]; exact map_ch (h.nm i x gx hd) g (h.sep3 i x gx hd)
  · rcases get i x hx with ⟨e1, e2⟩ | ⟨hi, gx⟩ <;> rcases get j y hy with ⟨e3, e4⟩ | ⟨hj, gy⟩
    · exact absurd (e1.trans e3.symm) hne
    · simp only [if_pos e1, if_neg hj]; exact fun e => o1 _ _ gy e.symm
    · simp only [if_pos e3, if_neg hi]; exact o1 _ _ gx
    · simp only [if_neg hi, if_neg hj]; exact h.sep1 _ _ _ _ gx gy hne
  · rcases get i x hx with ⟨e1, e2⟩ | ⟨hi, gx⟩ <;> rcases get j y hy with ⟨e3, e4⟩ | ⟨hj, gy⟩
    · exact absurd (e1.trans e3.symm) hne
    · simp only [if_pos e1, if_neg hj]; exact fun e => o2 _ _ gy dy e.symm
    · simp only [if_pos e3, if_neg hi]; exact o2 _ _ gx dx
    · simp only [if_neg hi, if_neg hj]; exact h.sep2 _ _ _ _ gx gy dx dy hne
  · rcases get i x hx with ⟨e1, e2⟩ | ⟨hi, gx⟩
    · simp only [if_pos e1]; exact fun e => h2 _ (.inr (.inl rfl)) e.symm
    · simp only [if_neg hi]; exact h.sep3 _ _ gx dx

/-- What an act leaves that may lay blocks of its own. -/
structure LeftX (w : World) (t : Nat) (T T' : Tb) (A : Int → Nat × Nat) (mb : Nat) (A' : Int → Nat × Nat) (w' : World) : Prop where
  tab : TbAt w' t T' A' mb
  ch : Ch (Own t mb A T.nodes) w w'
  old : ∀ x, aget x T.nodes ≠ none → A' x = A x
  own : ∀ k, Own t mb A' T'.nodes k → Own t mb A T.nodes k ∨ New w w' k

section
variable {w : World} {t : Nat} {T : Tb} {A : Int → Nat × Nat} {mb : Nat} (h : TbAt w t T A mb) (ok : Ok T) (hfr : aget (T.last + 1) T.nodes = none)
include h ok hfr
set_option maxHeartbeats 1000000 in
theorem add_any (isDir : Bool) :
    Calls Tryz.prog 23 #[.pointer (some ⟨t, 0, none⟩), .bool isDir] w fun e w' =>
      e = .returned (.int .i64 (T.last + 1)) ∧ ∃ A', LeftX w t T (T.add isDir) A mb A' w' := by
  have hq := ok.quo
  have hla := ok.last
  have hlen := ok.len
  have hlI : InI (T.last + 1) := by unfold InI; omega
  have w1 : IntKind.i64.wrap (T.last + 1) = T.last + 1 := IntWalk.i64_in _ (by omega)
  have w2 : IntKind.i64.wrap (T.used + 64) = T.used + 64 := IntWalk.i64_in _ (by omega)
  have hlt : ∀ k, Own t mb A T.nodes k → k < w.heap.size := fun k hk => h.lt hk
  -- the new blocks
  obtain ⟨W1, hW1⟩ : ∃ W1, w.alloc (.cells #[.bool isDir, .int .i64 1, .int .i64 0, .string ⟨#[]⟩, .map none] 67) = W1 := ⟨_, rfl⟩
  have g1 : Ch (fun _ => False) w W1 := by rw [← hW1]; exact Ch.alloc _ _
  have s1 : W1.heap.size = w.heap.size + 1 := by rw [← hW1]; simp
  have n1 : NB W1 w.heap.size (.bool isDir) (.int .i64 1) (.int .i64 0) (.string ⟨#[]⟩) (.map none) := by rw [← hW1]; exact NB.new w
  have h1 : TbAt W1 t T A mb := h.ch g1 (fun _ _ e => e)
  have STEP : Hid (∀ W4, TbAt W4 t ⟨T.quota, T.used, T.last + 1, T.nodes⟩ A mb → ∃ W5, (Instr.mapUpdate 57 (.map (some mb)) (.int .i64 (T.last + 1)) (ptrB w.heap.size)).run Tryz.prog W4 = .ok () W5 ∧
      MapI W5 mb (aput ltI (T.last + 1) w.heap.size (nodePairs A T.nodes)) ∧ W4.mapTurned W5 mb) :=
    Lib.hid fun W4 h4 => h4.mp.put (by rw [nodes_len]; show T.nodes.length < maxLen; unfold maxLen; omega) hlI w.heap.size
  have FIN : Hid (∀ (W4 W5 : World) (kb : Nat), TbAt W4 t ⟨T.quota, T.used, T.last + 1, T.nodes⟩ A mb → (isDir = true → kb = w.heap.size + 1) → NB W4 w.heap.size (.bool isDir) (.int .i64 1) (.int .i64 0) (.string ⟨#[]⟩) (.map (if isDir then some kb else none)) → (isDir = true → MapS W4 kb []) →
      Ch (Own t mb A T.nodes) w W4 → w.heap.size + (if isDir then 2 else 1) ≤ W4.heap.size → kb = w.heap.size + 1 → MapI W5 mb (aput ltI (T.last + 1) w.heap.size (nodePairs A T.nodes)) → W4.mapTurned W5 mb →
      QB W5 t (.int .i64 T.quota) (.int .i64 T.used) (.int .i64 (T.last + 1)) (.map (some mb)) ∧ ∃ A', LeftX w t T (T.add isDir) A mb A' (W5.setCell ⟨t, 1, none⟩ (.int .i64 (T.used + 64)))) := by
    refine Lib.hid fun W4 W5 kb h4 _ hnb hks g4 hsz hkb hmp htu => ?_
    have hc := h4.comes (T.last + 1) ⟨isDir, 1, 0, [], []⟩ w.heap.size kb hfr (Ch.turned (M := fun k => k = mb) htu rfl) (fun k hk => by have := hlt k hk; omega) (fun k hk => by have := hlt k hk; omega)
      (hnb.ch (M := fun k => k = mb) (Ch.turned htu rfl) (fun e => by have := hlt mb (.inr (.inl rfl)); omega)) (fun hd => map_ch (hks hd) (Ch.turned (M := fun k => k = mb) htu rfl) (fun e => by have := hlt mb (.inr (.inl rfl)); omega)) hmp
    have hsz5 : W4.heap.size ≤ W5.heap.size := htu.grown.size
    refine ⟨hc.tb, _, hc.upd_q (Ch.set _ _ _ rfl) hc.tb.s1, (g4.step (Ch.turned htu (.inr (.inl rfl)))).step (Ch.set _ _ _ (.inl rfl)), fun x hx => ?_, fun k hk => ?_⟩
    · rw [if_neg (fun e => hx (by rw [e]; exact hfr))]
    · have hsz6 : (W5.setCell ⟨t, 1, none⟩ (.int .i64 (T.used + 64))).heap.size = W5.heap.size := by simp [World.setCell]
      rcases hk with hk | hk | ⟨i, x, hx, hk⟩
      · exact .inl (.inl hk)
      · exact .inl (.inr (.inl hk))
      · change aget i (aput ltI (T.last + 1) ⟨isDir, 1, 0, [], []⟩ T.nodes) = some x at hx
        rw [aget_put] at hx
        by_cases e : i = T.last + 1
        · rw [if_pos e] at hx
          cases hx
          simp only [if_pos e] at hk
          right
          unfold New
          rw [hsz6]
          rcases hk with rfl | ⟨hd, rfl⟩
          · split at hsz <;> omega
          · rw [if_pos hd] at hsz
            omega
        · rw [if_neg e] at hx
          simp only [if_neg e] at hk
          exact .inl (.inr (.inr ⟨i, x, hx, hk⟩))
  have HG1 := Lib.hid g1
  have HN1 := Lib.hid n1
  have H1 := Lib.hid h1
  have HS1 := Lib.hid s1
  clear g1 n1 h1 s1 hq hla hlen hlI hlt
  have hnbt : Hid (w.heap.size ≠ t) := Lib.hid (fun e => by have := h.tb.lt; omega)
  clear hfr
  cases isDir
  case false =>
    have q2 := H1.out.tb.c2
    have qf := H1.out.tb.fr 2
    obtain ⟨W3, hW3⟩ : ∃ W3, W1.setCell ⟨t, 2, none⟩ (.int .i64 (T.last + 1)) = W3 := ⟨_, rfl⟩
    have h3 : TbAt W3 t ⟨T.quota, T.used, T.last + 1, T.nodes⟩ A mb := by rw [← hW3]; exact H1.out.upd_q (Ch.set _ _ _ rfl) H1.out.tb.s2
    have g3 : Ch (Own t mb A T.nodes) w W3 := by rw [← hW3]; exact (HG1.out.mono (fun _ _ e => e.elim)).step (Ch.set _ _ _ (.inl rfl))
    have n3 : NB W3 w.heap.size (.bool false) (.int .i64 1) (.int .i64 0) (.string ⟨#[]⟩) (.map none) := by rw [← hW3]; exact HN1.out.ch (Ch.set (M := fun k => k = t) _ _ _ rfl) hnbt.out
    have s3 : W3.heap.size = w.heap.size + 1 := by rw [← hW3]; simp [World.setCell, HS1.out]
    have c2 := h3.tb.c2
    have c3 := h3.tb.c3
    have H3 := Lib.hid h3
    have G3 := Lib.hid g3
    have N3 := Lib.hid n3
    have S3 := Lib.hid s3
    clear h3 g3 n3 s3 h
    go_enter Tryz.func23, Tryz.ntmps23
    go_wp2_with fail
    go_still_tail 9, (by kernel_rfl)
    change wpList _ _ _ _ _ W3.drew
    have H4 : Hid (TbAt W3.drew t ⟨T.quota, T.used, T.last + 1, T.nodes⟩ A mb) := Lib.hid (H3.out.ch (M := fun _ => False) (ch_drew _ _) (fun _ _ e => e))
    have G4 : Hid (Ch (Own t mb A T.nodes) w W3.drew) := Lib.hid (G3.out.step (ch_drew _ _))
    have N4 : Hid (NB W3.drew w.heap.size (.bool false) (.int .i64 1) (.int .i64 0) (.string ⟨#[]⟩) (.map none)) := N3
    have S4 : Hid (W3.drew.heap.size = w.heap.size + 1) := S3
    clear c2 c3 H3 G3 N3 S3
    generalize W3.drew = W4 at *
    obtain ⟨W5, hrun, hmp, htu⟩ := STEP.out W4 H4.out
    obtain ⟨hq5, A', hX⟩ := FIN.out W4 W5 (w.heap.size + 1) H4.out (fun _ => rfl) N4.out (fun e => by cases e) G4.out (by rw [S4.out]; exact Nat.le_refl _) rfl hmp htu
    have c1 := hq5.c1
    have f1 := hq5.fr 1
    have c2 := (hq5.s1 (y := .int .i64 (T.used + 64))).c2
    have HX := Lib.hid hX
    clear hq5 hX hmp htu
    go_wp2_with fail
    go_ret
    exact ⟨rfl, A', HX.out⟩
  case true =>
    have n4 := HN1.out.c4
    have nf := HN1.out.fr 4
    obtain ⟨W2, hW2⟩ : ∃ W2, (W1.alloc (.map #[] 0)) = W2 := ⟨_, rfl⟩
    have g2 : Ch (fun _ => False) W1 W2 := by rw [← hW2]; exact Ch.alloc _ _
    have m2 : MapS W2 (w.heap.size + 1) [] := by rw [← hW2, ← HS1.out]; exact MapS.made W1
    have s2 : W2.heap.size = w.heap.size + 2 := by rw [← hW2]; simp [HS1.out]
    have n2 : NB W2 w.heap.size (.bool true) (.int .i64 1) (.int .i64 0) (.string ⟨#[]⟩) (.map none) := HN1.out.ch g2 (fun e => e)
    obtain ⟨Wb, hWb⟩ : ∃ Wb, W2.setCell ⟨w.heap.size, 4, none⟩ (.map (some (w.heap.size + 1))) = Wb := ⟨_, rfl⟩
    have nb4 := n2.c4
    have nbf := n2.fr 4
    have gb : Ch (fun k => k = w.heap.size) W2 Wb := by rw [← hWb]; exact Ch.set _ _ _ rfl
    have nb : NB Wb w.heap.size (.bool true) (.int .i64 1) (.int .i64 0) (.string ⟨#[]⟩) (.map (some (w.heap.size + 1))) := by rw [← hWb]; exact n2.s4
    have mbb : MapS Wb (w.heap.size + 1) [] := map_ch m2 gb (by omega)
    have hb : TbAt Wb t T A mb := (H1.out.ch g2 (fun _ _ e => e)).ch gb (fun k hk e => by have := h.lt hk; omega)
    have sb : Wb.heap.size = w.heap.size + 2 := by rw [← hWb]; simp [World.setCell, s2]
    have q2 := hb.tb.c2
    have qf := hb.tb.fr 2
    obtain ⟨W3, hW3⟩ : ∃ W3, Wb.setCell ⟨t, 2, none⟩ (.int .i64 (T.last + 1)) = W3 := ⟨_, rfl⟩
    have h3 : TbAt W3 t ⟨T.quota, T.used, T.last + 1, T.nodes⟩ A mb := by rw [← hW3]; exact hb.upd_q (Ch.set _ _ _ rfl) hb.tb.s2
    have g3 : Ch (Own t mb A T.nodes) w W3 := by
      have e1 : Ch (Own t mb A T.nodes) w W2 := (HG1.out.step g2).mono (fun _ _ e => e.elim)
      have e2 : Ch (Own t mb A T.nodes) w Wb := e1.trans gb (fun x hx e => by omega)
      rw [← hW3]; exact e2.step (Ch.set _ _ _ (.inl rfl))
    have n3 : NB W3 w.heap.size (.bool true) (.int .i64 1) (.int .i64 0) (.string ⟨#[]⟩) (.map (some (w.heap.size + 1))) := by rw [← hW3]; exact nb.ch (Ch.set (M := fun k => k = t) _ _ _ rfl) hnbt.out
    have m3 : MapS W3 (w.heap.size + 1) [] := by rw [← hW3]; exact map_ch mbb (Ch.set (M := fun k => k = t) _ _ _ rfl) (fun e => by have := h.tb.lt; omega)
    have s3 : W3.heap.size = w.heap.size + 2 := by rw [← hW3]; simp [World.setCell, sb]
    have c2 := h3.tb.c2
    have c3 := h3.tb.c3
    have H3 := Lib.hid h3
    have G3 := Lib.hid g3
    have N3 := Lib.hid n3
    have S3 := Lib.hid s3
    have M3 := Lib.hid m3
    have HSZ := HS1.out
    clear h3 g3 n3 s3 m3 h g2 m2 s2 n2 gb nb mbb hb sb
    have hmm := @run_makeMap Tryz.prog
    go_enter Tryz.func23, Tryz.ntmps23
    go_wp2_with fail
    go_still_tail 9, (by kernel_rfl)
    change wpList _ _ _ _ _ W3.drew
    have H4 : Hid (TbAt W3.drew t ⟨T.quota, T.used, T.last + 1, T.nodes⟩ A mb) := Lib.hid (H3.out.ch (M := fun _ => False) (ch_drew _ _) (fun _ _ e => e))
    have G4 : Hid (Ch (Own t mb A T.nodes) w W3.drew) := Lib.hid (G3.out.step (ch_drew _ _))
    have N4 : Hid (NB W3.drew w.heap.size (.bool true) (.int .i64 1) (.int .i64 0) (.string ⟨#[]⟩) (.map (some (w.heap.size + 1)))) := N3
    have S4 : Hid (W3.drew.heap.size = w.heap.size + 2) := S3
    have M4 : Hid (MapS W3.drew (w.heap.size + 1) []) := M3
    clear M3
    clear c2 c3 H3 G3 N3 S3
    generalize W3.drew = W4 at *
    obtain ⟨W5, hrun, hmp, htu⟩ := STEP.out W4 H4.out
    obtain ⟨hq5, A', hX⟩ := FIN.out W4 W5 (w.heap.size + 1) H4.out (fun _ => rfl) N4.out (fun _ => M4.out) G4.out (by rw [S4.out]; exact Nat.le_refl _) rfl hmp htu
    have c1 := hq5.c1
    have f1 := hq5.fr 1
    have c2 := (hq5.s1 (y := .int .i64 (T.used + 64))).c2
    have HX := Lib.hid hX
    clear hq5 hX hmp htu
    go_wp2_with fail
    go_ret
    exact ⟨rfl, A', HX.out⟩
end
end Go.Proofs.YtagdhghjcibfbaaGreat
