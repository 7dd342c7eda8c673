/- Layer 8: New, Make, Used, List. -/
import Derived.Test.YtagdhghjcibfbaaGreatInO
namespace Go.Proofs.YtagdhghjcibfbaaGreat
open Go.RowKit
set_option linter.unusedVariables false
set_option linter.unusedSectionVars false
set_option maxRecDepth 100000

def Tb.fresh (q : Int) : Tb := (⟨q, 0, 0, []⟩ : Tb).add true
theorem new_no (q : Int) (hq : InI q) (h : q < 64 ∨ 1099511627776 < q) (w : World) :
    Calls Tryz.prog 7 #[.int .i64 q] w fun e w' => e = .returned (.tuple #[.pointer none, .int .i64 1]) ∧ w' = w := by
  by_cases h1 : q < 64
  · clear h
    go_enter Tryz.func7, Tryz.ntmps7
    go_wp2
    go_ret2
    exact ⟨rfl, rfl⟩
  · have h2 : (64 : Int) ≤ q := by omega
    have h3 : (1099511627776 : Int) < q := by omega
    clear h h1
    go_enter Tryz.func7, Tryz.ntmps7
    go_wp2
    go_ret2
    exact ⟨rfl, rfl⟩
theorem new_ok (q : Int) (h1 : 64 ≤ q) (h2 : q ≤ 1099511627776) (w : World) :
    Calls Tryz.prog 7 #[.int .i64 q] w fun e w' => e = .returned (.tuple #[.pointer (some ⟨w.heap.size + 1, 0, none⟩), .int .i64 0]) ∧ Tab w' (w.heap.size + 1) (Tb.fresh q) (New w w') ∧ Below w.heap.size w w' := by
  obtain ⟨W1, hW1⟩ : ∃ W1, (w.alloc (.map #[] 0)) = W1 := ⟨_, rfl⟩
  have s1 : W1.heap.size = w.heap.size + 1 := by rw [← hW1]; simp
  obtain ⟨W2, hW2⟩ : ∃ W2, W1.alloc (.cells #[.int .i64 q, .int .i64 0, .int .i64 0, .map (some w.heap.size)] 59) = W2 := ⟨_, rfl⟩
  have s2 : W2.heap.size = w.heap.size + 2 := by rw [← hW2]; simp [s1]
  have q2 : QB W2 (w.heap.size + 1) (.int .i64 q) (.int .i64 0) (.int .i64 0) (.map (some w.heap.size)) := by rw [← hW2, ← s1]; exact QB.new W1
  have m2 : MapI W2 w.heap.size [] := by
    have m1 : MapI W1 w.heap.size [] := by rw [← hW1]; exact MapI.made w
    rw [← hW2]; exact map_ch m1 (Ch.alloc (M := fun _ => False) _ _) (fun e => e)
  have b2 : Below w.heap.size w W2 := by rw [← hW2, ← hW1]; exact ((Below.refl _ w).alloc (Nat.le_refl _) _).alloc (by simp) _
  have t2 : TbAt W2 (w.heap.size + 1) ⟨q, 0, 0, []⟩ (fun _ => (0, 0)) w.heap.size :=
    ⟨q2, m2, (fun id n hn => by cases hn), (fun id n hn => by cases hn), (fun id id' n n' hn => by cases hn), (fun id id' n n' hn => by cases hn), (fun id n hn => by cases hn)⟩
  have ok : Ok ⟨q, 0, 0, []⟩ := ⟨(fun i n s id hn => by cases hn), (fun id n hn => by cases hn), by show (0 : Int) ≤ 0 ∧ (0 : Int) < _; omega, by show 0 ≤ 4096; omega, (fun id n hn => by cases hn), by show (0 : Int) ≤ 0 ∧ 0 ≤ q ∧ q ≤ _; omega, (fun id n hn => by cases hn), (fun id n hn => by cases hn), (fun id n hn => by cases hn)⟩
  have CA := Lib.hid (add_any t2 ok rfl true)
  have HB := Lib.hid b2
  have HS := Lib.hid s2
  have HS1 := s1
  have hmm := @run_makeMap Tryz.prog
  clear s2 q2 m2 t2 ok b2 s1
  go_enter Tryz.func7, Tryz.ntmps7
  go_wp2_with (go_at_call 23; (with_reducible refine CA.out.mono ?_); rintro e w3 ⟨rfl, A', hx⟩; have HX := Lib.hid hx; clear hx)
  go_ret2
  have hown : ∀ k, Own (w.heap.size + 1) w.heap.size (fun _ => ((0, 0) : Nat × Nat)) ([] : List (Int × Nd)) k → w.heap.size ≤ k ∧ k < w.heap.size + 2 := fun k hk => by
    rcases hk with rfl | rfl | ⟨i, n, hn, _⟩
    · omega
    · omega
    · cases hn
  refine ⟨rfl, ⟨A', _, HX.out.tab, fun k hk => ?_⟩, HX.out.ch.below HB.out HB.out.size (fun x hx hk => by have := hown x hk; omega)⟩
  have hsz := HX.out.ch.size
  rcases HX.out.own k hk with h | h
  · have := hown k h; have := HS.out; unfold New; omega
  · unfold New at *; have := HS.out; omega
section
variable {w : World} {t : Nat} {T : Tb} {A : Int → Nat × Nat} {mb : Nat} (h : TbAt w t T A mb)
include h
theorem used_any : Calls Tryz.prog 12 #[.pointer (some ⟨t, 0, none⟩)] w fun e w' => e = .returned (.int .i64 T.used) ∧ w' = w := by
  have c1 := h.tb.c1
  go_enter Tryz.func12, Tryz.ntmps12
  go_wp2
  go_ret
  exact ⟨rfl, rfl⟩
set_option maxHeartbeats 1000000 in
theorem make_any (ok : Ok T) (hfr : aget (T.last + 1) T.nodes = none) {dir : Int} (hdir : InI dir) (name : List UInt8) (isDir : Bool) :
    Calls Tryz.prog 17 #[.pointer (some ⟨t, 0, none⟩), .int .i64 dir, .string (bs name), .bool isDir] w fun e w' =>
      e = .returned (.tuple #[.int .i64 (if T.mkE dir name = 0 then T.last + 1 else 0), .int .i64 (T.mkE dir name)]) ∧ ∃ A', LeftX w t T (if T.mkE dir name = 0 then T.make dir name isDir else T) A mb A' w' := by
  have HL : Hid (Left w t T T A mb w) := Lib.hid (Left.same h (Below.refl _ _))
  have SAME : Hid (∀ w', Left w t T T A mb w' → ∃ A', LeftX w t T T A mb A' w') := Lib.hid fun w' h => ⟨A, h.tab, h.ch, fun _ _ => rfl, fun k hk => .inl hk⟩
  unfold Tb.mkE
  by_cases hE : T.newE dir name = 0
  case neg =>
    have C := newPlace_no h hdir name hE
    rw [if_neg hE, if_neg hE, if_neg hE]
    have hk2 : (T.newE dir name == 0) = false := by simpa using hE
    have hk3 : (T.newE dir name != 0) = true := by simpa using hE
    clear hE
    generalize T.newE dir name = k at *
    go_enter Tryz.func17, Tryz.ntmps17
    go_wp2_with (go_at_call 46; (with_reducible refine C.mono ?_); rintro e w2 ⟨rfl, hb⟩; replace HL := left_below HL hb; clear hb)
    go_ret2
    exact ⟨rfl, SAME.out _ HL.out⟩
  have C := newPlace_ok h hdir name hE
  obtain ⟨n, hn, hd, hnm, hL⟩ := new_parts hE
  rw [if_pos hE]
  clear hE
  have LN : Hid (∀ w2, TbAt w2 t T A mb → (Builtin.len_ #[57] 3 #[.map (some mb)]).run Tryz.prog w2 = .ok (.int .i64 T.nodes.length) w2) := Lib.hid fun w2 h2 => by rw [h2.mp.len, nodes_len]
  by_cases hF : (4096 : Int) ≤ T.nodes.length
  · rw [if_pos hF, if_neg (by decide), if_neg (by decide)]
    go_enter Tryz.func17, Tryz.ntmps17
    go_wp2_with (go_at_call 46; (with_reducible refine C.mono ?_); rintro e w2 ⟨rfl, hb⟩; replace HL := left_below HL hb; clear hb; refine Hid.out ?_)
    refine Lib.hid ?_
    have q3 := HL.out.tab.tb.c3
    have hln := LN.out _ HL.out.tab
    go_wp2
    go_ret2
    exact ⟨rfl, SAME.out _ HL.out⟩
  rw [if_neg hF]
  have hF2 : (T.nodes.length : Int) < 4096 := by omega
  have hq := ok.quo
  obtain ⟨r, hr⟩ : ∃ r, r = T.quota - T.used := ⟨_, rfl⟩
  have w1 : IntKind.i64.wrap (T.quota - T.used) = r := (IntWalk.i64_in _ (by omega)).trans hr.symm
  have w1' : wrap64 (T.quota - T.used) = r := (IntWalk.wrap64_in _ (by omega)).trans hr.symm
  rw [← hr]
  clear hr
  by_cases hS : (64 : Int) > r
  · rw [if_pos hS, if_neg (by decide), if_neg (by decide)]
    have hS2 : r < 64 := hS
    clear hS hq
    go_enter Tryz.func17, Tryz.ntmps17
    go_wp2_with (go_at_call 46; (with_reducible refine C.mono ?_); rintro e w2 ⟨rfl, hb⟩; replace HL := left_below HL hb; clear hb; refine Hid.out ?_)
    refine Lib.hid ?_
    have q3 := HL.out.tab.tb.c3
    have q0 := HL.out.tab.tb.c0
    have q1 := HL.out.tab.tb.c1
    have hln := LN.out _ HL.out.tab
    go_wp2_with fail
    go_quiet (fail)
    replace HL := left_below HL (below_drewN8 (Below.refl _ _) nq)
    go_wp2_with fail
    go_ret2
    exact ⟨rfl, SAME.out _ HL.out⟩
  rw [if_neg hS, if_pos rfl, if_pos rfl]
  have hS2 : (64 : Int) ≤ r := by omega
  have ADD := Lib.hid (fun (w2 : World) (h2 : TbAt w2 t T A mb) => add_any h2 ok hfr isDir)
  have hne : dir ≠ T.last + 1 := fun e => by rw [← e, hn] at hfr; cases hfr
  have hla := ok.last
  have hls := ok.nln _ _ hn
  have hget : aget dir (T.add isDir).nodes = some n := by
    show aget dir (aput ltI (T.last + 1) _ T.nodes) = some n
    rw [aget_put, if_neg hne]; exact hn
  have hlI : InI (T.last + 1) := by unfold InI; omega
  have STEP : Hid (∀ (w3 : World) (A' : Int → Nat × Nat), TbAt w3 t (T.add isDir) A' mb → ∃ w4, (Instr.mapUpdate 65 (.map (some (A' dir).2)) (.string (bs name)) (.int .i64 (T.last + 1))).run Tryz.prog w3 = .ok () w4 ∧
      TbAt w4 t (T.make dir name isDir) A' mb ∧ Ch (fun k => k = (A' dir).2) w3 w4) := by
    refine Lib.hid fun w3 A' h3 => ?_
    obtain ⟨w4, hrun, hmp, htu⟩ := (h3.nm dir n hget hd).put (by unfold maxLen; omega) (nm_max hnm) hlI
    exact ⟨w4, hrun, h3.upd_nm hget (Nd.putName name (T.last + 1)) hd rfl rfl rfl rfl (Ch.turned (M := fun k => k = (A' dir).2) htu rfl) hmp, Ch.turned htu rfl⟩
  have HG := Lib.hid hget
  clear hq hS hla hls hget hlI hne
  go_enter Tryz.func17, Tryz.ntmps17
  go_wp2_with (go_at_call 46; (with_reducible refine C.mono ?_); rintro e w2 ⟨rfl, hb⟩; replace HL := left_below HL hb; clear hb; refine Hid.out ?_)
  refine Lib.hid ?_
  have q3 := HL.out.tab.tb.c3
  have q0 := HL.out.tab.tb.c0
  have q1 := HL.out.tab.tb.c1
  have hln := LN.out _ HL.out.tab
  go_wp2_with fail
  go_quiet (fail)
  replace HL := left_below HL (below_drewN8 (Below.refl _ _) nq)
  clear q3 q0 q1 hln
  generalize w2.drewN nq = w3 at *
  go_wp2_with (go_at_call 23; (with_reducible refine (ADD.out _ HL.out.tab).mono ?_); rintro e w4 ⟨rfl, A', hx⟩; have HX := Lib.hid hx; clear hx; refine Hid.out ?_)
  refine Lib.hid ?_
  have hAd : A' dir = A dir := HX.out.old dir (by rw [hn]; simp)
  obtain ⟨w5, hrun, h5, g5⟩ := STEP.out w4 A' HX.out.tab
  have c4 := (HX.out.tab.nd dir n HG.out).c4
  rw [hd, hAd] at c4
  simp only [if_true] at c4
  rw [hAd] at hrun g5
  have HF : Hid (LeftX w t T (T.make dir name isDir) A mb A' w5) := by
    refine Lib.hid ⟨h5, (HL.out.ch.step HX.out.ch).trans g5 (fun x _ e => .inr (.inr ⟨dir, n, hn, .inr ⟨hd, e⟩⟩)), HX.out.old, fun k hk => ?_⟩
    have hs1 := HL.out.ch.size
    have hs2 := g5.size
    rcases HX.out.own k (own_mod (f := Nd.putName name (T.last + 1)) (fun _ => rfl) hk) with h | h
    · exact .inl h
    · right; unfold New at *; omega
  clear h5 g5
  go_wp2
  go_ret2
  exact ⟨rfl, A', HF.out⟩
end
end Go.Proofs.YtagdhghjcibfbaaGreat
