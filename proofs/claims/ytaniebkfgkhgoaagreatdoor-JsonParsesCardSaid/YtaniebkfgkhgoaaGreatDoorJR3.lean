/- Layer 5's reference: twice. Layer 5's reference: Exact of a value that lies twice. What a text tells is no greater than the text. -/
import Derived.Test.YtaniebkfgkhgoaaGreatDoorJR2
import Derived.Test.YtaniebkfgkhgoaaGreatDoorJ0
import Derived.Test.YtaniebkfgkhgoaaGreatDoorJU
import Derived.Deep.QuietTactic
import Derived.BigQuiet
import Derived.StillTailTactics
namespace Go.Proofs.YtaniebkfgkhgoaaGreatDoor
open Go.RowKit
set_option linter.unusedVariables false
set_option maxRecDepth 100000

/-- Somewhere in a value two fields of one have one name. -/
def TwP (v : JV) : Prop := ∃ u, JV.In v u ∧ ¬ (u.fields.map (·.1)).Nodup
noncomputable def twV (v : JV) : Bool := @decide (TwP v) (Classical.propDecidable _)
theorem twV_t {v : JV} (h : TwP v) : twV v = true := by unfold twV; exact @decide_eq_true _ (Classical.propDecidable _) h
theorem twV_f {v : JV} (h : ¬ TwP v) : twV v = false := by unfold twV; exact @decide_eq_false _ (Classical.propDecidable _) h
theorem tw_list {v u : JV} (hu : u ∈ v.list) : TwP u → TwP v := fun ⟨x, h1, h2⟩ => ⟨x, (JV.In.list .root hu).trans h1, h2⟩
theorem tw_field {v : JV} {p : ByteArray × JV} (hp : p ∈ v.fields) : TwP p.2 → TwP v := fun ⟨x, h1, h2⟩ => ⟨x, (JV.In.field .root hp).trans h1, h2⟩
theorem tw_dup {v : JV} {i k : Nat} {p q : ByteArray × JV} (hki : k < i) (hp : v.fields[i]? = some p) (hq : v.fields[k]? = some q) (e : q.1 = p.1) : TwP v := by
  refine ⟨v, .root, fun hn => ?_⟩
  have h1 : (v.fields.map (·.1))[i]? = some p.1 := by rw [List.getElem?_map, hp]; rfl
  have h2 : (v.fields.map (·.1))[k]? = some p.1 := by rw [List.getElem?_map, hq, ← e]; rfl
  have l1 := (List.getElem?_eq_some_iff.1 h1).1
  have l2 := (List.getElem?_eq_some_iff.1 h2).1
  rw [List.nodup_iff_pairwise_ne, List.pairwise_iff_getElem] at hn
  exact hn k i l2 l1 hki (by rw [(List.getElem?_eq_some_iff.1 h1).2, (List.getElem?_eq_some_iff.1 h2).2])
theorem tw_none {v : JV} (h1 : ∀ u ∈ v.list, ¬ TwP u) (h2 : ∀ p ∈ v.fields, ¬ TwP p.2) (h3 : ∀ (i k : Nat) (p q : ByteArray × JV), k < i → v.fields[i]? = some p → v.fields[k]? = some q → q.1 ≠ p.1) : ¬ TwP v := by
  rintro ⟨u, hu, hn⟩
  rcases JV.in_cases hu with rfl | ⟨x, hx, hxu⟩ | ⟨p, hp, hpu⟩
  · refine hn ?_
    rw [List.nodup_iff_pairwise_ne, List.pairwise_iff_getElem]
    intro k i hk hi hki e
    rw [List.length_map] at hk hi
    rw [List.getElem_map, List.getElem_map] at e
    exact h3 i k _ _ hki (List.getElem?_eq_getElem hi) (List.getElem?_eq_getElem hk) e
  · exact h1 x hx ⟨u, hxu, hn⟩
  · exact h2 p hp ⟨u, hpu, hn⟩
theorem str_t {s t : ByteArray} (h : s = t) : (s.toList == t.toList) = true := by rw [h]; simp
theorem str_f {s t : ByteArray} (h : s ≠ t) : (s.toList == t.toList) = false := by
  rw [beq_eq_false_iff_ne]
  intro e
  rw [Lib.toList_data, Lib.toList_data] at e
  exact h (by cases s; cases t; simp_all)

set_option maxHeartbeats 4000000 in
theorem twice_any : ∀ (N : Nat) (v : JV) {S : Nat → Prop} (k : Int) (t : ByteArray) (a : Option Addr) (n c : Nat) (a2 : Option Addr) (n2 c2 : Nat) (w : World), v.size ≤ N → v.size ≤ 549755813888 → LV w S v (.int .i64 k) (.string t) (.slice a n c) (.slice a2 n2 c2) →
    Calls Tryz.prog 26 #[.agg #[.int .i64 k, .string t, .slice a n c, .slice a2 n2 c2]] w fun e W' => e = .returned (.bool (twV v)) ∧ RowKit.Below w.heap.size w W'
  | 0, v, S, k, t, a, n, c, a2, n2, c2, w, hN, _, _ => by have := v.size_pos; omega
  | N + 1, v, S, k, t, a, n, c, a2, n2, c2, w, hN, hsz, hv => by
    obtain ⟨W, hW⟩ : ∃ W, W = w.alloc (.cells #[.int .i64 k, .string t, .slice a n c, .slice a2 n2 c2] 26) := ⟨_, rfl⟩
    have hb : RB W w.heap.size (.int .i64 k) (.string t) (.slice a n c) (.slice a2 n2 c2) := by rw [hW]; exact RB.new w
    have hg : RowKit.Below w.heap.size w W := by rw [hW]; exact (Below.refl _ w).alloc (Nat.le_refl _) _
    have hlv : LV W S v (.int .i64 k) (.string t) (.slice a n c) (.slice a2 n2 c2) := LV.move (fun b hb hs => ⟨hg.block b hb, hs⟩) v hv
    obtain ⟨a', c', a3', c3', e0, e1, e2, e3, hl, hf⟩ := hlv.parts
    cases e2
    cases e3
    have HL := Lib.hid hl
    have HF := Lib.hid hf
    have HB := Lib.hid hb
    have HG := Lib.hid hg
    have IH := Lib.hid (fun (u : JV) (hu : u.size < v.size) (k : Int) (t : ByteArray) (a : Option Addr) (n c : Nat) (a2 : Option Addr) (n2 c2 : Nat) (w : World) (h : LV w S u (.int .i64 k) (.string t) (.slice a n c) (.slice a2 n2 c2)) => twice_any N u (S := S) k t a n c a2 n2 c2 w (by omega) (by omega) h)
    have hll : v.list.length ≤ 549755813888 := Nat.le_trans (len_sizeL v.list) (by cases v; simp only [JV.size, JV.list] at *; omega)
    have hfl : v.fields.length ≤ 549755813888 := Nat.le_trans (len_sizeF v.fields) (by cases v; simp only [JV.size, JV.fields] at *; omega)
    have HSL := Lib.hid (fun u (hu : u ∈ v.list) => JV.size_list hu)
    have HSF := Lib.hid (fun p (hp : p ∈ v.fields) => JV.size_field hp)
    obtain ⟨R, hR⟩ : ∃ R, R = twV v := ⟨_, rfl⟩
    rw [← hR]
    have HR0 := Lib.hid hR
    have hW' := hW.symm
    clear hW hb hg hlv hv hl hf e0 e1 hR
    go_enter Tryz.func26, Tryz.ntmps26
    go_wp2_with fail
    clear hW'
    go_loopw [3] (fun s3 wr => ∃ i : Nat, s3 = .int .i64 i ∧ i ≤ v.list.length ∧ Hid (∀ (j : Nat) (u : JV), j < i → v.list[j]? = some u → ¬ TwP u) ∧ Hid (RowKit.Below W.heap.size W wr)) (fun s3 _ => v.list.length - (intOf s3).toNat)
    case atStart => exact ⟨0, rfl, Nat.zero_le _, Lib.hid (fun j u h => by omega), Lib.hid (Below.refl _ _)⟩
    case round =>
      obtain ⟨i, rfl, hi, HN, HBW⟩ := hrel
      have HR := Lib.hid (HB.out.below HBW.out)
      have q2 := HR.out.c2
      by_cases hlt : i < v.list.length
      · have hz : (i : Int) < (v.list.length : Int) := by omega
        obtain ⟨u, hu⟩ : ∃ u, v.list[i]? = some u := ⟨_, List.getElem?_eq_getElem hlt⟩
        obtain ⟨b, o, rfl, hs, hbl, hat⟩ := HL.out i u hu
        have hmu := List.mem_of_getElem? hu
        have hus := HSL.out u hmu
        obtain ⟨x0, x1, x2, x3, f0, f1, f2, f3, hm⟩ := hat.below hs HBW.out
        obtain ⟨ua, uc, ua3, uc3, rfl, rfl, rfl, rfl, -, -⟩ := hm.parts
        have CC := IH.out u hus _ _ _ _ _ _ _ _ wr hm
        have HU := Lib.hid hu
        rw [show o + 4 * i = o + i * 4 by omega] at f0 f1 f2 f3
        clear hat hm hu
        by_cases htw : TwP u
        · rw [twV_t htw] at CC
          have HT : Hid (R = true) := Lib.hid (HR0.out.trans (twV_t (tw_list hmu htw)))
          go_wp2_with (go_at_call 26; (with_reducible refine CC.mono ?_); rintro e w5 ⟨rfl, hb5⟩; have HB5 := Lib.hid hb5; clear hb5)
          go_ret
          exact ⟨by rw [HT.out]; rfl, HG.out.trans ((HBW.out.trans (HB5.out.mono HBW.out.size)).mono HG.out.size)⟩
        · rw [twV_f htw] at CC
          have HN2 : Hid (∀ (j : Nat) (u : JV), j < i + 1 → v.list[j]? = some u → ¬ TwP u) := Lib.hid fun j u' hj hju => by
            by_cases e : j = i
            · subst e; rw [HU.out] at hju; cases hju; exact htw
            · exact HN.out j u' (by omega) hju
          go_wp2_with (go_at_call 26; (with_reducible refine CC.mono ?_); rintro e w5 ⟨rfl, hb5⟩; have HB5 := Lib.hid hb5; clear hb5)
          go_roundw
          case rel => exact ⟨i + 1, by go_num, by omega, HN2, Lib.hid (HBW.out.trans (HB5.out.mono HBW.out.size))⟩
          case measure => simp [intOf]; omega
      · have hz : ¬ (i : Int) < (v.list.length : Int) := by omega
        have HNL : Hid (∀ u ∈ v.list, ¬ TwP u) := Lib.hid fun u hu => by
          obtain ⟨j, hj, e⟩ := List.getElem_of_mem hu
          exact HN.out j u (by omega) (by rw [← e]; exact List.getElem?_eq_getElem hj)
        clear HR HN
        go_wp2_with fail
        clear q2 HL
        go_loopw [4] (fun s4 wx => ∃ j : Nat, s4 = .int .i64 j ∧ j ≤ v.fields.length ∧ Hid (∀ (i : Nat) (p : ByteArray × JV), i < j → v.fields[i]? = some p → ¬ TwP p.2 ∧ ∀ (k : Nat) (q : ByteArray × JV), k < i → v.fields[k]? = some q → q.1 ≠ p.1) ∧ Hid (RowKit.Below W.heap.size W wx)) (fun s4 _ => v.fields.length - (intOf s4).toNat)
        case atStart => exact ⟨0, rfl, Nat.zero_le _, Lib.hid (fun j u h => by omega), HBW⟩
        case round =>
          obtain ⟨j, rfl, hj, HN, HBX⟩ := hrel
          have HR := Lib.hid (HB.out.below HBX.out)
          have q3 := HR.out.c3
          by_cases hltj : j < v.fields.length
          · have hzj : (j : Int) < (v.fields.length : Int) := by omega
            obtain ⟨p, hp⟩ : ∃ p, v.fields[j]? = some p := ⟨_, List.getElem?_eq_getElem hltj⟩
            obtain ⟨b, o, rfl, hs, hbl, hnm, hat⟩ := HF.out j p hp
            have hmp := List.mem_of_getElem? hp
            have hus := HSF.out p hmp
            obtain ⟨x0, x1, x2, x3, f0, f1, f2, f3, hm⟩ := hat.below hs HBX.out
            obtain ⟨ua, uc, ua3, uc3, rfl, rfl, rfl, rfl, -, -⟩ := hm.parts
            have CC := IH.out p.2 hus _ _ _ _ _ _ _ _ _ hm
            have HP := Lib.hid hp
            rw [show o + 5 * j + 1 = o + j * 5 + 1 by omega] at f0 f1 f2 f3
            clear hat hm hp
            by_cases htw : TwP p.2
            · rw [twV_t htw] at CC
              have HT : Hid (R = true) := Lib.hid (HR0.out.trans (twV_t (tw_field hmp htw)))
              go_wp2_with (go_at_call 26; (with_reducible refine CC.mono ?_); rintro e w5 ⟨rfl, hb5⟩; have HB5 := Lib.hid hb5; clear hb5)
              go_ret
              exact ⟨by rw [HT.out]; rfl, HG.out.trans ((HBX.out.trans (HB5.out.mono HBX.out.size)).mono HG.out.size)⟩
            · rw [twV_f htw] at CC
              go_wp2_with (go_at_call 26; (with_reducible refine CC.mono ?_); rintro e w5 ⟨rfl, hb5⟩; have HB5 := Lib.hid hb5; clear hb5)
              have HBF := Lib.hid (HBX.out.trans (HB5.out.mono HBX.out.size))
              have HNM := Lib.hid hnm
              clear q3 f0 f1 f2 f3 CC HR HB5 hnm
              go_loopw [5] (fun s5 wx => ∃ k1 : Nat, s5 = .int .i64 k1 ∧ k1 ≤ j ∧ Hid (∀ (k : Nat) (q : ByteArray × JV), k < k1 → v.fields[k]? = some q → q.1 ≠ p.1) ∧ Hid (RowKit.Below W.heap.size W wx)) (fun s5 _ => j - (intOf s5).toNat)
              case atStart => exact ⟨0, rfl, Nat.zero_le _, Lib.hid (fun k q h => by omega), HBF⟩
              case round =>
                clear HBF
                obtain ⟨k1, rfl, hk1, HK, HBY⟩ := hrel
                by_cases hkj : k1 < j
                · have hzk : (k1 : Int) < (j : Int) := by omega
                  obtain ⟨qf, hqf⟩ : ∃ q, v.fields[k1]? = some q := ⟨_, List.getElem?_eq_getElem (by omega)⟩
                  obtain ⟨b', o', e', -, -, hnq, -⟩ := HF.out k1 qf hqf
                  cases e'
                  have HR := Lib.hid (HB.out.below HBY.out)
                  have q3 := HR.out.c3
                  have g1 := (World.cell?_of_block (a := ⟨b, o + 5 * k1, none⟩) (HBY.out.block b hbl)).trans hnq
                  have g2 := (World.cell?_of_block (a := ⟨b, o + 5 * j, none⟩) (HBY.out.block b hbl)).trans HNM.out
                  rw [show o + 5 * k1 = o + k1 * 5 by omega] at g1
                  rw [show o + 5 * j = o + j * 5 by omega] at g2
                  have HQ := Lib.hid hqf
                  clear hnq hqf
                  have hzk1 : (k1 : Int) < (v.fields.length : Int) := by omega
                  have mixed : Tryz.prog.follows .mixedOrders = true := by kernel_rfl
                  by_cases hnn : qf.1 = p.1
                  · have ht := str_t hnn
                    have HT : Hid (R = true) := Lib.hid (HR0.out.trans (twV_t (tw_dup hkj HP.out HQ.out hnn)))
                    clear hnn
                    go_wp2_with fail
                    go_big_region_o
                    all_goals (go_wp2_with fail; go_ret; exact ⟨by rw [HT.out]; rfl, HG.out.trans ((HBY.out.drew).mono HG.out.size)⟩)
                  · have ht := str_f hnn
                    have HK2 : Hid (∀ (k : Nat) (q : ByteArray × JV), k < k1 + 1 → v.fields[k]? = some q → q.1 ≠ p.1) := Lib.hid fun k q' h1 h2 => by
                      by_cases e : k = k1
                      · subst e; rw [HQ.out] at h2; cases h2; exact hnn
                      · exact HK.out k q' (by omega) h2
                    clear hnn
                    go_wp2_with fail
                    go_big_region_o
                    all_goals go_wp2_with fail
                    all_goals go_roundw
                    case rel => exact ⟨k1 + 1, by go_num, by omega, HK2, Lib.hid (HBY.out.drew)⟩
                    case measure => simp [intOf]; omega
                · have hzk : ¬ (k1 : Int) < (j : Int) := by omega
                  obtain rfl : k1 = j := by omega
                  have HN2 : Hid (∀ (i : Nat) (p : ByteArray × JV), i < k1 + 1 → v.fields[i]? = some p → ¬ TwP p.2 ∧ ∀ (k : Nat) (q : ByteArray × JV), k < i → v.fields[k]? = some q → q.1 ≠ p.1) := Lib.hid fun i' p' h1 h2 => by
                    by_cases e : i' = k1
                    · subst e; rw [HP.out] at h2; cases h2; exact ⟨htw, HK.out⟩
                    · exact HN.out i' p' (by omega) h2
                  go_wp2_with fail
                  go_roundw
                  case rel => exact ⟨k1 + 1, by go_num, by omega, HN2, HBY⟩
                  case measure => simp [intOf]; omega
          · have hzj : ¬ (j : Int) < (v.fields.length : Int) := by omega
            have hjl : j = v.fields.length := by omega
            have HE : Hid (R = false) := Lib.hid (HR0.out.trans (twV_f (tw_none HNL.out
              (fun p hp => by
                obtain ⟨x, hx, e⟩ := List.getElem_of_mem hp
                exact (HN.out x p (by omega) (by rw [← e]; exact List.getElem?_eq_getElem hx)).1)
              (fun x y p q h1 h2 h3 => (HN.out x p (by have := (List.getElem?_eq_some_iff.1 h2).1; omega) h2).2 y q h1 h3))))
            clear hjl
            go_wp2_with fail
            go_ret
            exact ⟨by rw [HE.out]; rfl, HG.out.trans (HBX.out.mono HG.out.size)⟩
end Go.Proofs.YtaniebkfgkhgoaaGreatDoor

namespace Go.Proofs.YtaniebkfgkhgoaaGreatDoor
open Go.RowKit
set_option linter.unusedVariables false
set_option maxRecDepth 100000

theorem LV.drew1 {w : World} {S : Nat → Prop} {v : JV} {c0 c1 c2 c3 : Value} (h : LV w S v c0 c1 c2 c3) : LV w.drew S v c0 c1 c2 c3 := LV.move (w := w) (w' := w.drew) (S := S) (S' := S) (fun b hb hs => ⟨rfl, hs⟩) v h

set_option maxHeartbeats 4000000 in
theorem exact_any : ∀ (N : Nat) (v : JV) {S S' : Nat → Prop} (a : Option Addr) (c : Nat) (a2 : Option Addr) (c2 : Nat) (d : Option Addr) (e : Nat) (d2 : Option Addr) (e2 : Nat) (w : World), v.size ≤ N → v.size ≤ 549755813888 →
    LV w S v (.int .i64 v.kind) (.string v.text) (.slice a v.list.length c) (.slice a2 v.fields.length c2) → LV w S' v (.int .i64 v.kind) (.string v.text) (.slice d v.list.length e) (.slice d2 v.fields.length e2) →
    Calls Tryz.prog 9 #[.agg #[.int .i64 v.kind, .string v.text, .slice a v.list.length c, .slice a2 v.fields.length c2], .agg #[.int .i64 v.kind, .string v.text, .slice d v.list.length e, .slice d2 v.fields.length e2]] w fun e W' => e = .returned (.bool true) ∧ RowKit.Below w.heap.size w W'
  | 0, v, S, S', a, c, a2, c2, d, e, d2, e2, w, hN, _, _, _ => by have := v.size_pos; omega
  | N + 1, v, S, S', a, c, a2, c2, d, e, d2, e2, w, hN, hsz, h1, h2 => by
    obtain ⟨W, hW⟩ : ∃ W, (w.alloc (.cells #[.int .i64 v.kind, .string v.text, .slice a v.list.length c, .slice a2 v.fields.length c2] 26)).alloc (.cells #[.int .i64 v.kind, .string v.text, .slice d v.list.length e, .slice d2 v.fields.length e2] 26) = W := ⟨_, rfl⟩
    have hb : RowKit.Below w.heap.size w W := by rw [← hW]; exact ((Below.refl _ w).alloc (Nat.le_refl _) _).alloc (by simp) _
    have hx := RB.new (x0 := .int .i64 v.kind) (x1 := .string v.text) (x2 := .slice a v.list.length c) (x3 := .slice a2 v.fields.length c2) w
    have hx2 : RB W w.heap.size (.int .i64 v.kind) (.string v.text) (.slice a v.list.length c) (.slice a2 v.fields.length c2) := by rw [← hW]; exact hx.gb (World.grownBy_alloc _ _ none) (by simp)
    have hy : RB W (w.heap.size + 1) (.int .i64 v.kind) (.string v.text) (.slice d v.list.length e) (.slice d2 v.fields.length e2) := by
      rw [← hW]
      have := RB.new (x0 := .int .i64 v.kind) (x1 := .string v.text) (x2 := .slice d v.list.length e) (x3 := .slice d2 v.fields.length e2) (w.alloc (.cells #[.int .i64 v.kind, .string v.text, .slice a v.list.length c, .slice a2 v.fields.length c2] 26))
      rwa [World.size_alloc] at this
    have hl1 : LV W S v (.int .i64 v.kind) (.string v.text) (.slice a v.list.length c) (.slice a2 v.fields.length c2) := LV.move (fun b hb' hs => ⟨hb.block b hb', hs⟩) v h1
    have hl2 : LV W S' v (.int .i64 v.kind) (.string v.text) (.slice d v.list.length e) (.slice d2 v.fields.length e2) := LV.move (fun b hb' hs => ⟨hb.block b hb', hs⟩) v h2
    obtain ⟨_, _, _, _, -, -, r2, r3, hl, hf⟩ := hl1.parts
    cases r2
    cases r3
    obtain ⟨_, _, _, _, -, -, r2, r3, hm, hg⟩ := hl2.parts
    cases r2
    cases r3
    have HL := Lib.hid hl
    have HF := Lib.hid hf
    have HM := Lib.hid hm
    have HG := Lib.hid hg
    have IH := Lib.hid (fun (u : JV) (hu : u.size < v.size) (a : Option Addr) (c : Nat) (a2 : Option Addr) (c2 : Nat) (d : Option Addr) (e : Nat) (d2 : Option Addr) (e2 : Nat) (w : World) (k1 : LV w S u (.int .i64 u.kind) (.string u.text) (.slice a u.list.length c) (.slice a2 u.fields.length c2)) (k2 : LV w S' u (.int .i64 u.kind) (.string u.text) (.slice d u.list.length e) (.slice d2 u.fields.length e2)) => exact_any N u (S := S) (S' := S') a c a2 c2 d e d2 e2 w (by omega) (by omega) k1 k2)
    have hll : v.list.length ≤ 549755813888 := Nat.le_trans (len_sizeL v.list) (by cases v; simp only [JV.size, JV.list] at *; omega)
    have hfl : v.fields.length ≤ 549755813888 := Nat.le_trans (len_sizeF v.fields) (by cases v; simp only [JV.size, JV.fields] at *; omega)
    have HSL := Lib.hid (fun u (hu : u ∈ v.list) => JV.size_list hu)
    have HSF := Lib.hid (fun p (hp : p ∈ v.fields) => JV.size_field hp)
    have q0 := hx2.c0
    have q1 := hx2.c1
    have q2 := hx2.c2
    have q3 := hx2.c3
    have r0 := hy.c0
    have r1 := hy.c1
    have r2 := hy.c2
    have r3 := hy.c3
    have HB := Lib.hid hb
    have HX := Lib.hid hx2
    have HY := Lib.hid hy
    clear hb hx hx2 hy hl hm hf hg hl1 hl2 h1 h2
    generalize v.kind = kv at *
    generalize v.text = tv at *
    go_enter Tryz.func9, Tryz.ntmps9
    go_wp2_with fail
    clear q0 q1 q2 q3 r0 r1 r2 r3 hW
    go_loopw [5] (fun s5 wr => ∃ i : Nat, s5 = .int .i64 i ∧ i ≤ v.list.length ∧ Hid (RowKit.Below W.heap.size W wr)) (fun s5 _ => v.list.length - (intOf s5).toNat)
    case atStart => exact ⟨0, rfl, Nat.zero_le _, Lib.hid (Below.refl _ _)⟩
    case round =>
      obtain ⟨i, rfl, hi, HBW⟩ := hrel
      have q2 := (HX.out.below HBW.out).c2
      have r2 := (HY.out.below HBW.out).c2
      by_cases hlt : i < v.list.length
      · have hz : (i : Int) < (v.list.length : Int) := by omega
        obtain ⟨u, hu⟩ : ∃ u, v.list[i]? = some u := ⟨_, List.getElem?_eq_getElem hlt⟩
        obtain ⟨b, o, rfl, hs, hbl, hat⟩ := HL.out i u hu
        obtain ⟨b', o', rfl, hs', hbl', hat'⟩ := HM.out i u hu
        have hus := HSL.out u (List.mem_of_getElem? hu)
        obtain ⟨x0, x1, x2, x3, f0, f1, f2, f3, hm⟩ := hat.below hs HBW.out
        obtain ⟨ua, uc, ua3, uc3, rfl, rfl, rfl, rfl, -, -⟩ := hm.parts
        obtain ⟨y0, y1, y2, y3, g0, g1, g2, g3, hm'⟩ := hat'.below hs' HBW.out
        obtain ⟨va, vc, va3, vc3, rfl, rfl, rfl, rfl, -, -⟩ := hm'.parts
        have CC := IH.out u hus ua uc ua3 uc3 va vc va3 vc3 wr.drew hm.drew1 hm'.drew1
        rw [show o + 4 * i = o + i * 4 by omega] at f0 f1 f2 f3
        rw [show o' + 4 * i = o' + i * 4 by omega] at g0 g1 g2 g3
        clear hat hm hu hat' hm'
        go_wp2_with fail
        go_still_tail 10, (by kernel_rfl)
        change wpList _ _ _ _ _ wr.drew
        go_wp2_with (go_at_call 9; (with_reducible refine CC.mono ?_); rintro e w5 ⟨rfl, hb5⟩; have HB5 := Lib.hid hb5; clear hb5)
        go_roundw
        case rel => exact ⟨i + 1, by go_num, by omega, Lib.hid (HBW.out.drew.trans (HB5.out.mono HBW.out.size))⟩
        case measure => simp [intOf]; omega
      · have hz : ¬ (i : Int) < (v.list.length : Int) := by omega
        go_wp2_with fail
        clear q2 r2 HL HM
        go_loopw [6] (fun s6 wr => ∃ j : Nat, s6 = .int .i64 j ∧ j ≤ v.fields.length ∧ Hid (RowKit.Below W.heap.size W wr)) (fun s6 _ => v.fields.length - (intOf s6).toNat)
        case atStart => exact ⟨0, rfl, Nat.zero_le _, HBW⟩
        case round =>
          obtain ⟨j, rfl, hj, HBX⟩ := hrel
          have q3 := (HX.out.below HBX.out).c3
          have r3 := (HY.out.below HBX.out).c3
          by_cases hltj : j < v.fields.length
          · have hzj : (j : Int) < (v.fields.length : Int) := by omega
            obtain ⟨p, hp⟩ : ∃ p, v.fields[j]? = some p := ⟨_, List.getElem?_eq_getElem hltj⟩
            obtain ⟨b, o, rfl, hs, hbl, hnm, hat⟩ := HF.out j p hp
            obtain ⟨b', o', rfl, hs', hbl', hnm', hat'⟩ := HG.out j p hp
            have hus := HSF.out p (List.mem_of_getElem? hp)
            obtain ⟨x0, x1, x2, x3, f0, f1, f2, f3, hm⟩ := hat.below hs HBX.out
            obtain ⟨ua, uc, ua3, uc3, rfl, rfl, rfl, rfl, -, -⟩ := hm.parts
            obtain ⟨y0, y1, y2, y3, g0, g1, g2, g3, hm'⟩ := hat'.below hs' HBX.out
            obtain ⟨va, vc, va3, vc3, rfl, rfl, rfl, rfl, -, -⟩ := hm'.parts
            have n1 := (World.cell?_of_block (a := ⟨b, o + 5 * j, none⟩) (HBX.out.block b hbl)).trans hnm
            have n2 := (World.cell?_of_block (a := ⟨b', o' + 5 * j, none⟩) (HBX.out.block b' hbl')).trans hnm'
            have CC := IH.out p.2 hus ua uc ua3 uc3 va vc va3 vc3 wr.drew hm.drew1 hm'.drew1
            rw [show o + 5 * j + 1 = o + j * 5 + 1 by omega] at f0 f1 f2 f3
            rw [show o' + 5 * j + 1 = o' + j * 5 + 1 by omega] at g0 g1 g2 g3
            rw [show o + 5 * j = o + j * 5 by omega] at n1
            rw [show o' + 5 * j = o' + j * 5 by omega] at n2
            clear hat hm hp hat' hm' hnm hnm'
            go_wp2_with fail
            go_still_tail 26, (by kernel_rfl)
            change wpList _ _ _ _ _ wr.drew
            go_wp2_with (go_at_call 9; (with_reducible refine CC.mono ?_); rintro e w5 ⟨rfl, hb5⟩; have HB5 := Lib.hid hb5; clear hb5)
            go_roundw
            case rel => exact ⟨j + 1, by go_num, by omega, Lib.hid (HBX.out.drew.trans (HB5.out.mono HBX.out.size))⟩
            case measure => simp [intOf]; omega
          · have hzj : ¬ (j : Int) < (v.fields.length : Int) := by omega
            go_wp2_with fail
            go_ret
            exact ⟨rfl, HB.out.trans (HBX.out.mono HB.out.size)⟩
end Go.Proofs.YtaniebkfgkhgoaaGreatDoor

namespace Go.Proofs.YtaniebkfgkhgoaaGreatDoor
open Go.Lib
set_option linter.unusedVariables false

theorem sizeF_app (a b : List (ByteArray × JV)) : JV.sizeF (a ++ b) = JV.sizeF a + JV.sizeF b := by
  induction a with
  | nil => simp [JV.sizeF]
  | cons x r ih => obtain ⟨n, v⟩ := x; simp only [List.cons_append, JV.sizeF, ih]; omega
theorem sizeL_map (a : List (ByteArray × JV)) : JV.sizeL (a.map (·.2)) = JV.sizeF a := by
  induction a with
  | nil => simp [JV.sizeF, JV.sizeL]
  | cons x r ih => obtain ⟨n, v⟩ := x; simp only [List.map_cons, JV.sizeF, JV.sizeL, ih]
theorem close_size (F : Fr) : F.close.size = 1 + JV.sizeF F.els := by
  unfold Fr.close
  split
  · simp only [JV.size, JV.sizeL]; omega
  · simp only [JV.size, JV.sizeF, sizeL_map]; omega
theorem single_size {l r : List UInt8} {v : JV} (h : singleG l = some (v, r)) : v.size = 1 := by
  have e : ∀ (k : Int) (t : ByteArray), JV.size ⟨k, t, [], []⟩ = 1 := fun k t => by simp [JV.size, JV.sizeL, JV.sizeF]
  unfold singleG at h
  split at h
  · cases h; exact e _ _
  split at h
  · cases h; exact e _ _
  split at h
  · cases h; exact e _ _
  split at h
  · split at h
    · cases h; exact e _ _
    · cases h
  split at h
  · cases h; exact e _ _
  · cases h

theorem rd_size : ∀ (f : Nat), (∀ l v r, (rdE singleG f).1 l = some (v, r) → v.size + r.length ≤ l.length) ∧ (∀ F l v r, (rdE singleG f).2 F l = some (v, r) → v.size + r.length ≤ JV.sizeF F.els + l.length)
  | 0 => ⟨fun l v r h => (by cases h), fun F l v r h => (by cases h)⟩
  | f + 1 => by
    obtain ⟨ih1, ih2⟩ := rd_size f
    have hop : ∀ (o : Bool) (n : Nat) (l : List UInt8) (v : JV) (r : List UInt8), l.length < n → (match takeG (Fr.new o).mark l with | some r' => some ((Fr.new o).close, r') | none => (rdE singleG f).2 (Fr.new o) l) = some (v, r) → v.size + r.length ≤ n := fun o n l v r hn h => by
      cases h3 : takeG (Fr.new o).mark l with
      | some r' => rw [h3] at h; cases h; have := take_len h3; rw [close_size]; show 1 + JV.sizeF [] + r.length ≤ n; simp only [JV.sizeF]; omega
      | none => rw [h3] at h; have := ih2 _ _ _ _ h; have e : JV.sizeF (Fr.new o).els = 0 := by show JV.sizeF [] = 0; simp [JV.sizeF]
                omega
    refine ⟨fun l v r h => ?_, fun F l v r h => ?_⟩
    · simp only [rdE] at h
      cases h1 : takeG 91 l with
      | some x => rw [h1] at h; exact hop false _ x v r (take_len h1) h
      | none =>
        rw [h1] at h
        cases h2 : takeG 123 l with
        | some x => rw [h2] at h; exact hop true _ x v r (take_len h2) h
        | none => rw [h2] at h; have := (single_len h).1; have := single_size h; omega
    · simp only [rdE] at h
      cases h1 : nameG F l with
      | none => rw [h1] at h; cases h
      | some p =>
        obtain ⟨F', x⟩ := p
        rw [h1] at h
        obtain ⟨hr, he⟩ := name_len h1
        simp only [] at h
        cases h2 : (rdE singleG f).1 x with
        | none => rw [h2] at h; cases h
        | some p =>
          obtain ⟨u, l2⟩ := p
          have hl := ih1 _ _ _ h2
          have ha : JV.sizeF (F'.add u).els = JV.sizeF F.els + u.size := by
            show JV.sizeF (F'.els ++ [(F'.name, u)]) = _
            rw [sizeF_app, he]; simp only [JV.sizeF]; omega
          rw [h2] at h
          simp only [] at h
          cases h3 : takeG F'.mark l2 with
          | some r' => rw [h3] at h; cases h; have := take_len h3; rw [close_size, ha]; omega
          | none =>
            rw [h3] at h
            simp only [] at h
            cases h4 : takeG 44 l2 with
            | none => rw [h4] at h; cases h
            | some r' => rw [h4] at h; have := take_len h4; have := ih2 _ _ _ _ h; omega
theorem whole_size {l : List UInt8} {v : JV} (h : wholeG l = some v) : v.size ≤ l.length := by
  rw [whole_rd l _ (Nat.le_refl _)] at h
  cases h1 : (rdE singleG (2 * l.length + 1)).1 (sk l) with
  | none => rw [h1] at h; cases h
  | some p =>
    obtain ⟨u, r⟩ := p
    have := (rd_size _).1 _ _ _ h1
    have := sk_len l
    rw [h1] at h
    cases r with
    | nil => cases h; omega
    | cons => cases h
theorem fields_size (u : JV) : u.fields.length ≤ u.size := by
  have h : ∀ l : List (ByteArray × JV), l.length ≤ JV.sizeF l := fun l => by
    induction l with
    | nil => exact Nat.zero_le _
    | cons x r ih => obtain ⟨n, v⟩ := x; have := v.size_pos; simp only [List.length_cons, JV.sizeF]; omega
  cases u with
  | mk k t l f => have := h f; simp only [JV.fields, JV.size]; omega
/-- The premise of Parse's contract. -/
theorem whole_ok (l : List UInt8) (hl : l.length ≤ 65536) : ∀ v, wholeG l = some v → v.size ≤ 549755813888 ∧ ∀ u, JV.In v u → u.fields.length ≤ 1048576 := fun v h => by
  have h1 := whole_size h
  exact ⟨by omega, fun u hu => by have := hu.size; have := fields_size u; omega⟩
end Go.Proofs.YtaniebkfgkhgoaaGreatDoor
