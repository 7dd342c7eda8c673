/- Layer 5's reference: list, given read. -/
import Derived.Test.YtaniebkfgkhgoaaGreatDoorJR2
import Derived.Test.YtaniebkfgkhgoaaGreatDoorJ5a
namespace Go.Proofs.YtaniebkfgkhgoaaGreatDoor
open Go.RowKit
set_option linter.unusedVariables false
set_option maxRecDepth 100000

theorem sign_take {s : List UInt8} (hs : sk s = s) (c : UInt8) : signG s [c] = match takeG c s with | some r => (r, true) | none => (s, false) := by
  rw [sign_sk hs, take_pre]
  by_cases h : Lib.hasPrefix s [c] = true
  · rw [if_pos h, if_pos h]; rfl
  · rw [if_neg h, if_neg h]
/-- Where the elements' blocks lie. -/
def LsS (w wr : World) (sv : Value) (b : Nat) : Prop := w.heap.size + 1 < b ∧ b < wr.heap.size ∧ sv.ownBlock ≠ some b
theorem own_ge {w : World} {B k n : Nat} {te : TypeId} {v : Value} {xs : List Value} (h : w.ownsRow B te k v n xs) {b : Nat} (hb : v.ownBlock = some b) : B ≤ b := by
  rcases h.2 with ⟨rfl, _⟩ | ⟨g, cap, cur, rfl, hg, _⟩
  · cases hb
  · cases hb; exact hg
theorem own_lt {w : World} {B k n : Nat} {te : TypeId} {v : Value} {xs : List Value} (h : w.ownsRow B te k v n xs) {b : Nat} (hb : v.ownBlock = some b) : b < w.heap.size := by
  rcases h.2 with ⟨rfl, _⟩ | ⟨g, cap, cur, rfl, hg, hgb, _⟩
  · cases hb
  · cases hb; exact (Array.getElem?_eq_some_iff.1 hgb).1
theorem RB.set2 {w : World} {b : Nat} {x0 x1 x2 x3 : Value} (h : RB w b x0 x1 x2 x3) (y : Value) : RB (w.setCell ⟨b, 2, none⟩ y) b x0 x1 y x3 := by
  unfold RB at h ⊢; simp [World.setCell, Array.getElem?_modify, h]
structure LsI (w wr : World) (f : Nat) (r0 r : List UInt8) (els : List (ByteArray × JV)) (m : Nat) (sv : Value) (cs : List Value) (fk : Nat) : Prop where
  hk : sk r = r
  hl : els.length + r.length ≤ r0.length
  hm : r.length ≤ m
  hm2 : m ≤ r0.length
  hf : 2 * r.length + 2 ≤ fk
  eq : (rdE refSg f).2 (Fr.new false) r0 = (rdE refSg fk).2 ⟨false, els, ⟨#[]⟩⟩ r
  rb : RB wr w.heap.size (.int .i64 0) (.string ⟨#[]⟩) (.slice none 0 0) (.slice none 0 0)
  rv : RB wr (w.heap.size + 1) (.int .i64 6) (.string ⟨#[]⟩) sv (.slice none 0 0)
  own : wr.ownsRow (w.heap.size + 2) 26 4 sv els.length cs
  els : ElsIn wr (LsS w wr sv) false els cs
  below : RowKit.Below w.heap.size w wr

theorem rlist_end (r0 r' : List UInt8) (hk : sk r0 = r0) (hl : r0.length ≤ 500000) (f : Nat) (ht : takeG 93 r0 = some r') (w : World) : Calls Tryz.prog 51 #[.string (bs r0)] w (RdPost w (opR f false r0)) := by
  have ho : opR f false r0 = some (⟨6, ⟨#[]⟩, [], []⟩, r') := by unfold opR; rw [show (Fr.new false).mark = 93 from rfl, ht]; rfl
  rw [ho]
  have CS := Lib.hid (fun w => sign_any r0 [93] w (by omega) (by simp))
  rw [sign_take hk, ht] at CS
  change Hid (∀ w, Calls Tryz.prog 48 #[.string (bs r0), .string ⟨#[93]⟩] w fun e w' => e = .returned (.tuple #[.string (bs r'), .bool true]) ∧ w' = w) at CS
  clear ho ht hk hl
  go_enter Tryz.func51, Tryz.ntmps51
  go_wp2_with (go_at_call 48; (with_reducible refine (CS.out _).mono ?_); rintro e w9 ⟨rfl, rfl⟩)
  exact rd_end rfl (rb_first w _ _ _ _ _) rfl rfl rfl rfl (below_two w _ _) ⟨rfl, rfl, LV.plain _ _ _ _⟩

set_option maxHeartbeats 4000000 in
theorem rlist_any (r0 : List UInt8) (hk : sk r0 = r0) (hl : r0.length ≤ 500000) (f : Nat) (hf : 2 * r0.length + 2 ≤ f) (hR : ∀ (r : List UInt8) (f' : Nat), r.length ≤ r0.length → 2 * r.length + 1 ≤ f' → ∀ w0 : World, Calls Tryz.prog 25 #[.string (bs r)] w0 (RdPost w0 ((rdE refSg f').1 (sk r)))) (w : World) :
    Calls Tryz.prog 51 #[.string (bs r0)] w (RdPost w (opR f false r0)) := by
  cases ht : takeG 93 r0 with
  | some r' => exact rlist_end r0 r' hk hl f ht w
  | none =>
    have ho : opR f false r0 = (rdE refSg f).2 (Fr.new false) r0 := by unfold opR; rw [show (Fr.new false).mark = 93 from rfl, ht]
    rw [ho]
    have CS := Lib.hid (fun w => sign_any r0 [93] w (by omega) (by simp))
    rw [sign_take hk, ht] at CS
    change Hid (∀ w, Calls Tryz.prog 48 #[.string (bs r0), .string ⟨#[93]⟩] w fun e w' => e = .returned (.tuple #[.string (bs r0), .bool false]) ∧ w' = w) at CS
    have CG := Lib.hid (fun (c : UInt8) (r : List UInt8) (h : r.length ≤ 500000) (w : World) => sign_any r [c] w (by omega) (by simp))
    have CR := Lib.hid hR
    obtain ⟨W, hW⟩ : ∃ W, W = (w.alloc (.cells #[.int .i64 0, .string ⟨#[]⟩, .slice none 0 0, .slice none 0 0] 26)).alloc (.cells #[.int .i64 6, .string ⟨#[]⟩, .slice none 0 0, .slice none 0 0] 26) := ⟨_, rfl⟩
    have hst : LsI w W f r0 r0 [] r0.length (.slice none 0 0) [] f := by
      rw [hW]
      exact ⟨hk, by simp, Nat.le_refl _, Nat.le_refl _, hf, rfl, rb_first w _ _ _ _ _, rb_second w _ _ _ _ _, World.ownsRow_nil _ _ _ _, rfl, below_two w _ _⟩
    have HST := Lib.hid hst
    have hsz : ((bs r0).size : Int) = (r0.length : Int) := by rw [bs_size]
    obtain ⟨o, ho2⟩ : ∃ o, o = (rdE refSg f).2 (Fr.new false) r0 := ⟨_, rfl⟩
    rw [← ho2]
    have HO := Lib.hid ho2
    clear hst ho ht hk hf hR ho2
    go_enter Tryz.func51, Tryz.ntmps51
    go_wp2_with (go_at_call 48; (with_reducible refine (CS.out _).mono ?_); rintro e w9 ⟨rfl, rfl⟩)
    go_wp2_with fail
    rw [← hW]
    clear hW
    go_loopw [0, 8] (fun s0 s8 wr => ∃ (r : List UInt8) (els : List (ByteArray × JV)) (m : Nat) (sv : Value) (cs : List Value) (fk : Nat), s0 = .string (bs r) ∧ s8 = .int .i64 m ∧ Hid (LsI w wr f r0 r els m sv cs fk)) (fun _ s8 _ => (intOf s8).toNat + 1)
    case atStart => exact ⟨r0, [], r0.length, _, [], f, rfl, by rw [← bs_size], HST⟩
    case round =>
      obtain ⟨r, els, m, sv, cs, fk, rfl, rfl, HI⟩ := hrel
      obtain ⟨fk, rfl⟩ : ∃ g, fk = g + 1 := ⟨fk - 1, by have := HI.out.hf; omega⟩
      have CC := CR.out r fk (by have := HI.out.hl; omega) (by have := HI.out.hf; omega)
      rw [HI.out.hk] at CC
      have HEQ : Hid (o = match (rdE refSg fk).1 r with
          | none => none
          | some (v, l2) => match takeG 93 l2 with
            | some r' => some (((Fr.mk false els ⟨#[]⟩).add v).close, r')
            | none => match takeG 44 l2 with
              | some r' => (rdE refSg fk).2 ((Fr.mk false els ⟨#[]⟩).add v) r'
              | none => none) := Lib.hid (by rw [HO.out, HI.out.eq, rd_round, nameG_list rfl]; rfl)
      have HSK := Lib.hid ((rd_sk fk).1 r)
      have HLN := Lib.hid ((rd_ref_len fk).1 r)
      generalize (rdE refSg fk).1 r = o' at CC HEQ HSK HLN
      have CCC := Lib.hid (CC wr)
      clear CC
      have hmz : (0 : Int) ≤ (m : Int) := by omega
      go_wp2_with (go_at_call 25; (with_reducible refine CCC.out.mono ?_); rintro e w3 ⟨k, t, a, n, cc, a2, n2, cc2, rest, ok, rfl, hb3, ho3⟩; have HB3 := Lib.hid hb3; have HO3 := Lib.hid ho3; clear hb3 ho3; refine Hid.out ?_)
      refine Lib.hid ?_
      obtain ⟨W4, hW4⟩ : ∃ W4, w3.alloc (.cells #[.int .i64 k, .string t, .slice a n cc, .slice a2 n2 cc2] 26) = W4 := ⟨_, rfl⟩
      have hb34 : RowKit.Below w3.heap.size w3 W4 := by rw [← hW4]; exact (Below.refl _ w3).alloc (Nat.le_refl _) _
      have hv4 : RB W4 w3.heap.size (.int .i64 k) (.string t) (.slice a n cc) (.slice a2 n2 cc2) := by rw [← hW4]; exact RB.new w3
      have hz4 : W4.heap.size = w3.heap.size + 1 := by rw [← hW4]; simp
      have HB4 : Hid (RowKit.Below wr.heap.size wr W4) := Lib.hid (HB3.out.trans (hb34.mono HB3.out.size))
      have HV4 := Lib.hid hv4
      have HZ4 := Lib.hid hz4
      have hX4 := HI.out.rb.below HB4.out
      have hY4 := HI.out.rv.below HB4.out
      have HBW4 : Hid (RowKit.Below w.heap.size w W4) := Lib.hid (HI.out.below.trans (HB4.out.mono HI.out.below.size))
      have x0 := hX4.c0; have x1 := hX4.c1; have x2 := hX4.c2; have x3 := hX4.c3; have y0 := hX4.fr 0; have y1 := hX4.fr 1; have y2 := hX4.fr 2; have y3 := hX4.fr 3
      have HX4 := Lib.hid hX4
      have HY4 := Lib.hid hY4
      have HB34 := Lib.hid hb34
      clear hX4 hv4 hz4 hb34
      cases o' with
      | none =>
        have hok : ok = false := HO3.out
        subst hok
        have ho : o = none := HEQ.out
        subst ho
        clear hY4
        go_wp2_with fail
        exact rd_end rfl (HX4.out.set4 _ _ _ _) rfl rfl rfl rfl (HBW4.out.grown (gb_set4 _ w.heap.size _ _ _ _) HBW4.out.size (fun k e => by cases e; exact Nat.le_refl _)) rfl
      | some p =>
        obtain ⟨v, l2⟩ := p
        obtain ⟨hk1, hr1, hlv⟩ := HO3.out
        subst hk1
        subst hr1
        have v0 := HV4.out.c0; have v1 := HV4.out.c1; have v2 := HV4.out.c2; have v3 := HV4.out.c3
        have z2 := hY4.c2
        have zf2 := hY4.fr 2
        clear hY4
        obtain ⟨i0, hi, hz0, hz1, hz2⟩ := info_parts info_V
        have hown4 : W4.ownsRow (w.heap.size + 2) 26 4 sv els.length cs := ownsRow_ch HI.out.own (Ch.of_below (M := fun _ => False) HB4.out) (fun b _ e => e)
        have hm1 : els.length + 1 ≤ maxLen := by have := HI.out.hl; unfold maxLen; omega
        have hb16 : (els.length + 1) * 72 ≤ 140737488355328 := by have := HI.out.hl; omega
        have hbs : w.heap.size + 2 ≤ W4.heap.size := by have := HI.out.rv.lt; have := HB4.out.size; omega
        clear x0 x1 x2 x3 y0 y1 y2 y3
        go_wp2_with (at_builtin; refine wpList_append_own_at _ rfl _ _ 23 rfl (w.heap.size + 2) 26 i0 (.agg #[.int .i64 0, .string ⟨#[]⟩, .slice none 0 0, .slice none 0 0]) 4 72 Tryz.underlying23 hi hz0 hz1 hz2 rfl (by decide) _ _ _ rfl (hown4.alloc _) ⟨W4.heap.size, 0, none⟩ 1 1 [.int .i64 k, .string t, .slice a n cc, .slice a2 n2 cc2] rfl rfl (World.news_of_block (cs := #[.int .i64 k, .string t, .slice a n cc, .slice a2 n2 cc2]) (t := 26) (fr := (0, 0)) (heap_alloc_new W4 _)) (by simp [Value.oneCell']) hm1 hb16 (by simp; omega) ?_; intro v' W6 hown' hgrow _ hat; have HOWN := Lib.hid hown'; have HGROW := Lib.hid hgrow; have HAT := Lib.hid hat; clear hown' hgrow hat; refine Hid.out ?_)
        refine Lib.hid ?_
        have hgrow : (W4.alloc (.cells #[.int .i64 k, .string t, .slice a n cc, .slice a2 n2 cc2] 26)).grownBy W6 sv.ownBlock := HGROW.out
        have hne : ∀ b, b < w.heap.size + 2 → some b ≠ sv.ownBlock := fun b hb e => by have := own_ge hown4 e.symm; omega
        have hk6 : ∀ b, b < W4.heap.size → some b ≠ sv.ownBlock → W6.heap[b]? = W4.heap[b]? := fun b hb h2 => (hgrow.block b (Nat.lt_of_lt_of_le hb (by simp)) h2).trans (Below.heap_alloc W4 _ b hb)
        have hX6 : RB W6 w.heap.size (.int .i64 0) (.string ⟨#[]⟩) (.slice none 0 0) (.slice none 0 0) := (hk6 _ HX4.out.lt (hne _ (by omega))).trans HX4.out
        have hY6 : RB W6 (w.heap.size + 1) (.int .i64 6) (.string ⟨#[]⟩) sv (.slice none 0 0) := (hk6 _ HY4.out.lt (hne _ (by omega))).trans HY4.out
        have hown6 : W6.ownsRow (w.heap.size + 2) 26 4 v' (els.length + 1) (cs ++ [.int .i64 k, .string t, .slice a n cc, .slice a2 n2 cc2]) := HOWN.out
        have hs6 : W4.heap.size + 1 ≤ W6.heap.size := by have := hgrow.size; simpa using this
        clear v0 v1 v2 v3 z2 zf2
        have b0 := hY6.c0; have b1 := hY6.c1; have b2 := hY6.c2; have b3 := hY6.c3; have bf := hY6.fr 2
        have x0 := hX6.c0; have x1 := hX6.c1; have x2 := hX6.c2; have x3 := hX6.c3; have y0 := hX6.fr 0; have y1 := hX6.fr 1; have y2 := hX6.fr 2; have y3 := hX6.fr 3
        have HX6 := Lib.hid hX6
        have HY6 := Lib.hid hY6
        have HOWN6 := Lib.hid hown6
        have HK6 := Lib.hid hk6
        have HS6 := Lib.hid hs6
        clear hX6 hY6 hown6 hk6 hs6 hgrow hown4 hm1 hb16 hbs hi hz0 hz1 hz2 hne
        obtain ⟨W7, hW7⟩ : ∃ W7, W7 = W6.setCell ⟨w.heap.size + 1, 2, none⟩ v' := ⟨_, rfl⟩
        have hg7 : W6.grownBy W7 (some (w.heap.size + 1)) := by rw [hW7]; exact gb_set W6 ⟨w.heap.size + 1, 2, none⟩ v'
        have hs7 := hg7.size
        have hs67 := HS6.out
        have hs4 := HZ4.out
        have hs3 := HB3.out.size
        have hsw := HI.out.rv.lt
        have hY7 : RB W7 (w.heap.size + 1) (.int .i64 6) (.string ⟨#[]⟩) v' (.slice none 0 0) := by rw [hW7]; exact HY6.out.set2 v'
        have hX7 : RB W7 w.heap.size (.int .i64 0) (.string ⟨#[]⟩) (.slice none 0 0) (.slice none 0 0) := HX6.out.gb hg7 (by simp)
        have hown7 : W7.ownsRow (w.heap.size + 2) 26 4 v' (els ++ [((⟨#[]⟩ : ByteArray), v)]).length (cs ++ [.int .i64 k, .string t, .slice a n cc, .slice a2 n2 cc2]) := by
          rw [List.length_append]
          exact ownsRow_ch HOWN6.out (Ch.of_gb hg7) (fun b hb e => by have := own_ge HOWN6.out hb; cases e; omega)
        have hat : v'.ownBlock = sv.ownBlock ∨ v'.ownBlock = some (W4.heap.size + 1) := by
          have h : v'.ownBlock = sv.ownBlock ∨ v'.ownBlock = some (W4.alloc (.cells #[.int .i64 k, .string t, .slice a n cc, .slice a2 n2 cc2] 26)).heap.size := HAT.out
          rwa [World.size_alloc] at h
        have hv7 : LV W7 (LsS w W7 v') v (.int .i64 k) (.string t) (.slice a n cc) (.slice a2 n2 cc2) := by
          refine LV.move (w := w3) (w' := W7) (S := fun b => wr.heap.size < b ∧ b < w3.heap.size) (fun b hb hs => ⟨?_, ?_, ?_, ?_⟩) v hlv
          · have h2 : some b ≠ sv.ownBlock := fun e => by have := own_lt HI.out.own e.symm; have := hs.1; omega
            exact ((hg7.block b (by omega) (fun e => by cases e; have := hs.1; omega)).trans (HK6.out b (by omega) h2)).trans (HB34.out.block b hb)
          · have := hs.1; omega
          · have := hs.2; omega
          · intro e
            rcases hat with h | h
            · rw [h] at e; have := own_lt HI.out.own e; have := hs.1; omega
            · rw [h] at e; cases e; have := hs.2; omega
        have he7 : ElsIn W7 (LsS w W7 v') false els cs := by
          refine ElsIn.move (w := wr) (w' := W7) (S := LsS w wr sv) (fun b hb hs => ⟨?_, ?_, ?_, ?_⟩) els HI.out.els
          · exact ((hg7.block b (by omega) (fun e => by cases e; have := hs.1; omega)).trans (HK6.out b (by omega) (fun e => hs.2.2 e.symm))).trans (HB4.out.block b hb)
          · exact hs.1
          · omega
          · intro e
            rcases hat with h | h
            · rw [h] at e; exact hs.2.2 e
            · rw [h] at e; cases e; omega
        have hels7 : ElsIn W7 (LsS w W7 v') false (els ++ [((⟨#[]⟩ : ByteArray), v)]) (cs ++ [.int .i64 k, .string t, .slice a n cc, .slice a2 n2 cc2]) := ElsIn.snoc (n := ⟨#[]⟩) hv7 els he7
        clear hv7 he7
        have hb7 : RowKit.Below w.heap.size w W7 := by
          have h5 : RowKit.Below w.heap.size w (W4.alloc (.cells #[.int .i64 k, .string t, .slice a n cc, .slice a2 n2 cc2] 26)) := HBW4.out.alloc HBW4.out.size _
          have h6 := h5.grown HGROW.out h5.size (fun k e => by have := own_ge HI.out.own e; omega)
          exact h6.grown hg7 h6.size (fun k e => by cases e; omega)
        have HL2 : Hid (l2.length < r.length ∧ l2.length ≤ 500000) := Lib.hid (by have := HLN.out v l2 rfl; have := HI.out.hl; omega)
        have hsk2 := HSK.out v l2 rfl
        have C93 := Lib.hid (fun w => CG.out 93 l2 HL2.out.2 w)
        have C44 := Lib.hid (fun w => CG.out 44 l2 HL2.out.2 w)
        rw [sign_take hsk2] at C93 C44
        have HY7 := Lib.hid hY7
        have HX7 := Lib.hid hX7
        have HOWN7 := Lib.hid hown7
        have HELS7 := Lib.hid hels7
        have HB7 := Lib.hid hb7
        have HW7 := Lib.hid hW7
        clear hg7 hs7 hs67 hs4 hs3 hsw hY7 hX7 hown7 hat hels7 hb7 hsk2 hW7
        obtain ⟨ra, rc, hve, hlv7⟩ := row_list (S' := fun b => w.heap.size < b ∧ b < W7.heap.size) HOWN7.out HELS7.out (fun b hb hs => ⟨by have := hs.1; omega, hb⟩) (fun b hb hlt => ⟨by omega, hlt⟩) ⟨#[]⟩
        rw [show (els ++ [((⟨#[]⟩ : ByteArray), v)]).length = els.length + 1 by simp] at hve hlv7
        subst hve
        have HL7 := Lib.hid hlv7
        clear hlv7
        cases h93 : takeG 93 l2 with
        | some r' =>
          rw [h93] at C93
          change Hid (∀ w, Calls Tryz.prog 48 #[.string (bs l2), .string ⟨#[93]⟩] w fun e w' => e = .returned (.tuple #[.string (bs r'), .bool true]) ∧ w' = w) at C93
          have HO2 : Hid (o = some (((Fr.mk false els ⟨#[]⟩).add v).close, r')) := Lib.hid (HEQ.out.trans (by simp only [h93]))
          clear h93
          go_wp2_with (go_at_call 48; (with_reducible refine (C93.out _).mono ?_); rintro e w9 ⟨rfl, hw9⟩; (rw [← HW7.out] at hw9); obtain rfl : W7 = w9 := hw9.symm; clear hw9; clear x0 x1 x2 x3 y0 y1 y2 y3 b0 b1 b2 b3 bf; have x0 := HX7.out.c0; have x1 := HX7.out.c1; have x2 := HX7.out.c2; have x3 := HX7.out.c3; have y0 := HX7.out.fr 0; have y1 := HX7.out.fr 1; have y2 := HX7.out.fr 2; have y3 := HX7.out.fr 3; have b0 := HY7.out.c0; have b1 := HY7.out.c1; have b2 := HY7.out.c2; have b3 := HY7.out.c3; refine Hid.out ?_)
          refine Lib.hid ?_
          go_wp2_with fail
          refine rd_end rfl (HX7.out.set4 _ _ _ _) rfl rfl rfl rfl (HB7.out.grown (gb_set4 _ w.heap.size _ _ _ _) HB7.out.size (fun k e => by cases e; exact Nat.le_refl _)) ?_
          rw [HO2.out]
          exact ⟨rfl, rfl, LV.move (w := W7) (fun b hb hs => ⟨(gb_set4 W7 w.heap.size _ _ _ _).block b hb (by have := hs.1; intro e; cases e; omega), hs.1, Nat.lt_of_lt_of_le hb (gb_set4 W7 w.heap.size _ _ _ _).size⟩) _ HL7.out⟩
        | none =>
          rw [h93] at C93
          change Hid (∀ w, Calls Tryz.prog 48 #[.string (bs l2), .string ⟨#[93]⟩] w fun e w' => e = .returned (.tuple #[.string (bs l2), .bool false]) ∧ w' = w) at C93
          cases h44 : takeG 44 l2 with
          | some r' =>
            rw [h44] at C44
            change Hid (∀ w, Calls Tryz.prog 48 #[.string (bs l2), .string ⟨#[44]⟩] w fun e w' => e = .returned (.tuple #[.string (bs r'), .bool true]) ∧ w' = w) at C44
            have hm0 : 1 ≤ m := by have := HI.out.hm; have := HL2.out.1; omega
            have hmx : m ≤ 500000 := by have := HI.out.hm2; omega
            have w8 : IntKind.i64.wrap ((m : Int) - 1) = ((m - 1 : Nat) : Int) := by rw [IntWalk.i64_in _ (by omega)]; omega
            have HNX : Hid (LsI w W7 f r0 r' (els ++ [((⟨#[]⟩ : ByteArray), v)]) (m - 1) (.slice ra (els.length + 1) rc) (cs ++ [.int .i64 k, .string t, .slice a n cc, .slice a2 n2 cc2]) fk) := by
              obtain ⟨q1, q2⟩ := sk_drop1 h44
              have q3 := HL2.out.1
              have q4 := HI.out.hl
              have q5 := HI.out.hm
              have q6 := HI.out.hm2
              have q7 := HI.out.hf
              refine Lib.hid ⟨q1, by rw [List.length_append]; simp only [List.length_cons, List.length_nil]; omega, by omega, by omega, by omega, ?_, HX7.out, HY7.out, HOWN7.out, HELS7.out, HB7.out⟩
              rw [← HO.out, HEQ.out]
              simp only [h93, h44]
              rfl
            generalize hm1e : m - 1 = m1 at w8 HNX
            have HM1 : Hid (m1 + 1 = m) := Lib.hid (by omega)
            clear hm1e
            clear h93 h44
            go_wp2_with (go_at_call 48; (with_reducible refine (C93.out _).mono ?_); rintro e w9 ⟨rfl, hw9⟩; (rw [← HW7.out] at hw9); obtain rfl : W7 = w9 := hw9.symm; clear hw9; clear x0 x1 x2 x3 y0 y1 y2 y3 b0 b1 b2 b3 bf; refine Hid.out ?_)
            refine Lib.hid ?_
            go_wp2_with (go_at_call 48; (with_reducible refine (C44.out _).mono ?_); rintro e w9 ⟨rfl, hw9⟩; obtain rfl : W7 = w9 := hw9.symm; clear hw9; refine Hid.out ?_)
            refine Lib.hid ?_
            go_wp2_with fail
            go_roundw
            case rel => exact ⟨r', _, m1, _, _, fk, rfl, by go_num, HNX⟩
            case measure => have := HM1.out; simp [intOf]; omega
          | none =>
            rw [h44] at C44
            change Hid (∀ w, Calls Tryz.prog 48 #[.string (bs l2), .string ⟨#[44]⟩] w fun e w' => e = .returned (.tuple #[.string (bs l2), .bool false]) ∧ w' = w) at C44
            have ho : o = none := HEQ.out.trans (by simp only [h93, h44])
            subst ho
            clear h93 h44
            go_wp2_with (go_at_call 48; (with_reducible refine (C93.out _).mono ?_); rintro e w9 ⟨rfl, hw9⟩; (rw [← HW7.out] at hw9); obtain rfl : W7 = w9 := hw9.symm; clear hw9; clear x0 x1 x2 x3 y0 y1 y2 y3 b0 b1 b2 b3 bf; refine Hid.out ?_)
            refine Lib.hid ?_
            have x0 := HX7.out.c0; have x1 := HX7.out.c1; have x2 := HX7.out.c2; have x3 := HX7.out.c3; have y0 := HX7.out.fr 0; have y1 := HX7.out.fr 1; have y2 := HX7.out.fr 2; have y3 := HX7.out.fr 3
            go_wp2_with (go_at_call 48; (with_reducible refine (C44.out _).mono ?_); rintro e w9 ⟨rfl, hw9⟩; obtain rfl : W7 = w9 := hw9.symm; clear hw9; refine Hid.out ?_)
            refine Lib.hid ?_
            go_wp2_with fail
            exact rd_end rfl (HX7.out.set4 _ _ _ _) rfl rfl rfl rfl (HB7.out.grown (gb_set4 _ w.heap.size _ _ _ _) HB7.out.size (fun k e => by cases e; exact Nat.le_refl _)) rfl
end Go.Proofs.YtaniebkfgkhgoaaGreatDoor
