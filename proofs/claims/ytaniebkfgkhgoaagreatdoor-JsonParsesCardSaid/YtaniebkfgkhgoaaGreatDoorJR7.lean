/- Layer 5: the reference's read whole; the law JsonParses. -/
import Derived.Test.YtaniebkfgkhgoaaGreatDoorJR6
import Derived.Test.YtaniebkfgkhgoaaGreatDoorJR4
import Derived.Test.YtaniebkfgkhgoaaGreatDoorJQ
import Derived.Test.YtaniebkfgkhgoaaGreatDoorJ5d
namespace Go.Proofs.YtaniebkfgkhgoaaGreatDoor
open Go.RowKit
set_option linter.unusedVariables false
set_option maxRecDepth 100000

theorem ref_unq (r : List UInt8) (h : r.length ≤ 500000) : UnqC r := fun w0 => by
  have := refUnquote_any (bs r) w0 (by rw [bs_size]; exact h)
  rw [bs_list] at this
  exact this
/-- The reference's read, at every text. -/
theorem read_all : ∀ (n : Nat) (l : List UInt8) (f : Nat), l.length ≤ n → l.length ≤ 500000 → 2 * l.length + 1 ≤ f → ∀ w : World, Calls Tryz.prog 25 #[.string (bs l)] w (RdPost w ((rdE refSg f).1 (sk l)))
  | n, l, 0, hn, hl, hf, w => by omega
  | 0, l, f + 1, hn, hl, hf, w => rread_any f l hl (ref_unq _ (Nat.le_trans (sk_len l) hl)) (fun o r hk hlt w0 => by omega) w
  | n + 1, l, f + 1, hn, hl, hf, w => rread_any f l hl (ref_unq _ (Nat.le_trans (sk_len l) hl)) (fun o r hk hlt w0 => by
      have hR : ∀ (r' : List UInt8) (f' : Nat), r'.length ≤ r.length → 2 * r'.length + 1 ≤ f' → ∀ w1 : World, Calls Tryz.prog 25 #[.string (bs r')] w1 (RdPost w1 ((rdE refSg f').1 (sk r'))) :=
        fun r' f' h1 h2 w1 => read_all n r' f' (by omega) (by omega) h2 w1
      cases o with
      | false => exact rlist_any r hk (by omega) f (by omega) hR w0
      | true => exact robj_any r hk (by omega) f (by omega) ref_unq hR w0) w
theorem parse_size (l : List UInt8) (hl : l.length ≤ 65536) : (parseG l).1.size ≤ 549755813888 := by
  have h0 : jZero.size ≤ 549755813888 := by decide
  unfold parseG
  split
  · exact h0
  cases h : wholeG l with
  | none => exact h0
  | some v =>
    simp only []
    split
    · exact h0
    split
    · exact h0
    · exact (whole_ok l hl v h).1
theorem lv_shape {w : World} {S : Nat → Prop} {v : JV} {k : Int} {t : ByteArray} {a : Option Addr} {n c : Nat} {a2 : Option Addr} {n2 c2 : Nat} (h : LV w S v (.int .i64 k) (.string t) (.slice a n c) (.slice a2 n2 c2)) : k = v.kind ∧ t = v.text ∧ n = v.list.length ∧ n2 = v.fields.length := by
  obtain ⟨kd, tx, ls, fs⟩ := v
  unfold LV at h
  obtain ⟨h0, h1, ⟨a', c', h2, -⟩, ⟨a3, c3, h3, -⟩⟩ := h
  cases h0; cases h1; cases h2; cases h3
  exact ⟨rfl, rfl, rfl, rfl⟩
theorem pp_shape {w w' : World} {v : JV} {er : Int} {e : Ending} (h : ParsePost w v er e w') : ∃ (a : Option Addr) (c : Nat) (a2 : Option Addr) (c2 : Nat), e = .returned (.tuple #[.agg #[.int .i64 v.kind, .string v.text, .slice a v.list.length c, .slice a2 v.fields.length c2], .int .i64 er]) ∧
    LV w' (fun _ => True) v (.int .i64 v.kind) (.string v.text) (.slice a v.list.length c) (.slice a2 v.fields.length c2) ∧ RowKit.Below w.heap.size w w' := by
  obtain ⟨k, t, a, n, c, a2, n2, c2, rfl, hl, hb⟩ := h
  obtain ⟨rfl, rfl, rfl, rfl⟩ := lv_shape hl
  exact ⟨a, c, a2, c2, rfl, LV.move (fun b hb hs => ⟨rfl, trivial⟩) _ hl, hb⟩

set_option maxHeartbeats 4000000 in
theorem lawParses_any (s : ByteArray) (w : World) (hT : Tab5 w) : Calls Tryz.prog 3 #[.string s] w fun e w' => e = .returned (.bool true) ∧ RowKit.Below w.heap.size w w' := by
  have HT := Lib.hid hT
  have AWK : Hid (∀ w0 : World, RowKit.Below w.heap.size w w0 → Calls Tryz.prog 6 #[] w0 fun e w' => e = .returned (.bool true) ∧ RowKit.Below w.heap.size w w') := Lib.hid (fun w0 hb => (awake5_any w0 (hT.below hb)).mono fun e w' ⟨he, h2⟩ => ⟨he, hb.trans (h2.mono hb.size)⟩)
  by_cases h1 : 512 < s.size
  · have h1' : (512 : Int) < (s.size : Int) := by omega
    have HB0 := Lib.hid (RowKit.Below.refl w.heap.size w)
    clear h1 hT
    go_enter Tryz.func3, Tryz.ntmps3
    go_wp2_with (go_at_call 6; (with_reducible refine (AWK.out _ HB0.out).mono ?_); rintro e w2 ⟨rfl, hb⟩; have HB2 := Lib.hid hb; clear hb)
    go_ret
    exact ⟨rfl, HB2.out⟩
  have h1' : (s.size : Int) ≤ 512 := by omega
  obtain ⟨l, hl⟩ : ∃ l, l = s.data.toList := ⟨_, rfl⟩
  have hsb : s = bs l := by rw [hl, of_bs]
  have hlen : l.length ≤ 512 := by rw [hl]; have : s.data.toList.length = s.size := by simp
                                   omega
  have hsz := parse_size l (by omega)
  have CP0 := parse_any l (by omega) w hT (whole_ok l (by omega))
  have CR0 := fun w0 : World => rparse_any l (by omega) (2 * l.length + 1) (Nat.le_refl _) (fun w1 => read_all l.length l (2 * l.length + 1) (Nat.le_refl _) (by omega) (Nat.le_refl _) w1) w0
  rw [← hsb] at CP0 CR0
  generalize (parseG l).1 = v at CP0 CR0 hsz
  generalize (parseG l).2 = er at CP0 CR0
  have CP := Lib.hid (CP0.mono fun e w' h => pp_shape h)
  have CR := Lib.hid (fun w0 : World => (CR0 w0).mono fun e w' h => pp_shape h)
  have CX : Hid (∀ (a : Option Addr) (c : Nat) (a2 : Option Addr) (c2 : Nat) (d : Option Addr) (x : Nat) (d2 : Option Addr) (x2 : Nat) (w0 : World), LV w0 (fun _ => True) v (.int .i64 v.kind) (.string v.text) (.slice a v.list.length c) (.slice a2 v.fields.length c2) → LV w0 (fun _ => True) v (.int .i64 v.kind) (.string v.text) (.slice d v.list.length x) (.slice d2 v.fields.length x2) →
    Calls Tryz.prog 9 #[.agg #[.int .i64 v.kind, .string v.text, .slice a v.list.length c, .slice a2 v.fields.length c2], .agg #[.int .i64 v.kind, .string v.text, .slice d v.list.length x, .slice d2 v.fields.length x2]] w0 fun e W' => e = .returned (.bool true) ∧ RowKit.Below w0.heap.size w0 W') :=
    Lib.hid (fun a c a2 c2 d x d2 x2 w0 h1 h2 => exact_any v.size v a c a2 c2 d x d2 x2 w0 (Nat.le_refl _) hsz h1 h2)
  clear h1 hl hsb hlen hsz CP0 CR0 hT
  generalize hk : v.kind = vk at *
  generalize ht : v.text = vt at *
  generalize hn : v.list.length = vn at *
  generalize hf : v.fields.length = vf at *
  clear hk ht hn hf
  go_enter Tryz.func3, Tryz.ntmps3
  go_wp2_with (go_at_call 7; (with_reducible refine CP.out.mono ?_); rintro e w1 ⟨a, c, a2, c2, rfl, hv, hb⟩; have HV := Lib.hid hv; have HB := Lib.hid hb; clear hv hb; refine Hid.out ?_)
  refine Lib.hid ?_
  obtain ⟨W1, hW1⟩ : ∃ W1, w1.alloc (.cells #[.int .i64 vk, .string vt, .slice a vn c, .slice a2 vf c2] 26) = W1 := ⟨_, rfl⟩
  have hb1 : RowKit.Below w1.heap.size w1 W1 := by rw [← hW1]; exact (Below.refl _ w1).alloc (Nat.le_refl _) _
  have hr1 : RB W1 w1.heap.size (.int .i64 vk) (.string vt) (.slice a vn c) (.slice a2 vf c2) := by rw [← hW1]; exact RB.new w1
  have HV1 := Lib.hid (LV.move (S' := fun _ => True) (fun b hb hs => ⟨hb1.block b hb, trivial⟩) _ HV.out)
  have HB1 := Lib.hid (HB.out.trans (hb1.mono HB.out.size))
  have HR1 := Lib.hid hr1
  clear hb1 hr1
  go_wp2_with (go_at_call 8; (with_reducible refine (CR.out _).mono ?_); rintro e w2 ⟨d, x, d2, x2, rfl, hv, hb⟩; have HV2 := Lib.hid hv; have HV12 := Lib.hid (LV.move (S' := fun _ => True) (fun b hb' hs => ⟨hb.block b hb', trivial⟩) _ HV1.out); have HR2 := Lib.hid (HR1.out.below hb); have HB2 := Lib.hid (HB1.out.trans (hb.mono HB1.out.size)); clear hv hb; refine Hid.out ?_)
  refine Lib.hid ?_
  obtain ⟨W2, hW2⟩ : ∃ W2, w2.alloc (.cells #[.int .i64 vk, .string vt, .slice d vn x, .slice d2 vf x2] 26) = W2 := ⟨_, rfl⟩
  have hb2 : RowKit.Below w2.heap.size w2 W2 := by rw [← hW2]; exact (Below.refl _ w2).alloc (Nat.le_refl _) _
  have hr2 : RB W2 w2.heap.size (.int .i64 vk) (.string vt) (.slice d vn x) (.slice d2 vf x2) := by rw [← hW2]; exact RB.new w2
  have HVA := Lib.hid (LV.move (S' := fun _ => True) (fun b hb hs => ⟨hb2.block b hb, trivial⟩) _ HV12.out)
  have HVB := Lib.hid (LV.move (S' := fun _ => True) (fun b hb hs => ⟨hb2.block b hb, trivial⟩) _ HV2.out)
  have HB3 := Lib.hid (HB2.out.trans (hb2.mono HB2.out.size))
  have hr12 := HR2.out.below hb2
  have q0 := hr12.c0; have q1 := hr12.c1; have q2 := hr12.c2; have q3 := hr12.c3
  have p0 := hr2.c0; have p1 := hr2.c1; have p2 := hr2.c2; have p3 := hr2.c3
  clear hb2 hr2 hr12 hW1
  go_wp2_with first
    | (go_at_call 9; (with_reducible refine (CX.out _ _ _ _ _ _ _ _ _ HVA.out HVB.out).mono ?_); rintro e w4 ⟨rfl, hb4⟩; have HB4 := Lib.hid (HB3.out.trans (hb4.mono HB3.out.size)); clear hb4)
    | (go_at_call 6; (with_reducible refine (AWK.out _ HB4.out).mono ?_); rintro e w5 ⟨rfl, hb⟩; have HB5 := Lib.hid hb; clear hb)
  go_ret
  exact ⟨rfl, HB5.out⟩
end Go.Proofs.YtaniebkfgkhgoaaGreatDoor
