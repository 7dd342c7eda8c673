/- The contract of begin: a value up to the first one in it. -/
import Derived.Test.YtnjikipncgbjjaaGreatDoorJsI
namespace Go.Proofs.YtnjikipncgbjjaaGreatDoor
open Go.RowKit
set_option linter.unusedVariables false
set_option maxRecDepth 100000
variable {X : Nat → Prop}

/-- How a step ends, its answer's parts at hand. -/
def OutSt (w0 w : World) (P : Nat) (M : List Nat) (o : Out) (x0 x1 x2 x3 : Value) (b : Bool) (w' : World) : Prop :=
  Ch (· ∈ M) w w' ∧ match o with
    | .fail => b = false
    | .val v r K => b = true ∧ ∃ sv R, PS X w0 w' P r K sv R ∧ LV w' (free (blks P sv R) X) v x0 x1 x2 x3 ∧ ∀ b ∈ blks P sv R, b ∈ M ∨ w.heap.size ≤ b
    | .more r K => b = true ∧ (x0 = .int .i64 0 ∧ x1 = .string ⟨#[]⟩ ∧ x2 = .slice none 0 0 ∧ x3 = .slice none 0 0) ∧ ∃ sv R, PS X w0 w' P r K sv R ∧ ∀ b ∈ blks P sv R, b ∈ M ∨ w.heap.size ≤ b
theorem OutPost.form {w0 w w' : World} {P : Nat} {M : List Nat} {o : Out} {e : Ending} (h : OutPost (X := X) w0 w P M o e w') :
    ∃ (k : Int) (t : ByteArray) (a : Option Addr) (n c : Nat) (a2 : Option Addr) (n2 c2 : Nat) (b : Bool), e = .returned (.tuple #[.agg #[.int .i64 k, .string t, .slice a n c, .slice a2 n2 c2], .bool b]) ∧ OutSt (X := X) w0 w P M o (.int .i64 k) (.string t) (.slice a n c) (.slice a2 n2 c2) b w' := by
  obtain ⟨c, h⟩ := h
  cases o with
  | fail => obtain ⟨k, t, a, n, c0, a2, n2, c2, rfl⟩ := h; exact ⟨k, t, a, n, c0, a2, n2, c2, false, rfl, c, rfl⟩
  | val v r K =>
    obtain ⟨x0, x1, x2, x3, sv, R, rfl, h1, h2, h3⟩ := h
    obtain ⟨k, t, l, f⟩ := v
    have h2' := h2
    simp only [LV] at h2'
    obtain ⟨rfl, rfl, ⟨a, c0, rfl, _⟩, ⟨a2, c2, rfl, _⟩⟩ := h2'
    exact ⟨k, t, a, _, c0, a2, _, c2, true, rfl, c, rfl, sv, R, h1, h2, h3⟩
  | more r K => obtain ⟨sv, R, rfl, h1, h2⟩ := h; exact ⟨_, _, _, _, _, _, _, _, true, rfl, c, rfl, ⟨rfl, rfl, rfl, rfl⟩, sv, R, h1, h2⟩
theorem OutSt.post {w0 w w' : World} {P : Nat} {M : List Nat} {o : Out} {k : Int} {t : ByteArray} {a : Option Addr} {n c : Nat} {a2 : Option Addr} {n2 c2 : Nat} {b : Bool} (h : OutSt (X := X) w0 w P M o (.int .i64 k) (.string t) (.slice a n c) (.slice a2 n2 c2) b w') :
    OutPost (X := X) w0 w P M o (.returned (.tuple #[.agg #[.int .i64 k, .string t, .slice a n c, .slice a2 n2 c2], .bool b])) w' := by
  obtain ⟨c, h⟩ := h
  refine ⟨c, ?_⟩
  cases o with
  | fail => subst h; exact ⟨_, _, _, _, _, _, _, _, rfl⟩
  | val v r K => obtain ⟨rfl, sv, R, h1, h2, h3⟩ := h; exact ⟨_, _, _, _, sv, R, rfl, h1, h2, h3⟩
  | more r K => obtain ⟨rfl, ⟨e0, e1, e2, e3⟩, sv, R, h1, h2⟩ := h; exact ⟨sv, R, by rw [e0, e1, e2, e3], h1, h2⟩
/-- A step that was done by a callee, behind some changes, its answer laid in a block of one's own. -/
theorem OutSt.pass {w0 w W w1 w4 w5 : World} {P blk : Nat} {M : List Nat} {o : Out} {x0 x1 x2 x3 : Value} {b : Bool} (hWb : Below w.heap.size w W) (hw0 : w0.heap.size ≤ w.heap.size) (hb0 : w.heap.size ≤ blk) (hb1 : blk < W.heap.size)
    (c1 : Ch (· ∈ M) W w1) (hs : OutSt (X := newer X w W) w0 w1 P M o x0 x1 x2 x3 b w4) (c5 : Ch (· = blk) w4 w5) : OutSt (X := X) w0 w P M o x0 x1 x2 x3 b w5 := by
  have hW := hWb.size
  have hw1 := c1.size
  obtain ⟨c4, h⟩ := hs
  refine ⟨(((Ch.of_below (M := (· ∈ M)) hWb).trans c1 (fun x _ e => e)).trans c4 (fun x _ e => e)).trans c5 (fun x hx e => by subst e; omega), ?_⟩
  have ho : ∀ {r K sv R}, PS (newer X w W) w0 w4 P r K sv R → PS X w0 w5 P r K sv R := fun hp => (hp.other c5 (fun x e => by subst e; exact .inr ⟨hb0, hb1⟩) (fun x hx e => by subst e; omega)).leave
  have hm : ∀ {sv R}, (∀ b ∈ blks P sv R, b ∈ M ∨ w1.heap.size ≤ b) → ∀ b ∈ blks P sv R, b ∈ M ∨ w.heap.size ≤ b := fun hx b hb => by
    rcases hx b hb with e | e
    · exact .inl e
    · exact .inr (by omega)
  cases o with
  | fail => exact h
  | val v r K =>
    obtain ⟨rfl, sv, R, h1, h2, h3⟩ := h
    exact ⟨rfl, sv, R, ho h1, LV.move (fun x hx hs => ⟨c5.block x hx (fun e => by subst e; exact hs.2 (.inr ⟨hb0, hb1⟩)), free_less hs⟩) v h2, hm h3⟩
  | more r K =>
    obtain ⟨rfl, h0, sv, R, h1, h2⟩ := h
    exact ⟨rfl, h0, sv, R, ho h1, hm h2⟩
theorem pass_end {w0 w W w1 w4 : World} {P blk : Nat} {M : List Nat} {o : Out} {k : Int} {t : ByteArray} {aa : Option Addr} {n c : Nat} {a2 : Option Addr} {n2 c2 : Nat} {y0 y1 y2 y3 : Value} {bo : Bool} {fn : Func} {p u : Tmp} {a : Act} (hres : fn.results = #[.cell p 26, .tmp u]) (hWb : Below w.heap.size w W) (hw0 : w0.heap.size ≤ w.heap.size) (hb0 : w.heap.size ≤ blk) (hb1 : blk < W.heap.size)
    (c1 : Ch (· ∈ M) W w1) (hs : OutSt (X := newer X w W) w0 w1 P M o (.int .i64 k) (.string t) (.slice aa n c) (.slice a2 n2 c2) bo w4) (hz : RB w4 blk y0 y1 y2 y3) (hp : a.tmps.getD p undef = .pointer (some ⟨blk, 0, none⟩)) (hu : a.tmps.getD u undef = .bool bo) (hd : a.defers = []) :
    bodyPost Tryz.prog fn (OutPost (X := X) w0 w P M o) .ret a ((((w4.setCell ⟨blk, 0, none⟩ (.int .i64 k)).setCell ⟨blk, 1, none⟩ (.string t)).setCell ⟨blk, 2, none⟩ (.slice aa n c)).setCell ⟨blk, 3, none⟩ (.slice a2 n2 c2)) :=
  ret_val hres hp hu hd (hz.set4 _ _ _ _) (hs.pass hWb hw0 hb0 hb1 c1 ((Ch.of_gb (gb_set4 w4 blk _ _ _ _)).mono (fun x _ e => by cases e; rfl))).post

def singleOut (K : List Fr) (l : List UInt8) : Out := match singleG l with | some (v, r) => .val v r K | none => .fail
/-- What single answers is a step's end. -/
theorem SinglePost.st {w0 w w' : World} {P : Nat} {l : List UInt8} {K : List Fr} {sv : Value} {R : List Value} {e : Ending} (h : PS X w0 w P l K sv R) (hs : SinglePost l P sv w e w') :
    ∃ (k : Int) (t : ByteArray) (a : Option Addr) (n c : Nat) (a2 : Option Addr) (n2 c2 : Nat) (b : Bool), e = .returned (.tuple #[.agg #[.int .i64 k, .string t, .slice a n c, .slice a2 n2 c2], .bool b]) ∧ OutSt (X := X) w0 w P (blks P sv R) (singleOut K l) (.int .i64 k) (.string t) (.slice a n c) (.slice a2 n2 c2) b w' := by
  obtain ⟨⟨k, t, b, s', rfl, hp, hv⟩, hg⟩ := hs
  refine ⟨k, t, _, _, _, _, _, _, b, rfl, h.inP hg, ?_⟩
  unfold singleOut
  rcases hv with ⟨rfl, hn⟩ | ⟨rfl, r, rfl, hy⟩
  · rw [hn]
  · rw [hy]
    exact ⟨rfl, sv, R, h.text hg hp, ⟨rfl, rfl, ⟨none, 0, rfl, .inl rfl⟩, ⟨none, 0, rfl, .inl rfl⟩⟩, fun b hb => .inl hb⟩

set_option maxHeartbeats 4000000 in
theorem begin_any (l : List UInt8) (hl : l.length ≤ 500000) (P : Nat) (K : List Fr) (hK : K.length ≤ 500000) (sv : Value) (R : List Value) (w0 w : World) (hT : Tab5 w0) (h : PS X w0 w P l K sv R) :
    Calls Tryz.prog 44 #[.pointer (some ⟨P, 0, none⟩)] w (OutPost (X := X) w0 w P (blks P sv R) (beginG K l)) := by
  obtain ⟨W, hW⟩ : ∃ W, W = w.alloc (.cells #[.int .i64 0, .string ⟨#[]⟩, .slice none 0 0, .slice none 0 0] 26) := ⟨_, rfl⟩
  have hWb : Below w.heap.size w W := by rw [hW]; exact (Below.refl _ _).alloc (Nat.le_refl _) _
  have HWZ : Hid (W.heap.size = w.heap.size + 1) := by show W.heap.size = _; rw [hW]; simp
  have HA : Hid (RB W w.heap.size (.int .i64 0) (.string ⟨#[]⟩) (.slice none 0 0) (.slice none 0 0)) := by
    show RB W _ _ _ _ _
    rw [hW]; exact RB.new w
  have H := Lib.hid h
  have HW := Lib.hid (h.enter hWb)
  have HWB := Lib.hid hWb
  have hwl : w.heap.size < W.heap.size := by have := HWZ.out; omega
  have HNM : Hid (w.heap.size ∉ blks P sv R) := fun e => by have := (H.out.lt w.heap.size e).1; omega
  have HZ : Hid (∀ w4 : World, Ch (· ∈ blks P sv R) W w4 → RB w4 w.heap.size (.int .i64 0) (.string ⟨#[]⟩) (.slice none 0 0) (.slice none 0 0)) := fun w4 g => g.heap HA.out HNM.out
  clear h hWb
  cases h1 : takeG 91 l with
  | some r =>
    have CT : Hid (∀ wx, PB wx P (bs l) sv → Calls Tryz.prog 69 #[.pointer (some ⟨P, 0, none⟩), .int .u8 91] wx fun e w' => e = .returned (.bool true) ∧ PB w' P (bs r) sv ∧ wx.grownBy w' (some P)) := fun wx hx => take_yes 91 l r h1 (by omega) P _ wx hx
    have hrl : r.length ≤ 500000 := by
      unfold takeG at h1; split at h1
      · cases h1; exact Nat.le_trans (sk_len _) (by rw [List.length_drop]; omega)
      · cases h1
    have HOG : Hid (beginG K l = openG false K r) := by show beginG K l = _; unfold beginG; rw [h1]
    have CO : Hid (∀ w1, PS (newer X w W) w0 w1 P r K sv R → Calls Tryz.prog 70 #[.pointer (some ⟨P, 0, none⟩), .int .i64 6, .int .u8 93] w1 (OutPost (X := newer X w W) w0 w1 P (blks P sv R) (openG false K r))) := fun w1 hp => open_any false r hrl P K hK sv R w0 w1 hT hp
    clear h1 hT
    rw [HOG.out]
    go_enter Tryz.func44, Tryz.ntmps44
    go_wp2_with fail
    rw [← hW]
    clear hW
    go_wp2_with (first
      | (go_at_call 69; (with_reducible refine (CT.out _ HW.out.blk).mono ?_); rintro e w1 ⟨rfl, hp1, hg1⟩; have H1 := Lib.hid (HW.out.text hg1 hp1); have C1 := Lib.hid (HW.out.inP hg1); clear hp1 hg1)
      | (go_at_call 70; (with_reducible refine (CO.out _ H1.out).mono ?_); rintro e w4 h4; obtain ⟨k0, t0, a0, n0, c0, a2, n2, c2, bo, rfl, hs4⟩ := h4.form; have HS4 := Lib.hid hs4; have HZ4 := Lib.hid (HZ.out w4 (C1.out.trans HS4.out.1 (fun x _ e => e))); have z0 := RB.c0 HZ4.out; have z1 := RB.c1 HZ4.out; have z2 := RB.c2 HZ4.out; have z3 := RB.c3 HZ4.out; have f0 := RB.fr HZ4.out 0; have f1 := RB.fr HZ4.out 1; have f2 := RB.fr HZ4.out 2; have f3 := RB.fr HZ4.out 3; clear hs4 h4))
    exact pass_end (p := 2) (u := 3) rfl HWB.out H.out.below.size (Nat.le_refl _) hwl C1.out HS4.out HZ4.out rfl rfl rfl
  | none =>
    have CN1 : Hid (∀ wx, PB wx P (bs l) sv → Calls Tryz.prog 69 #[.pointer (some ⟨P, 0, none⟩), .int .u8 91] wx fun e w' => e = .returned (.bool false) ∧ wx = w') := fun wx hx => take_no 91 l h1 P _ wx hx
    cases h2 : takeG 123 l with
    | some r =>
      have CT : Hid (∀ wx, PB wx P (bs l) sv → Calls Tryz.prog 69 #[.pointer (some ⟨P, 0, none⟩), .int .u8 123] wx fun e w' => e = .returned (.bool true) ∧ PB w' P (bs r) sv ∧ wx.grownBy w' (some P)) := fun wx hx => take_yes 123 l r h2 (by omega) P _ wx hx
      have hrl : r.length ≤ 500000 := by
        unfold takeG at h2; split at h2
        · cases h2; exact Nat.le_trans (sk_len _) (by rw [List.length_drop]; omega)
        · cases h2
      have HOG : Hid (beginG K l = openG true K r) := by show beginG K l = _; unfold beginG; rw [h1, h2]
      have CO : Hid (∀ w1, PS (newer X w W) w0 w1 P r K sv R → Calls Tryz.prog 70 #[.pointer (some ⟨P, 0, none⟩), .int .i64 7, .int .u8 125] w1 (OutPost (X := newer X w W) w0 w1 P (blks P sv R) (openG true K r))) := fun w1 hp => open_any true r hrl P K hK sv R w0 w1 hT hp
      clear h1 h2 hT
      rw [HOG.out]
      go_enter Tryz.func44, Tryz.ntmps44
      go_wp2_with fail
      rw [← hW]
      clear hW
      go_wp2_with (first
        | (go_at_call_of 69 (91 : Int); (with_reducible refine (CN1.out _ HW.out.blk).mono ?_); rintro e w1 ⟨rfl, rfl⟩)
        | (go_at_call 69; (with_reducible refine (CT.out _ HW.out.blk).mono ?_); rintro e w1 ⟨rfl, hp1, hg1⟩; have H1 := Lib.hid (HW.out.text hg1 hp1); have C1 := Lib.hid (HW.out.inP hg1); clear hp1 hg1)
        | (go_at_call 70; (with_reducible refine (CO.out _ H1.out).mono ?_); rintro e w4 h4; obtain ⟨k0, t0, a0, n0, c0, a2, n2, c2, bo, rfl, hs4⟩ := h4.form; have HS4 := Lib.hid hs4; have HZ4 := Lib.hid (HZ.out w4 (C1.out.trans HS4.out.1 (fun x _ e => e))); have z0 := RB.c0 HZ4.out; have z1 := RB.c1 HZ4.out; have z2 := RB.c2 HZ4.out; have z3 := RB.c3 HZ4.out; have f0 := RB.fr HZ4.out 0; have f1 := RB.fr HZ4.out 1; have f2 := RB.fr HZ4.out 2; have f3 := RB.fr HZ4.out 3; clear hs4 h4))
      exact pass_end (p := 2) (u := 3) rfl HWB.out H.out.below.size (Nat.le_refl _) hwl C1.out HS4.out HZ4.out rfl rfl rfl
    | none =>
      have CN2 : Hid (∀ wx, PB wx P (bs l) sv → Calls Tryz.prog 69 #[.pointer (some ⟨P, 0, none⟩), .int .u8 123] wx fun e w' => e = .returned (.bool false) ∧ wx = w') := fun wx hx => take_no 123 l h2 P _ wx hx
      have HOG : Hid (beginG K l = singleOut K l) := by show beginG K l = _; unfold beginG singleOut; rw [h1, h2]; rfl
      have CO := Lib.hid (single_any l hl P sv w0 W hT HW.out.below HW.out.low HW.out.blk)
      have C1 : Hid (Ch (· ∈ blks P sv R) W W) := Ch.refl _ _
      clear h1 h2 hT
      rw [HOG.out]
      go_enter Tryz.func44, Tryz.ntmps44
      go_wp2_with fail
      rw [← hW]
      clear hW
      go_wp2_with (first
        | (go_at_call_of 69 (91 : Int); (with_reducible refine (CN1.out _ HW.out.blk).mono ?_); rintro e w1 ⟨rfl, rfl⟩)
        | (go_at_call 69; (with_reducible refine (CN2.out _ HW.out.blk).mono ?_); rintro e w1 ⟨rfl, rfl⟩)
        | (go_at_call 71; (with_reducible refine CO.out.mono ?_); rintro e w4 h4; obtain ⟨k0, t0, a0, n0, c0, a2, n2, c2, bo, rfl, hs4⟩ := SinglePost.st HW.out h4; have HS4 := Lib.hid hs4; have HZ4 := Lib.hid (HZ.out w4 (C1.out.trans HS4.out.1 (fun x _ e => e))); have z0 := RB.c0 HZ4.out; have z1 := RB.c1 HZ4.out; have z2 := RB.c2 HZ4.out; have z3 := RB.c3 HZ4.out; have f0 := RB.fr HZ4.out 0; have f1 := RB.fr HZ4.out 1; have f2 := RB.fr HZ4.out 2; have f3 := RB.fr HZ4.out 3; clear hs4 h4))
      exact pass_end (p := 2) (u := 3) rfl HWB.out H.out.below.size (Nat.le_refl _) hwl C1.out HS4.out HZ4.out rfl rfl rfl
end Go.Proofs.YtnjikipncgbjjaaGreatDoor
