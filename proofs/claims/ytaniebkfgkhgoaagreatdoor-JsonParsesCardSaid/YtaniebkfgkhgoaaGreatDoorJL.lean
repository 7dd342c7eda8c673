/- The contract of whole: the value of which a text consists. Fields in the order of their names: the comparison, the library's stable sort of pointers to fields . -/
import Derived.Test.YtaniebkfgkhgoaaGreatDoorJ4
import Derived.Test.YtaniebkfgkhgoaaGreatDoorJ0
import Derived.Deep.LoopGhost
import Derived.StillTailTactics
import Derived.Shelf.SlSortCmp.Insertion
import Derived.Shelf.SlGeneric
import Derived.Sort.LotA
namespace Go.Proofs.YtaniebkfgkhgoaaGreatDoor
open Go.RowKit
set_option linter.unusedVariables false
set_option maxRecDepth 100000
variable {X : Nat → Prop}

/-- put's contract. -/
def PutC : Prop := ∀ (X : Nat → Prop) (l : List UInt8) (hl : l.length ≤ 500000) (P : Nat) (F : Fr) (K : List Fr) (hFn : F.els.length ≤ 500000) (sv : Value) (R : List Value) (v : JV) (k0 : Int) (t0 : ByteArray) (a0 : Option Addr) (n0 c0 : Nat) (a2 : Option Addr) (n2 c2 : Nat) (w0 w : World) (hT : Tab5 w0) (h : PS X w0 w P l (F :: K) sv R)
    (hv : LV w (free (blks P sv R) X) v (.int .i64 k0) (.string t0) (.slice a0 n0 c0) (.slice a2 n2 c2)),
    Calls Tryz.prog 44 #[.pointer (some ⟨P, 0, none⟩), .agg #[.int .i64 k0, .string t0, .slice a0 n0 c0, .slice a2 n2 c2]] w (OutPost (X := X) w0 w P (blks P sv R) (putG v F K l))

/-- What whole answers. -/
def WholePost (w : World) (P : Nat) (l : List UInt8) (e : Ending) (w' : World) : Prop :=
  Ch (· = P) w w' ∧ ∃ (k : Int) (t : ByteArray) (a : Option Addr) (n c : Nat) (a2 : Option Addr) (n2 c2 : Nat) (b : Bool), e = .returned (.tuple #[.agg #[.int .i64 k, .string t, .slice a n c, .slice a2 n2 c2], .bool b]) ∧
    ((b = false ∧ wholeG l = none) ∨ (b = true ∧ ∃ v, wholeG l = some v ∧ LV w' (fun x => x ≠ P ∧ ¬ X x) v (.int .i64 k) (.string t) (.slice a n c) (.slice a2 n2 c2)))

theorem PS.anti {X' : Nat → Prop} {w0 w : World} {P : Nat} {l : List UInt8} {K : List Fr} {sv : Value} {R : List Value} (h : PS X' w0 w P l K sv R) (hX : ∀ b, X b → X' b) : PS X w0 w P l K sv R :=
  ⟨h.blk, h.low, h.own, h.rows.move (Ch.refl (fun _ => False) w) (fun b _ hs => ⟨fun e => e, hs.1, fun e => hs.2 (hX b e)⟩) (fun _ _ _ _ e => e), h.nodup, h.below, h.frok, fun b hb e => h.out b hb (hX b e), fun b hb => h.xlt b (hX b hb)⟩

/-- Bounds of what a step leaves. -/
def OutB (N lb : Nat) : Out → Prop
  | .fail => True
  | .more r K => r.length < lb ∧ Bnd N r K
  | .val v r K => r.length < lb ∧ Bnd N r K ∧ v.kind ≠ 0
theorem Bnd.less {N : Nat} {l r : List UInt8} {K : List Fr} (h : Bnd N l K) (hr : r.length ≤ l.length) : Bnd N r K := ⟨by have := h.1; omega, fun F hF => by have := h.2 F hF; omega⟩
theorem OutOk.b {N : Nat} {l : List UInt8} {K : List Fr} {o : Out} (h : OutOk N l K o) (hb : Bnd N l K) : OutB N l.length o := by
  cases o with
  | fail => trivial
  | more r K' => exact h
  | val v r K' => obtain ⟨h1, rfl, h2⟩ := h; exact ⟨h1, hb.less (Nat.le_of_lt h1), h2⟩
theorem OutB.mono {N a b : Nat} {o : Out} (h : OutB N a o) (hab : a ≤ b) : OutB N b o := by
  cases o with
  | fail => trivial
  | more r K => exact ⟨by have := h.1; omega, h.2⟩
  | val v r K => exact ⟨by have := h.1; omega, h.2⟩

/-- A step's end, seen from the beginning. -/
theorem OutSt.base {w0 w wr w' : World} {P : Nat} {M : List Nat} {o : Out} {x0 x1 x2 x3 : Value} {b : Bool} (h : OutSt (X := X) w0 wr P M o x0 x1 x2 x3 b w') (c : Ch (· = P) w wr) (hM : ∀ x ∈ M, x = P ∨ w.heap.size ≤ x) : OutSt (X := X) w0 w P [P] o x0 x1 x2 x3 b w' := by
  obtain ⟨c1, h⟩ := h
  have hs := c.size
  refine ⟨(c.mono (M' := (· ∈ [P])) (fun x _ e => by simp [e])).trans c1 (fun x hx e => ?_), ?_⟩
  · rcases hM x e with e | e
    · simp [e]
    · omega
  · have hm : ∀ {sv R}, (∀ b ∈ blks P sv R, b ∈ M ∨ wr.heap.size ≤ b) → ∀ b ∈ blks P sv R, b ∈ [P] ∨ w.heap.size ≤ b := fun hx b hb => by
      rcases hx b hb with e | e
      · rcases hM b e with e | e
        · exact .inl (by simp [e])
        · exact .inr e
      · exact .inr (by omega)
    cases o with
    | fail => exact h
    | val v r K => obtain ⟨rfl, sv, R, h1, h2, h3⟩ := h; exact ⟨rfl, sv, R, h1, h2, hm h3⟩
    | more r K => obtain ⟨rfl, h0, sv, R, h1, h2⟩ := h; exact ⟨rfl, h0, sv, R, h1, hm h2⟩
theorem OutSt.chP {w0 w w' : World} {P : Nat} {o : Out} {x0 x1 x2 x3 : Value} {b : Bool} (h : OutSt (X := X) w0 w P [P] o x0 x1 x2 x3 b w') : Ch (· = P) w w' := h.1.mono (fun x _ e => by simpa using e)
/-- .. behind changes of foreign blocks that were made since. -/
theorem OutSt.other {X' : Nat → Prop} {w0 w w' w2 : World} {P : Nat} {o : Out} {x0 x1 x2 x3 : Value} {b : Bool} {M : Nat → Prop} (h : OutSt (X := X) w0 w P [P] o x0 x1 x2 x3 b w') (hw0 : w0.heap.size ≤ w.heap.size) (c : Ch M w' w2) (hX : ∀ y, X y → X' y)
    (hps : ∀ {r K sv R}, PS X w0 w' P r K sv R → PS X' w0 w2 P r K sv R) (hMw : ∀ y, M y → w.heap.size ≤ y) (hf : ∀ y L, y < w'.heap.size → free L X y → ¬ M y ∧ free L X' y) : OutSt (X := X') w0 w P [P] o x0 x1 x2 x3 b w2 := by
  obtain ⟨c1, h⟩ := h
  refine ⟨c1.trans c (fun y hy e => by have := hMw y e; omega), ?_⟩
  cases o with
  | fail => exact h
  | val v r K => obtain ⟨rfl, sv, R, h1, h2, h3⟩ := h; exact ⟨rfl, sv, R, hps h1, LV.move (fun y hy hs => ⟨c.block y hy (hf y _ hy hs).1, (hf y _ hy hs).2⟩) v h2, h3⟩
  | more r K => obtain ⟨rfl, h0, sv, R, h1, h2⟩ := h; exact ⟨rfl, h0, sv, R, hps h1, h2⟩

/-- The outer loop's relation. -/
structure WRel (w0 w : World) (P N : Nat) (Rr : Option (JV × List UInt8)) (X1 : Nat → Prop) (gk : Nat) (wr : World) (lc : List UInt8) (K : List Fr) (sv : Value) (R : List Value) (f : Nat) : Prop where
  ps : PS X1 w0 wr P lc K sv R
  bnd : Bnd N lc K
  run : runG f lc K = Rr
  fuel : lc.length < f
  ghost : gk = lc.length
  ch : Ch (· = P) w wr
  sub : ∀ b ∈ blks P sv R, b = P ∨ w.heap.size ≤ b
  res : RB wr w.heap.size (.int .i64 0) (.string ⟨#[]⟩) (.slice none 0 0) (.slice none 0 0)
/-- The inner loop's relation. -/
structure IRel (w0 w : World) (P N f lb b4 : Nat) (Rr : Option (JV × List UInt8)) (X2 : Nat → Prop) (wr : World) (o : Out) (k : Int) (t : ByteArray) (a : Option Addr) (n c : Nat) (a2 : Option Addr) (n2 c2 : Nat) (bo : Bool) : Prop where
  st : OutSt (X := X2) w0 w P [P] o (.int .i64 k) (.string t) (.slice a n c) (.slice a2 n2 c2) bo wr
  b4 : RB wr b4 (.int .i64 k) (.string t) (.slice a n c) (.slice a2 n2 c2)
  fin : finG f o = Rr
  bnd : OutB N lb o
  res : RB wr w.heap.size (.int .i64 0) (.string ⟨#[]⟩) (.slice none 0 0) (.slice none 0 0)
theorem IRel.init {w0 w W w4 wr : World} {P N f gk : Nat} {Rr : Option (JV × List UInt8)} {lc : List UInt8} {K : List Fr} {sv : Value} {R : List Value} {k : Int} {t : ByteArray} {a : Option Addr} {n c : Nat} {a2 : Option Addr} {n2 c2 : Nat} {bo : Bool}
    (h : WRel w0 w P N Rr (newer X w W) gk wr lc K sv R (f + 1)) (hw0 : w0.heap.size ≤ w.heap.size) (hX2 : newer X w W w.heap.size) (hs : OutSt (X := newer X w W) w0 wr P (blks P sv R) (beginG K lc) (.int .i64 k) (.string t) (.slice a n c) (.slice a2 n2 c2) bo w4) :
    IRel w0 w P N f lc.length w4.heap.size Rr (newer (newer X w W) w4 (w4.alloc (.cells #[.int .i64 k, .string t, .slice a n c, .slice a2 n2 c2] 26))) (w4.alloc (.cells #[.int .i64 k, .string t, .slice a n c, .slice a2 n2 c2] 26)) (beginG K lc) k t a n c a2 n2 c2 bo := by
  have hb : Below w4.heap.size w4 (w4.alloc (.cells #[.int .i64 k, .string t, .slice a n c, .slice a2 n2 c2] 26)) := (Below.refl _ _).alloc (Nat.le_refl _) _
  refine ⟨(hs.base h.ch h.sub).other hw0 (Ch.of_below (M := fun _ => False) hb) (fun y e => .inl e) (fun hp => hp.enter hb) (fun _ e => e.elim) (fun y L hy hf => ⟨fun e => e, free_newer hy hf⟩), RB.new _, (runG_succ f lc K).symm.trans h.run, (begin_ok h.bnd).b h.bnd, ?_⟩
  exact (RB.below (hs.1.heap h.res (fun e => h.ps.out _ e hX2)) hb)
def outLen : Out → Nat
  | .fail => 0
  | .more _ _ => 0
  | .val _ l _ => l.length + 1

theorem whole_eq (l : List UInt8) : wholeG l = match runG (l.length + 1) (sk l) [] with | some (v, []) => some v | _ => none := rfl
theorem whole_end {w w4 : World} {P : Nat} {l : List UInt8} {a : Act} {bo : Bool} {k : Int} {t : ByteArray} {aa : Option Addr} {n c : Nat} {a2 : Option Addr} {n2 c2 : Nat} {y0 y1 y2 y3 : Value} (hP : P < w.heap.size) (c4 : Ch (· = P) w w4) (hz : RB w4 w.heap.size y0 y1 y2 y3)
    (hp : a.tmps.getD 2 undef = .pointer (some ⟨w.heap.size, 0, none⟩)) (hu : a.tmps.getD 3 undef = .bool bo) (hd : a.defers = [])
    (hv : (bo = false ∧ wholeG l = none) ∨ (bo = true ∧ ∃ v X', wholeG l = some v ∧ (∀ y, X y → X' y) ∧ X' w.heap.size ∧ ∃ L, P ∈ L ∧ LV w4 (free L X') v (.int .i64 k) (.string t) (.slice aa n c) (.slice a2 n2 c2))) :
    bodyPost Tryz.prog Tryz.f21 (WholePost (X := X) w P l) .ret a ((((w4.setCell ⟨w.heap.size, 0, none⟩ (.int .i64 k)).setCell ⟨w.heap.size, 1, none⟩ (.string t)).setCell ⟨w.heap.size, 2, none⟩ (.slice aa n c)).setCell ⟨w.heap.size, 3, none⟩ (.slice a2 n2 c2)) := by
  have g5 := gb_set4 w4 w.heap.size (.int .i64 k) (.string t) (.slice aa n c) (.slice a2 n2 c2)
  refine ret_val (p := 2) (u := 3) rfl hp hu hd (hz.set4 _ _ _ _) ⟨c4.trans (Ch.of_gb g5) (fun x hx e => by cases e; omega), k, t, aa, n, c, a2, n2, c2, bo, rfl, ?_⟩
  rcases hv with h | ⟨h, v, X', h1, h2, h3, L, h4, h5⟩
  · exact .inl h
  · exact .inr ⟨h, v, h1, LV.move (fun y hy hs => ⟨g5.block y hy (fun e => by cases e; exact hs.2 h3), fun e => hs.1 (by rw [e]; exact h4), fun e => hs.2 (h2 y e)⟩) v h5⟩

theorem IRel.next {w0 w : World} {P N f lb b4 : Nat} {Rr : Option (JV × List UInt8)} {X2 : Nat → Prop} {wr w5 : World} {v : JV} {r : List UInt8} {F : Fr} {K2 : List Fr} {sv : Value} {R : List Value} {k : Int} {t : ByteArray} {a : Option Addr} {n c : Nat} {a2 : Option Addr} {n2 c2 : Nat} {bo : Bool} {k' : Int} {t' : ByteArray} {a' : Option Addr} {n' c' : Nat} {b2 : Option Addr} {m2 d2 : Nat} {ok : Bool}
    (h : IRel w0 w P N f lb b4 Rr X2 wr (.val v r (F :: K2)) k t a n c a2 n2 c2 bo) (hw0 : w0.heap.size ≤ w.heap.size) (hwb : w.heap.size ≤ b4) (hb : b4 ≠ w.heap.size) (hX4 : X2 b4) (hXw : X2 w.heap.size) (hps : PS X2 w0 wr P r (F :: K2) sv R) (hsub : ∀ b ∈ blks P sv R, b ∈ [P] ∨ w.heap.size ≤ b)
    (hs : OutSt (X := X2) w0 wr P (blks P sv R) (putG v F K2 r) (.int .i64 k') (.string t') (.slice a' n' c') (.slice b2 m2 d2) ok w5) :
    IRel w0 w P N f lb b4 Rr X2 ((((w5.setCell ⟨b4, 0, none⟩ (.int .i64 k')).setCell ⟨b4, 1, none⟩ (.string t')).setCell ⟨b4, 2, none⟩ (.slice a' n' c')).setCell ⟨b4, 3, none⟩ (.slice b2 m2 d2)) (putG v F K2 r) k' t' a' n' c' b2 m2 d2 ok ∧ outLen (putG v F K2 r) < outLen (.val v r (F :: K2)) := by
  have hbn : b4 ∉ blks P sv R := fun e => hps.out b4 e hX4
  have hwn : w.heap.size ∉ blks P sv R := fun e => hps.out _ e hXw
  have c5 : Ch (· = b4) w5 _ := (Ch.of_gb (gb_set4 w5 b4 (.int .i64 k') (.string t') (.slice a' n' c') (.slice b2 m2 d2))).mono (M' := (· = b4)) (fun x _ e => by cases e; rfl)
  have hb5 : RB w5 b4 _ _ _ _ := hs.1.heap h.b4 hbn
  have hr5 : RB w5 w.heap.size _ _ _ _ := hs.1.heap h.res hwn
  obtain ⟨hl, hbd, hkn⟩ := h.bnd
  have hpo := put_ok (v := v) hbd
  refine ⟨⟨?_, hb5.set4 _ _ _ _, ?_, ?_, c5.heap hr5 (fun e => hb e.symm)⟩, ?_⟩
  · refine (hs.base h.st.chP (fun x e => ?_)).other hw0 c5 (fun _ e => e) (fun hp => hp.other c5 (fun x e => by rw [e]; exact hX4) (fun x hx e => by subst e; omega)) (fun y e => by rw [e]; exact hwb) (fun y L hy hf => ⟨fun e => hf.2 (by rw [e]; exact hX4), hf⟩)
    rcases hsub x e with e | e
    · exact .inl (by simpa using e)
    · exact .inr e
  · rw [← fin_put f N v F K2 r hbd]; exact h.fin
  · have hbd2 : Bnd N r K2 := ⟨by have := hbd.1; simp only [List.length_cons] at this; omega, fun G hG => hbd.2 G (by simp [hG])⟩
    exact (hpo.b hbd2).mono (Nat.le_of_lt hl)
  · cases hp : putG v F K2 r with
    | fail => simp [outLen]
    | more r' K' => simp [outLen]
    | val v' r' K' => rw [hp] at hpo; simp only [outLen]; have := hpo.1; omega

set_option maxHeartbeats 16000000 in
theorem whole_any (HPC : PutC) (l : List UInt8) (hl : l.length ≤ 500000) (P : Nat) (w0 w : World) (hT : Tab5 w0) (h : PS X w0 w P l [] nilS []) :
    Calls Tryz.prog 21 #[.pointer (some ⟨P, 0, none⟩)] w (WholePost (X := X) w P l) := by
  obtain ⟨W, hW⟩ : ∃ W, W = w.alloc (.cells #[.int .i64 0, .string ⟨#[]⟩, .slice none 0 0, .slice none 0 0] 26) := ⟨_, rfl⟩
  have hWb : Below w.heap.size w W := by rw [hW]; exact (Below.refl _ _).alloc (Nat.le_refl _) _
  have HWZ : Hid (W.heap.size = w.heap.size + 1) := by show W.heap.size = _; rw [hW]; simp
  have HA : Hid (RB W w.heap.size (.int .i64 0) (.string ⟨#[]⟩) (.slice none 0 0) (.slice none 0 0)) := by
    show RB W _ _ _ _ _
    rw [hW]; exact RB.new w
  have H := Lib.hid h
  have HW := Lib.hid (h.enter hWb)
  have HWB := Lib.hid hWb
  have hsk : (sk l).length ≤ l.length := sk_len l
  have CS : Hid (Calls Tryz.prog 42 #[.pointer (some ⟨P, 0, none⟩), .int .i64 0] W fun e w' => e = .returned (.tuple #[]) ∧ PB w' P (bs (sk l)) nilS ∧ W.grownBy w' (some P)) :=
    skip_any l 0 (by omega) (by omega) P nilS W HW.out.blk
  obtain ⟨Rr, hRr⟩ : ∃ Rr, Rr = runG (l.length + 1) (sk l) [] := ⟨_, rfl⟩
  have HRR := Lib.hid hRr
  have hwP : w.heap.size ≠ P := by have := h.blk.lt; omega
  have hwP2 : P ≠ w.heap.size := fun e => hwP e.symm
  have hX1 : Hid (∀ y, X y → newer X w W y) := fun y e => .inl e
  have hX2 : Hid (newer X w W w.heap.size) := .inr ⟨Nat.le_refl _, by have := HWZ.out; omega⟩
  clear h hWb hRr
  go_enter Tryz.func21, Tryz.ntmps21
  go_wp2_with fail
  rw [← hW]
  clear hW
  go_wp2_with (go_at_call 42; (with_reducible refine CS.out.mono ?_); rintro e w1 ⟨rfl, hp1, hg1⟩; have H1 := Lib.hid (HW.out.text hg1 hp1); have HZ1 := Lib.hid (HA.out.gb hg1 (by simpa using hwP)); have C1 := Lib.hid ((Ch.of_below (M := (· = P)) HWB.out).trans (Ch.of_gb hg1) (fun x _ e => by cases e; rfl)); clear hp1 hg1)
  go_loopg [] (sk l).length (fun gk wr => ∃ lc K sv R f, WRel w0 w P (sk l).length Rr (newer X w W) gk wr lc K sv R f)
  case atStart => exact ⟨sk l, [], nilS, [], l.length + 1, H1.out, ⟨by simp, fun F hF => by cases hF⟩, HRR.out.symm, by omega, rfl, C1.out, fun b hb => .inl (by simpa [blks, ownB_nil] using hb), HZ1.out⟩
  case round =>
    obtain ⟨lc, K, sv, R, f, hrel⟩ := hrel
    have HR := Lib.hid hrel
    clear hrel
    obtain ⟨f', hf'⟩ : ∃ f', f = f' + 1 := ⟨f - 1, by have := HR.out.fuel; omega⟩
    have HF' := Lib.hid hf'
    clear hf'
    have hlc : lc.length ≤ 500000 := by have := HR.out.bnd.1; omega
    have CB := Lib.hid (begin_any lc hlc P K (by have := HR.out.bnd.1; omega) sv R w0 wr hT HR.out.ps)
    go_wp2_with (go_at_call 43; (with_reducible refine CB.out.mono ?_); rintro e w4 h4; obtain ⟨k0, t0, a0, n0, c0, a2, n2, c2, bo, rfl, hs4⟩ := h4.form; have HS4 := Lib.hid hs4; clear hs4 h4)
    have HI := Lib.hid (IRel.init (f := f') (by have := HR.out; rwa [HF'.out] at this) H.out.below.size hX2.out HS4.out)
    have hlb : lc.length ≤ f' := by have := HR.out.fuel; have := HF'.out; omega
    have HGK := Lib.hid HR.out.ghost
    have hw4 : w.heap.size ≤ w4.heap.size := Nat.le_trans HR.out.ch.size HS4.out.1.size
    have hb41 : w.heap.size ≠ w4.heap.size := by
      have := HI.out.res.lt
      have h2 := HR.out.res.lt
      have h3 := HS4.out.1.size
      omega
    have hb42 : w4.heap.size ≠ w.heap.size := fun e => hb41 e.symm
    have HX1 : Hid (∀ y, newer X w W y → newer (newer X w W) w4 (w4.alloc (.cells #[.int .i64 k0, .string t0, .slice a0 n0 c0, .slice a2 n2 c2] 26)) y) := fun y e => .inl e
    have HX2 : Hid (newer (newer X w W) w4 (w4.alloc (.cells #[.int .i64 k0, .string t0, .slice a0 n0 c0, .slice a2 n2 c2] 26)) w4.heap.size) := .inr ⟨Nat.le_refl _, by simp⟩
    clear HR HS4 CB
    generalize newer (newer X w W) w4 (w4.alloc (.cells #[.int .i64 k0, .string t0, .slice a0 n0 c0, .slice a2 n2 c2] 26)) = X2 at HI HX1 HX2
    generalize w4.heap.size = b4 at *
    generalize w4.alloc (.cells #[.int .i64 k0, .string t0, .slice a0 n0 c0, .slice a2 n2 c2] 26) = W4 at *
    go_loopg [5] (outLen (beginG K lc)) (fun gk2 s5 wx => ∃ o k t a n c a2 n2 c2 bo, s5 = .bool bo ∧ gk2 = outLen o ∧ Hid (IRel w0 w P (sk l).length f' lc.length b4 Rr X2 wx o k t a n c a2 n2 c2 bo))
    case atStart => exact ⟨beginG K lc, k0, t0, a0, n0, c0, a2, n2, c2, bo, rfl, rfl, HI.out⟩
    case round =>
      obtain ⟨o, k, t, a, n, c, b2, m2, d2, ok, rfl, hgk2, HJ⟩ := hrel
      have HG2 := Lib.hid hgk2
      clear hgk2 HI
      have q0 := HJ.out.b4.c0
      have q1 := HJ.out.b4.c1
      have q2 := HJ.out.b4.c2
      have q3 := HJ.out.b4.c3
      have hwb : w.heap.size ≤ b4 := by omega
      cases o with
      | fail =>
        obtain rfl : ok = false := HJ.out.st.2
        have HN : Hid (wholeG l = none) := by show wholeG l = none; rw [whole_eq, ← HRR.out, ← HJ.out.fin]; rfl
        have z0 := HJ.out.res.c0
        have z1 := HJ.out.res.c1
        have z2 := HJ.out.res.c2
        have z3 := HJ.out.res.c3
        have f0 := HJ.out.res.fr 0
        have f1 := HJ.out.res.fr 1
        have f2 := HJ.out.res.fr 2
        have f3 := HJ.out.res.fr 3
        go_wp2_with fail
        exact whole_end H.out.blk.lt HJ.out.st.chP HJ.out.res rfl rfl rfl (.inl ⟨rfl, HN.out⟩)
      | more r K' =>
        obtain ⟨c1, rfl, ⟨e0, e1, e2, e3⟩, sv', R', hps, hsub⟩ := HJ.out.st
        have hk0 : k = 0 := by simpa using e0
        subst hk0
        have HPS := Lib.hid hps
        have HSU := Lib.hid hsub
        have HC1 := Lib.hid c1
        clear hps hsub c1 e1 e2 e3 e0
        go_wp2_with fail
        go_roundg r.length
        case rel => exact ⟨r, K', sv', R', f', HPS.out.anti HX1.out, HJ.out.bnd.2, HJ.out.fin, by have := HJ.out.bnd.1; omega, rfl, HJ.out.st.chP, fun b hb => (HSU.out b hb).elim (fun e => .inl (by simpa using e)) .inr, HJ.out.res⟩
        case measure => have := HJ.out.bnd.1; have := HGK.out; omega
      | val v r K' =>
        obtain ⟨c1, rfl, sv', R', hps, hlv, hsub⟩ := HJ.out.st
        have hkv : k = v.kind := by
          obtain ⟨vk, vt, vl, vf⟩ := v
          simp only [LV] at hlv
          have := hlv.1
          simpa [JV.kind] using this
        have hk0 : ¬ k = 0 := by rw [hkv]; exact HJ.out.bnd.2.2
        have hk1 : (k != 0) = true := by simpa using hk0
        have HPS := Lib.hid hps
        have HSU := Lib.hid hsub
        have HC1 := Lib.hid c1
        have HLV := Lib.hid hlv
        clear hps hsub c1 hlv hkv
        have s0 := HPS.out.blk.c0
        have s1 := HPS.out.blk.c1
        cases K' with
        | nil =>
          obtain ⟨sa, sc, rfl⟩ := own_shape HPS.out.own
          simp only [List.length_nil] at s1
          have z0 := HJ.out.res.c0
          have z1 := HJ.out.res.c1
          have z2 := HJ.out.res.c2
          have z3 := HJ.out.res.c3
          have f0 := HJ.out.res.fr 0
          have f1 := HJ.out.res.fr 1
          have f2 := HJ.out.res.fr 2
          have f3 := HJ.out.res.fr 3
          go_wp2_with fail
          go_region
          go_wp2_with fail
          have hd : (P ∈ blks P (.slice sa 0 sc) R') := by simp [blks]
          refine whole_end (w4 := wr.drew) H.out.blk.lt (HJ.out.st.chP.trans (Ch.of_gb (gb_drewN wr 1 none)) (fun _ _ e => by cases e)) HJ.out.res rfl rfl rfl ?_
          have hfin : some (v, r) = runG (l.length + 1) (sk l) [] := by rw [← HRR.out, ← HJ.out.fin]; rfl
          by_cases hr : r = []
          · subst hr
            exact .inr ⟨emp_t, v, X2, by rw [whole_eq, ← hfin], fun y e => HX1.out y (hX1.out y e), HX1.out _ hX2.out, _, hd, LV.move (w := wr) (w' := wr.drew) (S' := free (blks P (.slice sa 0 sc) R') X2) (fun y hy hs => ⟨rfl, hs⟩) v HLV.out⟩
          · refine .inl ⟨emp_f hr, ?_⟩
            rw [whole_eq, ← hfin]
            cases r with
            | nil => exact absurd rfl hr
            | cons x xs => rfl
        | cons F K2 =>
          obtain ⟨g, cap, rv, R2, hR2, rfl, hcap, hcm, hgP, hg0, hc, hf⟩ := HPS.out.top
          have CP := Lib.hid (HPC X2 r (by have := HJ.out.bnd.1; omega) P F K2 (by have := HJ.out.bnd.2.1.2 F (by simp); omega) _ R' v k t a n c b2 m2 d2 w0 wr hT HPS.out HLV.out)
          clear hR2 hc hf
          have hlen : ¬ ((K2.length : Int) + 1 = 0) := by omega
          generalize hkk : K2.length = kk at *
          have HKK := Lib.hid hkk
          clear hkk
          go_wp2_with (go_at_call 44; (with_reducible refine CP.out.mono ?_); rintro e w5 h5; obtain ⟨k5, t5, a5, n5, c5, b5, m5, d5, ok5, rfl, hs5⟩ := h5.form; have HS5 := Lib.hid hs5; have HB5 := Lib.hid (hs5.1.heap HJ.out.b4 (fun e => HPS.out.out _ e HX2.out)); have y0 := RB.c0 HB5.out; have y1 := RB.c1 HB5.out; have y2 := RB.c2 HB5.out; have y3 := RB.c3 HB5.out; have f0 := RB.fr HB5.out 0; have f1 := RB.fr HB5.out 1; have f2 := RB.fr HB5.out 2; have f3 := RB.fr HB5.out 3; clear hs5 h5)
          have HNX := Lib.hid (IRel.next HJ.out H.out.below.size hwb hb42 HX2.out (HX1.out _ hX2.out) HPS.out HSU.out HS5.out)
          go_roundg (outLen (putG v F K2 r))
          case rel => exact ⟨putG v F K2 r, k5, t5, a5, n5, c5, b5, m5, d5, ok5, rfl, rfl, HNX.out.1⟩
          case measure => rw [HG2.out]; exact HNX.out.2
end Go.Proofs.YtaniebkfgkhgoaaGreatDoor

namespace Go.Proofs
open Go.Shelf
def Tryz.laysF20_ren : Go.Shelf.Ren := ⟨fun | 20 => 106 | n => n, fun | 0 => 0 | 3 => 3 | 4 => 4 | 22 => 73 | 24 => 75 | 25 => 103 | n => n, fun | n => n⟩
theorem Tryz.laysF20 : Go.Proofs.SlLaysF.n20 Tryz.prog Tryz.laysF20_ren := {
  mixed := by kernel_rfl
  f20 := ⟨Tryz.f106.name, by kernel_rfl, Tryz.func106.trans (congrArg some (by kernel_rfl))⟩
  t0 := Tryz.underlying0
  a0 := Tryz.isAgg0
  z0 := Tryz.sizeOf0
  v0 := Tryz.zeroValue0
  t3 := Tryz.underlying3
  a3 := Tryz.isAgg3
  z3 := Tryz.sizeOf3
  v3 := Tryz.zeroValue3
  t4 := Tryz.underlying4
  a4 := Tryz.isAgg4
  z4 := Tryz.sizeOf4
  v4 := Tryz.zeroValue4
  t22 := Tryz.underlying73
  a22 := Tryz.isAgg73
  z22 := Tryz.sizeOf73
  v22 := Tryz.zeroValue73
  a24 := Tryz.isAgg75
  z24 := Tryz.sizeOf75
  t25 := Tryz.underlying103
  a25 := Tryz.isAgg103
  z25 := Tryz.sizeOf103
  v25 := Tryz.zeroValue103 }
namespace YtaniebkfgkhgoaaGreatDoor
open Go.RowKit Go.Sort
set_option linter.unusedVariables false
set_option maxRecDepth 100000

/-- The comparison of two fields' names. -/
theorem cmp_any (s t : ByteArray) (p q : Addr) (w : World) (hp : w.cell? p = some (.string s)) (hq : w.cell? q = some (.string t)) :
    Calls Tryz.prog 65 #[.pointer (some p), .pointer (some q)] w fun e w' => e = .returned (.int .i64 (Lib.compareBytes s.data.toList t.data.toList)) ∧ ∃ n, w' = w.drewN n := by
  have CC := Lib.hid (fun w0 : World => Tryz.strings_Compare s t w0)
  generalize Lib.compareBytes s.data.toList t.data.toList = c at CC ⊢
  go_enter Tryz.func65, Tryz.ntmps65
  go_wp2_with fail
  go_quiet ((go_at_call 66; exact Calls.quiet_of_same (CC.out _)))
  go_wp2_with fail
  go_ret
  exact ⟨rfl, _, rfl⟩

/-- A pointer to field i. -/
def encF (fb fo m : Nat) (i : Fin (m + 1)) : Value := .pointer (some ⟨fb, fo + 5 * i.val, none⟩)
/-- How the names of two fields compare. -/
def cfF (names : List ByteArray) (m : Nat) (i j : Fin (m + 1)) : Int := Lib.compareBytes (names.getD i.val ⟨#[]⟩).data.toList (names.getD j.val ⟨#[]⟩).data.toList
theorem oneF (fb fo m : Nat) : OneCell (encF fb fo m) := fun _ => rfl

theorem putRow_sz {α : Type} [Inhabited α] (enc : α → Value) (w : World) (blk off : Nat) (d : Array α) : (putRow enc w blk off d).heap.size = w.heap.size := by
  simp [putRow, mapBlock]
theorem cmp_reads (fb fo m : Nat) (names : List ByteArray) (blk : Nat) (w : World) (hc : ∀ i, i < m + 1 → w.cell? ⟨fb, fo + 5 * i, none⟩ = some (.string (names.getD i ⟨#[]⟩))) (hfb : fb ≠ blk) (sz : Nat) :
    CmpReads Tryz.prog 65 #[] (encF fb fo m) (cfF names m) blk 0 sz w := fun k os dk hdk x y => by
  have hcell : ∀ i : Fin (m + 1), (sortWorld (encF fb fo m) w blk 0 k dk os).cell? ⟨fb, fo + 5 * i.val, none⟩ = some (.string (names.getD i.val ⟨#[]⟩)) := fun i => by
    have h := hc i.val i.isLt
    have hlt := World.block_lt_of_cell? w _ h
    have e1 : (putRow (encF fb fo m) (Go.Sort.ahead w k) blk 0 dk).cell? ⟨fb, fo + 5 * i.val, none⟩ = w.cell? ⟨fb, fo + 5 * i.val, none⟩ := cell?_putRow_other _ _ _ _ _ ⟨fb, fo + 5 * i.val, none⟩ (Or.inl hfb)
    unfold sortWorld
    rw [cell?_grow _ _ _ (by rw [putRow_sz]; exact hlt), e1]
    exact h
  exact cmp_any _ _ _ _ _ (hcell x) (hcell y)

/-- The order of the fields, by their names: which one stands where. -/
def ordA (names : List ByteArray) (m : Nat) : Array (Fin (m + 1)) := insertionSort (ltOf (cfF names m)) (Array.ofFn id) 0 (m + 1)

theorem cmp_lt : ∀ (a b : List UInt8), Lib.compareBytes a b < 0 ↔ a < b
  | [], [] => by simp [Lib.compareBytes]
  | [], _ :: _ => by simp [Lib.compareBytes]
  | _ :: _, [] => by simp [Lib.compareBytes]
  | a :: xs, b :: ys => by
    rw [Lib.compareBytes, List.cons_lt_cons_iff]
    by_cases h : a < b
    · simp [h]
    · by_cases h2 : b < a
      · have h3 : a ≠ b := fun e => by subst e; exact UInt8.lt_irrefl _ h2
        simp [h, h2, h3]
      · have h3 : a = b := by
          rw [UInt8.lt_iff_toNat_lt] at h h2
          exact UInt8.toNat_inj.1 (by omega)
        subst h3
        simp [h, cmp_lt xs ys]
theorem cf_lt (names : List ByteArray) (m : Nat) (i j : Fin (m + 1)) : ltOf (cfF names m) i j = ltStr (names.getD i.val ⟨#[]⟩).data.toList (names.getD j.val ⟨#[]⟩).data.toList := by
  unfold ltOf cfF ltStr
  exact decide_eq_decide.2 (cmp_lt _ _)
theorem swo_cf (names : List ByteArray) (m : Nat) : SWO (ltOf (cfF names m)) where
  irrefl x := by rw [cf_lt]; exact swo_ltStr.irrefl _
  trans x y z h1 h2 := by rw [cf_lt] at *; exact swo_ltStr.trans _ _ _ h1 h2
  ntrans x y z h1 h2 := by rw [cf_lt] at *; exact swo_ltStr.ntrans _ _ _ h1 h2
end YtaniebkfgkhgoaaGreatDoor
end Go.Proofs
