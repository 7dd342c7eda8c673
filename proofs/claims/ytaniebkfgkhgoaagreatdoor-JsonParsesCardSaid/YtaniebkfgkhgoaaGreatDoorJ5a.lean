/- The contract of put, of a list and of an object. Parse$1: whether two fields have one name, so far. slices.IndexFunc, slices.ContainsFunc over fields; hasBrokenName. isSound. walk of a value in memory. Check. A strings.Builder that is a printer's first field: its writers. A printer's WriteString, Len, String. printer.write, printer.quoted. byName, with the type of the row that it answers. printer.value, list, object: by the value's depth. printer.object, printer.value. printer.value; Print. Print. copyOf, without its walk: what is seen of values when one slice's cell is turned to a row of the same; delete from a map of pointers. slices.Clone of lists and of fields. copyOf: its world between two rounds. copyOf: the steps of its world. copyOf: a value that waits is stored, and its rows are cloned. copyOf: what is laid on its stack. copyOf: its parts are laid on the stack. -/
import Derived.Test.YtaniebkfgkhgoaaGreatDoorJL
import Derived.Test.YtaniebkfgkhgoaaGreatDoorJK4
import Derived.Test.YtaniebkfgkhgoaaGreatDoorJK5
import Derived.Test.YtaniebkfgkhgoaaGreatDoorJU
import Derived.Test.YtaniebkfgkhgoaaGreatDoorJT
import Derived.Test.YtaniebkfgkhgoaaGreatDoorJZ
import Derived.Lib.FrozenHead2
import Derived.Lib.SliceRun
namespace Go.Proofs.YtaniebkfgkhgoaaGreatDoor
open Go.RowKit
set_option linter.unusedVariables false
theorem put_c : PutC := fun X l hl P F K hFn sv R v k0 t0 a0 n0 c0 a2 n2 c2 w0 w hT h hv => by
  cases hF : F.obj
  · exact put_list l hl P F hF K hFn sv R v k0 t0 a0 n0 c0 a2 n2 c2 w0 w hT h hv
  · exact put_obj l hl P F hF K hFn sv R v k0 t0 a0 n0 c0 a2 n2 c2 w0 w hT h hv
end Go.Proofs.YtaniebkfgkhgoaaGreatDoor

namespace Go.Proofs.YtaniebkfgkhgoaaGreatDoor
open Go.RowKit
set_option linter.unusedVariables false
set_option maxRecDepth 100000

/-- Two fields of a value have one name. -/
def twN (u : JV) : Bool := decide (¬ (u.fields.map (·.1)).Nodup)

theorem parse1_any {S : Nat → Prop} (u : JV) (h20 : u.fields.length ≤ 1048576) (tk b o : Nat) (t : Bool) (W : World) (hb : Boxed W tk 4 (.bool t)) (hat : LAt W S u b o) :
    Calls Tryz.prog 23 #[.pointer (some ⟨b, o, none⟩), .pointer (some ⟨tk, 0, none⟩)] W fun e W' => e = .returned (.tuple #[]) ∧ Boxed W' tk 4 (.bool (t || twN u)) ∧ W.grownBy W' (some tk) := by
  obtain ⟨a3, cap3, q3, e3⟩ := hat.row3
  have CT : Hid (Calls Tryz.prog 24 #[.slice a3 u.fields.length cap3] W (fun e w' => e = .returned (.bool (twN u)) ∧ RowKit.Below W.heap.size W w')) := by
    refine Lib.hid (twins_any (S := S) u.fields h20 ?_)
    rcases e3 with e | ⟨b2, o2, e, hs, h⟩
    · exact .inl e
    · exact .inr ⟨b2, o2, e, hs.1, h⟩
  have hc := hb.cell
  have hf := hb.frozen
  have HB := Lib.hid hb
  generalize u.fields.length = n3 at q3 CT
  generalize twN u = tu at CT ⊢
  clear hat e3 hb
  cases t with
  | true =>
    go_enter Tryz.func23, Tryz.ntmps23
    go_wp2_with fail
    go_end0
    exact ⟨rfl, HB.out.set _, gb_set W ⟨tk, 0, none⟩ _⟩
  | false =>
    go_enter Tryz.func23, Tryz.ntmps23
    go_wp2_with (go_at_call 24; (with_reducible refine CT.out.mono ?_); rintro e w1 ⟨rfl, hbl⟩; have HB1 := Lib.hid (HB.out.kept (gb_below hbl none) (by simp)); have HG := Lib.hid (gb_below hbl (some tk)); have hf1 := HB1.out.frozen; have hc1 := HB1.out.cell; clear hbl)
    go_end0
    exact ⟨rfl, HB1.out.set _, gb_trans HG.out (gb_set w1 ⟨tk, 0, none⟩ _)⟩
end Go.Proofs.YtaniebkfgkhgoaaGreatDoor

namespace Go.Proofs.YtaniebkfgkhgoaaGreatDoor
open Go.RowKit
set_option linter.unusedVariables false
set_option maxRecDepth 100000

/-- The cells of the i-th field. -/
theorem LFs.cells {w : World} {S : Nat → Prop} {b : Nat} : ∀ (f : List (ByteArray × JV)) {o : Nat}, LFs w S b o f → ∀ (i : Nat) (q : ByteArray × JV), f[i]? = some q →
    ∃ c0 c1 c2 c3, w.cell? ⟨b, o + i * 5, none⟩ = some (.string q.1) ∧ w.cell? ⟨b, o + i * 5 + 1, none⟩ = some c0 ∧ w.cell? ⟨b, o + i * 5 + 2, none⟩ = some c1 ∧ w.cell? ⟨b, o + i * 5 + 3, none⟩ = some c2 ∧ w.cell? ⟨b, o + i * 5 + 4, none⟩ = some c3 ∧ LV w S q.2 c0 c1 c2 c3
  | [], o, _, i, q, hi => by simp at hi
  | (n, v) :: r, o, h, i, q, hi => by
    simp only [LFs] at h
    obtain ⟨hn, ⟨c0, c1, c2, c3, h0, h1, h2, h3, hv⟩, hr⟩ := h
    cases i with
    | zero => simp at hi; subst hi; exact ⟨c0, c1, c2, c3, by simpa using hn, by simpa using h0, by simpa using h1, by simpa using h2, by simpa using h3, hv⟩
    | succ i =>
      obtain ⟨d0, d1, d2, d3, k0, k1, k2, k3, k4, kv⟩ := LFs.cells r hr i q (by simpa using hi)
      rw [show o + 5 + i * 5 = o + (i + 1) * 5 by omega] at k0 k1 k2 k3 k4
      exact ⟨d0, d1, d2, d3, k0, k1, k2, k3, k4, kv⟩

theorem LV.shape {w : World} {S : Nat → Prop} {v : JV} {c0 c1 c2 c3 : Value} (h : LV w S v c0 c1 c2 c3) : ∃ (k : Int) (t : ByteArray) (a : Option Addr) (n c : Nat) (a2 : Option Addr) (n2 d : Nat), c0 = .int .i64 k ∧ c1 = .string t ∧ c2 = .slice a n c ∧ c3 = .slice a2 n2 d := by
  obtain ⟨k, t, l, f⟩ := v
  unfold LV at h
  obtain ⟨h0, h1, ⟨a, cap, h2, -⟩, ⟨a', cap', h3, -⟩⟩ := h
  exact ⟨k, t, a, _, cap, a', _, cap', h0, h1, h2, h3⟩

/-- The first field of which p is true; -1: there is none. -/
def ixOf (p : ByteArray × JV → Bool) (f : List (ByteArray × JV)) : Int := match f.findIdx? p with
  | some i => i
  | none => -1

theorem index_any (gv : Nat) (lb : Array Value) (hent : ∀ args w, (callFunc gv args).run Tryz.prog w = .ok (.enter gv args) w) {S : Nat → Prop} (f : List (ByteArray × JV)) (hlen : f.length ≤ 1099511627776) (a : Option Addr) (cap : Nat) (w : World)
    (h : f = [] ∨ ∃ b o, a = some ⟨b, o, none⟩ ∧ LFs w S b o f) (p : ByteArray × JV → Bool)
    (hp : ∀ (q : ByteArray × JV) (k : Int) (t : ByteArray) (a : Option Addr) (n c : Nat) (a2 : Option Addr) (n2 d : Nat) (W : World), q ∈ f → RowKit.Below w.heap.size w W → Calls Tryz.prog gv (#[.agg #[.string q.1, .int .i64 k, .string t, .slice a n c, .slice a2 n2 d]] ++ lb) W fun e W' => e = .returned (.bool (p q)) ∧ RowKit.Below W.heap.size W W') :
    Calls Tryz.prog 31 #[.slice a f.length cap, .func (.func gv) #[] lb] w fun e w' => e = .returned (.int .i64 (ixOf p f)) ∧ RowKit.Below w.heap.size w w' := by
  have H := Lib.hid h
  have HP := Lib.hid hp
  clear h hp
  obtain ⟨nf, hnf⟩ : ∃ nf, f.length = nf := ⟨_, rfl⟩
  have HNF := Lib.hid hnf
  rw [hnf] at hlen ⊢
  clear hnf
  go_enter Tryz.func31, Tryz.ntmps31
  go_wp2_with fail
  go_loopw [8] (fun s8 wr => ∃ k : Nat, k ≤ nf ∧ s8 = .int .i64 k ∧ (∀ j q, j < k → f[j]? = some q → p q = false) ∧ RowKit.Below w.heap.size w wr) (fun s8 _ => nf - (intOf s8).toNat)
  case atStart => exact ⟨0, Nat.zero_le _, rfl, fun j q hj => absurd hj (Nat.not_lt_zero _), Below.refl _ _⟩
  case round =>
    obtain ⟨k, hk, rfl, hno, hb⟩ := hrel
    have HNO := Lib.hid hno
    have HB := Lib.hid hb
    clear hno hb
    by_cases hlt : k < nf
    · obtain ⟨q, hq⟩ : ∃ q, f[k]? = some q := ⟨_, List.getElem?_eq_getElem (by rw [HNF.out]; exact hlt)⟩
      have HQ := Lib.hid hq
      clear hq
      rcases H.out with h | ⟨b, o, rfl, hl⟩
      · have := HNF.out; rw [h] at this; simp at this; omega
      · obtain ⟨c0, c1, c2, c3, k0, k1, k2, k3, k4, hlv⟩ := LFs.cells f hl k q HQ.out
        obtain ⟨vk, vt, va, vn, vc, va2, vn2, vd, rfl, rfl, rfl, rfl⟩ := hlv.shape
        clear hlv
        have mv : ∀ {o : Nat} {c : Value}, w.cell? ⟨b, o, none⟩ = some c → wr.cell? ⟨b, o, none⟩ = some c := fun h => (HB.out.cell (p := ⟨b, _, none⟩) (World.block_lt_of_cell? w _ h)).trans h
        have k0 := mv k0
        have k1 := mv k1
        have k2 := mv k2
        have k3 := mv k3
        have k4 := mv k4
        clear mv hl
        have CP := Lib.hid (HP.out q vk vt va vn vc va2 vn2 vd wr (List.mem_of_getElem? HQ.out) HB.out)
        cases hpq : p q with
        | true =>
          rw [hpq] at CP
          have hix : ixOf p f = (k : Int) := by
            have : f.findIdx? p = some k := by
              rw [List.findIdx?_eq_some_iff_getElem]
              obtain ⟨hk1, hk2⟩ := List.getElem?_eq_some_iff.1 HQ.out
              refine ⟨hk1, by rw [hk2]; exact hpq, fun j hj => ?_⟩
              rw [HNO.out j _ hj (List.getElem?_eq_getElem (by omega))]
              decide
            unfold ixOf; rw [this]
          have HIX := Lib.hid hix
          clear hix
          go_wp2_with ((with_reducible refine CP.out.mono ?_); rintro e w1 ⟨rfl, hb1⟩; have HB1 := Lib.hid (HB.out.trans (hb1.mono HB.out.size)); clear hb1)
          go_ret
          exact ⟨by rw [HIX.out]; rfl, HB1.out⟩
        | false =>
          rw [hpq] at CP
          have HPQ := Lib.hid hpq
          clear hpq
          go_wp2_with ((with_reducible refine CP.out.mono ?_); rintro e w1 ⟨rfl, hb1⟩; have HB1 := Lib.hid (HB.out.trans (hb1.mono HB.out.size)); clear hb1)
          go_roundw
          case rel =>
            refine ⟨k + 1, hlt, by simp, fun j q' hj hq' => ?_, HB1.out⟩
            by_cases hjk : j < k
            · exact HNO.out j q' hjk hq'
            · obtain rfl : j = k := by omega
              rw [HQ.out] at hq'
              cases hq'
              exact HPQ.out
          case measure => simp [intOf]; omega
    · obtain rfl : k = nf := by omega
      have hix : ixOf p f = -1 := by
        have : f.findIdx? p = none := by
          rw [List.findIdx?_eq_none_iff]
          intro x hx
          obtain ⟨j, hj⟩ := List.getElem?_of_mem hx
          exact HNO.out j x (by have := HNF.out; have := (List.getElem?_eq_some_iff.1 hj).1; omega) hj
        unfold ixOf; rw [this]
      have HIX := Lib.hid hix
      clear hix
      go_wp2_with fail
      go_ret
      exact ⟨by rw [HIX.out]; rfl, HB.out⟩

/-- ContainsFunc. -/
theorem contains_any (gv : Nat) (lb : Array Value) (n : Nat) (a : Option Addr) (cap : Nat) (w : World) (x : Int)
    (h : Calls Tryz.prog 31 #[.slice a n cap, .func (.func gv) #[] lb] w fun e w' => e = .returned (.int .i64 x) ∧ RowKit.Below w.heap.size w w') :
    Calls Tryz.prog 85 #[.slice a n cap, .func (.func gv) #[] lb] w fun e w' => e = .returned (.bool (decide (0 ≤ x))) ∧ RowKit.Below w.heap.size w w' := by
  have H := Lib.hid h
  clear h
  go_enter Tryz.func85, Tryz.ntmps85
  go_wp2_with (go_at_call 31; (with_reducible refine H.out.mono ?_); rintro e w1 ⟨rfl, hb⟩; have HB := Lib.hid hb; clear hb)
  go_ret
  exact ⟨rfl, HB.out⟩
theorem ixOf_nonneg (p : ByteArray × JV → Bool) (f : List (ByteArray × JV)) : decide (0 ≤ ixOf p f) = f.any p := by
  unfold ixOf
  cases h : f.findIdx? p with
  | none =>
    rw [List.findIdx?_eq_none_iff] at h
    have : f.any p = false := by rw [List.any_eq_false]; intro x hx; rw [h x hx]; decide
    rw [this]; rfl
  | some i =>
    rw [List.findIdx?_eq_some_iff_getElem] at h
    obtain ⟨h1, h2, _⟩ := h
    have : f.any p = true := List.any_eq_true.2 ⟨_, List.getElem_mem h1, h2⟩
    rw [this]
    simp

/-- A name that is none of letters. -/
def brN (q : ByteArray × JV) : Bool := !Lib.validD q.1.data.toList
theorem brk1_any (s : ByteArray) (hs : s.size ≤ 35184372088832) (k : Int) (t : ByteArray) (a : Option Addr) (n c : Nat) (a2 : Option Addr) (n2 d : Nat) (W : World) :
    Calls Tryz.prog 86 #[.agg #[.string s, .int .i64 k, .string t, .slice a n c, .slice a2 n2 d]] W fun e W' => e = .returned (.bool (!Lib.validD s.data.toList)) ∧ RowKit.Below W.heap.size W W' := by
  have CV : Hid (∀ w0, Calls Tryz.prog 61 #[.string s] w0 fun e w' => e = .returned (.bool (Lib.validD s.data.toList)) ∧ RowKit.Below w0.heap.size w0 w') := Lib.hid fun w0 => valid_any s w0 hs
  have HA : Hid (RowKit.Below W.heap.size W (W.alloc (.cells #[.string s, .int .i64 k, .string t, .slice a n c, .slice a2 n2 d] 51))) := Lib.hid ((Below.refl _ _).alloc (Nat.le_refl _) _)
  generalize Lib.validD s.data.toList = vd at CV ⊢
  clear hs
  go_enter Tryz.func86, Tryz.ntmps86
  go_wp2_with (go_at_call 61; (with_reducible refine (CV.out _).mono ?_); rintro e w1 ⟨rfl, hb⟩; have HB := Lib.hid (HA.out.trans (hb.mono HA.out.size)); clear hb)
  go_ret
  exact ⟨rfl, HB.out⟩
theorem brk_any {S : Nat → Prop} (f : List (ByteArray × JV)) (hlen : f.length ≤ 1099511627776) (hnm : ∀ q ∈ f, q.1.size ≤ 35184372088832) (a : Option Addr) (cap : Nat) (w : World) (h : f = [] ∨ ∃ b o, a = some ⟨b, o, none⟩ ∧ LFs w S b o f) :
    Calls Tryz.prog 62 #[.slice a f.length cap] w fun e w' => e = .returned (.bool (f.any brN)) ∧ RowKit.Below w.heap.size w w' := by
  have CC : Hid (Calls Tryz.prog 85 #[.slice a f.length cap, .func (.func 86) #[] #[]] w fun e w' => e = .returned (.bool (f.any brN)) ∧ RowKit.Below w.heap.size w w') := by
    rw [← ixOf_nonneg]
    exact Lib.hid (contains_any _ _ _ _ _ _ _ (index_any _ _ (enters_of Tryz.func86 (by kernel_rfl) rfl) f hlen a cap w h brN (fun q k t a n c a2 n2 d W hq hb => brk1_any q.1 (hnm q hq) k t a n c a2 n2 d W)))
  generalize f.length = nf at CC ⊢
  clear h hnm hlen
  go_enter Tryz.func62, Tryz.ntmps62
  go_wp2_with (go_at_call 85; (with_reducible refine CC.out.mono ?_); rintro e w1 ⟨rfl, hb⟩; have HB := Lib.hid hb; clear hb)
  go_ret
  exact ⟨rfl, HB.out⟩
end Go.Proofs.YtaniebkfgkhgoaaGreatDoor

namespace Go.Proofs.YtaniebkfgkhgoaaGreatDoor
open Go.RowKit
set_option linter.unusedVariables false
set_option maxRecDepth 100000

def soundOf (k : Int) (nl nf : Nat) (em num vd bf tw : Bool) : Bool :=
  if (0 < nl ∧ k ≠ 6) ∨ (0 < nf ∧ k ≠ 7) then false else if k = 1 ∨ k = 2 ∨ k = 3 ∨ k = 6 then em else if k = 4 then num else if k = 5 then vd else if k = 7 then em && (!bf && !tw) else false

set_option maxHeartbeats 4000000 in
theorem sound_c (b o : Nat) (k : Int) (t : ByteArray) (a2 : Option Addr) (nl d2 : Nat) (a3 : Option Addr) (nf d3 : Nat) (w : World) (num vd bf tw : Bool)
    (q0 : w.cell? ⟨b, o, none⟩ = some (.int .i64 k)) (q1 : w.cell? ⟨b, o + 1, none⟩ = some (.string t)) (q2 : w.cell? ⟨b, o + 2, none⟩ = some (.slice a2 nl d2)) (q3 : w.cell? ⟨b, o + 3, none⟩ = some (.slice a3 nf d3))
    (CN : Hid (∀ w0, Calls Tryz.prog 60 #[.string t] w0 fun e w' => e = .returned (.bool num) ∧ RowKit.Below w0.heap.size w0 w'))
    (CV : Hid (∀ w0, Calls Tryz.prog 61 #[.string t] w0 fun e w' => e = .returned (.bool vd) ∧ RowKit.Below w0.heap.size w0 w'))
    (CB : Hid (Calls Tryz.prog 62 #[.slice a3 nf d3] w fun e w' => e = .returned (.bool bf) ∧ RowKit.Below w.heap.size w w'))
    (CT : Hid (∀ w0, RowKit.Below w.heap.size w w0 → Calls Tryz.prog 24 #[.slice a3 nf d3] w0 fun e w' => e = .returned (.bool tw) ∧ RowKit.Below w0.heap.size w0 w')) :
    Calls Tryz.prog 35 #[.pointer (some ⟨b, o, none⟩)] w fun e W' => e = .returned (.bool (soundOf k nl nf t.toList.isEmpty num vd bf tw)) ∧ RowKit.Below w.heap.size w W' := by
  obtain ⟨R, hR⟩ : ∃ R, soundOf k nl nf t.toList.isEmpty num vd bf tw = R := ⟨_, rfl⟩
  rw [hR]
  unfold soundOf at hR
  have HR := Lib.hid hR
  clear hR
  have HB0 : Hid (RowKit.Below w.heap.size w w) := Lib.hid (Below.refl _ _)
  have keq : ∀ n : Int, k = n → Hid (k = n) := fun n h => Lib.hid h
  by_cases hl : 0 < nl
  · have hli : (0 : Int) < (nl : Int) := by omega
    by_cases h6 : k = 6
    · subst h6
      by_cases hf : 0 < nf
      · have hfi : (0 : Int) < (nf : Int) := by omega
        go_enter Tryz.func35, Tryz.ntmps35
        go_wp2_with fail
        go_ret
        exact ⟨by rw [← HR.out]; simp [hl, hf], HB0.out⟩
      · obtain rfl : nf = 0 := by omega
        go_enter Tryz.func35, Tryz.ntmps35
        go_wp2_with fail
        go_ret
        exact ⟨by rw [← HR.out]; simp [hl], HB0.out⟩
    · have h6b : (k != 6) = true := by simpa using h6
      go_enter Tryz.func35, Tryz.ntmps35
      go_wp2_with fail
      go_ret
      exact ⟨by rw [← HR.out]; simp [hl, h6], HB0.out⟩
  · obtain rfl : nl = 0 := by omega
    by_cases hf : 0 < nf
    · have hfi : (0 : Int) < (nf : Int) := by omega
      by_cases h7 : k = 7
      · subst h7
        cases hem : t.toList.isEmpty with
        | false =>
          have HEM := Lib.hid hem
          go_enter Tryz.func35, Tryz.ntmps35
          go_wp2_with fail
          go_ret
          exact ⟨by rw [← HR.out]; simp [hf, HEM.out], HB0.out⟩
        | true =>
          have HEM := Lib.hid hem
          cases bf with
          | true =>
            go_enter Tryz.func35, Tryz.ntmps35
            go_wp2_with first | (go_at_call 62; (with_reducible refine CB.out.mono ?_); rintro e w1 ⟨rfl, hb⟩; have HB1 := Lib.hid hb; have q5 := (hb.cell (p := ⟨b, o + 3, none⟩) (World.block_lt_of_cell? w _ q3)).trans q3; clear hb) | (go_at_call 24; (with_reducible refine (CT.out _ HB1.out).mono ?_); rintro e w2 ⟨rfl, hb⟩; have HB2 := Lib.hid (HB1.out.trans (hb.mono HB1.out.size)); clear hb)
            go_ret
            exact ⟨by rw [← HR.out]; simp [hf, HEM.out], HB1.out⟩
          | false =>
            go_enter Tryz.func35, Tryz.ntmps35
            go_wp2_with first | (go_at_call 62; (with_reducible refine CB.out.mono ?_); rintro e w1 ⟨rfl, hb⟩; have HB1 := Lib.hid hb; have q5 := (hb.cell (p := ⟨b, o + 3, none⟩) (World.block_lt_of_cell? w _ q3)).trans q3; clear hb) | (go_at_call 24; (with_reducible refine (CT.out _ HB1.out).mono ?_); rintro e w2 ⟨rfl, hb⟩; have HB2 := Lib.hid (HB1.out.trans (hb.mono HB1.out.size)); clear hb)
            go_ret
            exact ⟨by rw [← HR.out]; simp [hf, HEM.out], HB2.out⟩
      · have h7b : (k != 7) = true := by simpa using h7
        go_enter Tryz.func35, Tryz.ntmps35
        go_wp2_with fail
        go_ret
        exact ⟨by rw [← HR.out]; simp [hf, h7], HB0.out⟩
    · obtain rfl : nf = 0 := by omega
      by_cases h1 : k = 1
      · subst h1
        go_enter Tryz.func35, Tryz.ntmps35
        go_wp2_with fail
        go_ret
        exact ⟨by rw [← HR.out]; simp, HB0.out⟩
      by_cases h2 : k = 2
      · subst h2
        go_enter Tryz.func35, Tryz.ntmps35
        go_wp2_with fail
        go_ret
        exact ⟨by rw [← HR.out]; simp, HB0.out⟩
      by_cases h3 : k = 3
      · subst h3
        go_enter Tryz.func35, Tryz.ntmps35
        go_wp2_with fail
        go_ret
        exact ⟨by rw [← HR.out]; simp, HB0.out⟩
      by_cases h6 : k = 6
      · subst h6
        go_enter Tryz.func35, Tryz.ntmps35
        go_wp2_with fail
        go_ret
        exact ⟨by rw [← HR.out]; simp, HB0.out⟩
      by_cases h4 : k = 4
      · subst h4
        go_enter Tryz.func35, Tryz.ntmps35
        go_wp2_with (go_at_call 60; (with_reducible refine (CN.out _).mono ?_); rintro e w1 ⟨rfl, hb⟩; have HB1 := Lib.hid hb; clear hb)
        go_ret
        exact ⟨by rw [← HR.out]; simp, HB1.out⟩
      by_cases h5 : k = 5
      · subst h5
        go_enter Tryz.func35, Tryz.ntmps35
        go_wp2_with (go_at_call 61; (with_reducible refine (CV.out _).mono ?_); rintro e w1 ⟨rfl, hb⟩; have HB1 := Lib.hid hb; clear hb)
        go_ret
        exact ⟨by rw [← HR.out]; simp, HB1.out⟩
      by_cases h7 : k = 7
      · subst h7
        cases hem : t.toList.isEmpty with
        | false =>
          have HEM := Lib.hid hem
          go_enter Tryz.func35, Tryz.ntmps35
          go_wp2_with fail
          go_ret
          exact ⟨by rw [← HR.out]; simp [HEM.out], HB0.out⟩
        | true =>
          have HEM := Lib.hid hem
          cases bf with
          | true =>
            go_enter Tryz.func35, Tryz.ntmps35
            go_wp2_with first | (go_at_call 62; (with_reducible refine CB.out.mono ?_); rintro e w1 ⟨rfl, hb⟩; have HB1 := Lib.hid hb; have q5 := (hb.cell (p := ⟨b, o + 3, none⟩) (World.block_lt_of_cell? w _ q3)).trans q3; clear hb) | (go_at_call 24; (with_reducible refine (CT.out _ HB1.out).mono ?_); rintro e w2 ⟨rfl, hb⟩; have HB2 := Lib.hid (HB1.out.trans (hb.mono HB1.out.size)); clear hb)
            go_ret
            exact ⟨by rw [← HR.out]; simp [HEM.out], HB1.out⟩
          | false =>
            go_enter Tryz.func35, Tryz.ntmps35
            go_wp2_with first | (go_at_call 62; (with_reducible refine CB.out.mono ?_); rintro e w1 ⟨rfl, hb⟩; have HB1 := Lib.hid hb; have q5 := (hb.cell (p := ⟨b, o + 3, none⟩) (World.block_lt_of_cell? w _ q3)).trans q3; clear hb) | (go_at_call 24; (with_reducible refine (CT.out _ HB1.out).mono ?_); rintro e w2 ⟨rfl, hb⟩; have HB2 := Lib.hid (HB1.out.trans (hb.mono HB1.out.size)); clear hb)
            go_ret
            exact ⟨by rw [← HR.out]; simp [HEM.out], HB2.out⟩
      go_enter Tryz.func35, Tryz.ntmps35
      go_wp2_with fail
      go_ret
      exact ⟨by rw [← HR.out]; simp [h1, h2, h3, h4, h5, h6, h7], HB0.out⟩
end Go.Proofs.YtaniebkfgkhgoaaGreatDoor

namespace Go.Proofs.YtaniebkfgkhgoaaGreatDoor
open Go.RowKit
set_option linter.unusedVariables false
set_option linter.unusedSectionVars false

theorem LAt.kept {w W : World} {S : Nat → Prop} {u : JV} {b o : Nat} {row : Option Nat} (h : LAt w S u b o) (hg : w.grownBy W row) (hb : some b ≠ row) (hS : ∀ b, S b → some b ≠ row) : LAt W S u b o := by
  obtain ⟨c0, c1, c2, c3, h0, h1, h2, h3, hv⟩ := h
  have hlt := World.block_lt_of_cell? w ⟨b, o, none⟩ h0
  have mv : ∀ {o : Nat} {c : Value}, w.cell? ⟨b, o, none⟩ = some c → W.cell? ⟨b, o, none⟩ = some c := fun h => (World.cell?_of_block (hg.block b hlt hb)).trans h
  exact ⟨c0, c1, c2, c3, mv h0, mv h1, mv h2, mv h3, LV.move (fun b hb hs => ⟨hg.block b hb (hS b hs), hs⟩) u hv⟩

open Classical in
theorem walk_jv (v : JV) (hsz : v.size ≤ 549755813888) (S : Nat → Prop) (tb : Option Nat) (gv : Nat) (lb : Array Value) (Vis : List JV → World → Prop) (w : World) (rb ro : Nat) (hat : LAt w S v rb ro) (hrc : Clean w rb) (hrn : some rb ≠ tb) (hS : ∀ b, S b → some b ≠ tb)
    (hlow : ∀ t, tb = some t → t < w.heap.size)
    (hvisit : ∀ (vs : List JV) (u : JV) (b o : Nat) (W : World), Vis vs W → w.grownBy W tb → JV.In v u → LAt W S u b o → Calls Tryz.prog gv (#[.pointer (some ⟨b, o, none⟩)] ++ lb) W fun e W' => e = .returned (.tuple #[]) ∧ Vis (vs ++ [u]) W' ∧ W.grownBy W' tb)
    (hkeep : ∀ (vs : List JV) (W W' : World), Vis vs W → RowKit.Below w.heap.size W W' → Vis vs W') (hv0 : Vis [] w) (hent : ∀ args w, (callFunc gv args).run Tryz.prog w = .ok (.enter gv args) w) :
    Calls Tryz.prog 22 #[.pointer (some ⟨rb, ro, none⟩), .func (.func gv) #[] lb] w fun e W' => e = .returned (.int .i64 (v.depth : Int)) ∧ ∃ vs : List JV, (∀ u, u ∈ vs ↔ JV.In v u) ∧ Vis vs W' ∧ w.grownBy W' tb := by
  have hnd : NdOk v w S tb ((rb, ro), v) := ⟨.root, hat, hrc, hrn⟩
  have hh : WH (trOf v w S tb hS) adOf 1099511627776 gv lb tb (fun vs W => Vis (vs.map fun x => x.1.2) W) w := by
    refine ⟨adOf_inj, node_at hS (by omega), fun x => x.2.2.2.2, hlow, fun x => ?_, by omega, fun vs x W hv hg => ?_, fun vs W W' hv hb => hkeep _ _ _ hv hb⟩
    · show ((x.1.2.depth : Nat) : Int) ≤ _
      have h1 := x.2.1.size
      have h2 := JV.depth_le_size x.1.2
      omega
    · rw [List.map_append]
      exact hvisit _ x.1.2 x.1.1.1 x.1.1.2 W hv hg x.2.1 (x.2.2.1.kept hg x.2.2.2.2 hS)
  refine (walk_any (trOf v w S tb hS) adOf 1099511627776 gv lb tb _ w hh ⟨((rb, ro), v), hnd⟩ hv0 ?_ hent).mono ?_
  · show 2 * v.size ≤ _
    omega
  · rintro e W' ⟨rfl, vs, hm, hv, hg⟩
    refine ⟨rfl, _, fun u => ⟨fun hu => ?_, fun hu => ?_⟩, hv, hg⟩
    · obtain ⟨x, hx, rfl⟩ := List.mem_map.1 hu
      exact sub_in hS ((hm x).1 hx)
    · obtain ⟨x, hx, rfl⟩ := in_sub hS (r := ⟨((rb, ro), v), hnd⟩) hu
      exact List.mem_map_of_mem (f := fun x : NdT v w S tb => x.1.2) ((hm x).2 hx)
end Go.Proofs.YtaniebkfgkhgoaaGreatDoor

namespace Go.Proofs.YtaniebkfgkhgoaaGreatDoor
open Go.RowKit
set_option linter.unusedVariables false
set_option maxRecDepth 100000

def soundB (u : JV) : Bool := soundOf u.kind u.list.length u.fields.length u.text.toList.isEmpty (numG u.text.data.toList) (Lib.validD u.text.data.toList) (u.fields.any brN) (twN u)
/-- Few fields; texts and names that a walk can bear. -/
def Bear (v : JV) : Prop := v.size ≤ 549755813888 ∧ ∀ u, JV.In v u → u.fields.length ≤ 1048576 ∧ u.text.size ≤ 1048576 ∧ ∀ q ∈ u.fields, q.1.size ≤ 1048576
theorem Bear.at {v u : JV} (h : Bear v) (hu : JV.In v u) : u.fields.length ≤ 1048576 ∧ u.text.size ≤ 1099511627775 ∧ ∀ q ∈ u.fields, q.1.size ≤ 35184372088832 := by
  obtain ⟨h1, h2, h3⟩ := h.2 u hu
  exact ⟨h1, by omega, fun q hq => by have := h3 q hq; omega⟩
theorem Bear.sub {v u : JV} (h : Bear v) (hu : JV.In v u) : Bear u := ⟨Nat.le_trans hu.size h.1, fun x hx => h.2 x (hu.trans hx)⟩

theorem sound_any {S : Nat → Prop} (u : JV) (h : u.fields.length ≤ 1048576 ∧ u.text.size ≤ 1099511627775 ∧ ∀ q ∈ u.fields, q.1.size ≤ 35184372088832) (b o : Nat) (w : World) (hat : LAt w S u b o) :
    Calls Tryz.prog 35 #[.pointer (some ⟨b, o, none⟩)] w fun e W' => e = .returned (.bool (soundB u)) ∧ RowKit.Below w.heap.size w W' := by
  obtain ⟨h20, htx, hnm⟩ := h
  obtain ⟨k, t, l, f⟩ := u
  simp only [JV.fields, JV.text] at h20 htx hnm
  obtain ⟨c0, c1, c2, c3, q0, q1, q2, q3, hv⟩ := hat
  unfold LV at hv
  obtain ⟨rfl, rfl, ⟨a2, d2, rfl, h2⟩, ⟨a3, d3, rfl, h3⟩⟩ := hv
  have hbs : bs t.data.toList = t := by simp [bs]
  show Calls _ _ _ _ fun e W' => e = .returned (.bool (soundOf k l.length f.length t.toList.isEmpty (numG t.data.toList) (Lib.validD t.data.toList) (f.any brN) (decide (¬ (f.map (·.1)).Nodup)))) ∧ _
  refine sound_c b o k t a2 l.length d2 a3 f.length d3 w _ _ _ _ q0 q1 q2 q3 (Lib.hid fun w0 => ?_) (Lib.hid fun w0 => valid_any t w0 (by omega)) (Lib.hid (brk_any (S := S) f (by omega) hnm a3 d3 w ?_)) (Lib.hid fun w0 hb => twins_any (S := S) f h20 ?_)
  · have := num_any t.data.toList (by simpa using htx) w0
    rwa [hbs] at this
  · rcases h3 with e | ⟨b2, o2, e, hs, h⟩
    · exact .inl e
    · exact .inr ⟨b2, o2, e, h⟩
  · rcases h3 with e | ⟨b2, o2, e, hs, h⟩
    · exact .inl e
    · exact .inr ⟨b2, o2, e, hs.1, LFs.move (fun b hb' hs => ⟨hb.block b hb', hs⟩) f hs.1 h⟩

theorem check1_any {S : Nat → Prop} (u : JV) (h : u.fields.length ≤ 1048576 ∧ u.text.size ≤ 1099511627775 ∧ ∀ q ∈ u.fields, q.1.size ≤ 35184372088832) (tk b o : Nat) (t : Bool) (W : World) (hb : Boxed W tk 4 (.bool t)) (hat : LAt W S u b o) :
    Calls Tryz.prog 34 #[.pointer (some ⟨b, o, none⟩), .pointer (some ⟨tk, 0, none⟩)] W fun e W' => e = .returned (.tuple #[]) ∧ Boxed W' tk 4 (.bool (t && soundB u)) ∧ W.grownBy W' (some tk) := by
  have CT : Hid (Calls Tryz.prog 35 #[.pointer (some ⟨b, o, none⟩)] W (fun e w' => e = .returned (.bool (soundB u)) ∧ RowKit.Below W.heap.size W w')) := Lib.hid (sound_any u h b o W hat)
  have hc := hb.cell
  have hf := hb.frozen
  have HB := Lib.hid hb
  generalize soundB u = tu at CT ⊢
  clear hat h hb
  cases t with
  | false =>
    go_enter Tryz.func34, Tryz.ntmps34
    go_wp2_with fail
    go_end0
    exact ⟨rfl, HB.out.set _, gb_set W ⟨tk, 0, none⟩ _⟩
  | true =>
    go_enter Tryz.func34, Tryz.ntmps34
    go_wp2_with (go_at_call 35; (with_reducible refine CT.out.mono ?_); rintro e w1 ⟨rfl, hbl⟩; have HB1 := Lib.hid (HB.out.kept (gb_below hbl none) (by simp)); have HG := Lib.hid (gb_below hbl (some tk)); have hf1 := HB1.out.frozen; have hc1 := HB1.out.cell; clear hbl)
    go_end0
    exact ⟨rfl, HB1.out.set _, gb_trans HG.out (gb_set w1 ⟨tk, 0, none⟩ _)⟩

open Classical in
noncomputable def checkG (v : JV) : Int := if (∀ u, JV.In v u → soundB u = true) ∧ v.depth ≤ 32 then 0 else 1
theorem check_any {S : Nat → Prop} (v : JV) (hsz : v.size ≤ 549755813888) (hF : Bear v) (k : Int) (t : ByteArray) (a : Option Addr) (n c : Nat) (a2 : Option Addr) (n2 c2 : Nat) (w : World) (hv : LV w S v (.int .i64 k) (.string t) (.slice a n c) (.slice a2 n2 c2)) :
    Calls Tryz.prog 15 #[.agg #[.int .i64 k, .string t, .slice a n c, .slice a2 n2 c2]] w fun e W' => e = .returned (.int .i64 (checkG v)) ∧ RowKit.Below w.heap.size w W' := by
  obtain ⟨W0, hW0⟩ : ∃ W0, W0 = w.alloc (.cells #[.int .i64 k, .string t, .slice a n c, .slice a2 n2 c2] 26) := ⟨_, rfl⟩
  have hb0 : RB W0 w.heap.size (.int .i64 k) (.string t) (.slice a n c) (.slice a2 n2 c2) := by rw [hW0]; exact RB.new w
  have hg0 : w.grownBy W0 none := by rw [hW0]; exact World.grownBy_alloc _ _ none
  have hz0 : W0.heap.size = w.heap.size + 1 := by rw [hW0]; simp
  obtain ⟨W, hW⟩ : ∃ W, W = W0.alloc (.cells #[.bool true] 4) := ⟨_, rfl⟩
  have hg1 : W0.grownBy W none := by rw [hW]; exact World.grownBy_alloc _ _ none
  have hbt : Boxed W (w.heap.size + 1) 4 (.bool true) := by rw [hW, ← hz0]; exact Boxed.new W0 _ _
  have hz1 : W.heap.size = w.heap.size + 2 := by rw [hW, World.size_alloc, hz0]
  have hb := hb0.gb hg1 (by simp)
  have hg := gb_trans hg0 hg1
  have hlv : LV W (fun b => S b ∧ b < w.heap.size) v (.int .i64 k) (.string t) (.slice a n c) (.slice a2 n2 c2) := LV.move (fun b hb hs => ⟨hg.block b hb (by simp), hs, hb⟩) v hv
  have CW : Hid (Calls Tryz.prog 22 #[.pointer (some ⟨w.heap.size, 0, none⟩), .func (.func 34) #[] #[.pointer (some ⟨w.heap.size + 1, 0, none⟩)]] W fun e W' => e = .returned (.int .i64 (v.depth : Int)) ∧ ∃ vs : List JV, (∀ u, u ∈ vs ↔ JV.In v u) ∧ Boxed W' (w.heap.size + 1) 4 (.bool (vs.all soundB)) ∧ W.grownBy W' (some (w.heap.size + 1))) := by
    refine Lib.hid (walk_jv v hsz (fun b => S b ∧ b < w.heap.size) (some (w.heap.size + 1)) 34 #[.pointer (some ⟨w.heap.size + 1, 0, none⟩)] (fun vs W => Boxed W (w.heap.size + 1) 4 (.bool (vs.all soundB))) W w.heap.size 0 ⟨_, _, _, _, hb.c0, hb.c1, hb.c2, hb.c3, hlv⟩ ⟨_, _, hb⟩ (fun e => by have := Option.some.inj e; omega) (fun b hb e => by have := Option.some.inj e; have := hb.2; omega) (fun t ht => by have := Option.some.inj ht; omega) ?_ ?_ hbt (enters_of Tryz.func34 (by kernel_rfl) rfl))
    · intro vs u b o W hV hg hin hat
      refine (check1_any u (hF.at hin) (w.heap.size + 1) b o (vs.all soundB) W hV hat).mono ?_
      rintro e W' ⟨rfl, h1, h2⟩
      refine ⟨rfl, ?_, h2⟩
      rw [List.all_append]
      simpa using h1
    · intro vs W W' hV hb
      exact (hb.block _ (by omega)).trans hV
  have hBW : Hid (RowKit.Below w.heap.size w W) := Lib.hid (below_of_gb hg)
  have hW' := hW.symm
  have hW0' := hW0.symm
  have HZ := Lib.hid hz0
  clear hb hg hlv hv hW hW0 hb0 hg0 hg1 hbt hz1
  obtain ⟨R, hR⟩ : ∃ R, checkG v = R := ⟨_, rfl⟩
  rw [hR]
  have HR := Lib.hid hR
  clear hR
  rw [← hz0] at CW
  clear hz0
  go_enter Tryz.func15, Tryz.ntmps15
  go_wp2_with (go_at_call 22; (with_reducible refine CW.out.mono ?_); rintro e w1 h1; obtain ⟨rfl, vs, hvs, hb6, hg6⟩ := h1; have HVS := Lib.hid hvs; have HB6 := Lib.hid hb6; have HG6 := Lib.hid hg6; clear hvs hb6 hg6; refine Hid.out ?_)
  refine Lib.hid ?_
  have hb6 := HB6.out.cell
  have hall : vs.all soundB = true ↔ ∀ u, JV.In v u → soundB u = true := by
    rw [List.all_eq_true]
    exact ⟨fun h u hu => h u ((HVS.out u).2 hu), fun h u hu => h u ((HVS.out u).1 hu)⟩
  have HBB : Hid (RowKit.Below w.heap.size w w1) := Lib.hid (hBW.out.grown HG6.out hBW.out.size (fun k e => by have := Option.some.inj e; have := HZ.out; omega))
  have HR' := HR.out
  unfold checkG at HR'
  cases hvs : vs.all soundB with
  | false =>
    have : R = 1 := by rw [← HR', if_neg (fun h => by rw [hall.2 h.1] at hvs; cases hvs)]
    subst this
    rw [hvs] at hb6
    clear hall HR' hvs
    go_wp2_with fail
    go_ret
    exact ⟨rfl, HBB.out⟩
  | true =>
    rw [hvs] at hb6
    by_cases hd : 32 < v.depth
    · have : R = 1 := by rw [← HR', if_neg (fun h => by have := h.2; omega)]
      subst this
      have hdi : (32 : Int) < (v.depth : Int) := by omega
      clear hall HR' hvs
      go_wp2_with fail
      go_ret
      exact ⟨rfl, HBB.out⟩
    · have : R = 0 := by rw [← HR', if_pos ⟨hall.1 hvs, by omega⟩]
      subst this
      have hdi : ¬ (32 : Int) < (v.depth : Int) := by omega
      clear hall HR' hvs
      go_wp2_with fail
      go_ret
      exact ⟨rfl, HBB.out⟩
end Go.Proofs.YtaniebkfgkhgoaaGreatDoor

namespace Go.Proofs.YtaniebkfgkhgoaaGreatDoor
open Go.RowKit Go.Shelf
set_option linter.unusedVariables false
set_option maxRecDepth 100000

/-- The printer at b: what it has written, and whether it is full. -/
structure PrAt (w : World) (b : Nat) (p v : Value) (acc : List UInt8) (full : Bool) : Prop where
  blk : w.heap[b]? = some (.cells #[p, v, .bool full] 58 (0, 0))
  own : w.ownsRowF b 5 1 v acc.length (Lib.byteCells acc)
  ne : v.ownBlock ≠ some b
def PrB (w : World) (b : Nat) (acc : List UInt8) (full : Bool) : Prop := ∃ p v, (p = .pointer none ∨ p = .pointer (some ⟨b, 0, none⟩)) ∧ PrAt w b p v acc full
section
variable {w w' : World} {b : Nat} {p v : Value} {acc : List UInt8} {full : Bool}
theorem PrAt.c0 (h : PrAt w b p v acc full) : w.cell? ⟨b, 0, none⟩ = some p := by have := h.blk; simp [World.cell?, this]
theorem PrAt.c1 (h : PrAt w b p v acc full) : w.cell? ⟨b, 1, none⟩ = some v := by have := h.blk; simp [World.cell?, this]
theorem PrAt.c2 (h : PrAt w b p v acc full) : w.cell? ⟨b, 2, none⟩ = some (.bool full) := by have := h.blk; simp [World.cell?, this]
theorem PrAt.fr (h : PrAt w b p v acc full) (i : Nat) : w.frozen? ⟨b, i, none⟩ = false := by have := h.blk; simp [World.frozen?, this]
theorem PrAt.shape (h : PrAt w b p v acc full) : w.shape? b = some (58, 3) := by have := h.blk; simp [World.shape?, this]
theorem PrAt.lt (h : PrAt w b p v acc full) : b < w.heap.size := (Array.getElem?_eq_some_iff.1 h.blk).1
theorem PrAt.below (h : PrAt w b p v acc full) (hb : RowKit.Below w.heap.size w w') : PrAt w' b p v acc full := by
  refine ⟨(hb.block b h.lt).trans h.blk, ⟨h.own.1, ?_⟩, h.ne⟩
  rcases h.own.2 with hn | ⟨g, cap, cur, fz, e, hg, hgb, rest⟩
  · exact .inl hn
  · exact .inr ⟨g, cap, cur, fz, e, hg, (hb.block g (Array.getElem?_eq_some_iff.1 hgb).1).trans hgb, rest⟩
theorem PrB.below (h : PrB w b acc full) (hb : RowKit.Below w.heap.size w w') : PrB w' b acc full := by
  obtain ⟨p, v, hp, h⟩ := h
  exact ⟨p, v, hp, h.below hb⟩
theorem PrB.lt (h : PrB w b acc full) : b < w.heap.size := by obtain ⟨p, v, hp, h⟩ := h; exact h.lt
theorem PrAt.row (h : PrAt w b p v acc full) : ∃ ao cap, v = .slice ao acc.length cap := by
  rcases h.own.2 with ⟨e, e0⟩ | ⟨g, cap, cur, fz, e, _⟩
  · exact ⟨none, 0, by rw [e, e0]⟩
  · exact ⟨_, _, e⟩
/-- Its own block is written, and no other. -/
theorem PrAt.put (h : PrAt w b p v acc full) (i : Nat) (x : Value) {p' v' : Value} {full' : Bool} (hx : (#[p, v, .bool full] : Array Value).setIfInBounds i x = #[p', v', .bool full']) (hv : w.ownsRowF b 5 1 v' acc.length (Lib.byteCells acc)) (hn : v'.ownBlock ≠ some b) :
    PrAt (w.setCell ⟨b, i, none⟩ x) b p' v' acc full' := by
  have hg := gb_set w ⟨b, i, none⟩ x
  refine ⟨?_, hv.kept hg (.inr hn), hn⟩
  have hb := h.blk
  rw [← hx]
  simp [World.setCell, Array.getElem?_modify, hb]
end

theorem prLies : liesAt Tryz.prog Tryz.prog.depth 58 (3 / Tryz.prog.cellsOf 58) 0 56 1 = true := by kernel_rfl
theorem prSize : (Tryz.prog.info? 56).map (·.size) = some 2 := by kernel_rfl

theorem cc_fresh (b : Nat) (w : World) (h0 : w.cell? ⟨b, 0, none⟩ = some (.pointer none)) (hsh : w.shape? b = some (58, 3)) (hfz : w.frozen? ⟨b, 0, none⟩ = false) :
    Calls Tryz.prog 97 #[.pointer (some ⟨b, 0, none⟩)] w fun e w' => e = .returned (.tuple #[]) ∧ w' = w.setCell ⟨b, 0, none⟩ (.pointer (some ⟨b, 0, none⟩)) := by
  obtain ⟨j, hj, hjs⟩ := Option.map_eq_some_iff.1 prSize
  go_enter Tryz.func97, Tryz.ntmps97
  go_wp2
  rw [Lib.run_to_unsafe w ⟨b, 0, none⟩ Tryz.underlying53 Tryz.underlying143 hj (by rw [hjs]; decide) hsh (Nat.zero_lt_succ 2)]
  simp only [Result.andThen]
  rw [Oper.upon_value]
  go_wp2
  rw [run_callFunc_extern Tryz.func115 (by kernel_rfl) (by kernel_rfl) (by kernel_rfl) (e := Extern.AbiNoEscape.same) (by kernel_rfl)]
  rw [Lib.run_noEscape]
  simp only [Result.andThen]
  rw [Oper.upon_value]
  go_wp2
  rw [Lib.run_from_unsafe w ⟨b, 0, none⟩ Tryz.underlying143 Tryz.underlying53 hj hsh prLies]
  simp only [Result.andThen]
  rw [Oper.upon_value]
  go_wp2
  go_end0
  exact ⟨rfl, rfl⟩
theorem cc_used (b : Nat) (w : World) (h0 : w.cell? ⟨b, 0, none⟩ = some (.pointer (some ⟨b, 0, none⟩))) :
    Calls Tryz.prog 97 #[.pointer (some ⟨b, 0, none⟩)] w fun e w' => e = .returned (.tuple #[]) ∧ w' = w := by
  obtain ⟨j, hj, hjs⟩ := Option.map_eq_some_iff.1 prSize
  go_enter Tryz.func97, Tryz.ntmps97
  go_wp2
  rw [Lib.run_neq_ptr_same w _ Tryz.underlying53 hj]
  go_wp2
  go_end0
  exact ⟨rfl, rfl⟩
theorem cc_any (b : Nat) (acc : List UInt8) (full : Bool) (w : World) (h : PrB w b acc full) :
    Calls Tryz.prog 97 #[.pointer (some ⟨b, 0, none⟩)] w fun e w' => e = .returned (.tuple #[]) ∧ (∃ v, PrAt w' b (.pointer (some ⟨b, 0, none⟩)) v acc full) ∧ RowKit.Below b w w' ∧ w.grownBy w' (some b) := by
  obtain ⟨p, v, hp | hp, h⟩ := h
  · subst hp
    refine (cc_fresh b w h.c0 h.shape (h.fr 0)).mono ?_
    rintro e w' ⟨rfl, rfl⟩
    exact ⟨rfl, ⟨v, h.put 0 _ rfl h.own h.ne⟩, (Below.refl b w).setCell (p := ⟨b, 0, none⟩) (Nat.le_refl _) _, gb_set w ⟨b, 0, none⟩ _⟩
  · subst hp
    refine (cc_used b w h.c0).mono ?_
    rintro e w' ⟨rfl, rfl⟩
    exact ⟨rfl, ⟨v, h⟩, Below.refl b _, gb_refl _ _⟩
end Go.Proofs.YtaniebkfgkhgoaaGreatDoor

namespace Go.Proofs.YtaniebkfgkhgoaaGreatDoor
open Go.RowKit Go.Shelf
set_option linter.unusedVariables false
set_option maxRecDepth 100000

/-- What a call that writes with the printer at b leaves as it was. -/
theorem prInfo8 : (Tryz.prog.info? 5).map (fun i => (i.zero, i.size, i.bytes)) = some (some (.int .u8 0), 1, 1) := by kernel_rfl

theorem pw_any (b : Nat) (acc : List UInt8) (full : Bool) (s : ByteArray) (w : World) (h : PrB w b acc full) (hlen : acc.length + s.size ≤ 140737488355328) :
    Calls Tryz.prog 77 #[.pointer (some ⟨b, 0, none⟩), .string s] w fun e w' => e = .returned (.tuple #[.int .i64 s.size, .nilIface]) ∧ PrB w' b (acc ++ s.data.toList) full ∧ Aft b w w' := by
  obtain ⟨i0, hi, hz0, hz1, hz2⟩ := info_parts prInfo8
  have CC := Lib.hid (cc_any b acc full w h)
  have HLEN := Lib.hid hlen
  clear h hlen
  go_enter Tryz.func77, Tryz.ntmps77
  go_wp2_with (go_at_call 97; (with_reducible refine CC.out.mono ?_); rintro e w1 h1; obtain ⟨rfl, ⟨v, h1⟩, hb1, hg1⟩ := h1; have H1 := Lib.hid h1; have HB1 := Lib.hid hb1; have HG1 := Lib.hid hg1; clear h1 hb1 hg1; refine Hid.out ?_)
  refine Lib.hid ?_
  have c0 := H1.out.c0
  have c1 := H1.out.c1
  have hown := H1.out.own
  have hlen := HLEN.out
  have hbw : b ≤ w1.heap.size := Nat.le_of_lt H1.out.lt
  go_wp2_with (at_builtin; refine Lib.wpList_append_own_stringF _ rfl _ _ 54 9 rfl b 5 i0 Tryz.underlying54 Tryz.underlying9 hi hz0 hz1 hz2 _ _ _ rfl hown s rfl ?c3 ?c4 ?c5 ?_)
  case c3 => unfold maxLen; omega
  case c4 => exact hlen
  case c5 => exact hbw
  intro v' w2 hown' hgrow _
  have hb2 : w2.heap[b]? = some (.cells #[.pointer (some ⟨b, 0, none⟩), v, .bool full] 58 (0, 0)) := (hgrow.block b H1.out.lt (fun e => H1.out.ne e.symm)).trans H1.out.blk
  have hne' : v'.ownBlock ≠ some b := by
    rcases hown'.2 with ⟨e, _⟩ | ⟨g, cap, cur, fz, e, _, hg, _⟩
    · rw [e]; simp [Value.ownBlock]
    · rw [e]
      intro e2
      obtain rfl : g = b := by simpa [Value.ownBlock] using e2
      rw [hb2] at hg
      cases hg
  have d0 : w2.cell? ⟨b, 0, none⟩ = some (.pointer (some ⟨b, 0, none⟩)) := by simp [World.cell?, hb2]
  have d1 : w2.cell? ⟨b, 1, none⟩ = some v := by simp [World.cell?, hb2]
  have f1 : w2.frozen? ⟨b, 1, none⟩ = false := by simp [World.frozen?, hb2]
  obtain ⟨ao, n', cap, hv'⟩ : ∃ ao n' cap, v' = .slice ao n' cap := by
    rcases hown'.2 with ⟨hv, _⟩ | ⟨g, cap, cur, fz, hv, _⟩
    · exact ⟨_, _, _, hv⟩
    · exact ⟨_, _, _, hv⟩
  subst hv'
  have hfin : PrB (w2.setCell ⟨b, 1, none⟩ (.slice ao n' cap)) b (acc ++ s.data.toList) full := by
    have hg := gb_set w2 ⟨b, 1, none⟩ (.slice ao n' cap)
    refine ⟨_, (.slice ao n' cap), .inr rfl, ?_, ?_, hne'⟩
    · simp [World.setCell, Array.getElem?_modify, hb2]
    · have hl : (acc ++ s.data.toList).length = acc.length + s.size := by simp
      rw [hl, Lib.byteCells_append]
      exact hown'.kept hg (.inr hne')
  have haft : Aft b w (w2.setCell ⟨b, 1, none⟩ (.slice ao n' cap)) := by
    refine ⟨(HB1.out.grown hgrow hbw (fun k hk => (hown.lt k hk).1)).setCell (p := ⟨b, 1, none⟩) (Nat.le_refl _) _, Lib.OthersKept.setCell (Lib.OthersKept.grown (a := w) ?_ hgrow ?_) ⟨b, 1, none⟩ rfl _⟩
    · intro k o hk hn _
      exact (HG1.out.block k (Array.getElem?_eq_some_iff.1 hk).1 hn).trans hk
    · intro g hg
      rcases hown.2 with ⟨e, _⟩ | ⟨g', cap, cur, fz, e, _, hgb, _⟩
      · rw [e] at hg; simp [Value.ownBlock] at hg
      · rw [e] at hg
        obtain rfl : g' = g := by simpa [Value.ownBlock] using hg
        exact ⟨_, _, hgb⟩
  have HF := Lib.hid hfin
  have HA := Lib.hid haft
  clear hfin haft hown hown' hgrow
  go_wp2
  go_ret2
  exact ⟨rfl, HF.out, HA.out⟩

theorem pLen (b : Nat) (acc : List UInt8) (full : Bool) (w : World) (h : PrB w b acc full) :
    Calls Tryz.prog 76 #[.pointer (some ⟨b, 0, none⟩)] w fun e w' => e = .returned (.int .i64 acc.length) ∧ w = w' := by
  obtain ⟨p, v, _, h⟩ := h
  obtain ⟨ao, cap, rfl⟩ := h.row
  have c1 := h.c1
  clear h
  go_enter Tryz.func76, Tryz.ntmps76
  go_wp2
  go_ret
  exact ⟨rfl, rfl⟩

set_option maxHeartbeats 2000000 in
theorem pString (b : Nat) (acc : List UInt8) (full : Bool) (w : World) (h : PrB w b acc full) (h0 : acc ≠ []) :
    Calls Tryz.prog 29 #[.pointer (some ⟨b, 0, none⟩)] w fun e w' => e = .returned (.string ⟨acc.toArray⟩) ∧ RowKit.Below b w w' := by
  obtain ⟨p, v, _, h⟩ := h
  have hl0 : acc.length ≠ 0 := by simpa using h0
  obtain ⟨g, cap, cur, fz, rfl, hbg, hg, hfz, hnc, hcm, hcs, htake⟩ : ∃ g cap cur fz, v = .slice (some ⟨g, 0, none⟩) acc.length cap ∧ b ≤ g ∧ w.heap[g]? = some (.cells cur 5 fz) ∧ fz.2 ≤ acc.length * 1 ∧ acc.length ≤ cap ∧ cap ≤ maxLen ∧ cur.size = cap * 1 ∧ cur.toList.take (acc.length * 1) = Lib.byteCells acc := by
    rcases h.own.2 with ⟨_, hz⟩ | ⟨g, cap, cur, fz, hv, r⟩
    · exact absurd hz hl0
    · exact ⟨g, cap, cur, fz, hv, r⟩
  have hown := h.own
  have c1 : w.drew.cell? ⟨b, 1, none⟩ = some (.slice (some ⟨g, 0, none⟩) acc.length cap) := h.c1
  have hSD : (Builtin.unsafeSliceData_ #[54] 97 #[.slice (some ⟨g, 0, none⟩) acc.length cap]).run Tryz.prog w.drew = .ok (.pointer (some ⟨g, 0, none⟩)) w.drew :=
    Lib.run_unsafeSliceData_row _ _ _ _ _ _ (by omega)
  have hUS : (Builtin.unsafeString_ #[97, 3] 9 #[.pointer (some ⟨g, 0, none⟩), .int .i64 acc.length]).run Tryz.prog w.drew = .ok (.string ⟨acc.toArray⟩) (w.drew.freeze ⟨g, 0, none⟩ acc.length) := by
    refine Lib.run_unsafeString_row w.drew 97 3 9 5 Tryz.underlying97 (by kernel_rfl) g cur.size (by have hg' : w.drew.heap[g]? = some (.cells cur 5 fz) := hg; simp [World.shape?, hg']) acc h0 (by omega) (by unfold maxLen at hcm; omega) ?_
    intro j x hx
    have := hown.cells (g := g) rfl j (.int .u8 x.toNat) (by simp [Lib.byteCells, hx])
    exact this
  have HFIN : Hid (RowKit.Below b w (w.drew.freeze ⟨g, 0, none⟩ acc.length)) := Lib.hid (Lib.below_freeze (Below.drew (Below.refl b w)) (p := ⟨g, 0, none⟩) hbg _)
  have mixed : Tryz.prog.follows .mixedOrders = true := by kernel_rfl
  clear h hown htake hcs hfz
  go_enter Tryz.func29, Tryz.ntmps29
  go_wp2
  go_region_o
  all_goals (go_wp2; go_ret; exact ⟨rfl, HFIN.out⟩)
end Go.Proofs.YtaniebkfgkhgoaaGreatDoor

namespace Go.Proofs.YtaniebkfgkhgoaaGreatDoor
open Go.RowKit Go.Shelf
set_option linter.unusedVariables false
set_option maxRecDepth 100000

abbrev PSt := List UInt8 × Bool
/-- A text is written, if there is room. -/
def wrG (st : PSt) (l : List UInt8) : PSt := if st.2 = true ∨ 65536 < st.1.length + l.length then (st.1, true) else (st.1 ++ l, false)
def quG (st : PSt) (l : List UInt8) : PSt := if Lib.validD l = true ∧ l.length ≤ 65536 then wrG st (quoteG l) else (st.1, true)
theorem wrG_len {st : PSt} {l : List UInt8} (h : st.1.length ≤ 65536) : (wrG st l).1.length ≤ 65536 := by
  unfold wrG
  split
  · exact h
  · rename_i hn
    have : ¬ 65536 < st.1.length + l.length := fun e => hn (.inr e)
    simp only [List.length_append]
    omega
theorem quG_len {st : PSt} {l : List UInt8} (h : st.1.length ≤ 65536) : (quG st l).1.length ≤ 65536 := by
  unfold quG
  split
  · exact wrG_len h
  · exact h

theorem PrB.full {w : World} {b : Nat} {acc : List UInt8} {full : Bool} (h : PrB w b acc full) (x : Bool) : PrB (w.setCell ⟨b, 2, none⟩ (.bool x)) b acc x := by
  obtain ⟨p, v, hp, h⟩ := h
  exact ⟨p, v, hp, h.put 2 _ rfl h.own h.ne⟩
theorem PrB.c2 {w : World} {b : Nat} {acc : List UInt8} {full : Bool} (h : PrB w b acc full) : w.cell? ⟨b, 2, none⟩ = some (.bool full) := by
  obtain ⟨p, v, hp, h⟩ := h
  exact h.c2
theorem PrB.fr {w : World} {b : Nat} {acc : List UInt8} {full : Bool} (h : PrB w b acc full) (i : Nat) : w.frozen? ⟨b, i, none⟩ = false := by
  obtain ⟨p, v, hp, h⟩ := h
  exact h.fr i
theorem aft_set (b i : Nat) (x : Value) (w : World) : Aft b w (w.setCell ⟨b, i, none⟩ x) :=
  ⟨(Below.refl b w).setCell (p := ⟨b, i, none⟩) (Nat.le_refl _) _, Lib.OthersKept.setCell (Lib.OthersKept.refl _ _ _) ⟨b, i, none⟩ rfl _⟩

theorem wr_any (b : Nat) (acc : List UInt8) (full : Bool) (s : ByteArray) (w : World) (h : PrB w b acc full) (ha : acc.length ≤ 65536) (hs : s.size ≤ 100000000) :
    Calls Tryz.prog 53 #[.pointer (some ⟨b, 0, none⟩), .string s] w fun e w' => e = .returned (.tuple #[]) ∧ PrB w' b (wrG (acc, full) s.data.toList).1 (wrG (acc, full) s.data.toList).2 ∧ Aft b w w' := by
  have hl : s.data.toList.length = s.size := by simp
  have H := Lib.hid h
  have q2 := h.c2
  have f2 := h.fr 2
  cases full with
  | true =>
    have hw : wrG (acc, true) s.data.toList = (acc, true) := by unfold wrG; simp
    rw [hw]
    clear h hl hw
    go_enter Tryz.func53, Tryz.ntmps53
    go_wp2_with fail
    go_end0
    exact ⟨rfl, H.out.full true, aft_set b 2 _ w⟩
  | false =>
    have CL := Lib.hid (pLen b acc false w h)
    have HA := Lib.hid ha
    by_cases hfit : 65536 < acc.length + s.size
    · have hw : wrG (acc, false) s.data.toList = (acc, true) := by unfold wrG; simp only [hl]; rw [if_pos (.inr hfit)]
      rw [hw]
      have hfi : (65536 : Int) < (acc.length : Int) + (s.size : Int) := by omega
      have hle : (acc.length : Int) + (s.size : Int) < 4611686018427387904 := by omega
      have hwz : wrap64 ((acc.length : Int) + (s.size : Int)) = (acc.length : Int) + (s.size : Int) := by unfold wrap64; omega
      generalize (acc.length : Int) = za at CL hfi hle hwz
      clear h hl hw hfit ha
      go_enter Tryz.func53, Tryz.ntmps53
      go_wp2_with (go_at_call 76; (with_reducible refine CL.out.mono ?_); rintro e w1 ⟨rfl, rfl⟩)
      go_end0
      exact ⟨rfl, H.out.full true, aft_set b 2 _ w⟩
    · have hw : wrG (acc, false) s.data.toList = (acc ++ s.data.toList, false) := by unfold wrG; simp only [hl]; rw [if_neg (fun e => by rcases e with e | e; exact absurd e (by decide); exact hfit e)]
      rw [hw]
      have hfi : ¬ (65536 : Int) < (acc.length : Int) + (s.size : Int) := by omega
      have CW := Lib.hid (pw_any b acc false s (w.setCell ⟨b, 2, none⟩ (.bool false)) (h.full false) (by omega))
      have hle : (acc.length : Int) + (s.size : Int) < 4611686018427387904 := by omega
      have hwz : wrap64 ((acc.length : Int) + (s.size : Int)) = (acc.length : Int) + (s.size : Int) := by unfold wrap64; omega
      have HD : Hid (decide ((65536 : Int) < wrap64 ((acc.length : Int) + (s.size : Int))) = false) := Lib.hid (by rw [hwz]; simpa using hfi)
      clear hwz
      generalize (acc.length : Int) = za at CL hfi hle HD
      clear h hl hw hfit ha
      go_enter Tryz.func53, Tryz.ntmps53
      go_wp2_with first
        | (go_at_call 76; (with_reducible refine CL.out.mono ?_); rintro e w1 ⟨rfl, rfl⟩)
        | (go_at_call 77; rw [HD.out]; (with_reducible refine CW.out.mono ?_); rintro e w1 ⟨rfl, hp1, ha1⟩; have HP1 := Lib.hid hp1; have HA1 := Lib.hid ha1; clear hp1 ha1)
      · go_end0
        exact ⟨rfl, HP1.out, (aft_set b 2 _ w).trans HA1.out⟩
      · rename_i hx
        rw [HD.out] at hx
        cases hx

theorem qu_any (b : Nat) (acc : List UInt8) (full : Bool) (s : ByteArray) (w : World) (h : PrB w b acc full) (ha : acc.length ≤ 65536) (hs : s.size ≤ 1048576) :
    Calls Tryz.prog 54 #[.pointer (some ⟨b, 0, none⟩), .string s] w fun e w' => e = .returned (.tuple #[]) ∧ PrB w' b (quG (acc, full) s.data.toList).1 (quG (acc, full) s.data.toList).2 ∧ Aft b w w' := by
  have hbl := h.lt
  have hl : s.data.toList.length = s.size := by simp
  have CQ := Lib.hid (quote_any s w hs)
  by_cases hok : Lib.validD s.data.toList = true ∧ s.data.toList.length ≤ 65536
  · have hq : quoteS s.data.toList = .tuple #[.string ⟨(quoteG s.data.toList).toArray⟩, .int .i64 0] := by unfold quoteS; rw [if_pos hok.1, if_neg (by have := hok.2; omega)]
    have hg : quG (acc, full) s.data.toList = wrG (acc, full) (quoteG s.data.toList) := by unfold quG; rw [if_pos hok]
    have hql : (quoteG s.data.toList).length ≤ 100000000 := by
      have e1 : (quoteG s.data.toList).length = (bodyG s.data.toList).length + 2 := by simp [quoteG]
      have e2 := bodyG_len _ s.data.toList (Nat.le_refl _)
      have := hok.2
      omega
    rw [hq] at CQ
    rw [hg]
    have CW : Hid (∀ w1, RowKit.Below w.heap.size w w1 → Calls Tryz.prog 53 #[.pointer (some ⟨b, 0, none⟩), .string ⟨(quoteG s.data.toList).toArray⟩] (w1.setCell ⟨b, 2, none⟩ (.bool full)) fun e w' => e = .returned (.tuple #[]) ∧ PrB w' b (wrG (acc, full) (quoteG s.data.toList)).1 (wrG (acc, full) (quoteG s.data.toList)).2 ∧ Aft b w w') := by
      refine Lib.hid fun w1 hb1 => ?_
      have h1 := h.below hb1
      refine (wr_any b acc full ⟨(quoteG s.data.toList).toArray⟩ (w1.setCell ⟨b, 2, none⟩ (.bool full)) (h1.full full) ha (by simpa [ByteArray.size] using hql)).mono ?_
      rintro e w' ⟨rfl, hp, hA⟩
      exact ⟨rfl, by simpa using hp, (Aft.of_below (Nat.le_of_lt hbl) hb1).trans ((aft_set b 2 _ w1).trans hA)⟩
    have HF : Hid (∀ w1, RowKit.Below w.heap.size w w1 → w1.cell? ⟨b, 2, none⟩ = some (.bool full) ∧ w1.frozen? ⟨b, 2, none⟩ = false) := Lib.hid fun w1 hb1 => ⟨(h.below hb1).c2, (h.below hb1).fr 2⟩
    generalize quoteG s.data.toList = ql at *
    clear h hok hq hg hl
    go_enter Tryz.func54, Tryz.ntmps54
    cases full
    all_goals
      go_wp2_with first
        | (go_at_call 78; (with_reducible refine CQ.out.mono ?_); rintro e w1 ⟨rfl, hb1⟩; have HB1 := Lib.hid hb1; obtain ⟨d2, e2⟩ := HF.out w1 hb1; clear hb1)
        | (go_at_call 53; (with_reducible refine (CW.out _ HB1.out).mono ?_); rintro e w2 ⟨rfl, hp, hA⟩; have HP := Lib.hid hp; have HA := Lib.hid hA; clear hp hA)
      go_end0
      exact ⟨rfl, HP.out, HA.out⟩
  · obtain ⟨er, her, hq⟩ : ∃ er : Int, er ≠ 0 ∧ quoteS s.data.toList = .tuple #[.string ⟨#[]⟩, .int .i64 er] := by
      unfold quoteS
      by_cases hv : Lib.validD s.data.toList = true
      · rw [if_pos hv, if_pos (by have : ¬ s.data.toList.length ≤ 65536 := fun e => hok ⟨hv, e⟩; omega)]
        exact ⟨5, by decide, rfl⟩
      · rw [if_neg hv]
        exact ⟨2, by decide, rfl⟩
    have hg : quG (acc, full) s.data.toList = (acc, true) := by unfold quG; rw [if_neg hok]
    rw [hq] at CQ
    rw [hg]
    have heb : (er != 0) = true := by simpa using her
    have CW : Hid (∀ w1, RowKit.Below w.heap.size w w1 → Calls Tryz.prog 53 #[.pointer (some ⟨b, 0, none⟩), .string ⟨#[]⟩] (w1.setCell ⟨b, 2, none⟩ (.bool true)) fun e w' => e = .returned (.tuple #[]) ∧ PrB w' b acc true ∧ Aft b w w') := by
      refine Lib.hid fun w1 hb1 => ?_
      have h1 := h.below hb1
      refine (wr_any b acc true ⟨#[]⟩ (w1.setCell ⟨b, 2, none⟩ (.bool true)) (h1.full true) ha (by decide)).mono ?_
      rintro e w' ⟨rfl, hp, hA⟩
      exact ⟨rfl, by simpa [wrG] using hp, (Aft.of_below (Nat.le_of_lt hbl) hb1).trans ((aft_set b 2 _ w1).trans hA)⟩
    have HF : Hid (∀ w1, RowKit.Below w.heap.size w w1 → w1.cell? ⟨b, 2, none⟩ = some (.bool full) ∧ w1.frozen? ⟨b, 2, none⟩ = false) := Lib.hid fun w1 hb1 => ⟨(h.below hb1).c2, (h.below hb1).fr 2⟩
    clear h hok hq hg hl
    go_enter Tryz.func54, Tryz.ntmps54
    cases full
    all_goals
      go_wp2_with first
        | (go_at_call 78; (with_reducible refine CQ.out.mono ?_); rintro e w1 ⟨rfl, hb1⟩; have HB1 := Lib.hid hb1; obtain ⟨d2, e2⟩ := HF.out w1 hb1; clear hb1)
        | (go_at_call 53; (with_reducible refine (CW.out _ HB1.out).mono ?_); rintro e w2 ⟨rfl, hp, hA⟩; have HP := Lib.hid hp; have HA := Lib.hid hA; clear hp hA)
      go_end0
      exact ⟨rfl, HP.out, HA.out⟩
end Go.Proofs.YtaniebkfgkhgoaaGreatDoor

namespace Go.Proofs.YtaniebkfgkhgoaaGreatDoor
open Go.RowKit Go.Sort
set_option linter.unusedVariables false
set_option maxRecDepth 100000

/-- What byName answers: a new row of pointers, in order. -/
def ByNameTyped (fb fo m : Nat) (names : List ByteArray) (w : World) (e : Ending) (w' : World) : Prop :=
  ∃ g cap, e = .returned (.slice (some ⟨g, 0, none⟩) ((m + 1 : Nat)) cap) ∧ w.heap.size ≤ g ∧ (∃ cur, w'.heap[g]? = some (.cells cur 75 (0, 0))) ∧ Holds (encF fb fo m) w' g 0 (ordA names m) ∧ (ordA names m).size = m + 1 ∧ RowKit.Below w.heap.size w w'

theorem byName_end2 {fb fo m g cap : Nat} {names : List ByteArray} {w wr w1 : World} (h : wr.ownsRow w.heap.size 75 1 (.slice (some ⟨g, 0, none⟩) (m + 1) cap) (m + 1) (ptrs fb fo (m + 1))) (hbel : RowKit.Below w.heap.size w wr) (hw : ∃ k, w1 = (putRow (encF fb fo m) wr g 0 (ordA names m)).drewN k) :
    ByNameTyped fb fo m names w (.returned (.slice (some ⟨g, 0, none⟩) (m + 1) cap)) w1 := by
  obtain ⟨k, rfl⟩ := hw
  obtain ⟨h1, h2, h3⟩ := holds_ptrs h
  have hs : (ordA names m).size = m + 1 := by unfold ordA; rw [size_insS]; simp
  refine ⟨g, cap, rfl, h1, ?_, ?_, hs, ?_⟩
  · rcases h.2 with ⟨e, _⟩ | ⟨g', cap', cur, e, _, hgb, _⟩
    · cases e
    · simp only [Value.slice.injEq, Option.some.injEq, Addr.mk.injEq, and_true] at e
      obtain ⟨rfl, _⟩ := e
      refine ⟨putCells (encF fb fo m) 0 (ordA names m) cur, ?_⟩
      show (putRow (encF fb fo m) wr g 0 (ordA names m)).heap[g]? = _
      unfold putRow mapBlock
      simp only [Array.getElem?_modify, if_pos, hgb, Option.map_some, onCells]
  · exact holds_putRow (encF fb fo m) wr g 0 _ (ordA names m) h3 (by rw [hs]; simp)
  · exact below_drewN (Lib.below_putRow (q := 0) hbel h1) _

set_option maxHeartbeats 2000000 in
theorem byName_typed (fb fo m cap0 : Nat) (h20 : m + 1 ≤ 1048576) (names : List ByteArray) (w : World) (hc : ∀ i, i < m + 1 → w.cell? ⟨fb, fo + 5 * i, none⟩ = some (.string (names.getD i ⟨#[]⟩))) :
    Calls Tryz.prog 39 #[.slice (some ⟨fb, fo, none⟩) ((m + 1 : Nat)) cap0] w (ByNameTyped fb fo m names w) := by
  obtain ⟨i0, hi, hz0, hz1, hz2⟩ := info_parts info_ptr
  have hmk := fun w0 : World => make_ptrs (m + 1) (by omega) ((m : Int) + 1) (by omega) w0
  have hfl : fb < w.heap.size := World.block_lt_of_cell? w _ (hc 0 (by omega))
  have HC := Lib.hid hc
  clear hc
  go_enter Tryz.func39, Tryz.ntmps39
  go_wp2_with fail
  go_outline
  go_loopw [3, 10] (fun v i wr => ∃ k : Nat, i = .int .i64 k ∧ k ≤ m + 1 ∧ wr.ownsRow w.heap.size 75 1 v k (ptrs fb fo k) ∧ Hid (RowKit.Below w.heap.size w wr) ∧ w.heap.size ≤ wr.heap.size) (fun _ i _ => m + 1 - (intOf i).toNat)
  case atStart => exact ⟨0, rfl, by omega, World.ownsRow_made w _ _ (Nat.le_refl _) (by unfold maxLen; omega) (by rw [size_madeCells]; omega), (Below.refl _ _).alloc (Nat.le_refl _) _, by simp⟩
  case round =>
    obtain ⟨k, rfl, hk, hown, hbel, hsize⟩ := hrel
    by_cases hlt : k < m + 1
    · have hki : (k : Int) < (m : Int) + 1 := by omega
      go_wp2_with (at_builtin; refine wpList_append_own _ rfl (.tmp 13) (.tmp 17) 73 rfl w.heap.size 75 i0 (.pointer none) 1 8 Tryz.underlying73 hi hz0 hz1 hz2 rfl (by decide) u3 k (ptrs fb fo k) rfl (hown.alloc _) ⟨wr.heap.size, 0, none⟩ 1 1 [.pointer (some ⟨fb, fo + k * 5, none⟩)] rfl rfl ?c1 ?c2 ?c3 ?c4 ?c5 ?_)
      case c1 => exact cell_one_new _ _ _
      case c2 => intro u hu; simp at hu; subst hu; rfl
      case c3 => unfold maxLen; omega
      case c4 => omega
      case c5 => simp; omega
      intro v1 w1 hown1 hgrow1 _
      obtain ⟨own1, bel1, siz1⟩ := ptr_snoc hsize hbel.out hown hown1 hgrow1
      have B1 := Lib.hid bel1
      clear hown1 hgrow1 hown hbel bel1
      go_wp2_with fail
      go_roundw
      case rel => exact ⟨k + 1, by go_num, by omega, own1, B1.out, siz1⟩
      case measure => simp [intOf]; omega
    · obtain rfl : k = m + 1 := by omega
      obtain ⟨g, cap, rfl⟩ := ownsRow_succ hown
      obtain ⟨hg1, hg2, hH⟩ := holds_ptrs hown
      have CS : Hid (∀ ww, ww = wr → Calls Tryz.prog 64 #[.slice (some ⟨g, 0, none⟩) (m + 1) cap, .func (.func 65) #[] #[]] ww fun e w' =>
          e = .returned (.tuple #[]) ∧ Hid (∃ k, w' = (putRow (encF fb fo m) wr g 0 (ordA names m)).drewN k)) := by
        rintro _ rfl
        exact sort_any fb fo m h20 names g cap _ (fun i hi => (World.cell?_of_block (hbel.out.block fb hfl)).trans (HC.out i hi)) (by omega) hH
      have HO := Lib.hid hown
      clear hown hH HC
      go_wp2_with (go_at_call 64; (with_reducible refine (CS.out _ rfl).mono ?_); rintro e w1 ⟨rfl, hw1⟩)
      go_ret
      exact byName_end2 HO.out hbel.out hw1.out
end Go.Proofs.YtaniebkfgkhgoaaGreatDoor

namespace Go.Proofs.YtaniebkfgkhgoaaGreatDoor
open Go.RowKit Go.Sort
set_option linter.unusedVariables false
set_option maxRecDepth 100000

def wordG (k : Int) : List UInt8 := if k = 1 then [110, 117, 108, 108] else if k = 2 then [102, 97, 108, 115, 101] else [116, 114, 117, 101]
def sepG (first : Bool) (st : PSt) : PSt := if first then st else wrG st [44]
def lstF (vf : JV → PSt → PSt) (l : List JV) (st : PSt) : Bool × PSt := l.foldl (fun p u => (false, vf u (sepG p.1 p.2))) (true, st)
def objF (vf : JV → PSt → PSt) (l : List (ByteArray × JV)) (st : PSt) : Bool × PSt := l.foldl (fun p q => (false, vf q.2 (wrG (quG (sepG p.1 p.2) q.1.data.toList) [58]))) (true, st)
/-- Fields in the order of their names. -/
def sortF : List (ByteArray × JV) → List (ByteArray × JV)
  | [] => []
  | q :: r => (ordA ((q :: r).map (·.1)) r.length).toList.map fun i => (q :: r).getD i.val q
/-- What printer.value writes. -/
def valG : Nat → JV → PSt → PSt
  | 0, _, st => st
  | n + 1, v, st => if st.2 = true then st else if v.kind = 4 then wrG st v.text.data.toList else if v.kind = 5 then quG st v.text.data.toList
    else if v.kind = 6 then wrG (lstF (valG n) v.list (wrG st [91])).2 [93] else if v.kind = 7 then wrG (objF (valG n) (sortF v.fields) (wrG st [123])).2 [125] else wrG st (wordG v.kind)

theorem lstF_snoc (vf : JV → PSt → PSt) (l : List JV) (u : JV) (st : PSt) : lstF vf (l ++ [u]) st = (false, vf u (sepG (lstF vf l st).1 (lstF vf l st).2)) := by simp [lstF]
theorem objF_snoc (vf : JV → PSt → PSt) (l : List (ByteArray × JV)) (q : ByteArray × JV) (st : PSt) : objF vf (l ++ [q]) st = (false, vf q.2 (wrG (quG (sepG (objF vf l st).1 (objF vf l st).2) q.1.data.toList) [58])) := by simp [objF]
theorem lstF_first (vf : JV → PSt → PSt) (l : List JV) (st : PSt) : (lstF vf l st).1 = decide (l = []) := by
  rcases List.eq_nil_or_concat l with rfl | ⟨r, x, rfl⟩
  · rfl
  · rw [List.concat_eq_append, lstF_snoc]; simp
theorem objF_first (vf : JV → PSt → PSt) (l : List (ByteArray × JV)) (st : PSt) : (objF vf l st).1 = decide (l = []) := by
  rcases List.eq_nil_or_concat l with rfl | ⟨r, x, rfl⟩
  · rfl
  · rw [List.concat_eq_append, objF_snoc]; simp

/-- The printer's state. -/
def PrS (w : World) (b : Nat) (st : PSt) : Prop := PrB w b st.1 st.2 ∧ st.1.length ≤ 65536
theorem PrS.below {w w' : World} {b : Nat} {st : PSt} (h : PrS w b st) (hb : RowKit.Below w.heap.size w w') : PrS w' b st := ⟨h.1.below hb, h.2⟩
theorem wr_s (b : Nat) (st : PSt) (s : ByteArray) (w : World) (h : PrS w b st) (hs : s.size ≤ 100000000) :
    Calls Tryz.prog 53 #[.pointer (some ⟨b, 0, none⟩), .string s] w fun e w' => e = .returned (.tuple #[]) ∧ PrS w' b (wrG st s.data.toList) ∧ Aft b w w' := by
  refine (wr_any b st.1 st.2 s w h.1 h.2 hs).mono ?_
  rintro e w' ⟨rfl, h1, h2⟩
  exact ⟨rfl, ⟨h1, wrG_len h.2⟩, h2⟩
theorem qu_s (b : Nat) (st : PSt) (s : ByteArray) (w : World) (h : PrS w b st) (hs : s.size ≤ 1048576) :
    Calls Tryz.prog 54 #[.pointer (some ⟨b, 0, none⟩), .string s] w fun e w' => e = .returned (.tuple #[]) ∧ PrS w' b (quG st s.data.toList) ∧ Aft b w w' := by
  refine (qu_any b st.1 st.2 s w h.1 h.2 hs).mono ?_
  rintro e w' ⟨rfl, h1, h2⟩
  exact ⟨rfl, ⟨h1, quG_len h.2⟩, h2⟩

/-- The contract of value, of values that are no deeper than n. -/
def ValC (n : Nat) : Prop := ∀ (v : JV), v.depth ≤ n → Bear v → (∀ u, JV.In v u → 1 ≤ u.kind ∧ u.kind ≤ 7) → ∀ (pb : Nat) (w0 : World) (b o : Nat) (st : PSt) (w : World), PrS w pb st → Tab5 w0 → RowKit.Below w0.heap.size w0 w → w0.heap.size ≤ pb → b < pb → LAt w (· < pb) v b o →
    Calls Tryz.prog 28 #[.pointer (some ⟨pb, 0, none⟩), .pointer (some ⟨b, o, none⟩)] w fun e w' => e = .returned (.tuple #[]) ∧ PrS w' pb (valG n v st) ∧ Aft pb w w'

theorem LAt.aft {w w' : World} {pb b o : Nat} {v : JV} (h : LAt w (· < pb) v b o) (hb : b < pb) (g : RowKit.Below pb w w') : LAt w' (· < pb) v b o :=
  LAt.move (S := (· < pb)) (fun k hk hs => ⟨g.block k hs, hs⟩) hb h

set_option maxHeartbeats 2000000 in
theorem list_any (n : Nat) (HV : ValC n) (l : List JV) (hlen : l.length ≤ 1099511627776) (hd : ∀ u ∈ l, u.depth ≤ n ∧ Bear u ∧ ∀ x, JV.In u x → 1 ≤ x.kind ∧ x.kind ≤ 7) (a : Option Addr) (cap pb : Nat) (w0 : World) (st : PSt) (w : World) (hp : PrS w pb st) (hT : Tab5 w0) (hB : RowKit.Below w0.heap.size w0 w) (hle : w0.heap.size ≤ pb)
    (h : l = [] ∨ ∃ b o, a = some ⟨b, o, none⟩ ∧ (b < pb) ∧ LVs w (· < pb) b o l) :
    Calls Tryz.prog 55 #[.pointer (some ⟨pb, 0, none⟩), .slice a l.length cap] w fun e w' => e = .returned (.tuple #[]) ∧ PrS w' pb (wrG (lstF (valG n) l (wrG st [91])).2 [93]) ∧ Aft pb w w' := by
  have C0 := Lib.hid (wr_s pb st ⟨#[91]⟩ w hp (by decide))
  have H := Lib.hid h
  have HD := Lib.hid hd
  obtain ⟨nl, hnl⟩ : ∃ nl, l.length = nl := ⟨_, rfl⟩
  have HNL := Lib.hid hnl
  rw [hnl] at hlen ⊢
  clear h hd hnl
  go_enter Tryz.func55, Tryz.ntmps55
  go_wp2_with (go_at_call 53; (with_reducible refine C0.out.mono ?_); rintro e w1 ⟨rfl, hp1, ha1⟩; have HP1 := Lib.hid hp1; have HA1 := Lib.hid ha1; clear hp1 ha1)
  go_loopw [9] (fun s9 wr => ∃ k : Nat, k ≤ nl ∧ s9 = .int .i64 k ∧ PrS wr pb (lstF (valG n) (l.take k) (wrG st [91])).2 ∧ Aft pb w wr) (fun s9 _ => nl - (intOf s9).toNat)
  case atStart => exact ⟨0, Nat.zero_le _, rfl, HP1.out, HA1.out⟩
  case round =>
    obtain ⟨k, hk, rfl, hps, haf⟩ := hrel
    have HPS := Lib.hid hps
    have HAF := Lib.hid haf
    clear hps haf
    by_cases hlt : k < nl
    · obtain ⟨u, hu⟩ : ∃ u, l[k]? = some u := ⟨_, List.getElem?_eq_getElem (by rw [HNL.out]; exact hlt)⟩
      rcases H.out with h | ⟨b, o, rfl, hbp, hl⟩
      · have := HNL.out; rw [h] at this; simp at this; omega
      · have hat := hl.at l k u hu
        rw [Nat.mul_comm 4 k] at hat
        have hdu := HD.out u (List.mem_of_getElem? hu)
        have htake : l.take (k + 1) = l.take k ++ [u] := by rw [List.take_add_one, hu]; rfl
        have hst : (lstF (valG n) (l.take (k + 1)) (wrG st [91])).2 = valG n u (sepG (decide (k = 0)) (lstF (valG n) (l.take k) (wrG st [91])).2) := by
          rw [htake, lstF_snoc, lstF_first]
          have hlk : (l.take k = []) ↔ k = 0 := by
            rw [← List.length_eq_zero_iff, List.length_take, HNL.out]; omega
          simp only [hlk]
        have HST := Lib.hid hst
        have HAT := Lib.hid hat
        have HDU := Lib.hid hdu
        clear hat hdu htake hst hl hu
        cases k with
        | zero =>
          have CV := Lib.hid (HV u HDU.out.1 HDU.out.2.1 HDU.out.2.2 pb w0 b (o + 0 * 4) _ wr HPS.out hT (hB.trans (below_low hle HAF.out.1)) hle hbp (HAT.out.aft hbp HAF.out.1))
          rw [Nat.zero_mul, Nat.add_zero] at CV
          go_wp2_with (go_at_call 28; (with_reducible refine CV.out.mono ?_); rintro e w2 ⟨rfl, hp2, ha2⟩; have HP2 := Lib.hid hp2; have HA2 := Lib.hid ha2; clear hp2 ha2)
          go_roundw
          case rel => exact ⟨1, hlt, rfl, by rw [HST.out]; exact HP2.out, HAF.out.trans HA2.out⟩
          case measure => simp [intOf]; omega
        | succ j =>
          have CW := Lib.hid (wr_s pb _ ⟨#[44]⟩ wr HPS.out (by decide))
          have CV : Hid (∀ w2, PrS w2 pb (wrG (lstF (valG n) (l.take (j + 1)) (wrG st [91])).2 [44]) → Aft pb w w2 → Calls Tryz.prog 28 #[.pointer (some ⟨pb, 0, none⟩), .pointer (some ⟨b, o + (j + 1) * 4, none⟩)] w2 fun e w' => e = .returned (.tuple #[]) ∧ PrS w' pb (valG n u (wrG (lstF (valG n) (l.take (j + 1)) (wrG st [91])).2 [44])) ∧ Aft pb w2 w') :=
            Lib.hid fun w2 h1 h2 => HV u HDU.out.1 HDU.out.2.1 HDU.out.2.2 pb w0 b (o + (j + 1) * 4) _ w2 h1 hT (hB.trans (below_low hle h2.1)) hle hbp (HAT.out.aft hbp h2.1)
          have hj0 : (0 : Int) < (j : Int) + 1 := by omega
          go_wp2_with first
            | (go_at_call 53; (with_reducible refine CW.out.mono ?_); rintro e w2 ⟨rfl, hp2, ha2⟩; have HP2 := Lib.hid hp2; have HA2 := Lib.hid (HAF.out.trans ha2); clear hp2 ha2)
            | (go_at_call 28; (with_reducible refine (CV.out _ HP2.out HA2.out).mono ?_); rintro e w3 ⟨rfl, hp3, ha3⟩; have HP3 := Lib.hid hp3; have HA3 := Lib.hid (HA2.out.trans ha3); clear hp3 ha3)
          go_roundw
          case rel => exact ⟨j + 1 + 1, hlt, by simp, by rw [HST.out]; exact HP3.out, HA3.out⟩
          case measure => simp [intOf]; omega
    · obtain rfl : k = nl := by omega
      have htl : l.take k = l := by rw [← HNL.out]; exact List.take_length
      rw [htl] at HPS
      have CE := Lib.hid (wr_s pb _ ⟨#[93]⟩ wr HPS.out (by decide))
      go_wp2_with (go_at_call 53; (with_reducible refine CE.out.mono ?_); rintro e w2 ⟨rfl, hp2, ha2⟩; have HP2 := Lib.hid hp2; have HA2 := Lib.hid (HAF.out.trans ha2); clear hp2 ha2)
      go_end0
      exact ⟨rfl, HP2.out, HA2.out⟩
end Go.Proofs.YtaniebkfgkhgoaaGreatDoor

namespace Go.Proofs.YtaniebkfgkhgoaaGreatDoor
open Go.RowKit Go.Sort
set_option linter.unusedVariables false
set_option maxRecDepth 100000

theorem sortF_len (f : List (ByteArray × JV)) : (sortF f).length = f.length := by
  cases f with
  | nil => rfl
  | cons q r => simp only [sortF, List.length_map, Array.length_toList, ord_size, List.length_cons]
theorem sortF_at (f : List (ByteArray × JV)) (m : Nat) (hm : f.length = m + 1) (k : Nat) (hk : k < m + 1) : ∃ q, (sortF f)[k]? = some q ∧ f[((ordA (f.map (·.1)) m)[k]!).val]? = some q := by
  cases f with
  | nil => simp at hm
  | cons q r =>
    obtain rfl : r.length = m := by simpa using hm
    have hs := ord_size ((q :: r).map (·.1)) r.length
    show ∃ q', (List.map (fun i : Fin (r.length + 1) => (q :: r).getD i.val q) (ordA ((q :: r).map (·.1)) r.length).toList)[k]? = some q' ∧ (q :: r)[((ordA ((q :: r).map (·.1)) r.length)[k]!).val]? = some q'
    generalize ordA ((q :: r).map (·.1)) r.length = A at hs ⊢
    have hlt : k < A.size := by omega
    have hi := (A[k]!).isLt
    refine ⟨(q :: r)[(A[k]!).val], ?_, List.getElem?_eq_getElem _⟩
    rw [List.getElem?_map, Array.getElem?_toList, Array.getElem?_eq_getElem hlt, Option.map_some, ← getElem!_pos A k hlt, List.getD_eq_getElem?_getD, List.getElem?_eq_getElem hi]
    rfl

/-- One field is written. -/
def fldG (vf : JV → PSt → PSt) (first : Bool) (q : ByteArray × JV) (st : PSt) : PSt := vf q.2 (wrG (quG (sepG first st) q.1.data.toList) [58])
theorem aft_row {pb g : Nat} {w w' : World} {cur : Array Value} (h : Aft pb w w') (hg : w.heap[g]? = some (.cells cur 75 (0, 0))) (hne : g ≠ pb) : w'.heap[g]? = some (.cells cur 75 (0, 0)) :=
  h.2 g _ hg (fun e => hne (Option.some.inj e)) (fun c fz e => by cases e)

set_option maxHeartbeats 4000000 in
theorem obj_some (n : Nat) (HV : ValC n) (f : List (ByteArray × JV)) (m : Nat) (hm : f.length = m + 1) (h20 : m + 1 ≤ 1048576) (hd : ∀ q ∈ f, q.1.size ≤ 1048576 ∧ q.2.depth ≤ n ∧ Bear q.2 ∧ ∀ x, JV.In q.2 x → 1 ≤ x.kind ∧ x.kind ≤ 7) (fb fo cap pb : Nat) (w0 : World) (st : PSt) (w : World) (hp : PrS w pb st) (hT : Tab5 w0) (hB : RowKit.Below w0.heap.size w0 w) (hle : w0.heap.size ≤ pb)
    (hfb : fb < pb) (h : LFs w (· < pb) fb fo f) :
    Calls Tryz.prog 56 #[.pointer (some ⟨pb, 0, none⟩), .slice (some ⟨fb, fo, none⟩) ((m + 1 : Nat)) cap] w fun e w' => e = .returned (.tuple #[]) ∧ PrS w' pb (wrG (objF (valG n) (sortF f) (wrG st [123])).2 [125]) ∧ Aft pb w w' := by
  have hpbw := hp.1.lt
  have C0 := Lib.hid (wr_s pb st ⟨#[123]⟩ w hp (by decide))
  have CB : Hid (∀ w1, Aft pb w w1 → Calls Tryz.prog 39 #[.slice (some ⟨fb, fo, none⟩) ((m + 1 : Nat)) cap] w1 (ByNameTyped fb fo m (f.map (·.1)) w1)) := by
    refine Lib.hid fun w1 ha => byName_typed fb fo m cap h20 _ w1 fun i hi => ?_
    have hl1 := LFs.move (S' := (· < pb)) (w' := w1) (fun k hk hs => ⟨ha.1.block k hs, hs⟩) f hfb h
    exact hl1.names i (by omega)
  have H := Lib.hid h
  have HD := Lib.hid hd
  have HM := Lib.hid hm
  clear h hd hm
  go_enter Tryz.func56, Tryz.ntmps56
  go_wp2_with first
    | (go_at_call 53; (with_reducible refine C0.out.mono ?_); rintro e w1 ⟨rfl, hp1, ha1⟩; have HP1 := Lib.hid hp1; have HA1 := Lib.hid ha1; clear hp1 ha1)
    | (go_at_call 39; (with_reducible refine (CB.out _ HA1.out).mono ?_); rintro e w2 h2; obtain ⟨g, cap2, rfl, hg1, ⟨cur, hg2⟩, hH, hs, hb⟩ := h2; have HG := Lib.hid (And.intro hg1 hg2); have HH := Lib.hid hH; have HS := Lib.hid hs; have HP2 := Lib.hid (HP1.out.below hb); have HA2 := Lib.hid (HA1.out.trans (Aft.of_below (Nat.le_of_lt HP1.out.1.lt) hb)); clear hg1 hg2 hH hs hb)
  have hgne : g ≠ pb := by have := HG.out.1; have := HP1.out.1.lt; omega
  have HX : Hid (∀ (wr : World), Aft pb w2 wr → ∀ k, k < m + 1 → ∃ q X, (sortF f)[k]? = some q ∧ q ∈ f ∧ wr.cell? ⟨g, k, none⟩ = some (.pointer (some ⟨fb, X, none⟩)) ∧ wr.cell? ⟨fb, X, none⟩ = some (.string q.1) ∧ ∀ w3, Aft pb w w3 → LAt w3 (· < pb) q.2 fb (X + 1)) := by
    refine Lib.hid fun wr haw k hk => ?_
    obtain ⟨q, hq1, hq2⟩ := sortF_at f m HM.out k hk
    have hrow := aft_row haw HG.out.2 hgne
    have hc := (HH.out k (by rw [HS.out]; exact hk)).1
    rw [Nat.zero_add] at hc
    have hat := LFs.at f H.out _ q hq2
    refine ⟨q, _, hq1, List.mem_of_getElem? hq2, (World.cell?_of_block (a := ⟨g, k, none⟩) (hrow.trans HG.out.2.symm)).trans hc, ?_, fun w3 ha3 => hat.2.aft hfb ha3.1⟩
    have hb3 : wr.heap[fb]? = w.heap[fb]? := (haw.1.block fb hfb).trans (HA2.out.1.block fb hfb)
    exact (World.cell?_of_block (a := ⟨fb, _, none⟩) hb3).trans hat.1
  have HL := Lib.hid (sortF_len f)
  clear HH HG CB HS
  go_outline
  go_loopw [11] (fun s11 wr => ∃ k : Nat, k ≤ m + 1 ∧ s11 = .int .i64 k ∧ PrS wr pb (objF (valG n) ((sortF f).take k) (wrG st [123])).2 ∧ Aft pb w2 wr) (fun s11 _ => m + 1 - (intOf s11).toNat)
  case atStart => exact ⟨0, Nat.zero_le _, rfl, HP2.out, Aft.refl _ _⟩
  case round =>
    obtain ⟨k, hk, rfl, hps, haf⟩ := hrel
    have HPS := Lib.hid hps
    have HAF := Lib.hid haf
    clear hps haf
    by_cases hlt : k < m + 1
    · have hki : (k : Int) < (m : Int) + 1 := by omega
      obtain ⟨q, X, hq, hqf, p1, p2, hat⟩ := HX.out wr HAF.out k hlt
      have hdu := HD.out q hqf
      have htake : (sortF f).take (k + 1) = (sortF f).take k ++ [q] := by rw [List.take_add_one, hq]; rfl
      have hst : (objF (valG n) ((sortF f).take (k + 1)) (wrG st [123])).2 = fldG (valG n) (decide (k = 0)) q (objF (valG n) ((sortF f).take k) (wrG st [123])).2 := by
        rw [htake, objF_snoc, objF_first]
        have hlk : ((sortF f).take k = []) ↔ k = 0 := by
          rw [← List.length_eq_zero_iff, List.length_take, HL.out, HM.out]; omega
        simp only [hlk, fldG]
      have HST := Lib.hid hst
      have HAT := Lib.hid hat
      have HDU := Lib.hid hdu
      have HAW : Hid (∀ w3, Aft pb wr w3 → Aft pb w w3) := Lib.hid fun w3 h3 => HA2.out.trans (HAF.out.trans h3)
      have hx1 : ∀ w3, Aft pb wr w3 → w3.cell? ⟨fb, X, none⟩ = some (.string q.1) := fun w3 h3 => (World.cell?_of_block (a := ⟨fb, X, none⟩) (h3.1.block fb hfb)).trans p2
      have HX1 := Lib.hid hx1
      clear hat hdu htake hst hq hqf hx1
      generalize (objF (valG n) ((sortF f).take k) (wrG st [123])).2 = stk at *
      have CQ : Hid (∀ (st1 : PSt) w3, PrS w3 pb st1 → Calls Tryz.prog 54 #[.pointer (some ⟨pb, 0, none⟩), .string q.1] w3 fun e w' => e = .returned (.tuple #[]) ∧ PrS w' pb (quG st1 q.1.data.toList) ∧ Aft pb w3 w') := Lib.hid fun st1 w3 h3 => qu_s pb st1 q.1 w3 h3 HDU.out.1
      have CC : Hid (∀ (st1 : PSt) w3, PrS w3 pb st1 → Calls Tryz.prog 53 #[.pointer (some ⟨pb, 0, none⟩), .string ⟨#[58]⟩] w3 fun e w' => e = .returned (.tuple #[]) ∧ PrS w' pb (wrG st1 [58]) ∧ Aft pb w3 w') := Lib.hid fun st1 w3 h3 => wr_s pb st1 ⟨#[58]⟩ w3 h3 (by decide)
      have CV : Hid (∀ (st1 : PSt) w3, PrS w3 pb st1 → Aft pb w w3 → Calls Tryz.prog 28 #[.pointer (some ⟨pb, 0, none⟩), .pointer (some ⟨fb, X + 1, none⟩)] w3 fun e w' => e = .returned (.tuple #[]) ∧ PrS w' pb (valG n q.2 st1) ∧ Aft pb w3 w') :=
        Lib.hid fun st1 w3 h1 h2 => HV q.2 HDU.out.2.1 HDU.out.2.2.1 HDU.out.2.2.2 pb w0 fb (X + 1) _ w3 h1 hT (hB.trans (below_low hle h2.1)) hle hfb (HAT.out w3 h2)
      cases k with
      | zero =>
        go_wp2_with first
          | (go_at_call 54; (with_reducible refine (CQ.out _ _ HPS.out).mono ?_); rintro e w3 ⟨rfl, hp3, ha3⟩; have HP3 := Lib.hid hp3; have HA3 := Lib.hid ha3; clear hp3 ha3)
          | (go_at_call 53; (with_reducible refine (CC.out _ _ HP3.out).mono ?_); rintro e w4 ⟨rfl, hp4, ha4⟩; have HP4 := Lib.hid hp4; have HA4 := Lib.hid (HA3.out.trans ha4); clear hp4 ha4)
          | (go_at_call 28; (with_reducible refine (CV.out _ _ HP4.out (HAW.out _ HA4.out)).mono ?_); rintro e w5 ⟨rfl, hp5, ha5⟩; have HP5 := Lib.hid hp5; have HA5 := Lib.hid (HA4.out.trans ha5); clear hp5 ha5)
        go_roundw
        case rel => exact ⟨1, hlt, rfl, by rw [HST.out]; exact HP5.out, HAF.out.trans HA5.out⟩
        case measure => simp [intOf]
      | succ j =>
        have CW := Lib.hid (wr_s pb _ ⟨#[44]⟩ wr HPS.out (by decide))
        have hj0 : (0 : Int) < (j : Int) + 1 := by omega
        go_wp2_with first
          | (go_at_call 53; (with_reducible refine CW.out.mono ?_); rintro e w6 ⟨rfl, hp6, ha6⟩; have HP6 := Lib.hid hp6; have HA6 := Lib.hid ha6; have p4 := HX1.out w6 ha6; clear hp6 ha6)
          | (go_at_call 54; (with_reducible refine (CQ.out _ _ HP6.out).mono ?_); rintro e w3 ⟨rfl, hp3, ha3⟩; have HP3 := Lib.hid hp3; have HA3 := Lib.hid (HA6.out.trans ha3); clear hp3 ha3)
          | (go_at_call 53; (with_reducible refine (CC.out _ _ HP3.out).mono ?_); rintro e w4 ⟨rfl, hp4, ha4⟩; have HP4 := Lib.hid hp4; have HA4 := Lib.hid (HA3.out.trans ha4); clear hp4 ha4)
          | (go_at_call 28; (with_reducible refine (CV.out _ _ HP4.out (HAW.out _ HA4.out)).mono ?_); rintro e w5 ⟨rfl, hp5, ha5⟩; have HP5 := Lib.hid hp5; have HA5 := Lib.hid (HA4.out.trans ha5); clear hp5 ha5)
        go_roundw
        case rel => exact ⟨j + 1 + 1, hlt, by simp, by rw [HST.out]; exact HP5.out, HAF.out.trans HA5.out⟩
        case measure => simp [intOf]; omega
    · obtain rfl : k = m + 1 := by omega
      have htl : (sortF f).take (m + 1) = sortF f := by rw [← HM.out, ← HL.out]; exact List.take_length
      rw [htl] at HPS
      have CE := Lib.hid (wr_s pb _ ⟨#[125]⟩ wr HPS.out (by decide))
      go_wp2_with (go_at_call 53; (with_reducible refine CE.out.mono ?_); rintro e w6 ⟨rfl, hp6, ha6⟩; have HP6 := Lib.hid hp6; have HA6 := Lib.hid (HA2.out.trans (HAF.out.trans ha6)); clear hp6 ha6)
      go_end0
      exact ⟨rfl, HP6.out, HA6.out⟩
end Go.Proofs.YtaniebkfgkhgoaaGreatDoor

namespace Go.Proofs.YtaniebkfgkhgoaaGreatDoor
open Go.RowKit Go.Sort
set_option linter.unusedVariables false
set_option maxRecDepth 100000

theorem obj_nil (a : Option Addr) (cap pb : Nat) (st : PSt) (w : World) (hp : PrS w pb st) :
    Calls Tryz.prog 56 #[.pointer (some ⟨pb, 0, none⟩), .slice a 0 cap] w fun e w' => e = .returned (.tuple #[]) ∧ PrS w' pb (wrG (wrG st [123]) [125]) ∧ Aft pb w w' := by
  have C0 := Lib.hid (wr_s pb st ⟨#[123]⟩ w hp (by decide))
  have CB : Hid (∀ w1, Calls Tryz.prog 39 #[.slice a 0 cap] w1 fun e w' => e = .returned (.slice (some ⟨w1.heap.size, 0, none⟩) 0 0) ∧ RowKit.Below w1.heap.size w1 w') := Lib.hid fun w1 => byName_nil a cap w1
  go_enter Tryz.func56, Tryz.ntmps56
  go_wp2_with first
    | (go_at_call 53; (with_reducible refine C0.out.mono ?_); rintro e w1 ⟨rfl, hp1, ha1⟩; have HP1 := Lib.hid hp1; have HA1 := Lib.hid ha1; clear hp1 ha1)
    | (go_at_call 39; (with_reducible refine (CB.out _).mono ?_); rintro e w2 ⟨rfl, hb⟩; have HP2 := Lib.hid (HP1.out.below hb); have HA2 := Lib.hid (HA1.out.trans (Aft.of_below (Nat.le_of_lt HP1.out.1.lt) hb)); clear hb)
  have CE := Lib.hid (wr_s pb _ ⟨#[125]⟩ w2 HP2.out (by decide))
  go_loopg [11] 0 (fun _ s11 wr => s11 = .int .i64 0 ∧ wr = w2)
  case atStart => exact ⟨rfl, rfl⟩
  case round =>
    obtain ⟨rfl, rfl⟩ := hrel
    go_wp2_with (go_at_call 53; (with_reducible refine CE.out.mono ?_); rintro e w6 ⟨rfl, hp6, ha6⟩; have HP6 := Lib.hid hp6; have HA6 := Lib.hid (HA2.out.trans ha6); clear hp6 ha6)
    go_end0
    exact ⟨rfl, HP6.out, HA6.out⟩
theorem object_any (n : Nat) (HV : ValC n) (f : List (ByteArray × JV)) (h20 : f.length ≤ 1048576) (hd : ∀ q ∈ f, q.1.size ≤ 1048576 ∧ q.2.depth ≤ n ∧ Bear q.2 ∧ ∀ x, JV.In q.2 x → 1 ≤ x.kind ∧ x.kind ≤ 7) (a : Option Addr) (cap pb : Nat) (w0 : World) (st : PSt) (w : World) (hp : PrS w pb st) (hT : Tab5 w0) (hB : RowKit.Below w0.heap.size w0 w) (hle : w0.heap.size ≤ pb)
    (h : f = [] ∨ ∃ b o, a = some ⟨b, o, none⟩ ∧ (b < pb) ∧ LFs w (· < pb) b o f) :
    Calls Tryz.prog 56 #[.pointer (some ⟨pb, 0, none⟩), .slice a f.length cap] w fun e w' => e = .returned (.tuple #[]) ∧ PrS w' pb (wrG (objF (valG n) (sortF f) (wrG st [123])).2 [125]) ∧ Aft pb w w' := by
  by_cases hf : f = []
  · subst hf
    exact obj_nil a cap pb st w hp
  · rcases h with h | ⟨b, o, rfl, hb, hl⟩
    · exact absurd h hf
    · obtain ⟨m, hm⟩ : ∃ m, f.length = m + 1 := ⟨f.length - 1, by have := List.length_pos_iff.2 hf; omega⟩
      rw [hm]
      exact obj_some n HV f m hm (by omega) hd b o cap pb w0 st w hp hT hB hle hb hl

/-- What of value goes by the kind. -/
theorem value_k (pb b o : Nat) (k : Int) (hk : 1 ≤ k ∧ k ≤ 7) (t : ByteArray) (v2 v3 : Value) (w0 w : World) (hT : Tab5 w0) (hB : RowKit.Below w0.heap.size w0 w) (full : Bool) (hfull : w.cell? ⟨pb, 2, none⟩ = some (.bool full)) (a2 : Option Addr) (n2 d2 : Nat) (a3 : Option Addr) (n3 d3 : Nat) (hv2 : v2 = .slice a2 n2 d2) (hv3 : v3 = .slice a3 n3 d3)
    (q0 : w.cell? ⟨b, o, none⟩ = some (.int .i64 k)) (q1 : w.cell? ⟨b, o + 1, none⟩ = some (.string t)) (q2 : w.cell? ⟨b, o + 2, none⟩ = some v2) (q3 : w.cell? ⟨b, o + 3, none⟩ = some v3) (R : World → Prop) (h0 : full = true → R w)
    (CN : full = false → k = 4 → Calls Tryz.prog 53 #[.pointer (some ⟨pb, 0, none⟩), .string t] w fun e w' => e = .returned (.tuple #[]) ∧ R w')
    (CQ : full = false → k = 5 → Calls Tryz.prog 54 #[.pointer (some ⟨pb, 0, none⟩), .string t] w fun e w' => e = .returned (.tuple #[]) ∧ R w')
    (CL : full = false → k = 6 → Calls Tryz.prog 55 #[.pointer (some ⟨pb, 0, none⟩), v2] w fun e w' => e = .returned (.tuple #[]) ∧ R w')
    (CO : full = false → k = 7 → Calls Tryz.prog 56 #[.pointer (some ⟨pb, 0, none⟩), v3] w fun e w' => e = .returned (.tuple #[]) ∧ R w')
    (CW : full = false → k ≤ 3 → Calls Tryz.prog 53 #[.pointer (some ⟨pb, 0, none⟩), .string ⟨(wordG k).toArray⟩] w fun e w' => e = .returned (.tuple #[]) ∧ R w') :
    Calls Tryz.prog 28 #[.pointer (some ⟨pb, 0, none⟩), .pointer (some ⟨b, o, none⟩)] w fun e w' => e = .returned (.tuple #[]) ∧ R w' := by
  subst hv2
  subst hv3
  cases full with
  | true =>
    have H0 := Lib.hid (h0 rfl)
    clear h0 CN CQ CL CO CW
    go_enter Tryz.func28, Tryz.ntmps28
    go_wp2_with fail
    refine bodyPost_ret (results_none rfl _ _ _) rfl ?_
    exact ⟨rfl, H0.out⟩
  | false =>
    have CN := Lib.hid (CN rfl)
    have CQ := Lib.hid (CQ rfl)
    have CL := Lib.hid (CL rfl)
    have CO := Lib.hid (CO rfl)
    have CW := Lib.hid (CW rfl)
    have g1 : w.cell? ⟨0, 1, none⟩ = some (.string ⟨#[110, 117, 108, 108]⟩) := (hT.below hB).w1
    have g2 : w.cell? ⟨0, 2, none⟩ = some (.string ⟨#[102, 97, 108, 115, 101]⟩) := (hT.below hB).w2
    have g3 : w.cell? ⟨0, 3, none⟩ = some (.string ⟨#[116, 114, 117, 101]⟩) := (hT.below hB).w3
    clear h0 hT hB
    have hcase : k = 1 ∨ k = 2 ∨ k = 3 ∨ k = 4 ∨ k = 5 ∨ k = 6 ∨ k = 7 := by omega
    rcases hcase with rfl | rfl | rfl | rfl | rfl | rfl | rfl
    · have CX := Lib.hid (CW.out (by decide))
      go_enter Tryz.func28, Tryz.ntmps28
      go_wp2_with (go_at_call 53; (refine CX.out.mono ?_); rintro e w1 ⟨rfl, hr⟩; have HR := Lib.hid hr; clear hr)
      go_end0
      exact ⟨rfl, HR.out⟩
    · have CX := Lib.hid (CW.out (by decide))
      go_enter Tryz.func28, Tryz.ntmps28
      go_wp2_with (go_at_call 53; (refine CX.out.mono ?_); rintro e w1 ⟨rfl, hr⟩; have HR := Lib.hid hr; clear hr)
      go_end0
      exact ⟨rfl, HR.out⟩
    · have CX := Lib.hid (CW.out (by decide))
      go_enter Tryz.func28, Tryz.ntmps28
      go_wp2_with (go_at_call 53; (refine CX.out.mono ?_); rintro e w1 ⟨rfl, hr⟩; have HR := Lib.hid hr; clear hr)
      go_end0
      exact ⟨rfl, HR.out⟩
    · have CX := Lib.hid (CN.out rfl)
      go_enter Tryz.func28, Tryz.ntmps28
      go_wp2_with (go_at_call 53; (with_reducible refine CX.out.mono ?_); rintro e w1 ⟨rfl, hr⟩; have HR := Lib.hid hr; clear hr)
      go_end0
      exact ⟨rfl, HR.out⟩
    · have CX := Lib.hid (CQ.out rfl)
      go_enter Tryz.func28, Tryz.ntmps28
      go_wp2_with (go_at_call 54; (with_reducible refine CX.out.mono ?_); rintro e w1 ⟨rfl, hr⟩; have HR := Lib.hid hr; clear hr)
      go_end0
      exact ⟨rfl, HR.out⟩
    · have CX := Lib.hid (CL.out rfl)
      go_enter Tryz.func28, Tryz.ntmps28
      go_wp2_with (go_at_call 55; (with_reducible refine CX.out.mono ?_); rintro e w1 ⟨rfl, hr⟩; have HR := Lib.hid hr; clear hr)
      go_end0
      exact ⟨rfl, HR.out⟩
    · have CX := Lib.hid (CO.out rfl)
      go_enter Tryz.func28, Tryz.ntmps28
      go_wp2_with (go_at_call 56; (with_reducible refine CX.out.mono ?_); rintro e w1 ⟨rfl, hr⟩; have HR := Lib.hid hr; clear hr)
      go_end0
      exact ⟨rfl, HR.out⟩

theorem depthL_mem : ∀ {l : List JV} {u : JV}, u ∈ l → u.depth ≤ JV.depthL l
  | x :: r, u, h => by
    simp only [JV.depthL]
    rcases List.mem_cons.1 h with rfl | h
    · omega
    · have := depthL_mem h; omega
theorem depthF_mem : ∀ {l : List (ByteArray × JV)} {q : ByteArray × JV}, q ∈ l → q.2.depth ≤ JV.depthF l
  | (m, x) :: r, q, h => by
    simp only [JV.depthF]
    rcases List.mem_cons.1 h with rfl | h
    · simp only; omega
    · have := depthF_mem h; omega
theorem value_any : ∀ n, ValC n
  | 0 => fun v hd => by
    exfalso
    obtain ⟨k, t, l, f⟩ := v
    simp only [JV.depth] at hd
    omega
  | n + 1 => fun v hd hbear hk pb w0 b o st w hp hT hB hle hb hat => by
    have HV := value_any n
    have hk0 := hk v .root
    have hbr := hbear.2 v .root
    have hsz := hbear.1
    have hlen := JV.length_list v
    obtain ⟨k, t, l, f⟩ := v
    obtain ⟨c0, c1, c2, c3, q0, q1, q2, q3, hv⟩ := hat
    unfold LV at hv
    obtain ⟨rfl, rfl, ⟨a2, d2, rfl, h2⟩, ⟨a3, d3, rfl, h3⟩⟩ := hv
    simp only [JV.depth] at hd
    simp only [JV.list] at hlen
    simp only [JV.kind] at hk0
    simp only [JV.fields, JV.text] at hbr
    have hvg : valG (n + 1) ⟨k, t, l, f⟩ st = if st.2 = true then st else if k = 4 then wrG st t.data.toList else if k = 5 then quG st t.data.toList
      else if k = 6 then wrG (lstF (valG n) l (wrG st [91])).2 [93] else if k = 7 then wrG (objF (valG n) (sortF f) (wrG st [123])).2 [125] else wrG st (wordG k) := rfl
    have key : ∀ {fn : Nat} {args : Array Value} {st2 : PSt}, valG (n + 1) ⟨k, t, l, f⟩ st = st2 → Calls Tryz.prog fn args w (fun e w' => e = .returned (.tuple #[]) ∧ PrS w' pb st2 ∧ Aft pb w w') → Calls Tryz.prog fn args w (fun e w' => e = .returned (.tuple #[]) ∧ (PrS w' pb (valG (n + 1) ⟨k, t, l, f⟩ st) ∧ Aft pb w w')) := fun {fn args st2} e h => by rw [e]; exact h
    refine value_k pb b o k hk0 t _ _ w0 w hT hB st.2 hp.1.c2 a2 l.length d2 a3 f.length d3 rfl rfl q0 q1 q2 q3 (fun w' => PrS w' pb (valG (n + 1) ⟨k, t, l, f⟩ st) ∧ Aft pb w w') ?_ ?_ ?_ ?_ ?_ ?_
    · intro hf
      rw [hvg, if_pos hf]
      exact ⟨hp, Aft.refl _ _⟩
    · rintro hf rfl
      exact key (by rw [hvg, if_neg (by rw [hf]; decide), if_pos rfl]) (wr_s pb st t w hp (by omega))
    · rintro hf rfl
      exact key (by rw [hvg, if_neg (by rw [hf]; decide), if_neg (by decide), if_pos rfl]) (qu_s pb st t w hp hbr.2.1)
    · rintro hf rfl
      refine key (by rw [hvg, if_neg (by rw [hf]; decide), if_neg (by decide), if_neg (by decide), if_pos rfl]) (list_any n HV l ?_ (fun u hu => ⟨by have := depthL_mem hu; omega, hbear.sub (JV.In.list .root hu), fun x hx => hk x ((JV.In.list .root hu).trans hx)⟩) a2 d2 pb w0 st w hp hT hB hle ?_)
      · omega
      · rcases h2 with e | ⟨b2, o2, e, hs, hl⟩
        · exact .inl e
        · exact .inr ⟨b2, o2, e, hs.1, hl⟩
    · rintro hf rfl
      refine key (by rw [hvg, if_neg (by rw [hf]; decide), if_neg (by decide), if_neg (by decide), if_neg (by decide), if_pos rfl]) (object_any n HV f hbr.1 (fun q hq => ⟨hbr.2.2 q hq, by have := depthF_mem hq; omega, hbear.sub (JV.In.field .root hq), fun x hx => hk x ((JV.In.field .root hq).trans hx)⟩) a3 d3 pb w0 st w hp hT hB hle ?_)
      rcases h3 with e | ⟨b2, o2, e, hs, hl⟩
      · exact .inl e
      · exact .inr ⟨b2, o2, e, hs.1, hl⟩
    · intro hf hk3
      have hww : (wordG k).length ≤ 5 := by
        unfold wordG
        split
        · decide
        · split <;> decide
      have := wr_s pb st ⟨(wordG k).toArray⟩ w hp (by simp [ByteArray.size]; omega)
      exact key (by rw [hvg, if_neg (by rw [hf]; decide), if_neg (by omega), if_neg (by omega), if_neg (by omega), if_neg (by omega)]) (by simpa using this)
end Go.Proofs.YtaniebkfgkhgoaaGreatDoor

namespace Go.Proofs.YtaniebkfgkhgoaaGreatDoor
open Go.RowKit
set_option linter.unusedVariables false
set_option maxRecDepth 100000

theorem sound_kind {u : JV} (h : soundB u = true) : 1 ≤ u.kind ∧ u.kind ≤ 7 := by
  unfold soundB soundOf at h
  split at h
  · cases h
  · split at h
    · omega
    · split at h
      · omega
      · split at h
        · omega
        · split at h
          · omega
          · cases h
theorem wrG_ne {st : PSt} {l : List UInt8} (hl : l ≠ []) (h : (wrG st l).2 = false) : (wrG st l).1 ≠ [] := by
  unfold wrG at h ⊢
  split
  · rename_i hc; rw [if_pos hc] at h; cases h
  · simp [hl]
theorem valG_ne (n : Nat) (v : JV) (hs : soundB v = true) (st : PSt) (h0 : st.2 = false) (h : (valG (n + 1) v st).2 = false) : (valG (n + 1) v st).1 ≠ [] := by
  have hvg : valG (n + 1) v st = if st.2 = true then st else if v.kind = 4 then wrG st v.text.data.toList else if v.kind = 5 then quG st v.text.data.toList
    else if v.kind = 6 then wrG (lstF (valG n) v.list (wrG st [91])).2 [93] else if v.kind = 7 then wrG (objF (valG n) (sortF v.fields) (wrG st [123])).2 [125] else wrG st (wordG v.kind) := rfl
  rw [hvg, if_neg (by rw [h0]; decide)] at h ⊢
  split
  · rename_i h4
    rw [if_pos h4] at h
    refine wrG_ne (fun e => ?_) h
    unfold soundB soundOf at hs
    rw [h4, e, numG_nil] at hs
    simp at hs
  · rename_i h4
    rw [if_neg h4] at h
    split
    · rename_i h5
      rw [if_pos h5] at h
      unfold quG at h ⊢
      split
      · rename_i hq
        rw [if_pos hq] at h
        exact wrG_ne (by simp [quoteG]) h
      · rename_i hq
        rw [if_neg hq] at h
        cases h
    · rename_i h5
      rw [if_neg h5] at h
      split
      · rename_i h6
        rw [if_pos h6] at h
        exact wrG_ne (by simp) h
      · rename_i h6
        rw [if_neg h6] at h
        split
        · rename_i h7
          rw [if_pos h7] at h
          exact wrG_ne (by simp) h
        · rename_i h7
          rw [if_neg h7] at h
          refine wrG_ne ?_ h
          unfold wordG
          split
          · simp
          · split <;> simp

open Classical in
/-- What Print answers. -/
noncomputable def printG (v : JV) : List UInt8 × Int := if checkG v = 0 then (if (valG 32 v ([], false)).2 = true then ([], 5) else ((valG 32 v ([], false)).1, 0)) else ([], 1)

set_option maxHeartbeats 2000000 in
theorem print_any {S : Nat → Prop} (v : JV) (hF : Bear v) (k : Int) (t : ByteArray) (a : Option Addr) (n c : Nat) (a2 : Option Addr) (n2 c2 : Nat) (w : World) (hT : Tab5 w) (hv : LV w S v (.int .i64 k) (.string t) (.slice a n c) (.slice a2 n2 c2)) :
    Calls Tryz.prog 11 #[.agg #[.int .i64 k, .string t, .slice a n c, .slice a2 n2 c2]] w fun e W' => e = .returned (.tuple #[.string ⟨(printG v).1.toArray⟩, .int .i64 (printG v).2]) ∧ RowKit.Below w.heap.size w W' := by
  obtain ⟨W, hW⟩ : ∃ W, W = w.alloc (.cells #[.int .i64 k, .string t, .slice a n c, .slice a2 n2 c2] 26) := ⟨_, rfl⟩
  have hb0 : RB W w.heap.size (.int .i64 k) (.string t) (.slice a n c) (.slice a2 n2 c2) := by rw [hW]; exact RB.new w
  have hg0 : w.grownBy W none := by rw [hW]; exact World.grownBy_alloc _ _ none
  have hz0 : W.heap.size = w.heap.size + 1 := by rw [hW]; simp
  have hlv : LV W (fun b => b < w.heap.size) v (.int .i64 k) (.string t) (.slice a n c) (.slice a2 n2 c2) := LV.move (fun b hb hs => ⟨hg0.block b hb (by simp), hb⟩) v hv
  have CK := Lib.hid (check_any v hF.1 hF k t a n c a2 n2 c2 W hlv)
  have z0 := hb0.c0
  have z1 := hb0.c1
  have z2 := hb0.c2
  have z3 := hb0.c3
  have hBW : Hid (RowKit.Below w.heap.size w W) := Lib.hid (below_of_gb hg0)
  have HB0 := Lib.hid hb0
  have HLV := Lib.hid hlv
  have hW' := hW.symm
  have HZ := Lib.hid hz0
  clear hb0 hg0 hlv hv hW hz0
  obtain ⟨R1, hR1⟩ : ∃ R, (printG v).1 = R := ⟨_, rfl⟩
  obtain ⟨R2, hR2⟩ : ∃ R, (printG v).2 = R := ⟨_, rfl⟩
  rw [hR1, hR2]
  have HR1 := Lib.hid hR1
  have HR2 := Lib.hid hR2
  clear hR1 hR2
  by_cases hck : checkG v = 0
  · have hpos : (∀ u, JV.In v u → soundB u = true) ∧ v.depth ≤ 32 := by
      unfold checkG at hck
      split at hck
      · assumption
      · cases hck
    rw [hck] at CK
    have HPG : Hid (printG v = if (valG 32 v ([], false)).2 = true then ([], 5) else ((valG 32 v ([], false)).1, 0)) := Lib.hid (by unfold printG; rw [if_pos hck])
    clear hck
    go_enter Tryz.func11, Tryz.ntmps11
    go_wp2_with (go_at_call 15; (with_reducible refine CK.out.mono ?_); rintro e w1 ⟨rfl, hb1⟩; have HB1 := Lib.hid hb1; clear hb1; refine Hid.out ?_)
    refine Lib.hid ?_
    obtain ⟨W3, hW3⟩ : ∃ W3, W3 = w1.alloc (.cells #[.pointer none, .slice none 0 0, .bool false] 58) := ⟨_, rfl⟩
    have hps : PrS W3 w1.heap.size ([], false) := by
      refine ⟨⟨.pointer none, .slice none 0 0, .inl rfl, ?_, World.ownsRowF_nil _ _ _ _, by simp [Value.ownBlock]⟩, by decide⟩
      rw [hW3]
      exact heap_alloc_new w1 _
    have hb3 : RowKit.Below w1.heap.size w1 W3 := by rw [hW3]; exact (Below.refl _ _).alloc (Nat.le_refl _) _
    have hbw3 : RowKit.Below w.heap.size w W3 := (hBW.out.trans (HB1.out.mono hBW.out.size)).trans (hb3.mono (Nat.le_trans hBW.out.size HB1.out.size))
    have hbW3 : RowKit.Below W.heap.size W W3 := HB1.out.trans (hb3.mono HB1.out.size)
    have hrb3 : RB W3 w.heap.size (.int .i64 k) (.string t) (.slice a n c) (.slice a2 n2 c2) := HB0.out.below hbW3
    have hpb : w.heap.size < w1.heap.size := by have := HZ.out; have := HB1.out.size; omega
    have hlv3 : LV W3 (· < w1.heap.size) v (.int .i64 k) (.string t) (.slice a n c) (.slice a2 n2 c2) := LV.move (fun b hb hs => ⟨hbW3.block b hb, Nat.lt_of_lt_of_le hb HB1.out.size⟩) v HLV.out
    have CV := Lib.hid (value_any 32 v hpos.2 hF (fun u hu => sound_kind (hpos.1 u hu)) w1.heap.size w w.heap.size 0 ([], false) W3 hps hT hbw3 (Nat.le_of_lt hpb) hpb ⟨_, _, _, _, hrb3.c0, hrb3.c1, hrb3.c2, hrb3.c3, hlv3⟩)
    have HNE : Hid ((valG 32 v ([], false)).2 = false → (valG 32 v ([], false)).1 ≠ []) := Lib.hid (valG_ne 31 v (hpos.1 v .root) ([], false) rfl)
    have HBW3 := Lib.hid hbw3
    have HPB := Lib.hid hpb
    have hW3' := hW3.symm
    clear hps hb3 hbw3 hbW3 hrb3 hpb hlv3 hpos hW3
    generalize hst : valG 32 v ([], false) = st at CV HNE HPG
    obtain ⟨acc, full⟩ := st
    simp only at HNE HPG
    go_wp2_with (go_at_call 28; (with_reducible refine CV.out.mono ?_); rintro e w4 ⟨rfl, hp4, ha4⟩; have HP4 := Lib.hid hp4; have HA4 := Lib.hid (HBW3.out.trans (below_low (Nat.le_trans (Nat.le_of_lt HPB.out) (Nat.le_refl _)) ha4.1)); clear hp4 ha4; refine Hid.out ?_)
    refine Lib.hid ?_
    have hp4c := HP4.out.1.c2
    cases full with
    | true =>
      have hr1 := HR1.out
      have hr2 := HR2.out
      rw [HPG.out, if_pos rfl] at hr1 hr2
      simp only at hr1 hr2
      subst hr1
      subst hr2
      go_wp2_with fail
      go_ret2
      exact ⟨rfl, HA4.out⟩
    | false =>
      have hr1 := HR1.out
      have hr2 := HR2.out
      rw [HPG.out, if_neg (by decide)] at hr1 hr2
      simp only at hr1 hr2
      subst hr1
      subst hr2
      have CS := Lib.hid (pString w1.heap.size acc false w4 HP4.out.1 (HNE.out rfl))
      go_wp2_with (go_at_call 29; (with_reducible refine CS.out.mono ?_); rintro e w5 ⟨rfl, hb5⟩; have HB5 := Lib.hid (HA4.out.trans (below_low (Nat.le_of_lt HPB.out) hb5)); clear hb5)
      go_ret2
      exact ⟨rfl, HB5.out⟩
  · have hr1 := HR1.out
    have hr2 := HR2.out
    unfold printG at hr1 hr2
    rw [if_neg hck] at hr1 hr2
    simp only at hr1 hr2
    subst hr1
    subst hr2
    have hckb : (checkG v != 0) = true := by simpa using hck
    generalize checkG v = kk at *
    go_enter Tryz.func11, Tryz.ntmps11
    go_wp2_with (go_at_call 15; (with_reducible refine CK.out.mono ?_); rintro e w1 ⟨rfl, hb1⟩; have HB1 := Lib.hid (hBW.out.trans (hb1.mono hBW.out.size)); clear hb1)
    go_ret2
    exact ⟨rfl, HB1.out⟩
end Go.Proofs.YtaniebkfgkhgoaaGreatDoor

namespace Go.Proofs.YtaniebkfgkhgoaaGreatDoor
open Go.RowKit
set_option linter.unusedVariables false
set_option maxRecDepth 100000

def RowL (w : World) (S : Nat → Prop) (a : Option Addr) (l : List JV) : Prop := l = [] ∨ ∃ b o, a = some ⟨b, o, none⟩ ∧ (S b ∧ Clean w b) ∧ LVs w S b o l
def RowF (w : World) (S : Nat → Prop) (a : Option Addr) (f : List (ByteArray × JV)) : Prop := f = [] ∨ ∃ b o, a = some ⟨b, o, none⟩ ∧ (S b ∧ Clean w b) ∧ LFs w S b o f
/-- Two slices of which one tells what the other tells. -/
def EqS (w : World) (S : Nat → Prop) (old new : Value) : Prop := ∃ a n cap a' cap', old = .slice a n cap ∧ new = .slice a' n cap' ∧ (∀ l, l.length = n → RowL w S a l → RowL w S a' l) ∧ (∀ f, f.length = n → RowF w S a f → RowF w S a' f)

theorem Clean.setCell {w : World} {b : Nat} (h : Clean w b) (k i : Nat) (v : Value) : Clean (w.setCell ⟨k, i, none⟩ v) b := by
  obtain ⟨c, t, h⟩ := h
  by_cases hb : b = k
  · subst hb
    refine ⟨c.setIfInBounds i v, t, ?_⟩
    simp [World.setCell, Array.getElem?_modify, h]
  · exact ⟨c, t, (Below.heap_setCell _ _ _ _ hb).trans h⟩
theorem LVs.map_at {w w' : World} {S : Nat → Prop} {b : Nat} : ∀ (l : List JV) {o : Nat}, (∀ u ∈ l, ∀ o, LAt w S u b o → LAt w' S u b o) → LVs w S b o l → LVs w' S b o l
  | [], _, _, _ => by unfold LVs; trivial
  | u :: r, o, h, hl => by
    unfold LVs at hl ⊢
    exact ⟨h u (by simp) o hl.1, LVs.map_at r (fun x hx => h x (by simp [hx])) hl.2⟩
theorem LFs.map_at {w w' : World} {S : Nat → Prop} {b : Nat} : ∀ (f : List (ByteArray × JV)) {o : Nat}, (∀ q ∈ f, ∀ o, LAt w S q.2 b o → LAt w' S q.2 b o) → (∀ o n, w.cell? ⟨b, o, none⟩ = some (.string n) → w'.cell? ⟨b, o, none⟩ = some (.string n)) → LFs w S b o f → LFs w' S b o f
  | [], _, _, _, _ => by unfold LFs; trivial
  | (n, u) :: r, o, h, hn, hl => by
    unfold LFs at hl ⊢
    exact ⟨hn o n hl.1, h (n, u) (by simp) (o + 1) hl.2.1, LFs.map_at r (fun x hx => h x (by simp [hx])) hn hl.2.2⟩

theorem LAt.swap {w : World} {S : Nat → Prop} (b i : Nat) (old new : Value) (hold : w.cell? ⟨b, i, none⟩ = some old) (hEq : EqS w S old new) :
    ∀ (x : JV) (bb oo : Nat), LAt w S x bb oo → LAt (w.setCell ⟨b, i, none⟩ new) S x bb oo := by
  obtain ⟨a0, n0, cap0, a1, cap1, rfl, rfl, hL, hF⟩ := hEq
  have keep : ∀ (bb oo : Nat) (c : Value), w.cell? ⟨bb, oo, none⟩ = some c → (bb, oo) ≠ (b, i) → (w.setCell ⟨b, i, none⟩ (.slice a1 n0 cap1)).cell? ⟨bb, oo, none⟩ = some c := fun bb oo c h hne =>
    (World.cell?_setCell_other _ ⟨b, i, none⟩ ⟨bb, oo, none⟩ _ (fun e => hne (by simp only [Addr.mk.injEq] at e; exact Prod.ext e.1.symm e.2.1.symm))).trans h
  have same : (w.setCell ⟨b, i, none⟩ (.slice a1 n0 cap1)).cell? ⟨b, i, none⟩ = some (.slice a1 n0 cap1) := World.cell?_setCell_same' _ _ _ (by rw [hold]; rfl)
  have atom : ∀ (bb oo : Nat) (c : Value), (∀ a n cap, c ≠ .slice a n cap) → w.cell? ⟨bb, oo, none⟩ = some c → (w.setCell ⟨b, i, none⟩ (.slice a1 n0 cap1)).cell? ⟨bb, oo, none⟩ = some c := fun bb oo c hc h => by
    refine keep bb oo c h (fun e => ?_)
    cases e
    rw [hold] at h
    cases h
    exact hc _ _ _ rfl
  have sl : ∀ (bb oo : Nat) (a : Option Addr) (n cap : Nat), w.cell? ⟨bb, oo, none⟩ = some (.slice a n cap) → ∃ a' cap', (w.setCell ⟨b, i, none⟩ (.slice a1 n0 cap1)).cell? ⟨bb, oo, none⟩ = some (.slice a' n cap') ∧ (∀ l, l.length = n → RowL w S a l → RowL w S a' l) ∧ (∀ f, f.length = n → RowF w S a f → RowF w S a' f) := fun bb oo a n cap h => by
    by_cases e : (bb, oo) = (b, i)
    · cases e
      rw [hold] at h
      cases h
      exact ⟨a1, cap1, same, hL, hF⟩
    · exact ⟨a, cap, keep bb oo _ h e, fun _ _ h => h, fun _ _ h => h⟩
  intro x
  induction x using JV.ind with
  | h x ihl ihf =>
    intro bb oo hx
    obtain ⟨k, t, l, f⟩ := x
    simp only [JV.list, JV.fields] at ihl ihf
    obtain ⟨c0, c1, c2, c3, p0, p1, p2, p3, hv⟩ := hx
    unfold LV at hv
    obtain ⟨rfl, rfl, ⟨a2, d2, rfl, h2⟩, ⟨a3, d3, rfl, h3⟩⟩ := hv
    obtain ⟨a2', d2', q2, r2, -⟩ := sl bb (oo + 2) a2 _ d2 p2
    obtain ⟨a3', d3', q3, -, r3⟩ := sl bb (oo + 3) a3 _ d3 p3
    refine ⟨_, _, _, _, atom bb oo _ (by intros; simp) p0, atom bb (oo + 1) _ (by intros; simp) p1, q2, q3, ?_⟩
    unfold LV
    refine ⟨rfl, rfl, ⟨a2', d2', rfl, ?_⟩, ⟨a3', d3', rfl, ?_⟩⟩
    · rcases r2 l rfl h2 with e | ⟨b2, o2, e, hs, hl⟩
      · exact .inl e
      · exact .inr ⟨b2, o2, e, ⟨hs.1, hs.2.setCell _ _ _⟩, hl.map_at l (fun u hu o h => ihl u hu b2 o h)⟩
    · rcases r3 f rfl h3 with e | ⟨b2, o2, e, hs, hl⟩
      · exact .inl e
      · exact .inr ⟨b2, o2, e, ⟨hs.1, hs.2.setCell _ _ _⟩, hl.map_at f (fun u hu o h => ihf u hu b2 o h) (fun o n h => atom b2 o _ (by intros; simp) h)⟩

/-- A row of values and a row of fields are not one. -/
theorem rowL_not_F {w : World} {S : Nat → Prop} {b o : Nat} {l : List JV} {f : List (ByteArray × JV)} (hl : LVs w S b o l) (hf : LFs w S b o f) (h : l.length = f.length) : l = [] := by
  cases l with
  | nil => rfl
  | cons u r =>
    exfalso
    cases f with
    | nil => simp at h
    | cons q s =>
      obtain ⟨n, v⟩ := q
      unfold LVs at hl
      unfold LFs at hf
      obtain ⟨⟨c0, c1, c2, c3, h0, _, _, _, hv⟩, _⟩ := hl
      obtain ⟨k, t, l', f'⟩ := u
      unfold LV at hv
      rw [hf.1] at h0
      cases h0
      exact absurd hv.1 (by simp)

/-- Cells of a row that tell what cells of another one tell. -/
theorem LVs.clone {w : World} {S : Nat → Prop} {b D : Nat} : ∀ (l : List JV) {o d : Nat}, (∀ j, j < l.length * 4 → w.cell? ⟨D, d + j, none⟩ = w.cell? ⟨b, o + j, none⟩) → LVs w S b o l → LVs w S D d l
  | [], _, _, _, _ => by unfold LVs; trivial
  | u :: r, o, d, hc, hl => by
    unfold LVs at hl ⊢
    obtain ⟨⟨c0, c1, c2, c3, h0, h1, h2, h3, hv⟩, hr⟩ := hl
    simp only [List.length_cons] at hc
    refine ⟨⟨c0, c1, c2, c3, (hc 0 (by omega)).trans h0, (hc 1 (by omega)).trans h1, (hc 2 (by omega)).trans h2, (hc 3 (by omega)).trans h3, hv⟩, LVs.clone r (fun j hj => ?_) hr⟩
    have := hc (4 + j) (by omega)
    rwa [show d + (4 + j) = d + 4 + j by omega, show o + (4 + j) = o + 4 + j by omega] at this
theorem LFs.clone {w : World} {S : Nat → Prop} {b D : Nat} : ∀ (f : List (ByteArray × JV)) {o d : Nat}, (∀ j, j < f.length * 5 → w.cell? ⟨D, d + j, none⟩ = w.cell? ⟨b, o + j, none⟩) → LFs w S b o f → LFs w S D d f
  | [], _, _, _, _ => by unfold LFs; trivial
  | (n, u) :: r, o, d, hc, hl => by
    unfold LFs at hl ⊢
    obtain ⟨hn, ⟨c0, c1, c2, c3, h0, h1, h2, h3, hv⟩, hr⟩ := hl
    simp only [List.length_cons] at hc
    refine ⟨(hc 0 (by omega)).trans hn, ⟨c0, c1, c2, c3, (hc 1 (by omega)).trans h0, (hc 2 (by omega)).trans h1, (hc 3 (by omega)).trans h2, (hc 4 (by omega)).trans h3, hv⟩, LFs.clone r (fun j hj => ?_) hr⟩
    have := hc (5 + j) (by omega)
    rwa [show d + (5 + j) = d + 5 + j by omega, show o + (5 + j) = o + 5 + j by omega] at this
/-- A clone of a list's row. -/
theorem eqS_list {w : World} {S : Nat → Prop} {u : JV} {a : Option Addr} {cap : Nat} {D d cap' : Nat} (h : RowL w S a u.list) (hD : S D ∧ Clean w D) (hc : ∀ b o, a = some ⟨b, o, none⟩ → ∀ j, j < u.list.length * 4 → w.cell? ⟨D, d + j, none⟩ = w.cell? ⟨b, o + j, none⟩) :
    EqS w S (.slice a u.list.length cap) (.slice (some ⟨D, d, none⟩) u.list.length cap') := by
  refine ⟨a, _, cap, _, cap', rfl, rfl, fun l hl hr => ?_, fun f hf hr => ?_⟩
  · rcases hr with e | ⟨b, o, e, hs, hl'⟩
    · exact .inl e
    · exact .inr ⟨D, d, rfl, hD, hl'.clone l (by rw [hl]; exact hc b o e)⟩
  · rcases hr with e | ⟨b, o, rfl, hs, hf'⟩
    · exact .inl e
    · rcases h with e | ⟨b2, o2, e, _, hl2⟩
      · rw [e] at hf; exact .inl (List.length_eq_zero_iff.1 (by simpa using hf))
      · cases e
        have := rowL_not_F hl2 hf' hf.symm
        rw [this] at hf; exact .inl (List.length_eq_zero_iff.1 (by simpa using hf))
theorem eqS_fields {w : World} {S : Nat → Prop} {u : JV} {a : Option Addr} {cap : Nat} {D d cap' : Nat} (h : RowF w S a u.fields) (hD : S D ∧ Clean w D) (hc : ∀ b o, a = some ⟨b, o, none⟩ → ∀ j, j < u.fields.length * 5 → w.cell? ⟨D, d + j, none⟩ = w.cell? ⟨b, o + j, none⟩) :
    EqS w S (.slice a u.fields.length cap) (.slice (some ⟨D, d, none⟩) u.fields.length cap') := by
  refine ⟨a, _, cap, _, cap', rfl, rfl, fun l hl hr => ?_, fun f hf hr => ?_⟩
  · rcases hr with e | ⟨b, o, rfl, hs, hl'⟩
    · exact .inl e
    · rcases h with e | ⟨b2, o2, e, _, hf2⟩
      · rw [e] at hl; exact .inl (List.length_eq_zero_iff.1 (by simpa using hl))
      · cases e
        exact .inl (rowL_not_F hl' hf2 hl)
  · rcases hr with e | ⟨b, o, e, hs, hf'⟩
    · exact .inl e
    · exact .inr ⟨D, d, rfl, hD, hf'.clone f (by rw [hf]; exact hc b o e)⟩

/-- Delete. -/
theorem PM.delete {P : Program} (w : World) {tp te : TypeId} {j : TypeInfo} (hp : P.underlying tp = some (.pointer te)) (hte : P.info? te = some j) (hsz : j.size ≠ 0) {b : Nat} {f : Nat × Nat → Option Value} (h : PM w b f) {t e ty : TypeId} (ht : P.underlying t = some (.map tp e)) {x : Nat × Nat} (hx : Clean w x.1) :
    ∃ w', (Builtin.delete_ #[t, tp] ty #[.map (some b), pv x]).run P w = .ok (.tuple #[]) w' ∧ PM w' b (fun a => if a = x then none else f a) ∧ w.grownBy w' (some b) ∧ w'.heap.size = w.heap.size := by
  obtain ⟨es, clock, hb, h1, h2, h3⟩ := h
  have hall : ∀ e ∈ es.toList, ∃ a, e.key = pv a ∧ Clean w a.1 := fun e he => by
    obtain ⟨i, hi⟩ := List.getElem?_of_mem he
    obtain ⟨a, ha, hc, _⟩ := h1 i e hi
    exact ⟨a, ha, hc⟩
  have hcl : ∀ (o : Obj) (k : Nat), Clean w k → Clean { w with heap := w.heap.setIfInBounds b o } k := fun o k ⟨c, t, hk⟩ => by
    have hne : b ≠ k := fun e => by subst e; rw [hb] at hk; cases hk
    exact ⟨c, t, by show (w.heap.setIfInBounds b o)[k]? = _; rw [Array.getElem?_setIfInBounds_ne hne]; exact hk⟩
  have hlt : b < w.heap.size := (Array.getElem?_eq_some_iff.1 hb).1
  have hg : ∀ o : Obj, w.grownBy { w with heap := w.heap.setIfInBounds b o } (some b) := fun o => ⟨rfl, rfl, rfl, by simp, fun k _ hk => by show (w.heap.setIfInBounds b o)[k]? = _; rw [Array.getElem?_setIfInBounds_ne (fun e => hk (by rw [e]))]⟩
  have hs : ∀ o : Obj, ({ w with heap := w.heap.setIfInBounds b o } : World).heap[b]? = some o := fun o => by show (w.heap.setIfInBounds b o)[b]? = _; simp [hlt]
  have hf := run_findKey_ptr w hp hte hsz (x := x) es.toList
  rcases run_find w hp hte hsz hx es.toList 0 hall with ⟨r, hn⟩ | ⟨jj, e0, r, hj, hk⟩
  · rw [r] at hf
    refine ⟨{ w with heap := w.heap.setIfInBounds b (.map es clock) }, by simp [Builtin.delete_, run_underlying ht, MapKept.run_getObj_map hb, run_check_ptr w hp hte hsz, hf, MapKept.run_setObj_map _ hb, Result.andThen], ⟨es, clock, hs _, ?_, ?_, h3⟩, hg _, by simp⟩
    · intro i e hi
      obtain ⟨a, ha, hc, hfa⟩ := h1 i e hi
      have hne : a ≠ x := fun e1 => hn e (List.mem_of_getElem? hi) (by rw [ha, e1])
      exact ⟨a, ha, hcl _ _ hc, by simpa [hne] using hfa⟩
    · intro a v ha
      by_cases hax : a = x
      · simp [hax] at ha
      · exact h2 a v (by simpa [hax] using ha)
  · rw [r] at hf
    have hjA : jj < es.size := by have := (List.getElem?_eq_some_iff.1 hj).1; simpa using this
    have hto : (es.eraseIdxIfInBounds jj).toList = es.toList.eraseIdx jj := by simp
    have ix : ∀ (i : Nat) (e : MapEntry), (es.eraseIdxIfInBounds jj).toList[i]? = some e → es.toList[if i < jj then i else i + 1]? = some e := fun i e hi => by
      rw [hto, List.getElem?_eraseIdx] at hi
      split at hi
      · rename_i h; rw [if_pos h]; exact hi
      · rename_i h; rw [if_neg h]; exact hi
    have ixne : ∀ i, (if i < jj then i else i + 1) ≠ jj := fun i => by split <;> omega
    refine ⟨{ w with heap := w.heap.setIfInBounds b (.map (es.eraseIdxIfInBounds jj) clock) }, by simp [Builtin.delete_, run_underlying ht, MapKept.run_getObj_map hb, run_check_ptr w hp hte hsz, hf, MapKept.run_setObj_map _ hb, Result.andThen], ⟨_, clock, hs _, ?_, ?_, ?_⟩, hg _, by simp⟩
    · intro i e hi
      have hi' := ix i e hi
      obtain ⟨a, ha, hc, hfa⟩ := h1 _ e hi'
      have hne : a ≠ x := fun e1 => ixne i (h3 _ jj e e0 hi' hj (by rw [ha, e1, hk]))
      exact ⟨a, ha, hcl _ _ hc, by simpa [hne] using hfa⟩
    · intro a v ha
      by_cases hax : a = x
      · simp [hax] at ha
      · obtain ⟨i, e, hi, hke⟩ := h2 a v (by simpa [hax] using ha)
        have hne : i ≠ jj := fun e1 => by
          subst e1
          rw [hj] at hi
          cases hi
          exact hax (pv_inj (hke.symm.trans hk))
        rcases Nat.lt_or_ge i jj with hlt' | hge
        · exact ⟨i, e, by rw [hto, List.getElem?_eraseIdx, if_pos hlt']; exact hi, hke⟩
        · obtain ⟨i', rfl⟩ : ∃ i', i = i' + 1 := ⟨i - 1, by omega⟩
          exact ⟨i', e, by rw [hto, List.getElem?_eraseIdx, if_neg (by omega)]; exact hi, hke⟩
    · intro i j' e e' hi hj' hkk
      have h := h3 _ _ e e' (ix i e hi) (ix j' e' hj') hkk
      split at h <;> split at h <;> omega
end Go.Proofs.YtaniebkfgkhgoaaGreatDoor

namespace Go.Proofs.YtaniebkfgkhgoaaGreatDoor
open Go.RowKit
set_option linter.unusedVariables false
set_option maxRecDepth 100000

theorem info_V : (Tryz.prog.info? 26).map (fun i => (i.zero, i.size, i.bytes)) = some (some (.agg #[.int .i64 0, .string ⟨#[]⟩, .slice none 0 0, .slice none 0 0]), 4, 72) := by kernel_rfl
theorem cloneV_nil (n cap : Nat) (w : World) : Calls Tryz.prog 58 #[.slice none n cap] w fun e w' => e = .returned (.slice none 0 0) ∧ w' = w := by
  have hq := Lib.run_eql_slice_nil (P := Tryz.prog) w 23 26 none n cap 0 0 Tryz.underlying23
  go_enter Tryz.func58, Tryz.ntmps58
  go_wp2_with fail
  go_ret
  exact ⟨rfl, rfl⟩
theorem cloneV_c (n : Nat) (hn : n ≤ 549755813888) (news : List Value) (hlen : news.length = n * 4) (ad : Addr) (cap : Nat) (w : World) (hc : ∀ j u, news[j]? = some u → w.cell? (ad.add j) = some u) (h1c : ∀ u ∈ news, u.oneCell' = true) :
    Calls Tryz.prog 58 #[.slice (some ad) n cap] w fun e w' => ∃ g cap', e = .returned (.slice (some ⟨g, 0, none⟩) n cap') ∧ w.heap.size ≤ g ∧ (∃ cur, w'.heap[g]? = some (.cells cur 26 (0, 0))) ∧ (∀ j u, news[j]? = some u → w'.cell? ⟨g, j, none⟩ = some u) ∧ RowKit.Below w.heap.size w w' := by
  obtain ⟨i0, hi, hz0, hz1, hz2⟩ := info_parts info_V
  have hown : (w.alloc (.cells #[] 26)).ownsRow w.heap.size 26 4 (.slice (some ⟨w.heap.size, 0, none⟩) 0 0) 0 [] := ⟨rfl, .inr ⟨w.heap.size, 0, #[], rfl, Nat.le_refl _, heap_alloc_new w _, Nat.le_refl _, by unfold maxLen; omega, rfl, rfl⟩⟩
  have hc' : ∀ j u, news[j]? = some u → (w.alloc (.cells #[] 26)).cell? (ad.add j) = some u := fun j u hu => (World.cell?_of_block (Below.heap_alloc w _ _ (World.block_lt_of_cell? w _ (hc j u hu)))).trans (hc j u hu)
  have hm1 : 0 + n ≤ maxLen := by unfold maxLen; omega
  have HB : Hid (RowKit.Below w.heap.size w (w.alloc (.cells #[] 26))) := Lib.hid ((Below.refl _ _).alloc (Nat.le_refl _) _)
  have hq := Lib.run_eql_slice_nil (P := Tryz.prog) w 23 26 (some ad) n cap 0 0 Tryz.underlying23
  clear hc
  go_enter Tryz.func58, Tryz.ntmps58
  go_wp2_with (at_builtin; refine Hid.out ?_)
  refine Lib.hid ?_
  refine wpList_append_own _ rfl _ _ 23 rfl w.heap.size 26 i0 (.agg #[.int .i64 0, .string ⟨#[]⟩, .slice none 0 0, .slice none 0 0]) 4 72 Tryz.underlying23 hi hz0 hz1 hz2 rfl (by decide) _ _ _ rfl hown ad n cap news rfl hlen hc' h1c hm1 (by omega) (by simp) ?_
  intro v' w1 hown' hgrow hnil
  have hgrow' : (w.alloc (.cells #[] 26)).grownBy w1 (some w.heap.size) := hgrow
  have HOWN := Lib.hid hown'
  have HG := Lib.hid (HB.out.grown hgrow' HB.out.size (fun k e => Nat.le_of_eq (Option.some.inj e)))
  have hnil' : v' = .slice none 0 0 ↔ (Value.slice (some ⟨w.heap.size, 0, none⟩) 0 0 = .slice none 0 0 ∧ n = 0) := hnil
  have HNIL := Lib.hid hnil'
  clear hown' hgrow hnil hgrow' hnil'
  go_wp2_with fail
  go_ret
  rcases HOWN.out.2 with ⟨e, _⟩ | ⟨g, cap', cur, rfl, hg, hgb, hnc, _, _, _⟩
  · have := HNIL.out.1 e
    simp at this
  · refine ⟨g, cap', by simp, hg, ⟨cur, hgb⟩, fun j u hu => ?_, HG.out⟩
    have hj := HOWN.out.cellAt j (by rw [Nat.zero_add, ← hlen]; exact (List.getElem?_eq_some_iff.1 hu).1)
    rw [hj]
    simpa using hu

theorem info_F : (Tryz.prog.info? 51).map (fun i => (i.zero, i.size, i.bytes)) = some (some (.agg #[.string ⟨#[]⟩, .int .i64 0, .string ⟨#[]⟩, .slice none 0 0, .slice none 0 0]), 5, 88) := by kernel_rfl
theorem cloneF_nil (n cap : Nat) (w : World) : Calls Tryz.prog 59 #[.slice none n cap] w fun e w' => e = .returned (.slice none 0 0) ∧ w' = w := by
  have hq := Lib.run_eql_slice_nil (P := Tryz.prog) w 24 51 none n cap 0 0 Tryz.underlying24
  go_enter Tryz.func59, Tryz.ntmps59
  go_wp2_with fail
  go_ret
  exact ⟨rfl, rfl⟩
theorem cloneF_c (n : Nat) (hn : n ≤ 549755813888) (news : List Value) (hlen : news.length = n * 5) (ad : Addr) (cap : Nat) (w : World) (hc : ∀ j u, news[j]? = some u → w.cell? (ad.add j) = some u) (h1c : ∀ u ∈ news, u.oneCell' = true) :
    Calls Tryz.prog 59 #[.slice (some ad) n cap] w fun e w' => ∃ g cap', e = .returned (.slice (some ⟨g, 0, none⟩) n cap') ∧ w.heap.size ≤ g ∧ (∃ cur, w'.heap[g]? = some (.cells cur 51 (0, 0))) ∧ (∀ j u, news[j]? = some u → w'.cell? ⟨g, j, none⟩ = some u) ∧ RowKit.Below w.heap.size w w' := by
  obtain ⟨i0, hi, hz0, hz1, hz2⟩ := info_parts info_F
  have hown : (w.alloc (.cells #[] 51)).ownsRow w.heap.size 51 5 (.slice (some ⟨w.heap.size, 0, none⟩) 0 0) 0 [] := ⟨rfl, .inr ⟨w.heap.size, 0, #[], rfl, Nat.le_refl _, heap_alloc_new w _, Nat.le_refl _, by unfold maxLen; omega, rfl, rfl⟩⟩
  have hc' : ∀ j u, news[j]? = some u → (w.alloc (.cells #[] 51)).cell? (ad.add j) = some u := fun j u hu => (World.cell?_of_block (Below.heap_alloc w _ _ (World.block_lt_of_cell? w _ (hc j u hu)))).trans (hc j u hu)
  have hm1 : 0 + n ≤ maxLen := by unfold maxLen; omega
  have HB : Hid (RowKit.Below w.heap.size w (w.alloc (.cells #[] 51))) := Lib.hid ((Below.refl _ _).alloc (Nat.le_refl _) _)
  have hq := Lib.run_eql_slice_nil (P := Tryz.prog) w 24 51 (some ad) n cap 0 0 Tryz.underlying24
  clear hc
  go_enter Tryz.func59, Tryz.ntmps59
  go_wp2_with (at_builtin; refine Hid.out ?_)
  refine Lib.hid ?_
  refine wpList_append_own _ rfl _ _ 24 rfl w.heap.size 51 i0 (.agg #[.string ⟨#[]⟩, .int .i64 0, .string ⟨#[]⟩, .slice none 0 0, .slice none 0 0]) 5 88 Tryz.underlying24 hi hz0 hz1 hz2 rfl (by decide) _ _ _ rfl hown ad n cap news rfl hlen hc' h1c hm1 (by omega) (by simp) ?_
  intro v' w1 hown' hgrow hnil
  have hgrow' : (w.alloc (.cells #[] 51)).grownBy w1 (some w.heap.size) := hgrow
  have HOWN := Lib.hid hown'
  have HG := Lib.hid (HB.out.grown hgrow' HB.out.size (fun k e => Nat.le_of_eq (Option.some.inj e)))
  have hnil' : v' = .slice none 0 0 ↔ (Value.slice (some ⟨w.heap.size, 0, none⟩) 0 0 = .slice none 0 0 ∧ n = 0) := hnil
  have HNIL := Lib.hid hnil'
  clear hown' hgrow hnil hgrow' hnil'
  go_wp2_with fail
  go_ret
  rcases HOWN.out.2 with ⟨e, _⟩ | ⟨g, cap', cur, rfl, hg, hgb, hnc, _, _, _⟩
  · have := HNIL.out.1 e
    simp at this
  · refine ⟨g, cap', by simp, hg, ⟨cur, hgb⟩, fun j u hu => ?_, HG.out⟩
    have hj := HOWN.out.cellAt j (by rw [Nat.zero_add, ← hlen]; exact (List.getElem?_eq_some_iff.1 hu).1)
    rw [hj]
    simpa using hu
end Go.Proofs.YtaniebkfgkhgoaaGreatDoor

namespace Go.Proofs.YtaniebkfgkhgoaaGreatDoor
open Go.RowKit
set_option linter.unusedVariables false
set_option linter.unusedSectionVars false
set_option maxRecDepth 100000

section
variable {v : JV} {w : World} {S : Nat → Prop}
/-- What waits: a value and where its copy is; or one all of whose parts were copied. -/
abbrev CE (v : JV) (w : World) (S : Nat → Prop) := NdT v w S none × Option (Nat × Nat)
def pvo : Option (Nat × Nat) → Value
  | some q => pv q
  | none => .pointer none
def ceCells (x : CE v w S) : List Value := [pv (adOf x.1), pvo x.2]
def ceRow (st : List (CE v w S)) : List Value := st.reverse.flatMap ceCells
theorem ceRow_cons (x : CE v w S) (st : List (CE v w S)) : ceRow (x :: st) = ceRow st ++ ceCells x := by simp [ceRow]
theorem ceRow_len (st : List (CE v w S)) : (ceRow st).length = st.length * 2 := by
  induction st with
  | nil => rfl
  | cons x st ih => rw [ceRow_cons, List.length_append, ih]; simp [ceCells]; omega
def ceW (x : CE v w S) : Nat := match x.2 with | none => 1 | some _ => 2 * x.1.1.2.size
def ceWork (st : List (CE v w S)) : Nat := (st.map ceW).sum
/-- Where the copy's parts may lie. -/
def Sx (S : Nat → Prop) (n0 : Nat) (D : Nat → Prop) (b : Nat) : Prop := (S b ∧ b < n0) ∨ D b
/-- Four cells that tell what four others tell. -/
def SameC (W : World) (q p : Nat × Nat) : Prop := ∀ j, j < 4 → W.cell? ⟨q.1, q.2 + j, none⟩ = W.cell? ⟨p.1, p.2 + j, none⟩
def Disj (q q' : Nat × Nat) : Prop := q.1 ≠ q'.1 ∨ q.2 + 4 ≤ q'.2 ∨ q'.2 + 4 ≤ q.2

structure CpM (v : JV) (w : World) (S : Nat → Prop) (W : World) (D : Nat → Prop) (st : List (CE v w S)) (G : Nat × Nat → Option (Nat × Nat)) (sv : Value) : Prop where
  res : RB W w.heap.size (.int .i64 0) (.string ⟨#[]⟩) (.slice none 0 0) (.slice none 0 0)
  map : PM W (w.heap.size + 2) (fun a => (G a).map pv)
  row : W.ownsRow (w.heap.size + 3) 67 2 sv st.length (ceRow st)
  dst : ∀ b, D b → w.heap.size < b ∧ ∃ c t, W.heap[b]? = some (.cells c t (0, 0)) ∧ (t = 26 ∨ t = 51)
  pend : ∀ a q, (a, some q) ∈ st → D q.1 ∧ SameC W q (adOf a)
  gm : ∀ x : NdT v w S none, G (adOf x) ≠ none ↔ (x, none) ∈ st
  gb : ∀ p d, G p = some d → ∃ x : NdT v w S none, adOf x = p
  falls : st.Pairwise fun x y => y.2 = none → x.1.1.2.size < y.1.1.2.size
  apart : st.Pairwise fun x y => ∀ q q', x.2 = some q → y.2 = some q' → Disj q q'
  below : RowKit.Below w.heap.size w W

variable {W W' : World} {D : Nat → Prop} {st : List (CE v w S)} {G : Nat × Nat → Option (Nat × Nat)} {sv : Value}

theorem nd_lt (x : NdT v w S none) : (adOf x).1 < w.heap.size := by
  obtain ⟨c, t, h⟩ := x.2.2.2.1
  exact (Array.getElem?_eq_some_iff.1 h).1
theorem CpM.rowBlk (h : CpM v w S W D st G sv) : ∀ k, sv.ownBlock = some k → w.heap.size + 3 ≤ k ∧ ∃ c, W.heap[k]? = some (.cells c 67 (0, 0)) := fun k hk => by
  rcases h.row.2 with ⟨e, _⟩ | ⟨g, cap, cur, e, hb, hgb, _⟩
  · rw [e] at hk; simp [Value.ownBlock] at hk
  · rw [e] at hk
    obtain rfl : g = k := by simpa [Value.ownBlock] using hk
    exact ⟨hb, _, hgb⟩
theorem CpM.dRow (h : CpM v w S W D st G sv) {b : Nat} (hb : D b) : some b ≠ sv.ownBlock := fun e => by
  obtain ⟨_, c, t, hc, ht⟩ := h.dst b hb
  obtain ⟨_, c', hc'⟩ := h.rowBlk b e.symm
  rw [hc] at hc'
  cases hc'
  rcases ht with ht | ht <;> exact absurd ht (by decide)
theorem CpM.dMap (h : CpM v w S W D st G sv) {b : Nat} (hb : D b) : b ≠ w.heap.size + 2 := fun e => by
  obtain ⟨_, c, t, hc, ht⟩ := h.dst b hb
  obtain ⟨es, clock, hm, _⟩ := h.map
  rw [e, hm] at hc
  cases hc
theorem CpM.rowMap (h : CpM v w S W D st G sv) : sv.ownBlock ≠ some (w.heap.size + 2) := fun e => by
  have := (h.rowBlk _ e).1
  omega
theorem CpM.keys (h : CpM v w S W D st G sv) (a : Nat × Nat) (ha : (G a).map pv ≠ none) : a.1 < w.heap.size := by
  cases hG : G a with
  | none => rw [hG] at ha; exact absurd rfl ha
  | some d =>
    obtain ⟨x, rfl⟩ := h.gb a d hG
    exact nd_lt x
theorem SameC.kept {q p : Nat × Nat} (h : SameC W q p) (h1 : W'.heap[q.1]? = W.heap[q.1]?) (h2 : W'.heap[p.1]? = W.heap[p.1]?) : SameC W' q p := fun j hj =>
  ((World.cell?_of_block (a := ⟨q.1, q.2 + j, none⟩) h1).trans (h j hj)).trans (World.cell?_of_block (a := ⟨p.1, p.2 + j, none⟩) h2).symm
theorem CpM.dlt (h : CpM v w S W D st G sv) {b : Nat} (hb : D b) : b < W.heap.size := by
  obtain ⟨_, c, t, hc, _⟩ := h.dst b hb
  exact (Array.getElem?_eq_some_iff.1 hc).1

/-- A step that touches none of its blocks. -/
theorem CpM.kept {row : Option Nat} (h : CpM v w S W D st G sv) (hg : W.grownBy W' row) (h1 : some w.heap.size ≠ row) (h2 : some (w.heap.size + 2) ≠ row) (h3 : sv.ownBlock = none ∨ sv.ownBlock ≠ row) (h4 : ∀ b, D b → some b ≠ row) (h5 : ∀ k, row = some k → w.heap.size ≤ k) : CpM v w S W' D st G sv := by
  have hold : ∀ k, k < w.heap.size → some k ≠ row := fun k hk e => by have := h5 k e.symm; omega
  refine ⟨h.res.gb hg h1, h.map.grown2 hg h2 (fun a ha => hold _ (h.keys a ha)), h.row.kept hg h3, fun b hb => ?_, fun a q ha => ⟨(h.pend a q ha).1, (h.pend a q ha).2.kept ?_ ?_⟩, h.gm, h.gb, h.falls, h.apart, h.below.grown hg h.below.size h5⟩
  · obtain ⟨e1, c, t, hc, ht⟩ := h.dst b hb
    exact ⟨e1, c, t, (hg.block b (h.dlt hb) (h4 b hb)).trans hc, ht⟩
  · exact hg.block _ (h.dlt (h.pend a q ha).1) (h4 _ (h.pend a q ha).1)
  · exact hg.block _ (Nat.lt_of_lt_of_le (nd_lt a) h.below.size) (hold _ (nd_lt a))
theorem CpM.lat {row : Option Nat} (h : CpM v w S W D st G sv) {b o : Nat} {u : JV} (hb : Sx S w.heap.size D b) (hl : LAt W (Sx S w.heap.size D) u b o) (hg : W.grownBy W' row) (h4 : ∀ b, D b → some b ≠ row) (h5 : ∀ k, row = some k → w.heap.size ≤ k) : LAt W' (Sx S w.heap.size D) u b o :=
  LAt.move (fun k hk hs => ⟨hg.block k hk (by rcases hs with e | e; exact (fun e' => by have := h5 k e'.symm; have := e.2; omega); exact h4 k e), hs⟩) hb hl
/-- The source lies there still. -/
theorem CpM.src (h : CpM v w S W D st G sv) (hS : ∀ b, S b → b < w.heap.size) (x : NdT v w S none) : LAt W (Sx S w.heap.size D) x.1.2 (adOf x).1 (adOf x).2 := by
  have hx := x.2.2.1
  obtain ⟨c0, c1, c2, c3, h0, h1, h2, h3, hv⟩ := hx
  have mv : ∀ {o : Nat} {c : Value}, w.cell? ⟨x.1.1.1, o, none⟩ = some c → W.cell? ⟨x.1.1.1, o, none⟩ = some c := fun {o c} hc => (World.cell?_of_block (a := ⟨x.1.1.1, o, none⟩) (h.below.block _ (nd_lt x))).trans hc
  exact ⟨c0, c1, c2, c3, mv h0, mv h1, mv h2, mv h3, LV.move (fun b hb hs => ⟨h.below.block b hb, .inl ⟨hs, hS b hs⟩⟩) _ hv⟩

/-- The one on the top is taken off the stack's slice. -/
theorem CpM.pop {x : CE v w S} {g cap : Nat} (h : CpM v w S W D (x :: st) G (.slice (some ⟨g, 0, none⟩) (st.length + 1) cap)) : W.ownsRow (w.heap.size + 3) 67 2 (.slice (some ⟨g, 0, none⟩) st.length cap) st.length (ceRow st) := by
  have hr := h.row
  rw [ceRow_cons, List.length_cons] at hr
  exact ownsRow_pop (by rw [ceRow_len]) hr
/-- The end of an open one: it leaves the map. -/
theorem CpM.done {a : NdT v w S none} {sv' : Value} (h : CpM v w S W D ((a, none) :: st) G sv) (hrow : W.ownsRow (w.heap.size + 3) 67 2 sv' st.length (ceRow st)) (hob : sv'.ownBlock = sv.ownBlock) (hg : W.grownBy W' (some (w.heap.size + 2))) (hpm : PM W' (w.heap.size + 2) (fun p => if p = adOf a then none else (G p).map pv)) :
    CpM v w S W' D st (fun p => if p = adOf a then none else G p) sv' := by
  have hn0 : some w.heap.size ≠ some (w.heap.size + 2) := fun e => by have := Option.some.inj e; omega
  have hdm : ∀ b, D b → some b ≠ some (w.heap.size + 2) := fun b hb e => h.dMap hb (Option.some.inj e)
  have h5 : ∀ k, some (w.heap.size + 2) = some k → w.heap.size ≤ k := fun k e => by have := Option.some.inj e; omega
  have hold : ∀ k, k < w.heap.size → some k ≠ some (w.heap.size + 2) := fun k hk e => by have := Option.some.inj e; omega
  obtain ⟨hf1, hf2⟩ := List.pairwise_cons.1 h.falls
  refine ⟨h.res.gb hg hn0, ?_, hrow.kept hg (.inr (by rw [hob]; exact h.rowMap)), fun b hb => ?_, fun x q hx => ⟨(h.pend x q (List.mem_cons_of_mem _ hx)).1, (h.pend x q (List.mem_cons_of_mem _ hx)).2.kept ?_ ?_⟩, fun x => ?_, fun p d hp => ?_, hf2, (List.pairwise_cons.1 h.apart).2, h.below.grown hg h.below.size h5⟩
  · have e : (fun p => ((if p = adOf a then none else G p).map pv)) = fun p => if p = adOf a then none else (G p).map pv := by
      funext p; by_cases hp : p = adOf a <;> simp [hp]
    rw [e]; exact hpm
  · obtain ⟨e1, c, t, hc, ht⟩ := h.dst b hb
    exact ⟨e1, c, t, (hg.block b (h.dlt hb) (hdm b hb)).trans hc, ht⟩
  · exact hg.block _ (h.dlt (h.pend x q (List.mem_cons_of_mem _ hx)).1) (hdm _ (h.pend x q (List.mem_cons_of_mem _ hx)).1)
  · exact hg.block _ (Nat.lt_of_lt_of_le (nd_lt x) h.below.size) (hold _ (nd_lt x))
  · by_cases hx : x = a
    · subst hx
      simp only [if_pos]
      refine ⟨fun e => absurd rfl e, fun e => ?_⟩
      have := hf1 _ e rfl
      exact absurd this (Nat.lt_irrefl _)
    · have hne : adOf x ≠ adOf a := fun e => hx (adOf_inj _ _ e)
      simp only [if_neg hne]
      rw [h.gm x]
      constructor
      · intro e
        rcases List.mem_cons.1 e with e | e
        · exact absurd (congrArg Prod.fst e) hx
        · exact e
      · exact List.mem_cons_of_mem _
  · by_cases hpa : p = adOf a
    · rw [if_pos hpa] at hp; cases hp
    · rw [if_neg hpa] at hp; exact h.gb p d hp
/-- The top is not open. -/
theorem CpM.fresh {a : NdT v w S none} {q : Nat × Nat} (h : CpM v w S W D ((a, some q) :: st) G sv) : G (adOf a) = none := by
  cases hG : G (adOf a) with
  | none => rfl
  | some d =>
    exfalso
    have h1 := (h.gm a).1 (by rw [hG]; simp)
    rcases List.mem_cons.1 h1 with e | e
    · cases e
    · have := (List.pairwise_cons.1 h.falls).1 _ e rfl
      exact absurd this (Nat.lt_irrefl _)
end
end Go.Proofs.YtaniebkfgkhgoaaGreatDoor

namespace Go.Proofs.YtaniebkfgkhgoaaGreatDoor
open Go.RowKit
set_option linter.unusedVariables false
set_option linter.unusedSectionVars false
set_option maxRecDepth 100000

section
variable {v : JV} {w : World} {S : Nat → Prop} {W W' w1 w2 : World} {D : Nat → Prop} {st : List (CE v w S)} {G : Nat × Nat → Option (Nat × Nat)} {sv sv' : Value}

/-- One that waited is taken off. -/
theorem CpM.drop {a : NdT v w S none} {q : Nat × Nat} (h : CpM v w S W D ((a, some q) :: st) G sv) (hrow : W.ownsRow (w.heap.size + 3) 67 2 sv' st.length (ceRow st)) : CpM v w S W D st G sv' :=
  ⟨h.res, h.map, hrow, h.dst, fun x q' hx => h.pend x q' (List.mem_cons_of_mem _ hx), fun x => by
    rw [h.gm x]
    constructor
    · intro e
      rcases List.mem_cons.1 e with e | e
      · cases e
      · exact e
    · exact List.mem_cons_of_mem _, h.gb, (List.pairwise_cons.1 h.falls).2, (List.pairwise_cons.1 h.apart).2, h.below⟩

/-- A cell of the copy is written. -/
theorem CpM.write (h : CpM v w S W D st G sv) (b i : Nat) (x : Value) (hb : D b) (hn : ∀ (a : NdT v w S none) q, (a, some q) ∈ st → b ≠ q.1 ∨ i < q.2 ∨ q.2 + 4 ≤ i) : CpM v w S (W.setCell ⟨b, i, none⟩ x) D st G sv := by
  have hg := gb_set W ⟨b, i, none⟩ x
  have hbn := (h.dst b hb).1
  have hne : ∀ k, k ≠ b → some k ≠ some b := fun k hk e => hk (Option.some.inj e)
  have h5 : ∀ k, some b = some k → w.heap.size ≤ k := fun k e => by have := Option.some.inj e; omega
  refine ⟨h.res.gb hg (hne _ (by omega)), h.map.grown2 hg (hne _ (fun e => h.dMap hb e.symm)) (fun a ha => hne _ (by have := h.keys a ha; omega)), h.row.kept hg (.inr (fun e => h.dRow hb e.symm)), fun b' hb' => ?_, fun a q ha => ⟨(h.pend a q ha).1, fun j hj => ?_⟩, h.gm, h.gb, h.falls, h.apart, h.below.grown hg h.below.size h5⟩
  · obtain ⟨e1, c, t, hc, ht⟩ := h.dst b' hb'
    by_cases e : b' = b
    · subst e
      refine ⟨e1, c.setIfInBounds i x, t, ?_, ht⟩
      simp [World.setCell, Array.getElem?_modify, hc]
    · exact ⟨e1, c, t, (hg.block b' (h.dlt hb') (hne _ e)).trans hc, ht⟩
  · have hs := (h.pend a q ha).2 j hj
    have hpa : (W.setCell ⟨b, i, none⟩ x).cell? ⟨(adOf a).1, (adOf a).2 + j, none⟩ = W.cell? ⟨(adOf a).1, (adOf a).2 + j, none⟩ := World.cell?_of_block (hg.block _ (Nat.lt_of_lt_of_le (nd_lt a) h.below.size) (hne _ (show (adOf a).1 ≠ b by have := nd_lt a; omega)))
    have hpq : (W.setCell ⟨b, i, none⟩ x).cell? ⟨q.1, q.2 + j, none⟩ = W.cell? ⟨q.1, q.2 + j, none⟩ := by
      refine World.cell?_setCell_other _ _ _ _ (fun e => ?_)
      simp only [Addr.mk.injEq, and_true] at e
      obtain ⟨e1, e2⟩ := e
      rcases hn a q ha with hx | hx | hx
      · exact hx e1
      · omega
      · omega
    rw [hpa, hpq]
    exact hs

/-- A new block of the copy. -/
theorem CpM.grow (h : CpM v w S W D st G sv) (g : Nat) (hg : w.heap.size < g) (hc : ∃ c t, W.heap[g]? = some (.cells c t (0, 0)) ∧ (t = 26 ∨ t = 51)) : CpM v w S W (fun b => D b ∨ b = g) st G sv :=
  ⟨h.res, h.map, h.row, fun b hb => by
    rcases hb with hb | rfl
    · exact h.dst b hb
    · exact ⟨hg, hc⟩, fun a q ha => ⟨.inl (h.pend a q ha).1, (h.pend a q ha).2⟩, h.gm, h.gb, h.falls, h.apart, h.below⟩
theorem LAt.grow {n0 g : Nat} {u : JV} {b o : Nat} (h : LAt W (Sx S n0 D) u b o) : LAt W (Sx S n0 (fun b => D b ∨ b = g)) u b o := by
  obtain ⟨c0, c1, c2, c3, h0, h1, h2, h3, hv⟩ := h
  exact ⟨c0, c1, c2, c3, h0, h1, h2, h3, LV.move (fun b _ hs => ⟨rfl, hs.elim .inl (fun e => .inr (.inl e))⟩) u hv⟩

/-- One is opened: it goes into the map, and its end on the stack. -/
theorem CpM.open {a : NdT v w S none} {q : Nat × Nat} (h : CpM v w S W D st G sv) (hf : ∀ y ∈ st, y.2 = none → a.1.2.size < y.1.1.2.size) (hg : W.grownBy W' (some (w.heap.size + 2))) (hpm : PM W' (w.heap.size + 2) (fun p => if p = adOf a then some (pv q) else (G p).map pv))
    (o : Obj) (hgrow : (W'.alloc o).grownBy w2 sv.ownBlock) (hown : w2.ownsRow (w.heap.size + 3) 67 2 sv' (st.length + 1) (ceRow st ++ [pv (adOf a), .pointer none])) :
    CpM v w S w2 D ((a, none) :: st) (fun p => if p = adOf a then some q else G p) sv' := by
  have hn0 : some w.heap.size ≠ some (w.heap.size + 2) := fun e => by have := Option.some.inj e; omega
  have hdm : ∀ b, D b → some b ≠ some (w.heap.size + 2) := fun b hb e => h.dMap hb (Option.some.inj e)
  have h5 : ∀ k, some (w.heap.size + 2) = some k → w.heap.size ≤ k := fun k e => by have := Option.some.inj e; omega
  have hold : ∀ k, k < w.heap.size → some k ≠ some (w.heap.size + 2) := fun k hk e => by have := Option.some.inj e; omega
  have hga := World.grownBy_alloc W' o none
  have hr0 : some w.heap.size ≠ sv.ownBlock := fun e => by have := (h.rowBlk _ e.symm).1; omega
  have hrm : some (w.heap.size + 2) ≠ sv.ownBlock := fun e => h.rowMap e.symm
  have hrd : ∀ b, D b → some b ≠ sv.ownBlock := fun b hb => h.dRow hb
  have hro : ∀ k, k < w.heap.size → some k ≠ sv.ownBlock := fun k hk e => by have := (h.rowBlk _ e.symm).1; omega
  have hr5 : ∀ k, sv.ownBlock = some k → w.heap.size ≤ k := fun k e => by have := (h.rowBlk k e).1; omega
  have blk : ∀ k, k < W.heap.size → some k ≠ some (w.heap.size + 2) → some k ≠ sv.ownBlock → w2.heap[k]? = W.heap[k]? := fun k hk h1 h2 => by
    have hk1 : k < W'.heap.size := Nat.lt_of_lt_of_le hk hg.size
    exact ((hgrow.block k (Nat.lt_of_lt_of_le hk1 hga.size) h2).trans (hga.block k hk1 (by simp))).trans (hg.block k hk h1)
  refine ⟨?_, ?_, ?_, fun b hb => ?_, fun x q' hx => ?_, fun x => ?_, fun p d hp => ?_, ?_, ?_, ((h.below.grown hg h.below.size h5).grown hga (Nat.le_trans h.below.size hg.size) (by simp)).grown hgrow (Nat.le_trans (Nat.le_trans h.below.size hg.size) hga.size) hr5⟩
  · exact ((h.res.gb hg hn0).gb hga (by simp)).gb hgrow hr0
  · have e : (fun p => ((if p = adOf a then some q else G p).map pv)) = fun p => if p = adOf a then some (pv q) else (G p).map pv := by
      funext p; by_cases hp : p = adOf a <;> simp [hp]
    rw [e]
    refine ((hpm.grown2 hga (by simp) (by simp)).grown2 hgrow hrm (fun p hp => hro _ ?_))
    by_cases hpa : p = adOf a
    · rw [hpa]; exact nd_lt a
    · rw [if_neg hpa] at hp; exact h.keys p hp
  · rw [ceRow_cons, List.length_cons]; exact hown
  · obtain ⟨e1, c, t, hc, ht⟩ := h.dst b hb
    exact ⟨e1, c, t, (blk b (h.dlt hb) (hdm b hb) (hrd b hb)).trans hc, ht⟩
  · rcases List.mem_cons.1 hx with e | hx
    · cases e
    · have hp := h.pend x q' hx
      exact ⟨hp.1, hp.2.kept (blk _ (h.dlt hp.1) (hdm _ hp.1) (hrd _ hp.1)) (blk _ (Nat.lt_of_lt_of_le (nd_lt x) h.below.size) (hold _ (nd_lt x)) (hro _ (nd_lt x)))⟩
  · by_cases hx : x = a
    · subst hx; simp
    · have hne : adOf x ≠ adOf a := fun e => hx (adOf_inj _ _ e)
      simp only [if_neg hne]
      rw [h.gm x]
      constructor
      · exact List.mem_cons_of_mem _
      · intro e
        rcases List.mem_cons.1 e with e | e
        · exact absurd (congrArg Prod.fst e) hx
        · exact e
  · by_cases hpa : p = adOf a
    · exact ⟨a, hpa.symm⟩
    · rw [if_neg hpa] at hp; exact h.gb p d hp
  · exact List.pairwise_cons.2 ⟨hf, h.falls⟩
  · exact List.pairwise_cons.2 ⟨fun y hy q q' e => (by cases e), h.apart⟩

/-- A part of an open one is laid on the stack. -/
theorem CpM.push {c : NdT v w S none} {q : Nat × Nat} (h : CpM v w S W D st G sv) (hq : D q.1) (hsame : SameC W q (adOf c)) (hf : ∀ y ∈ st, y.2 = none → c.1.2.size < y.1.1.2.size) (ha : ∀ (y : NdT v w S none) q', (y, some q') ∈ st → Disj q q')
    (o : Obj) (hgrow : (W.alloc o).grownBy w2 sv.ownBlock) (hown : w2.ownsRow (w.heap.size + 3) 67 2 sv' (st.length + 1) (ceRow st ++ [pv (adOf c), pv q])) :
    CpM v w S w2 D ((c, some q) :: st) G sv' := by
  have hga := World.grownBy_alloc W o none
  have h1 := h.kept hga (by simp) (by simp) (by cases e : sv.ownBlock <;> simp) (by simp) (by simp)
  have hr0 : some w.heap.size ≠ sv.ownBlock := fun e => by have := (h.rowBlk _ e.symm).1; omega
  have hrm : some (w.heap.size + 2) ≠ sv.ownBlock := fun e => h.rowMap e.symm
  have hrd : ∀ b, D b → some b ≠ sv.ownBlock := fun b hb => h.dRow hb
  have hro : ∀ k, k < w.heap.size → some k ≠ sv.ownBlock := fun k hk e => by have := (h.rowBlk _ e.symm).1; omega
  have hr5 : ∀ k, sv.ownBlock = some k → w.heap.size ≤ k := fun k e => by have := (h.rowBlk k e).1; omega
  have blk : ∀ k, k < W.heap.size → some k ≠ sv.ownBlock → w2.heap[k]? = W.heap[k]? := fun k hk h2 => (hgrow.block k (Nat.lt_of_lt_of_le hk hga.size) h2).trans (hga.block k hk (by simp))
  refine ⟨h1.res.gb hgrow hr0, h1.map.grown2 hgrow hrm (fun p hp => hro _ (h1.keys p hp)), ?_, fun b hb => ?_, fun x q' hx => ?_, fun x => ?_, h.gb, List.pairwise_cons.2 ⟨hf, h.falls⟩, List.pairwise_cons.2 ⟨fun y hy q1 q2 e1 e2 => ?_, h.apart⟩, h1.below.grown hgrow h1.below.size hr5⟩
  · rw [ceRow_cons, List.length_cons]; exact hown
  · obtain ⟨e1, c, t, hc, ht⟩ := h.dst b hb
    exact ⟨e1, c, t, (blk b (h.dlt hb) (hrd b hb)).trans hc, ht⟩
  · have hk : ∀ (x : NdT v w S none) (q' : Nat × Nat), D q'.1 → SameC W q' (adOf x) → D q'.1 ∧ SameC w2 q' (adOf x) := fun x q' h1 h2 => ⟨h1, h2.kept (blk _ (h.dlt h1) (hrd _ h1)) (blk _ (Nat.lt_of_lt_of_le (nd_lt x) h.below.size) (hro _ (nd_lt x)))⟩
    rcases List.mem_cons.1 hx with e | hx
    · simp only [Prod.mk.injEq, Option.some.injEq] at e
      obtain ⟨rfl, rfl⟩ := e
      exact hk _ _ hq hsame
    · exact hk _ _ (h.pend x q' hx).1 (h.pend x q' hx).2
  · rw [h.gm x]
    constructor
    · exact List.mem_cons_of_mem _
    · intro e
      rcases List.mem_cons.1 e with e | e
      · cases e
      · exact e
  · obtain ⟨y1, y2⟩ := y
    simp only [Option.some.injEq] at e1
    subst e1
    simp only at e2
    subst e2
    exact ha y1 q2 hy
end
end Go.Proofs.YtaniebkfgkhgoaaGreatDoor

namespace Go.Proofs.YtaniebkfgkhgoaaGreatDoor
open Go.RowKit
set_option linter.unusedVariables false
set_option linter.unusedSectionVars false
set_option maxRecDepth 100000

theorem add_n (b o j : Nat) : (⟨b, o, none⟩ : Addr).add j = ⟨b, o + j, none⟩ := by unfold Addr.add; split <;> simp_all
theorem setCell_same {W : World} {b i : Nat} {x : Value} (h : W.cell? ⟨b, i, none⟩ = some x) : W.setCell ⟨b, i, none⟩ x = W := by
  obtain ⟨c, t, fr, hb, hc⟩ : ∃ c t fr, W.heap[b]? = some (.cells c t fr) ∧ c[i]? = some x := by
    unfold World.cell? at h
    split at h
    · rename_i c t fr hb
      simp at h
      exact ⟨c, t, fr, hb, h⟩
    · cases h
  have hcc : c.setIfInBounds i x = c := by
    apply Array.ext_getElem?
    intro m
    rw [Array.getElem?_setIfInBounds]
    split
    · rename_i hm
      subst hm
      split
      · exact hc.symm
      · rename_i hlt
        rw [Array.getElem?_eq_none (by omega)]
    · rfl
  have hk : (W.setCell ⟨b, i, none⟩ x).heap = W.heap := by
    apply Array.ext_getElem?
    intro k
    by_cases hkb : b = k
    · subst hkb
      simp [World.setCell, Array.getElem?_modify, hb, hcc]
    · exact Below.heap_setCell _ _ _ _ (fun e => hkb e.symm)
  show ({ W with heap := (W.setCell ⟨b, i, none⟩ x).heap } : World) = W
  rw [hk]

def set4 (W : World) (q : Nat × Nat) (c0 c1 c2 c3 : Value) : World := (((W.setCell ⟨q.1, q.2, none⟩ c0).setCell ⟨q.1, q.2 + 1, none⟩ c1).setCell ⟨q.1, q.2 + 2, none⟩ c2).setCell ⟨q.1, q.2 + 3, none⟩ c3
theorem set4_same {W : World} {q : Nat × Nat} {c0 c1 c2 c3 : Value} (h0 : W.cell? ⟨q.1, q.2, none⟩ = some c0) (h1 : W.cell? ⟨q.1, q.2 + 1, none⟩ = some c1) (h2 : W.cell? ⟨q.1, q.2 + 2, none⟩ = some c2) (h3 : W.cell? ⟨q.1, q.2 + 3, none⟩ = some c3) : set4 W q c0 c1 c2 c3 = W := by
  unfold set4
  rw [setCell_same h0, setCell_same h1, setCell_same h2, setCell_same h3]

section
variable {v : JV} {w : World} {S : Nat → Prop} {W W' w1 w2 : World} {D : Nat → Prop} {st tl : List (CE v w S)} {G : Nat × Nat → Option (Nat × Nat)} {sv sv' : Value}

/-- A value that waits is on the top. -/
structure CpR (v : JV) (w : World) (S : Nat → Prop) (W : World) (D : Nat → Prop) (a : NdT v w S none) (q : Nat × Nat) (tl : List (CE v w S)) (G : Nat × Nat → Option (Nat × Nat)) (g cap : Nat) : Prop where
  m : CpM v w S W D tl G (.slice (some ⟨g, 0, none⟩) tl.length cap)
  full : W.ownsRow (w.heap.size + 3) 67 2 (.slice (some ⟨g, 0, none⟩) (tl.length + 1) cap) (tl.length + 1) (ceRow tl ++ [pv (adOf a), pv q])
  dq : D q.1
  cells : ∃ y0 y1 y2 y3, W.cell? ⟨q.1, q.2, none⟩ = some y0 ∧ W.cell? ⟨q.1, q.2 + 1, none⟩ = some y1 ∧ W.cell? ⟨q.1, q.2 + 2, none⟩ = some y2 ∧ W.cell? ⟨q.1, q.2 + 3, none⟩ = some y3
  falls : ∀ y ∈ tl, y.2 = none → a.1.2.size < y.1.1.2.size
  apart : ∀ (y : NdT v w S none) q', (y, some q') ∈ tl → Disj q q'
  fresh : G (adOf a) = none
  dw : D (w.heap.size + 1)
  after : ∀ W', W.grownBy W' none → ∀ c0 c1 c2 c3, W'.cell? ⟨(adOf a).1, (adOf a).2, none⟩ = some c0 → W'.cell? ⟨(adOf a).1, (adOf a).2 + 1, none⟩ = some c1 → W'.cell? ⟨(adOf a).1, (adOf a).2 + 2, none⟩ = some c2 → W'.cell? ⟨(adOf a).1, (adOf a).2 + 3, none⟩ = some c3 → LAt (set4 W' q c0 c1 c2 c3) (Sx S w.heap.size D) v (w.heap.size + 1) 0

theorem CpR.of {a : NdT v w S none} {q : Nat × Nat} {g cap : Nat} (hS : ∀ b, S b → b < w.heap.size) (h : CpM v w S W D ((a, some q) :: tl) G (.slice (some ⟨g, 0, none⟩) (tl.length + 1) cap)) (hd : D (w.heap.size + 1)) (hl : LAt W (Sx S w.heap.size D) v (w.heap.size + 1) 0) : CpR v w S W D a q tl G g cap := by
  have hp := h.pend a q (by simp)
  obtain ⟨c0, c1, c2, c3, h0, h1, h2, h3, _⟩ := h.src hS a
  have e0 : W.cell? ⟨q.1, q.2, none⟩ = some c0 := (hp.2 0 (by omega)).trans h0
  have e1 : W.cell? ⟨q.1, q.2 + 1, none⟩ = some c1 := (hp.2 1 (by omega)).trans h1
  have e2 : W.cell? ⟨q.1, q.2 + 2, none⟩ = some c2 := (hp.2 2 (by omega)).trans h2
  have e3 : W.cell? ⟨q.1, q.2 + 3, none⟩ = some c3 := (hp.2 3 (by omega)).trans h3
  obtain ⟨hf1, _⟩ := List.pairwise_cons.1 h.falls
  obtain ⟨ha1, _⟩ := List.pairwise_cons.1 h.apart
  refine ⟨h.drop h.pop, ?_, hp.1, ⟨c0, c1, c2, c3, e0, e1, e2, e3⟩, hf1, fun y q' hy => ha1 _ hy q q' rfl rfl, h.fresh, hd, ?_⟩
  · have := h.row
    rw [ceRow_cons] at this
    exact this
  · intro W' hg d0 d1 d2 d3 k0 k1 k2 k3
    have hlt := h.dlt hp.1
    have hq : ∀ {o c}, W.cell? ⟨q.1, o, none⟩ = some c → W'.cell? ⟨q.1, o, none⟩ = some c := fun {o c} h => hg.cell h (by simp)
    have ha : ∀ {o c}, W.cell? ⟨(adOf a).1, o, none⟩ = some c → W'.cell? ⟨(adOf a).1, o, none⟩ = some c := fun {o c} h => hg.cell h (by simp)
    rw [ha h0] at k0; rw [ha h1] at k1; rw [ha h2] at k2; rw [ha h3] at k3
    cases k0; cases k1; cases k2; cases k3
    rw [set4_same (hq e0) (hq e1) (hq e2) (hq e3)]
    exact h.lat (.inr hd) hl hg (by simp) (by simp)

/-- It is stored. -/
theorem CpR.stored {a : NdT v w S none} {q : Nat × Nat} {g cap : Nat} (h : CpR v w S W D a q tl G g cap) (hg : W.grownBy W' none) {c0 c1 c2 c3 : Value} (k0 : W'.cell? ⟨(adOf a).1, (adOf a).2, none⟩ = some c0) (k1 : W'.cell? ⟨(adOf a).1, (adOf a).2 + 1, none⟩ = some c1) (k2 : W'.cell? ⟨(adOf a).1, (adOf a).2 + 2, none⟩ = some c2) (k3 : W'.cell? ⟨(adOf a).1, (adOf a).2 + 3, none⟩ = some c3) :
    CpM v w S (set4 W' q c0 c1 c2 c3) D tl G (.slice (some ⟨g, 0, none⟩) tl.length cap) ∧ LAt (set4 W' q c0 c1 c2 c3) (Sx S w.heap.size D) v (w.heap.size + 1) 0 ∧ W'.grownBy (set4 W' q c0 c1 c2 c3) (some q.1) := by
  have hm := h.m.kept hg (by simp) (by simp) (.inr (by simp [Value.ownBlock])) (by simp) (by simp)
  have hn : ∀ j, j < 4 → ∀ (y : NdT v w S none) q', (y, some q') ∈ tl → q.1 ≠ q'.1 ∨ q.2 + j < q'.2 ∨ q'.2 + 4 ≤ q.2 + j := fun j hj y q' hy => by
    rcases h.apart y q' hy with e | e | e
    · exact .inl e
    · exact .inr (.inl (by omega))
    · exact .inr (.inr (by omega))
  refine ⟨(((hm.write q.1 q.2 c0 h.dq (hn 0 (by omega))).write q.1 (q.2 + 1) c1 h.dq (hn 1 (by omega))).write q.1 (q.2 + 2) c2 h.dq (hn 2 (by omega))).write q.1 (q.2 + 3) c3 h.dq (hn 3 (by omega)), h.after W' hg c0 c1 c2 c3 k0 k1 k2 k3, ?_⟩
  exact gb_trans (gb_trans (gb_trans (gb_set _ _ _) (gb_set _ ⟨q.1, q.2 + 1, none⟩ _)) (gb_set _ ⟨q.1, q.2 + 2, none⟩ _)) (gb_set _ ⟨q.1, q.2 + 3, none⟩ _)

/-- The cells of a row. -/
theorem LVs.news {W : World} {S : Nat → Prop} {b : Nat} : ∀ (l : List JV) {o : Nat}, LVs W S b o l → ∃ news : List Value, news.length = l.length * 4 ∧ (∀ j u, news[j]? = some u → W.cell? ⟨b, o + j, none⟩ = some u) ∧ ∀ u ∈ news, u.oneCell' = true
  | [], _, _ => ⟨[], rfl, by simp, by simp⟩
  | x :: r, o, h => by
    unfold LVs at h
    obtain ⟨⟨c0, c1, c2, c3, h0, h1, h2, h3, hv⟩, hr⟩ := h
    obtain ⟨news, e1, e2, e3⟩ := LVs.news r hr
    obtain ⟨k, t, a, n, c, a2, n2, d, rfl, rfl, rfl, rfl⟩ := hv.shape
    refine ⟨.int .i64 k :: .string t :: .slice a n c :: .slice a2 n2 d :: news, by simp [e1]; omega, fun j u hj => ?_, fun u hu => ?_⟩
    · match j, hj with
      | 0, hj => simp at hj; subst hj; exact h0
      | 1, hj => simp at hj; subst hj; exact h1
      | 2, hj => simp at hj; subst hj; exact h2
      | 3, hj => simp at hj; subst hj; exact h3
      | j + 4, hj =>
        have := e2 j u (by simpa using hj)
        rwa [show o + 4 + j = o + (j + 4) by omega] at this
    · simp only [List.mem_cons] at hu
      rcases hu with rfl | rfl | rfl | rfl | hu
      · rfl
      · rfl
      · rfl
      · rfl
      · exact e3 u hu
theorem LFs.news {W : World} {S : Nat → Prop} {b : Nat} : ∀ (f : List (ByteArray × JV)) {o : Nat}, LFs W S b o f → ∃ news : List Value, news.length = f.length * 5 ∧ (∀ j u, news[j]? = some u → W.cell? ⟨b, o + j, none⟩ = some u) ∧ ∀ u ∈ news, u.oneCell' = true
  | [], _, _ => ⟨[], rfl, by simp, by simp⟩
  | (m, x) :: r, o, h => by
    unfold LFs at h
    obtain ⟨hn, ⟨c0, c1, c2, c3, h0, h1, h2, h3, hv⟩, hr⟩ := h
    obtain ⟨news, e1, e2, e3⟩ := LFs.news r hr
    obtain ⟨k, t, a, n, c, a2, n2, d, rfl, rfl, rfl, rfl⟩ := hv.shape
    refine ⟨.string m :: .int .i64 k :: .string t :: .slice a n c :: .slice a2 n2 d :: news, by simp [e1]; omega, fun j u hj => ?_, fun u hu => ?_⟩
    · match j, hj with
      | 0, hj => simp at hj; subst hj; exact hn
      | 1, hj => simp at hj; subst hj; exact h0
      | 2, hj => simp at hj; subst hj; exact h1
      | 3, hj => simp at hj; subst hj; exact h2
      | 4, hj => simp at hj; subst hj; exact h3
      | j + 5, hj =>
        have := e2 j u (by simpa using hj)
        rwa [show o + 5 + j = o + (j + 5) by omega] at this
    · simp only [List.mem_cons] at hu
      rcases hu with rfl | rfl | rfl | rfl | rfl | hu
      · rfl
      · rfl
      · rfl
      · rfl
      · rfl
      · exact e3 u hu

/-- What the clone of a row leaves. -/
structure Cloned (v : JV) (w : World) (S : Nat → Prop) (W W' : World) (D D' : Nat → Prop) (tl : List (CE v w S)) (G : Nat × Nat → Option (Nat × Nat)) (sv : Value) (sz n : Nat) (a a' : Option Addr) (cap cap' : Nat) : Prop where
  m : CpM v w S W' D' tl G sv
  whole : LAt W' (Sx S w.heap.size D') v (w.heap.size + 1) 0
  sub : ∀ b, D b → D' b
  eqs : EqS W' (Sx S w.heap.size D') (.slice a n cap) (.slice a' n cap')
  below : RowKit.Below W.heap.size W W'
  new : n = 0 ∨ ∃ g b o, a' = some ⟨g, 0, none⟩ ∧ a = some ⟨b, o, none⟩ ∧ W.heap.size ≤ g ∧ D' g ∧ ∀ j, j < n * sz → W'.cell? ⟨g, j, none⟩ = W'.cell? ⟨b, o + j, none⟩

theorem cloneL_any {a : NdT v w S none} (hS : ∀ b, S b → b < w.heap.size) (hsz : v.size ≤ 549755813888) (h : CpM v w S W D tl G sv) (hd : D (w.heap.size + 1)) (hl : LAt W (Sx S w.heap.size D) v (w.heap.size + 1) 0) (a2 : Option Addr) (cap2 : Nat) (hr : RowL W (Sx S w.heap.size D) a2 a.1.2.list) :
    Calls Tryz.prog 58 #[.slice a2 a.1.2.list.length cap2] W fun e W' => ∃ a' cap' D', e = .returned (.slice a' a.1.2.list.length cap') ∧ Cloned v w S W W' D D' tl G sv 4 a.1.2.list.length a2 a' cap2 cap' := by
  have hn : a.1.2.list.length ≤ 549755813888 := by have := (JV.length_list a.1.2).1; have := a.2.1.size; omega
  cases a2 with
  | none =>
    have h0 : a.1.2.list = [] := by
      rcases hr with e | ⟨b, o, e, _⟩
      · exact e
      · cases e
    rw [h0]
    refine (cloneV_nil _ cap2 W).mono ?_
    rintro e W' ⟨rfl, rfl⟩
    exact ⟨none, 0, D, rfl, h, hl, fun b hb => hb, ⟨none, 0, cap2, none, 0, rfl, rfl, fun _ _ h => h, fun _ _ h => h⟩, Below.refl _ _, .inl rfl⟩
  | some ad =>
    obtain ⟨news, e1, e2, e3⟩ : ∃ news : List Value, news.length = a.1.2.list.length * 4 ∧ (∀ j u, news[j]? = some u → W.cell? (ad.add j) = some u) ∧ ∀ u ∈ news, u.oneCell' = true := by
      rcases hr with e | ⟨b, o, e, hs, hv⟩
      · rw [e]; exact ⟨[], rfl, by simp, by simp⟩
      · cases e
        obtain ⟨news, x1, x2, x3⟩ := hv.news _
        exact ⟨news, x1, fun j u hj => by have := x2 j u hj; rw [add_n]; exact this, x3⟩
    refine (cloneV_c _ hn news e1 ad cap2 W e2 e3).mono ?_
    rintro e W' ⟨g, cap', rfl, hg, ⟨cur, hgb⟩, hnw, hb⟩
    have hgb2 := gb_below hb none
    have hm := (h.kept hgb2 (by simp) (by simp) (by cases e : sv.ownBlock <;> simp) (by simp) (by simp)).grow g (by have := h.dlt hd; omega) ⟨cur, _, hgb, .inl rfl⟩
    have hcell : ∀ b o, some ad = some ⟨b, o, none⟩ → ∀ j, j < a.1.2.list.length * 4 → W'.cell? ⟨g, 0 + j, none⟩ = W'.cell? ⟨b, o + j, none⟩ := fun b o e j hj => by
      cases e
      have hu := List.getElem?_eq_getElem (l := news) (i := j) (by omega)
      have h2 := e2 j _ hu
      rw [Nat.zero_add, hnw j _ hu]
      have h2' : W.cell? ⟨b, o + j, none⟩ = some news[j] := by rw [add_n] at h2; exact h2
      exact (hgb2.cell h2' (by simp)).symm
    have hlat : LAt W' (Sx S w.heap.size (fun b => D b ∨ b = g)) v (w.heap.size + 1) 0 := (h.lat (.inr hd) hl hgb2 (by simp) (by simp)).grow
    have hr' : RowL W' (Sx S w.heap.size (fun b => D b ∨ b = g)) (some ad) a.1.2.list := by
      rcases hr with e | ⟨b, o, e, hs, hv⟩
      · exact .inl e
      · refine .inr ⟨b, o, e, ⟨hs.1.elim .inl (fun e => .inr (.inl e)), hs.2.kept hgb2 (by simp)⟩, LVs.move (fun k hk hs => ⟨hgb2.block k hk (by simp), hs.elim .inl (fun e => .inr (.inl e))⟩) _ hs.1 hv⟩
    refine ⟨some ⟨g, 0, none⟩, cap', fun b => D b ∨ b = g, rfl, hm, hlat, fun b hb => .inl hb, eqS_list hr' ⟨.inr (.inr rfl), ⟨cur, _, hgb⟩⟩ hcell, hb, ?_⟩
    rcases hr with e | ⟨b, o, e, hs, hv⟩
    · left; rw [e]; rfl
    · right
      refine ⟨g, b, o, rfl, e, hg, .inr rfl, fun j hj => ?_⟩
      have := hcell b o e j hj
      rwa [Nat.zero_add] at this
theorem cloneF_any {a : NdT v w S none} (hS : ∀ b, S b → b < w.heap.size) (hsz : v.size ≤ 549755813888) (h : CpM v w S W D tl G sv) (hd : D (w.heap.size + 1)) (hl : LAt W (Sx S w.heap.size D) v (w.heap.size + 1) 0) (a2 : Option Addr) (cap2 : Nat) (hr : RowF W (Sx S w.heap.size D) a2 a.1.2.fields) :
    Calls Tryz.prog 59 #[.slice a2 a.1.2.fields.length cap2] W fun e W' => ∃ a' cap' D', e = .returned (.slice a' a.1.2.fields.length cap') ∧ Cloned v w S W W' D D' tl G sv 5 a.1.2.fields.length a2 a' cap2 cap' := by
  have hn : a.1.2.fields.length ≤ 549755813888 := by have := (JV.length_list a.1.2).2; have := a.2.1.size; omega
  cases a2 with
  | none =>
    have h0 : a.1.2.fields = [] := by
      rcases hr with e | ⟨b, o, e, _⟩
      · exact e
      · cases e
    rw [h0]
    refine (cloneF_nil _ cap2 W).mono ?_
    rintro e W' ⟨rfl, rfl⟩
    exact ⟨none, 0, D, rfl, h, hl, fun b hb => hb, ⟨none, 0, cap2, none, 0, rfl, rfl, fun _ _ h => h, fun _ _ h => h⟩, Below.refl _ _, .inl rfl⟩
  | some ad =>
    obtain ⟨news, e1, e2, e3⟩ : ∃ news : List Value, news.length = a.1.2.fields.length * 5 ∧ (∀ j u, news[j]? = some u → W.cell? (ad.add j) = some u) ∧ ∀ u ∈ news, u.oneCell' = true := by
      rcases hr with e | ⟨b, o, e, hs, hv⟩
      · rw [e]; exact ⟨[], rfl, by simp, by simp⟩
      · cases e
        obtain ⟨news, x1, x2, x3⟩ := hv.news _
        exact ⟨news, x1, fun j u hj => by have := x2 j u hj; rw [add_n]; exact this, x3⟩
    refine (cloneF_c _ hn news e1 ad cap2 W e2 e3).mono ?_
    rintro e W' ⟨g, cap', rfl, hg, ⟨cur, hgb⟩, hnw, hb⟩
    have hgb2 := gb_below hb none
    have hm := (h.kept hgb2 (by simp) (by simp) (by cases e : sv.ownBlock <;> simp) (by simp) (by simp)).grow g (by have := h.dlt hd; omega) ⟨cur, _, hgb, .inr rfl⟩
    have hcell : ∀ b o, some ad = some ⟨b, o, none⟩ → ∀ j, j < a.1.2.fields.length * 5 → W'.cell? ⟨g, 0 + j, none⟩ = W'.cell? ⟨b, o + j, none⟩ := fun b o e j hj => by
      cases e
      have hu := List.getElem?_eq_getElem (l := news) (i := j) (by omega)
      have h2 := e2 j _ hu
      rw [Nat.zero_add, hnw j _ hu]
      have h2' : W.cell? ⟨b, o + j, none⟩ = some news[j] := by rw [add_n] at h2; exact h2
      exact (hgb2.cell h2' (by simp)).symm
    have hlat : LAt W' (Sx S w.heap.size (fun b => D b ∨ b = g)) v (w.heap.size + 1) 0 := (h.lat (.inr hd) hl hgb2 (by simp) (by simp)).grow
    have hr' : RowF W' (Sx S w.heap.size (fun b => D b ∨ b = g)) (some ad) a.1.2.fields := by
      rcases hr with e | ⟨b, o, e, hs, hv⟩
      · exact .inl e
      · refine .inr ⟨b, o, e, ⟨hs.1.elim .inl (fun e => .inr (.inl e)), hs.2.kept hgb2 (by simp)⟩, LFs.move (fun k hk hs => ⟨hgb2.block k hk (by simp), hs.elim .inl (fun e => .inr (.inl e))⟩) _ hs.1 hv⟩
    refine ⟨some ⟨g, 0, none⟩, cap', fun b => D b ∨ b = g, rfl, hm, hlat, fun b hb => .inl hb, eqS_fields hr' ⟨.inr (.inr rfl), ⟨cur, _, hgb⟩⟩ hcell, hb, ?_⟩
    rcases hr with e | ⟨b, o, e, hs, hv⟩
    · left; rw [e]; rfl
    · right
      refine ⟨g, b, o, rfl, e, hg, .inr rfl, fun j hj => ?_⟩
      have := hcell b o e j hj
      rwa [Nat.zero_add] at this
end
end Go.Proofs.YtaniebkfgkhgoaaGreatDoor

namespace Go.Proofs.YtaniebkfgkhgoaaGreatDoor
open Go.RowKit
set_option linter.unusedVariables false
set_option linter.unusedSectionVars false
set_option maxRecDepth 100000

theorem info_pair : (Tryz.prog.info? 67).map (fun i => (i.zero, i.size, i.bytes)) = some (some (.agg #[.pointer none, .pointer none]), 2, 16) := by kernel_rfl
/-- A row of pairs is not the block of one pair that it does not hold. -/
theorem row_not_pair {W : World} {base : Nat} {e t : TypeId} {v x y : Value} {n : Nat} {xs : List Value} {B : Nat} {ft : Nat × Nat} (hr : W.ownsRow base e 2 v n xs) (hn : 1 ≤ n) (hB : W.heap[B]? = some (.cells #[x, y] t ft)) (hx : xs[1]? ≠ some y ∨ 2 ≤ n) : v.ownBlock ≠ some B := by
  rcases hr.2 with ⟨_, e0⟩ | ⟨g, cap, cur, rfl, _, hgb, hnc, _, hs, ht⟩
  · omega
  · intro e'
    obtain rfl : g = B := by simpa [Value.ownBlock] using e'
    rw [hB] at hgb
    cases hgb
    simp at hs
    rcases hx with hx | hx
    · apply hx
      rw [← ht, List.getElem?_take_of_lt (by omega)]
      rfl
    · omega

section
variable {v : JV} {w : World} {S : Nat → Prop}
theorem ceW_pos (x : CE v w S) : 1 ≤ ceW x := by
  unfold ceW
  split
  · exact Nat.le_refl _
  · have := x.1.1.2.size_pos; omega
theorem ceLen : ∀ st : List (CE v w S), st.length ≤ ceWork st
  | [] => Nat.le_refl _
  | x :: st => by
    have h1 := ceLen st
    have h2 := ceW_pos x
    unfold ceWork at h1 ⊢
    simp only [List.map_cons, List.sum_cons, List.length_cons]
    omega
/-- The first k of the parts, with the places of their copies. -/
def pushN (l : List (NdT v w S none)) (f : Nat → Nat × Nat) (k : Nat) : List (CE v w S) := ((l.zipIdx.take k).map fun p => (p.1, some (f p.2))).reverse
theorem pushN_zero (l : List (NdT v w S none)) (f : Nat → Nat × Nat) : pushN l f 0 = [] := rfl
theorem pushN_succ (l : List (NdT v w S none)) (f : Nat → Nat × Nat) (k : Nat) (hk : k < l.length) : pushN l f (k + 1) = (l[k], some (f k)) :: pushN l f k := by
  unfold pushN
  have h : (l.zipIdx.take (k + 1)) = l.zipIdx.take k ++ [(l[k], k)] := by
    rw [List.take_add_one, List.getElem?_eq_getElem (by simpa using hk)]
    simp
  rw [h, List.map_append, List.reverse_append]
  rfl
theorem pushN_len (l : List (NdT v w S none)) (f : Nat → Nat × Nat) (k : Nat) (hk : k ≤ l.length) : (pushN l f k).length = k := by
  simp [pushN]; omega
theorem pushN_mem {l : List (NdT v w S none)} {f : Nat → Nat × Nat} {k : Nat} {x : CE v w S} (h : x ∈ pushN l f k) : ∃ i, i < k ∧ x.2 = some (f i) := by
  unfold pushN at h
  obtain ⟨p, hp, rfl⟩ := List.mem_map.1 (List.mem_reverse.1 h)
  obtain ⟨i, hi, e⟩ := List.mem_iff_getElem.1 hp
  rw [List.length_take] at hi
  rw [List.getElem_take, List.getElem_zipIdx] at e
  refine ⟨i, by omega, ?_⟩
  rw [← e]
  simp
theorem ceWork_append (s t : List (CE v w S)) : ceWork (s ++ t) = ceWork s + ceWork t := by simp [ceWork]
theorem pushN_work (l : List (NdT v w S none)) (f : Nat → Nat × Nat) : ceWork (pushN l f l.length) = (l.map fun c => 2 * c.1.2.size).sum := by
  have key : ∀ k, k ≤ l.length → ceWork (pushN l f k) = ((l.take k).map fun c => 2 * c.1.2.size).sum := by
    intro k
    induction k with
    | zero => intro _; rfl
    | succ k ih =>
      intro hk
      rw [pushN_succ l f k hk, List.take_succ_eq_append_getElem hk, List.map_append, List.sum_append, ← ih (by omega)]
      simp [ceWork, ceW]
      omega
  rw [key _ (Nat.le_refl _), List.take_length]
/-- The work of a value's parts. -/
theorem parts_work (hS : ∀ b, S b → some b ≠ none) (a : NdT v w S none) (f g : Nat → Nat × Nat) : ceWork (pushN (kidsF v w S none hS a) g (kidsF v w S none hS a).length) + ceWork (pushN (kidsL v w S none hS a) f (kidsL v w S none hS a).length) + 2 = 2 * a.1.2.size := by
  have h := (trOf v w S none hS).work_eq a
  have e1 : (trOf v w S none hS).kids a = kidsL v w S none hS a ++ kidsF v w S none hS a := rfl
  have e2 : (trOf v w S none hS).work a = 2 * a.1.2.size := rfl
  have e3 : ∀ l : List (NdT v w S none), (l.map (trOf v w S none hS).work) = l.map fun c => 2 * c.1.2.size := fun l => rfl
  rw [e2, e1, List.map_append, List.sum_append, e3, e3] at h
  rw [pushN_work, pushN_work]
  omega
theorem kidsL_len (hS : ∀ b, S b → some b ≠ none) (a : NdT v w S none) : (kidsL v w S none hS a).length = a.1.2.list.length := by unfold kidsL; rw [List.length_pmap, kidL_len]
theorem kidsF_len (hS : ∀ b, S b → some b ≠ none) (a : NdT v w S none) : (kidsF v w S none hS a).length = a.1.2.fields.length := by unfold kidsF; rw [List.length_pmap, kidF_len]
theorem kidsL_ad (hS : ∀ b, S b → some b ≠ none) (a : NdT v w S none) {b o n c : Nat} (h : w.cell? ⟨(adOf a).1, (adOf a).2 + 2, none⟩ = some (.slice (some ⟨b, o, none⟩) n c)) (k : Nat) (hk : k < (kidsL v w S none hS a).length) : adOf ((kidsL v w S none hS a)[k]) = (b, o + k * 4) := by
  have hk2 : k < (kidL w a.1).length := by unfold kidsL at hk; rwa [List.length_pmap] at hk
  show ((kidsL v w S none hS a)[k]).1.1 = _
  rw [kidsL_get v w S none hS a k hk hk2]
  have hs := slOf_eq h
  have hs' : slOf w a.1.1.1 (a.1.1.2 + 2) = (b, o) := hs
  simp only [kidL, List.getElem_map, hs']
  simp
theorem kidsF_ad (hS : ∀ b, S b → some b ≠ none) (a : NdT v w S none) {b o n c : Nat} (h : w.cell? ⟨(adOf a).1, (adOf a).2 + 3, none⟩ = some (.slice (some ⟨b, o, none⟩) n c)) (k : Nat) (hk : k < (kidsF v w S none hS a).length) : adOf ((kidsF v w S none hS a)[k]) = (b, o + k * 5 + 1) := by
  have hk2 : k < (kidF w a.1).length := by unfold kidsF at hk; rwa [List.length_pmap] at hk
  show ((kidsF v w S none hS a)[k]).1.1 = _
  rw [kidsF_get v w S none hS a k hk hk2]
  have hs := slOf_eq h
  have hs' : slOf w a.1.1.1 (a.1.1.2 + 3) = (b, o) := hs
  simp only [kidF, List.getElem_map, hs']
  simp
theorem kidsL_fall (hS : ∀ b, S b → some b ≠ none) (a c : NdT v w S none) (h : c ∈ kidsL v w S none hS a) : c.1.2.size < a.1.2.size := (trOf v w S none hS).fall a c (List.mem_append_left _ h)
theorem kidsF_fall (hS : ∀ b, S b → some b ≠ none) (a c : NdT v w S none) (h : c ∈ kidsF v w S none hS a) : c.1.2.size < a.1.2.size := (trOf v w S none hS).fall a c (List.mem_append_right _ h)
end
end Go.Proofs.YtaniebkfgkhgoaaGreatDoor

namespace Go.Proofs.YtaniebkfgkhgoaaGreatDoor
open Go.RowKit
set_option linter.unusedVariables false
set_option linter.unusedSectionVars false
set_option maxRecDepth 100000

section
variable {v : JV} {w : World} {S : Nat → Prop}
/-- While the parts of an open one come. -/
structure PushS (v : JV) (w : World) (S : Nat → Prop) (W5 : World) (D : Nat → Prop) (a : NdT v w S none) (tl : List (CE v w S)) (G : Nat × Nat → Option (Nat × Nat)) (nb : Nat) (pre : List (CE v w S)) (wx : World) (sv : Value) : Prop where
  m : CpM v w S wx D (pre ++ (a, none) :: tl) G sv
  ne : sv.ownBlock ≠ some nb
  keep : ∀ b, (b < w.heap.size ∨ D b ∨ b = nb) → wx.heap[b]? = W5.heap[b]?
variable {W5 wx wy : World} {D : Nat → Prop} {a : NdT v w S none} {tl pre : List (CE v w S)} {G : Nat × Nat → Option (Nat × Nat)} {nb : Nat} {sv sv' : Value}
theorem PushS.cell (h : PushS v w S W5 D a tl G nb pre wx sv) {b o : Nat} {c : Value} (hb : b < w.heap.size ∨ D b ∨ b = nb) (hc : W5.cell? ⟨b, o, none⟩ = some c) : wx.cell? ⟨b, o, none⟩ = some c :=
  (World.cell?_of_block (a := ⟨b, o, none⟩) (h.keep b hb)).trans hc
theorem PushS.step {x y : Value} {t : TypeId} {ft : Nat × Nat} (h : PushS v w S W5 D a tl G nb pre wx sv) (hnb : W5.heap[nb]? = some (.cells #[x, y] t ft)) (hnw : nb < wx.heap.size) (c : NdT v w S none) (q : Nat × Nat) (hq : D q.1) (hsame : SameC W5 q (adOf c)) (hca : c.1.2.size < a.1.2.size)
    (hpre : ∀ z ∈ pre, z.2 ≠ none) (hf : ∀ z ∈ tl, z.2 = none → a.1.2.size < z.1.1.2.size) (hap : ∀ (z : NdT v w S none) q', (z, some q') ∈ pre ++ (a, none) :: tl → Disj q q')
    (o : Obj) (hgrow : (wx.alloc o).grownBy wy sv.ownBlock) (hown : wy.ownsRow (w.heap.size + 3) 67 2 sv' ((pre ++ (a, none) :: tl).length + 1) (ceRow (pre ++ (a, none) :: tl) ++ [pv (adOf c), pv q])) :
    PushS v w S W5 D a tl G nb ((c, some q) :: pre) wy sv' := by
  have hs : SameC wx q (adOf c) := hsame.kept (h.keep _ (.inr (.inl hq))) (h.keep _ (.inl (nd_lt c)))
  have hm := h.m.push hq hs (fun z hz hn => ?_) hap o hgrow hown
  · have hkeep : ∀ b, (b < w.heap.size ∨ D b ∨ b = nb) → wy.heap[b]? = W5.heap[b]? := fun b hb => by
      have hbw : b < wx.heap.size := by
        rcases hb with e | e | e
        · exact Nat.lt_of_lt_of_le e h.m.below.size
        · exact h.m.dlt e
        · omega
      have hne : some b ≠ sv.ownBlock := by
        rcases hb with e | e | e
        · intro e'; have := (h.m.rowBlk _ e'.symm).1; omega
        · exact h.m.dRow e
        · rw [e]; exact fun e' => h.ne e'.symm
      exact ((hgrow.block b (Nat.lt_of_lt_of_le hbw (World.grownBy_alloc wx o none).size) hne).trans (Below.heap_alloc wx o b hbw)).trans (h.keep b hb)
    exact ⟨hm, row_not_pair hown (by omega) ((hkeep nb (.inr (.inr rfl))).trans hnb) (.inr (by rw [List.length_append, List.length_cons]; omega)), hkeep⟩
  · rcases List.mem_append.1 hz with e | e
    · exact absurd hn (hpre z e)
    · rcases List.mem_cons.1 e with e | e
      · subst e; exact hca
      · exact Nat.lt_trans hca (hf z e hn)
theorem pushN_some {l : List (NdT v w S none)} {f : Nat → Nat × Nat} {k : Nat} : ∀ z ∈ (pushN l f k : List (CE v w S)), z.2 ≠ none := fun z hz => by
  obtain ⟨i, _, e⟩ := pushN_mem hz
  rw [e]; simp
end
end Go.Proofs.YtaniebkfgkhgoaaGreatDoor
