/- slices.IndexFunc, slices.ContainsFunc over fields; hasBrokenName. -/
import Derived.Test.YtnjikipncgbjjaaGreatDoorJsT
namespace Go.Proofs.YtnjikipncgbjjaaGreatDoor
open Go.RowKit
set_option linter.unusedVariables false
set_option maxRecDepth 100000

/-- The cells of the i-th field. -/
theorem LFs.cells {w : World} {S : Nat → Prop} {b : Nat} : ∀ (f : List (ByteArray × JV)) {o : Nat}, LFs w S b o f → ∀ (i : Nat) (q : ByteArray × JV), f[i]? = some q →
    ∃ c0 c1 c2 c3, w.cell? ⟨b, o + i * 5, none⟩ = some (.string q.1) ∧ w.cell? ⟨b, o + i * 5 + 1, none⟩ = some c0 ∧ w.cell? ⟨b, o + i * 5 + 2, none⟩ = some c1 ∧ w.cell? ⟨b, o + i * 5 + 3, none⟩ = some c2 ∧ w.cell? ⟨b, o + i * 5 + 4, none⟩ = some c3 ∧ LV w S q.2 c0 c1 c2 c3
  | [], o, _, i, q, hi => by simp at hi
  | (n, v) :: r, o, h, i, q, hi => by
    simp only [LFs] at h
    obtain ⟨hn, ⟨c0, c1, c2, c3, h0, h1, h2, h3, hv⟩, hr⟩ := h
    cases i with
    | zero => simp at hi; subst hi; exact ⟨c0, c1, c2, c3, by simpa using hn, by simpa using h0, by simpa using h1, by simpa using h2, by simpa using h3, hv⟩
    | succ i =>
      obtain ⟨d0, d1, d2, d3, k0, k1, k2, k3, k4, kv⟩ := LFs.cells r hr i q (by simpa using hi)
      rw [show o + 5 + i * 5 = o + (i + 1) * 5 by omega] at k0 k1 k2 k3 k4
      exact ⟨d0, d1, d2, d3, k0, k1, k2, k3, k4, kv⟩

theorem LV.shape {w : World} {S : Nat → Prop} {v : JV} {c0 c1 c2 c3 : Value} (h : LV w S v c0 c1 c2 c3) : ∃ (k : Int) (t : ByteArray) (a : Option Addr) (n c : Nat) (a2 : Option Addr) (n2 d : Nat), c0 = .int .i64 k ∧ c1 = .string t ∧ c2 = .slice a n c ∧ c3 = .slice a2 n2 d := by
  obtain ⟨k, t, l, f⟩ := v
  unfold LV at h
  obtain ⟨h0, h1, ⟨a, cap, h2, -⟩, ⟨a', cap', h3, -⟩⟩ := h
  exact ⟨k, t, a, _, cap, a', _, cap', h0, h1, h2, h3⟩

/-- The first field of which p is true; -1: there is none. -/
def ixOf (p : ByteArray × JV → Bool) (f : List (ByteArray × JV)) : Int := match f.findIdx? p with
  | some i => i
  | none => -1

theorem index_any (gv : Nat) (lb : Array Value) (hent : ∀ args w, (callFunc gv args).run Tryz.prog w = .ok (.enter gv args) w) {S : Nat → Prop} (f : List (ByteArray × JV)) (hlen : f.length ≤ 1099511627776) (a : Option Addr) (cap : Nat) (w : World)
    (h : f = [] ∨ ∃ b o, a = some ⟨b, o, none⟩ ∧ LFs w S b o f) (p : ByteArray × JV → Bool)
    (hp : ∀ (q : ByteArray × JV) (k : Int) (t : ByteArray) (a : Option Addr) (n c : Nat) (a2 : Option Addr) (n2 d : Nat) (W : World), q ∈ f → RowKit.Below w.heap.size w W → Calls Tryz.prog gv (#[.agg #[.string q.1, .int .i64 k, .string t, .slice a n c, .slice a2 n2 d]] ++ lb) W fun e W' => e = .returned (.bool (p q)) ∧ RowKit.Below W.heap.size W W') :
    Calls Tryz.prog 32 #[.slice a f.length cap, .func (.func gv) #[] lb] w fun e w' => e = .returned (.int .i64 (ixOf p f)) ∧ RowKit.Below w.heap.size w w' := by
  have H := Lib.hid h
  have HP := Lib.hid hp
  clear h hp
  obtain ⟨nf, hnf⟩ : ∃ nf, f.length = nf := ⟨_, rfl⟩
  have HNF := Lib.hid hnf
  rw [hnf] at hlen ⊢
  clear hnf
  go_enter Tryz.func32, Tryz.ntmps32
  go_wp2_with fail
  go_loopw [8] (fun s8 wr => ∃ k : Nat, k ≤ nf ∧ s8 = .int .i64 k ∧ (∀ j q, j < k → f[j]? = some q → p q = false) ∧ RowKit.Below w.heap.size w wr) (fun s8 _ => nf - (intOf s8).toNat)
  case atStart => exact ⟨0, Nat.zero_le _, rfl, fun j q hj => absurd hj (Nat.not_lt_zero _), Below.refl _ _⟩
  case round =>
    obtain ⟨k, hk, rfl, hno, hb⟩ := hrel
    have HNO := Lib.hid hno
    have HB := Lib.hid hb
    clear hno hb
    by_cases hlt : k < nf
    · obtain ⟨q, hq⟩ : ∃ q, f[k]? = some q := ⟨_, List.getElem?_eq_getElem (by rw [HNF.out]; exact hlt)⟩
      have HQ := Lib.hid hq
      clear hq
      rcases H.out with h | ⟨b, o, rfl, hl⟩
      · have := HNF.out; rw [h] at this; simp at this; omega
      · obtain ⟨c0, c1, c2, c3, k0, k1, k2, k3, k4, hlv⟩ := LFs.cells f hl k q HQ.out
        obtain ⟨vk, vt, va, vn, vc, va2, vn2, vd, rfl, rfl, rfl, rfl⟩ := hlv.shape
        clear hlv
        have mv : ∀ {o : Nat} {c : Value}, w.cell? ⟨b, o, none⟩ = some c → wr.cell? ⟨b, o, none⟩ = some c := fun h => (HB.out.cell (p := ⟨b, _, none⟩) (World.block_lt_of_cell? w _ h)).trans h
        have k0 := mv k0
        have k1 := mv k1
        have k2 := mv k2
        have k3 := mv k3
        have k4 := mv k4
        clear mv hl
        have CP := Lib.hid (HP.out q vk vt va vn vc va2 vn2 vd wr (List.mem_of_getElem? HQ.out) HB.out)
        cases hpq : p q with
        | true =>
          rw [hpq] at CP
          have hix : ixOf p f = (k : Int) := by
            have : f.findIdx? p = some k := by
              rw [List.findIdx?_eq_some_iff_getElem]
              obtain ⟨hk1, hk2⟩ := List.getElem?_eq_some_iff.1 HQ.out
              refine ⟨hk1, by rw [hk2]; exact hpq, fun j hj => ?_⟩
              rw [HNO.out j _ hj (List.getElem?_eq_getElem (by omega))]
              decide
            unfold ixOf; rw [this]
          have HIX := Lib.hid hix
          clear hix
          go_wp2_with ((with_reducible refine CP.out.mono ?_); rintro e w1 ⟨rfl, hb1⟩; have HB1 := Lib.hid (HB.out.trans (hb1.mono HB.out.size)); clear hb1)
          go_ret
          exact ⟨by rw [HIX.out]; rfl, HB1.out⟩
        | false =>
          rw [hpq] at CP
          have HPQ := Lib.hid hpq
          clear hpq
          go_wp2_with ((with_reducible refine CP.out.mono ?_); rintro e w1 ⟨rfl, hb1⟩; have HB1 := Lib.hid (HB.out.trans (hb1.mono HB.out.size)); clear hb1)
          go_roundw
          case rel =>
            refine ⟨k + 1, hlt, by simp, fun j q' hj hq' => ?_, HB1.out⟩
            by_cases hjk : j < k
            · exact HNO.out j q' hjk hq'
            · obtain rfl : j = k := by omega
              rw [HQ.out] at hq'
              cases hq'
              exact HPQ.out
          case measure => simp [intOf]; omega
    · obtain rfl : k = nf := by omega
      have hix : ixOf p f = -1 := by
        have : f.findIdx? p = none := by
          rw [List.findIdx?_eq_none_iff]
          intro x hx
          obtain ⟨j, hj⟩ := List.getElem?_of_mem hx
          exact HNO.out j x (by have := HNF.out; have := (List.getElem?_eq_some_iff.1 hj).1; omega) hj
        unfold ixOf; rw [this]
      have HIX := Lib.hid hix
      clear hix
      go_wp2_with fail
      go_ret
      exact ⟨by rw [HIX.out]; rfl, HB.out⟩

/-- ContainsFunc. -/
theorem contains_any (gv : Nat) (lb : Array Value) (n : Nat) (a : Option Addr) (cap : Nat) (w : World) (x : Int)
    (h : Calls Tryz.prog 32 #[.slice a n cap, .func (.func gv) #[] lb] w fun e w' => e = .returned (.int .i64 x) ∧ RowKit.Below w.heap.size w w') :
    Calls Tryz.prog 86 #[.slice a n cap, .func (.func gv) #[] lb] w fun e w' => e = .returned (.bool (decide (0 ≤ x))) ∧ RowKit.Below w.heap.size w w' := by
  have H := Lib.hid h
  clear h
  go_enter Tryz.func86, Tryz.ntmps86
  go_wp2_with (go_at_call 32; (with_reducible refine H.out.mono ?_); rintro e w1 ⟨rfl, hb⟩; have HB := Lib.hid hb; clear hb)
  go_ret
  exact ⟨rfl, HB.out⟩
theorem ixOf_nonneg (p : ByteArray × JV → Bool) (f : List (ByteArray × JV)) : decide (0 ≤ ixOf p f) = f.any p := by
  unfold ixOf
  cases h : f.findIdx? p with
  | none =>
    rw [List.findIdx?_eq_none_iff] at h
    have : f.any p = false := by rw [List.any_eq_false]; intro x hx; rw [h x hx]; decide
    rw [this]; rfl
  | some i =>
    rw [List.findIdx?_eq_some_iff_getElem] at h
    obtain ⟨h1, h2, _⟩ := h
    have : f.any p = true := List.any_eq_true.2 ⟨_, List.getElem_mem h1, h2⟩
    rw [this]
    simp

/-- A name that is none of letters. -/
def brN (q : ByteArray × JV) : Bool := !Lib.validD q.1.data.toList
theorem brk1_any (s : ByteArray) (hs : s.size ≤ 35184372088832) (k : Int) (t : ByteArray) (a : Option Addr) (n c : Nat) (a2 : Option Addr) (n2 d : Nat) (W : World) :
    Calls Tryz.prog 87 #[.agg #[.string s, .int .i64 k, .string t, .slice a n c, .slice a2 n2 d]] W fun e W' => e = .returned (.bool (!Lib.validD s.data.toList)) ∧ RowKit.Below W.heap.size W W' := by
  have CV : Hid (∀ w0, Calls Tryz.prog 62 #[.string s] w0 fun e w' => e = .returned (.bool (Lib.validD s.data.toList)) ∧ RowKit.Below w0.heap.size w0 w') := Lib.hid fun w0 => valid_any s w0 hs
  have HA : Hid (RowKit.Below W.heap.size W (W.alloc (.cells #[.string s, .int .i64 k, .string t, .slice a n c, .slice a2 n2 d] 52))) := Lib.hid ((Below.refl _ _).alloc (Nat.le_refl _) _)
  generalize Lib.validD s.data.toList = vd at CV ⊢
  clear hs
  go_enter Tryz.func87, Tryz.ntmps87
  go_wp2_with (go_at_call 62; (with_reducible refine (CV.out _).mono ?_); rintro e w1 ⟨rfl, hb⟩; have HB := Lib.hid (HA.out.trans (hb.mono HA.out.size)); clear hb)
  go_ret
  exact ⟨rfl, HB.out⟩
theorem brk_any {S : Nat → Prop} (f : List (ByteArray × JV)) (hlen : f.length ≤ 1099511627776) (hnm : ∀ q ∈ f, q.1.size ≤ 35184372088832) (a : Option Addr) (cap : Nat) (w : World) (h : f = [] ∨ ∃ b o, a = some ⟨b, o, none⟩ ∧ LFs w S b o f) :
    Calls Tryz.prog 63 #[.slice a f.length cap] w fun e w' => e = .returned (.bool (f.any brN)) ∧ RowKit.Below w.heap.size w w' := by
  have CC : Hid (Calls Tryz.prog 86 #[.slice a f.length cap, .func (.func 87) #[] #[]] w fun e w' => e = .returned (.bool (f.any brN)) ∧ RowKit.Below w.heap.size w w') := by
    rw [← ixOf_nonneg]
    exact Lib.hid (contains_any _ _ _ _ _ _ _ (index_any _ _ (enters_of Tryz.func87 (by kernel_rfl) rfl) f hlen a cap w h brN (fun q k t a n c a2 n2 d W hq hb => brk1_any q.1 (hnm q hq) k t a n c a2 n2 d W)))
  generalize f.length = nf at CC ⊢
  clear h hnm hlen
  go_enter Tryz.func63, Tryz.ntmps63
  go_wp2_with (go_at_call 86; (with_reducible refine CC.out.mono ?_); rintro e w1 ⟨rfl, hb⟩; have HB := Lib.hid hb; clear hb)
  go_ret
  exact ⟨rfl, HB.out⟩
end Go.Proofs.YtnjikipncgbjjaaGreatDoor
