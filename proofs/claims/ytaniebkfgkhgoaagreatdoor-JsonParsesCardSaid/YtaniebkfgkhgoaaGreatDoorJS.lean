/- The library's stable sort of pointers to fields: swapRange, rotate. The library's stable sort of pointers to fields: rotate. The library's stable sort of pointers to fields: the search by halves; a merge whose left run is one element. The library's stable sort of pointers to fields: a merge whose right run is one element. The library's stable sort of pointers to fields: the merge, its step. The library's stable sort of pointers to fields: the whole of it, its mathematics. The library's stable sort of pointers to fields: the whole of it, walked. -/
import Derived.Test.YtaniebkfgkhgoaaGreatDoorChecked
import Derived.Test.YtaniebkfgkhgoaaGreatDoorJ0
import Derived.Test.YtaniebkfgkhgoaaGreatDoorJL
import Derived.Shelf.SlSortCmp.Insertion
import Derived.Shelf.SlGeneric
import Derived.WalkKit
import Derived.LoopTactic
import Derived.ProofKit
import Derived.WalkSpells
import Derived.WalkLawsBesides
import Derived.Outline
import Derived.Lib.Hide
import Derived.Handy
import Derived.RegionTactic
import Derived.BigRegion
import Derived.BigQuiet
import Derived.Deep.QuietTactic
import Derived.Deep.LoopGhost
import Derived.OwnWalk
import Derived.IntWalk
namespace Go.Proofs.YtaniebkfgkhgoaaGreatDoor
open Go.RowKit Go.Sort
set_option linter.unusedVariables false
set_option maxRecDepth 100000

/-- The world while the row is sorted: it holds d, and q draws were made. -/
def WSt (fb fo m : Nat) (w : World) (blk : Nat) (d : Array (Fin (m + 1))) (q : Nat) : World := (putRow (encF fb fo m) w blk 0 d).drewN q
theorem WSt_cell {fb fo m : Nat} {w : World} {blk : Nat} {d0 d : Array (Fin (m + 1))} (hH : Holds (encF fb fo m) w blk 0 d0) (hd : d.size = d0.size) (q j : Nat) (hj : j < d0.size) :
    (WSt fb fo m w blk d q).cell? ⟨blk, j, none⟩ = some (.pointer (some ⟨fb, fo + 5 * (d[j]!).val, none⟩)) ∧ (WSt fb fo m w blk d q).frozen? ⟨blk, j, none⟩ = false := by
  have h := holds_putRow (encF fb fo m) w blk 0 d0 d hH hd j (by omega)
  rw [Nat.zero_add] at h
  exact h
theorem WSt_drewN {fb fo m : Nat} {w : World} {blk : Nat} {d : Array (Fin (m + 1))} (q k : Nat) : (WSt fb fo m w blk d q).drewN k = WSt fb fo m w blk d (q + k) := World.drewN_drewN _ _ _
/-- Two places' values exchanged. -/
theorem WSt_swp {fb fo m : Nat} {w : World} {blk : Nat} {d : Array (Fin (m + 1))} (q i j : Nat) (hi : i < d.size) (hj : j < d.size) :
    ((WSt fb fo m w blk d q).setCell ⟨blk, i, none⟩ (.pointer (some ⟨fb, fo + 5 * (d[j]!).val, none⟩))).setCell ⟨blk, j, none⟩ (.pointer (some ⟨fb, fo + 5 * (d[i]!).val, none⟩)) = WSt fb fo m w blk (swp d i j) q := by
  have h := putRow_swp (encF fb fo m) w blk 0 d i j hi hj
  rw [Nat.zero_add, Nat.zero_add] at h
  show ((Go.Sort.ahead (putRow (encF fb fo m) w blk 0 d) q).setCell _ _).setCell _ _ = _
  rw [Go.Sort.setCell_ahead, Go.Sort.setCell_ahead]
  exact congrArg (fun x => Go.Sort.ahead x q) h

set_option maxHeartbeats 4000000 in
theorem swapR_any (fb fo m : Nat) (w : World) (blk cap : Nat) (d0 : Array (Fin (m + 1))) (hH : Holds (encF fb fo m) w blk 0 d0) (hN : d0.size ≤ 1099511627776) (fv : Value) (a b n : Nat) (d : Array (Fin (m + 1))) (q : Nat) (hd : d.size = d0.size) (h1 : a + n ≤ b) (h2 : b + n ≤ d0.size) :
    Calls Tryz.prog 128 #[.slice (some ⟨blk, 0, none⟩) d0.size cap, .int .i64 a, .int .i64 b, .int .i64 n, fv] (WSt fb fo m w blk d q) fun e w' => e = .returned (.tuple #[]) ∧ ∃ q', w' = WSt fb fo m w blk (swpN a b n d) q' := by
  have HH := Lib.hid hH
  have HD := Lib.hid hd
  clear hH hd
  generalize hW : WSt fb fo m w blk d q = W
  have HW := Lib.hid hW
  clear hW
  generalize hNN : d0.size = N at *
  have HNN := Lib.hid hNN
  clear hNN
  go_enter Tryz.func128, Tryz.ntmps128
  go_wp2_with fail
  go_loopw [10] (fun i wr => ∃ k q' : Nat, i = .int .i64 k ∧ k ≤ n ∧ Hid (wr = WSt fb fo m w blk (swpN a b k d) q')) (fun i _ => n - (intOf i).toNat)
  case atStart => exact ⟨0, q, rfl, Nat.zero_le _, HW.out.symm⟩
  case round =>
    obtain ⟨k, q', rfl, hk, hwr⟩ := hrel
    by_cases hlt : k < n
    · have hsz : (swpN a b k d).size = d0.size := by rw [swpN_size, HD.out, HNN.out]
      obtain ⟨x1, x2⟩ := WSt_cell HH.out hsz q' (a + k) (by rw [HNN.out]; omega)
      obtain ⟨y1, y2⟩ := WSt_cell HH.out hsz q' (b + k) (by rw [HNN.out]; omega)
      rw [← hwr.out] at x1 x2 y1 y2
      have HS : Hid (∀ q', ((WSt fb fo m w blk (swpN a b k d) q').setCell ⟨blk, a + k, none⟩ (.pointer (some ⟨fb, fo + 5 * ((swpN a b k d)[b + k]!).val, none⟩))).setCell ⟨blk, b + k, none⟩ (.pointer (some ⟨fb, fo + 5 * ((swpN a b k d)[a + k]!).val, none⟩)) = WSt fb fo m w blk (swpN a b (k + 1) d) q') := fun q' =>
        WSt_swp q' (a + k) (b + k) (by rw [hsz, HNN.out]; omega) (by rw [hsz, HNN.out]; omega)
      generalize fo + 5 * ((swpN a b k d)[a + k]!).val = X at *
      generalize fo + 5 * ((swpN a b k d)[b + k]!).val = Y at *
      generalize swpN a b k d = dk at *
      clear hsz
      have w1 : IntKind.i64.wrap ((a : Int) + (k : Int)) = (a : Int) + (k : Int) := IntWalk.i64_in _ (by omega)
      have w2 : IntKind.i64.wrap ((b : Int) + (k : Int)) = (b : Int) + (k : Int) := IntWalk.i64_in _ (by omega)
      have w3 : (0 : Int) ≤ (a : Int) + (k : Int) := by omega
      have w4 : (0 : Int) ≤ (b : Int) + (k : Int) := by omega
      have w5 : ((a : Int) + (k : Int)).toNat = a + k := by omega
      have w6 : ((b : Int) + (k : Int)).toNat = b + k := by omega
      have w7 : (a : Int) + (k : Int) < (N : Int) := by omega
      have w8 : (b : Int) + (k : Int) < (N : Int) := by omega
      generalize hak : a + k = ak at *
      generalize hbk : b + k = bk at *
      have HAK := Lib.hid hak
      have HBK := Lib.hid hbk
      clear hak hbk
      have mixed : Tryz.prog.follows .mixedOrders = true := by kernel_rfl
      go_wp2_with fail
      go_big_region_o
      go_wp2_with fail
      go_roundw
      case rel => exact ⟨k + 1, q' + 1, by go_num, by omega, Lib.hid (by rw [hwr.out]; exact (congrArg World.drew (HS.out q')).trans (WSt_drewN q' 1))⟩
      case measure => simp [intOf]; omega
    · obtain rfl : k = n := by omega
      go_wp2_with fail
      go_end0
      exact ⟨rfl, q', hwr.out⟩
end Go.Proofs.YtaniebkfgkhgoaaGreatDoor

namespace Go.Proofs.YtaniebkfgkhgoaaGreatDoor
open Go.RowKit Go.Sort
set_option linter.unusedVariables false
set_option maxRecDepth 100000

/-- rotate's promise. -/
def RotP {α : Type} [Inhabited α] (d D : Array α) (a m b : Nat) : Prop := D.size = d.size ∧ PermIn a b d D ∧ ∀ t, D[t]! = rotv d a m b t
/-- The state of rotate's loop. -/
def RotI {α : Type} [Inhabited α] (d dk : Array α) (a m b k1 k2 : Nat) : Prop := dk.size = d.size ∧ PermIn a b d dk ∧ 0 < k1 ∧ 0 < k2 ∧ a + k1 ≤ m ∧ m + k2 ≤ b ∧ ∀ t, rotv dk (m - k1) m (m + k2) t = rotv d a m b t
theorem rotI_start {α : Type} [Inhabited α] (d : Array α) {a m b : Nat} (h1 : a < m) (h2 : m < b) : RotI d d a m b (m - a) (b - m) :=
  ⟨rfl, permIn_refl _ _ _, by omega, by omega, by omega, by omega, fun t => by rw [show m - (m - a) = a by omega, show m + (b - m) = b by omega]⟩
theorem rotI_gt {α : Type} [Inhabited α] {d dk : Array α} {a m b k1 k2 : Nat} (hb : b ≤ d.size) (h : RotI d dk a m b k1 k2) (hlt : k2 < k1) : RotI d (swpN (m - k1) m k2 dk) a m b (k1 - k2) k2 := by
  obtain ⟨z, p, z1, z2, z3, z4, hr⟩ := h
  refine ⟨by rw [swpN_size, z], permIn_trans _ _ _ _ _ p (swpN_perm _ _ _ _ _ (by omega) _ (by omega) (by omega) (by omega) (by omega)), by omega, z2, by omega, z4, fun t => ?_⟩
  rw [← hr t]
  have := rotv_gt dk (m - k1) m (m + k2) t (by omega) (by omega) (by omega) (by omega)
  rw [show m + k2 - m = k2 by omega, show m - k1 + k2 = m - (k1 - k2) by omega] at this
  exact this
theorem rotI_lt {α : Type} [Inhabited α] {d dk : Array α} {a m b k1 k2 : Nat} (hb : b ≤ d.size) (h : RotI d dk a m b k1 k2) (hlt : k1 < k2) : RotI d (swpN (m - k1) (m - k1 + k2) k1 dk) a m b k1 (k2 - k1) := by
  obtain ⟨z, p, z1, z2, z3, z4, hr⟩ := h
  refine ⟨by rw [swpN_size, z], permIn_trans _ _ _ _ _ p (swpN_perm _ _ _ _ _ (by omega) _ (by omega) (by omega) (by omega) (by omega)), z1, by omega, z3, by omega, fun t => ?_⟩
  rw [← hr t]
  have := rotv_lt dk (m - k1) m (m + k2) t (by omega) (by omega) (by omega) (by omega)
  rw [show m + k2 - m = k2 by omega, show m - (m - k1) = k1 by omega, show m - k1 + k2 = m + (k2 - k1) by omega] at this
  rw [show m - k1 + k2 = m + (k2 - k1) by omega]
  exact this
theorem rotI_eq {α : Type} [Inhabited α] {d dk : Array α} {a m b k : Nat} (hb : b ≤ d.size) (h : RotI d dk a m b k k) : RotP d (swpN (m - k) m k dk) a m b := by
  obtain ⟨z, p, z1, z2, z3, z4, hr⟩ := h
  refine ⟨by rw [swpN_size, z], permIn_trans _ _ _ _ _ p (swpN_perm _ _ _ _ _ (by omega) _ (by omega) (by omega) (by omega) (by omega)), fun t => ?_⟩
  rw [← hr t]
  have := rotv_eq dk (m - k) m (m + k) t (by omega) (by omega) (by omega) (by omega)
  rw [show m - (m - k) = k by omega] at this
  exact this

set_option maxHeartbeats 4000000 in
theorem rot_any (fb fo m0 : Nat) (w : World) (blk cap : Nat) (d0 : Array (Fin (m0 + 1))) (hH : Holds (encF fb fo m0) w blk 0 d0) (hN : d0.size ≤ 1099511627776) (fv : Value) (a m b : Nat) (d : Array (Fin (m0 + 1))) (q : Nat) (hd : d.size = d0.size) (h1 : a < m) (h2 : m < b) (h3 : b ≤ d0.size) :
    Calls Tryz.prog 119 #[.slice (some ⟨blk, 0, none⟩) d0.size cap, .int .i64 a, .int .i64 m, .int .i64 b, fv] (WSt fb fo m0 w blk d q) fun e w' => e = .returned (.tuple #[]) ∧ ∃ D q', RotP d D a m b ∧ w' = WSt fb fo m0 w blk D q' := by
  have HST := Lib.hid (rotI_start d h1 h2)
  have HB : Hid (b ≤ d.size) := Lib.hid (by omega)
  have CS := Lib.hid (fun (wr : World) (x y n : Nat) (dk : Array (Fin (m0 + 1))) (q : Nat) (e : wr = WSt fb fo m0 w blk dk q) (hz : dk.size = d.size) (k1 : x + n ≤ y) (k2 : y + n ≤ d.size) => (show Calls Tryz.prog 128 #[.slice (some ⟨blk, 0, none⟩) d0.size cap, .int .i64 x, .int .i64 y, .int .i64 n, fv] wr _ from e ▸ swapR_any fb fo m0 w blk cap d0 hH hN fv x y n dk q (by omega) k1 (by omega)))
  have hbN : b ≤ 1099511627776 := by omega
  clear hH hd h3 hN
  generalize d0.size = N at CS ⊢
  generalize hW : WSt fb fo m0 w blk d q = W
  have HW := Lib.hid hW
  clear hW
  have w1 : IntKind.i64.wrap ((m : Int) - (a : Int)) = ((m - a : Nat) : Int) := by rw [IntWalk.i64_in _ (by omega)]; omega
  have w2 : IntKind.i64.wrap ((b : Int) - (m : Int)) = ((b - m : Nat) : Int) := by rw [IntWalk.i64_in _ (by omega)]; omega
  go_enter Tryz.func119, Tryz.ntmps119
  go_wp2_with fail
  go_loopw [10, 11] (fun i j wr => ∃ (k1 k2 q' : Nat) (dk : Array (Fin (m0 + 1))), i = .int .i64 k1 ∧ j = .int .i64 k2 ∧ RotI d dk a m b k1 k2 ∧ Hid (wr = WSt fb fo m0 w blk dk q')) (fun i j _ => (intOf i).toNat + (intOf j).toNat)
  case atStart => exact ⟨m - a, b - m, q, d, by go_num, by go_num, HST.out, Lib.hid HW.out.symm⟩
  case round =>
    obtain ⟨k1, k2, q', dk, rfl, rfl, hI, hwr⟩ := hrel
    obtain ⟨z, p, z1, z2, z3, z4, hr⟩ := id hI
    have HI := Lib.hid hI
    have HZ := Lib.hid z
    have v1 : IntKind.i64.wrap ((m : Int) - (k1 : Int)) = ((m - k1 : Nat) : Int) := by rw [IntWalk.i64_in _ (by omega)]; omega
    clear hI z p hr
    by_cases heq : k1 = k2
    · subst heq
      have CC := CS.out wr (m - k1) m k1 dk q' hwr.out HZ.out (by omega) (by have := HB.out; omega)
      generalize ((m - k1 : Nat) : Int) = l at v1 CC
      go_wp2_with (go_at_call 128; refine CC.mono ?_; rintro e w9 ⟨rfl, q9, h9⟩)
      go_end0
      exact ⟨rfl, _, q9, rotI_eq HB.out HI.out, rfl⟩
    · by_cases hlt : k2 < k1
      · have CC := CS.out wr (m - k1) m k2 dk q' hwr.out HZ.out (by omega) (by have := HB.out; omega)
        have v2 : IntKind.i64.wrap ((k1 : Int) - (k2 : Int)) = ((k1 - k2 : Nat) : Int) := by rw [IntWalk.i64_in _ (by omega)]; omega
        generalize ((m - k1 : Nat) : Int) = l at v1 CC
        go_wp2_with (go_at_call 128; refine CC.mono ?_; rintro e w9 ⟨rfl, q9, h9⟩; have H9 := Lib.hid h9; clear h9)
        go_roundw
        case rel => exact ⟨k1 - k2, k2, q9, _, by go_num, by go_num, rotI_gt HB.out HI.out hlt, Lib.hid H9.out⟩
        case measure => simp [intOf]; omega
      · have hlt' : k1 < k2 := by omega
        have v3 : IntKind.i64.wrap ((m : Int) + (k2 : Int)) = (m : Int) + (k2 : Int) := IntWalk.i64_in _ (by omega)
        have v4 : IntKind.i64.wrap ((m : Int) + (k2 : Int) - (k1 : Int)) = ((m - k1 + k2 : Nat) : Int) := by rw [IntWalk.i64_in _ (by omega)]; omega
        have v2 : IntKind.i64.wrap ((k2 : Int) - (k1 : Int)) = ((k2 - k1 : Nat) : Int) := by rw [IntWalk.i64_in _ (by omega)]; omega
        have CC := CS.out wr (m - k1) (m - k1 + k2) k1 dk q' hwr.out HZ.out (by omega) (by have := HB.out; omega)
        have hgz : ¬ (k2 : Int) < (k1 : Int) := by omega
        generalize ((m - k1 : Nat) : Int) = l at v1 CC
        generalize ((m - k1 + k2 : Nat) : Int) = r at v4 CC
        go_wp2_with (go_at_call 128; refine CC.mono ?_; rintro e w9 ⟨rfl, q9, h9⟩; have H9 := Lib.hid h9; clear h9)
        go_roundw
        case rel => exact ⟨k1, k2 - k1, q9, _, by go_num, by go_num, rotI_lt HB.out HI.out hlt', Lib.hid H9.out⟩
        case measure => simp [intOf]; omega
end Go.Proofs.YtaniebkfgkhgoaaGreatDoor

namespace Go.Proofs.YtaniebkfgkhgoaaGreatDoor
open Go.RowKit Go.Sort
set_option linter.unusedVariables false
set_option maxRecDepth 100000

/-- A search by halves: f is true on the left. -/
def BsS (f : Nat → Bool) (lo hi i j : Nat) : Prop := lo ≤ i ∧ i ≤ j ∧ j ≤ hi ∧ (∀ c, lo ≤ c → c < i → f c = true) ∧ (∀ c, j ≤ c → c < hi → f c = false)
theorem bs_start (f : Nat → Bool) {lo hi : Nat} (h : lo ≤ hi) : BsS f lo hi lo hi := ⟨Nat.le_refl _, h, Nat.le_refl _, fun c h1 h2 => by omega, fun c h1 h2 => by omega⟩
theorem bs_right {f : Nat → Bool} {lo hi i j : Nat} (hm : ∀ c c', lo ≤ c → c < c' → c' < hi → f c' = true → f c = true) (h : BsS f lo hi i j) (hij : i < j) (hf : f ((i + j) / 2) = true) : BsS f lo hi ((i + j) / 2 + 1) j := by
  obtain ⟨h1, h2, h3, h4, h5⟩ := h
  refine ⟨by omega, by omega, h3, fun c k1 k2 => ?_, h5⟩
  by_cases e : c = (i + j) / 2
  · rw [e]; exact hf
  · exact hm c _ k1 (by omega) (by omega) hf
theorem bs_left {f : Nat → Bool} {lo hi i j : Nat} (hm : ∀ c c', lo ≤ c → c < c' → c' < hi → f c' = true → f c = true) (h : BsS f lo hi i j) (hij : i < j) (hf : f ((i + j) / 2) = false) : BsS f lo hi i ((i + j) / 2) := by
  obtain ⟨h1, h2, h3, h4, h5⟩ := h
  refine ⟨h1, by omega, by omega, h4, fun c k1 k2 => ?_⟩
  by_cases e : c = (i + j) / 2
  · rw [e]; exact hf
  · cases hc : f c with
    | false => rfl
    | true => rw [hm _ c (by omega) (by omega) k2 hc] at hf; cases hf

/-- What a merge promises. -/
def SymP {α : Type} [Inhabited α] (L : α → α → Bool) (d D : Array α) (a b : Nat) : Prop := PermIn a b d D ∧ SortedIn L a b D
/-- What a merge asks: two sorted runs; the comparison asked of one of the right run and one of the left answers as L does. -/
def SymA {α : Type} [Inhabited α] (L : α → α → Bool) (cf : α → α → Int) (d : Array α) (a m b : Nat) : Prop :=
  SortedIn L a m d ∧ SortedIn L m b d ∧ b ≤ d.size ∧ ∀ p q, a ≤ p → p < m → m ≤ q → q < b → decide (cf d[q]! d[p]! < 0) = L d[q]! d[p]!

/-- The comparison in a world of the sort's. -/
def CmpW (fb fo m0 : Nat) (w : World) (blk N : Nat) (cf : Fin (m0 + 1) → Fin (m0 + 1) → Int) : Prop :=
  ∀ (wr : World) (dk : Array (Fin (m0 + 1))) (q : Nat) (x y : Fin (m0 + 1)), wr = WSt fb fo m0 w blk dk q → dk.size = N → ∀ n, Calls Tryz.prog 65 #[.pointer (some ⟨fb, fo + 5 * x.val, none⟩), .pointer (some ⟨fb, fo + 5 * y.val, none⟩)] (wr.drewN n) fun e w' => e = .returned (.int .i64 (cf x y)) ∧ ∃ k, w' = (wr.drewN n).drewN k

set_option maxHeartbeats 4000000 in
theorem sym1_any (fb fo m0 : Nat) (w : World) (blk cap : Nat) (d0 : Array (Fin (m0 + 1))) (hH : Holds (encF fb fo m0) w blk 0 d0) (hN : d0.size ≤ 1099511627776) (cf : Fin (m0 + 1) → Fin (m0 + 1) → Int) (hC : CmpW fb fo m0 w blk d0.size cf) (L : Fin (m0 + 1) → Fin (m0 + 1) → Bool) (hS : SWO L)
    (a b : Nat) (d : Array (Fin (m0 + 1))) (q : Nat) (hd : d.size = d0.size) (h2 : a + 1 < b) (hA : SymA L cf d a (a + 1) b) :
    Calls Tryz.prog 107 #[.slice (some ⟨blk, 0, none⟩) d0.size cap, .int .i64 a, .int .i64 ((a + 1 : Nat) : Int), .int .i64 b, .func (.func 65) #[] #[]] (WSt fb fo m0 w blk d q) fun e w' => e = .returned (.tuple #[]) ∧ ∃ D q', SymP L d D a b ∧ w' = WSt fb fo m0 w blk D q' := by
  have hb : b ≤ d0.size := by rw [← hd]; exact hA.2.2.1
  have HMON : Hid (∀ c c', a + 1 ≤ c → c < c' → c' < b → L d[c']! d[a]! = true → L d[c]! d[a]! = true) := Lib.hid fun c c' k1 k2 k3 k4 => by
    have k5 := hA.2.1 c c' k1 k2 k3
    cases e : L d[c]! d[a]! with
    | true => rfl
    | false => rw [hS.ntrans _ _ _ k5 e] at k4; cases k4
  have HCF : Hid (∀ c, a + 1 ≤ c → c < b → decide (cf d[c]! d[a]! < 0) = L d[c]! d[a]!) := Lib.hid fun c k1 k2 => hA.2.2.2 a c (Nat.le_refl _) (by omega) k1 k2
  have HFIN : Hid (∀ D i, a + 1 ≤ i → i ≤ b → MovR d D a i → PermIn a b d D → BsS (fun c => L d[c]! d[a]!) (a + 1) b i i → SymP L d D a b) := Lib.hid fun D i k1 k2 k3 k4 k5 => ⟨k4, movR_sorted hS k3 k1 k2 hA.2.1 k5.2.2.2.1 k5.2.2.2.2⟩
  have HH := Lib.hid hH
  have HC := Lib.hid hC
  have HD := Lib.hid hd
  have HST := Lib.hid (bs_start (fun c => L d[c]! d[a]!) (show a + 1 ≤ b by omega))
  have hbN : b ≤ 1099511627776 := by omega
  clear hH hd hA hN hC hS
  generalize hNN : d0.size = N at *
  have HNN := Lib.hid hNN
  clear hNN
  generalize hW : WSt fb fo m0 w blk d q = W
  have HW := Lib.hid hW
  clear hW
  have w1 : IntKind.i64.wrap (((a + 1 : Nat) : Int) - (a : Int)) = 1 := by rw [IntWalk.i64_in _ (by omega)]; omega
  generalize hma : ((a + 1 : Nat) : Int) = mz at *
  have HMA := Lib.hid hma
  clear hma
  go_enter Tryz.func107, Tryz.ntmps107
  go_wp2_with fail
  go_loopw [10, 11] (fun i j wr => ∃ (k1 k2 q' : Nat), i = .int .i64 k1 ∧ j = .int .i64 k2 ∧ BsS (fun c => L d[c]! d[a]!) (a + 1) b k1 k2 ∧ Hid (wr = WSt fb fo m0 w blk d q')) (fun i j _ => (intOf j).toNat - (intOf i).toNat)
  case atStart => exact ⟨a + 1, b, q, by rw [← HMA.out], by go_num, HST.out, Lib.hid HW.out.symm⟩
  case round =>
    obtain ⟨k1, k2, q', rfl, rfl, hI, hwr⟩ := hrel
    have HI := Lib.hid hI
    obtain ⟨z1, z2, z3, -, -⟩ := hI
    by_cases hlt : k1 < k2
    · have hltz : (k1 : Int) < (k2 : Int) := by omega
      have u1 : IntKind.i64.wrap ((k1 : Int) + (k2 : Int)) = (k1 : Int) + (k2 : Int) := IntWalk.i64_in _ (by omega)
      have u2 : IntKind.u64.wrap ((k1 : Int) + (k2 : Int)) = (k1 : Int) + (k2 : Int) := IntWalk.u64_in _ (by omega)
      obtain ⟨h, hh⟩ : ∃ h, h = (k1 + k2) / 2 := ⟨_, rfl⟩
      go_wp2_with fail
      generalize hq : ((k1 : Int) + (k2 : Int)) / 2 = hz
      obtain rfl : hz = (h : Int) := by omega
      clear hq
      have u4 : IntKind.i64.wrap (h : Int) = (h : Int) := IntWalk.i64_in _ (by omega)
      have u5 : IntKind.i64.wrap ((h : Int) + 1) = (h : Int) + 1 := IntWalk.i64_in _ (by omega)
      have hhN : (h : Int) < (N : Int) := by omega
      have haN : (a : Int) < (N : Int) := by omega
      obtain ⟨x1, x2⟩ := WSt_cell HH.out (HD.out.trans HNN.out.symm) q' h (by rw [HNN.out]; omega)
      obtain ⟨y1, y2⟩ := WSt_cell HH.out (HD.out.trans HNN.out.symm) q' a (by rw [HNN.out]; omega)
      rw [← hwr.out] at x1 x2 y1 y2
      have CC := HC.out wr d q' d[h]! d[a]! hwr.out HD.out
      have HR : Hid (cf d[h]! d[a]! < 0 → BsS (fun c => L d[c]! d[a]!) (a + 1) b (h + 1) k2) := Lib.hid fun e => by
        subst hh; exact bs_right HMON.out HI.out hlt (by show L d[(k1 + k2) / 2]! d[a]! = true; rw [← HCF.out _ (by omega) (by omega)]; exact decide_eq_true e)
      have HLL : Hid (¬ cf d[h]! d[a]! < 0 → BsS (fun c => L d[c]! d[a]!) (a + 1) b k1 h) := Lib.hid fun e => by
        subst hh; exact bs_left HMON.out HI.out hlt (by show L d[(k1 + k2) / 2]! d[a]! = false; rw [← HCF.out _ (by omega) (by omega)]; exact decide_eq_false e)
      have HRD := Lib.hid hh
      clear hh
      generalize fo + 5 * (d[h]!).val = X at x1 CC
      generalize fo + 5 * (d[a]!).val = Y at y1 CC
      generalize cf d[h]! d[a]! = cv at CC HR HLL
      by_cases hcv : cv < 0
      · go_quiet ((go_at_call 65; refine Calls.quiet_of (CC _)))
        go_wp2_with fail
        go_roundw
        case rel => exact ⟨h + 1, k2, q' + nq, by go_num, rfl, HR.out hcv, Lib.hid (by rw [hwr.out]; exact WSt_drewN q' nq)⟩
        case measure => have := HRD.out; simp [intOf]; omega
      · go_quiet ((go_at_call 65; refine Calls.quiet_of (CC _)))
        go_wp2_with fail
        go_roundw
        case rel => exact ⟨k1, h, q' + nq, rfl, by go_num, HLL.out hcv, Lib.hid (by rw [hwr.out]; exact WSt_drewN q' nq)⟩
        case measure => have := HRD.out; simp [intOf]; omega
    · obtain rfl : k1 = k2 := by omega
      obtain ⟨p, rfl⟩ : ∃ p, k1 = p + 1 := ⟨k1 - 1, by omega⟩
      go_wp2_with fail
      go_loopw [13] (fun v wr => ∃ (k q' : Nat) (dk : Array (Fin (m0 + 1))), v = .int .i64 k ∧ a ≤ k ∧ k ≤ p ∧ Hid (dk.size = N) ∧ Hid (MovR d dk a (k + 1)) ∧ Hid (PermIn a b d dk) ∧ Hid (wr = WSt fb fo m0 w blk dk q')) (fun v _ => p - (intOf v).toNat)
      case atStart => exact ⟨a, q', d, by go_num, Nat.le_refl _, by omega, HD, Lib.hid (movR_start d a), Lib.hid (permIn_refl _ _ _), hwr⟩
      case round =>
        obtain ⟨k, q2, dk, rfl, y1', y2', HZ, HM, HP, HV⟩ := hrel
        by_cases hk : k < p
        · have hkz : (k : Int) < (p : Int) := by omega
          have kN : (k : Int) < (N : Int) := by omega
          have kN1 : (k : Int) + 1 < (N : Int) := by omega
          have v1 : IntKind.i64.wrap ((k : Int) + 1) = (k : Int) + 1 := IntWalk.i64_in _ (by omega)
          have v3 : (0 : Int) ≤ (k : Int) + 1 := by omega
          have v5 : ((k : Int) + 1).toNat = k + 1 := by omega
          obtain ⟨x1, x2⟩ := WSt_cell HH.out (HZ.out.trans HNN.out.symm) q2 k (by rw [HNN.out]; omega)
          obtain ⟨y1, y2⟩ := WSt_cell HH.out (HZ.out.trans HNN.out.symm) q2 (k + 1) (by rw [HNN.out]; omega)
          rw [← HV.out] at x1 x2 y1 y2
          have HS2 : Hid (∀ q', ((WSt fb fo m0 w blk dk q').setCell ⟨blk, k, none⟩ (.pointer (some ⟨fb, fo + 5 * (dk[k + 1]!).val, none⟩))).setCell ⟨blk, k + 1, none⟩ (.pointer (some ⟨fb, fo + 5 * (dk[k]!).val, none⟩)) = WSt fb fo m0 w blk (swp dk k (k + 1)) q') := fun q' =>
            WSt_swp q' k (k + 1) (by rw [HZ.out]; omega) (by rw [HZ.out]; omega)
          have HM2 : Hid (MovR d (swp dk k (k + 1)) a (k + 2)) := Lib.hid (movR_step HM.out (by rw [HD.out]; omega) y1')
          have HP2 : Hid (PermIn a b d (swp dk k (k + 1))) := Lib.hid (permIn_trans _ _ _ _ _ HP.out (swp_permIn dk a b k (k + 1) (by omega) (by omega) (by omega) (by omega) (by rw [HZ.out]; exact hb)))
          have HZ2 : Hid ((swp dk k (k + 1)).size = N) := Lib.hid (by rw [swp_size]; exact HZ.out)
          generalize fo + 5 * (dk[k]!).val = X at *
          generalize fo + 5 * (dk[k + 1]!).val = Y at *
          generalize swp dk k (k + 1) = dk2 at *
          generalize hk1 : k + 1 = kk at *
          have HKK := Lib.hid hk1
          clear hk1
          have mixed : Tryz.prog.follows .mixedOrders = true := by kernel_rfl
          go_wp2_with fail
          go_big_region_o
          go_wp2_with fail
          go_roundw
          case rel => exact ⟨k + 1, q2 + 1, dk2, by go_num, by omega, by omega, HZ2, HM2, HP2, Lib.hid (by rw [HV.out]; exact (congrArg World.drew (HS2.out q2)).trans (WSt_drewN q2 1))⟩
          case measure => simp [intOf]; omega
        · obtain rfl : k = p := by omega
          have hkz : ¬ (k : Int) < (k : Int) := by omega
          go_wp2_with fail
          refine bodyPost_ret (results_none rfl _ _ _) rfl ?_
          exact ⟨rfl, dk, HFIN.out dk (k + 1) z1 z3 HM.out HP.out HI.out, q2, HV.out⟩
end Go.Proofs.YtaniebkfgkhgoaaGreatDoor

namespace Go.Proofs.YtaniebkfgkhgoaaGreatDoor
open Go.RowKit Go.Sort
set_option linter.unusedVariables false
set_option maxRecDepth 100000

set_option maxHeartbeats 4000000 in
theorem sym2_any (fb fo m0 : Nat) (w : World) (blk cap : Nat) (d0 : Array (Fin (m0 + 1))) (hH : Holds (encF fb fo m0) w blk 0 d0) (hN : d0.size ≤ 1099511627776) (cf : Fin (m0 + 1) → Fin (m0 + 1) → Int) (hC : CmpW fb fo m0 w blk d0.size cf) (L : Fin (m0 + 1) → Fin (m0 + 1) → Bool) (hS : SWO L)
    (a m : Nat) (d : Array (Fin (m0 + 1))) (q : Nat) (hd : d.size = d0.size) (h2 : a + 1 < m) (hA : SymA L cf d a m (m + 1)) :
    Calls Tryz.prog 107 #[.slice (some ⟨blk, 0, none⟩) d0.size cap, .int .i64 a, .int .i64 m, .int .i64 ((m + 1 : Nat) : Int), .func (.func 65) #[] #[]] (WSt fb fo m0 w blk d q) fun e w' => e = .returned (.tuple #[]) ∧ ∃ D q', SymP L d D a (m + 1) ∧ w' = WSt fb fo m0 w blk D q' := by
  have hb : m + 1 ≤ d0.size := by rw [← hd]; exact hA.2.2.1
  have HMON : Hid (∀ c c', a ≤ c → c < c' → c' < m → (!L d[m]! d[c']!) = true → (!L d[m]! d[c]!) = true) := Lib.hid fun c c' k1 k2 k3 k4 => by
    have k5 := hA.1 c c' k1 k2 k3
    rw [Bool.not_eq_true'] at k4 ⊢
    exact hS.ntrans _ _ _ k4 k5
  have HCF : Hid (∀ c, a ≤ c → c < m → decide (cf d[m]! d[c]! < 0) = L d[m]! d[c]!) := Lib.hid fun c k1 k2 => hA.2.2.2 c m k1 k2 (Nat.le_refl _) (by omega)
  have HFIN : Hid (∀ D i, a ≤ i → i ≤ m → MovL d D i m → PermIn a (m + 1) d D → BsS (fun c => !L d[m]! d[c]!) a m i i → SymP L d D a (m + 1)) := Lib.hid fun D i k1 k2 k3 k4 k5 =>
    ⟨k4, movL_sorted hS k3 k1 k2 hA.1 (fun c x1 x2 => by have := k5.2.2.2.1 c x1 x2; rw [Bool.not_eq_true'] at this; exact this) (fun c x1 x2 => by have := k5.2.2.2.2 c x1 x2; rw [Bool.not_eq_false'] at this; exact this)⟩
  have HH := Lib.hid hH
  have HC := Lib.hid hC
  have HD := Lib.hid hd
  have HST := Lib.hid (bs_start (fun c => !L d[m]! d[c]!) (show a ≤ m by omega))
  have hbN : m + 1 ≤ 1099511627776 := by omega
  clear hH hd hA hN hC hS
  generalize hNN : d0.size = N at *
  have HNN := Lib.hid hNN
  clear hNN
  generalize hW : WSt fb fo m0 w blk d q = W
  have HW := Lib.hid hW
  clear hW
  obtain ⟨z0, w1, hz0⟩ : ∃ z : Int, IntKind.i64.wrap ((m : Int) - (a : Int)) = z ∧ ¬ z = 1 := ⟨(m : Int) - a, IntWalk.i64_in _ (by omega), by omega⟩
  have w2 : IntKind.i64.wrap (((m + 1 : Nat) : Int) - (m : Int)) = 1 := by rw [IntWalk.i64_in _ (by omega)]; omega
  generalize hma : ((m + 1 : Nat) : Int) = bz at *
  have HMA := Lib.hid hma
  clear hma
  have hmN : (m : Int) < (N : Int) := by omega
  go_enter Tryz.func107, Tryz.ntmps107
  go_wp2_with fail
  go_loopw [14, 15] (fun i j wr => ∃ (k1 k2 q' : Nat), i = .int .i64 k1 ∧ j = .int .i64 k2 ∧ BsS (fun c => !L d[m]! d[c]!) a m k1 k2 ∧ Hid (wr = WSt fb fo m0 w blk d q')) (fun i j _ => (intOf j).toNat - (intOf i).toNat)
  case atStart => exact ⟨a, m, q, rfl, rfl, HST.out, Lib.hid HW.out.symm⟩
  case round =>
    obtain ⟨k1, k2, q', rfl, rfl, hI, hwr⟩ := hrel
    have HI := Lib.hid hI
    obtain ⟨z1, z2, z3, -, -⟩ := hI
    by_cases hlt : k1 < k2
    · have hltz : (k1 : Int) < (k2 : Int) := by omega
      have u1 : IntKind.i64.wrap ((k1 : Int) + (k2 : Int)) = (k1 : Int) + (k2 : Int) := IntWalk.i64_in _ (by omega)
      have u2 : IntKind.u64.wrap ((k1 : Int) + (k2 : Int)) = (k1 : Int) + (k2 : Int) := IntWalk.u64_in _ (by omega)
      obtain ⟨h, hh⟩ : ∃ h, h = (k1 + k2) / 2 := ⟨_, rfl⟩
      go_wp2_with fail
      generalize hq : ((k1 : Int) + (k2 : Int)) / 2 = hz
      obtain rfl : hz = (h : Int) := by omega
      clear hq
      have u4 : IntKind.i64.wrap (h : Int) = (h : Int) := IntWalk.i64_in _ (by omega)
      have u5 : IntKind.i64.wrap ((h : Int) + 1) = (h : Int) + 1 := IntWalk.i64_in _ (by omega)
      have hhN : (h : Int) < (N : Int) := by omega
      obtain ⟨x1, x2⟩ := WSt_cell HH.out (HD.out.trans HNN.out.symm) q' h (by rw [HNN.out]; omega)
      obtain ⟨y1, y2⟩ := WSt_cell HH.out (HD.out.trans HNN.out.symm) q' m (by rw [HNN.out]; omega)
      rw [← hwr.out] at x1 x2 y1 y2
      have CC := HC.out wr d q' d[m]! d[h]! hwr.out HD.out
      have HR : Hid (¬ cf d[m]! d[h]! < 0 → BsS (fun c => !L d[m]! d[c]!) a m (h + 1) k2) := Lib.hid fun e => by
        subst hh; exact bs_right HMON.out HI.out hlt (by show (!L d[m]! d[(k1 + k2) / 2]!) = true; rw [← HCF.out _ (by omega) (by omega), decide_eq_false e]; rfl)
      have HLL : Hid (cf d[m]! d[h]! < 0 → BsS (fun c => !L d[m]! d[c]!) a m k1 h) := Lib.hid fun e => by
        subst hh; exact bs_left HMON.out HI.out hlt (by show (!L d[m]! d[(k1 + k2) / 2]!) = false; rw [← HCF.out _ (by omega) (by omega), decide_eq_true e]; rfl)
      have HRD := Lib.hid hh
      clear hh
      generalize fo + 5 * (d[h]!).val = X at x1 CC
      generalize fo + 5 * (d[m]!).val = Y at y1 CC
      generalize cf d[m]! d[h]! = cv at CC HR HLL
      by_cases hcv : cv < 0
      · go_quiet ((go_at_call 65; refine Calls.quiet_of (CC _)))
        go_wp2_with fail
        go_roundw
        case rel => exact ⟨k1, h, q' + nq, rfl, by go_num, HLL.out hcv, Lib.hid (by rw [hwr.out]; exact WSt_drewN q' nq)⟩
        case measure => have := HRD.out; simp [intOf]; omega
      · go_quiet ((go_at_call 65; refine Calls.quiet_of (CC _)))
        go_wp2_with fail
        go_roundw
        case rel => exact ⟨h + 1, k2, q' + nq, by go_num, rfl, HR.out hcv, Lib.hid (by rw [hwr.out]; exact WSt_drewN q' nq)⟩
        case measure => have := HRD.out; simp [intOf]; omega
    · obtain rfl : k1 = k2 := by omega
      go_wp2_with fail
      go_loopw [17] (fun v wr => ∃ (k q' : Nat) (dk : Array (Fin (m0 + 1))), v = .int .i64 k ∧ k1 ≤ k ∧ k ≤ m ∧ Hid (dk.size = N) ∧ Hid (MovL d dk k m) ∧ Hid (PermIn a (m + 1) d dk) ∧ Hid (wr = WSt fb fo m0 w blk dk q')) (fun v _ => (intOf v).toNat)
      case atStart => exact ⟨m, q', d, rfl, by omega, Nat.le_refl _, HD, Lib.hid (movL_start d m), Lib.hid (permIn_refl _ _ _), hwr⟩
      case round =>
        obtain ⟨k, q2, dk, rfl, y1', y2', HZ, HM, HP, HV⟩ := hrel
        by_cases hk : k1 < k
        · obtain ⟨kp, rfl⟩ : ∃ kp, k = kp + 1 := ⟨k - 1, by omega⟩
          have HPE : Hid (PermIn a (m + 1) d (swp dk (kp + 1) kp)) := Lib.hid (permIn_trans _ _ _ _ _ HP.out (swp_permIn dk a (m + 1) (kp + 1) kp (by omega) (by omega) (by omega) (by omega) (by rw [HZ.out]; exact hb)))
          have HM2 : Hid (MovL d (swp dk (kp + 1) kp) kp m) := Lib.hid (movL_step HM.out y2' (by rw [HD.out]; omega))
          have HS2 : Hid (∀ q', ((WSt fb fo m0 w blk dk q').setCell ⟨blk, kp + 1, none⟩ (.pointer (some ⟨fb, fo + 5 * (dk[kp]!).val, none⟩))).setCell ⟨blk, kp, none⟩ (.pointer (some ⟨fb, fo + 5 * (dk[kp + 1]!).val, none⟩)) = WSt fb fo m0 w blk (swp dk (kp + 1) kp) q') := fun q' =>
            WSt_swp q' (kp + 1) kp (by rw [HZ.out]; omega) (by rw [HZ.out]; omega)
          have HZ2 : Hid ((swp dk (kp + 1) kp).size = N) := Lib.hid (by rw [swp_size]; exact HZ.out)
          obtain ⟨x1, x2⟩ := WSt_cell HH.out (HZ.out.trans HNN.out.symm) q2 kp (by rw [HNN.out]; omega)
          obtain ⟨y1, y2⟩ := WSt_cell HH.out (HZ.out.trans HNN.out.symm) q2 (kp + 1) (by rw [HNN.out]; omega)
          rw [← HV.out] at x1 x2 y1 y2
          generalize fo + 5 * (dk[kp]!).val = X at *
          generalize fo + 5 * (dk[kp + 1]!).val = Y at *
          generalize swp dk (kp + 1) kp = dk2 at *
          have hkz : (k1 : Int) < ((kp + 1 : Nat) : Int) := by omega
          have kN : (kp : Int) < (N : Int) := by omega
          have kN1 : ((kp + 1 : Nat) : Int) < (N : Int) := by omega
          have v1 : IntKind.i64.wrap (((kp + 1 : Nat) : Int) - 1) = (kp : Int) := by rw [IntWalk.i64_in _ (by omega)]; omega
          have e1 : kp ≠ kp + 1 := by omega
          have e2 : kp + 1 ≠ kp := by omega
          generalize hk1 : kp + 1 = kk at *
          have HKK := Lib.hid hk1
          clear hk1
          have mixed : Tryz.prog.follows .mixedOrders = true := by kernel_rfl
          go_wp2_with fail
          go_big_region_o
          go_wp2_with fail
          go_roundw
          case rel => exact ⟨kp, q2 + 1, dk2, by go_num, by have := HKK.out; omega, by have := HKK.out; omega, HZ2, HM2, HPE, Lib.hid (by rw [HV.out]; exact (congrArg World.drew (HS2.out q2)).trans (WSt_drewN q2 1))⟩
          case measure => have := HKK.out; simp [intOf]; omega
        · obtain rfl : k1 = k := by omega
          have hkz : ¬ (k1 : Int) < (k1 : Int) := by omega
          go_wp2_with fail
          refine bodyPost_ret (results_none rfl _ _ _) rfl ?_
          exact ⟨rfl, dk, HFIN.out dk k1 z1 z3 HM.out HP.out HI.out, q2, HV.out⟩
end Go.Proofs.YtaniebkfgkhgoaaGreatDoor

namespace Go.Proofs.YtaniebkfgkhgoaaGreatDoor
open Go.RowKit Go.Sort
set_option linter.unusedVariables false
set_option maxRecDepth 100000

section
variable {α : Type} [Inhabited α] {L : α → α → Bool}
theorem sortedIn_of {d d' : Array α} {a b : Nat} (h : SortedIn L a b d) (he : ∀ t, a ≤ t → t < b → d'[t]! = d[t]!) : SortedIn L a b d' := fun p q h1 h2 h3 => by
  rw [he p h1 (by omega), he q (by omega) h3]; exact h p q h1 h2 h3
/-- What stands behind the search and the rotation, for the two calls. -/
theorem sym3_all (hS : SWO L) {cf : α → α → Int} {d D : Array α} {a m b s mid e s0 r0 : Nat} (ha : a < m) (hb : m < b) (hmid : mid = (a + b) / 2) (he : e + s = mid + m) (hA : SymA L cf d a m b) (hDs : D.size = d.size) (hDp : PermIn a b d D) (hD : ∀ t, D[t]! = rotv d s m e t)
    (hst : (s0 = a ∧ r0 = m ∧ m ≤ mid) ∨ (s0 + b = mid + m ∧ r0 = mid ∧ mid < m)) (hB : BsS (fun c => !L d[mid + m - 1 - c]! d[c]!) s0 r0 s s) :
    (a < s → s < mid → SymA L cf D a s mid) ∧ (¬(a < s ∧ s < mid) → SymP L D D a mid) ∧
    (∀ D1, SymP L D D1 a mid → (mid < e → e < b → SymA L cf D1 mid e b) ∧ (¬(mid < e ∧ e < b) → SymP L D1 D1 mid b)) ∧
    (∀ D1 D2, SymP L D D1 a mid → SymP L D1 D2 mid b → SymP L d D2 a b) := by
  obtain ⟨b1, b2, b3, b4, b5⟩ := hB
  obtain ⟨A1, A2, A3, A4⟩ := hA
  have hsm : s ≤ m := by omega
  have hsd : s ≤ mid := by omega
  have has : a ≤ s := by omega
  have heb : e ≤ b := by omega
  have g1 : ∀ t, t < s → D[t]! = d[t]! := fun t ht => by rw [hD]; unfold rotv; rw [if_pos ht]
  have g2 : ∀ t, s ≤ t → t < mid → D[t]! = d[t - s + m]! := fun t h1 h2 => by rw [hD]; unfold rotv; rw [if_neg (by omega), if_pos (by omega)]
  have g3 : ∀ t, mid ≤ t → t < e → D[t]! = d[t - (e - m)]! := fun t h1 h2 => by rw [hD]; unfold rotv; rw [if_neg (by omega), if_neg (by omega), if_pos h2]
  have g4 : ∀ t, e ≤ t → D[t]! = d[t]! := fun t h1 => by rw [hD]; unfold rotv; rw [if_neg (by omega), if_neg (by omega), if_neg (by omega)]
  obtain ⟨k1, k2, k3, k4, k5⟩ := sym_glue hS ha hb hmid he hsm hsd (by omega) (by omega) has heb A1 A2 hD b1 b3 (by omega : (s0 = a ∧ r0 = m) ∨ (s0 + b = mid + m ∧ r0 = mid))
    (fun c x1 x2 => by have := b4 c x1 x2; rw [Bool.not_eq_true'] at this; exact this) (fun c x1 x2 => by have := b5 c x1 x2; rw [Bool.not_eq_false'] at this; exact this)
  refine ⟨fun x1 x2 => ⟨k1, k2, by omega, fun p q y1 y2 y3 y4 => ?_⟩, fun x => ⟨permIn_refl _ _ _, ?_⟩, fun D1 hp => ⟨fun x1 x2 => ⟨?_, ?_, ?_, fun p q y1 y2 y3 y4 => ?_⟩, fun x => ⟨permIn_refl _ _ _, ?_⟩⟩, fun D1 D2 hp1 hp2 => ?_⟩
  · rw [g1 p y2, g2 q y3 y4]; exact A4 p _ y1 (by omega) (by omega) (by omega)
  · by_cases c : s = a
    · subst c; exact k2
    · obtain rfl : s = mid := by omega
      exact k1
  · exact sortedIn_of k3 fun t z1 z2 => hp.1.2.1 t (.inr z1)
  · exact sortedIn_of k4 fun t z1 z2 => hp.1.2.1 t (.inr (by omega))
  · rw [hp.1.1]; omega
  · rw [hp.1.2.1 p (.inr y1), hp.1.2.1 q (.inr (by omega)), g3 p y1 y2, g4 q y3]; exact A4 _ _ (by omega) (by omega) (by omega) (by omega)
  · by_cases c : e = mid
    · subst c; exact sortedIn_of k4 fun t z1 z2 => hp.1.2.1 t (.inr z1)
    · obtain rfl : e = b := by omega
      exact sortedIn_of k3 fun t z1 z2 => hp.1.2.1 t (.inr z1)
  · obtain ⟨z1, z2⟩ := sym_end hS (by omega : b ≤ D.size) (by omega : a ≤ mid) (by omega : mid ≤ b) hp1.1 hp2.1 hp1.2 hp2.2 k5
    exact ⟨permIn_trans _ _ _ _ _ hDp z1, z2⟩
end

set_option maxHeartbeats 4000000 in
theorem sym3_any (fb fo m0 : Nat) (w : World) (blk cap : Nat) (d0 : Array (Fin (m0 + 1))) (hH : Holds (encF fb fo m0) w blk 0 d0) (hN : d0.size ≤ 1099511627776) (cf : Fin (m0 + 1) → Fin (m0 + 1) → Int) (hC : CmpW fb fo m0 w blk d0.size cf) (L : Fin (m0 + 1) → Fin (m0 + 1) → Bool) (hS : SWO L)
    (a m b : Nat) (d : Array (Fin (m0 + 1))) (q : Nat) (hd : d.size = d0.size) (h1 : a + 2 ≤ m) (h2 : m + 2 ≤ b) (hA : SymA L cf d a m b)
    (hrec : ∀ (a' m' b' : Nat) (d' : Array (Fin (m0 + 1))) (q' : Nat) (wr : World), wr = WSt fb fo m0 w blk d' q' → d'.size = d0.size → a' < m' → m' < b' → b' - a' < b - a → SymA L cf d' a' m' b' →
      Calls Tryz.prog 107 #[.slice (some ⟨blk, 0, none⟩) d0.size cap, .int .i64 a', .int .i64 m', .int .i64 b', .func (.func 65) #[] #[]] wr fun e w' => e = .returned (.tuple #[]) ∧ ∃ D q', SymP L d' D a' b' ∧ w' = WSt fb fo m0 w blk D q') :
    Calls Tryz.prog 107 #[.slice (some ⟨blk, 0, none⟩) d0.size cap, .int .i64 a, .int .i64 m, .int .i64 b, .func (.func 65) #[] #[]] (WSt fb fo m0 w blk d q) fun e w' => e = .returned (.tuple #[]) ∧ ∃ D q', SymP L d D a b ∧ w' = WSt fb fo m0 w blk D q' := by
  have hb : b ≤ d0.size := by rw [← hd]; exact hA.2.2.1
  obtain ⟨mid, hmid⟩ : ∃ mid, mid = (a + b) / 2 := ⟨_, rfl⟩
  obtain ⟨s0, r0, hst⟩ : ∃ s0 r0, (s0 = a ∧ r0 = m ∧ m ≤ mid) ∨ (s0 + b = mid + m ∧ r0 = mid ∧ mid < m) := by
    by_cases c : m ≤ mid
    · exact ⟨a, m, .inl ⟨rfl, rfl, c⟩⟩
    · exact ⟨mid + m - b, mid, .inr ⟨by omega, rfl, by omega⟩⟩
  have HMON : Hid (∀ c c', s0 ≤ c → c < c' → c' < r0 → (!L d[mid + m - 1 - c']! d[c']!) = true → (!L d[mid + m - 1 - c]! d[c]!) = true) := Lib.hid fun c c' k1 k2 k3 k4 => by
    rw [Bool.not_eq_true'] at k4 ⊢
    have k5 := hA.1 c c' (by omega) k2 (by omega)
    have k6 := hA.2.1 (mid + m - 1 - c') (mid + m - 1 - c) (by omega) (by omega) (by omega)
    exact hS.ntrans _ _ _ k6 (hS.ntrans _ _ _ k4 k5)
  have HCF : Hid (∀ c, s0 ≤ c → c < r0 → decide (cf d[mid + m - 1 - c]! d[c]! < 0) = L d[mid + m - 1 - c]! d[c]!) := Lib.hid fun c k1 k2 => hA.2.2.2 c (mid + m - 1 - c) (by omega) (by omega) (by omega) (by omega)
  have HALL := Lib.hid (fun (D : Array (Fin (m0 + 1))) (s e : Nat) (he : e + s = mid + m) (hDs : D.size = d.size) (hDp : PermIn a b d D) (hD : ∀ t, D[t]! = rotv d s m e t) (hB : BsS (fun c => !L d[mid + m - 1 - c]! d[c]!) s0 r0 s s) => sym3_all hS (by omega) (by omega) hmid he hA hDs hDp hD hst hB)
  have HROT := Lib.hid (fun (s e q' : Nat) (wr : World) (e' : wr = WSt fb fo m0 w blk d q') (k1 : s < m) (k2 : m < e) (k3 : e ≤ d0.size) => (show Calls Tryz.prog 119 #[.slice (some ⟨blk, 0, none⟩) d0.size cap, .int .i64 s, .int .i64 m, .int .i64 e, .func (.func 65) #[] #[]] wr _ from e' ▸ rot_any fb fo m0 w blk cap d0 hH hN (.func (.func 65) #[] #[]) s m e d q' hd k1 k2 k3))
  have HREC := Lib.hid hrec
  have HH := Lib.hid hH
  have HC := Lib.hid hC
  have HD := Lib.hid hd
  have HST := Lib.hid (bs_start (fun c => !L d[mid + m - 1 - c]! d[c]!) (show s0 ≤ r0 by omega))
  have hbN : b ≤ 1099511627776 := by omega
  clear hH hd hA hN hC hS hrec
  generalize hNN : d0.size = N at *
  have HNN := Lib.hid hNN
  clear hNN
  generalize hW : WSt fb fo m0 w blk d q = W
  have HW := Lib.hid hW
  clear hW
  obtain ⟨z0, w1, hz0⟩ : ∃ z : Int, IntKind.i64.wrap ((m : Int) - (a : Int)) = z ∧ ¬ z = 1 := ⟨(m : Int) - a, IntWalk.i64_in _ (by omega), by omega⟩
  obtain ⟨z1, w2, hz1⟩ : ∃ z : Int, IntKind.i64.wrap ((b : Int) - (m : Int)) = z ∧ ¬ z = 1 := ⟨(b : Int) - m, IntWalk.i64_in _ (by omega), by omega⟩
  have v1 : IntKind.i64.wrap ((a : Int) + (b : Int)) = (a : Int) + (b : Int) := IntWalk.i64_in _ (by omega)
  have v2 : IntKind.u64.wrap ((a : Int) + (b : Int)) = (a : Int) + (b : Int) := IntWalk.u64_in _ (by omega)
  have HMID := Lib.hid hmid
  have HSR := Lib.hid hst
  go_enter Tryz.func107, Tryz.ntmps107
  by_cases hmm : m ≤ mid
  · obtain ⟨hs0, hr0⟩ : s0 = a ∧ r0 = m := by omega
    have hcase : ¬ ((a : Int) + (b : Int)) / 2 < (m : Int) := by omega
    go_wp2_with fail
    generalize hq : ((a : Int) + (b : Int)) / 2 = mz
    obtain rfl : mz = (mid : Int) := by omega
    clear hq
    generalize hq : (mid : Int) + (m : Int) - 1 = pz
    obtain ⟨p, rfl, hp⟩ : ∃ p : Nat, pz = (p : Int) ∧ p = mid + m - 1 := ⟨mid + m - 1, by omega, rfl⟩
    clear hq
    generalize hq : (mid : Int) + (m : Int) = nz
    obtain ⟨n, rfl, hn⟩ : ∃ n : Nat, nz = (n : Int) ∧ n = mid + m := ⟨mid + m, by omega, rfl⟩
    clear hq hcase
    have hnb : n ≤ 4398046511104 := by omega
    have HN := Lib.hid hn
    clear hn
    subst hp
    have HBD : Hid (a ≤ s0 ∧ s0 ≤ mid ∧ s0 ≤ m ∧ r0 ≤ m ∧ r0 ≤ mid ∧ s0 + b ≥ mid + m ∧ mid < b ∧ a < mid) := Lib.hid (by omega)
    clear hst hmid
    generalize hpp : mid + m - 1 = p at *
    have HPP := Lib.hid hpp
    clear hpp
    go_loopw [20, 21] (fun i j wr => ∃ (k1 k2 q' : Nat), i = .int .i64 k1 ∧ j = .int .i64 k2 ∧ BsS (fun c => !L d[p - c]! d[c]!) s0 r0 k1 k2 ∧ Hid (wr = WSt fb fo m0 w blk d q')) (fun i j _ => (intOf j).toNat - (intOf i).toNat)
    case atStart => exact ⟨s0, r0, q, by rw [hs0], by rw [hr0], HST.out, Lib.hid HW.out.symm⟩
    case round =>
      obtain ⟨k1, k2, q', rfl, rfl, hI, hwr⟩ := hrel
      have HI := Lib.hid hI
      obtain ⟨y1, y2, y3, -, -⟩ := hI
      obtain ⟨n1, n2, n3, n4, n5, n6, n7, n8⟩ := HBD.out
      have n9 := HPP.out
      by_cases hlt : k1 < k2
      · have hltz : (k1 : Int) < (k2 : Int) := by omega
        have u1 : IntKind.i64.wrap ((k1 : Int) + (k2 : Int)) = (k1 : Int) + (k2 : Int) := IntWalk.i64_in _ (by omega)
        have u2 : IntKind.u64.wrap ((k1 : Int) + (k2 : Int)) = (k1 : Int) + (k2 : Int) := IntWalk.u64_in _ (by omega)
        obtain ⟨h, hh⟩ : ∃ h, h = (k1 + k2) / 2 := ⟨_, rfl⟩
        have hph : p - h < N := by omega
        have hhN0 : h < N := by omega
        have hhp : h ≤ p := by omega
        have hpb : p ≤ 4398046511104 := by omega
        clear n9 n1 n2 n3 n4 n5 n6 n7 n8
        go_wp2_with fail
        generalize hq : ((k1 : Int) + (k2 : Int)) / 2 = hz
        obtain rfl : hz = (h : Int) := by omega
        clear hq
        have u4 : IntKind.i64.wrap (h : Int) = (h : Int) := IntWalk.i64_in _ (by omega)
        have u5 : IntKind.i64.wrap ((h : Int) + 1) = (h : Int) + 1 := IntWalk.i64_in _ (by omega)
        have hhN : (h : Int) < (N : Int) := by omega
        obtain ⟨x1, x2⟩ := WSt_cell HH.out (HD.out.trans HNN.out.symm) q' h (by rw [HNN.out]; omega)
        obtain ⟨w3, w4⟩ := WSt_cell HH.out (HD.out.trans HNN.out.symm) q' (p - h) (by rw [HNN.out]; omega)
        rw [← hwr.out] at x1 x2 w3 w4
        have CC := HC.out wr d q' d[p - h]! d[h]! hwr.out HD.out
        have HR : Hid (¬ cf d[p - h]! d[h]! < 0 → BsS (fun c => !L d[p - c]! d[c]!) s0 r0 (h + 1) k2) := Lib.hid fun e => by
          subst hh; exact bs_right HMON.out HI.out hlt (by show (!L d[p - (k1 + k2) / 2]! d[(k1 + k2) / 2]!) = true; rw [← HCF.out _ (by omega) (by omega), decide_eq_false e]; rfl)
        have HLL : Hid (cf d[p - h]! d[h]! < 0 → BsS (fun c => !L d[p - c]! d[c]!) s0 r0 k1 h) := Lib.hid fun e => by
          subst hh; exact bs_left HMON.out HI.out hlt (by show (!L d[p - (k1 + k2) / 2]! d[(k1 + k2) / 2]!) = false; rw [← HCF.out _ (by omega) (by omega), decide_eq_true e]; rfl)
        have HRD := Lib.hid hh
        clear hh
        generalize fo + 5 * (d[h]!).val = X at x1 CC
        generalize fo + 5 * (d[p - h]!).val = Y at w3 CC
        generalize cf d[p - h]! d[h]! = cv at CC HR HLL
        have u6 : IntKind.i64.wrap ((p : Int) - (h : Int)) = ((p - h : Nat) : Int) := by rw [IntWalk.i64_in _ (by omega)]; omega
        have u7 : (((p - h : Nat) : Int)) < (N : Int) := by omega
        generalize p - h = g at *
        by_cases hcv : cv < 0
        · go_quiet ((go_at_call 65; refine Calls.quiet_of (CC _)))
          go_wp2_with fail
          go_roundw
          case rel => exact ⟨k1, h, q' + nq, rfl, by go_num, HLL.out hcv, Lib.hid (by rw [hwr.out]; exact WSt_drewN q' nq)⟩
          case measure => have := HRD.out; simp [intOf]; omega
        · go_quiet ((go_at_call 65; refine Calls.quiet_of (CC _)))
          go_wp2_with fail
          go_roundw
          case rel => exact ⟨h + 1, k2, q' + nq, by go_num, rfl, HR.out hcv, Lib.hid (by rw [hwr.out]; exact WSt_drewN q' nq)⟩
          case measure => have := HRD.out; simp [intOf]; omega
      · obtain rfl : k1 = k2 := by omega
        obtain ⟨e, he⟩ : ∃ e, e = mid + m - k1 := ⟨_, rfl⟩
        have HE : Hid (e + k1 = mid + m) := Lib.hid (by omega)
        have heb : e ≤ b := by omega
        have hea : mid ≤ e := by omega
        have hem : m ≤ e := by omega
        have hsk : a ≤ k1 := by omega
        have hsm : k1 ≤ m := by omega
        have hsd : k1 ≤ mid := by omega
        have ue : IntKind.i64.wrap ((n : Int) - (k1 : Int)) = (e : Int) := by have := HN.out; rw [IntWalk.i64_in _ (by omega)]; omega
        clear he n9 n1 n2 n3 n4 n5 n6 y1 y2 y3
        by_cases c1 : k1 < m
        · by_cases c2 : k1 < mid
          · by_cases c3 : a < k1
            · by_cases c4 : e < b
              · skip
                have x1 : (k1 : Int) < (m : Int) := by have := HE.out; omega
                have x2 : (m : Int) < (e : Int) := by have := HE.out; omega
                have x3 : (k1 : Int) < (mid : Int) := by have := HE.out; omega
                have x4 : (mid : Int) < (e : Int) := by have := HE.out; omega
                have x5 : (a : Int) < (k1 : Int) := by have := HE.out; omega
                have x6 : (e : Int) < (b : Int) := by have := HE.out; omega
                go_wp2_with (first
                  | (go_at_call 119; have CR := (HROT.out k1 e q' wr hwr.out (by omega) (by omega) (by have := HNN.out; omega)); (with_reducible refine CR.mono ?_); rintro e9 w9 ⟨rfl, D, q9, hrp, h9⟩; have HR9 := Lib.hid hrp; have HA9 := Lib.hid (HALL.out D k1 e HE.out hrp.1 (permIn_mono _ _ _ _ _ _ (by omega) (by omega) (by have := HD.out; omega) hrp.2.1) hrp.2.2 HI.out); have HW9 := Lib.hid h9; have HZ9 : Hid (D.size = N) := Lib.hid (hrp.1.trans HD.out); clear hrp h9)
                  | (go_at_call 107; have CA := (HREC.out a k1 mid D q9 _ HW9.out HZ9.out (by omega) (by omega) (by have := HMID.out; omega) (HA9.out.1 (by omega) (by omega))); (with_reducible refine CA.mono ?_); rintro e8 w8 ⟨rfl, D1, q8, hp8, h8⟩; have HP8 := Lib.hid hp8; have HW8 := Lib.hid h8; have HZ8 : Hid (D1.size = N) := Lib.hid (hp8.1.1.trans HZ9.out); clear hp8 h8)
                  | (go_at_call 107; have CB := (HREC.out mid e b D1 q8 _ HW8.out HZ8.out (by omega) (by omega) (by have := HMID.out; omega) ((HA9.out.2.2.1 _ HP8.out).1 (by omega) (by omega))); (with_reducible refine CB.mono ?_); rintro e7 w7 ⟨rfl, D2, q7, hp7, h7⟩; have HP7 := Lib.hid hp7; have HW7 := Lib.hid h7; clear hp7 h7))
                first | go_end0 | (trace_state; fail)
                have HP0 := HA9.out.2.2.2 _ _ HP8.out HP7.out
                first | exact ⟨rfl, D2, HP0, q7, HW7.out⟩ | exact ⟨rfl, D2, q7, HP0, HW7.out⟩
              · skip
                have x1 : (k1 : Int) < (m : Int) := by have := HE.out; omega
                have x2 : (m : Int) < (e : Int) := by have := HE.out; omega
                have x3 : (k1 : Int) < (mid : Int) := by have := HE.out; omega
                have x4 : (mid : Int) < (e : Int) := by have := HE.out; omega
                have x5 : (a : Int) < (k1 : Int) := by have := HE.out; omega
                have x6 : ¬ (e : Int) < (b : Int) := by have := HE.out; omega
                go_wp2_with (first
                  | (go_at_call 119; have CR := (HROT.out k1 e q' wr hwr.out (by omega) (by omega) (by have := HNN.out; omega)); (with_reducible refine CR.mono ?_); rintro e9 w9 ⟨rfl, D, q9, hrp, h9⟩; have HR9 := Lib.hid hrp; have HA9 := Lib.hid (HALL.out D k1 e HE.out hrp.1 (permIn_mono _ _ _ _ _ _ (by omega) (by omega) (by have := HD.out; omega) hrp.2.1) hrp.2.2 HI.out); have HW9 := Lib.hid h9; have HZ9 : Hid (D.size = N) := Lib.hid (hrp.1.trans HD.out); clear hrp h9)
                  | (go_at_call 107; have CA := (HREC.out a k1 mid D q9 _ HW9.out HZ9.out (by omega) (by omega) (by have := HMID.out; omega) (HA9.out.1 (by omega) (by omega))); (with_reducible refine CA.mono ?_); rintro e8 w8 ⟨rfl, D1, q8, hp8, h8⟩; have HP8 := Lib.hid hp8; have HW8 := Lib.hid h8; have HZ8 : Hid (D1.size = N) := Lib.hid (hp8.1.1.trans HZ9.out); clear hp8 h8))
                first | go_end0 | (trace_state; fail)
                have HP0 := HA9.out.2.2.2 _ _ HP8.out ((HA9.out.2.2.1 _ HP8.out).2 (by omega))
                first | exact ⟨rfl, D1, HP0, q8, HW8.out⟩ | exact ⟨rfl, D1, q8, HP0, HW8.out⟩
            · by_cases c4 : e < b
              · skip
                have x1 : (k1 : Int) < (m : Int) := by have := HE.out; omega
                have x2 : (m : Int) < (e : Int) := by have := HE.out; omega
                have x3 : (k1 : Int) < (mid : Int) := by have := HE.out; omega
                have x4 : (mid : Int) < (e : Int) := by have := HE.out; omega
                have x5 : ¬ (a : Int) < (k1 : Int) := by have := HE.out; omega
                have x6 : (e : Int) < (b : Int) := by have := HE.out; omega
                go_wp2_with (first
                  | (go_at_call 119; have CR := (HROT.out k1 e q' wr hwr.out (by omega) (by omega) (by have := HNN.out; omega)); (with_reducible refine CR.mono ?_); rintro e9 w9 ⟨rfl, D, q9, hrp, h9⟩; have HR9 := Lib.hid hrp; have HA9 := Lib.hid (HALL.out D k1 e HE.out hrp.1 (permIn_mono _ _ _ _ _ _ (by omega) (by omega) (by have := HD.out; omega) hrp.2.1) hrp.2.2 HI.out); have HW9 := Lib.hid h9; have HZ9 : Hid (D.size = N) := Lib.hid (hrp.1.trans HD.out); clear hrp h9)
                  | (go_at_call 107; have CB := (HREC.out mid e b D q9 _ HW9.out HZ9.out (by omega) (by omega) (by have := HMID.out; omega) ((HA9.out.2.2.1 _ (HA9.out.2.1 (by omega))).1 (by omega) (by omega))); (with_reducible refine CB.mono ?_); rintro e7 w7 ⟨rfl, D2, q7, hp7, h7⟩; have HP7 := Lib.hid hp7; have HW7 := Lib.hid h7; clear hp7 h7))
                first | go_end0 | (trace_state; fail)
                have HP0 := HA9.out.2.2.2 _ _ (HA9.out.2.1 (by omega)) HP7.out
                first | exact ⟨rfl, D2, HP0, q7, HW7.out⟩ | exact ⟨rfl, D2, q7, HP0, HW7.out⟩
              · skip
                have x1 : (k1 : Int) < (m : Int) := by have := HE.out; omega
                have x2 : (m : Int) < (e : Int) := by have := HE.out; omega
                have x3 : (k1 : Int) < (mid : Int) := by have := HE.out; omega
                have x4 : (mid : Int) < (e : Int) := by have := HE.out; omega
                have x5 : ¬ (a : Int) < (k1 : Int) := by have := HE.out; omega
                have x6 : ¬ (e : Int) < (b : Int) := by have := HE.out; omega
                go_wp2_with (first
                  | (go_at_call 119; have CR := (HROT.out k1 e q' wr hwr.out (by omega) (by omega) (by have := HNN.out; omega)); (with_reducible refine CR.mono ?_); rintro e9 w9 ⟨rfl, D, q9, hrp, h9⟩; have HR9 := Lib.hid hrp; have HA9 := Lib.hid (HALL.out D k1 e HE.out hrp.1 (permIn_mono _ _ _ _ _ _ (by omega) (by omega) (by have := HD.out; omega) hrp.2.1) hrp.2.2 HI.out); have HW9 := Lib.hid h9; have HZ9 : Hid (D.size = N) := Lib.hid (hrp.1.trans HD.out); clear hrp h9))
                first | go_end0 | (trace_state; fail)
                have HP0 := HA9.out.2.2.2 _ _ (HA9.out.2.1 (by omega)) ((HA9.out.2.2.1 _ (HA9.out.2.1 (by omega))).2 (by omega))
                first | exact ⟨rfl, D, HP0, q9, HW9.out⟩ | exact ⟨rfl, D, q9, HP0, HW9.out⟩
          · obtain rfl : e = m := by have := HE.out; omega
            have x1 : (k1 : Int) < (e : Int) := by have := HE.out; omega
            have x2 : ¬ (e : Int) < (e : Int) := by have := HE.out; omega
            have x3 : (a : Int) < (k1 : Int) := by have := HE.out; omega
            have x4 : ¬ (k1 : Int) < (mid : Int) := by have := HE.out; omega
            have x5 : (mid : Int) < (e : Int) := by have := HE.out; omega
            have x6 : (e : Int) < (b : Int) := by have := HE.out; omega
            have HA9 := Lib.hid (HALL.out d k1 e HE.out rfl (permIn_refl _ _ _) (fun t => (rotv_right d k1 e t).symm) HI.out)
            have HW9 := hwr
            have HZ9 := HD
            go_wp2_with (first
              | (go_at_call 107; have CB := (HREC.out mid e b d q' _ HW9.out HZ9.out (by omega) (by omega) (by have := HMID.out; omega) ((HA9.out.2.2.1 _ (HA9.out.2.1 (by omega))).1 (by omega) (by omega))); (with_reducible refine CB.mono ?_); rintro e7 w7 ⟨rfl, D2, q7, hp7, h7⟩; have HP7 := Lib.hid hp7; have HW7 := Lib.hid h7; clear hp7 h7))
            first | go_end0 | (trace_state; fail)
            have HP0 := HA9.out.2.2.2 _ _ (HA9.out.2.1 (by omega)) HP7.out
            first | exact ⟨rfl, D2, HP0, q7, HW7.out⟩ | exact ⟨rfl, D2, q7, HP0, HW7.out⟩
        · obtain rfl : k1 = m := by omega
          obtain rfl : e = mid := by have := HE.out; omega
          by_cases c3 : k1 < e
          · skip
            have x1 : ¬ (k1 : Int) < (k1 : Int) := by have := HE.out; omega
            have x2 : (a : Int) < (k1 : Int) := by have := HE.out; omega
            have x3 : (k1 : Int) < (e : Int) := by have := HE.out; omega
            have x4 : ¬ (e : Int) < (e : Int) := by have := HE.out; omega
            have HA9 := Lib.hid (HALL.out d k1 e HE.out rfl (permIn_refl _ _ _) (fun t => (rotv_left d k1 e t (by omega)).symm) HI.out)
            have HW9 := hwr
            have HZ9 := HD
            go_wp2_with (first
              | (go_at_call 107; have CA := (HREC.out a k1 e d q' _ HW9.out HZ9.out (by omega) (by omega) (by have := HMID.out; omega) (HA9.out.1 (by omega) (by omega))); (with_reducible refine CA.mono ?_); rintro e8 w8 ⟨rfl, D1, q8, hp8, h8⟩; have HP8 := Lib.hid hp8; have HW8 := Lib.hid h8; have HZ8 : Hid (D1.size = N) := Lib.hid (hp8.1.1.trans HZ9.out); clear hp8 h8))
            first | go_end0 | (trace_state; fail)
            have HP0 := HA9.out.2.2.2 _ _ HP8.out ((HA9.out.2.2.1 _ HP8.out).2 (by omega))
            first | exact ⟨rfl, D1, HP0, q8, HW8.out⟩ | exact ⟨rfl, D1, q8, HP0, HW8.out⟩
          · skip
            have x1 : ¬ (k1 : Int) < (k1 : Int) := by have := HE.out; omega
            have x2 : (a : Int) < (k1 : Int) := by have := HE.out; omega
            have x3 : ¬ (k1 : Int) < (e : Int) := by have := HE.out; omega
            have x4 : ¬ (e : Int) < (e : Int) := by have := HE.out; omega
            have HA9 := Lib.hid (HALL.out d k1 e HE.out rfl (permIn_refl _ _ _) (fun t => (rotv_left d k1 e t (by omega)).symm) HI.out)
            have HW9 := hwr
            have HZ9 := HD
            go_wp2_with fail
            first | go_end0 | (trace_state; fail)
            have HP0 := HA9.out.2.2.2 _ _ (HA9.out.2.1 (by omega)) ((HA9.out.2.2.1 _ (HA9.out.2.1 (by omega))).2 (by omega))
            first | exact ⟨rfl, d, HP0, q', HW9.out⟩ | exact ⟨rfl, d, q', HP0, HW9.out⟩
  · obtain ⟨hs0, hr0⟩ : s0 + b = mid + m ∧ r0 = mid := by omega
    have hcase : ((a : Int) + (b : Int)) / 2 < (m : Int) := by omega
    go_wp2_with fail
    generalize hq : ((a : Int) + (b : Int)) / 2 = mz
    obtain rfl : mz = (mid : Int) := by omega
    clear hq
    generalize hq : (mid : Int) + (m : Int) - (b : Int) = sz
    obtain rfl : sz = (s0 : Int) := by omega
    clear hq
    generalize hq : (mid : Int) + (m : Int) - 1 = pz
    obtain ⟨p, rfl, hp⟩ : ∃ p : Nat, pz = (p : Int) ∧ p = mid + m - 1 := ⟨mid + m - 1, by omega, rfl⟩
    clear hq
    generalize hq : (mid : Int) + (m : Int) = nz
    obtain ⟨n, rfl, hn⟩ : ∃ n : Nat, nz = (n : Int) ∧ n = mid + m := ⟨mid + m, by omega, rfl⟩
    clear hq hcase
    have hnb : n ≤ 4398046511104 := by omega
    have HN := Lib.hid hn
    clear hn
    subst hp
    have HBD : Hid (a ≤ s0 ∧ s0 ≤ mid ∧ s0 ≤ m ∧ r0 ≤ m ∧ r0 ≤ mid ∧ s0 + b ≥ mid + m ∧ mid < b ∧ a < mid) := Lib.hid (by omega)
    clear hst hmid
    generalize hpp : mid + m - 1 = p at *
    have HPP := Lib.hid hpp
    clear hpp
    go_loopw [20, 21] (fun i j wr => ∃ (k1 k2 q' : Nat), i = .int .i64 k1 ∧ j = .int .i64 k2 ∧ BsS (fun c => !L d[p - c]! d[c]!) s0 r0 k1 k2 ∧ Hid (wr = WSt fb fo m0 w blk d q')) (fun i j _ => (intOf j).toNat - (intOf i).toNat)
    case atStart => exact ⟨s0, r0, q, rfl, by rw [hr0], HST.out, Lib.hid HW.out.symm⟩
    case round =>
      obtain ⟨k1, k2, q', rfl, rfl, hI, hwr⟩ := hrel
      have HI := Lib.hid hI
      obtain ⟨y1, y2, y3, -, -⟩ := hI
      obtain ⟨n1, n2, n3, n4, n5, n6, n7, n8⟩ := HBD.out
      have n9 := HPP.out
      by_cases hlt : k1 < k2
      · have hltz : (k1 : Int) < (k2 : Int) := by omega
        have u1 : IntKind.i64.wrap ((k1 : Int) + (k2 : Int)) = (k1 : Int) + (k2 : Int) := IntWalk.i64_in _ (by omega)
        have u2 : IntKind.u64.wrap ((k1 : Int) + (k2 : Int)) = (k1 : Int) + (k2 : Int) := IntWalk.u64_in _ (by omega)
        obtain ⟨h, hh⟩ : ∃ h, h = (k1 + k2) / 2 := ⟨_, rfl⟩
        have hph : p - h < N := by omega
        have hhN0 : h < N := by omega
        have hhp : h ≤ p := by omega
        have hpb : p ≤ 4398046511104 := by omega
        clear n9 n1 n2 n3 n4 n5 n6 n7 n8
        go_wp2_with fail
        generalize hq : ((k1 : Int) + (k2 : Int)) / 2 = hz
        obtain rfl : hz = (h : Int) := by omega
        clear hq
        have u4 : IntKind.i64.wrap (h : Int) = (h : Int) := IntWalk.i64_in _ (by omega)
        have u5 : IntKind.i64.wrap ((h : Int) + 1) = (h : Int) + 1 := IntWalk.i64_in _ (by omega)
        have hhN : (h : Int) < (N : Int) := by omega
        obtain ⟨x1, x2⟩ := WSt_cell HH.out (HD.out.trans HNN.out.symm) q' h (by rw [HNN.out]; omega)
        obtain ⟨w3, w4⟩ := WSt_cell HH.out (HD.out.trans HNN.out.symm) q' (p - h) (by rw [HNN.out]; omega)
        rw [← hwr.out] at x1 x2 w3 w4
        have CC := HC.out wr d q' d[p - h]! d[h]! hwr.out HD.out
        have HR : Hid (¬ cf d[p - h]! d[h]! < 0 → BsS (fun c => !L d[p - c]! d[c]!) s0 r0 (h + 1) k2) := Lib.hid fun e => by
          subst hh; exact bs_right HMON.out HI.out hlt (by show (!L d[p - (k1 + k2) / 2]! d[(k1 + k2) / 2]!) = true; rw [← HCF.out _ (by omega) (by omega), decide_eq_false e]; rfl)
        have HLL : Hid (cf d[p - h]! d[h]! < 0 → BsS (fun c => !L d[p - c]! d[c]!) s0 r0 k1 h) := Lib.hid fun e => by
          subst hh; exact bs_left HMON.out HI.out hlt (by show (!L d[p - (k1 + k2) / 2]! d[(k1 + k2) / 2]!) = false; rw [← HCF.out _ (by omega) (by omega), decide_eq_true e]; rfl)
        have HRD := Lib.hid hh
        clear hh
        generalize fo + 5 * (d[h]!).val = X at x1 CC
        generalize fo + 5 * (d[p - h]!).val = Y at w3 CC
        generalize cf d[p - h]! d[h]! = cv at CC HR HLL
        have u6 : IntKind.i64.wrap ((p : Int) - (h : Int)) = ((p - h : Nat) : Int) := by rw [IntWalk.i64_in _ (by omega)]; omega
        have u7 : (((p - h : Nat) : Int)) < (N : Int) := by omega
        generalize p - h = g at *
        by_cases hcv : cv < 0
        · go_quiet ((go_at_call 65; refine Calls.quiet_of (CC _)))
          go_wp2_with fail
          go_roundw
          case rel => exact ⟨k1, h, q' + nq, rfl, by go_num, HLL.out hcv, Lib.hid (by rw [hwr.out]; exact WSt_drewN q' nq)⟩
          case measure => have := HRD.out; simp [intOf]; omega
        · go_quiet ((go_at_call 65; refine Calls.quiet_of (CC _)))
          go_wp2_with fail
          go_roundw
          case rel => exact ⟨h + 1, k2, q' + nq, by go_num, rfl, HR.out hcv, Lib.hid (by rw [hwr.out]; exact WSt_drewN q' nq)⟩
          case measure => have := HRD.out; simp [intOf]; omega
      · obtain rfl : k1 = k2 := by omega
        obtain ⟨e, he⟩ : ∃ e, e = mid + m - k1 := ⟨_, rfl⟩
        have HE : Hid (e + k1 = mid + m) := Lib.hid (by omega)
        have heb : e ≤ b := by omega
        have hea : mid ≤ e := by omega
        have hem : m ≤ e := by omega
        have hsk : a ≤ k1 := by omega
        have hsm : k1 ≤ m := by omega
        have hsd : k1 ≤ mid := by omega
        have ue : IntKind.i64.wrap ((n : Int) - (k1 : Int)) = (e : Int) := by have := HN.out; rw [IntWalk.i64_in _ (by omega)]; omega
        clear he n9 n1 n2 n3 n4 n5 n6 y1 y2 y3
        by_cases c1 : k1 < m
        · by_cases c2 : k1 < mid
          · by_cases c3 : a < k1
            · by_cases c4 : e < b
              · skip
                have x1 : (k1 : Int) < (m : Int) := by have := HE.out; omega
                have x2 : (m : Int) < (e : Int) := by have := HE.out; omega
                have x3 : (k1 : Int) < (mid : Int) := by have := HE.out; omega
                have x4 : (mid : Int) < (e : Int) := by have := HE.out; omega
                have x5 : (a : Int) < (k1 : Int) := by have := HE.out; omega
                have x6 : (e : Int) < (b : Int) := by have := HE.out; omega
                go_wp2_with (first
                  | (go_at_call 119; have CR := (HROT.out k1 e q' wr hwr.out (by omega) (by omega) (by have := HNN.out; omega)); (with_reducible refine CR.mono ?_); rintro e9 w9 ⟨rfl, D, q9, hrp, h9⟩; have HR9 := Lib.hid hrp; have HA9 := Lib.hid (HALL.out D k1 e HE.out hrp.1 (permIn_mono _ _ _ _ _ _ (by omega) (by omega) (by have := HD.out; omega) hrp.2.1) hrp.2.2 HI.out); have HW9 := Lib.hid h9; have HZ9 : Hid (D.size = N) := Lib.hid (hrp.1.trans HD.out); clear hrp h9)
                  | (go_at_call 107; have CA := (HREC.out a k1 mid D q9 _ HW9.out HZ9.out (by omega) (by omega) (by have := HMID.out; omega) (HA9.out.1 (by omega) (by omega))); (with_reducible refine CA.mono ?_); rintro e8 w8 ⟨rfl, D1, q8, hp8, h8⟩; have HP8 := Lib.hid hp8; have HW8 := Lib.hid h8; have HZ8 : Hid (D1.size = N) := Lib.hid (hp8.1.1.trans HZ9.out); clear hp8 h8)
                  | (go_at_call 107; have CB := (HREC.out mid e b D1 q8 _ HW8.out HZ8.out (by omega) (by omega) (by have := HMID.out; omega) ((HA9.out.2.2.1 _ HP8.out).1 (by omega) (by omega))); (with_reducible refine CB.mono ?_); rintro e7 w7 ⟨rfl, D2, q7, hp7, h7⟩; have HP7 := Lib.hid hp7; have HW7 := Lib.hid h7; clear hp7 h7))
                first | go_end0 | (trace_state; fail)
                have HP0 := HA9.out.2.2.2 _ _ HP8.out HP7.out
                first | exact ⟨rfl, D2, HP0, q7, HW7.out⟩ | exact ⟨rfl, D2, q7, HP0, HW7.out⟩
              · skip
                have x1 : (k1 : Int) < (m : Int) := by have := HE.out; omega
                have x2 : (m : Int) < (e : Int) := by have := HE.out; omega
                have x3 : (k1 : Int) < (mid : Int) := by have := HE.out; omega
                have x4 : (mid : Int) < (e : Int) := by have := HE.out; omega
                have x5 : (a : Int) < (k1 : Int) := by have := HE.out; omega
                have x6 : ¬ (e : Int) < (b : Int) := by have := HE.out; omega
                go_wp2_with (first
                  | (go_at_call 119; have CR := (HROT.out k1 e q' wr hwr.out (by omega) (by omega) (by have := HNN.out; omega)); (with_reducible refine CR.mono ?_); rintro e9 w9 ⟨rfl, D, q9, hrp, h9⟩; have HR9 := Lib.hid hrp; have HA9 := Lib.hid (HALL.out D k1 e HE.out hrp.1 (permIn_mono _ _ _ _ _ _ (by omega) (by omega) (by have := HD.out; omega) hrp.2.1) hrp.2.2 HI.out); have HW9 := Lib.hid h9; have HZ9 : Hid (D.size = N) := Lib.hid (hrp.1.trans HD.out); clear hrp h9)
                  | (go_at_call 107; have CA := (HREC.out a k1 mid D q9 _ HW9.out HZ9.out (by omega) (by omega) (by have := HMID.out; omega) (HA9.out.1 (by omega) (by omega))); (with_reducible refine CA.mono ?_); rintro e8 w8 ⟨rfl, D1, q8, hp8, h8⟩; have HP8 := Lib.hid hp8; have HW8 := Lib.hid h8; have HZ8 : Hid (D1.size = N) := Lib.hid (hp8.1.1.trans HZ9.out); clear hp8 h8))
                first | go_end0 | (trace_state; fail)
                have HP0 := HA9.out.2.2.2 _ _ HP8.out ((HA9.out.2.2.1 _ HP8.out).2 (by omega))
                first | exact ⟨rfl, D1, HP0, q8, HW8.out⟩ | exact ⟨rfl, D1, q8, HP0, HW8.out⟩
            · by_cases c4 : e < b
              · skip
                have x1 : (k1 : Int) < (m : Int) := by have := HE.out; omega
                have x2 : (m : Int) < (e : Int) := by have := HE.out; omega
                have x3 : (k1 : Int) < (mid : Int) := by have := HE.out; omega
                have x4 : (mid : Int) < (e : Int) := by have := HE.out; omega
                have x5 : ¬ (a : Int) < (k1 : Int) := by have := HE.out; omega
                have x6 : (e : Int) < (b : Int) := by have := HE.out; omega
                go_wp2_with (first
                  | (go_at_call 119; have CR := (HROT.out k1 e q' wr hwr.out (by omega) (by omega) (by have := HNN.out; omega)); (with_reducible refine CR.mono ?_); rintro e9 w9 ⟨rfl, D, q9, hrp, h9⟩; have HR9 := Lib.hid hrp; have HA9 := Lib.hid (HALL.out D k1 e HE.out hrp.1 (permIn_mono _ _ _ _ _ _ (by omega) (by omega) (by have := HD.out; omega) hrp.2.1) hrp.2.2 HI.out); have HW9 := Lib.hid h9; have HZ9 : Hid (D.size = N) := Lib.hid (hrp.1.trans HD.out); clear hrp h9)
                  | (go_at_call 107; have CB := (HREC.out mid e b D q9 _ HW9.out HZ9.out (by omega) (by omega) (by have := HMID.out; omega) ((HA9.out.2.2.1 _ (HA9.out.2.1 (by omega))).1 (by omega) (by omega))); (with_reducible refine CB.mono ?_); rintro e7 w7 ⟨rfl, D2, q7, hp7, h7⟩; have HP7 := Lib.hid hp7; have HW7 := Lib.hid h7; clear hp7 h7))
                first | go_end0 | (trace_state; fail)
                have HP0 := HA9.out.2.2.2 _ _ (HA9.out.2.1 (by omega)) HP7.out
                first | exact ⟨rfl, D2, HP0, q7, HW7.out⟩ | exact ⟨rfl, D2, q7, HP0, HW7.out⟩
              · skip
                have x1 : (k1 : Int) < (m : Int) := by have := HE.out; omega
                have x2 : (m : Int) < (e : Int) := by have := HE.out; omega
                have x3 : (k1 : Int) < (mid : Int) := by have := HE.out; omega
                have x4 : (mid : Int) < (e : Int) := by have := HE.out; omega
                have x5 : ¬ (a : Int) < (k1 : Int) := by have := HE.out; omega
                have x6 : ¬ (e : Int) < (b : Int) := by have := HE.out; omega
                go_wp2_with (first
                  | (go_at_call 119; have CR := (HROT.out k1 e q' wr hwr.out (by omega) (by omega) (by have := HNN.out; omega)); (with_reducible refine CR.mono ?_); rintro e9 w9 ⟨rfl, D, q9, hrp, h9⟩; have HR9 := Lib.hid hrp; have HA9 := Lib.hid (HALL.out D k1 e HE.out hrp.1 (permIn_mono _ _ _ _ _ _ (by omega) (by omega) (by have := HD.out; omega) hrp.2.1) hrp.2.2 HI.out); have HW9 := Lib.hid h9; have HZ9 : Hid (D.size = N) := Lib.hid (hrp.1.trans HD.out); clear hrp h9))
                first | go_end0 | (trace_state; fail)
                have HP0 := HA9.out.2.2.2 _ _ (HA9.out.2.1 (by omega)) ((HA9.out.2.2.1 _ (HA9.out.2.1 (by omega))).2 (by omega))
                first | exact ⟨rfl, D, HP0, q9, HW9.out⟩ | exact ⟨rfl, D, q9, HP0, HW9.out⟩
          · obtain rfl : e = m := by have := HE.out; omega
            have x1 : (k1 : Int) < (e : Int) := by have := HE.out; omega
            have x2 : ¬ (e : Int) < (e : Int) := by have := HE.out; omega
            have x3 : (a : Int) < (k1 : Int) := by have := HE.out; omega
            have x4 : ¬ (k1 : Int) < (mid : Int) := by have := HE.out; omega
            have x5 : (mid : Int) < (e : Int) := by have := HE.out; omega
            have x6 : (e : Int) < (b : Int) := by have := HE.out; omega
            have HA9 := Lib.hid (HALL.out d k1 e HE.out rfl (permIn_refl _ _ _) (fun t => (rotv_right d k1 e t).symm) HI.out)
            have HW9 := hwr
            have HZ9 := HD
            go_wp2_with (first
              | (go_at_call 107; have CB := (HREC.out mid e b d q' _ HW9.out HZ9.out (by omega) (by omega) (by have := HMID.out; omega) ((HA9.out.2.2.1 _ (HA9.out.2.1 (by omega))).1 (by omega) (by omega))); (with_reducible refine CB.mono ?_); rintro e7 w7 ⟨rfl, D2, q7, hp7, h7⟩; have HP7 := Lib.hid hp7; have HW7 := Lib.hid h7; clear hp7 h7))
            first | go_end0 | (trace_state; fail)
            have HP0 := HA9.out.2.2.2 _ _ (HA9.out.2.1 (by omega)) HP7.out
            first | exact ⟨rfl, D2, HP0, q7, HW7.out⟩ | exact ⟨rfl, D2, q7, HP0, HW7.out⟩
        · obtain rfl : k1 = m := by omega
          obtain rfl : e = mid := by have := HE.out; omega
          by_cases c3 : k1 < e
          · skip
            have x1 : ¬ (k1 : Int) < (k1 : Int) := by have := HE.out; omega
            have x2 : (a : Int) < (k1 : Int) := by have := HE.out; omega
            have x3 : (k1 : Int) < (e : Int) := by have := HE.out; omega
            have x4 : ¬ (e : Int) < (e : Int) := by have := HE.out; omega
            have HA9 := Lib.hid (HALL.out d k1 e HE.out rfl (permIn_refl _ _ _) (fun t => (rotv_left d k1 e t (by omega)).symm) HI.out)
            have HW9 := hwr
            have HZ9 := HD
            go_wp2_with (first
              | (go_at_call 107; have CA := (HREC.out a k1 e d q' _ HW9.out HZ9.out (by omega) (by omega) (by have := HMID.out; omega) (HA9.out.1 (by omega) (by omega))); (with_reducible refine CA.mono ?_); rintro e8 w8 ⟨rfl, D1, q8, hp8, h8⟩; have HP8 := Lib.hid hp8; have HW8 := Lib.hid h8; have HZ8 : Hid (D1.size = N) := Lib.hid (hp8.1.1.trans HZ9.out); clear hp8 h8))
            first | go_end0 | (trace_state; fail)
            have HP0 := HA9.out.2.2.2 _ _ HP8.out ((HA9.out.2.2.1 _ HP8.out).2 (by omega))
            first | exact ⟨rfl, D1, HP0, q8, HW8.out⟩ | exact ⟨rfl, D1, q8, HP0, HW8.out⟩
          · skip
            have x1 : ¬ (k1 : Int) < (k1 : Int) := by have := HE.out; omega
            have x2 : (a : Int) < (k1 : Int) := by have := HE.out; omega
            have x3 : ¬ (k1 : Int) < (e : Int) := by have := HE.out; omega
            have x4 : ¬ (e : Int) < (e : Int) := by have := HE.out; omega
            have HA9 := Lib.hid (HALL.out d k1 e HE.out rfl (permIn_refl _ _ _) (fun t => (rotv_left d k1 e t (by omega)).symm) HI.out)
            have HW9 := hwr
            have HZ9 := HD
            go_wp2_with fail
            first | go_end0 | (trace_state; fail)
            have HP0 := HA9.out.2.2.2 _ _ (HA9.out.2.1 (by omega)) ((HA9.out.2.2.1 _ (HA9.out.2.1 (by omega))).2 (by omega))
            first | exact ⟨rfl, d, HP0, q', HW9.out⟩ | exact ⟨rfl, d, q', HP0, HW9.out⟩
end Go.Proofs.YtaniebkfgkhgoaaGreatDoor

namespace Go.Proofs.YtaniebkfgkhgoaaGreatDoor
open Go.RowKit Go.Sort
set_option linter.unusedVariables false
set_option maxRecDepth 100000

section
variable {α : Type} [Inhabited α] {ix : α → Nat} {L : α → α → Bool}
omit [Inhabited α] in
theorem swoL {lt : α → α → Bool} (hS : SWO lt) (ix : α → Nat) : SWO (fun x y => lt x y || (!lt y x && decide (ix x < ix y))) where
  irrefl x := by simp [hS.irrefl x]
  trans x y z h1 h2 := by
    have t1 := hS.trans x y z; have t2 := hS.trans y z x; have t3 := hS.trans z x y; have t4 := hS.trans z y x; have t5 := hS.trans y x z; have t6 := hS.trans x z y
    have n1 := hS.ntrans x y z; have n2 := hS.ntrans y z x; have n3 := hS.ntrans z x y; have n4 := hS.ntrans z y x; have n5 := hS.ntrans y x z; have n6 := hS.ntrans x z y
    have i1 := asymL hS (x := x) (y := y); have i2 := asymL hS (x := y) (y := z); have i3 := asymL hS (x := x) (y := z)
    generalize lt x y = a1 at *; generalize lt y x = a2 at *; generalize lt y z = a3 at *; generalize lt z y = a4 at *; generalize lt x z = a5 at *; generalize lt z x = a6 at *
    simp only [Bool.or_eq_true, Bool.and_eq_true, Bool.not_eq_true', decide_eq_true_eq] at *
    cases a1 <;> cases a2 <;> cases a3 <;> cases a4 <;> cases a5 <;> cases a6 <;> simp at * <;> omega
  ntrans x y z h1 h2 := by
    have t1 := hS.trans x y z; have t2 := hS.trans y z x; have t3 := hS.trans z x y; have t4 := hS.trans z y x; have t5 := hS.trans y x z; have t6 := hS.trans x z y
    have n1 := hS.ntrans x y z; have n2 := hS.ntrans y z x; have n3 := hS.ntrans z x y; have n4 := hS.ntrans z y x; have n5 := hS.ntrans y x z; have n6 := hS.ntrans x z y
    have i1 := asymL hS (x := x) (y := y); have i2 := asymL hS (x := y) (y := z); have i3 := asymL hS (x := x) (y := z)
    generalize lt x y = a1 at *; generalize lt y x = a2 at *; generalize lt y z = a3 at *; generalize lt z y = a4 at *; generalize lt x z = a5 at *; generalize lt z x = a6 at *
    simp only [Bool.or_eq_false_iff, Bool.and_eq_false_iff, Bool.not_eq_false', decide_eq_false_iff_not] at *
    cases a1 <;> cases a2 <;> cases a3 <;> cases a4 <;> cases a5 <;> cases a6 <;> simp at * <;> omega

/-- Two sorted permutations under a total order are one. -/
theorem sorted_one (hS : SWO L) (ha : ∀ x y, L x y = false → L y x = false → x = y) {d D E : Array α} {n : Nat} (hn : d.size = n) (h1 : PermIn 0 n d D) (h2 : SortedIn L 0 n D) (h3 : PermIn 0 n d E) (h4 : SortedIn L 0 n E) : D = E := by
  subst hn
  have e1 := sorted_unique_holds (lt := L) hS ha d D h1 h2
  have e2 := sorted_unique_holds (lt := L) hS ha d E h3 h4
  exact Array.toList_inj.1 (e1.trans e2.symm)

/-- While runs of twenty are sorted. -/
def St1 (L : α → α → Bool) (ix : α → Nat) (n : Nat) (d dk : Array α) (k : Nat) : Prop := PfS L ix dk 20 k ∧ (∀ t, k ≤ t → dk[t]! = d[t]!) ∧ PermIn 0 n d dk
theorem st1_start (n : Nat) (d : Array α) : St1 L ix n d d 0 := ⟨.zero, fun t _ => rfl, permIn_refl _ _ _⟩
theorem st1_ok (hS : SWO L) {lt : α → α → Bool} (hl : ∀ x y, ix x < ix y → lt y x = L y x) {n : Nat} {d dk : Array α} (hn : d.size = n) (hid : ∀ t, t < n → ix d[t]! = t) {k e : Nat} (h : St1 L ix n d dk k) (hk : k ≤ e) (he : e ≤ n) :
    PermIn k e dk (insertionSort lt dk k e) ∧ OKb L ix (insertionSort lt dk k e) k e := by
  obtain ⟨h1, h2, h3⟩ := h
  have hz : dk.size = n := h3.1.trans hn
  have hx : ∀ t, k ≤ t → t < n → ix dk[t]! = t := fun t x1 x2 => by rw [h2 t x1]; exact hid t x2
  rw [insS_same hl dk k e (by omega) (fun t u x1 x2 x3 => by rw [hx t x1 (by omega), hx u (by omega) (by omega)]; exact x2)]
  obtain ⟨p, s⟩ := insertionSort_holds hS dk k e hk (by omega)
  exact ⟨p, OKb.perm (by omega) p (fun t x1 x2 => by rw [hx t x1 (by omega)]; exact ⟨x1, x2⟩) s⟩
theorem st1_step (hS : SWO L) {lt : α → α → Bool} (hl : ∀ x y, ix x < ix y → lt y x = L y x) {n : Nat} {d dk : Array α} (hn : d.size = n) (hid : ∀ t, t < n → ix d[t]! = t) {k : Nat} (h : St1 L ix n d dk k) (hk : k + 20 ≤ n) :
    St1 L ix n d (insertionSort lt dk k (k + 20)) (k + 20) := by
  obtain ⟨p, o⟩ := st1_ok hS hl hn hid h (by omega : k ≤ k + 20) hk
  obtain ⟨h1, h2, h3⟩ := h
  exact ⟨.snoc (h1.same fun t x => p.2.1 t (.inl x)) o, fun t x => by rw [p.2.1 t (.inr x)]; exact h2 t (by omega), permIn_trans _ _ _ _ _ h3 (permIn_mono _ _ _ _ _ _ (Nat.zero_le _) hk (by have := h3.1; omega) p)⟩
theorem st1_end (hS : SWO L) {lt : α → α → Bool} (hl : ∀ x y, ix x < ix y → lt y x = L y x) {n : Nat} {d dk : Array α} (hn : d.size = n) (hid : ∀ t, t < n → ix d[t]! = t) {k : Nat} (h : St1 L ix n d dk k) (hk : k ≤ n) (hk2 : n < k + 20) :
    ChS L ix (insertionSort lt dk k n) n 20 0 ∧ PermIn 0 n d (insertionSort lt dk k n) := by
  obtain ⟨p, o⟩ := st1_ok hS hl hn hid h hk (Nat.le_refl n)
  obtain ⟨h1, h2, h3⟩ := h
  refine ⟨(h1.same fun t x => p.2.1 t (.inl x)).fold hk (by omega) ?_, permIn_trans _ _ _ _ _ h3 (permIn_mono _ _ _ _ _ _ (Nat.zero_le _) (Nat.le_refl _) (by have := h3.1; omega) p)⟩
  by_cases c : k < n
  · exact .more c (by rw [Nat.min_eq_right (by omega)]; exact o) (.done (by omega))
  · exact .done (by omega)

/-- While blocks are merged two by two. -/
def St2 (L : α → α → Bool) (ix : α → Nat) (n bs : Nat) (d dk : Array α) (k : Nat) : Prop := PfS L ix dk (bs + bs) k ∧ ChS L ix dk n bs k ∧ PermIn 0 n d dk
theorem st2_start {n bs : Nat} {d dk : Array α} (h : ChS L ix dk n bs 0) (hp : PermIn 0 n d dk) : St2 L ix n bs d dk 0 := ⟨.zero, h, hp⟩
theorem okb_ask {cf : α → α → Int} (hl : ∀ x y, ix x < ix y → decide (cf y x < 0) = L y x) {dk : Array α} {k m e : Nat} (he : e ≤ dk.size) (h1 : OKb L ix dk k m) (h2 : OKb L ix dk m e) : SymA L cf dk k m e :=
  ⟨h1.2, h2.2, he, fun p q x1 x2 x3 x4 => hl _ _ (by have := h1.1 p x1 x2; have := h2.1 q x3 x4; omega)⟩
theorem okb_made {dk D : Array α} {k m e : Nat} (hkm : k ≤ m) (hme : m ≤ e) (he : e ≤ dk.size) (h1 : OKb L ix dk k m) (h2 : OKb L ix dk m e) (hp : SymP L dk D k e) : OKb L ix D k e :=
  OKb.perm he hp.1 (fun t x1 x2 => by
    by_cases c : t < m
    · have := h1.1 t x1 c; omega
    · have := h2.1 t (by omega) x2; omega) hp.2
theorem st2_two {n bs : Nat} {d dk : Array α} {k : Nat} (hbs : 0 < bs) (h : St2 L ix n bs d dk k) (hk : k + bs < n) : OKb L ix dk k (k + bs) ∧ OKb L ix dk (k + bs) (min (k + bs + bs) n) ∧ ChS L ix dk n bs (k + bs + bs) := by
  obtain ⟨h1, h2, h3⟩ := h
  cases h2 with
  | done x => omega
  | more x o c =>
    rw [Nat.min_eq_left (by omega)] at o
    cases c with
    | done x => omega
    | more x2 o2 c2 => exact ⟨o, o2, c2⟩
theorem st2_ask {cf : α → α → Int} (hl : ∀ x y, ix x < ix y → decide (cf y x < 0) = L y x) {n bs : Nat} {d dk : Array α} {k : Nat} (hn : d.size = n) (hbs : 0 < bs) (h : St2 L ix n bs d dk k) (hk : k + bs < n) : SymA L cf dk k (k + bs) (min (k + bs + bs) n) := by
  obtain ⟨o1, o2, c⟩ := st2_two hbs h hk
  have := h.2.2.1
  exact okb_ask hl (by omega) o1 o2
theorem st2_step {n bs : Nat} {d dk D : Array α} {k : Nat} (hn : d.size = n) (hbs : 0 < bs) (h : St2 L ix n bs d dk k) (hk : k + bs + bs ≤ n) (hp : SymP L dk D k (k + bs + bs)) : St2 L ix n bs d D (k + bs + bs) := by
  obtain ⟨o1, o2, c⟩ := st2_two hbs h (by omega)
  rw [Nat.min_eq_left hk] at o2
  have z := h.2.2.1
  obtain ⟨h1, h2, h3⟩ := h
  refine ⟨?_, c.same fun t x => hp.1.2.1 t (.inr x), permIn_trans _ _ _ _ _ h3 (permIn_mono _ _ _ _ _ _ (Nat.zero_le _) hk (by omega) hp.1)⟩
  rw [Nat.add_assoc]
  refine .snoc (h1.same fun t x => hp.1.2.1 t (.inl x)) ?_
  rw [← Nat.add_assoc]
  exact okb_made (by omega) (by omega) (by omega) o1 o2 hp
theorem st2_last {n bs : Nat} {d dk D : Array α} {k : Nat} (hn : d.size = n) (hbs : 0 < bs) (h : St2 L ix n bs d dk k) (hk : k + bs < n) (hk2 : n < k + bs + bs) (hp : SymP L dk D k n) : ChS L ix D n (bs + bs) 0 ∧ PermIn 0 n d D := by
  obtain ⟨o1, o2, c⟩ := st2_two hbs h hk
  rw [Nat.min_eq_right (by omega)] at o2
  have z := h.2.2.1
  obtain ⟨h1, h2, h3⟩ := h
  refine ⟨(h1.same fun t x => hp.1.2.1 t (.inl x)).fold (by omega) (by omega) (.more (by omega) ?_ (.done (by omega))), permIn_trans _ _ _ _ _ h3 (permIn_mono _ _ _ _ _ _ (Nat.zero_le _) (Nat.le_refl _) (by omega) hp.1)⟩
  rw [Nat.min_eq_right (by omega)]
  exact okb_made (by omega) (by omega) (by omega) o1 o2 hp
theorem st2_none {n bs : Nat} {d dk : Array α} {k : Nat} (hbs : 0 < bs) (h : St2 L ix n bs d dk k) (hkn : k ≤ n) (hk : n ≤ k + bs) : ChS L ix dk n (bs + bs) 0 ∧ PermIn 0 n d dk := by
  obtain ⟨h1, h2, h3⟩ := h
  refine ⟨h1.fold hkn (by omega) ?_, h3⟩
  cases h2 with
  | done x => exact .done x
  | more x o c =>
    rw [Nat.min_eq_right (by omega)] at o
    exact .more x (by rw [Nat.min_eq_right (by omega)]; exact o) (.done (by omega))
end
end Go.Proofs.YtaniebkfgkhgoaaGreatDoor

namespace Go.Proofs.YtaniebkfgkhgoaaGreatDoor
open Go.RowKit Go.Sort
set_option linter.unusedVariables false
set_option maxRecDepth 100000

theorem sym_any (fb fo m0 : Nat) (w : World) (blk cap : Nat) (d0 : Array (Fin (m0 + 1))) (hH : Holds (encF fb fo m0) w blk 0 d0) (hN : d0.size ≤ 1099511627776) (cf : Fin (m0 + 1) → Fin (m0 + 1) → Int) (hC : CmpW fb fo m0 w blk d0.size cf) (L : Fin (m0 + 1) → Fin (m0 + 1) → Bool) (hS : SWO L) :
    ∀ (k a m b : Nat) (d : Array (Fin (m0 + 1))) (q : Nat) (wr : World), b - a ≤ k → wr = WSt fb fo m0 w blk d q → d.size = d0.size → a < m → m < b → SymA L cf d a m b →
    Calls Tryz.prog 107 #[.slice (some ⟨blk, 0, none⟩) d0.size cap, .int .i64 a, .int .i64 m, .int .i64 b, .func (.func 65) #[] #[]] wr fun e w' => e = .returned (.tuple #[]) ∧ ∃ D q', SymP L d D a b ∧ w' = WSt fb fo m0 w blk D q'
  | 0, a, m, b, d, q, wr, hk, hw, hd, h1, h2, hA => by omega
  | k + 1, a, m, b, d, q, wr, hk, hw, hd, h1, h2, hA => by
    subst hw
    by_cases c1 : m = a + 1
    · subst c1; exact sym1_any fb fo m0 w blk cap d0 hH hN cf hC L hS a b d q hd h2 hA
    · by_cases c2 : b = m + 1
      · subst c2; exact sym2_any fb fo m0 w blk cap d0 hH hN cf hC L hS a m d q hd (by omega) hA
      · exact sym3_any fb fo m0 w blk cap d0 hH hN cf hC L hS a m b d q hd (by omega) (by omega) hA fun a' m' b' d' q' wr' e1 e2 e3 e4 e5 e6 =>
          sym_any fb fo m0 w blk cap d0 hH hN cf hC L hS k a' m' b' d' q' wr' (by omega) e1 e2 e3 e4 e6

set_option maxHeartbeats 4000000 in
theorem stab_any (fb fo m0 : Nat) (w : World) (blk cap : Nat) (cf : Fin (m0 + 1) → Fin (m0 + 1) → Int) (L : Fin (m0 + 1) → Fin (m0 + 1) → Bool) (hS : SWO L) (n : Nat) (hn0 : n ≤ 1099511627776)
    (hl : ∀ x y : Fin (m0 + 1), x.val < y.val → ltOf cf y x = L y x)
    (HSYM : Hid (∀ (a m b : Nat) (d : Array (Fin (m0 + 1))) (q : Nat) (wr : World), wr = WSt fb fo m0 w blk d q → d.size = n → a < m → m < b → SymA L cf d a m b →
      Calls Tryz.prog 107 #[.slice (some ⟨blk, 0, none⟩) n cap, .int .i64 a, .int .i64 m, .int .i64 b, .func (.func 65) #[] #[]] wr fun e w' => e = .returned (.tuple #[]) ∧ ∃ D q', SymP L d D a b ∧ w' = WSt fb fo m0 w blk D q'))
    (HINS : Hid (∀ (a b : Nat) (d : Array (Fin (m0 + 1))) (q : Nat) (wr : World), wr = WSt fb fo m0 w blk d q → d.size = n → a ≤ b → b ≤ n →
      Calls Tryz.prog 106 #[.slice (some ⟨blk, 0, none⟩) n cap, .int .i64 a, .int .i64 b, .func (.func 65) #[] #[]] wr fun e w' => e = .returned (.tuple #[]) ∧ ∃ q', w' = WSt fb fo m0 w blk (insertionSort (ltOf cf) d a b) q'))
    (d : Array (Fin (m0 + 1))) (q : Nat) (hn : d.size = n) (hid : ∀ t, t < n → (d[t]!).val = t) (hn1 : 0 < n) :
    Calls Tryz.prog 88 #[.slice (some ⟨blk, 0, none⟩) n cap, .int .i64 n, .func (.func 65) #[] #[]] (WSt fb fo m0 w blk d q) fun e w' => e = .returned (.tuple #[]) ∧ ∃ D q', SymP L d D 0 n ∧ w' = WSt fb fo m0 w blk D q' := by
  have HSTEP := Lib.hid (fun (dk : Array (Fin (m0 + 1))) (k : Nat) (h : St1 L (fun x => x.val) n d dk k) (hk : k + 20 ≤ n) => st1_step (ix := fun x : Fin (m0 + 1) => x.val) hS hl hn hid h hk)
  have HEND := Lib.hid (fun (dk : Array (Fin (m0 + 1))) (k : Nat) (h : St1 L (fun x => x.val) n d dk k) (hk : k ≤ n) (hk2 : n < k + 20) => st1_end (ix := fun x : Fin (m0 + 1) => x.val) hS hl hn hid h hk hk2)
  have HASK := Lib.hid (fun (dk : Array (Fin (m0 + 1))) (bs k : Nat) (hb : 0 < bs) (h : St2 L (fun x => x.val) n bs d dk k) (hk : k + bs < n) => st2_ask (cf := cf) (ix := fun x : Fin (m0 + 1) => x.val) hl hn hb h hk)
  have HN := Lib.hid hn
  have HFIN := Lib.hid (fun (D : Array (Fin (m0 + 1))) (bs : Nat) (h : ChS L (fun x => x.val) D n bs 0) (hp : PermIn 0 n d D) (hb : n ≤ bs) => (show SymP L d D 0 n from ⟨hp, (ChS.all h hb hn1).2⟩))
  have HST : Hid (St1 L (fun x => x.val) n d d 0) := Lib.hid (st1_start n d)
  clear hS hl hid hn
  generalize hW : WSt fb fo m0 w blk d q = W
  have HW := Lib.hid hW
  clear hW
  go_enter Tryz.func88, Tryz.ntmps88
  go_wp2_with fail
  go_loopw [7, 8] (fun s7 s8 wr => ∃ (k q' : Nat) (dk : Array (Fin (m0 + 1))), s7 = .int .i64 k ∧ s8 = .int .i64 ((k + 20 : Nat) : Int) ∧ k ≤ n ∧ Hid (St1 L (fun x => x.val) n d dk k) ∧ Hid (wr = WSt fb fo m0 w blk dk q')) (fun s7 _ _ => n - (intOf s7).toNat)
  case atStart => exact ⟨0, q, d, by go_num, by go_num, by omega, HST, Lib.hid HW.out.symm⟩
  case round =>
    obtain ⟨k, q', dk, rfl, rfl, hkn, HS1, HV⟩ := hrel
    have HZ : Hid (dk.size = n) := Lib.hid (HS1.out.2.2.1.trans HN.out)
    by_cases hlt : k + 20 ≤ n
    · have hltz : ((k + 20 : Nat) : Int) ≤ (n : Int) := by omega
      have HNX := Lib.hid (HSTEP.out dk k HS1.out hlt)
      have CI := HINS.out k (k + 20) dk q' wr HV.out HZ.out (by omega) hlt
      have v1 : IntKind.i64.wrap (((k + 20 : Nat) : Int) + 20) = ((k + 20 + 20 : Nat) : Int) := by rw [IntWalk.i64_in _ (by omega)]; omega
      have HKK : Hid (k < n) := Lib.hid (by omega)
      generalize hkk : k + 20 = kk at *
      have HK2 : Hid (k + 20 = kk) := Lib.hid hkk
      clear hkk
      go_wp2_with (go_at_call 106; (with_reducible refine CI.mono ?_); rintro e w1 ⟨rfl, q1, hw1⟩; have HW1 := Lib.hid hw1; clear hw1)
      go_roundw
      case rel => exact ⟨kk, q1, _, by go_num, by go_num, hlt, HNX, HW1⟩
      case measure => have := HK2.out; have := HKK.out; simp [intOf]; omega
    · have hltz : ¬ ((k + 20 : Nat) : Int) ≤ (n : Int) := by omega
      have HE := Lib.hid (HEND.out dk k HS1.out hkn (by omega))
      have CI := HINS.out k n dk q' wr HV.out HZ.out hkn (Nat.le_refl _)
      generalize insertionSort (ltOf cf) dk k n = d1 at HE CI
      generalize k + 20 = kk at *
      clear HSTEP HEND HST
      go_wp2_with (go_at_call 106; (with_reducible refine CI.mono ?_); rintro e w1 ⟨rfl, q1, hw1⟩; have HW1 := Lib.hid hw1; clear hw1)
      clear CI HV HS1 HZ
      go_loopw [6] (fun s6 wr => ∃ (bs q' : Nat) (dk : Array (Fin (m0 + 1))), s6 = .int .i64 bs ∧ 0 < bs ∧ bs ≤ 4398046511104 ∧ Hid (ChS L (fun x => x.val) dk n bs 0 ∧ PermIn 0 n d dk) ∧ Hid (wr = WSt fb fo m0 w blk dk q')) (fun s6 _ => n - (intOf s6).toNat)
      case atStart => exact ⟨20, q1, d1, by go_num, by omega, by omega, HE, HW1⟩
      case round =>
        clear HE HW1
        obtain ⟨bs, q2, d2, rfl, hb0, hb1, HC2, HV⟩ := hrel
        by_cases hbn : bs < n
        · have hbz : (bs : Int) < (n : Int) := by omega
          have v1 : IntKind.i64.wrap (2 * (bs : Int)) = ((bs + bs : Nat) : Int) := by rw [IntWalk.i64_in _ (by omega)]; omega
          go_wp2_with fail
          go_loopw [7, 8] (fun s7 s8 wr => ∃ (k q' : Nat) (dk : Array (Fin (m0 + 1))), s7 = .int .i64 k ∧ s8 = .int .i64 ((k + bs + bs : Nat) : Int) ∧ k ≤ n ∧ Hid (St2 L (fun x => x.val) n bs d dk k) ∧ Hid (wr = WSt fb fo m0 w blk dk q')) (fun s7 _ _ => n - (intOf s7).toNat)
          case atStart => exact ⟨0, q2, d2, by go_num, by go_num, by omega, Lib.hid (st2_start HC2.out.1 HC2.out.2), HV⟩
          case round =>
            clear HC2 HV
            obtain ⟨k3, q3, d3, rfl, rfl, hk3, H3, HV⟩ := hrel
            have HZ : Hid (d3.size = n) := Lib.hid (H3.out.2.2.1.trans HN.out)
            have v2 : IntKind.i64.wrap ((k3 : Int) + (bs : Int)) = ((k3 + bs : Nat) : Int) := by rw [IntWalk.i64_in _ (by omega)]; omega
            by_cases hlt3 : k3 + bs + bs ≤ n
            · have hltz3 : ((k3 + bs + bs : Nat) : Int) ≤ (n : Int) := by omega
              have CS := HSYM.out k3 (k3 + bs) (k3 + bs + bs) d3 q3 wr HV.out HZ.out (by omega) (by omega) (by have := HASK.out d3 bs k3 hb0 H3.out (by omega); rw [Nat.min_eq_left hlt3] at this; exact this)
              have HNX := Lib.hid (fun (D : Array (Fin (m0 + 1))) (hp : SymP L d3 D k3 (k3 + bs + bs)) => st2_step HN.out hb0 H3.out hlt3 hp)
              have v3 : IntKind.i64.wrap (((k3 + bs + bs : Nat) : Int) + ((bs + bs : Nat) : Int)) = ((k3 + bs + bs + bs + bs : Nat) : Int) := by rw [IntWalk.i64_in _ (by omega)]; omega
              have HKK : Hid (k3 < k3 + bs + bs) := Lib.hid (by omega)
              generalize k3 + bs + bs = k4 at *
              generalize hk5 : k4 + bs + bs = k5 at *
              have HK5 := Lib.hid hk5
              clear hk5
              generalize k3 + bs = k6 at *
              generalize bs + bs = b2 at *
              go_wp2_with (go_at_call 107; (with_reducible refine CS.mono ?_); rintro e w5 ⟨rfl, d5, q5, hp5, hw5⟩; have HW5 := Lib.hid hw5; have HP5 := Lib.hid hp5; clear hw5 hp5)
              go_roundw
              case rel => exact ⟨k4, q5, d5, by go_num, by rw [HK5.out], hlt3, Lib.hid (HNX.out d5 HP5.out), HW5⟩
              case measure => have := HKK.out; simp [intOf]; omega
            · have hltz3 : ¬ ((k3 + bs + bs : Nat) : Int) ≤ (n : Int) := by omega
              have v4 : IntKind.i64.wrap ((bs : Int) * 2) = ((bs + bs : Nat) : Int) := by rw [IntWalk.i64_in _ (by omega)]; omega
              have HB2 : Hid (0 < bs + bs ∧ bs + bs ≤ 4398046511104 ∧ bs < bs + bs) := Lib.hid (by omega)
              by_cases hm : k3 + bs < n
              · have hmz : ((k3 + bs : Nat) : Int) < (n : Int) := by omega
                have CS := HSYM.out k3 (k3 + bs) n d3 q3 wr HV.out HZ.out (by omega) hm (by have := HASK.out d3 bs k3 hb0 H3.out hm; rw [Nat.min_eq_right (by omega)] at this; exact this)
                have HNX := Lib.hid (fun (D : Array (Fin (m0 + 1))) (hp : SymP L d3 D k3 n) => st2_last HN.out hb0 H3.out hm (by omega) hp)
                generalize k3 + bs + bs = k4 at *
                generalize k3 + bs = k6 at *
                generalize bs + bs = b2 at *
                go_wp2_with (go_at_call 107; (with_reducible refine CS.mono ?_); rintro e w5 ⟨rfl, d5, q5, hp5, hw5⟩; have HW5 := Lib.hid hw5; have HP5 := Lib.hid hp5; clear hw5 hp5)
                go_roundw
                case rel => exact ⟨b2, q5, d5, by go_num, HB2.out.1, HB2.out.2.1, Lib.hid (HNX.out d5 HP5.out), HW5⟩
                case measure => have := HB2.out; simp [intOf]; omega
              · have hmz : ¬ ((k3 + bs : Nat) : Int) < (n : Int) := by omega
                have HNX := Lib.hid (st2_none hb0 H3.out hk3 (by omega))
                generalize k3 + bs + bs = k4 at *
                generalize k3 + bs = k6 at *
                generalize bs + bs = b2 at *
                go_wp2_with fail
                go_roundw
                case rel => exact ⟨b2, q3, d3, by go_num, HB2.out.1, HB2.out.2.1, HNX, HV⟩
                case measure => have := HB2.out; simp [intOf]; omega
        · have hbz : ¬ (bs : Int) < (n : Int) := by omega
          go_wp2_with fail
          go_end0
          have HF := HFIN.out d2 bs HC2.out.1 HC2.out.2 (by omega)
          first | exact ⟨rfl, d2, HF, q2, HV.out⟩ | exact ⟨rfl, d2, q2, HF, HV.out⟩

/-- The order of two fields: by their names, then by their places. -/
def LxF (names : List ByteArray) (m : Nat) (x y : Fin (m + 1)) : Bool := ltOf (cfF names m) x y || (!ltOf (cfF names m) y x && decide (x.val < y.val))
theorem swo_lxF (names : List ByteArray) (m : Nat) : SWO (LxF names m) := swoL (swo_cf names m) (fun x => x.val)
theorem lxF_hl (names : List ByteArray) (m : Nat) (x y : Fin (m + 1)) (h : x.val < y.val) : ltOf (cfF names m) y x = LxF names m y x := by
  unfold LxF
  rw [decide_eq_false (by omega : ¬ y.val < x.val), Bool.and_false, Bool.or_false]
theorem lxF_anti (names : List ByteArray) (m : Nat) (x y : Fin (m + 1)) (h1 : LxF names m x y = false) (h2 : LxF names m y x = false) : x = y := by
  unfold LxF at h1 h2
  rw [Bool.or_eq_false_iff] at h1 h2
  obtain ⟨a1, a2⟩ := h1
  obtain ⟨b1, b2⟩ := h2
  rw [b1] at a2
  rw [a1] at b2
  simp at a2 b2
  exact Fin.ext (by omega)

theorem hc_at (fb fo m : Nat) (names : List ByteArray) (blk : Nat) (w : World) (hc : ∀ i, i < m + 1 → w.cell? ⟨fb, fo + 5 * i, none⟩ = some (.string (names.getD i ⟨#[]⟩))) (hfb : fb ≠ blk) (dk : Array (Fin (m + 1))) (q i : Nat) (hi : i < m + 1) :
    (WSt fb fo m w blk dk q).cell? ⟨fb, fo + 5 * i, none⟩ = some (.string (names.getD i ⟨#[]⟩)) := by
  have e1 : (putRow (encF fb fo m) w blk 0 dk).cell? ⟨fb, fo + 5 * i, none⟩ = w.cell? ⟨fb, fo + 5 * i, none⟩ := cell?_putRow_other _ _ _ _ _ ⟨fb, fo + 5 * i, none⟩ (Or.inl hfb)
  exact e1.trans (hc i hi)

set_option maxHeartbeats 1000000 in
theorem sort_any (fb fo m : Nat) (h20 : m + 1 ≤ 1048576) (names : List ByteArray) (blk cap : Nat) (w : World) (hc : ∀ i, i < m + 1 → w.cell? ⟨fb, fo + 5 * i, none⟩ = some (.string (names.getD i ⟨#[]⟩))) (hfb : fb ≠ blk) (hH : Holds (encF fb fo m) w blk 0 (Array.ofFn (id : Fin (m + 1) → Fin (m + 1)))) :
    Calls Tryz.prog 64 #[.slice (some ⟨blk, 0, none⟩) ((m + 1 : Nat)) cap, .func (.func 65) #[] #[]] w fun e w' =>
      e = .returned (.tuple #[]) ∧ ∃ k, w' = (putRow (encF fb fo m) w blk 0 (ordA names m)).drewN k := by
  have hd : (Array.ofFn (id : Fin (m + 1) → Fin (m + 1))).size = m + 1 := by simp
  have hid : ∀ t, t < m + 1 → ((Array.ofFn (id : Fin (m + 1) → Fin (m + 1)))[t]!).val = t := fun t ht => by rw [getElem!_pos _ t (by simpa using ht)]; simp
  generalize hgd : Array.ofFn (id : Fin (m + 1) → Fin (m + 1)) = d at hH hd hid
  have hw0 : w = WSt fb fo m w blk d 0 := by
    show w = (putRow (encF fb fo m) w blk 0 d).drewN 0
    rw [putRow_self (encF fb fo m) w blk 0 d hH]; rfl
  have HC : CmpW fb fo m w blk d.size (cfF names m) := fun wr dk q x y hwr hz n => by
    subst hwr
    exact cmp_any _ _ _ _ _ (hc_at fb fo m names blk w hc hfb dk q x.val x.isLt) (hc_at fb fo m names blk w hc hfb dk q y.val y.isLt)
  have CS : Hid (Calls Tryz.prog 88 #[.slice (some ⟨blk, 0, none⟩) (m + 1 : Nat) cap, .int .i64 ((m + 1 : Nat) : Int), .func (.func 65) #[] #[]] w fun e w' => e = .returned (.tuple #[]) ∧ ∃ k, w' = (putRow (encF fb fo m) w blk 0 (ordA names m)).drewN k) := by
    have h := stab_any fb fo m w blk cap (cfF names m) (LxF names m) (swo_lxF names m) (m + 1) (by omega) (lxF_hl names m)
      (Lib.hid fun a' m' b' d' q' wr e1 e2 e3 e4 e5 => by
        have := sym_any fb fo m w blk cap d hH (by rw [hd]; omega) (cfF names m) HC (LxF names m) (swo_lxF names m) (b' - a') a' m' b' d' q' wr (Nat.le_refl _) e1 (e2.trans hd.symm) e3 e4 e5
        rw [hd] at this
        exact this)
      (Lib.hid fun a' b' d' q' wr e1 e2 e3 e4 => by
        subst e1
        have hH' : Holds (encF fb fo m) (WSt fb fo m w blk d' q') blk 0 d' := holds_putRow (encF fb fo m) w blk 0 d d' hH (e2.trans hd.symm)
        have := Any.insertionSortCmpFunc_one (ρ := Tryz.laysF20_ren) Tryz.laysF20 (encF fb fo m) (oneF fb fo m) (cfF names m) 65 #[] blk 0 cap a' b' d' (WSt fb fo m w blk d' q') (by intro args w; rfl)
          (cmp_reads fb fo m names blk _ (fun i hi => hc_at fb fo m names blk w hc hfb d' q' i hi) hfb d'.size) hH' e3 (by omega) (by omega)
        rw [e2] at this
        refine this.mono ?_
        rintro e w' ⟨rfl, n, rfl⟩
        refine ⟨rfl, q' + n, ?_⟩
        show (putRow _ (Go.Sort.ahead (putRow _ w blk 0 d') q') blk 0 _).drewN n = _
        rw [putRow_ahead, putRow_putRow _ _ _ _ _ _ ((insertionSort_holds (swo_cf names m) d' a' b' e3 (by omega)).1.1)]
        exact WSt_drewN q' n)
      d 0 hd hid (by omega)
    rw [← hw0] at h
    refine h.mono ?_
    rintro e w' ⟨rfl, D, q', hp, rfl⟩
    refine ⟨rfl, q', ?_⟩
    have e1 : D = ordA names m := by
      unfold ordA
      rw [hgd, insS_same (L := LxF names m) (ix := fun x => x.val) (lxF_hl names m) d 0 (m + 1) (by omega) (fun t u x1 x2 x3 => by
        show (d[t]!).val < (d[u]!).val
        rw [hid t (by omega), hid u x3]; exact x2)]
      obtain ⟨p, s⟩ := insertionSort_holds (swo_lxF names m) d 0 (m + 1) (Nat.zero_le _) (by omega)
      exact sorted_one (swo_lxF names m) (lxF_anti names m) hd hp.1 hp.2 p s
    rw [e1]; rfl
  generalize ordA names m = D at CS ⊢
  clear hH hc HC hw0 hid hgd hd
  rw [show ((m + 1 : Nat) : Int) = (m : Int) + 1 by omega] at CS
  go_enter Tryz.func64, Tryz.ntmps64
  go_wp2_with (go_at_call 88; (with_reducible refine CS.out.mono ?_); rintro e w1 ⟨rfl, hw1⟩)
  go_end0
  exact ⟨rfl, hw1⟩
end Go.Proofs.YtaniebkfgkhgoaaGreatDoor
