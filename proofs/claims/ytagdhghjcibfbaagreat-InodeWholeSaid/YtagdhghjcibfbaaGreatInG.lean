/- Layer 8: fits, set; Read, Write, Truncate. -/
import Derived.Test.YtagdhghjcibfbaaGreatInF
import Derived.BigQuiet
import Derived.Deep.QuietTactic
namespace Go.Proofs.YtagdhghjcibfbaaGreat
open Go.RowKit
set_option linter.unusedVariables false
set_option maxRecDepth 100000

theorem setData_nodes (T : Tb) (id : Int) (d : List UInt8) : (T.setData id d).nodes = amod id (Nd.setData d) T.nodes := rfl
section
variable {w : World} {t : Nat} {T : Tb} {A : Int → Nat × Nat} {mb : Nat} (h : TbAt w t T A mb) (ok : Ok T) {id : Int} {n : Nd} (hn : aget id T.nodes = some n)
include h ok hn
theorem fits_any (len : Int) (h0 : 0 ≤ len) (h1 : len ≤ 1099511627776) :
    Calls Tryz.prog 48 #[.pointer (some ⟨t, 0, none⟩), .pointer (some ⟨(A id).1, 0, none⟩), .int .i64 len] w fun e w' => e = .returned (.bool (T.fitsB id len)) ∧ Below w.heap.size w w' := by
  have hq := ok.quo
  have hd := ok.dat _ _ hn
  have hz := bs_size n.data
  unfold Tb.fitsB
  rw [nd_of hn]
  have c0 := h.tb.c0
  have c1 := h.tb.c1
  have c3 := (h.nd id n hn).c3
  have w1 : IntKind.i64.wrap (len - ((bs n.data).size : Int)) = len - (n.data.length : Int) := by rw [IntWalk.i64_in _ (by omega), hz]
  generalize len - (n.data.length : Int) = l at *
  obtain ⟨r, hr⟩ : ∃ r, r = T.quota - T.used := ⟨_, rfl⟩
  have w3 : wrap64 (T.quota - T.used) = r := (IntWalk.wrap64_in _ (by omega)).trans hr.symm
  rw [← hr]
  clear hq hd hz h0 h1 hr
  go_enter Tryz.func48, Tryz.ntmps48
  go_wp2_with fail
  go_quiet (fail)
  go_wp2_with fail
  go_ret
  exact ⟨rfl, below_drewN8 (Below.refl _ _) _⟩
theorem set_any (d : List UInt8) (hd : d.length ≤ 1099511627776) :
    Calls Tryz.prog 49 #[.pointer (some ⟨t, 0, none⟩), .pointer (some ⟨(A id).1, 0, none⟩), .string (bs d)] w fun e w' => e = .returned (.tuple #[]) ∧ TbAt w' t (T.setData id d) A mb ∧ Ch (Own t mb A T.nodes) w w' := by
  have hq := ok.quo
  have hd2 := ok.dat _ _ hn
  have hz := bs_size n.data
  have hz2 := bs_size d
  have c1 := h.tb.c1
  have f1 := h.tb.fr 1
  have c3 := (h.nd id n hn).c3
  have f3 := (h.nd id n hn).fr 3
  have hne : (A id).1 ≠ t := nb_qb (h.nd id n hn) h.tb
  have w1 : IntKind.i64.wrap (((bs d).size : Int) - ((bs n.data).size : Int)) = (d.length : Int) - (n.data.length : Int) := by rw [IntWalk.i64_in _ (by omega), hz, hz2]
  obtain ⟨u, hu⟩ : ∃ u, u = T.used + ((d.length : Int) - (n.data.length : Int)) := ⟨_, rfl⟩
  have w2 : IntKind.i64.wrap (T.used + ((d.length : Int) - (n.data.length : Int))) = u := (IntWalk.i64_in _ (by omega)).trans hu.symm
  have w3 : wrap64 (T.used + ((d.length : Int) - (n.data.length : Int))) = u := (IntWalk.wrap64_in _ (by omega)).trans hu.symm
  have H := Lib.hid h
  obtain ⟨l, hgl⟩ : ∃ l, l = (d.length : Int) - (n.data.length : Int) := ⟨_, rfl⟩
  rw [← hgl] at w1 w2 w3 hu
  have HU := Lib.hid hu
  have HGL := Lib.hid hgl
  clear hq hd hd2 hz hz2 hu hgl h
  go_enter Tryz.func49, Tryz.ntmps49
  go_wp2_with fail
  go_still_tail 15, (by kernel_rfl)
  change wpList _ _ _ _ _ w.drew
  have HC : Hid (TbAt w.drew t T A mb) := Lib.hid (H.out.ch (M := fun _ => False) (ch_drew _ w) (fun _ _ e => e))
  have HQ : Hid (Ch (Own t mb A T.nodes) w w.drew) := Lib.hid (ch_drew _ w)
  clear c1 f1 c3 f3
  generalize w.drew = w1 at *
  have H2 : Hid (TbAt (w1.setCell ⟨t, 1, none⟩ (.int .i64 u)) t ⟨T.quota, u, T.last, T.nodes⟩ A mb) := Lib.hid (HC.out.upd_q (Ch.set _ _ _ rfl) (HC.out.tb.s1))
  have c1 := HC.out.tb.c1
  have f1 := HC.out.tb.fr 1
  have c3 := (H2.out.nd id n hn).c3
  have f3 := (H2.out.nd id n hn).fr 3
  go_wp2_with fail
  go_end0
  refine ⟨rfl, ?_, ?_⟩
  · have h3 := H2.out.upd_nd hn (Nd.setData d) rfl rfl (w' := (w1.setCell ⟨t, 1, none⟩ (.int .i64 u)).setCell ⟨(A id).1, 3, none⟩ (.string (bs d))) (Ch.set _ _ _ rfl) ((H2.out.nd id n hn).s3)
    have e : T.setData id d = ({ quota := T.quota, used := u, last := T.last, nodes := T.nodes } : Tb).upd id (Nd.setData d) := by
      unfold Tb.setData Tb.upd
      rw [nd_of hn, HU.out, HGL.out]
    rw [e]; exact h3
  · exact (HQ.out.step (Ch.set _ _ _ (.inl rfl))).step (Ch.set _ _ _ (.inr (.inr ⟨id, n, hn, .inl rfl⟩)))
end
end Go.Proofs.YtagdhghjcibfbaaGreat
