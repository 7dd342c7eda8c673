/- Contracts of (*Stream).Add where nothing was taken yet, where there is no Stream, and where there are no bytes; of Len, Reset and pad. -/
import Derived.Test.YtjmiekhjkeioaaaDoorShaD
namespace Go.Proofs.YtjmiekhjkeioaaaDoor
open Go.RowKit
set_option linter.unusedVariables false

theorem init8_size : init8.arr.size = 8 := rfl
theorem init8_one : init8.arr.all (·.oneCell') = true := by kernel_rfl
/-- The first words are laid. -/
theorem first_start {w w1 : World} {b : Nat} (hs : StrOf w b []) (ht : TabOK w) (hb0 : b ≠ 0) (hb : Below w.heap.size w w1) : AddInv w b [] (w1.setCells b 0 init8.arr.toList) := by
  obtain ⟨h, wt, hst, -, -⟩ := hs
  have o : Only b w w1 := Only.of_below hb
  refine ⟨⟨wt, ?_, fun j hj => by simp at hj⟩, ht.only hb0 (Only.setCells _ 0 o), Only.setCells _ 0 o⟩
  refine (rowIs_setCells init8.arr.toList 0 (World.rowIs.of_block hst (hb.block b hst.lt))).congr (fun j hj => ?_)
  have e8 : init8.arr.toList.length = 8 := rfl
  rw [e8]
  unfold strCell
  by_cases h8 : j < 8
  · rw [if_pos (by omega), if_pos h8]
    rcases j with _ | _ | _ | _ | _ | _ | _ | _ | j
    all_goals first | omega | rfl
  · rw [if_neg (by omega), if_neg h8, if_neg h8]
theorem first_there {w w1 : World} {b : Nat} (hs : StrOf w b []) (hb : Below w.heap.size w w1) : w1.there b 0 init8.arr.size := by
  obtain ⟨h, wt, hst, -, -⟩ := hs
  exact there_row (World.rowIs.of_block hst (hb.block b hst.lt)) 0 8 (by omega)

set_option maxRecDepth 100000 in
theorem add_first (b : Nat) (s : ByteArray) (w : World) (hs : StrOf w b []) (ht : TabOK w) (hb0 : b ≠ 0) (hsz : s.data.toList.length ≤ 1000000) (hne : s.data.toList ≠ []) :
    Calls Tryd.prog 27 #[.pointer (some ⟨b, 0, none⟩), .string s] w fun e w' => e = .returned (.tuple #[]) ∧ StrOf w' b s.data.toList ∧ TabOK w' ∧ Only b w w' := by
  have HS := Lib.hid hs
  have HT := Lib.hid ht
  have c72 : w.cell? ⟨b, 72, none⟩ = some (.int .i64 0) := by obtain ⟨h, wt, hst, -, -⟩ := hs; exact hst.len
  have hlt : b < w.heap.size := by obtain ⟨h, wt, hst, -, -⟩ := hs; exact hst.lt
  have hne1 := isEmpty_ne hne
  have HNE := Lib.hid hne
  clear hs ht hne
  go_enter Tryd.func27, Tryd.ntmps27
  go_wp2_with (first
    | (go_at_call 40; refine (fw_any _).mono ?_; rintro e w1 ⟨rfl, hb1⟩; have HB1 := Lib.hid hb1; clear hb1)
    | (refine wpList_store_mid rfl 59 _ _ rfl b 0 init8.arr rfl rfl (first_there HS.out HB1.out) info28 init8_one ?_))
  have HI := Lib.hid (first_start HS.out HT.out hb0 HB1.out)
  clear c72 hne1 HS HT HB1
  generalize w1.setCells b 0 init8.arr.toList = w1' at HI ⊢
  go_frame
  go_loopw [1] (fun v wr => ∃ (d : List UInt8) (p : ByteArray), v = .string p ∧ Hid (d ++ p.data.toList = s.data.toList) ∧ d.length ≤ 2000000 ∧ Hid (AddInv w b d wr)) (fun v _ => (strOf v).size)
  case atStart => exact ⟨[], s, rfl, rfl, by simp, HI⟩
  case round =>
    obtain ⟨d, p, rfl, hdp, hd, HA⟩ := hrel
    by_cases hp : p.data.toList = []
    · have hp1 := isEmpty_eq hp
      go_wp2_with fail
      go_end0
      refine ⟨rfl, ?_, HA.out.2.1, HA.out.2.2⟩
      have e : d = s.data.toList := by have := hdp.out; rwa [hp, List.append_nil] at this
      obtain ⟨⟨wt, q1, q2⟩, -⟩ := HA.out
      rw [← e]
      exact ⟨_, wt, q1, fun _ => rfl, q2⟩
    · have hp1 := isEmpty_ne hp
      have hsl := fun w0 => slice29b b d.length w0
      obtain ⟨⟨wt, q1, -⟩, -⟩ := id HA.out
      have c72 := q1.len
      go_wp2_with fail
      go_still_tail 10, (by kernel_rfl)
      change wpList _ _ _ _ _ wr.drew
      have HA2 := Lib.hid (HA.out.drewN 1)
      rw [← World.drew_is_drewN] at HA2
      clear HA c72 q1 wt hsl HI
      generalize wr.drew = w2 at HA2
      obtain ⟨m, hm⟩ : ∃ m, m = min p.data.toList.length (64 - d.length % 64) := ⟨_, rfl⟩
      have HM := Lib.hid hm
      have hm1 : 1 ≤ m := by have := List.length_pos_iff.2 hp; omega
      have hm2 : m ≤ 64 - d.length % 64 := by omega
      have hm3 : m ≤ p.data.toList.length := by omega
      clear hm
      obtain ⟨cs, hcs⟩ : ∃ cs, cs = (p.data.toList.take m).map byteV := ⟨_, rfl⟩
      have HC := Lib.hid hcs
      clear hcs
      obtain ⟨⟨wt, q1, -⟩, -⟩ := id HA2.out
      have HTH := Lib.hid (there_row q1 (8 + d.length % 64) m (by omega))
      clear q1 wt
      refine wpList_copy_str rfl _ _ 52 9 rfl 5 Tryd.underlying52 info5 b (8 + d.length % 64) (64 - d.length % 64) (64 - d.length % 64) p rfl rfl m HM.out HTH.out cs HC.out ?_
      obtain ⟨wt, q1, q2⟩ := HA2.out.put hb0 p.data.toList m HM.out (List.length_pos_iff.2 hp)
      obtain ⟨q3, q4⟩ := HA2.out.rest hb0 cs (8 + d.length % 64) (.int .i64 ((d.length : Int) + (m : Int)))
      rw [← HC.out] at q1
      have c72 : (w2.setCells b (8 + d.length % 64) cs).cell? ⟨b, 72, none⟩ = some (.int .i64 (d.length : Int)) := by
        obtain ⟨⟨wt, q1, -⟩, -⟩ := id HA2.out
        rw [World.cell?_setCells_out b cs _ _ _ (fun _ _ => Or.inr (by rw [HC.out, List.length_map, List.length_take]; show 8 + d.length % 64 + _ ≤ 72; omega))]
        exact q1.len
      have f72 : (w2.setCells b (8 + d.length % 64) cs).frozen? ⟨b, 72, none⟩ = false := by
        obtain ⟨⟨wt, q1, -⟩, -⟩ := id HA2.out
        rw [World.frozen?_setCells]; exact q1.frozen 72
      generalize w2.setCells b (8 + d.length % 64) cs = w3 at q1 q3 q4 c72 f72 ⊢
      have H1 := Lib.hid q1
      have H2 := Lib.hid q2
      have H3 := Lib.hid q3
      have H4 := Lib.hid q4
      clear q1 q2 q3 q4 HTH HC HA2
      have hmp : (m : Int) ≤ (p.size : Int) := by rw [size_toList]; omega
      have hm0 : (0 : Int) ≤ (m : Int) := by omega
      go_wp2_with (go_at_call 41; refine (tb_any b _ wt _ _ H1.out H3.out).mono ?_; rintro e w5 ⟨rfl, t1, t2⟩; have T1 := Lib.hid t1; have T2 := Lib.hid t2; clear t1 t2)
      all_goals
        rename_i hmod
        have hmod' : (d.length + m) % 64 = 0 ∨ (d.length + m) % 64 ≠ 0 := by omega
        go_roundw
        case rel =>
          refine ⟨d ++ p.data.toList.take m, p.extract m p.size, rfl, ?_, ?_, ?_⟩
          · show _ = _
            rw [extract_rest, List.append_assoc, List.take_append_drop]; exact hdp.out
          · have e := congrArg List.length hdp.out
            rw [List.length_append] at e
            rw [List.length_append, List.length_take]; omega
          · first
              | exact add_full (by have h := hmod; simp at h; omega) HM.out H2.out H3.out H4.out T1.out T2.out hb0
              | exact add_part (by have h := hmod; simp at h; omega) HM.out H1.out H2.out H3.out H4.out
        case measure =>
          show (p.extract m p.size).size < p.size
          rw [size_toList, extract_rest, List.length_drop, size_toList]; omega

/-- Add, whatever was taken and whatever comes. -/
theorem add_any (b : Nat) (l : List UInt8) (s : ByteArray) (w : World) (hs : StrOf w b l) (ht : TabOK w) (hb0 : b ≠ 0) (hlen : l.length ≤ 1000000) (hsz : s.data.toList.length ≤ 1000000) :
    Calls Tryd.prog 27 #[.pointer (some ⟨b, 0, none⟩), .string s] w fun e w' => e = .returned (.tuple #[]) ∧ StrOf w' b (l ++ s.data.toList) ∧ TabOK w' ∧ Only b w w' := by
  by_cases hne : s.data.toList = []
  · have he := isEmpty_eq hne
    have H0 := Lib.hid (show StrOf w b (l ++ s.data.toList) by rw [hne, List.append_nil]; exact hs)
    have H1 := Lib.hid ht
    clear hne hs ht
    go_enter Tryd.func27, Tryd.ntmps27
    go_wp2_with fail
    exact bodyPost_ret (results_none rfl _ _ _) rfl ⟨rfl, H0.out, H1.out, Only.refl _ _⟩
  · by_cases hl : l.length = 0
    · obtain rfl : l = [] := List.eq_nil_of_length_eq_zero hl
      exact add_first b s w hs ht hb0 hsz hne
    · exact add_some b l s w hs ht hb0 hlen hsz hne hl
theorem add_nil (s : ByteArray) (w : World) :
    Calls Tryd.prog 27 #[.pointer none, .string s] w fun e w' => e = .returned (.tuple #[]) ∧ w = w' := by
  go_enter Tryd.func27, Tryd.ntmps27
  go_wp2_with fail
  exact bodyPost_ret (results_none rfl _ _ _) rfl ⟨rfl, rfl⟩
end Go.Proofs.YtjmiekhjkeioaaaDoor
