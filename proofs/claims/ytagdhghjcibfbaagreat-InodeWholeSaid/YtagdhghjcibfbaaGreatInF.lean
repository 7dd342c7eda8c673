/- Layer 8: first, fits, set. -/
import Derived.Test.YtagdhghjcibfbaaGreatInE
import Derived.StillTailTactics
import Derived.Deep.RegionHeld3
namespace Go.Proofs.YtagdhghjcibfbaaGreat
open Go.RowKit
set_option linter.unusedVariables false
set_option maxRecDepth 100000

theorem ch_drewN (M : Nat → Prop) (w : World) (n : Nat) : Ch M w (w.drewN n) := ⟨rfl, rfl, rfl, Nat.le_refl _, fun _ _ _ => rfl⟩
theorem ch_drew (M : Nat → Prop) (w : World) : Ch M w w.drew := ⟨rfl, rfl, rfl, Nat.le_refl _, fun _ _ _ => rfl⟩
theorem Ch.step {M : Nat → Prop} {a b c : World} (h : Ch M a b) (k : Ch M b c) : Ch M a c := h.trans k (fun _ _ e => e)
theorem bs_ext (l : List UInt8) (i j : Nat) : (bs l).extract i j = bs ((l.drop i).take (j - i)) := by
  have := of_bs ((bs l).extract i j)
  rw [← this, Lib.extract_data, bs_list]
theorem rep_zero (c : Nat) : Lib.repeatL [0] c = List.replicate c 0 := by
  induction c with
  | zero => rfl
  | succ c ih => unfold Lib.repeatL; rw [ih]; rfl
theorem own_mod {t mb : Nat} {A : Int → Nat × Nat} {l : List (Int × Nd)} {id : Int} {f : Nd → Nd} (hf : ∀ n, (f n).dir = n.dir) {k : Nat} (h : Own t mb A (amod id f l) k) : Own t mb A l k := by
  rcases h with h | h | ⟨i, n, hn, h⟩
  · exact .inl h
  · exact .inr (.inl h)
  · refine .inr (.inr ?_)
    rw [aget_mod] at hn
    split at hn
    · next e =>
      cases hg : aget id l with
      | none => rw [hg] at hn; cases hn
      | some m =>
        rw [hg] at hn; cases hn
        refine ⟨i, m, e ▸ hg, ?_⟩
        rw [hf] at h; exact h
    · exact ⟨i, n, hn, h⟩
theorem firstL_len {d : List UInt8} {k : Nat} : (firstL d k).length = k := by
  unfold firstL
  split
  · rw [List.length_take]; omega
  · rw [List.length_append, List.length_replicate]; omega

theorem first_any (w : World) (nb : Nat) (d : List UInt8) (k : Nat) (c3 : w.cell? ⟨nb, 3, none⟩ = some (.string (bs d))) (hlt : nb < w.heap.size) (hd : d.length ≤ 1099511627776) (hk : k ≤ 1099511627776) :
    Calls Tryz.prog 50 #[.pointer (some ⟨nb, 0, none⟩), .int .i64 (k : Int)] w fun e w' => e = .returned (.string (bs (firstL d k))) ∧ Below w.heap.size w w' := by
  have hz := bs_size d
  by_cases h : k ≤ d.length
  · have e : (bs d).extract 0 k = bs (firstL d k) := by rw [bs_ext]; unfold firstL; rw [if_pos h, List.drop_zero]; rfl
    have h1 : (k : Int) ≤ ((bs d).size : Int) := by omega
    have h0 : (0 : Int) ≤ (k : Int) := by omega
    clear hz
    go_enter Tryz.func50, Tryz.ntmps50
    go_wp2
    go_ret
    exact ⟨by rw [← e]; rfl, Below.refl _ _⟩
  · have e : bs (firstL d k) = bs d ++ bs (List.replicate (k - d.length) 0) := by rw [bs_cat]; unfold firstL; rw [if_neg h]
    have h1 : ((bs d).size : Int) < (k : Int) := by omega
    have hw : IntKind.i64.wrap ((k : Int) - ((bs d).size : Int)) = ((k - d.length : Nat) : Int) := by rw [IntWalk.i64_in _ (by omega)]; omega
    have CR := Lib.hid (fun w0 : World => Tryz.strings_Repeat ⟨#[0]⟩ (k - d.length) w0 (by omega) (by show 1 * _ ≤ _; omega))
    rw [show (⟨(Lib.repeatL (⟨#[0]⟩ : ByteArray).data.toList (k - d.length)).toArray⟩ : ByteArray) = bs (List.replicate (k - d.length) 0) from by rw [← rep_zero]; rfl] at CR
    have hadd : ∀ w0 : World, (Op.stringOp .add (bs d) (bs (List.replicate (k - d.length) 0))).run Tryz.prog w0 = .ok (.string (bs (firstL d k))) w0 := fun w0 => by
      rw [bs_add w0 _ _ (by rw [List.length_replicate]; omega), e, bs_cat]
    generalize bs (firstL d k) = out at *
    generalize bs (List.replicate (k - d.length) 0) = rp at *
    clear e hz
    go_enter Tryz.func50, Tryz.ntmps50
    go_wp2_with fail
    go_region_held3 (fun w' => w'.cell? ⟨nb, 3, none⟩ = some (.string (bs d)) ∧ Below w.heap.size w w')
      (first | exact ⟨c3, Below.refl _ _⟩ | exact ⟨c3, (Below.refl _ _).drew⟩ | exact ⟨(hbd.cell hlt).trans c3, hbd⟩ | exact ⟨(hbd.cell hlt).trans c3, (Below.refl _ _).drew.trans hbd⟩ | go_keep)
      (first
        | (go_at_call 78; (with_reducible refine (CR.out _).mono ?_); rintro e wd ⟨rfl, hbd⟩))
    have HB : Hid (Below w.heap.size w wd) := by first | exact Lib.hid hbd | exact Lib.hid ((Below.refl _ _).drew.trans hbd)
    clear hbd
    go_wp2_with fail
    go_ret
    exact ⟨rfl, HB.out⟩
end Go.Proofs.YtagdhghjcibfbaaGreat
