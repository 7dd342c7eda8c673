/- Contracts of what tells whether a text is that of a number. The contract of isNumber: whether a text is that of a number. Values as trees in memory; the unfinished ones of a parser, each with a row of its own; what a step leaves as it was. Contracts of the parser's leaves: skip, take, takeQuoted. The contract of single: a word, a string or a number. -/
import Derived.Test.YtaniebkfgkhgoaaGreatDoorJ1
import Derived.Test.YtaniebkfgkhgoaaGreatDoorJ0
import Derived.Test.YtaniebkfgkhgoaaGreatDoorJ2
import Derived.BigQuiet
import Derived.Laws.OwnMore
import Derived.Deep.OwnRows
import Derived.Deep.QuietTactic
import Derived.Deep.RegionHeld3
import Derived.IntWalk
import Derived.Laws.ResultCell
import Derived.Laws.Rows
namespace Go.Proofs.YtaniebkfgkhgoaaGreatDoor
open Go.RowKit
set_option linter.unusedVariables false
set_option maxRecDepth 100000

/-- A list of bytes as a string. -/
def bs (l : List UInt8) : ByteArray := ⟨l.toArray⟩
theorem bs_list (l : List UInt8) : (bs l).data.toList = l := rfl
theorem bs_size (l : List UInt8) : (bs l).size = l.length := by show l.toArray.size = _; simp
theorem of_bs (s : ByteArray) : bs s.data.toList = s := by cases s; rfl
theorem bs_eq {s : ByteArray} {l : List UInt8} (h : s.data.toList = l) : s = bs l := by rw [← h, of_bs]
theorem bs_isEmpty (l : List UInt8) : (bs l).toList.isEmpty = l.isEmpty := by rw [Lib.toList_data, bs_list]
theorem bs_extract (l : List UInt8) (a : Nat) (h : a ≤ l.length) : (bs l).extract a (bs l).size = bs (l.drop a) := by
  apply bs_eq; rw [ext_list, bs_list]
theorem bs_extract0 (l : List UInt8) (k : Nat) : (bs l).extract 0 k = bs (l.take k) := by
  apply bs_eq; rw [Lib.extract_data, bs_list]; simp

theorem cutF_any (l : List UInt8) (hl : l.length ≤ 1099511627776) (w : World) :
    Calls Tryz.prog 80 #[.string (bs l)] w fun e w' => e = .returned (.tuple #[.string (bs (figL l)), .string (bs (figR l))]) ∧ Below w.heap.size w w' := by
  obtain ⟨t, ht⟩ : ∃ t, t = bs (figR l) := ⟨_, rfl⟩
  have h1 : t.size ≤ (bs l).size := by rw [ht, bs_size, bs_size]; exact trimLeftS_len _ _
  have h2 : (bs l).size ≤ 1099511627776 := by rw [bs_size]; exact hl
  have HE : Hid ((bs l).extract 0 ((bs l).size - t.size) = bs (figL l)) := by
    show (bs l).extract 0 ((bs l).size - t.size) = bs (figL l)
    rw [bs_extract0, ht, bs_size, bs_size]; rfl
  have HC : ∀ w0 : World, Calls Tryz.prog 67 #[.string (bs l), .string ⟨#[48, 49, 50, 51, 52, 53, 54, 55, 56, 57]⟩] w0 fun e w' => e = .returned (.string t) ∧ Below w0.heap.size w0 w' := fun w0 => by
    rw [ht]; exact trim_any (bs l) ⟨#[48, 49, 50, 51, 52, 53, 54, 55, 56, 57]⟩ w0 (by decide) (by decide)
  have HC' := Lib.hid HC
  rw [← ht]
  clear HC ht
  generalize bs l = s at *
  go_enter Tryz.func80, Tryz.ntmps80
  go_wp2_with (go_at_call 67; (with_reducible refine (HC'.out _).mono ?_); rintro e w1 ⟨rfl, hb⟩)
  go_ret2
  exact ⟨by show Ending.returned (Value.tuple #[.string (s.extract 0 (s.size - t.size)), .string t]) = _; rw [HE.out], hb⟩

theorem cutF_of (s : ByteArray) (l : List UInt8) (h : s = bs l) (hl : l.length ≤ 1099511627776) (w : World) :
    Calls Tryz.prog 80 #[.string s] w fun e w' => e = .returned (.tuple #[.string (bs (figL l)), .string (bs (figR l))]) ∧ Below w.heap.size w w' := by
  subst h; exact cutF_any l hl w

theorem has1 (l : List UInt8) (c : UInt8) : Lib.hasPrefix l [c] = decide (l.head? = some c) := by
  show List.isPrefixOf [c] l = _
  cases l with
  | nil => rfl
  | cons a r =>
    show (c == a && List.isPrefixOf [] r) = _
    rw [show List.isPrefixOf ([] : List UInt8) r = true by cases r <;> rfl, Bool.and_true, List.head?_cons]
    by_cases h : c = a
    · subst h; simp
    · rw [beq_eq_false_iff_ne.2 h, eq_comm, decide_eq_false_iff_not]; intro e; exact h (Option.some.inj e).symm
theorem has_pos {l : List UInt8} {c : UInt8} (h : Lib.hasPrefix l [c] = true) : 1 ≤ l.length := by
  rw [has1] at h; cases l <;> simp at h ⊢
theorem sign_len (l : List UInt8) : (signR l).length ≤ l.length := by
  unfold signR; split <;> simp

/-- Whether digits stand there, and nothing behind them. -/
def onlyFig (l : List UInt8) : Bool := (figL l ≠ []) && (figR l = [])

theorem ret_bool {a b : Bool} (h : a = b) : Ending.returned (.bool a) = .returned (.bool b) := by rw [h]
theorem bs_nil {l : List UInt8} (h : (bs l).toList = []) : l = [] := by rw [Lib.toList_data, bs_list] at h; exact h
theorem bs_nnil {l : List UInt8} (h : ¬ (bs l).toList = []) : l ≠ [] := fun e => h (by rw [Lib.toList_data, bs_list]; exact e)
theorem only_no {A B : List UInt8} (h : (bs A).toList = []) : Ending.returned (.bool false) = .returned (.bool (decide (A ≠ []) && decide (B = []))) := by
  rw [bs_nil h]; rfl
theorem only_yes {A B : List UInt8} (h : ¬ (bs A).toList = []) : Ending.returned (.bool (!(bs A).toList.isEmpty && (bs B).toList.isEmpty)) = .returned (.bool (decide (A ≠ []) && decide (B = []))) := by
  apply ret_bool
  rw [bs_isEmpty, bs_isEmpty, decide_eq_true (bs_nnil h), Bool.true_and]
  have := bs_nnil h
  cases A with
  | nil => exact absurd rfl this
  | cons a r => cases B <;> rfl

set_option maxHeartbeats 1000000 in
/-- Behind the e: a sign, or none (the text m is what is cut then). -/
theorem exp_mid (z : Int) (hz : z = 101 ∨ z = 69) (s : ByteArray) (l : List UInt8) (hs1 : 0 < s.size) (hs2 : s.size ≤ 1099511627776) (hx : s.extract 1 s.size = bs l) (hl : l.length ≤ 1099511627775) (he : (s[0].toNat : Int) = z) (w : World) :
    Calls Tryz.prog 83 #[.string s] w fun e w' => e = .returned (.bool (onlyFig (signR l))) ∧ Below w.heap.size w w' := by
  have HM := Lib.hid (sign_len l)
  have PP : Hid (∀ (c : UInt8) w0, Calls Tryz.prog 94 #[.string (bs l), .string ⟨#[c]⟩] w0 fun e w' => e = .returned (.bool (Lib.hasPrefix l [c])) ∧ w0 = w') := fun c w0 => hasPrefix_any (bs l) ⟨#[c]⟩ w0
  have h1 : Lib.hasPrefix l [43] = true ∨ Lib.hasPrefix l [45] = true → 1 ≤ (bs l).size := by rw [bs_size]; exact fun h => h.elim has_pos has_pos
  have HC : Hid (∀ w0, Calls Tryz.prog 80 #[.string (bs (signR l))] w0 fun e w' => e = .returned (.tuple #[.string (bs (figL (signR l))), .string (bs (figR (signR l)))]) ∧ Below w0.heap.size w0 w') :=
    fun w0 => cutF_any _ (by have := HM.out; omega) w0
  have HY : 1 ≤ l.length → (bs l).extract 1 (bs l).size = bs (l.drop 1) := bs_extract l 1
  have HB : (bs l).size = l.length := bs_size l
  unfold onlyFig
  rcases hz with rfl | rfl
  all_goals
    cases h43 : Lib.hasPrefix l [43] with
    | true =>
      have h1' := h1 (.inl h43)
      have hy : (bs l).extract 1 (bs l).size = bs (signR l) := by rw [HY (by omega)]; unfold signR; rw [if_pos (Or.inl h43)]
      generalize figL (signR l) = A at HC ⊢
      generalize figR (signR l) = B at HC ⊢
      generalize bs (signR l) = M at HC hy
      clear HM h1 HY HB
      go_enter Tryz.func83, Tryz.ntmps83
      go_wp2_with (first
        | (go_at_call 94; (with_reducible refine (PP.out _ _).mono ?_); rintro e w1 ⟨rfl, rfl⟩)
        | (go_at_call 80; (with_reducible refine (HC.out _).mono ?_); rintro e w1 ⟨rfl, hb⟩))
      · go_ret; exact ⟨only_no (by assumption), hb⟩
      · go_ret; exact ⟨only_yes (by assumption), hb⟩
    | false =>
      cases h45 : Lib.hasPrefix l [45] with
      | true =>
        have h1' := h1 (.inr h45)
        have hy : (bs l).extract 1 (bs l).size = bs (signR l) := by rw [HY (by omega)]; unfold signR; rw [if_pos (Or.inr h45)]
        generalize figL (signR l) = A at HC ⊢
        generalize figR (signR l) = B at HC ⊢
        generalize bs (signR l) = M at HC hy
        clear HM h1 HY HB
        go_enter Tryz.func83, Tryz.ntmps83
        go_wp2_with (first
          | (go_at_call 94; (with_reducible refine (PP.out _ _).mono ?_); rintro e w1 ⟨rfl, rfl⟩)
          | (go_at_call 80; (with_reducible refine (HC.out _).mono ?_); rintro e w1 ⟨rfl, hb⟩))
        · go_ret; exact ⟨only_no (by assumption), hb⟩
        · go_ret; exact ⟨only_yes (by assumption), hb⟩
      | false =>
        have hy : bs (signR l) = bs l := by unfold signR; rw [if_neg (by rw [h43, h45]; simp)]
        rw [hy] at HC
        generalize figL (signR l) = A at HC ⊢
        generalize figR (signR l) = B at HC ⊢
        clear HM h1 HY HB hy
        go_enter Tryz.func83, Tryz.ntmps83
        go_wp2_with (first
          | (go_at_call 94; (with_reducible refine (PP.out _ _).mono ?_); rintro e w1 ⟨rfl, rfl⟩)
          | (go_at_call 80; (with_reducible refine (HC.out _).mono ?_); rintro e w1 ⟨rfl, hb⟩))
        · go_ret; exact ⟨only_no (by assumption), hb⟩
        · go_ret; exact ⟨only_yes (by assumption), hb⟩

theorem u8_eq {c d : UInt8} (h : (c.toNat : Int) = (d.toNat : Int)) : c = d := UInt8.toNat_inj.1 (by omega)
theorem exp_any (s : ByteArray) (m : List UInt8) (hm : m ≠ []) (h : s = bs m) (hl : m.length ≤ 1099511627775) (w : World) :
    Calls Tryz.prog 83 #[.string s] w fun e w' => e = .returned (.bool (expG m)) ∧ Below w.heap.size w w' := by
  obtain ⟨c, l, rfl⟩ := List.exists_cons_of_ne_nil hm
  have hs1 : 0 < s.size := by rw [h, bs_size]; simp
  have hs2 : s.size ≤ 1099511627776 := by rw [h, bs_size]; omega
  have hz : s[0] = c := by simp only [h]; rfl
  have HX : s.extract 1 s.size = bs l := by rw [h]; exact bs_extract (c :: l) 1 (by simp)
  by_cases hc : c = 101 ∨ c = 69
  · have HR : expG (c :: l) = onlyFig (signR l) := by unfold expG; rw [if_pos (by simpa using hc)]; rfl
    rw [HR]
    exact exp_mid c.toNat (by rcases hc with rfl | rfl <;> decide) s l hs1 hs2 HX (by simp at hl; omega) (by rw [hz]) w
  · have HR : Hid (expG (c :: l) = false) := by show expG (c :: l) = _; unfold expG; rw [if_neg (by simpa using hc)]
    have e1 : ((s[0].toNat : Int) != 101) = true := by rw [hz]; simp only [bne_iff_ne, ne_eq]; exact fun e => hc (.inl (u8_eq e))
    have e2 : ((s[0].toNat : Int) != 69) = true := by rw [hz]; simp only [bne_iff_ne, ne_eq]; exact fun e => hc (.inr (u8_eq e))
    generalize expG (c :: l) = R at HR ⊢
    clear hz h hc HX
    go_enter Tryz.func83, Tryz.ntmps83
    go_wp2_with fail
    go_ret
    exact ⟨by rw [HR.out]; rfl, Below.refl _ _⟩
end Go.Proofs.YtaniebkfgkhgoaaGreatDoor

namespace Go.Proofs.YtaniebkfgkhgoaaGreatDoor
open Go.RowKit
set_option linter.unusedVariables false
set_option maxRecDepth 100000

/-- What stands behind the whole part of a number's text: a fraction or none, an exponent or none. -/
def restG (r : List UInt8) : Bool := match fracG r with
  | none => false
  | some r => if r = [] then true else expG r
def wholeBad (W : List UInt8) : Prop := W = [] ∨ (1 < W.length ∧ W.head? = some 48)
instance (W : List UInt8) : Decidable (wholeBad W) := by unfold wholeBad; infer_instance
theorem numG_eq (l : List UInt8) : numG l = if wholeBad (figL (Lib.trimPrefix l [45])) then false else restG (figR (Lib.trimPrefix l [45])) := rfl
theorem trimPrefix_len (l p : List UInt8) : (Lib.trimPrefix l p).length ≤ l.length := by
  unfold Lib.trimPrefix; split <;> simp
theorem trim1 {l : List UInt8} {c : UInt8} (h : Lib.hasPrefix l [c] = true) : Lib.trimPrefix l [c] = l.drop 1 := by
  unfold Lib.trimPrefix; rw [if_pos h]; rfl
theorem figR_len (l : List UInt8) : (figR l).length ≤ l.length := trimLeftS_len _ _
theorem figL_len (l : List UInt8) : (figL l).length ≤ l.length := by unfold figL; simp

theorem emp_t : (bs []).toList.isEmpty = true := by rw [bs_isEmpty]; rfl
theorem emp_f {l : List UInt8} (h : l ≠ []) : (bs l).toList.isEmpty = false := by rw [bs_isEmpty]; cases l <;> simp at h ⊢
theorem nil_t : (bs []).toList = [] := by rw [Lib.toList_data]; rfl
theorem nil_f {l : List UInt8} (h : l ≠ []) : ¬ (bs l).toList = [] := by rw [Lib.toList_data]; exact h
theorem head_at {W : List UInt8} (h : 0 < (bs W).size) : ∃ a, W.head? = some a ∧ (bs W)[0] = a := by
  cases W with
  | nil => rw [bs_size] at h; simp at h
  | cons a r => exact ⟨a, rfl, rfl⟩

set_option maxHeartbeats 2000000 in
theorem num_any (l : List UInt8) (hl : l.length ≤ 1099511627775) (w : World) :
    Calls Tryz.prog 60 #[.string (bs l)] w fun e w' => e = .returned (.bool (numG l)) ∧ Below w.heap.size w w' := by
  have CT : Hid (∀ w0, Calls Tryz.prog 81 #[.string (bs l), .string ⟨#[45]⟩] w0 fun e w' => e = .returned (.string (bs (Lib.trimPrefix l [45]))) ∧ w0 = w') := fun w0 => trimPrefix_any (bs l) ⟨#[45]⟩ w0
  have HL := Lib.hid (trimPrefix_len l [45])
  rw [numG_eq]
  generalize Lib.trimPrefix l [45] = l0 at *
  have C0 : Hid (∀ w0, Calls Tryz.prog 80 #[.string (bs l0)] w0 fun e w' => e = .returned (.tuple #[.string (bs (figL l0)), .string (bs (figR l0))]) ∧ Below w0.heap.size w0 w') := fun w0 => cutF_any _ (by have := HL.out; omega) w0
  have H1 := Lib.hid (figL_len l0)
  have H2 := Lib.hid (figR_len l0)
  generalize figL l0 = W at *
  generalize figR l0 = R0 at *
  have hW : (bs W).size ≤ 1099511627775 := by rw [bs_size]; have := H1.out; have := HL.out; omega
  by_cases hb : wholeBad W
  · rw [if_pos hb]
    rcases hb with rfl | ⟨hb1, hb2⟩
    · have e1 := nil_t
      have e2 := emp_t
      clear H1 H2 HL hl
      go_enter Tryz.func60, Tryz.ntmps60
      go_wp2_with (first
        | (go_at_call 81; (with_reducible refine (CT.out _).mono ?_); rintro e w1 ⟨rfl, rfl⟩)
        | (go_at_call 80; (with_reducible refine (C0.out _).mono ?_); rintro e w1 ⟨rfl, hb⟩))
      all_goals (go_ret; exact ⟨rfl, hb⟩)
    · have e1 : (bs W).toList.isEmpty = false := emp_f (by intro h; rw [h] at hb2; cases hb2)
      have e3 : 1 < (bs W).size := by rw [bs_size]; exact hb1
      have e4 : (((bs W)[0]'(by omega)).toNat : Int) = 48 := by
        obtain ⟨a, ha, h0⟩ := head_at (W := W) (by omega)
        rw [h0]; rw [hb2] at ha; cases ha; rfl
      clear H1 H2 HL hl hb1 hb2
      go_enter Tryz.func60, Tryz.ntmps60
      go_wp2_with (first
        | (go_at_call 81; (with_reducible refine (CT.out _).mono ?_); rintro e w1 ⟨rfl, rfl⟩)
        | (go_at_call 80; (with_reducible refine (C0.out _).mono ?_); rintro e w1 ⟨rfl, hb⟩))
      all_goals (go_ret; exact ⟨rfl, hb⟩)
  · rw [if_neg hb]
    have e1 : (bs W).toList.isEmpty = false := emp_f (fun h => hb (.inl h))
    have e1' : ¬ (bs W).toList = [] := nil_f (fun h => hb (.inl h))
    have e4 : (h : 1 < (bs W).size) → ((((bs W)[0]'(by omega)).toNat : Int) == 48) = false := fun h => by
      obtain ⟨a, ha, h0⟩ := head_at (W := W) (by omega)
      rw [h0, beq_eq_false_iff_ne]
      intro e
      have : a = 48 := u8_eq e
      subst this
      exact hb (.inr ⟨by rw [← bs_size]; exact h, ha⟩)
    have hR : R0.length ≤ 1099511627775 := by have := H2.out; have := HL.out; omega
    have CC : Hid (∀ w0, Calls Tryz.prog 82 #[.string (bs R0), .string ⟨#[46]⟩] w0 fun e w' => e = .returned (.tuple #[.string (bs (Lib.trimPrefix R0 [46])), .bool (Lib.hasPrefix R0 [46])]) ∧ w0 = w') := fun w0 => cutPrefix_any (bs R0) ⟨#[46]⟩ w0
    have CX : Hid (∀ (m : List UInt8), m ≠ [] → m.length ≤ 1099511627775 → ∀ w0, Calls Tryz.prog 83 #[.string (bs m)] w0 fun e w' => e = .returned (.bool (expG m)) ∧ Below w0.heap.size w0 w') := fun m h1 h2 w0 => exp_any _ m h1 rfl h2 w0
    clear H1 H2 HL hl hb
    unfold restG fracG
    by_cases hlen : 1 < (bs W).size
    all_goals
      first
        | (have e4' := e4 hlen; clear e4)
        | (clear e4)
      cases hf : Lib.hasPrefix R0 [46] with
      | true =>
        rw [hf, trim1 hf] at CC
        rw [if_pos rfl]
        have hD : (R0.drop 1).length ≤ 1099511627775 := by rw [List.length_drop]; omega
        have C1 : Hid (∀ w0, Calls Tryz.prog 80 #[.string (bs (R0.drop 1))] w0 fun e w' => e = .returned (.tuple #[.string (bs (figL (R0.drop 1))), .string (bs (figR (R0.drop 1)))]) ∧ Below w0.heap.size w0 w') := fun w0 => cutF_any _ (by omega) w0
        have hD2 := Nat.le_trans (figR_len (R0.drop 1)) hD
        generalize figL (R0.drop 1) = A at C1 ⊢
        generalize figR (R0.drop 1) = R1 at C1 hD2 ⊢
        generalize bs (R0.drop 1) = T at C1 CC
        clear hf hD
        by_cases hA : A = []
        · subst hA
          rw [if_pos rfl]
          have e2 := nil_t
          have e3 := emp_t
          clear hD2
          go_enter Tryz.func60, Tryz.ntmps60
          go_wp2_with (first
            | (go_at_call 81; (with_reducible refine (CT.out _).mono ?_); rintro e w1 ⟨rfl, rfl⟩)
            | (go_at_call 82; (with_reducible refine (CC.out _).mono ?_); rintro e w1 ⟨rfl, rfl⟩)
            | (go_at_call_of 80 (bs l0); (with_reducible refine (C0.out _).mono ?_); rintro e w1 ⟨rfl, hb⟩)
            | (go_at_call 80; (with_reducible refine (C1.out _).mono ?_); rintro e w2 ⟨rfl, hb2⟩))
          all_goals (go_ret; exact ⟨rfl, hb.trans (hb2.mono hb.size)⟩)
        · rw [if_neg hA]
          simp only
          have a1 := emp_f hA
          have a2 := nil_f hA
          by_cases hr : R1 = []
          · subst hr
            have e2 := nil_t
            have e3 := emp_t
            rw [if_pos rfl]
            clear hD2 hA
            go_enter Tryz.func60, Tryz.ntmps60
            go_wp2_with (first
              | (go_at_call 81; (with_reducible refine (CT.out _).mono ?_); rintro e w1 ⟨rfl, rfl⟩)
              | (go_at_call 82; (with_reducible refine (CC.out _).mono ?_); rintro e w1 ⟨rfl, rfl⟩)
              | (go_at_call_of 80 (bs l0); (with_reducible refine (C0.out _).mono ?_); rintro e w1 ⟨rfl, hb⟩)
              | (go_at_call 80; (with_reducible refine (C1.out _).mono ?_); rintro e w2 ⟨rfl, hb2⟩))
            all_goals (go_ret; exact ⟨rfl, hb.trans (hb2.mono hb.size)⟩)
          · have e2 := emp_f hr
            have e3 := nil_f hr
            rw [if_neg hr]
            have CE := Lib.hid (CX.out R1 hr hD2)
            generalize expG R1 = E at CE ⊢
            clear hD2 hA hr
            go_enter Tryz.func60, Tryz.ntmps60
            go_wp2_with (first
              | (go_at_call 81; (with_reducible refine (CT.out _).mono ?_); rintro e w1 ⟨rfl, rfl⟩)
              | (go_at_call 82; (with_reducible refine (CC.out _).mono ?_); rintro e w1 ⟨rfl, rfl⟩)
              | (go_at_call_of 80 (bs l0); (with_reducible refine (C0.out _).mono ?_); rintro e w1 ⟨rfl, hb⟩)
              | (go_at_call 83; (with_reducible refine (CE.out _).mono ?_); rintro e w3 ⟨rfl, hb3⟩)
              | (go_at_call 80; (with_reducible refine (C1.out _).mono ?_); rintro e w2 ⟨rfl, hb2⟩))
            all_goals (go_ret; exact ⟨rfl, (hb.trans (hb2.mono hb.size)).trans (hb3.mono (Nat.le_trans hb.size hb2.size))⟩)
      | false =>
        rw [hf] at CC
        rw [if_neg (by simp)]
        simp only
        by_cases hr : R0 = []
        · subst hr
          have e2 := nil_t
          have e3 := emp_t
          rw [if_pos rfl]
          clear hf
          go_enter Tryz.func60, Tryz.ntmps60
          go_wp2_with (first
            | (go_at_call 81; (with_reducible refine (CT.out _).mono ?_); rintro e w1 ⟨rfl, rfl⟩)
            | (go_at_call 82; (with_reducible refine (CC.out _).mono ?_); rintro e w1 ⟨rfl, rfl⟩)
            | (go_at_call_of 80 (bs l0); (with_reducible refine (C0.out _).mono ?_); rintro e w1 ⟨rfl, hb⟩))
          all_goals (go_ret; exact ⟨rfl, hb⟩)
        · have e2 := emp_f hr
          have e3 := nil_f hr
          rw [if_neg hr]
          have CE := Lib.hid (CX.out R0 hr hR)
          generalize expG R0 = E at CE ⊢
          clear hf hr
          go_enter Tryz.func60, Tryz.ntmps60
          go_wp2_with (first
            | (go_at_call 81; (with_reducible refine (CT.out _).mono ?_); rintro e w1 ⟨rfl, rfl⟩)
            | (go_at_call 82; (with_reducible refine (CC.out _).mono ?_); rintro e w1 ⟨rfl, rfl⟩)
            | (go_at_call_of 80 (bs l0); (with_reducible refine (C0.out _).mono ?_); rintro e w1 ⟨rfl, hb⟩)
            | (go_at_call 83; (with_reducible refine (CE.out _).mono ?_); rintro e w3 ⟨rfl, hb3⟩))
          all_goals (go_ret; exact ⟨rfl, hb.trans (hb3.mono hb.size)⟩)
end Go.Proofs.YtaniebkfgkhgoaaGreatDoor

namespace Go.Proofs.YtaniebkfgkhgoaaGreatDoor
open Go.RowKit
set_option linter.unusedVariables false
set_option maxRecDepth 100000

/-! ### What a step leaves as it was -/
theorem gb_refl (w : World) (r : Option Nat) : w.grownBy w r := ⟨rfl, rfl, rfl, Nat.le_refl _, fun _ _ _ => rfl⟩
theorem gb_trans {u v w : World} {r : Option Nat} (h : u.grownBy v r) (k : v.grownBy w r) : u.grownBy w r :=
  ⟨k.os.trans h.os, k.tape.trans h.tape, k.output.trans h.output, Nat.le_trans h.size k.size, fun j hj hn => (k.block j (Nat.lt_of_lt_of_le hj h.size) hn).trans (h.block j hj hn)⟩
theorem gb_below {w w' : World} (h : Below w.heap.size w w') (r : Option Nat) : w.grownBy w' r := ⟨h.os, h.tape, h.output, h.size, fun k hk _ => h.block k hk⟩
theorem gb_drewN (w : World) (n : Nat) (r : Option Nat) : w.grownBy (w.drewN n) r := ⟨rfl, rfl, rfl, Nat.le_refl _, fun _ _ _ => rfl⟩
theorem gb_alloc (w : World) (o : Obj) (r : Option Nat) : w.grownBy (w.alloc o) r := World.grownBy_alloc w o r
theorem gb_set (w : World) (a : Addr) (v : Value) : w.grownBy (w.setCell a v) (some a.block) :=
  ⟨rfl, rfl, rfl, by simp [World.setCell], fun k hk hn => Below.heap_setCell _ _ _ _ (fun e => hn (by rw [e]))⟩
theorem gb_none {u v : World} (h : u.grownBy v none) (r : Option Nat) : u.grownBy v r := ⟨h.os, h.tape, h.output, h.size, fun k hk _ => h.block k hk (by simp)⟩
theorem below_gb {B : Nat} {a w w' : World} {P : Nat} (h : Below B a w) (hB : B ≤ w.heap.size) (g : w.grownBy w' (some P)) (hP : B ≤ P) : Below B a w' := h.grown g hB (fun k e => by cases e; exact hP)
theorem below_of_gb {w w' : World} (h : w.grownBy w' none) : Below w.heap.size w w' := ⟨h.os, h.tape, h.output, h.size, fun k hk => h.block k hk (by simp)⟩
theorem gb_heap {u v : World} {r : Option Nat} (h : u.grownBy v r) {k : Nat} {o : Obj} (hk : u.heap[k]? = some o) (hn : some k ≠ r) : v.heap[k]? = some o :=
  (h.block k (Array.getElem?_eq_some_iff.1 hk).1 hn).trans hk

/-! ### A value in memory -/
/-- A block of cells that nothing has frozen. -/
def Clean (w : World) (b : Nat) : Prop := ∃ c t, w.heap[b]? = some (.cells c t (0, 0))
theorem Clean.eq {w w' : World} {b : Nat} (h : Clean w b) (e : w'.heap[b]? = w.heap[b]?) : Clean w' b := by
  obtain ⟨c, t, h⟩ := h
  exact ⟨c, t, e.trans h⟩
mutual
/-- The four cells of a value, and what they lead to: rows in blocks of S. -/
def LV (w : World) (S : Nat → Prop) : JV → Value → Value → Value → Value → Prop
  | ⟨k, t, l, f⟩, c0, c1, c2, c3 => c0 = .int .i64 k ∧ c1 = .string t ∧
      (∃ a cap, c2 = .slice a l.length cap ∧ (l = [] ∨ ∃ b o, a = some ⟨b, o, none⟩ ∧ (S b ∧ Clean w b) ∧ LVs w S b o l)) ∧
      (∃ a cap, c3 = .slice a f.length cap ∧ (f = [] ∨ ∃ b o, a = some ⟨b, o, none⟩ ∧ (S b ∧ Clean w b) ∧ LFs w S b o f))
def LVs (w : World) (S : Nat → Prop) (b : Nat) : Nat → List JV → Prop
  | _, [] => True
  | o, v :: r => (∃ c0 c1 c2 c3, w.cell? ⟨b, o, none⟩ = some c0 ∧ w.cell? ⟨b, o + 1, none⟩ = some c1 ∧ w.cell? ⟨b, o + 2, none⟩ = some c2 ∧ w.cell? ⟨b, o + 3, none⟩ = some c3 ∧ LV w S v c0 c1 c2 c3) ∧ LVs w S b (o + 4) r
def LFs (w : World) (S : Nat → Prop) (b : Nat) : Nat → List (ByteArray × JV) → Prop
  | _, [] => True
  | o, (n, v) :: r => w.cell? ⟨b, o, none⟩ = some (.string n) ∧ (∃ c0 c1 c2 c3, w.cell? ⟨b, o + 1, none⟩ = some c0 ∧ w.cell? ⟨b, o + 2, none⟩ = some c1 ∧ w.cell? ⟨b, o + 3, none⟩ = some c2 ∧ w.cell? ⟨b, o + 4, none⟩ = some c3 ∧ LV w S v c0 c1 c2 c3) ∧ LFs w S b (o + 5) r
end
/-- A value lies at an address. -/
def LAt (w : World) (S : Nat → Prop) (v : JV) (b o : Nat) : Prop :=
  ∃ c0 c1 c2 c3, w.cell? ⟨b, o, none⟩ = some c0 ∧ w.cell? ⟨b, o + 1, none⟩ = some c1 ∧ w.cell? ⟨b, o + 2, none⟩ = some c2 ∧ w.cell? ⟨b, o + 3, none⟩ = some c3 ∧ LV w S v c0 c1 c2 c3

section
variable {w w' : World} {S S' : Nat → Prop}
theorem cell_move (hk : ∀ b, b < w.heap.size → S b → w'.heap[b]? = w.heap[b]? ∧ S' b) {b o : Nat} {c : Value} (hS : S b) (h : w.cell? ⟨b, o, none⟩ = some c) : w'.cell? ⟨b, o, none⟩ = some c :=
  (World.cell?_of_block (hk b (World.block_lt_of_cell? w ⟨b, o, none⟩ h) hS).1).trans h
theorem LVs.lt {b o : Nat} : ∀ {l : List JV}, l ≠ [] → LVs w S b o l → b < w.heap.size
  | [], hn, _ => absurd rfl hn
  | v :: r, _, h => by
    simp only [LVs] at h
    obtain ⟨⟨c0, _, _, _, h0, _⟩, _⟩ := h
    exact World.block_lt_of_cell? w ⟨b, o, none⟩ h0
theorem LFs.lt {b o : Nat} : ∀ {l : List (ByteArray × JV)}, l ≠ [] → LFs w S b o l → b < w.heap.size
  | [], hn, _ => absurd rfl hn
  | (n, v) :: r, _, h => by
    simp only [LFs] at h
    exact World.block_lt_of_cell? w ⟨b, o, none⟩ h.1
mutual
/-- What lies in blocks that stay lies there still. -/
theorem LV.move (hk : ∀ b, b < w.heap.size → S b → w'.heap[b]? = w.heap[b]? ∧ S' b) : ∀ (v : JV) {c0 c1 c2 c3 : Value}, LV w S v c0 c1 c2 c3 → LV w' S' v c0 c1 c2 c3
  | ⟨k, t, l, f⟩, c0, c1, c2, c3, h => by
    simp only [LV] at h ⊢
    obtain ⟨h0, h1, ⟨a, cap, h2, h3⟩, ⟨a', cap', h4, h5⟩⟩ := h
    refine ⟨h0, h1, ⟨a, cap, h2, ?_⟩, ⟨a', cap', h4, ?_⟩⟩
    · by_cases hl : l = []
      · exact .inl hl
      · rcases h3 with h3 | ⟨b, o, ha, hs, hv⟩
        · exact .inl h3
        · exact .inr ⟨b, o, ha, ⟨(hk b (hv.lt hl) hs.1).2, hs.2.eq (hk b (hv.lt hl) hs.1).1⟩, LVs.move hk l hs.1 hv⟩
    · by_cases hf : f = []
      · exact .inl hf
      · rcases h5 with h5 | ⟨b, o, ha, hs, hv⟩
        · exact .inl h5
        · exact .inr ⟨b, o, ha, ⟨(hk b (hv.lt hf) hs.1).2, hs.2.eq (hk b (hv.lt hf) hs.1).1⟩, LFs.move hk f hs.1 hv⟩
theorem LVs.move (hk : ∀ b, b < w.heap.size → S b → w'.heap[b]? = w.heap[b]? ∧ S' b) : ∀ (l : List JV) {b o : Nat}, S b → LVs w S b o l → LVs w' S' b o l
  | [], b, o, _, _ => by simp only [LVs]
  | v :: r, b, o, hs, h => by
    simp only [LVs] at h ⊢
    obtain ⟨⟨c0, c1, c2, c3, h0, h1, h2, h3, hv⟩, hr⟩ := h
    exact ⟨⟨c0, c1, c2, c3, cell_move hk hs h0, cell_move hk hs h1, cell_move hk hs h2, cell_move hk hs h3, LV.move hk v hv⟩, LVs.move hk r hs hr⟩
theorem LFs.move (hk : ∀ b, b < w.heap.size → S b → w'.heap[b]? = w.heap[b]? ∧ S' b) : ∀ (l : List (ByteArray × JV)) {b o : Nat}, S b → LFs w S b o l → LFs w' S' b o l
  | [], b, o, _, _ => by simp only [LFs]
  | (n, v) :: r, b, o, hs, h => by
    simp only [LFs] at h ⊢
    obtain ⟨hn, ⟨c0, c1, c2, c3, h0, h1, h2, h3, hv⟩, hr⟩ := h
    exact ⟨cell_move hk hs hn, ⟨c0, c1, c2, c3, cell_move hk hs h0, cell_move hk hs h1, cell_move hk hs h2, cell_move hk hs h3, LV.move hk v hv⟩, LFs.move hk r hs hr⟩
end
theorem LAt.move (hk : ∀ b, b < w.heap.size → S b → w'.heap[b]? = w.heap[b]? ∧ S' b) {v : JV} {b o : Nat} (hs : S b) (h : LAt w S v b o) : LAt w' S' v b o := by
  obtain ⟨c0, c1, c2, c3, h0, h1, h2, h3, hv⟩ := h
  exact ⟨c0, c1, c2, c3, cell_move hk hs h0, cell_move hk hs h1, cell_move hk hs h2, cell_move hk hs h3, LV.move hk v hv⟩
theorem LVs.at {b : Nat} : ∀ (l : List JV) {o : Nat}, LVs w S b o l → ∀ (i : Nat) (v : JV), l[i]? = some v → LAt w S v b (o + 4 * i)
  | [], o, _, i, v, hi => by simp at hi
  | x :: r, o, h, i, v, hi => by
    simp only [LVs] at h
    obtain ⟨hx, hr⟩ := h
    cases i with
    | zero => simp at hi; subst hi; exact hx
    | succ i =>
      have := LVs.at r hr i v (by simpa using hi)
      rwa [show o + 4 + 4 * i = o + 4 * (i + 1) by omega] at this
theorem LFs.at {b : Nat} : ∀ (l : List (ByteArray × JV)) {o : Nat}, LFs w S b o l → ∀ (i : Nat) (p : ByteArray × JV), l[i]? = some p → w.cell? ⟨b, o + 5 * i, none⟩ = some (.string p.1) ∧ LAt w S p.2 b (o + 5 * i + 1)
  | [], o, _, i, v, hi => by simp at hi
  | (n, x) :: r, o, h, i, p, hi => by
    simp only [LFs] at h
    obtain ⟨hn, hx, hr⟩ := h
    cases i with
    | zero => simp at hi; subst hi; exact ⟨hn, hx⟩
    | succ i =>
      have := LFs.at r hr i p (by simpa using hi)
      rwa [show o + 5 + 5 * i = o + 5 * (i + 1) by omega] at this
end

/-! ### Elements in a row of their own -/
def nilS : Value := .slice none 0 0
/-- The cells of elements: of a list, of an object. -/
def ElsIn (w : World) (S : Nat → Prop) (obj : Bool) : List (ByteArray × JV) → List Value → Prop
  | [], cs => cs = []
  | (n, v) :: r, cs => ∃ c0 c1 c2 c3 cs', cs = (if obj then [.string n, c0, c1, c2, c3] else [c0, c1, c2, c3]) ++ cs' ∧ LV w S v c0 c1 c2 c3 ∧ ElsIn w S obj r cs'
theorem ElsIn.move {w w' : World} {S S' : Nat → Prop} {obj : Bool} (hk : ∀ b, b < w.heap.size → S b → w'.heap[b]? = w.heap[b]? ∧ S' b) : ∀ (l : List (ByteArray × JV)) {cs : List Value}, ElsIn w S obj l cs → ElsIn w' S' obj l cs
  | [], _, h => h
  | (n, v) :: r, cs, h => by
    obtain ⟨c0, c1, c2, c3, cs', e, hv, hr⟩ := h
    exact ⟨c0, c1, c2, c3, cs', e, LV.move hk v hv, ElsIn.move hk r hr⟩
theorem ElsIn.snoc {w : World} {S : Nat → Prop} {obj : Bool} {n : ByteArray} {v : JV} {c0 c1 c2 c3 : Value} (hv : LV w S v c0 c1 c2 c3) :
    ∀ (l : List (ByteArray × JV)) {cs : List Value}, ElsIn w S obj l cs → ElsIn w S obj (l ++ [(n, v)]) (cs ++ (if obj then [.string n, c0, c1, c2, c3] else [c0, c1, c2, c3]))
  | [], cs, h => by
    have : cs = [] := h
    subst this
    exact ⟨c0, c1, c2, c3, [], by simp, hv, rfl⟩
  | (m, u) :: r, cs, h => by
    obtain ⟨d0, d1, d2, d3, cs', e, hu, hr⟩ := h
    exact ⟨d0, d1, d2, d3, _, by rw [e, List.append_assoc], hu, ElsIn.snoc hv r hr⟩
theorem ElsIn.vals {w : World} {S : Nat → Prop} {b : Nat} : ∀ (l : List (ByteArray × JV)) {cs : List Value} {o : Nat}, ElsIn w S false l cs → (∀ j u, cs[j]? = some u → w.cell? ⟨b, o + j, none⟩ = some u) → LVs w S b o (l.map (·.2))
  | [], _, _, _, _ => by simp only [List.map_nil, LVs]
  | (n, v) :: r, cs, o, h, hc => by
    obtain ⟨c0, c1, c2, c3, cs', e, hv, hr⟩ := h
    subst e
    simp only [List.map_cons, LVs]
    refine ⟨⟨c0, c1, c2, c3, hc 0 c0 (by simp), hc 1 c1 (by simp), hc 2 c2 (by simp), hc 3 c3 (by simp), hv⟩, ElsIn.vals r hr (fun j u hu => ?_)⟩
    have := hc (j + 4) u (by simpa using hu)
    rwa [show o + (j + 4) = o + 4 + j by omega] at this
theorem ElsIn.flds {w : World} {S : Nat → Prop} {b : Nat} : ∀ (l : List (ByteArray × JV)) {cs : List Value} {o : Nat}, ElsIn w S true l cs → (∀ j u, cs[j]? = some u → w.cell? ⟨b, o + j, none⟩ = some u) → LFs w S b o l
  | [], _, _, _, _ => by simp only [LFs]
  | (n, v) :: r, cs, o, h, hc => by
    obtain ⟨c0, c1, c2, c3, cs', e, hv, hr⟩ := h
    subst e
    simp only [LFs]
    refine ⟨hc 0 _ (by simp), ⟨c0, c1, c2, c3, hc 1 c0 (by simp), hc 2 c1 (by simp), hc 3 c2 (by simp), hc 4 c3 (by simp), hv⟩, ElsIn.flds r hr (fun j u hu => ?_)⟩
    have := hc (j + 5) u (by simpa using hu)
    rwa [show o + (j + 5) = o + 5 + j by omega] at this
end Go.Proofs.YtaniebkfgkhgoaaGreatDoor

namespace Go.Proofs.YtaniebkfgkhgoaaGreatDoor
open Go.RowKit
set_option linter.unusedVariables false
set_option maxRecDepth 100000

/-- The parser's own block: what is left of the text, and the stack. -/
def PB (w : World) (P : Nat) (s : ByteArray) (sv : Value) : Prop := w.heap[P]? = some (.cells #[.string s, sv] 42 (0, 0))
section
variable {w w' : World} {P : Nat} {s : ByteArray} {sv : Value}
theorem PB.c0 (h : PB w P s sv) : w.cell? ⟨P, 0, none⟩ = some (.string s) := by unfold PB at h; simp [World.cell?, h]
theorem PB.c1 (h : PB w P s sv) : w.cell? ⟨P, 1, none⟩ = some sv := by unfold PB at h; simp [World.cell?, h]
theorem PB.fr (h : PB w P s sv) (i : Nat) : w.frozen? ⟨P, i, none⟩ = false := by unfold PB at h; simp [World.frozen?, h]
theorem PB.lt (h : PB w P s sv) : P < w.heap.size := (Array.getElem?_eq_some_iff.1 h).1
theorem PB.set0 (h : PB w P s sv) (t : ByteArray) : PB (w.setCell ⟨P, 0, none⟩ (.string t)) P t sv := by
  unfold PB at h ⊢; simp [World.setCell, Array.getElem?_modify, h]
theorem PB.set1 (h : PB w P s sv) (v : Value) : PB (w.setCell ⟨P, 1, none⟩ v) P s v := by
  unfold PB at h ⊢; simp [World.setCell, Array.getElem?_modify, h]
theorem PB.gb {r : Option Nat} (h : PB w P s sv) (g : w.grownBy w' r) (hn : some P ≠ r) : PB w' P s sv := gb_heap g h hn
theorem PB.below (h : PB w P s sv) (g : Below w.heap.size w w') : PB w' P s sv := (g.block P h.lt).trans h
theorem PB.drewN (h : PB w P s sv) (n : Nat) : PB (w.drewN n) P s sv := h
end

theorem skip_any (l : List UInt8) (n : Nat) (hn : n ≤ l.length) (hl : l.length ≤ 1099511627775) (P : Nat) (sv : Value) (w : World) (h : PB w P (bs l) sv) :
    Calls Tryz.prog 42 #[.pointer (some ⟨P, 0, none⟩), .int .i64 n] w fun e w' => e = .returned (.tuple #[]) ∧ PB w' P (bs (sk (l.drop n))) sv ∧ w.grownBy w' (some P) := by
  have c0 := h.c0
  have hz : (n : Int) ≤ ((bs l).size : Int) := by rw [bs_size]; omega
  have hz2 : ((bs l).size : Int) ≤ 1099511627775 := by rw [bs_size]; omega
  have HX : Hid ((bs l).extract n (bs l).size = bs (l.drop n)) := bs_extract l n hn
  have CT : Hid (∀ w0, Calls Tryz.prog 67 #[.string (bs (l.drop n)), .string ⟨#[32, 9, 10, 13]⟩] w0 fun e w' => e = .returned (.string (bs (sk (l.drop n)))) ∧ Below w0.heap.size w0 w') :=
    fun w0 => trim_any (bs (l.drop n)) ⟨#[32, 9, 10, 13]⟩ w0 (by decide) (by decide)
  have H := Lib.hid h
  generalize bs (sk (l.drop n)) = R at CT ⊢
  clear h hn hl
  go_enter Tryz.func42, Tryz.ntmps42
  go_wp2_with (go_at_call 67; rw [HX.out]; (with_reducible refine (CT.out _).mono ?_); rintro e w1 ⟨rfl, hb⟩; have H1 := Lib.hid (H.out.below hb); have HB := Lib.hid hb; have f1 := H1.out.fr 0; have d0 := H1.out.c0; clear hb c0)
  go_end0
  exact ⟨rfl, H1.out.set0 R, gb_trans (gb_below HB.out _) (gb_set _ ⟨P, 0, none⟩ _)⟩

theorem take_yes (c : UInt8) (l r : List UInt8) (ht : takeG c l = some r) (hl : l.length ≤ 1099511627775) (P : Nat) (sv : Value) (w : World) (h : PB w P (bs l) sv) :
    Calls Tryz.prog 68 #[.pointer (some ⟨P, 0, none⟩), .int .u8 c.toNat] w fun e w' => e = .returned (.bool true) ∧ PB w' P (bs r) sv ∧ w.grownBy w' (some P) := by
  unfold takeG at ht
  split at ht
  case isFalse => cases ht
  rename_i hh
  cases ht
  have hne : l ≠ [] := by intro e; rw [e] at hh; cases hh
  have c0 := h.c0
  have e1 := nil_f hne
  have e2 := emp_f hne
  have hz : 0 < (bs l).size := by rw [bs_size]; cases l <;> simp at hne ⊢
  have e3 : ((bs l)[0].toNat : Int) = (c.toNat : Int) := by
    obtain ⟨a, ha, h0⟩ := head_at hz
    rw [h0]; rw [hh] at ha; cases ha; rfl
  have CS : Hid (∀ w0, PB w0 P (bs l) sv → Calls Tryz.prog 42 #[.pointer (some ⟨P, 0, none⟩), .int .i64 1] w0 fun e w' => e = .returned (.tuple #[]) ∧ PB w' P (bs (sk (l.drop 1))) sv ∧ w0.grownBy w' (some P)) :=
    fun w0 h0 => skip_any l 1 (by rw [bs_size] at hz; omega) hl P sv w0 h0
  have H := Lib.hid h
  clear h hh hne hl
  go_enter Tryz.func68, Tryz.ntmps68
  go_wp2_with (go_at_call 42; (with_reducible refine (CS.out _ H.out).mono ?_); rintro e w1 ⟨rfl, h1, hg⟩)
  go_ret
  exact ⟨rfl, h1, hg⟩

theorem take_no (c : UInt8) (l : List UInt8) (ht : takeG c l = none) (P : Nat) (sv : Value) (w : World) (h : PB w P (bs l) sv) :
    Calls Tryz.prog 68 #[.pointer (some ⟨P, 0, none⟩), .int .u8 c.toNat] w fun e w' => e = .returned (.bool false) ∧ w = w' := by
  unfold takeG at ht
  split at ht
  case isTrue => cases ht
  rename_i hh
  have c0 := h.c0
  clear h ht
  by_cases hne : l = []
  · subst hne
    have e1 := nil_t
    have e2 := emp_t
    go_enter Tryz.func68, Tryz.ntmps68
    go_wp2_with fail
    go_ret
    exact ⟨rfl, rfl⟩
  · have e1 := nil_f hne
    have e2 := emp_f hne
    have hz : 0 < (bs l).size := by rw [bs_size]; cases l <;> simp at hne ⊢
    have e3 : (((bs l)[0].toNat : Int) != (c.toNat : Int)) = true := by
      obtain ⟨a, ha, h0⟩ := head_at hz
      rw [h0, bne_iff_ne]
      intro e
      have : a = c := u8_eq e
      subst this
      exact hh ha
    clear hh hne
    go_enter Tryz.func68, Tryz.ntmps68
    go_wp2_with fail
    go_ret
    exact ⟨rfl, rfl⟩

/-- Unquote's size is within the text. -/
theorem unq_le {l t : List UInt8} {m : Nat} (h : unqG l = some (t, m)) : m ≤ l.length := (unqG_valid h).2.2

theorem takeQ_yes (l t : List UInt8) (m : Nat) (hu : unqG l = some (t, m)) (hl : l.length ≤ 500000) (P : Nat) (sv : Value) (w : World) (hT : TabsW w) (h : PB w P (bs l) sv) :
    Calls Tryz.prog 95 #[.pointer (some ⟨P, 0, none⟩)] w fun e w' => e = .returned (.tuple #[.string (bs t), .bool true]) ∧ PB w' P (bs (sk (l.drop m))) sv ∧ w.grownBy w' (some P) := by
  have c0 := h.c0
  have CU := Lib.hid (unquote_any (bs l) w hT (by rw [bs_size]; exact hl))
  rw [bs_list, hu] at CU
  have CS : Hid (∀ w0, PB w0 P (bs l) sv → Calls Tryz.prog 42 #[.pointer (some ⟨P, 0, none⟩), .int .i64 m] w0 fun e w' => e = .returned (.tuple #[]) ∧ PB w' P (bs (sk (l.drop m))) sv ∧ w0.grownBy w' (some P)) :=
    fun w0 h0 => skip_any l m (unq_le hu) (by omega) P sv w0 h0
  have H := Lib.hid h
  generalize bs (sk (l.drop m)) = R at CS ⊢
  simp only [unqS] at CU
  change Hid (Calls _ _ _ _ fun e w' => e = .returned (.tuple #[.string (bs t), _, _]) ∧ _) at CU
  generalize bs t = T at CU ⊢
  clear h hu hl hT
  go_enter Tryz.func95, Tryz.ntmps95
  go_wp2_with (first
    | (go_at_call 113; (with_reducible refine CU.out.mono ?_); rintro e w1 ⟨rfl, hb⟩; have H1 := Lib.hid (H.out.below hb); have HB := Lib.hid hb; clear hb)
    | (go_at_call 42; (with_reducible refine (CS.out _ H1.out).mono ?_); rintro e w2 ⟨rfl, h2, hg⟩))
  go_ret2
  exact ⟨rfl, h2, gb_trans (gb_below HB.out _) hg⟩

theorem takeQ_no (l : List UInt8) (hu : unqG l = none) (hl : l.length ≤ 500000) (P : Nat) (sv : Value) (w : World) (hT : TabsW w) (h : PB w P (bs l) sv) :
    Calls Tryz.prog 95 #[.pointer (some ⟨P, 0, none⟩)] w fun e w' => e = .returned (.tuple #[.string ⟨#[]⟩, .bool false]) ∧ PB w' P (bs (sk l)) sv ∧ w.grownBy w' (some P) := by
  have c0 := h.c0
  have CU := Lib.hid (unquote_any (bs l) w hT (by rw [bs_size]; exact hl))
  rw [bs_list, hu] at CU
  have CS : Hid (∀ w0, PB w0 P (bs l) sv → Calls Tryz.prog 42 #[.pointer (some ⟨P, 0, none⟩), .int .i64 0] w0 fun e w' => e = .returned (.tuple #[]) ∧ PB w' P (bs (sk l)) sv ∧ w0.grownBy w' (some P)) :=
    fun w0 h0 => skip_any l 0 (by omega) (by omega) P sv w0 h0
  have H := Lib.hid h
  simp only [unqS] at CU
  generalize bs (sk l) = R at CS ⊢
  clear h hu hl hT
  go_enter Tryz.func95, Tryz.ntmps95
  go_wp2_with (first
    | (go_at_call 113; (with_reducible refine CU.out.mono ?_); rintro e w1 ⟨rfl, hb⟩; have H1 := Lib.hid (H.out.below hb); have HB := Lib.hid hb; clear hb)
    | (go_at_call 42; (with_reducible refine (CS.out _ H1.out).mono ?_); rintro e w2 ⟨rfl, h2, hg⟩))
  go_ret2
  exact ⟨rfl, h2, gb_trans (gb_below HB.out _) hg⟩
end Go.Proofs.YtaniebkfgkhgoaaGreatDoor

namespace Go.Proofs.YtaniebkfgkhgoaaGreatDoor
open Go.RowKit
set_option linter.unusedVariables false
set_option maxRecDepth 100000

/-- The library's tables, and the project's words, lie as their text lays them. -/
structure Tab5 (w : World) : Prop where
  tabs : TabsW w
  w1 : w.cell? ⟨0, 1, none⟩ = some (.string ⟨#[110, 117, 108, 108]⟩)
  w2 : w.cell? ⟨0, 2, none⟩ = some (.string ⟨#[102, 97, 108, 115, 101]⟩)
  w3 : w.cell? ⟨0, 3, none⟩ = some (.string ⟨#[116, 114, 117, 101]⟩)
theorem Tab5.below {w w' : World} (h : Tab5 w) (b : Below w.heap.size w w') : Tab5 w' :=
  ⟨h.tabs.below b, (b.cell (p := ⟨0, 1, none⟩) (World.block_lt_of_cell? w _ h.w1)).trans h.w1, (b.cell (p := ⟨0, 2, none⟩) (World.block_lt_of_cell? w _ h.w2)).trans h.w2, (b.cell (p := ⟨0, 3, none⟩) (World.block_lt_of_cell? w _ h.w3)).trans h.w3⟩
theorem Tab5.drewN {w : World} (h : Tab5 w) (n : Nat) : Tab5 (w.drewN n) := h.below ⟨rfl, rfl, rfl, Nat.le_refl _, fun _ _ => rfl⟩

/-- A value of no others, as a result. -/
def flat (k : Int) (t : ByteArray) : Value := .agg #[.int .i64 k, .string t, .slice none 0 0, .slice none 0 0]
/-- What single answers. -/
def SinglePost (l : List UInt8) (P : Nat) (sv : Value) (w : World) (e : Ending) (w' : World) : Prop :=
  (∃ (k : Int) (t : ByteArray) (b : Bool) (s' : ByteArray), e = .returned (.tuple #[flat k t, .bool b]) ∧ PB w' P s' sv ∧
    ((b = false ∧ singleG l = none) ∨ (b = true ∧ ∃ r, s' = bs r ∧ singleG l = some (⟨k, t, [], []⟩, r)))) ∧ w.grownBy w' (some P)

/-- A block that holds a value alone (a result, a variable). -/
def RB (w : World) (b : Nat) (x0 x1 x2 x3 : Value) : Prop := w.heap[b]? = some (.cells #[x0, x1, x2, x3] 26 (0, 0))
section
variable {w w' : World} {b : Nat} {x0 x1 x2 x3 : Value}
theorem RB.c0 (h : RB w b x0 x1 x2 x3) : w.cell? ⟨b, 0, none⟩ = some x0 := by unfold RB at h; simp [World.cell?, h]
theorem RB.c1 (h : RB w b x0 x1 x2 x3) : w.cell? ⟨b, 1, none⟩ = some x1 := by unfold RB at h; simp [World.cell?, h]
theorem RB.c2 (h : RB w b x0 x1 x2 x3) : w.cell? ⟨b, 2, none⟩ = some x2 := by unfold RB at h; simp [World.cell?, h]
theorem RB.c3 (h : RB w b x0 x1 x2 x3) : w.cell? ⟨b, 3, none⟩ = some x3 := by unfold RB at h; simp [World.cell?, h]
theorem RB.fr (h : RB w b x0 x1 x2 x3) (i : Nat) : w.frozen? ⟨b, i, none⟩ = false := by unfold RB at h; simp [World.frozen?, h]
theorem RB.lt (h : RB w b x0 x1 x2 x3) : b < w.heap.size := (Array.getElem?_eq_some_iff.1 h).1
theorem RB.gb {r : Option Nat} (h : RB w b x0 x1 x2 x3) (g : w.grownBy w' r) (hn : some b ≠ r) : RB w' b x0 x1 x2 x3 := gb_heap g h hn
theorem RB.below (h : RB w b x0 x1 x2 x3) (g : Below w.heap.size w w') : RB w' b x0 x1 x2 x3 := (g.block b h.lt).trans h
theorem RB.new (w : World) : RB (w.alloc (.cells #[x0, x1, x2, x3] 26)) w.heap.size x0 x1 x2 x3 := heap_alloc_new w _
end

theorem val_size : (Tryz.prog.info? 26).map (·.size) = some 4 := by kernel_rfl
/-- A result that is a value, and one in a slot beside it. -/
theorem ret_val {fn : Func} {R : Ending → World → Prop} {a : Act} {w : World} {p u : Tmp} {b : Nat} {x0 x1 x2 x3 v : Value} (hres : fn.results = #[.cell p 26, .tmp u]) (hp : a.tmps.getD p undef = .pointer (some ⟨b, 0, none⟩))
    (hu : a.tmps.getD u undef = v) (hd : a.defers = []) (hb : RB w b x0 x1 x2 x3) (hR : R (.returned (.tuple #[.agg #[x0, x1, x2, x3], v])) w) : bodyPost Tryz.prog fn R .ret a w := by
  refine bodyPost_ret (v := .tuple #[.agg #[x0, x1, x2, x3], v]) ?_ hd hR
  rw [results_cell_tmp hres, hp, hu]
  have hl := run_loadVar_row (P := Tryz.prog) (ty := 26) w b _ _ _ _ hb Tryz.underlying26 rfl val_size
  simp only [asAddr, Sem.run_pure, Result.andThen_ok, hl]
theorem RB.set4 {w : World} {b : Nat} {x0 x1 x2 x3 : Value} (h : RB w b x0 x1 x2 x3) (y0 y1 y2 y3 : Value) :
    RB ((((w.setCell ⟨b, 0, none⟩ y0).setCell ⟨b, 1, none⟩ y1).setCell ⟨b, 2, none⟩ y2).setCell ⟨b, 3, none⟩ y3) b y0 y1 y2 y3 := by
  unfold RB at h ⊢; simp [World.setCell, Array.getElem?_modify, h]
theorem gb_set4 (w : World) (b : Nat) (y0 y1 y2 y3 : Value) :
    w.grownBy ((((w.setCell ⟨b, 0, none⟩ y0).setCell ⟨b, 1, none⟩ y1).setCell ⟨b, 2, none⟩ y2).setCell ⟨b, 3, none⟩ y3) (some b) :=
  gb_trans (gb_trans (gb_trans (gb_set w ⟨b, 0, none⟩ y0) (gb_set _ ⟨b, 1, none⟩ y1)) (gb_set _ ⟨b, 2, none⟩ y2)) (gb_set _ ⟨b, 3, none⟩ y3)
/-- Behind a new block of one's own that was written: as if it were not. -/
theorem gb_own {w w1 w2 : World} {r : Option Nat} {b : Nat} (h : w.grownBy w1 r) (hb : w.heap.size ≤ b) (g : w1.grownBy w2 (some b)) : w.grownBy w2 r :=
  ⟨g.os.trans h.os, g.tape.trans h.tape, g.output.trans h.output, Nat.le_trans h.size g.size, fun k hk hn => (g.block k (Nat.lt_of_lt_of_le hk h.size) (fun e => by cases e; omega)).trans (h.block k hk hn)⟩

/-- What holds all through single, ahead of its end. -/
structure SInv (l : List UInt8) (P : Nat) (sv : Value) (w wr : World) : Prop where
  p : PB wr P (bs l) sv
  t : Tab5 wr
  b : Below w.heap.size w wr
  z : RB wr w.heap.size (.int .i64 0) (.string ⟨#[]⟩) (.slice none 0 0) (.slice none 0 0)
theorem SInv.drewN {l : List UInt8} {P : Nat} {sv : Value} {w wr : World} (h : SInv l P sv w wr) (n : Nat) : SInv l P sv w (wr.drewN n) :=
  ⟨h.p, h.t.drewN n, h.b.trans ⟨rfl, rfl, rfl, Nat.le_refl _, fun _ _ => rfl⟩, h.z⟩

theorem SInv.below {l : List UInt8} {P : Nat} {sv : Value} {w wr wt : World} (h : SInv l P sv w wr) (g : Below wr.heap.size wr wt) : SInv l P sv w wt :=
  ⟨h.p.below g, h.t.below g, h.b.trans (g.mono h.b.size), h.z.below g⟩
/-- The end of single: a value is stored, and answered. -/
theorem single_end {l : List UInt8} {P : Nat} {sv : Value} {w w1 : World} {a : Act} {k : Int} {t s' : ByteArray} {bo : Bool} {x0 x1 x2 x3 : Value} (hPl : P < w.heap.size) (hg : w.grownBy w1 (some P)) (hR : RB w1 w.heap.size x0 x1 x2 x3) (h1 : PB w1 P s' sv)
    (hp : a.tmps.getD 2 undef = .pointer (some ⟨w.heap.size, 0, none⟩)) (hu : a.tmps.getD 3 undef = .bool bo) (hd : a.defers = [])
    (hv : (bo = false ∧ singleG l = none) ∨ (bo = true ∧ ∃ r, s' = bs r ∧ singleG l = some (⟨k, t, [], []⟩, r))) :
    bodyPost Tryz.prog Tryz.f70 (SinglePost l P sv w) .ret a ((((w1.setCell ⟨w.heap.size, 0, none⟩ (.int .i64 k)).setCell ⟨w.heap.size, 1, none⟩ (.string t)).setCell ⟨w.heap.size, 2, none⟩ (.slice none 0 0)).setCell ⟨w.heap.size, 3, none⟩ (.slice none 0 0)) := by
  have g4 := gb_set4 w1 w.heap.size (.int .i64 k) (.string t) (.slice none 0 0) (.slice none 0 0)
  exact ret_val (p := 2) (u := 3) rfl hp hu hd (hR.set4 _ _ _ _) ⟨⟨k, t, bo, s', rfl, h1.gb g4 (by simp; omega), hv⟩, gb_own hg (Nat.le_refl _) g4⟩
theorem SInv.skipped {l : List UInt8} {P : Nat} {sv : Value} {w wr w1 : World} (h : SInv l P sv w wr) (hPl : P < w.heap.size) (g : wr.grownBy w1 (some P)) : w.grownBy w1 (some P) ∧ RB w1 w.heap.size (.int .i64 0) (.string ⟨#[]⟩) (.slice none 0 0) (.slice none 0 0) :=
  ⟨gb_trans (gb_below h.b _) g, h.z.gb g (by simp; omega)⟩

theorem has_len {l p : List UInt8} (h : Lib.hasPrefix l p = true) : p.length ≤ l.length := (List.isPrefixOf_iff_prefix.1 (show List.isPrefixOf p l = true from h)).length_le

set_option maxHeartbeats 4000000 in
theorem single_any (l : List UInt8) (hl : l.length ≤ 500000) (P : Nat) (sv : Value) (w0 w : World) (hT : Tab5 w0) (hb : Below w0.heap.size w0 w) (hP : w0.heap.size ≤ P) (h : PB w P (bs l) sv) :
    Calls Tryz.prog 70 #[.pointer (some ⟨P, 0, none⟩)] w (SinglePost l P sv w) := by
  have hTw : Tab5 w := hT.below hb
  have HS0 : Hid (SInv l P sv w (w.alloc (.cells #[.int .i64 0, .string ⟨#[]⟩, .slice none 0 0, .slice none 0 0] 26))) :=
    ⟨(Below.heap_alloc w _ P h.lt).trans h, hTw.below ((Below.refl _ _).alloc (Nat.le_refl _) _), (Below.refl _ _).alloc (Nat.le_refl _) _, RB.new w⟩
  have hPl : P < w.heap.size := h.lt
  clear hT hTw h hb hP
  go_enter Tryz.func70, Tryz.ntmps70
  go_wp2_with fail
  go_loopw [4] (fun i wr => ∃ k : Nat, i = .int .i64 k ∧ 1 ≤ k ∧ k ≤ 4 ∧ Hid (SInv l P sv w wr) ∧ Hid ((1 < k → Lib.hasPrefix l [110, 117, 108, 108] = false) ∧ (2 < k → Lib.hasPrefix l [102, 97, 108, 115, 101] = false) ∧ (3 < k → Lib.hasPrefix l [116, 114, 117, 101] = false))) (fun i _ => 4 - (intOf i).toNat)
  case atStart => exact ⟨1, rfl, by omega, by omega, HS0, by show _ ∧ _ ∧ _; omega⟩
  case round =>
    obtain ⟨k, rfl, hk1, hk4, HI, HN⟩ := hrel
    have c0 := HI.out.p.c0
    have W1 := HI.out.t.w1
    have W2 := HI.out.t.w2
    have W3 := HI.out.t.w3
    have CPt : Hid (∀ t w0, Calls Tryz.prog 94 #[.string (bs l), .string t] w0 fun e w' => e = .returned (.bool (Lib.hasPrefix l t.data.toList)) ∧ w' = w0) := fun t w0 => Tryz.strings_HasPrefix (bs l) t w0
    have CSn : Hid (∀ (n : Nat) (wx : World), n ≤ l.length → PB wx P (bs l) sv → Calls Tryz.prog 42 #[.pointer (some ⟨P, 0, none⟩), .int .i64 n] wx fun e w' => e = .returned (.tuple #[]) ∧ PB w' P (bs (sk (l.drop n))) sv ∧ wx.grownBy w' (some P)) :=
      fun n wx hn hx => skip_any l n hn (by omega) P sv wx hx
    rcases (show k = 1 ∨ k = 2 ∨ k = 3 ∨ k = 4 by omega) with rfl | rfl | rfl | rfl
    · clear W2 W3 hk1 hk4 HS0
      by_cases hp : Lib.hasPrefix l [110, 117, 108, 108] = true
      · have CP := Lib.hid (CPt.out ⟨#[110, 117, 108, 108]⟩)
        rw [show (ByteArray.mk #[110, 117, 108, 108]).data.toList = [110, 117, 108, 108] from rfl, hp] at CP
        have HG : Hid (singleG l = some (⟨1, ⟨#[]⟩, [], []⟩, sk (l.drop 4))) := by show singleG l = _; unfold singleG; rw [if_pos hp]; rfl
        have HL := Lib.hid (has_len hp)
        clear hp CPt
        go_wp2_with fail
        go_quiet ((go_at_call 94; exact Calls.quiet_of_same (CP.out _)))
        have CS : Hid (Calls Tryz.prog 42 #[.pointer (some ⟨P, 0, none⟩), .int .i64 4] (wr.drewN nq) fun e w' => e = .returned (.tuple #[]) ∧ PB w' P (bs (sk (l.drop 4))) sv ∧ (wr.drewN nq).grownBy w' (some P)) := CSn.out 4 (wr.drewN nq) HL.out (HI.out.p.drewN nq)
        go_wp2_with (go_at_call 42; (with_reducible refine CS.out.mono ?_); rintro e w1 ⟨rfl, h1, hg⟩; have HR := Lib.hid (SInv.skipped (HI.out.drewN nq) hPl hg); have r0 := HR.out.2.c0; have r1 := HR.out.2.c1; have r2 := HR.out.2.c2; have r3 := HR.out.2.c3; have f0 := HR.out.2.fr 0; have f1 := HR.out.2.fr 1; have f2 := HR.out.2.fr 2; have f3 := HR.out.2.fr 3)
        exact single_end hPl HR.out.1 HR.out.2 h1 rfl rfl rfl (.inr ⟨rfl, _, rfl, HG.out⟩)
      · have HP := Lib.hid (Bool.eq_false_iff.2 hp)
        have CP := Lib.hid (CPt.out ⟨#[110, 117, 108, 108]⟩)
        rw [show (ByteArray.mk #[110, 117, 108, 108]).data.toList = [110, 117, 108, 108] from rfl, HP.out] at CP
        clear hp CPt CSn
        go_wp2_with fail
        go_quiet ((go_at_call 94; exact Calls.quiet_of_same (CP.out _)))
        go_wp2_with fail
        go_roundw
        case rel => exact ⟨2, rfl, by omega, by omega, HI.out.drewN nq, fun _ => HP.out, fun h => absurd h (by omega), fun h => absurd h (by omega)⟩
        case measure => simp [intOf]
    · clear W1 W3 hk1 hk4 HS0
      by_cases hp : Lib.hasPrefix l [102, 97, 108, 115, 101] = true
      · have CP := Lib.hid (CPt.out ⟨#[102, 97, 108, 115, 101]⟩)
        rw [show (ByteArray.mk #[102, 97, 108, 115, 101]).data.toList = [102, 97, 108, 115, 101] from rfl, hp] at CP
        have HG : Hid (singleG l = some (⟨2, ⟨#[]⟩, [], []⟩, sk (l.drop 5))) := by show singleG l = _; unfold singleG; rw [if_neg (by rw [HN.out.1 (by omega)]; simp)]; rw [if_pos hp]; rfl
        have HL := Lib.hid (has_len hp)
        clear hp CPt
        go_wp2_with fail
        go_quiet ((go_at_call 94; exact Calls.quiet_of_same (CP.out _)))
        have CS : Hid (Calls Tryz.prog 42 #[.pointer (some ⟨P, 0, none⟩), .int .i64 5] (wr.drewN nq) fun e w' => e = .returned (.tuple #[]) ∧ PB w' P (bs (sk (l.drop 5))) sv ∧ (wr.drewN nq).grownBy w' (some P)) := CSn.out 5 (wr.drewN nq) HL.out (HI.out.p.drewN nq)
        go_wp2_with (go_at_call 42; (with_reducible refine CS.out.mono ?_); rintro e w1 ⟨rfl, h1, hg⟩; have HR := Lib.hid (SInv.skipped (HI.out.drewN nq) hPl hg); have r0 := HR.out.2.c0; have r1 := HR.out.2.c1; have r2 := HR.out.2.c2; have r3 := HR.out.2.c3; have f0 := HR.out.2.fr 0; have f1 := HR.out.2.fr 1; have f2 := HR.out.2.fr 2; have f3 := HR.out.2.fr 3)
        exact single_end hPl HR.out.1 HR.out.2 h1 rfl rfl rfl (.inr ⟨rfl, _, rfl, HG.out⟩)
      · have HP := Lib.hid (Bool.eq_false_iff.2 hp)
        have CP := Lib.hid (CPt.out ⟨#[102, 97, 108, 115, 101]⟩)
        rw [show (ByteArray.mk #[102, 97, 108, 115, 101]).data.toList = [102, 97, 108, 115, 101] from rfl, HP.out] at CP
        clear hp CPt CSn
        go_wp2_with fail
        go_quiet ((go_at_call 94; exact Calls.quiet_of_same (CP.out _)))
        go_wp2_with fail
        go_roundw
        case rel => exact ⟨3, rfl, by omega, by omega, HI.out.drewN nq, fun _ => HN.out.1 (by omega), fun _ => HP.out, fun h => absurd h (by omega)⟩
        case measure => simp [intOf]
    · clear W1 W2 hk1 hk4 HS0
      by_cases hp : Lib.hasPrefix l [116, 114, 117, 101] = true
      · have CP := Lib.hid (CPt.out ⟨#[116, 114, 117, 101]⟩)
        rw [show (ByteArray.mk #[116, 114, 117, 101]).data.toList = [116, 114, 117, 101] from rfl, hp] at CP
        have HG : Hid (singleG l = some (⟨3, ⟨#[]⟩, [], []⟩, sk (l.drop 4))) := by show singleG l = _; unfold singleG; rw [if_neg (by rw [HN.out.1 (by omega)]; simp), if_neg (by rw [HN.out.2.1 (by omega)]; simp)]; rw [if_pos hp]; rfl
        have HL := Lib.hid (has_len hp)
        clear hp CPt
        go_wp2_with fail
        go_quiet ((go_at_call 94; exact Calls.quiet_of_same (CP.out _)))
        have CS : Hid (Calls Tryz.prog 42 #[.pointer (some ⟨P, 0, none⟩), .int .i64 4] (wr.drewN nq) fun e w' => e = .returned (.tuple #[]) ∧ PB w' P (bs (sk (l.drop 4))) sv ∧ (wr.drewN nq).grownBy w' (some P)) := CSn.out 4 (wr.drewN nq) HL.out (HI.out.p.drewN nq)
        go_wp2_with (go_at_call 42; (with_reducible refine CS.out.mono ?_); rintro e w1 ⟨rfl, h1, hg⟩; have HR := Lib.hid (SInv.skipped (HI.out.drewN nq) hPl hg); have r0 := HR.out.2.c0; have r1 := HR.out.2.c1; have r2 := HR.out.2.c2; have r3 := HR.out.2.c3; have f0 := HR.out.2.fr 0; have f1 := HR.out.2.fr 1; have f2 := HR.out.2.fr 2; have f3 := HR.out.2.fr 3)
        exact single_end hPl HR.out.1 HR.out.2 h1 rfl rfl rfl (.inr ⟨rfl, _, rfl, HG.out⟩)
      · have HP := Lib.hid (Bool.eq_false_iff.2 hp)
        have CP := Lib.hid (CPt.out ⟨#[116, 114, 117, 101]⟩)
        rw [show (ByteArray.mk #[116, 114, 117, 101]).data.toList = [116, 114, 117, 101] from rfl, HP.out] at CP
        clear hp CPt CSn
        go_wp2_with fail
        go_quiet ((go_at_call 94; exact Calls.quiet_of_same (CP.out _)))
        go_wp2_with fail
        go_roundw
        case rel => exact ⟨4, rfl, by omega, by omega, HI.out.drewN nq, fun _ => HN.out.1 (by omega), fun _ => HN.out.2.1 (by omega), fun _ => HP.out⟩
        case measure => simp [intOf]
    · clear W1 W2 W3 hk1 hk4 HS0
      have N1 := Lib.hid (HN.out.1 (by omega))
      have N2 := Lib.hid (HN.out.2.1 (by omega))
      have N3 := Lib.hid (HN.out.2.2 (by omega))
      clear HN
      have HS0 : Hid (singleG l = if Lib.hasPrefix l [34] = true then (match unqG l with | some (t, m) => some (jText t, sk (l.drop m)) | none => none) else if numG (numL l) = true then some (jNum (numL l), sk (l.drop (l.length - (numR l).length))) else none) := by
        show singleG l = _
        unfold singleG
        rw [if_neg (by rw [N1.out]; simp), if_neg (by rw [N2.out]; simp), if_neg (by rw [N3.out]; simp)]
        rfl
      have CP := Lib.hid (CPt.out ⟨#[34]⟩)
      rw [show (ByteArray.mk #[34]).data.toList = [34] from rfl] at CP
      clear N1 N2 N3 CPt
      by_cases hp : Lib.hasPrefix l [34] = true
      · rw [hp] at CP
        cases hu : unqG l with
        | some x =>
          obtain ⟨t, m⟩ := x
          have HG : Hid (singleG l = some (⟨5, bs t, [], []⟩, sk (l.drop m))) := by show singleG l = _; rw [HS0.out, if_pos hp, hu]; rfl
          have CQ := Lib.hid (takeQ_yes l t m hu hl P sv wr HI.out.t.tabs HI.out.p)
          clear hp hu HS0 CSn
          go_wp2_with (first
            | (go_at_call 94; (with_reducible refine (CP.out _).mono ?_); rintro e w1 ⟨rfl, rfl⟩)
            | (go_at_call 95; (with_reducible refine CQ.out.mono ?_); rintro e w1 ⟨rfl, h1, hg⟩; have HR := Lib.hid (SInv.skipped HI.out hPl hg); have r0 := HR.out.2.c0; have r1 := HR.out.2.c1; have r2 := HR.out.2.c2; have r3 := HR.out.2.c3; have f0 := HR.out.2.fr 0; have f1 := HR.out.2.fr 1; have f2 := HR.out.2.fr 2; have f3 := HR.out.2.fr 3))
          exact single_end hPl HR.out.1 HR.out.2 h1 rfl rfl rfl (.inr ⟨rfl, _, rfl, HG.out⟩)
        | none =>
          have HG : Hid (singleG l = none) := by show singleG l = _; rw [HS0.out, if_pos hp, hu]
          have CQ := Lib.hid (takeQ_no l hu hl P sv wr HI.out.t.tabs HI.out.p)
          clear hp hu HS0 CSn
          go_wp2_with (first
            | (go_at_call 94; (with_reducible refine (CP.out _).mono ?_); rintro e w1 ⟨rfl, rfl⟩)
            | (go_at_call 95; (with_reducible refine CQ.out.mono ?_); rintro e w1 ⟨rfl, h1, hg⟩; have HR := Lib.hid (SInv.skipped HI.out hPl hg); have r0 := HR.out.2.c0; have r1 := HR.out.2.c1; have r2 := HR.out.2.c2; have r3 := HR.out.2.c3; have f0 := HR.out.2.fr 0; have f1 := HR.out.2.fr 1; have f2 := HR.out.2.fr 2; have f3 := HR.out.2.fr 3))
          exact single_end hPl HR.out.1 HR.out.2 h1 rfl rfl rfl (.inl ⟨rfl, HG.out⟩)
      · rw [Bool.eq_false_iff.2 hp] at CP
        have HG0 : Hid (singleG l = if numG (numL l) = true then some (jNum (numL l), sk (l.drop (l.length - (numR l).length))) else none) := by show singleG l = _; rw [HS0.out, if_neg hp]
        have CT : Hid (∀ wx, Calls Tryz.prog 67 #[.string (bs l), .string ⟨#[48, 49, 50, 51, 52, 53, 54, 55, 56, 57, 43, 45, 46, 101, 69]⟩] wx fun e w' => e = .returned (.string (bs (numR l))) ∧ Below wx.heap.size wx w') :=
          fun wx => trim_any (bs l) ⟨#[48, 49, 50, 51, 52, 53, 54, 55, 56, 57, 43, 45, 46, 101, 69]⟩ wx (by decide) (by decide)
        have hm1 : (bs (numR l)).size ≤ (bs l).size := by rw [bs_size, bs_size]; exact trimLeftS_len _ _
        have hm2 : (bs l).size ≤ 500000 := by rw [bs_size]; exact hl
        have HM : Hid ((bs l).extract 0 ((bs l).size - (bs (numR l)).size) = bs (numL l)) := by
          show (bs l).extract 0 ((bs l).size - (bs (numR l)).size) = bs (numL l)
          rw [bs_extract0, bs_size, bs_size]; rfl
        have CN : Hid (∀ wx, Calls Tryz.prog 60 #[.string (bs (numL l))] wx fun e w' => e = .returned (.bool (numG (numL l))) ∧ Below wx.heap.size wx w') := fun wx => num_any (numL l) (by unfold numL; simp; omega) wx
        have CS : Hid (∀ wx, SInv l P sv w wx → Calls Tryz.prog 42 #[.pointer (some ⟨P, 0, none⟩), .int .i64 (((bs l).size : Int) - (bs (numR l)).size)] wx fun e w' => e = .returned (.tuple #[]) ∧ PB w' P (bs (sk (l.drop (l.length - (numR l).length)))) sv ∧ wx.grownBy w' (some P)) := fun wx hx => by
          have := CSn.out (l.length - (numR l).length) wx (by omega) hx.p
          rwa [show ((l.length - (numR l).length : Nat) : Int) = ((bs l).size : Int) - (bs (numR l)).size by rw [bs_size, bs_size] at *; omega] at this
        have hPw : P < wr.heap.size := HI.out.p.lt
        clear HS0 hp CSn
        generalize bs (numR l) = R at *
        generalize bs l = s at *
        have hw : IntKind.i64.wrap ((s.size : Int) - (R.size : Int)) = (s.size : Int) - (R.size : Int) := IntWalk.i64_in _ (by omega)
        go_wp2_with (go_at_call 94; (with_reducible refine (CP.out _).mono ?_); rintro e w1 ⟨rfl, rfl⟩)
        go_region_held3 (fun w' => w'.cell? ⟨P, 0, none⟩ = some (.string s)) (first | exact c0 | exact (hbt.cell (p := ⟨P, 0, none⟩) hPw).trans c0) (first | (go_at_call 67; (with_reducible refine (CT.out _).mono ?_); rintro e wt ⟨rfl, hbt⟩))
        have HIt : Hid (SInv l P sv w wt) := HI.out.below ((Below.refl _ w1).drew.trans hbt)
        clear hw HI hbt
        go_wp2_with (first
          | (go_at_call 42; (with_reducible refine (CS.out _ HIt.out).mono ?_); rintro e w1 ⟨rfl, h1, hg⟩; have HR := Lib.hid (SInv.skipped HIt.out hPl hg); have H1 := Lib.hid h1; clear h1 hg)
          | (go_at_call 60; rw [HM.out]; (with_reducible refine (CN.out _).mono ?_); rintro e w2 ⟨rfl, h2⟩; have HR2 := Lib.hid (HR.out.2.below h2); have r0 := HR2.out.c0; have r1 := HR2.out.c1; have r2 := HR2.out.c2; have r3 := HR2.out.c3; have f0 := HR2.out.fr 0; have f1 := HR2.out.fr 1; have f2 := HR2.out.fr 2; have f3 := HR2.out.fr 3))
        refine single_end hPl (gb_trans HR.out.1 (gb_below h2 _)) HR2.out (H1.out.below h2) rfl rfl rfl ?_
        by_cases hn : numG (numL l) = true
        · exact .inr ⟨hn, _, rfl, by rw [HG0.out, if_pos hn]; rfl⟩
        · exact .inl ⟨Bool.eq_false_iff.2 hn, by rw [HG0.out, if_neg hn]⟩
end Go.Proofs.YtaniebkfgkhgoaaGreatDoor
