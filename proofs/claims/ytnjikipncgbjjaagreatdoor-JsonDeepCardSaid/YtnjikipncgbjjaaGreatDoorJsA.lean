/- Contracts of what tells whether a text is that of a number. -/
import Derived.Test.YtnjikipncgbjjaaGreatDoorJsShelf
import Derived.Test.YtnjikipncgbjjaaGreatDoorJsM
import Derived.Test.YtnjikipncgbjjaaGreatDoorQuoA
import Derived.BigQuiet
namespace Go.Proofs.YtnjikipncgbjjaaGreatDoor
open Go.RowKit
set_option linter.unusedVariables false
set_option maxRecDepth 100000

/-- A list of bytes as a string. -/
def bs (l : List UInt8) : ByteArray := ⟨l.toArray⟩
theorem bs_list (l : List UInt8) : (bs l).data.toList = l := rfl
theorem bs_size (l : List UInt8) : (bs l).size = l.length := by show l.toArray.size = _; simp
theorem of_bs (s : ByteArray) : bs s.data.toList = s := by cases s; rfl
theorem bs_eq {s : ByteArray} {l : List UInt8} (h : s.data.toList = l) : s = bs l := by rw [← h, of_bs]
theorem bs_isEmpty (l : List UInt8) : (bs l).toList.isEmpty = l.isEmpty := by rw [Lib.toList_data, bs_list]
theorem bs_extract (l : List UInt8) (a : Nat) (h : a ≤ l.length) : (bs l).extract a (bs l).size = bs (l.drop a) := by
  apply bs_eq; rw [ext_list, bs_list]
theorem bs_extract0 (l : List UInt8) (k : Nat) : (bs l).extract 0 k = bs (l.take k) := by
  apply bs_eq; rw [Lib.extract_data, bs_list]; simp

theorem cutF_any (l : List UInt8) (hl : l.length ≤ 1099511627776) (w : World) :
    Calls Tryz.prog 81 #[.string (bs l)] w fun e w' => e = .returned (.tuple #[.string (bs (figL l)), .string (bs (figR l))]) ∧ Below w.heap.size w w' := by
  obtain ⟨t, ht⟩ : ∃ t, t = bs (figR l) := ⟨_, rfl⟩
  have h1 : t.size ≤ (bs l).size := by rw [ht, bs_size, bs_size]; exact trimLeftS_len _ _
  have h2 : (bs l).size ≤ 1099511627776 := by rw [bs_size]; exact hl
  have HE : Hid ((bs l).extract 0 ((bs l).size - t.size) = bs (figL l)) := by
    show (bs l).extract 0 ((bs l).size - t.size) = bs (figL l)
    rw [bs_extract0, ht, bs_size, bs_size]; rfl
  have HC : ∀ w0 : World, Calls Tryz.prog 68 #[.string (bs l), .string ⟨#[48, 49, 50, 51, 52, 53, 54, 55, 56, 57]⟩] w0 fun e w' => e = .returned (.string t) ∧ Below w0.heap.size w0 w' := fun w0 => by
    rw [ht]; exact trim_any (bs l) ⟨#[48, 49, 50, 51, 52, 53, 54, 55, 56, 57]⟩ w0 (by decide) (by decide)
  have HC' := Lib.hid HC
  rw [← ht]
  clear HC ht
  generalize bs l = s at *
  go_enter Tryz.func81, Tryz.ntmps81
  go_wp2_with (go_at_call 68; (with_reducible refine (HC'.out _).mono ?_); rintro e w1 ⟨rfl, hb⟩)
  go_ret2
  exact ⟨by show Ending.returned (Value.tuple #[.string (s.extract 0 (s.size - t.size)), .string t]) = _; rw [HE.out], hb⟩

theorem cutF_of (s : ByteArray) (l : List UInt8) (h : s = bs l) (hl : l.length ≤ 1099511627776) (w : World) :
    Calls Tryz.prog 81 #[.string s] w fun e w' => e = .returned (.tuple #[.string (bs (figL l)), .string (bs (figR l))]) ∧ Below w.heap.size w w' := by
  subst h; exact cutF_any l hl w

theorem has1 (l : List UInt8) (c : UInt8) : Lib.hasPrefix l [c] = decide (l.head? = some c) := by
  show List.isPrefixOf [c] l = _
  cases l with
  | nil => rfl
  | cons a r =>
    show (c == a && List.isPrefixOf [] r) = _
    rw [show List.isPrefixOf ([] : List UInt8) r = true by cases r <;> rfl, Bool.and_true, List.head?_cons]
    by_cases h : c = a
    · subst h; simp
    · rw [beq_eq_false_iff_ne.2 h, eq_comm, decide_eq_false_iff_not]; intro e; exact h (Option.some.inj e).symm
theorem has_pos {l : List UInt8} {c : UInt8} (h : Lib.hasPrefix l [c] = true) : 1 ≤ l.length := by
  rw [has1] at h; cases l <;> simp at h ⊢
theorem sign_len (l : List UInt8) : (signR l).length ≤ l.length := by
  unfold signR; split <;> simp

/-- Whether digits stand there, and nothing behind them. -/
def onlyFig (l : List UInt8) : Bool := (figL l ≠ []) && (figR l = [])

theorem ret_bool {a b : Bool} (h : a = b) : Ending.returned (.bool a) = .returned (.bool b) := by rw [h]
theorem bs_nil {l : List UInt8} (h : (bs l).toList = []) : l = [] := by rw [Lib.toList_data, bs_list] at h; exact h
theorem bs_nnil {l : List UInt8} (h : ¬ (bs l).toList = []) : l ≠ [] := fun e => h (by rw [Lib.toList_data, bs_list]; exact e)
theorem only_no {A B : List UInt8} (h : (bs A).toList = []) : Ending.returned (.bool false) = .returned (.bool (decide (A ≠ []) && decide (B = []))) := by
  rw [bs_nil h]; rfl
theorem only_yes {A B : List UInt8} (h : ¬ (bs A).toList = []) : Ending.returned (.bool (!(bs A).toList.isEmpty && (bs B).toList.isEmpty)) = .returned (.bool (decide (A ≠ []) && decide (B = []))) := by
  apply ret_bool
  rw [bs_isEmpty, bs_isEmpty, decide_eq_true (bs_nnil h), Bool.true_and]
  have := bs_nnil h
  cases A with
  | nil => exact absurd rfl this
  | cons a r => cases B <;> rfl

set_option maxHeartbeats 1000000 in
/-- Behind the e: a sign, or none (the text m is what is cut then). -/
theorem exp_mid (z : Int) (hz : z = 101 ∨ z = 69) (s : ByteArray) (l : List UInt8) (hs1 : 0 < s.size) (hs2 : s.size ≤ 1099511627776) (hx : s.extract 1 s.size = bs l) (hl : l.length ≤ 1099511627775) (he : (s[0].toNat : Int) = z) (w : World) :
    Calls Tryz.prog 84 #[.string s] w fun e w' => e = .returned (.bool (onlyFig (signR l))) ∧ Below w.heap.size w w' := by
  have HM := Lib.hid (sign_len l)
  have PP : Hid (∀ (c : UInt8) w0, Calls Tryz.prog 95 #[.string (bs l), .string ⟨#[c]⟩] w0 fun e w' => e = .returned (.bool (Lib.hasPrefix l [c])) ∧ w0 = w') := fun c w0 => hasPrefix_any (bs l) ⟨#[c]⟩ w0
  have h1 : Lib.hasPrefix l [43] = true ∨ Lib.hasPrefix l [45] = true → 1 ≤ (bs l).size := by rw [bs_size]; exact fun h => h.elim has_pos has_pos
  have HC : Hid (∀ w0, Calls Tryz.prog 81 #[.string (bs (signR l))] w0 fun e w' => e = .returned (.tuple #[.string (bs (figL (signR l))), .string (bs (figR (signR l)))]) ∧ Below w0.heap.size w0 w') :=
    fun w0 => cutF_any _ (by have := HM.out; omega) w0
  have HY : 1 ≤ l.length → (bs l).extract 1 (bs l).size = bs (l.drop 1) := bs_extract l 1
  have HB : (bs l).size = l.length := bs_size l
  unfold onlyFig
  rcases hz with rfl | rfl
  all_goals
    cases h43 : Lib.hasPrefix l [43] with
    | true =>
      have h1' := h1 (.inl h43)
      have hy : (bs l).extract 1 (bs l).size = bs (signR l) := by rw [HY (by omega)]; unfold signR; rw [if_pos (Or.inl h43)]
      generalize figL (signR l) = A at HC ⊢
      generalize figR (signR l) = B at HC ⊢
      generalize bs (signR l) = M at HC hy
      clear HM h1 HY HB
      go_enter Tryz.func84, Tryz.ntmps84
      go_wp2_with (first
        | (go_at_call 95; (with_reducible refine (PP.out _ _).mono ?_); rintro e w1 ⟨rfl, rfl⟩)
        | (go_at_call 81; (with_reducible refine (HC.out _).mono ?_); rintro e w1 ⟨rfl, hb⟩))
      · go_ret; exact ⟨only_no (by assumption), hb⟩
      · go_ret; exact ⟨only_yes (by assumption), hb⟩
    | false =>
      cases h45 : Lib.hasPrefix l [45] with
      | true =>
        have h1' := h1 (.inr h45)
        have hy : (bs l).extract 1 (bs l).size = bs (signR l) := by rw [HY (by omega)]; unfold signR; rw [if_pos (Or.inr h45)]
        generalize figL (signR l) = A at HC ⊢
        generalize figR (signR l) = B at HC ⊢
        generalize bs (signR l) = M at HC hy
        clear HM h1 HY HB
        go_enter Tryz.func84, Tryz.ntmps84
        go_wp2_with (first
          | (go_at_call 95; (with_reducible refine (PP.out _ _).mono ?_); rintro e w1 ⟨rfl, rfl⟩)
          | (go_at_call 81; (with_reducible refine (HC.out _).mono ?_); rintro e w1 ⟨rfl, hb⟩))
        · go_ret; exact ⟨only_no (by assumption), hb⟩
        · go_ret; exact ⟨only_yes (by assumption), hb⟩
      | false =>
        have hy : bs (signR l) = bs l := by unfold signR; rw [if_neg (by rw [h43, h45]; simp)]
        rw [hy] at HC
        generalize figL (signR l) = A at HC ⊢
        generalize figR (signR l) = B at HC ⊢
        clear HM h1 HY HB hy
        go_enter Tryz.func84, Tryz.ntmps84
        go_wp2_with (first
          | (go_at_call 95; (with_reducible refine (PP.out _ _).mono ?_); rintro e w1 ⟨rfl, rfl⟩)
          | (go_at_call 81; (with_reducible refine (HC.out _).mono ?_); rintro e w1 ⟨rfl, hb⟩))
        · go_ret; exact ⟨only_no (by assumption), hb⟩
        · go_ret; exact ⟨only_yes (by assumption), hb⟩

theorem u8_eq {c d : UInt8} (h : (c.toNat : Int) = (d.toNat : Int)) : c = d := UInt8.toNat_inj.1 (by omega)
theorem exp_any (s : ByteArray) (m : List UInt8) (hm : m ≠ []) (h : s = bs m) (hl : m.length ≤ 1099511627775) (w : World) :
    Calls Tryz.prog 84 #[.string s] w fun e w' => e = .returned (.bool (expG m)) ∧ Below w.heap.size w w' := by
  obtain ⟨c, l, rfl⟩ := List.exists_cons_of_ne_nil hm
  have hs1 : 0 < s.size := by rw [h, bs_size]; simp
  have hs2 : s.size ≤ 1099511627776 := by rw [h, bs_size]; omega
  have hz : s[0] = c := by simp only [h]; rfl
  have HX : s.extract 1 s.size = bs l := by rw [h]; exact bs_extract (c :: l) 1 (by simp)
  by_cases hc : c = 101 ∨ c = 69
  · have HR : expG (c :: l) = onlyFig (signR l) := by unfold expG; rw [if_pos (by simpa using hc)]; rfl
    rw [HR]
    exact exp_mid c.toNat (by rcases hc with rfl | rfl <;> decide) s l hs1 hs2 HX (by simp at hl; omega) (by rw [hz]) w
  · have HR : Hid (expG (c :: l) = false) := by show expG (c :: l) = _; unfold expG; rw [if_neg (by simpa using hc)]
    have e1 : ((s[0].toNat : Int) != 101) = true := by rw [hz]; simp only [bne_iff_ne, ne_eq]; exact fun e => hc (.inl (u8_eq e))
    have e2 : ((s[0].toNat : Int) != 69) = true := by rw [hz]; simp only [bne_iff_ne, ne_eq]; exact fun e => hc (.inr (u8_eq e))
    generalize expG (c :: l) = R at HR ⊢
    clear hz h hc HX
    go_enter Tryz.func84, Tryz.ntmps84
    go_wp2_with fail
    go_ret
    exact ⟨by rw [HR.out]; rfl, Below.refl _ _⟩
end Go.Proofs.YtnjikipncgbjjaaGreatDoor
