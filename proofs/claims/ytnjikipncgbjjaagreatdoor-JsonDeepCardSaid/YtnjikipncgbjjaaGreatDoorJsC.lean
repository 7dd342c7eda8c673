/- Contracts of the parser's leaves: skip, take, takeQuoted. -/
import Derived.Test.YtnjikipncgbjjaaGreatDoorJsB
import Derived.Test.YtnjikipncgbjjaaGreatDoorQuoE
namespace Go.Proofs.YtnjikipncgbjjaaGreatDoor
open Go.RowKit
set_option linter.unusedVariables false
set_option maxRecDepth 100000

/-- The parser's own block: what is left of the text, and the stack. -/
def PB (w : World) (P : Nat) (s : ByteArray) (sv : Value) : Prop := w.heap[P]? = some (.cells #[.string s, sv] 43 (0, 0))
section
variable {w w' : World} {P : Nat} {s : ByteArray} {sv : Value}
theorem PB.c0 (h : PB w P s sv) : w.cell? ⟨P, 0, none⟩ = some (.string s) := by unfold PB at h; simp [World.cell?, h]
theorem PB.c1 (h : PB w P s sv) : w.cell? ⟨P, 1, none⟩ = some sv := by unfold PB at h; simp [World.cell?, h]
theorem PB.fr (h : PB w P s sv) (i : Nat) : w.frozen? ⟨P, i, none⟩ = false := by unfold PB at h; simp [World.frozen?, h]
theorem PB.lt (h : PB w P s sv) : P < w.heap.size := (Array.getElem?_eq_some_iff.1 h).1
theorem PB.set0 (h : PB w P s sv) (t : ByteArray) : PB (w.setCell ⟨P, 0, none⟩ (.string t)) P t sv := by
  unfold PB at h ⊢; simp [World.setCell, Array.getElem?_modify, h]
theorem PB.set1 (h : PB w P s sv) (v : Value) : PB (w.setCell ⟨P, 1, none⟩ v) P s v := by
  unfold PB at h ⊢; simp [World.setCell, Array.getElem?_modify, h]
theorem PB.gb {r : Option Nat} (h : PB w P s sv) (g : w.grownBy w' r) (hn : some P ≠ r) : PB w' P s sv := gb_heap g h hn
theorem PB.below (h : PB w P s sv) (g : Below w.heap.size w w') : PB w' P s sv := (g.block P h.lt).trans h
theorem PB.drewN (h : PB w P s sv) (n : Nat) : PB (w.drewN n) P s sv := h
end

theorem skip_any (l : List UInt8) (n : Nat) (hn : n ≤ l.length) (hl : l.length ≤ 1099511627775) (P : Nat) (sv : Value) (w : World) (h : PB w P (bs l) sv) :
    Calls Tryz.prog 43 #[.pointer (some ⟨P, 0, none⟩), .int .i64 n] w fun e w' => e = .returned (.tuple #[]) ∧ PB w' P (bs (sk (l.drop n))) sv ∧ w.grownBy w' (some P) := by
  have c0 := h.c0
  have hz : (n : Int) ≤ ((bs l).size : Int) := by rw [bs_size]; omega
  have hz2 : ((bs l).size : Int) ≤ 1099511627775 := by rw [bs_size]; omega
  have HX : Hid ((bs l).extract n (bs l).size = bs (l.drop n)) := bs_extract l n hn
  have CT : Hid (∀ w0, Calls Tryz.prog 68 #[.string (bs (l.drop n)), .string ⟨#[32, 9, 10, 13]⟩] w0 fun e w' => e = .returned (.string (bs (sk (l.drop n)))) ∧ Below w0.heap.size w0 w') :=
    fun w0 => trim_any (bs (l.drop n)) ⟨#[32, 9, 10, 13]⟩ w0 (by decide) (by decide)
  have H := Lib.hid h
  generalize bs (sk (l.drop n)) = R at CT ⊢
  clear h hn hl
  go_enter Tryz.func43, Tryz.ntmps43
  go_wp2_with (go_at_call 68; rw [HX.out]; (with_reducible refine (CT.out _).mono ?_); rintro e w1 ⟨rfl, hb⟩; have H1 := Lib.hid (H.out.below hb); have HB := Lib.hid hb; have f1 := H1.out.fr 0; have d0 := H1.out.c0; clear hb c0)
  go_end0
  exact ⟨rfl, H1.out.set0 R, gb_trans (gb_below HB.out _) (gb_set _ ⟨P, 0, none⟩ _)⟩

theorem take_yes (c : UInt8) (l r : List UInt8) (ht : takeG c l = some r) (hl : l.length ≤ 1099511627775) (P : Nat) (sv : Value) (w : World) (h : PB w P (bs l) sv) :
    Calls Tryz.prog 69 #[.pointer (some ⟨P, 0, none⟩), .int .u8 c.toNat] w fun e w' => e = .returned (.bool true) ∧ PB w' P (bs r) sv ∧ w.grownBy w' (some P) := by
  unfold takeG at ht
  split at ht
  case isFalse => cases ht
  rename_i hh
  cases ht
  have hne : l ≠ [] := by intro e; rw [e] at hh; cases hh
  have c0 := h.c0
  have e1 := nil_f hne
  have e2 := emp_f hne
  have hz : 0 < (bs l).size := by rw [bs_size]; cases l <;> simp at hne ⊢
  have e3 : ((bs l)[0].toNat : Int) = (c.toNat : Int) := by
    obtain ⟨a, ha, h0⟩ := head_at hz
    rw [h0]; rw [hh] at ha; cases ha; rfl
  have CS : Hid (∀ w0, PB w0 P (bs l) sv → Calls Tryz.prog 43 #[.pointer (some ⟨P, 0, none⟩), .int .i64 1] w0 fun e w' => e = .returned (.tuple #[]) ∧ PB w' P (bs (sk (l.drop 1))) sv ∧ w0.grownBy w' (some P)) :=
    fun w0 h0 => skip_any l 1 (by rw [bs_size] at hz; omega) hl P sv w0 h0
  have H := Lib.hid h
  clear h hh hne hl
  go_enter Tryz.func69, Tryz.ntmps69
  go_wp2_with (go_at_call 43; (with_reducible refine (CS.out _ H.out).mono ?_); rintro e w1 ⟨rfl, h1, hg⟩)
  go_ret
  exact ⟨rfl, h1, hg⟩

theorem take_no (c : UInt8) (l : List UInt8) (ht : takeG c l = none) (P : Nat) (sv : Value) (w : World) (h : PB w P (bs l) sv) :
    Calls Tryz.prog 69 #[.pointer (some ⟨P, 0, none⟩), .int .u8 c.toNat] w fun e w' => e = .returned (.bool false) ∧ w = w' := by
  unfold takeG at ht
  split at ht
  case isTrue => cases ht
  rename_i hh
  have c0 := h.c0
  clear h ht
  by_cases hne : l = []
  · subst hne
    have e1 := nil_t
    have e2 := emp_t
    go_enter Tryz.func69, Tryz.ntmps69
    go_wp2_with fail
    go_ret
    exact ⟨rfl, rfl⟩
  · have e1 := nil_f hne
    have e2 := emp_f hne
    have hz : 0 < (bs l).size := by rw [bs_size]; cases l <;> simp at hne ⊢
    have e3 : (((bs l)[0].toNat : Int) != (c.toNat : Int)) = true := by
      obtain ⟨a, ha, h0⟩ := head_at hz
      rw [h0, bne_iff_ne]
      intro e
      have : a = c := u8_eq e
      subst this
      exact hh ha
    clear hh hne
    go_enter Tryz.func69, Tryz.ntmps69
    go_wp2_with fail
    go_ret
    exact ⟨rfl, rfl⟩

/-- Unquote's size is within the text. -/
theorem unq_le {l t : List UInt8} {m : Nat} (h : unqG l = some (t, m)) : m ≤ l.length := (unqG_valid h).2.2

theorem takeQ_yes (l t : List UInt8) (m : Nat) (hu : unqG l = some (t, m)) (hl : l.length ≤ 500000) (P : Nat) (sv : Value) (w : World) (hT : TabsW w) (h : PB w P (bs l) sv) :
    Calls Tryz.prog 96 #[.pointer (some ⟨P, 0, none⟩)] w fun e w' => e = .returned (.tuple #[.string (bs t), .bool true]) ∧ PB w' P (bs (sk (l.drop m))) sv ∧ w.grownBy w' (some P) := by
  have c0 := h.c0
  have CU := Lib.hid (unquote_any (bs l) w hT (by rw [bs_size]; exact hl))
  rw [bs_list, hu] at CU
  have CS : Hid (∀ w0, PB w0 P (bs l) sv → Calls Tryz.prog 43 #[.pointer (some ⟨P, 0, none⟩), .int .i64 m] w0 fun e w' => e = .returned (.tuple #[]) ∧ PB w' P (bs (sk (l.drop m))) sv ∧ w0.grownBy w' (some P)) :=
    fun w0 h0 => skip_any l m (unq_le hu) (by omega) P sv w0 h0
  have H := Lib.hid h
  generalize bs (sk (l.drop m)) = R at CS ⊢
  simp only [unqS] at CU
  change Hid (Calls _ _ _ _ fun e w' => e = .returned (.tuple #[.string (bs t), _, _]) ∧ _) at CU
  generalize bs t = T at CU ⊢
  clear h hu hl hT
  go_enter Tryz.func96, Tryz.ntmps96
  go_wp2_with (first
    | (go_at_call 114; (with_reducible refine CU.out.mono ?_); rintro e w1 ⟨rfl, hb⟩; have H1 := Lib.hid (H.out.below hb); have HB := Lib.hid hb; clear hb)
    | (go_at_call 43; (with_reducible refine (CS.out _ H1.out).mono ?_); rintro e w2 ⟨rfl, h2, hg⟩))
  go_ret2
  exact ⟨rfl, h2, gb_trans (gb_below HB.out _) hg⟩

theorem takeQ_no (l : List UInt8) (hu : unqG l = none) (hl : l.length ≤ 500000) (P : Nat) (sv : Value) (w : World) (hT : TabsW w) (h : PB w P (bs l) sv) :
    Calls Tryz.prog 96 #[.pointer (some ⟨P, 0, none⟩)] w fun e w' => e = .returned (.tuple #[.string ⟨#[]⟩, .bool false]) ∧ PB w' P (bs (sk l)) sv ∧ w.grownBy w' (some P) := by
  have c0 := h.c0
  have CU := Lib.hid (unquote_any (bs l) w hT (by rw [bs_size]; exact hl))
  rw [bs_list, hu] at CU
  have CS : Hid (∀ w0, PB w0 P (bs l) sv → Calls Tryz.prog 43 #[.pointer (some ⟨P, 0, none⟩), .int .i64 0] w0 fun e w' => e = .returned (.tuple #[]) ∧ PB w' P (bs (sk l)) sv ∧ w0.grownBy w' (some P)) :=
    fun w0 h0 => skip_any l 0 (by omega) (by omega) P sv w0 h0
  have H := Lib.hid h
  simp only [unqS] at CU
  generalize bs (sk l) = R at CS ⊢
  clear h hu hl hT
  go_enter Tryz.func96, Tryz.ntmps96
  go_wp2_with (first
    | (go_at_call 114; (with_reducible refine CU.out.mono ?_); rintro e w1 ⟨rfl, hb⟩; have H1 := Lib.hid (H.out.below hb); have HB := Lib.hid hb; clear hb)
    | (go_at_call 43; (with_reducible refine (CS.out _ H1.out).mono ?_); rintro e w2 ⟨rfl, h2, hg⟩))
  go_ret2
  exact ⟨rfl, h2, gb_trans (gb_below HB.out _) hg⟩
end Go.Proofs.YtnjikipncgbjjaaGreatDoor
