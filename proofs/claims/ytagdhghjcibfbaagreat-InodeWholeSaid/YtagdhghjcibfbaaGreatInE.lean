/- Layer 8: place, newPlace, entry, entryOf, Find. -/
import Derived.Test.YtagdhghjcibfbaaGreatInN2
namespace Go.Proofs.YtagdhghjcibfbaaGreat
open Go.RowKit
set_option linter.unusedVariables false
set_option maxRecDepth 100000

/-- What a table is good for: no act on it comes to an end. -/
structure Ok (T : Tb) : Prop where
  lead : ∀ i n s id, aget i T.nodes = some n → aget s n.names = some id → ∃ m, aget id T.nodes = some m
  ids : ∀ id n, aget id T.nodes = some n → 1 ≤ id ∧ id ≤ 1099511627776
  last : 0 ≤ T.last ∧ T.last < 1099511627776
  len : T.nodes.length ≤ 4096
  nln : ∀ id n, aget id T.nodes = some n → n.names.length < 1099511627776
  quo : 0 ≤ T.used ∧ T.used ≤ T.quota ∧ T.quota ≤ 1099511627776
  lnk : ∀ id n, aget id T.nodes = some n → 0 ≤ n.links ∧ n.links ≤ 1099511627776
  hld : ∀ id n, aget id T.nodes = some n → 0 ≤ n.holds ∧ n.holds ≤ 1048576
  dat : ∀ id n, aget id T.nodes = some n → n.data.length ≤ 1099511627776
theorem TbAt.below {w w' : World} {t : Nat} {T : Tb} {A : Int → Nat × Nat} {mb : Nat} (h : TbAt w t T A mb) (b : Below w.heap.size w w') : TbAt w' t T A mb :=
  h.ch (Ch.of_below (M := fun _ => False) b) (fun _ _ e => e)
theorem nm_len {s : List UInt8} (h : isNm s = true) : s.length ≤ 32 := by
  unfold isNm at h
  simp only [Bool.and_eq_true, decide_eq_true_eq] at h
  exact h.1.2
theorem nm_max {s : List UInt8} (h : isNm s = true) : s.length ≤ maxLen := by have := nm_len h; unfold maxLen; omega
theorem place_parts {T : Tb} {dir : Int} {name : List UInt8} (h : T.placeE dir name = 0) : ∃ n, aget dir T.nodes = some n ∧ n.dir = true ∧ isNm name = true ∧ T.kindE dir true = 0 := by
  unfold Tb.placeE at h
  split at h
  · next hk =>
    cases hn : aget dir T.nodes with
    | none => rw [kindE_none hn] at hk; cases hk
    | some n =>
      have hk2 := hk
      rw [kindE_some hn] at hk
      refine ⟨n, rfl, ?_, ?_, hk2⟩
      · by_cases e : n.dir = true; exact e; rw [if_neg e] at hk; cases hk
      · by_cases e : isNm name = true; exact e; rw [if_neg e] at h; cases h
  · next hk => exact absurd h hk

section
variable {w : World} {t : Nat} {T : Tb} {A : Int → Nat × Nat} {mb : Nat} (h : TbAt w t T A mb) {dir : Int} (hid : InI dir) (name : List UInt8)
include h hid
theorem place_ok (hE : T.placeE dir name = 0) :
    Calls Tryz.prog 60 #[.pointer (some ⟨t, 0, none⟩), .int .i64 dir, .string (bs name)] w fun e w' => e = .returned (.tuple #[.pointer (some ⟨(A dir).1, 0, none⟩), .int .i64 0]) ∧ Below w.heap.size w w' := by
  obtain ⟨n, _, _, hnm, hk⟩ := place_parts hE
  have C := directory_ok h hid hk
  have CN := Lib.hid (isName_any name w)
  rw [hnm] at CN
  clear hE hk hnm
  go_enter Tryz.func60, Tryz.ntmps60
  go_wp2_with (first
    | (go_at_call 54; (with_reducible refine C.mono ?_); rintro e w1 ⟨rfl, rfl⟩)
    | (go_at_call 83; (with_reducible refine CN.out.mono ?_); rintro e w2 ⟨rfl, hb⟩; have HB := Lib.hid hb; clear hb))
  go_ret2
  exact ⟨rfl, HB.out⟩
theorem place_no (hE : T.placeE dir name ≠ 0) :
    Calls Tryz.prog 60 #[.pointer (some ⟨t, 0, none⟩), .int .i64 dir, .string (bs name)] w fun e w' => e = .returned (.tuple #[.pointer none, .int .i64 (T.placeE dir name)]) ∧ Below w.heap.size w w' := by
  unfold Tb.placeE at *
  by_cases hk : T.kindE dir true = 0
  · rw [if_pos hk] at hE ⊢
    have hnm : isNm name = false := by by_cases e : isNm name = true; rw [if_pos e] at hE; exact absurd rfl hE; simpa using e
    rw [if_neg (by rw [hnm]; decide)]
    have C := directory_ok h hid hk
    have CN := Lib.hid (isName_any name w)
    rw [hnm] at CN
    clear hE hk hnm
    go_enter Tryz.func60, Tryz.ntmps60
    go_wp2_with (first
      | (go_at_call 54; (with_reducible refine C.mono ?_); rintro e w1 ⟨rfl, rfl⟩)
      | (go_at_call 83; (with_reducible refine CN.out.mono ?_); rintro e w2 ⟨rfl, hb⟩; have HB := Lib.hid hb; clear hb))
    go_ret2
    exact ⟨rfl, HB.out⟩
  · rw [if_neg hk] at hE ⊢
    have C := directory_no h hid hk
    have hk2 : (T.kindE dir true == 0) = false := by simpa using hk
    have hk3 : (T.kindE dir true != 0) = true := by simpa using hk
    clear hE hk
    generalize T.kindE dir true = k at *
    go_enter Tryz.func60, Tryz.ntmps60
    go_wp2_with (go_at_call 54; (with_reducible refine C.mono ?_); rintro e w1 ⟨rfl, rfl⟩)
    go_ret2
    exact ⟨rfl, Below.refl _ _⟩
theorem newPlace_ok (hE : T.newE dir name = 0) :
    Calls Tryz.prog 46 #[.pointer (some ⟨t, 0, none⟩), .int .i64 dir, .string (bs name)] w fun e w' => e = .returned (.tuple #[.pointer (some ⟨(A dir).1, 0, none⟩), .int .i64 0]) ∧ Below w.heap.size w w' := by
  unfold Tb.newE at hE
  have hk : T.placeE dir name = 0 := by by_cases e : T.placeE dir name = 0; exact e; rw [if_neg e] at hE; exact hE
  rw [if_pos hk] at hE
  obtain ⟨n, hn, hd, hnm, _⟩ := place_parts hk
  have hL : aget name n.names = none := by
    unfold Tb.led at hE; rw [nd_of hn] at hE
    cases hg : aget name n.names with
    | none => rfl
    | some v => rw [hg] at hE; cases hE
  have C := place_ok h hid name hk
  have H := Lib.hid h
  clear hE hk
  go_enter Tryz.func46, Tryz.ntmps46
  go_wp2_with (go_at_call 60; (with_reducible refine C.mono ?_); rintro e w1 ⟨rfl, hb⟩; have HB := Lib.hid hb; have c4 := ((H.out.below hb).nd dir n hn).c4; have hlk := ((H.out.below hb).nm dir n hn hd).look (nm_max hnm); rw [hL] at hlk; simp only [hd, if_true, Option.getD, Option.isSome] at c4 hlk; clear hb; refine Hid.out ?_)
  refine Lib.hid ?_
  go_wp2
  go_ret2
  exact ⟨rfl, HB.out⟩
theorem newPlace_no (hE : T.newE dir name ≠ 0) :
    Calls Tryz.prog 46 #[.pointer (some ⟨t, 0, none⟩), .int .i64 dir, .string (bs name)] w fun e w' => e = .returned (.tuple #[.pointer none, .int .i64 (T.newE dir name)]) ∧ Below w.heap.size w w' := by
  unfold Tb.newE at *
  by_cases hk : T.placeE dir name = 0
  · rw [if_pos hk] at hE ⊢
    obtain ⟨n, hn, hd, hnm, _⟩ := place_parts hk
    unfold Tb.led at *
    rw [nd_of hn] at *
    cases hL : aget name n.names with
    | none => rw [hL] at hE; exact absurd rfl hE
    | some v =>
      have C := place_ok h hid name hk
      have H := Lib.hid h
      clear hE hk
      go_enter Tryz.func46, Tryz.ntmps46
      go_wp2_with (go_at_call 60; (with_reducible refine C.mono ?_); rintro e w1 ⟨rfl, hb⟩; have HB := Lib.hid hb; have c4 := ((H.out.below hb).nd dir n hn).c4; have hlk := ((H.out.below hb).nm dir n hn hd).look (nm_max hnm); rw [hL] at hlk; simp only [hd, if_true, Option.getD, Option.isSome] at c4 hlk; clear hb; refine Hid.out ?_)
      refine Lib.hid ?_
      go_wp2
      go_ret2
      exact ⟨rfl, HB.out⟩
  · rw [if_neg hk] at hE ⊢
    have C := place_no h hid name hk
    have hk2 : (T.placeE dir name == 0) = false := by simpa using hk
    have hk3 : (T.placeE dir name != 0) = true := by simpa using hk
    clear hE hk
    generalize T.placeE dir name = k at *
    go_enter Tryz.func46, Tryz.ntmps46
    go_wp2_with (go_at_call 60; (with_reducible refine C.mono ?_); rintro e w1 ⟨rfl, hb⟩; have HB := Lib.hid hb; clear hb)
    go_ret2
    exact ⟨rfl, HB.out⟩
theorem entry_ok (hE : T.entE dir name = 0) :
    Calls Tryz.prog 58 #[.pointer (some ⟨t, 0, none⟩), .int .i64 dir, .string (bs name)] w fun e w' => e = .returned (.tuple #[.pointer (some ⟨(A dir).1, 0, none⟩), .int .i64 (T.tgt dir name), .int .i64 0]) ∧ Below w.heap.size w w' := by
  unfold Tb.entE at hE
  have hk : T.placeE dir name = 0 := by by_cases e : T.placeE dir name = 0; exact e; rw [if_neg e] at hE; exact hE
  rw [if_pos hk] at hE
  obtain ⟨n, hn, hd, hnm, _⟩ := place_parts hk
  unfold Tb.tgt
  unfold Tb.led at *
  rw [nd_of hn] at *
  cases hL : aget name n.names with
  | none => rw [hL] at hE; cases hE
  | some v =>
    have C := place_ok h hid name hk
    have H := Lib.hid h
    clear hE hk
    go_enter Tryz.func58, Tryz.ntmps58
    go_wp2_with (go_at_call 60; (with_reducible refine C.mono ?_); rintro e w1 ⟨rfl, hb⟩; have HB := Lib.hid hb; have c4 := ((H.out.below hb).nd dir n hn).c4; have hlk := ((H.out.below hb).nm dir n hn hd).look (nm_max hnm); rw [hL] at hlk; simp only [hd, if_true, Option.getD, Option.isSome] at c4 hlk; clear hb; refine Hid.out ?_)
    refine Lib.hid ?_
    go_wp2
    go_ret3
    exact ⟨rfl, HB.out⟩
theorem entry_no (hE : T.entE dir name ≠ 0) :
    Calls Tryz.prog 58 #[.pointer (some ⟨t, 0, none⟩), .int .i64 dir, .string (bs name)] w fun e w' => e = .returned (.tuple #[.pointer none, .int .i64 0, .int .i64 (T.entE dir name)]) ∧ Below w.heap.size w w' := by
  unfold Tb.entE at *
  by_cases hk : T.placeE dir name = 0
  · rw [if_pos hk] at hE ⊢
    obtain ⟨n, hn, hd, hnm, _⟩ := place_parts hk
    unfold Tb.led at *
    rw [nd_of hn] at *
    cases hL : aget name n.names with
    | some v => rw [hL] at hE; exact absurd rfl hE
    | none =>
      have C := place_ok h hid name hk
      have H := Lib.hid h
      clear hE hk
      go_enter Tryz.func58, Tryz.ntmps58
      go_wp2_with (go_at_call 60; (with_reducible refine C.mono ?_); rintro e w1 ⟨rfl, hb⟩; have HB := Lib.hid hb; have c4 := ((H.out.below hb).nd dir n hn).c4; have hlk := ((H.out.below hb).nm dir n hn hd).look (nm_max hnm); rw [hL] at hlk; simp only [hd, if_true, Option.getD, Option.isSome] at c4 hlk; clear hb; refine Hid.out ?_)
      refine Lib.hid ?_
      go_wp2
      go_ret3
      exact ⟨rfl, HB.out⟩
  · rw [if_neg hk] at hE ⊢
    have C := place_no h hid name hk
    have hk2 : (T.placeE dir name == 0) = false := by simpa using hk
    have hk3 : (T.placeE dir name != 0) = true := by simpa using hk
    clear hE hk
    generalize T.placeE dir name = k at *
    go_enter Tryz.func58, Tryz.ntmps58
    go_wp2_with (go_at_call 60; (with_reducible refine C.mono ?_); rintro e w1 ⟨rfl, hb⟩; have HB := Lib.hid hb; clear hb)
    go_ret3
    exact ⟨rfl, HB.out⟩
end
theorem ent_parts {T : Tb} {dir : Int} {name : List UInt8} (h : T.entE dir name = 0) : ∃ n, aget dir T.nodes = some n ∧ n.dir = true ∧ isNm name = true ∧ aget name n.names = some (T.tgt dir name) := by
  unfold Tb.entE at h
  have hk : T.placeE dir name = 0 := by by_cases e : T.placeE dir name = 0; exact e; rw [if_neg e] at h; exact h
  rw [if_pos hk] at h
  obtain ⟨n, hn, hd, hnm, _⟩ := place_parts hk
  refine ⟨n, hn, hd, hnm, ?_⟩
  unfold Tb.tgt
  unfold Tb.led at *
  rw [nd_of hn] at *
  cases hL : aget name n.names with
  | none => rw [hL] at h; cases h
  | some v => rfl
section
variable {w : World} {t : Nat} {T : Tb} {A : Int → Nat × Nat} {mb : Nat} (h : TbAt w t T A mb) (ok : Ok T) {dir : Int} (hid : InI dir) (name : List UInt8)
include h hid ok
theorem entryOf_ok (b : Bool) (hE : T.ofE dir name b = 0) :
    Calls Tryz.prog 52 #[.pointer (some ⟨t, 0, none⟩), .int .i64 dir, .string (bs name), .bool b] w fun e w' => e = .returned (.tuple #[.pointer (some ⟨(A dir).1, 0, none⟩), .int .i64 (T.tgt dir name), .int .i64 0]) ∧ Below w.heap.size w w' := by
  unfold Tb.ofE at hE
  have hk : T.entE dir name = 0 := by by_cases e : T.entE dir name = 0; exact e; rw [if_neg e] at hE; exact hE
  rw [if_pos hk] at hE
  obtain ⟨n, hn, hd, hnm, hL⟩ := ent_parts hk
  obtain ⟨m, hm⟩ := ok.lead _ _ _ _ hn hL
  have hi := ok.ids _ _ hm
  rw [nd_of hm] at hE
  have hb : m.dir = b := by by_cases e : m.dir = b; exact e; rw [if_neg e] at hE; cases hE
  subst hb
  have C := entry_ok h hid name hk
  have H := Lib.hid h
  clear hE hk hL
  generalize T.tgt dir name = z at *
  have hz : InI z := by unfold InI; omega
  have HZ := Lib.hid hz
  clear hi hz
  cases hmd : m.dir
  all_goals
    go_enter Tryz.func52, Tryz.ntmps52
    go_wp2_with (go_at_call 58; (with_reducible refine C.mono ?_); rintro e w1 ⟨rfl, hb⟩; have HB := Lib.hid hb; have c3 := (H.out.below hb).tb.c3; have c0 := ((H.out.below hb).nd z m hm).c0; have hlk := (H.out.below hb).look HZ.out; rw [nodeP_some hm] at hlk; rw [hmd] at c0; clear hb; refine Hid.out ?_)
    refine Lib.hid ?_
    go_wp2
    go_ret3
    exact ⟨rfl, HB.out⟩
theorem entryOf_no (b : Bool) (hE : T.ofE dir name b ≠ 0) :
    Calls Tryz.prog 52 #[.pointer (some ⟨t, 0, none⟩), .int .i64 dir, .string (bs name), .bool b] w fun e w' => e = .returned (.tuple #[.pointer none, .int .i64 0, .int .i64 (T.ofE dir name b)]) ∧ Below w.heap.size w w' := by
  unfold Tb.ofE at *
  by_cases hk : T.entE dir name = 0
  · rw [if_pos hk] at hE ⊢
    obtain ⟨n, hn, hd, hnm, hL⟩ := ent_parts hk
    obtain ⟨m, hm⟩ := ok.lead _ _ _ _ hn hL
    have hi := ok.ids _ _ hm
    rw [nd_of hm] at hE ⊢
    have hne : m.dir ≠ b := fun e => by rw [if_pos e] at hE; exact absurd rfl hE
    rw [if_neg hne]
    have C := entry_ok h hid name hk
    have H := Lib.hid h
    clear hE hk hL
    generalize T.tgt dir name = z at *
    have hz : InI z := by unfold InI; omega
    have HZ := Lib.hid hz
    clear hi hz
    obtain rfl : b = !m.dir := by revert hne; cases b <;> cases m.dir <;> simp
    clear hne
    cases hmd : m.dir <;> simp only [Bool.not_true, Bool.not_false]
    all_goals
      go_enter Tryz.func52, Tryz.ntmps52
      go_wp2_with (go_at_call 58; (with_reducible refine C.mono ?_); rintro e w1 ⟨rfl, hb⟩; have HB := Lib.hid hb; have c3 := (H.out.below hb).tb.c3; have c0 := ((H.out.below hb).nd z m hm).c0; have hlk := (H.out.below hb).look HZ.out; rw [nodeP_some hm] at hlk; rw [hmd] at c0; clear hb; refine Hid.out ?_)
      refine Lib.hid ?_
      go_wp2
      go_ret3
      exact ⟨rfl, HB.out⟩
  · rw [if_neg hk] at hE ⊢
    have C := entry_no h hid name hk
    have hk2 : (T.entE dir name == 0) = false := by simpa using hk
    have hk3 : (T.entE dir name != 0) = true := by simpa using hk
    clear hE hk
    generalize T.entE dir name = k at *
    go_enter Tryz.func52, Tryz.ntmps52
    go_wp2_with (go_at_call 58; (with_reducible refine C.mono ?_); rintro e w1 ⟨rfl, hb⟩; have HB := Lib.hid hb; clear hb)
    go_ret3
    exact ⟨rfl, HB.out⟩
omit ok
theorem find_any :
    Calls Tryz.prog 25 #[.pointer (some ⟨t, 0, none⟩), .int .i64 dir, .string (bs name)] w fun e w' => e = .returned (.tuple #[.int .i64 (if T.entE dir name = 0 then T.tgt dir name else 0), .int .i64 (T.entE dir name)]) ∧ Below w.heap.size w w' := by
  by_cases hk : T.entE dir name = 0
  · have C := entry_ok h hid name hk
    rw [if_pos hk, hk]
    clear hk
    go_enter Tryz.func25, Tryz.ntmps25
    go_wp2_with (go_at_call 58; (with_reducible refine C.mono ?_); rintro e w1 ⟨rfl, hb⟩; have HB := Lib.hid hb; clear hb)
    go_ret2
    exact ⟨rfl, HB.out⟩
  · have C := entry_no h hid name hk
    rw [if_neg hk]
    clear hk
    go_enter Tryz.func25, Tryz.ntmps25
    go_wp2_with (go_at_call 58; (with_reducible refine C.mono ?_); rintro e w1 ⟨rfl, hb⟩; have HB := Lib.hid hb; clear hb)
    go_ret2
    exact ⟨rfl, HB.out⟩
end
end Go.Proofs.YtagdhghjcibfbaaGreat
