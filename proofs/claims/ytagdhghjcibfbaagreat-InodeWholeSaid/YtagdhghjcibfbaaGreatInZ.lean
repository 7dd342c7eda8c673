/- Layer 8: acts in memory; the reference's Small. -/
import Derived.Test.YtagdhghjcibfbaaGreatInX
import Derived.LoopTactic
namespace Go.Proofs.YtagdhghjcibfbaaGreat
open Go.RowKit
set_option linter.unusedVariables false
set_option linter.unusedSectionVars false
set_option maxRecDepth 100000

/-- An act's cells. -/
structure ActAt (w : World) (b p : Nat) (a : AcT) : Prop where
  c0 : w.cell? ⟨b, p, none⟩ = some (.int .i64 a.kind)
  c1 : w.cell? ⟨b, p + 1, none⟩ = some (.int .i64 a.id)
  c2 : w.cell? ⟨b, p + 2, none⟩ = some (.int .i64 a.dir)
  c3 : w.cell? ⟨b, p + 3, none⟩ = some (.int .i64 a.at_)
  c4 : w.cell? ⟨b, p + 4, none⟩ = some (.int .i64 a.n)
  c5 : w.cell? ⟨b, p + 5, none⟩ = some (.string (bs a.name))
  c6 : w.cell? ⟨b, p + 6, none⟩ = some (.string (bs a.nm))
  c7 : w.cell? ⟨b, p + 7, none⟩ = some (.bool a.flag)
theorem ActAt.below {w w' : World} {b p : Nat} {a : AcT} (h : ActAt w b p a) {B : Nat} (hb : Below B w w') (hlt : b < B) : ActAt w' b p a :=
  ⟨(hb.cell hlt).trans h.c0, (hb.cell hlt).trans h.c1, (hb.cell hlt).trans h.c2, (hb.cell hlt).trans h.c3, (hb.cell hlt).trans h.c4, (hb.cell hlt).trans h.c5, (hb.cell hlt).trans h.c6, (hb.cell hlt).trans h.c7⟩
def ActsAt (w : World) (a : Option Addr) (l : List AcT) : Prop := l = [] ∨ ∃ b o, a = some ⟨b, o, none⟩ ∧ b < w.heap.size ∧ ∀ (j : Nat) (h : j < l.length), ActAt w b (o + j * 8) l[j]
/-- Its numbers are a machine's. -/
structure ActIn (a : AcT) : Prop where
  kind : InI a.kind
  id : InI a.id
  dir : InI a.dir
  at_ : InI a.at_
  n : InI a.n
theorem ActIn.ok {a : AcT} (h : ActIn a) (hn : a.nm.length ≤ 200) : ActOk a := ⟨h.kind, h.id, h.dir, h.at_, h.n, by omega⟩
def actFine (a : AcT) : Bool := decide (a.name.length ≤ 60) && decide (a.nm.length ≤ 200) && !(decide (4096 < a.at_) && decide (a.at_ ≤ 1048576)) && !(decide (4096 < a.n) && decide (a.n ≤ 1048576))
def smallB (l : List AcT) (most : Nat) : Bool := (l.take most).all actFine && decide (l.length ≤ most)

theorem take_all_snoc (l : List AcT) (k : Nat) (h : k < l.length) : (l.take (k + 1)).all actFine = ((l.take k).all actFine && actFine l[k]) := by
  rw [List.take_succ_eq_append_getElem h, List.all_append]; simp
theorem small_fine {l : List AcT} {most : Nat} (h : smallB l most = true) : ∀ x ∈ l, x.nm.length ≤ 200 ∧ x.name.length ≤ 60 := fun x hx => by
  unfold smallB at h
  simp only [Bool.and_eq_true, decide_eq_true_eq] at h
  have h1 := h.1
  rw [List.take_of_length_le h.2, List.all_eq_true] at h1
  have := h1 x hx
  unfold actFine at this
  simp only [Bool.and_eq_true, decide_eq_true_eq] at this
  exact ⟨this.1.1.2, this.1.1.1⟩
theorem small_bad {l : List AcT} {most k : Nat} (hk : k < l.length) (hm : k < most) (h : actFine l[k] = false) : smallB l most = false := by
  unfold smallB
  have : (l.take most).all actFine = false := by
    rw [List.all_eq_false]
    refine ⟨l[k], ?_, by rw [h]; decide⟩
    rw [List.mem_take_iff_getElem]
    exact ⟨k, by omega, rfl⟩
  rw [this]; rfl
set_option maxHeartbeats 2000000 in
theorem small_any (a : Option Addr) (l : List AcT) (c : Nat) (w : World) (hA : ActsAt w a l) (hl : l.length ≤ 9223372036854775807) (most : Nat) (hm : most ≤ 1000) :
    Calls Tryz.prog 5 #[.slice a l.length c, .int .i64 most] w fun e w' => e = .returned (.bool (smallB l most)) ∧ w = w' := by
  have HA := Lib.hid hA
  clear hA
  obtain ⟨n, hnn⟩ : ∃ n, n = l.length := ⟨_, rfl⟩
  rw [← hnn] at hl ⊢
  have HN := Lib.hid hnn
  clear hnn
  go_enter Tryz.func5, Tryz.ntmps5
  go_wp2_with fail
  go_loop [5] (fun i => ∃ (k : Nat), i = .int .i64 k ∧ k ≤ n ∧ k ≤ most ∧ Hid ((l.take k).all actFine = true)) (fun i => n - (intOf i).toNat)
  case atStart => exact ⟨0, rfl, Nat.zero_le _, Nat.zero_le _, by show _ = _; rfl⟩
  case round =>
    obtain ⟨k, rfl, hk, hkm, hall⟩ := hrel
    by_cases hlt : k < n
    · by_cases hltm : k < most
      · rcases HA.out with e0 | ⟨b, o, rfl, hw, hc⟩
        · exact absurd hlt (by rw [HN.out, e0]; simp)
        have hk' : k < l.length := by rw [← HN.out]; exact hlt
        have hx := hc k hk'
        have c3 := hx.c3; have c4 := hx.c4; have c5 := hx.c5; have c6 := hx.c6
        have BAD := Lib.hid (fun h : actFine l[k] = false => small_bad (most := most) hk' hltm h)
        have GOOD : Hid (actFine l[k] = true → (l.take (k + 1)).all actFine = true) := Lib.hid (fun h => by rw [take_all_snoc l k hk', hall.out, h]; rfl)
        clear hx hc
        generalize l[k] = x at *
        have s5 := bs_size x.name
        have s6 := bs_size x.nm
        have hlt' : (k : Int) < (n : Int) := by omega
        have hltm' : (k : Int) < (most : Int) := by omega
        by_cases h1 : 60 < x.name.length
        · have t1 : (60 : Int) < ((bs x.name).size : Int) := by omega
          have HB := Lib.hid (BAD.out (by unfold actFine; rw [decide_eq_false (by omega : ¬ x.name.length ≤ 60)]; rfl))
          clear s5 s6 h1
          go_wp2_with fail
          go_ret
          exact ⟨by rw [HB.out]; rfl, rfl⟩
        have t1 : ((bs x.name).size : Int) ≤ 60 := by omega
        by_cases h2 : 200 < x.nm.length
        · have t2 : (200 : Int) < ((bs x.nm).size : Int) := by omega
          have HB := Lib.hid (BAD.out (by unfold actFine; rw [decide_eq_false (by omega : ¬ x.nm.length ≤ 200)]; simp))
          clear s5 s6 h1 h2
          go_wp2_with fail
          go_ret
          exact ⟨by rw [HB.out]; rfl, rfl⟩
        have t2 : ((bs x.nm).size : Int) ≤ 200 := by omega
        by_cases h3 : 4096 < x.at_ ∧ x.at_ ≤ 1048576
        · obtain ⟨t3, t4⟩ := h3
          have HB := Lib.hid (BAD.out (by unfold actFine; rw [decide_eq_true t3, decide_eq_true t4]; simp))
          clear s5 s6 h1 h2
          go_wp2_with fail
          go_ret
          exact ⟨by rw [HB.out]; rfl, rfl⟩
        by_cases h4 : 4096 < x.n ∧ x.n ≤ 1048576
        · obtain ⟨t5, t6⟩ := h4
          have HB := Lib.hid (BAD.out (by unfold actFine; rw [decide_eq_true t5, decide_eq_true t6]; simp))
          have h3' : x.at_ ≤ 4096 ∨ (4096 < x.at_ ∧ 1048576 < x.at_) := by omega
          clear s5 s6 h1 h2 h3
          rcases h3' with t3 | ⟨t3, t4⟩
          all_goals
            go_wp2_with fail
            go_ret
            exact ⟨by rw [HB.out]; rfl, rfl⟩
        have HG := Lib.hid (GOOD.out (by
          unfold actFine
          rw [decide_eq_true (by omega : x.name.length ≤ 60), decide_eq_true (by omega : x.nm.length ≤ 200)]
          have e3 : (decide (4096 < x.at_) && decide (x.at_ ≤ 1048576)) = false := by simpa using h3
          have e4 : (decide (4096 < x.n) && decide (x.n ≤ 1048576)) = false := by simpa using h4
          rw [e3, e4]; rfl))
        have h3' : x.at_ ≤ 4096 ∨ (4096 < x.at_ ∧ 1048576 < x.at_) := by omega
        have h4' : x.n ≤ 4096 ∨ (4096 < x.n ∧ 1048576 < x.n) := by omega
        clear s5 s6 h1 h2 h3 h4 BAD GOOD
        rcases h3' with t3 | ⟨t3, t4⟩ <;> rcases h4' with t5 | ⟨t5, t6⟩
        all_goals
          go_wp2_with fail
          go_round
          case rel => exact ⟨k + 1, by go_num, by omega, by omega, HG⟩
          case measure => simp [intOf]; omega
      · obtain rfl : k = most := by omega
        have hlt' : (k : Int) < (n : Int) := by omega
        have HS : Hid (smallB l k = false) := Lib.hid (by unfold smallB; rw [decide_eq_false (by rw [← HN.out]; omega)]; simp)
        have hgt : ¬ (n : Int) ≤ (k : Int) := by omega
        go_wp2_with fail
        go_ret
        exact ⟨by rw [HS.out]; simp, rfl⟩
    · obtain rfl : k = n := by omega
      have HS : Hid (smallB l most = true) := Lib.hid (by
        unfold smallB
        rw [List.take_of_length_le (by rw [← HN.out]; omega), decide_eq_true (by rw [← HN.out]; omega)]
        have := hall.out
        rw [List.take_of_length_le (by rw [← HN.out]; exact Nat.le_refl _)] at this
        rw [this]; rfl)
      have hle : (k : Int) ≤ (most : Int) := by omega
      go_wp2_with fail
      go_ret
      exact ⟨by rw [HS.out]; simp, rfl⟩
end Go.Proofs.YtagdhghjcibfbaaGreat
