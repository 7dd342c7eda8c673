/- Parse: its contract. Depth. JsonDeep: its closed parts. The reference's Exact of lists in lists. -/
import Derived.Test.YtaniebkfgkhgoaaGreatDoorJ5a
import Derived.StillTailTactics
namespace Go.Proofs.YtaniebkfgkhgoaaGreatDoor
open Go.RowKit
set_option linter.unusedVariables false
set_option maxRecDepth 100000

def jZero : JV := ⟨0, ⟨#[]⟩, [], []⟩
/-- Somewhere in a value two fields of one have one name. -/
def Tw (v : JV) : Prop := ∃ u, JV.In v u ∧ twN u = true
open Classical in
/-- What Parse answers. -/
noncomputable def parseG (l : List UInt8) : JV × Int := if 65536 < l.length then (jZero, 5) else match wholeG l with
  | none => (jZero, 2)
  | some v => if 32 < v.depth then (jZero, 5) else if Tw v then (jZero, 8) else (v, 0)
def ParsePost (w : World) (v : JV) (er : Int) (e : Ending) (w' : World) : Prop :=
  ∃ (k : Int) (t : ByteArray) (a : Option Addr) (n c : Nat) (a2 : Option Addr) (n2 c2 : Nat), e = .returned (.tuple #[.agg #[.int .i64 k, .string t, .slice a n c, .slice a2 n2 c2], .int .i64 er]) ∧
    LV w' (fun b => w.heap.size < b ∧ b < w'.heap.size) v (.int .i64 k) (.string t) (.slice a n c) (.slice a2 n2 c2) ∧ RowKit.Below w.heap.size w w'
theorem LV.zero (w : World) (S : Nat → Prop) : LV w S jZero (.int .i64 0) (.string ⟨#[]⟩) (.slice none 0 0) (.slice none 0 0) := by
  unfold jZero
  unfold LV
  exact ⟨rfl, rfl, ⟨none, 0, rfl, .inl rfl⟩, ⟨none, 0, rfl, .inl rfl⟩⟩
/-- The end of Parse: the result's cell is read. -/
theorem parse_end {w w1 : World} {a : Act} {v : JV} {er k : Int} {t : ByteArray} {aa : Option Addr} {n c : Nat} {a2 : Option Addr} {n2 c2 : Nat} (hz : RB w1 w.heap.size (.int .i64 k) (.string t) (.slice aa n c) (.slice a2 n2 c2))
    (hp : a.tmps.getD 2 undef = .pointer (some ⟨w.heap.size, 0, none⟩)) (hu : a.tmps.getD 3 undef = .int .i64 er) (hd : a.defers = [])
    (hv : LV w1 (fun b => w.heap.size < b ∧ b < w1.heap.size) v (.int .i64 k) (.string t) (.slice aa n c) (.slice a2 n2 c2)) (hb : RowKit.Below w.heap.size w w1) :
    bodyPost Tryz.prog Tryz.f7 (ParsePost w v er) .ret a w1 := by
  have hR : ParsePost w v er (.returned (.tuple #[.agg #[.int .i64 k, .string t, .slice aa n c, .slice a2 n2 c2], .int .i64 er])) w1 := by
    unfold ParsePost
    refine ⟨k, t, aa, n, c, a2, n2, c2, rfl, ?_, ?_⟩
    · exact hv
    · exact hb
  exact ret_val (p := 2) (u := 3) rfl hp hu hd hz hR

set_option maxHeartbeats 2000000 in
theorem parse_long (s : ByteArray) (hs : 65536 < s.size) (hs2 : s.size ≤ 1099511627776) (w : World) : Calls Tryz.prog 7 #[.string s] w (ParsePost w jZero 5) := by
  have hz : (65536 : Int) < (s.size : Int) := by omega
  obtain ⟨W, hW⟩ : ∃ W, W = w.alloc (.cells #[.int .i64 0, .string ⟨#[]⟩, .slice none 0 0, .slice none 0 0] 26) := ⟨_, rfl⟩
  have HA : Hid (RB W w.heap.size (.int .i64 0) (.string ⟨#[]⟩) (.slice none 0 0) (.slice none 0 0)) := by
    show RB W _ _ _ _ _
    rw [hW]; exact RB.new w
  have hWb : RowKit.Below w.heap.size w W := by rw [hW]; exact (Below.refl _ _).alloc (Nat.le_refl _) _
  have HWB := Lib.hid hWb
  have f0 := HA.out.fr 0
  have f1 := HA.out.fr 1
  have f2 := HA.out.fr 2
  have f3 := HA.out.fr 3
  have c0 := HA.out.c0
  have c1 := HA.out.c1
  have c2 := HA.out.c2
  have c3 := HA.out.c3
  clear hWb
  go_enter Tryz.func7, Tryz.ntmps7
  go_wp2_with fail
  rw [← hW]
  exact parse_end HA.out rfl rfl rfl (LV.zero _ _) HWB.out

set_option maxHeartbeats 4000000 in
theorem parse_any (l : List UInt8) (hl : l.length ≤ 65536) (w : World) (hT : Tab5 w) (hF : ∀ v, wholeG l = some v → v.size ≤ 549755813888 ∧ ∀ u, JV.In v u → u.fields.length ≤ 1048576) :
    Calls Tryz.prog 7 #[.string (bs l)] w (ParsePost w (parseG l).1 (parseG l).2) := by
  have hz : ¬ (65536 : Int) < ((bs l).size : Int) := by rw [bs_size]; omega
  have hzn : ¬ 65536 < l.length := by omega
  obtain ⟨W, hW⟩ : ∃ W, W = w.alloc (.cells #[.int .i64 0, .string ⟨#[]⟩, .slice none 0 0, .slice none 0 0] 26) := ⟨_, rfl⟩
  have HA : Hid (RB W w.heap.size (.int .i64 0) (.string ⟨#[]⟩) (.slice none 0 0) (.slice none 0 0)) := by
    show RB W _ _ _ _ _
    rw [hW]; exact RB.new w
  have hWb : RowKit.Below w.heap.size w W := by rw [hW]; exact (Below.refl _ _).alloc (Nat.le_refl _) _
  have hWz : W.heap.size = w.heap.size + 1 := by rw [hW]; simp
  have HTW := Lib.hid (hT.below hWb)
  obtain ⟨W2, hW2⟩ : ∃ W2, W2 = W.alloc (.cells #[.string (bs l), .slice none 0 0] 42) := ⟨_, rfl⟩
  have hpb : PB W2 W.heap.size (bs l) nilS := by rw [hW2]; exact heap_alloc_new W _
  have hWb2 : RowKit.Below W.heap.size W W2 := by rw [hW2]; exact (Below.refl _ W).alloc (Nat.le_refl _) _
  have hWz2 : W2.heap.size = W.heap.size + 1 := by rw [hW2]; simp
  have hps : PS (· < W.heap.size) W W2 W.heap.size l [] nilS [] := by
    refine ⟨hpb, Nat.le_refl _, World.ownsRow_nil _ _ _ _, trivial, by simp [blks, ownB_nil], hWb2, fun F hF => (by cases hF), fun b hb hx => ?_, fun b hb => by have := hb; omega⟩
    have : b = W.heap.size := by simpa [blks, ownB_nil] using hb
    omega
  have CW : Hid (Calls Tryz.prog 21 #[.pointer (some ⟨W.heap.size, 0, none⟩)] W2 (WholePost (X := (· < W.heap.size)) W2 W.heap.size l)) := Lib.hid (whole_any put_c l (by omega) W.heap.size W W2 HTW.out hps)
  have HB2 := Lib.hid (hWb.trans (hWb2.mono hWb.size))
  have HWB2 := Lib.hid hWb2
  have HWZ := Lib.hid hWz
  have HWZ2 := Lib.hid hWz2
  have HA2 := Lib.hid (HA.out.below hWb2)
  rw [hWz] at CW
  obtain ⟨R, hR⟩ : ∃ R, parseG l = R := ⟨_, rfl⟩
  have HR := Lib.hid hR
  rw [hR]
  clear hR
  clear hWb hpb hWb2 hps hWz hWz2
  go_enter Tryz.func7, Tryz.ntmps7
  go_wp2_with fail
  rw [← hW, ← hW2]
  go_wp2_with (go_at_call 21; (with_reducible refine CW.out.mono ?_); rintro e w3 h3; obtain ⟨hch, k, t, a, n, c, a2, n2, c2, bo, rfl, hv⟩ := h3; have HC3 := Lib.hid hch; have HV3 := Lib.hid hv; clear hch hv; refine Hid.out ?_)
  refine Lib.hid ?_
  have hR3 : RB w3 w.heap.size (.int .i64 0) (.string ⟨#[]⟩) (.slice none 0 0) (.slice none 0 0) := HC3.out.heap HA2.out (by omega)
  have hB3 : RowKit.Below w.heap.size w w3 := HC3.out.below HB2.out HB2.out.size (fun x hx e => by omega)
  obtain ⟨W4, hW4⟩ : ∃ W4, W4 = w3.alloc (.cells #[.int .i64 k, .string t, .slice a n c, .slice a2 n2 c2] 26) := ⟨_, rfl⟩
  have hg4 : w3.grownBy W4 none := by rw [hW4]; exact World.grownBy_alloc _ _ none
  have hv4 : RB W4 w3.heap.size (.int .i64 k) (.string t) (.slice a n c) (.slice a2 n2 c2) := by rw [hW4]; exact RB.new w3
  have hsz4 : W4.heap.size = w3.heap.size + 1 := by rw [hW4]; simp
  have hR4 := hR3.gb hg4 (by simp)
  have hB4 : RowKit.Below w.heap.size w W4 := hB3.grown hg4 hB3.size (by simp)
  rcases HV3.out with ⟨rfl, hno⟩ | ⟨rfl, v, hwv, hlv⟩
  · have f0 := hR4.fr 0
    have f1 := hR4.fr 1
    have f2 := hR4.fr 2
    have f3 := hR4.fr 3
    have c0 := hR4.c0
    have c1 := hR4.c1
    have c2' := hR4.c2
    have c3 := hR4.c3
    have hpg : parseG l = (jZero, 2) := by unfold parseG; rw [if_neg hzn, hno]
    have hr := HR.out
    rw [hpg] at hr
    subst hr
    have HR4 := Lib.hid hR4
    have HB4 := Lib.hid hB4
    clear hR3 hB3 hg4 hv4 hR4 hB4 hsz4
    have hW4' := hW4.symm
    clear hW4
    go_wp2_with fail
    show bodyPost _ _ (ParsePost w jZero 2) _ _ _
    exact parse_end (HR4.out.set4 _ _ _ _) rfl rfl rfl (LV.zero _ _) (HB4.out.grown (gb_set4 W4 w.heap.size _ _ _ _) HB4.out.size (fun k e => by cases e; exact Nat.le_refl _))
  · obtain ⟨W5, hW5⟩ : ∃ W5, W5 = W4.alloc (.cells #[.bool false] 4) := ⟨_, rfl⟩
    have hg5 : W4.grownBy W5 none := by rw [hW5]; exact World.grownBy_alloc _ _ none
    have hg35 := gb_trans hg4 hg5
    have hv5 := hv4.gb hg5 (by simp)
    have hR5 := hR4.gb hg5 (by simp)
    have hB5 : RowKit.Below w.heap.size w W5 := hB4.grown hg5 hB4.size (by simp)
    have hbt : Boxed W5 W4.heap.size 4 (.bool false) := by rw [hW5]; exact Boxed.new W4 _ _
    have hsz5 : W5.heap.size = w3.heap.size + 2 := by rw [hW5, World.size_alloc, hsz4]
    have hlv5 : LV W5 (fun b => w.heap.size + 1 < b ∧ b < w3.heap.size) v (.int .i64 k) (.string t) (.slice a n c) (.slice a2 n2 c2) := LV.move (fun b hb hs => ⟨hg35.block b hb (by simp), by have := hs.1; have := hs.2; omega, hb⟩) v hlv
    have hfw := hF v hwv
    have CWK : Hid (Calls Tryz.prog 22 #[.pointer (some ⟨w3.heap.size, 0, none⟩), .func (.func 23) #[] #[.pointer (some ⟨w3.heap.size + 1, 0, none⟩)]] W5 fun e W' => e = .returned (.int .i64 (v.depth : Int)) ∧ ∃ vs : List JV, (∀ u, u ∈ vs ↔ JV.In v u) ∧ Boxed W' (w3.heap.size + 1) 4 (.bool (vs.any twN)) ∧ W5.grownBy W' (some (w3.heap.size + 1))) := by
      rw [hsz4] at hbt
      refine Lib.hid (walk_jv v hfw.1 (fun b => w.heap.size + 1 < b ∧ b < w3.heap.size) (some (w3.heap.size + 1)) 23 #[.pointer (some ⟨w3.heap.size + 1, 0, none⟩)] (fun vs W => Boxed W (w3.heap.size + 1) 4 (.bool (vs.any twN))) W5 w3.heap.size 0 ⟨_, _, _, _, hv5.c0, hv5.c1, hv5.c2, hv5.c3, hlv5⟩ ⟨_, _, hv5⟩ (fun e => by have := Option.some.inj e; omega) (fun b hb e => by have := Option.some.inj e; have := hb.2; omega) (fun t ht => by have := Option.some.inj ht; omega) ?_ ?_ hbt (enters_of Tryz.func23 (by kernel_rfl) rfl))
      · intro vs u b o W hV hg hin hat
        refine (parse1_any u (hfw.2 u hin) (w3.heap.size + 1) b o (vs.any twN) W hV hat).mono ?_
        rintro e W' ⟨rfl, h1, h2⟩
        refine ⟨rfl, ?_, h2⟩
        rw [List.any_append]
        simpa using h1
      · intro vs W W' hV hb
        exact (hb.block _ (by omega)).trans hV
    have HTW := Lib.hid hwv
    have HV5 := Lib.hid hv5
    have HR5 := Lib.hid hR5
    have HB5 := Lib.hid hB5
    have HLV5 := Lib.hid hlv5
    have HS5 := Lib.hid hsz5
    have HWLT := Lib.hid hR3.lt
    rw [hsz4] at *
    have hbt0 := hbt.cell
    clear hR3 hB3 hg4 hv4 hR4 hB4 hg5 hg35 hv5 hR5 hB5 hlv5 hfw hlv hwv hsz5 hbt hbt0
    go_wp2_with fail
    rw [← hW4, ← hW5]
    go_wp2_with (go_at_call 22; (with_reducible refine CWK.out.mono ?_); rintro e w6 h6; obtain ⟨rfl, vs, hvs, hb6, hg6⟩ := h6; have HVS := Lib.hid hvs; have HB6 := Lib.hid hb6; have HG6 := Lib.hid hg6; clear hvs hb6 hg6; refine Hid.out ?_)
    refine Lib.hid ?_
    have hne : ∀ x, x ≤ w3.heap.size → some x ≠ some (w3.heap.size + 1) := fun x hx e => by have := Option.some.inj e; omega
    have hR6 := HR5.out.gb HG6.out (hne _ (by have := HWLT.out; omega))
    have hV6 := HV5.out.gb HG6.out (hne _ (Nat.le_refl _))
    have hB6 : RowKit.Below w.heap.size w w6 := HB5.out.grown HG6.out HB5.out.size (fun k e => by have := Option.some.inj e; have := HWLT.out; omega)
    have hlv6 : LV w6 (fun b => w.heap.size + 1 < b ∧ b < w3.heap.size) v (.int .i64 k) (.string t) (.slice a n c) (.slice a2 n2 c2) := LV.move (fun b hb hs => ⟨HG6.out.block b hb (hne b (Nat.le_of_lt hs.2)), hs⟩) v HLV5.out
    have f0 := hR6.fr 0
    have f1 := hR6.fr 1
    have f2 := hR6.fr 2
    have f3 := hR6.fr 3
    have c0 := hR6.c0
    have c1 := hR6.c1
    have c2' := hR6.c2
    have c3 := hR6.c3
    have v0 := hV6.c0
    have v1 := hV6.c1
    have v2 := hV6.c2
    have v3 := hV6.c3
    have hb6 := HB6.out.cell
    have HR6 := Lib.hid hR6
    have HBB6 := Lib.hid hB6
    have HLV6 := Lib.hid hlv6
    have hszl : w3.heap.size ≤ w6.heap.size := by have := HG6.out.size; have := HS5.out; omega
    have HSZL := Lib.hid hszl
    clear hR6 hV6 hB6 hlv6 hszl hne
    by_cases hd : 32 < v.depth
    · have hpg : parseG l = (jZero, 5) := by unfold parseG; rw [if_neg hzn, HTW.out]; simp only [if_pos hd]
      have hr := HR.out
      rw [hpg] at hr
      subst hr
      have hdi : (32 : Int) < (v.depth : Int) := by omega
      go_wp2_with fail
      show bodyPost _ _ (ParsePost w jZero 5) _ _ _
      exact parse_end (HR6.out.set4 _ _ _ _) rfl rfl rfl (LV.zero _ _) (HBB6.out.grown (gb_set4 w6 w.heap.size _ _ _ _) HBB6.out.size (fun k e => by cases e; exact Nat.le_refl _))
    · have hdi : ¬ (32 : Int) < (v.depth : Int) := by omega
      have htw : vs.any twN = true ↔ Tw v := by
        rw [List.any_eq_true]
        exact ⟨fun ⟨x, h1, h2⟩ => ⟨x, (HVS.out x).1 h1, h2⟩, fun ⟨x, h1, h2⟩ => ⟨x, (HVS.out x).2 h1, h2⟩⟩
      cases htv : vs.any twN with
      | true =>
        have hpg : parseG l = (jZero, 8) := by unfold parseG; rw [if_neg hzn, HTW.out]; simp only [if_neg hd, if_pos (htw.1 htv)]
        have hr := HR.out
        rw [hpg] at hr
        subst hr
        rw [htv] at hb6
        clear htw htv
        go_wp2_with fail
        show bodyPost _ _ (ParsePost w jZero 8) _ _ _
        exact parse_end (HR6.out.set4 _ _ _ _) rfl rfl rfl (LV.zero _ _) (HBB6.out.grown (gb_set4 w6 w.heap.size _ _ _ _) HBB6.out.size (fun k e => by cases e; exact Nat.le_refl _))
      | false =>
        have hpg : parseG l = (v, 0) := by unfold parseG; rw [if_neg hzn, HTW.out]; simp only [if_neg hd, if_neg (fun h => by rw [htw.2 h] at htv; cases htv)]
        have hr := HR.out
        rw [hpg] at hr
        subst hr
        rw [htv] at hb6
        clear htw htv
        go_wp2_with fail
        show bodyPost _ _ (ParsePost w v 0) _ _ _
        have g7 := gb_set4 w6 w.heap.size (.int .i64 k) (.string t) (.slice a n c) (.slice a2 n2 c2)
        refine parse_end (HR6.out.set4 _ _ _ _) rfl rfl rfl (LV.move (fun b hb hs => ⟨g7.block b hb (fun e => by have := Option.some.inj e; have := hs.1; omega), by have := hs.1; omega, ?_⟩) v HLV6.out) (HBB6.out.grown g7 HBB6.out.size (fun k e => by have := Option.some.inj e; omega))
        exact Nat.lt_of_lt_of_le hs.2 (Nat.le_trans HSZL.out g7.size)
end Go.Proofs.YtaniebkfgkhgoaaGreatDoor

namespace Go.Proofs.YtaniebkfgkhgoaaGreatDoor
open Go.RowKit
set_option linter.unusedVariables false
set_option maxRecDepth 100000

theorem depth1_any (p : Value) (W : World) : Calls Tryz.prog 41 #[p] W fun e W' => e = .returned (.tuple #[]) ∧ W' = W := by
  go_enter Tryz.func41, Tryz.ntmps41
  go_wp2_with fail
  go_end0
  exact ⟨rfl, rfl⟩

theorem depth_any {S : Nat → Prop} (v : JV) (hsz : v.size ≤ 549755813888) (k : Int) (t : ByteArray) (a : Option Addr) (n c : Nat) (a2 : Option Addr) (n2 c2 : Nat) (w : World) (hv : LV w S v (.int .i64 k) (.string t) (.slice a n c) (.slice a2 n2 c2)) :
    Calls Tryz.prog 19 #[.agg #[.int .i64 k, .string t, .slice a n c, .slice a2 n2 c2]] w fun e W' => e = .returned (.int .i64 (v.depth : Int)) ∧ RowKit.Below w.heap.size w W' := by
  obtain ⟨W, hW⟩ : ∃ W, W = w.alloc (.cells #[.int .i64 k, .string t, .slice a n c, .slice a2 n2 c2] 26) := ⟨_, rfl⟩
  have hb : RB W w.heap.size (.int .i64 k) (.string t) (.slice a n c) (.slice a2 n2 c2) := by rw [hW]; exact RB.new w
  have hg : w.grownBy W none := by rw [hW]; exact World.grownBy_alloc _ _ none
  have hlv : LV W S v (.int .i64 k) (.string t) (.slice a n c) (.slice a2 n2 c2) := LV.move (fun b hb hs => ⟨hg.block b hb (by simp), hs⟩) v hv
  have CW : Hid (Calls Tryz.prog 22 #[.pointer (some ⟨w.heap.size, 0, none⟩), .func (.func 41) #[] #[]] W fun e W' => e = .returned (.int .i64 (v.depth : Int)) ∧ RowKit.Below w.heap.size w W') := by
    refine Lib.hid ((walk_jv v hsz S none 41 #[] (fun _ _ => True) W w.heap.size 0 ⟨_, _, _, _, hb.c0, hb.c1, hb.c2, hb.c3, hlv⟩ ⟨_, _, hb⟩ (by simp) (by simp) (by simp) ?_ (fun _ _ _ _ _ => trivial) trivial (enters_of Tryz.func41 (by kernel_rfl) rfl)).mono ?_)
    · intro vs u b o W1 _ hg1 _ _
      refine (depth1_any _ W1).mono ?_
      rintro e W' ⟨rfl, rfl⟩
      exact ⟨rfl, trivial, gb_refl _ _⟩
    · rintro e W' ⟨rfl, vs, _, _, hg1⟩
      exact ⟨rfl, below_of_gb (gb_trans hg hg1)⟩
  have hW' := hW.symm
  clear hb hg hlv hv hW
  go_enter Tryz.func19, Tryz.ntmps19
  go_wp2_with (go_at_call 22; (with_reducible refine CW.out.mono ?_); rintro e w1 ⟨rfl, hb⟩; have HB := Lib.hid hb; clear hb)
  go_ret
  exact ⟨rfl, HB.out⟩
end Go.Proofs.YtaniebkfgkhgoaaGreatDoor

namespace Go.Proofs.YtaniebkfgkhgoaaGreatDoor
open Go.RowKit
set_option linter.unusedVariables false
set_option maxRecDepth 100000

/-- A list in a list, and so on: n times. -/
def deepV : Nat → JV
  | 0 => ⟨6, ⟨#[]⟩, [], []⟩
  | n + 1 => ⟨6, ⟨#[]⟩, [deepV n], []⟩
def brk (n : Nat) : List UInt8 := List.replicate n 91 ++ List.replicate n 93
theorem brk_succ (n : Nat) : 91 :: (brk n ++ [93]) = brk (n + 1) := by
  unfold brk
  rw [List.replicate_succ, List.append_assoc, ← List.replicate_succ' (n := n) (a := (93 : UInt8))]
  rfl
theorem deepV_depth : ∀ n, (deepV n).depth = n + 1
  | 0 => rfl
  | n + 1 => by
    show 1 + max (max (deepV n).depth 0) 0 = _
    rw [deepV_depth n]; omega
theorem deepV_size : ∀ n, (deepV n).size = n + 1
  | 0 => rfl
  | n + 1 => by
    show 1 + (((deepV n).size + 0) + 0) = _
    rw [deepV_size n]; omega
theorem deepV_in (n : Nat) {u : JV} (h : JV.In (deepV n) u) : ∃ m, u = deepV m := by
  induction h with
  | root => exact ⟨n, rfl⟩
  | list _ hu ih =>
    obtain ⟨m, rfl⟩ := ih
    cases m with
    | zero => cases hu
    | succ m =>
      have : _ = deepV m := List.mem_singleton.1 hu
      exact ⟨m, this⟩
  | field _ hp ih =>
    obtain ⟨m, rfl⟩ := ih
    cases m with
    | zero => cases hp
    | succ m => cases hp
theorem deepV_flds (m : Nat) : (deepV m).fields = [] ∧ (deepV m).text = ⟨#[]⟩ ∧ (deepV m).kind = 6 := by cases m <;> exact ⟨rfl, rfl, rfl⟩
theorem deepV_bear (n : Nat) (hn : n ≤ 100) : Bear (deepV n) := ⟨by rw [deepV_size]; omega, fun u hu => by
  obtain ⟨m, rfl⟩ := deepV_in n hu
  obtain ⟨h1, h2, -⟩ := deepV_flds m
  rw [h1, h2]
  exact ⟨by decide, by decide, fun q hq => by cases hq⟩⟩
theorem soundB_list (l : List JV) : soundB ⟨6, ⟨#[]⟩, l, []⟩ = true := by
  unfold soundB soundOf
  simp only [JV.kind, JV.list, JV.fields, JV.text, List.length_nil]
  rw [if_neg (by rintro (⟨_, h⟩ | ⟨h, _⟩); exact h rfl; exact absurd h (by decide)), if_pos (by decide)]
  kernel_rfl
theorem deepV_sound (n : Nat) : ∀ u, JV.In (deepV n) u → soundB u = true := fun u hu => by
  obtain ⟨m, rfl⟩ := deepV_in n hu
  cases m
  · exact soundB_list []
  · exact soundB_list _
theorem deepV_tw (n : Nat) : ¬ Tw (deepV n) := fun ⟨u, hu, h⟩ => by
  obtain ⟨m, rfl⟩ := deepV_in n hu
  unfold twN at h
  rw [(deepV_flds m).1] at h
  simp at h
theorem deepV_whole : ∀ n, n < 64 → wholeG (brk (n + 1)) = some (deepV n)
  | 0, _ => by kernel_rfl
  | 1, _ => by kernel_rfl
  | 2, _ => by kernel_rfl
  | 3, _ => by kernel_rfl
  | 4, _ => by kernel_rfl
  | 5, _ => by kernel_rfl
  | 6, _ => by kernel_rfl
  | 7, _ => by kernel_rfl
  | 8, _ => by kernel_rfl
  | 9, _ => by kernel_rfl
  | 10, _ => by kernel_rfl
  | 11, _ => by kernel_rfl
  | 12, _ => by kernel_rfl
  | 13, _ => by kernel_rfl
  | 14, _ => by kernel_rfl
  | 15, _ => by kernel_rfl
  | 16, _ => by kernel_rfl
  | 17, _ => by kernel_rfl
  | 18, _ => by kernel_rfl
  | 19, _ => by kernel_rfl
  | 20, _ => by kernel_rfl
  | 21, _ => by kernel_rfl
  | 22, _ => by kernel_rfl
  | 23, _ => by kernel_rfl
  | 24, _ => by kernel_rfl
  | 25, _ => by kernel_rfl
  | 26, _ => by kernel_rfl
  | 27, _ => by kernel_rfl
  | 28, _ => by kernel_rfl
  | 29, _ => by kernel_rfl
  | 30, _ => by kernel_rfl
  | 31, _ => by kernel_rfl
  | 32, _ => by kernel_rfl
  | 33, _ => by kernel_rfl
  | 34, _ => by kernel_rfl
  | 35, _ => by kernel_rfl
  | 36, _ => by kernel_rfl
  | 37, _ => by kernel_rfl
  | 38, _ => by kernel_rfl
  | 39, _ => by kernel_rfl
  | 40, _ => by kernel_rfl
  | 41, _ => by kernel_rfl
  | 42, _ => by kernel_rfl
  | 43, _ => by kernel_rfl
  | 44, _ => by kernel_rfl
  | 45, _ => by kernel_rfl
  | 46, _ => by kernel_rfl
  | 47, _ => by kernel_rfl
  | 48, _ => by kernel_rfl
  | 49, _ => by kernel_rfl
  | 50, _ => by kernel_rfl
  | 51, _ => by kernel_rfl
  | 52, _ => by kernel_rfl
  | 53, _ => by kernel_rfl
  | 54, _ => by kernel_rfl
  | 55, _ => by kernel_rfl
  | 56, _ => by kernel_rfl
  | 57, _ => by kernel_rfl
  | 58, _ => by kernel_rfl
  | 59, _ => by kernel_rfl
  | 60, _ => by kernel_rfl
  | 61, _ => by kernel_rfl
  | 62, _ => by kernel_rfl
  | 63, _ => by kernel_rfl
  | n + 64, h => absurd h (by omega)
theorem deepV_val : ∀ n, n < 32 → valG 32 (deepV n) ([], false) = (brk (n + 1), false)
  | 0, _ => by kernel_rfl
  | 1, _ => by kernel_rfl
  | 2, _ => by kernel_rfl
  | 3, _ => by kernel_rfl
  | 4, _ => by kernel_rfl
  | 5, _ => by kernel_rfl
  | 6, _ => by kernel_rfl
  | 7, _ => by kernel_rfl
  | 8, _ => by kernel_rfl
  | 9, _ => by kernel_rfl
  | 10, _ => by kernel_rfl
  | 11, _ => by kernel_rfl
  | 12, _ => by kernel_rfl
  | 13, _ => by kernel_rfl
  | 14, _ => by kernel_rfl
  | 15, _ => by kernel_rfl
  | 16, _ => by kernel_rfl
  | 17, _ => by kernel_rfl
  | 18, _ => by kernel_rfl
  | 19, _ => by kernel_rfl
  | 20, _ => by kernel_rfl
  | 21, _ => by kernel_rfl
  | 22, _ => by kernel_rfl
  | 23, _ => by kernel_rfl
  | 24, _ => by kernel_rfl
  | 25, _ => by kernel_rfl
  | 26, _ => by kernel_rfl
  | 27, _ => by kernel_rfl
  | 28, _ => by kernel_rfl
  | 29, _ => by kernel_rfl
  | 30, _ => by kernel_rfl
  | 31, _ => by kernel_rfl
  | n + 32, h => absurd h (by omega)
theorem deepV_parse (n : Nat) (hn : n < 64) : parseG (brk (n + 1)) = if 32 < n + 1 then (jZero, 5) else (deepV n, 0) := by
  unfold parseG
  have hl : (brk (n + 1)).length ≤ 128 := by simp [brk]; omega
  rw [if_neg (by omega), deepV_whole n hn]
  simp only [deepV_depth, if_neg (deepV_tw n)]
theorem deepV_print (n : Nat) : printG (deepV n) = if 32 < n + 1 then ([], 1) else (brk (n + 1), 0) := by
  unfold printG checkG
  rw [deepV_depth]
  by_cases h : 32 < n + 1
  · rw [if_pos h, if_neg (c := (∀ u, JV.In (deepV n) u → soundB u = true) ∧ n + 1 ≤ 32) (fun e => by omega)]
    simp
  · rw [if_neg h, if_pos (c := (∀ u, JV.In (deepV n) u → soundB u = true) ∧ n + 1 ≤ 32) ⟨deepV_sound n, by omega⟩, deepV_val n (by omega)]
    simp
end Go.Proofs.YtaniebkfgkhgoaaGreatDoor

namespace Go.Proofs.YtaniebkfgkhgoaaGreatDoor
open Go.RowKit
set_option linter.unusedVariables false
set_option maxRecDepth 100000

def dLen : Nat → Nat
  | 0 => 0
  | _ + 1 => 1
theorem deep_shape {w : World} {S : Nat → Prop} (n : Nat) {c0 c1 c2 c3 : Value} (h : LV w S (deepV n) c0 c1 c2 c3) : ∃ a c a3 c3', c0 = .int .i64 6 ∧ c1 = .string ⟨#[]⟩ ∧ c2 = .slice a (dLen n) c ∧ c3 = .slice a3 0 c3' := by
  cases n with
  | zero =>
    unfold deepV LV at h
    obtain ⟨h0, h1, ⟨a, c, h2, -⟩, ⟨a3, c3', h3, -⟩⟩ := h
    exact ⟨a, c, a3, c3', h0, h1, h2, h3⟩
  | succ n =>
    unfold deepV LV at h
    obtain ⟨h0, h1, ⟨a, c, h2, -⟩, ⟨a3, c3', h3, -⟩⟩ := h
    exact ⟨a, c, a3, c3', h0, h1, h2, h3⟩

set_option maxHeartbeats 2000000 in
theorem exact_deep : ∀ (n : Nat) (w : World) (S S' : Nat → Prop) (a : Option Addr) (c : Nat) (a3 : Option Addr) (c3 : Nat) (b : Option Addr) (d : Nat) (b3 : Option Addr) (d3 : Nat),
    LV w S (deepV n) (.int .i64 6) (.string ⟨#[]⟩) (.slice a (dLen n) c) (.slice a3 0 c3) → LV w S' (deepV n) (.int .i64 6) (.string ⟨#[]⟩) (.slice b (dLen n) d) (.slice b3 0 d3) →
    Calls Tryz.prog 9 #[.agg #[.int .i64 6, .string ⟨#[]⟩, .slice a (dLen n) c, .slice a3 0 c3], .agg #[.int .i64 6, .string ⟨#[]⟩, .slice b (dLen n) d, .slice b3 0 d3]] w fun e w' => e = .returned (.bool true) ∧ RowKit.Below w.heap.size w w'
  | 0, w, S, S', a, c, a3, c3, b, d, b3, d3, _, _ => by
    show Calls _ _ #[.agg #[.int .i64 6, .string ⟨#[]⟩, .slice a 0 c, .slice a3 0 c3], .agg #[.int .i64 6, .string ⟨#[]⟩, .slice b 0 d, .slice b3 0 d3]] _ _
    obtain ⟨W, hW⟩ : ∃ W, (w.alloc (.cells #[.int .i64 6, .string ⟨#[]⟩, .slice a 0 c, .slice a3 0 c3] 26)).alloc (.cells #[.int .i64 6, .string ⟨#[]⟩, .slice b 0 d, .slice b3 0 d3] 26) = W := ⟨_, rfl⟩
    have hb : RowKit.Below w.heap.size w W := by rw [← hW]; exact ((Below.refl _ w).alloc (Nat.le_refl _) _).alloc (by simp) _
    have hx := RB.new (x0 := .int .i64 6) (x1 := .string ⟨#[]⟩) (x2 := .slice a 0 c) (x3 := .slice a3 0 c3) w
    have hx2 : RB W w.heap.size (.int .i64 6) (.string ⟨#[]⟩) (.slice a 0 c) (.slice a3 0 c3) := by rw [← hW]; exact hx.gb (World.grownBy_alloc _ _ none) (by simp)
    have hy : RB W (w.heap.size + 1) (.int .i64 6) (.string ⟨#[]⟩) (.slice b 0 d) (.slice b3 0 d3) := by
      rw [← hW]
      have := RB.new (x0 := .int .i64 6) (x1 := .string ⟨#[]⟩) (x2 := .slice b 0 d) (x3 := .slice b3 0 d3) (w.alloc (.cells #[.int .i64 6, .string ⟨#[]⟩, .slice a 0 c, .slice a3 0 c3] 26))
      rwa [World.size_alloc] at this
    have q0 := hx2.c0
    have q1 := hx2.c1
    have q2 := hx2.c2
    have q3 := hx2.c3
    have r0 := hy.c0
    have r1 := hy.c1
    have r2 := hy.c2
    have r3 := hy.c3
    have HB := Lib.hid hb
    clear hb hx hx2 hy
    go_enter Tryz.func9, Tryz.ntmps9
    go_wp2_with fail
    go_loopg [5] 0 (fun _ s5 wr => s5 = .int .i64 0 ∧ wr = W)
    case atStart => exact ⟨rfl, rfl⟩
    case round =>
      obtain ⟨rfl, rfl⟩ := hrel
      go_wp2_with fail
      go_loopg [6] 0 (fun _ s6 wx => s6 = .int .i64 0 ∧ wx = wr)
      case atStart => exact ⟨rfl, rfl⟩
      case round =>
        obtain ⟨rfl, rfl⟩ := hrel
        go_wp2_with fail
        go_ret
        exact ⟨rfl, HB.out⟩
  | n + 1, w, S, S', a, c, a3, c3, b, d, b3, d3, h1, h2 => by
    show Calls _ _ #[.agg #[.int .i64 6, .string ⟨#[]⟩, .slice a 1 c, .slice a3 0 c3], .agg #[.int .i64 6, .string ⟨#[]⟩, .slice b 1 d, .slice b3 0 d3]] _ _
    obtain ⟨ab, ao, rfl, ha⟩ : ∃ ab ao, a = some ⟨ab, ao, none⟩ ∧ LAt w S (deepV n) ab ao := by
      unfold deepV LV at h1
      obtain ⟨-, -, ⟨x, y, e1, e2⟩, -⟩ := h1
      simp only [Value.slice.injEq] at e1
      obtain ⟨rfl, -, -⟩ := e1
      rcases e2 with e2 | ⟨p, o, e3, _, e4⟩
      · cases e2
      · exact ⟨p, o, e3, e4.at _ 0 _ rfl⟩
    obtain ⟨bb, bo, rfl, hb'⟩ : ∃ bb bo, b = some ⟨bb, bo, none⟩ ∧ LAt w S' (deepV n) bb bo := by
      unfold deepV LV at h2
      obtain ⟨-, -, ⟨x, y, e1, e2⟩, -⟩ := h2
      simp only [Value.slice.injEq] at e1
      obtain ⟨rfl, -, -⟩ := e1
      rcases e2 with e2 | ⟨p, o, e3, _, e4⟩
      · cases e2
      · exact ⟨p, o, e3, e4.at _ 0 _ rfl⟩
    obtain ⟨W, hW⟩ : ∃ W, (w.alloc (.cells #[.int .i64 6, .string ⟨#[]⟩, .slice (some ⟨ab, ao, none⟩) 1 c, .slice a3 0 c3] 26)).alloc (.cells #[.int .i64 6, .string ⟨#[]⟩, .slice (some ⟨bb, bo, none⟩) 1 d, .slice b3 0 d3] 26) = W := ⟨_, rfl⟩
    have hb : RowKit.Below w.heap.size w W := by rw [← hW]; exact ((Below.refl _ w).alloc (Nat.le_refl _) _).alloc (by simp) _
    have hx := RB.new (x0 := .int .i64 6) (x1 := .string ⟨#[]⟩) (x2 := .slice (some ⟨ab, ao, none⟩) 1 c) (x3 := .slice a3 0 c3) w
    have hx2 : RB W w.heap.size (.int .i64 6) (.string ⟨#[]⟩) (.slice (some ⟨ab, ao, none⟩) 1 c) (.slice a3 0 c3) := by rw [← hW]; exact hx.gb (World.grownBy_alloc _ _ none) (by simp)
    have hy : RB W (w.heap.size + 1) (.int .i64 6) (.string ⟨#[]⟩) (.slice (some ⟨bb, bo, none⟩) 1 d) (.slice b3 0 d3) := by
      rw [← hW]
      have := RB.new (x0 := .int .i64 6) (x1 := .string ⟨#[]⟩) (x2 := .slice (some ⟨bb, bo, none⟩) 1 d) (x3 := .slice b3 0 d3) (w.alloc (.cells #[.int .i64 6, .string ⟨#[]⟩, .slice (some ⟨ab, ao, none⟩) 1 c, .slice a3 0 c3] 26))
      rwa [World.size_alloc] at this
    have hgb := gb_below hb none
    have hWd : w.grownBy W.drew none := gb_trans hgb (gb_drewN W 1 none)
    obtain ⟨x0, x1, x2, x3, e0, e1, e2, e3, hl⟩ := ha.kept hWd (by simp) (by simp)
    obtain ⟨y0, y1, y2, y3, f0, f1, f2, f3, hm⟩ := hb'.kept hWd (by simp) (by simp)
    obtain ⟨xa, xc, xa3, xc3, rfl, rfl, rfl, rfl⟩ := deep_shape n hl
    obtain ⟨ya, yc, ya3, yc3, rfl, rfl, rfl, rfl⟩ := deep_shape n hm
    have IH := Lib.hid (exact_deep n W.drew S S' xa xc xa3 xc3 ya yc ya3 yc3 hl hm)
    generalize dLen n = dn at IH e2 f2 hl hm
    have q0 := hx2.c0
    have q1 := hx2.c1
    have q2 := hx2.c2
    have q3 := hx2.c3
    have r0 := hy.c0
    have r1 := hy.c1
    have r2 := hy.c2
    have r3 := hy.c3
    have HB := Lib.hid hb
    have HX := Lib.hid hx2
    have HY := Lib.hid hy
    clear hb hx hx2 hy hl hm ha hb' hgb hWd h1 h2
    go_enter Tryz.func9, Tryz.ntmps9
    go_wp2_with fail
    have e0' : W.cell? ⟨ab, ao, none⟩ = some (.int .i64 6) := e0
    have e1' : W.cell? ⟨ab, ao + 1, none⟩ = some (.string ⟨#[]⟩) := e1
    have e2' : W.cell? ⟨ab, ao + 2, none⟩ = some (.slice xa dn xc) := e2
    have e3' : W.cell? ⟨ab, ao + 3, none⟩ = some (.slice xa3 0 xc3) := e3
    have f0' : W.cell? ⟨bb, bo, none⟩ = some (.int .i64 6) := f0
    have f1' : W.cell? ⟨bb, bo + 1, none⟩ = some (.string ⟨#[]⟩) := f1
    have f2' : W.cell? ⟨bb, bo + 2, none⟩ = some (.slice ya dn yc) := f2
    have f3' : W.cell? ⟨bb, bo + 3, none⟩ = some (.slice ya3 0 yc3) := f3
    clear e0 e1 e2 e3 f0 f1 f2 f3 hW
    go_loopw [5] (fun s5 wr => ∃ i : Nat, s5 = .int .i64 i ∧ ((i = 0 ∧ wr = W) ∨ (i = 1 ∧ RowKit.Below W.heap.size W wr))) (fun s5 _ => 1 - (intOf s5).toNat)
    case atStart => exact ⟨0, rfl, .inl ⟨rfl, rfl⟩⟩
    case round =>
      obtain ⟨i, rfl, ⟨rfl, rfl⟩ | ⟨rfl, hbw⟩⟩ := hrel
      · go_wp2_with fail
        go_still_tail 10, (by kernel_rfl)
        change wpList _ _ _ _ _ wr.drew
        go_wp2_with (go_at_call 9; (with_reducible refine IH.out.mono ?_); rintro e w1 ⟨rfl, hb1⟩; have HB1 := Lib.hid hb1; clear hb1)
        go_roundw
        case rel => exact ⟨1, rfl, .inr ⟨rfl, ⟨HB1.out.os, HB1.out.tape, HB1.out.output, HB1.out.size, HB1.out.block⟩⟩⟩
        case measure => simp [intOf]
      · have HBW := Lib.hid hbw
        have q2 := (HX.out.below hbw).c2
        have q3 := (HX.out.below hbw).c3
        have r2 := (HY.out.below hbw).c2
        have r3 := (HY.out.below hbw).c3
        clear hbw
        go_wp2_with fail
        go_loopg [6] 0 (fun _ s6 wx => s6 = .int .i64 0 ∧ wx = wr)
        case atStart => exact ⟨rfl, rfl⟩
        case round =>
          obtain ⟨rfl, rfl⟩ := hrel
          go_wp2_with fail
          go_ret
          exact ⟨rfl, HB.out.trans (HBW.out.mono HB.out.size)⟩
end Go.Proofs.YtaniebkfgkhgoaaGreatDoor
