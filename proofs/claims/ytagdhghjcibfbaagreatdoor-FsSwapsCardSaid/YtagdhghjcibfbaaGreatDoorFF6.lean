/- Layer 9: New, Exit, Used; a file system of the call's own. Layer 9: Files: all that is reached. Layer 9: Files; a law's state: a file system and results beside it; awake. Layer 9: the states of the law FsSwaps. Layer 9: acts in memory; the reference's Small. Layer 9: awake. Layer 9: a file system that nobody made. -/
import Derived.Test.YtagdhghjcibfbaaGreatDoorFF5
import Derived.Test.YtagdhghjcibfbaaGreatDoorInFr
import Derived.Test.YtagdhghjcibfbaaGreatDoorFF4
import Derived.Maps.AppendAt
import Derived.Deep.AppendLies
import Derived.LoopTactic
namespace Go.Proofs.YtagdhghjcibfbaaGreatDoor
open Go.RowKit
set_option linter.unusedVariables false
set_option linter.unusedSectionVars false
set_option maxRecDepth 100000

/-- What Exit leaves: the handles 1 to k closed. -/
def Fs.exitN (F : Fs) (o : Int) (row : List Int) : Nat → Fs
  | 0 => F
  | k + 1 => if row.getD k 0 = 0 then F.exitN o row k else (F.exitN o row k).shut o k
def Fs.exit (F : Fs) (o : Int) : Fs := F.exitN o (F.row o) 8

section
variable {w : World} {fb t hb : Nat} {F : Fs} {S : Nat → Prop} {N : Nat} (h : FsAt w fb t hb F S N)
include h
theorem fs_used : Calls Tryz.prog 11 #[.pointer (some ⟨fb, 0, none⟩)] w fun e w' => e = .returned (.int .i64 F.T.used) ∧ w' = w := by
  have CM := Lib.hid (made_any h.fs)
  have c0 : w.cell? ⟨fb, 0, none⟩ = some (.pointer (some ⟨t, 0, none⟩)) := h.fs.c0
  have CU : Hid (Calls Tryz.prog 32 #[.pointer (some ⟨t, 0, none⟩)] w fun e w' => e = .returned (.int .i64 F.T.used) ∧ w' = w) := by
    obtain ⟨A, mb, h1, hS⟩ := h.tab
    exact Lib.hid (used_any h1)
  clear h
  go_enter Tryz.func11, Tryz.ntmps11
  go_wp2_with (first
    | (go_at_call 17; (with_reducible refine CM.out.mono ?_); rintro e w1 ⟨rfl, hw⟩; obtain rfl := hw)
    | (go_at_call 32; (with_reducible refine CU.out.mono ?_); rintro e w1 ⟨rfl, hw⟩; obtain rfl := hw))
  go_ret
  exact ⟨rfl, rfl⟩
set_option maxHeartbeats 1000000 in
theorem fs_exit (hN : N < 999998000) {o : Int} (ho : InI o) :
    Calls Tryz.prog 10 #[.pointer (some ⟨fb, 0, none⟩), .int .i64 o] w fun e w' => e = .returned (.tuple #[]) ∧ FsP w fb t hb (F.exit o) S (N + 16) w' := by
  have CM := Lib.hid (made_any h.fs)
  have hlk := h.mp.look ho
  have hlen := h.hok.row_len o
  have c1 : w.cell? ⟨fb, 1, none⟩ = some (.map (some hb)) := h.fs.c1
  change (Instr.lookup _ _ _ _).run _ _ = .ok (hndV (F.row o)) w at hlk
  unfold Fs.exit
  have CS : Hid (∀ wr G k, k < 8 → FsP w fb t hb G S (N + 2 * k) wr → Calls Tryz.prog 31 #[.pointer (some ⟨fb, 0, none⟩), .int .i64 o, .int .i64 ((k : Int) + 1)] wr fun e w' => e = .returned (.tuple #[]) ∧ FsP w fb t hb (G.shut o k) S (N + 2 * (k + 1)) w') :=
    Lib.hid fun wr G k hk hp => (fs_shut hp.at_ (by omega) ho ((k : Int) + 1) k hk (by omega)).mono fun e w' ⟨he, hq⟩ => ⟨he, (hp.trans hq h.gl h.gm).up (by omega)⟩
  have H0 := Lib.hid (FsP.refl h)
  generalize F.row o = row at *
  obtain ⟨r0, r1, r2, r3, r4, r5, r6, r7, rfl⟩ := len8 hlen
  change (Instr.lookup _ _ _ _).run _ _ = .ok (.agg #[.int .i64 r0, .int .i64 r1, .int .i64 r2, .int .i64 r3, .int .i64 r4, .int .i64 r5, .int .i64 r6, .int .i64 r7]) w at hlk
  have HIX : Hid (∀ k : Nat, k < 8 → ∀ w0, (Instr.index 69 (.agg #[.int .i64 r0, .int .i64 r1, .int .i64 r2, .int .i64 r3, .int .i64 r4, .int .i64 r5, .int .i64 r6, .int .i64 r7]) (.int .i64 (k : Int))).run Tryz.prog w0 = .ok (.int .i64 ([r0, r1, r2, r3, r4, r5, r6, r7].getD k 0)) w0) := Lib.hid fun k hk w0 => index8 r0 r1 r2 r3 r4 r5 r6 r7 k hk w0
  obtain ⟨row, hrow⟩ : ∃ row : List Int, row = [r0, r1, r2, r3, r4, r5, r6, r7] := ⟨_, rfl⟩
  rw [← hrow] at HIX ⊢
  clear hlen h hrow
  go_enter Tryz.func10, Tryz.ntmps10
  go_wp2_with (first
    | (go_at_call 17; (with_reducible refine CM.out.mono ?_); rintro e w1 ⟨rfl, hw⟩; obtain rfl : w = w1 := hw.symm; clear hw))
  go_loopw [15] (fun i wr => ∃ k : Nat, i = .int .i64 k ∧ k ≤ 8 ∧ Hid (FsP w fb t hb (F.exitN o row k) S (N + 2 * k) wr)) (fun i _ => 8 - (intOf i).toNat)
  case atStart => exact ⟨0, rfl, by omega, H0⟩
  case round =>
    obtain ⟨k, rfl, hk, HP⟩ := hrel
    by_cases hlt : k < 8
    · have hix := HIX.out k hlt
      have CS1 := Lib.hid (CS.out wr _ k hlt HP.out)
      have hst : F.exitN o row (k + 1) = if row.getD k 0 = 0 then F.exitN o row k else (F.exitN o row k).shut o k := rfl
      have wk : wrap64 ((k : Int) + 1) = (k : Int) + 1 := IntWalk.wrap64_in _ (by omega)
      have hd : decide ((k : Int) < 8) = true := decide_eq_true (by omega)
      generalize row.getD k 0 = v at *
      by_cases hv : v = 0
      · rw [if_pos hv] at hst
        have HP2 : Hid (FsP w fb t hb (F.exitN o row (k + 1)) S (N + 2 * (k + 1)) wr) := by rw [hst]; exact Lib.hid (HP.out.up (by omega))
        have hv1 : (v != 0) = false := by simpa using hv
        have hv2 : (v == 0) = true := by simpa using hv
        clear hst CS1 hv
        go_wp2_with fail
        go_roundw
        case rel => exact ⟨k + 1, by go_num, by omega, HP2⟩
        case measure => simp [intOf]; omega
      · rw [if_neg hv] at hst
        have hv1 : (v != 0) = true := by simpa using hv
        have hv2 : (v == 0) = false := by simpa using hv
        have HST := Lib.hid hst
        clear hst hv
        go_wp2_with (go_at_call 31; (with_reducible refine CS1.out.mono ?_); rintro e w2 ⟨rfl, hp⟩; have HP2 := Lib.hid hp; clear hp)
        go_roundw
        case rel => exact ⟨k + 1, by go_num, by omega, by rw [HST.out]; exact HP2⟩
        case measure => simp [intOf]; omega
    · obtain rfl : k = 8 := by omega
      go_wp2_with fail
      go_end0
      exact ⟨rfl, HP.out⟩
end
set_option maxHeartbeats 1000000 in
theorem fs_new (q : Int) (h1 : 64 ≤ q) (h2 : q ≤ 1099511627776) (w : World) (hm : MaxOK w) :
    Calls Tryz.prog 6 #[.int .i64 q] w fun e w' => ∃ fb t hb, e = .returned (.tuple #[.pointer (some ⟨fb, 0, none⟩), .int .i64 0]) ∧ FsAt w' fb t hb ⟨Tb.fresh q, []⟩ (New w w') 0 ∧ Below w.heap.size w w' := by
  have CN := Lib.hid (new_ok q h1 h2 w)
  obtain ⟨t, ht⟩ : ∃ t, t = w.heap.size + 1 := ⟨_, rfl⟩
  have hgm : gmx < w.heap.size := by obtain ⟨m, hm⟩ := hm; exact World.block_lt_of_cell? w _ hm
  rw [← ht] at CN
  have WF : Hid (Wf (Tb.fresh q)) := Lib.hid (wf_fresh q)
  have BD : Hid (Bd (Tb.fresh q) 0) := Lib.hid (bd_fresh q h1 h2)
  have HM := Lib.hid hm
  have HG := Lib.hid hgm
  have hmm := @run_makeMap Tryz.prog
  clear ht h1 h2 hm hgm
  go_enter Tryz.func6, Tryz.ntmps6
  go_wp2_with (go_at_call 16; (with_reducible refine CN.out.mono ?_); rintro e w1 ⟨rfl, htb, hb⟩; have HT := Lib.hid htb; have HB := Lib.hid hb; clear htb hb)
  go_ret2
  have hz : (w1.alloc (.map #[] 0)).heap.size = w1.heap.size + 1 := by simp
  have b1 : Below w1.heap.size w1 ((w1.alloc (.map #[] 0)).alloc (.cells #[.pointer (some ⟨t, 0, none⟩), .map (some w1.heap.size)] 44)) := ((Below.refl _ w1).alloc (Nat.le_refl _) _).alloc (by simp) _
  have hbw := HB.out.size
  refine ⟨w1.heap.size + 1, t, w1.heap.size, ?_, ⟨?_, ?_, ?_, ?_, ?_, fun k hk => hk.2, fun e => ?_, ?_, WF.out, BD.out, ⟨(fun o r hr => by cases hr), (fun o r x hr => by cases hr), Nat.le_refl _⟩⟩, HB.out.trans (b1.mono hbw)⟩
  · first | rfl | (rw [← hz]; rfl)
  · obtain ⟨A, mb, h1, hS⟩ := HT.out
    refine ⟨A, mb, h1.below b1, fun k hk => ?_⟩
    have := hS k hk
    unfold New at *
    have := b1.size
    refine ⟨by omega, by omega, by omega⟩
  · have := (MapKept.heap_alloc (w1.alloc (.map #[] 0)) (.cells #[.pointer (some ⟨t, 0, none⟩), .map (some w1.heap.size)] 44)).1
    rw [hz] at this
    exact this
  · exact map_ch (MapH.made w1) (Ch.alloc (M := fun _ => False) _ _) (fun e => e)
  · unfold New; simp; omega
  · unfold New; simp; omega
  · have := HG.out; unfold New at e; omega
  · exact HM.out.below (HB.out.trans (b1.mono hbw))

/-! ### A file system of the call's own, and blocks beside it -/
structure FsSt (w0 : World) (fb t hb : Nat) (F : Fs) (N : Nat) (X : List Nat) (w : World) : Prop where
  ex : ∃ S, FsAt w fb t hb F S N ∧ (∀ k, S k → w0.heap.size ≤ k) ∧ ∀ k ∈ X, ¬ S k
  bel : Below w0.heap.size w0 w
theorem FsSt.start {w0 w : World} {fb t hb : Nat} {F : Fs} {N : Nat} (h : FsAt w fb t hb F (New w0 w) N) (b : Below w0.heap.size w0 w) : FsSt w0 fb t hb F N [] w := ⟨⟨_, h, fun k hk => hk.1, fun k hk => by cases hk⟩, b⟩
section
variable {w0 w w' : World} {fb t hb : Nat} {F : Fs} {N : Nat} {X : List Nat} (h : FsSt w0 fb t hb F N X w)
include h
theorem FsSt.up {M : Nat} (hM : N ≤ M) : FsSt w0 fb t hb F M X w := by
  obtain ⟨⟨S, h1, h2, h3⟩, h4⟩ := h
  exact ⟨⟨S, h1.up hM, h2, h3⟩, h4⟩
theorem FsSt.below (b : Below w.heap.size w w') : FsSt w0 fb t hb F N X w' := by
  obtain ⟨⟨S, h1, h2, h3⟩, h4⟩ := h
  exact ⟨⟨S, h1.below b, h2, h3⟩, h4.trans (b.mono h4.size)⟩
/-- A block that is made beside it. -/
theorem FsSt.new (o : Obj) : FsSt w0 fb t hb F N (w.heap.size :: X) (w.alloc o) := by
  have hb := (Below.refl w.heap.size w).alloc (Nat.le_refl _) o
  obtain ⟨⟨S, h1, h2, h3⟩, h4⟩ := h
  refine ⟨⟨S, h1.below hb, h2, fun k hk e => ?_⟩, h4.trans (hb.mono h4.size)⟩
  rcases List.mem_cons.1 hk with rfl | hk
  · exact Nat.lt_irrefl _ (h1.lt _ e)
  · exact h3 k hk e
theorem st_do (hN : N < 999999000) {o : Int} (ho : InI o) (op : OpT) (ok : OpOk op) (hx : ∀ k ∈ X, k < w.heap.size) :
    Calls Tryz.prog 9 #[.pointer (some ⟨fb, 0, none⟩), .int .i64 o, opV op] w fun e w' => ∃ a n c, e = .returned (.agg #[.int .i64 (F.step o op).2.err, .int .i64 (F.step o op).2.n, .string (bs (F.step o op).2.data), .slice a n c]) ∧ Sl w' (.slice a n c) (F.step o op).2.names ∧ FsSt w0 fb t hb (F.step o op).1 (N + 3) X w' ∧ (∀ k ∈ X, w'.heap[k]? = w.heap[k]?) ∧ w.heap.size ≤ w'.heap.size := by
  obtain ⟨⟨S, h1, h2, h3⟩, h4⟩ := h
  refine (fs_do h1 hN ho op ok).mono fun e w' ⟨a, n, c, he, hs, hp⟩ => ⟨a, n, c, he, hs, ?_⟩
  refine ⟨⟨⟨_, hp.at_, fun k hk => ?_, fun k hk e => ?_⟩, Ch.below hp.ch h4 h4.size (fun x hx e => by have := h2 x e; omega)⟩, fun k hk => hp.ch.block k (hx k hk) (h3 k hk), hp.ch.size⟩
  · rcases hk with hk | hk
    · exact h2 k hk
    · have := h4.size; unfold New at hk; omega
  · rcases e with e | e
    · exact h3 k hk e
    · have := hx k hk; unfold New at e; omega
theorem st_exit (hN : N < 999998000) {o : Int} (ho : InI o) (hx : ∀ k ∈ X, k < w.heap.size) :
    Calls Tryz.prog 10 #[.pointer (some ⟨fb, 0, none⟩), .int .i64 o] w fun e w' => e = .returned (.tuple #[]) ∧ FsSt w0 fb t hb (F.exit o) (N + 16) X w' ∧ (∀ k ∈ X, w'.heap[k]? = w.heap[k]?) ∧ w.heap.size ≤ w'.heap.size := by
  obtain ⟨⟨S, h1, h2, h3⟩, h4⟩ := h
  refine (fs_exit h1 hN ho).mono fun e w' ⟨he, hp⟩ => ⟨he, ?_⟩
  refine ⟨⟨⟨_, hp.at_, fun k hk => ?_, fun k hk e => ?_⟩, Ch.below hp.ch h4 h4.size (fun x hx e => by have := h2 x e; omega)⟩, fun k hk => hp.ch.block k (hx k hk) (h3 k hk), hp.ch.size⟩
  · rcases hk with hk | hk
    · exact h2 k hk
    · have := h4.size; unfold New at hk; omega
  · rcases e with e | e
    · exact h3 k hk e
    · have := hx k hk; unfold New at e; omega
theorem st_used : Calls Tryz.prog 11 #[.pointer (some ⟨fb, 0, none⟩)] w fun e w' => e = .returned (.int .i64 F.T.used) ∧ w' = w := by
  obtain ⟨⟨S, h1, h2, h3⟩, h4⟩ := h
  exact fs_used h1
end
theorem st_new (q : Int) (h1 : 64 ≤ q) (h2 : q ≤ 1099511627776) (w : World) (hm : MaxOK w) :
    Calls Tryz.prog 6 #[.int .i64 q] w fun e w' => ∃ fb t hb, e = .returned (.tuple #[.pointer (some ⟨fb, 0, none⟩), .int .i64 0]) ∧ FsSt w fb t hb ⟨Tb.fresh q, []⟩ 0 [] w' :=
  (fs_new q h1 h2 w hm).mono fun e w' ⟨fb, t, hb, he, ha, b⟩ => ⟨fb, t, hb, he, FsSt.start ha b⟩
end Go.Proofs.YtagdhghjcibfbaaGreatDoor

namespace Go.Proofs.YtagdhghjcibfbaaGreatDoor
open Go.RowKit
set_option linter.unusedVariables false
set_option linter.unusedSectionVars false
set_option maxRecDepth 100000

/-! ### What is under a directory -/
abbrev FileT := List UInt8 × Bool × List UInt8
def Tb.rd (T : Tb) (id : Int) : List UInt8 × Int := ((T.step (aRead id 0 1048576)).2.2.1, (T.step (aRead id 0 1048576)).2.2.2)
def filesL (T : Tb) : Nat → Int → List UInt8 → List FileT
  | 0, _, _ => []
  | n + 1, dir, path => ((T.nd dir).names.map (·.1)).flatMap fun s =>
    (inL path s, decide ((T.rd (T.tgt dir s)).2 = 12), (T.rd (T.tgt dir s)).1) :: (if (T.rd (T.tgt dir s)).2 = 12 then filesL T n (T.tgt dir s) (inL path s) else [])
/-- Directories lie in directories less than n deep. -/
def Dp (T : Tb) : Nat → Int → Prop
  | 0, _ => False
  | n + 1, dir => T.kindE dir true = 0 ∧ ∀ s ∈ (T.nd dir).names.map (·.1), (T.rd (T.tgt dir s)).2 = 12 → Dp T n (T.tgt dir s)
def fcells (l : List FileT) : List Value := l.flatMap fun x => [.string (bs x.1), .bool x.2.1, .string (bs x.2.2)]
theorem fcells_app (a b : List FileT) : fcells (a ++ b) = fcells a ++ fcells b := List.flatMap_append
theorem flatMap_take_le {α β : Type} (f : α → List β) (l : List α) (k : Nat) : ((l.take k).flatMap f).length ≤ (l.flatMap f).length := by
  conv => rhs; rw [← List.take_append_drop k l, List.flatMap_append, List.length_append]
  omega
theorem inL_len (p s : List UInt8) : (inL p s).length ≤ p.length + s.length + 1 := by
  unfold inL
  split
  · omega
  · split
    · omega
    · simp; omega
theorem ent_of_name {T : Tb} (wf : Wf T) {dir : Int} (hk : T.kindE dir true = 0) {s : List UInt8} (hs : s ∈ (T.nd dir).names.map (·.1)) : T.entE dir s = 0 ∧ s.length ≤ 32 := by
  obtain ⟨n, hn, hd⟩ := kind_some hk
  rw [nd_of hn, List.mem_map] at hs
  obtain ⟨p, hp, rfl⟩ := hs
  have hg := mem_aget (ris_ne ord_S (wf.nris _ _ hn)) (show (p.1, p.2) ∈ n.names from hp)
  have hm := wf.nms _ _ _ _ hn hg
  refine ⟨?_, nm_len hm⟩
  unfold Tb.entE Tb.placeE
  rw [if_pos hk, if_pos hm, if_pos rfl]
  unfold Tb.led
  rw [nd_of hn, hg]

/-! ### A row that grows -/
structure Rw (B : Nat) (w w' : World) (v v' : Value) (m : Nat) (xs : List Value) : Prop where
  own : w'.ownsRow B 56 3 v' m xs
  ch : Ch (fun k => some k = v.ownBlock) w w'
  blk : v'.ownBlock = v.ownBlock ∨ ∃ g, w.heap.size ≤ g ∧ v'.ownBlock = some g
section
variable {B : Nat} {w w1 w' : World} {v v1 v' : Value} {m m1 : Nat} {xs xs1 : List Value}
theorem own_ch (h : w.ownsRow B 56 3 v m xs) {M : Nat → Prop} (g : Ch M w w') (hn : ∀ k, v.ownBlock = some k → ¬ M k) : w'.ownsRow B 56 3 v m xs := by
  refine ⟨h.1, ?_⟩
  rcases h.2 with h' | ⟨b, cap, cur, rfl, hb, hgg, rest⟩
  · exact .inl h'
  · exact .inr ⟨b, cap, cur, rfl, hb, g.heap hgg (hn b rfl), rest⟩
theorem Rw.of_below (h : w.ownsRow B 56 3 v m xs) (b : Below w.heap.size w w') : Rw B w w' v v m xs :=
  ⟨own_ch (M := fun _ => False) h ⟨b.os, b.tape, b.output, b.size, fun k hk _ => b.block k hk⟩ (fun _ _ e => e), Ch.of_below b, .inl rfl⟩
theorem Rw.trans (h : Rw B w w1 v v1 m xs) (k : Rw B w1 w' v1 v' m1 xs1) : Rw B w w' v v' m1 xs1 := by
  refine ⟨k.own, h.ch.trans k.ch (fun x hx e => ?_), ?_⟩
  · rcases h.blk with hb | ⟨g, hg, hb⟩
    · rw [← hb]; exact e
    · rw [hb] at e; have := Option.some.inj e; omega
  · have hs := h.ch.size
    rcases k.blk with kb | ⟨g, hg, kb⟩
    · rw [kb]; exact h.blk
    · exact .inr ⟨g, Nat.le_trans hs hg, kb⟩
theorem Rw.below {w0 : World} (h : Rw B w w' v v' m1 xs1) (h0 : w.ownsRow B 56 3 v m xs) (hb : Below B w0 w) (hB : B ≤ w.heap.size) : Below B w0 w' :=
  Ch.below h.ch hb hB (fun x hx e => by have := (World.ownsRow.lt h0 x e.symm).1; omega)
end
theorem Rw.appended {B : Nat} {wr w3 W4 W6 : World} {vk v' : Value} {cnt : Nat} {acc xs : List Value} {o1 o2 : Obj} (h : wr.ownsRow B 56 3 vk cnt acc) (hb : Below wr.heap.size wr w3) (hW4 : w3.alloc o1 = W4)
    (hown : W6.ownsRow B 56 3 v' (cnt + 1) (acc ++ xs)) (hgrow : (W4.alloc o2).grownBy W6 vk.ownBlock) (hat : v'.ownBlock = vk.ownBlock ∨ v'.ownBlock = some (W4.alloc o2).heap.size) : Rw B wr W6 vk v' (cnt + 1) (acc ++ xs) := by
  subst hW4
  have hs := hb.size
  have b2 : Below wr.heap.size wr ((w3.alloc o1).alloc o2) := (hb.alloc hs _).alloc (by simp; omega) _
  exact ⟨hown, (Ch.of_below b2).trans (Ch.of_gb hgrow) (fun _ _ e => e), hat.imp id (fun e => ⟨_, b2.size, e⟩)⟩
theorem cell_grown {wr w3 W4 W6 : World} {B cnt : Nat} {acc : List Value} {vk x0 x1 x2 : Value} {o2 : Obj} (h : wr.ownsRow B 56 3 vk cnt acc) (hb : Below wr.heap.size wr w3) (hW4 : w3.alloc (.cells #[x0, x1, x2] 56) = W4)
    (hgrow : (W4.alloc o2).grownBy W6 vk.ownBlock) : W6.cell? ⟨w3.heap.size, 0, none⟩ = some x0 ∧ W6.cell? ⟨w3.heap.size, 1, none⟩ = some x1 := by
  subst hW4
  have hs := hb.size
  have hh : W6.heap[w3.heap.size]? = some (.cells #[x0, x1, x2] 56 (0, 0)) := by
    rw [hgrow.block w3.heap.size (by simp; omega) (fun e => by have := (World.ownsRow.lt h _ e.symm).2; omega), Below.heap_alloc _ _ _ (by simp)]
    exact (MapKept.heap_alloc w3 _).1
  exact ⟨by simp [World.cell?, hh], by simp [World.cell?, hh]⟩
theorem file_new {wr w3 : World} {B cnt : Nat} {acc : List Value} {vk x0 x1 x2 : Value} (h : wr.ownsRow B 56 3 vk cnt acc) (hb : Below wr.heap.size wr w3) :
    ∃ W4, w3.alloc (.cells #[x0, x1, x2] 56) = W4 ∧ W4.cell? ⟨w3.heap.size, 0, none⟩ = some x0 ∧ W4.cell? ⟨w3.heap.size, 1, none⟩ = some x1 ∧ W4.cell? ⟨w3.heap.size, 2, none⟩ = some x2 ∧ W4.heap.size = w3.heap.size + 1 ∧ W4.ownsRow B 56 3 vk cnt acc := by
  exact ⟨_, rfl, World.cell?_alloc_new w3 _ _ 0, World.cell?_alloc_new w3 _ _ 1, World.cell?_alloc_new w3 _ _ 2, by simp, (Rw.of_below h hb).own.alloc _⟩
theorem info_file : (Tryz.prog.info? 56).map (fun i => (i.zero, i.size, i.bytes)) = some (some (.agg #[.string ⟨#[]⟩, .bool false, .string ⟨#[]⟩]), 3, 40) := by kernel_rfl

set_option maxHeartbeats 2000000 in
theorem af_any {w0 : World} {fb t hb : Nat} {F : Fs} {S : Nat → Prop} {N : Nat} (h : FsAt w0 fb t hb F S N) (hN : N < 999999000) :
    ∀ (n : Nat) (dir : Int) (path : List UInt8) (hD : Dp F.T n dir) (hdir : InI dir) (hpl : path.length + 33 * n ≤ 1000000000) (m : Nat) (xs : List Value) (v : Value) (hm : m + (filesL F.T n dir path).length ≤ 1000000000000) (w : World) (hbw : Below w0.heap.size w0 w) (own : w.ownsRow w0.heap.size 56 3 v m xs),
      Calls Tryz.prog 33 #[v, .pointer (some ⟨t, 0, none⟩), .int .i64 dir, .string (bs path)] w fun e w' => ∃ v', e = .returned v' ∧ Rw w0.heap.size w w' v v' (m + (filesL F.T n dir path).length) (xs ++ fcells (filesL F.T n dir path)) := by
  intro n
  induction n with
  | zero => intro dir path hD; exact absurd hD id
  | succ n ih =>
    intro dir path hD hdir hpl m xs v hm w hbw own
    obtain ⟨hk, hrec⟩ := hD
    have CL := Lib.hid (tm_list (h.below hbw) (by omega) hdir)
    rw [if_pos hk, hk] at CL
    have hent : ∀ s ∈ (F.T.nd dir).names.map (·.1), F.T.entE dir s = 0 ∧ s.length ≤ 32 := fun s hs => ent_of_name h.wf hk hs
    have hfl : filesL F.T (n + 1) dir path = ((F.T.nd dir).names.map (·.1)).flatMap fun s => (inL path s, decide ((F.T.rd (F.T.tgt dir s)).2 = 12), (F.T.rd (F.T.tgt dir s)).1) :: (if (F.T.rd (F.T.tgt dir s)).2 = 12 then filesL F.T n (F.T.tgt dir s) (inL path s) else []) := rfl
    rw [hfl] at hm ⊢
    clear hfl
    generalize (F.T.nd dir).names.map (·.1) = names at *
    obtain ⟨f, hf⟩ : ∃ f : List UInt8 → List FileT, f = fun s => (inL path s, decide ((F.T.rd (F.T.tgt dir s)).2 = 12), (F.T.rd (F.T.tgt dir s)).1) :: (if (F.T.rd (F.T.tgt dir s)).2 = 12 then filesL F.T n (F.T.tgt dir s) (inL path s) else []) := ⟨_, rfl⟩
    rw [← hf] at hm ⊢
    obtain ⟨q, hq⟩ : ∃ q, q = names.length := ⟨_, rfl⟩
    have HQ := Lib.hid hq
    have HF := Lib.hid hf
    have HM := Lib.hid hm
    have HOWN := Lib.hid own
    have HBW := Lib.hid hbw
    have H := Lib.hid h
    have HENT := Lib.hid hent
    have HREC := Lib.hid hrec
    have IH := Lib.hid ih
    have HPL := Lib.hid hpl
    have HVB := Lib.hid (fun k hk => (World.ownsRow.lt own k hk).2)
    have hq63 : q ≤ 1000000000000 := by
      rw [hq]
      have : names.length ≤ (names.flatMap f).length := by
        clear hm HM HF HENT HREC hent hrec HQ hq CL
        have hff : ∀ s, 1 ≤ (f s).length := fun s => by rw [hf]; simp
        clear hf
        induction names with
        | nil => simp
        | cons a l ih => rw [List.flatMap_cons, List.length_append, List.length_cons]; have := hff a; omega
      omega
    clear hq hf hm own hbw h hent hrec ih hpl
    go_enter Tryz.func33, Tryz.ntmps33
    go_wp2_with (go_at_call 54; (with_reducible refine CL.out.mono ?_); rintro e w1 ⟨a, ln, c, rfl, hs, hb, hnw⟩; obtain ⟨a', c', he, hc1, hc2, hat⟩ := hs; injection he with e1 e2 e3; subst e1; subst e2; subst e3; rw [← HQ.out]; have HB1 := Lib.hid hb; have HNW := Lib.hid hnw; have HAT := Lib.hid hat; clear hc1 hc2 hat hb hnw)
    go_loopw [0, 26] (fun v0 i wr => ∃ (k : Nat) (vk : Value), i = .int .i64 k ∧ v0 = vk ∧ k ≤ q ∧ Hid (Rw w0.heap.size w1 wr v vk (m + ((names.take k).flatMap f).length) (xs ++ fcells ((names.take k).flatMap f)))) (fun _ i _ => q - (intOf i).toNat)
    case atStart => exact ⟨0, v, rfl, rfl, Nat.zero_le _, Lib.hid (by simpa [fcells] using Rw.of_below (Rw.of_below HOWN.out HB1.out).own (Below.refl _ _))⟩
    case round =>
      obtain ⟨k, vk, rfl, rfl, hk, HR⟩ := hrel
      by_cases hlt : k < q
      · rcases HAT.out with e0 | ⟨b, o, rfl, hwl, hc⟩
        · exact absurd hlt (by rw [HQ.out, e0]; simp)
        have hk' : k < names.length := by rw [← HQ.out]; exact hlt
        have hnb : w.heap.size ≤ b := HNW.out b rfl
        have hx : wr.cell? ⟨b, o + k, none⟩ = some (.string (bs names[k])) :=
          (World.cell?_of_block (w := w1) (HR.out.ch.block b hwl (fun e => by have := HVB.out b e.symm; omega))).trans (hc k hk')
        have htk : names.take (k + 1) = names.take k ++ [names[k]] := List.take_succ_eq_append_getElem hk'
        have hmem := List.getElem_mem hk'
        have hrB : Below w0.heap.size w0 wr := HR.out.below (Rw.of_below HOWN.out HB1.out).own (HBW.out.trans (HB1.out.mono HBW.out.size)) (Nat.le_trans HBW.out.size HB1.out.size)
        have hcnt : ((names.take (k + 1)).flatMap f).length ≤ (names.flatMap f).length := flatMap_take_le f names (k + 1)
        rw [htk, List.flatMap_append, List.length_append] at hcnt
        have hfk : names.take (k + 1) = names.take k ++ [names[k]] := htk
        obtain ⟨hE, hsl⟩ := HENT.out _ hmem
        have hrc := HREC.out _ hmem
        have hfs : f names[k] = (inL path names[k], decide ((F.T.rd (F.T.tgt dir names[k])).2 = 12), (F.T.rd (F.T.tgt dir names[k])).1) :: (if (F.T.rd (F.T.tgt dir names[k])).2 = 12 then filesL F.T n (F.T.tgt dir names[k]) (inL path names[k]) else []) := by rw [HF.out]
        have HFK := Lib.hid hfk
        clear hc hmem htk hfk
        generalize names[k] = s at *
        obtain ⟨nd, hnd⟩ := tgt_some H.out.wf hE
        have hidx := id_in H.out.wf H.out.bd (by omega) hnd
        have CF := Lib.hid (tm_find (H.out.below hrB) (by omega) hdir s)
        rw [if_pos hE, hE] at CF
        have CR : Hid (∀ w3, Below wr.heap.size wr w3 → Calls Tryz.prog 56 #[.pointer (some ⟨t, 0, none⟩), .int .i64 (F.T.tgt dir s), .int .i64 0, .int .i64 1048576] w3 fun e w' =>
            e = .returned (.tuple #[.string (bs (F.T.rd (F.T.tgt dir s)).1), .int .i64 (F.T.rd (F.T.tgt dir s)).2]) ∧ Below w3.heap.size w3 w') :=
          Lib.hid fun w3 hb3 => tm_read (H.out.below (hrB.trans (hb3.mono hrB.size))) (by omega) hidx 0 1048576 (by unfold InI; omega) (by unfold InI; omega)
        have CJ := Lib.hid (fun w4 => in_any path s w4 (by have := HPL.out; omega) (by omega))
        have CREC : Hid ((F.T.rd (F.T.tgt dir s)).2 = 12 → ∀ (m2 : Nat) (xs2 : List Value) (v2 : Value) (w5 : World), m2 + (filesL F.T n (F.T.tgt dir s) (inL path s)).length ≤ 1000000000000 → Below w0.heap.size w0 w5 → w5.ownsRow w0.heap.size 56 3 v2 m2 xs2 →
            Calls Tryz.prog 33 #[v2, .pointer (some ⟨t, 0, none⟩), .int .i64 (F.T.tgt dir s), .string (bs (inL path s))] w5 fun e w' => ∃ v', e = .returned v' ∧ Rw w0.heap.size w5 w' v2 v' (m2 + (filesL F.T n (F.T.tgt dir s) (inL path s)).length) (xs2 ++ fcells (filesL F.T n (F.T.tgt dir s) (inL path s)))) :=
          Lib.hid fun h12 m2 xs2 v2 w5 hm2 hb5 ho5 => IH.out _ _ (hrc h12) hidx (by have := inL_len path s; have := HPL.out; omega) m2 xs2 v2 hm2 w5 hb5 ho5
        have HRB := Lib.hid hrB
        have HWL := Lib.hid hwl
        have HNB := Lib.hid hnb
        have hsum : m + ((names.take k).flatMap f).length + (f s).length ≤ 1000000000000 := by
          have e : ([s].flatMap f).length = (f s).length := by simp
          have := HM.out
          omega
        obtain ⟨i0, hi, hz0, hz1, hz2⟩ := info_parts info_file
        generalize F.T.rd (F.T.tgt dir s) = r at *
        generalize hP : inL path s = p2 at *
        generalize F.T.tgt dir s = id at *
        generalize hL : filesL F.T n id p2 = sub at *
        clear hP hL hnd hidx hrc hE hsl hrB hwl hnb hcnt hk'
        obtain ⟨cnt, hcn⟩ : ∃ cnt, cnt = m + ((names.take k).flatMap f).length := ⟨_, rfl⟩
        obtain ⟨acc, hacc⟩ : ∃ acc, acc = xs ++ fcells ((names.take k).flatMap f) := ⟨_, rfl⟩
        have HCN := Lib.hid hcn
        have HACC := Lib.hid hacc
        rw [← hcn] at hsum
        rw [← hcn, ← hacc] at HR
        have hm1 : cnt + 1 ≤ maxLen := by have : 1 ≤ (f s).length := by rw [hfs]; simp
                                          unfold maxLen; omega
        have hb16 : (cnt + 1) * 40 ≤ 140737488355328 := by have : 1 ≤ (f s).length := by rw [hfs]; simp
                                                           omega
        have HSUM := Lib.hid hsum
        have HFS := Lib.hid hfs
        clear hcn hacc hsum hfs
        by_cases h12 : r.2 = 12
        · have g1 : (r.2 == 12) = true := by simpa using h12
          rw [if_pos h12, decide_eq_true h12] at HFS
          have CREC1 := Lib.hid (CREC.out h12)
          clear CREC h12
          generalize r.2 = er at *
          generalize r.1 = dt at *
          go_wp2_with (first
            | (go_at_call 48; (with_reducible refine CF.out.mono ?_); rintro e w2 ⟨rfl, hb⟩; have HB2 := Lib.hid hb; clear hb)
            | (go_at_call 56; (with_reducible refine (CR.out _ HB2.out).mono ?_); rintro e w3 ⟨rfl, hb⟩; have HB3 := Lib.hid (HB2.out.trans (hb.mono HB2.out.size)); obtain ⟨W4, hW4, j0, j1, j2, hsw, ho4⟩ := file_new (x0 := .string (bs p2)) (x1 := .bool true) (x2 := .string (bs dt)) HR.out.own HB3.out; have HSW := Lib.hid hsw; have HO4 := Lib.hid ho4; clear hb hsw ho4)
            | (go_at_call 61; (with_reducible refine (CJ.out _).mono ?_); rintro e w4 ⟨rfl, rfl⟩)
            | (at_builtin; refine wpList_append_own_at _ rfl _ _ 47 rfl w0.heap.size 56 i0 (.agg #[.string ⟨#[]⟩, .bool false, .string ⟨#[]⟩]) 3 40 Tryz.underlying47 hi hz0 hz1 hz2 rfl (by decide) _ _ _ rfl (HO4.out.alloc _) ⟨W4.heap.size, 0, none⟩ 1 1 [.string (bs p2), .bool true, .string (bs dt)] rfl rfl (World.news_of_block (cs := #[.string (bs p2), .bool true, .string (bs dt)]) (t := 56) (fr := (0, 0)) (heap_alloc_new W4 _)) (by simp [Value.oneCell']) hm1 hb16 (by have := HSW.out; have := HB3.out.size; have := HRB.out.size; simp; omega) ?_; intro v' W6 hown' hgrow _ hat2; obtain ⟨j0', j1'⟩ := cell_grown HR.out.own HB3.out hW4 hgrow; have HRW := Lib.hid (Rw.appended HR.out.own HB3.out hW4 hown' hgrow hat2); clear hown' hgrow hat2)
            | (go_at_call 33; (with_reducible refine (CREC1.out _ _ _ _ (by have := HSUM.out; rw [HFS.out] at this; simp only [List.length_cons] at this; omega) (HRW.out.below HR.out.own HRB.out HRB.out.size) HRW.out.own).mono ?_); rintro e w9 ⟨v9, rfl, h9⟩; have HR9 := Lib.hid h9; clear h9))
          go_roundw
          case rel =>
            refine ⟨k + 1, v9, by go_num, rfl, by omega, ?_⟩
            have e : (names.take (k + 1)).flatMap f = (names.take k).flatMap f ++ f s := by rw [HFK.out, List.flatMap_append]; simp
            rw [e, HFS.out, List.length_append, fcells_app, ← List.append_assoc, ← HACC.out, ← Nat.add_assoc, ← HCN.out]
            have h9 := HR.out.trans (HRW.out.trans HR9.out)
            have e1 : cnt + 1 + sub.length = cnt + ((p2, true, dt) :: sub).length := by simp; omega
            have e2 : acc ++ [.string (bs p2), .bool true, .string (bs dt)] ++ fcells sub = acc ++ fcells ((p2, true, dt) :: sub) := by rw [List.append_assoc]; rfl
            rw [e1, e2] at h9
            exact Lib.hid h9
          case measure => simp [intOf]; omega
        · have g1 : (r.2 == 12) = false := by simpa using h12
          rw [if_neg h12, decide_eq_false h12] at HFS
          clear CREC h12
          generalize r.2 = er at *
          generalize r.1 = dt at *
          go_wp2_with (first
            | (go_at_call 48; (with_reducible refine CF.out.mono ?_); rintro e w2 ⟨rfl, hb⟩; have HB2 := Lib.hid hb; clear hb)
            | (go_at_call 56; (with_reducible refine (CR.out _ HB2.out).mono ?_); rintro e w3 ⟨rfl, hb⟩; have HB3 := Lib.hid (HB2.out.trans (hb.mono HB2.out.size)); obtain ⟨W4, hW4, j0, j1, j2, hsw, ho4⟩ := file_new (x0 := .string (bs p2)) (x1 := .bool false) (x2 := .string (bs dt)) HR.out.own HB3.out; have HSW := Lib.hid hsw; have HO4 := Lib.hid ho4; clear hb hsw ho4)
            | (go_at_call 61; (with_reducible refine (CJ.out _).mono ?_); rintro e w4 ⟨rfl, rfl⟩)
            | (at_builtin; refine wpList_append_own_at _ rfl _ _ 47 rfl w0.heap.size 56 i0 (.agg #[.string ⟨#[]⟩, .bool false, .string ⟨#[]⟩]) 3 40 Tryz.underlying47 hi hz0 hz1 hz2 rfl (by decide) _ _ _ rfl (HO4.out.alloc _) ⟨W4.heap.size, 0, none⟩ 1 1 [.string (bs p2), .bool false, .string (bs dt)] rfl rfl (World.news_of_block (cs := #[.string (bs p2), .bool false, .string (bs dt)]) (t := 56) (fr := (0, 0)) (heap_alloc_new W4 _)) (by simp [Value.oneCell']) hm1 hb16 (by have := HSW.out; have := HB3.out.size; have := HRB.out.size; simp; omega) ?_; intro v' W6 hown' hgrow _ hat2; obtain ⟨j0', j1'⟩ := cell_grown HR.out.own HB3.out hW4 hgrow; have HRW := Lib.hid (Rw.appended HR.out.own HB3.out hW4 hown' hgrow hat2); clear hown' hgrow hat2))
          go_roundw
          case rel =>
            refine ⟨k + 1, v', by go_num, rfl, by omega, ?_⟩
            have e : (names.take (k + 1)).flatMap f = (names.take k).flatMap f ++ f s := by rw [HFK.out, List.flatMap_append]; simp
            rw [e, HFS.out, List.length_append, fcells_app, ← List.append_assoc, ← HACC.out, ← Nat.add_assoc, ← HCN.out]
            exact Lib.hid (HR.out.trans HRW.out)
          case measure => simp [intOf]; omega
      · obtain rfl : k = q := by omega
        have HT : Hid (names.take k = names) := by show _ = _; rw [List.take_of_length_le (by rw [HQ.out]; exact Nat.le_refl _)]
        rw [HT.out] at HR
        go_wp2_with fail
        go_ret
        exact ⟨_, rfl, (Rw.of_below HOWN.out HB1.out).trans HR.out⟩
end Go.Proofs.YtagdhghjcibfbaaGreatDoor

namespace Go.Proofs.YtagdhghjcibfbaaGreatDoor
open Go.RowKit
set_option linter.unusedVariables false
set_option linter.unusedSectionVars false
set_option maxRecDepth 100000

theorem fs_files {w : World} {fb t hb : Nat} {F : Fs} {S : Nat → Prop} {N : Nat} (h : FsAt w fb t hb F S N) (hN : N < 999999000) (n : Nat) (hn : n ≤ 4096) (hD : Dp F.T n 1) (hl : (filesL F.T n 1 []).length ≤ 1000000000000) :
    Calls Tryz.prog 13 #[.pointer (some ⟨fb, 0, none⟩)] w fun e w' => ∃ v, e = .returned v ∧ Below w.heap.size w w' ∧ w'.ownsRow w.heap.size 56 3 v (filesL F.T n 1 []).length (fcells (filesL F.T n 1 [])) := by
  have CM := Lib.hid (made_any h.fs)
  have c0 : w.cell? ⟨fb, 0, none⟩ = some (.pointer (some ⟨t, 0, none⟩)) := h.fs.c0
  have hz : w.ownsRow w.heap.size 56 3 (.slice none 0 0) 0 [] := ⟨rfl, .inl ⟨rfl, rfl⟩⟩
  have CA := Lib.hid (af_any h hN n 1 [] hD (by unfold InI; omega) (by simp; omega) 0 [] (.slice none 0 0) (by omega) w (Below.refl _ _) hz)
  have HZ := Lib.hid hz
  rw [Nat.zero_add, List.nil_append] at CA
  have CA2 : Hid (Calls Tryz.prog 33 #[.slice none 0 0, .pointer (some ⟨t, 0, none⟩), .int .i64 1, .string ⟨#[]⟩] w fun e w' => ∃ v', e = .returned v' ∧ Rw w.heap.size w w' (.slice none 0 0) v' (filesL F.T n 1 []).length (fcells (filesL F.T n 1 []))) := CA
  generalize filesL F.T n 1 [] = l at *
  clear h hD hz hn hN CA
  go_enter Tryz.func13, Tryz.ntmps13
  go_wp2_with (first
    | (go_at_call 17; (with_reducible refine CM.out.mono ?_); rintro e w1 ⟨rfl, hw⟩; obtain rfl : w = w1 := hw.symm; clear hw)
    | (go_at_call 33; (with_reducible refine CA2.out.mono ?_); rintro e w2 ⟨v, rfl, h2⟩; have H2 := Lib.hid h2; clear h2))
  go_ret
  exact ⟨v, rfl, H2.out.below HZ.out (Below.refl _ _) (Nat.le_refl _), H2.out.own⟩

/-! ### A law's state -/
structure Res4 where
  b : Nat
  x0 : Value
  x1 : Value
  x2 : Value
  x3 : Value
structure LS (w0 : World) (fb t hb : Nat) (F : Fs) (N : Nat) (L : List Res4) (w : World) : Prop where
  st : FsSt w0 fb t hb F N (L.map (·.b)) w
  rs : ∀ r ∈ L, RS w r.b r.x0 r.x1 r.x2 r.x3
section
variable {w0 w w' : World} {fb t hb : Nat} {F : Fs} {N : Nat} {L : List Res4} (h : LS w0 fb t hb F N L w)
include h
theorem LS.lt : ∀ k ∈ L.map (·.b), k < w.heap.size := fun k hk => by
  obtain ⟨r, hr, rfl⟩ := List.mem_map.1 hk
  exact (h.rs r hr).lt
theorem LS.below (b : Below w.heap.size w w') : LS w0 fb t hb F N L w' := ⟨h.st.below b, fun r hr => (h.rs r hr).below b⟩
theorem LS.new (x0 x1 x2 x3 : Value) : ∃ W, w.alloc (.cells #[x0, x1, x2, x3] 31) = W ∧ LS w0 fb t hb F N (⟨w.heap.size, x0, x1, x2, x3⟩ :: L) W :=
  ⟨_, rfl, h.st.new _, fun r hr => by
    rcases List.mem_cons.1 hr with rfl | hr
    · exact (MapKept.heap_alloc w _).1
    · exact (h.rs r hr).below ((Below.refl _ _).alloc (Nat.le_refl _) _)⟩
theorem LS.sub {L' : List Res4} (hs : ∀ r ∈ L', r ∈ L) : LS w0 fb t hb F N L' w := by
  obtain ⟨⟨⟨S, h1, h2, h3⟩, h4⟩, h5⟩ := h
  refine ⟨⟨⟨S, h1, h2, fun k hk => ?_⟩, h4⟩, fun r hr => h5 r (hs r hr)⟩
  obtain ⟨r, hr, rfl⟩ := List.mem_map.1 hk
  exact h3 _ (List.mem_map.2 ⟨r, hs r hr, rfl⟩)
theorem ls_do (hN : N < 999999000) {o : Int} (ho : InI o) (op : OpT) (ok : OpOk op) :
    Calls Tryz.prog 9 #[.pointer (some ⟨fb, 0, none⟩), .int .i64 o, opV op] w fun e w' => ∃ a n c, e = .returned (.agg #[.int .i64 (F.step o op).2.err, .int .i64 (F.step o op).2.n, .string (bs (F.step o op).2.data), .slice a n c]) ∧ LS w0 fb t hb (F.step o op).1 (N + 3) L w' :=
  (st_do h.st hN ho op ok h.lt).mono fun e w' ⟨a, n, c, he, _, h1, h2, h3⟩ => ⟨a, n, c, he, h1, fun r hr => (h2 _ (List.mem_map.2 ⟨r, hr, rfl⟩)).trans (h.rs r hr)⟩
theorem ls_exit (hN : N < 999998000) {o : Int} (ho : InI o) :
    Calls Tryz.prog 10 #[.pointer (some ⟨fb, 0, none⟩), .int .i64 o] w fun e w' => e = .returned (.tuple #[]) ∧ LS w0 fb t hb (F.exit o) (N + 16) L w' :=
  (st_exit h.st hN ho h.lt).mono fun e w' ⟨he, h1, h2, h3⟩ => ⟨he, h1, fun r hr => (h2 _ (List.mem_map.2 ⟨r, hr, rfl⟩)).trans (h.rs r hr)⟩
theorem ls_used : Calls Tryz.prog 11 #[.pointer (some ⟨fb, 0, none⟩)] w fun e w' => e = .returned (.int .i64 F.T.used) ∧ w' = w := st_used h.st
theorem ls_files (hN : N < 999999000) (n : Nat) (hn : n ≤ 4096) (hD : Dp F.T n 1) (hl : (filesL F.T n 1 []).length ≤ 1000000000000) :
    Calls Tryz.prog 13 #[.pointer (some ⟨fb, 0, none⟩)] w fun e w' => ∃ v, e = .returned v ∧ w'.ownsRow w.heap.size 56 3 v (filesL F.T n 1 []).length (fcells (filesL F.T n 1 [])) ∧ LS w0 fb t hb F N L w' := by
  obtain ⟨S, h1, h2, h3⟩ := h.st.ex
  exact (fs_files h1 hN n hn hD hl).mono fun e w' ⟨v, he, hb, ho⟩ => ⟨v, he, ho, h.below hb⟩
end
theorem ls_new (q : Int) (h1 : 64 ≤ q) (h2 : q ≤ 1099511627776) (w : World) (hm : MaxOK w) :
    Calls Tryz.prog 6 #[.int .i64 q] w fun e w' => ∃ fb t hb, e = .returned (.tuple #[.pointer (some ⟨fb, 0, none⟩), .int .i64 0]) ∧ LS w fb t hb ⟨Tb.fresh q, []⟩ 0 [] w' :=
  (st_new q h1 h2 w hm).mono fun e w' ⟨fb, t, hb, he, ha⟩ => ⟨fb, t, hb, he, ha, fun r hr => by cases hr⟩

/-! ### awake -/
def gO1 : OpT := ⟨3, [97], [], 0, 0, 0, [], 0, 0⟩
def gO2 : OpT := ⟨7, [], [], 1, 0, 0, [120, 121], 0, 0⟩
def gO3 : OpT := ⟨11, [97], [], 0, 0, 0, [], 0, 0⟩
def gO4 : OpT := ⟨6, [], [], 1, 1, 9, [], 0, 0⟩
def gO5 : OpT := ⟨6, [], [], 1, 0, 1, [], 0, 0⟩
def gO6 : OpT := ⟨1, [100], [], 0, 0, 0, [], 0, 0⟩
def gF0 : Fs := ⟨Tb.fresh 4096, []⟩
def gF1 : Fs := (gF0.step 1 gO1).1
def gF2 : Fs := (gF1.step 1 gO2).1
def gF3 : Fs := (gF2.step 1 gO3).1
def gF4 : Fs := (gF3.step 1 gO4).1
def gF5 : Fs := (gF4.step 2 gO5).1
def gF6 : Fs := (gF5.step 2 gO6).1
theorem gR1 : (gF0.step 1 gO1).2 = ⟨0, 1, [], []⟩ := by kernel_rfl
theorem gR2 : (gF1.step 1 gO2).2 = ⟨0, 0, [], []⟩ := by kernel_rfl
theorem gR3 : (gF2.step 1 gO3).2 = ⟨0, 0, [], []⟩ := by kernel_rfl
theorem gR4 : (gF3.step 1 gO4).2 = ⟨0, 0, [121], []⟩ := by kernel_rfl
theorem gR5 : (gF4.step 2 gO5).2 = ⟨13, 0, [], []⟩ := by kernel_rfl
theorem gR6 : (gF5.step 2 gO6).2 = ⟨0, 0, [], []⟩ := by kernel_rfl
theorem gFl : filesL gF6.T 2 1 [] = [([100], true, [])] := by kernel_rfl
theorem gUs : gF6.T.used = 194 := by kernel_rfl
theorem gK1 : gF6.T.kindE 1 true = 0 := by kernel_rfl
theorem gN1 : (gF6.T.nd 1).names.map (·.1) = [[100]] := by kernel_rfl
theorem gT1 : gF6.T.tgt 1 [100] = 3 := by kernel_rfl
theorem gK3 : gF6.T.kindE 3 true = 0 := by kernel_rfl
theorem gN3 : (gF6.T.nd 3).names.map (·.1) = [] := by kernel_rfl
theorem gDp : Dp gF6.T 2 1 := by
  refine ⟨gK1, fun s hs _ => ?_⟩
  rw [gN1] at hs
  obtain rfl : s = [100] := by simpa using hs
  rw [gT1]
  refine ⟨gK3, fun s hs => ?_⟩
  rw [gN3] at hs
  cases hs
end Go.Proofs.YtagdhghjcibfbaaGreatDoor

namespace Go.Proofs.YtagdhghjcibfbaaGreatDoor
open Go.RowKit
set_option linter.unusedVariables false
set_option linter.unusedSectionVars false
set_option maxRecDepth 100000

def r8 (k : Int) : List Int := [k, 0, 0, 0, 0, 0, 0, 0]
def oCr (p : List UInt8) : OpT := ⟨3, p, [], 0, 0, 0, [], 0, 0⟩
def oWr (d : List UInt8) : OpT := ⟨7, [], [], 1, 0, 0, d, 0, 0⟩
def oCl : OpT := ⟨5, [], [], 1, 0, 0, [], 0, 0⟩
def oOp (p : List UInt8) : OpT := ⟨4, p, [], 0, 0, 0, [], 0, 0⟩
def oRn (p q : List UInt8) : OpT := ⟨12, p, q, 0, 0, 0, [], 0, 0⟩
def oRd (n : Int) : OpT := ⟨6, [], [], 1, 0, n, [], 0, 0⟩
/-- One file. -/
def xA (u : Int) (a : List UInt8) (h2 : Int) (H : List (Int × List Int)) : Fs := ⟨⟨1048576, u, 2, [(1, ⟨true, 1, 0, [], [([120], 2)]⟩), (2, ⟨false, 1, h2, a, []⟩)]⟩, H⟩
/-- Two files. -/
def xB (u : Int) (a b : List UInt8) (l2 h2 h3 : Int) (names : List (List UInt8 × Int)) (H : List (Int × List Int)) : Fs :=
  ⟨⟨1048576, u, 3, [(1, ⟨true, 1, 0, [], names⟩), (2, ⟨false, l2, h2, a, []⟩), (3, ⟨false, 1, h3, b, []⟩)]⟩, H⟩
/-- The second one alone. -/
def xC (u : Int) (b : List UInt8) (H : List (Int × List Int)) : Fs := ⟨⟨1048576, u, 3, [(1, ⟨true, 1, 0, [], [([120], 3)]⟩), (3, ⟨false, 1, 1, b, []⟩)]⟩, H⟩
def x0 : Fs := ⟨Tb.fresh 1048576, []⟩
theorem xs1 : x0.step 1 (oCr [120]) = (xA 128 [] 1 [(1, r8 2)], ⟨0, 1, [], []⟩) := by kernel_rfl
theorem data_first (s : List UInt8) : firstL [] (0 : Int).toNat ++ s ++ ([] : List UInt8).drop ((0 : Int).toNat + s.length) = s := by simp [firstL]
theorem xs2 (a : List UInt8) (ha : a.length ≤ 256) : (xA 128 [] 1 [(1, r8 2)]).step 1 (oWr a) = (xA (128 + a.length) a 1 [(1, r8 2)], ⟨0, 0, [], []⟩) := by
  have e1 : (xA 128 [] 1 [(1, r8 2)]).T.writeE 2 0 a = 0 := by
    unfold Tb.writeE
    rw [if_pos (show (xA 128 [] 1 [(1, r8 2)]).T.fileE 2 0 = 0 from rfl), if_neg (by omega)]
    split
    · rfl
    · have : (xA 128 [] 1 [(1, r8 2)]).T.fitsB 2 (0 + a.length) = true := by
        show decide ((0 + (a.length : Int)) - ((0 : Nat) : Int) ≤ 1048576 - 128) = true
        exact decide_eq_true (by omega)
      rw [if_pos this]
  have e2 : (xA 128 [] 1 [(1, r8 2)]).T.step (aWrite 2 0 a) = ((xA (128 + a.length) a 1 [(1, r8 2)]).T, 0, [], 0) := by
    show ((if (xA 128 [] 1 [(1, r8 2)]).T.writeE 2 0 a = 0 then (xA 128 [] 1 [(1, r8 2)]).T.write 2 0 a else (xA 128 [] 1 [(1, r8 2)]).T), (0 : Int), ([] : List UInt8), (xA 128 [] 1 [(1, r8 2)]).T.writeE 2 0 a) = _
    rw [e1, if_pos rfl]
    congr 1
    unfold Tb.write
    by_cases h : a = []
    · rw [if_pos h, h]; rfl
    · rw [if_neg h]
      have e2 : firstL ((xA 128 [] 1 [(1, r8 2)]).T.nd 2).data (0 : Int).toNat ++ a ++ ((xA 128 [] 1 [(1, r8 2)]).T.nd 2).data.drop ((0 : Int).toNat + a.length) = a := data_first a
      rw [e2]
      show (⟨1048576, 128 + ((a.length : Int) - ((0 : Nat) : Int)), 2, _⟩ : Tb) = ⟨1048576, 128 + a.length, 2, _⟩
      rw [show (128 : Int) + ((a.length : Int) - ((0 : Nat) : Int)) = 128 + a.length by omega]
      rfl
  have e3 : (xA 128 [] 1 [(1, r8 2)]).step 1 (oWr a) = (⟨((xA 128 [] 1 [(1, r8 2)]).T.step (aWrite 2 0 a)).1, [(1, r8 2)]⟩, errR ((xA 128 [] 1 [(1, r8 2)]).T.step (aWrite 2 0 a)).2.2.2) := rfl
  rw [e3, e2]
  rfl
theorem xs3 (u : Int) (a : List UInt8) : (xA u a 1 [(1, r8 2)]).step 1 oCl = (xA u a 0 [], ⟨0, 0, [], []⟩) := rfl
theorem xs4 (u : Int) (hu : u ≤ 1000000) (a : List UInt8) : (xA u a 0 []).step 1 (oCr [121]) = (xB (u + 64) a [] 1 0 1 [([120], 2), ([121], 3)] [(1, r8 3)], ⟨0, 1, [], []⟩) := by
  have e1 : (xA u a 0 []).T.mkE 1 [121] = 0 := by
    show (if (4096 : Int) ≤ 2 then 5 else if 64 > 1048576 - u then 6 else 0) = (0 : Int)
    rw [if_neg (by omega), if_neg (by omega)]
  have e2 : (xA u a 0 []).T.step (aMake 1 [121] false) = ((xB (u + 64) a [] 1 0 0 [([120], 2), ([121], 3)] []).T, 3, [], 0) := by
    show ((if (xA u a 0 []).T.mkE 1 [121] = 0 then (xA u a 0 []).T.make 1 [121] false else (xA u a 0 []).T), (if (xA u a 0 []).T.mkE 1 [121] = 0 then (xA u a 0 []).T.last + 1 else 0), ([] : List UInt8), (xA u a 0 []).T.mkE 1 [121]) = _
    rw [e1, if_pos rfl, if_pos rfl]
    rfl
  have e3 : (xA u a 0 []).T.create [121] false = (((xA u a 0 []).T.step (aMake 1 [121] false)).1, ((xA u a 0 []).T.step (aMake 1 [121] false)).2.1, ((xA u a 0 []).T.step (aMake 1 [121] false)).2.2.2) := rfl
  rw [e2] at e3
  have e4 : (xA u a 0 []).step 1 (oCr [121]) = (((xA u a 0 []).open_ 1 ((xA u a 0 []).T.create [121] false)).1, ⟨((xA u a 0 []).open_ 1 ((xA u a 0 []).T.create [121] false)).2.2, ((xA u a 0 []).open_ 1 ((xA u a 0 []).T.create [121] false)).2.1, [], []⟩) := rfl
  rw [e4, e3]
  rfl
theorem xs5 (u : Int) (hu : u ≤ 1000000) (a b : List UInt8) (hb : b.length ≤ 256) : (xB u a [] 1 0 1 [([120], 2), ([121], 3)] [(1, r8 3)]).step 1 (oWr b) = (xB (u + b.length) a b 1 0 1 [([120], 2), ([121], 3)] [(1, r8 3)], ⟨0, 0, [], []⟩) := by
  obtain ⟨X, hX⟩ : ∃ X, X = xB u a [] 1 0 1 [([120], 2), ([121], 3)] [(1, r8 3)] := ⟨_, rfl⟩
  have e1 : X.T.writeE 3 0 b = 0 := by
    subst hX
    unfold Tb.writeE
    rw [if_pos (show (xB u a [] 1 0 1 [([120], 2), ([121], 3)] [(1, r8 3)]).T.fileE 3 0 = 0 from rfl), if_neg (by omega)]
    split
    · rfl
    · have : (xB u a [] 1 0 1 [([120], 2), ([121], 3)] [(1, r8 3)]).T.fitsB 3 (0 + b.length) = true := by
        show decide ((0 + (b.length : Int)) - ((0 : Nat) : Int) ≤ 1048576 - u) = true
        exact decide_eq_true (by omega)
      rw [if_pos this]
  have e2 : X.T.step (aWrite 3 0 b) = ((xB (u + b.length) a b 1 0 1 [([120], 2), ([121], 3)] [(1, r8 3)]).T, 0, [], 0) := by
    show ((if X.T.writeE 3 0 b = 0 then X.T.write 3 0 b else X.T), (0 : Int), ([] : List UInt8), X.T.writeE 3 0 b) = _
    rw [e1, if_pos rfl]
    congr 1
    subst hX
    unfold Tb.write
    by_cases h : b = []
    · rw [if_pos h, h, show u + (([] : List UInt8).length : Int) = u by simp]
    · rw [if_neg h]
      have e2 : firstL ((xB u a [] 1 0 1 [([120], 2), ([121], 3)] [(1, r8 3)]).T.nd 3).data (0 : Int).toNat ++ b ++ ((xB u a [] 1 0 1 [([120], 2), ([121], 3)] [(1, r8 3)]).T.nd 3).data.drop ((0 : Int).toNat + b.length) = b := data_first b
      rw [e2]
      show (⟨1048576, u + ((b.length : Int) - ((0 : Nat) : Int)), 3, _⟩ : Tb) = ⟨1048576, u + b.length, 3, _⟩
      rw [show u + ((b.length : Int) - ((0 : Nat) : Int)) = u + b.length by omega]
      rfl
  have e3 : X.step 1 (oWr b) = (⟨(X.T.step (aWrite 3 0 b)).1, [(1, r8 3)]⟩, errR (X.T.step (aWrite 3 0 b)).2.2.2) := by subst hX; rfl
  rw [← hX, e3, e2]
  rfl
theorem xs6 (u : Int) (a b : List UInt8) : (xB u a b 1 0 1 [([120], 2), ([121], 3)] [(1, r8 3)]).step 1 oCl = (xB u a b 1 0 0 [([120], 2), ([121], 3)] [], ⟨0, 0, [], []⟩) := rfl
theorem xs7 (u : Int) (a b : List UInt8) : (xB u a b 1 0 0 [([120], 2), ([121], 3)] []).step 2 (oOp [120]) = (xB u a b 1 1 0 [([120], 2), ([121], 3)] [(2, r8 2)], ⟨0, 1, [], []⟩) := rfl
theorem xs8 (u : Int) (a b : List UInt8) : (xB u a b 1 1 0 [([120], 2), ([121], 3)] [(2, r8 2)]).step 1 (oRn [121] [120]) = (xB u a b 0 1 0 [([120], 3)] [(2, r8 2)], ⟨0, 0, [], []⟩) := rfl
theorem xs9 (u : Int) (a b : List UInt8) : (xB u a b 0 1 0 [([120], 3)] [(2, r8 2)]).step 3 (oOp [120]) = (xB u a b 0 1 1 [([120], 3)] [(2, r8 2), (3, r8 3)], ⟨0, 1, [], []⟩) := rfl
theorem xs10 (u : Int) (a b : List UInt8) : (xB u a b 0 1 1 [([120], 3)] [(2, r8 2), (3, r8 3)]).step 3 (oOp [121]) = (xB u a b 0 1 1 [([120], 3)] [(2, r8 2), (3, r8 3)], ⟨3, 0, [], []⟩) := rfl
theorem read_all (d : List UInt8) (hd : d.length ≤ 256) : readL d 0 1024 = d := by
  unfold readL
  rw [show (min (0 : Int) (d.length : Int)).toNat = 0 by omega, List.drop_zero, List.take_of_length_le (by show d.length ≤ 1024; omega)]
theorem xs11 (u : Int) (a b : List UInt8) (ha : a.length ≤ 256) : (xB u a b 0 1 1 [([120], 3)] [(2, r8 2), (3, r8 3)]).step 2 (oRd 1024) = (xB u a b 0 1 1 [([120], 3)] [(2, r8 2), (3, r8 3)], ⟨0, 0, a, []⟩) := by
  have e : (xB u a b 0 1 1 [([120], 3)] [(2, r8 2), (3, r8 3)]).step 2 (oRd 1024) = (xB u a b 0 1 1 [([120], 3)] [(2, r8 2), (3, r8 3)], ⟨0, 0, readL a 0 1024, []⟩) := rfl
  rw [e, read_all a ha]
theorem xs12 (u : Int) (a b : List UInt8) (hb : b.length ≤ 256) : (xB u a b 0 1 1 [([120], 3)] [(2, r8 2), (3, r8 3)]).step 3 (oRd 1024) = (xB u a b 0 1 1 [([120], 3)] [(2, r8 2), (3, r8 3)], ⟨0, 0, b, []⟩) := by
  have e : (xB u a b 0 1 1 [([120], 3)] [(2, r8 2), (3, r8 3)]).step 3 (oRd 1024) = (xB u a b 0 1 1 [([120], 3)] [(2, r8 2), (3, r8 3)], ⟨0, 0, readL b 0 1024, []⟩) := rfl
  rw [e, read_all b hb]
theorem xs13 (u : Int) (a b : List UInt8) : (xB u a b 0 1 1 [([120], 3)] [(2, r8 2), (3, r8 3)]).exit 2 = xC (u - (64 + a.length)) b [(3, r8 3)] := rfl
theorem field0 (y0 y1 y2 y3 : Value) (w0 : World) : (Instr.field 31 (.agg #[y0, y1, y2, y3]) 0).run Tryz.prog w0 = .ok y0 w0 := by kernel_rfl
theorem ok_cr (p : List UInt8) (hp : p.length ≤ 1048576) : OpOk (oCr p) := ⟨by show InI 3; unfold InI; omega, hp, by show 0 ≤ 1048576; omega, by show InI 0; unfold InI; omega, by show InI 0; unfold InI; omega, by show InI 0; unfold InI; omega, by show 0 ≤ 140737488355328; omega⟩
theorem ok_wr (d : List UInt8) (hd : d.length ≤ 256) : OpOk (oWr d) := ⟨by show InI 7; unfold InI; omega, by show 0 ≤ 1048576; omega, by show 0 ≤ 1048576; omega, by show InI 1; unfold InI; omega, by show InI 0; unfold InI; omega, by show InI 0; unfold InI; omega, by show d.length ≤ 140737488355328; omega⟩
theorem ok_cl : OpOk oCl := ⟨by show InI 5; unfold InI; omega, by show 0 ≤ 1048576; omega, by show 0 ≤ 1048576; omega, by show InI 1; unfold InI; omega, by show InI 0; unfold InI; omega, by show InI 0; unfold InI; omega, by show 0 ≤ 140737488355328; omega⟩
theorem ok_op (p : List UInt8) (hp : p.length ≤ 1048576) : OpOk (oOp p) := ⟨by show InI 4; unfold InI; omega, hp, by show 0 ≤ 1048576; omega, by show InI 0; unfold InI; omega, by show InI 0; unfold InI; omega, by show InI 0; unfold InI; omega, by show 0 ≤ 140737488355328; omega⟩
theorem ok_rn (p q : List UInt8) (hp : p.length ≤ 1048576) (hq : q.length ≤ 1048576) : OpOk (oRn p q) := ⟨by show InI 12; unfold InI; omega, hp, hq, by show InI 0; unfold InI; omega, by show InI 0; unfold InI; omega, by show InI 0; unfold InI; omega, by show 0 ≤ 140737488355328; omega⟩
theorem ok_rd (n : Int) (hn : InI n) : OpOk (oRd n) := ⟨by show InI 6; unfold InI; omega, by show 0 ≤ 1048576; omega, by show 0 ≤ 1048576; omega, by show InI 1; unfold InI; omega, by show InI 0; unfold InI; omega, hn, by show 0 ≤ 140737488355328; omega⟩
end Go.Proofs.YtagdhghjcibfbaaGreatDoor

namespace Go.Proofs.YtagdhghjcibfbaaGreatDoor
open Go.RowKit
set_option linter.unusedVariables false
set_option linter.unusedSectionVars false
set_option maxRecDepth 100000

structure FAct where
  owner : Int
  out : Bool
  op : OpT
/-- An act's cells. -/
structure FActAt (w : World) (b p : Nat) (a : FAct) : Prop where
  c0 : w.cell? ⟨b, p, none⟩ = some (.int .i64 a.owner)
  c1 : w.cell? ⟨b, p + 1, none⟩ = some (.bool a.out)
  c2 : w.cell? ⟨b, p + 2, none⟩ = some (.int .i64 a.op.kind)
  c3 : w.cell? ⟨b, p + 3, none⟩ = some (.string (bs a.op.path))
  c4 : w.cell? ⟨b, p + 4, none⟩ = some (.string (bs a.op.dst))
  c5 : w.cell? ⟨b, p + 5, none⟩ = some (.int .i64 a.op.h)
  c6 : w.cell? ⟨b, p + 6, none⟩ = some (.int .i64 a.op.at_)
  c7 : w.cell? ⟨b, p + 7, none⟩ = some (.int .i64 a.op.n)
  c8 : w.cell? ⟨b, p + 8, none⟩ = some (.string (bs a.op.data))
  c9 : w.cell? ⟨b, p + 9, none⟩ = some (.int .i64 a.op.pid)
  c10 : w.cell? ⟨b, p + 10, none⟩ = some (.int .i64 a.op.birth)
theorem FActAt.below {w w' : World} {b p : Nat} {a : FAct} (h : FActAt w b p a) {B : Nat} (hb : Below B w w') (hlt : b < B) : FActAt w' b p a :=
  ⟨(hb.cell hlt).trans h.c0, (hb.cell hlt).trans h.c1, (hb.cell hlt).trans h.c2, (hb.cell hlt).trans h.c3, (hb.cell hlt).trans h.c4, (hb.cell hlt).trans h.c5, (hb.cell hlt).trans h.c6, (hb.cell hlt).trans h.c7, (hb.cell hlt).trans h.c8, (hb.cell hlt).trans h.c9, (hb.cell hlt).trans h.c10⟩
def FActsAt (w : World) (a : Option Addr) (l : List FAct) : Prop := l = [] ∨ ∃ b o, a = some ⟨b, o, none⟩ ∧ b < w.heap.size ∧ ∀ (j : Nat) (h : j < l.length), FActAt w b (o + j * 11) l[j]
theorem FActsAt.below {w w' : World} {a : Option Addr} {l : List FAct} (h : FActsAt w a l) (hb : Below w.heap.size w w') : FActsAt w' a l := by
  rcases h with h | ⟨b, o, h1, h2, h3⟩
  · exact .inl h
  · exact .inr ⟨b, o, h1, Nat.lt_of_lt_of_le h2 hb.size, fun j hj => (h3 j hj).below hb h2⟩
/-- Its numbers are a machine's. -/
structure FActIn (a : FAct) : Prop where
  owner : InI a.owner
  kind : InI a.op.kind
  h : InI a.op.h
  at_ : InI a.op.at_
  n : InI a.op.n
def fFine (a : FAct) : Bool := decide (a.op.path.length ≤ 200) && decide (a.op.dst.length ≤ 200) && decide (a.op.data.length ≤ 200) && !(decide (4096 < a.op.at_) && decide (a.op.at_ ≤ 1048576)) && !(decide (4096 < a.op.n) && decide (a.op.n ≤ 1048576))
def fSmall (l : List FAct) (most : Nat) : Bool := (l.take most).all fFine && decide (l.length ≤ most)
theorem FActIn.ok {a : FAct} (h : FActIn a) (hf : fFine a = true) : OpOk a.op := by
  unfold fFine at hf
  simp only [Bool.and_eq_true, decide_eq_true_eq] at hf
  obtain ⟨⟨⟨⟨h1, h2⟩, h3⟩, _⟩, _⟩ := hf
  exact ⟨h.kind, by omega, by omega, h.h, h.at_, h.n, by omega⟩
theorem fsmall_fine {l : List FAct} {most : Nat} (h : fSmall l most = true) : ∀ x ∈ l, fFine x = true := fun x hx => by
  unfold fSmall at h
  simp only [Bool.and_eq_true, decide_eq_true_eq] at h
  have h1 := h.1
  rw [List.take_of_length_le h.2, List.all_eq_true] at h1
  exact h1 x hx
theorem ftake_snoc (l : List FAct) (k : Nat) (h : k < l.length) : (l.take (k + 1)).all fFine = ((l.take k).all fFine && fFine l[k]) := by
  rw [List.take_succ_eq_append_getElem h, List.all_append]; simp
theorem fsmall_bad {l : List FAct} {most k : Nat} (hk : k < l.length) (hm : k < most) (h : fFine l[k] = false) : fSmall l most = false := by
  unfold fSmall
  have : (l.take most).all fFine = false := by
    rw [List.all_eq_false]
    refine ⟨l[k], ?_, by rw [h]; decide⟩
    rw [List.mem_take_iff_getElem]
    exact ⟨k, by omega, rfl⟩
  rw [this]; rfl
set_option maxHeartbeats 4000000 in
theorem fsmall_any (a : Option Addr) (l : List FAct) (c : Nat) (w : World) (hA : FActsAt w a l) (hl : l.length ≤ 9223372036854775807) (most : Nat) (hm : most ≤ 1000) :
    Calls Tryz.prog 7 #[.slice a l.length c, .int .i64 most] w fun e w' => e = .returned (.bool (fSmall l most)) ∧ Below w.heap.size w w' := by
  have HA := Lib.hid hA
  clear hA
  obtain ⟨n, hnn⟩ : ∃ n, n = l.length := ⟨_, rfl⟩
  rw [← hnn] at hl ⊢
  have HN := Lib.hid hnn
  clear hnn
  go_enter Tryz.func7, Tryz.ntmps7
  go_wp2_with fail
  go_loopw [5] (fun i wr => ∃ (k : Nat), i = .int .i64 k ∧ k ≤ n ∧ k ≤ most ∧ Hid ((l.take k).all fFine = true) ∧ Hid (Below w.heap.size w wr)) (fun i _ => n - (intOf i).toNat)
  case atStart => exact ⟨0, rfl, Nat.zero_le _, Nat.zero_le _, (by show _ = _; rfl), Lib.hid (Below.refl _ _)⟩
  case round =>
    obtain ⟨k, rfl, hk, hkm, hall, HB⟩ := hrel
    by_cases hlt : k < n
    · by_cases hltm : k < most
      · rcases HA.out with e0 | ⟨b, o, rfl, hw, hc⟩
        · exact absurd hlt (by rw [HN.out, e0]; simp)
        have hk' : k < l.length := by rw [← HN.out]; exact hlt
        have hx := (hc k hk').below HB.out hw
        have BAD := Lib.hid (fun h : fFine l[k] = false => fsmall_bad (most := most) hk' hltm h)
        have GOOD : Hid (fFine l[k] = true → (l.take (k + 1)).all fFine = true) := Lib.hid (fun h => by rw [ftake_snoc l k hk', hall.out, h]; rfl)
        clear hc
        generalize l[k] = x at *
        obtain ⟨W, hW⟩ : ∃ W, wr.alloc (.cells #[.int .i64 x.op.kind, .string (bs x.op.path), .string (bs x.op.dst), .int .i64 x.op.h, .int .i64 x.op.at_, .int .i64 x.op.n, .string (bs x.op.data), .int .i64 x.op.pid, .int .i64 x.op.birth] 34) = W := ⟨_, rfl⟩
        have bx : OB W wr.heap.size x.op := by rw [← hW]; exact (MapKept.heap_alloc wr _).1
        have HBW : Hid (Below w.heap.size w W) := by rw [← hW]; exact Lib.hid (HB.out.alloc HB.out.size _)
        have c2 := hx.c2; have c3 := hx.c3; have c4 := hx.c4; have c5 := hx.c5; have c6 := hx.c6; have c7 := hx.c7; have c8 := hx.c8; have c9 := hx.c9; have c10 := hx.c10
        have d1 := bx.c1; have d2 := bx.c2; have d4 := bx.c4; have d5 := bx.c5; have d6 := bx.c6
        clear hx bx
        have s1 := bs_size x.op.path
        have s2 := bs_size x.op.dst
        have s3 := bs_size x.op.data
        have hlt' : (k : Int) < (n : Int) := by omega
        have hltm' : (k : Int) < (most : Int) := by omega
        by_cases h1 : 200 < x.op.path.length
        · have t1 : (200 : Int) < ((bs x.op.path).size : Int) := by omega
          have HF := Lib.hid (BAD.out (by unfold fFine; rw [decide_eq_false (by omega : ¬ x.op.path.length ≤ 200)]; rfl))
          clear s1 s2 s3 h1
          go_wp2_with fail
          go_ret
          exact ⟨by rw [HF.out]; rfl, HBW.out⟩
        have t1 : ((bs x.op.path).size : Int) ≤ 200 := by omega
        by_cases h2 : 200 < x.op.dst.length
        · have t2 : (200 : Int) < ((bs x.op.dst).size : Int) := by omega
          have HF := Lib.hid (BAD.out (by unfold fFine; rw [decide_eq_false (by omega : ¬ x.op.dst.length ≤ 200)]; simp))
          clear s1 s2 s3 h1 h2
          go_wp2_with fail
          go_ret
          exact ⟨by rw [HF.out]; rfl, HBW.out⟩
        have t2 : ((bs x.op.dst).size : Int) ≤ 200 := by omega
        by_cases h3 : 200 < x.op.data.length
        · have t3 : (200 : Int) < ((bs x.op.data).size : Int) := by omega
          have HF := Lib.hid (BAD.out (by unfold fFine; rw [decide_eq_false (by omega : ¬ x.op.data.length ≤ 200)]; simp))
          clear s1 s2 s3 h1 h2 h3
          go_wp2_with fail
          go_ret
          exact ⟨by rw [HF.out]; rfl, HBW.out⟩
        have t3 : ((bs x.op.data).size : Int) ≤ 200 := by omega
        by_cases h4 : 4096 < x.op.at_ ∧ x.op.at_ ≤ 1048576
        · obtain ⟨t4, t5⟩ := h4
          have HF := Lib.hid (BAD.out (by unfold fFine; rw [decide_eq_true t4, decide_eq_true t5]; simp))
          clear s1 s2 s3 h1 h2 h3
          go_wp2_with fail
          go_ret
          exact ⟨by rw [HF.out]; rfl, HBW.out⟩
        by_cases h5 : 4096 < x.op.n ∧ x.op.n ≤ 1048576
        · obtain ⟨t6, t7⟩ := h5
          have HF := Lib.hid (BAD.out (by unfold fFine; rw [decide_eq_true t6, decide_eq_true t7]; simp))
          have h4' : x.op.at_ ≤ 4096 ∨ (4096 < x.op.at_ ∧ 1048576 < x.op.at_) := by omega
          clear s1 s2 s3 h1 h2 h3 h4
          rcases h4' with t4 | ⟨t4, t5⟩
          all_goals
            go_wp2_with fail
            go_ret
            exact ⟨by rw [HF.out]; rfl, HBW.out⟩
        have HG := Lib.hid (GOOD.out (by
          unfold fFine
          rw [decide_eq_true (by omega : x.op.path.length ≤ 200), decide_eq_true (by omega : x.op.dst.length ≤ 200), decide_eq_true (by omega : x.op.data.length ≤ 200)]
          have e3 : (decide (4096 < x.op.at_) && decide (x.op.at_ ≤ 1048576)) = false := by simpa using h4
          have e4 : (decide (4096 < x.op.n) && decide (x.op.n ≤ 1048576)) = false := by simpa using h5
          rw [e3, e4]; rfl))
        have h4' : x.op.at_ ≤ 4096 ∨ (4096 < x.op.at_ ∧ 1048576 < x.op.at_) := by omega
        have h5' : x.op.n ≤ 4096 ∨ (4096 < x.op.n ∧ 1048576 < x.op.n) := by omega
        clear s1 s2 s3 h1 h2 h3 h4 h5 BAD GOOD
        rcases h4' with t4 | ⟨t4, t5⟩ <;> rcases h5' with t6 | ⟨t6, t7⟩
        all_goals
          go_wp2_with fail
          go_roundw
          case rel => exact ⟨k + 1, by go_num, by omega, by omega, HG, HBW⟩
          case measure => simp [intOf]; omega
      · obtain rfl : k = most := by omega
        have hlt' : (k : Int) < (n : Int) := by omega
        have HS : Hid (fSmall l k = false) := Lib.hid (by unfold fSmall; rw [decide_eq_false (by rw [← HN.out]; omega)]; simp)
        have hgt : ¬ (n : Int) ≤ (k : Int) := by omega
        go_wp2_with fail
        go_ret
        exact ⟨by rw [HS.out]; simp, HB.out⟩
    · obtain rfl : k = n := by omega
      have HS : Hid (fSmall l most = true) := Lib.hid (by
        unfold fSmall
        rw [List.take_of_length_le (by rw [← HN.out]; omega), decide_eq_true (by rw [← HN.out]; omega)]
        have := hall.out
        rw [List.take_of_length_le (by rw [← HN.out]; exact Nat.le_refl _)] at this
        rw [this]; rfl)
      have hle : (k : Int) ≤ (most : Int) := by omega
      go_wp2_with fail
      go_ret
      exact ⟨by rw [HS.out]; simp, HB.out⟩
end Go.Proofs.YtagdhghjcibfbaaGreatDoor

namespace Go.Proofs.YtagdhghjcibfbaaGreatDoor
open Go.RowKit
set_option linter.unusedVariables false
set_option linter.unusedSectionVars false
set_option maxRecDepth 100000

set_option maxHeartbeats 4000000 in
theorem awake9_any (w : World) (hm : MaxOK w) : Calls Tryz.prog 8 #[] w fun e w' => e = .returned (.bool true) ∧ Below w.heap.size w w' := by
  have hi : ∀ x : Int, 0 ≤ x → x ≤ 20 → InI x := fun x h1 h2 => by unfold InI; omega
  have CN := Lib.hid (ls_new 4096 (by decide) (by decide) w hm)
  have C1 : Hid (∀ fb t hb L w1, LS w fb t hb gF0 0 L w1 → Calls Tryz.prog 9 #[.pointer (some ⟨fb, 0, none⟩), .int .i64 1, .agg #[.int .i64 3, .string ⟨#[97]⟩, .string ⟨#[]⟩, .int .i64 0, .int .i64 0, .int .i64 0, .string ⟨#[]⟩, .int .i64 0, .int .i64 0]] w1 fun e w' => ∃ a n c, e = .returned (.agg #[.int .i64 0, .int .i64 1, .string ⟨#[]⟩, .slice a n c]) ∧ LS w fb t hb gF1 3 L w') := Lib.hid fun fb t hb L w1 h => by
    have := ls_do h (by decide) (hi 1 (by decide) (by decide)) gO1 ⟨hi _ (by decide) (by decide), by decide, by decide, hi _ (by decide) (by decide), hi _ (by decide) (by decide), hi _ (by decide) (by decide), by decide⟩
    rw [gR1] at this
    exact this
  have C2 : Hid (∀ fb t hb L w1, LS w fb t hb gF1 3 L w1 → Calls Tryz.prog 9 #[.pointer (some ⟨fb, 0, none⟩), .int .i64 1, .agg #[.int .i64 7, .string ⟨#[]⟩, .string ⟨#[]⟩, .int .i64 1, .int .i64 0, .int .i64 0, .string ⟨#[120, 121]⟩, .int .i64 0, .int .i64 0]] w1 fun e w' => ∃ a n c, e = .returned (.agg #[.int .i64 0, .int .i64 0, .string ⟨#[]⟩, .slice a n c]) ∧ LS w fb t hb gF2 6 L w') := Lib.hid fun fb t hb L w1 h => by
    have := ls_do h (by decide) (hi 1 (by decide) (by decide)) gO2 ⟨hi _ (by decide) (by decide), by decide, by decide, hi _ (by decide) (by decide), hi _ (by decide) (by decide), hi _ (by decide) (by decide), by decide⟩
    rw [gR2] at this
    exact this
  have C3 : Hid (∀ fb t hb L w1, LS w fb t hb gF2 6 L w1 → Calls Tryz.prog 9 #[.pointer (some ⟨fb, 0, none⟩), .int .i64 1, .agg #[.int .i64 11, .string ⟨#[97]⟩, .string ⟨#[]⟩, .int .i64 0, .int .i64 0, .int .i64 0, .string ⟨#[]⟩, .int .i64 0, .int .i64 0]] w1 fun e w' => ∃ a n c, e = .returned (.agg #[.int .i64 0, .int .i64 0, .string ⟨#[]⟩, .slice a n c]) ∧ LS w fb t hb gF3 9 L w') := Lib.hid fun fb t hb L w1 h => by
    have := ls_do h (by decide) (hi 1 (by decide) (by decide)) gO3 ⟨hi _ (by decide) (by decide), by decide, by decide, hi _ (by decide) (by decide), hi _ (by decide) (by decide), hi _ (by decide) (by decide), by decide⟩
    rw [gR3] at this
    exact this
  have C4 : Hid (∀ fb t hb L w1, LS w fb t hb gF3 9 L w1 → Calls Tryz.prog 9 #[.pointer (some ⟨fb, 0, none⟩), .int .i64 1, .agg #[.int .i64 6, .string ⟨#[]⟩, .string ⟨#[]⟩, .int .i64 1, .int .i64 1, .int .i64 9, .string ⟨#[]⟩, .int .i64 0, .int .i64 0]] w1 fun e w' => ∃ a n c, e = .returned (.agg #[.int .i64 0, .int .i64 0, .string ⟨#[121]⟩, .slice a n c]) ∧ LS w fb t hb gF4 12 L w') := Lib.hid fun fb t hb L w1 h => by
    have := ls_do h (by decide) (hi 1 (by decide) (by decide)) gO4 ⟨hi _ (by decide) (by decide), by decide, by decide, hi _ (by decide) (by decide), hi _ (by decide) (by decide), hi _ (by decide) (by decide), by decide⟩
    rw [gR4] at this
    exact this
  have C5 : Hid (∀ fb t hb L w1, LS w fb t hb gF4 12 L w1 → Calls Tryz.prog 9 #[.pointer (some ⟨fb, 0, none⟩), .int .i64 2, .agg #[.int .i64 6, .string ⟨#[]⟩, .string ⟨#[]⟩, .int .i64 1, .int .i64 0, .int .i64 1, .string ⟨#[]⟩, .int .i64 0, .int .i64 0]] w1 fun e w' => ∃ a n c, e = .returned (.agg #[.int .i64 13, .int .i64 0, .string ⟨#[]⟩, .slice a n c]) ∧ LS w fb t hb gF5 15 L w') := Lib.hid fun fb t hb L w1 h => by
    have := ls_do h (by decide) (hi 2 (by decide) (by decide)) gO5 ⟨hi _ (by decide) (by decide), by decide, by decide, hi _ (by decide) (by decide), hi _ (by decide) (by decide), hi _ (by decide) (by decide), by decide⟩
    rw [gR5] at this
    exact this
  have C6 : Hid (∀ fb t hb L w1, LS w fb t hb gF5 15 L w1 → Calls Tryz.prog 9 #[.pointer (some ⟨fb, 0, none⟩), .int .i64 2, .agg #[.int .i64 1, .string ⟨#[100]⟩, .string ⟨#[]⟩, .int .i64 0, .int .i64 0, .int .i64 0, .string ⟨#[]⟩, .int .i64 0, .int .i64 0]] w1 fun e w' => ∃ a n c, e = .returned (.agg #[.int .i64 0, .int .i64 0, .string ⟨#[]⟩, .slice a n c]) ∧ LS w fb t hb gF6 18 L w') := Lib.hid fun fb t hb L w1 h => by
    have := ls_do h (by decide) (hi 2 (by decide) (by decide)) gO6 ⟨hi _ (by decide) (by decide), by decide, by decide, hi _ (by decide) (by decide), hi _ (by decide) (by decide), hi _ (by decide) (by decide), by decide⟩
    rw [gR6] at this
    exact this
  have C7 : Hid (∀ fb t hb L w1, LS w fb t hb gF6 18 L w1 → Calls Tryz.prog 13 #[.pointer (some ⟨fb, 0, none⟩)] w1 fun e w' => ∃ g cap, e = .returned (.slice (some ⟨g, 0, none⟩) 1 cap) ∧ w'.cell? ⟨g, 0, none⟩ = some (.string ⟨#[100]⟩) ∧ w'.cell? ⟨g, 1, none⟩ = some (.bool true) ∧ w'.cell? ⟨g, 2, none⟩ = some (.string ⟨#[]⟩) ∧ LS w fb t hb gF6 18 L w') := Lib.hid fun fb t hb L w1 h => by
    have := ls_files h (by decide) 2 (by decide) gDp (by rw [gFl]; decide)
    rw [gFl] at this
    refine this.mono fun e w' ⟨v, he, ho, hl⟩ => ?_
    rcases ho.2 with ⟨_, h0⟩ | ⟨g, cap, cur, rfl, hg, hh, _, _, _, hx⟩
    · exact absurd h0 (by decide)
    have hc := ho.cells (g := g) rfl
    have ea : ∀ j, (⟨g, 0, none⟩ : Addr).add j = ⟨g, j, none⟩ := fun j => by rw [off_add, Nat.zero_add]
    have c0 := hc 0 (.string ⟨#[100]⟩) rfl
    have c1 := hc 1 (.bool true) rfl
    have c2 := hc 2 (.string ⟨#[]⟩) rfl
    rw [ea] at c0 c1 c2
    exact ⟨g, cap, he, c0, c1, c2, hl⟩
  have C8 : Hid (∀ fb t hb L w1, LS w fb t hb gF6 18 L w1 → Calls Tryz.prog 11 #[.pointer (some ⟨fb, 0, none⟩)] w1 fun e w' => e = .returned (.int .i64 194) ∧ w' = w1) := Lib.hid fun fb t hb L w1 h => by
    have := ls_used h
    rw [gUs] at this
    exact this
  clear hi hm
  go_enter Tryz.func8, Tryz.ntmps8
  go_wp2_with (first
    | (go_at_call 6; (with_reducible refine CN.out.mono ?_); rintro e w0 ⟨fb, t, hb, rfl, h⟩; have H0 := Lib.hid h; clear h)
    | (go_at_call 9; (with_reducible refine (C1.out _ _ _ _ _ H0.out).mono ?_); rintro e w1 ⟨a1, n1, c1, rfl, h⟩; obtain ⟨W1, hW1, hl⟩ := h.new (.int .i64 0) (.int .i64 1) (.string ⟨#[]⟩) (.slice a1 n1 c1); have H1 := Lib.hid hl; clear h hl)
    | (go_at_call 9; (with_reducible refine (C2.out _ _ _ _ _ H1.out).mono ?_); rintro e w2 ⟨a2, n2, c2, rfl, h⟩; obtain ⟨W2, hW2, hl⟩ := h.new (.int .i64 0) (.int .i64 0) (.string ⟨#[]⟩) (.slice a2 n2 c2); have H2 := Lib.hid hl; clear h hl)
    | (go_at_call 9; (with_reducible refine (C3.out _ _ _ _ _ H2.out).mono ?_); rintro e w3 ⟨a3, n3, c3, rfl, h⟩; obtain ⟨W3, hW3, hl⟩ := h.new (.int .i64 0) (.int .i64 0) (.string ⟨#[]⟩) (.slice a3 n3 c3); have H3 := Lib.hid hl; clear h hl)
    | (go_at_call 9; (with_reducible refine (C4.out _ _ _ _ _ H3.out).mono ?_); rintro e w4 ⟨a4, n4, c4, rfl, h⟩; obtain ⟨W4, hW4, hl⟩ := h.new (.int .i64 0) (.int .i64 0) (.string ⟨#[121]⟩) (.slice a4 n4 c4); have H4 := Lib.hid hl; clear h hl)
    | (go_at_call 9; (with_reducible refine (C5.out _ _ _ _ _ H4.out).mono ?_); rintro e w5 ⟨a5, n5, c5, rfl, h⟩; obtain ⟨W5, hW5, hl⟩ := h.new (.int .i64 13) (.int .i64 0) (.string ⟨#[]⟩) (.slice a5 n5 c5); have H5 := Lib.hid hl; clear h hl)
    | (go_at_call 9; (with_reducible refine (C6.out _ _ _ _ _ H5.out).mono ?_); rintro e w6 ⟨a6, n6, c6, rfl, h⟩; have H6 := Lib.hid h; clear h)
    | (go_at_call 13; (with_reducible refine (C7.out _ _ _ _ _ H6.out).mono ?_); rintro e w7 ⟨g, cap, rfl, f0, f1, f2, h⟩; have H7 := Lib.hid h; clear h; refine Hid.out ?_))
  refine Lib.hid ?_
  have r1 := H7.out.rs _ (List.mem_cons_of_mem _ (List.mem_cons_of_mem _ (List.mem_cons_of_mem _ (List.mem_cons_of_mem _ (List.mem_cons_self ..)))))
  have r2 := H7.out.rs _ (List.mem_cons_of_mem _ (List.mem_cons_of_mem _ (List.mem_cons_of_mem _ (List.mem_cons_self ..))))
  have r3 := H7.out.rs _ (List.mem_cons_of_mem _ (List.mem_cons_of_mem _ (List.mem_cons_self ..)))
  have r4 := H7.out.rs _ (List.mem_cons_of_mem _ (List.mem_cons_self ..))
  have r5 := H7.out.rs _ (List.mem_cons_self ..)
  have x10 := r1.c0; have x11 := r1.c1; have x20 := r2.c0; have x30 := r3.c0; have x42 := r4.c2; have x50 := r5.c0
  have s1 : ((⟨#[121]⟩ : ByteArray).toList == [121]) = true := by rw [Lib.toList_data]; decide
  have s2 : ((⟨#[100]⟩ : ByteArray).toList == [100]) = true := by rw [Lib.toList_data]; decide
  clear r1 r2 r3 r4 r5 hW1 hW2 hW3 hW4 hW5
  simp only at x10 x11 x20 x30 x42 x50
  go_wp2_with (first
    | (go_at_call 11; (with_reducible refine (C8.out _ _ _ _ _ H7.out).mono ?_); rintro e w8 ⟨rfl, hw⟩; obtain rfl : w7 = w8 := hw.symm; clear hw))
  go_ret
  exact ⟨rfl, H7.out.st.bel⟩
end Go.Proofs.YtagdhghjcibfbaaGreatDoor

namespace Go.Proofs.YtagdhghjcibfbaaGreatDoor
open Go.RowKit
set_option linter.unusedVariables false
set_option linter.unusedSectionVars false
set_option maxRecDepth 100000

/-- None at all, or one without a table. -/
def FNob (w : World) (p : Option Addr) : Prop := p = none ∨ ∃ b, p = some ⟨b, 0, none⟩ ∧ w.cell? ⟨b, 0, none⟩ = some (.pointer none)
theorem FNob.below {w w' : World} {p : Option Addr} (h : FNob w p) (hb : Below w.heap.size w w') : FNob w' p := by
  rcases h with h | ⟨b, h1, h2⟩
  · exact .inl h
  · exact .inr ⟨b, h1, (hb.cell (p := ⟨b, 0, none⟩) (World.block_lt_of_cell? w _ h2)).trans h2⟩
section
variable {w : World} {p : Option Addr} (h : FNob w p)
include h
theorem fnb_exit (o : Int) : Calls Tryz.prog 10 #[.pointer p, .int .i64 o] w fun e w' => e = .returned (.tuple #[]) ∧ w' = w := by
  have C := Lib.hid (unmade_any h)
  clear h
  go_enter Tryz.func10, Tryz.ntmps10
  go_wp2_with (go_at_call 17; (with_reducible refine C.out.mono ?_); rintro e w1 ⟨rfl, hw⟩; obtain rfl := hw)
  refine bodyPost_ret (results_none rfl _ _ _) rfl ?_
  exact ⟨rfl, rfl⟩
theorem fnb_used : Calls Tryz.prog 11 #[.pointer p] w fun e w' => e = .returned (.int .i64 0) ∧ w' = w := by
  have C := Lib.hid (unmade_any h)
  clear h
  go_enter Tryz.func11, Tryz.ntmps11
  go_wp2_with (go_at_call 17; (with_reducible refine C.out.mono ?_); rintro e w1 ⟨rfl, hw⟩; obtain rfl := hw)
  go_ret
  exact ⟨rfl, rfl⟩
theorem fnb_files : Calls Tryz.prog 13 #[.pointer p] w fun e w' => e = .returned (.slice none 0 0) ∧ w' = w := by
  have C := Lib.hid (unmade_any h)
  clear h
  go_enter Tryz.func13, Tryz.ntmps13
  go_wp2_with (go_at_call 17; (with_reducible refine C.out.mono ?_); rintro e w1 ⟨rfl, hw⟩; obtain rfl := hw)
  go_ret
  exact ⟨rfl, rfl⟩
theorem fnb_owners : Calls Tryz.prog 14 #[.pointer p] w fun e w' => e = .returned (.slice none 0 0) ∧ w' = w := by
  have C := Lib.hid (unmade_any h)
  clear h
  go_enter Tryz.func14, Tryz.ntmps14
  go_wp2_with (go_at_call 17; (with_reducible refine C.out.mono ?_); rintro e w1 ⟨rfl, hw⟩; obtain rfl := hw)
  go_ret
  exact ⟨rfl, rfl⟩
theorem fnb_clone : Calls Tryz.prog 15 #[.pointer p] w fun e w' => e = .returned (.pointer none) ∧ w' = w := by
  have C := Lib.hid (unmade_any h)
  clear h
  go_enter Tryz.func15, Tryz.ntmps15
  go_wp2_with (go_at_call 17; (with_reducible refine C.out.mono ?_); rintro e w1 ⟨rfl, hw⟩; obtain rfl := hw)
  go_ret
  exact ⟨rfl, rfl⟩
set_option maxHeartbeats 1000000 in
theorem fnb_do (o : Int) (op : OpT) : Calls Tryz.prog 9 #[.pointer p, .int .i64 o, opV op] w fun e w' => e = .returned (.agg #[.int .i64 1, .int .i64 0, .string ⟨#[]⟩, .slice none 0 0]) ∧ Below w.heap.size w w' := by
  obtain ⟨W0, hW0⟩ : ∃ W0, ((w.alloc (.cells #[.pointer p] 23)).alloc (.cells #[.int .i64 op.kind, .string (bs op.path), .string (bs op.dst), .int .i64 op.h, .int .i64 op.at_, .int .i64 op.n, .string (bs op.data), .int .i64 op.pid, .int .i64 op.birth] 34)).alloc (.cells #[.int .i64 0, .int .i64 0, .string ⟨#[]⟩, .slice none 0 0] 31) = W0 := ⟨_, rfl⟩
  have hb0 : Below w.heap.size w W0 := by rw [← hW0]; exact (((Below.refl _ w).alloc (Nat.le_refl _) _).alloc (by simp) _).alloc (by simp; omega) _
  have k3 : W0.cell? ⟨w.heap.size, 0, none⟩ = some (.pointer p) := by
    rw [← hW0, World.cell?_alloc_lt _ _ _ (by simp; omega), World.cell?_alloc_lt _ _ _ (by simp)]; exact World.cell?_alloc_new w _ _ _
  have r0 : RS W0 (w.heap.size + 2) (.int .i64 0) (.int .i64 0) (.string ⟨#[]⟩) (.slice none 0 0) := by
    have := (MapKept.heap_alloc ((w.alloc (.cells #[.pointer p] 23)).alloc (.cells #[.int .i64 op.kind, .string (bs op.path), .string (bs op.dst), .int .i64 op.h, .int .i64 op.at_, .int .i64 op.n, .string (bs op.data), .int .i64 op.pid, .int .i64 op.birth] 34)) (.cells #[.int .i64 0, .int .i64 0, .string ⟨#[]⟩, .slice none 0 0] 31)).1
    rw [hW0, show ((w.alloc (.cells #[.pointer p] 23)).alloc (.cells #[.int .i64 op.kind, .string (bs op.path), .string (bs op.dst), .int .i64 op.h, .int .i64 op.at_, .int .i64 op.n, .string (bs op.data), .int .i64 op.pid, .int .i64 op.birth] 34)).heap.size = w.heap.size + 2 by simp] at this
    exact this
  have CM := Lib.hid (unmade_any (h.below hb0))
  have HB0 := Lib.hid hb0
  have R0 := Lib.hid r0
  have y0 := r0.c0; have y1 := r0.c1; have y2 := r0.c2; have y3 := r0.c3; have g0 := r0.fr 0; have g1 := r0.fr 1; have g2 := r0.fr 2; have g3 := r0.fr 3
  unfold opV
  clear h hb0 r0
  go_enter Tryz.func9, Tryz.ntmps9
  go_wp2_with (go_at_call 17; (with_reducible refine CM.out.mono ?_); rintro e w1 ⟨rfl, hw⟩; obtain rfl : W0 = w1 := hw.symm; clear hw)
  refine ret_res rfl rfl rfl (R0.out.set4 (.int .i64 1) (.int .i64 0) (.string ⟨#[]⟩) (.slice none 0 0)) ⟨rfl, ?_⟩
  exact Ch.below (M := fun x => x = w.heap.size + 2) (ch_set4 _ _ _ _ _ _ rfl) HB0.out HB0.out.size (fun x hx e => by omega)
end
set_option maxHeartbeats 1000000 in
theorem same_err (w : World) : Calls Tryz.prog 12 #[.agg #[.int .i64 1, .int .i64 0, .string ⟨#[]⟩, .slice none 0 0], .agg #[.int .i64 1, .int .i64 0, .string ⟨#[]⟩, .slice none 0 0]] w fun e w' => e = .returned (.bool true) ∧ Below w.heap.size w w' := by
  obtain ⟨W0, hW0⟩ : ∃ W0, (w.alloc (.cells #[.int .i64 1, .int .i64 0, .string ⟨#[]⟩, .slice none 0 0] 31)).alloc (.cells #[.int .i64 1, .int .i64 0, .string ⟨#[]⟩, .slice none 0 0] 31) = W0 := ⟨_, rfl⟩
  have hb0 : Below w.heap.size w W0 := by rw [← hW0]; exact ((Below.refl _ w).alloc (Nat.le_refl _) _).alloc (by simp) _
  have r0 : RS W0 w.heap.size (.int .i64 1) (.int .i64 0) (.string ⟨#[]⟩) (.slice none 0 0) := by rw [← hW0]; exact (Below.heap_alloc _ _ _ (by simp)).trans (MapKept.heap_alloc w _).1
  have r1 : RS W0 (w.heap.size + 1) (.int .i64 1) (.int .i64 0) (.string ⟨#[]⟩) (.slice none 0 0) := by
    have := (MapKept.heap_alloc (w.alloc (.cells #[.int .i64 1, .int .i64 0, .string ⟨#[]⟩, .slice none 0 0] 31)) (.cells #[.int .i64 1, .int .i64 0, .string ⟨#[]⟩, .slice none 0 0] 31)).1
    rw [hW0, show (w.alloc (.cells #[.int .i64 1, .int .i64 0, .string ⟨#[]⟩, .slice none 0 0] 31)).heap.size = w.heap.size + 1 by simp] at this
    exact this
  have HB0 := Lib.hid hb0
  have x0 := r0.c0; have x1 := r0.c1; have x2 := r0.c2; have x3 := r0.c3; have z0 := r1.c0; have z1 := r1.c1; have z2 := r1.c2; have z3 := r1.c3
  have s0 : ((⟨#[]⟩ : ByteArray).toList == (⟨#[]⟩ : ByteArray).toList) = true := by simp
  clear hb0 r0 r1
  go_enter Tryz.func12, Tryz.ntmps12
  go_wp2_with fail
  go_loopw [5] (fun i wr => i = .int .i64 0 ∧ wr = W0) (fun i _ => 0)
  case atStart => exact ⟨rfl, rfl⟩
  case round =>
    obtain ⟨rfl, rfl⟩ := hrel
    go_wp2_with fail
    go_ret
    exact ⟨rfl, HB0.out⟩
end Go.Proofs.YtagdhghjcibfbaaGreatDoor
