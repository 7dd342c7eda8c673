/- copyOf: its start, its invariant. -/
import Derived.Test.YtaniebkfgkhgoaaGreatDoorJ5a
namespace Go.Proofs.YtaniebkfgkhgoaaGreatDoor
open Go.RowKit
set_option linter.unusedVariables false
set_option linter.unusedSectionVars false
set_option maxRecDepth 100000

section
variable {v : JV} {w : World} {S : Nat → Prop} {W W' w1 w2 : World} {D : Nat → Prop} {st tl : List (CE v w S)} {G : Nat × Nat → Option (Nat × Nat)} {sv sv' : Value}
/-- Between two rounds, but for a value that waits on the top. -/
structure CpQ (v : JV) (w : World) (S : Nat → Prop) (W : World) (D : Nat → Prop) (st : List (CE v w S)) (G : Nat × Nat → Option (Nat × Nat)) (sv : Value) : Prop where
  m : CpM v w S W D st G sv
  dw : D (w.heap.size + 1)
  whole : LAt W (Sx S w.heap.size D) v (w.heap.size + 1) 0
def CpI (v : JV) (w : World) (S : Nat → Prop) (W : World) (D : Nat → Prop) (st : List (CE v w S)) (G : Nat × Nat → Option (Nat × Nat)) (sv : Value) : Prop := match st with
  | [] => CpQ v w S W D [] G sv
  | (a, none) :: tl => CpQ v w S W D ((a, none) :: tl) G sv
  | (a, some q) :: tl => ∃ g cap, sv = .slice (some ⟨g, 0, none⟩) (tl.length + 1) cap ∧ CpR v w S W D a q tl G g cap
theorem CpI.of (hS : ∀ b, S b → b < w.heap.size) (h : CpQ v w S W D st G sv) : CpI v w S W D st G sv := by
  match st, h with
  | [], h => exact h
  | (a, none) :: tl, h => exact h
  | (a, some q) :: tl, h =>
    obtain ⟨g, cap, rfl⟩ := ownsRow_succ (h.m.row : W.ownsRow (w.heap.size + 3) 67 2 sv (tl.length + 1) _)
    exact ⟨g, cap, rfl, .of hS h.m h.dw h.whole⟩
theorem ceWork_cons (x : CE v w S) : ceWork (x :: st) = ceW x + ceWork st := by simp [ceWork]

def copyW (w : World) (p : Nat × Nat) : World :=
  (((w.alloc (.cells #[.int .i64 0, .string ⟨#[]⟩, .slice none 0 0, .slice none 0 0] 26)).alloc (.cells #[.int .i64 0, .string ⟨#[]⟩, .slice none 0 0, .slice none 0 0] 26)).alloc (.map #[] 0)).alloc (.cells #[.pointer (some ⟨p.1, p.2, none⟩), .pointer (some ⟨w.heap.size + 1, 0, none⟩)] 67)
theorem copyW_size (w : World) (p : Nat × Nat) : (copyW w p).heap.size = w.heap.size + 4 := by simp [copyW]
theorem CpR.start (hS : ∀ b, S b → b < w.heap.size) (r : NdT v w S none) (hr : r.1.2 = v) : CpR v w S (copyW w (adOf r)) (· = w.heap.size + 1) r (w.heap.size + 1, 0) [] (fun _ => none) (w.heap.size + 3) 1 := by
  have hgn : w.grownBy (copyW w (adOf r)) none := gb_trans (gb_trans (gb_trans (World.grownBy_alloc w _ none) (World.grownBy_alloc _ _ none)) (World.grownBy_alloc _ _ none)) (World.grownBy_alloc _ _ none)
  have h0 : RB (copyW w (adOf r)) w.heap.size (.int .i64 0) (.string ⟨#[]⟩) (.slice none 0 0) (.slice none 0 0) := by
    have h := RB.new (x0 := .int .i64 0) (x1 := .string ⟨#[]⟩) (x2 := .slice none 0 0) (x3 := .slice none 0 0) w
    exact ((h.gb (World.grownBy_alloc _ _ none) (by simp)).gb (World.grownBy_alloc _ _ none) (by simp)).gb (World.grownBy_alloc _ _ none) (by simp)
  have h1 : RB (copyW w (adOf r)) (w.heap.size + 1) (.int .i64 0) (.string ⟨#[]⟩) (.slice none 0 0) (.slice none 0 0) := by
    have h := RB.new (x0 := .int .i64 0) (x1 := .string ⟨#[]⟩) (x2 := .slice none 0 0) (x3 := .slice none 0 0) (w.alloc (.cells #[.int .i64 0, .string ⟨#[]⟩, .slice none 0 0, .slice none 0 0] 26))
    simp only [World.size_alloc] at h
    exact (h.gb (World.grownBy_alloc _ _ none) (by simp)).gb (World.grownBy_alloc _ _ none) (by simp)
  have h2 : PM (copyW w (adOf r)) (w.heap.size + 2) (fun a => ((fun _ => none : Nat × Nat → Option (Nat × Nat)) a).map pv) := by
    have h := PM.made ((w.alloc (.cells #[.int .i64 0, .string ⟨#[]⟩, .slice none 0 0, .slice none 0 0] 26)).alloc (.cells #[.int .i64 0, .string ⟨#[]⟩, .slice none 0 0, .slice none 0 0] 26))
    simp only [World.size_alloc] at h
    exact h.grown (World.grownBy_alloc _ _ none) (by simp) (by simp)
  have h3 : (copyW w (adOf r)).heap[w.heap.size + 3]? = some (.cells #[pv (adOf r), .pointer (some ⟨w.heap.size + 1, 0, none⟩)] 67 (0, 0)) := by
    have h := World.alloc_heap_new (((w.alloc (.cells #[.int .i64 0, .string ⟨#[]⟩, .slice none 0 0, .slice none 0 0] 26)).alloc (.cells #[.int .i64 0, .string ⟨#[]⟩, .slice none 0 0, .slice none 0 0] 26)).alloc (.map #[] 0)) (.cells #[.pointer (some ⟨(adOf r).1, (adOf r).2, none⟩), .pointer (some ⟨w.heap.size + 1, 0, none⟩)] 67)
    simp only [World.size_alloc] at h
    exact h
  have hbel : RowKit.Below w.heap.size w (copyW w (adOf r)) := below_of_gb hgn
  refine ⟨⟨h0, h2, ⟨rfl, .inr ⟨w.heap.size + 3, 1, _, rfl, Nat.le_refl _, h3, Nat.zero_le _, by unfold maxLen; omega, rfl, rfl⟩⟩, ?_, by simp, by simp, by simp, List.Pairwise.nil, List.Pairwise.nil, hbel⟩, ⟨rfl, .inr ⟨w.heap.size + 3, 1, _, rfl, Nat.le_refl _, h3, Nat.le_refl _, by unfold maxLen; omega, rfl, rfl⟩⟩, rfl, ⟨_, _, _, _, h1.c0, h1.c1, h1.c2, h1.c3⟩, by simp, by simp, rfl, rfl, ?_⟩
  · rintro b rfl
    exact ⟨by omega, _, _, h1, .inl rfl⟩
  · intro W' hg c0 c1 c2 c3 k0 k1 k2 k3
    have hz := h1.gb hg (by simp)
    have hs := hz.set4 c0 c1 c2 c3
    have hb2 : RowKit.Below w.heap.size w W' := hbel.grown hg hbel.size (by simp)
    obtain ⟨d0, d1, d2, d3, e0, e1, e2, e3, hv⟩ := r.2.2.1
    have mv : ∀ {o : Nat} {c : Value}, w.cell? ⟨r.1.1.1, o, none⟩ = some c → W'.cell? ⟨r.1.1.1, o, none⟩ = some c := fun {o c} hc => (World.cell?_of_block (a := ⟨r.1.1.1, o, none⟩) (hb2.block _ (nd_lt r))).trans hc
    have x0 := (mv e0).symm.trans k0
    have x1 := (mv e1).symm.trans k1
    have x2 := (mv e2).symm.trans k2
    have x3 := (mv e3).symm.trans k3
    cases x0; cases x1; cases x2; cases x3
    rw [hr] at hv
    have hg4 := gb_set4 W' (w.heap.size + 1) c0 c1 c2 c3
    refine ⟨c0, c1, c2, c3, hs.c0, hs.c1, hs.c2, hs.c3, LV.move (fun b hb hs => ⟨?_, .inl ⟨hs, hS b hs⟩⟩) v hv⟩
    have hbn := hS b hs
    exact (hg4.block b (Nat.lt_of_lt_of_le hb hb2.size) (fun e => by have := Option.some.inj e; omega)).trans (hb2.block b hbn)
end

theorem frozen_of_clean {w : World} {b i : Nat} {T : TypeId → Prop} (h : ∃ c t, w.heap[b]? = some (.cells c t (0, 0)) ∧ T t) : w.frozen? ⟨b, i, none⟩ = false := by
  obtain ⟨c, t, h, _⟩ := h
  simp [World.frozen?, h]
theorem results_cell1 {fn : Func} {p : Tmp} {ty : TypeId} (h : fn.results = #[.cell p ty]) (tmps : Array Value) (P : Program) (w : World) {b : Addr} {v : Value} (hp : tmps.getD p undef = .pointer (some b)) (hl : (loadVar ty b).run P w = .ok v w) : (results fn tmps).run P w = .ok v w := by
  have hp' : tmps[p]?.getD undef = .pointer (some b) := by simpa using hp
  simp only [results, h]
  simp [hp', asAddr, hl]
/-- What copyOf answers. -/
def CopyPost (w : World) (S : Nat → Prop) (v : JV) (e : Ending) (w' : World) : Prop :=
  ∃ (k : Int) (t : ByteArray) (a : Option Addr) (n c : Nat) (a2 : Option Addr) (n2 c2 : Nat), e = .returned (.agg #[.int .i64 k, .string t, .slice a n c, .slice a2 n2 c2]) ∧
    LV w' (fun b => (S b ∧ b < w.heap.size) ∨ (w.heap.size < b ∧ b < w'.heap.size)) v (.int .i64 k) (.string t) (.slice a n c) (.slice a2 n2 c2) ∧ RowKit.Below w.heap.size w w'

set_option maxHeartbeats 4000000 in
theorem copy_any (v : JV) (hsz : v.size ≤ 549755813888) (w : World) (S : Nat → Prop) (hS : ∀ b, S b → b < w.heap.size) (rb ro : Nat) (hat : LAt w S v rb ro) (hrc : Clean w rb) :
    Calls Tryz.prog 33 #[.pointer (some ⟨rb, ro, none⟩)] w (CopyPost w S v) := by
  have hmm := @run_makeMap Tryz.prog
  obtain ⟨r, hr1, hr2⟩ : ∃ r : NdT v w S none, adOf r = (rb, ro) ∧ r.1.2 = v := ⟨⟨((rb, ro), v), .root, hat, hrc, by simp⟩, rfl, rfl⟩
  have HST := Lib.hid (CpR.start hS r hr2)
  have HRZ : Hid (ceWork [(r, some (w.heap.size + 1, 0))] = 2 * v.size) := Lib.hid (by simp [ceWork, ceW, hr2])
  have hW' : (((w.alloc (.cells #[.int .i64 0, .string ⟨#[]⟩, .slice none 0 0, .slice none 0 0] 26)).alloc (.cells #[.int .i64 0, .string ⟨#[]⟩, .slice none 0 0, .slice none 0 0] 26)).alloc (.map #[] 0)).alloc (.cells #[.pointer (some ⟨rb, ro, none⟩), .pointer (some ⟨w.heap.size + 1, 0, none⟩)] 67) = copyW w (adOf r) := by rw [hr1]; rfl
  generalize copyW w (adOf r) = W at HST hW'
  clear hat hrc hr1 hr2
  go_enter Tryz.func33, Tryz.ntmps33
  go_wp2_with fail
  go_loopg [5] (2 * v.size) (fun gk s5 wr => ∃ D st G sv, gk = ceWork st ∧ s5 = sv ∧ Hid (CpI v w S wr D st G sv) ∧ Hid (ceWork st ≤ 2 * v.size))
  case atStart =>
    exact ⟨_, [(r, some (w.heap.size + 1, 0))], _, .slice (some ⟨w.heap.size + 3, 0, none⟩) 1 1, HRZ.out.symm, rfl, ⟨_, _, rfl, HST.out⟩, Nat.le_of_eq HRZ.out⟩
  case round =>
    obtain ⟨D, st, G, sv, hgk, hsv, HI, HWK⟩ := hrel
    have hsv' := hsv.symm
    clear hsv
    subst hsv'
    have HGK := Lib.hid hgk
    clear hgk HST HRZ hW'
    match st, HI, HGK, HWK with
    | [], HI, HGK, HWK =>
      have hq : CpQ v w S wr D [] G sv := HI.out
      obtain ⟨c0, c1, c2, c3, h0, h1, h2, h3, hv⟩ := hq.whole
      obtain ⟨k, t, a, n, c, a2, n2, d, rfl, rfl, rfl, rfl⟩ := hv.shape
      obtain ⟨p0, cap0, rfl⟩ : ∃ p cap, sv = .slice p 0 cap := by
        rcases hq.m.row.2 with ⟨e, _⟩ | ⟨g, cap, cur, e, _⟩
        · exact ⟨_, _, e⟩
        · exact ⟨_, _, e⟩
      have f0 := hq.m.res.fr 0
      have f1 := hq.m.res.fr 1
      have f2 := hq.m.res.fr 2
      have f3 := hq.m.res.fr 3
      have z0 := hq.m.res.c0
      have z1 := hq.m.res.c1
      have z2 := hq.m.res.c2
      have z3 := hq.m.res.c3
      have HQ := Lib.hid hq
      have HV := Lib.hid hv
      clear hq hv HI
      go_wp2_with fail
      have hg5 := gb_set4 wr w.heap.size (.int .i64 k) (.string t) (.slice a n c) (.slice a2 n2 d)
      have hres := HQ.out.m.res.set4 (.int .i64 k) (.string t) (.slice a n c) (.slice a2 n2 d)
      refine bodyPost_ret (v := .agg #[.int .i64 k, .string t, .slice a n c, .slice a2 n2 d]) ?_ rfl ⟨k, t, a, n, c, a2, n2, d, rfl, LV.move (fun b hb hs => ⟨hg5.block b hb (fun e => ?_), hs.elim .inl (fun h => .inr ⟨(HQ.out.m.dst b h).1, Nat.lt_of_lt_of_le hb hg5.size⟩)⟩) v HV.out, HQ.out.m.below.grown hg5 HQ.out.m.below.size (fun k e => by cases e; exact Nat.le_refl _)⟩
      · exact results_cell1 rfl _ _ _ rfl (run_loadVar_row (P := Tryz.prog) (ty := 26) _ w.heap.size _ _ _ _ hres Tryz.underlying26 rfl val_size)
      · have := Option.some.inj e
        rcases hs with h | h
        · have := h.2
          omega
        · have := (HQ.out.m.dst b h).1
          omega
    | (a, none) :: tl, HI, HGK, HWK =>
      have hq : CpQ v w S wr D ((a, none) :: tl) G sv := HI.out
      obtain ⟨g, cap, rfl⟩ := ownsRow_succ (hq.m.row : wr.ownsRow (w.heap.size + 3) 67 2 sv (tl.length + 1) _)
      have hrow : wr.ownsRow (w.heap.size + 3) 67 2 (.slice (some ⟨g, 0, none⟩) (tl.length + 1) cap) (tl.length + 1) (ceRow tl ++ [.pointer (some ⟨(adOf a).1, (adOf a).2, none⟩), .pointer none]) := by
        have := hq.m.row
        rw [ceRow_cons] at this
        exact this
      have hc0 : wr.cell? ⟨g, tl.length * 2, none⟩ = some (.pointer (some ⟨(adOf a).1, (adOf a).2, none⟩)) := by
        rw [hrow.cellAt (tl.length * 2) (by omega), List.getElem?_append_right (by rw [ceRow_len]; exact Nat.le_refl _), ceRow_len, Nat.sub_self]; rfl
      have hc1 : wr.cell? ⟨g, tl.length * 2 + 1, none⟩ = some (.pointer none) := by
        rw [hrow.cellAt (tl.length * 2 + 1) (by omega), List.getElem?_append_right (by rw [ceRow_len]; omega), ceRow_len, Nat.add_sub_cancel_left]; rfl
      have hcap : tl.length + 1 ≤ cap ∧ cap ≤ 9223372036854775807 := by
        rcases hrow.2 with ⟨e, _⟩ | ⟨g', cap', cur, e, _, _, hn, hm, _⟩
        · cases e
        · cases e; unfold maxLen at hm; exact ⟨hn, by omega⟩
      have hcap1 := hcap.1
      have hcap2 := hcap.2
      obtain ⟨j0, hj0, hjz⟩ : ∃ j : TypeInfo, Tryz.prog.info? 26 = some j ∧ j.size = 4 := ⟨_, info_val4⟩
      have MD : Hid (∀ ty, ∃ w2, (Builtin.delete_ #[98, 45] ty #[.map (some (w.heap.size + 1 + 1)), .pointer (some ⟨(adOf a).1, (adOf a).2, none⟩)]).run Tryz.prog (wr.alloc (.cells #[.pointer (some ⟨(adOf a).1, (adOf a).2, none⟩), .pointer none] 67)) = .ok (.tuple #[]) w2 ∧
          CpQ v w S w2 D tl (fun p => if p = adOf a then none else G p) (.slice (some ⟨g, 0, none⟩) tl.length cap)) := by
        refine Lib.hid fun ty => ?_
        have hga := World.grownBy_alloc wr (.cells #[.pointer (some ⟨(adOf a).1, (adOf a).2, none⟩), .pointer none] 67) none
        have hm := hq.m.kept hga (by simp) (by simp) (.inr (by simp [Value.ownBlock])) (by simp) (by simp)
        have hcl : Clean (wr.alloc (.cells #[.pointer (some ⟨(adOf a).1, (adOf a).2, none⟩), .pointer none] 67)) (adOf a).1 := a.2.2.2.1.eq (hm.below.block _ (nd_lt a))
        obtain ⟨w2, r1, r2, r3, r4⟩ := hm.map.delete (P := Tryz.prog) _ Tryz.underlying45 hj0 (by rw [hjz]; decide) (ty := ty) Tryz.underlying98 hcl
        have hdm : ∀ b, D b → some b ≠ some (w.heap.size + 2) := fun b hb e => hm.dMap hb (Option.some.inj e)
        have h5 : ∀ k, some (w.heap.size + 2) = some k → w.heap.size ≤ k := fun k e => by have := Option.some.inj e; omega
        have hw1 := hq.m.lat (.inr hq.dw) hq.whole hga (by simp) (by simp)
        exact ⟨w2, r1, hm.done hm.pop rfl r3 r2, hq.dw, hm.lat (.inr hq.dw) hw1 r3 hdm h5⟩
      obtain ⟨w2, hdel, hq2⟩ := MD.out 0
      have HQ2 := Lib.hid hq2
      clear hq hrow HI hq2 MD
      go_wp2_with fail
      go_roundg (ceWork tl)
      case rel => exact ⟨D, tl, _, _, rfl, rfl, CpI.of hS HQ2.out, by show ceWork tl ≤ 2 * v.size; have := HWK.out; rw [ceWork_cons] at this; omega⟩
      case measure =>
        have h1 := HGK.out
        have h2 : ceW ((a, none) : CE v w S) = 1 := rfl
        rw [ceWork_cons, h2] at h1
        omega
    | (a, some q) :: tl, HI, HGK, HWK =>
      obtain ⟨g, cap, hsv, hR⟩ : ∃ g cap, sv = .slice (some ⟨g, 0, none⟩) (tl.length + 1) cap ∧ CpR v w S wr D a q tl G g cap := HI.out
      subst hsv
      have hrow := hR.full
      have hc0 : wr.cell? ⟨g, tl.length * 2, none⟩ = some (.pointer (some ⟨(adOf a).1, (adOf a).2, none⟩)) := by
        rw [hrow.cellAt (tl.length * 2) (by omega), List.getElem?_append_right (by rw [ceRow_len]; exact Nat.le_refl _), ceRow_len, Nat.sub_self]; rfl
      have hc1 : wr.cell? ⟨g, tl.length * 2 + 1, none⟩ = some (.pointer (some ⟨q.1, q.2, none⟩)) := by
        rw [hrow.cellAt (tl.length * 2 + 1) (by omega), List.getElem?_append_right (by rw [ceRow_len]; omega), ceRow_len, Nat.add_sub_cancel_left]; rfl
      have hcap : tl.length + 1 ≤ cap ∧ cap ≤ 9223372036854775807 := by
        rcases hrow.2 with ⟨e, _⟩ | ⟨g', cap', cur, e, _, _, hn, hm, _⟩
        · cases e
        · cases e; unfold maxLen at hm; exact ⟨hn, by omega⟩
      have hcap1 := hcap.1
      have hcap2 := hcap.2
      obtain ⟨j0, hj0, hjz⟩ : ∃ j : TypeInfo, Tryz.prog.info? 26 = some j ∧ j.size = 4 := ⟨_, info_val4⟩
      obtain ⟨Wn, hWn⟩ : ∃ Wn, Wn = wr.alloc (.cells #[.pointer (some ⟨(adOf a).1, (adOf a).2, none⟩), .pointer (some ⟨q.1, q.2, none⟩)] 67) := ⟨_, rfl⟩
      have hga : wr.grownBy Wn none := by rw [hWn]; exact World.grownBy_alloc _ _ none
      have hnb : Wn.heap[wr.heap.size]? = some (.cells #[.pointer (some ⟨(adOf a).1, (adOf a).2, none⟩), .pointer (some ⟨q.1, q.2, none⟩)] 67 (0, 0)) := by rw [hWn]; exact World.alloc_heap_new _ _
      have hnz : Wn.heap.size = wr.heap.size + 1 := by rw [hWn]; simp
      have hmn := hR.m.kept hga (by simp) (by simp) (.inr (by simp [Value.ownBlock])) (by simp) (by simp)
      have hcl : Clean Wn (adOf a).1 := a.2.2.2.1.eq (hmn.below.block _ (nd_lt a))
      have hlk := hmn.map.look (P := Tryz.prog) Wn Tryz.underlying45 hj0 (by rw [hjz]; decide) Tryz.underlying98 (Tryz.zeroValue45 Wn) (x := adOf a) hcl true
      simp only [hR.fresh, Option.map_none, Option.getD_none, Option.isSome_none, if_true] at hlk
      have hlk2 : (Instr.lookup 98 (.map (some (w.heap.size + 1 + 1))) (.pointer (some ⟨(adOf a).1, (adOf a).2, none⟩)) true).run Tryz.prog Wn = .ok (.tuple #[.pointer none, .bool false]) Wn := hlk
      obtain ⟨n2, hn2⟩ : ∃ n2, a.1.2.list.length = n2 := ⟨_, rfl⟩
      obtain ⟨n3, hn3⟩ : ∃ n3, a.1.2.fields.length = n3 := ⟨_, rfl⟩
      obtain ⟨k, t, p0, p1⟩ : ∃ k t, Wn.cell? ⟨(adOf a).1, (adOf a).2, none⟩ = some (.int .i64 k) ∧ Wn.cell? ⟨(adOf a).1, (adOf a).2 + 1, none⟩ = some (.string t) := by
        obtain ⟨s0, s1, s2, s3, p0, p1, p2, p3, hsv⟩ := hmn.src hS a
        obtain ⟨k, t, a2, n2, d2, a3, n3, d3, rfl, rfl, rfl, rfl⟩ := hsv.shape
        exact ⟨k, t, p0, p1⟩
      obtain ⟨a2, d2, p2, _⟩ := (hmn.src hS a).row2
      obtain ⟨a3, d3, p3, _⟩ := (hmn.src hS a).row3
      rw [hn2] at p2
      rw [hn3] at p3
      obtain ⟨y0, y1, y2, y3, x0, x1, x2, x3⟩ := hR.cells
      have hqc : Clean Wn q.1 := by
        obtain ⟨_, c, t, hc, _⟩ := hmn.dst q.1 hR.dq
        exact ⟨c, t, hc⟩
      have hqf : ∀ i, Wn.frozen? ⟨q.1, i, none⟩ = false := fun i => by
        obtain ⟨c, t, hc⟩ := hqc
        simp [World.frozen?, hc]
      have g0 := hga.cell x0 (by simp)
      have g1 := hga.cell x1 (by simp)
      have g2 := hga.cell x2 (by simp)
      have g3 := hga.cell x3 (by simp)
      have f0 := hqf q.2
      have f1 := hqf (q.2 + 1)
      have f2 := hqf (q.2 + 2)
      have f3 := hqf (q.2 + 3)
      have hn0 : Wn.cell? ⟨wr.heap.size, 0, none⟩ = some (.pointer (some ⟨(adOf a).1, (adOf a).2, none⟩)) := by simp [World.cell?, hnb]
      have hn1 : Wn.cell? ⟨wr.heap.size, 1, none⟩ = some (.pointer (some ⟨q.1, q.2, none⟩)) := by simp [World.cell?, hnb]
      have HR := Lib.hid hR
      have HGA := Lib.hid hga
      have HNB := Lib.hid hnb
      have HNZ := Lib.hid hnz
      have hWn' := hWn.symm
      clear hR HI hrow hlk hmn hcl hga hnb hnz hWn hqf hqc x0 x1 x2 x3
      go_wp2_with fail
      go_still_tail 7, (by kernel_rfl)
      change wpList _ _ _ _ _ Wn.drew
      have hgd : wr.grownBy Wn.drew none := gb_trans HGA.out (gb_drewN Wn 1 none)
      have HSTO := Lib.hid (HR.out.stored hgd (c0 := .int .i64 k) (c1 := .string t) (c2 := .slice a2 n2 d2) (c3 := .slice a3 n3 d3) p0 p1 p2 p3)
      have HDQ := Lib.hid HR.out.dq
      obtain ⟨W1, hW1⟩ : ∃ W1, W1 = set4 Wn.drew q (.int .i64 k) (.string t) (.slice a2 n2 d2) (.slice a3 n3 d3) := ⟨_, rfl⟩
      rw [← hW1] at HSTO
      have hm1 : CpM v w S W1 D tl G (.slice (some ⟨g, 0, none⟩) tl.length cap) := HSTO.out.1
      have hg1 := HSTO.out.2.2
      have hnbW : wr.heap.size < Wn.drew.heap.size := by have : Wn.heap.size = wr.heap.size + 1 := HNZ.out; show wr.heap.size < Wn.heap.size; omega
      have hnq : wr.heap.size ≠ q.1 := fun e => by have := HR.out.m.dlt HDQ.out; omega
      have hnb1 : W1.heap[wr.heap.size]? = some (.cells #[.pointer (some ⟨(adOf a).1, (adOf a).2, none⟩), .pointer (some ⟨q.1, q.2, none⟩)] 67 (0, 0)) := (hg1.block _ hnbW (fun e => hnq (Option.some.inj e))).trans HNB.out
      have hW1' : (((Wn.drew.setCell ⟨q.1, q.2, none⟩ (.int .i64 k)).setCell ⟨q.1, q.2 + 1, none⟩ (.string t)).setCell ⟨q.1, q.2 + 2, none⟩ (.slice a2 n2 d2)).setCell ⟨q.1, q.2 + 3, none⟩ (.slice a3 n3 d3) = W1 := hW1.symm
      have HNB1 := Lib.hid hnb1
      have HWL : Hid (wr.heap.size < W1.heap.size) := Lib.hid (Array.getElem?_eq_some_iff.1 hnb1).1
      have HM1 := Lib.hid hm1
      have hnqa : (adOf a).1 ≠ q.1 := fun e => by have := nd_lt a; have := (HR.out.m.dst q.1 HDQ.out).1; omega
      have hsrc1 : ∀ {o : Nat} {c : Value}, Wn.cell? ⟨(adOf a).1, o, none⟩ = some c → W1.cell? ⟨(adOf a).1, o, none⟩ = some c := fun {o c} h => hg1.cell (w := Wn.drew) h (fun e => hnqa (Option.some.inj e))
      have m2 := hsrc1 p2
      have m3 := hsrc1 p3
      have b0 : W1.cell? ⟨wr.heap.size, 0, none⟩ = some (.pointer (some ⟨(adOf a).1, (adOf a).2, none⟩)) := by simp [World.cell?, hnb1]
      have b1 : W1.cell? ⟨wr.heap.size, 1, none⟩ = some (.pointer (some ⟨q.1, q.2, none⟩)) := by simp [World.cell?, hnb1]
      have hap : ∀ j, j < 4 → ∀ (y : NdT v w S none) q', (y, some q') ∈ tl → q.1 ≠ q'.1 ∨ q.2 + j < q'.2 ∨ q'.2 + 4 ≤ q.2 + j := fun j hj y q' hy => by
        rcases HR.out.apart y q' hy with e | e | e
        · exact .inl e
        · exact .inr (.inl (by omega))
        · exact .inr (.inr (by omega))
      have HAP := Lib.hid hap
      have HDW := Lib.hid HR.out.dw
      have hS3 : Hid (∀ (W1 : World) (D : Nat → Prop), CpM v w S W1 D tl G (.slice (some ⟨g, 0, none⟩) tl.length cap) → D q.1 → D (w.heap.size + 1) → LAt W1 (Sx S w.heap.size D) v (w.heap.size + 1) 0 → W1.cell? ⟨(adOf a).1, (adOf a).2 + 2, none⟩ = some (.slice a2 n2 d2) → Calls Tryz.prog 58 #[.slice a2 n2 d2] W1 fun e W' => ∃ a' cap' D', e = .returned (.slice a' n2 cap') ∧ Cloned v w S W1 W' D D' tl G (.slice (some ⟨g, 0, none⟩) tl.length cap) 4 n2 a2 a' d2 cap') := by
        refine Lib.hid fun W1 D h1 h2 h3 h4 h5 => ?_
        obtain ⟨a2', d2', e2, hrL⟩ := (h1.src hS a).row2
        rw [hn2] at e2
        have e3 := h5.symm.trans e2
        cases e3
        have := cloneL_any (a := a) hS hsz h1 h3 h4 a2 d2 hrL
        rwa [hn2] at this
      have hS4 : Hid (∀ (W1 : World) (D : Nat → Prop), CpM v w S W1 D tl G (.slice (some ⟨g, 0, none⟩) tl.length cap) → D q.1 → D (w.heap.size + 1) → LAt W1 (Sx S w.heap.size D) v (w.heap.size + 1) 0 → W1.cell? ⟨(adOf a).1, (adOf a).2 + 3, none⟩ = some (.slice a3 n3 d3) → Calls Tryz.prog 59 #[.slice a3 n3 d3] W1 fun e W' => ∃ a' cap' D', e = .returned (.slice a' n3 cap') ∧ Cloned v w S W1 W' D D' tl G (.slice (some ⟨g, 0, none⟩) tl.length cap) 5 n3 a3 a' d3 cap') := by
        refine Lib.hid fun W1 D h1 h2 h3 h4 h5 => ?_
        obtain ⟨a3', d3', e2, hrL⟩ := (h1.src hS a).row3
        rw [hn3] at e2
        have e3 := h5.symm.trans e2
        cases e3
        have := cloneF_any (a := a) hS hsz h1 h3 h4 a3 d3 hrL
        rwa [hn3] at this
      have hm1d : CpM v w S W1.drew D tl G (.slice (some ⟨g, 0, none⟩) tl.length cap) := hm1.kept (gb_drewN W1 1 none) (by simp) (by simp) (.inr (by simp [Value.ownBlock])) (by simp) (by simp)
      have hl1d : LAt W1.drew (Sx S w.heap.size D) v (w.heap.size + 1) 0 := hm1.lat (.inr HDW.out) HSTO.out.2.1 (gb_drewN W1 1 none) (by simp) (by simp)
      have CL := Lib.hid (hS3.out W1.drew D hm1d HDQ.out HDW.out hl1d m2)
      have hq2 : W1.cell? ⟨q.1, q.2 + 2, none⟩ = some (.slice a2 n2 d2) := by
        rw [← hW1']
        have hg3 : (((Wn.drew.setCell ⟨q.1, q.2, none⟩ (.int .i64 k)).setCell ⟨q.1, q.2 + 1, none⟩ (.string t)).setCell ⟨q.1, q.2 + 2, none⟩ (.slice a2 n2 d2)).cell? ⟨q.1, q.2 + 2, none⟩ = some (.slice a2 n2 d2) := by
          refine World.cell?_setCell_same' _ _ _ ?_
          have : ((Wn.drew.setCell ⟨q.1, q.2, none⟩ (.int .i64 k)).setCell ⟨q.1, q.2 + 1, none⟩ (.string t)).cell? ⟨q.1, q.2 + 2, none⟩ = some y2 := by
            rw [World.cell?_setCell_other _ _ _ _ (by simp), World.cell?_setCell_other _ _ _ _ (by simp)]
            exact g2
          rw [this]; rfl
        rw [World.cell?_setCell_other _ _ _ _ (by simp)]
        exact hg3
      have hq3 : W1.cell? ⟨q.1, q.2 + 3, none⟩ = some (.slice a3 n3 d3) := by
        rw [← hW1']
        refine World.cell?_setCell_same' _ _ _ ?_
        have : (((Wn.drew.setCell ⟨q.1, q.2, none⟩ (.int .i64 k)).setCell ⟨q.1, q.2 + 1, none⟩ (.string t)).setCell ⟨q.1, q.2 + 2, none⟩ (.slice a2 n2 d2)).cell? ⟨q.1, q.2 + 3, none⟩ = some y3 := by
          rw [World.cell?_setCell_other _ _ _ _ (by simp), World.cell?_setCell_other _ _ _ _ (by simp), World.cell?_setCell_other _ _ _ _ (by simp)]
          exact g3
        rw [this]; rfl
      clear hlk2 hgd hW1 hg1 hnbW hnb1 hm1 hm1d hl1d hap hsrc1
      have hW1e : ((((Wn.setCell ⟨q.1, q.2, none⟩ (.int .i64 k)).setCell ⟨q.1, q.2 + 1, none⟩ (.string t)).setCell ⟨q.1, q.2 + 2, none⟩ (.slice a2 n2 d2)).setCell ⟨q.1, q.2 + 3, none⟩ (.slice a3 n3 d3)).drew = W1 := hW1'
      clear hW1'
      go_wp2_with fail
      try rw [hW1e]
      clear hW1e f0 f1 f2 f3 g0 g1 g2 g3 p0 p1 p2 p3 hn0 hn1
      have hq1lt := World.block_lt_of_cell? W1 _ hq2
      have hb1lt := World.block_lt_of_cell? W1 _ b0
      have hs1lt := World.block_lt_of_cell? W1 _ m2
      have b0d : W1.drew.cell? ⟨wr.heap.size, 0, none⟩ = some (.pointer (some ⟨(adOf a).1, (adOf a).2, none⟩)) := b0
      have b1d : W1.drew.cell? ⟨wr.heap.size, 1, none⟩ = some (.pointer (some ⟨q.1, q.2, none⟩)) := b1
      have m2d : W1.drew.cell? ⟨(adOf a).1, (adOf a).2 + 2, none⟩ = some (.slice a2 n2 d2) := m2
      have KP : Hid (∀ wc x, RowKit.Below W1.drew.heap.size W1.drew wc → (wc.cell? ⟨wr.heap.size, 0, none⟩ = some (.pointer (some ⟨(adOf a).1, (adOf a).2, none⟩)) ∧ wc.cell? ⟨wr.heap.size, 1, none⟩ = some (.pointer (some ⟨q.1, q.2, none⟩)) ∧ wc.cell? ⟨(adOf a).1, (adOf a).2 + 2, none⟩ = some (.slice a2 n2 d2)) ∧ ((wc.setCell ⟨q.1, q.2 + 2, none⟩ x).cell? ⟨wr.heap.size, 0, none⟩ = some (.pointer (some ⟨(adOf a).1, (adOf a).2, none⟩)) ∧ (wc.setCell ⟨q.1, q.2 + 2, none⟩ x).cell? ⟨wr.heap.size, 1, none⟩ = some (.pointer (some ⟨q.1, q.2, none⟩)) ∧ (wc.setCell ⟨q.1, q.2 + 2, none⟩ x).cell? ⟨(adOf a).1, (adOf a).2 + 2, none⟩ = some (.slice a2 n2 d2))) := by
        refine Lib.hid fun wc x hb => ?_
        have e0 := (hb.cell (p := ⟨wr.heap.size, 0, none⟩) hb1lt).trans b0d
        have e1 := (hb.cell (p := ⟨wr.heap.size, 1, none⟩) hb1lt).trans b1d
        have e2 := (hb.cell (p := ⟨(adOf a).1, (adOf a).2 + 2, none⟩) hs1lt).trans m2d
        exact ⟨⟨e0, e1, e2⟩, (World.cell?_setCell_other _ ⟨q.1, q.2 + 2, none⟩ ⟨wr.heap.size, 0, none⟩ _ (fun e => hnq (congrArg Addr.block e).symm)).trans e0, (World.cell?_setCell_other _ ⟨q.1, q.2 + 2, none⟩ ⟨wr.heap.size, 1, none⟩ _ (fun e => hnq (congrArg Addr.block e).symm)).trans e1, (World.cell?_setCell_other _ ⟨q.1, q.2 + 2, none⟩ ⟨(adOf a).1, (adOf a).2 + 2, none⟩ _ (fun e => hnqa (congrArg Addr.block e).symm)).trans e2⟩
      clear b0 b1 m2 hb1lt hs1lt
      go_region_held3 (fun w' => w'.cell? ⟨wr.heap.size, 0, none⟩ = some (.pointer (some ⟨(adOf a).1, (adOf a).2, none⟩)) ∧ w'.cell? ⟨wr.heap.size, 1, none⟩ = some (.pointer (some ⟨q.1, q.2, none⟩)) ∧ w'.cell? ⟨(adOf a).1, (adOf a).2 + 2, none⟩ = some (.slice a2 n2 d2))
        (first | (with_reducible exact ⟨b0d, b1d, m2d⟩) | (with_reducible exact (KP.out wc .nilIface HC.out.below).1) | (with_reducible exact (KP.out wc _ HC.out.below).2))
        (first
          | (go_at_call 58; (with_reducible refine CL.out.mono ?_); rintro e wc h; obtain ⟨al, capl, D2, rfl, hC⟩ := h; have HC := Lib.hid hC; have cq2 := (HC.out.below.cell (p := ⟨q.1, q.2 + 2, none⟩) hq1lt).trans hq2; have fq2 : wc.frozen? ⟨q.1, q.2 + 2, none⟩ = false := (frozen_of_clean (HC.out.m.dst q.1 (HC.out.sub _ HDQ.out)).2); clear hC))
      obtain ⟨W2, hW2⟩ : ∃ W2, wc.setCell ⟨q.1, q.2 + 2, none⟩ (.slice al n2 capl) = W2 := ⟨_, rfl⟩
      have hm2 : CpM v w S W2 D2 tl G (.slice (some ⟨g, 0, none⟩) tl.length cap) := by rw [← hW2]; exact HC.out.m.write q.1 (q.2 + 2) _ (HC.out.sub _ HDQ.out) (HAP.out 2 (by omega))
      have hl2 : LAt W2 (Sx S w.heap.size D2) v (w.heap.size + 1) 0 := by rw [← hW2]; exact LAt.swap q.1 (q.2 + 2) _ _ cq2 HC.out.eqs v _ _ HC.out.whole
      have hg2 : wc.grownBy W2 (some q.1) := by rw [← hW2]; exact gb_set wc ⟨q.1, q.2 + 2, none⟩ _
      have hkp := KP.out wc (.slice al n2 capl) HC.out.below
      rw [hW2] at hkp
      obtain ⟨-, b0, b1, m2⟩ := hkp
      have m3w : W2.cell? ⟨(adOf a).1, (adOf a).2 + 3, none⟩ = some (.slice a3 n3 d3) := hg2.cell ((HC.out.below.cell (p := ⟨(adOf a).1, (adOf a).2 + 3, none⟩) (World.block_lt_of_cell? W1 _ m3)).trans m3) (fun e => hnqa (Option.some.inj e))
      have hq3w : W2.cell? ⟨q.1, q.2 + 3, none⟩ = some (.slice a3 n3 d3) := by
        rw [← hW2, World.cell?_setCell_other _ _ _ _ (by simp)]
        exact (HC.out.below.cell (p := ⟨q.1, q.2 + 3, none⟩) hq1lt).trans hq3
      have hq2w : W2.cell? ⟨q.1, q.2 + 2, none⟩ = some (.slice al n2 capl) := by rw [← hW2]; exact World.cell?_setCell_same' _ _ _ (by rw [cq2]; rfl)
      have HDQ2 := Lib.hid (HC.out.sub _ HDQ.out)
      have HDW2 := Lib.hid (HC.out.sub _ HDW.out)
      have hnew2 : n2 = 0 ∨ ∃ gl b o, al = some ⟨gl, 0, none⟩ ∧ a2 = some ⟨b, o, none⟩ ∧ b < w.heap.size ∧ gl ≠ q.1 ∧ W1.heap.size ≤ gl ∧ D2 gl ∧ ∀ j, j < n2 * 4 → W2.cell? ⟨gl, j, none⟩ = W2.cell? ⟨b, o + j, none⟩ := by
        rcases HC.out.new with e | ⟨gl, b, o, e1, e2, e3, e4, e5⟩
        · exact .inl e
        · have hglq : gl ≠ q.1 := fun e => by
            have h1 : q.1 < W1.heap.size := hq1lt
            have h2 : W1.heap.size ≤ gl := e3
            omega
          by_cases hn0 : n2 = 0
          · exact .inl hn0
          have hbn : b < w.heap.size := by
            obtain ⟨aS, cS, z1, z2⟩ := a.2.2.1.row2
            have z1' := (World.cell?_of_block (a := ⟨a.1.1.1, a.1.1.2 + 2, none⟩) (hm2.below.block _ (nd_lt a))).trans z1
            have z3 : W2.cell? ⟨a.1.1.1, a.1.1.2 + 2, none⟩ = some (.slice a2 n2 d2) := m2
            rw [z3] at z1'
            cases z1'
            rcases z2 with z2 | ⟨b'', o'', z4, z5, _⟩
            · rw [← hn2, z2] at hn0; simp at hn0
            · rw [e2] at z4
              cases z4
              exact hS b z5.1
          have hbq : b ≠ q.1 := fun e => by have := (HR.out.m.dst q.1 HDQ.out).1; omega
          refine .inr ⟨gl, b, o, e1, e2, hbn, hglq, e3, e4, fun j hj => ?_⟩
          have k1 : W2.cell? ⟨gl, j, none⟩ = wc.cell? ⟨gl, j, none⟩ := World.cell?_of_block (a := ⟨gl, j, none⟩) (hg2.block gl (HC.out.m.dlt e4) (fun e => hglq (Option.some.inj e)))
          have k2 : W2.cell? ⟨b, o + j, none⟩ = wc.cell? ⟨b, o + j, none⟩ := by rw [← hW2]; exact World.cell?_setCell_other _ _ _ _ (fun e => hbq (congrArg Addr.block e).symm)
          rw [k1, k2]
          exact e5 j hj
      have HNB2 : Hid (W2.heap[wr.heap.size]? = some (.cells #[.pointer (some ⟨(adOf a).1, (adOf a).2, none⟩), .pointer (some ⟨q.1, q.2, none⟩)] 67 (0, 0))) := Lib.hid ((hg2.block _ (Nat.lt_of_lt_of_le (World.block_lt_of_cell? W1 _ b0d) HC.out.below.size) (fun e => hnq (Option.some.inj e))).trans ((HC.out.below.block _ (World.block_lt_of_cell? W1 _ b0d)).trans HNB1.out))
      have HW12 : Hid (W1.heap.size ≤ W2.heap.size) := Lib.hid (Nat.le_trans HC.out.below.size hg2.size)
      have HNEW2 := Lib.hid hnew2
      have HM2 := Lib.hid hm2
      have HL2 := Lib.hid hl2
      have HLT := Lib.hid HC.out.below.size
      rw [hW2]
      clear hW2 hnew2 hg2 HC cq2 fq2 CL KP b0d b1d m2d hq2 hq3 m3 hq1lt HM1 HSTO HNB1 HNB HGA HNZ
      go_wp2_with fail
      have hq1lt := World.block_lt_of_cell? W2 _ hq2w
      have hb1lt := World.block_lt_of_cell? W2 _ b0
      have hs1lt := World.block_lt_of_cell? W2 _ m3w
      have hm2d : CpM v w S W2.drew D2 tl G (.slice (some ⟨g, 0, none⟩) tl.length cap) := hm2.kept (gb_drewN W2 1 none) (by simp) (by simp) (.inr (by simp [Value.ownBlock])) (by simp) (by simp)
      have hl2d : LAt W2.drew (Sx S w.heap.size D2) v (w.heap.size + 1) 0 := hm2.lat (.inr HDW2.out) hl2 (gb_drewN W2 1 none) (by simp) (by simp)
      have CL := Lib.hid (hS4.out W2.drew D2 hm2d HDQ2.out HDW2.out hl2d m3w)
      have b0d : W2.drew.cell? ⟨wr.heap.size, 0, none⟩ = some (.pointer (some ⟨(adOf a).1, (adOf a).2, none⟩)) := b0
      have b1d : W2.drew.cell? ⟨wr.heap.size, 1, none⟩ = some (.pointer (some ⟨q.1, q.2, none⟩)) := b1
      have m3d : W2.drew.cell? ⟨(adOf a).1, (adOf a).2 + 3, none⟩ = some (.slice a3 n3 d3) := m3w
      have KP : Hid (∀ wc x, RowKit.Below W2.drew.heap.size W2.drew wc → (wc.cell? ⟨wr.heap.size, 0, none⟩ = some (.pointer (some ⟨(adOf a).1, (adOf a).2, none⟩)) ∧ wc.cell? ⟨wr.heap.size, 1, none⟩ = some (.pointer (some ⟨q.1, q.2, none⟩)) ∧ wc.cell? ⟨(adOf a).1, (adOf a).2 + 3, none⟩ = some (.slice a3 n3 d3)) ∧ ((wc.setCell ⟨q.1, q.2 + 3, none⟩ x).cell? ⟨wr.heap.size, 0, none⟩ = some (.pointer (some ⟨(adOf a).1, (adOf a).2, none⟩)) ∧ (wc.setCell ⟨q.1, q.2 + 3, none⟩ x).cell? ⟨wr.heap.size, 1, none⟩ = some (.pointer (some ⟨q.1, q.2, none⟩)) ∧ (wc.setCell ⟨q.1, q.2 + 3, none⟩ x).cell? ⟨(adOf a).1, (adOf a).2 + 3, none⟩ = some (.slice a3 n3 d3))) := by
        refine Lib.hid fun wc x hb => ?_
        have e0 := (hb.cell (p := ⟨wr.heap.size, 0, none⟩) hb1lt).trans b0d
        have e1 := (hb.cell (p := ⟨wr.heap.size, 1, none⟩) hb1lt).trans b1d
        have e2 := (hb.cell (p := ⟨(adOf a).1, (adOf a).2 + 3, none⟩) hs1lt).trans m3d
        exact ⟨⟨e0, e1, e2⟩, (World.cell?_setCell_other _ ⟨q.1, q.2 + 3, none⟩ ⟨wr.heap.size, 0, none⟩ _ (fun e => hnq (congrArg Addr.block e).symm)).trans e0, (World.cell?_setCell_other _ ⟨q.1, q.2 + 3, none⟩ ⟨wr.heap.size, 1, none⟩ _ (fun e => hnq (congrArg Addr.block e).symm)).trans e1, (World.cell?_setCell_other _ ⟨q.1, q.2 + 3, none⟩ ⟨(adOf a).1, (adOf a).2 + 3, none⟩ _ (fun e => hnqa (congrArg Addr.block e).symm)).trans e2⟩
      have M2 := Lib.hid m2
      clear b0 b1 m3w hb1lt hs1lt hm2 hl2 hm2d hl2d m2
      go_region_held3 (fun w' => w'.cell? ⟨wr.heap.size, 0, none⟩ = some (.pointer (some ⟨(adOf a).1, (adOf a).2, none⟩)) ∧ w'.cell? ⟨wr.heap.size, 1, none⟩ = some (.pointer (some ⟨q.1, q.2, none⟩)) ∧ w'.cell? ⟨(adOf a).1, (adOf a).2 + 3, none⟩ = some (.slice a3 n3 d3))
        (first | (with_reducible exact ⟨b0d, b1d, m3d⟩) | (with_reducible exact (KP.out wd .nilIface HC.out.below).1) | (with_reducible exact (KP.out wd _ HC.out.below).2))
        (first
          | (go_at_call 59; (with_reducible refine CL.out.mono ?_); rintro e wd h; obtain ⟨af, capf, D3, rfl, hC⟩ := h; have HC := Lib.hid hC; have cq3 := (HC.out.below.cell (p := ⟨q.1, q.2 + 3, none⟩) hq1lt).trans hq3w; have fq3 : wd.frozen? ⟨q.1, q.2 + 3, none⟩ = false := (frozen_of_clean (HC.out.m.dst q.1 (HC.out.sub _ HDQ2.out)).2); clear hC))
      obtain ⟨W3, hW3⟩ : ∃ W3, wd.setCell ⟨q.1, q.2 + 3, none⟩ (.slice af n3 capf) = W3 := ⟨_, rfl⟩
      have hm3 : CpM v w S W3 D3 tl G (.slice (some ⟨g, 0, none⟩) tl.length cap) := by rw [← hW3]; exact HC.out.m.write q.1 (q.2 + 3) _ (HC.out.sub _ HDQ2.out) (HAP.out 3 (by omega))
      have hl3 : LAt W3 (Sx S w.heap.size D3) v (w.heap.size + 1) 0 := by rw [← hW3]; exact LAt.swap q.1 (q.2 + 3) _ _ cq3 HC.out.eqs v _ _ HC.out.whole
      have hg3 : wd.grownBy W3 (some q.1) := by rw [← hW3]; exact gb_set wd ⟨q.1, q.2 + 3, none⟩ _
      have hkp := KP.out wd (.slice af n3 capf) HC.out.below
      rw [hW3] at hkp
      obtain ⟨-, b0, b1, m3⟩ := hkp
      have kpd : ∀ {b o : Nat} {c : Value}, b ≠ q.1 → W2.cell? ⟨b, o, none⟩ = some c → W3.cell? ⟨b, o, none⟩ = some c := fun {b o c} hb h => hg3.cell ((HC.out.below.cell (p := ⟨b, o, none⟩) (World.block_lt_of_cell? W2 _ h)).trans h) (fun e => hb (Option.some.inj e))
      have m2 := kpd hnqa M2.out
      have hq2 : W3.cell? ⟨q.1, q.2 + 2, none⟩ = some (.slice al n2 capl) := by
        rw [← hW3, World.cell?_setCell_other _ _ _ _ (by simp)]
        exact (HC.out.below.cell (p := ⟨q.1, q.2 + 2, none⟩) hq1lt).trans hq2w
      have hq3 : W3.cell? ⟨q.1, q.2 + 3, none⟩ = some (.slice af n3 capf) := by rw [← hW3]; exact World.cell?_setCell_same' _ _ _ (by rw [cq3]; rfl)
      have HDQ3 := Lib.hid (HC.out.sub _ HDQ2.out)
      have HDW3 := Lib.hid (HC.out.sub _ HDW2.out)
      have hblk : ∀ b, b < W2.heap.size → b ≠ q.1 → W3.heap[b]? = W2.heap[b]? := fun b hb hq => (hg3.block b (Nat.lt_of_lt_of_le hb HC.out.below.size) (fun e => hq (Option.some.inj e))).trans (HC.out.below.block b hb)
      have hnewL : n2 = 0 ∨ ∃ gl b o, al = some ⟨gl, 0, none⟩ ∧ a2 = some ⟨b, o, none⟩ ∧ b < w.heap.size ∧ W1.heap.size ≤ gl ∧ gl < W2.heap.size ∧ D3 gl ∧ ∀ j, j < n2 * 4 → W3.cell? ⟨gl, j, none⟩ = W3.cell? ⟨b, o + j, none⟩ := by
        rcases HNEW2.out with e | ⟨gl, b, o, e1, e2, e3, e4, e5, e6, e7⟩
        · exact .inl e
        · have hglt := HM2.out.dlt e6
          have hbq : b ≠ q.1 := fun e => by have := (HR.out.m.dst q.1 HDQ.out).1; omega
          refine .inr ⟨gl, b, o, e1, e2, e3, e5, hglt, HC.out.sub _ e6, fun j hj => ?_⟩
          have k1 : W3.cell? ⟨gl, j, none⟩ = W2.cell? ⟨gl, j, none⟩ := World.cell?_of_block (a := ⟨gl, j, none⟩) (hblk gl hglt e4)
          have k2 : W3.cell? ⟨b, o + j, none⟩ = W2.cell? ⟨b, o + j, none⟩ := World.cell?_of_block (a := ⟨b, o + j, none⟩) (hblk b (Nat.lt_of_lt_of_le e3 HM2.out.below.size) hbq)
          rw [k1, k2]
          exact e7 j hj
      have hnewF : n3 = 0 ∨ ∃ gf b o, af = some ⟨gf, 0, none⟩ ∧ a3 = some ⟨b, o, none⟩ ∧ b < w.heap.size ∧ W2.heap.size ≤ gf ∧ D3 gf ∧ ∀ j, j < n3 * 5 → W3.cell? ⟨gf, j, none⟩ = W3.cell? ⟨b, o + j, none⟩ := by
        rcases HC.out.new with e | ⟨gl, b, o, e1, e2, e3, e4, e5⟩
        · exact .inl e
        · have hglq : gl ≠ q.1 := fun e => by
            have h1 : q.1 < W2.heap.size := hq1lt
            have h2 : W2.heap.size ≤ gl := e3
            omega
          by_cases hn0 : n3 = 0
          · exact .inl hn0
          have hbn : b < w.heap.size := by
            obtain ⟨aS, cS, z1, z2⟩ := a.2.2.1.row3
            have z1' := (World.cell?_of_block (a := ⟨a.1.1.1, a.1.1.2 + 3, none⟩) (hm3.below.block _ (nd_lt a))).trans z1
            have z3 : W3.cell? ⟨a.1.1.1, a.1.1.2 + 3, none⟩ = some (.slice a3 n3 d3) := m3
            rw [z3] at z1'
            cases z1'
            rcases z2 with z2 | ⟨b'', o'', z4, z5, _⟩
            · rw [← hn3, z2] at hn0; simp at hn0
            · rw [e2] at z4
              cases z4
              exact hS b z5.1
          have hbq : b ≠ q.1 := fun e => by have := (HR.out.m.dst q.1 HDQ.out).1; omega
          refine .inr ⟨gl, b, o, e1, e2, hbn, e3, e4, fun j hj => ?_⟩
          have k1 : W3.cell? ⟨gl, j, none⟩ = wd.cell? ⟨gl, j, none⟩ := World.cell?_of_block (a := ⟨gl, j, none⟩) (hg3.block gl (HC.out.m.dlt e4) (fun e => hglq (Option.some.inj e)))
          have k2 : W3.cell? ⟨b, o + j, none⟩ = wd.cell? ⟨b, o + j, none⟩ := by rw [← hW3]; exact World.cell?_setCell_other _ _ _ _ (fun e => hbq (congrArg Addr.block e).symm)
          rw [k1, k2]
          exact e5 j hj
      have HNB3 : Hid (W3.heap[wr.heap.size]? = some (.cells #[.pointer (some ⟨(adOf a).1, (adOf a).2, none⟩), .pointer (some ⟨q.1, q.2, none⟩)] 67 (0, 0))) := Lib.hid ((hblk _ (World.block_lt_of_cell? W2 _ b0d) hnq).trans HNB2.out)
      have HNL := Lib.hid hnewL
      have HNF := Lib.hid hnewF
      have HM3 := Lib.hid hm3
      have HL3 := Lib.hid hl3
      rw [hW3]
      clear hW3 hnewL hnewF hg3 HC cq3 fq3 CL KP b0d b1d m3d hq2w hq3w hq1lt HM2 HL2 M2 hm3 hl3 kpd hblk HNEW2
      have CI := Lib.hid (isSingle_c m2 m3)
      by_cases hsg : n2 = 0 ∧ n3 = 0
      · rw [decide_eq_true hsg] at CI
        go_wp2_with (go_at_call 38; (with_reducible refine CI.out.mono ?_); rintro e w4 ⟨rfl, hw4⟩; obtain rfl : W3 = w4 := hw4.symm)
        go_roundg (ceWork tl)
        case rel => exact ⟨D3, tl, G, _, rfl, rfl, CpI.of hS ⟨HM3.out, HDW3.out, HL3.out⟩, by show ceWork tl ≤ 2 * v.size; have := HWK.out; rw [ceWork_cons] at this; omega⟩
        case measure =>
          have h1 := HGK.out
          have h2 := ceW_pos ((a, some q) : CE v w S)
          rw [ceWork_cons] at h1
          omega
      · rw [decide_eq_false hsg] at CI
        obtain ⟨W4, hmu, hpm4, hg4, hz4⟩ := HM3.out.map.store (P := Tryz.prog) W3 Tryz.underlying45 hj0 (by rw [hjz]; decide) Tryz.underlying98 (x := adOf a) (a.2.2.2.1.eq (HM3.out.below.block _ (nd_lt a))) (pv q)
        have hmu' : (Instr.mapUpdate 98 (.map (some (w.heap.size + 1 + 1))) (.pointer (some ⟨(adOf a).1, (adOf a).2, none⟩)) (.pointer (some ⟨q.1, q.2, none⟩))).run Tryz.prog W3 = .ok () W4 := hmu
        have hq0 := (HR.out.m.dst q.1 HDQ.out).1
        have hnbl : wr.heap.size < W3.heap.size := World.block_lt_of_cell? W3 _ b0
        have hwrl : w.heap.size + 3 ≤ wr.heap.size := by
          have := HR.out.m.rowBlk g rfl
          obtain ⟨h1, c, hc⟩ := this
          have := (Array.getElem?_eq_some_iff.1 hc).1
          omega
        have k4 : ∀ {b o : Nat} {c : Value}, b ≠ w.heap.size + 2 → W3.cell? ⟨b, o, none⟩ = some c → W4.cell? ⟨b, o, none⟩ = some c := fun {b o c} hb h => hg4.cell h (fun e => hb (Option.some.inj e))
        have nb4 : wr.heap.size ≠ w.heap.size + 2 := by omega
        have b0' := k4 nb4 b0
        have b1' := k4 nb4 b1
        have m2' := k4 (by have := nd_lt a; omega) m2
        have m3' := k4 (by have := nd_lt a; omega) m3
        have hqm : q.1 ≠ w.heap.size + 2 := HM3.out.dMap HDQ3.out
        have hq2' := k4 hqm hq2
        have hq3' := k4 hqm hq3
        have hrow4 : W4.ownsRow (w.heap.size + 3) 67 2 (.slice (some ⟨g, 0, none⟩) tl.length cap) tl.length (ceRow tl) := HM3.out.row.kept hg4 (.inr HM3.out.rowMap)
        obtain ⟨i0, hi0, hz0, hz1, hz2⟩ := info_parts info_pair
        have hlen0 := ceLen ((a, some q) :: tl)
        have hwk0 := HWK.out
        rw [List.length_cons] at hlen0
        have hb3 : w.heap.size + 3 ≤ W4.heap.size := by have := hg4.size; omega
        obtain ⟨tn, htn⟩ : ∃ tn, tl.length = tn := ⟨_, rfl⟩
        have hm1 : tn + 1 ≤ maxLen := by unfold maxLen; omega
        have hb16 : (tn + 1) * 16 ≤ 140737488355328 := by omega
        rw [htn] at hrow4
        have HTN := Lib.hid htn
        have HPM4 := Lib.hid hpm4
        have HG4 := Lib.hid hg4
        have HROW4 := Lib.hid hrow4
        have HHL : Hid (tn + 1 ≤ 2 * v.size) := Lib.hid (by omega)
        rw [htn]
        clear hmu hpm4 hg4 hz4 k4 hlen0 hwk0 htn
        go_wp2_with first
          | (go_at_call 38; (with_reducible refine CI.out.mono ?_); rintro e w4 ⟨rfl, hw4⟩; obtain rfl : W3 = w4 := hw4.symm)
          | (at_builtin; refine wpList_append_own _ rfl _ _ 68 rfl (w.heap.size + 3) 67 i0 (.agg #[.pointer none, .pointer none]) 2 16 Tryz.underlying68 hi0 hz0 hz1 hz2 rfl (by decide) _ _ _ rfl (hrow4.alloc _) ⟨W4.heap.size, 0, none⟩ 1 1 [.pointer (some ⟨(adOf a).1, (adOf a).2, none⟩), .pointer none] rfl rfl (World.news_of_block (cs := #[.pointer (some ⟨(adOf a).1, (adOf a).2, none⟩), .pointer none]) (t := 67) (fr := (0, 0)) (heap_alloc_new W4 _)) (by simp [Value.oneCell']) hm1 hb16 (by simp; omega) ?_; intro v' W5 hown' hgrow _; have HOWN := Lib.hid hown'; have HGROW := Lib.hid hgrow; clear hown' hgrow; refine Hid.out ?_)
        refine Lib.hid ?_
        have hsv3 : (Value.slice (some ⟨g, 0, none⟩) tn cap).ownBlock = (Value.slice (some ⟨g, 0, none⟩) tl.length cap).ownBlock := rfl
        have hown5 : W5.ownsRow (w.heap.size + 3) 67 2 v' (tl.length + 1) (ceRow tl ++ [pv (adOf a), .pointer none]) := by rw [HTN.out]; exact HOWN.out
        have hgrow5 : (W4.alloc (.cells #[.pointer (some ⟨(adOf a).1, (adOf a).2, none⟩), .pointer none] 67)).grownBy W5 (Value.slice (some ⟨g, 0, none⟩) tl.length cap).ownBlock := HGROW.out
        have HM5 := Lib.hid (HM3.out.open HR.out.falls HG4.out HPM4.out _ hgrow5 hown5)
        have hgn : (Value.slice (some ⟨g, 0, none⟩) tl.length cap).ownBlock = some g := rfl
        have hrb := HM3.out.rowBlk g rfl
        have hgwr : g < wr.heap.size := by
          obtain ⟨_, c, hc⟩ := HR.out.m.rowBlk g rfl
          exact (Array.getElem?_eq_some_iff.1 hc).1
        have hk5 : ∀ b, b < W3.heap.size → b ≠ w.heap.size + 2 → b ≠ g → W5.heap[b]? = W3.heap[b]? := fun b hb h1 h2 =>
          ((hgrow5.block b (Nat.lt_of_lt_of_le (Nat.lt_of_lt_of_le hb HG4.out.size) (by simp)) (fun e => h2 (Option.some.inj e))).trans (Below.heap_alloc W4 _ b (Nat.lt_of_lt_of_le hb HG4.out.size))).trans (HG4.out.block b hb (fun e => h1 (Option.some.inj e)))
        have hnb5 := (hk5 wr.heap.size hnbl nb4 (by omega)).trans HNB3.out
        have hne5 : v'.ownBlock ≠ some wr.heap.size := by
          refine row_not_pair hown5 (by omega) hnb5 ?_
          by_cases h0 : tl.length = 0
          · left
            have : tl = [] := List.length_eq_zero_iff.1 h0
            subst this
            simp [ceRow]
          · exact .inr (by omega)
        have hd3n : ∀ b, D3 b → b < W3.heap.size ∧ b ≠ w.heap.size + 2 ∧ b ≠ g := fun b hb => ⟨HM3.out.dlt hb, HM3.out.dMap hb, fun e => HM3.out.dRow hb (by rw [e]; rfl)⟩
        have hl5 : LAt W5 (Sx S w.heap.size D3) v (w.heap.size + 1) 0 := by
          refine LAt.move (S := Sx S w.heap.size D3) (fun b hb hs => ⟨?_, hs⟩) (.inr HDW3.out) HL3.out
          rcases hs with e | e
          · exact hk5 b hb (by have := e.2; omega) (by have := hrb.1; have := e.2; omega)
          · exact hk5 b hb (hd3n b e).2.1 (hd3n b e).2.2
        have c5 : ∀ {b o : Nat} {c : Value}, b < W3.heap.size → b ≠ w.heap.size + 2 → b ≠ g → W3.cell? ⟨b, o, none⟩ = some c → W5.cell? ⟨b, o, none⟩ = some c := fun {b o c} h0 h1 h2 h => (World.cell?_of_block (a := ⟨b, o, none⟩) (hk5 b h0 h1 h2)).trans h
        have B0 := c5 hnbl nb4 (by omega) b0
        have B1 := c5 hnbl nb4 (by omega) b1
        have hal := nd_lt a
        have hal3 : (adOf a).1 < W3.heap.size := Nat.lt_of_lt_of_le hal HM3.out.below.size
        have M2 := c5 hal3 (by omega) (by have := hrb.1; omega) m2
        have M3 := c5 hal3 (by omega) (by have := hrb.1; omega) m3
        have hqd := hd3n q.1 HDQ3.out
        have Q2 := c5 hqd.1 hqd.2.1 hqd.2.2 hq2
        have Q3 := c5 hqd.1 hqd.2.1 hqd.2.2 hq3
        have hS' : ∀ b, S b → some b ≠ none := by simp
        obtain ⟨kl, hkl⟩ : ∃ kl, kidsL v w S none hS' a = kl := ⟨_, rfl⟩
        obtain ⟨kf, hkf⟩ : ∃ kf, kidsF v w S none hS' a = kf := ⟨_, rfl⟩
        have hkln : kl.length = n2 := by rw [← hkl, kidsL_len, hn2]
        have hkfn : kf.length = n3 := by rw [← hkf, kidsF_len, hn3]
        -- the copies' places
        obtain ⟨gl, hGL⟩ : ∃ gl, n2 = 0 ∨ ∃ b o, al = some ⟨gl, 0, none⟩ ∧ a2 = some ⟨b, o, none⟩ ∧ W1.heap.size ≤ gl ∧ gl < W2.heap.size ∧ D3 gl ∧ ∀ i (hi : i < kl.length), adOf kl[i] = (b, o + i * 4) ∧ SameC W5 (gl, i * 4) (adOf kl[i]) := by
          rcases HNL.out with e | ⟨gl, b, o, e1, e2, e3, e4, e5, e6, e7⟩
          · exact ⟨0, .inl e⟩
          · refine ⟨gl, .inr ⟨b, o, e1, e2, e4, e5, e6, fun i hi => ?_⟩⟩
            have had : adOf kl[i] = (b, o + i * 4) := by
              subst hkl
              have hw2 : w.cell? ⟨(adOf a).1, (adOf a).2 + 2, none⟩ = some (.slice (some ⟨b, o, none⟩) n2 d2) := by
                rw [← e2, ← m2]
                exact (World.cell?_of_block (a := ⟨(adOf a).1, (adOf a).2 + 2, none⟩) (HM3.out.below.block _ hal)).symm
              exact kidsL_ad hS' a hw2 i hi
            refine ⟨had, fun j hj => ?_⟩
            rw [had]
            have hg := hd3n gl e6
            have hb3 : b < W3.heap.size := Nat.lt_of_lt_of_le e3 HM3.out.below.size
            have x1 := World.cell?_of_block (a := ⟨gl, i * 4 + j, none⟩) (hk5 gl hg.1 hg.2.1 hg.2.2)
            have x2 := World.cell?_of_block (a := ⟨b, o + i * 4 + j, none⟩) (hk5 b hb3 (by omega) (by have := hrb.1; omega))
            have x3 := e7 (i * 4 + j) (by rw [← hkln]; omega)
            rw [show o + (i * 4 + j) = o + i * 4 + j by omega] at x3
            exact (x1.trans x3).trans x2.symm
        obtain ⟨gf, hGF⟩ : ∃ gf, n3 = 0 ∨ ∃ b o, af = some ⟨gf, 0, none⟩ ∧ a3 = some ⟨b, o, none⟩ ∧ W2.heap.size ≤ gf ∧ D3 gf ∧ ∀ i (hi : i < kf.length), adOf kf[i] = (b, o + i * 5 + 1) ∧ SameC W5 (gf, i * 5 + 1) (adOf kf[i]) := by
          rcases HNF.out with e | ⟨gf, b, o, e1, e2, e3, e4, e6, e7⟩
          · exact ⟨0, .inl e⟩
          · refine ⟨gf, .inr ⟨b, o, e1, e2, e4, e6, fun i hi => ?_⟩⟩
            have had : adOf kf[i] = (b, o + i * 5 + 1) := by
              subst hkf
              have hw2 : w.cell? ⟨(adOf a).1, (adOf a).2 + 3, none⟩ = some (.slice (some ⟨b, o, none⟩) n3 d3) := by
                rw [← e2, ← m3]
                exact (World.cell?_of_block (a := ⟨(adOf a).1, (adOf a).2 + 3, none⟩) (HM3.out.below.block _ hal)).symm
              exact kidsF_ad hS' a hw2 i hi
            refine ⟨had, fun j hj => ?_⟩
            rw [had]
            have hg := hd3n gf e6
            have hb3 : b < W3.heap.size := Nat.lt_of_lt_of_le e3 HM3.out.below.size
            have x1 := World.cell?_of_block (a := ⟨gf, i * 5 + 1 + j, none⟩) (hk5 gf hg.1 hg.2.1 hg.2.2)
            have x2 := World.cell?_of_block (a := ⟨b, o + i * 5 + 1 + j, none⟩) (hk5 b hb3 (by omega) (by have := hrb.1; omega))
            have x3 := e7 (i * 5 + 1 + j) (by rw [← hkfn]; omega)
            rw [show o + (i * 5 + 1 + j) = o + i * 5 + 1 + j by omega] at x3
            exact (x1.trans x3).trans x2.symm
        have HGL := Lib.hid hGL
        have HGF := Lib.hid hGF
        have HKLN := Lib.hid hkln
        have HKFN := Lib.hid hkfn
        have HFL : Hid (∀ c ∈ kl, c.1.2.size < a.1.2.size) := Lib.hid fun c hc => kidsL_fall hS' a c (by rw [hkl]; exact hc)
        have HFF : Hid (∀ c ∈ kf, c.1.2.size < a.1.2.size) := Lib.hid fun c hc => kidsF_fall hS' a c (by rw [hkf]; exact hc)
        have HPW : Hid (ceWork (pushN kf (fun i => (gf, i * 5 + 1)) kf.length) + ceWork (pushN kl (fun i => (gl, i * 4)) kl.length) + 2 = 2 * a.1.2.size) := Lib.hid (by rw [← hkf, ← hkl]; exact parts_work hS' a _ _)
        have HL5 := Lib.hid hl5
        have HNB5 := Lib.hid hnb5
        obtain ⟨g5, cap5, rfl⟩ := ownsRow_succ hown5
        have HNE5 := Lib.hid hne5
        have HP5 : Hid (PushS v w S W5 D3 a tl (fun p => if p = adOf a then some q else G p) wr.heap.size (pushN kl (fun i => (gl, i * 4)) 0) W5 (.slice (some ⟨g5, 0, none⟩) (tl.length + 1) cap5)) := Lib.hid ⟨HM5.out, hne5, fun _ _ => rfl⟩
        have HF := Lib.hid HR.out.falls
        have HDR : Hid (∀ (z : NdT v w S none) q', (z, some q') ∈ tl → q'.1 < wr.heap.size) := Lib.hid fun z q' hz => HR.out.m.dlt (HR.out.m.pend z q' hz).1
        have HQW : Hid (q.1 ≠ wr.heap.size ∧ D3 q.1 ∧ (adOf a).1 < w.heap.size) := Lib.hid ⟨fun e => hnq e.symm, HDQ3.out, hal⟩
        have HW5N : Hid (wr.heap.size < W5.heap.size) := Lib.hid (Array.getElem?_eq_some_iff.1 hnb5).1
        have hn2b : n2 ≤ 549755813888 := by have := (JV.length_list a.1.2).1; have := a.2.1.size; omega
        have hn3b : n3 ≤ 549755813888 := by have := (JV.length_list a.1.2).2; have := a.2.1.size; omega
        have htnb : tn ≤ 1099511627776 := by have := HHL.out; omega
        clear hsv3 hown5 hgrow5 hgn hrb hgwr hk5 hnb5 hne5 hd3n hl5 c5 hal3 hqd hS' hGL hGF hkl hkf hkln hkfn HROW4 HOWN HGROW b0 b1 m2 m3 hq2 hq3 b0' b1' m2' m3' hq2' hq3' hmu' CI hrow4 hb3 hm1 hb16 hqm nb4 hnbl hq0 hc0 hc1 hcap1 hcap2 hcap
        generalize wr.heap.size = nb at *
        go_wp2_with fail
        go_loopw [5, 96] (fun s5 s96 wx => ∃ (k : Nat) (sv' : Value), k ≤ n2 ∧ s96 = .int .i64 k ∧ s5 = sv' ∧ Hid (PushS v w S W5 D3 a tl (fun p => if p = adOf a then some q else G p) nb (pushN kl (fun i => (gl, i * 4)) k) wx sv')) (fun _ s96 _ => n2 - (intOf s96).toNat)
        case atStart => exact ⟨0, _, Nat.zero_le _, rfl, rfl, HP5.out⟩
        case round =>
          obtain ⟨k, sv', hk, hs96, hs5, HP⟩ := hrel
          have hs5' := hs5.symm
          subst hs96
          clear hs5
          subst hs5'
          by_cases hlt : k < n2
          · rcases HGL.out with h | ⟨b, o, hal', ha2', x3, x4, x5, x6⟩
            · omega
            subst hal'
            subst ha2'
            have hkk : k < kl.length := by rw [HKLN.out]; exact hlt
            have had := (x6 k hkk).1
            have c0 := HP.out.cell (.inr (.inr rfl)) B0
            have c1 := HP.out.cell (.inr (.inr rfl)) B1
            have c2 := HP.out.cell (.inl HQW.out.2.2) M2
            have c3 := HP.out.cell (.inr (.inl HQW.out.2.1)) Q2
            have hrw := HP.out.m.row
            have hll : (pushN kl (fun i => (gl, i * 4)) k ++ (a, none) :: tl : List (CE v w S)).length = k + (tn + 1) := by rw [List.length_append, pushN_len _ _ _ (Nat.le_of_lt hkk), List.length_cons, HTN.out]
            rw [hll] at hrw
            have HLL := Lib.hid hll
            have HX6 := Lib.hid x6
            have HX5 := Lib.hid x5
            have HX34 := Lib.hid (And.intro x3 x4)
            have HAD := Lib.hid had
            clear x3 x4 x5 x6 hll had
            go_wp2_with fail
            have hbs : w.heap.size + 3 ≤ wr.heap.size := by
              obtain ⟨_, c, hc⟩ := HP.out.m.map
              have := (Array.getElem?_eq_some_iff.1 hc.1).1
              omega
            have FIN : Hid (∀ (g6 cap6 : Nat) (W6 : World), W6.ownsRow (w.heap.size + 3) 67 2 (.slice (some ⟨g6, 0, none⟩) (k + (tn + 1) + 1) cap6) (k + (tn + 1) + 1) (ceRow (pushN kl (fun i => (gl, i * 4)) k ++ (a, none) :: tl) ++ [.pointer (some ⟨b, o + k * 4, none⟩), .pointer (some ⟨gl, k * 4, none⟩)]) → ((wr.alloc (.cells #[.pointer (some ⟨b, o + k * 4, none⟩), .pointer (some ⟨gl, k * 4, none⟩)] 67)).drew).grownBy W6 sv'.ownBlock → PushS v w S W5 D3 a tl (fun p => if p = adOf a then some q else G p) nb (pushN kl (fun i => (gl, i * 4)) (k + 1)) W6 (.slice (some ⟨g6, 0, none⟩) (k + (tn + 1) + 1) cap6)) := by
              refine Lib.hid fun g6 cap6 W6 hown6 hgrow6 => ?_
              have hnw : nb < wr.heap.size := by
                have h1 := (HP.out.keep nb (.inr (.inr rfl))).trans HNB5.out
                exact (Array.getElem?_eq_some_iff.1 h1).1
              rw [pushN_succ _ _ k hkk]
              refine HP.out.step HNB5.out hnw kl[k] (gl, k * 4) HX5.out (HX6.out k hkk).2 (HFL.out _ (List.getElem_mem _)) pushN_some HF.out (fun z q' hz => ?_) _ (gb_trans (gb_drewN _ 1 _) hgrow6) (by rw [HLL.out, HAD.out]; exact hown6)
              rcases List.mem_append.1 hz with e | e
              · obtain ⟨i, hi, e2⟩ := pushN_mem e
                simp only [Option.some.injEq] at e2
                rw [e2]
                exact .inr (.inr (show i * 4 + 4 ≤ k * 4 by omega))
              · rcases List.mem_cons.1 e with e | e
                · cases e
                · have h1 := HDR.out z q' e
                  have h2 := HWL.out
                  have h3 := HX34.out.1
                  exact .inl (show gl ≠ q'.1 by omega)
            go_region_law (refine step_append_lies _ (by rfl) _ _ _ (by rfl) (w.heap.size + 3) 67 i0 _ 2 16 Tryz.underlying68 hi0 hz0 hz1 hz2 rfl (by omega) sv' (k + (tn + 1)) (ceRow (pushN kl (fun i => (gl, i * 4)) k ++ (a, none) :: tl)) (by rfl) ((hrw.alloc _).drew) ⟨wr.heap.size, 0, none⟩ 1 1 [.pointer (some ⟨b, o + k * 4, none⟩), .pointer (some ⟨gl, k * 4, none⟩)] (by rfl) (by rfl) (World.news_of_block (cs := #[.pointer (some ⟨b, o + k * 4, none⟩), .pointer (some ⟨gl, k * 4, none⟩)]) (t := 67) (fr := (0, 0)) (heap_alloc_new wr _)) (by simp [Value.oneCell']) (by omega) (by unfold maxLen; omega) (by omega) (by simp; omega) (wr.heap.size + 1) (by simp) ?_; intro g6 cap6 W6 hown6 hgrow6 _ _; have HF6 := Lib.hid (FIN.out g6 cap6 W6 hown6 hgrow6); clear hown6 hgrow6)
            all_goals go_wp2_with fail
            all_goals exact ⟨⟨k + 1, _, hlt, by simp, rfl, HF6.out⟩, by simp [intOf]; omega⟩
          · have hkn : n2 = k := by omega
            subst hkn
            have c0 := HP.out.cell (.inr (.inr rfl)) B0
            have c2 := HP.out.cell (.inl HQW.out.2.2) M3
            have HP3 : Hid (PushS v w S W5 D3 a tl (fun p => if p = adOf a then some q else G p) nb (pushN kf (fun i => (gf, i * 5 + 1)) 0 ++ pushN kl (fun i => (gl, i * 4)) n2) wr sv') := HP
            go_wp2_with fail
            go_loopw [5, 124] (fun s5 s124 wx => ∃ (j : Nat) (sv' : Value), j ≤ n3 ∧ s124 = .int .i64 j ∧ s5 = sv' ∧ Hid (PushS v w S W5 D3 a tl (fun p => if p = adOf a then some q else G p) nb (pushN kf (fun i => (gf, i * 5 + 1)) j ++ pushN kl (fun i => (gl, i * 4)) n2) wx sv')) (fun _ s124 _ => n3 - (intOf s124).toNat)
            case atStart => exact ⟨0, _, Nat.zero_le _, rfl, rfl, HP3.out⟩
            case round =>
              clear HP c0 c2 HP3 hk hlt
              obtain ⟨k, sv', hk, hs124, hs5, HP⟩ := hrel
              have hs5' := hs5.symm
              subst hs124
              clear hs5
              subst hs5'
              by_cases hlt : k < n3
              · rcases HGF.out with h | ⟨b, o, haf', ha3', x3, x5, x6⟩
                · omega
                subst haf'
                subst ha3'
                have hkk : k < kf.length := by rw [HKFN.out]; exact hlt
                have had := (x6 k hkk).1
                have c0 := HP.out.cell (.inr (.inr rfl)) B0
                have c1 := HP.out.cell (.inr (.inr rfl)) B1
                have c2 := HP.out.cell (.inl HQW.out.2.2) M3
                have c3 := HP.out.cell (.inr (.inl HQW.out.2.1)) Q3
                have hrw := HP.out.m.row
                have hll : ((pushN kf (fun i => (gf, i * 5 + 1)) k ++ pushN kl (fun i => (gl, i * 4)) n2) ++ (a, none) :: tl : List (CE v w S)).length = k + (n2 + (tn + 1)) := by rw [List.length_append, List.length_append, pushN_len _ _ _ (Nat.le_of_lt hkk), pushN_len _ _ _ (Nat.le_of_eq HKLN.out.symm), List.length_cons, HTN.out]; omega
                rw [hll] at hrw
                have HLL := Lib.hid hll
                have HX6 := Lib.hid x6
                have HX5 := Lib.hid x5
                have HX34 := Lib.hid x3
                have HAD := Lib.hid had
                clear x3 x5 x6 hll had
                go_wp2_with fail
                have hbs : w.heap.size + 3 ≤ wr.heap.size := by
                  obtain ⟨_, c, hc⟩ := HP.out.m.map
                  have := (Array.getElem?_eq_some_iff.1 hc.1).1
                  omega
                have FIN : Hid (∀ (g6 cap6 : Nat) (W6 : World), W6.ownsRow (w.heap.size + 3) 67 2 (.slice (some ⟨g6, 0, none⟩) (k + (n2 + (tn + 1)) + 1) cap6) (k + (n2 + (tn + 1)) + 1) (ceRow ((pushN kf (fun i => (gf, i * 5 + 1)) k ++ pushN kl (fun i => (gl, i * 4)) n2) ++ (a, none) :: tl) ++ [.pointer (some ⟨b, o + k * 5 + 1, none⟩), .pointer (some ⟨gf, k * 5 + 1, none⟩)]) → ((wr.alloc (.cells #[.pointer (some ⟨b, o + k * 5 + 1, none⟩), .pointer (some ⟨gf, k * 5 + 1, none⟩)] 67)).drew).grownBy W6 sv'.ownBlock → PushS v w S W5 D3 a tl (fun p => if p = adOf a then some q else G p) nb (pushN kf (fun i => (gf, i * 5 + 1)) (k + 1) ++ pushN kl (fun i => (gl, i * 4)) n2) W6 (.slice (some ⟨g6, 0, none⟩) (k + (n2 + (tn + 1)) + 1) cap6)) := by
                  refine Lib.hid fun g6 cap6 W6 hown6 hgrow6 => ?_
                  have hnw : nb < wr.heap.size := by
                    have h1 := (HP.out.keep nb (.inr (.inr rfl))).trans HNB5.out
                    exact (Array.getElem?_eq_some_iff.1 h1).1
                  rw [pushN_succ _ _ k hkk]
                  refine HP.out.step HNB5.out hnw kf[k] (gf, k * 5 + 1) HX5.out (HX6.out k hkk).2 (HFF.out _ (List.getElem_mem _)) (fun z hz => (List.mem_append.1 hz).elim (pushN_some z) (pushN_some z)) HF.out (fun z q' hz => ?_) _ (gb_trans (gb_drewN _ 1 _) hgrow6) (by rw [HLL.out, HAD.out]; exact hown6)
                  rcases List.mem_append.1 hz with e | e
                  · rcases List.mem_append.1 e with e | e
                    · obtain ⟨i, hi, e2⟩ := pushN_mem e
                      simp only [Option.some.injEq] at e2
                      rw [e2]
                      exact .inr (.inr (show i * 5 + 1 + 4 ≤ k * 5 + 1 by omega))
                    · obtain ⟨i, hi, e2⟩ := pushN_mem e
                      simp only [Option.some.injEq] at e2
                      rw [e2]
                      rcases HGL.out with h | ⟨_, _, _, _, _, y4, _⟩
                      · omega
                      · have h3 := HX34.out
                        exact .inl (show gf ≠ gl by omega)
                  · rcases List.mem_cons.1 e with e | e
                    · cases e
                    · have h1 := HDR.out z q' e
                      have h2 := HWL.out
                      have h3 := HX34.out
                      have h4 := HW12.out
                      exact .inl (show gf ≠ q'.1 by omega)
                go_region_law (refine step_append_lies _ (by rfl) _ _ _ (by rfl) (w.heap.size + 3) 67 i0 _ 2 16 Tryz.underlying68 hi0 hz0 hz1 hz2 rfl (by omega) sv' (k + (n2 + (tn + 1))) (ceRow ((pushN kf (fun i => (gf, i * 5 + 1)) k ++ pushN kl (fun i => (gl, i * 4)) n2) ++ (a, none) :: tl)) (by rfl) ((hrw.alloc _).drew) ⟨wr.heap.size, 0, none⟩ 1 1 [.pointer (some ⟨b, o + k * 5 + 1, none⟩), .pointer (some ⟨gf, k * 5 + 1, none⟩)] (by rfl) (by rfl) (World.news_of_block (cs := #[.pointer (some ⟨b, o + k * 5 + 1, none⟩), .pointer (some ⟨gf, k * 5 + 1, none⟩)]) (t := 67) (fr := (0, 0)) (heap_alloc_new wr _)) (by simp [Value.oneCell']) (by omega) (by unfold maxLen; omega) (by omega) (by simp; omega) (wr.heap.size + 1) (by simp) ?_; intro g6 cap6 W6 hown6 hgrow6 _ _; have HF6 := Lib.hid (FIN.out g6 cap6 W6 hown6 hgrow6); clear hown6 hgrow6)

                all_goals go_wp2_with fail
                all_goals exact ⟨⟨k + 1, _, hlt, by simp, rfl, HF6.out⟩, by simp [intOf]; omega⟩
              · have hkn : n3 = k := by omega
                subst hkn
                have hwk := HPW.out
                rw [HKFN.out, HKLN.out] at hwk
                have hwt : ceWork ((pushN kf (fun i => (gf, i * 5 + 1)) n3 ++ pushN kl (fun i => (gl, i * 4)) n2) ++ (a, none) :: tl) + 1 = ceWork ((a, some q) :: tl) := by
                  have h2 : ceW ((a, none) : CE v w S) = 1 := rfl
                  have h3 : ceW ((a, some q) : CE v w S) = 2 * a.1.2.size := rfl
                  rw [ceWork_append, ceWork_append, ceWork_cons, ceWork_cons, h2, h3]
                  omega
                have hwh : LAt wr (Sx S w.heap.size D3) v (w.heap.size + 1) 0 := LAt.move (S := Sx S w.heap.size D3) (fun b hb hs => ⟨HP.out.keep b (hs.elim (fun e => .inl e.2) (fun e => .inr (.inl e))), hs⟩) (.inr HDW3.out) HL5.out
                have HWH := Lib.hid hwh
                have HWT := Lib.hid hwt
                clear hwk hwt hwh
                go_wp2_with fail
                go_roundg (ceWork ((pushN kf (fun i => (gf, i * 5 + 1)) n3 ++ pushN kl (fun i => (gl, i * 4)) n2) ++ (a, none) :: tl))
                case rel => exact ⟨D3, _, _, sv', rfl, rfl, CpI.of hS ⟨HP.out.m, HDW3.out, HWH.out⟩, by show ceWork _ ≤ 2 * v.size; have h1 := HWK.out; have h2 := HWT.out; omega⟩
                case measure =>
                  have h1 := HGK.out
                  have h2 := HWT.out
                  omega
end Go.Proofs.YtaniebkfgkhgoaaGreatDoor
