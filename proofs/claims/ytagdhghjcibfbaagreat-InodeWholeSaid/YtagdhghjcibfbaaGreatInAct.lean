/- Layer 8: a slice of acts among the arguments, opened. -/
import Derived.Test.YtagdhghjcibfbaaGreatInZ
import Derived.Deep.Fields
import Derived.Deep.Slices
namespace Go.Proofs.YtagdhghjcibfbaaGreat
open Go.RowKit Go.ChangeShapes Go.WideShapes Go.Deep
set_option linter.unusedVariables false
set_option maxRecDepth 100000

theorem cells_int : Tryz.prog.cellsOf 3 = 1 := by kernel_rfl
theorem cells_str : Tryz.prog.cellsOf 9 = 1 := by kernel_rfl
theorem cells_bool : Tryz.prog.cellsOf 4 = 1 := by kernel_rfl
theorem cells_act : Tryz.prog.cellsOf 36 = 8 := by kernel_rfl
theorem inI_of {n : Int} (h : (Lit.int .i64 n).wf = true) : InI n := by
  unfold InI
  simp only [Lit.wf, decide_eq_true_eq, Bool.and_eq_true] at h
  first
    | exact h
    | (have h1 := h.1; have h2 := h.2; simp [IntKind.min, IntKind.max] at h1 h2; omega)
    | (simp [IntKind.wrap, IntKind.bits, IntKind.signed] at h; omega)
section
variable {H : Type} {enc : TypeId × Value → H} {w : World} {base : Nat} {spare : Nat → Bool} {held : Bool}
theorem act_of {n : Nat} {cs : List Value} {x : DataW H × List MemPlace} (h : DataW.trod enc Tryz.prog w base spare held n 36 cs = some x) :
    ∃ a : AcT, cs = [.int .i64 a.kind, .int .i64 a.id, .int .i64 a.dir, .int .i64 a.at_, .int .i64 a.n, .string (bs a.name), .string (bs a.nm), .bool a.flag] ∧ ActIn a := by
  obtain ⟨xs, m, _, _, hlen, hxl, hf⟩ := DataW.trod_struct Tryz.underlying36 h
  rw [cells_act] at hlen
  match cs, hlen, xs, hxl with
  | [v0, v1, v2, v3, v4, v5, v6, v7], _, [y0, y1, y2, y3, y4, y5, y6, y7], _ =>
    have g0 := hf 0 _ rfl; have g1 := hf 1 _ rfl; have g2 := hf 2 _ rfl; have g3 := hf 3 _ rfl
    have g4 := hf 4 _ rfl; have g5 := hf 5 _ rfl; have g6 := hf 6 _ rfl; have g7 := hf 7 _ rfl
    simp [cells_int, cells_str, cells_bool] at g0 g1 g2 g3 g4 g5 g6 g7
    obtain ⟨n0, e0, _, w0⟩ := DataW.trod_int Tryz.underlying3 g0
    obtain ⟨n1, e1, _, w1⟩ := DataW.trod_int Tryz.underlying3 g1
    obtain ⟨n2, e2, _, w2⟩ := DataW.trod_int Tryz.underlying3 g2
    obtain ⟨n3, e3, _, w3⟩ := DataW.trod_int Tryz.underlying3 g3
    obtain ⟨n4, e4, _, w4⟩ := DataW.trod_int Tryz.underlying3 g4
    obtain ⟨s5, e5, _, _⟩ := DataW.trod_string Tryz.underlying9 g5
    obtain ⟨s6, e6, _, _⟩ := DataW.trod_string Tryz.underlying9 g6
    obtain ⟨b7, e7, _⟩ := DataW.trod_bool Tryz.underlying4 g7
    simp only [List.cons.injEq, and_true] at e0 e1 e2 e3 e4 e5 e6 e7
    refine ⟨⟨n0, n1, n2, n3, n4, s5.data.toList, s6.data.toList, b7⟩, ?_, ⟨inI_of w0, inI_of w1, inI_of w2, inI_of w3, inI_of w4⟩⟩
    rw [e0, e1, e2, e3, e4, e5, e6, e7]
    rfl
instance : Inhabited AcT := ⟨⟨0, 0, 0, 0, 0, [], [], false⟩⟩
theorem open_acts {n : Nat} {cs : List Value} {x : DataW H × List MemPlace} (h : DataW.trod enc Tryz.prog w 0 spare held n 22 cs = some x) :
    cs = [.slice none 0 0] ∨ ∃ (a : Addr) (cap : Nat) (l : List AcT), cs = [.slice (some a) l.length cap] ∧ l.length ≤ 9223372036854775807 ∧ ActsAt w (some a) l ∧ ∀ x ∈ l, ActIn x := by
  rcases open_slice Tryz.underlying22 h with ⟨h0, _⟩ | ⟨a, len, cap, m, k, D, Pl, rfl, _, hl, hm, hmm, _, hx⟩
  · exact .inl h0
  right
  have hlm : len ≤ m := by rw [hmm]; split <;> omega
  have hx' : ∀ i, i < len → ∃ y : AcT, w.cells? 0 (a.add (i * 8)) 8 = some [.int .i64 y.kind, .int .i64 y.id, .int .i64 y.dir, .int .i64 y.at_, .int .i64 y.n, .string (bs y.name), .string (bs y.nm), .bool y.flag] ∧ ActIn y := fun i hi => by
    obtain ⟨cs', h1, h2⟩ := hx i (by omega)
    rw [cells_act] at h1
    obtain ⟨y, rfl, hy⟩ := act_of h2
    exact ⟨y, h1, hy⟩
  obtain ⟨f, hf⟩ := choose_lt hx'
  have hmx : (maxLen : Nat) = 9223372036854775807 := rfl
  refine ⟨a, cap, (List.range len).map f, by simp, by simp; omega, ?_, fun x hx => ?_⟩
  · by_cases h0 : len = 0
    · exact .inl (by rw [h0]; rfl)
    right
    obtain ⟨b, o, spot⟩ := a
    have c00 := (World.cells?_some (hf 0 (by omega)).1).2.2 0 (by omega)
    have hspot : spot = none := by simpa [Addr.add] using World.cell?_spot c00
    subst hspot
    have hlt := World.block_lt_of_cell? w _ c00
    refine ⟨b, o, rfl, by simpa [Addr.add] using hlt, fun j hj => ?_⟩
    have hj' : j < len := by simpa using hj
    obtain ⟨_, _, hc⟩ := World.cells?_some (hf j hj').1
    simp only [List.getElem_map, List.getElem_range]
    have e : ∀ k, ((⟨b, o, none⟩ : Addr).add (j * 8)).add k = ⟨b, o + j * 8 + k, none⟩ := fun k => by rw [add_add, add_plain, Nat.add_assoc]
    have d0 := hc 0 (by omega); have d1 := hc 1 (by omega); have d2 := hc 2 (by omega); have d3 := hc 3 (by omega)
    have d4 := hc 4 (by omega); have d5 := hc 5 (by omega); have d6 := hc 6 (by omega); have d7 := hc 7 (by omega)
    rw [e] at d0 d1 d2 d3 d4 d5 d6 d7
    exact ⟨d0, d1, d2, d3, d4, d5, d6, d7⟩
  · obtain ⟨i, hi, rfl⟩ := List.mem_map.1 hx
    exact (hf i (by simpa using hi)).2
end
end Go.Proofs.YtagdhghjcibfbaaGreat
