/- What the cards of layer 5 share: the library's tables and the project's words as the rows list them, and a world for the witness in which they hold what their initialisers lay. -/
import Derived.Test.YtaniebkfgkhgoaaGreatDoorCards
import Derived.Test.YtaniebkfgkhgoaaGreatDoorTie
import Derived.Test.YtaniebkfgkhgoaaGreatDoorJ3
import Derived.Deep.DeepHandedRow
import Derived.Lib.LaidCaseMet
import Derived.Lib.LaidIn
import Derived.Lib.LaidU8
import Derived.ProofKit
namespace Go.Proofs.YtaniebkfgkhgoaaGreatDoor
open Go.RowKit Go.Shelf Go.Lib
set_option linter.unusedVariables false

def laidList : List (String × DataW Unit) := [("unicode/utf8.acceptRanges", Rows.laid_unicode_utf8_acceptRanges), ("cooperage/json.words", Rows.laid_cooperage_json_words), ("unicode.CaseRanges", Rows.laid_unicode_CaseRanges), ("unicode/utf8.first", Rows.laid_unicode_utf8_first)]
set_option maxRecDepth 100000 in
theorem laid_case : Rows.laid_unicode_CaseRanges = Lib.caseData := by kernel_rfl
theorem laid_first : Rows.laid_unicode_utf8_first = Lib.firstData := by kernel_rfl
theorem laid_accept : (Rows.laid_unicode_utf8_acceptRanges : DataW Unit) = Lib.acceptData := by kernel_rfl
def wordsData : DataW Unit := .agg [.lit (.string []), .lit (.string [110, 117, 108, 108]), .lit (.string [102, 97, 108, 115, 101]), .lit (.string [116, 114, 117, 101])]
theorem laid_words : (Rows.laid_cooperage_json_words : DataW Unit) = wordsData := by kernel_rfl
theorem list_eq : laidList = [("unicode/utf8.acceptRanges", Lib.acceptData)] ++ [("cooperage/json.words", wordsData)] ++ [("unicode.CaseRanges", Lib.caseData)] ++ [("unicode/utf8.first", Lib.firstData)] := by
  unfold laidList; rw [laid_case, laid_first, laid_accept, laid_words]; rfl

theorem u8x : U8Extra Tryz.prog Tryz.lays159_ren := ⟨by kernel_rfl, by kernel_rfl, by kernel_rfl, by kernel_rfl, by kernel_rfl, by kernel_rfl, by kernel_rfl⟩
theorem casex : CaseExtra Tryz.prog Tryz.lays159_ren := ⟨by kernel_rfl, by kernel_rfl, by kernel_rfl, by kernel_rfl, by kernel_rfl, by kernel_rfl⟩

theorem gWords : Tryz.prog.globalNamed "cooperage/json.words" = some 0 := by kernel_rfl
theorem tWords : (Tryz.prog.globals[0]?).map (·.type) = some 96 := by kernel_rfl
theorem uWords : Tryz.prog.underlying 96 = some (.array 4 9) := by kernel_rfl
theorem uStr : Tryz.prog.underlying 9 = some .string := by kernel_rfl
theorem cStr : Tryz.prog.cellsOf 9 = 1 := by kernel_rfl
theorem words_cell {W : World} (h : VarReads Tryz.prog W "cooperage/json.words" wordsData) (i : Nat) (hi : i < 4) (l : List UInt8) (hl : [[], [110, 117, 108, 108], [102, 97, 108, 115, 101], [116, 114, 117, 101]][i]? = some l) :
    W.cell? ⟨0, i, none⟩ = some (.string ⟨l.toArray⟩) := by
  obtain ⟨g, t, cs, fuel, p, hg, hty, hvar, hd⟩ := h
  obtain rfl := Option.some.inj (gWords.symm.trans hg)
  obtain rfl := Option.some.inj (tWords.symm.trans hty)
  obtain ⟨fuel', d, q, hdi, he⟩ := array_elem uWords hd i hi
  rw [cStr] at he
  obtain ⟨s, hcs, hx, -⟩ := DataW.trod_string uStr he
  have e0 := congrArg (·[0]?) hcs
  simp only [List.getElem?_take, List.getElem?_drop] at e0
  have hds : d = .lit (.string l) := by
    have : i = 0 ∨ i = 1 ∨ i = 2 ∨ i = 3 := by omega
    rcases this with rfl | rfl | rfl | rfl <;> simp_all
  obtain rfl : l = s.data.toList := by
    rw [hds] at hx
    simp at hx
    exact hx.1
  rw [World.var?_cell gWords hvar i, ← Array.getElem?_toList]
  simpa using e0

theorem tab_ok {W : World} (h : laidMet Tryz.prog laidList W) : Tab5 W := by
  rw [list_eq] at h
  have hw : VarReads Tryz.prog W "cooperage/json.words" wordsData := Lib.laidMet.reads h (.tail _ (.head _))
  refine ⟨⟨?_, ?_⟩, words_cell hw 1 (by omega) _ rfl, words_cell hw 2 (by omega) _ rfl, words_cell hw 3 (by omega) _ rfl⟩
  · exact caseVar_of_reads (ρ := Tryz.lays159_ren) { Tryz.lays159 with } Tryz.lays159.t206 casex (Lib.laidMet.reads h (.tail _ (.tail _ (.head _))))
  · exact utf8Tabs_of_reads (ρ := Tryz.lays159_ren) { Tryz.lays159 with } u8x (Lib.laidMet.reads h (.tail _ (.tail _ (.tail _ (.head _))))) (Lib.laidMet.reads h (.head _))

/-- A world for the witness: the settled one and a block more (the rows of unicode.CaseRanges), the three variables holding what their initialisers lay. -/
noncomputable def laidWorld (os : Os) : World :=
  let N := (World.settled Tryz.prog os).heap.size
  let w0 := World.holding Tryz.prog os ⟨#[.cells Lib.caseCells5 (Tryz.lays159_ren.t 208)], #[], []⟩
  let put (h : Array Obj) (g : Nat) (cs : Array Value) : Array Obj := h.modify g fun
    | .cells _ t frozen => .cells cs t frozen
    | o => o
  let h2 := put w0.heap (Tryz.lays159_ren.g 3) (Lib.firstTab.map fun z => Value.int .u8 z).toArray
  let h3 := put h2 (Tryz.lays159_ren.g 4) ((List.range 16).flatMap fun i => [Value.int .u8 (Lib.accLo i), Value.int .u8 (Lib.accHi i)]).toArray
  let h5 := put h3 (Tryz.lays159_ren.g 13) #[.slice (some ⟨N, 0, none⟩) 336 336]
  let h6 := put h5 0 #[.string ⟨#[]⟩, .string ⟨#[110, 117, 108, 108]⟩, .string ⟨#[102, 97, 108, 115, 101]⟩, .string ⟨#[116, 114, 117, 101]⟩]
  { w0 with heap := h6 }

set_option maxRecDepth 100000 in
/-- The great table reads as it is listed. -/
theorem case_in {w : World} (R : Nat) (t : TypeId) (hgR : Tryz.lays159_ren.g 13 ≠ R)
    (hvar : w.heap[Tryz.lays159_ren.g 13]? = some (.cells #[.slice (some ⟨R, 0, none⟩) Lib.caseA.size Lib.caseA.size] (Tryz.lays159_ren.t 162) (0, 0)))
    (hblk : w.heap[R]? = some (.cells Lib.caseCells5 t (0, 0))) : LaidIn Tryz.prog w [("unicode.CaseRanges", Lib.caseData)] [Tryz.lays159_ren.g 13, R] := by
  have hT := caseTab_of_block hblk
  have hread := case_slice_reads (P := Tryz.prog) (ρ := Tryz.lays159_ren) { Tryz.lays159 with } Tryz.lays159.t206 casex hT caseA_wf (by rw [caseA_size]; unfold maxLen; omega) 0
  rw [case_rows_data] at hread
  have hv : w.var? Tryz.prog "unicode.CaseRanges" = some #[.slice (some ⟨R, 0, none⟩) Lib.caseA.size Lib.caseA.size] := by simp [World.var?, casex.n13, hvar]
  refine LaidIn.one [Tryz.lays159_ren.g 13, R] casex.n13 casex.y13 hv hread ?_ ?_ ?_
  · refine List.nodup_append.2 ⟨row_nodup _ _, row_nodup _ _, ?_⟩
    intro a ha b hb e
    obtain ⟨i, _, rfl⟩ := MemPlace.mem_row.1 ha
    obtain ⟨j, _, rfl⟩ := MemPlace.mem_row.1 hb
    simp at e
    exact hgR e.1
  · intro b off hp
    rcases List.mem_append.1 hp with hp | hp
    · obtain ⟨i, hi, e⟩ := MemPlace.mem_row.1 hp
      cases e
      refine ⟨⟨_, _, hvar⟩, fun u v hc => ?_⟩
      obtain rfl : i = 0 := by simp at hi; omega
      rw [Lib.cell_of_heap hvar] at hc
      simp at hc
    · obtain ⟨i, hi, e⟩ := MemPlace.mem_row.1 hp
      cases e
      refine ⟨⟨_, _, hblk⟩, fun u v hc => ?_⟩
      obtain ⟨c0, c1, c2, c3, c4⟩ := hT (i / 5) (by omega)
      have hi5 : 0 + i = 0 + i / 5 * 5 + i % 5 := by omega
      simp only at hc
      rw [hi5] at hc
      have hm : i % 5 < 5 := Nat.mod_lt _ (by omega)
      match hk : i % 5, hm with
      | 0, _ => rw [hk, Nat.add_zero, c0] at hc; cases hc
      | 1, _ => rw [hk, c1] at hc; cases hc
      | 2, _ => rw [hk, c2] at hc; cases hc
      | 3, _ => rw [hk, c3] at hc; cases hc
      | 4, _ => rw [hk, c4] at hc; cases hc
  · intro x hx
    rcases List.mem_append.1 hx with hx | hx
    · obtain ⟨i, _, rfl⟩ := MemPlace.mem_row.1 hx
      simp [MemPlace.block]
    · obtain ⟨i, _, rfl⟩ := MemPlace.mem_row.1 hx
      simp [MemPlace.block]

set_option maxRecDepth 100000 in
theorem laid_met5 (os : Os) (args : Array Value) : laidMet Tryz.prog laidList ((laidWorld os).forCall (fun _ _ => 0) ⟨#[], args, []⟩).memory := by
  rw [list_eq]
  exact ((((LaidIn.of_run [Tryz.lays159_ren.g 4] 10 (by kernel_rfl) (by kernel_rfl) (by kernel_rfl) (by kernel_rfl)).append
    (LaidIn.of_run [0] 10 (by kernel_rfl) (by kernel_rfl) (by kernel_rfl) (by kernel_rfl)) (by kernel_rfl)).append
    (case_in ((World.settled Tryz.prog default).heap.size) (Tryz.lays159_ren.t 208) (of_decide_eq_true (by kernel_rfl)) (by kernel_rfl) (by kernel_rfl)) (by kernel_rfl)).append
    (LaidIn.of_run [Tryz.lays159_ren.g 3] 10 (by kernel_rfl) (by kernel_rfl) (by kernel_rfl) (by kernel_rfl)) (by kernel_rfl)).met
end Go.Proofs.YtaniebkfgkhgoaaGreatDoor
