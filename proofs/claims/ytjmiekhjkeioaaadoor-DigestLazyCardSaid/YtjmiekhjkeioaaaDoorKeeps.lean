/- What a call leaves as it was: all that was there. (Without the tape, of which appends to a converted string's bytes tell nothing.) And the row behind '[]byte(s)' as a slice that came in. -/
import Derived.Test.YtjmiekhjkeioaaaDoorShaD
import Derived.Deep.Onto
import Derived.Lib.ConvBytes
namespace Go.Proofs.YtjmiekhjkeioaaaDoor
open Go.RowKit
set_option linter.unusedVariables false

structure Keeps (w w' : World) : Prop where
  os : w'.os = w.os
  output : w'.output = w.output
  size : w.heap.size ≤ w'.heap.size
  block : ∀ k, k < w.heap.size → w'.heap[k]? = w.heap[k]?
theorem Keeps.refl (w : World) : Keeps w w := ⟨rfl, rfl, Nat.le_refl _, fun _ _ => rfl⟩
theorem Keeps.trans {u v w : World} (h : Keeps u v) (k : Keeps v w) : Keeps u w :=
  ⟨k.os.trans h.os, k.output.trans h.output, Nat.le_trans h.size k.size, fun j hj => (k.block j (Nat.lt_of_lt_of_le hj h.size)).trans (h.block j hj)⟩
theorem Keeps.of_below {w w' : World} (h : Below w.heap.size w w') : Keeps w w' := ⟨h.os, h.output, h.size, h.block⟩
theorem Keeps.below {u w w' : World} (h : Keeps u w) (k : Below w.heap.size w w') : Keeps u w' := h.trans (Keeps.of_below k)
theorem Keeps.low {u w w' : World} (h : Keeps u w) (k : Below u.heap.size w w') : Keeps u w' :=
  ⟨k.os.trans h.os, k.output.trans h.output, Nat.le_trans h.size k.size, fun j hj => (k.block j hj).trans (h.block j hj)⟩
theorem Keeps.drewN {u w : World} (h : Keeps u w) (n : Nat) : Keeps u (w.drewN n) := ⟨h.os, h.output, h.size, h.block⟩
theorem Keeps.alloc {u w : World} (h : Keeps u w) (o : Obj) : Keeps u (w.alloc o) := h.low ((Below.refl _ _).alloc h.size _)
theorem Keeps.cell {w w' : World} (h : Keeps w w') {p : Addr} (hp : p.block < w.heap.size) : w'.cell? p = w.cell? p := World.cell?_of_block (w := w) (h.block p.block hp)
theorem Keeps.frozen {w w' : World} (h : Keeps w w') {p : Addr} (hp : p.block < w.heap.size) : w'.frozen? p = w.frozen? p := World.frozen?_of_block (w := w) (h.block p.block hp)
theorem Keeps.frame {W w' : World} (h : Keeps W w') (may : MemPlace → Prop) : W.keptBut w' may :=
  World.keptBut.congr (World.keptBut_refl W may) h.os h.output h.block
theorem TabOK.keeps {w w' : World} (h : TabOK w) (o : Keeps w w') : TabOK w' :=
  ⟨Nat.lt_of_lt_of_le h.1 o.size, fun t ht => by rw [← h.2 t ht]; exact o.cell (p := ⟨0, t, none⟩) h.1⟩
/-- What is kept but for some cells of one block keeps all blocks below it. -/
theorem Keeps.of_keptBut {u W w : World} {may : MemPlace → Prop} (h : Keeps u W) (k : W.keptBut w may) (hm : ∀ p, may p → u.heap.size ≤ p.block) : Keeps u w := by
  refine ⟨k.1.trans h.os, k.2.1.trans h.output, Nat.le_trans h.size k.size, fun j hj => ?_⟩
  rw [← h.block j hj]
  have hj' : j < W.heap.size := Nat.lt_of_lt_of_le hj h.size
  have hk := k.2.2 j hj'
  cases h1 : W.heap[j]? with
  | none => rw [h1] at hk; cases h2 : w.heap[j]? <;> simp_all
  | some o =>
    rw [h1] at hk
    cases h2 : w.heap[j]? with
    | none => rw [h2] at hk; cases o <;> simp at hk
    | some o' =>
      rw [h2] at hk
      cases o with
      | cells c t fr =>
        cases o' with
        | cells c' t' fr' =>
          obtain ⟨e1, e2, e3, e4⟩ := hk
          subst e1; subst e2
          have : c' = c := by
            apply Array.ext_getElem?
            intro i
            exact e4 i (fun hmay => by have := hm _ hmay; simp [MemPlace.block] at this; omega)
          rw [this]
        | _ => simp at hk
      | map es clock =>
        cases o' with
        | map es' clock' =>
          rcases hk with hmay | ⟨e1, e2⟩
          · have := hm _ hmay; simp [MemPlace.block] at this; omega
          · rw [e1, e2]
        | _ => simp at hk
      | _ => simp at hk ⊢; exact hk

/-- '[]byte(s)' as a slice that came in. -/
theorem came_bytes (w : World) (s : ByteArray) (hs : s.size ≤ maxLen) : Came (Lib.bytesWorld w 5 s) 1 (some ⟨w.heap.size, 0, none⟩) w.heap.size 0 s.size (grownCap w s.size 0 5) (s.data.toList.map byteV) := by
  have hge := grownCap_ge w s.size 0 5
  have hsize : (Lib.bytesCells w 5 s).size = grownCap w s.size 0 5 := by
    unfold Lib.bytesCells; simp; show s.size + _ = _; omega
  refine ⟨hge, fun _ => rfl, fun _ => by rw [Lib.bytesWorld_size]; omega, by simp, fun j u hu => ?_, fun j hj => ?_⟩
  · have hj : j < s.size := by
      have := (List.getElem?_eq_some_iff.1 hu).1
      simpa using this
    rw [Nat.zero_add, Lib.bytesWorld_cell w 5 s j hj, ← hu]
    have hl : j < s.data.toList.length := by simpa using hj
    simp [byteV, List.getD, List.getElem?_eq_getElem hl]
  · have hc : (Lib.bytesWorld w 5 s).cell? ⟨w.heap.size, 0 + s.size * 1 + j, none⟩ = (Lib.bytesCells w 5 s)[s.size + j]? := by
      rw [show 0 + s.size * 1 + j = s.size + j by omega]
      simp [World.cell?, Lib.bytesWorld_at_new]
    refine ⟨?_, ?_⟩
    · rw [hc, Array.getElem?_eq_getElem (by omega)]; rfl
    · have : (0 + s.size * 1 + j) < (Lib.bytesCells w 5 s).size := by omega
      simp [World.frozen?, Lib.bytesWorld_at_new]
      omega
theorem keeps_bytes (w : World) (s : ByteArray) : Keeps w (Lib.bytesWorld w 5 s) :=
  ⟨rfl, rfl, by rw [Lib.bytesWorld_size]; omega, fun k hk => Lib.bytesWorld_at_old w 5 s k hk⟩
end Go.Proofs.YtjmiekhjkeioaaaDoor
