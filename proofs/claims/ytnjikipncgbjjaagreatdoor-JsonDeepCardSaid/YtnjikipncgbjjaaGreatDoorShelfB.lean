/- The library's functions that package quote calls, by the shelf's contracts as they are laid at this program: a strings.Builder's writers (over lists of bytes), strings.HasPrefix, IndexByte, IndexRune and ToLower. -/
import Derived.Test.YtnjikipncgbjjaaGreatDoorShelf
import Derived.Test.YtnjikipncgbjjaaGreatDoorChecked
import Derived.Lib.OthersKept
import Derived.WalkKit
namespace Go.Proofs.YtnjikipncgbjjaaGreatDoor
open Go.RowKit Go.Shelf
set_option linter.unusedVariables false

/-- The builder at b holds these bytes. -/
def Bd (b : Nat) (acc : List UInt8) (w : World) : Prop := Lib.IsBuilderF 57 5 b b (Lib.byteCells acc) w
/-- What a call that writes into the builder at b leaves as it was. -/
def Aft (b : Nat) (w w' : World) : Prop := Below b w w' ∧ Lib.OthersKept 5 (some b) w w'
theorem Aft.refl (b : Nat) (w : World) : Aft b w w := ⟨Below.refl _ _, Lib.OthersKept.refl _ _ _⟩
theorem Aft.trans {b : Nat} {u v w : World} (h : Aft b u v) (k : Aft b v w) : Aft b u w := ⟨h.1.trans k.1, h.2.trans k.2⟩
theorem others_of_below {e : TypeId} {b : Option Nat} {w w' : World} (h : Below w.heap.size w w') : Lib.OthersKept e b w w' := fun k o hk _ _ => by
  have hlt : k < w.heap.size := (Array.getElem?_eq_some_iff.1 hk).1
  rw [h.block k hlt]; exact hk
theorem below_low {B C : Nat} {w w' : World} (hB : B ≤ C) (h : Below C w w') : Below B w w' :=
  { os := h.os, output := h.output, tape := h.tape, size := h.size, block := fun k hk => h.block k (Nat.lt_of_lt_of_le hk hB) }
theorem Aft.of_below {b : Nat} {w w' : World} (hB : b ≤ w.heap.size) (h : Below w.heap.size w w') : Aft b w w' := ⟨below_low hB h, others_of_below h⟩
theorem Aft.size {b : Nat} {w w' : World} (h : Aft b w w') : w.heap.size ≤ w'.heap.size := h.1.size

theorem atF_below {T e : TypeId} {B b : Nat} {p : Value} {bs : List Value} {W W' : World} (h : Lib.BuilderAtF T e B b p bs W) (hb : Below W.heap.size W W') : Lib.BuilderAtF T e B b p bs W' := by
  obtain ⟨hB, v, hv, hown, hne⟩ := h
  have old : ∀ {k : Nat} {o : Obj}, W.heap[k]? = some o → W'.heap[k]? = some o := fun {k o} hk => by
    rw [hb.block k (Array.getElem?_eq_some_iff.1 hk).1]; exact hk
  refine ⟨hB, v, old hv, ⟨hown.1, ?_⟩, hne⟩
  rcases hown.2 with hn | ⟨g, cap, cur, fz, hv', hbg, hg, rest⟩
  · exact .inl hn
  · exact .inr ⟨g, cap, cur, fz, hv', hbg, old hg, rest⟩
theorem Bd.below {b : Nat} {acc : List UInt8} {W W' : World} (h : Bd b acc W) (hb : Below W.heap.size W W') : Bd b acc W' :=
  h.elim (fun x => .inl (atF_below x hb)) (fun x => .inr (atF_below x hb))
theorem Bd.iterAt {b : Nat} {acc : List UInt8} {w : World} (h : Bd b acc w) {k : Nat} {s : ByteArray} {pos : Nat} (hk : w.heap[k]? = some (.stringIter s pos)) (pos' : Nat) : Bd b acc (w.iterAt k s pos') := Lib.IsBuilderF.iterAt h hk pos'
theorem Bd.alloc {b : Nat} {acc : List UInt8} {w : World} (h : Bd b acc w) (o : Obj) : Bd b acc (w.alloc o) := Lib.IsBuilderF.alloc h o

theorem wByte (b : Nat) (acc : List UInt8) (d : UInt8) (c : Int) (hc : c = (d.toNat : Int)) (w : World) (h : Bd b acc w) (hlen : acc.length + 1 ≤ 140737488355328) (hBw : b ≤ w.heap.size) :
    Calls Tryz.prog 99 #[.pointer (some ⟨b, 0, none⟩), .int .u8 c] w fun e w' => e = .returned .nilIface ∧ Bd b (acc ++ [d]) w' ∧ Aft b w w' := by
  subst hc
  refine (Any.Builder_WriteByte_k (P := Tryz.prog) (ρ := Tryz.lays159_ren) { Tryz.lays159 with } Tryz.Builder_Extra_159 b b (Lib.byteCells acc) (d.toNat : Int) w h (by rw [Lib.byteCells_length]; exact hlen) hBw).mono ?_
  rintro e w' ⟨rfl, h1, b1, k1⟩
  refine ⟨rfl, ?_, b1, k1⟩
  unfold Bd
  rw [Lib.byteCells_append]
  exact Or.inr h1
theorem wString (b : Nat) (acc : List UInt8) (s : ByteArray) (w : World) (h : Bd b acc w) (hlen : acc.length + s.size ≤ 140737488355328) (hBw : b ≤ w.heap.size) :
    Calls Tryz.prog 78 #[.pointer (some ⟨b, 0, none⟩), .string s] w fun e w' => e = .returned (.tuple #[.int .i64 s.size, .nilIface]) ∧ Bd b (acc ++ s.data.toList) w' ∧ Aft b w w' := by
  refine (Any.Builder_WriteString_k (P := Tryz.prog) (ρ := Tryz.lays159_ren) { Tryz.lays159 with } Tryz.Builder_Extra_159 b b (Lib.byteCells acc) s w h (by rw [Lib.byteCells_length]; exact hlen) hBw).mono ?_
  rintro e w' ⟨rfl, h1, b1, k1⟩
  refine ⟨rfl, ?_, b1, k1⟩
  unfold Bd
  rw [Lib.byteCells_append]
  exact Or.inr h1
theorem wRune (b : Nat) (acc : List UInt8) (r : Int) (hr0 : -2147483648 ≤ r) (hr1 : r ≤ 2147483647) (w : World) (h : Bd b acc w) (hlen : acc.length + 4 ≤ 140737488355328) (hBw : b ≤ w.heap.size) :
    Calls Tryz.prog 119 #[.pointer (some ⟨b, 0, none⟩), .int .i32 r] w fun e w' => (∃ n : Int, e = .returned (.tuple #[.int .i64 n, .nilIface])) ∧ Bd b (acc ++ Lib.encodeRune r) w' ∧ Aft b w w' := by
  refine (Any.Builder_WriteRune_k (P := Tryz.prog) (ρ := Tryz.lays159_ren) { Tryz.lays159 with } Tryz.Builder_Extra_159 b b (Lib.byteCells acc) r hr0 hr1 w h (by rw [Lib.byteCells_length]; exact hlen) hBw).mono ?_
  rintro e w' ⟨rfl, h1, b1, k1⟩
  refine ⟨⟨_, rfl⟩, ?_, b1, k1⟩
  unfold Bd
  rw [Lib.byteCells_append, Lib.byteCells_encodeRune]
  exact Or.inr h1
theorem bString (b : Nat) (acc : List UInt8) (w : World) (h : Bd b acc w) (hBw : b ≤ w.heap.size) :
    Calls Tryz.prog 30 #[.pointer (some ⟨b, 0, none⟩)] w fun e w' => e = .returned (.string ⟨acc.toArray⟩) ∧ Aft b w w' := by
  refine (Any.Builder_String_any_k (P := Tryz.prog) (ρ := Tryz.lays159_ren) { Tryz.lays159 with } Tryz.Builder_Extra_159 b b acc w h hBw).mono ?_
  rintro e w' ⟨rfl, h1, b1, k1⟩
  exact ⟨rfl, b1, k1⟩
theorem fresh_Bd (w : World) : Bd w.heap.size [] (w.alloc (.cells #[.pointer none, .slice none 0 0] 57)) := Lib.IsBuilderF.of (Lib.fresh_isBuilder 57 5 w)
end Go.Proofs.YtnjikipncgbjjaaGreatDoor
