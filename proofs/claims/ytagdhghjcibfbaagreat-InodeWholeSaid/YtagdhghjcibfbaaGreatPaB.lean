/- Layer 7: strings as lists of bytes, slices of strings in memory. -/
import Derived.Test.YtagdhghjcibfbaaGreatChecked
import Derived.Test.YtagdhghjcibfbaaGreatPaM
import Derived.WalkKit
import Derived.LoopTactic
import Derived.ProofKit
import Derived.WalkSpells
import Derived.WalkLawsBesides
import Derived.Outline
import Derived.Lib.Hide
import Derived.Handy
import Derived.Lib.Strings
import Derived.Deep.OwnRows
import Derived.Laws.BytesArg
import Derived.Laws.Strings3
import Derived.Lib.LazyBuf
import Derived.RegionTactic
import Derived.Deep.RegionWith
import Derived.BigQuiet
import Derived.Deep.QuietTactic
import Derived.IntWalk
import Derived.Laws.AppendOwn
import Derived.Laws.OwnMore
import Derived.Lib.OthersKept
import Derived.Deep.RegionHeld3
import Derived.Deep.AppendLies
import Derived.OwnWalk
namespace Go.Proofs.YtagdhghjcibfbaaGreat
open Go.RowKit
set_option linter.unusedVariables false
set_option maxRecDepth 100000

/-- A list of bytes as a string. -/
def bs (l : List UInt8) : ByteArray := ⟨l.toArray⟩
theorem bs_list (l : List UInt8) : (bs l).data.toList = l := rfl
theorem bs_size (l : List UInt8) : (bs l).size = l.length := by show l.toArray.size = _; simp
theorem of_bs (s : ByteArray) : bs s.data.toList = s := by cases s; rfl
theorem bs_eq {s : ByteArray} {l : List UInt8} (h : s.data.toList = l) : s = bs l := by rw [← h, of_bs]
theorem bs_inj {a b : List UInt8} (h : bs a = bs b) : a = b := by rw [← bs_list a, h, bs_list]
theorem bs_toList (l : List UInt8) : (bs l).toList = l := by rw [Lib.toList_data, bs_list]
theorem bs_nil : bs [] = ByteArray.empty := rfl
theorem bs_cat (x y : List UInt8) : bs x ++ bs y = bs (x ++ y) := ByteArray.mk_append_mk x y
theorem bs_add (w0 : World) (x y : List UInt8) (h : x.length + y.length ≤ 9223372036854775807) : (Op.stringOp .add (bs x) (bs y)).run Tryz.prog w0 = .ok (.string (bs (x ++ y))) w0 := by
  rw [run_string_add_sum w0 _ _ (by simp [ByteArray.size, bs]; omega)]
  exact congrArg (fun z => Result.ok (Value.string z) w0) (bs_cat x y)

def strs (ls : List (List UInt8)) : List Value := ls.map fun l => Value.string (bs l)
theorem strs_snoc (ls : List (List UInt8)) (l : List UInt8) : strs (ls ++ [l]) = strs ls ++ [.string (bs l)] := by simp [strs]
theorem strs_length (ls : List (List UInt8)) : (strs ls).length = ls.length := by simp [strs]

/-- The cells of a slice of strings that starts at a. -/
def SlAt (w : World) (a : Option Addr) (ls : List (List UInt8)) : Prop :=
  ls = [] ∨ ∃ b o, a = some ⟨b, o, none⟩ ∧ b < w.heap.size ∧ ∀ (j : Nat) (h : j < ls.length), w.cell? ⟨b, o + j, none⟩ = some (.string (bs ls[j]))
/-- A slice of strings. -/
def Sl (w : World) (v : Value) (ls : List (List UInt8)) : Prop :=
  ∃ a c, v = .slice a ls.length c ∧ ls.length ≤ c ∧ c ≤ maxLen ∧ SlAt w a ls
theorem SlAt.below {w w' : World} {a : Option Addr} {ls : List (List UInt8)} (h : SlAt w a ls) (hb : Below w.heap.size w w') : SlAt w' a ls := by
  rcases h with h | ⟨b, o, h1, h2, h3⟩
  · exact .inl h
  · exact .inr ⟨b, o, h1, Nat.lt_of_lt_of_le h2 hb.size, fun j hj => (hb.cell (p := ⟨b, o + j, none⟩) h2).trans (h3 j hj)⟩
theorem Sl.below {w w' : World} {v : Value} {ls : List (List UInt8)} (h : Sl w v ls) (hb : Below w.heap.size w w') : Sl w' v ls := by
  obtain ⟨a, c, h1, h2, h3, h4⟩ := h
  exact ⟨a, c, h1, h2, h3, h4.below hb⟩
theorem SlAt.take {w : World} {a : Option Addr} {ls : List (List UInt8)} (h : SlAt w a ls) (k : Nat) : SlAt w a (ls.take k) := by
  rcases h with h | ⟨b, o, h1, h2, h3⟩
  · exact .inl (by rw [h]; simp)
  · exact .inr ⟨b, o, h1, h2, fun j hj => by rw [h3 j (by simp at hj; omega)]; simp⟩
theorem Sl_nil (w : World) : Sl w (.slice none 0 0) [] := ⟨none, 0, rfl, Nat.le_refl _, by unfold maxLen; omega, .inl rfl⟩

theorem infoS : (Tryz.prog.info? 9).map (fun i => (i.zero, i.size, i.bytes)) = some (some (.string ByteArray.empty), 1, 16) := by kernel_rfl

/-- What a slice of the call's own holds. -/
theorem Sl_own {w : World} {B : Nat} {v : Value} {ls : List (List UInt8)} (h : w.ownsRow B 9 1 v ls.length (strs ls)) : Sl w v ls := by
  have hcells := fun g (hg : v.ownBlock = some g) => h.cells hg
  obtain ⟨h1, h2⟩ := h
  rcases h2 with ⟨rfl, hx⟩ | ⟨g, cap, cur, rfl, hg, hh, r1, r2, _⟩
  · obtain rfl : ls = [] := by cases ls; rfl; simp at hx
    exact Sl_nil w
  · refine ⟨_, cap, rfl, r1, r2, .inr ⟨g, 0, rfl, (Array.getElem?_eq_some_iff.1 hh).1, fun j hj => ?_⟩⟩
    have hc := hcells g rfl j (.string (bs ls[j])) (by simp [strs, List.getElem?_eq_getElem hj])
    rw [Nat.zero_add]
    have ea : (⟨g, 0, none⟩ : Addr).add j = ⟨g, j, none⟩ := by
      unfold Addr.add; simp only [Nat.zero_add]; split
      · next h => rw [h]
      · rfl
    rwa [ea] at hc

/-- What an append of one string leaves. -/
theorem snoc_own {w wr w1 : World} {B : Nat} {v v' : Value} {ls : List (List UInt8)} {l : List UInt8} {o : Obj} (hB : B ≤ wr.heap.size) (hbel : Below B w wr)
    (hown : wr.ownsRow B 9 1 v ls.length (strs ls)) (hown' : w1.ownsRow B 9 1 v' (ls.length + 1) (strs ls ++ [.string (bs l)])) (hgrow : (wr.alloc o).grownBy w1 v.ownBlock) :
    w1.ownsRow B 9 1 v' (ls ++ [l]).length (strs (ls ++ [l])) ∧ Below B w w1 ∧ B ≤ w1.heap.size := by
  have hb := (hbel.alloc hB o).grown hgrow (by simp; omega) (fun k hk => (hown.lt k hk).1)
  refine ⟨by rw [strs_snoc]; simpa using hown', hb, ?_⟩
  have := hgrow.size
  simp at this; omega
theorem one_newS (w : World) (x : Value) : ∀ j u, [x][j]? = some u → (w.alloc (.cells #[x] 9)).cell? ((⟨w.heap.size, 0, none⟩ : Addr).add j) = some u := by
  intro j u h
  match j, h with
  | 0, h =>
    simp at h; subst h
    rw [show (⟨w.heap.size, 0, none⟩ : Addr).add 0 = ⟨w.heap.size, 0, none⟩ by simp [Addr.add], World.cell?_alloc_new]; rfl
  | j + 1, h => simp at h
/-- What a function that hands back a slice of strings leaves. -/
def RetSl (w : World) (ls : List (List UInt8)) (e : Ending) (w' : World) : Prop := ∃ v, e = .returned v ∧ Sl w' v ls ∧ Below w.heap.size w w'
theorem ret_bool {a b : Bool} (h : a = b) : Ending.returned (.bool a) = .returned (.bool b) := by rw [h]
theorem btz {w w1 w2 : World} (h1 : Below w.heap.size w w1) (h2 : Below w1.heap.size w1 w2) : Below w.heap.size w w2 := h1.trans (h2.mono h1.size)
end Go.Proofs.YtagdhghjcibfbaaGreat
