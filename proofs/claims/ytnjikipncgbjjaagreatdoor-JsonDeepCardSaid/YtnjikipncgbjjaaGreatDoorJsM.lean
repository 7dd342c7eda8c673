/- Plain functions on lists of bytes and on values as trees: what a text of JSON tells, by a machine with a stack of unfinished values; nothing of the program stands here. -/
import Derived.Test.YtnjikipncgbjjaaGreatDoorQuoM
import Derived.Lib.SlTrimSet
import Derived.Lib.Strings
namespace Go.Proofs.YtnjikipncgbjjaaGreatDoor
open Go.Lib
set_option linter.unusedVariables false

/-- A value: its kind, its text, what is in its list, its fields. -/
inductive JV where
  | mk (kind : Int) (text : ByteArray) (list : List JV) (fields : List (ByteArray × JV))
def JV.kind : JV → Int | ⟨k, _, _, _⟩ => k
def JV.text : JV → ByteArray | ⟨_, t, _, _⟩ => t
def JV.list : JV → List JV | ⟨_, _, l, _⟩ => l
def JV.fields : JV → List (ByteArray × JV) | ⟨_, _, _, f⟩ => f

mutual
/-- How many values there are in a value, with itself. -/
def JV.size : JV → Nat
  | ⟨_, _, l, f⟩ => 1 + (JV.sizeL l + JV.sizeF f)
def JV.sizeL : List JV → Nat
  | [] => 0
  | v :: r => v.size + JV.sizeL r
def JV.sizeF : List (ByteArray × JV) → Nat
  | [] => 0
  | (_, v) :: r => v.size + JV.sizeF r
end
mutual
/-- How deep a value is. -/
def JV.depth : JV → Nat
  | ⟨_, _, l, f⟩ => 1 + max (JV.depthL l) (JV.depthF f)
def JV.depthL : List JV → Nat
  | [] => 0
  | v :: r => max v.depth (JV.depthL r)
def JV.depthF : List (ByteArray × JV) → Nat
  | [] => 0
  | (_, v) :: r => max v.depth (JV.depthF r)
end
theorem JV.size_pos (v : JV) : 1 ≤ v.size := by cases v; simp [JV.size]
theorem JV.size_le_sizeL : ∀ {l : List JV} {v : JV}, v ∈ l → v.size ≤ JV.sizeL l
  | [], _, h => by cases h
  | x :: r, v, h => by
    rcases List.mem_cons.1 h with rfl | h
    · simp only [JV.sizeL]; omega
    · have := JV.size_le_sizeL h; simp only [JV.sizeL]; omega
theorem JV.size_le_sizeF : ∀ {l : List (ByteArray × JV)} {p : ByteArray × JV}, p ∈ l → p.2.size ≤ JV.sizeF l
  | [], _, h => by cases h
  | (n, x) :: r, p, h => by
    rcases List.mem_cons.1 h with rfl | h
    · simp only [JV.sizeF]; omega
    · have := JV.size_le_sizeF h; simp only [JV.sizeF]; omega
theorem JV.size_list {u v : JV} (h : u ∈ v.list) : u.size < v.size := by
  cases v with
  | mk k t l f => have := JV.size_le_sizeL (show u ∈ l from h); simp only [JV.size]; omega
theorem JV.size_field {p : ByteArray × JV} {v : JV} (h : p ∈ v.fields) : p.2.size < v.size := by
  cases v with
  | mk k t l f => have := JV.size_le_sizeF (show p ∈ f from h); simp only [JV.size]; omega

/-- Induction over what is in a value. -/
theorem JV.ind {C : JV → Prop} (h : ∀ v : JV, (∀ u ∈ v.list, C u) → (∀ p ∈ v.fields, C p.2) → C v) (v : JV) : C v := by
  suffices ∀ n (v : JV), v.size ≤ n → C v from this v.size v (Nat.le_refl _)
  intro n
  induction n with
  | zero => intro v hv; have := v.size_pos; omega
  | succ n ih => exact fun v hv => h v (fun u hu => ih u (by have := JV.size_list hu; omega)) (fun p hp => ih p.2 (by have := JV.size_field hp; omega))

theorem JV.ext {u v : JV} (h1 : u.kind = v.kind) (h2 : u.text = v.text) (h3 : u.list = v.list) (h4 : u.fields = v.fields) : u = v := by
  cases u; cases v; simp only [JV.kind, JV.text, JV.list, JV.fields] at *; subst h1; subst h2; subst h3; subst h4; rfl

/-! ### Numbers -/
/-- A text without the decimal digits that begin it. -/
def figR (l : List UInt8) : List UInt8 := trimLeftS l [48, 49, 50, 51, 52, 53, 54, 55, 56, 57]
/-- The decimal digits that begin a text. -/
def figL (l : List UInt8) : List UInt8 := l.take (l.length - (figR l).length)
/-- A text without the sign that begins it. -/
def signR (l : List UInt8) : List UInt8 := if hasPrefix l [43] = true ∨ hasPrefix l [45] = true then l.drop 1 else l
/-- Is it the end of a number's text, from its e on? -/
def expG (l : List UInt8) : Bool := if l.head? = some 101 ∨ l.head? = some 69 then (figL (signR (l.drop 1)) ≠ []) && (figR (signR (l.drop 1)) = []) else false
/-- What stands behind the fraction of a number's text; none: there is a period, and no digit behind it. -/
def fracG (l : List UInt8) : Option (List UInt8) := if hasPrefix l [46] = true then (if figL (l.drop 1) = [] then none else some (figR (l.drop 1))) else some l
/-- Is it the text of a number? -/
def numG (l : List UInt8) : Bool :=
  if figL (trimPrefix l [45]) = [] ∨ (1 < (figL (trimPrefix l [45])).length ∧ (figL (trimPrefix l [45])).head? = some 48) then false
  else match fracG (figR (trimPrefix l [45])) with
    | none => false
    | some r => if r = [] then true else expG r

theorem trimLeftS_len (l cs : List UInt8) : (trimLeftS l cs).length ≤ l.length := by
  unfold trimLeftS
  exact (List.dropWhile_suffix _).length_le
theorem trimLeftS_suffix (l cs : List UInt8) : trimLeftS l cs <:+ l := List.dropWhile_suffix _
theorem trimLeftS_drop (l cs : List UInt8) : l.drop (l.length - (trimLeftS l cs).length) = trimLeftS l cs := by
  obtain ⟨t, h⟩ := trimLeftS_suffix l cs
  have : l.length = t.length + (trimLeftS l cs).length := by conv => lhs; rw [← h]; simp
  rw [show l.length - (trimLeftS l cs).length = t.length by omega]
  conv => lhs; rw [← h]
  simp
theorem figL_append (l : List UInt8) : figL l ++ figR l = l := by
  unfold figL
  conv => lhs; rhs; rw [figR, ← trimLeftS_drop]
  rw [← figR, List.take_append_drop]
theorem numG_nil : numG [] = false := by decide

/-! ### The machine -/
/-- A text without the blanks that begin it. -/
def sk (l : List UInt8) : List UInt8 := trimLeftS l [32, 9, 10, 13]
theorem sk_len (l : List UInt8) : (sk l).length ≤ l.length := trimLeftS_len _ _
/-- A text without the bytes of numbers that begin it. -/
def numR (l : List UInt8) : List UInt8 := trimLeftS l [48, 49, 50, 51, 52, 53, 54, 55, 56, 57, 43, 45, 46, 101, 69]
def numL (l : List UInt8) : List UInt8 := l.take (l.length - (numR l).length)

def jWord (k : Int) : JV := ⟨k, ⟨#[]⟩, [], []⟩
def jNum (l : List UInt8) : JV := ⟨4, ⟨l.toArray⟩, [], []⟩
def jText (l : List UInt8) : JV := ⟨5, ⟨l.toArray⟩, [], []⟩
/-- A word, a string or a number, and what stands behind it. -/
def singleG (l : List UInt8) : Option (JV × List UInt8) :=
  if hasPrefix l [110, 117, 108, 108] = true then some (jWord 1, sk (l.drop 4))
  else if hasPrefix l [102, 97, 108, 115, 101] = true then some (jWord 2, sk (l.drop 5))
  else if hasPrefix l [116, 114, 117, 101] = true then some (jWord 3, sk (l.drop 4))
  else if hasPrefix l [34] = true then (match unqG l with | some (t, m) => some (jText t, sk (l.drop m)) | none => none)
  else if numG (numL l) = true then some (jNum (numL l), sk (l.drop (l.length - (numR l).length))) else none

/-- An unfinished value: is it an object? what is in it; the name of the field whose value is read. -/
structure Fr where
  obj : Bool
  els : List (ByteArray × JV)
  name : ByteArray
def Fr.add (F : Fr) (v : JV) : Fr := { F with els := F.els ++ [(F.name, v)] }
def Fr.close (F : Fr) : JV := if F.obj then ⟨7, ⟨#[]⟩, [], F.els⟩ else ⟨6, ⟨#[]⟩, F.els.map (·.2), []⟩
def Fr.mark (F : Fr) : UInt8 := if F.obj then 125 else 93
def Fr.new (o : Bool) : Fr := ⟨o, [], ⟨#[]⟩⟩

/-- How a step ends: it fails; a value has ended; another one has to follow. -/
inductive Out where
  | fail
  | val (v : JV) (l : List UInt8) (K : List Fr)
  | more (l : List UInt8) (K : List Fr)

/-- A mark, if it is what comes next. -/
def takeG (c : UInt8) (l : List UInt8) : Option (List UInt8) := if l.head? = some c then some (sk (l.drop 1)) else none
/-- The name and the colon ahead of a field's value. -/
def nameG (F : Fr) (l : List UInt8) : Option (Fr × List UInt8) :=
  if F.obj then
    match unqG l with
    | none => none
    | some (t, m) => (takeG 58 (sk (l.drop m))).map fun r => ({ F with name := ⟨t.toArray⟩ }, r)
  else some (F, l)
def moreG (F : Fr) (K : List Fr) (l : List UInt8) : Out := match nameG F l with | none => .fail | some (F', r) => .more r (F' :: K)
def openG (o : Bool) (K : List Fr) (l : List UInt8) : Out := match takeG (Fr.new o).mark l with | some r => .val (Fr.new o).close r K | none => moreG (Fr.new o) K l
def beginG (K : List Fr) (l : List UInt8) : Out :=
  match takeG 91 l with
  | some r => openG false K r
  | none => match takeG 123 l with
    | some r => openG true K r
    | none => match singleG l with
      | some (v, r) => .val v r K
      | none => .fail
def putG (v : JV) (F : Fr) (K : List Fr) (l : List UInt8) : Out :=
  match takeG F.mark l with
  | some r => .val (F.add v).close r K
  | none => match takeG 44 l with
    | some r => moreG (F.add v) K r
    | none => .fail

/-- A value has ended: it is put in those that wait, until another one has to follow, or all have ended. -/
def upG : JV → List UInt8 → List Fr → Out
  | v, l, [] => .val v l []
  | v, l, F :: K => match putG v F K l with
    | .fail => .fail
    | .more l' K' => .more l' K'
    | .val v' l' _ => upG v' l' K
def runG : Nat → List UInt8 → List Fr → Option (JV × List UInt8)
  | 0, _, _ => none
  | f + 1, l, K => match beginG K l with
    | .fail => none
    | .more l' K' => runG f l' K'
    | .val v l' K' => match upG v l' K' with
      | .fail => none
      | .more l2 K2 => runG f l2 K2
      | .val v2 l2 _ => some (v2, l2)
/-- The value of which a text consists. -/
def wholeG (l : List UInt8) : Option JV := match runG (l.length + 1) (sk l) [] with
  | some (v, []) => some v
  | _ => none
end Go.Proofs.YtnjikipncgbjjaaGreatDoor
