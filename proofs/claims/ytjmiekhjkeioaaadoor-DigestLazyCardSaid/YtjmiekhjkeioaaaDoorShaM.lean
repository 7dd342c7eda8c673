/- SHA-256 as plain functions on words, and what the two implementations need of them. It names nothing of the program. -/
import Derived.Laws.BitsAllLaws
import Derived.RowKit
namespace Go.Proofs.YtjmiekhjkeioaaaDoor
open Go.RowKit
set_option linter.unusedVariables false

/-- A word turned to the right. -/
def ror (x : UInt32) (n : Nat) : UInt32 := x >>> UInt32.ofNat n ||| x <<< UInt32.ofNat (32 - n)
def sg0 (x : UInt32) : UInt32 := ror x 7 ^^^ ror x 18 ^^^ x >>> 3
def sg1 (x : UInt32) : UInt32 := ror x 17 ^^^ ror x 19 ^^^ x >>> 10
def su0 (x : UInt32) : UInt32 := ror x 2 ^^^ ror x 13 ^^^ ror x 22
def su1 (x : UInt32) : UInt32 := ror x 6 ^^^ ror x 11 ^^^ ror x 25
def chW (e f g : UInt32) : UInt32 := e &&& f ||| ~~~e &&& g
def majW (a b c : UInt32) : UInt32 := a &&& b ||| c &&& (a ||| b)
def be4 (b0 b1 b2 b3 : UInt8) : UInt32 := b0.toUInt32 <<< 24 ||| b1.toUInt32 <<< 16 ||| b2.toUInt32 <<< 8 ||| b3.toUInt32

theorem chW_xor (e f g : UInt32) : (e &&& f) ^^^ (~~~e &&& g) = chW e f g := by
  unfold chW
  apply UInt32.toBitVec_inj.1
  apply BitVec.eq_of_getLsbD_eq
  intro i hi
  simp only [UInt32.toBitVec_xor, UInt32.toBitVec_or, UInt32.toBitVec_and, UInt32.toBitVec_not, BitVec.getLsbD_xor, BitVec.getLsbD_or, BitVec.getLsbD_and, BitVec.getLsbD_not, hi, decide_true, Bool.true_and]
  cases e.toBitVec.getLsbD i <;> cases f.toBitVec.getLsbD i <;> cases g.toBitVec.getLsbD i <;> rfl
theorem majW_xor (a b c : UInt32) : (a &&& b) ^^^ (a &&& c) ^^^ (b &&& c) = majW a b c := by
  unfold majW
  apply UInt32.toBitVec_inj.1
  apply BitVec.eq_of_getLsbD_eq
  intro i hi
  simp only [UInt32.toBitVec_xor, UInt32.toBitVec_or, UInt32.toBitVec_and, BitVec.getLsbD_xor, BitVec.getLsbD_or, BitVec.getLsbD_and]
  cases a.toBitVec.getLsbD i <;> cases b.toBitVec.getLsbD i <;> cases c.toBitVec.getLsbD i <;> rfl

/-! The walk's own spelling of the operations on words. -/
/-- A word as a value. -/
@[reducible] def wv (x : UInt32) : Value := .int .u32 (x.toNat : Int)
theorem w_lt (x : UInt32) : x.toNat < 4294967296 := x.toNat_lt
theorem bits_and_w (x y : UInt32) : bits .and .u32 (x.toNat : Int) (y.toNat : Int) = ((x &&& y).toNat : Int) := by rw [u32_and_nat _ _ (w_lt x) (w_lt y), UInt32.toNat_and]
theorem bits_or_w (x y : UInt32) : bits .or .u32 (x.toNat : Int) (y.toNat : Int) = ((x ||| y).toNat : Int) := by rw [u32_or_nat _ _ (w_lt x) (w_lt y), UInt32.toNat_or]
theorem bits_xor_w (x y : UInt32) : bits .xor .u32 (x.toNat : Int) (y.toNat : Int) = ((x ^^^ y).toNat : Int) := by rw [u32_xor_nat _ _ (w_lt x) (w_lt y), UInt32.toNat_xor]
theorem add_w (x y : UInt32) : ((x.toNat : Int) + (y.toNat : Int)) % 4294967296 = ((x + y).toNat : Int) := by
  rw [UInt32.toNat_add]; omega
theorem shr_w (x : UInt32) (n : Nat) (h : n < 32) : (x.toNat : Int) / 2 ^ n = ((x >>> UInt32.ofNat n).toNat : Int) := by
  rw [UInt32.toNat_shiftRight, UInt32.toNat_ofNat', Nat.mod_eq_of_lt (show n < 2 ^ 32 by omega), Nat.mod_eq_of_lt h, Nat.shiftRight_eq_div_pow]
  simp
theorem shl_w (x : UInt32) (n : Nat) (h : n < 32) : ((x.toNat : Int) * 2 ^ n) % 4294967296 = ((x <<< UInt32.ofNat n).toNat : Int) := by
  rw [UInt32.toNat_shiftLeft, UInt32.toNat_ofNat', Nat.mod_eq_of_lt (show n < 2 ^ 32 by omega), Nat.mod_eq_of_lt h, Nat.shiftLeft_eq]
  simp
/-- A byte as a word, as the walk converts it. -/
theorem be4_val (b0 b1 b2 b3 : UInt8) : bits BinOp.or IntKind.u32 (bits BinOp.or IntKind.u32 (bits BinOp.or IntKind.u32 ((b0.toNat : Int) % 4294967296 * 16777216 % 4294967296) ((b1.toNat : Int) % 4294967296 * 65536 % 4294967296)) ((b2.toNat : Int) % 4294967296 * 256 % 4294967296)) ((b3.toNat : Int) % 4294967296) = ((be4 b0 b1 b2 b3).toNat : Int) := by
  have c : ∀ x : UInt8, (x.toNat : Int) % 4294967296 = (x.toUInt32.toNat : Int) := fun x => by
    rw [UInt8.toNat_toUInt32]; have := x.toNat_lt; omega
  rw [c, c, c, c]
  have e1 := shl_w b0.toUInt32 24 (by omega)
  have e2 := shl_w b1.toUInt32 16 (by omega)
  have e3 := shl_w b2.toUInt32 8 (by omega)
  rw [show (2 : Int) ^ 24 = 16777216 by rfl] at e1
  rw [show (2 : Int) ^ 16 = 65536 by rfl] at e2
  rw [show (2 : Int) ^ 8 = 256 by rfl] at e3
  rw [e1, e2, e3, bits_or_w, bits_or_w, bits_or_w]
  rfl

theorem sg1_val (a : UInt32) : bits BinOp.xor IntKind.u32 (bits BinOp.xor IntKind.u32 ((ror a 17).toNat : Int) ((ror a 19).toNat : Int)) ((a.toNat : Int) / 1024) = ((sg1 a).toNat : Int) := by
  have e := shr_w a 10 (by omega)
  rw [show (2 : Int) ^ 10 = 1024 by rfl] at e
  rw [e, bits_xor_w, bits_xor_w]; rfl
theorem sg0_val (a : UInt32) : bits BinOp.xor IntKind.u32 (bits BinOp.xor IntKind.u32 ((ror a 7).toNat : Int) ((ror a 18).toNat : Int)) ((a.toNat : Int) / 8) = ((sg0 a).toNat : Int) := by
  have e := shr_w a 3 (by omega)
  rw [show (2 : Int) ^ 3 = 8 by rfl] at e
  rw [e, bits_xor_w, bits_xor_w]; rfl
theorem add4_w (a b c d : UInt32) : ((a.toNat : Int) + (b.toNat : Int) + (c.toNat : Int) + (d.toNat : Int)) % 4294967296 = ((a + b + c + d).toNat : Int) := by
  simp only [UInt32.toNat_add]; omega
theorem wd_val (a b c d : UInt32) : (bits BinOp.xor IntKind.u32 (bits BinOp.xor IntKind.u32 ((ror a 17).toNat : Int) ((ror a 19).toNat : Int)) ((a.toNat : Int) / 1024) + (b.toNat : Int) + bits BinOp.xor IntKind.u32 (bits BinOp.xor IntKind.u32 ((ror c 7).toNat : Int) ((ror c 18).toNat : Int)) ((c.toNat : Int) / 8) + (d.toNat : Int)) % 4294967296 = ((sg1 a + b + sg0 c + d).toNat : Int) := by
  rw [sg1_val, sg0_val, add4_w]

/-- The words of a block of bytes. -/
def Wd (B : Nat → UInt8) (t : Nat) : UInt32 :=
  if h : t < 16 then be4 (B (4 * t)) (B (4 * t + 1)) (B (4 * t + 2)) (B (4 * t + 3)) else sg1 (Wd B (t - 2)) + Wd B (t - 7) + sg0 (Wd B (t - 15)) + Wd B (t - 16)
termination_by t
decreasing_by all_goals omega
theorem Wd_low (B : Nat → UInt8) (t : Nat) (h : t < 16) : Wd B t = be4 (B (4 * t)) (B (4 * t + 1)) (B (4 * t + 2)) (B (4 * t + 3)) := by rw [Wd, dif_pos h]
theorem Wd_high (B : Nat → UInt8) (t : Nat) (h : 16 ≤ t) : Wd B t = sg1 (Wd B (t - 2)) + Wd B (t - 7) + sg0 (Wd B (t - 15)) + Wd B (t - 16) := by
  conv => lhs; rw [Wd]
  rw [dif_neg (by omega)]
/-- Eight words. -/
structure Eight where
  (a b c d e f g h : UInt32)
def Eight.at (s : Eight) : Nat → UInt32
  | 0 => s.a | 1 => s.b | 2 => s.c | 3 => s.d | 4 => s.e | 5 => s.f | 6 => s.g | 7 => s.h | _ => 0
def kList : List UInt32 := [
  0x428a2f98, 0x71374491, 0xb5c0fbcf, 0xe9b5dba5, 0x3956c25b, 0x59f111f1, 0x923f82a4, 0xab1c5ed5, 0xd807aa98, 0x12835b01, 0x243185be, 0x550c7dc3, 0x72be5d74, 0x80deb1fe, 0x9bdc06a7, 0xc19bf174,
  0xe49b69c1, 0xefbe4786, 0x0fc19dc6, 0x240ca1cc, 0x2de92c6f, 0x4a7484aa, 0x5cb0a9dc, 0x76f988da, 0x983e5152, 0xa831c66d, 0xb00327c8, 0xbf597fc7, 0xc6e00bf3, 0xd5a79147, 0x06ca6351, 0x14292967,
  0x27b70a85, 0x2e1b2138, 0x4d2c6dfc, 0x53380d13, 0x650a7354, 0x766a0abb, 0x81c2c92e, 0x92722c85, 0xa2bfe8a1, 0xa81a664b, 0xc24b8b70, 0xc76c51a3, 0xd192e819, 0xd6990624, 0xf40e3585, 0x106aa070,
  0x19a4c116, 0x1e376c08, 0x2748774c, 0x34b0bcb5, 0x391c0cb3, 0x4ed8aa4a, 0x5b9cca4f, 0x682e6ff3, 0x748f82ee, 0x78a5636f, 0x84c87814, 0x8cc70208, 0x90befffa, 0xa4506ceb, 0xbef9a3f7, 0xc67178f2]
def Kc (t : Nat) : UInt32 := kList.getD t 0
/-- One round. -/
def rnd (K W : UInt32) (s : Eight) : Eight :=
  ⟨s.h + su1 s.e + chW s.e s.f s.g + K + W + (su0 s.a + majW s.a s.b s.c), s.a, s.b, s.c, s.d + (s.h + su1 s.e + chW s.e s.f s.g + K + W), s.e, s.f, s.g⟩
def rnds (B : Nat → UInt8) (s : Eight) : Nat → Eight
  | 0 => s
  | t + 1 => rnd (Kc t) (Wd B t) (rnds B s t)
def Eight.add (v s : Eight) : Eight := ⟨v.a + s.a, v.b + s.b, v.c + s.c, v.d + s.d, v.e + s.e, v.f + s.f, v.g + s.g, v.h + s.h⟩
theorem Eight.add_at (v s : Eight) (j : Nat) (h : j < 8) : (v.add s).at j = v.at j + s.at j := by
  rcases j with _ | _ | _ | _ | _ | _ | _ | _ | j
  all_goals first | rfl | omega
/-- The words behind a block. -/
def comp (s : Eight) (B : Nat → UInt8) : Eight := (rnds B s 64).add s
def init8 : Eight := ⟨0x6a09e667, 0xbb67ae85, 0x3c6ef372, 0xa54ff53a, 0x510e527f, 0x9b05688c, 0x1f83d9ab, 0x5be0cd19⟩
/-- The words behind so many blocks of a text. -/
def hashN (l : List UInt8) : Nat → Eight
  | 0 => init8
  | k + 1 => comp (hashN l k) (fun j => l.getD (64 * k + j) 0)

theorem add3_w (a b c : UInt32) : ((a.toNat : Int) + (b.toNat : Int) + (c.toNat : Int)) % 4294967296 = ((a + b + c).toNat : Int) := by
  simp only [UInt32.toNat_add]; omega
theorem add5_w (a b c d e : UInt32) : ((a.toNat : Int) + (b.toNat : Int) + (c.toNat : Int) + (d.toNat : Int) + (e.toNat : Int)) % 4294967296 = ((a + b + c + d + e).toNat : Int) := by
  simp only [UInt32.toNat_add]; omega
theorem su1_val (a : UInt32) : bits BinOp.xor IntKind.u32 (bits BinOp.xor IntKind.u32 ((ror a 6).toNat : Int) ((ror a 11).toNat : Int)) ((ror a 25).toNat : Int) = ((su1 a).toNat : Int) := by
  rw [bits_xor_w, bits_xor_w]; rfl
theorem su0_val (a : UInt32) : bits BinOp.xor IntKind.u32 (bits BinOp.xor IntKind.u32 ((ror a 2).toNat : Int) ((ror a 13).toNat : Int)) ((ror a 22).toNat : Int) = ((su0 a).toNat : Int) := by
  rw [bits_xor_w, bits_xor_w]; rfl

theorem not_w (x : UInt32) : bits BinOp.xor IntKind.u32 IntKind.u32.max (x.toNat : Int) = ((~~~x).toNat : Int) := by
  have e : (IntKind.u32.max : Int) = (((0xffffffff : UInt32)).toNat : Int) := by decide
  rw [e, bits_xor_w]
  congr 2
theorem ch_val (e f g : UInt32) : bits BinOp.or IntKind.u32 (bits BinOp.and IntKind.u32 (e.toNat : Int) (f.toNat : Int)) (bits BinOp.and IntKind.u32 (bits BinOp.xor IntKind.u32 IntKind.u32.max (e.toNat : Int)) (g.toNat : Int)) = ((chW e f g).toNat : Int) := by
  rw [not_w, bits_and_w, bits_and_w, bits_or_w]; rfl
theorem maj_val (a b c : UInt32) : bits BinOp.or IntKind.u32 (bits BinOp.and IntKind.u32 (a.toNat : Int) (b.toNat : Int)) (bits BinOp.and IntKind.u32 (c.toNat : Int) (bits BinOp.or IntKind.u32 (a.toNat : Int) (b.toNat : Int))) = ((majW a b c).toNat : Int) := by
  rw [bits_or_w, bits_and_w, bits_and_w, bits_or_w]; rfl
theorem x_val (e f g h k w : UInt32) : ((h.toNat : Int) + bits BinOp.xor IntKind.u32 (bits BinOp.xor IntKind.u32 ((ror e 6).toNat : Int) ((ror e 11).toNat : Int)) ((ror e 25).toNat : Int) + bits BinOp.or IntKind.u32 (bits BinOp.and IntKind.u32 (e.toNat : Int) (f.toNat : Int)) (bits BinOp.and IntKind.u32 (bits BinOp.xor IntKind.u32 IntKind.u32.max (e.toNat : Int)) (g.toNat : Int)) + (k.toNat : Int) + (w.toNat : Int)) % 4294967296 = ((h + su1 e + chW e f g + k + w).toNat : Int) := by
  rw [su1_val, ch_val, add5_w]
theorem y_val (a b c : UInt32) : (bits BinOp.xor IntKind.u32 (bits BinOp.xor IntKind.u32 ((ror a 2).toNat : Int) ((ror a 13).toNat : Int)) ((ror a 22).toNat : Int) + bits BinOp.or IntKind.u32 (bits BinOp.and IntKind.u32 (a.toNat : Int) (b.toNat : Int)) (bits BinOp.and IntKind.u32 (c.toNat : Int) (bits BinOp.or IntKind.u32 (a.toNat : Int) (b.toNat : Int)))) % 4294967296 = ((su0 a + majW a b c).toNat : Int) := by
  rw [su0_val, maj_val, add_w]

theorem rnds_congr (B C : Nat → UInt8) (s : Eight) (h : ∀ t, t < 64 → Wd B t = Wd C t) : ∀ t, t ≤ 64 → rnds B s t = rnds C s t
  | 0, _ => rfl
  | t + 1, ht => by show rnd _ _ _ = rnd _ _ _; rw [rnds_congr B C s h t (by omega), h t (by omega)]
theorem Wd_congr (B C : Nat → UInt8) (h : ∀ j, j < 64 → B j = C j) (t : Nat) (ht : t < 64) : Wd B t = Wd C t := by
  induction t using Nat.strongRecOn with
  | _ t ih =>
    by_cases h16 : t < 16
    · rw [Wd_low B t h16, Wd_low C t h16, h _ (by omega), h _ (by omega), h _ (by omega), h _ (by omega)]
    · rw [Wd_high B t (by omega), Wd_high C t (by omega), ih _ (by omega) (by omega), ih (t - 7) (by omega) (by omega), ih (t - 15) (by omega) (by omega), ih (t - 16) (by omega) (by omega)]
theorem comp_congr (B C : Nat → UInt8) (s : Eight) (h : ∀ j, j < 64 → B j = C j) : comp s B = comp s C := by
  unfold comp
  rw [rnds_congr B C s (fun t ht => Wd_congr B C h t ht) 64 (Nat.le_refl _)]
theorem getD_append_left (l r : List UInt8) (i : Nat) (h : i < l.length) : (l ++ r).getD i 0 = l.getD i 0 := by
  simp [List.getD, List.getElem?_append_left h]
theorem hashN_append (l r : List UInt8) : ∀ k, 64 * k ≤ l.length → hashN (l ++ r) k = hashN l k
  | 0, _ => rfl
  | k + 1, h => by
    show comp _ _ = comp _ _
    rw [hashN_append l r k (by omega)]
    exact comp_congr _ _ _ (fun j hj => getD_append_left l r _ (by omega))
theorem getD_append_right (l r : List UInt8) (i : Nat) (h : l.length ≤ i) : (l ++ r).getD i 0 = r.getD (i - l.length) 0 := by
  simp [List.getD, List.getElem?_append_right h]
theorem getD_take (l : List UInt8) (m i : Nat) (h : i < m) : (l.take m).getD i 0 = l.getD i 0 := by
  simp [List.getD, h]
end Go.Proofs.YtjmiekhjkeioaaaDoor
