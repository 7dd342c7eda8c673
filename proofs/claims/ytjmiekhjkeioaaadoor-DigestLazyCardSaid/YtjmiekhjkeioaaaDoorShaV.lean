/- The sums of "abc" and of no bytes, worked out by the kernel. It names nothing of the program. -/
import Derived.Test.YtjmiekhjkeioaaaDoorShaP
namespace Go.Proofs.YtjmiekhjkeioaaaDoor
set_option linter.unusedVariables false

/-- A word, worked out to a numeral before it is handed on. -/
def frc {α : Type} (x : UInt32) (k : UInt32 → α) : α := Nat.rec (motive := fun _ => α) (k (UInt32.ofNat 0)) (fun m _ => k (UInt32.ofNat (m + 1))) x.toNat
theorem frc_eq {α : Type} (x : UInt32) (k : UInt32 → α) : frc x k = k x := by
  have e : ∀ n : Nat, (Nat.rec (motive := fun _ => α) (k (UInt32.ofNat 0)) (fun m _ => k (UInt32.ofNat (m + 1))) n : α) = k (UInt32.ofNat n) := fun n => by cases n <;> rfl
  unfold frc
  rw [e, UInt32.ofNat_toNat]
def stepW (r : List UInt32) : List UInt32 := frc (sg1 (r.getD 1 0) + r.getD 6 0 + sg0 (r.getD 14 0) + r.getD 15 0) fun x => x :: r
def iterW : Nat → List UInt32 → List UInt32
  | 0, r => r
  | n + 1, r => iterW n (stepW r)
def runR : List UInt32 → List UInt32 → Eight → Eight
  | k :: ks, w :: ws, s => frc (s.h + su1 s.e + chW s.e s.f s.g + k + w) fun x => frc (x + (su0 s.a + majW s.a s.b s.c)) fun a => frc (s.d + x) fun e => runR ks ws ⟨a, s.a, s.b, s.c, e, s.e, s.f, s.g⟩
  | _, _, s => s
def revW (B : Nat → UInt8) (t : Nat) : List UInt32 := ((List.range t).map (Wd B)).reverse
theorem revW_succ (B : Nat → UInt8) (t : Nat) : revW B (t + 1) = Wd B t :: revW B t := by unfold revW; rw [List.range_succ]; simp
theorem revW_at (B : Nat → UInt8) : ∀ (t i : Nat), i < t → (revW B t).getD i 0 = Wd B (t - 1 - i)
  | 0, i, h => by omega
  | t + 1, 0, h => by rw [revW_succ]; simp
  | t + 1, i + 1, h => by
    rw [revW_succ]
    show (revW B t).getD i 0 = _
    rw [revW_at B t i (by omega)]
    congr 1; omega
theorem stepW_rev (B : Nat → UInt8) (t : Nat) (h : 16 ≤ t) : stepW (revW B t) = revW B (t + 1) := by
  unfold stepW
  rw [frc_eq, revW_at B t 1 (by omega), revW_at B t 6 (by omega), revW_at B t 14 (by omega), revW_at B t 15 (by omega), revW_succ, Wd_high B t h]
  rw [show t - 1 - 1 = t - 2 by omega, show t - 1 - 6 = t - 7 by omega, show t - 1 - 14 = t - 15 by omega, show t - 1 - 15 = t - 16 by omega]
theorem iterW_rev (B : Nat → UInt8) : ∀ (n t : Nat), 16 ≤ t → iterW n (revW B t) = revW B (t + n)
  | 0, t, _ => rfl
  | n + 1, t, h => by
    show iterW n (stepW (revW B t)) = _
    rw [stepW_rev B t h, iterW_rev B n (t + 1) (by omega)]
    congr 1; omega
theorem runR_run (B : Nat → UInt8) (s : Eight) : ∀ (n t : Nat), t + n = 64 → runR (kList.drop t) (((List.range 64).map (Wd B)).drop t) (rnds B s t) = rnds B s 64
  | 0, t, h => by
    obtain rfl : t = 64 := by omega
    rw [show kList.drop 64 = [] from rfl]; rfl
  | n + 1, t, h => by
    have h1 : kList.drop t = Kc t :: kList.drop (t + 1) := by
      have hl : t < kList.length := by show t < 64; omega
      rw [List.drop_eq_getElem_cons hl]
      unfold Kc
      simp [List.getD, List.getElem?_eq_getElem hl]
    have h2 : ((List.range 64).map (Wd B)).drop t = Wd B t :: ((List.range 64).map (Wd B)).drop (t + 1) := by
      rw [List.drop_eq_getElem_cons (by simp; omega)]
      simp
    rw [h1, h2]
    show frc _ _ = _
    rw [frc_eq, frc_eq, frc_eq]
    exact runR_run B s n (t + 1) (by omega)
/-- The first sixteen words of a block. -/
def wordsF : Nat → (Nat → UInt8) → List UInt32
  | 0, _ => []
  | n + 1, B => frc (be4 (B (4 * n)) (B (4 * n + 1)) (B (4 * n + 2)) (B (4 * n + 3))) fun x => x :: wordsF n B
theorem wordsF_rev (B : Nat → UInt8) : ∀ n, n ≤ 16 → wordsF n B = revW B n
  | 0, _ => rfl
  | n + 1, h => by
    show frc _ _ = _
    rw [frc_eq, wordsF_rev B n (by omega), revW_succ, Wd_low B n (by omega)]
def compF (s : Eight) (B : Nat → UInt8) : Eight := (runR kList (iterW 48 (wordsF 16 B)).reverse s).add s
theorem compF_eq (s : Eight) (B : Nat → UInt8) : compF s B = comp s B := by
  unfold compF comp
  rw [wordsF_rev B 16 (by omega), iterW_rev B 48 16 (by omega)]
  have := runR_run B s 64 0 rfl
  rw [show revW B (16 + 48) = ((List.range 64).map (Wd B)).reverse from rfl, List.reverse_reverse]
  exact congrArg (fun x => Eight.add x s) this
/-- The text "abc". -/
def abcL : List UInt8 := [97, 98, 99]
theorem dig_one (l : List UInt8) (h : (padded l).length / 64 = 1) : digest8 l = compF init8 (fun j => (padded l).getD (64 * 0 + j) 0) := by
  unfold digest8
  rw [h, compF_eq]; rfl
def byteF (l : List UInt8) (j : Nat) : UInt8 := ((compF init8 (fun j => (padded l).getD (64 * 0 + j) 0)).at (j / 4) >>> UInt32.ofNat (24 - 8 * (j % 4))).toUInt8
theorem sumB_one (l : List UInt8) (h : (padded l).length / 64 = 1) (j : Nat) : sumB l j = byteF l j := by unfold sumB byteF; rw [dig_one l h]
theorem abc_0 : sumB abcL 0 = 0xba := by rw [sumB_one abcL (by decide +kernel)]; decide +kernel
theorem abc_1 : sumB abcL 1 = 0x78 := by rw [sumB_one abcL (by decide +kernel)]; decide +kernel
theorem abc_31 : sumB abcL 31 = 0xad := by rw [sumB_one abcL (by decide +kernel)]; decide +kernel
theorem nil_0 : sumB [] 0 = 0xe3 := by rw [sumB_one [] (by decide +kernel)]; decide +kernel
theorem nil_31 : sumB [] 31 = 0x55 := by rw [sumB_one [] (by decide +kernel)]; decide +kernel
end Go.Proofs.YtjmiekhjkeioaaaDoor
