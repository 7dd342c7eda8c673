/- Contracts of firstWords and (*Stream).Add. -/
import Derived.Test.YtjmiekhjkeioaaaDoorShaC
import Derived.Laws.IdiomCopy
import Derived.WalkSpells
import Derived.Lib.Strings
namespace Go.Proofs.YtjmiekhjkeioaaaDoor
open Go.RowKit
set_option linter.unusedVariables false

theorem info28 : (Tryd.prog.info? 59).map (·.size) = some 8 := by kernel_rfl
theorem arr28 : Tryd.prog.underlying 59 = some (.array 8 35) := by kernel_rfl
theorem fw_any (w : World) : Calls Tryd.prog 40 #[] w fun e w' => e = .returned (.agg init8.arr) ∧ Below w.heap.size w w' := by
  go_enter Tryd.func40, Tryd.ntmps40
  go_wp2
  exact bodyPost_ret (results_cell_row rfl _ _ _ 59 _ _ _ rfl (heap_alloc_last _ _) arr28 rfl info28) rfl ⟨by kernel_rfl, (Below.refl _ _).alloc (Nat.le_refl _) _⟩

/-! Many cells of a row written at once. -/
theorem rowIs_setCells {b T N : Nat} : ∀ (vs : List Value) (o : Nat) {w : World} {f : Nat → Value}, w.rowIs b T N f →
    (w.setCells b o vs).rowIs b T N (fun j => if o ≤ j ∧ j < o + vs.length then vs.getD (j - o) undef else f j)
  | [], o, w, f, h => h.congr (fun j _ => by rw [if_neg (by simp)])
  | v :: r, o, w, f, h => by
    rw [World.setCells]
    refine (rowIs_setCells r (o + 1) (h.set o v)).congr (fun j _ => ?_)
    by_cases e : j = o
    · subst e
      rw [if_neg (by omega), if_pos (by simp)]
      simp
    · by_cases h1 : o ≤ j ∧ j < o + (v :: r).length
      · rw [if_pos h1, if_pos (by simp at h1; omega)]
        obtain ⟨m, hm⟩ : ∃ m, j - o = m + 1 := ⟨j - o - 1, by omega⟩
        rw [hm, show j - (o + 1) = m by omega]
        rfl
      · rw [if_neg h1, if_neg (by simp at h1; omega), if_neg e]
theorem Only.setCells {b : Nat} {w : World} : ∀ (vs : List Value) (o : Nat) {w' : World}, Only b w w' → Only b w (w'.setCells b o vs)
  | [], _, _, h => h
  | v :: r, o, w', h => by rw [World.setCells]; exact Only.setCells r (o + 1) (h.setCell (Or.inl rfl) v)
theorem there_row {w : World} {b T N : Nat} {f : Nat → Value} (h : w.rowIs b T N f) (o n : Nat) (hn : o + n ≤ N) : w.there b o n := fun j hj => by
  rw [h.cell (by omega), h.frozen]; exact ⟨rfl, rfl⟩

/-- Bytes as cells. -/
def byteV (c : UInt8) : Value := .int .u8 (c.toNat : Int)
theorem run_copy_str {P : Program} (w : World) (dT sT ty elem : TypeId) (b o dLen dCap : Nat) (s : ByteArray) (hu : P.underlying dT = some (.slice elem)) (hs : (P.info? elem).map (·.size) = some 1)
    (ht : w.there b o (min s.size dLen)) :
    (Builtin.copy_ #[dT, sT] ty #[.slice (some ⟨b, o, none⟩) dLen dCap, .string s]).run P w = .ok (goInt (min s.size dLen : Nat)) (w.setCells b o ((s.data.toList.take (min s.size dLen)).map byteV)) := by
  have hlen : ((s.data.toList.take (min s.size dLen)).map byteV).length = min s.size dLen := by
    rw [List.length_map, List.length_take]; show min (min s.size dLen) s.data.size = _; have : s.data.size = s.size := rfl; omega
  have hst := run_storeCells_cells (P := P) b o ((s.data.toList.take (min s.size dLen)).map byteV) 0 w (fun j hj => by simpa using (ht j (by omega)).1) (fun j hj => by simpa using (ht j (by omega)).2)
    (fun v hv => by obtain ⟨c, _, rfl⟩ := List.mem_map.1 hv; rfl)
  cases hq : P.info? elem with
  | none => simp [hq] at hs
  | some i =>
    simp only [Nat.add_zero] at hst
    simp [Builtin.copy_, run_underlying hu, Builtin.lenOf, Builtin.firstCells, sizeOf, typeInfo, hq]
    rw [show s.size.min dLen = min s.size dLen from rfl, ← List.map_take, ← List.map_take]
    show ((Sem.run P (storeCells ⟨b, o, none⟩ (List.map byteV (List.take (min s.size dLen) s.data.toList))) w).andThen _) = _
    rw [hst]; rfl
theorem wpList_copy_str {P : Program} {w : World} {ops : Array Oper} {rest : List Oper} {o : Oper} {a : Act} {Q : Exit → Act → World → Prop} (hgd : o.guard = none) (d s : Operand) (dT sT : TypeId)
    (ho : o.op = .call { callee := .builtin .copy, args := #[d, s], argTypes := #[dT, sT] }) (elem : TypeId) (hu : P.underlying dT = some (.slice elem)) (hsz : (P.info? elem).map (·.size) = some 1)
    (b off dLen dCap : Nat) (x : ByteArray) (hd : a.eval d = .slice (some ⟨b, off, none⟩) dLen dCap) (hs : a.eval s = .string x) (m : Nat) (hm : m = min x.size dLen) (ht : w.there b off m)
    (cs : List Value) (hcs : cs = (x.data.toList.take m).map byteV)
    (h : wpList P ops Q rest (a.put o.dst (goInt (m : Int))) (w.setCells b off cs)) : wpList P ops Q (o :: rest) a w := by
  refine wpList_plain hgd fun K hK => ?_
  have hrun := run_copy_str (P := P) w dT sT o.type elem b off dLen dCap x hu hsz (hm ▸ ht)
  rw [← hm, ← hcs] at hrun
  unfold Oper.wp
  simp [execOp, ho, resolve, invoke, builtin, hd, hs, hrun, Result.andThen]
  exact hK _ _ h

/-- A Stream that has taken these bytes. -/
def StrOf (w : World) (b : Nat) (l : List UInt8) : Prop := ∃ (h : Nat → UInt32) (wt : Nat → UInt8), strIs w b h wt l.length ∧ (l ≠ [] → h = (hashN l (l.length / 64)).at) ∧ ∀ j, j < l.length % 64 → wt j = l.getD (64 * (l.length / 64) + j) 0
/-- What holds in Add's loop: so many bytes are taken. -/
def AddInv (w : World) (b : Nat) (d : List UInt8) (wr : World) : Prop :=
  (∃ wt : Nat → UInt8, strIs wr b (hashN d (d.length / 64)).at wt d.length ∧ ∀ j, j < d.length % 64 → wt j = d.getD (64 * (d.length / 64) + j) 0) ∧ TabOK wr ∧ Only b w wr

theorem slice29b (b n : Nat) (w : World) : (Instr.sliceAt 60 (.pointer (some ⟨b, 8, none⟩)) (some (.int .i64 ((n : Int).tmod 64))) none none).run Tryd.prog w = .ok (.slice (some ⟨b, 8 + n % 64, none⟩) (64 - n % 64) (64 - n % 64)) w := by
  rw [Int.tmod_eq_emod_of_nonneg (by omega), run_sliceAt_array_l w 60 ⟨b, 8, none⟩ arr29 .i64 ((n : Int) % 64) (by omega) (by rw [arrLen29]; omega), size29]
  show Result.ok _ w = _
  unfold slicedAt
  rw [arrLen29, if_neg (by omega), Nat.mul_one, show ((n : Int) % 64).toNat = n % 64 by omega, add_off]

theorem info5 : (Tryd.prog.info? 5).map (·.size) = some 1 := by kernel_rfl
theorem AddInv.drewN {w : World} {b : Nat} {d : List UInt8} {wr : World} (i : AddInv w b d wr) (k : Nat) : AddInv w b d (wr.drewN k) := by
  obtain ⟨⟨wt, h1, h2⟩, h3, h4⟩ := i
  exact ⟨⟨wt, World.rowIs.of_block h1 rfl, h2⟩, h3, h4.drewN k⟩
theorem AddInv.start {w : World} {b : Nat} {l : List UInt8} (hs : StrOf w b l) (ht : TabOK w) (hl : l ≠ []) : AddInv w b l w := by
  obtain ⟨h, wt, hst, hh, hwt⟩ := hs
  rw [hh hl] at hst
  exact ⟨⟨wt, hst, hwt⟩, ht, Only.refl _ _⟩
/-- Bytes are waiting, and the length is told. -/
theorem AddInv.put {w : World} {b : Nat} {d : List UInt8} {wr : World} (i : AddInv w b d wr) (hb0 : b ≠ 0) (p : List UInt8) (m : Nat) (hm : m = min p.length (64 - d.length % 64)) (hpos : 0 < p.length) :
    ∃ wt : Nat → UInt8, strIs ((wr.setCells b (8 + d.length % 64) ((p.take m).map byteV)).setCell ⟨b, 72, none⟩ (.int .i64 ((d.length : Int) + (m : Int)))) b (hashN d (d.length / 64)).at wt (d ++ p.take m).length ∧ 
      (∀ j, j < d.length % 64 + m → wt j = (d ++ p.take m).getD (64 * (d.length / 64) + j) 0) := by
  obtain ⟨⟨wt, h1, h2⟩, h3, h4⟩ := i
  have hlm : (p.take m).length = m := by rw [List.length_take]; omega
  refine ⟨fun j => if j < d.length % 64 then wt j else if j < d.length % 64 + m then p.getD (j - d.length % 64) 0 else wt j, ?_, ?_⟩
  · refine ((rowIs_setCells ((p.take m).map byteV) (8 + d.length % 64) h1).set 72 _).congr (fun j hj => ?_)
    rw [List.length_map, hlm]
    by_cases e72 : j = 72
    · subst e72
      rw [if_pos rfl]; unfold strCell
      rw [if_neg (by omega), if_neg (by omega), List.length_append, hlm]; simp
    · rw [if_neg e72]
      by_cases hin : 8 + d.length % 64 ≤ j ∧ j < 8 + d.length % 64 + m
      · rw [if_pos hin]; unfold strCell
        dsimp only
        rw [if_neg (by omega), if_pos (by omega), if_neg (by omega), if_pos (by omega), show j - 8 - d.length % 64 = j - (8 + d.length % 64) by omega]
        have hq : j - (8 + d.length % 64) < p.length := by omega
        simp [List.getD, List.getElem?_eq_getElem hq, show j - (8 + d.length % 64) < m by omega, byteV]
      · rw [if_neg hin]; unfold strCell
        by_cases h8 : j < 8
        · rw [if_pos h8, if_pos h8]
        · rw [if_neg h8, if_neg h8, if_pos (by omega), if_pos (by omega)]
          dsimp only
          by_cases hr : j - 8 < d.length % 64
          · rw [if_pos hr]
          · rw [if_neg hr, if_neg (by omega)]
  · intro j hj
    show (if j < d.length % 64 then wt j else if j < d.length % 64 + m then p.getD (j - d.length % 64) 0 else wt j) = _
    by_cases h : j < d.length % 64
    · rw [if_pos h, getD_append_left _ _ _ (by omega), h2 j h]
    · rw [if_neg h, if_pos hj, getD_append_right _ _ _ (by omega), getD_take _ _ _ (by omega)]
      congr 1; omega
theorem AddInv.rest {w : World} {b : Nat} {d : List UInt8} {wr : World} (i : AddInv w b d wr) (hb0 : b ≠ 0) (cs : List Value) (o : Nat) (v : Value) :
    TabOK ((wr.setCells b o cs).setCell ⟨b, 72, none⟩ v) ∧ Only b w ((wr.setCells b o cs).setCell ⟨b, 72, none⟩ v) := by
  obtain ⟨h1, h3, h4⟩ := i
  exact ⟨h3.only hb0 ((Only.setCells cs o (Only.refl b wr)).setCell (Or.inl rfl) v), (Only.setCells cs o h4).setCell (Or.inl rfl) v⟩

def strOf : Value → ByteArray | .string s => s | _ => ByteArray.empty
theorem isEmpty_ne {s : ByteArray} (h : s.data.toList ≠ []) : s.toList.isEmpty = false := by
  rw [Lib.toList_data]
  cases hx : s.data.toList with
  | nil => exact absurd hx h
  | cons => rfl
theorem isEmpty_eq {s : ByteArray} (h : s.data.toList = []) : s.toList.isEmpty = true := by rw [Lib.toList_data, h]; rfl
theorem size_toList (s : ByteArray) : s.size = s.data.toList.length := by rw [Array.length_toList]; rfl

theorem extract_rest (p : ByteArray) (m : Nat) : (p.extract m p.size).data.toList = p.data.toList.drop m := by
  rw [Lib.extract_data, List.take_of_length_le (by rw [List.length_drop, size_toList]; exact Nat.le_refl _)]
theorem add_full {w : World} {b : Nat} {d p : List UInt8} {m : Nat} {wt : Nat → UInt8} {w4 w5 : World} (hz : (d.length + m) % 64 = 0) (hm : m = min p.length (64 - d.length % 64))
    (h2 : ∀ j, j < d.length % 64 + m → wt j = (d ++ p.take m).getD (64 * (d.length / 64) + j) 0) (h3 : TabOK w4) (h4 : Only b w w4)
    (t1 : strIs w5 b (comp (hashN d (d.length / 64)) wt).at wt (d ++ p.take m).length) (t2 : Only b w4 w5) (hb0 : b ≠ 0) (hm1 : 1 ≤ m := by omega) : AddInv w b (d ++ p.take m) w5 := by
  have hlm : (p.take m).length = m := by rw [List.length_take]; omega
  have hl : (d ++ p.take m).length = d.length + m := by rw [List.length_append, hlm]
  refine ⟨⟨wt, ?_, fun j hj => by rw [hl] at hj; omega⟩, h3.only hb0 t2, h4.trans t2⟩
  have hk : (d ++ p.take m).length / 64 = d.length / 64 + 1 := by rw [hl]; omega
  rw [hk]
  show strIs w5 b (comp (hashN _ _) _).at wt _
  rw [hashN_append _ _ _ (by omega), comp_congr _ wt (hashN d (d.length / 64)) (fun j hj => (h2 j (by omega)).symm)]
  exact t1
theorem add_part {w : World} {b : Nat} {d p : List UInt8} {m : Nat} {wt : Nat → UInt8} {w4 : World} (hz : ¬ (d.length + m) % 64 = 0) (hm : m = min p.length (64 - d.length % 64))
    (h1 : strIs w4 b (hashN d (d.length / 64)).at wt (d ++ p.take m).length)
    (h2 : ∀ j, j < d.length % 64 + m → wt j = (d ++ p.take m).getD (64 * (d.length / 64) + j) 0) (h3 : TabOK w4) (h4 : Only b w w4) : AddInv w b (d ++ p.take m) w4 := by
  have hlm : (p.take m).length = m := by rw [List.length_take]; omega
  have hl : (d ++ p.take m).length = d.length + m := by rw [List.length_append, hlm]
  have hk : (d ++ p.take m).length / 64 = d.length / 64 := by rw [hl]; omega
  refine ⟨⟨wt, ?_, fun j hj => ?_⟩, h3, h4⟩
  · rw [hk, hashN_append _ _ _ (by omega)]; exact h1
  · rw [hk]; rw [hl] at hj; exact h2 j (by omega)

set_option maxRecDepth 100000 in
theorem add_some (b : Nat) (l : List UInt8) (s : ByteArray) (w : World) (hs : StrOf w b l) (ht : TabOK w) (hb0 : b ≠ 0) (hlen : l.length ≤ 1000000) (hsz : s.data.toList.length ≤ 1000000) (hne : s.data.toList ≠ []) (hl : l.length ≠ 0) :
    Calls Tryd.prog 27 #[.pointer (some ⟨b, 0, none⟩), .string s] w fun e w' => e = .returned (.tuple #[]) ∧ StrOf w' b (l ++ s.data.toList) ∧ TabOK w' ∧ Only b w w' := by
  have HI := Lib.hid (AddInv.start hs ht (fun e => hl (by rw [e]; rfl)))
  obtain ⟨h, wt, hst, -, -⟩ := hs
  have hlt := World.rowIs.lt hst
  have hne1 := isEmpty_ne hne
  have c72 := hst.len
  have HNE := Lib.hid hne
  clear hst ht hne
  have hz : ((l.length : Int) == 0) = false := by simp; intro e; exact hl (by rw [e]; rfl)
  go_enter Tryd.func27, Tryd.ntmps27
  go_wp2_with fail
  clear c72 hne1 hz
  go_loopw [1] (fun v wr => ∃ (d : List UInt8) (p : ByteArray), v = .string p ∧ Hid (d ++ p.data.toList = l ++ s.data.toList) ∧ d.length ≤ 2000000 ∧ Hid (AddInv w b d wr)) (fun v _ => (strOf v).size)
  case atStart => exact ⟨l, s, rfl, rfl, by omega, HI⟩
  case round =>
    obtain ⟨d, p, rfl, hdp, hd, HA⟩ := hrel
    by_cases hp : p.data.toList = []
    · have hp1 := isEmpty_eq hp
      go_wp2_with fail
      go_end0
      refine ⟨rfl, ?_, HA.out.2.1, HA.out.2.2⟩
      have e : d = l ++ s.data.toList := by have := hdp.out; rwa [hp, List.append_nil] at this
      obtain ⟨⟨wt, q1, q2⟩, -⟩ := HA.out
      rw [← e]
      exact ⟨_, wt, q1, fun _ => rfl, q2⟩
    · have hp1 := isEmpty_ne hp
      have hsl := fun w0 => slice29b b d.length w0
      obtain ⟨⟨wt, q1, -⟩, -⟩ := id HA.out
      have c72 := q1.len
      go_wp2_with fail
      go_still_tail 10, (by kernel_rfl)
      change wpList _ _ _ _ _ wr.drew
      have HA2 := Lib.hid (HA.out.drewN 1)
      rw [← World.drew_is_drewN] at HA2
      clear HA c72 q1 wt hsl HI
      generalize wr.drew = w2 at HA2
      obtain ⟨m, hm⟩ : ∃ m, m = min p.data.toList.length (64 - d.length % 64) := ⟨_, rfl⟩
      have HM := Lib.hid hm
      have hm1 : 1 ≤ m := by have := List.length_pos_iff.2 hp; omega
      have hm2 : m ≤ 64 - d.length % 64 := by omega
      have hm3 : m ≤ p.data.toList.length := by omega
      clear hm
      obtain ⟨cs, hcs⟩ : ∃ cs, cs = (p.data.toList.take m).map byteV := ⟨_, rfl⟩
      have HC := Lib.hid hcs
      clear hcs
      obtain ⟨⟨wt, q1, -⟩, -⟩ := id HA2.out
      have HTH := Lib.hid (there_row q1 (8 + d.length % 64) m (by omega))
      clear q1 wt
      refine wpList_copy_str rfl _ _ 52 9 rfl 5 Tryd.underlying52 info5 b (8 + d.length % 64) (64 - d.length % 64) (64 - d.length % 64) p rfl rfl m HM.out HTH.out cs HC.out ?_
      obtain ⟨wt, q1, q2⟩ := HA2.out.put hb0 p.data.toList m HM.out (List.length_pos_iff.2 hp)
      obtain ⟨q3, q4⟩ := HA2.out.rest hb0 cs (8 + d.length % 64) (.int .i64 ((d.length : Int) + (m : Int)))
      rw [← HC.out] at q1
      have c72 : (w2.setCells b (8 + d.length % 64) cs).cell? ⟨b, 72, none⟩ = some (.int .i64 (d.length : Int)) := by
        obtain ⟨⟨wt, q1, -⟩, -⟩ := id HA2.out
        rw [World.cell?_setCells_out b cs _ _ _ (fun _ _ => Or.inr (by rw [HC.out, List.length_map, List.length_take]; show 8 + d.length % 64 + _ ≤ 72; omega))]
        exact q1.len
      have f72 : (w2.setCells b (8 + d.length % 64) cs).frozen? ⟨b, 72, none⟩ = false := by
        obtain ⟨⟨wt, q1, -⟩, -⟩ := id HA2.out
        rw [World.frozen?_setCells]; exact q1.frozen 72
      generalize w2.setCells b (8 + d.length % 64) cs = w3 at q1 q3 q4 c72 f72 ⊢
      have H1 := Lib.hid q1
      have H2 := Lib.hid q2
      have H3 := Lib.hid q3
      have H4 := Lib.hid q4
      clear q1 q2 q3 q4 HTH HC HA2
      have hmp : (m : Int) ≤ (p.size : Int) := by rw [size_toList]; omega
      have hm0 : (0 : Int) ≤ (m : Int) := by omega
      go_wp2_with (go_at_call 41; refine (tb_any b _ wt _ _ H1.out H3.out).mono ?_; rintro e w5 ⟨rfl, t1, t2⟩; have T1 := Lib.hid t1; have T2 := Lib.hid t2; clear t1 t2)
      all_goals
        rename_i hmod
        have hmod' : (d.length + m) % 64 = 0 ∨ (d.length + m) % 64 ≠ 0 := by omega
        go_roundw
        case rel =>
          refine ⟨d ++ p.data.toList.take m, p.extract m p.size, rfl, ?_, ?_, ?_⟩
          · show _ = _
            rw [extract_rest, List.append_assoc, List.take_append_drop]; exact hdp.out
          · have e := congrArg List.length hdp.out
            rw [List.length_append, List.length_append] at e
            rw [List.length_append, List.length_take]; omega
          · first
              | exact add_full (by have h := hmod; simp at h; omega) HM.out H2.out H3.out H4.out T1.out T2.out hb0
              | exact add_part (by have h := hmod; simp at h; omega) HM.out H1.out H2.out H3.out H4.out
        case measure =>
          show (p.extract m p.size).size < p.size
          rw [size_toList, extract_rest, List.length_drop, size_toList]; omega
end Go.Proofs.YtjmiekhjkeioaaaDoor
