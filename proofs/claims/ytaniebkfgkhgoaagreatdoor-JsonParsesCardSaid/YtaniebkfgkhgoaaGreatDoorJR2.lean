/- Layer 5's reference: Depth. Layer 5's reference: read, given list and object. Layer 5's reference: read, given list and object: a number, a text, a list, an object, nothing. Layer 5's reference: read, given list and object: a text, a list, an object, nothing. Layer 5's reference: read, given list and object: all ways. Layer 5's reference: what a descent leaves has no blanks ahead; a row of values that is done. -/
import Derived.Test.YtaniebkfgkhgoaaGreatDoorJU
import Derived.Test.YtaniebkfgkhgoaaGreatDoorJ3
import Derived.Test.YtaniebkfgkhgoaaGreatDoorJR1
import Derived.Test.YtaniebkfgkhgoaaGreatDoorQTail
import Derived.BigQuiet
import Derived.Deep.QuietTactic
namespace Go.Proofs.YtaniebkfgkhgoaaGreatDoor
open Go.RowKit
set_option linter.unusedVariables false
set_option maxRecDepth 100000

theorem LV.parts {w : World} {S : Nat → Prop} {v : JV} {c0 c1 c2 c3 : Value} (h : LV w S v c0 c1 c2 c3) :
    ∃ (a : Option Addr) (c : Nat) (a3 : Option Addr) (c3' : Nat), c0 = .int .i64 v.kind ∧ c1 = .string v.text ∧ c2 = .slice a v.list.length c ∧ c3 = .slice a3 v.fields.length c3' ∧
      (∀ (i : Nat) (u : JV), v.list[i]? = some u → ∃ b o, a = some ⟨b, o, none⟩ ∧ S b ∧ b < w.heap.size ∧ LAt w S u b (o + 4 * i)) ∧
      (∀ (i : Nat) (p : ByteArray × JV), v.fields[i]? = some p → ∃ b o, a3 = some ⟨b, o, none⟩ ∧ S b ∧ b < w.heap.size ∧ w.cell? ⟨b, o + 5 * i, none⟩ = some (.string p.1) ∧ LAt w S p.2 b (o + 5 * i + 1)) := by
  cases v with
  | mk k t l f =>
    unfold LV at h
    obtain ⟨h0, h1, ⟨a, c, h2, hl⟩, ⟨a3, c3', h3, hf⟩⟩ := h
    refine ⟨a, c, a3, c3', h0, h1, h2, h3, fun i u hu => ?_, fun i p hp => ?_⟩
    · rcases hl with rfl | ⟨b, o, e, ⟨hs, _⟩, hv⟩
      · simp [JV.list] at hu
      · exact ⟨b, o, e, hs, hv.lt (fun e => by subst e; simp [JV.list] at hu), hv.at l i u hu⟩
    · rcases hf with rfl | ⟨b, o, e, ⟨hs, _⟩, hv⟩
      · simp [JV.fields] at hp
      · obtain ⟨q1, q2⟩ := hv.at f i p hp
        exact ⟨b, o, e, hs, hv.lt (fun e => by subst e; simp [JV.fields] at hp), q1, q2⟩
theorem LAt.below {w w' : World} {S : Nat → Prop} {u : JV} {b o : Nat} (hs : S b) (h : LAt w S u b o) (hb : RowKit.Below w.heap.size w w') : LAt w' S u b o := h.move (fun b hb' hs => ⟨hb.block b hb', hs⟩) hs
theorem depth_eq (v : JV) : v.depth = 1 + max (JV.depthL v.list) (JV.depthF v.fields) := by cases v; simp only [JV.depth, JV.list, JV.fields]
theorem depthL_take (l : List JV) (i : Nat) (u : JV) (h : l[i]? = some u) : JV.depthL (l.take (i + 1)) = max (JV.depthL (l.take i)) u.depth := by
  induction l generalizing i with
  | nil => simp at h
  | cons x r ih =>
    cases i with
    | zero => simp at h; subst h; simp [JV.depthL]
    | succ i => simp at h; simp only [List.take_succ_cons, JV.depthL]; rw [ih i h]; omega
theorem depthF_take (l : List (ByteArray × JV)) (i : Nat) (p : ByteArray × JV) (h : l[i]? = some p) : JV.depthF (l.take (i + 1)) = max (JV.depthF (l.take i)) p.2.depth := by
  induction l generalizing i with
  | nil => simp at h
  | cons x r ih =>
    obtain ⟨n, x⟩ := x
    cases i with
    | zero => simp at h; subst h; simp [JV.depthF]
    | succ i => simp at h; simp only [List.take_succ_cons, JV.depthF]; rw [ih i h]; omega

theorem len_sizeL : ∀ l : List JV, l.length ≤ JV.sizeL l
  | [] => Nat.zero_le _
  | x :: r => by have := len_sizeL r; have := x.size_pos; simp only [List.length_cons, JV.sizeL]; omega
theorem len_sizeF : ∀ l : List (ByteArray × JV), l.length ≤ JV.sizeF l
  | [] => Nat.zero_le _
  | (n, x) :: r => by have := len_sizeF r; have := x.size_pos; simp only [List.length_cons, JV.sizeF]; omega

set_option maxHeartbeats 4000000 in
theorem rdepth_any : ∀ (N : Nat) (v : JV) {S : Nat → Prop} (k : Int) (t : ByteArray) (a : Option Addr) (n c : Nat) (a2 : Option Addr) (n2 c2 : Nat) (w : World), v.size ≤ N → v.size ≤ 549755813888 → LV w S v (.int .i64 k) (.string t) (.slice a n c) (.slice a2 n2 c2) →
    Calls Tryz.prog 20 #[.agg #[.int .i64 k, .string t, .slice a n c, .slice a2 n2 c2]] w fun e W' => e = .returned (.int .i64 (v.depth : Int)) ∧ RowKit.Below w.heap.size w W'
  | 0, v, S, k, t, a, n, c, a2, n2, c2, w, hN, _, _ => by have := v.size_pos; omega
  | N + 1, v, S, k, t, a, n, c, a2, n2, c2, w, hN, hsz, hv => by
    obtain ⟨W, hW⟩ : ∃ W, W = w.alloc (.cells #[.int .i64 k, .string t, .slice a n c, .slice a2 n2 c2] 26) := ⟨_, rfl⟩
    have hb : RB W w.heap.size (.int .i64 k) (.string t) (.slice a n c) (.slice a2 n2 c2) := by rw [hW]; exact RB.new w
    have hg : RowKit.Below w.heap.size w W := by rw [hW]; exact (Below.refl _ w).alloc (Nat.le_refl _) _
    have hlv : LV W S v (.int .i64 k) (.string t) (.slice a n c) (.slice a2 n2 c2) := LV.move (fun b hb hs => ⟨hg.block b hb, hs⟩) v hv
    obtain ⟨a', c', a3', c3', e0, e1, e2, e3, hl, hf⟩ := hlv.parts
    cases e2
    cases e3
    have HL := Lib.hid hl
    have HF := Lib.hid hf
    have HB := Lib.hid hb
    have HG := Lib.hid hg
    have IH := Lib.hid (fun (u : JV) (hu : u.size < v.size) (k : Int) (t : ByteArray) (a : Option Addr) (n c : Nat) (a2 : Option Addr) (n2 c2 : Nat) (w : World) (h : LV w S u (.int .i64 k) (.string t) (.slice a n c) (.slice a2 n2 c2)) => rdepth_any N u (S := S) k t a n c a2 n2 c2 w (by omega) (by omega) h)
    have HD := Lib.hid (depth_eq v)
    have HDS := Lib.hid (v.depth_le_size)
    have hll : v.list.length ≤ 549755813888 := Nat.le_trans (len_sizeL v.list) (by cases v; simp only [JV.size, JV.list] at *; omega)
    have hfl : v.fields.length ≤ 549755813888 := Nat.le_trans (len_sizeF v.fields) (by cases v; simp only [JV.size, JV.fields] at *; omega)
    have HSL := Lib.hid (fun u (hu : u ∈ v.list) => JV.size_list hu)
    have HSF := Lib.hid (fun p (hp : p ∈ v.fields) => JV.size_field hp)
    have hW' := hW.symm
    clear hW hb hg hlv hv hl hf e0 e1
    go_enter Tryz.func20, Tryz.ntmps20
    go_wp2_with fail
    clear hW'
    go_loopw [3, 4] (fun s3 s4 wr => ∃ g i : Nat, s3 = .int .i64 g ∧ s4 = .int .i64 i ∧ i ≤ v.list.length ∧ Hid (g = JV.depthL (v.list.take i)) ∧ g ≤ 549755813888 ∧ Hid (RowKit.Below W.heap.size W wr)) (fun _ s4 _ => v.list.length - (intOf s4).toNat)
    case atStart => exact ⟨0, 0, rfl, rfl, Nat.zero_le _, Lib.hid (by simp [JV.depthL]), by omega, Lib.hid (Below.refl _ _)⟩
    case round =>
      obtain ⟨g, i, rfl, rfl, hi, HGd, hg, HBW⟩ := hrel
      have HR := Lib.hid (HB.out.below HBW.out)
      have q2 := HR.out.c2
      by_cases hlt : i < v.list.length
      · have hz : (i : Int) < (v.list.length : Int) := by omega
        obtain ⟨u, hu⟩ : ∃ u, v.list[i]? = some u := ⟨_, List.getElem?_eq_getElem hlt⟩
        obtain ⟨b, o, rfl, hs, hbl, hat⟩ := HL.out i u hu
        have hus := HSL.out u (List.mem_of_getElem? hu)
        obtain ⟨x0, x1, x2, x3, f0, f1, f2, f3, hm⟩ := hat.below hs HBW.out
        obtain ⟨ua, uc, ua3, uc3, rfl, rfl, rfl, rfl, -, -⟩ := hm.parts
        have CC := IH.out u hus _ _ _ _ _ _ _ _ wr hm
        have HNX := Lib.hid (depthL_take v.list i u hu)
        have hud := u.depth_le_size
        rw [show o + 4 * i = o + i * 4 by omega] at f0 f1 f2 f3
        clear hat hm hu
        go_wp2_with (go_at_call 20; (with_reducible refine CC.mono ?_); rintro e w5 ⟨rfl, hb5⟩; have HB5 := Lib.hid hb5; clear hb5)
        go_roundw
        case rel => exact ⟨max g u.depth, i + 1, by go_num, by go_num, by omega, Lib.hid (by rw [HNX.out, ← HGd.out]), by omega, Lib.hid (HBW.out.trans (HB5.out.mono HBW.out.size))⟩
        case measure => simp [intOf]; omega
      · have hz : ¬ (i : Int) < (v.list.length : Int) := by omega
        have hil : i = v.list.length := by omega
        have HGl : Hid (g = JV.depthL v.list) := Lib.hid (by rw [HGd.out, hil, List.take_length])
        clear HGd HR hil
        go_wp2_with fail
        clear q2 HL
        go_loopw [3, 5] (fun s3 s5 wx => ∃ h j : Nat, s3 = .int .i64 h ∧ s5 = .int .i64 j ∧ j ≤ v.fields.length ∧ Hid (h = max g (JV.depthF (v.fields.take j))) ∧ h ≤ 549755813888 ∧ Hid (RowKit.Below W.heap.size W wx)) (fun _ s5 _ => v.fields.length - (intOf s5).toNat)
        case atStart => exact ⟨g, 0, rfl, rfl, Nat.zero_le _, Lib.hid (by simp [JV.depthF]), hg, HBW⟩
        case round =>
          obtain ⟨h, j, rfl, rfl, hj, HHd, hh, HBX⟩ := hrel
          have HR := Lib.hid (HB.out.below HBX.out)
          have q3 := HR.out.c3
          by_cases hltj : j < v.fields.length
          · have hzj : (j : Int) < (v.fields.length : Int) := by omega
            obtain ⟨p, hp⟩ : ∃ p, v.fields[j]? = some p := ⟨_, List.getElem?_eq_getElem hltj⟩
            obtain ⟨b, o, rfl, hs, hbl, -, hat⟩ := HF.out j p hp
            have hus := HSF.out p (List.mem_of_getElem? hp)
            obtain ⟨x0, x1, x2, x3, f0, f1, f2, f3, hm⟩ := hat.below hs HBX.out
            obtain ⟨ua, uc, ua3, uc3, rfl, rfl, rfl, rfl, -, -⟩ := hm.parts
            have CC := IH.out p.2 hus _ _ _ _ _ _ _ _ _ hm
            have HNX := Lib.hid (depthF_take v.fields j p hp)
            have hud := p.2.depth_le_size
            rw [show o + 5 * j + 1 = o + j * 5 + 1 by omega] at f0 f1 f2 f3
            clear hat hm hp
            go_wp2_with (go_at_call 20; (with_reducible refine CC.mono ?_); rintro e w5 ⟨rfl, hb5⟩; have HB5 := Lib.hid hb5; clear hb5)
            go_roundw
            case rel => exact ⟨max h p.2.depth, j + 1, by go_num, by go_num, by omega, Lib.hid (by rw [HNX.out, HHd.out]; omega), by omega, Lib.hid (HBX.out.trans (HB5.out.mono HBX.out.size))⟩
            case measure => simp [intOf]; omega
          · have hzj : ¬ (j : Int) < (v.fields.length : Int) := by omega
            have hjl : j = v.fields.length := by omega
            have HE : Hid (h + 1 = v.depth) := Lib.hid (by rw [HD.out, HHd.out, HGl.out, hjl, List.take_length]; omega)
            clear hjl
            go_wp2_with fail
            go_ret
            exact ⟨by rw [← HE.out]; rfl, HG.out.trans (HBX.out.mono HG.out.size)⟩
end Go.Proofs.YtaniebkfgkhgoaaGreatDoor

namespace Go.Proofs.YtaniebkfgkhgoaaGreatDoor
open Go.RowKit
set_option linter.unusedVariables false
set_option maxRecDepth 100000

theorem results_cell_tmp2 {fn : Func} {p u v : Tmp} {ty : TypeId} (h : fn.results = #[.cell p ty, .tmp u, .tmp v]) (tmps : Array Value) (P : Program) (w : World) :
    (results fn tmps).run P w =
      ((asAddr (tmps.getD p undef)).run P w).andThen fun a w₁ => ((loadVar ty a).run P w₁).andThen fun x w₂ => .ok (.tuple #[x, tmps.getD u undef, tmps.getD v undef]) w₂ := by
  simp only [results, h]
  simp [Sem.run_bind, Result.andThen]
theorem ret_val3 {fn : Func} {R : Ending → World → Prop} {a : Act} {w : World} {p u y : Tmp} {b : Nat} {x0 x1 x2 x3 v z : Value} (hres : fn.results = #[.cell p 26, .tmp u, .tmp y]) (hp : a.tmps.getD p undef = .pointer (some ⟨b, 0, none⟩))
    (hu : a.tmps.getD u undef = v) (hy : a.tmps.getD y undef = z) (hd : a.defers = []) (hb : RB w b x0 x1 x2 x3) (hR : R (.returned (.tuple #[.agg #[x0, x1, x2, x3], v, z])) w) : bodyPost Tryz.prog fn R .ret a w := by
  refine bodyPost_ret (v := .tuple #[.agg #[x0, x1, x2, x3], v, z]) ?_ hd hR
  rw [results_cell_tmp2 hres, hp, hu, hy]
  have hl := run_loadVar_row (P := Tryz.prog) (ty := 26) w b _ _ _ _ hb Tryz.underlying26 rfl val_size
  simp only [asAddr, Sem.run_pure, Result.andThen_ok, hl]

/-- What is told of a value that was read: it lies in blocks that are new; or nothing. -/
def RdOk (w w' : World) (k : Int) (t : ByteArray) (a : Option Addr) (n c : Nat) (a2 : Option Addr) (n2 c2 : Nat) (rest : ByteArray) (ok : Bool) : Option (JV × List UInt8) → Prop
  | none => ok = false
  | some (v, r) => ok = true ∧ rest = bs r ∧ LV w' (fun b => w.heap.size < b ∧ b < w'.heap.size) v (.int .i64 k) (.string t) (.slice a n c) (.slice a2 n2 c2)
def RdPost (w : World) (o : Option (JV × List UInt8)) (e : Ending) (w' : World) : Prop :=
  ∃ (k : Int) (t : ByteArray) (a : Option Addr) (n c : Nat) (a2 : Option Addr) (n2 c2 : Nat) (rest : ByteArray) (ok : Bool),
    e = .returned (.tuple #[.agg #[.int .i64 k, .string t, .slice a n c, .slice a2 n2 c2], .string rest, .bool ok]) ∧ RowKit.Below w.heap.size w w' ∧ RdOk w w' k t a n c a2 n2 c2 rest ok o
theorem LV.plain (w : World) (S : Nat → Prop) (k : Int) (t : ByteArray) : LV w S ⟨k, t, [], []⟩ (.int .i64 k) (.string t) (.slice none 0 0) (.slice none 0 0) := by
  unfold LV
  exact ⟨rfl, rfl, ⟨none, 0, rfl, .inl rfl⟩, ⟨none, 0, rfl, .inl rfl⟩⟩
/-- The end: the result's cell is read. -/
theorem rd_end {fn : Func} (hres : fn.results = #[.cell 2 26, .tmp 3, .tmp 4]) {w w1 : World} {a : Act} {o : Option (JV × List UInt8)} {k : Int} {t : ByteArray} {aa : Option Addr} {n c : Nat} {a2 : Option Addr} {n2 c2 : Nat} {rest : ByteArray} {ok : Bool}
    (hz : RB w1 w.heap.size (.int .i64 k) (.string t) (.slice aa n c) (.slice a2 n2 c2)) (hp : a.tmps.getD 2 undef = .pointer (some ⟨w.heap.size, 0, none⟩)) (hu : a.tmps.getD 3 undef = .string rest) (hy : a.tmps.getD 4 undef = .bool ok) (hd : a.defers = [])
    (hb : RowKit.Below w.heap.size w w1) (ho : RdOk w w1 k t aa n c a2 n2 c2 rest ok o) : bodyPost Tryz.prog fn (RdPost w o) .ret a w1 :=
  ret_val3 (p := 2) (u := 3) (y := 4) hres hp hu hy hd hz ⟨k, t, aa, n, c, a2, n2, c2, rest, ok, rfl, hb, ho⟩

/-- What list and object tell of what stands behind their first mark. -/
def opR (f : Nat) (o : Bool) (r : List UInt8) : Option (JV × List UInt8) := match takeG (Fr.new o).mark r with | some r' => some ((Fr.new o).close, r') | none => (rdE refSg f).2 (Fr.new o) r
theorem rd_succ (f : Nat) (l : List UInt8) : (rdE refSg (f + 1)).1 l = match takeG 91 l with | some r => opR f false r | none => match takeG 123 l with | some r => opR f true r | none => refSg l := rfl
theorem sign_sk {s : List UInt8} (hs : sk s = s) (c : List UInt8) : signG s c = if Lib.hasPrefix s c = true then (sk (s.drop c.length), true) else (s, false) := by unfold signG; rw [hs]
theorem take_pre (c : UInt8) (s : List UInt8) : takeG c s = if Lib.hasPrefix s [c] = true then some (sk (s.drop 1)) else none := by
  unfold takeG
  have h := pre_at s 0 c
  rw [List.drop_zero] at h
  have h2 := rhead_at s 0 c
  rw [List.drop_zero] at h2
  rw [h]
  by_cases e : atB s 0 c = true
  · rw [if_pos e, if_pos (h2.2 e)]
  · rw [if_neg e, if_neg (fun x => e (h2.1 x))]

/-- The world once a word was read. -/
theorem rb_first (w : World) (x0 x1 x2 x3 : Value) (o2 : Obj) : RB ((w.alloc (.cells #[x0, x1, x2, x3] 26)).alloc o2) w.heap.size x0 x1 x2 x3 := (RB.new w).gb (World.grownBy_alloc _ _ none) (by simp)
theorem below_two (w : World) (o1 o2 : Obj) : RowKit.Below w.heap.size w ((w.alloc o1).alloc o2) := ((Below.refl _ w).alloc (Nat.le_refl _) _).alloc (by simp) _

set_option maxHeartbeats 4000000 in
theorem read_w1 (l : List UInt8) (hl : l.length ≤ 500000) (w : World) (o : Option (JV × List UInt8)) (r : List UInt8) (s : List UInt8) (hs : s = sk l) (h1 : signG s [110, 117, 108, 108] = (r, true)) (ho : o = some (jWord 1, r)) :
    Calls Tryz.prog 25 #[.string (bs l)] w (RdPost w o) := by
  have hsl := sk_len l
  have CB := Lib.hid (fun w => blanks_any l w (by omega))
  rw [← hs] at CB hsl
  have C0 := Lib.hid (fun w => sign_any s [110, 117, 108, 108] w (by omega) (by simp))
  rw [h1] at C0
  change Hid (∀ w, Calls Tryz.prog 48 #[.string (bs s), .string ⟨#[110, 117, 108, 108]⟩] w fun e w' => e = .returned (.tuple #[.string (bs r), .bool true]) ∧ w' = w) at C0
  clear hs h1 hl hsl
  have HO := Lib.hid ho
  clear ho
  generalize bs s = ss at *
  go_enter Tryz.func25, Tryz.ntmps25
  go_wp2_with (first | (go_at_call 47; (with_reducible refine (CB.out _).mono ?_); rintro e w9 ⟨rfl, rfl⟩) | (go_at_call 48; (with_reducible refine (C0.out _).mono ?_); rintro e w9 ⟨rfl, rfl⟩))
  refine rd_end rfl (rb_first w _ _ _ _ _) rfl rfl rfl rfl (below_two w _ _) ?_
  rw [HO.out]
  exact ⟨rfl, rfl, LV.plain _ _ _ _⟩

set_option maxHeartbeats 4000000 in
theorem read_w2 (l : List UInt8) (hl : l.length ≤ 500000) (w : World) (o : Option (JV × List UInt8)) (r : List UInt8) (s : List UInt8) (hs : s = sk l) (h1 : signG s [110, 117, 108, 108] = (s, false)) (h2 : signG s [102, 97, 108, 115, 101] = (r, true)) (ho : o = some (jWord 2, r)) :
    Calls Tryz.prog 25 #[.string (bs l)] w (RdPost w o) := by
  have hsl := sk_len l
  have CB := Lib.hid (fun w => blanks_any l w (by omega))
  rw [← hs] at CB hsl
  have C0 := Lib.hid (fun w => sign_any s [110, 117, 108, 108] w (by omega) (by simp))
  rw [h1] at C0
  change Hid (∀ w, Calls Tryz.prog 48 #[.string (bs s), .string ⟨#[110, 117, 108, 108]⟩] w fun e w' => e = .returned (.tuple #[.string (bs s), .bool false]) ∧ w' = w) at C0
  have C1 := Lib.hid (fun w => sign_any s [102, 97, 108, 115, 101] w (by omega) (by simp))
  rw [h2] at C1
  change Hid (∀ w, Calls Tryz.prog 48 #[.string (bs s), .string ⟨#[102, 97, 108, 115, 101]⟩] w fun e w' => e = .returned (.tuple #[.string (bs r), .bool true]) ∧ w' = w) at C1
  clear hs h1 h2 hl hsl
  have HO := Lib.hid ho
  clear ho
  generalize bs s = ss at *
  go_enter Tryz.func25, Tryz.ntmps25
  go_wp2_with (first | (go_at_call 47; (with_reducible refine (CB.out _).mono ?_); rintro e w9 ⟨rfl, rfl⟩) | (go_at_call 48; (with_reducible refine (C0.out _).mono ?_); rintro e w9 ⟨rfl, rfl⟩) | (go_at_call 48; (with_reducible refine (C1.out _).mono ?_); rintro e w9 ⟨rfl, rfl⟩))
  refine rd_end rfl (rb_first w _ _ _ _ _) rfl rfl rfl rfl (below_two w _ _) ?_
  rw [HO.out]
  exact ⟨rfl, rfl, LV.plain _ _ _ _⟩

set_option maxHeartbeats 4000000 in
theorem read_w3 (l : List UInt8) (hl : l.length ≤ 500000) (w : World) (o : Option (JV × List UInt8)) (r : List UInt8) (s : List UInt8) (hs : s = sk l) (h1 : signG s [110, 117, 108, 108] = (s, false)) (h2 : signG s [102, 97, 108, 115, 101] = (s, false)) (h3 : signG s [116, 114, 117, 101] = (r, true)) (ho : o = some (jWord 3, r)) :
    Calls Tryz.prog 25 #[.string (bs l)] w (RdPost w o) := by
  have hsl := sk_len l
  have CB := Lib.hid (fun w => blanks_any l w (by omega))
  rw [← hs] at CB hsl
  have C0 := Lib.hid (fun w => sign_any s [110, 117, 108, 108] w (by omega) (by simp))
  rw [h1] at C0
  change Hid (∀ w, Calls Tryz.prog 48 #[.string (bs s), .string ⟨#[110, 117, 108, 108]⟩] w fun e w' => e = .returned (.tuple #[.string (bs s), .bool false]) ∧ w' = w) at C0
  have C1 := Lib.hid (fun w => sign_any s [102, 97, 108, 115, 101] w (by omega) (by simp))
  rw [h2] at C1
  change Hid (∀ w, Calls Tryz.prog 48 #[.string (bs s), .string ⟨#[102, 97, 108, 115, 101]⟩] w fun e w' => e = .returned (.tuple #[.string (bs s), .bool false]) ∧ w' = w) at C1
  have C2 := Lib.hid (fun w => sign_any s [116, 114, 117, 101] w (by omega) (by simp))
  rw [h3] at C2
  change Hid (∀ w, Calls Tryz.prog 48 #[.string (bs s), .string ⟨#[116, 114, 117, 101]⟩] w fun e w' => e = .returned (.tuple #[.string (bs r), .bool true]) ∧ w' = w) at C2
  clear hs h1 h2 h3 hl hsl
  have HO := Lib.hid ho
  clear ho
  generalize bs s = ss at *
  go_enter Tryz.func25, Tryz.ntmps25
  go_wp2_with (first | (go_at_call 47; (with_reducible refine (CB.out _).mono ?_); rintro e w9 ⟨rfl, rfl⟩) | (go_at_call 48; (with_reducible refine (C0.out _).mono ?_); rintro e w9 ⟨rfl, rfl⟩) | (go_at_call 48; (with_reducible refine (C1.out _).mono ?_); rintro e w9 ⟨rfl, rfl⟩) | (go_at_call 48; (with_reducible refine (C2.out _).mono ?_); rintro e w9 ⟨rfl, rfl⟩))
  refine rd_end rfl (rb_first w _ _ _ _ _) rfl rfl rfl rfl (below_two w _ _) ?_
  rw [HO.out]
  exact ⟨rfl, rfl, LV.plain _ _ _ _⟩
end Go.Proofs.YtaniebkfgkhgoaaGreatDoor

namespace Go.Proofs.YtaniebkfgkhgoaaGreatDoor
open Go.RowKit
set_option linter.unusedVariables false
set_option maxRecDepth 100000

/-- No word begins it. -/
def NoW (s : List UInt8) : Prop := signG s [110, 117, 108, 108] = (s, false) ∧ signG s [102, 97, 108, 115, 101] = (s, false) ∧ signG s [116, 114, 117, 101] = (s, false)

set_option maxHeartbeats 4000000 in
theorem read_num (l : List UInt8) (hl : l.length ≤ 500000) (w : World) (o : Option (JV × List UInt8)) (s : List UInt8) (hs : s = sk l) (hw : NoW s) (hn : 0 < nmG s) (ho : o = some (jNum (s.take (nmG s)), sk (s.drop (nmG s)))) :
    Calls Tryz.prog 25 #[.string (bs l)] w (RdPost w o) := by
  have hsl := sk_len l
  have CB := Lib.hid (fun w => blanks_any l w (by omega))
  rw [← hs] at CB hsl
  obtain ⟨h1, h2, h3⟩ := hw
  have C0 := Lib.hid (fun w => sign_any s [110, 117, 108, 108] w (by omega) (by simp))
  rw [h1] at C0
  change Hid (∀ w, Calls Tryz.prog 48 #[.string (bs s), .string ⟨#[110, 117, 108, 108]⟩] w fun e w' => e = .returned (.tuple #[.string (bs s), .bool false]) ∧ w' = w) at C0
  have C1 := Lib.hid (fun w => sign_any s [102, 97, 108, 115, 101] w (by omega) (by simp))
  rw [h2] at C1
  change Hid (∀ w, Calls Tryz.prog 48 #[.string (bs s), .string ⟨#[102, 97, 108, 115, 101]⟩] w fun e w' => e = .returned (.tuple #[.string (bs s), .bool false]) ∧ w' = w) at C1
  have C2 := Lib.hid (fun w => sign_any s [116, 114, 117, 101] w (by omega) (by simp))
  rw [h3] at C2
  change Hid (∀ w, Calls Tryz.prog 48 #[.string (bs s), .string ⟨#[116, 114, 117, 101]⟩] w fun e w' => e = .returned (.tuple #[.string (bs s), .bool false]) ∧ w' = w) at C2
  have CN := Lib.hid (fun w => number_any (bs s) w (by rw [bs_size]; omega))
  rw [bs_list] at CN
  have hle := nmG_le s
  have HT := Lib.hid (bs_extract0 s (nmG s))
  have HX := bs_extract s (nmG s) hle
  have CB2 := Lib.hid (fun w => blanks_any (s.drop (nmG s)) w (by simp; omega))
  have hnz : (0 : Int) < (nmG s : Int) := by omega
  have hnl : (nmG s : Int) ≤ ((bs s).size : Int) := by rw [bs_size]; omega
  have HO := Lib.hid ho
  clear ho hs h1 h2 h3 hl hsl hn hle
  generalize hss : bs s = ss at *
  generalize nmG s = n at *
  clear hss
  have HX2 := Lib.hid HX
  clear HX
  have mixed : Tryz.prog.follows .mixedOrders = true := by kernel_rfl
  go_enter Tryz.func25, Tryz.ntmps25
  go_wp2_with (first | (go_at_call 47; (with_reducible refine (CB.out _).mono ?_); rintro e w9 ⟨rfl, rfl⟩) | (go_at_call 48; (with_reducible refine (C0.out _).mono ?_); rintro e w9 ⟨rfl, rfl⟩) | (go_at_call 48; (with_reducible refine (C1.out _).mono ?_); rintro e w9 ⟨rfl, rfl⟩) | (go_at_call 48; (with_reducible refine (C2.out _).mono ?_); rintro e w9 ⟨rfl, rfl⟩) | (go_at_call 49; (with_reducible refine (CN.out _).mono ?_); rintro e w9 ⟨rfl, rfl⟩))
  have hX := rb_first w (.int .i64 0) (.string ⟨#[]⟩) (.slice none 0 0) (.slice none 0 0) (.cells #[.int .i64 0, .string ⟨#[]⟩, .slice none 0 0, .slice none 0 0] 26)
  have hB := below_two w (.cells #[.int .i64 0, .string ⟨#[]⟩, .slice none 0 0, .slice none 0 0] 26) (.cells #[.int .i64 0, .string ⟨#[]⟩, .slice none 0 0, .slice none 0 0] 26)
  generalize (w.alloc _).alloc _ = W at hX hB ⊢
  have HXX := Lib.hid hX
  have HBB := Lib.hid hB
  clear hX hB
  have ht := HT.out
  have hx := HX2.out
  refine wp_region_quiet_tail_lit 8 (by kernel_rfl) (by kernel_rfl) ?_
  simp only [List.take_succ_cons, List.take_zero, List.drop_succ_cons, List.drop_zero]
  repeat (go_big_quiet_step ((go_at_call 47; exact Calls.quiet_of_same (CB2.out _))))
  refine wpQuiet_nil ?_
  intro _ hw'
  obtain ⟨nq2, hw''⟩ := hw'
  subst hw''
  have HX3 := Lib.hid (HXX.out.gb (gb_drewN W nq2 none) (by simp))
  have HB3 := Lib.hid (HBB.out.grown (gb_drewN W nq2 none) HBB.out.size (by simp))
  generalize W.drewN nq2 = W3 at HX3 HB3 ⊢
  have c0 := HX3.out.c0
  have c1 := HX3.out.c1
  have c2 := HX3.out.c2
  have c3 := HX3.out.c3
  have f0 := HX3.out.fr 0
  have f1 := HX3.out.fr 1
  have f2 := HX3.out.fr 2
  have f3 := HX3.out.fr 3
  clear ht hx
  go_wp2_with fail
  refine rd_end rfl (HX3.out.set4 _ _ _ _) rfl rfl rfl rfl ?_ ?_
  · exact HB3.out.grown (gb_set4 W3 w.heap.size _ _ _ _) HB3.out.size (fun k e => by cases e; exact Nat.le_refl _)
  · rw [HO.out]
    exact ⟨rfl, rfl, LV.plain _ _ _ _⟩
end Go.Proofs.YtaniebkfgkhgoaaGreatDoor

namespace Go.Proofs.YtaniebkfgkhgoaaGreatDoor
open Go.RowKit
set_option linter.unusedVariables false
set_option maxRecDepth 100000

theorem rb_second (w : World) (x0 x1 x2 x3 : Value) (o1 : Obj) : RB ((w.alloc o1).alloc (.cells #[x0, x1, x2, x3] 26)) (w.heap.size + 1) x0 x1 x2 x3 := by
  have := RB.new (x0 := x0) (x1 := x1) (x2 := x2) (x3 := x3) (w.alloc o1)
  rwa [World.size_alloc] at this
abbrev UnqC (s : List UInt8) : Prop := ∀ w0 : World, Calls Tryz.prog 50 #[.string (bs s)] w0 fun e w' => e = .returned (unqS (unqG s)) ∧ RowKit.Below w0.heap.size w0 w'
theorem RdOk.move {w0 w1 w w' : World} {k : Int} {t : ByteArray} {a : Option Addr} {n c : Nat} {a2 : Option Addr} {n2 c2 : Nat} {rest : ByteArray} {ok : Bool} {o : Option (JV × List UInt8)} (h : RdOk w0 w1 k t a n c a2 n2 c2 rest ok o)
    (hk : ∀ b, b < w1.heap.size → w0.heap.size < b → w'.heap[b]? = w1.heap[b]?) (h1 : w.heap.size ≤ w0.heap.size) (h2 : w1.heap.size ≤ w'.heap.size) : RdOk w w' k t a n c a2 n2 c2 rest ok o := by
  cases o with
  | none => exact h
  | some p =>
    obtain ⟨v, r⟩ := p
    obtain ⟨e1, e2, hv⟩ := h
    exact ⟨e1, e2, LV.move (fun b hb hs => ⟨hk b hb hs.1, by have := hs.1; omega, by have := hs.2; omega⟩) v hv⟩

set_option maxHeartbeats 4000000 in
theorem read_txt (l : List UInt8) (hl : l.length ≤ 500000) (w : World) (o : Option (JV × List UInt8)) (s : List UInt8) (hs : s = sk l) (hw : NoW s) (hn : nmG s = 0) (hU : UnqC s) (t : List UInt8) (m : Nat) (hu : unqG s = some (t, m)) (ho : o = some (jText t, sk (s.drop m))) :
    Calls Tryz.prog 25 #[.string (bs l)] w (RdPost w o) := by
  have hsl := sk_len l
  have CB := Lib.hid (fun w => blanks_any l w (by omega))
  rw [← hs] at CB hsl
  obtain ⟨h1, h2, h3⟩ := hw
  have C0 := Lib.hid (fun w => sign_any s [110, 117, 108, 108] w (by omega) (by simp))
  rw [h1] at C0
  change Hid (∀ w, Calls Tryz.prog 48 #[.string (bs s), .string ⟨#[110, 117, 108, 108]⟩] w fun e w' => e = .returned (.tuple #[.string (bs s), .bool false]) ∧ w' = w) at C0
  have C1 := Lib.hid (fun w => sign_any s [102, 97, 108, 115, 101] w (by omega) (by simp))
  rw [h2] at C1
  change Hid (∀ w, Calls Tryz.prog 48 #[.string (bs s), .string ⟨#[102, 97, 108, 115, 101]⟩] w fun e w' => e = .returned (.tuple #[.string (bs s), .bool false]) ∧ w' = w) at C1
  have C2 := Lib.hid (fun w => sign_any s [116, 114, 117, 101] w (by omega) (by simp))
  rw [h3] at C2
  change Hid (∀ w, Calls Tryz.prog 48 #[.string (bs s), .string ⟨#[116, 114, 117, 101]⟩] w fun e w' => e = .returned (.tuple #[.string (bs s), .bool false]) ∧ w' = w) at C2
  have CN := Lib.hid (fun w => number_any (bs s) w (by rw [bs_size]; omega))
  rw [bs_list, hn] at CN
  unfold UnqC at hU
  have CU := Lib.hid hU
  rw [hu] at CU
  change Hid (∀ w0 : World, Calls Tryz.prog 50 #[.string (bs s)] w0 fun e w' => e = .returned (.tuple #[.string ⟨t.toArray⟩, .int .i64 (m : Int), .int .i64 0]) ∧ RowKit.Below w0.heap.size w0 w') at CU
  have hle := (unqG_valid hu).2.2
  have HX1 := Lib.hid (bs_extract s m hle)
  have CB2 := Lib.hid (fun w => blanks_any (s.drop m) w (by simp; omega))
  have hnl : (m : Int) ≤ ((bs s).size : Int) := by rw [bs_size]; omega
  have hm0 : (0 : Int) ≤ (m : Int) := by omega
  have HO := Lib.hid ho
  clear ho hs h1 h2 h3 hl hsl hn hU hu hle
  generalize hss : bs s = ss at *
  clear hss
  go_enter Tryz.func25, Tryz.ntmps25
  go_wp2_with (first | (go_at_call 47; (with_reducible refine (CB.out _).mono ?_); rintro e w9 ⟨rfl, rfl⟩) | (go_at_call 48; (with_reducible refine (C0.out _).mono ?_); rintro e w9 ⟨rfl, rfl⟩) | (go_at_call 48; (with_reducible refine (C1.out _).mono ?_); rintro e w9 ⟨rfl, rfl⟩) | (go_at_call 48; (with_reducible refine (C2.out _).mono ?_); rintro e w9 ⟨rfl, rfl⟩) | (go_at_call 49; (with_reducible refine (CN.out _).mono ?_); rintro e w9 ⟨rfl, rfl⟩) | (go_at_call 50; (with_reducible refine (CU.out _).mono ?_); rintro e w5 ⟨rfl, hb5⟩; have hX := (rb_first w (.int .i64 0) (.string ⟨#[]⟩) (.slice none 0 0) (.slice none 0 0) (.cells #[.int .i64 0, .string ⟨#[]⟩, .slice none 0 0, .slice none 0 0] 26)).below hb5; have c0 := hX.c0; have c1 := hX.c1; have c2 := hX.c2; have c3 := hX.c3; have f0 := hX.fr 0; have f1 := hX.fr 1; have f2 := hX.fr 2; have f3 := hX.fr 3; have HX := Lib.hid hX; clear hX; have HB5 : Hid (RowKit.Below w.heap.size w w5) := Lib.hid ((below_two w _ _).trans (hb5.mono (below_two w _ _).size)); clear hb5; refine Hid.out ?_))
  refine Lib.hid ?_
  have hx := HX1.out
  go_wp2_with (go_at_call 47; (with_reducible refine (CB2.out _).mono ?_); rintro e w9 ⟨rfl, rfl⟩)
  refine rd_end rfl (HX.out.set4 _ _ _ _) rfl rfl rfl rfl ?_ ?_
  · exact HB5.out.grown (gb_set4 _ w.heap.size _ _ _ _) HB5.out.size (fun k e => by cases e; exact Nat.le_refl _)
  · rw [HO.out]
    exact ⟨rfl, rfl, LV.plain _ _ _ _⟩

set_option maxHeartbeats 4000000 in
theorem read_lst (l : List UInt8) (hl : l.length ≤ 500000) (w : World) (o : Option (JV × List UInt8)) (s : List UInt8) (hs : s = sk l) (hw : NoW s) (hn : nmG s = 0) (hU : UnqC s) (hu : unqG s = none) (r : List UInt8) (h4 : signG s [91] = (r, true)) (hL : ∀ w0 : World, Calls Tryz.prog 51 #[.string (bs r)] w0 (RdPost w0 o)) :
    Calls Tryz.prog 25 #[.string (bs l)] w (RdPost w o) := by
  have hsl := sk_len l
  have CB := Lib.hid (fun w => blanks_any l w (by omega))
  rw [← hs] at CB hsl
  obtain ⟨h1, h2, h3⟩ := hw
  have C0 := Lib.hid (fun w => sign_any s [110, 117, 108, 108] w (by omega) (by simp))
  rw [h1] at C0
  change Hid (∀ w, Calls Tryz.prog 48 #[.string (bs s), .string ⟨#[110, 117, 108, 108]⟩] w fun e w' => e = .returned (.tuple #[.string (bs s), .bool false]) ∧ w' = w) at C0
  have C1 := Lib.hid (fun w => sign_any s [102, 97, 108, 115, 101] w (by omega) (by simp))
  rw [h2] at C1
  change Hid (∀ w, Calls Tryz.prog 48 #[.string (bs s), .string ⟨#[102, 97, 108, 115, 101]⟩] w fun e w' => e = .returned (.tuple #[.string (bs s), .bool false]) ∧ w' = w) at C1
  have C2 := Lib.hid (fun w => sign_any s [116, 114, 117, 101] w (by omega) (by simp))
  rw [h3] at C2
  change Hid (∀ w, Calls Tryz.prog 48 #[.string (bs s), .string ⟨#[116, 114, 117, 101]⟩] w fun e w' => e = .returned (.tuple #[.string (bs s), .bool false]) ∧ w' = w) at C2
  have CN := Lib.hid (fun w => number_any (bs s) w (by rw [bs_size]; omega))
  rw [bs_list, hn] at CN
  unfold UnqC at hU
  have CU := Lib.hid hU
  rw [hu] at CU
  change Hid (∀ w0 : World, Calls Tryz.prog 50 #[.string (bs s)] w0 fun e w' => e = .returned (.tuple #[.string ⟨#[]⟩, .int .i64 0, .int .i64 2]) ∧ RowKit.Below w0.heap.size w0 w') at CU
  have C3 := Lib.hid (fun w => sign_any s [91] w (by omega) (by simp))
  rw [h4] at C3
  change Hid (∀ w, Calls Tryz.prog 48 #[.string (bs s), .string ⟨#[91]⟩] w fun e w' => e = .returned (.tuple #[.string (bs r), .bool true]) ∧ w' = w) at C3
  have CL := Lib.hid hL
  clear hs h1 h2 h3 hl hsl hn hU hu hL h4
  generalize bs s = ss at *
  go_enter Tryz.func25, Tryz.ntmps25
  go_wp2_with (first | (go_at_call 47; (with_reducible refine (CB.out _).mono ?_); rintro e w9 ⟨rfl, rfl⟩) | (go_at_call 48; (with_reducible refine (C0.out _).mono ?_); rintro e w9 ⟨rfl, rfl⟩) | (go_at_call 48; (with_reducible refine (C1.out _).mono ?_); rintro e w9 ⟨rfl, rfl⟩) | (go_at_call 48; (with_reducible refine (C2.out _).mono ?_); rintro e w9 ⟨rfl, rfl⟩) | (go_at_call 49; (with_reducible refine (CN.out _).mono ?_); rintro e w9 ⟨rfl, rfl⟩) | (go_at_call 50; (with_reducible refine (CU.out _).mono ?_); rintro e w5 ⟨rfl, hb5⟩; have hX := (rb_first w (.int .i64 0) (.string ⟨#[]⟩) (.slice none 0 0) (.slice none 0 0) (.cells #[.int .i64 0, .string ⟨#[]⟩, .slice none 0 0, .slice none 0 0] 26)).below hb5; have c0 := hX.c0; have c1 := hX.c1; have c2 := hX.c2; have c3 := hX.c3; have f0 := hX.fr 0; have f1 := hX.fr 1; have f2 := hX.fr 2; have f3 := hX.fr 3; have HX := Lib.hid hX; clear hX; have HB5 : Hid (RowKit.Below w.heap.size w w5) := Lib.hid ((below_two w _ _).trans (hb5.mono (below_two w _ _).size)); clear hb5; refine Hid.out ?_))
  refine Lib.hid ?_
  go_wp2_with (first | (go_at_call 48; (with_reducible refine (C3.out _).mono ?_); rintro e w9 ⟨rfl, rfl⟩) | (go_at_call 51; (with_reducible refine (CL.out _).mono ?_); rintro e w7 ⟨k, t, a, n, cc, a2, n2, cc2, rest, ok, rfl, hb7, ho7⟩; have hX := HX.out.below hb7; clear c0 c1 c2 c3 f0 f1 f2 f3 HX; have HBx : Hid (RowKit.Below _ _ w7) := Lib.hid hb7; have HO7 := Lib.hid ho7; clear hb7 ho7; have c0 := hX.c0; have c1 := hX.c1; have c2 := hX.c2; have c3 := hX.c3; have f0 := hX.fr 0; have f1 := hX.fr 1; have f2 := hX.fr 2; have f3 := hX.fr 3; have HX := Lib.hid hX; clear hX; refine Hid.out ?_))
  refine Lib.hid ?_
  go_wp2_with fail
  refine rd_end rfl (HX.out.set4 _ _ _ _) rfl rfl rfl rfl ?_ ?_
  · exact (HB5.out.trans (HBx.out.mono HB5.out.size)).grown (gb_set4 _ w.heap.size _ _ _ _) (HB5.out.trans (HBx.out.mono HB5.out.size)).size (fun k e => by cases e; exact Nat.le_refl _)
  · exact HO7.out.move (fun b hb hs => (gb_set4 w7 w.heap.size _ _ _ _).block b hb (by have := HB5.out.size; intro e; cases e; omega)) HB5.out.size (gb_set4 w7 w.heap.size _ _ _ _).size

set_option maxHeartbeats 4000000 in
theorem read_obj (l : List UInt8) (hl : l.length ≤ 500000) (w : World) (o : Option (JV × List UInt8)) (s : List UInt8) (hs : s = sk l) (hw : NoW s) (hn : nmG s = 0) (hU : UnqC s) (hu : unqG s = none) (r : List UInt8) (h4 : signG s [91] = (s, false)) (h5 : signG s [123] = (r, true)) (hL : ∀ w0 : World, Calls Tryz.prog 52 #[.string (bs r)] w0 (RdPost w0 o)) :
    Calls Tryz.prog 25 #[.string (bs l)] w (RdPost w o) := by
  have hsl := sk_len l
  have CB := Lib.hid (fun w => blanks_any l w (by omega))
  rw [← hs] at CB hsl
  obtain ⟨h1, h2, h3⟩ := hw
  have C0 := Lib.hid (fun w => sign_any s [110, 117, 108, 108] w (by omega) (by simp))
  rw [h1] at C0
  change Hid (∀ w, Calls Tryz.prog 48 #[.string (bs s), .string ⟨#[110, 117, 108, 108]⟩] w fun e w' => e = .returned (.tuple #[.string (bs s), .bool false]) ∧ w' = w) at C0
  have C1 := Lib.hid (fun w => sign_any s [102, 97, 108, 115, 101] w (by omega) (by simp))
  rw [h2] at C1
  change Hid (∀ w, Calls Tryz.prog 48 #[.string (bs s), .string ⟨#[102, 97, 108, 115, 101]⟩] w fun e w' => e = .returned (.tuple #[.string (bs s), .bool false]) ∧ w' = w) at C1
  have C2 := Lib.hid (fun w => sign_any s [116, 114, 117, 101] w (by omega) (by simp))
  rw [h3] at C2
  change Hid (∀ w, Calls Tryz.prog 48 #[.string (bs s), .string ⟨#[116, 114, 117, 101]⟩] w fun e w' => e = .returned (.tuple #[.string (bs s), .bool false]) ∧ w' = w) at C2
  have CN := Lib.hid (fun w => number_any (bs s) w (by rw [bs_size]; omega))
  rw [bs_list, hn] at CN
  unfold UnqC at hU
  have CU := Lib.hid hU
  rw [hu] at CU
  change Hid (∀ w0 : World, Calls Tryz.prog 50 #[.string (bs s)] w0 fun e w' => e = .returned (.tuple #[.string ⟨#[]⟩, .int .i64 0, .int .i64 2]) ∧ RowKit.Below w0.heap.size w0 w') at CU
  have C3 := Lib.hid (fun w => sign_any s [91] w (by omega) (by simp))
  rw [h4] at C3
  change Hid (∀ w, Calls Tryz.prog 48 #[.string (bs s), .string ⟨#[91]⟩] w fun e w' => e = .returned (.tuple #[.string (bs s), .bool false]) ∧ w' = w) at C3
  have C4 := Lib.hid (fun w => sign_any s [123] w (by omega) (by simp))
  rw [h5] at C4
  change Hid (∀ w, Calls Tryz.prog 48 #[.string (bs s), .string ⟨#[123]⟩] w fun e w' => e = .returned (.tuple #[.string (bs r), .bool true]) ∧ w' = w) at C4
  have CL := Lib.hid hL
  clear hs h1 h2 h3 hl hsl hn hU hu hL h4 h5
  generalize bs s = ss at *
  go_enter Tryz.func25, Tryz.ntmps25
  go_wp2_with (first | (go_at_call 47; (with_reducible refine (CB.out _).mono ?_); rintro e w9 ⟨rfl, rfl⟩) | (go_at_call 48; (with_reducible refine (C0.out _).mono ?_); rintro e w9 ⟨rfl, rfl⟩) | (go_at_call 48; (with_reducible refine (C1.out _).mono ?_); rintro e w9 ⟨rfl, rfl⟩) | (go_at_call 48; (with_reducible refine (C2.out _).mono ?_); rintro e w9 ⟨rfl, rfl⟩) | (go_at_call 49; (with_reducible refine (CN.out _).mono ?_); rintro e w9 ⟨rfl, rfl⟩) | (go_at_call 50; (with_reducible refine (CU.out _).mono ?_); rintro e w5 ⟨rfl, hb5⟩; have hX := (rb_first w (.int .i64 0) (.string ⟨#[]⟩) (.slice none 0 0) (.slice none 0 0) (.cells #[.int .i64 0, .string ⟨#[]⟩, .slice none 0 0, .slice none 0 0] 26)).below hb5; have c0 := hX.c0; have c1 := hX.c1; have c2 := hX.c2; have c3 := hX.c3; have f0 := hX.fr 0; have f1 := hX.fr 1; have f2 := hX.fr 2; have f3 := hX.fr 3; have HX := Lib.hid hX; clear hX; have HB5 : Hid (RowKit.Below w.heap.size w w5) := Lib.hid ((below_two w _ _).trans (hb5.mono (below_two w _ _).size)); clear hb5; refine Hid.out ?_))
  refine Lib.hid ?_
  go_wp2_with (first | (go_at_call 48; (with_reducible refine (C3.out _).mono ?_); rintro e w9 ⟨rfl, rfl⟩) | (go_at_call 48; (with_reducible refine (C4.out _).mono ?_); rintro e w9 ⟨rfl, rfl⟩) | (go_at_call 52; (with_reducible refine (CL.out _).mono ?_); rintro e w7 ⟨k, t, a, n, cc, a2, n2, cc2, rest, ok, rfl, hb7, ho7⟩; have hX := HX.out.below hb7; clear c0 c1 c2 c3 f0 f1 f2 f3 HX; have HBx : Hid (RowKit.Below _ _ w7) := Lib.hid hb7; have HO7 := Lib.hid ho7; clear hb7 ho7; have c0 := hX.c0; have c1 := hX.c1; have c2 := hX.c2; have c3 := hX.c3; have f0 := hX.fr 0; have f1 := hX.fr 1; have f2 := hX.fr 2; have f3 := hX.fr 3; have HX := Lib.hid hX; clear hX; refine Hid.out ?_))
  refine Lib.hid ?_
  go_wp2_with fail
  refine rd_end rfl (HX.out.set4 _ _ _ _) rfl rfl rfl rfl ?_ ?_
  · exact (HB5.out.trans (HBx.out.mono HB5.out.size)).grown (gb_set4 _ w.heap.size _ _ _ _) (HB5.out.trans (HBx.out.mono HB5.out.size)).size (fun k e => by cases e; exact Nat.le_refl _)
  · exact HO7.out.move (fun b hb hs => (gb_set4 w7 w.heap.size _ _ _ _).block b hb (by have := HB5.out.size; intro e; cases e; omega)) HB5.out.size (gb_set4 w7 w.heap.size _ _ _ _).size

set_option maxHeartbeats 4000000 in
theorem read_non (l : List UInt8) (hl : l.length ≤ 500000) (w : World) (o : Option (JV × List UInt8)) (s : List UInt8) (hs : s = sk l) (hw : NoW s) (hn : nmG s = 0) (hU : UnqC s) (hu : unqG s = none) (h4 : signG s [91] = (s, false)) (h5 : signG s [123] = (s, false)) (ho : o = none) :
    Calls Tryz.prog 25 #[.string (bs l)] w (RdPost w o) := by
  have hsl := sk_len l
  have CB := Lib.hid (fun w => blanks_any l w (by omega))
  rw [← hs] at CB hsl
  obtain ⟨h1, h2, h3⟩ := hw
  have C0 := Lib.hid (fun w => sign_any s [110, 117, 108, 108] w (by omega) (by simp))
  rw [h1] at C0
  change Hid (∀ w, Calls Tryz.prog 48 #[.string (bs s), .string ⟨#[110, 117, 108, 108]⟩] w fun e w' => e = .returned (.tuple #[.string (bs s), .bool false]) ∧ w' = w) at C0
  have C1 := Lib.hid (fun w => sign_any s [102, 97, 108, 115, 101] w (by omega) (by simp))
  rw [h2] at C1
  change Hid (∀ w, Calls Tryz.prog 48 #[.string (bs s), .string ⟨#[102, 97, 108, 115, 101]⟩] w fun e w' => e = .returned (.tuple #[.string (bs s), .bool false]) ∧ w' = w) at C1
  have C2 := Lib.hid (fun w => sign_any s [116, 114, 117, 101] w (by omega) (by simp))
  rw [h3] at C2
  change Hid (∀ w, Calls Tryz.prog 48 #[.string (bs s), .string ⟨#[116, 114, 117, 101]⟩] w fun e w' => e = .returned (.tuple #[.string (bs s), .bool false]) ∧ w' = w) at C2
  have CN := Lib.hid (fun w => number_any (bs s) w (by rw [bs_size]; omega))
  rw [bs_list, hn] at CN
  unfold UnqC at hU
  have CU := Lib.hid hU
  rw [hu] at CU
  change Hid (∀ w0 : World, Calls Tryz.prog 50 #[.string (bs s)] w0 fun e w' => e = .returned (.tuple #[.string ⟨#[]⟩, .int .i64 0, .int .i64 2]) ∧ RowKit.Below w0.heap.size w0 w') at CU
  have C3 := Lib.hid (fun w => sign_any s [91] w (by omega) (by simp))
  rw [h4] at C3
  change Hid (∀ w, Calls Tryz.prog 48 #[.string (bs s), .string ⟨#[91]⟩] w fun e w' => e = .returned (.tuple #[.string (bs s), .bool false]) ∧ w' = w) at C3
  have C4 := Lib.hid (fun w => sign_any s [123] w (by omega) (by simp))
  rw [h5] at C4
  change Hid (∀ w, Calls Tryz.prog 48 #[.string (bs s), .string ⟨#[123]⟩] w fun e w' => e = .returned (.tuple #[.string (bs s), .bool false]) ∧ w' = w) at C4
  have HO := Lib.hid ho
  clear hs h1 h2 h3 hl hsl hn hU hu h4 h5 ho
  generalize bs s = ss at *
  go_enter Tryz.func25, Tryz.ntmps25
  go_wp2_with (first | (go_at_call 47; (with_reducible refine (CB.out _).mono ?_); rintro e w9 ⟨rfl, rfl⟩) | (go_at_call 48; (with_reducible refine (C0.out _).mono ?_); rintro e w9 ⟨rfl, rfl⟩) | (go_at_call 48; (with_reducible refine (C1.out _).mono ?_); rintro e w9 ⟨rfl, rfl⟩) | (go_at_call 48; (with_reducible refine (C2.out _).mono ?_); rintro e w9 ⟨rfl, rfl⟩) | (go_at_call 49; (with_reducible refine (CN.out _).mono ?_); rintro e w9 ⟨rfl, rfl⟩) | (go_at_call 50; (with_reducible refine (CU.out _).mono ?_); rintro e w5 ⟨rfl, hb5⟩; have hX := (rb_first w (.int .i64 0) (.string ⟨#[]⟩) (.slice none 0 0) (.slice none 0 0) (.cells #[.int .i64 0, .string ⟨#[]⟩, .slice none 0 0, .slice none 0 0] 26)).below hb5; have c0 := hX.c0; have c1 := hX.c1; have c2 := hX.c2; have c3 := hX.c3; have f0 := hX.fr 0; have f1 := hX.fr 1; have f2 := hX.fr 2; have f3 := hX.fr 3; have HX := Lib.hid hX; clear hX; have hY := (rb_second w (.int .i64 0) (.string ⟨#[]⟩) (.slice none 0 0) (.slice none 0 0) (.cells #[.int .i64 0, .string ⟨#[]⟩, .slice none 0 0, .slice none 0 0] 26)).below hb5; have d0 := hY.c0; have d1 := hY.c1; have d2 := hY.c2; have d3 := hY.c3; clear hY; have HB5 : Hid (RowKit.Below w.heap.size w w5) := Lib.hid ((below_two w _ _).trans (hb5.mono (below_two w _ _).size)); clear hb5; refine Hid.out ?_))
  refine Lib.hid ?_
  go_wp2_with (first | (go_at_call 48; (with_reducible refine (C3.out _).mono ?_); rintro e w9 ⟨rfl, rfl⟩) | (go_at_call 48; (with_reducible refine (C4.out _).mono ?_); rintro e w9 ⟨rfl, rfl⟩))
  refine rd_end rfl (HX.out.set4 _ _ _ _) rfl rfl rfl rfl ?_ ?_
  · exact HB5.out.grown (gb_set4 _ w.heap.size _ _ _ _) HB5.out.size (fun k e => by cases e; exact Nat.le_refl _)
  · rw [HO.out]
    rfl
end Go.Proofs.YtaniebkfgkhgoaaGreatDoor

namespace Go.Proofs.YtaniebkfgkhgoaaGreatDoor
open Go.RowKit
set_option linter.unusedVariables false
set_option maxRecDepth 100000

theorem pre_first {a b : UInt8} {p s : List UInt8} (h : Lib.hasPrefix s (a :: p) = true) (hab : a ≠ b) : Lib.hasPrefix s [b] = false := by
  cases s with
  | nil => rfl
  | cons x t =>
    unfold Lib.hasPrefix at *
    simp only [List.isPrefixOf, Bool.and_eq_true, beq_iff_eq] at h
    simp only [List.isPrefixOf, Bool.and_true, beq_eq_false_iff_ne]
    rw [← h.1]; exact fun e => hab e.symm
theorem num_first {s : List UInt8} (h : 0 < nmG s) {b : UInt8} (hb : isDg b = false) (hb2 : b ≠ 45) : Lib.hasPrefix s [b] = false := by
  cases s with
  | nil => rfl
  | cons x t =>
    unfold Lib.hasPrefix
    simp only [List.isPrefixOf, Bool.and_true, beq_eq_false_iff_ne]
    intro e
    subst e
    unfold nmG at h
    have e0 : nm0 (b :: t) = 0 := by
      unfold nm0
      have : atB (b :: t) 0 45 = false := by unfold atB; simp [hb2]
      rw [this]; rfl
    rw [e0, List.drop_zero, digN_cons, hb] at h
    simp at h
theorem unq_first {s t : List UInt8} {m : Nat} (h : unqG s = some (t, m)) : Lib.hasPrefix s [34] = true := by
  cases s with
  | nil => cases h
  | cons x r =>
    simp only [unqG] at h
    split at h
    · rename_i e; subst e; rfl
    · cases h
theorem sk_drop1 {s r : List UInt8} {c : UInt8} (h : takeG c s = some r) : sk r = r ∧ r.length < s.length := by
  refine ⟨?_, take_len h⟩
  unfold takeG at h
  split at h
  · cases h; exact sk_idem _
  · cases h

theorem rread_any (f : Nat) (l : List UInt8) (hl : l.length ≤ 500000) (hU : UnqC (sk l)) (hL : ∀ (o : Bool) (r : List UInt8), sk r = r → r.length < l.length → ∀ w0 : World, Calls Tryz.prog (if o then 52 else 51) #[.string (bs r)] w0 (RdPost w0 (opR f o r))) (w : World) :
    Calls Tryz.prog 25 #[.string (bs l)] w (RdPost w ((rdE refSg (f + 1)).1 (sk l))) := by
  have hsl := sk_len l
  have hss := sk_idem l
  obtain ⟨s, hs⟩ : ∃ s, s = sk l := ⟨_, rfl⟩
  rw [← hs] at hU hsl hss ⊢
  rw [rd_succ]
  have hp := sign_sk hss
  have h91 := take_pre 91 s
  have h123 := take_pre 123 s
  by_cases c1 : Lib.hasPrefix s [110, 117, 108, 108] = true
  · rw [pre_first c1 (by decide)] at h91 h123
    rw [h91, h123]
    refine read_w1 l hl w _ (sk (s.drop 4)) s hs (by rw [hp, if_pos c1]; rfl) ?_
    simp only [Bool.false_eq_true, if_false]
    unfold refSg; rw [if_pos c1]
  have n1 : signG s [110, 117, 108, 108] = (s, false) := by rw [hp, if_neg c1]
  by_cases c2 : Lib.hasPrefix s [102, 97, 108, 115, 101] = true
  · rw [pre_first c2 (by decide)] at h91 h123
    rw [h91, h123]
    refine read_w2 l hl w _ (sk (s.drop 5)) s hs n1 (by rw [hp, if_pos c2]; rfl) ?_
    simp only [Bool.false_eq_true, if_false]
    unfold refSg; rw [if_neg c1, if_pos c2]
  have n2 : signG s [102, 97, 108, 115, 101] = (s, false) := by rw [hp, if_neg c2]
  by_cases c3 : Lib.hasPrefix s [116, 114, 117, 101] = true
  · rw [pre_first c3 (by decide)] at h91 h123
    rw [h91, h123]
    refine read_w3 l hl w _ (sk (s.drop 4)) s hs n1 n2 (by rw [hp, if_pos c3]; rfl) ?_
    simp only [Bool.false_eq_true, if_false]
    unfold refSg; rw [if_neg c1, if_neg c2, if_pos c3]
  have n3 : signG s [116, 114, 117, 101] = (s, false) := by rw [hp, if_neg c3]
  have hw : NoW s := ⟨n1, n2, n3⟩
  have hr : refSg s = if 0 < nmG s then some (jNum (s.take (nmG s)), sk (s.drop (nmG s))) else match unqG s with | some (t, m) => some (jText t, sk (s.drop m)) | none => none := by
    unfold refSg; rw [if_neg c1, if_neg c2, if_neg c3]
    cases unqG s <;> rfl
  by_cases c4 : 0 < nmG s
  · rw [num_first c4 (by decide) (by decide)] at h91 h123
    rw [h91, h123]
    refine read_num l hl w _ s hs hw c4 ?_
    simp only [Bool.false_eq_true, if_false]
    rw [hr, if_pos c4]
  have hn : nmG s = 0 := by omega
  rw [if_neg c4] at hr
  cases hu : unqG s with
  | some p =>
    obtain ⟨t, m⟩ := p
    have hq := unq_first hu
    rw [pre_first hq (by decide)] at h91 h123
    rw [h91, h123]
    refine read_txt l hl w _ s hs hw hn hU t m hu ?_
    simp only [Bool.false_eq_true, if_false]
    rw [hr, hu]
  | none =>
    rw [hu] at hr
    by_cases c5 : Lib.hasPrefix s [91] = true
    · rw [if_pos c5] at h91
      obtain ⟨k1, k2⟩ := sk_drop1 h91
      rw [h91]
      exact read_lst l hl w _ s hs hw hn hU hu (sk (s.drop 1)) (by rw [hp, if_pos c5]; rfl) (hL false _ k1 (by omega))
    · rw [if_neg c5] at h91
      have n5 : signG s [91] = (s, false) := by rw [hp, if_neg c5]
      by_cases c6 : Lib.hasPrefix s [123] = true
      · rw [if_pos c6] at h123
        obtain ⟨k1, k2⟩ := sk_drop1 h123
        rw [h91, h123]
        exact read_obj l hl w _ s hs hw hn hU hu (sk (s.drop 1)) n5 (by rw [hp, if_pos c6]; rfl) (hL true _ k1 (by omega))
      · rw [if_neg c6] at h123
        rw [h91, h123]
        exact read_non l hl w _ s hs hw hn hU hu n5 (by rw [hp, if_neg c6]) hr
end Go.Proofs.YtaniebkfgkhgoaaGreatDoor

namespace Go.Proofs.YtaniebkfgkhgoaaGreatDoor
open Go.RowKit
set_option linter.unusedVariables false
set_option maxRecDepth 100000

theorem refSg_sk {l r : List UInt8} {v : JV} (h : refSg l = some (v, r)) : sk r = r := by
  unfold refSg at h
  split at h
  · cases h; exact sk_idem _
  split at h
  · cases h; exact sk_idem _
  split at h
  · cases h; exact sk_idem _
  split at h
  · cases h; exact sk_idem _
  split at h
  · cases h; exact sk_idem _
  · cases h
theorem rd_sk : ∀ (f : Nat), (∀ l v r, (rdE refSg f).1 l = some (v, r) → sk r = r) ∧ (∀ F l v r, (rdE refSg f).2 F l = some (v, r) → sk r = r)
  | 0 => ⟨fun l v r h => (by cases h), fun F l v r h => (by cases h)⟩
  | f + 1 => by
    obtain ⟨ih1, ih2⟩ := rd_sk f
    have hop : ∀ (o : Bool) (l : List UInt8) (v : JV) (r : List UInt8), opR f o l = some (v, r) → sk r = r := fun o l v r h => by
      unfold opR at h
      cases h3 : takeG (Fr.new o).mark l with
      | some r' => rw [h3] at h; cases h; exact (sk_drop1 h3).1
      | none => rw [h3] at h; exact ih2 _ _ _ _ h
    refine ⟨fun l v r h => ?_, fun F l v r h => ?_⟩
    · rw [rd_succ] at h
      cases h1 : takeG 91 l with
      | some x => rw [h1] at h; exact hop false x v r h
      | none =>
        rw [h1] at h
        cases h2 : takeG 123 l with
        | some x => rw [h2] at h; exact hop true x v r h
        | none => rw [h2] at h; exact refSg_sk h
    · simp only [rdE] at h
      cases h1 : nameG F l with
      | none => rw [h1] at h; cases h
      | some p =>
        obtain ⟨F', x⟩ := p
        rw [h1] at h
        simp only [] at h
        cases h2 : (rdE refSg f).1 x with
        | none => rw [h2] at h; cases h
        | some p =>
          obtain ⟨u, l2⟩ := p
          rw [h2] at h
          simp only [] at h
          cases h3 : takeG F'.mark l2 with
          | some r' => rw [h3] at h; cases h; exact (sk_drop1 h3).1
          | none =>
            rw [h3] at h
            simp only [] at h
            cases h4 : takeG 44 l2 with
            | none => rw [h4] at h; cases h
            | some r' => rw [h4] at h; exact ih2 _ _ _ _ h
/-- The values that follow in an unfinished list or object: one round. -/
theorem rd_round (f : Nat) (F : Fr) (l : List UInt8) : (rdE refSg (f + 1)).2 F l = match nameG F l with
    | none => none
    | some (F', r) => match (rdE refSg f).1 r with
      | none => none
      | some (v, l2) => match takeG F'.mark l2 with
        | some r' => some ((F'.add v).close, r')
        | none => match takeG 44 l2 with
          | some r' => (rdE refSg f).2 (F'.add v) r'
          | none => none := rfl
theorem rd_ref_len : ∀ (f : Nat), (∀ l v r, (rdE refSg f).1 l = some (v, r) → r.length < l.length) ∧ (∀ F l v r, (rdE refSg f).2 F l = some (v, r) → r.length < l.length) := rd_len fun l v r h => by
  unfold refSg at h
  have hs : ∀ {n : Nat}, 0 < n → n ≤ l.length → (sk (l.drop n)).length < l.length := fun {n} h1 h2 => by
    have := sk_len (l.drop n); rw [List.length_drop] at this; omega
  have hp : ∀ {p : List UInt8}, Lib.hasPrefix l p = true → p.length ≤ l.length := fun {p} h => (List.isPrefixOf_iff_prefix.1 (show List.isPrefixOf p l = true from h)).length_le
  split at h
  · rename_i h1; cases h; exact hs (by omega) (hp h1)
  split at h
  · rename_i h1; cases h; exact hs (by omega) (hp h1)
  split at h
  · rename_i h1; cases h; exact hs (by omega) (hp h1)
  split at h
  · rename_i h1; cases h; exact hs h1 (nmG_le l)
  split at h
  · rename_i t m hu; cases h; exact hs (unq_pos hu).1 (unqG_valid hu).2.2
  · cases h
theorem row_cell {w : World} {g n k : Nat} {cur : Array Value} {te : TypeId} {cs : List Value} (hgb : w.heap[g]? = some (.cells cur te (0, 0))) (h4 : cur.toList.take (n * k) = cs) (j : Nat) (u : Value) (hu : cs[j]? = some u) : w.cell? ⟨g, 0 + j, none⟩ = some u := by
  rw [← h4, List.getElem?_take] at hu
  split at hu
  · have : cur[j]? = some u := by simpa using hu
    simp [World.cell?, hgb, this]
  · cases hu
/-- A row of values that is done is a list. -/
theorem row_list {w : World} {B : Nat} {S S' : Nat → Prop} {sv : Value} {els : List (ByteArray × JV)} {cs : List Value} (ho : w.ownsRow B 26 4 sv els.length cs) (he : ElsIn w S false els cs)
    (hS : ∀ b, b < w.heap.size → S b → S' b) (hB : ∀ b, B ≤ b → b < w.heap.size → S' b) (nm : ByteArray) :
    ∃ a c, sv = .slice a els.length c ∧ LV w S' (Fr.mk false els nm).close (.int .i64 6) (.string ⟨#[]⟩) (.slice a els.length c) (.slice none 0 0) := by
  have hm : ElsIn w S' false els cs := ElsIn.move (fun b hb hs => ⟨rfl, hS b hb hs⟩) els he
  rcases ho.2 with ⟨rfl, h0⟩ | ⟨g, cap, cur, rfl, hg, hgb, h1, h2, h3, h4⟩
  · refine ⟨none, 0, by rw [h0], ?_⟩
    have : els = [] := List.length_eq_zero_iff.1 h0
    subst this
    exact LV.plain _ _ _ _
  · refine ⟨some ⟨g, 0, none⟩, cap, rfl, ?_⟩
    show LV w S' ⟨6, ⟨#[]⟩, els.map (·.2), []⟩ _ _ _ _
    unfold LV
    have hlt : g < w.heap.size := (Array.getElem?_eq_some_iff.1 hgb).1
    exact ⟨rfl, rfl, ⟨some ⟨g, 0, none⟩, cap, by rw [List.length_map], .inr ⟨g, 0, rfl, ⟨hB g hg hlt, cur, _, hgb⟩, hm.vals els (fun j u hu => row_cell hgb h4 j u hu)⟩⟩, ⟨none, 0, rfl, .inl rfl⟩⟩
/-- A row of fields that is done is an object. -/
theorem row_flds {w : World} {B : Nat} {S S' : Nat → Prop} {sv : Value} {els : List (ByteArray × JV)} {cs : List Value} (ho : w.ownsRow B 51 5 sv els.length cs) (he : ElsIn w S true els cs)
    (hS : ∀ b, b < w.heap.size → S b → S' b) (hB : ∀ b, B ≤ b → b < w.heap.size → S' b) (nm : ByteArray) :
    ∃ a c, sv = .slice a els.length c ∧ LV w S' (Fr.mk true els nm).close (.int .i64 7) (.string ⟨#[]⟩) (.slice none 0 0) (.slice a els.length c) := by
  have hm : ElsIn w S' true els cs := ElsIn.move (fun b hb hs => ⟨rfl, hS b hb hs⟩) els he
  rcases ho.2 with ⟨rfl, h0⟩ | ⟨g, cap, cur, rfl, hg, hgb, h1, h2, h3, h4⟩
  · refine ⟨none, 0, by rw [h0], ?_⟩
    have : els = [] := List.length_eq_zero_iff.1 h0
    subst this
    exact LV.plain _ _ _ _
  · refine ⟨some ⟨g, 0, none⟩, cap, rfl, ?_⟩
    show LV w S' ⟨7, ⟨#[]⟩, [], els⟩ _ _ _ _
    unfold LV
    have hlt : g < w.heap.size := (Array.getElem?_eq_some_iff.1 hgb).1
    exact ⟨rfl, rfl, ⟨none, 0, rfl, .inl rfl⟩, ⟨some ⟨g, 0, none⟩, cap, rfl, .inr ⟨g, 0, rfl, ⟨hB g hg hlt, cur, _, hgb⟩, hm.flds els (fun j u hu => row_cell hgb h4 j u hu)⟩⟩⟩
end Go.Proofs.YtaniebkfgkhgoaaGreatDoor
