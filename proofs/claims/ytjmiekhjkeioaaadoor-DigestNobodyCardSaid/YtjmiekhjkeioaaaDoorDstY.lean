/- Contracts of (*Lazy).Text: what is done once, and what is told ever after. -/
import Derived.Test.YtjmiekhjkeioaaaDoorDstZ
import Derived.Deep.RegionHeld3
namespace Go.Proofs.YtjmiekhjkeioaaaDoor
open Go.RowKit
set_option linter.unusedVariables false

theorem pl_ne {b j : Nat} {pl : Addr} (h : pl.block ≠ b) : (⟨b, j, none⟩ : Addr) ≠ pl := fun e => h (by rw [← e])

set_option maxRecDepth 100000 in
/-- What is done once: the text is reckoned, and counted. -/
theorem clo_any (b : Nat) (pl : Addr) (hpb : pl.block ≠ b) (s : ByteArray) (w : World) (hp : w.cell? pl = some (.pointer (some ⟨b, 0, none⟩))) (hr : LzIs w b s 0 1 ⟨#[]⟩ 0) (ht : TabOK w) (hb0 : b ≠ 0) (hlen : s.data.toList.length ≤ 900000) :
    Calls Tryd.prog 25 #[.pointer (some pl)] w fun e w' => e = .returned (.tuple #[]) ∧ LzIs w' b s 0 1 (digS s.data.toList) 1 ∧ Only b w w' := by
  have H1 := Lib.hid (of_any s w.drew ht hlen)
  have c0 : w.cell? ⟨b, 0, none⟩ = some (.string s) := hr.c0
  have HR := Lib.hid hr
  have hne : (⟨b, 4, none⟩ : Addr) ≠ pl := pl_ne hpb
  have hbs : b < w.drew.heap.size := World.rowIs.lt hr
  have hps : pl.block < w.drew.heap.size := World.block_lt_of_cell? w pl hp
  have hnil : ∀ (c : World), Below w.drew.heap.size w.drew c → LzIs c b s 0 1 ⟨#[]⟩ 0 := fun c hc => hr.of_block (hc.block b hbs)
  have HNIL := Lib.hid hnil
  generalize digS s.data.toList = D at H1 ⊢
  clear hr ht hlen hnil
  go_enter Tryd.func25, Tryd.ntmps25
  go_wp2_with fail
  go_region_held3 (fun w' => w'.cell? pl = some (.pointer (some ⟨b, 0, none⟩)) ∧ w'.cell? ⟨b, 0, none⟩ = some (.string s))
    (first | exact ⟨hp, c0⟩ | exact ⟨(hbc.cell hps).trans hp, (hbc.cell hbs).trans c0⟩ | exact ⟨(World.cell?_setCell_other _ _ _ _ hne).trans ((hbc.cell hps).trans hp), (World.cell?_setCell_other _ ⟨b, 4, none⟩ ⟨b, 0, none⟩ _ (by simp)).trans ((hbc.cell hbs).trans c0)⟩)
    (first
      | (go_at_call 7; (with_reducible refine H1.out.mono ?_); rintro e wc ⟨rfl, hbc⟩; have c4 := (HNIL.out wc hbc).c4; have f4 := (HNIL.out wc hbc).fr 4))
  have HW := Lib.hid (HNIL.out wc hbc)
  have HBO : Hid (Only b w (wc.setCell ⟨b, 4, none⟩ (.string D))) := (Only.of_below (w := w) (w' := wc) ⟨hbc.os, hbc.tape, hbc.output, hbc.size, hbc.block⟩).setCell (a := ⟨b, 4, none⟩) (Or.inl rfl) _
  have hp2 : (wc.setCell ⟨b, 4, none⟩ (.string D)).cell? pl = some (.pointer (some ⟨b, 0, none⟩)) := (World.cell?_setCell_other _ _ _ _ hne).trans ((hbc.cell hps).trans hp)
  have HW2 := Lib.hid (HW.out.text D)
  clear hbc HNIL H1 c4 f4 hp c0
  generalize wc.setCell ⟨b, 4, none⟩ (.string D) = w2 at *
  go_wp2_with (go_at_call 26; refine (on_add1 _ _ HW2.out.c5 (HW2.out.fr 5)).mono ?_; rintro e w3 ⟨rfl, rfl⟩)
  go_end0
  exact ⟨rfl, HW2.out.made 1, HBO.out.setCell (Or.inl rfl) _⟩

set_option maxRecDepth 100000 in
set_option maxHeartbeats 1600000 in
/-- The slow road: not yet done, and nobody holds the lock. -/
theorem slow_any (b : Nat) (pl : Addr) (hpb : pl.block ≠ b) (s : ByteArray) (w : World) (hp : w.cell? pl = some (.pointer (some ⟨b, 0, none⟩))) (hr : LzIs w b s 0 0 ⟨#[]⟩ 0) (ht : TabOK w) (hb0 : b ≠ 0) (hlen : s.data.toList.length ≤ 900000) :
    Calls Tryd.prog 38 #[.pointer (some ⟨b, 1, none⟩), .func (.func 25) #[] #[.pointer (some pl)]] w fun e w' => e = .returned (.tuple #[]) ∧ LzOf w' b s true ∧ Only b w w' := by
  have HR1 := Lib.hid (hr.lock 1)
  have O1 : Hid (Only b w (w.setCell ⟨b, 2, none⟩ (.int .i32 1))) := (Only.refl b w).setCell (Or.inl rfl) _
  have HC : Hid (Calls Tryd.prog 25 #[.pointer (some pl)] (w.setCell ⟨b, 2, none⟩ (.int .i32 1)) fun e w' => e = .returned (.tuple #[]) ∧ LzIs w' b s 0 1 (digS s.data.toList) 1 ∧ Only b (w.setCell ⟨b, 2, none⟩ (.int .i32 1)) w') :=
    clo_any b pl hpb s _ ((World.cell?_setCell_other _ ⟨b, 2, none⟩ pl _ (pl_ne hpb)).trans hp) HR1.out (ht.only hb0 O1.out) hb0 hlen
  have h2 := hr.c2
  have f2 := hr.fr 2
  have LD : Hid (LzOf w b s true = LzIs w b s 1 0 (digS s.data.toList) 1) := rfl
  have HD : Hid (∀ w' : World, LzIs w' b s 1 0 (digS s.data.toList) 1 → LzOf w' b s true) := fun _ h => h
  generalize digS s.data.toList = D at HC HD ⊢
  clear LD hr ht hlen hp
  have hnot := on_not
  go_enter_defers Tryd.func38, Tryd.ntmps38
  go_wp2_with (first
    | (go_at_call 47; refine (on_lock _ _ h2 f2).mono ?_; rintro e w1 ⟨rfl, rfl⟩)
    | (go_at_call 37; refine (on_done _ 0 _ HR1.out.c1).mono ?_; rintro e w2 ⟨rfl, rfl⟩)
    | (go_at_call 25; refine HC.out.mono ?_; rintro e w3 ⟨rfl, hr3, ho3⟩))
  have HR3 := Lib.hid hr3
  have HO3 := Lib.hid (O1.out.trans ho3)
  clear hr3 ho3 HC O1 HR1 h2 f2
  -- the door: two deferred calls, the last laid first
  refine leaves_cons (f := 49) (args := #[.pointer (some ⟨b, 1, none⟩), .bool true]) (by simp) (by simp [go_sem]) ?_
  refine (on_mark ⟨b, 1, none⟩ _ .returning _ HR3.out.c1 (HR3.out.fr 1)).mono ?_
  rintro e u' w'' ⟨rfl, rfl, rfl⟩
  have HR4 : Hid (LzIs (w3.drew.setCell ⟨b, 1, none⟩ (.int .u32 1)) b s 1 1 D 1) := LzIs.mark (w := w3.drew) (HR3.out.of_block rfl) 1
  have HO4 := Lib.hid (HO3.out.drew.setCell (a := ⟨b, 1, none⟩) (Or.inl rfl) (.int .u32 1))
  clear HR3 HO3
  refine leaves_cons (f := 48) (args := #[.pointer (some ⟨b, 2, none⟩)]) (by simp [settle]) (by simp [go_sem]) ?_
  refine (on_unlock ⟨b, 2, none⟩ _ _ HR4.out.c2 (HR4.out.fr 2)).mono ?_
  rintro e u' w'' ⟨rfl, rfl, rfl⟩
  have HR5 := Lib.hid (HD.out _ (HR4.out.lock 0))
  have HO5 := Lib.hid (HO4.out.setCell (a := ⟨b, 2, none⟩) (Or.inl rfl) (.int .i32 0))
  clear HR4 HO4 HD
  exact ⟨_, results_none rfl _ _ _, rfl, HR5.out, HO5.out⟩

/-- Do, not yet done. -/
theorem do_first (b : Nat) (pl : Addr) (hpb : pl.block ≠ b) (s : ByteArray) (w : World) (hp : w.cell? pl = some (.pointer (some ⟨b, 0, none⟩))) (hr : LzIs w b s 0 0 ⟨#[]⟩ 0) (ht : TabOK w) (hb0 : b ≠ 0) (hlen : s.data.toList.length ≤ 900000) :
    Calls Tryd.prog 24 #[.pointer (some ⟨b, 1, none⟩), .func (.func 25) #[] #[.pointer (some pl)]] w fun e w' => e = .returned (.tuple #[]) ∧ LzOf w' b s true ∧ Only b w w' := by
  have HS := Lib.hid (slow_any b pl hpb s w hp hr ht hb0 hlen)
  have HC := Lib.hid hr.c1
  clear hp hr ht hlen
  have hnot := on_not
  go_enter Tryd.func24, Tryd.ntmps24
  go_wp2_with (first
    | (go_at_call 37; refine (on_done _ 0 _ HC.out).mono ?_; rintro e w2 ⟨rfl, rfl⟩)
    | (go_at_call 38; refine HS.out.mono ?_; rintro e w3 ⟨rfl, hr3, ho3⟩))
  go_end0
  exact ⟨rfl, hr3, ho3⟩
/-- Do, done already: nothing is done. -/
theorem do_done (a : Addr) (fv : Value) (w : World) (h0 : w.cell? a = some (.int .u32 1)) :
    Calls Tryd.prog 24 #[.pointer (some a), fv] w fun e w' => e = .returned (.tuple #[]) ∧ w' = w := by
  have HC := Lib.hid h0
  clear h0
  have hnot := on_not
  go_enter Tryd.func24, Tryd.ntmps24
  go_wp2_with (go_at_call 37; refine (on_done _ 1 _ HC.out).mono ?_; rintro e w2 ⟨rfl, rfl⟩)
  go_end0
  exact ⟨rfl, rfl⟩

/-- Text of a Lazy, asked for first or again. -/
theorem text_first (b : Nat) (s : ByteArray) (w : World) (hr : LzOf w b s false) (ht : TabOK w) (hb0 : b ≠ 0) (hlen : s.data.toList.length ≤ 900000) :
    Calls Tryd.prog 15 #[.pointer (some ⟨b, 0, none⟩)] w fun e w' => e = .returned (.string (digS s.data.toList)) ∧ LzOf w' b s true ∧ Only b w w' := by
  have hlt : b < w.heap.size := World.rowIs.lt (show LzIs w b s 0 0 ⟨#[]⟩ 0 from hr)
  obtain ⟨W, hW⟩ : ∃ W, W = w.alloc (.cells #[.pointer (some ⟨b, 0, none⟩)] 27) := ⟨_, rfl⟩
  have hp : W.cell? ⟨w.heap.size, 0, none⟩ = some (.pointer (some ⟨b, 0, none⟩)) := by rw [hW]; simp
  have HO : Hid (Only b w W) := by rw [hW]; exact (Only.refl b w).alloc _
  have HS : Hid (Calls Tryd.prog 24 #[.pointer (some ⟨b, 1, none⟩), .func (.func 25) #[] #[.pointer (some ⟨w.heap.size, 0, none⟩)]] W fun e w' => e = .returned (.tuple #[]) ∧ LzOf w' b s true ∧ Only b W w') :=
    do_first b ⟨w.heap.size, 0, none⟩ (by show w.heap.size ≠ b; omega) s W hp (by rw [hW]; exact World.rowIs.alloc (show LzIs w b s 0 0 ⟨#[]⟩ 0 from hr) _) (ht.only hb0 HO.out) hb0 hlen
  have HP : Hid (∀ w', Only b W w' → w'.cell? ⟨w.heap.size, 0, none⟩ = some (.pointer (some ⟨b, 0, none⟩))) := fun w' ho => by
    rw [← hp]
    exact World.cell?_of_block (w := W) (ho.block w.heap.size (by rw [hW]; simp) (by omega))
  clear hr ht hlen
  have hmf : ∀ (fn : Fn) (first cap : Array Value) (w : World), (Instr.makeFunc fn first cap).run Tryd.prog w = .ok (.func fn first cap) w := fun _ _ _ _ => rfl
  have HD : Hid (∀ w' : World, LzOf w' b s true → w'.cell? ⟨b, 4, none⟩ = some (.string (digS s.data.toList))) := fun w' h => LzIs.c4 (show LzIs w' b s 1 0 (digS s.data.toList) 1 from h)
  generalize digS s.data.toList = D at HD ⊢
  go_enter Tryd.func15, Tryd.ntmps15
  rw [hW] at hp
  go_wp2_with (go_at_call 24; rw [← hW]; refine HS.out.mono ?_; rintro e w3 ⟨rfl, hr3, ho3⟩; have c4 := HD.out w3 hr3; have cp := HP.out w3 ho3)
  go_ret
  exact ⟨rfl, hr3, HO.out.trans ho3⟩
theorem text_again (b : Nat) (s : ByteArray) (w : World) (hr : LzOf w b s true) :
    Calls Tryd.prog 15 #[.pointer (some ⟨b, 0, none⟩)] w fun e w' => e = .returned (.string (digS s.data.toList)) ∧ LzOf w' b s true ∧ Only b w w' := by
  have hr' : LzIs w b s 1 0 (digS s.data.toList) 1 := hr
  have hlt : b < w.heap.size := World.rowIs.lt hr'
  have HR : Hid (LzIs (w.alloc (.cells #[.pointer (some ⟨b, 0, none⟩)] 27)) b s 1 0 (digS s.data.toList) 1) := World.rowIs.alloc hr' _
  have c4 := HR.out.c4
  have HE : Hid (∀ w' : World, LzIs w' b s 1 0 (digS s.data.toList) 1 → LzOf w' b s true) := fun _ h => h
  clear hr hr'
  generalize digS s.data.toList = D at HR HE c4 ⊢
  have hmf : ∀ (fn : Fn) (first cap : Array Value) (w : World), (Instr.makeFunc fn first cap).run Tryd.prog w = .ok (.func fn first cap) w := fun _ _ _ _ => rfl
  go_enter Tryd.func15, Tryd.ntmps15
  go_wp2_with (go_at_call 24; refine (do_done _ _ _ HR.out.c1).mono ?_; rintro e w3 ⟨rfl, rfl⟩)
  go_ret
  exact ⟨rfl, HE.out _ HR.out, (Only.refl b w).alloc _⟩
theorem text_any (b : Nat) (s : ByteArray) (k : Bool) (w : World) (hr : LzOf w b s k) (ht : TabOK w) (hb0 : b ≠ 0) (hlen : s.data.toList.length ≤ 900000) :
    Calls Tryd.prog 15 #[.pointer (some ⟨b, 0, none⟩)] w fun e w' => e = .returned (.string (digS s.data.toList)) ∧ LzOf w' b s true ∧ Only b w w' := by
  cases k
  · exact text_first b s w hr ht hb0 hlen
  · exact text_again b s w hr
/-- Text of no Lazy. -/
theorem text_nil (w : World) (ht : TabOK w) :
    Calls Tryd.prog 15 #[.pointer none] w fun e w' => e = .returned (.string (digS [])) ∧ Below w.heap.size w w' := by
  have hT : TabOK (w.alloc (.cells #[.pointer none] 27)) := ⟨by have := ht.1; simp <;> omega, fun t h64 => by rw [← ht.2 t h64, World.cell?_alloc_lt _ _ _ ht.1]⟩
  have HS := Lib.hid (of_any ⟨#[]⟩ _ hT (by decide))
  rw [show (ByteArray.mk #[]).data.toList = [] from rfl] at HS
  clear ht hT
  generalize digS [] = D at HS ⊢
  go_enter Tryd.func15, Tryd.ntmps15
  go_wp2_with (go_at_call 7; refine HS.out.mono ?_; rintro e w3 ⟨rfl, hb3⟩)
  go_ret
  exact ⟨rfl, ((Below.refl _ _).alloc (Nat.le_refl _) _).trans (hb3.mono (by simp))⟩
end Go.Proofs.YtjmiekhjkeioaaaDoor
