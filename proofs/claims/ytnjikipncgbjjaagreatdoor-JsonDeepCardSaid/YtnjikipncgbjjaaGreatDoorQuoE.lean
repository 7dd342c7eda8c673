/- A contract of quote.Unquote: what any bytes tell between quotes. -/
import Derived.Test.YtnjikipncgbjjaaGreatDoorQuoD
import Derived.OwnWalk
namespace Go.Proofs.YtnjikipncgbjjaaGreatDoor
open Go.RowKit
set_option linter.unusedVariables false
set_option maxRecDepth 100000

/-- What Unquote answers. -/
def unqS : Option (List UInt8 × Nat) → Value
  | some (l, m) => .tuple #[.string ⟨l.toArray⟩, .int .i64 (m : Int), .int .i64 0]
  | none => .tuple #[.string ⟨#[]⟩, .int .i64 0, .int .i64 2]

theorem unquoted_any (t : ByteArray) (z : Int) (w : World) (hz : z ≤ 524288) :
    Calls Tryz.prog 122 #[.string t, .int .i64 z] w fun e w' => e = .returned (.tuple #[.string t, .int .i64 z, .int .i64 0]) ∧ w' = w := by
  go_enter Tryz.func122, Tryz.ntmps122
  go_wp2_with fail
  go_ret3
  exact ⟨rfl, rfl⟩

/-- What a round of the loop needs to know at place q. -/
theorem unq_end {f : Nat} {l acc : List UInt8} {q : Nat} (hd : l.drop q = []) : unqGo f (l.drop q) acc q = none := by
  rw [hd]; cases f <;> rfl
theorem unq_stop {f : Nat} {l acc : List UInt8} {q : Nat} {t : List UInt8} (hd : l.drop q = 34 :: t) (hf : (l.drop q).length < f) : unqGo f (l.drop q) acc q = some (acc, q + 1) := by
  obtain ⟨f, rfl⟩ : ∃ f', f = f' + 1 := ⟨f - 1, by omega⟩
  rw [hd]; simp only [unqGo, if_true]
theorem unq_bad {f : Nat} {l acc : List UInt8} {q : Nat} {a : UInt8} {t : List UInt8} (hd : l.drop q = a :: t) (hf : (l.drop q).length < f) (ha : a ≠ 34) (ho : oneG (a :: t) = none) : unqGo f (l.drop q) acc q = none := by
  obtain ⟨f, rfl⟩ : ∃ f', f = f' + 1 := ⟨f - 1, by omega⟩
  rw [hd]; simp only [unqGo]; rw [if_neg ha, ho]
theorem unq_on {f : Nat} {l acc : List UInt8} {q : Nat} {a : UInt8} {t : List UInt8} {n k : Nat} (hd : l.drop q = a :: t) (hf : (l.drop q).length < f) (ha : a ≠ 34) (ho : oneG (a :: t) = some (n, k)) :
    ∃ f', unqGo f (l.drop q) acc q = unqGo f' (l.drop (q + k)) (acc ++ enc n) (q + k) ∧ (l.drop (q + k)).length < f' := by
  obtain ⟨f, rfl⟩ : ∃ f', f = f' + 1 := ⟨f - 1, by omega⟩
  have hk := (oneG_facts ho).2
  refine ⟨f, ?_, ?_⟩
  · have e : (a :: t).drop k = l.drop (q + k) := by rw [← hd, List.drop_drop]
    rw [hd]; simp only [unqGo]; rw [if_neg ha, ho]; simp only; rw [e]
  · rw [← hd] at hk
    rw [List.length_drop] at *; omega

theorem unquote_any (s : ByteArray) (w : World) (hT : TabsW w) (hs : s.size ≤ 500000) :
    Calls Tryz.prog 114 #[.string s] w fun e w' => e = .returned (unqS (unqG s.data.toList)) ∧ Below w.heap.size w w' := by
  have hl : s.data.toList.length = s.size := by simp
  obtain ⟨O, hO⟩ : ∃ O, O = unqS (unqG s.data.toList) := ⟨_, rfl⟩
  rw [← hO]
  have HO := Lib.hid hO
  clear hO
  have hp := fun w0 => Tryz.strings_HasPrefix s ⟨#[34]⟩ w0
  change ∀ w0, Calls Tryz.prog 95 #[.string s, .string ⟨#[34]⟩] w0 fun e w' => e = .returned (.bool (Lib.hasPrefix s.data.toList [34])) ∧ w' = w0 at hp
  cases hpre : Lib.hasPrefix s.data.toList [34] with
  | false =>
    have HE : Hid (unqG s.data.toList = none) := by
      show unqG s.data.toList = none
      cases hd : s.data.toList with
      | nil => rfl
      | cons a t =>
        simp only [unqG]
        rw [if_neg]
        rintro rfl
        rw [hd] at hpre
        revert hpre
        show List.isPrefixOf [34] (34 :: t) = false → False
        simp [List.isPrefixOf]
    rw [hpre] at hp
    clear hl hT hpre
    go_enter Tryz.func114, Tryz.ntmps114
    go_wp2_with (go_at_call 95; refine (hp _).mono ?_; (first | rintro e v rfl hv | rintro e v ⟨rfl, hv⟩); rw [hv]; clear hv)
    go_ret3
    exact ⟨by rw [HO.out, HE.out]; rfl, Below.refl _ _⟩
  | true =>
    obtain ⟨t0, ht0⟩ : ∃ t, s.data.toList = 34 :: t := by
      have : [34] <+: s.data.toList := List.isPrefixOf_iff_prefix.1 hpre
      obtain ⟨t, e⟩ := this
      exact ⟨t, e.symm⟩
    have hsz1 : 1 ≤ s.size := by rw [ht0] at hl; simp at hl; omega
    have HQ0 := Lib.hid (show unqGo (t0.length + 1) (s.data.toList.drop 1) [] 1 = unqG s.data.toList by rw [ht0]; simp only [unqG, List.drop_succ_cons, List.drop_zero]; rw [if_pos trivial])
    have HT0 := Lib.hid ht0
    have HL := Lib.hid hl
    have HT := Lib.hid hT
    rw [hpre] at hp
    clear hl hT hpre ht0
    go_enter Tryz.func114, Tryz.ntmps114
    go_wp2_with (go_at_call 95; refine (hp _).mono ?_; (first | rintro e v rfl hv | rintro e v ⟨rfl, hv⟩); rw [hv]; clear hv)
    clear hp
    have S0 : w.heap.size < (w.alloc (.cells #[.pointer none, .slice none 0 0] 57)).heap.size := by simp
    go_wp2_with fail
    go_loopw [6] (fun nx wr => ∃ (pos q next f : Nat) (acc : List UInt8), nx = .int .i64 next ∧ pos ≤ q ∧ q ≤ s.size ∧ next ≤ q ∧ (pos < q → next = q) ∧ Hid (∀ j (h : j < s.size), pos ≤ j → j < q → (s[j]'h).toNat < 128) ∧ Hid (unqGo f (s.data.toList.drop q) acc q = unqG s.data.toList) ∧ Hid ((s.data.toList.drop q).length < f) ∧ Bd w.heap.size acc wr ∧ wr.heap[w.heap.size + 1]? = some (.stringIter s pos) ∧ Hid (Below w.heap.size w wr) ∧ Hid (acc.length ≤ 4 * q)) (fun _ wr => s.size - wr.iterPos (w.heap.size + 1))
    case atStart =>
      refine ⟨0, 1, 1, t0.length + 1, [], rfl, by omega, hsz1, by omega, fun _ => rfl, ?_, HQ0.out, ?_, (fresh_Bd w).alloc _, ?_, ((Below.refl _ w).alloc (Nat.le_refl _) _).alloc (by simp) _, by show 0 ≤ _; omega⟩
      · intro j h _ h1
        have hj : j = 0 := by omega
        subst hj
        have := Lib.data_getElem? s 0 h
        rw [HT0.out] at this
        simp at this
        rw [← this]; decide
      · show (s.data.toList.drop 1).length < _
        rw [HT0.out]; simp
      · have := World.iter_heap (w.alloc (.cells #[.pointer none, .slice none 0 0] 57)) s 0
        simpa using this
    case round =>
      obtain ⟨pos, q, next, f, acc, rfl, hpq, hqs, hnq, hpn, hasc, hun, hfu, hI, hit, hbel, hal⟩ := hrel
      have hszw : w.heap.size + 1 < wr.heap.size := (Array.getElem?_eq_some_iff.1 hit).1
      by_cases hp : pos < s.size
      · by_cases hlt : pos < q
        · obtain ⟨y, hy⟩ : ∃ y, s[pos]'hp = y := ⟨_, rfl⟩
          have hy0 : (s[pos]'hp).toNat < 128 := hasc.out pos hp (Nat.le_refl _) hlt
          have hnx : ∀ ty, (Instr.next (.pointer (some ⟨w.heap.size + 1, 0, none⟩)) true ty).run Tryz.prog wr = .ok (.tuple #[.bool true, .int .i64 pos, .int .i32 (y.toNat : Int)]) (wr.iterAt (w.heap.size + 1) s (pos + 1)) := fun ty => by
            rw [Lib.run_next_ascii_at wr (w.heap.size + 1) s pos ty hit hp hy0, hy]
          have hit2 := Lib.iterAt_heap wr (w.heap.size + 1) s pos (pos + 1) hit
          have hI2 := hI.iterAt hit (pos + 1)
          have hbw2 := Lib.hid (Lib.below_iterAt hbel.out (k := w.heap.size + 1) (by omega) s (pos + 1))
          have hq := hpn hlt
          have hlt2 : (pos : Int) < (next : Int) := by omega
          have HPQ := Lib.hid (show pos + 1 ≤ q from hlt)
          have HQ := Lib.hid hq
          clear hy0 hy hbel hI hpn hq
          go_wp2_with fail
          go_roundw
          case rel => exact ⟨pos + 1, q, next, f, acc, rfl, HPQ.out, hqs, hnq, fun _ => HQ.out, fun j h h1 h2 => hasc.out j h (by omega) h2, hun.out, hfu.out, hI2, hit2, hbw2.out, hal.out⟩
          case measure =>
            simp only [World.iterPos, hit2, hit]
            omega
        · have hpq' : pos = q := by omega
          subst hpq'
          cases hd : s.data.toList.drop pos with
          | nil =>
            exfalso
            have := congrArg List.length hd
            rw [List.length_drop, HL.out] at this; simp at this; omega
          | cons a t =>
            have hni : ¬ (pos : Int) < (next : Int) := by omega
            have hdl := Lib.decodeL_drop s pos
            rw [hd] at hdl
            have hnx0 := fun ty => Lib.run_next_any_at (P := Tryz.prog) wr (w.heap.size + 1) s pos ty hit hp
            have HD := Lib.hid hd
            by_cases ha : a = 34
            · subst ha
              have HE := Lib.hid (show unqG s.data.toList = some (acc, pos + 1) by rw [← hun.out]; exact unq_stop hd hfu.out)
              rw [Lib.decodeL_ascii _ _ (by decide)] at hdl
              rw [← hdl] at hnx0
              change ∀ ty, (Instr.next (.pointer (some ⟨w.heap.size + 1, 0, none⟩)) true ty).run Tryz.prog wr = .ok (.tuple #[.bool true, .int .i64 pos, .int .i32 34]) (wr.iterAt (w.heap.size + 1) s (pos + 1)) at hnx0
              have hI2 := hI.iterAt hit (pos + 1)
              have hbw2 := Lib.hid (Lib.below_iterAt hbel.out (k := w.heap.size + 1) (by omega) s (pos + 1))
              have hsz2 : w.heap.size ≤ (wr.iterAt (w.heap.size + 1) s (pos + 1)).heap.size := by rw [Lib.iterAt_size]; omega
              clear hdl hd hun hfu hasc hI hbel
              generalize wr.iterAt (w.heap.size + 1) s (pos + 1) = wq at hnx0 hI2 hbw2 hsz2
              go_wp2_with (go_at_call 30; refine (bString w.heap.size acc _ hI2 hsz2).mono ?_)
              first | rintro e W3 rfl a3 | rintro e W3 ⟨rfl, a3⟩
              have L3 := Lib.hid (hbw2.out.trans a3.1)
              clear a3
              go_wp2_with (go_at_call 122; refine (unquoted_any _ _ _ (by omega)).mono ?_; (first | rintro e v rfl hv | rintro e v ⟨rfl, hv⟩); rw [hv]; clear hv)
              go_ret3
              exact ⟨by rw [HO.out, HE.out]; rfl, L3.out⟩
            · have hne34 : ∀ z : Int, z = 34 → a.toNat = 34 → False := fun z _ h => ha (UInt8.toNat_inj.1 h)
              have hsp : s[pos]'hp = a := by
                have h1 := Lib.data_getElem? s pos hp
                have h2 : (s.data.toList.drop pos)[0]? = some a := by rw [hd]; rfl
                rw [List.getElem?_drop, Nat.add_zero, h1] at h2
                exact Option.some.inj h2
              by_cases hb : a = 92
              · subst hb
                rw [Lib.decodeL_ascii _ _ (by decide)] at hdl
                have hbk := fun w0 => broken_at s pos hp false (by rw [hd, letter_ascii _ _ (by decide)]; rfl) w0
                rw [← hdl] at hnx0 hbk
                change ∀ ty, (Instr.next (.pointer (some ⟨w.heap.size + 1, 0, none⟩)) true ty).run Tryz.prog wr = .ok (.tuple #[.bool true, .int .i64 pos, .int .i32 92]) (wr.iterAt (w.heap.size + 1) s (pos + 1)) at hnx0
                change ∀ w0, Calls Tryz.prog 85 #[.int .i32 92, .string (s.extract pos s.size)] w0 fun e w' => e = .returned (.bool false) ∧ w' = w0 at hbk
                have hit2 := Lib.iterAt_heap wr (w.heap.size + 1) s pos (pos + 1) hit
                have hI2 := hI.iterAt hit (pos + 1)
                have hbw2 := Lib.iterAt_size wr (w.heap.size + 1) s (pos + 1)
                have hbw3 := Lib.below_iterAt hbel.out (k := w.heap.size + 1) (by omega) s (pos + 1)
                have hsz2 : w.heap.size + 1 < (wr.iterAt (w.heap.size + 1) s (pos + 1)).heap.size := by omega
                have T2 := HT.out.below hbw3
                have HB3 := Lib.hid hbw3
                have HX : (s.extract pos s.size).data.toList = 92 :: t := (ext_list s pos).trans hd
                have hes := fun w0 (h0 : TabsW w0) => escape_any (s.extract pos s.size) t HX w0 h0 (by rw [Lib.size_eq, HX, ← hd, List.length_drop, HL.out]; omega)
                rw [HX] at hes
                have hone : oneG (92 :: t) = escG (92 :: t) := by simp only [oneG, if_true]
                have HT2 := Lib.hid T2
                clear hdl hI hbel hbw2 hbw3 T2 hne34 HX
                generalize wr.iterAt (w.heap.size + 1) s (pos + 1) = wq at hnx0 hI2 hit2 HB3 hsz2 HT2
                cases hesc : escG (92 :: t) with
                | none =>
                  have HE := Lib.hid (show unqG s.data.toList = none by rw [← hun.out]; exact unq_bad hd hfu.out ha (hone.trans hesc))
                  rw [hesc] at hes
                  change ∀ w0, TabsW w0 → Calls Tryz.prog 123 #[.string (s.extract pos s.size)] w0 fun e w' => e = .returned (.tuple #[.int .i32 0, .int .i64 0]) ∧ Below w0.heap.size w0 w' at hes
                  clear hd hesc hone hun hfu hasc ha hsp
                  go_wp2_with (first
                    | (go_at_call 85; refine (hbk _).mono ?_; (first | rintro e v rfl hv | rintro e v ⟨rfl, hv⟩); rw [hv]; clear hv)
                    | (go_at_call 123; refine (hes _ HT2.out).mono ?_))
                  first | rintro e W3 rfl b3 | rintro e W3 ⟨rfl, b3⟩
                  have L3 := Lib.hid (HB3.out.trans (below_low (by omega) b3))
                  clear b3
                  go_wp2_with fail
                  go_ret3
                  exact ⟨by rw [HO.out, HE.out]; rfl, L3.out⟩
                | some x =>
                  obtain ⟨n, k⟩ := x
                  obtain ⟨il, ik1, ik2, ik3, ik4⟩ := escG_facts rfl hesc
                  obtain ⟨f', hu1, hu2⟩ := unq_on hd hfu.out ha (hone.trans hesc) (acc := acc)
                  have HU1 := Lib.hid (hu1.symm.trans hun.out)
                  have HU2 := Lib.hid hu2
                  have hk3 : pos + k ≤ s.size := by rw [← hd, List.length_drop, HL.out] at ik3; omega
                  have HA := Lib.hid (show ∀ j (h : j < s.size), pos + 1 ≤ j → j < pos + k → (s[j]'h).toNat < 128 by
                    intro j h h1 h2
                    have hm : (s.data.toList.drop pos)[j - pos]? = some (s[j]'h) := by
                      rw [List.getElem?_drop, ← Lib.data_getElem? s j h]; congr 1; omega
                    rw [hd] at hm
                    have : ((92 :: t).take k)[j - pos]? = some (s[j]'h) := by rw [List.getElem?_take, if_pos (by omega)]; exact hm
                    exact ik4 _ (List.mem_of_getElem? this))
                  rw [hesc] at hes
                  obtain ⟨z, hz⟩ : ∃ z : Int, z = (n : Int) := ⟨_, rfl⟩
                  change ∀ w0, TabsW w0 → Calls Tryz.prog 123 #[.string (s.extract pos s.size)] w0 fun e w' => e = .returned (.tuple #[.int .i32 (n : Int), .int .i64 (k : Int)]) ∧ Below w0.heap.size w0 w' at hes
                  rw [← hz] at hes
                  have HZ0 : -2147483648 ≤ z := by omega
                  have HZ1 : z ≤ 2147483647 := by unfold isLet at il; omega
                  have HEN := Lib.hid (show Lib.encodeRune z = enc n by rw [hz]; rfl)
                  have hk0 : ((k : Int) == 0) = false := by simp; omega
                  have HEL := Lib.hid (enc_len n)
                  have hkw : IntKind.i64.wrap ((pos : Int) + (k : Int)) = (pos : Int) + (k : Int) := IntWalk.i64_in _ (by omega)
                  clear hd hesc hone hun hfu hasc ha hsp hz il ik4 hu1 hu2 ik3
                  go_wp2_with (first
                    | (go_at_call 85; refine (hbk _).mono ?_; (first | rintro e v rfl hv | rintro e v ⟨rfl, hv⟩); rw [hv]; clear hv)
                    | (go_at_call 123; refine (hes _ HT2.out).mono ?_))
                  first | rintro e W1 rfl b1 | rintro e W1 ⟨rfl, b1⟩
                  have B1 := hI2.below b1
                  have hit1 : W1.heap[w.heap.size + 1]? = some (.stringIter s (pos + 1)) := (b1.block _ (by omega)).trans hit2
                  have S1 : w.heap.size ≤ W1.heap.size := by have := b1.size; omega
                  have L1 := Lib.hid (HB3.out.trans (below_low (by omega) b1))
                  clear b1 hI2 hes hbk hnx0
                  go_wp2_with (go_at_call 119; refine (wRune w.heap.size acc z HZ0 HZ1 _ B1 (by have := hal.out; omega) S1).mono ?_)
                  first | rintro e W3 ⟨_, rfl⟩ B3 a3 | rintro e W3 _ rfl B3 a3 | rintro e W3 ⟨⟨_, rfl⟩, B3, a3⟩
                  have hit3 := a3.2.iter hit1 (by omega)
                  have L3 := Lib.hid (L1.out.trans a3.1)
                  clear a3 B1
                  go_wp2_with fail
                  go_roundw
                  case rel => exact ⟨pos + 1, pos + k, pos + k, f', acc ++ enc n, by go_num, by omega, hk3, by omega, fun _ => rfl, HA.out, HU1.out, HU2.out, by rw [← HEN.out]; exact B3, hit3, L3.out, by show (acc ++ enc n).length ≤ _; have := HEL.out; have := hal.out; rw [List.length_append]; omega⟩
                  case measure =>
                    simp only [World.iterPos, hit3, hit]
                    omega
              · have hbig : ∀ z : Int, (z = (a.toNat : Int) ∨ 128 ≤ z) → (128 ≤ z ∨ z < 128) := fun z _ => by omega
                have hone : oneG (a :: t) = (match letterG (a :: t) with | none => none | some (n, k) => if n < 32 then none else some (n, k)) := by
                  simp only [oneG]; rw [if_neg hb]
                  cases letterG (a :: t) <;> rfl
                cases hL : letterG (a :: t) with
                | none =>
                  have hbk := fun w0 => broken_at s pos hp true (by rw [hd, hL]; rfl) w0
                  have hd2 := letter_none (by simp) hL
                  rw [hd2] at hdl
                  rw [← hdl] at hnx0 hbk
                  change ∀ ty, (Instr.next (.pointer (some ⟨w.heap.size + 1, 0, none⟩)) true ty).run Tryz.prog wr = .ok (.tuple #[.bool true, .int .i64 pos, .int .i32 65533]) (wr.iterAt (w.heap.size + 1) s (pos + 1)) at hnx0
                  change ∀ w0, Calls Tryz.prog 85 #[.int .i32 65533, .string (s.extract pos s.size)] w0 fun e w' => e = .returned (.bool true) ∧ w' = w0 at hbk
                  have HB3 := Lib.hid (Lib.below_iterAt hbel.out (k := w.heap.size + 1) (by omega) s (pos + 1))
                  have HE := Lib.hid (show unqG s.data.toList = none by rw [← hun.out]; exact unq_bad hd hfu.out ha (by rw [hone, hL]))
                  clear hdl hd hd2 hL hone hun hfu hasc hI hbel ha hb hsp hne34 hbig
                  generalize wr.iterAt (w.heap.size + 1) s (pos + 1) = wq at hnx0 HB3
                  go_wp2_with (go_at_call 85; refine (hbk _).mono ?_; (first | rintro e v rfl hv | rintro e v ⟨rfl, hv⟩); rw [hv]; clear hv)
                  go_ret3
                  exact ⟨by rw [HO.out, HE.out]; rfl, HB3.out⟩
                | some x =>
                  obtain ⟨n, k⟩ := x
                  obtain ⟨il, ik1, ik2, ik3, _, _, ik7⟩ := letter_facts hL
                  have hbk := fun w0 => broken_at s pos hp false (by rw [hd, hL]; rfl) w0
                  rw [ik7] at hdl
                  rw [← hdl] at hnx0 hbk
                  obtain ⟨z, hz⟩ : ∃ z : Int, z = (n : Int) := ⟨_, rfl⟩
                  change ∀ ty, (Instr.next (.pointer (some ⟨w.heap.size + 1, 0, none⟩)) true ty).run Tryz.prog wr = .ok (.tuple #[.bool true, .int .i64 pos, .int .i32 (n : Int)]) (wr.iterAt (w.heap.size + 1) s (pos + k)) at hnx0
                  change ∀ w0, Calls Tryz.prog 85 #[.int .i32 (n : Int), .string (s.extract pos s.size)] w0 fun e w' => e = .returned (.bool false) ∧ w' = w0 at hbk
                  rw [← hz] at hnx0 hbk
                  have hn34 : n ≠ 34 := by
                    intro h
                    have := (letter_low hL (by omega)).1
                    exact ha (UInt8.toNat_inj.1 (by rw [this, h]; rfl))
                  have hn92 : n ≠ 92 := by
                    intro h
                    have := (letter_low hL (by omega)).1
                    exact hb (UInt8.toNat_inj.1 (by rw [this, h]; rfl))
                  have hz34 : (z == 34) = false := by simp; omega
                  have hz92 : (z == 92) = false := by simp; omega
                  by_cases h32 : n < 32
                  · have HB3 := Lib.hid (Lib.below_iterAt hbel.out (k := w.heap.size + 1) (by omega) s (pos + k))
                    have HE := Lib.hid (show unqG s.data.toList = none by rw [← hun.out]; exact unq_bad hd hfu.out ha (by rw [hone, hL]; simp only; rw [if_pos h32]))
                    have hz32 : z < 32 := by omega
                    clear hdl hd hL hone hun hfu hasc hI hbel ha hb hsp hne34 hbig ik7 il hbk hz h32 hn34 hn92
                    generalize wr.iterAt (w.heap.size + 1) s (pos + k) = wq at hnx0 HB3
                    go_wp2_with fail
                    go_ret3
                    exact ⟨by rw [HO.out, HE.out]; rfl, HB3.out⟩
                  · have hz32 : ¬ z < 32 := by omega
                    obtain ⟨f', hu1, hu2⟩ := unq_on hd hfu.out ha (n := n) (k := k) (by rw [hone, hL]; simp only; rw [if_neg h32]) (acc := acc)
                    have HU1 := Lib.hid (hu1.symm.trans hun.out)
                    have HU2 := Lib.hid hu2
                    have hk3 : pos + k ≤ s.size := by rw [← hd, List.length_drop, HL.out] at ik3; omega
                    have hit1 := Lib.iterAt_heap wr (w.heap.size + 1) s pos (pos + k) hit
                    have B1 := hI.iterAt hit (pos + k)
                    have hbw2 := Lib.iterAt_size wr (w.heap.size + 1) s (pos + k)
                    have L1 := Lib.hid (Lib.below_iterAt hbel.out (k := w.heap.size + 1) (by omega) s (pos + k))
                    have S1 : w.heap.size ≤ (wr.iterAt (w.heap.size + 1) s (pos + k)).heap.size := by omega
                    have HZ0 : -2147483648 ≤ z := by omega
                    have HZ1 : z ≤ 2147483647 := by unfold isLet at il; omega
                    have HEN := Lib.hid (show Lib.encodeRune z = enc n by rw [hz]; rfl)
                    have HEL := Lib.hid (enc_len n)
                    clear hdl hd hL hone hun hfu hasc hI hbel hbw2 ha hb hsp hne34 hbig ik7 il hz h32 hn34 hn92 hu1 hu2 ik3
                    generalize wr.iterAt (w.heap.size + 1) s (pos + k) = wq at hnx0 hit1 B1 L1 S1
                    go_wp2_with (first
                      | (go_at_call 85; refine (hbk _).mono ?_; (first | rintro e v rfl hv | rintro e v ⟨rfl, hv⟩); rw [hv]; clear hv)
                      | (go_at_call 119; refine (wRune w.heap.size acc z HZ0 HZ1 _ B1 (by have := hal.out; omega) S1).mono ?_))
                    first | rintro e W3 ⟨_, rfl⟩ B3 a3 | rintro e W3 _ rfl B3 a3 | rintro e W3 ⟨⟨_, rfl⟩, B3, a3⟩
                    have hit3 := a3.2.iter hit1 (by omega)
                    have L3 := Lib.hid (L1.out.trans a3.1)
                    clear a3 B1
                    go_wp2_with fail
                    go_roundw
                    case rel => exact ⟨pos + k, pos + k, next, f', acc ++ enc n, rfl, Nat.le_refl _, hk3, by omega, fun h => by omega, fun j h h1 h2 => by omega, HU1.out, HU2.out, by rw [← HEN.out]; exact B3, hit3, L3.out, by show (acc ++ enc n).length ≤ _; have := HEL.out; have := hal.out; rw [List.length_append]; omega⟩
                    case measure =>
                      simp only [World.iterPos, hit3, hit]
                      omega
      · have hqz : q = s.size := by omega
        have HE := Lib.hid (show unqG s.data.toList = none by rw [← hun.out]; exact unq_end (List.drop_of_length_le (by rw [HL.out]; omega)))
        have hnx : ∀ ty, (Instr.next (.pointer (some ⟨w.heap.size + 1, 0, none⟩)) true ty).run Tryz.prog wr = _ := fun ty => Lib.run_next_end_at wr (w.heap.size + 1) s pos ty hit hp
        clear hun hfu hasc hI
        go_wp2_with fail
        go_ret3
        exact ⟨by rw [HO.out, HE.out]; rfl, hbel.out⟩
end Go.Proofs.YtnjikipncgbjjaaGreatDoor
