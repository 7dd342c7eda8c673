/- Layer 8: the law's sound. -/
import Derived.Test.YtagdhghjcibfbaaGreatInNc
import Derived.Deep.CutRange
import Derived.Deep.QuietTactic
namespace Go.Proofs.YtagdhghjcibfbaaGreat
open Go.RowKit Go.Sort Go.Shelf
set_option linter.unusedVariables false
set_option linter.unusedSectionVars false
set_option maxRecDepth 100000

set_option maxHeartbeats 8000000 in
theorem sound_any (v : Value) (T : Tb) (w : World) (hv : NsC w v T.nodes) (wf : Wf T) {N : Nat} (bd : Bd T N) (hN : N < 1000000000) :
    Calls Tryz.prog 16 #[v, .int .i64 T.used] w fun e w' => e = .returned (.bool true) ∧ Below w.heap.size w w' := by
  obtain ⟨g, c, rfl, hg, hcl⟩ := hv
  obtain ⟨n, hn⟩ : ∃ n, n = T.nodes.length := ⟨_, rfl⟩
  have hn4 : n ≤ 4096 := by rw [hn]; exact bd.len
  have get : ∀ k (hk : k < T.nodes.length), aget T.nodes[k].1 T.nodes = some T.nodes[k].2 := fun k hk => mem_aget (ris_ne ord_I wf.ris) (List.getElem_mem hk)
  have hroot : 0 < T.nodes.length := by
    obtain ⟨r, hr, _⟩ := wf.root
    exact List.length_pos_iff.2 (fun e => by rw [e] at hr; cases hr)
  have hlt2 : ∀ a b (hb : b < T.nodes.length) (hab : a < b), (T.nodes[a]'(by omega)).1 < T.nodes[b].1 := fun a b hb hab => by
    have := List.pairwise_iff_getElem.1 wf.ris a b (by omega) hb hab
    unfold ltI at this
    simpa using this
  have h0id : (T.nodes[0]'hroot).1 = 1 := by
    obtain ⟨r, hr, _⟩ := wf.root
    obtain ⟨j, hj, he⟩ := List.getElem_of_mem (aget_mem hr)
    have h1 := (wf.ids _ _ (get 0 hroot)).1
    by_cases hj0 : j = 0
    · subst hj0; rw [he]
    · have := hlt2 0 j hj (by omega)
      rw [he] at this
      have h2 : (T.nodes[0]'hroot).1 < 1 := this
      omega
  have h0dir : (T.nodes[0]'hroot).2.dir = true := by
    obtain ⟨r, hr, hd⟩ := wf.root
    have := get 0 hroot
    rw [h0id, hr] at this
    cases this; exact hd
  have HIM : Hid (∀ k (hk : k < T.nodes.length), 0 < k → T.nodes[k].1 ≠ 1 ∧ (T.nodes[k - 1]'(by omega)).1 < T.nodes[k].1) := Lib.hid (fun k hk h0 => ⟨by have := hlt2 0 k hk h0; rw [h0id] at this; omega, hlt2 (k - 1) k hk (by omega)⟩)
  have HRF : Hid (∀ id nd, aget id T.nodes = some nd → refsL id T.nodes ≤ N + 1 ∧ nd.links = refsL id T.nodes + (if id = 1 then 1 else 0)) := Lib.hid (fun id nd h => by
    have h1 := wf.cnt id nd h
    have h2 := (bd.nod id nd h).2
    unfold no at h1
    constructor
    · split at h1 <;> omega
    · rw [h1]; omega)
  have HCS : Hid (T.used = costL T.nodes ∧ costL T.nodes ≤ 1099511627776) := Lib.hid ⟨wf.use, by have := bd.quo; have := wf.use; omega⟩
  have HNL : Hid (∀ id nd, aget id T.nodes = some nd → nd.names.length ≤ N) := Lib.hid (fun id nd h => (bd.nod id nd h).1)
  have HLV : Hid (∀ id nd, aget id T.nodes = some nd → (nd.links ≠ 0 ∨ nd.holds ≠ 0) ∧ (nd.dir = true → nd.data = []) ∧ (nd.dir = false → nd.names = [])) := Lib.hid (fun id nd h => ⟨wf.live id nd h (by have := (wf.ids id nd h).1; omega), fun hd => (wf.dirs id nd h hd).1, wf.fil id nd h⟩)
  have HG := Lib.hid get
  have HCL : Hid (∀ j (h : j < T.nodes.length), ∃ eb ec, ∀ wr : World, Below w.heap.size w wr → NcAt wr g j T.nodes[j] eb ec) := Lib.hid (fun j hj => by obtain ⟨eb, ec, h⟩ := hcl j hj; exact ⟨eb, ec, fun wr hb => h.below hg hb⟩)
  have HN : Hid (n = T.nodes.length) := Lib.hid hn
  have HR := Lib.hid (And.intro hroot (And.intro h0id h0dir))
  have HR0 : Hid (∀ wr : World, Below w.heap.size w wr → wr.cell? ⟨g, 0, none⟩ = some (.int .i64 1) ∧ wr.cell? ⟨g, 1, none⟩ = some (.bool true)) := Lib.hid (fun wr hb => by
    obtain ⟨e0, ec0, hc0⟩ := hcl 0 hroot
    have hc1 := hc0.below hg hb
    have r0 := hc1.c0; have r1 := hc1.c1
    rw [h0id] at r0
    rw [h0dir] at r1
    simp only [Nat.zero_mul, Nat.zero_add] at r0 r1
    exact ⟨r0, r1⟩)
  have hn1 : (0 : Int) < (n : Int) := by rw [hn]; omega
  obtain ⟨us, hus⟩ : ∃ us, us = T.used := ⟨_, rfl⟩
  rw [← hn, ← hus]
  have HUS := Lib.hid hus
  clear hcl get hlt2 h0id h0dir wf bd hn hus hg
  go_enter Tryz.func16, Tryz.ntmps16
  go_wp2_with fail
  go_loopw [5, 6] (fun s5 s6 wr => ∃ (i : Nat), s6 = .int .i64 i ∧ i ≤ n ∧ s5 = .int .i64 (costL (T.nodes.take i) : Nat) ∧ Hid (RowKit.Below w.heap.size w wr)) (fun _ s6 _ => n - (intOf s6).toNat)
  case atStart => exact ⟨0, rfl, Nat.zero_le _, rfl, Lib.hid (RowKit.Below.refl _ _)⟩
  case round =>
    obtain ⟨i, rfl, hi, rfl, HBE⟩ := hrel
    by_cases hilt : i < n
    · have hi' : i < T.nodes.length := by rw [← HN.out]; exact hilt
      have hii : (i : Int) < (n : Int) := by omega
      obtain ⟨ei, eci, hci⟩ := HCL.out i hi'
      have gi := HG.out i hi'
      obtain ⟨hrl, hlk⟩ := HRF.out _ _ gi
      obtain ⟨hlv, hdd, hfn⟩ := HLV.out _ _ gi
      have HI := Lib.hid hci
      have HRL := Lib.hid hrl
      have HLK := Lib.hid hlk
      have HL1 := Lib.hid hlv
      have HL2 := Lib.hid hdd
      have HL3 := Lib.hid hfn
      have HCO := Lib.hid (cost_succ T.nodes i hi')
      have HCOL := Lib.hid (cost_le T.nodes (i + 1))
      have HID1 : Hid (0 < i → T.nodes[i].1 ≠ 1 ∧ (T.nodes[i - 1]'(by omega)).1 < T.nodes[i].1) := Lib.hid (fun h => HIM.out i hi' h)
      have HID0 : Hid (i = 0 → T.nodes[i].1 = 1) := Lib.hid (fun h => by subst h; exact HR.out.2.1)
      generalize hx : T.nodes[i] = x at *
      clear hci gi hrl hlk hlv hdd hfn hx
      go_wp2_with fail
      go_loopw [7, 8] (fun s7 s8 wr2 => ∃ (k : Nat), s8 = .int .i64 k ∧ k ≤ n ∧ s7 = .int .i64 (refsL x.1 (T.nodes.take k) : Nat) ∧ Hid (RowKit.Below w.heap.size w wr2)) (fun _ s8 _ => n - (intOf s8).toNat)
      case atStart => exact ⟨0, rfl, Nat.zero_le _, rfl, HBE⟩
      case round =>
        obtain ⟨k, rfl, hk, rfl, HBE2⟩ := hrel
        by_cases hklt : k < n
        · have hk' : k < T.nodes.length := by rw [← HN.out]; exact hklt
          have hkk : (k : Int) < (n : Int) := by omega
          obtain ⟨ek, eck, hck⟩ := HCL.out k hk'
          have gk := HG.out k hk'
          have hnl := HNL.out _ _ gk
          have HCK := Lib.hid hck
          have HSU := Lib.hid (refs_succ x.1 T.nodes k hk')
          have HRK := Lib.hid (refs_le x.1 T.nodes (k + 1))
          generalize hy : T.nodes[k] = y at *
          obtain ⟨m, hm⟩ : ∃ m, m = y.2.names.length := ⟨_, rfl⟩
          rw [← hm] at hnl
          have HM := Lib.hid hm
          clear hck gk hm hy
          go_wp2_with fail
          go_loopw [7, 9] (fun s7 s9 wr3 => ∃ (j : Nat), s9 = .int .i64 j ∧ j ≤ m ∧ s7 = .int .i64 (refsL x.1 (T.nodes.take k) + cntN x.1 (y.2.names.take j) : Nat) ∧ Hid (RowKit.Below w.heap.size w wr3)) (fun _ s9 _ => m - (intOf s9).toNat)
          case atStart => exact ⟨0, rfl, Nat.zero_le _, rfl, HBE2⟩
          case round =>
            obtain ⟨j, rfl, hj, rfl, HBE3⟩ := hrel
            have hck := HCK.out _ HBE3.out
            have k5 := hck.c5
            rw [← HM.out] at k5
            by_cases hjlt : j < m
            · have hj' : j < y.2.names.length := by rw [← HM.out]; exact hjlt
              have hjj : (j : Int) < (m : Int) := by omega
              have en1 := (hck.en j hj').2
              have hid0 := (HI.out _ HBE3.out).c0
              have HCN := Lib.hid (cnt_succ x.1 y.2.names j hj')
              have HCL2 := Lib.hid (cnt_le x.1 y.2.names (j + 1))
              generalize y.2.names[j] = z at *
              have hb : refsL x.1 (T.nodes.take k) + cntN x.1 (y.2.names.take j) + (if z.2 = x.1 then 1 else 0) ≤ N + 1 := by
                have h1 := HCN.out
                have h2 := HCL2.out; have h3 := HSU.out; have h4 := HRK.out; have h5 := HRL.out
                omega
              clear hck
              by_cases hzx : z.2 = x.1
              · have hz1 : (z.2 == x.1) = true := by simpa using hzx
                rw [if_pos hzx] at hb
                have HE : Hid (refsL x.1 (T.nodes.take k) + cntN x.1 (y.2.names.take (j + 1)) = refsL x.1 (T.nodes.take k) + cntN x.1 (y.2.names.take j) + 1) := Lib.hid (by have h1 := HCN.out; rw [if_pos hzx] at h1; omega)
                clear hzx HCN
                generalize hq : refsL x.1 (T.nodes.take k) + cntN x.1 (y.2.names.take j) = q at hb HE ⊢
                clear hq
                go_wp2_with fail
                go_quiet (fail)
                go_wp2_with fail
                go_roundw
                case rel => exact ⟨j + 1, by go_num, by omega, by rw [HE.out]; go_num, Lib.hid ⟨HBE3.out.os, HBE3.out.tape, HBE3.out.output, HBE3.out.size, HBE3.out.block⟩⟩
                case measure => simp [intOf]; omega
              · have hz1 : (z.2 == x.1) = false := by simpa using hzx
                have HE : Hid (refsL x.1 (T.nodes.take k) + cntN x.1 (y.2.names.take (j + 1)) = refsL x.1 (T.nodes.take k) + cntN x.1 (y.2.names.take j)) := Lib.hid (by have h1 := HCN.out; rw [if_neg hzx] at h1; omega)
                clear hzx HCN hb
                generalize hq : refsL x.1 (T.nodes.take k) + cntN x.1 (y.2.names.take j) = q at HE ⊢
                clear hq
                go_wp2_with fail
                go_quiet (fail)
                go_wp2_with fail
                go_roundw
                case rel => exact ⟨j + 1, by go_num, by omega, by rw [HE.out], Lib.hid ⟨HBE3.out.os, HBE3.out.tape, HBE3.out.output, HBE3.out.size, HBE3.out.block⟩⟩
                case measure => simp [intOf]; omega
            · obtain rfl : j = m := by omega
              have HE : Hid (refsL x.1 (T.nodes.take (k + 1)) = refsL x.1 (T.nodes.take k) + cntN x.1 (y.2.names.take j)) := Lib.hid (by rw [HSU.out, show y.2.names.take j = y.2.names from List.take_of_length_le (by rw [← HM.out]; exact Nat.le_refl _)])
              clear hck
              generalize hq : refsL x.1 (T.nodes.take k) + cntN x.1 (y.2.names.take j) = q at HE ⊢
              clear hq
              go_wp2_with fail
              go_roundw
              case rel => exact ⟨k + 1, by go_num, by omega, by rw [HE.out], HBE3⟩
              case measure => simp [intOf]; omega
        · obtain rfl : k = n := by omega
          have HE : Hid (refsL x.1 (T.nodes.take k) = refsL x.1 T.nodes) := Lib.hid (by rw [show T.nodes.take k = T.nodes from List.take_of_length_le (by rw [← HN.out]; exact Nat.le_refl _)])
          rw [HE.out]
          have hlk := HLK.out
          have hrl := HRL.out
          have hds := bs_size x.2.data
          have hco := HCO.out
          have hcol := HCOL.out
          have hcs := HCS.out.2
          generalize hrr : refsL x.1 T.nodes = rr at hlk hrl ⊢
          have hct : ((costL (T.nodes.take i) : Nat) : Int) + 64 + ((bs x.2.data).size : Int) = ((costL (T.nodes.take (i + 1)) : Nat) : Int) := by rw [hds]; omega
          have hctb : ((costL (T.nodes.take i) : Nat) : Int) + 64 + ((bs x.2.data).size : Int) ≤ 1099511627776 := by rw [hds]; omega
          have hdz : (0 : Int) ≤ ((bs x.2.data).size : Int) := by omega
          generalize hc2 : costL (T.nodes.take (i + 1)) = ct2 at *
          have HC2 := Lib.hid hc2
          clear hc2
          generalize costL (T.nodes.take i) = ct at *
          have hkn : (rr : Int) < 2147483648 := by omega
          have HLKS : Hid (x.2.links = if i = 0 then (rr : Int) + 1 else rr) := Lib.hid (by
            by_cases hi0 : i = 0
            · rw [hlk, HID0.out hi0, if_pos rfl, if_pos hi0]
            · rw [hlk, if_neg (HID1.out (by omega)).1, if_neg hi0, Int.add_zero])
          clear hcol hco hcs hlk hrr
          go_upto_if 50 with fail
          generalize hB : ((i : Int) == 0) = B at *
          have HB := Lib.hid hB
          clear hB
          go_cut [7] from 10 to 131 (fun v wx => v = .int .i64 x.2.links ∧ RowKit.Below w.heap.size w wx)
          case first =>
            have HF1 : Hid (B = true → x.2.links = (rr : Int) + 1) := Lib.hid (fun h => HLKS.out.trans (if_pos (by have := HB.out; rw [h] at this; simpa using this)))
            have HF2 : Hid (B = false → x.2.links = (rr : Int)) := Lib.hid (fun h => HLKS.out.trans (if_neg (by have := HB.out; rw [h] at this; simpa using this)))
            cases B
            · go_wp2_with fail
              go_meet
              exact ⟨by rw [HF2.out (by first | trivial | rfl)], HBE2.out⟩
            · go_wp2_with fail
              go_meet
              exact ⟨by rw [HF1.out (by first | trivial | rfl)], HBE2.out⟩
          case rest =>
            obtain ⟨rfl, hbc⟩ := hcut
            have HBC := Lib.hid hbc
            have hci := HI.out _ hbc
            have q0 := hci.c0; have q1 := hci.c1; have q2 := hci.c2; have q3 := hci.c3; have q4 := hci.c4; have q5 := hci.c5
            clear hbc hci
            have HLV1 := HL1.out
            clear hkn hrl HB
            generalize x.2.links = L at *
            have hLL : (L != L) = false := by simp
            by_cases hi0 : i = 0
            · subst hi0
              simp only [Nat.zero_mul, Nat.zero_add] at q0 q1 q2 q3 q4 q5
              have hL : L ≠ 0 := by have h9 := HLKS.out; rw [if_pos rfl] at h9; omega
              have hl1 : (L == 0) = false := by simpa using hL
              clear hL HLV1 HLKS
              cases hd : x.2.dir with
              | true =>
                rw [hd] at q1
                have hz : ((bs x.2.data).size : Int) = 0 := by rw [hds, HL2.out hd]; rfl
                clear hds hd HL1 HL2 HL3
                generalize bs x.2.data = sd at *
                go_wp2_with fail
                try simp only [List.append_eq, List.cons_append, List.nil_append]
                go_quiet (fail)
                go_wp2_with fail
                go_roundw
                case rel => exact ⟨0 + 1, by go_num, by omega, by first | (rw [HC2.out]; done) | (rw [HC2.out]; congr 1; omega), Lib.hid ⟨HBC.out.os, HBC.out.tape, HBC.out.output, HBC.out.size, HBC.out.block⟩⟩
                case measure => simp [intOf]; omega
              | false =>
                rw [hd] at q1
                have hz : x.2.names.length = 0 := by rw [HL3.out hd]; rfl
                rw [hz] at q5
                clear hds hd hz HL1 HL2 HL3
                generalize bs x.2.data = sd at *
                go_wp2_with fail
                try simp only [List.append_eq, List.cons_append, List.nil_append]
                go_quiet (fail)
                go_wp2_with fail
                go_roundw
                case rel => exact ⟨0 + 1, by go_num, by omega, by first | (rw [HC2.out]; done) | (rw [HC2.out]; congr 1; omega), Lib.hid ⟨HBC.out.os, HBC.out.tape, HBC.out.output, HBC.out.size, HBC.out.block⟩⟩
                case measure => simp [intOf]; omega
            · have hip : (0 : Int) < (i : Int) := by omega
              have hipb : decide (0 < i) = true := decide_eq_true (by omega)
              clear HLKS
              obtain ⟨h1, h2⟩ := HID1.out (by omega)
              obtain ⟨p, hp⟩ : ∃ p, p = i - 1 := ⟨_, rfl⟩
              have hpi : p < T.nodes.length := by omega
              have hpn : (p : Int) < (k : Int) := by omega
              have hw1 : IntKind.i64.wrap ((i : Int) - 1) = (p : Int) := by rw [IntWalk.i64_in _ (by omega)]; omega
              obtain ⟨ep, ecp, hcp⟩ := HCL.out p hpi
              have p0 := (hcp _ HBC.out).c0
              have hle : decide (x.1 ≤ (T.nodes[p]'hpi).1) = false := decide_eq_false (by subst hp; omega)
              generalize T.nodes[p] = pv at *
              clear hcp h1 h2 hpi hp hi0
              by_cases hL : L = 0
              · have hl1 : (L == 0) = true := by simp [hL]
                have hh : (x.2.holds == 0) = false := by rcases HLV1 with h3 | h3; (exact absurd hL h3); simpa using h3
                clear hL HLV1
                cases hd : x.2.dir with
                | true =>
                  rw [hd] at q1
                  have hz : ((bs x.2.data).size : Int) = 0 := by rw [hds, HL2.out hd]; rfl
                  clear hds hd HL1 HL2 HL3
                  generalize bs x.2.data = sd at *
                  go_wp2_with fail
                  try simp only [List.append_eq, List.cons_append, List.nil_append]
                  go_quiet (fail)
                  go_wp2_with fail
                  go_roundw
                  case rel => exact ⟨i + 1, by go_num, by omega, by first | (rw [HC2.out]; done) | (rw [HC2.out]; congr 1; omega), Lib.hid ⟨HBC.out.os, HBC.out.tape, HBC.out.output, HBC.out.size, HBC.out.block⟩⟩
                  case measure => simp [intOf]; omega
                | false =>
                  rw [hd] at q1
                  have hz : x.2.names.length = 0 := by rw [HL3.out hd]; rfl
                  rw [hz] at q5
                  clear hds hd hz HL1 HL2 HL3
                  generalize bs x.2.data = sd at *
                  go_wp2_with fail
                  try simp only [List.append_eq, List.cons_append, List.nil_append]
                  go_quiet (fail)
                  go_wp2_with fail
                  go_roundw
                  case rel => exact ⟨i + 1, by go_num, by omega, by first | (rw [HC2.out]; done) | (rw [HC2.out]; congr 1; omega), Lib.hid ⟨HBC.out.os, HBC.out.tape, HBC.out.output, HBC.out.size, HBC.out.block⟩⟩
                  case measure => simp [intOf]; omega
              · have hl1 : (L == 0) = false := by simpa using hL
                clear hL HLV1
                cases hd : x.2.dir with
                | true =>
                  rw [hd] at q1
                  have hz : ((bs x.2.data).size : Int) = 0 := by rw [hds, HL2.out hd]; rfl
                  clear hds hd HL1 HL2 HL3
                  generalize bs x.2.data = sd at *
                  go_wp2_with fail
                  try simp only [List.append_eq, List.cons_append, List.nil_append]
                  go_quiet (fail)
                  go_wp2_with fail
                  go_roundw
                  case rel => exact ⟨i + 1, by go_num, by omega, by first | (rw [HC2.out]; done) | (rw [HC2.out]; congr 1; omega), Lib.hid ⟨HBC.out.os, HBC.out.tape, HBC.out.output, HBC.out.size, HBC.out.block⟩⟩
                  case measure => simp [intOf]; omega
                | false =>
                  rw [hd] at q1
                  have hz : x.2.names.length = 0 := by rw [HL3.out hd]; rfl
                  rw [hz] at q5
                  clear hds hd hz HL1 HL2 HL3
                  generalize bs x.2.data = sd at *
                  go_wp2_with fail
                  try simp only [List.append_eq, List.cons_append, List.nil_append]
                  go_quiet (fail)
                  go_wp2_with fail
                  go_roundw
                  case rel => exact ⟨i + 1, by go_num, by omega, by first | (rw [HC2.out]; done) | (rw [HC2.out]; congr 1; omega), Lib.hid ⟨HBC.out.os, HBC.out.tape, HBC.out.output, HBC.out.size, HBC.out.block⟩⟩
                  case measure => simp [intOf]; omega
    · obtain rfl : i = n := by omega
      obtain ⟨r0, r1⟩ := HR0.out _ HBE.out
      have hsum : ((costL (T.nodes.take i) : Nat) : Int) = us := by
        rw [HUS.out, HCS.out.1, show T.nodes.take i = T.nodes from List.take_of_length_le (by rw [← HN.out]; exact Nat.le_refl _)]
      rw [hsum]
      go_wp2_with fail
      go_ret
      exact ⟨rfl, HBE.out⟩
end Go.Proofs.YtagdhghjcibfbaaGreat
