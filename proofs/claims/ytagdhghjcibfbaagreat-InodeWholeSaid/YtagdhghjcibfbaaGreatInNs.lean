/- Layer 8: Nodes. -/
import Derived.Test.YtagdhghjcibfbaaGreatInEp
import Derived.Deep.AppendLies
import Derived.Deep.RegionHeld3
namespace Go.Proofs.YtagdhghjcibfbaaGreat
open Go.RowKit Go.Sort Go.Shelf
set_option linter.unusedVariables false
set_option linter.unusedSectionVars false
set_option maxRecDepth 100000

/-- A row of entries, in a block of S. -/
def EnS (w : World) (S : Nat → Prop) (v : Value) (l : List (List UInt8 × Int)) : Prop := ∃ b c, v = .slice (some ⟨b, 0, none⟩) l.length c ∧ S b ∧ b < w.heap.size ∧ ∀ j (h : j < l.length), w.cell? ⟨b, j * 2, none⟩ = some (.string (bs l[j].1)) ∧ w.cell? ⟨b, j * 2 + 1, none⟩ = some (.int .i64 l[j].2)
theorem EnS.move {w w' : World} {S S' : Nat → Prop} (hz : w.heap.size ≤ w'.heap.size) (hk : ∀ b, b < w.heap.size → S b → w'.heap[b]? = w.heap[b]? ∧ S' b) {v : Value} {l : List (List UInt8 × Int)} (h : EnS w S v l) : EnS w' S' v l := by
  obtain ⟨b, c, h1, h2, h3, h4⟩ := h
  obtain ⟨e, hs⟩ := hk b h3 h2
  exact ⟨b, c, h1, hs, Nat.lt_of_lt_of_le h3 hz, fun j hj => ⟨(World.cell?_of_block (w := w) e).trans (h4 j hj).1, (World.cell?_of_block (w := w) e).trans (h4 j hj).2⟩⟩
def NdsIn (w : World) (S : Nat → Prop) : List (Int × Nd) → List Value → Prop
  | [], cs => cs = []
  | p :: r, cs => ∃ ev cs', cs = [.int .i64 p.1, .bool p.2.dir, .int .i64 p.2.links, .int .i64 p.2.holds, .string (bs p.2.data), ev] ++ cs' ∧ EnS w S ev p.2.names ∧ NdsIn w S r cs'
theorem NdsIn.move {w w' : World} {S S' : Nat → Prop} (hz : w.heap.size ≤ w'.heap.size) (hk : ∀ b, b < w.heap.size → S b → w'.heap[b]? = w.heap[b]? ∧ S' b) : ∀ (l : List (Int × Nd)) {cs : List Value}, NdsIn w S l cs → NdsIn w' S' l cs
  | [], _, h => h
  | p :: r, cs, h => by
    obtain ⟨ev, cs', e, hv, hr⟩ := h
    exact ⟨ev, cs', e, hv.move hz hk, NdsIn.move hz hk r hr⟩
theorem NdsIn.snoc {w : World} {S : Nat → Prop} {p : Int × Nd} {ev : Value} (hv : EnS w S ev p.2.names) : ∀ (l : List (Int × Nd)) {cs : List Value}, NdsIn w S l cs → NdsIn w S (l ++ [p]) (cs ++ [.int .i64 p.1, .bool p.2.dir, .int .i64 p.2.links, .int .i64 p.2.holds, .string (bs p.2.data), ev])
  | [], cs, h => by
    have : cs = [] := h
    subst this
    exact ⟨ev, [], by simp, hv, rfl⟩
  | q :: r, cs, h => by
    obtain ⟨ev', cs', e, hv', hr⟩ := h
    subst e
    exact ⟨ev', _, by rw [List.append_assoc], hv', NdsIn.snoc hv r hr⟩
/-- What Nodes hands back. -/
def NsAt (w : World) (v : Value) (l : List (Int × Nd)) (lo : Nat) : Prop := ∃ g c cs, v = .slice (some ⟨g, 0, none⟩) l.length c ∧ w.ownsRow lo 63 6 (.slice (some ⟨g, 0, none⟩) l.length c) l.length cs ∧ NdsIn w (fun b => lo ≤ b ∧ b ≠ g) l cs

section
variable {w : World} {t : Nat} {T : Tb} {A : Int → Nat × Nat} {mb : Nat} (h : TbAt w t T A mb) (ris : Ris ltI T.nodes) (nris : ∀ id n, aget id T.nodes = some n → Ris bytesBefore n.names) (nn : ∀ id n, aget id T.nodes = some n → n.dir = false → n.names = []) (nl : ∀ id n, aget id T.nodes = some n → n.names.length ≤ 1099511627776) (idI : ∀ id n, aget id T.nodes = some n → InI id) (hne : T.nodes ≠ []) (hlen : T.nodes.length ≤ 1048576)
include h nris nn nl in
theorem entries_at {id : Int} {n : Nd} (hn : aget id T.nodes = some n) : Calls Tryz.prog 45 #[.pointer (some ⟨(A id).1, 0, none⟩)] w fun e w' => ∃ v, e = .returned v ∧ EnAt w' v n.names w.heap.size ∧ Below w.heap.size w w' := by
  have c4 := (h.nd id n hn).c4
  cases hd : n.dir with
  | true =>
    rw [hd] at c4
    exact entries_dir n.names (nris id n hn) (nl id n hn) _ _ w c4 (h.nm id n hn hd)
  | false =>
    rw [hd] at c4
    rw [nn id n hn hd]
    exact entries_file _ w c4
set_option maxHeartbeats 8000000 in
include h ris nris nn nl idI hne hlen in
theorem nodes_any : Calls Tryz.prog 15 #[.pointer (some ⟨t, 0, none⟩)] w fun e w' => ∃ v, e = .returned v ∧ NsAt w' v T.nodes w.heap.size ∧ Below w.heap.size w w' := by
  have c3 := h.tb.c3
  obtain ⟨n, hnn⟩ : ∃ n, n = T.nodes.length := ⟨_, rfl⟩
  have hplen : (nodePairs A T.nodes).length = n := by unfold nodePairs; rw [List.length_map, hnn]
  have hids : (nodePairs A T.nodes).map (·.1) = T.nodes.map (·.1) := by unfold nodePairs; rw [List.map_map]; rfl
  have hln := fun ty => h.mp.len ty
  rw [hplen] at hln
  have hmk := make_nodes n (by omega) n rfl w
  obtain ⟨W1, hW1⟩ : ∃ W1, w.alloc (.cells (madeCells nodeZ (n * 6)) 63) = W1 := ⟨_, rfl⟩
  have hb1 : Below w.heap.size w W1 := by rw [← hW1]; exact (Below.refl _ w).alloc (Nat.le_refl _) _
  have z1 : W1.heap.size = w.heap.size + 1 := by rw [← hW1]; simp
  have own1 : W1.ownsRow w.heap.size 63 6 (.slice (some ⟨w.heap.size, 0, none⟩) 0 n) 0 [] := by rw [← hW1]; exact World.ownsRow_made w _ _ (Nat.le_refl _) (by unfold maxLen; omega) (size_madeCells _ _)
  rw [hW1] at hmk
  have h1 := h.below hb1
  have c3' := h1.tb.c3
  have risP : Ris ltI (nodePairs A T.nodes) := List.pairwise_map.2 ris
  have CK := Lib.hid (keysI_any (some mb) W1)
  have CS := Lib.hid (sortedI_any mb (nodePairs A T.nodes) W1 h1.mp risP (by omega))
  rw [hplen, hids] at CS
  have H := Lib.hid h
  have HB1 := Lib.hid hb1
  have HZ1 := Lib.hid z1
  have HOWN1 := Lib.hid own1
  have HN : Hid (n = T.nodes.length) := Lib.hid hnn
  have HNE : Hid (0 < n) := Lib.hid (by rw [hnn]; exact List.length_pos_iff.2 hne)
  have EN : Hid (∀ (wr : World), Below w.heap.size w wr → ∀ id nd, aget id T.nodes = some nd → Calls Tryz.prog 45 #[.pointer (some ⟨(A id).1, 0, none⟩)] wr fun e w' => ∃ v, e = .returned v ∧ EnAt w' v nd.names wr.heap.size ∧ Below wr.heap.size wr w') := Lib.hid (fun wr hb id nd hn => entries_at (h.below hb) nris nn nl hn)
  have LK : Hid (∀ (wr : World), Below w.heap.size w wr → ∀ id nd, aget id T.nodes = some nd → (Instr.lookup 57 (.map (some mb)) (.int .i64 id) false).run Tryz.prog wr = .ok (.pointer (some ⟨(A id).1, 0, none⟩)) wr) := Lib.hid (fun wr hb id nd hn => by rw [(h.below hb).look (idI id nd hn), nodeP_some hn])
  have GET : Hid (∀ k (hk : k < T.nodes.length), aget T.nodes[k].1 T.nodes = some T.nodes[k].2) := Lib.hid (fun k hk => mem_aget (ris_ne ord_I ris) (List.getElem_mem hk))
  have hn20 : n ≤ 1048576 := by omega
  clear hplen hids own1 h1 risP hb1 z1 hW1 hne hnn ris nris nn nl idI hlen h
  go_enter Tryz.func15, Tryz.ntmps15
  go_wp2_with (first
    | (go_at_call 44; (with_reducible refine CK.out.mono ?_); rintro e w2 ⟨rfl, rfl⟩)
    | (go_at_call 43; (with_reducible refine CS.out.mono ?_); rintro e w3 ⟨v, rfl, hrow, hb3⟩; rcases hrow.2 with ⟨_, h0⟩ | ⟨gi, capi, curi, rfl, hgi, hgib, r1, r2, r3, r4⟩; exact absurd h0 (by have := HNE.out; omega); have HGB := Lib.hid hgib; have HGI := Lib.hid hgi; have HR4 := Lib.hid r4; have HB3 := Lib.hid (HB1.out.trans (hb3.mono HB1.out.size)); have HB13 := Lib.hid hb3; clear hrow hb3 hgi hgib r1 r2 r3 r4))
  have HCELL : Hid (∀ wr : World, wr.heap[gi]? = w3.heap[gi]? → ∀ j (hj : j < T.nodes.length), wr.cell? ⟨gi, j, none⟩ = some (.int .i64 T.nodes[j].1)) := Lib.hid (fun wr hw j hj => by
    have hb := hw.trans HGB.out
    have h4 := HR4.out
    have h5 : curi.toList[j]? = some (.int .i64 T.nodes[j].1) := by
      have h6 := congrArg (fun l : List Value => l[j]?) h4
      simp only [Nat.mul_one] at h6
      rw [List.getElem?_take_of_lt (by rw [HN.out]; exact hj)] at h6
      rw [h6]
      simp [hj, encZ]
    simp only [World.cell?, hb, Option.isSome_none, Bool.false_eq_true, if_false]
    rw [← Array.getElem?_toList, h5])
  clear hmk hln c3 c3'
  go_loopw [3, 22] (fun s3 s22 wr => ∃ (k g cap : Nat) (cs : List Value), s22 = .int .i64 k ∧ s3 = .slice (some ⟨g, 0, none⟩) k cap ∧ k ≤ n ∧ Hid (wr.ownsRow w.heap.size 63 6 (.slice (some ⟨g, 0, none⟩) k cap) k cs) ∧ Hid (NdsIn wr (fun b => w.heap.size ≤ b ∧ b ≠ g) (T.nodes.take k) cs) ∧ Hid (RowKit.Below w.heap.size w wr) ∧ Hid (gi ≠ g ∧ gi < wr.heap.size ∧ wr.heap[gi]? = w3.heap[gi]?)) (fun _ s22 _ => n - (intOf s22).toNat)
  case atStart => exact ⟨0, w.heap.size, n, [], rfl, rfl, Nat.zero_le _, Lib.hid (own_gb (HOWN1.out) (row := none) ⟨HB13.out.os, HB13.out.tape, HB13.out.output, HB13.out.size, fun i hi _ => HB13.out.block i hi⟩ (.inl rfl)), rfl, HB3, Lib.hid ⟨by have := HGI.out; have := HZ1.out; omega, (Array.getElem?_eq_some_iff.1 HGB.out).1, rfl⟩⟩
  case round =>
    obtain ⟨k, g, cap, cs, rfl, rfl, hk, HOW, HND, HBE, HGX⟩ := hrel
    by_cases hlt : k < n
    · have hk' : k < T.nodes.length := by rw [← HN.out]; exact hlt
      have hci := HCELL.out wr HGX.out.2.2 k hk'
      have hget := GET.out k hk'
      have htk : T.nodes.take (k + 1) = T.nodes.take k ++ [T.nodes[k]] := List.take_succ_eq_append_getElem hk'
      have HTK := Lib.hid htk
      clear htk
      generalize T.nodes[k] = x at *
      have hT := H.out.below HBE.out
      have hlk := LK.out wr HBE.out x.1 x.2 hget
      have c3r := hT.tb.c3
      have hnb := hT.nd x.1 x.2 hget
      have n0 := hnb.c0; have n1 := hnb.c1; have n2 := hnb.c2; have n3 := hnb.c3
      have HNB := Lib.hid hnb
      have HGET := Lib.hid hget
      clear hnb hT hget
      have hgl : g < wr.heap.size := (World.ownsRow.lt HOW.out g rfl).2
      have hgw : w.heap.size ≤ g := (World.ownsRow.lt HOW.out g rfl).1
      have hal : (A x.1).1 < w.heap.size := (H.out.nd x.1 x.2 HGET.out).lt
      have KEEP : Hid (∀ w' : World, Ch (fun b => b = g) wr.drew w' → w'.cell? ⟨(A x.1).1, 0, none⟩ = some (.bool x.2.dir) ∧ w'.cell? ⟨(A x.1).1, 1, none⟩ = some (.int .i64 x.2.links) ∧ w'.cell? ⟨(A x.1).1, 2, none⟩ = some (.int .i64 x.2.holds) ∧ w'.cell? ⟨(A x.1).1, 3, none⟩ = some (.string (bs x.2.data))) := Lib.hid (fun w' hc => by
        have hn : NB w' (A x.1).1 _ _ _ _ _ := NB.ch (w := wr.drew) HNB.out hc (by omega)
        exact ⟨hn.c0, hn.c1, hn.c2, hn.c3⟩)
      have CE := Lib.hid (EN.out wr.drew HBE.out.drew x.1 x.2 HGET.out)
      have HGL := Lib.hid hgl
      have HGW := Lib.hid hgw
      obtain ⟨i0, hi, hz0, hz1, hz2⟩ := info_parts info_node
      have hm1 : k + 1 ≤ maxLen := by unfold maxLen; omega
      have hb16 : (k + 1) * 72 ≤ 140737488355328 := by omega
      clear hal hgl hgw
      go_wp2_with fail
      go_region_held3 (fun w' => w'.cell? ⟨(A x.1).1, 0, none⟩ = some (.bool x.2.dir) ∧ w'.cell? ⟨(A x.1).1, 1, none⟩ = some (.int .i64 x.2.links) ∧ w'.cell? ⟨(A x.1).1, 2, none⟩ = some (.int .i64 x.2.holds) ∧ w'.cell? ⟨(A x.1).1, 3, none⟩ = some (.string (bs x.2.data)))
        (first | exact ⟨n0, n1, n2, n3⟩ | exact KEEP.out _ (Ch.of_below hbc) | exact KEEP.out _ ((Ch.of_below hbc).trans (Ch.alloc (M := fun b => b = g) _ _) (fun _ _ e => e)) | exact KEEP.out _ (((Ch.of_below hbc).trans (Ch.alloc (M := fun b => b = g) _ _) (fun _ _ e => e)).trans (Ch.of_gb hgrow) (fun _ _ e => Option.some.inj e)) | go_keep)
        (first
          | (go_at_call 45; (with_reducible refine CE.out.mono ?_); rintro e wc ⟨ev, rfl, hev, hbc⟩; obtain ⟨eb, ec, rfl, he1, he2, he3⟩ := hev.at_; have HEV := Lib.hid (And.intro he1 (And.intro he2 he3)); clear hev he1 he2 he3; have HOWC := Lib.hid (own_gb (w := wr.drew) HOW.out (row := none) ⟨hbc.os, hbc.tape, hbc.output, hbc.size, fun i hi _ => hbc.block i hi⟩ (.inl rfl)))
          | (refine step_append_lies _ (by rfl) _ _ _ (by rfl) w.heap.size 63 i0 _ 6 72 Tryz.underlying40 hi hz0 hz1 hz2 rfl (by omega) (.slice (some ⟨g, 0, none⟩) k cap) k cs (by rfl) (HOWC.out.alloc _) ⟨wc.heap.size, 0, none⟩ 1 1 [.int .i64 x.1, .bool x.2.dir, .int .i64 x.2.links, .int .i64 x.2.holds, .string (bs x.2.data), .slice (some ⟨eb, 0, none⟩) x.2.names.length ec] (by rfl) (by rfl) (World.news_of_block (cs := #[.int .i64 x.1, .bool x.2.dir, .int .i64 x.2.links, .int .i64 x.2.holds, .string (bs x.2.data), .slice (some ⟨eb, 0, none⟩) x.2.names.length ec]) (t := 63) (fr := (0, 0)) (heap_alloc_new wc _)) (by simp [Value.oneCell']) (by omega) hm1 hb16 (by have := hbc.size; have := HBE.out.size; simp at *; omega) (wc.heap.size + 1) (by simp) ?_; intro gg cap2 w1 hown1 hgrow hat hltt))
      have hsz : wr.heap.size ≤ wc.heap.size := hbc.size
      have hblk : ∀ b, b < wc.heap.size → b ≠ g → w1.heap[b]? = wc.heap[b]? := fun b hb hn => (hgrow.block b (by simp; omega) (fun e => hn (Option.some.inj e))).trans (Below.heap_alloc wc _ b hb)
      have hs1 : wc.heap.size + 1 ≤ w1.heap.size := by have := hgrow.size; simpa using this
      have hgg : gg = g ∨ gg = wc.heap.size + 1 := hat.imp (fun e => (Option.some.inj e).symm) id
      have hwz := HBE.out.size
      have hg1 := HGL.out
      have hnd1 : NdsIn w1 (fun b => w.heap.size ≤ b ∧ b ≠ gg) (T.nodes.take (k + 1)) (cs ++ [.int .i64 x.1, .bool x.2.dir, .int .i64 x.2.links, .int .i64 x.2.holds, .string (bs x.2.data), .slice (some ⟨eb, 0, none⟩) x.2.names.length ec]) := by
        rw [HTK.out]
        refine NdsIn.snoc ?_ _ (NdsIn.move (w := wr) (by omega) (fun b hb hs => ⟨?_, hs.1, ?_⟩) _ HND.out)
        · obtain ⟨h1, h2, h3⟩ := HEV.out
          have h1' : wr.heap.size ≤ eb := h1
          have e := hblk eb h2 (by omega)
          exact ⟨eb, ec, rfl, ⟨by omega, by rcases hgg with h | h <;> omega⟩, by omega, fun j hj => ⟨(World.cell?_of_block (w := wc) e).trans (h3 j hj).1, (World.cell?_of_block (w := wc) e).trans (h3 j hj).2⟩⟩
        · exact (hblk b (by omega) hs.2).trans (hbc.block b hb)
        · rcases hgg with h | h
          · rw [h]; exact hs.2
          · omega
      have hbw : RowKit.Below w.heap.size w wc := HBE.out.drew.trans (hbc.mono HBE.out.size)
      have hbw1 : RowKit.Below w.heap.size w w1 := (hbw.alloc hbw.size _).grown hgrow (hbw.alloc hbw.size _).size (fun j hj => by cases hj; exact HGW.out)
      obtain ⟨gx1, gx2, gx3⟩ := HGX.out
      have hgx : gi ≠ gg ∧ gi < w1.heap.size ∧ w1.heap[gi]? = w3.heap[gi]? := ⟨by rcases hgg with h | h <;> omega, by omega, ((hblk gi (by omega) gx1).trans (hbc.block gi gx2)).trans gx3⟩
      have R1 := Lib.hid hown1
      have R2 := Lib.hid hnd1
      have R3 := Lib.hid hbw1
      have R4 := Lib.hid hgx
      clear hown1 hnd1 hbw hbw1 hgx gx1 gx2 gx3 hgg hs1 hblk hsz hwz hg1 hgrow hat hltt hbc n0 n1 n2 n3 c3r hlk hci hi hz0 hz1 hz2 hm1 hb16
      go_wp2_with fail
      go_roundw
      case rel => exact ⟨k + 1, gg, cap2, _, by go_num, rfl, by omega, R1, R2, R3, R4⟩
      case measure => simp [intOf]; omega
    · obtain rfl : k = n := by omega
      have HND2 := HND.out
      rw [List.take_of_length_le (by rw [← HN.out]; exact Nat.le_refl _)] at HND2
      have HR : Hid (NsAt wr (.slice (some ⟨g, 0, none⟩) k cap) T.nodes w.heap.size) := Lib.hid ⟨g, cap, cs, by rw [← HN.out], by rw [← HN.out]; exact HOW.out, HND2⟩
      clear HND2
      go_wp2_with fail
      go_ret
      exact ⟨_, rfl, HR.out, HBE.out⟩
end
end Go.Proofs.YtagdhghjcibfbaaGreat
