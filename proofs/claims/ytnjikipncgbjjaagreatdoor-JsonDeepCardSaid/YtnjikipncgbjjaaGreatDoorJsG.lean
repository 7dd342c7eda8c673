/- The parser's stack: an unfinished value more; a value put in one; one that ends. -/
import Derived.Test.YtnjikipncgbjjaaGreatDoorJsF
namespace Go.Proofs.YtnjikipncgbjjaaGreatDoor
open Go.RowKit
set_option linter.unusedVariables false
set_option maxRecDepth 100000
variable {X : Nat → Prop}

theorem nodup_repl {L1 X L2 : List Nat} {g : Nat} (h : (L1 ++ (X ++ L2)).Nodup) (hg : X = [g] ∨ ∀ b ∈ L1 ++ (X ++ L2), b < g) : (L1 ++ (g :: L2)).Nodup := by
  rcases hg with rfl | hg
  · exact h
  · rw [List.nodup_append] at h ⊢
    obtain ⟨h1, h2, h3⟩ := h
    rw [List.nodup_append] at h2
    refine ⟨h1, List.nodup_cons.2 ⟨fun e => ?_, h2.2.1⟩, fun a ha b hb => ?_⟩
    · exact absurd (hg g (by simp [e])) (Nat.lt_irrefl _)
    · rcases List.mem_cons.1 hb with rfl | hb
      · exact Nat.ne_of_lt (hg a (by simp [ha]))
      · exact h3 a ha b (by simp [hb])
theorem ownB_some {g n cap : Nat} : ownB (.slice (some ⟨g, 0, none⟩) n cap) = [g] := rfl
theorem ownB_eq {v : Value} {g : Nat} (h : v.ownBlock = some g) : ownB v = [g] := by unfold ownB; rw [h]; rfl
theorem ownB_nil : ownB nilS = [] := rfl

section
variable {w0 w wa w1 w2 : World} {P : Nat} {l : List UInt8} {F : Fr} {K : List Fr} {sv rv : Value} {R : List Value}
/-- The blocks: all differ. -/
theorem PS.apart (h : PS X w0 w P l K sv R) : (∀ b, sv.ownBlock = some b → b ≠ P) ∧ (∀ x ∈ R, ∀ b, x.ownBlock = some b → b ≠ P) ∧ (∀ x ∈ R, ∀ b, x.ownBlock = some b → sv.ownBlock ≠ some b) := by
  have hd := h.nodup
  unfold blks at hd
  rw [List.nodup_cons, List.nodup_append] at hd
  refine ⟨fun b hb e => ?_, fun x hx b hb e => ?_, fun x hx b hb e => ?_⟩
  · subst e; exact hd.1 (List.mem_append_left _ (mem_ownB.2 hb))
  · subst e; exact hd.1 (List.mem_append_right _ (List.mem_flatMap.2 ⟨x, hx, mem_ownB.2 hb⟩))
  · exact hd.2.2.2 b (mem_ownB.2 e) b (List.mem_flatMap.2 ⟨x, hx, mem_ownB.2 hb⟩) rfl
theorem PS.apart1 (h : PS X w0 w P l (F :: K) sv (rv :: R)) : ∀ x ∈ R, ∀ b, x.ownBlock = some b → rv.ownBlock ≠ some b := by
  have hd := h.nodup
  unfold blks at hd
  rw [List.nodup_cons, List.nodup_append, List.flatMap_cons, List.nodup_append] at hd
  exact fun x hx b hb e => hd.2.2.1.2.2 b (mem_ownB.2 e) b (List.mem_flatMap.2 ⟨x, hx, mem_ownB.2 hb⟩) rfl

/-- One more unfinished value. -/
theorem PS.pushed {o : Bool} {g n cap : Nat} (h : PS X w0 w P l K sv R) (ha : Below w.heap.size w wa) (hn : n = K.length + 1)
    (hown : w1.ownsRow w0.heap.size 109 6 (.slice (some ⟨g, 0, none⟩) n cap) n (stCells K R ++ frCells (Fr.new o) nilS)) (hg : wa.grownBy w1 sv.ownBlock) (hgg : sv.ownBlock = some g ∨ g = wa.heap.size) :
    PS X w0 (w1.setCell ⟨P, 1, none⟩ (.slice (some ⟨g, 0, none⟩) n cap)) P l (Fr.new o :: K) (.slice (some ⟨g, 0, none⟩) n cap) (nilS :: R) ∧
      Ch (· ∈ blks P sv R) w (w1.setCell ⟨P, 1, none⟩ (.slice (some ⟨g, 0, none⟩) n cap)) ∧ ∀ b ∈ blks P (.slice (some ⟨g, 0, none⟩) n cap) (nilS :: R), b ∈ blks P sv R ∨ w.heap.size ≤ b := by
  subst hn
  obtain ⟨a1, a2, a3⟩ := h.apart
  have hlt := h.lt
  have c1 : Ch (fun k => some k = sv.ownBlock) w w1 := (Ch.of_below (M := fun k => some k = sv.ownBlock) ha).trans (Ch.of_gb hg) (fun x _ e => e)
  have c3 : Ch (fun k => some k = sv.ownBlock ∨ k = P) w (w1.setCell ⟨P, 1, none⟩ (.slice (some ⟨g, 0, none⟩) (K.length + 1) cap)) :=
    (c1.mono (fun x _ e => Or.inl e)).trans (Ch.of_gb (gb_set w1 ⟨P, 1, none⟩ _)) (fun x _ e => by cases e; exact Or.inr rfl)
  have hsub : ∀ b ∈ blks P (.slice (some ⟨g, 0, none⟩) (K.length + 1) cap) (nilS :: R), b ∈ blks P sv R ∨ w.heap.size ≤ b := by
    intro b hb
    unfold blks at hb ⊢
    rw [ownB_some, List.flatMap_cons, ownB_nil, List.nil_append, List.mem_cons, List.mem_append, List.mem_singleton] at hb
    rcases hb with rfl | rfl | hb
    · exact .inl (by simp)
    · rcases hgg with e | e
      · exact .inl (List.mem_cons_of_mem _ (List.mem_append_left _ (mem_ownB.2 e)))
      · exact .inr (by rw [e]; exact ha.size)
    · exact .inl (List.mem_cons_of_mem _ (List.mem_append_right _ hb))
  have hPg : P ≠ g := by
    rcases hgg with e | e
    · exact fun e' => a1 g e e'.symm
    · have := h.blk.lt; have := ha.size; omega
  have hout : ∀ b ∈ blks P (.slice (some ⟨g, 0, none⟩) (K.length + 1) cap) (nilS :: R), ¬ X b := fun b hb hx => by
    rcases hsub b hb with e | e
    · exact h.out b e hx
    · have := h.xlt b hx; omega
  refine ⟨⟨?_, h.low, ?_, ?_, ?_, ?_, ?_, hout, fun b hb => Nat.lt_of_lt_of_le (h.xlt b hb) c3.size⟩, c3.mono (fun x _ e => ?_), hsub⟩
  · exact ((h.blk.below ha).gb hg (fun e => a1 P e.symm rfl)).set1 _
  · have := ownsRow_ch hown (Ch.of_gb (gb_set w1 ⟨P, 1, none⟩ (.slice (some ⟨g, 0, none⟩) (K.length + 1) cap))) (fun b hb e => by cases e; cases hb; exact hPg rfl)
    exact this
  · simp only [Rows]
    refine ⟨⟨[], World.ownsRow_nil _ _ _ _, rfl⟩, h.rows.move c3 (fun b hb hs => ?_) (fun x hx b hb e => ?_)⟩
    · refine ⟨fun e => ?_, fun e => ?_, hs.2⟩
      · rcases e with e | e
        · exact hs.1 (List.mem_cons_of_mem _ (List.mem_append_left _ (mem_ownB.2 e.symm)))
        · exact hs.1 (by rw [e]; simp [blks])
      · rcases hsub b e with e | e
        · exact hs.1 e
        · omega
    · rcases e with e | e
      · exact a3 x hx b hb e.symm
      · exact a2 x hx b hb e
  · have hd := h.nodup
    have := nodup_repl (L1 := [P]) (X := ownB sv) (L2 := R.flatMap ownB) (g := g) hd (by
      rcases hgg with e | e
      · exact .inl (ownB_eq e)
      · exact .inr (fun b hb => by have := (hlt b hb).1; have := ha.size; omega))
    exact this
  · exact c3.below h.below h.below.size (fun x hx e => by
      rcases e with e | e
      · exact absurd (h.own.lt x e.symm).1 (by omega)
      · have := h.low; omega)
  · intro G hG
    rcases List.mem_cons.1 hG with rfl | hG
    · exact fun _ => rfl
    · exact h.frok G hG
  · rcases e with e | e
    · exact List.mem_cons_of_mem _ (List.mem_append_left _ (mem_ownB.2 e.symm))
    · rw [e]; simp [blks]

/-- The cells of an element. -/
def elCells (F : Fr) (c0 c1 c2 c3 : Value) : List Value := if F.obj then [.string F.name, c0, c1, c2, c3] else [c0, c1, c2, c3]
def rowAt (F : Fr) : Nat := if F.obj then 3 else 2
theorem fr_added (F : Fr) (v : JV) (rv x : Value) : (frCells F rv).set (rowAt F) x = frCells (F.add v) x := by
  obtain ⟨o, els, nm⟩ := F
  cases o <;> rfl

/-- A value put in the innermost unfinished one. -/
theorem PS.added {v : JV} {x0 x1 x2 x3 : Value} {gs ns caps g n cap : Nat} {cs : List Value} (h : PS X w0 w P l (F :: K) (.slice (some ⟨gs, 0, none⟩) ns caps) (rv :: R)) (ha : Below w.heap.size w wa)
    (he : ElsIn w (free (blks P (.slice (some ⟨gs, 0, none⟩) ns caps) (rv :: R)) X) F.obj F.els cs) (hv : LV w (free (blks P (.slice (some ⟨gs, 0, none⟩) ns caps) (rv :: R)) X) v x0 x1 x2 x3) (hn : n = F.els.length + 1)
    (hown : w2.ownsRow w0.heap.size (elT F.obj) (elN F.obj) (.slice (some ⟨g, 0, none⟩) n cap) n (cs ++ elCells F x0 x1 x2 x3)) (hg : wa.grownBy w1 rv.ownBlock) (hgg : rv.ownBlock = some g ∨ g = wa.heap.size) (hg2 : w1.grownBy w2 (some g)) :
    PS X w0 (w2.setCell ⟨gs, K.length * 6 + rowAt F, none⟩ (.slice (some ⟨g, 0, none⟩) n cap)) P l (F.add v :: K) (.slice (some ⟨gs, 0, none⟩) ns caps) (.slice (some ⟨g, 0, none⟩) n cap :: R) ∧
      Ch (· ∈ blks P (.slice (some ⟨gs, 0, none⟩) ns caps) (rv :: R)) w (w2.setCell ⟨gs, K.length * 6 + rowAt F, none⟩ (.slice (some ⟨g, 0, none⟩) n cap)) ∧
      ∀ b ∈ blks P (.slice (some ⟨gs, 0, none⟩) ns caps) (.slice (some ⟨g, 0, none⟩) n cap :: R), b ∈ blks P (.slice (some ⟨gs, 0, none⟩) ns caps) (rv :: R) ∨ w.heap.size ≤ b := by
  subst hn
  obtain ⟨a1, a2, a3⟩ := h.apart
  have a4 := h.apart1
  have hlt := h.lt
  have hns : ns = K.length + 1 := by
    obtain ⟨g', cap', rv', R', _, e, _⟩ := h.top
    simp at e; exact e.2.1
  subst hns
  have hgsl : gs < w.heap.size := (h.lt gs mem_sv).1
  have hgsg : gs ≠ g := by
    rcases hgg with e | e
    · exact fun e' => a3 rv (by simp) g e (by rw [e']; rfl)
    · have := ha.size; omega
  have c1 : Ch (fun k => some k = rv.ownBlock) w w1 := (Ch.of_below (M := fun k => some k = rv.ownBlock) ha).trans (Ch.of_gb hg) (fun x _ e => e)
  have c2 : Ch (fun k => some k = rv.ownBlock) w w2 := c1.trans (Ch.of_gb hg2) (fun x hx e => by
    cases e
    rcases hgg with e | e
    · exact e.symm
    · have := ha.size; omega)
  have c3 : Ch (fun k => some k = rv.ownBlock ∨ k = gs) w (w2.setCell ⟨gs, K.length * 6 + rowAt F, none⟩ (.slice (some ⟨g, 0, none⟩) (F.els.length + 1) cap)) :=
    (c2.mono (fun x _ e => Or.inl e)).trans (Ch.of_gb (gb_set w2 ⟨gs, K.length * 6 + rowAt F, none⟩ _)) (fun x _ e => by cases e; exact Or.inr rfl)
  have hsub : ∀ b ∈ blks P (.slice (some ⟨gs, 0, none⟩) (K.length + 1) caps) (.slice (some ⟨g, 0, none⟩) (F.els.length + 1) cap :: R), b ∈ blks P (.slice (some ⟨gs, 0, none⟩) (K.length + 1) caps) (rv :: R) ∨ w.heap.size ≤ b := by
    intro b hb
    unfold blks at hb ⊢
    rw [List.flatMap_cons, ownB_some (g := g)] at hb
    rw [List.flatMap_cons]
    simp only [List.mem_cons, List.mem_append] at hb ⊢
    rcases hb with rfl | hb | ⟨rfl | hb⟩ | hb
    · exact .inl (.inl rfl)
    · exact .inl (.inr (.inl hb))
    · rcases hgg with e | e
      · exact .inl (.inr (.inr (.inl (mem_ownB.2 e))))
      · exact .inr (by rw [e]; exact ha.size)
    · cases hb
    · exact .inl (.inr (.inr (.inr hb)))
  have hS : ∀ b, b < w.heap.size → free (blks P (.slice (some ⟨gs, 0, none⟩) (K.length + 1) caps) (rv :: R)) X b → ¬ (some b = rv.ownBlock ∨ b = gs) ∧ free (blks P (.slice (some ⟨gs, 0, none⟩) (K.length + 1) caps) (.slice (some ⟨g, 0, none⟩) (F.els.length + 1) cap :: R)) X b := by
    intro b hb hs
    refine ⟨fun e => ?_, fun e => ?_, hs.2⟩
    · rcases e with e | e
      · exact hs.1 (List.mem_cons_of_mem _ (List.mem_append_right _ (by rw [List.flatMap_cons]; exact List.mem_append_left _ (mem_ownB.2 e.symm))))
      · exact hs.1 (by rw [e]; exact mem_sv)
    · rcases hsub b e with e | e
      · exact hs.1 e
      · omega
  have hout : ∀ b ∈ blks P (.slice (some ⟨gs, 0, none⟩) (K.length + 1) caps) (.slice (some ⟨g, 0, none⟩) (F.els.length + 1) cap :: R), ¬ X b := fun b hb hx => by
    rcases hsub b hb with e | e
    · exact h.out b e hx
    · have := h.xlt b hx; omega
  have hPP : ∀ x, some x = rv.ownBlock ∨ x = gs → x ≠ P := fun x e => by
    rcases e with e | e
    · exact a2 rv (by simp) x e.symm
    · rw [e]; exact a1 gs rfl
  have hr := h.rows
  simp only [Rows] at hr
  refine ⟨⟨?_, h.low, ?_, ?_, ?_, ?_, ?_, hout, fun b hb => Nat.lt_of_lt_of_le (h.xlt b hb) c3.size⟩, c3.mono (fun x _ e => ?_), hsub⟩
  · exact c3.heap h.blk (fun e => hPP P e rfl)
  · have ho : w2.ownsRow w0.heap.size 109 6 (.slice (some ⟨gs, 0, none⟩) (K.length + 1) caps) (K.length + 1) (stCells (F :: K) (rv :: R)) :=
      ownsRow_ch h.own c2 (fun b hb e => a3 rv (by simp) b e.symm hb)
    have o1 := (ho.stored (K.length * 6 + rowAt F) (.slice (some ⟨g, 0, none⟩) (F.els.length + 1) cap)).1
    have hlen := stCells_len K R (by simpa using h.rows.len)
    have e : (stCells (F :: K) (rv :: R)).set (K.length * 6 + rowAt F) (.slice (some ⟨g, 0, none⟩) (F.els.length + 1) cap) = stCells (F.add v :: K) (.slice (some ⟨g, 0, none⟩) (F.els.length + 1) cap :: R) := by
      simp only [stCells]
      rw [List.set_append_right _ _ (by omega), hlen, show K.length * 6 + rowAt F - K.length * 6 = rowAt F by omega, fr_added F v]
    rw [e] at o1
    exact o1
  · simp only [Rows]
    refine ⟨⟨cs ++ elCells F x0 x1 x2 x3, ?_, ?_⟩, hr.2.move c3 hS (fun x hx b hb e => ?_)⟩
    · have := ownsRow_ch hown (Ch.of_gb (gb_set w2 ⟨gs, K.length * 6 + rowAt F, none⟩ (.slice (some ⟨g, 0, none⟩) (F.els.length + 1) cap))) (fun b hb e => by cases e; cases hb; exact hgsg rfl)
      have e : (F.add v).els.length = F.els.length + 1 := by unfold Fr.add; simp
      rw [e]; exact this
    · have h1 := ElsIn.snoc (n := F.name) hv F.els he
      exact ElsIn.move (fun b hb hs => ⟨c3.block b hb (hS b hb hs).1, (hS b hb hs).2⟩) _ h1
    · rcases e with e | e
      · exact a4 x hx b hb e.symm
      · subst e; exact a3 x (by simp [hx]) b hb rfl
  · have hd := h.nodup
    unfold blks at hd ⊢
    rw [List.flatMap_cons] at hd ⊢
    rw [ownB_some (g := g)]
    have := nodup_repl (L1 := P :: ownB (.slice (some ⟨gs, 0, none⟩) (K.length + 1) caps)) (X := ownB rv) (L2 := R.flatMap ownB) (g := g) (by simpa using hd) (by
      rcases hgg with e | e
      · exact .inl (ownB_eq e)
      · exact .inr (fun b hb => by
          have := (hlt b (by unfold blks; rw [List.flatMap_cons]; simpa using hb)).1; have := ha.size; omega))
    simpa using this
  · exact c3.below h.below h.below.size (fun x hx e => by
      have : x ∈ blks P (.slice (some ⟨gs, 0, none⟩) (K.length + 1) caps) (rv :: R) := by
        rcases e with e | e
        · exact List.mem_cons_of_mem _ (List.mem_append_right _ (by rw [List.flatMap_cons]; exact List.mem_append_left _ (mem_ownB.2 e.symm)))
        · rw [e]; exact mem_sv
      have := (hlt x this).2; omega)
  · intro G hG
    rcases List.mem_cons.1 hG with rfl | hG
    · exact fun e => h.frok F (by simp) e
    · exact h.frok G (by simp [hG])
  · rcases e with e | e
    · exact List.mem_cons_of_mem _ (List.mem_append_right _ (by rw [List.flatMap_cons]; exact List.mem_append_left _ (mem_ownB.2 e.symm)))
    · rw [e]; exact mem_sv

theorem ownsRow_take {base : Nat} {e : TypeId} {size g n cap m : Nat} {xs : List Value} (h : w.ownsRow base e size (.slice (some ⟨g, 0, none⟩) n cap) n xs) (hm : m ≤ n) : w.ownsRow base e size (.slice (some ⟨g, 0, none⟩) m cap) m (xs.take (m * size)) := by
  obtain ⟨h1, h2⟩ := h
  rcases h2 with ⟨h2, _⟩ | ⟨g', cap', cur, h2, hb, hg, hn, hc, hs, ht⟩
  · cases h2
  · simp only [Value.slice.injEq, Option.some.injEq, Addr.mk.injEq, and_true, true_and] at h2
    obtain ⟨rfl, rfl⟩ := h2
    have hle : m * size ≤ n * size := Nat.mul_le_mul_right _ hm
    refine ⟨by rw [List.length_take, h1]; omega, .inr ⟨g, cap, cur, rfl, hb, hg, by omega, hc, hs, ?_⟩⟩
    rw [← ht, List.take_take]; congr 1; omega

/-- The innermost unfinished value ends. -/
theorem PS.closed {gs cap : Nat} (h : PS X w0 w P l (F :: K) (.slice (some ⟨gs, 0, none⟩) (K.length + 1) cap) (rv :: R)) :
    PS X w0 (w.setCell ⟨P, 1, none⟩ (.slice (some ⟨gs, 0, none⟩) K.length cap)) P l K (.slice (some ⟨gs, 0, none⟩) K.length cap) R ∧
      LV (w.setCell ⟨P, 1, none⟩ (.slice (some ⟨gs, 0, none⟩) K.length cap)) (free (blks P (.slice (some ⟨gs, 0, none⟩) K.length cap) R) X) F.close (.int .i64 (frKind F)) (.string ⟨#[]⟩) (frList F rv) (frFlds F rv) ∧
      Ch (· = P) w (w.setCell ⟨P, 1, none⟩ (.slice (some ⟨gs, 0, none⟩) K.length cap)) ∧ (∀ b ∈ blks P (.slice (some ⟨gs, 0, none⟩) K.length cap) R, b ∈ blks P (.slice (some ⟨gs, 0, none⟩) (K.length + 1) cap) (rv :: R)) := by
  obtain ⟨a1, a2, a3⟩ := h.apart
  have a4 := h.apart1
  have c : Ch (· = P) w (w.setCell ⟨P, 1, none⟩ (.slice (some ⟨gs, 0, none⟩) K.length cap)) := (Ch.of_gb (gb_set w ⟨P, 1, none⟩ _)).mono (fun x _ e => by cases e; rfl)
  have hsub : ∀ b ∈ blks P (.slice (some ⟨gs, 0, none⟩) K.length cap) R, b ∈ blks P (.slice (some ⟨gs, 0, none⟩) (K.length + 1) cap) (rv :: R) := by
    intro b hb
    unfold blks at hb ⊢
    rw [List.flatMap_cons]
    simp only [List.mem_cons, List.mem_append, ownB_some] at hb ⊢
    rcases hb with hb | hb | hb
    · exact .inl hb
    · exact .inr (.inl hb)
    · exact .inr (.inr (.inr hb))
  have hS : ∀ b, b < w.heap.size → free (blks P (.slice (some ⟨gs, 0, none⟩) (K.length + 1) cap) (rv :: R)) X b → ¬ b = P ∧ free (blks P (.slice (some ⟨gs, 0, none⟩) K.length cap) R) X b :=
    fun b _ hs => ⟨fun e => hs.1 (by rw [e]; simp [blks]), fun e => hs.1 (hsub b e), hs.2⟩
  have hr := h.rows
  simp only [Rows] at hr
  have hlen := stCells_len K R (by simpa using h.rows.len)
  refine ⟨⟨h.blk.set1 _, h.low, ?_, hr.2.move c hS (fun x hx b hb e => a2 x (by simp [hx]) b hb e), ?_, ?_, fun G hG => h.frok G (by simp [hG]), fun b hb => h.out b (hsub b hb), fun b hb => Nat.lt_of_lt_of_le (h.xlt b hb) c.size⟩, ?_, c, hsub⟩
  · have ho : w.ownsRow w0.heap.size 109 6 (.slice (some ⟨gs, 0, none⟩) (K.length + 1) cap) (K.length + 1) (stCells (F :: K) (rv :: R)) := h.own
    have o1 := ownsRow_take ho (m := K.length) (by omega)
    simp only [stCells] at o1
    rw [List.take_append_of_le_length (by omega), List.take_of_length_le (by omega)] at o1
    exact ownsRow_ch o1 c (fun b hb e => by cases hb; exact a1 gs rfl e)
  · have hd := h.nodup
    unfold blks at hd ⊢
    rw [List.flatMap_cons] at hd
    refine hd.sublist ?_
    simp only [ownB_some]
    refine List.Sublist.cons_cons _ (List.Sublist.append (List.Sublist.refl _) (List.sublist_append_right _ _))
  · exact c.below h.below h.below.size (fun x hx e => by have := h.low; omega)
  · obtain ⟨cs, ho, he⟩ := hr.1
    have he' := ElsIn.move (w' := w.setCell ⟨P, 1, none⟩ (.slice (some ⟨gs, 0, none⟩) K.length cap)) (S' := (free (blks P (.slice (some ⟨gs, 0, none⟩) K.length cap) R) X)) (fun b hb hs => ⟨c.block b hb (hS b hb hs).1, (hS b hb hs).2⟩) _ he
    have ho' := ownsRow_ch ho c (fun b hb e => a2 rv (by simp) b hb e)
    have key : ∀ b, rv.ownBlock = some b → free (blks P (.slice (some ⟨gs, 0, none⟩) K.length cap) R) X b := fun b hb => ⟨fun hm => by
      unfold blks at hm
      simp only [List.mem_cons, List.mem_append, ownB_some, List.mem_nil_iff, or_false] at hm
      rcases hm with hm | hm | hm
      · exact a2 rv (by simp) b hb hm
      · exact a3 rv (by simp) b hb (by rw [hm]; rfl)
      · obtain ⟨x, hx, hxb⟩ := List.mem_flatMap.1 hm
        exact a4 x hx b (mem_ownB.1 hxb) hb, h.out b (by unfold blks; rw [List.flatMap_cons]; exact List.mem_cons_of_mem _ (List.mem_append_right _ (List.mem_append_left _ (mem_ownB.2 hb))))⟩
    obtain ⟨o, els, nm⟩ := F
    rcases ho'.2 with ⟨rfl, hn⟩ | ⟨g, cap', cur, rfl, hB, hg, hn, hcm, hsz, htk⟩
    · have hnil : els = [] := List.length_eq_zero_iff.1 hn
      subst hnil
      cases o
      · simp only [Fr.close]; exact ⟨rfl, rfl, ⟨none, 0, rfl, .inl rfl⟩, ⟨none, 0, rfl, .inl rfl⟩⟩
      · simp only [Fr.close]; exact ⟨rfl, rfl, ⟨none, 0, rfl, .inl rfl⟩, ⟨none, 0, rfl, .inl rfl⟩⟩
    · have hcell : ∀ j u, cs[j]? = some u → (w.setCell ⟨P, 1, none⟩ (.slice (some ⟨gs, 0, none⟩) K.length cap)).cell? ⟨g, 0 + j, none⟩ = some u := fun j u hu => by
        rw [Nat.zero_add, ho'.cellAt j (by rw [← ho'.1]; exact (List.getElem?_eq_some_iff.1 hu).1)]; exact hu
      have hkg := key g rfl
      cases o
      · have hv := he'.vals els hcell
        simp only [Fr.close]
        exact ⟨rfl, rfl, ⟨some ⟨g, 0, none⟩, cap', by simp [frList], .inr ⟨g, 0, rfl, ⟨hkg, _, _, hg⟩, hv⟩⟩, ⟨none, 0, rfl, .inl rfl⟩⟩
      · have hv := he'.flds els hcell
        simp only [Fr.close]
        exact ⟨rfl, rfl, ⟨none, 0, rfl, .inl rfl⟩, ⟨some ⟨g, 0, none⟩, cap', by simp [frFlds], .inr ⟨g, 0, rfl, ⟨hkg, _, _, hg⟩, hv⟩⟩⟩
end
end Go.Proofs.YtnjikipncgbjjaaGreatDoor
