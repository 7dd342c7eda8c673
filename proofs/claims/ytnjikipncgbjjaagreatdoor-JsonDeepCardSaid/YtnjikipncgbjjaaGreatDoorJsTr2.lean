/- The nodes of a value in memory as what walk walks through. -/
import Derived.Test.YtnjikipncgbjjaaGreatDoorJsTr
namespace Go.Proofs.YtnjikipncgbjjaaGreatDoor
open Go.RowKit
set_option linter.unusedVariables false
set_option linter.unusedSectionVars false

theorem kidL_snd (w : World) (p : Nd) : (kidL w p).map (·.2) = p.2.list := by
  unfold kidL
  rw [List.map_map]
  exact List.zipIdx_map_fst 0 _
theorem kidF_snd (w : World) (p : Nd) : (kidF w p).map (·.2) = p.2.fields.map (·.2) := by
  unfold kidF
  rw [List.map_map]
  have : ((fun x : Nd => x.2) ∘ fun q : (ByteArray × JV) × Nat => (((slOf w p.1.1 (p.1.2 + 3)).1, (slOf w p.1.1 (p.1.2 + 3)).2 + q.2 * 5 + 1), q.1.2)) = (fun q : ByteArray × JV => q.2) ∘ Prod.fst := rfl
  rw [this, ← List.map_map, List.zipIdx_map_fst]
theorem kidL_len (w : World) (p : Nd) : (kidL w p).length = p.2.list.length := by rw [← kidL_snd w p, List.length_map]
theorem kidF_len (w : World) (p : Nd) : (kidF w p).length = p.2.fields.length := by rw [← List.length_map (f := fun x : Nd => x.2), kidF_snd, List.length_map]

theorem depthL_fold : ∀ (l : List JV) (g : Nat), l.foldl (fun g u => max g u.depth) g = max g (JV.depthL l)
  | [], g => by simp [JV.depthL]
  | x :: r, g => by rw [List.foldl_cons, depthL_fold r]; simp only [JV.depthL]; omega
theorem depthF_fold : ∀ (l : List (ByteArray × JV)) (g : Nat), (l.map (·.2)).foldl (fun g u => max g u.depth) g = max g (JV.depthF l)
  | [], g => by simp [JV.depthF]
  | (n, x) :: r, g => by rw [List.map_cons, List.foldl_cons, depthF_fold r]; simp only [JV.depthF]; omega
theorem sizeL_sum : ∀ l : List JV, (l.map fun u => 2 * u.size).sum = 2 * JV.sizeL l
  | [] => rfl
  | x :: r => by simp only [List.map_cons, List.sum_cons, sizeL_sum r, JV.sizeL]; omega
theorem sizeF_sum : ∀ l : List (ByteArray × JV), ((l.map (·.2)).map fun u => 2 * u.size).sum = 2 * JV.sizeF l
  | [] => rfl
  | (n, x) :: r => by simp only [List.map_cons, List.sum_cons, sizeF_sum r, JV.sizeF]; omega

section
variable (v : JV) (w : World) (S : Nat → Prop) (tb : Option Nat) (hS : ∀ b, S b → some b ≠ tb)
abbrev NdT := { p : Nd // NdOk v w S tb p }
def kidsL (a : NdT v w S tb) : List (NdT v w S tb) := (kidL w a.1).pmap Subtype.mk (kidL_ok hS a.2)
def kidsF (a : NdT v w S tb) : List (NdT v w S tb) := (kidF w a.1).pmap Subtype.mk (kidF_ok hS a.2)
theorem kidsL_snd (a : NdT v w S tb) : (kidsL v w S tb hS a).map (fun c => c.1.2) = a.1.2.list := by
  unfold kidsL
  rw [List.map_pmap, List.pmap_eq_map]
  exact kidL_snd w a.1
theorem kidsF_snd (a : NdT v w S tb) : (kidsF v w S tb hS a).map (fun c => c.1.2) = a.1.2.fields.map (·.2) := by
  unfold kidsF
  rw [List.map_pmap, List.pmap_eq_map]
  exact kidF_snd w a.1
theorem kidsL_get (a : NdT v w S tb) (j : Nat) (hj : j < (kidsL v w S tb hS a).length) (hj' : j < (kidL w a.1).length) : ((kidsL v w S tb hS a)[j]).1 = (kidL w a.1)[j] := by
  simp only [kidsL, List.getElem_pmap]
theorem kidsF_get (a : NdT v w S tb) (j : Nat) (hj : j < (kidsF v w S tb hS a).length) (hj' : j < (kidF w a.1).length) : ((kidsF v w S tb hS a)[j]).1 = (kidF w a.1)[j] := by
  simp only [kidsF, List.getElem_pmap]
def trOf : Tr (NdT v w S tb) where
  kids a := kidsL v w S tb hS a ++ kidsF v w S tb hS a
  sz a := a.1.2.size
  fall a c hc := by
    rcases List.mem_append.1 hc with h | h
    · exact JV.size_list (by rw [← kidsL_snd v w S tb hS a]; exact List.mem_map_of_mem h)
    · have : c.1.2 ∈ a.1.2.fields.map (·.2) := by rw [← kidsF_snd v w S tb hS a]; exact List.mem_map_of_mem (f := fun c : NdT v w S tb => c.1.2) h
      obtain ⟨p, hp, e⟩ := List.mem_map.1 this
      rw [← e]
      exact JV.size_field hp
  dep a := a.1.2.depth
  dep_eq a := by
    have e : ∀ (l : List (NdT v w S tb)) (g : Nat), l.foldl (fun g c => max g c.1.2.depth) g = (l.map fun c => c.1.2).foldl (fun g u => max g u.depth) g := fun l g => by rw [List.foldl_map]
    rw [List.foldl_append, e, e, kidsL_snd, kidsF_snd, depthF_fold, depthL_fold]
    obtain ⟨⟨ad, k, t, l, f⟩, hp⟩ := a
    simp only [JV.depth, JV.list, JV.fields]
    omega
  work a := 2 * a.1.2.size
  work_eq a := by
    have e : ∀ l : List (NdT v w S tb), (l.map fun c => 2 * c.1.2.size) = (l.map fun c => c.1.2).map fun u => 2 * u.size := fun l => by rw [List.map_map]; rfl
    rw [List.map_append, List.sum_append, e, e, kidsL_snd, kidsF_snd, sizeL_sum, sizeF_sum]
    obtain ⟨⟨ad, k, t, l, f⟩, hp⟩ := a
    simp only [JV.size, JV.list, JV.fields]
    omega
variable {v w S tb}
def adOf (a : NdT v w S tb) : Nat × Nat := a.1.1
theorem adOf_inj (x y : NdT v w S tb) (h : adOf x = adOf y) : x = y := by
  obtain ⟨⟨a, u⟩, h1, h2, h3⟩ := x
  obtain ⟨⟨a', u'⟩, k1, k2, k3⟩ := y
  have : a = a' := h
  subst this
  have : u = u' := LAt.inj u u' h2 k2
  subst this
  rfl
theorem kids_nil (a : NdT v w S tb) : (trOf v w S tb hS).kids a = [] ↔ a.1.2.list = [] ∧ a.1.2.fields = [] := by
  show kidsL v w S tb hS a ++ kidsF v w S tb hS a = [] ↔ _
  rw [List.append_eq_nil_iff, ← List.length_eq_zero_iff, ← List.length_eq_zero_iff, ← List.length_eq_zero_iff, ← List.length_eq_zero_iff]
  unfold kidsL kidsF
  rw [List.length_pmap, List.length_pmap, kidL_len, kidF_len]
theorem node_at (hsz : v.size ≤ 1099511627776) (a : NdT v w S tb) : NodeAt (trOf v w S tb hS) adOf w a := by
  obtain ⟨hin, hat, hc, hn⟩ := a.2
  obtain ⟨a2, cap2, q2, e2⟩ := hat.row2
  obtain ⟨a3, cap3, q3, e3⟩ := hat.row3
  have hle := hin.size
  have hln := JV.length_list a.1.2
  refine ⟨hc, kidsL v w S tb hS a, kidsF v w S tb hS a, a2, a3, cap2, cap3, rfl, ?_, ?_, ?_, ?_, ?_, ?_⟩
  · unfold kidsL; rw [List.length_pmap, kidL_len]; omega
  · unfold kidsF; rw [List.length_pmap, kidF_len]; omega
  · rcases e2 with e | ⟨b2, o2, e, _⟩
    · left; rw [← List.length_eq_zero_iff]; unfold kidsL; rw [List.length_pmap, kidL_len, e]; rfl
    · right
      refine ⟨b2, o2, e, fun j hj => ?_⟩
      rw [e] at q2
      have hs := slOf_eq q2
      have hj2 : j < (kidL w a.1).length := by have := hj; unfold kidsL at this; rwa [List.length_pmap] at this
      show ((kidsL v w S tb hS a)[j]).1.1 = _
      rw [kidsL_get v w S tb hS a j hj hj2]
      simp only [kidL, List.getElem_map, hs]
      simp
  · rcases e3 with e | ⟨b2, o2, e, _⟩
    · left; rw [← List.length_eq_zero_iff]; unfold kidsF; rw [List.length_pmap, kidF_len, e]; rfl
    · right
      refine ⟨b2, o2, e, fun j hj => ?_⟩
      rw [e] at q3
      have hs := slOf_eq q3
      have hj2 : j < (kidF w a.1).length := by have := hj; unfold kidsF at this; rwa [List.length_pmap] at this
      show ((kidsF v w S tb hS a)[j]).1.1 = _
      rw [kidsF_get v w S tb hS a j hj hj2]
      simp only [kidF, List.getElem_map, hs]
      simp
  · unfold kidsL; rw [List.length_pmap, kidL_len]; exact q2
  · unfold kidsF; rw [List.length_pmap, kidF_len]; exact q3

/-- What is below a node. -/
theorem sub_in {r x : NdT v w S tb} (h : Tr.Sub (trOf v w S tb hS) r x) : JV.In r.1.2 x.1.2 := by
  induction h with
  | root => exact .root
  | @kid a c _ hc ih =>
    rcases List.mem_append.1 hc with h | h
    · exact ih.list (by rw [← kidsL_snd v w S tb hS a]; exact List.mem_map_of_mem h)
    · have : c.1.2 ∈ a.1.2.fields.map (·.2) := by rw [← kidsF_snd v w S tb hS a]; exact List.mem_map_of_mem (f := fun c : NdT v w S tb => c.1.2) h
      obtain ⟨p, hp, e⟩ := List.mem_map.1 this
      rw [← e]
      exact ih.field hp
theorem in_sub {r : NdT v w S tb} {u : JV} (h : JV.In r.1.2 u) : ∃ x : NdT v w S tb, Tr.Sub (trOf v w S tb hS) r x ∧ x.1.2 = u := by
  induction h with
  | root => exact ⟨r, .root, rfl⟩
  | @list a u _ hu ih =>
    obtain ⟨x, hx, rfl⟩ := ih
    rw [← kidsL_snd v w S tb hS x] at hu
    obtain ⟨c, hc, e⟩ := List.mem_map.1 hu
    exact ⟨c, .kid hx (List.mem_append_left _ hc), e⟩
  | @field a p _ hp ih =>
    obtain ⟨x, hx, rfl⟩ := ih
    have : p.2 ∈ x.1.2.fields.map (·.2) := List.mem_map_of_mem hp
    rw [← kidsF_snd v w S tb hS x] at this
    obtain ⟨c, hc, e⟩ := List.mem_map.1 this
    exact ⟨c, .kid hx (List.mem_append_right _ hc), e⟩
end
end Go.Proofs.YtnjikipncgbjjaaGreatDoor
