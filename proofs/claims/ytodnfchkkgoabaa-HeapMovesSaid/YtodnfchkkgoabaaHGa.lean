/- The lists of a graph turned round (plain lists). -/
import Derived.Test.YtodnfchkkgoabaaHDc
namespace Go.Proofs.Ytodnfchkkgoabaa

theorem revRow_mem (v : Nat) : ∀ (r : List Nat) (F : List (List Nat)) (y u : Nat), (∀ x ∈ r, x < F.length) → (u ∈ (revRow v F r).getD y [] ↔ u ∈ F.getD y [] ∨ (u = v ∧ y ∈ r)) := by
  intro r
  induction r with
  | nil => intro F y u _; simp [revRow]
  | cons x r ih =>
    intro F y u hx
    have h1 := hx x (by simp)
    have h2 := ih (F.set x (F.getD x [] ++ [v])) y u (fun z hz => by rw [List.length_set]; exact hx z (by simp [hz]))
    rw [revRow, h2, set_getD _ _ _ _ h1]
    by_cases e : y = x
    · subst e
      rw [if_pos rfl, List.mem_append, List.mem_singleton, List.mem_cons]
      constructor
      · rintro ((h | h) | h)
        · exact .inl h
        · exact .inr ⟨h, .inl rfl⟩
        · exact .inr ⟨h.1, .inr h.2⟩
      · rintro (h | ⟨h, h' | h'⟩)
        · exact .inl (.inl h)
        · exact .inl (.inr h)
        · exact .inr ⟨h, h'⟩
    · rw [if_neg e, List.mem_cons]
      constructor
      · rintro (h | h)
        · exact .inl h
        · exact .inr ⟨h.1, .inr h.2⟩
      · rintro (h | ⟨h, h' | h'⟩)
        · exact .inl h
        · exact absurd h' e
        · exact .inr ⟨h, h'⟩

theorem revG_mem : ∀ (rs : List (List Nat)) (v : Nat) (F : List (List Nat)) (y u : Nat), (∀ r ∈ rs, ∀ x ∈ r, x < F.length) →
    (u ∈ (revG v F rs).getD y [] ↔ u ∈ F.getD y [] ∨ (v ≤ u ∧ u < v + rs.length ∧ y ∈ rs.getD (u - v) [])) := by
  intro rs
  induction rs with
  | nil =>
    intro v F y u _
    simp only [revG, List.length_nil]
    exact ⟨.inl, fun h => h.elim id (fun h => by omega)⟩
  | cons r rs ih =>
    intro v F y u hx
    have h1 := ih (v + 1) (revRow v F r) y u (fun r' hr' x hx' => by rw [revRow_len]; exact hx r' (by simp [hr']) x hx')
    rw [revG, h1, revRow_mem v r F y u (hx r (by simp)), List.length_cons]
    constructor
    · rintro ((h | ⟨rfl, h⟩) | ⟨h2, h3, h4⟩)
      · exact .inl h
      · exact .inr ⟨Nat.le_refl _, by omega, by rw [Nat.sub_self]; exact h⟩
      · refine .inr ⟨by omega, by omega, ?_⟩
        rw [show u - v = (u - (v + 1)) + 1 by omega]
        exact h4
    · rintro (h | ⟨h2, h3, h4⟩)
      · exact .inl (.inl h)
      · by_cases e : u = v
        · subst e
          rw [Nat.sub_self] at h4
          exact .inl (.inr ⟨rfl, h4⟩)
        · rw [show u - v = (u - (v + 1)) + 1 by omega] at h4
          exact .inr ⟨by omega, by omega, h4⟩

theorem revRow_nodup (v : Nat) : ∀ (r : List Nat) (F : List (List Nat)) (y : Nat), (∀ x ∈ r, x < F.length) → r.Nodup → (F.getD y []).Nodup → (y ∈ r → v ∉ F.getD y []) → ((revRow v F r).getD y []).Nodup := by
  intro r
  induction r with
  | nil => intro F y _ _ h _; exact h
  | cons x r ih =>
    intro F y hx hn hF hv
    rw [List.nodup_cons] at hn
    rw [revRow]
    refine ih _ y (fun z hz => by rw [List.length_set]; exact hx z (by simp [hz])) hn.2 ?_ ?_
    · rw [set_getD _ _ _ _ (hx x (by simp))]
      split
      · rename_i e
        subst e
        rw [List.nodup_append]
        refine ⟨hF, by simp, fun a ha b hb => ?_⟩
        simp at hb
        subst hb
        rintro rfl
        exact hv (by simp) ha
      · exact hF
    · intro hy
      have hne : ¬ y = x := by rintro rfl; exact hn.1 hy
      rw [set_getD _ _ _ _ (hx x (by simp)), if_neg hne]
      exact hv (by simp [hy])

theorem revG_nodup : ∀ (rs : List (List Nat)) (v : Nat) (F : List (List Nat)) (y : Nat), (∀ r ∈ rs, ∀ x ∈ r, x < F.length) → (∀ r ∈ rs, r.Nodup) → (F.getD y []).Nodup → (∀ u ∈ F.getD y [], u < v) → ((revG v F rs).getD y []).Nodup := by
  intro rs
  induction rs with
  | nil => intro v F y _ _ h _; exact h
  | cons r rs ih =>
    intro v F y hx hn hF hv
    rw [revG]
    refine ih (v + 1) _ y (fun r' hr' x hx' => by rw [revRow_len]; exact hx r' (by simp [hr']) x hx') (fun r' hr' => hn r' (by simp [hr'])) ?_ ?_
    · exact revRow_nodup v r F y (hx r (by simp)) (hn r (by simp)) hF (fun _ h => by have := hv v h; omega)
    · intro u hu
      rcases (revRow_mem v r F y u (hx r (by simp))).1 hu with h | h
      · have := hv u h; omega
      · omega

theorem row_mem {G : List (List Nat)} {r : List Nat} (h : r ∈ G) : ∃ v, r = G.getD v [] := by
  obtain ⟨i, hi, rfl⟩ := List.getElem_of_mem h
  exact ⟨i, by rw [List.getD_eq_getElem?_getD, List.getElem?_eq_getElem hi]; rfl⟩
theorem nil_row (n y : Nat) : (List.replicate n ([] : List Nat)).getD y [] = [] := by
  rw [List.getD_eq_getElem?_getD, List.getElem?_replicate]; split <;> rfl

theorem revs_mem (G : List (List Nat)) (hx : ∀ v, ∀ x ∈ G.getD v [], x < G.length) (y u : Nat) : u ∈ (revs G).getD y [] ↔ u < G.length ∧ y ∈ G.getD u [] := by
  unfold revs
  rw [revG_mem G 0 _ y u (fun r hr x h => by
    obtain ⟨v, rfl⟩ := row_mem hr
    rw [List.length_replicate]; exact hx v x h), nil_row]
  simp
theorem revs_nodup (G : List (List Nat)) (hx : ∀ v, ∀ x ∈ G.getD v [], x < G.length) (hn : ∀ v, (G.getD v []).Nodup) (y : Nat) : ((revs G).getD y []).Nodup := by
  unfold revs
  refine revG_nodup G 0 _ y (fun r hr x h => by
    obtain ⟨v, rfl⟩ := row_mem hr
    rw [List.length_replicate]; exact hx v x h) (fun r hr => by obtain ⟨v, rfl⟩ := row_mem hr; exact hn v) (by rw [nil_row]; simp) (by rw [nil_row]; simp)
end Go.Proofs.Ytodnfchkkgoabaa
