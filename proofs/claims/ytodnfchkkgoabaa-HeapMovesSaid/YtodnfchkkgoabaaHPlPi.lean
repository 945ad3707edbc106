/- Plain: the places of rows in a rising list, as the reference puts them and as the program sorts them. -/
import Derived.Test.YtodnfchkkgoabaaHPu
import Derived.Test.YtodnfchkkgoabaaHSf
import Derived.Test.YtodnfchkkgoabaaHOe
set_option linter.unusedVariables false
namespace Go.Proofs.Ytodnfchkkgoabaa
open Go.RowKit

/-- A row comes before another one. -/
def ltL (A B : List Int) : Prop := cmpL A B < 0
instance (A B : List Int) : Decidable (ltL A B) := by unfold ltL; infer_instance

theorem ltL_irr (A : List Int) : ¬ ltL A A := by unfold ltL; rw [cmpL_self]; decide
theorem ltL_trans {A B C : List Int} (h1 : ltL A B) (h2 : ltL B C) : ltL A C := by
  unfold ltL at *
  have e1 : cmpL A B = -1 := by
    rcases cmpL_three A B with h | ⟨_, h⟩ | h
    · exact h
    · omega
    · omega
  have e2 : cmpL B C = -1 := by
    rcases cmpL_three B C with h | ⟨_, h⟩ | h
    · exact h
    · omega
    · omega
  rw [cmpL_trans A B C e1 e2]; decide
theorem ltL_or (A B : List Int) (h : ¬ ltL A B) : A = B ∨ ltL B A := by
  unfold ltL at *
  rcases cmpL_three A B with h1 | ⟨h1, _⟩ | h1
  · omega
  · exact .inl h1
  · refine .inr ?_
    rw [cmpL_neg A B, h1]; decide
theorem ltL_not {A B : List Int} (h : ltL A B) : ¬ ltL B A := fun h2 => ltL_irr A (ltL_trans h h2)

/-- A row is put into a rising list, unless it is there. -/
def place (O : List (List Int)) (p : List Int) : List (List Int) :=
  if (O.dropWhile fun y => decide (ltL y p)) = [] ∨ ltL p ((O.dropWhile fun y => decide (ltL y p)).headD []) then (O.takeWhile fun y => decide (ltL y p)) ++ p :: (O.dropWhile fun y => decide (ltL y p)) else O

theorem place_cons (a p : List Int) (O : List (List Int)) : place (a :: O) p = if ltL a p then a :: place O p else if ltL p a then p :: a :: O else a :: O := by
  by_cases h : ltL a p
  · unfold place
    simp only [List.takeWhile_cons, List.dropWhile_cons, h, decide_true, if_true]
    split <;> simp_all
  · unfold place
    simp only [List.takeWhile_cons, List.dropWhile_cons, h, decide_false, if_false]
    simp

theorem place_mem (p : List Int) : ∀ (O : List (List Int)) (x : List Int), x ∈ place O p ↔ x = p ∨ x ∈ O := by
  intro O
  induction O with
  | nil => intro x; simp [place]
  | cons a O ih =>
    intro x
    rw [place_cons]
    split
    · rw [List.mem_cons, ih, List.mem_cons]; constructor
      · rintro (h | h | h)
        · exact .inr (.inl h)
        · exact .inl h
        · exact .inr (.inr h)
      · rintro (h | h | h)
        · exact .inr (.inl h)
        · exact .inl h
        · exact .inr (.inr h)
    · rename_i h1
      split
      · simp
      · rename_i h2
        rcases ltL_or a p h1 with e | e
        · subst e; simp
        · exact absurd e h2

theorem place_sorted (p : List Int) : ∀ (O : List (List Int)), O.Pairwise ltL → (place O p).Pairwise ltL := by
  intro O
  induction O with
  | nil => intro h; simp [place]
  | cons a O ih =>
    intro h
    rw [List.pairwise_cons] at h
    rw [place_cons]
    split
    · rename_i h1
      rw [List.pairwise_cons]
      refine ⟨fun x hx => ?_, ih h.2⟩
      rcases (place_mem p O x).1 hx with e | e
      · rw [e]; exact h1
      · exact h.1 x e
    · split
      · rename_i h1 h2
        rw [List.pairwise_cons]
        refine ⟨fun x hx => ?_, List.pairwise_cons.2 h⟩
        rcases List.mem_cons.1 hx with e | e
        · rw [e]; exact h2
        · exact ltL_trans h2 (h.1 x e)
      · exact List.pairwise_cons.2 h

/-- All rows, rising, each once. -/
def placed (P : List (List Int)) : List (List Int) := P.foldl place []

theorem fold_place (P : List (List Int)) : ∀ O : List (List Int), O.Pairwise ltL → (P.foldl place O).Pairwise ltL ∧ ∀ x, x ∈ P.foldl place O ↔ x ∈ P ∨ x ∈ O := by
  induction P with
  | nil => intro O h; exact ⟨h, fun x => by simp⟩
  | cons a P ih =>
    intro O h
    obtain ⟨h1, h2⟩ := ih (place O a) (place_sorted a O h)
    refine ⟨h1, fun x => ?_⟩
    rw [List.foldl_cons, h2, place_mem, List.mem_cons]
    constructor
    · rintro (h | h | h)
      · exact .inl (.inr h)
      · exact .inl (.inl h)
      · exact .inr h
    · rintro ((h | h) | h)
      · exact .inr (.inl h)
      · exact .inl h
      · exact .inr (.inr h)

theorem placed_sorted (P : List (List Int)) : (placed P).Pairwise ltL := (fold_place P [] List.Pairwise.nil).1
theorem placed_mem (P : List (List Int)) (x : List Int) : x ∈ placed P ↔ x ∈ P := by
  rw [placed, (fold_place P [] List.Pairwise.nil).2]; simp
theorem placed_snoc (P : List (List Int)) (p : List Int) : placed (P ++ [p]) = place (placed P) p := by
  unfold placed; rw [List.foldl_append]; rfl

/-- Two rising lists with the same members are the same. -/
theorem rising_ext : ∀ (A B : List (List Int)), A.Pairwise ltL → B.Pairwise ltL → (∀ x, x ∈ A ↔ x ∈ B) → A = B := by
  intro A
  induction A with
  | nil =>
    intro B _ _ h
    cases B with
    | nil => rfl
    | cons b B => exact absurd ((h b).2 (by simp)) (by simp)
  | cons a A ih =>
    intro B hA hB h
    cases B with
    | nil => exact absurd ((h a).1 (by simp)) (by simp)
    | cons b B =>
      rw [List.pairwise_cons] at hA hB
      have hab : a = b := by
        rcases List.mem_cons.1 ((h a).1 (by simp)) with e | e
        · exact e
        rcases List.mem_cons.1 ((h b).2 (by simp)) with e2 | e2
        · exact e2.symm
        exact absurd (hA.1 b e2) (ltL_not (hB.1 a e))
      subst hab
      rw [ih B hA.2 hB.2 fun x => ?_]
      constructor
      · intro hx
        rcases List.mem_cons.1 ((h x).1 (List.mem_cons_of_mem _ hx)) with e | e
        · subst e; exact absurd (hA.1 x hx) (ltL_irr x)
        · exact e
      · intro hx
        rcases List.mem_cons.1 ((h x).2 (List.mem_cons_of_mem _ hx)) with e | e
        · subst e; exact absurd (hB.1 x hx) (ltL_irr x)
        · exact e

/-- What is left of a list in order, each once: the list placed. -/
theorem kept_placed (F : List (List Int)) (σ : List Nat) (n : Nat) (hF : F.length = n) (hl : σ.length = n) (hp : σ.Perm (List.range n)) (hs : ∀ i j, i < j → j < n → ¬ cmpL (F.getD (σ.getD j 0) []) (F.getD (σ.getD i 0) []) < 0) :
    (kept (σ.map fun i => F.getD i []) n).map (fun j => (σ.map fun i => F.getD i []).getD j []) = placed F := by
  obtain ⟨G, hG⟩ : ∃ G, (σ.map fun i => F.getD i []) = G := ⟨_, rfl⟩
  have hGl : G.length = n := by rw [← hG, List.length_map, hl]
  have hgd : ∀ j, j < n → G.getD j [] = F.getD (σ.getD j 0) [] := fun j hj => by
    rw [← hG]; simp [List.getD_eq_getElem?_getD, List.getElem?_eq_getElem (show j < σ.length by omega)]
  have hle : ∀ i j, i < j → j < n → ¬ ltL (G.getD j []) (G.getD i []) := fun i j hi hj => by rw [hgd i (by omega), hgd j hj]; exact hs i j hi hj
  rw [hG]
  refine rising_ext _ _ ?_ (placed_sorted F) fun x => ?_
  · rw [List.pairwise_map]
    unfold kept
    have hpr : ∀ (m : Nat), m ≤ n → ((List.range m).filter (keeps G)).Pairwise (fun i j => ltL (G.getD i []) (G.getD j [])) := by
      intro m hm
      rw [List.pairwise_filter]
      have : (List.range m).Pairwise (fun i j => i < j ∧ j < m) := by
        have h1 := List.pairwise_lt_range (n := m)
        refine List.Pairwise.imp_of_mem (R := (· < ·)) (fun {a b} ha hb hab => ⟨hab, List.mem_range.1 hb⟩) h1
      refine List.Pairwise.imp (fun {i j} hij _ hk => ?_) this
      obtain ⟨hij, hjm⟩ := hij
      have hne : ¬ G.getD j [] = G.getD (j - 1) [] := by
        unfold keeps at hk
        intro e
        rw [e] at hk
        simp at hk
        omega
      have h1 : ltL (G.getD (j - 1) []) (G.getD j []) := by
        rcases ltL_or (G.getD j []) (G.getD (j - 1) []) (hle (j - 1) j (by omega) (by omega)) with e | e
        · exact absurd e hne
        · exact e
      by_cases e : i = j - 1
      · rw [e]; exact h1
      · rcases ltL_or (G.getD (j - 1) []) (G.getD i []) (hle i (j - 1) (by omega) (by omega)) with e2 | e2
        · rw [← e2]; exact h1
        · exact ltL_trans e2 h1
    exact hpr n (Nat.le_refl _)
  · rw [placed_mem, List.mem_map]
    constructor
    · rintro ⟨j, hj, rfl⟩
      have hjn : j < n := by unfold kept at hj; exact List.mem_range.1 (List.mem_filter.1 hj).1
      rw [hgd j hjn]
      have h1 : σ.getD j 0 ∈ List.range n := hp.subset (by
        rw [List.getD_eq_getElem?_getD, List.getElem?_eq_getElem (show j < σ.length by omega)]
        exact List.getElem_mem _)
      have h2 : σ.getD j 0 < F.length := by rw [hF]; exact List.mem_range.1 h1
      rw [List.getD_eq_getElem?_getD (l := F), List.getElem?_eq_getElem h2]
      exact List.getElem_mem _
    · intro hx
      have hxG : ∃ j, j < n ∧ G.getD j [] = x := by
        obtain ⟨k, hk, e⟩ := List.getElem_of_mem hx
        have h1 : k ∈ σ := hp.symm.subset (List.mem_range.2 (by omega))
        obtain ⟨j, hj, e2⟩ := List.getElem_of_mem h1
        refine ⟨j, by omega, ?_⟩
        rw [hgd j (by omega)]
        rw [List.getD_eq_getElem?_getD (l := σ), List.getElem?_eq_getElem hj, Option.getD_some, e2, List.getD_eq_getElem?_getD, List.getElem?_eq_getElem hk, Option.getD_some, e]
      obtain ⟨j, hj, rfl⟩ := hxG
      clear hx
      induction j with
      | zero => exact ⟨0, by unfold kept; exact List.mem_filter.2 ⟨List.mem_range.2 hj, by simp [keeps]⟩, rfl⟩
      | succ j ih =>
        by_cases e : G.getD (j + 1) [] = G.getD j []
        · rw [e]; exact ih (by omega)
        · refine ⟨j + 1, ?_, rfl⟩
          unfold kept
          refine List.mem_filter.2 ⟨List.mem_range.2 hj, ?_⟩
          unfold keeps
          simp only [Nat.add_sub_cancel]
          simpa using e
end Go.Proofs.Ytodnfchkkgoabaa

/- Plain: heaps put into a rising row one by one are the row in order. -/
set_option linter.unusedVariables false
namespace Go.Proofs.Ytodnfchkkgoabaa
open Go.RowKit

theorem ins_sorted (L : List Int) (x : Int) (h : L.Pairwise (· ≤ ·)) : (ins L x).Pairwise (· ≤ ·) := by
  unfold ins
  split
  · exact h
  · rename_i hx0
    clear hx0
    induction L with
    | nil => simp
    | cons a L ih =>
      rw [List.pairwise_cons] at h
      by_cases e : a < x
      · rw [List.takeWhile_cons, List.dropWhile_cons]
        simp only [e, decide_true, if_true, List.cons_append]
        rw [List.pairwise_cons]
        refine ⟨fun y hy => ?_, ih h.2⟩
        rcases List.mem_append.1 hy with hy | hy
        · exact h.1 y (List.takeWhile_subset _ hy)
        · rcases List.mem_cons.1 hy with hy | hy
          · rw [hy]; omega
          · exact h.1 y (List.dropWhile_subset _ hy)
      · rw [List.takeWhile_cons, List.dropWhile_cons]
        simp only [e, decide_false, Bool.false_eq_true, if_false, List.nil_append]
        rw [List.pairwise_cons]
        refine ⟨fun y hy => ?_, List.pairwise_cons.2 h⟩
        rcases List.mem_cons.1 hy with hy | hy
        · rw [hy]; omega
        · have := h.1 y hy; omega

theorem ins_perm (L : List Int) (x : Int) : (ins L x).Perm (L ++ [x].filter fun y => !decide (y = 0)) := by
  unfold ins
  split
  · rename_i e; subst e; simp
  · rename_i e
    have h1 : ([x].filter fun y => !decide (y = 0)) = [x] := by simp [e]
    rw [h1]
    refine List.Perm.trans ?_ (List.perm_append_comm (l₁ := [x]) (l₂ := L))
    refine List.Perm.trans List.perm_middle ?_
    rw [List.takeWhile_append_dropWhile]
    exact List.Perm.refl _

theorem fold_ins (T : List Int) : ∀ L : List Int, L.Pairwise (· ≤ ·) → (T.foldl ins L).Pairwise (· ≤ ·) ∧ (T.foldl ins L).Perm (L ++ T.filter fun y => !decide (y = 0)) := by
  induction T with
  | nil => intro L h; exact ⟨h, by simp⟩
  | cons a T ih =>
    intro L h
    obtain ⟨h1, h2⟩ := ih (ins L a) (ins_sorted L a h)
    refine ⟨h1, h2.trans ?_⟩
    refine ((ins_perm L a).append_right _).trans ?_
    rw [List.append_assoc, ← List.filter_append]
    exact List.Perm.refl _

theorem ord_sorted (T : List Int) : (ord T).Pairwise (· ≤ ·) := by
  unfold ord
  have := List.pairwise_mergeSort (le := fun x y : Int => decide (x ≤ y)) (fun a b c h1 h2 => by simp at *; omega) (fun a b => by simp; omega) (T.filter fun x => !decide (x = 0))
  exact this.imp fun h => by simpa using h

theorem ord_perm (T : List Int) : (ord T).Perm (T.filter fun x => !decide (x = 0)) := List.mergeSort_perm _ _

/-- Heaps put one by one are the row in order. -/
theorem ins_ord (T : List Int) : T.foldl ins [] = ord T := by
  obtain ⟨h1, h2⟩ := fold_ins T [] List.Pairwise.nil
  exact List.Perm.eq_of_pairwise (le := (· ≤ ·)) (fun a b _ _ h3 h4 => by omega) h1 (ord_sorted T) (h2.trans (ord_perm T).symm)

theorem ord_congr {S T : List Int} (h : S.Perm T) : ord S = ord T :=
  List.Perm.eq_of_pairwise (le := (· ≤ ·)) (fun a b _ _ h3 h4 => by omega) (ord_sorted S) (ord_sorted T) ((ord_perm S).trans ((h.filter _).trans (ord_perm T).symm))

theorem ord_mem (T : List Int) (x : Int) : x ∈ ord T ↔ x ∈ T ∧ x ≠ 0 := by
  rw [(ord_perm T).mem_iff]; simp

theorem ord_len (T : List Int) : (ord T).length ≤ T.length := by
  rw [(ord_perm T).length_eq]; exact List.length_filter_le _ _
end Go.Proofs.Ytodnfchkkgoabaa
