/- The rounds of the reference's outcomes, and its best move (plain). -/
import Derived.Test.YtodnfchkkgoabaaHBt
namespace Go.Proofs.Ytodnfchkkgoabaa

/-- What is known of a vertex ahead of round d. -/
def rst (f : Nat → Nat × Nat) (d v : Nat) : Nat := if (f v).1 ≠ 2 ∧ (f v).2 < d then (f v).1 else 2
def rfa (f : Nat → Nat × Nat) (d v : Nat) : Nat := if (f v).1 ≠ 2 ∧ (f v).2 < d then (f v).2 else 0

theorem rst_ne {f : Nat → Nat × Nat} {d v : Nat} (h : rst f d v ≠ 2) : (f v).1 = rst f d v ∧ (f v).1 ≠ 2 ∧ (f v).2 < d := by
  unfold rst at *
  split at h
  · rename_i h1; rw [if_pos h1]; exact ⟨rfl, h1⟩
  · exact absurd rfl h
theorem rst_two {f : Nat → Nat × Nat} {d v : Nat} (h : rst f d v = 2) : (f v).1 = 2 ∨ d ≤ (f v).2 := by
  unfold rst at h
  split at h
  · rename_i h1; exact absurd h h1.1
  · rename_i h1
    by_cases h2 : (f v).1 = 2
    · exact .inl h2
    · exact .inr (by
        have := fun h3 => h1 ⟨h2, h3⟩
        omega)
theorem rst_at {f : Nat → Nat × Nat} {d w t e : Nat} (h : f w = (t, e)) (ht : t ≠ 2) (he : e < d) : rst f d w = t := by
  unfold rst; rw [h, if_pos ⟨ht, he⟩]

theorem Plays.split {G : List (List Nat)} {f : Nat → Nat × Nat} (h : Plays G f) {v : Nat} (hv : v < G.length) : f v = (0, (f v).2) ∨ f v = (1, (f v).2) ∨ f v = (2, 0) := by
  have hk := h.kind v hv
  have e : f v = ((f v).1, (f v).2) := rfl
  rcases Nat.lt_or_ge (f v).1 1 with h0 | h0
  · left; rw [show (f v).1 = 0 by omega] at e; exact e
  · rcases Nat.lt_or_ge (f v).1 2 with h1 | h1
    · right; left; rw [show (f v).1 = 1 by omega] at e; exact e
    · right; right
      have h2 : (f v).1 = 2 := by omega
      rw [h2, (h.drawn v hv h2).1] at e; exact e

theorem Plays.r_won {G : List (List Nat)} {f : Nat → Nat × Nat} (h : Plays G f) {v d : Nat} (hv : v < G.length) (h2 : rst f d v = 2) (hw : ∃ w ∈ G.getD v [], rst f d w = 0) : f v = (1, d) := by
  obtain ⟨w, hw, h0⟩ := hw
  obtain ⟨q1, q2, q3⟩ := rst_ne (f := f) (d := d) (v := w) (by omega)
  have q1 : (f w).1 = 0 := by omega
  rcases h.split hv with e | e | e
  · have := ((h.lost v _ hv e).1 w hw).1; omega
  · have h3 := h.least v _ hv e w hw q1
    rcases rst_two h2 with h4 | h4
    · rw [e] at h4; simp at h4
    · rw [e]; congr 1; omega
  · exact absurd q1 ((h.drawn v hv (by rw [e])).2.1 w hw)
theorem Plays.r_lost {G : List (List Nat)} {f : Nat → Nat × Nat} (h : Plays G f) {v d : Nat} (hv : v < G.length) (h2 : rst f d v = 2) (hw : ∀ w ∈ G.getD v [], rst f d w = 1) : f v = (0, d) := by
  have hw' : ∀ w ∈ G.getD v [], (f w).1 = 1 ∧ (f w).2 < d := fun w h3 => by
    have h4 := hw w h3
    obtain ⟨q1, q2, q3⟩ := rst_ne (f := f) (d := d) (v := w) (by omega)
    exact ⟨by omega, q3⟩
  rcases h.split hv with e | e | e
  · rcases rst_two h2 with h4 | h4
    · rw [e] at h4; simp at h4
    · by_cases he : G.getD v [] = []
      · rw [h.stop v hv he] at h4 ⊢
        simp at h4
        rw [h4]
      · obtain ⟨w, q1, q2, q3, q4⟩ := (h.lost v _ hv e).2 he
        have := (hw' w q1).2
        rw [q3] at this
        simp only at this
        rw [e]; congr 1; omega
  · obtain ⟨w, q1, q2, q3, q4⟩ := h.won v _ hv e
    have := (hw' w q1).1
    rw [q3] at this
    simp at this
  · obtain ⟨_, _, w, q1, q2⟩ := h.drawn v hv (by rw [e])
    have := (hw' w q1).1
    rw [q2] at this
    simp at this
theorem Plays.r_not {G : List (List Nat)} {f : Nat → Nat × Nat} (h : Plays G f) {v d : Nat} (hv : v < G.length) (h2 : rst f d v = 2) (hw : ¬ ∃ w ∈ G.getD v [], rst f d w = 0) (hl : ¬ ∀ w ∈ G.getD v [], rst f d w = 1) : rst f (d + 1) v = 2 := by
  refine Classical.byContradiction fun hne => ?_
  obtain ⟨q1, q2, q3⟩ := rst_ne hne
  have hd : (f v).2 = d := by
    rcases rst_two h2 with h4 | h4
    · exact absurd h4 q2
    · omega
  rcases h.split hv with e | e | e
  · refine hl (fun w h3 => ?_)
    obtain ⟨k1, k2⟩ := (h.lost v _ hv e).1 w h3
    exact rst_at (show f w = (1, (f w).2) by rw [← k1]) (by decide) (by omega)
  · obtain ⟨w, k1, k2, k3, k4⟩ := h.won v _ hv e
    exact hw ⟨w, k1, rst_at k3 (by decide) (by omega)⟩
  · rw [e] at q2; exact q2 rfl

theorem Plays.chain {G : List (List Nat)} {f : Nat → Nat × Nat} (h : Plays G f) (hx : ∀ v, ∀ x ∈ G.getD v [], x < G.length) : ∀ (e v : Nat), v < G.length → (f v).1 ≠ 2 → (f v).2 = e → ∃ l : List Nat, l.length = e + 1 ∧ l.Nodup ∧ ∀ x ∈ l, x < G.length ∧ (f x).2 ≤ e := by
  intro e
  induction e with
  | zero => intro v hv _ h2; exact ⟨[v], rfl, by simp, fun x hx => by simp at hx; subst hx; exact ⟨hv, by omega⟩⟩
  | succ e ih =>
    intro v hv h1 h2
    have hw : ∃ w, w < G.length ∧ (f w).1 ≠ 2 ∧ (f w).2 = e := by
      rcases h.split hv with q | q | q
      · by_cases he : G.getD v [] = []
        · rw [h.stop v hv he] at h2; simp at h2
        · obtain ⟨w, q1, q2, q3, q4⟩ := (h.lost v _ hv q).2 he
          exact ⟨w, hx v w q1, by rw [q3]; simp, by rw [q3]; simp only; omega⟩
      · obtain ⟨w, q1, q2, q3, q4⟩ := h.won v _ hv q
        exact ⟨w, hx v w q1, by rw [q3]; simp, by rw [q3]; simp only; omega⟩
      · rw [q] at h1; exact absurd rfl h1
    obtain ⟨w, w1, w2, w3⟩ := hw
    obtain ⟨l, l1, l2, l3⟩ := ih w w1 w2 w3
    refine ⟨v :: l, by simp [l1], List.nodup_cons.2 ⟨fun hm => by have := (l3 v hm).2; omega, l2⟩, fun x hx' => ?_⟩
    rcases List.mem_cons.1 hx' with rfl | hx'
    · exact ⟨hv, by omega⟩
    · have := l3 x hx'; omega
theorem Plays.near {G : List (List Nat)} {f : Nat → Nat × Nat} (h : Plays G f) (hx : ∀ v, ∀ x ∈ G.getD v [], x < G.length) {v : Nat} (hv : v < G.length) : (f v).2 < G.length := by
  by_cases h2 : (f v).1 = 2
  · rw [(h.drawn v hv h2).1]; omega
  · obtain ⟨l, l1, l2, l3⟩ := h.chain hx _ v hv h2 rfl
    have := nodup_lt G.length l l2 (fun x hx => (l3 x hx).1)
    omega
theorem Plays.r_end {G : List (List Nat)} {f : Nat → Nat × Nat} (h : Plays G f) (hx : ∀ v, ∀ x ∈ G.getD v [], x < G.length) {v d : Nat} (hv : v < G.length) (hd : G.length ≤ d) : rst f d v = (f v).1 ∧ rfa f d v = (f v).2 := by
  have h1 := h.near hx hv
  unfold rst rfa
  by_cases h2 : (f v).1 = 2
  · rw [if_neg (fun h => h.1 h2), if_neg (fun h => h.1 h2)]
    exact ⟨h2.symm, (h.drawn v hv h2).1.symm⟩
  · rw [if_pos ⟨h2, by omega⟩, if_pos ⟨h2, by omega⟩]
    exact ⟨rfl, rfl⟩

/-- The reference's best move, vertex by vertex. -/
def rbs (f : Nat → Nat × Nat) (t : Nat) : Option Nat → Nat → Option Nat
  | none, w => if (t = 1 → (f w).1 = 0) ∧ (t = 2 → (f w).1 = 2) then some w else none
  | some x, w => if (t = 1 ∧ (f w).1 = 0 ∧ (f w).2 < (f x).2) ∨ (t = 0 ∧ (f x).2 < (f w).2) then some w else some x
theorem rbs_none (f : Nat → Nat × Nat) (t w : Nat) : rbs f t none w = if (t = 1 → (f w).1 = 0) ∧ (t = 2 → (f w).1 = 2) then some w else none := rfl
theorem rbs_some (f : Nat → Nat × Nat) (t x w : Nat) : rbs f t (some x) w = if (t = 1 ∧ (f w).1 = 0 ∧ (f w).2 < (f x).2) ∨ (t = 0 ∧ (f x).2 < (f w).2) then some w else some x := rfl
def rbl (f : Nat → Nat × Nat) (t : Nat) (R : List Nat) : Option Nat := R.foldl (rbs f t) none

theorem rbl_snoc (f : Nat → Nat × Nat) (t : Nat) (R : List Nat) (w : Nat) : rbl f t (R ++ [w]) = rbs f t (rbl f t R) w := by
  unfold rbl; rw [List.foldl_append]; rfl

theorem good_no {f : Nat → Nat × Nat} {kd ds x : Nat} (h : good f kd ds x = false) (h1 : (f x).1 = kd) : (f x).2 ≠ ds := by
  unfold good at h
  intro e
  rw [h1, e] at h
  simp at h
theorem good_yes {f : Nat → Nat × Nat} {kd ds x : Nat} (h : good f kd ds x = true) : (f x).1 = kd ∧ (f x).2 = ds := by
  unfold good at h
  simpa using h

/-- The reference's best move is the first one that is as good as can be. -/
theorem rbl_inv (f : Nat → Nat × Nat) (t d : Nat) (ht : t ≤ 2) (L : List Nat)
    (hall : ∀ w ∈ L, (t = 1 → (f w).1 = 0 → d ≤ (f w).2) ∧ (t = 2 → (f w).1 = 2 → (f w).2 = d) ∧ (t = 0 → (f w).1 = 1 ∧ (f w).2 ≤ d)) : ∀ n, n ≤ L.length →
    (∃ K, K < n ∧ good f (kindOf t) d (L.getD K 0) = true ∧ (∀ j, j < K → good f (kindOf t) d (L.getD j 0) = false) ∧ rbl f t (L.take n) = some (L.getD K 0)) ∨
    ((∀ j, j < n → good f (kindOf t) d (L.getD j 0) = false) ∧ (rbl f t (L.take n) = none ∨ ∃ x, x ∈ L ∧ rbl f t (L.take n) = some x ∧ (t = 1 → (f x).1 = 0) ∧ (t = 2 → (f x).1 = 2) ∧ good f (kindOf t) d x = false)) := by
  intro n
  induction n with
  | zero => intro _; exact .inr ⟨fun j hj => by omega, .inl rfl⟩
  | succ n ih =>
    intro hn
    have hw : L.getD n 0 ∈ L := by
      rw [List.getD_eq_getElem?_getD, List.getElem?_eq_getElem (by omega)]; exact List.getElem_mem _
    have htk : L.take (n + 1) = L.take n ++ [L.getD n 0] := by
      rw [List.take_succ_eq_append_getElem (by omega), List.getD_eq_getElem?_getD, List.getElem?_eq_getElem (by omega)]; rfl
    rw [htk, rbl_snoc]
    obtain ⟨a1, a2, a0⟩ := hall _ hw
    rcases ih (by omega) with ⟨K, k1, k2, k3, k4⟩ | ⟨hno, hb⟩
    · refine .inl ⟨K, by omega, k2, k3, ?_⟩
      obtain ⟨g1, g2⟩ := good_yes k2
      rw [k4]
      generalize L.getD n 0 = w at *
      generalize L.getD K 0 = x at *
      rw [rbs_some, if_neg]
      rintro (⟨e1, e2, e3⟩ | ⟨e1, e2⟩)
      · have := a1 e1 e2; omega
      · have := (a0 e1).2; omega
    · cases hg : good f (kindOf t) d (L.getD n 0) with
      | true =>
        refine .inl ⟨n, by omega, hg, hno, ?_⟩
        obtain ⟨g1, g2⟩ := good_yes hg
        generalize L.getD n 0 = w at *
        rcases hb with hb | ⟨x, hx, hb, x1, x2, x3⟩
        · rw [hb, rbs_none, if_pos ⟨fun e1 => by rw [g1, e1]; rfl, fun e2 => by rw [g1, e2]; rfl⟩]
        · rw [hb, rbs_some, if_pos]
          obtain ⟨b1, b2, b0⟩ := hall _ hx
          by_cases e1 : t = 1
          · have h1 := x1 e1
            have h2 := good_no x3 (by rw [h1, e1]; rfl)
            have h3 := b1 e1 h1
            exact .inl ⟨e1, by rw [g1, e1]; rfl, by omega⟩
          · by_cases e2 : t = 2
            · exfalso
              have h1 := x2 e2
              exact good_no x3 (by rw [h1, e2]; rfl) (b2 e2 h1)
            · have e0 : t = 0 := by omega
              have h1 := b0 e0
              have h2 := good_no x3 (by rw [h1.1, e0]; rfl)
              exact .inr ⟨e0, by omega⟩
      | false =>
        refine .inr ⟨fun j hj => ?_, ?_⟩
        · by_cases e : j = n
          · subst e; exact hg
          · exact hno j (by omega)
        · generalize L.getD n 0 = w at *
          have hnew : (t = 1 → (f w).1 = 0) → (t = 2 → (f w).1 = 2) → ∃ x, x ∈ L ∧ some w = some x ∧ (t = 1 → (f x).1 = 0) ∧ (t = 2 → (f x).1 = 2) ∧ good f (kindOf t) d x = false := fun q1 q2 => ⟨w, hw, rfl, q1, q2, hg⟩
          generalize rbl f t (L.take n) = b at *
          cases b with
          | none =>
            rw [rbs_none]
            by_cases e : (t = 1 → (f w).1 = 0) ∧ (t = 2 → (f w).1 = 2)
            · rw [if_pos e]; exact .inr (hnew e.1 e.2)
            · rw [if_neg e]; exact .inl rfl
          | some x =>
            rw [rbs_some]
            by_cases e : (t = 1 ∧ (f w).1 = 0 ∧ (f w).2 < (f x).2) ∨ (t = 0 ∧ (f x).2 < (f w).2)
            · rw [if_pos e]
              refine .inr (hnew (fun q => ?_) (fun q => ?_))
              · rcases e with e | e
                · exact e.2.1
                · omega
              · rcases e with e | e <;> omega
            · rw [if_neg e]; exact hb

theorem rbl_best {G : List (List Nat)} {f : Nat → Nat × Nat} (hp : Plays G f) {v w : Nat} (hx : ∀ v, ∀ x ∈ G.getD v [], x < G.length) (hv : v < G.length) (hw : ∃ K, K < (G.getD v []).length ∧ w = (G.getD v []).getD K 0 ∧ good f (kindOf (f v).1) ((f v).2 - 1) w = true ∧ ∀ j, j < K → good f (kindOf (f v).1) ((f v).2 - 1) ((G.getD v []).getD j 0) = false) :
    rbl f (f v).1 (G.getD v []) = some w := by
  obtain ⟨K, k1, k2, k3, k4⟩ := hw
  have e : f v = ((f v).1, (f v).2) := rfl
  have h := rbl_inv f (f v).1 ((f v).2 - 1) (hp.kind v hv) (G.getD v []) (fun x hx' => ⟨fun h1 h0 => by
      rw [h1] at e
      have := hp.least v _ hv e x hx' h0; omega, fun h2 h3 => by
      have h4 := (hp.drawn v hv h2).1
      rw [h4]
      have := (hp.drawn x (hx v x hx') h3).1
      omega, fun h0 => by
      rw [h0] at e
      have := (hp.lost v _ hv e).1 x hx'
      exact ⟨this.1, by omega⟩⟩) _ (Nat.le_refl _)
  rw [List.take_length] at h
  rcases h with ⟨K', q1, q2, q3, q4⟩ | ⟨h1, _⟩
  · have : K' = K := by
      rcases Nat.lt_trichotomy K' K with h | h | h
      · have := k4 K' h; rw [q2] at this; cases this
      · exact h
      · have := q3 K h; rw [← k2, k3] at this; cases this
    rw [q4, this, k2]
  · have := h1 K k1; rw [← k2, k3] at this; cases this
end Go.Proofs.Ytodnfchkkgoabaa
