/- Plain arithmetic: lists of primes that grow at their end. No program is spoken of. -/
import Derived.Test.YtamhlkjfpdkhoaaGreatDoorFacs
namespace Go.Proofs.YtamhlkjfpdkhoaaGreatDoor

theorem rise_snoc {p k : Nat} (hp : Pr p) (hk : 1 ≤ k) : ∀ {l : List (Nat × Nat)} {b : Nat}, Rise b l → (∀ x ∈ l, x.1 < p) → b < p → Rise b (l ++ [(p, k)])
  | [], _, _, _, hb => ⟨hb, hp, hk, trivial⟩
  | (q, e) :: l, _, h, hl, _ => ⟨h.1, h.2.1, h.2.2.1, rise_snoc hp hk h.2.2.2 (fun x hx => hl x (by simp [hx])) (hl (q, e) (by simp))⟩

theorem facs_snoc (p k : Nat) : ∀ l : List (Nat × Nat), facs (l ++ [(p, k)]) = facs l * p ^ k
  | [] => by simp [facs]
  | (q, e) :: l => by simp only [List.cons_append, facs, facs_snoc p k l, Nat.mul_assoc]

/-- What is done of a number, and what is left of it: no prime below p divides that. -/
def Part (N p left : Nat) (l : List (Nat × Nat)) : Prop := Rise 1 l ∧ (∀ x ∈ l, x.1 < p) ∧ facs l * left = N ∧ (∀ q, Pr q → q ∣ left → p ≤ q) ∧ 0 < left

theorem Part.start {N : Nat} (h : 0 < N) : Part N 2 N [] := ⟨trivial, by simp, by simp [facs], fun _ hq _ => hq.1, h⟩

theorem Part.prime {N p left : Nat} {l : List (Nat × Nat)} (h : Part N p left l) (hp : 2 ≤ p) (hd : p ∣ left) : Pr p := by
  obtain ⟨r, hr, hrp⟩ := prime_divisor p p (Nat.le_refl _) hp
  have h1 := h.2.2.2.1 r hr (Nat.dvd_trans hrp hd)
  have h2 := Nat.le_of_dvd (by omega) hrp
  obtain rfl : r = p := by omega
  exact hr

theorem Part.none {N p left : Nat} {l : List (Nat × Nat)} (h : Part N p left l) (hd : ¬ p ∣ left) : Part N (p + 1) left l :=
  ⟨h.1, fun x hx => by have := h.2.1 x hx; omega, h.2.2.1, fun q hq hql => by
    have := h.2.2.2.1 q hq hql
    rcases Nat.lt_or_ge p q with h1 | h1
    · omega
    · exfalso; apply hd
      obtain rfl : q = p := by omega
      exact hql, h.2.2.2.2⟩

theorem Part.some {N p left u k : Nat} {l : List (Nat × Nat)} (h : Part N p left l) (hp : 2 ≤ p) (hk : 1 ≤ k) (he : p ^ k * u = left) (hd : ¬ p ∣ u) : Part N (p + 1) u (l ++ [(p, k)]) := by
  have hpl : p ∣ left := by
    obtain ⟨j, rfl⟩ : ∃ j, k = j + 1 := ⟨k - 1, by omega⟩
    rw [← he, Nat.pow_succ, Nat.mul_comm (p ^ j), Nat.mul_assoc]; exact Nat.dvd_mul_right _ _
  have hpr := h.prime hp hpl
  have hu : 0 < u := by
    rcases Nat.eq_zero_or_pos u with h0 | h0
    · subst h0; exact absurd (Nat.dvd_zero p) hd
    · exact h0
  refine ⟨rise_snoc hpr hk h.1 h.2.1 (by omega), ?_, ?_, ?_, hu⟩
  · intro x hx
    rw [List.mem_append] at hx
    rcases hx with hx | hx
    · have := h.2.1 x hx; omega
    · rw [List.mem_singleton] at hx; subst hx; simp
  · rw [facs_snoc, Nat.mul_assoc, he]; exact h.2.2.1
  · intro q hq hqu
    have h1 := h.2.2.2.1 q hq (by rw [← he]; exact Nat.dvd_trans hqu (Nat.dvd_mul_left _ _))
    rcases Nat.lt_or_ge p q with h2 | h2
    · omega
    · exfalso; apply hd
      obtain rfl : q = p := by omega
      exact hqu

theorem Part.last {N p left : Nat} {l : List (Nat × Nat)} (h : Part N p left l) (hp : 2 ≤ p) (hlt : left < p * p) :
    (left = 1 ∧ Rise 1 l ∧ facs l = N) ∨ (1 < left ∧ Rise 1 (l ++ [(left, 1)]) ∧ facs (l ++ [(left, 1)]) = N) := by
  by_cases h1 : left = 1
  · subst h1
    exact .inl ⟨rfl, h.1, by have := h.2.2.1; simpa using this⟩
  · right
    have h0 := h.2.2.2.2
    obtain ⟨q, hq, hql⟩ := prime_divisor left left (Nat.le_refl _) (by omega)
    have hpq := h.2.2.2.1 q hq hql
    have hpr : left = q := by
      obtain ⟨c, hc⟩ := hql
      by_cases hc1 : c = 1
      · rw [hc, hc1, Nat.mul_one]
      · exfalso
        have hc0 : c ≠ 0 := by rintro rfl; simp at hc; omega
        obtain ⟨r, hr, hrc⟩ := prime_divisor c c (Nat.le_refl _) (by omega)
        have hpr := h.2.2.2.1 r hr (by rw [hc]; exact Nat.dvd_trans hrc (Nat.dvd_mul_left _ _))
        have hrc2 := Nat.le_of_dvd (by omega) hrc
        have : p * p ≤ q * c := Nat.mul_le_mul hpq (by omega)
        omega
    subst hpr
    refine ⟨by omega, rise_snoc hq (Nat.le_refl _) h.1 (fun x hx => by have := h.2.1 x hx; omega) (by omega), ?_⟩
    rw [facs_snoc, Nat.pow_one]; exact h.2.2.1

end Go.Proofs.YtamhlkjfpdkhoaaGreatDoor
