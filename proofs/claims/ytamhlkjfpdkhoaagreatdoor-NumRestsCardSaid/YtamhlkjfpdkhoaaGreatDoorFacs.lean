/- Plain arithmetic: lists of primes, and division by one candidate after the other. No program is spoken of. -/
import Derived.Test.YtamhlkjfpdkhoaaGreatDoorEuler
namespace Go.Proofs.YtamhlkjfpdkhoaaGreatDoor

/-- The k-th candidate: 2, 3, and the numbers from 5 on that neither divides. -/
def cand (k : Nat) : Nat := if k = 0 then 2 else if k = 1 then 3 else if k % 2 = 0 then 5 + 6 * (k / 2 - 1) else 7 + 6 * (k / 2 - 1)

theorem prime_divisor : ∀ (f n : Nat), n ≤ f → 2 ≤ n → ∃ p, Pr p ∧ p ∣ n
  | 0, n, h, h2 => by omega
  | f + 1, n, h, h2 => by
    by_cases hp : ∃ d, d ∣ n ∧ d ≠ 1 ∧ d ≠ n
    · obtain ⟨d, hd, h1, hn⟩ := hp
      have hle := Nat.le_of_dvd (by omega) hd
      have h0 : d ≠ 0 := by
        rintro rfl
        have := Nat.eq_zero_of_zero_dvd hd; omega
      obtain ⟨p, hp, hpd⟩ := prime_divisor f d (by omega) (by omega)
      exact ⟨p, hp, Nat.dvd_trans hpd hd⟩
    · refine ⟨n, ⟨h2, fun d hd => ?_⟩, Nat.dvd_refl _⟩
      by_cases h1 : d = 1
      · exact .inl h1
      · by_cases hn : d = n
        · exact .inr hn
        · exact absurd ⟨d, hd, h1, hn⟩ hp

theorem Rise.weaken {b b' : Nat} : ∀ {l : List (Nat × Nat)}, Rise b l → b' ≤ b → Rise b' l
  | [], _, _ => trivial
  | (_, _) :: _, h, hb => ⟨by have := h.1; omega, h.2⟩

theorem Rise.lt_of_dvd {r : Nat} (hr : Pr r) : ∀ {l : List (Nat × Nat)} {b : Nat}, Rise b l → r ∣ facs l → b < r
  | [], _, _, h => by have := Nat.le_of_dvd (by simp [facs]) h; simp [facs] at this; have := hr.1; omega
  | (p, k) :: l, b, h, hd => by
    obtain ⟨h1, h2, h3, h4⟩ := h
    rcases hr.dvd_mul hd with hd | hd
    · rcases h2.2 r (hr.dvd_pow hd) with e | e
      · have := hr.1; omega
      · omega
    · have := Rise.lt_of_dvd hr h4 hd; omega

/-- The least candidate that divides is the first prime. -/
theorem Rise.head {p : Nat} {l : List (Nat × Nat)} (hp : 2 ≤ p) (h : Rise (p - 1) l) (hd : p ∣ facs l) : ∃ e l', l = (p, e) :: l' ∧ Pr p := by
  obtain ⟨r, hr, hrp⟩ := prime_divisor p p (Nat.le_refl _) hp
  have h1 := Rise.lt_of_dvd hr h (Nat.dvd_trans hrp hd)
  have h2 := Nat.le_of_dvd (by omega) hrp
  obtain rfl : r = p := by omega
  cases l with
  | nil => have := Nat.le_of_dvd (by simp [facs]) hd; simp [facs] at this; omega
  | cons a l =>
    obtain ⟨q, e⟩ := a
    obtain ⟨g1, g2, g3, g4⟩ := h
    refine ⟨e, l, ?_, hr⟩
    rcases hr.dvd_mul hd with hd | hd
    · rcases g2.2 r (hr.dvd_pow hd) with e | e
      · omega
      · rw [e]
    · have := Rise.lt_of_dvd hr g4 hd; omega

theorem Rise.skip {p : Nat} {l : List (Nat × Nat)} (h : Rise (p - 1) l) (hd : ¬ p ∣ facs l) : Rise p l := by
  cases l with
  | nil => trivial
  | cons a l =>
    obtain ⟨q, e⟩ := a
    obtain ⟨g1, g2, g3, g4⟩ := h
    refine ⟨?_, g2, g3, g4⟩
    rcases Nat.lt_or_ge p q with h' | h'
    · exact h'
    · exfalso; apply hd
      obtain rfl : q = p := by omega
      obtain ⟨j, rfl⟩ : ∃ j, e = j + 1 := ⟨e - 1, by omega⟩
      simp only [facs]; rw [Nat.pow_succ, Nat.mul_assoc]; exact Nat.dvd_trans (Nat.dvd_mul_right q (facs l)) (Nat.dvd_mul_left _ _)

theorem power_unique {p : Nat} (hp : 0 < p) {u v : Nat} (hu : ¬ p ∣ u) (hv : ¬ p ∣ v) : ∀ {i j : Nat}, p ^ i * u = p ^ j * v → i = j ∧ u = v
  | 0, 0, h => by simpa using h
  | 0, j + 1, h => by
    exfalso; apply hu
    rw [Nat.pow_zero, Nat.one_mul] at h
    rw [h, Nat.pow_succ, Nat.mul_comm (p ^ j), Nat.mul_assoc]; exact Nat.dvd_mul_right _ _
  | i + 1, 0, h => by
    exfalso; apply hv
    rw [Nat.pow_zero, Nat.one_mul] at h
    rw [← h, Nat.pow_succ, Nat.mul_comm (p ^ i), Nat.mul_assoc]; exact Nat.dvd_mul_right _ _
  | i + 1, j + 1, h => by
    rw [Nat.pow_succ, Nat.pow_succ, Nat.mul_comm (p ^ i), Nat.mul_comm (p ^ j), Nat.mul_assoc, Nat.mul_assoc] at h
    have := power_unique hp hu hv (Nat.eq_of_mul_eq_mul_left hp h)
    omega

/-- Behind the divisions by a candidate: it was no divisor, or the first prime. -/
theorem Rise.divided {p j v : Nat} {l : List (Nat × Nat)} (hp : 2 ≤ p) (h : Rise (p - 1) l) (hv : ¬ p ∣ v) (hj : p ^ j * v = facs l) :
    (j = 0 ∧ v = facs l ∧ Rise p l) ∨ (1 ≤ j ∧ ∃ l', l = (p, j) :: l' ∧ v = facs l' ∧ Rise p l') := by
  by_cases hd : p ∣ facs l
  · right
    obtain ⟨e, l', rfl, hpr⟩ := h.head hp hd
    obtain ⟨g1, g2, g3, g4⟩ := h
    have hn := rise_not_dvd hpr l' p g4 (Nat.le_refl _)
    obtain ⟨rfl, rfl⟩ := power_unique (by omega) hv hn hj
    exact ⟨g3, l', rfl, rfl, g4⟩
  · left
    have h0 : j = 0 := by
      rcases Nat.eq_zero_or_pos j with h0 | h0
      · exact h0
      · exfalso; apply hd
        obtain ⟨i, rfl⟩ : ∃ i, j = i + 1 := ⟨j - 1, by omega⟩
        rw [← hj, Nat.pow_succ, Nat.mul_comm (p ^ i), Nat.mul_assoc]; exact Nat.dvd_mul_right _ _
    subst h0
    exact ⟨rfl, by simpa using hj, h.skip hd⟩

theorem Rise.last {p : Nat} {l : List (Nat × Nat)} (hp : 2 ≤ p) (h : Rise (p - 1) l) (hlt : facs l < p * p) : l = [] ∨ ∃ q, l = [(q, 1)] ∧ 2 ≤ q := by
  cases l with
  | nil => exact .inl rfl
  | cons a l =>
    obtain ⟨q, e⟩ := a
    obtain ⟨g1, g2, g3, g4⟩ := h
    right
    have hpos := facs_pos l q g4
    have hq2 := g2.1
    have he : e = 1 := by
      rcases Nat.lt_or_ge 1 e with h2 | h2
      · exfalso
        have h3 : q ^ 2 ≤ q ^ e := Nat.pow_le_pow_right (by omega) h2
        have h4 : p * p ≤ q * q := Nat.mul_le_mul (by omega) (by omega)
        have h5 : q ^ e ≤ q ^ e * facs l := Nat.le_mul_of_pos_right _ hpos
        rw [Nat.pow_two] at h3
        simp only [facs] at hlt; omega
      · omega
    subst he
    cases l with
    | nil => exact ⟨q, rfl, hq2⟩
    | cons b l =>
      exfalso
      obtain ⟨r, f⟩ := b
      obtain ⟨k1, k2, k3, k4⟩ := g4
      have hpos2 := facs_pos l r k4
      have h3 : r ^ 1 ≤ r ^ f := Nat.pow_le_pow_right (by omega) k3
      rw [Nat.pow_one] at h3
      have h5 : r ^ f ≤ r ^ f * facs l := Nat.le_mul_of_pos_right _ hpos2
      have h6 : p * p ≤ q * (r ^ f * facs l) := Nat.mul_le_mul (by omega) (by omega)
      simp only [facs, Nat.pow_one] at hlt h6; omega

theorem Pr.not_two {q : Nat} (h : Pr q) (h2 : 2 < q) : q % 2 = 1 := by
  rcases Nat.mod_two_eq_zero_or_one q with h0 | h0
  · rcases h.2 2 (Nat.dvd_of_mod_eq_zero h0) with e | e <;> omega
  · exact h0

theorem Pr.not_three {q : Nat} (h : Pr q) (h2 : 3 < q) : q % 3 ≠ 0 := by
  intro h0
  rcases h.2 3 (Nat.dvd_of_mod_eq_zero h0) with e | e <;> omega

theorem cand_two (k : Nat) : 2 ≤ cand k := by
  unfold cand; split
  · omega
  · split
    · omega
    · split <;> omega

/-- No prime lies between two candidates. -/
theorem Rise.next {k : Nat} {l : List (Nat × Nat)} (h : Rise (cand k) l) : Rise (cand (k + 1) - 1) l := by
  cases l with
  | nil => trivial
  | cons a l =>
    obtain ⟨q, e⟩ := a
    obtain ⟨g1, g2, g3, g4⟩ := h
    refine ⟨?_, g2, g3, g4⟩
    have hk := cand_two k
    have m2 := g2.not_two (by omega)
    by_cases h3 : q = 3
    · subst h3
      unfold cand at g1 ⊢
      split at g1
      · subst_vars; simp
      · split at g1
        · omega
        · split at g1 <;> omega
    · have m3 := g2.not_three (by omega)
      unfold cand at g1 ⊢
      split at g1
      · subst_vars; simp; omega
      · rw [if_neg (by omega)]
        split at g1
        · subst_vars; simp; omega
        · rw [if_neg (by omega)]
          split at g1
          · rw [if_neg (by omega), show (k + 1) / 2 = k / 2 by omega]; omega
          · rw [if_pos (by omega), show (k + 1) / 2 = k / 2 + 1 by omega]; omega

theorem cand_big (k : Nat) : 3 * k ≤ cand k + 4 := by
  unfold cand; split
  · omega
  · split
    · omega
    · split <;> omega

theorem cand_small (k : Nat) : cand k ≤ 3 * k + 2 := by
  unfold cand; split
  · omega
  · split
    · omega
    · split <;> omega

theorem power_small {p j u v : Nat} (hp : 2 ≤ p) (hv : v ≤ 1000000000000) (hv0 : 0 < v) (h : p ^ j * u = v) : j < 40 := by
  have hu : 0 < u := by
    rcases Nat.eq_zero_or_pos u with h0 | h0
    · subst h0; simp at h; omega
    · exact h0
  have h1 : p ^ j ≤ p ^ j * u := Nat.le_mul_of_pos_right _ hu
  have h2 : 2 ^ j ≤ p ^ j := Nat.pow_le_pow_left hp j
  rcases Nat.lt_or_ge j 40 with h3 | h3
  · exact h3
  · have h4 : 2 ^ 40 ≤ 2 ^ j := Nat.pow_le_pow_right (by omega) h3
    have h5 : (2 : Nat) ^ 40 = 1099511627776 := by decide
    omega

theorem drop_cons {L : List (Nat × Nat)} {i : Nat} {a : Nat × Nat} {l : List (Nat × Nat)} (h : L.drop i = a :: l) : i < L.length ∧ L.getD i (0, 0) = a ∧ L.drop (i + 1) = l := by
  have h1 : (L.drop i)[0]? = some a := by rw [h]; rfl
  rw [List.getElem?_drop] at h1
  simp only [Nat.add_zero] at h1
  refine ⟨(List.getElem?_eq_some_iff.1 h1).1, by simp [List.getD, h1], ?_⟩
  rw [← List.tail_drop, h]; rfl

theorem root_small {p v : Nat} (h : p * p ≤ v) (hv : v ≤ 1000000000000) : p ≤ 1000000 := by
  rcases Nat.lt_or_ge 1000000 p with h1 | h1
  · have : 1000001 * 1000001 ≤ p * p := Nat.mul_le_mul h1 h1
    omega
  · exact h1

end Go.Proofs.YtamhlkjfpdkhoaaGreatDoor
