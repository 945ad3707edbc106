/- Plain facts: the length of a number in bits; a division by estimates. No program is spoken of. -/
import Derived.Lib.BitFns
namespace Go.Proofs.YtamhlkjfpdkhoaaGreatDoor

theorem bitLenAux_spec : ∀ (f x : Nat), x < 2 ^ f → Lib.bitLenAux f x ≤ f ∧ x < 2 ^ Lib.bitLenAux f x ∧ (0 < x → 1 ≤ Lib.bitLenAux f x ∧ 2 ^ (Lib.bitLenAux f x - 1) ≤ x) ∧ (x = 0 → Lib.bitLenAux f x = 0)
  | 0, x, h => by simp [Lib.bitLenAux]; omega
  | f + 1, x, h => by
    simp only [Lib.bitLenAux]
    by_cases h0 : x = 0
    · subst h0; simp
    · rw [if_neg h0]
      obtain ⟨h1, h2, h3, h6⟩ := bitLenAux_spec f (x / 2) (by rw [Nat.pow_succ] at h; omega)
      by_cases hx : 0 < x / 2
      · generalize Lib.bitLenAux f (x / 2) = b at *
        obtain ⟨h4, h5⟩ := h3 hx
        obtain ⟨c, rfl⟩ : ∃ c, b = c + 1 := ⟨b - 1, by omega⟩
        simp only [Nat.add_sub_cancel] at h5
        refine ⟨by omega, by rw [Nat.add_comm, Nat.pow_succ]; omega, fun _ => ⟨by omega, ?_⟩, fun h => absurd h h0⟩
        rw [show 1 + (c + 1) - 1 = c + 1 by omega, Nat.pow_succ]
        omega
      · rw [h6 (by omega)]
        refine ⟨by omega, by omega, fun _ => ⟨by omega, by simp; omega⟩, fun h => absurd h h0⟩

/-- The shift that sets the highest bit of a word. -/
theorem lead (y : Nat) (h0 : 0 < y) (h : y < 18446744073709551616) :
    ∃ s : Nat, (64 : Int) - (Lib.bitLen y : Int) = s ∧ s ≤ 63 ∧ 9223372036854775808 ≤ y * 2 ^ s ∧ y * 2 ^ s < 18446744073709551616 := by
  obtain ⟨h1, h2, h3, _⟩ := bitLenAux_spec 64 y h
  obtain ⟨h4, h5⟩ := h3 h0
  unfold Lib.bitLen
  generalize Lib.bitLenAux 64 y = b at *
  refine ⟨64 - b, by omega, by omega, ?_, ?_⟩
  · have : 2 ^ (b - 1) * 2 ^ (64 - b) ≤ y * 2 ^ (64 - b) := Nat.mul_le_mul_right _ h5
    rw [← Nat.pow_add, show b - 1 + (64 - b) = 63 by omega] at this
    exact this
  · have : y * 2 ^ (64 - b) < 2 ^ b * 2 ^ (64 - b) := Nat.mul_lt_mul_of_pos_right h2 (Nat.pow_pos (by omega))
    rw [← Nat.pow_add, show b + (64 - b) = 64 by omega] at this
    exact this

/-- An estimate q of the quotient of u 2^32 + d by v = v1 2^32 + v0, and what it leaves of u. -/
def Kn (u v1 v0 d q r : Nat) : Prop := q * v1 + r = u ∧ (u * 4294967296 + d) / (v1 * 4294967296 + v0) ≤ q

theorem Kn.start {u v1 v0 d : Nat} (hv : 0 < v1) (hd : d < 4294967296) : Kn u v1 v0 d (u / v1) (u - u / v1 * v1) := by
  constructor
  · have := Nat.div_mul_le_self u v1; omega
  · calc (u * 4294967296 + d) / (v1 * 4294967296 + v0) ≤ (u * 4294967296 + d) / (v1 * 4294967296) := Nat.div_le_div_left (by omega) (by omega)
      _ = u / v1 := by
        rw [Nat.mul_comm v1, ← Nat.div_div_eq_div_mul]
        congr 1; omega

theorem Kn.step {u v1 v0 d q r : Nat} (h : Kn u v1 v0 d q r) (hu : u < v1 * 4294967296 + v0) (hd : d < 4294967296) (hc : 4294967296 ≤ q ∨ 4294967296 * r + d < q * v0) (hq : 1 ≤ q) : Kn u v1 v0 d (q - 1) (r + v1) := by
  obtain ⟨h1, h2⟩ := h
  have hv : 0 < v1 * 4294967296 + v0 := by omega
  constructor
  · obtain ⟨c, rfl⟩ : ∃ c, q = c + 1 := ⟨q - 1, by omega⟩
    rw [Nat.add_mul] at h1; simp only [Nat.add_sub_cancel]; omega
  · have : (u * 4294967296 + d) / (v1 * 4294967296 + v0) < q := by
      rw [Nat.div_lt_iff_lt_mul hv]
      rcases hc with hc | hc
      · have : 4294967296 * (v1 * 4294967296 + v0) ≤ q * (v1 * 4294967296 + v0) := Nat.mul_le_mul_right _ hc
        omega
      · rw [Nat.mul_add, ← Nat.mul_assoc, ← h1, Nat.add_mul]; omega
    omega

theorem Kn.done {u v1 v0 d q r : Nat} (h : Kn u v1 v0 d q r) (hu : u < v1 * 4294967296 + v0) (hv0 : v0 < 4294967296) (hd : d < 4294967296) (hc : 4294967296 ≤ r ∨ q * v0 ≤ 4294967296 * r + d) : q = (u * 4294967296 + d) / (v1 * 4294967296 + v0) := by
  obtain ⟨h1, h2⟩ := h
  have hv : 0 < v1 * 4294967296 + v0 := by omega
  apply Nat.le_antisymm _ h2
  rw [Nat.le_div_iff_mul_le hv, Nat.mul_add, ← Nat.mul_assoc, ← h1, Nat.add_mul]
  rcases hc with hc | hc
  · have hq : q ≤ 4294967296 := by
      rcases Nat.lt_or_ge 4294967296 q with hlt | hge
      · have : 4294967296 * v1 < q * v1 := Nat.mul_lt_mul_of_pos_right hlt (by
          rcases Nat.eq_zero_or_pos v1 with h0 | h0
          · subst h0; omega
          · exact h0)
        omega
      · exact hge
    have : q * v0 ≤ 4294967296 * v0 := Nat.mul_le_mul_right _ hq
    have : 4294967296 * 4294967296 ≤ 4294967296 * r := Nat.mul_le_mul_left _ hc
    omega
  · omega

/-- The estimate is small where the divisor's highest bit is set. -/
theorem Kn.le {u v1 v0 d q r : Nat} (h : Kn u v1 v0 d q r) (hu : u < v1 * 4294967296 + v0) (hv0 : v0 < 4294967296) (hv1 : 2147483648 ≤ v1) : q ≤ 4294967297 := by
  obtain ⟨h1, _⟩ := h
  rcases Nat.lt_or_ge 4294967297 q with hlt | hge
  · have : 4294967298 * v1 ≤ q * v1 := Nat.mul_le_mul_right _ (by omega)
    omega
  · exact hge

theorem split_word {M u L d1 d0 : Nat} (hN : M = u*18446744073709551616 + L) (h1: L/4294967296 = d1) (h0 : L%4294967296 = d0) : M = (u*4294967296+d1)*4294967296+d0 := by
  have := Nat.div_add_mod L 4294967296
  rw [h1, h0] at this
  clear h1 h0
  rw [hN, ← this]
  clear hN this
  omega

/-- Both divisions by estimates, put together; N = hi 2^64 + lo, everything times 2^s. -/
theorem two_steps {N y s u L Y d1 d0 : Nat} (hy : 0 < y) (hY : y * 2 ^ s = Y) (hN : N * 2 ^ s = u * 18446744073709551616 + L) (hd1 : L / 4294967296 = d1) (hd0 : L % 4294967296 = d0) :
    N / y = (u * 4294967296 + d1) / Y * 4294967296 + ((u * 4294967296 + d1) % Y * 4294967296 + d0) / Y ∧ N % y = ((u * 4294967296 + d1) % Y * 4294967296 + d0) % Y / 2 ^ s := by
  have h2 : 0 < 2 ^ s := Nat.pow_pos (by omega)
  have hYp : 0 < Y := by rw [← hY]; exact Nat.mul_pos hy h2
  have e1 : N / y = N * 2 ^ s / Y := by rw [← hY, Nat.mul_div_mul_right _ _ h2]
  have e2 : N % y = N * 2 ^ s % Y / 2 ^ s := by rw [← hY, Nat.mul_mod_mul_right, Nat.mul_div_cancel _ h2]
  have e3 : N * 2 ^ s = (u * 4294967296 + d1) * 4294967296 + d0 := split_word hN hd1 hd0
  have e4 := Nat.div_add_mod (u * 4294967296 + d1) Y
  have e5 : N * 2 ^ s = Y * ((u * 4294967296 + d1) / Y * 4294967296) + ((u * 4294967296 + d1) % Y * 4294967296 + d0) := by
    rw [e3]
    conv => lhs; rw [← e4]
    rw [Nat.add_mul, ← Nat.mul_assoc]; omega
  rw [e1, e2, e5]
  constructor
  · rw [Nat.mul_add_div hYp]
  · rw [Nat.mul_add_mod]

theorem p64 : (18446744073709551616 : Nat) = 2 ^ 64 := by simp

theorem norm_eq {hi lo s : Nat} (hs : s ≤ 63) : (hi * 18446744073709551616 + lo) * 2 ^ s = (hi * 2 ^ s + lo / 2 ^ (64 - s)) * 18446744073709551616 + lo * 2 ^ s % 18446744073709551616 := by
  have h64 : (18446744073709551616 : Nat) = 2 ^ (64 - s) * 2 ^ s := p64.trans (by rw [← Nat.pow_add, show 64 - s + s = 64 by omega])
  have e : lo / 2 ^ (64 - s) = lo * 2 ^ s / 18446744073709551616 := by
    rw [h64, Nat.mul_div_mul_right _ _ (Nat.pow_pos (by omega))]
  have := Nat.div_add_mod (lo * 2 ^ s) 18446744073709551616
  rw [e, Nat.add_mul, Nat.add_mul, Nat.mul_right_comm]; omega

/-- A product of two half words. -/
theorem half_words {a b : Nat} (ha : a < 4294967296) (hb : b < 4294967296) : 0 ≤ (a : Int) * b ∧ (a : Int) * b < 18446744073709551616 := by
  have h : a * b ≤ 4294967295 * 4294967295 := Nat.mul_le_mul (by omega) (by omega)
  have e : ((a * b : Nat) : Int) = (a : Int) * b := Int.natCast_mul _ _
  rw [← e]; omega

/-- The ways of a round: it goes on (2), it leaves in its middle (2), or at its head. -/
theorem Kn.ways {u v1 v0 d q r Q : Nat} (h : Kn u v1 v0 d q r) (hu : u < v1 * 4294967296 + v0) (hv0 : v0 < 4294967296) (hd : d < 4294967296) (hQ : (u * 4294967296 + d) / (v1 * 4294967296 + v0) = Q) :
    (∃ c, q = c + 1 ∧ (4294967296 : Int) ≤ (c : Int) + 1 ∧ (r : Int) + v1 < 4294967296 ∧ Kn u v1 v0 d c (r + v1)) ∨
    (∃ c, q = c + 1 ∧ (c : Int) + 1 < 4294967296 ∧ 4294967296 * (r : Int) + d < ((c : Int) + 1) * v0 ∧ 0 ≤ ((c : Int) + 1) * v0 ∧ ((c : Int) + 1) * v0 < 18446744073709551616 ∧ (r : Int) + v1 < 4294967296 ∧ Kn u v1 v0 d c (r + v1)) ∨
    (q = Q + 1 ∧ (4294967296 : Int) ≤ (Q : Int) + 1 ∧ 4294967296 ≤ (r : Int) + v1) ∨
    (q = Q + 1 ∧ (Q : Int) + 1 < 4294967296 ∧ 4294967296 * (r : Int) + d < ((Q : Int) + 1) * v0 ∧ 0 ≤ ((Q : Int) + 1) * v0 ∧ ((Q : Int) + 1) * v0 < 18446744073709551616 ∧ 4294967296 ≤ (r : Int) + v1) ∨
    (q = Q ∧ (Q : Int) < 4294967296 ∧ (Q : Int) * v0 ≤ 4294967296 * (r : Int) + d ∧ 0 ≤ (Q : Int) * v0 ∧ (Q : Int) * v0 < 18446744073709551616) := by
  by_cases hA : 4294967296 ≤ q
  · obtain ⟨c, rfl⟩ : ∃ c, q = c + 1 := ⟨q - 1, by omega⟩
    have hs := h.step hu hd (.inl hA) (by omega)
    simp only [Nat.add_sub_cancel] at hs
    by_cases hC : 4294967296 ≤ r + v1
    · have := hs.done hu hv0 hd (.inl hC)
      rw [hQ] at this; subst this
      exact .inr (.inr (.inl ⟨rfl, by omega, by omega⟩))
    · exact .inl ⟨c, rfl, by omega, by omega, hs⟩
  · have hw := half_words (a := q) (b := v0) (by omega) hv0
    have cast : ((q * v0 : Nat) : Int) = (q : Int) * v0 := Int.natCast_mul _ _
    by_cases hB : 4294967296 * r + d < q * v0
    · obtain ⟨c, rfl⟩ : ∃ c, q = c + 1 := ⟨q - 1, by
        rcases Nat.eq_zero_or_pos q with h0 | h0
        · subst h0; simp at hB
        · omega⟩
      have hs := h.step hu hd (.inr hB) (by omega)
      simp only [Nat.add_sub_cancel] at hs
      have e1 : ((c + 1 : Nat) : Int) = (c : Int) + 1 := by omega
      rw [e1] at hw cast
      generalize (c + 1) * v0 = P at *
      by_cases hC : 4294967296 ≤ r + v1
      · have := hs.done hu hv0 hd (.inl hC)
        rw [hQ] at this; subst this
        exact .inr (.inr (.inr (.inl ⟨rfl, by omega, by omega, hw.1, hw.2, by omega⟩)))
      · exact .inr (.inl ⟨c, rfl, by omega, by omega, hw.1, hw.2, by omega, hs⟩)
    · have := h.done hu hv0 hd (.inr (by omega))
      rw [hQ] at this; subst this
      generalize q * v0 = P at *
      exact .inr (.inr (.inr (.inr ⟨rfl, by omega, by omega, hw.1, hw.2⟩)))

end Go.Proofs.YtamhlkjfpdkhoaaGreatDoor
