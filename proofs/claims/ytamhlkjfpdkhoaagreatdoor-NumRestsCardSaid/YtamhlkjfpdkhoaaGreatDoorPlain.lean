/- Plain facts on remainders of integers. -/
import Derived.Test.YtamhlkjfpdkhoaaGreatDoorEuler
namespace Go.Proofs.YtamhlkjfpdkhoaaGreatDoor
theorem emod_of_tmod {a m : Int} (hm : 0 < m) : (a.tmod m < 0 → a % m = a.tmod m + m) ∧ (0 ≤ a.tmod m → a % m = a.tmod m) ∧ -m < a.tmod m ∧ a.tmod m < m := by
  have h1 : a.tmod m = a - m * a.tdiv m := by have := Int.mul_tdiv_add_tmod a m; omega
  have h2 := Int.tmod_lt_of_pos a hm
  have h3 : -m < a.tmod m := by have := Int.lt_tmod_of_pos a hm; omega
  refine ⟨fun h => ?_, fun h => ?_, h3, h2⟩
  · have e : a = (a.tmod m + m) + m * (a.tdiv m - 1) := by rw [Int.mul_sub]; omega
    conv => lhs; rw [e]
    rw [Int.add_mul_emod_self_left, Int.emod_eq_of_lt (by omega) (by omega)]
  · have e : a = a.tmod m + m * a.tdiv m := by omega
    conv => lhs; rw [e]
    rw [Int.add_mul_emod_self_left, Int.emod_eq_of_lt h h2]

theorem prod_odd {o a b m : Nat} (h : b % 2 = 1) : ((o + a) % m + (a + a) % m * (b / 2)) % m = (o + a * b) % m := by
  have e : a * b = a + (a + a) * (b / 2) := by
    conv => lhs; rw [show b = 1 + 2 * (b / 2) by omega]
    rw [Nat.mul_add, Nat.mul_one, ← Nat.mul_assoc]; congr 2; omega
  rw [e, ← Nat.add_assoc, Nat.add_mod, Nat.mod_mod, Nat.mul_mod, Nat.mod_mod, ← Nat.mul_mod, ← Nat.add_mod]

theorem prod_even {o a b m : Nat} (h : b % 2 = 0) : (o + (a + a) % m * (b / 2)) % m = (o + a * b) % m := by
  have e : a * b = (a + a) * (b / 2) := by
    conv => lhs; rw [show b = 2 * (b / 2) by omega]
    rw [← Nat.mul_assoc]; congr 1; omega
  rw [e, Nat.add_mod, Nat.mul_mod, Nat.mod_mod, ← Nat.mul_mod, ← Nat.add_mod]

theorem pow_half {a n m : Nat} : ((a * a % m) ^ (n / 2)) % m = (a ^ (2 * (n / 2))) % m := by
  rw [← Nat.pow_mod, Nat.pow_mul, Nat.pow_two]

theorem pow_odd {o a n m : Nat} (h : n % 2 = 1) : (o * a % m * (a * a % m) ^ (n / 2)) % m = (o * a ^ n) % m := by
  rw [Nat.mul_mod, Nat.mod_mod, pow_half, ← Nat.mul_mod, Nat.mul_assoc, ← Nat.pow_succ']
  congr 2; congr 1; omega

theorem pow_even {o a n m : Nat} (h : n % 2 = 0) : (o * (a * a % m) ^ (n / 2)) % m = (o * a ^ n) % m := by
  rw [Nat.mul_mod, pow_half, ← Nat.mul_mod]
  congr 2; congr 1; omega

/-- What a step of Euclid's algorithm with factors keeps. -/
def Eu (a m c n : Nat) (x y : Int) : Prop :=
  Nat.gcd c n = Nat.gcd a m ∧ (m : Int) ∣ a * x - c ∧ (m : Int) ∣ a * y - n ∧ y.natAbs * c + x.natAbs * n = m ∧ ((0 ≤ x ∧ y ≤ 0) ∨ (x ≤ 0 ∧ 0 ≤ y))

theorem Eu.start (a m : Nat) : Eu a m a m 1 0 := ⟨rfl, ⟨0, by omega⟩, ⟨-1, by omega⟩, by simp, .inl ⟨by omega, by omega⟩⟩

theorem Eu.step {a m c n : Nat} {x y : Int} (h : Eu a m c n x y) (_hn : 0 < n) : Eu a m n (c % n) y (x - (c / n : Nat) * y) := by
  obtain ⟨h1, ⟨u, hu⟩, ⟨v, hv⟩, h4, h5⟩ := h
  have hc := Nat.div_add_mod c n
  have hcI : (n : Int) * (c / n : Nat) + (c % n : Nat) = c := by exact_mod_cast hc
  refine ⟨?_, ⟨v, hv⟩, ⟨u - (c / n : Nat) * v, ?_⟩, ?_, ?_⟩
  · rw [← h1, Nat.gcd_comm c n, Nat.gcd_rec n c, Nat.gcd_comm]
  · generalize ((c / n : Nat) : Int) = q at *
    grind
  · have e : (x - (c / n : Nat) * y).natAbs = x.natAbs + c / n * y.natAbs := by
      have hq : 0 ≤ ((c / n : Nat) : Int) := Int.natCast_nonneg _
      have e2 : (((c / n : Nat) : Int) * y).natAbs = c / n * y.natAbs := by rw [Int.natAbs_mul, Int.natAbs_natCast]
      rcases h5 with ⟨hx, hy⟩ | ⟨hx, hy⟩
      · have : ((c / n : Nat) : Int) * y ≤ 0 := Int.mul_nonpos_of_nonneg_of_nonpos hq hy
        omega
      · have : 0 ≤ ((c / n : Nat) : Int) * y := Int.mul_nonneg hq hy
        omega
    rw [e]
    have : x.natAbs * n + y.natAbs * (n * (c / n) + c % n) = m := by rw [hc]; omega
    generalize c / n = q at *
    generalize c % n = r at *
    generalize x.natAbs = X at *
    generalize y.natAbs = Y at *
    rw [← this]
    simp only [Nat.mul_add, Nat.mul_comm, Nat.mul_left_comm]
    omega
  · have hq : 0 ≤ ((c / n : Nat) : Int) := Int.natCast_nonneg _
    rcases h5 with ⟨hx, hy⟩ | ⟨hx, hy⟩
    · have : ((c / n : Nat) : Int) * y ≤ 0 := Int.mul_nonpos_of_nonneg_of_nonpos hq hy
      right; omega
    · have : 0 ≤ ((c / n : Nat) : Int) * y := Int.mul_nonneg hq hy
      left; omega

theorem Eu.bound {a m c n : Nat} {x y : Int} (h : Eu a m c n x y) (hn : 0 < n) : -(m : Int) ≤ x ∧ x ≤ m ∧ -(m : Int) ≤ x - (c / n : Nat) * y ∧ x - (c / n : Nat) * y ≤ m ∧ -(m : Int) ≤ (c / n : Nat) * y ∧ (c / n : Nat) * y ≤ m := by
  have h' := (h.step hn).2.2.2.1
  have h4 := h.2.2.2.1
  have h5 := h.2.2.2.2
  have hxn : x.natAbs ≤ x.natAbs * n := Nat.le_mul_of_pos_right _ hn
  have hyn : (x - (c / n : Nat) * y).natAbs ≤ (x - (c / n : Nat) * y).natAbs * n := Nat.le_mul_of_pos_right _ hn
  have e2 : (((c / n : Nat) : Int) * y).natAbs = c / n * y.natAbs := by rw [Int.natAbs_mul, Int.natAbs_natCast]
  have e3 : c / n * y.natAbs ≤ y.natAbs * c := by rw [Nat.mul_comm]; exact Nat.mul_le_mul_left _ (Nat.div_le_self _ _)
  omega

theorem Eu.finish {a m c : Nat} {x y : Int} (hm : 0 < m) (h : Eu a m c 0 x y) : c = Nat.gcd a m ∧ ∃ z : Nat, x % (m : Int) = z ∧ z < m ∧ a * z % m = Nat.gcd a m % m := by
  obtain ⟨h1, ⟨u, hu⟩, _⟩ := h
  have hc : c = Nat.gcd a m := by rw [← h1, Nat.gcd_zero_right]
  refine ⟨hc, (x % (m : Int)).toNat, ?_, ?_, ?_⟩
  · have := Int.emod_nonneg x (b := (m : Int)) (by omega); omega
  · have := Int.emod_nonneg x (b := (m : Int)) (by omega)
    have := Int.emod_lt_of_pos x (b := (m : Int)) (by omega); omega
  · have h0 := Int.emod_nonneg x (b := (m : Int)) (by omega)
    have e : (((x % (m : Int)).toNat : Nat) : Int) = x % (m : Int) := by omega
    have : (((a * (x % (m : Int)).toNat % m : Nat)) : Int) = ((Nat.gcd a m % m : Nat) : Int) := by
      rw [Int.natCast_emod, Int.natCast_mul, e, ← hc, Int.natCast_emod]
      rw [Int.mul_emod, Int.emod_emod, ← Int.mul_emod]
      have : (a : Int) * x = c + m * u := by omega
      rw [this, Int.add_mul_emod_self_left]
    exact_mod_cast this

/-- The number with two rests, by a factor x with m x leaving the rest d by n. -/
theorem meet_math {m n d m' own : Nat} {x r1 r2 q st : Int} (hd : 0 < d) (hm : m = d * m') (hn : n = d * own)
    (hx : (n : Int) ∣ m * x - d) (hq : r2 - r1 = d * q) (hst : (own : Int) ∣ q * x - st) : (n : Int) ∣ r1 + m * st - r2 := by
  subst hm hn
  obtain ⟨u, hu⟩ := hx
  obtain ⟨t, ht⟩ := hst
  simp only [Int.natCast_mul] at *
  have hd' : (d : Int) ≠ 0 := by omega
  have h1 : (m' : Int) * x - 1 = own * u := by
    apply Int.eq_of_mul_eq_mul_left hd'
    grind
  refine ⟨q * u - m' * t, ?_⟩
  have h2 : st = q * x - own * t := by omega
  subst h2
  have h3 : r2 = r1 + d * q := by omega
  subst h3
  grind

theorem emod_of_dvd {a r : Int} {n : Nat} (h : (n : Int) ∣ a - r) (h0 : 0 ≤ r) (h1 : r < n) : a % n = r := by
  obtain ⟨k, hk⟩ := h
  have : a = r + n * k := by omega
  rw [this, Int.add_mul_emod_self_left, Int.emod_eq_of_lt h0 h1]

theorem dvd_of_emod {a : Int} {n : Nat} {r : Int} (h : a % n = r) : (n : Int) ∣ a - r := by
  refine ⟨a / n, ?_⟩
  have := Int.emod_def a n
  omega

end Go.Proofs.YtamhlkjfpdkhoaaGreatDoor
