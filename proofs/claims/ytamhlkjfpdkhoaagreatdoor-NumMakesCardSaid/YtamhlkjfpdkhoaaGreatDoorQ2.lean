/- Plain arithmetic: primes, powers, remainders, lists of primes and of divisors. No program is spoken of. -/
/-! Euler: Plain arithmetic: permutations of lists, products, the theorems of Fermat and Euler. No program is spoken of. -/
namespace Go.Proofs.YtamhlkjfpdkhoaaGreatDoor

/-- A number without divisors but 1 and itself. -/
def Pr (p : Nat) : Prop := 2 ≤ p ∧ ∀ d, d ∣ p → d = 1 ∨ d = p

theorem perm_of_nodup : ∀ (l1 l2 : List Nat), l1.Nodup → (∀ x ∈ l1, x ∈ l2) → l2.length ≤ l1.length → l1.Perm l2
  | [], l2, _, _, h => by
    have : l2 = [] := List.eq_nil_of_length_eq_zero (by simpa using h)
    subst this; exact List.Perm.refl _
  | x :: l, l2, hn, hs, h => by
    have hx : x ∈ l2 := hs x (by simp)
    have hp := List.perm_cons_erase hx
    have hl : (l2.erase x).length + 1 = l2.length := by
      have := hp.length_eq; simpa using this.symm
    rw [List.nodup_cons] at hn
    have ih := perm_of_nodup l (l2.erase x) hn.2 (fun y hy => by
      have h1 := hs y (by simp [hy])
      have h2 := hp.mem_iff.1 h1
      rw [List.mem_cons] at h2
      rcases h2 with h2 | h2
      · subst h2; exact absurd hy hn.1
      · exact h2) (by simp at h; omega)
    exact (List.Perm.cons x ih).trans hp.symm

def prd : List Nat → Nat
  | [] => 1
  | x :: l => x * prd l

theorem prd_perm {l1 l2 : List Nat} (h : l1.Perm l2) : prd l1 = prd l2 := by
  induction h with
  | nil => rfl
  | cons x _ ih => simp [prd, ih]
  | swap x y l => simp [prd, Nat.mul_left_comm]
  | trans _ _ ih1 ih2 => rw [ih1, ih2]

theorem prd_map_mul (m a : Nat) : ∀ l : List Nat, prd (l.map fun k => a * k % m) % m = a ^ l.length * prd l % m
  | [] => by simp [prd]
  | x :: l => by
    have ih := prd_map_mul m a l
    simp only [List.map_cons, prd, List.length_cons]
    rw [Nat.mul_mod, Nat.mod_mod, ih, ← Nat.mul_mod, Nat.pow_succ]
    congr 1
    simp only [Nat.mul_assoc, Nat.mul_left_comm, Nat.mul_comm]

theorem Pr.coprime {p a : Nat} (hp : Pr p) (h : ¬ p ∣ a) : Nat.Coprime p a := by
  rcases hp.2 (Nat.gcd p a) (Nat.gcd_dvd_left _ _) with h1 | h1
  · exact h1
  · exact absurd (h1 ▸ Nat.gcd_dvd_right p a) h

theorem Pr.dvd_mul {p a b : Nat} (hp : Pr p) (h : p ∣ a * b) : p ∣ a ∨ p ∣ b := by
  by_cases ha : p ∣ a
  · exact .inl ha
  · exact .inr ((hp.coprime ha).dvd_of_dvd_mul_left h)

theorem not_dvd_prd {p : Nat} (hp : Pr p) : ∀ l : List Nat, (∀ x ∈ l, ¬ p ∣ x) → ¬ p ∣ prd l
  | [], _, h => by
    have := Nat.le_of_dvd (by simp [prd]) h; simp [prd] at this; have := hp.1; omega
  | x :: l, hx, h => by
    rcases hp.dvd_mul h with h | h
    · exact hx x (by simp) h
    · exact not_dvd_prd hp l (fun y hy => hx y (by simp [hy])) h

theorem mod_eq_dvd {m a b : Nat} (hab : a ≤ b) : a % m = b % m ↔ m ∣ b - a := by
  constructor
  · intro h
    exact Nat.dvd_of_mod_eq_zero (Nat.sub_mod_eq_zero_of_mod_eq h.symm)
  · rintro ⟨c, hc⟩
    have : b = a + m * c := by omega
    rw [this, Nat.add_mul_mod_self_left]

/-- Cancelling a factor modulo m. -/
theorem cancel_mod {m c a b : Nat} (hc : Nat.Coprime m c) (h : c * a % m = c * b % m) : a % m = b % m := by
  rcases Nat.le_total a b with hab | hab
  · have h1 : m ∣ c * b - c * a := (mod_eq_dvd (Nat.mul_le_mul_left c hab)).1 h
    rw [← Nat.mul_sub] at h1
    exact (mod_eq_dvd hab).2 (hc.dvd_of_dvd_mul_left h1)
  · have h1 : m ∣ c * a - c * b := (mod_eq_dvd (Nat.mul_le_mul_left c hab)).1 h.symm
    rw [← Nat.mul_sub] at h1
    exact ((mod_eq_dvd hab).2 (hc.dvd_of_dvd_mul_left h1)).symm

theorem nodup_map_of {f : Nat → Nat} : ∀ l : List Nat, l.Nodup → (∀ x ∈ l, ∀ y ∈ l, f x = f y → x = y) → (l.map f).Nodup
  | [], _, _ => by simp
  | x :: l, h, hf => by
    rw [List.nodup_cons] at h
    rw [List.map_cons, List.nodup_cons]
    refine ⟨?_, nodup_map_of l h.2 fun a ha b hb => hf a (by simp [ha]) b (by simp [hb])⟩
    intro hm
    obtain ⟨y, hy, he⟩ := List.mem_map.1 hm
    have := hf y (by simp [hy]) x (by simp) he
    exact h.1 (this ▸ hy)

/-- Fermat. -/
theorem fermat {p a : Nat} (hp : Pr p) (ha : ¬ p ∣ a) : a ^ (p - 1) % p = 1 % p := by
  have h2 := hp.1
  let L := List.range' 1 (p - 1)
  have hL : ∀ x, x ∈ L ↔ 1 ≤ x ∧ x < p := by
    intro x; simp only [L, List.mem_range'_1]; omega
  have hlen : L.length = p - 1 := by simp [L]
  have hnd : L.Nodup := List.nodup_range'
  have hnp : ∀ x ∈ L, ¬ p ∣ x := by
    intro x hx hd
    have := Nat.le_of_dvd (by have := (hL x).1 hx; omega) hd
    have := (hL x).1 hx; omega
  have hcop := hp.coprime ha
  have hperm : (L.map fun k => a * k % p).Perm L := by
    refine perm_of_nodup _ _ (nodup_map_of L hnd ?_) ?_ (by simp)
    · intro x hx y hy he
      have hxy := cancel_mod hcop he
      have h1 := (hL x).1 hx; have h2 := (hL y).1 hy
      rwa [Nat.mod_eq_of_lt h1.2, Nat.mod_eq_of_lt h2.2] at hxy
    · intro y hy
      obtain ⟨x, hx, rfl⟩ := List.mem_map.1 hy
      rw [hL]
      refine ⟨?_, Nat.mod_lt _ (by omega)⟩
      rcases Nat.eq_zero_or_pos (a * x % p) with h0 | h0
      · rcases hp.dvd_mul (Nat.dvd_of_mod_eq_zero h0) with h | h
        · exact absurd h ha
        · exact absurd h (hnp x hx)
      · exact h0
  have h1 := prd_map_mul p a L
  rw [prd_perm hperm, hlen] at h1
  have hc : Nat.Coprime p (prd L) := hp.coprime (not_dvd_prd hp L hnp)
  have h3 : prd L * a ^ (p - 1) % p = prd L * 1 % p := by
    rw [Nat.mul_one, h1, Nat.mul_comm]
  exact cancel_mod hc h3

theorem one_add_pow (y : Nat) : ∀ n : Nat, ∃ c, (1 + y) ^ n = 1 + n * y + y * y * c
  | 0 => ⟨0, by simp⟩
  | n + 1 => by
    obtain ⟨c, hc⟩ := one_add_pow y n
    refine ⟨c + c * y + n, ?_⟩
    rw [Nat.pow_succ, hc]
    simp only [Nat.mul_add, Nat.mul_one, Nat.mul_comm, Nat.mul_left_comm]
    omega

theorem lift_one {p k x : Nat} (hp : 2 ≤ p) (hk : 1 ≤ k) (h : x % p ^ k = 1 % p ^ k) : x ^ p % p ^ (k + 1) = 1 % p ^ (k + 1) := by
  have hpk : 2 ≤ p ^ k := by
    calc 2 ≤ p := hp
      _ = p ^ 1 := (Nat.pow_one p).symm
      _ ≤ p ^ k := Nat.pow_le_pow_right (by omega) hk
  rw [Nat.mod_eq_of_lt (by omega : 1 < p ^ k)] at h
  have hx : x = 1 + p ^ k * (x / p ^ k) := by
    have := Nat.mod_add_div x (p ^ k); omega
  generalize x / p ^ k = t at hx
  subst hx
  obtain ⟨c, hc⟩ := one_add_pow (p ^ k * t) p
  rw [hc]
  have e1 : p * (p ^ k * t) = p ^ (k + 1) * t := by
    rw [Nat.pow_succ, Nat.mul_comm (p ^ k) p, Nat.mul_assoc]
  obtain ⟨j, rfl⟩ : ∃ j, k = j + 1 := ⟨k - 1, by omega⟩
  have e2 : p ^ (j + 1) * t * (p ^ (j + 1) * t) * c = p ^ (j + 1 + 1) * (t * (p ^ j * t) * c) := by
    simp only [Nat.pow_succ, Nat.mul_comm, Nat.mul_left_comm]
  rw [e1, e2, Nat.add_assoc, ← Nat.mul_add, Nat.add_mul_mod_self_left]

theorem pow_mod_one {m a : Nat} (n : Nat) (h : a % m = 1 % m) : a ^ n % m = 1 % m := by
  rw [Nat.pow_mod, h, ← Nat.pow_mod, Nat.one_pow]

theorem euler_pp {p a : Nat} (hp : Pr p) (ha : ¬ p ∣ a) : ∀ k, a ^ ((p - 1) * p ^ k) % p ^ (k + 1) = 1 % p ^ (k + 1)
  | 0 => by simpa using fermat hp ha
  | k + 1 => by
    have ih := lift_one hp.1 (by omega) (euler_pp hp ha k)
    rw [Nat.pow_succ p k, ← Nat.mul_assoc, Nat.pow_mul]; exact ih

/-- The list of primes, rising, each with how often it divides: the number. -/
def facs : List (Nat × Nat) → Nat
  | [] => 1
  | (p, k) :: l => p ^ k * facs l

def phi : List (Nat × Nat) → Nat
  | [] => 1
  | (p, k) :: l => (p - 1) * p ^ (k - 1) * phi l

/-- Primes rising above a bound, each at least once. -/
def Rise : Nat → List (Nat × Nat) → Prop
  | _, [] => True
  | b, (p, k) :: l => b < p ∧ Pr p ∧ 1 ≤ k ∧ Rise p l

theorem Pr.dvd_pow {p a : Nat} (hp : Pr p) : ∀ {k}, p ∣ a ^ k → p ∣ a
  | 0, h => by
    rw [Nat.pow_zero] at h
    have := Nat.le_of_dvd (by omega) h; have := hp.1; omega
  | k + 1, h => by
    rw [Nat.pow_succ] at h
    rcases hp.dvd_mul h with h | h
    · exact hp.dvd_pow h
    · exact h

theorem rise_not_dvd {q : Nat} (hq : Pr q) : ∀ (l : List (Nat × Nat)) (b : Nat), Rise b l → q ≤ b → ¬ q ∣ facs l
  | [], _, _, _, h => by have := Nat.le_of_dvd (by simp [facs]) h; simp [facs] at this; have := hq.1; omega
  | (p, k) :: l, b, hr, hb, h => by
    obtain ⟨h1, h2, h3, h4⟩ := hr
    rcases hq.dvd_mul h with h | h
    · have := hq.dvd_pow h
      rcases h2.2 q this with e | e
      · have := hq.1; omega
      · omega
    · exact rise_not_dvd hq l p h4 (by omega) h

theorem facs_pos : ∀ (l : List (Nat × Nat)) (b : Nat), Rise b l → 0 < facs l
  | [], _, _ => by simp [facs]
  | (p, k) :: l, b, hr => Nat.mul_pos (Nat.pow_pos (by have := hr.2.1.1; omega)) (facs_pos l p hr.2.2.2)

theorem coprime_pow {p m : Nat} (hp : Pr p) (h : ¬ p ∣ m) (k : Nat) : Nat.Coprime (p ^ k) m :=
  Nat.Coprime.pow_left k (hp.coprime h)

/-- Euler. -/
theorem euler : ∀ (l : List (Nat × Nat)) (b a : Nat), Rise b l → Nat.Coprime (facs l) a → a ^ phi l % facs l = 1 % facs l
  | [], _, a, _, _ => by simp [facs, Nat.mod_one]
  | (p, k) :: l, b, a, hr, hc => by
    obtain ⟨h1, h2, h3, h4⟩ := hr
    have hcl : Nat.Coprime (facs l) a := Nat.Coprime.coprime_mul_left hc
    have hcp : Nat.Coprime (p ^ k) a := Nat.Coprime.coprime_mul_right hc
    have ih := euler l p a h4 hcl
    obtain ⟨j, rfl⟩ : ∃ j, k = j + 1 := ⟨k - 1, by omega⟩
    have hpa : ¬ p ∣ a := by
      intro hd
      have hg : p ∣ Nat.gcd (p ^ (j + 1)) a := Nat.dvd_gcd (by rw [Nat.pow_succ]; exact Nat.dvd_mul_left _ _) hd
      rw [hcp] at hg
      have := Nat.le_of_dvd (by omega) hg; have := h2.1; omega
    have h5 := euler_pp h2 hpa j
    have apos : 0 < a ^ phi ((p, j + 1) :: l) := by
      apply Nat.pow_pos
      rcases Nat.eq_zero_or_pos a with h0 | h0
      · subst h0; exact absurd (Nat.dvd_zero p) hpa
      · exact h0
    have e1 : a ^ phi ((p, j + 1) :: l) % p ^ (j + 1) = 1 % p ^ (j + 1) := by
      simp only [phi, Nat.add_sub_cancel]; rw [Nat.pow_mul]; exact pow_mod_one _ h5
    have e2 : a ^ phi ((p, j + 1) :: l) % facs l = 1 % facs l := by
      simp only [phi]; rw [Nat.mul_comm, Nat.pow_mul]; exact pow_mod_one _ ih
    have d1 := (mod_eq_dvd (m := p ^ (j + 1)) apos).1 e1.symm
    have d2 := (mod_eq_dvd (m := facs l) apos).1 e2.symm
    have hco : Nat.Coprime (p ^ (j + 1)) (facs l) := coprime_pow h2 (rise_not_dvd h2 l p h4 (Nat.le_refl _)) _
    have d3 := hco.mul_dvd_of_dvd_of_dvd d1 d2
    exact ((mod_eq_dvd apos).2 d3).symm

end Go.Proofs.YtamhlkjfpdkhoaaGreatDoor

/-! Plain: Plain facts on remainders of integers. -/
namespace Go.Proofs.YtamhlkjfpdkhoaaGreatDoor
theorem emod_of_tmod {a m : Int} (hm : 0 < m) : (a.tmod m < 0 → a % m = a.tmod m + m) ∧ (0 ≤ a.tmod m → a % m = a.tmod m) ∧ -m < a.tmod m ∧ a.tmod m < m := by
  have h1 : a.tmod m = a - m * a.tdiv m := by have := Int.mul_tdiv_add_tmod a m; omega
  have h2 := Int.tmod_lt_of_pos a hm
  have h3 : -m < a.tmod m := by have := Int.lt_tmod_of_pos a hm; omega
  refine ⟨fun h => ?_, fun h => ?_, h3, h2⟩
  · have e : a = (a.tmod m + m) + m * (a.tdiv m - 1) := by rw [Int.mul_sub]; omega
    conv => lhs; rw [e]
    rw [Int.add_mul_emod_self_left, Int.emod_eq_of_lt (by omega) (by omega)]
  · have e : a = a.tmod m + m * a.tdiv m := by omega
    conv => lhs; rw [e]
    rw [Int.add_mul_emod_self_left, Int.emod_eq_of_lt h h2]

theorem prod_odd {o a b m : Nat} (h : b % 2 = 1) : ((o + a) % m + (a + a) % m * (b / 2)) % m = (o + a * b) % m := by
  have e : a * b = a + (a + a) * (b / 2) := by
    conv => lhs; rw [show b = 1 + 2 * (b / 2) by omega]
    rw [Nat.mul_add, Nat.mul_one, ← Nat.mul_assoc]; congr 2; omega
  rw [e, ← Nat.add_assoc, Nat.add_mod, Nat.mod_mod, Nat.mul_mod, Nat.mod_mod, ← Nat.mul_mod, ← Nat.add_mod]

theorem prod_even {o a b m : Nat} (h : b % 2 = 0) : (o + (a + a) % m * (b / 2)) % m = (o + a * b) % m := by
  have e : a * b = (a + a) * (b / 2) := by
    conv => lhs; rw [show b = 2 * (b / 2) by omega]
    rw [← Nat.mul_assoc]; congr 1; omega
  rw [e, Nat.add_mod, Nat.mul_mod, Nat.mod_mod, ← Nat.mul_mod, ← Nat.add_mod]

theorem pow_half {a n m : Nat} : ((a * a % m) ^ (n / 2)) % m = (a ^ (2 * (n / 2))) % m := by
  rw [← Nat.pow_mod, Nat.pow_mul, Nat.pow_two]

theorem pow_odd {o a n m : Nat} (h : n % 2 = 1) : (o * a % m * (a * a % m) ^ (n / 2)) % m = (o * a ^ n) % m := by
  rw [Nat.mul_mod, Nat.mod_mod, pow_half, ← Nat.mul_mod, Nat.mul_assoc, ← Nat.pow_succ']
  congr 2; congr 1; omega

theorem pow_even {o a n m : Nat} (h : n % 2 = 0) : (o * (a * a % m) ^ (n / 2)) % m = (o * a ^ n) % m := by
  rw [Nat.mul_mod, pow_half, ← Nat.mul_mod]
  congr 2; congr 1; omega

/-- What a step of Euclid's algorithm with factors keeps. -/
def Eu (a m c n : Nat) (x y : Int) : Prop :=
  Nat.gcd c n = Nat.gcd a m ∧ (m : Int) ∣ a * x - c ∧ (m : Int) ∣ a * y - n ∧ y.natAbs * c + x.natAbs * n = m ∧ ((0 ≤ x ∧ y ≤ 0) ∨ (x ≤ 0 ∧ 0 ≤ y))

theorem Eu.start (a m : Nat) : Eu a m a m 1 0 := ⟨rfl, ⟨0, by omega⟩, ⟨-1, by omega⟩, by simp, .inl ⟨by omega, by omega⟩⟩

theorem Eu.step {a m c n : Nat} {x y : Int} (h : Eu a m c n x y) (_hn : 0 < n) : Eu a m n (c % n) y (x - (c / n : Nat) * y) := by
  obtain ⟨h1, ⟨u, hu⟩, ⟨v, hv⟩, h4, h5⟩ := h
  have hc := Nat.div_add_mod c n
  have hcI : (n : Int) * (c / n : Nat) + (c % n : Nat) = c := by exact_mod_cast hc
  refine ⟨?_, ⟨v, hv⟩, ⟨u - (c / n : Nat) * v, ?_⟩, ?_, ?_⟩
  · rw [← h1, Nat.gcd_comm c n, Nat.gcd_rec n c, Nat.gcd_comm]
  · generalize ((c / n : Nat) : Int) = q at *
    grind
  · have e : (x - (c / n : Nat) * y).natAbs = x.natAbs + c / n * y.natAbs := by
      have hq : 0 ≤ ((c / n : Nat) : Int) := Int.natCast_nonneg _
      have e2 : (((c / n : Nat) : Int) * y).natAbs = c / n * y.natAbs := by rw [Int.natAbs_mul, Int.natAbs_natCast]
      rcases h5 with ⟨hx, hy⟩ | ⟨hx, hy⟩
      · have : ((c / n : Nat) : Int) * y ≤ 0 := Int.mul_nonpos_of_nonneg_of_nonpos hq hy
        omega
      · have : 0 ≤ ((c / n : Nat) : Int) * y := Int.mul_nonneg hq hy
        omega
    rw [e]
    have : x.natAbs * n + y.natAbs * (n * (c / n) + c % n) = m := by rw [hc]; omega
    generalize c / n = q at *
    generalize c % n = r at *
    generalize x.natAbs = X at *
    generalize y.natAbs = Y at *
    rw [← this]
    simp only [Nat.mul_add, Nat.mul_comm, Nat.mul_left_comm]
    omega
  · have hq : 0 ≤ ((c / n : Nat) : Int) := Int.natCast_nonneg _
    rcases h5 with ⟨hx, hy⟩ | ⟨hx, hy⟩
    · have : ((c / n : Nat) : Int) * y ≤ 0 := Int.mul_nonpos_of_nonneg_of_nonpos hq hy
      right; omega
    · have : 0 ≤ ((c / n : Nat) : Int) * y := Int.mul_nonneg hq hy
      left; omega

theorem Eu.bound {a m c n : Nat} {x y : Int} (h : Eu a m c n x y) (hn : 0 < n) : -(m : Int) ≤ x ∧ x ≤ m ∧ -(m : Int) ≤ x - (c / n : Nat) * y ∧ x - (c / n : Nat) * y ≤ m ∧ -(m : Int) ≤ (c / n : Nat) * y ∧ (c / n : Nat) * y ≤ m := by
  have h' := (h.step hn).2.2.2.1
  have h4 := h.2.2.2.1
  have h5 := h.2.2.2.2
  have hxn : x.natAbs ≤ x.natAbs * n := Nat.le_mul_of_pos_right _ hn
  have hyn : (x - (c / n : Nat) * y).natAbs ≤ (x - (c / n : Nat) * y).natAbs * n := Nat.le_mul_of_pos_right _ hn
  have e2 : (((c / n : Nat) : Int) * y).natAbs = c / n * y.natAbs := by rw [Int.natAbs_mul, Int.natAbs_natCast]
  have e3 : c / n * y.natAbs ≤ y.natAbs * c := by rw [Nat.mul_comm]; exact Nat.mul_le_mul_left _ (Nat.div_le_self _ _)
  omega

theorem Eu.finish {a m c : Nat} {x y : Int} (hm : 0 < m) (h : Eu a m c 0 x y) : c = Nat.gcd a m ∧ ∃ z : Nat, x % (m : Int) = z ∧ z < m ∧ a * z % m = Nat.gcd a m % m := by
  obtain ⟨h1, ⟨u, hu⟩, _⟩ := h
  have hc : c = Nat.gcd a m := by rw [← h1, Nat.gcd_zero_right]
  refine ⟨hc, (x % (m : Int)).toNat, ?_, ?_, ?_⟩
  · have := Int.emod_nonneg x (b := (m : Int)) (by omega); omega
  · have := Int.emod_nonneg x (b := (m : Int)) (by omega)
    have := Int.emod_lt_of_pos x (b := (m : Int)) (by omega); omega
  · have h0 := Int.emod_nonneg x (b := (m : Int)) (by omega)
    have e : (((x % (m : Int)).toNat : Nat) : Int) = x % (m : Int) := by omega
    have : (((a * (x % (m : Int)).toNat % m : Nat)) : Int) = ((Nat.gcd a m % m : Nat) : Int) := by
      rw [Int.natCast_emod, Int.natCast_mul, e, ← hc, Int.natCast_emod]
      rw [Int.mul_emod, Int.emod_emod, ← Int.mul_emod]
      have : (a : Int) * x = c + m * u := by omega
      rw [this, Int.add_mul_emod_self_left]
    exact_mod_cast this

/-- The number with two rests, by a factor x with m x leaving the rest d by n. -/
theorem meet_math {m n d m' own : Nat} {x r1 r2 q st : Int} (hd : 0 < d) (hm : m = d * m') (hn : n = d * own)
    (hx : (n : Int) ∣ m * x - d) (hq : r2 - r1 = d * q) (hst : (own : Int) ∣ q * x - st) : (n : Int) ∣ r1 + m * st - r2 := by
  subst hm hn
  obtain ⟨u, hu⟩ := hx
  obtain ⟨t, ht⟩ := hst
  simp only [Int.natCast_mul] at *
  have hd' : (d : Int) ≠ 0 := by omega
  have h1 : (m' : Int) * x - 1 = own * u := by
    apply Int.eq_of_mul_eq_mul_left hd'
    grind
  refine ⟨q * u - m' * t, ?_⟩
  have h2 : st = q * x - own * t := by omega
  subst h2
  have h3 : r2 = r1 + d * q := by omega
  subst h3
  grind

theorem emod_of_dvd {a r : Int} {n : Nat} (h : (n : Int) ∣ a - r) (h0 : 0 ≤ r) (h1 : r < n) : a % n = r := by
  obtain ⟨k, hk⟩ := h
  have : a = r + n * k := by omega
  rw [this, Int.add_mul_emod_self_left, Int.emod_eq_of_lt h0 h1]

theorem dvd_of_emod {a : Int} {n : Nat} {r : Int} (h : a % n = r) : (n : Int) ∣ a - r := by
  refine ⟨a / n, ?_⟩
  have := Int.emod_def a n
  omega

end Go.Proofs.YtamhlkjfpdkhoaaGreatDoor

/-! Facs: Plain arithmetic: lists of primes, and division by one candidate after the other. No program is spoken of. -/
namespace Go.Proofs.YtamhlkjfpdkhoaaGreatDoor

/-- The k-th candidate: 2, 3, and the numbers from 5 on that neither divides. -/
def cand (k : Nat) : Nat := if k = 0 then 2 else if k = 1 then 3 else if k % 2 = 0 then 5 + 6 * (k / 2 - 1) else 7 + 6 * (k / 2 - 1)

theorem prime_divisor : ∀ (f n : Nat), n ≤ f → 2 ≤ n → ∃ p, Pr p ∧ p ∣ n
  | 0, n, h, h2 => by omega
  | f + 1, n, h, h2 => by
    by_cases hp : ∃ d, d ∣ n ∧ d ≠ 1 ∧ d ≠ n
    · obtain ⟨d, hd, h1, hn⟩ := hp
      have hle := Nat.le_of_dvd (by omega) hd
      have h0 : d ≠ 0 := by
        rintro rfl
        have := Nat.eq_zero_of_zero_dvd hd; omega
      obtain ⟨p, hp, hpd⟩ := prime_divisor f d (by omega) (by omega)
      exact ⟨p, hp, Nat.dvd_trans hpd hd⟩
    · refine ⟨n, ⟨h2, fun d hd => ?_⟩, Nat.dvd_refl _⟩
      by_cases h1 : d = 1
      · exact .inl h1
      · by_cases hn : d = n
        · exact .inr hn
        · exact absurd ⟨d, hd, h1, hn⟩ hp

theorem Rise.weaken {b b' : Nat} : ∀ {l : List (Nat × Nat)}, Rise b l → b' ≤ b → Rise b' l
  | [], _, _ => trivial
  | (_, _) :: _, h, hb => ⟨by have := h.1; omega, h.2⟩

theorem Rise.lt_of_dvd {r : Nat} (hr : Pr r) : ∀ {l : List (Nat × Nat)} {b : Nat}, Rise b l → r ∣ facs l → b < r
  | [], _, _, h => by have := Nat.le_of_dvd (by simp [facs]) h; simp [facs] at this; have := hr.1; omega
  | (p, k) :: l, b, h, hd => by
    obtain ⟨h1, h2, h3, h4⟩ := h
    rcases hr.dvd_mul hd with hd | hd
    · rcases h2.2 r (hr.dvd_pow hd) with e | e
      · have := hr.1; omega
      · omega
    · have := Rise.lt_of_dvd hr h4 hd; omega

/-- The least candidate that divides is the first prime. -/
theorem Rise.head {p : Nat} {l : List (Nat × Nat)} (hp : 2 ≤ p) (h : Rise (p - 1) l) (hd : p ∣ facs l) : ∃ e l', l = (p, e) :: l' ∧ Pr p := by
  obtain ⟨r, hr, hrp⟩ := prime_divisor p p (Nat.le_refl _) hp
  have h1 := Rise.lt_of_dvd hr h (Nat.dvd_trans hrp hd)
  have h2 := Nat.le_of_dvd (by omega) hrp
  obtain rfl : r = p := by omega
  cases l with
  | nil => have := Nat.le_of_dvd (by simp [facs]) hd; simp [facs] at this; omega
  | cons a l =>
    obtain ⟨q, e⟩ := a
    obtain ⟨g1, g2, g3, g4⟩ := h
    refine ⟨e, l, ?_, hr⟩
    rcases hr.dvd_mul hd with hd | hd
    · rcases g2.2 r (hr.dvd_pow hd) with e | e
      · omega
      · rw [e]
    · have := Rise.lt_of_dvd hr g4 hd; omega

theorem Rise.skip {p : Nat} {l : List (Nat × Nat)} (h : Rise (p - 1) l) (hd : ¬ p ∣ facs l) : Rise p l := by
  cases l with
  | nil => trivial
  | cons a l =>
    obtain ⟨q, e⟩ := a
    obtain ⟨g1, g2, g3, g4⟩ := h
    refine ⟨?_, g2, g3, g4⟩
    rcases Nat.lt_or_ge p q with h' | h'
    · exact h'
    · exfalso; apply hd
      obtain rfl : q = p := by omega
      obtain ⟨j, rfl⟩ : ∃ j, e = j + 1 := ⟨e - 1, by omega⟩
      simp only [facs]; rw [Nat.pow_succ, Nat.mul_assoc]; exact Nat.dvd_trans (Nat.dvd_mul_right q (facs l)) (Nat.dvd_mul_left _ _)

theorem power_unique {p : Nat} (hp : 0 < p) {u v : Nat} (hu : ¬ p ∣ u) (hv : ¬ p ∣ v) : ∀ {i j : Nat}, p ^ i * u = p ^ j * v → i = j ∧ u = v
  | 0, 0, h => by simpa using h
  | 0, j + 1, h => by
    exfalso; apply hu
    rw [Nat.pow_zero, Nat.one_mul] at h
    rw [h, Nat.pow_succ, Nat.mul_comm (p ^ j), Nat.mul_assoc]; exact Nat.dvd_mul_right _ _
  | i + 1, 0, h => by
    exfalso; apply hv
    rw [Nat.pow_zero, Nat.one_mul] at h
    rw [← h, Nat.pow_succ, Nat.mul_comm (p ^ i), Nat.mul_assoc]; exact Nat.dvd_mul_right _ _
  | i + 1, j + 1, h => by
    rw [Nat.pow_succ, Nat.pow_succ, Nat.mul_comm (p ^ i), Nat.mul_comm (p ^ j), Nat.mul_assoc, Nat.mul_assoc] at h
    have := power_unique hp hu hv (Nat.eq_of_mul_eq_mul_left hp h)
    omega

/-- Behind the divisions by a candidate: it was no divisor, or the first prime. -/
theorem Rise.divided {p j v : Nat} {l : List (Nat × Nat)} (hp : 2 ≤ p) (h : Rise (p - 1) l) (hv : ¬ p ∣ v) (hj : p ^ j * v = facs l) :
    (j = 0 ∧ v = facs l ∧ Rise p l) ∨ (1 ≤ j ∧ ∃ l', l = (p, j) :: l' ∧ v = facs l' ∧ Rise p l') := by
  by_cases hd : p ∣ facs l
  · right
    obtain ⟨e, l', rfl, hpr⟩ := h.head hp hd
    obtain ⟨g1, g2, g3, g4⟩ := h
    have hn := rise_not_dvd hpr l' p g4 (Nat.le_refl _)
    obtain ⟨rfl, rfl⟩ := power_unique (by omega) hv hn hj
    exact ⟨g3, l', rfl, rfl, g4⟩
  · left
    have h0 : j = 0 := by
      rcases Nat.eq_zero_or_pos j with h0 | h0
      · exact h0
      · exfalso; apply hd
        obtain ⟨i, rfl⟩ : ∃ i, j = i + 1 := ⟨j - 1, by omega⟩
        rw [← hj, Nat.pow_succ, Nat.mul_comm (p ^ i), Nat.mul_assoc]; exact Nat.dvd_mul_right _ _
    subst h0
    exact ⟨rfl, by simpa using hj, h.skip hd⟩

theorem Rise.last {p : Nat} {l : List (Nat × Nat)} (hp : 2 ≤ p) (h : Rise (p - 1) l) (hlt : facs l < p * p) : l = [] ∨ ∃ q, l = [(q, 1)] ∧ 2 ≤ q := by
  cases l with
  | nil => exact .inl rfl
  | cons a l =>
    obtain ⟨q, e⟩ := a
    obtain ⟨g1, g2, g3, g4⟩ := h
    right
    have hpos := facs_pos l q g4
    have hq2 := g2.1
    have he : e = 1 := by
      rcases Nat.lt_or_ge 1 e with h2 | h2
      · exfalso
        have h3 : q ^ 2 ≤ q ^ e := Nat.pow_le_pow_right (by omega) h2
        have h4 : p * p ≤ q * q := Nat.mul_le_mul (by omega) (by omega)
        have h5 : q ^ e ≤ q ^ e * facs l := Nat.le_mul_of_pos_right _ hpos
        rw [Nat.pow_two] at h3
        simp only [facs] at hlt; omega
      · omega
    subst he
    cases l with
    | nil => exact ⟨q, rfl, hq2⟩
    | cons b l =>
      exfalso
      obtain ⟨r, f⟩ := b
      obtain ⟨k1, k2, k3, k4⟩ := g4
      have hpos2 := facs_pos l r k4
      have h3 : r ^ 1 ≤ r ^ f := Nat.pow_le_pow_right (by omega) k3
      rw [Nat.pow_one] at h3
      have h5 : r ^ f ≤ r ^ f * facs l := Nat.le_mul_of_pos_right _ hpos2
      have h6 : p * p ≤ q * (r ^ f * facs l) := Nat.mul_le_mul (by omega) (by omega)
      simp only [facs, Nat.pow_one] at hlt h6; omega

theorem Pr.not_two {q : Nat} (h : Pr q) (h2 : 2 < q) : q % 2 = 1 := by
  rcases Nat.mod_two_eq_zero_or_one q with h0 | h0
  · rcases h.2 2 (Nat.dvd_of_mod_eq_zero h0) with e | e <;> omega
  · exact h0

theorem Pr.not_three {q : Nat} (h : Pr q) (h2 : 3 < q) : q % 3 ≠ 0 := by
  intro h0
  rcases h.2 3 (Nat.dvd_of_mod_eq_zero h0) with e | e <;> omega

theorem cand_two (k : Nat) : 2 ≤ cand k := by
  unfold cand; split
  · omega
  · split
    · omega
    · split <;> omega

/-- No prime lies between two candidates. -/
theorem Rise.next {k : Nat} {l : List (Nat × Nat)} (h : Rise (cand k) l) : Rise (cand (k + 1) - 1) l := by
  cases l with
  | nil => trivial
  | cons a l =>
    obtain ⟨q, e⟩ := a
    obtain ⟨g1, g2, g3, g4⟩ := h
    refine ⟨?_, g2, g3, g4⟩
    have hk := cand_two k
    have m2 := g2.not_two (by omega)
    by_cases h3 : q = 3
    · subst h3
      unfold cand at g1 ⊢
      split at g1
      · subst_vars; simp
      · split at g1
        · omega
        · split at g1 <;> omega
    · have m3 := g2.not_three (by omega)
      unfold cand at g1 ⊢
      split at g1
      · subst_vars; simp; omega
      · rw [if_neg (by omega)]
        split at g1
        · subst_vars; simp; omega
        · rw [if_neg (by omega)]
          split at g1
          · rw [if_neg (by omega), show (k + 1) / 2 = k / 2 by omega]; omega
          · rw [if_pos (by omega), show (k + 1) / 2 = k / 2 + 1 by omega]; omega

theorem cand_big (k : Nat) : 3 * k ≤ cand k + 4 := by
  unfold cand; split
  · omega
  · split
    · omega
    · split <;> omega

theorem cand_small (k : Nat) : cand k ≤ 3 * k + 2 := by
  unfold cand; split
  · omega
  · split
    · omega
    · split <;> omega

theorem power_small {p j u v : Nat} (hp : 2 ≤ p) (hv : v ≤ 1000000000000) (hv0 : 0 < v) (h : p ^ j * u = v) : j < 40 := by
  have hu : 0 < u := by
    rcases Nat.eq_zero_or_pos u with h0 | h0
    · subst h0; simp at h; omega
    · exact h0
  have h1 : p ^ j ≤ p ^ j * u := Nat.le_mul_of_pos_right _ hu
  have h2 : 2 ^ j ≤ p ^ j := Nat.pow_le_pow_left hp j
  rcases Nat.lt_or_ge j 40 with h3 | h3
  · exact h3
  · have h4 : 2 ^ 40 ≤ 2 ^ j := Nat.pow_le_pow_right (by omega) h3
    have h5 : (2 : Nat) ^ 40 = 1099511627776 := by decide
    omega

theorem drop_cons {L : List (Nat × Nat)} {i : Nat} {a : Nat × Nat} {l : List (Nat × Nat)} (h : L.drop i = a :: l) : i < L.length ∧ L.getD i (0, 0) = a ∧ L.drop (i + 1) = l := by
  have h1 : (L.drop i)[0]? = some a := by rw [h]; rfl
  rw [List.getElem?_drop] at h1
  simp only [Nat.add_zero] at h1
  refine ⟨(List.getElem?_eq_some_iff.1 h1).1, by simp [List.getD, h1], ?_⟩
  rw [← List.tail_drop, h]; rfl

theorem root_small {p v : Nat} (h : p * p ≤ v) (hv : v ≤ 1000000000000) : p ≤ 1000000 := by
  rcases Nat.lt_or_ge 1000000 p with h1 | h1
  · have : 1000001 * 1000001 ≤ p * p := Nat.mul_le_mul h1 h1
    omega
  · exact h1

end Go.Proofs.YtamhlkjfpdkhoaaGreatDoor

/-! RefA: Plain arithmetic: lists of primes that grow at their end. No program is spoken of. -/
namespace Go.Proofs.YtamhlkjfpdkhoaaGreatDoor

theorem rise_snoc {p k : Nat} (hp : Pr p) (hk : 1 ≤ k) : ∀ {l : List (Nat × Nat)} {b : Nat}, Rise b l → (∀ x ∈ l, x.1 < p) → b < p → Rise b (l ++ [(p, k)])
  | [], _, _, _, hb => ⟨hb, hp, hk, trivial⟩
  | (q, e) :: l, _, h, hl, _ => ⟨h.1, h.2.1, h.2.2.1, rise_snoc hp hk h.2.2.2 (fun x hx => hl x (by simp [hx])) (hl (q, e) (by simp))⟩

theorem facs_snoc (p k : Nat) : ∀ l : List (Nat × Nat), facs (l ++ [(p, k)]) = facs l * p ^ k
  | [] => by simp [facs]
  | (q, e) :: l => by simp only [List.cons_append, facs, facs_snoc p k l, Nat.mul_assoc]

/-- What is done of a number, and what is left of it: no prime below p divides that. -/
def Part (N p left : Nat) (l : List (Nat × Nat)) : Prop := Rise 1 l ∧ (∀ x ∈ l, x.1 < p) ∧ facs l * left = N ∧ (∀ q, Pr q → q ∣ left → p ≤ q) ∧ 0 < left

theorem Part.start {N : Nat} (h : 0 < N) : Part N 2 N [] := ⟨trivial, by simp, by simp [facs], fun _ hq _ => hq.1, h⟩

theorem Part.prime {N p left : Nat} {l : List (Nat × Nat)} (h : Part N p left l) (hp : 2 ≤ p) (hd : p ∣ left) : Pr p := by
  obtain ⟨r, hr, hrp⟩ := prime_divisor p p (Nat.le_refl _) hp
  have h1 := h.2.2.2.1 r hr (Nat.dvd_trans hrp hd)
  have h2 := Nat.le_of_dvd (by omega) hrp
  obtain rfl : r = p := by omega
  exact hr

theorem Part.none {N p left : Nat} {l : List (Nat × Nat)} (h : Part N p left l) (hd : ¬ p ∣ left) : Part N (p + 1) left l :=
  ⟨h.1, fun x hx => by have := h.2.1 x hx; omega, h.2.2.1, fun q hq hql => by
    have := h.2.2.2.1 q hq hql
    rcases Nat.lt_or_ge p q with h1 | h1
    · omega
    · exfalso; apply hd
      obtain rfl : q = p := by omega
      exact hql, h.2.2.2.2⟩

theorem Part.some {N p left u k : Nat} {l : List (Nat × Nat)} (h : Part N p left l) (hp : 2 ≤ p) (hk : 1 ≤ k) (he : p ^ k * u = left) (hd : ¬ p ∣ u) : Part N (p + 1) u (l ++ [(p, k)]) := by
  have hpl : p ∣ left := by
    obtain ⟨j, rfl⟩ : ∃ j, k = j + 1 := ⟨k - 1, by omega⟩
    rw [← he, Nat.pow_succ, Nat.mul_comm (p ^ j), Nat.mul_assoc]; exact Nat.dvd_mul_right _ _
  have hpr := h.prime hp hpl
  have hu : 0 < u := by
    rcases Nat.eq_zero_or_pos u with h0 | h0
    · subst h0; exact absurd (Nat.dvd_zero p) hd
    · exact h0
  refine ⟨rise_snoc hpr hk h.1 h.2.1 (by omega), ?_, ?_, ?_, hu⟩
  · intro x hx
    rw [List.mem_append] at hx
    rcases hx with hx | hx
    · have := h.2.1 x hx; omega
    · rw [List.mem_singleton] at hx; subst hx; simp
  · rw [facs_snoc, Nat.mul_assoc, he]; exact h.2.2.1
  · intro q hq hqu
    have h1 := h.2.2.2.1 q hq (by rw [← he]; exact Nat.dvd_trans hqu (Nat.dvd_mul_left _ _))
    rcases Nat.lt_or_ge p q with h2 | h2
    · omega
    · exfalso; apply hd
      obtain rfl : q = p := by omega
      exact hqu

theorem Part.last {N p left : Nat} {l : List (Nat × Nat)} (h : Part N p left l) (hp : 2 ≤ p) (hlt : left < p * p) :
    (left = 1 ∧ Rise 1 l ∧ facs l = N) ∨ (1 < left ∧ Rise 1 (l ++ [(left, 1)]) ∧ facs (l ++ [(left, 1)]) = N) := by
  by_cases h1 : left = 1
  · subst h1
    exact .inl ⟨rfl, h.1, by have := h.2.2.1; simpa using this⟩
  · right
    have h0 := h.2.2.2.2
    obtain ⟨q, hq, hql⟩ := prime_divisor left left (Nat.le_refl _) (by omega)
    have hpq := h.2.2.2.1 q hq hql
    have hpr : left = q := by
      obtain ⟨c, hc⟩ := hql
      by_cases hc1 : c = 1
      · rw [hc, hc1, Nat.mul_one]
      · exfalso
        have hc0 : c ≠ 0 := by rintro rfl; simp at hc; omega
        obtain ⟨r, hr, hrc⟩ := prime_divisor c c (Nat.le_refl _) (by omega)
        have hpr := h.2.2.2.1 r hr (by rw [hc]; exact Nat.dvd_trans hrc (Nat.dvd_mul_left _ _))
        have hrc2 := Nat.le_of_dvd (by omega) hrc
        have : p * p ≤ q * c := Nat.mul_le_mul hpq (by omega)
        omega
    subst hpr
    refine ⟨by omega, rise_snoc hq (Nat.le_refl _) h.1 (fun x hx => by have := h.2.1 x hx; omega) (by omega), ?_⟩
    rw [facs_snoc, Nat.pow_one]; exact h.2.2.1

end Go.Proofs.YtamhlkjfpdkhoaaGreatDoor

/-! InvA: Plain arithmetic: Euler's number of a list of primes, and inverses. No program is spoken of. -/
namespace Go.Proofs.YtamhlkjfpdkhoaaGreatDoor

theorem phi_append : ∀ (l l' : List (Nat × Nat)), phi (l ++ l') = phi l * phi l'
  | [], l' => by simp [phi]
  | (p, k) :: l, l' => by simp only [List.cons_append, phi, phi_append l l', Nat.mul_assoc]

theorem facs_append : ∀ (l l' : List (Nat × Nat)), facs (l ++ l') = facs l * facs l'
  | [], l' => by simp [facs]
  | (p, k) :: l, l' => by simp only [List.cons_append, facs, facs_append l l', Nat.mul_assoc]

theorem phi_take {L : List (Nat × Nat)} {i p e : Nat} (h : L[i]? = some (p, e)) : phi (L.take (i + 1)) = phi (L.take i) * ((p - 1) * p ^ (e - 1)) := by
  rw [List.take_add_one, h, phi_append]; simp [phi]

theorem facs_take {L : List (Nat × Nat)} {i p e : Nat} (h : L[i]? = some (p, e)) : facs (L.take (i + 1)) = facs (L.take i) * p ^ e := by
  rw [List.take_add_one, h, facs_append]; simp [facs]

theorem rise_mem {p e : Nat} : ∀ {l : List (Nat × Nat)} {b : Nat}, Rise b l → (p, e) ∈ l → Pr p ∧ 1 ≤ e
  | [], _, _, h => by simp at h
  | (q, k) :: l, b, hr, h => by
    rcases List.mem_cons.1 h with h | h
    · cases h; exact ⟨hr.2.1, hr.2.2.1⟩
    · exact rise_mem hr.2.2.2 h

theorem phi_le : ∀ (l : List (Nat × Nat)) , (∀ p e, (p, e) ∈ l → Pr p ∧ 1 ≤ e) → phi l ≤ facs l ∧ 0 < phi l
  | [], _ => by simp [phi, facs]
  | (p, k) :: l, h => by
    obtain ⟨h1, h2⟩ := phi_le l fun p e hm => h p e (List.mem_cons_of_mem _ hm)
    obtain ⟨hp, hk⟩ := h p k (by simp)
    have hp2 := hp.1
    simp only [phi, facs]
    have e1 : p ^ k = p * p ^ (k - 1) := by
      obtain ⟨j, rfl⟩ : ∃ j, k = j + 1 := ⟨k - 1, by omega⟩
      rw [Nat.pow_succ, Nat.add_sub_cancel, Nat.mul_comm]
    refine ⟨Nat.mul_le_mul ?_ h1, Nat.mul_pos (Nat.mul_pos (by omega) (Nat.pow_pos (by omega))) h2⟩
    rw [e1]; exact Nat.mul_le_mul_right _ (by omega)

theorem facs_take_le {L : List (Nat × Nat)} (h : ∀ p e, (p, e) ∈ L → Pr p ∧ 1 ≤ e) (i : Nat) : facs (L.take i) ≤ facs L := by
  have e := List.take_append_drop i L
  have : facs L = facs (L.take i) * facs (L.drop i) := by rw [← facs_append, e]
  rw [this]
  refine Nat.le_mul_of_pos_right _ ?_
  obtain ⟨h1, h2⟩ := phi_le (L.drop i) fun p e hm => h p e (List.mem_of_mem_drop hm)
  omega

/-- What stands in the number while it is computed is never greater than the modulus. -/
theorem phi_bound {L : List (Nat × Nat)} {b i p e t : Nat} (hr : Rise b L) (h : L[i]? = some (p, e)) (ht : t < e) : phi (L.take i) * ((p - 1) * p ^ t) ≤ facs L ∧ 2 ≤ p ∧ p ≤ facs L ∧ e < facs L := by
  have hm : ∀ p e, (p, e) ∈ L → Pr p ∧ 1 ≤ e := fun p e hm => rise_mem hr hm
  obtain ⟨hp, he⟩ := hm p e (List.mem_of_getElem? h)
  have hp2 := hp.1
  have h1 := (phi_le (L.take i) fun p e hq => hm p e (List.mem_of_mem_take hq))
  have h2 := facs_take_le hm (i + 1)
  rw [facs_take h] at h2
  have h3 : (p - 1) * p ^ t ≤ p ^ e := by
    have e1 : p ^ (t + 1) ≤ p ^ e := Nat.pow_le_pow_right (by omega) ht
    rw [Nat.pow_succ, Nat.mul_comm] at e1
    exact Nat.le_trans (Nat.mul_le_mul_right _ (by omega)) e1
  have h4 : p ^ e ≤ facs L := Nat.le_trans (Nat.le_mul_of_pos_left _ (by omega)) h2
  refine ⟨Nat.le_trans (Nat.mul_le_mul h1.1 h3) h2, hp2, Nat.le_trans ?_ h4, Nat.lt_of_lt_of_le (Nat.lt_pow_self hp2) h4⟩
  exact Nat.le_trans (by simp) (Nat.pow_le_pow_right (by omega) he : p ^ 1 ≤ p ^ e)

theorem inv_unique {m r x y : Nat} (hc : Nat.Coprime m r) (hx : r * x % m = 1 % m) (hy : r * y % m = 1 % m) (hxm : x < m) (hym : y < m) : x = y := by
  have := cancel_mod hc (hx.trans hy.symm)
  rwa [Nat.mod_eq_of_lt hxm, Nat.mod_eq_of_lt hym] at this

/-- Euler's power is an inverse. -/
theorem euler_inv {L : List (Nat × Nat)} {r : Nat} (hr : Rise 1 L) (hc : Nat.Coprime (facs L) r) : r * (r ^ (phi L - 1 + phi L) % facs L) % facs L = 1 % facs L := by
  have h0 := (phi_le L fun p e hm => rise_mem hr hm).2
  have e := euler L 1 r hr hc
  have e2 : r * (r ^ (phi L - 1 + phi L) % facs L) % facs L = r ^ (phi L + phi L) % facs L := by
    rw [Nat.mul_mod, Nat.mod_mod, ← Nat.mul_mod]
    have : r * r ^ (phi L - 1 + phi L) = r ^ (phi L + phi L) := by
      rw [Nat.mul_comm, ← Nat.pow_succ]; congr 1; omega
    rw [this]
  rw [e2, Nat.pow_add, Nat.mul_mod, e, ← Nat.mul_mod]
end Go.Proofs.YtamhlkjfpdkhoaaGreatDoor

/-! Dvs: Plain lists: the divisors of a number, as they are collected prime by prime. No program is spoken of. -/
namespace Go.Proofs.YtamhlkjfpdkhoaaGreatDoor

/-- A list, and behind it the list times p, times p^2, .., times p^t. -/
def ext (p : Nat) (ds : List Nat) : Nat → List Nat
  | 0 => ds
  | t + 1 => ext p ds t ++ ds.map (· * p ^ (t + 1))

/-- All divisors that come of the pairs, one pair after the other. -/
def dvs : List (Nat × Nat) → List Nat → List Nat
  | [], ds => ds
  | (p, e) :: l, ds => dvs l (ext p ds e)

theorem length_ext (p : Nat) (ds : List Nat) : ∀ t, (ext p ds t).length = ds.length * (t + 1)
  | 0 => by simp [ext]
  | t + 1 => by
    simp only [ext, List.length_append, List.length_map, length_ext p ds t]
    rw [Nat.mul_succ ds.length (t + 1)]

theorem mem_ext {p : Nat} {ds : List Nat} {x : Nat} : ∀ {t}, x ∈ ext p ds t → ∃ d ∈ ds, ∃ s, s ≤ t ∧ x = d * p ^ s
  | 0, h => ⟨x, h, 0, Nat.le_refl _, by simp⟩
  | t + 1, h => by
    simp only [ext, List.mem_append, List.mem_map] at h
    rcases h with h | ⟨d, hd, rfl⟩
    · obtain ⟨d, hd, s, hs, e⟩ := mem_ext h
      exact ⟨d, hd, s, by omega, e⟩
    · exact ⟨d, hd, t + 1, Nat.le_refl _, rfl⟩

/-- What is collected stays small: what is still to come is accounted for. -/
def Few (m : Nat) (l : List (Nat × Nat)) (ds : List Nat) : Prop := (∀ d ∈ ds, d * facs l ≤ m) ∧ ds.length * facs l ≤ m ∧ 0 < ds.length

theorem Few.small {m p e : Nat} {l : List (Nat × Nat)} {ds : List Nat} {b : Nat} (h : Few m ((p, e) :: l) ds) (hr : Rise b ((p, e) :: l)) : (∀ d ∈ ds, ∀ s, s ≤ e → d * p ^ s ≤ m) ∧ (∀ t, t ≤ e → ds.length * (t + 1) ≤ m) ∧ Few m l (ext p ds e) := by
  obtain ⟨h1, h2, h3⟩ := h
  obtain ⟨g1, g2, g3, g4⟩ := hr
  have hp := g2.1
  have hpos := facs_pos l p g4
  simp only [facs] at h1 h2
  have key : ∀ d ∈ ds, ∀ s, s ≤ e → d * p ^ s * facs l ≤ m := fun d hd s hs => by
    have a1 : p ^ s ≤ p ^ e := Nat.pow_le_pow_right (by omega) hs
    have a2 : d * p ^ s * facs l ≤ d * (p ^ e * facs l) := by
      rw [Nat.mul_assoc]; exact Nat.mul_le_mul_left _ (Nat.mul_le_mul_right _ a1)
    exact Nat.le_trans a2 (h1 d hd)
  have hpe : e + 1 ≤ p ^ e := Nat.lt_pow_self hp
  have len : ds.length * (e + 1) * facs l ≤ m := by
    refine Nat.le_trans ?_ h2
    rw [Nat.mul_assoc]; exact Nat.mul_le_mul_left _ (Nat.mul_le_mul_right _ hpe)
  refine ⟨fun d hd s hs => Nat.le_trans (Nat.le_mul_of_pos_right _ hpos) (key d hd s hs), fun t ht => ?_, ?_, ?_, ?_⟩
  · exact Nat.le_trans (Nat.mul_le_mul_left _ (by omega)) (Nat.le_trans (Nat.le_mul_of_pos_right _ hpos) len)
  · intro x hx
    obtain ⟨d, hd, s, hs, rfl⟩ := mem_ext hx
    exact key d hd s hs
  · rw [length_ext]; exact len
  · rw [length_ext]; exact Nat.mul_pos h3 (by omega)

theorem ext_prefix (p : Nat) (ds : List Nat) : ∀ t, ∃ r, ext p ds t = ds ++ r
  | 0 => ⟨[], by simp [ext]⟩
  | t + 1 => by
    obtain ⟨r, hr⟩ := ext_prefix p ds t
    exact ⟨r ++ ds.map (· * p ^ (t + 1)), by simp [ext, hr]⟩

theorem rise_length : ∀ {l : List (Nat × Nat)} {b : Nat}, Rise b l → 2 ^ l.length ≤ facs l
  | [], _, _ => by simp [facs]
  | (p, e) :: l, b, h => by
    obtain ⟨g1, g2, g3, g4⟩ := h
    have h1 := rise_length g4
    have h2 : p ^ 1 ≤ p ^ e := Nat.pow_le_pow_right (by have := g2.1; omega) g3
    rw [Nat.pow_one] at h2
    have h3 := g2.1
    simp only [List.length_cons, facs, Nat.pow_succ]
    calc 2 ^ l.length * 2 = 2 * 2 ^ l.length := Nat.mul_comm _ _
      _ ≤ p ^ e * facs l := Nat.mul_le_mul (by omega) h1

theorem rise_short {l : List (Nat × Nat)} {b : Nat} (h : Rise b l) (hle : facs l ≤ 1000000000000) : l.length < 40 := by
  have h1 := rise_length h
  rcases Nat.lt_or_ge l.length 40 with h3 | h3
  · exact h3
  · have h4 : 2 ^ 40 ≤ 2 ^ l.length := Nat.pow_le_pow_right (by omega) h3
    have h5 : (2 : Nat) ^ 40 = 1099511627776 := by decide
    omega

theorem rise_drop : ∀ {l : List (Nat × Nat)} {b : Nat} (k : Nat), Rise b l → ∃ b', Rise b' (l.drop k)
  | l, b, 0, h => ⟨b, h⟩
  | [], b, k + 1, _ => ⟨b, by simp [Rise]⟩
  | (p, e) :: l, b, k + 1, h => rise_drop k h.2.2.2

end Go.Proofs.YtamhlkjfpdkhoaaGreatDoor

/-! Dvs2: Plain lists: the divisors of a number are one rising list, however they are found. No program is spoken of. -/
namespace Go.Proofs.YtamhlkjfpdkhoaaGreatDoor

theorem asc_eq : ∀ {l1 l2 : List Nat}, l1.Pairwise (· < ·) → l2.Pairwise (· < ·) → (∀ x, x ∈ l1 ↔ x ∈ l2) → l1 = l2
  | [], [], _, _, _ => rfl
  | [], b :: l, _, _, h => absurd ((h b).2 (by simp)) (by simp)
  | a :: l, [], _, _, h => absurd ((h a).1 (by simp)) (by simp)
  | a :: l, b :: m, h1, h2, h => by
    rw [List.pairwise_cons] at h1 h2
    have hab : a = b := by
      have ha := (h a).1 (by simp)
      have hb := (h b).2 (by simp)
      rw [List.mem_cons] at ha hb
      rcases ha with ha | ha
      · exact ha
      · rcases hb with hb | hb
        · exact hb.symm
        · have := h1.1 b hb; have := h2.1 a ha; omega
    subst hab
    have e : l = m := by
      refine asc_eq h1.2 h2.2 fun x => ⟨fun hx => ?_, fun hx => ?_⟩
      · have := (h x).1 (by simp [hx])
        rw [List.mem_cons] at this
        rcases this with h3 | h3
        · have := h1.1 x hx; omega
        · exact h3
      · have := (h x).2 (by simp [hx])
        rw [List.mem_cons] at this
        rcases this with h3 | h3
        · have := h2.1 x hx; omega
        · exact h3
    rw [e]

theorem ext_mem {p : Nat} {ds : List Nat} {d s : Nat} (hd : d ∈ ds) : ∀ {t}, s ≤ t → d * p ^ s ∈ ext p ds t
  | 0, h => by
    obtain rfl : s = 0 := by omega
    simpa [ext] using hd
  | t + 1, hs => by
    simp only [ext, List.mem_append, List.mem_map]
    by_cases h : s ≤ t
    · exact .inl (ext_mem hd h)
    · obtain rfl : s = t + 1 := by omega
      exact .inr ⟨d, hd, rfl⟩

theorem dvd_pow_mul {p : Nat} (hp : Pr p) : ∀ (e m y : Nat), y ∣ p ^ e * m → ∃ s y', s ≤ e ∧ y' ∣ m ∧ y = p ^ s * y'
  | 0, m, y, h => ⟨0, y, Nat.le_refl _, by simpa using h, by simp⟩
  | e + 1, m, y, h => by
    by_cases hd : p ∣ y
    · obtain ⟨z, rfl⟩ := hd
      rw [Nat.pow_succ, Nat.mul_comm (p ^ e), Nat.mul_assoc] at h
      have hz := Nat.dvd_of_mul_dvd_mul_left (by have := hp.1; omega) h
      obtain ⟨s, y', h1, h2, rfl⟩ := dvd_pow_mul hp e m z hz
      exact ⟨s + 1, y', by omega, h2, by rw [Nat.pow_succ, Nat.mul_comm (p ^ s) p, Nat.mul_assoc]⟩
    · have hc : Nat.Coprime y p := (hp.coprime hd).symm
      rw [Nat.pow_succ, Nat.mul_comm (p ^ e), Nat.mul_assoc] at h
      have hz := hc.dvd_of_dvd_mul_left h
      obtain ⟨s, y', h1, h2, h3⟩ := dvd_pow_mul hp e m y hz
      exact ⟨s, y', by omega, h2, h3⟩

theorem mem_dvs : ∀ {L : List (Nat × Nat)} {b : Nat} {ds : List Nat} {x : Nat}, Rise b L → (x ∈ dvs L ds ↔ ∃ d ∈ ds, ∃ y, y ∣ facs L ∧ x = d * y)
  | [], _, ds, x, _ => by
    simp only [dvs, facs]
    constructor
    · intro h; exact ⟨x, h, 1, Nat.dvd_refl _, by simp⟩
    · rintro ⟨d, hd, y, hy, rfl⟩
      have : y = 1 := Nat.eq_one_of_dvd_one hy
      subst this; simpa using hd
  | (p, e) :: l, b, ds, x, h => by
    obtain ⟨g1, g2, g3, g4⟩ := h
    simp only [dvs, facs]
    rw [mem_dvs g4]
    constructor
    · rintro ⟨d', hd', y, hy, rfl⟩
      obtain ⟨d, hd, s, hs, rfl⟩ := mem_ext hd'
      exact ⟨d, hd, p ^ s * y, Nat.mul_dvd_mul (Nat.pow_dvd_pow p hs) hy, by rw [Nat.mul_assoc]⟩
    · rintro ⟨d, hd, y, hy, rfl⟩
      obtain ⟨s, y', hs, hy', rfl⟩ := dvd_pow_mul g2 e _ y hy
      exact ⟨d * p ^ s, ext_mem hd hs, y', hy', by rw [Nat.mul_assoc]⟩

theorem nodup_map_mul {c : Nat} (hc : 0 < c) {l : List Nat} (h : l.Nodup) : (l.map (· * c)).Nodup :=
  nodup_map_of l h fun x _ y _ e => Nat.eq_of_mul_eq_mul_right hc e

theorem nodup_ext {p : Nat} (hp : 2 ≤ p) {ds : List Nat} (hn : ds.Nodup) (hd : ∀ d ∈ ds, ¬ p ∣ d) : ∀ t, (ext p ds t).Nodup
  | 0 => hn
  | t + 1 => by
    simp only [ext]
    rw [List.nodup_append]
    refine ⟨nodup_ext hp hn hd t, nodup_map_mul (Nat.pow_pos (by omega)) hn, fun a ha b hb => ?_⟩
    obtain ⟨d, hdd, s, hs, rfl⟩ := mem_ext ha
    rw [List.mem_map] at hb
    obtain ⟨d', hd', rfl⟩ := hb
    intro e
    have := (power_unique (p := p) (by omega) (hd d hdd) (hd d' hd') (by rw [Nat.mul_comm, e, Nat.mul_comm])).1
    omega

theorem nodup_dvs : ∀ {L : List (Nat × Nat)} {b : Nat} {ds : List Nat}, Rise b L → ds.Nodup → (∀ d ∈ ds, ∀ q, Pr q → b < q → ¬ q ∣ d) → (dvs L ds).Nodup
  | [], _, _, _, h, _ => by simpa only [dvs] using h
  | (p, e) :: l, b, ds, hr, hn, hd => by
    obtain ⟨g1, g2, g3, g4⟩ := hr
    simp only [dvs]
    refine nodup_dvs g4 (nodup_ext g2.1 hn (fun d h => hd d h p g2 g1) e) ?_
    intro x hx q hq hpq hqx
    obtain ⟨d, hdd, s, hs, rfl⟩ := mem_ext hx
    rcases hq.dvd_mul hqx with h | h
    · exact hd d hdd q hq (by omega) h
    · rcases g2.2 q (hq.dvd_pow h) with h | h
      · have := hq.1; omega
      · omega

theorem asc_of {l : List Nat} (h : l.Pairwise (· ≤ ·)) (hn : l.Nodup) : l.Pairwise (· < ·) := by
  have := h.and hn
  exact this.imp fun ⟨h1, h2⟩ => by omega

theorem divs_spec {L : List (Nat × Nat)} (hL : Rise 1 L) {ds : List Nat} (hp : ds.Perm (dvs L [1])) (hs : ds.Pairwise (· ≤ ·)) : ds.Pairwise (· < ·) ∧ ∀ x, x ∈ ds ↔ x ∣ facs L := by
  have hn : (dvs L [1]).Nodup := nodup_dvs hL (by simp) (by
    intro d hd q hq _ h
    rw [List.mem_singleton] at hd; subst hd
    have := Nat.eq_one_of_dvd_one h; have := hq.1; omega)
  refine ⟨asc_of hs (hp.nodup_iff.2 hn), fun x => ?_⟩
  rw [hp.mem_iff, mem_dvs hL]
  constructor
  · rintro ⟨d, hd, y, hy, rfl⟩
    rw [List.mem_singleton] at hd; subst hd; simpa using hy
  · intro h; exact ⟨1, by simp, x, h, by simp⟩

/-- The divisors up to k. -/
def lows (n : Nat) : Nat → List Nat
  | 0 => []
  | k + 1 => if n % (k + 1) = 0 then lows n k ++ [k + 1] else lows n k

/-- What the divisors up to k leave of n, if they are less than it. -/
def highs (n : Nat) : Nat → List Nat
  | 0 => []
  | k + 1 => if n % (k + 1) = 0 then (if (k + 1) * (k + 1) < n then n / (k + 1) :: highs n k else highs n k) else highs n k

theorem mem_lows {n x : Nat} : ∀ {k}, x ∈ lows n k ↔ 1 ≤ x ∧ x ≤ k ∧ x ∣ n
  | 0 => by simp [lows]; omega
  | k + 1 => by
    simp only [lows]
    split
    · rename_i h
      rw [List.mem_append, mem_lows, List.mem_singleton]
      constructor
      · rintro (⟨h1, h2, h3⟩ | rfl)
        · exact ⟨h1, by omega, h3⟩
        · exact ⟨by omega, Nat.le_refl _, Nat.dvd_of_mod_eq_zero h⟩
      · rintro ⟨h1, h2, h3⟩
        by_cases hk : x = k + 1
        · exact .inr hk
        · exact .inl ⟨h1, by omega, h3⟩
    · rename_i h
      rw [mem_lows]
      constructor
      · rintro ⟨h1, h2, h3⟩; exact ⟨h1, by omega, h3⟩
      · rintro ⟨h1, h2, h3⟩
        refine ⟨h1, ?_, h3⟩
        rcases Nat.lt_or_ge k x with h4 | h4
        · obtain rfl : x = k + 1 := by omega
          exact absurd (Nat.mod_eq_zero_of_dvd h3) h
        · exact h4

theorem mem_highs {n x : Nat} : ∀ {k}, x ∈ highs n k ↔ ∃ d, 1 ≤ d ∧ d ≤ k ∧ d ∣ n ∧ d * d < n ∧ x = n / d
  | 0 => by
    simp only [highs, List.not_mem_nil, false_iff]
    rintro ⟨d, h1, h2, _⟩; omega
  | k + 1 => by
    have key : (∃ d, 1 ≤ d ∧ d ≤ k ∧ d ∣ n ∧ d * d < n ∧ x = n / d) → ∃ d, 1 ≤ d ∧ d ≤ k + 1 ∧ d ∣ n ∧ d * d < n ∧ x = n / d := by
      rintro ⟨d, h1, h2, h3⟩; exact ⟨d, h1, by omega, h3⟩
    have back : ¬ (n % (k + 1) = 0 ∧ (k + 1) * (k + 1) < n) → (∃ d, 1 ≤ d ∧ d ≤ k + 1 ∧ d ∣ n ∧ d * d < n ∧ x = n / d) → ∃ d, 1 ≤ d ∧ d ≤ k ∧ d ∣ n ∧ d * d < n ∧ x = n / d := by
      rintro hn ⟨d, h1, h2, h3, h4, h5⟩
      refine ⟨d, h1, ?_, h3, h4, h5⟩
      rcases Nat.lt_or_ge k d with h6 | h6
      · obtain rfl : d = k + 1 := by omega
        exact absurd ⟨Nat.mod_eq_zero_of_dvd h3, h4⟩ hn
      · exact h6
    simp only [highs]
    split
    · rename_i h
      split
      · rename_i h'
        rw [List.mem_cons, mem_highs]
        constructor
        · rintro (rfl | h2)
          · exact ⟨k + 1, by omega, Nat.le_refl _, Nat.dvd_of_mod_eq_zero h, h', rfl⟩
          · exact key h2
        · rintro ⟨d, h1, h2, h3, h4, h5⟩
          by_cases hd : d = k + 1
          · subst hd; exact .inl h5
          · exact .inr ⟨d, h1, by omega, h3, h4, h5⟩
      · rename_i h'
        rw [mem_highs]; exact ⟨key, back fun hh => h' hh.2⟩
    · rename_i h
      rw [mem_highs]; exact ⟨key, back fun hh => h hh.1⟩

theorem asc_lows (n : Nat) : ∀ k, (lows n k).Pairwise (· < ·)
  | 0 => by simp [lows]
  | k + 1 => by
    simp only [lows]
    split
    · rw [List.pairwise_append]
      refine ⟨asc_lows n k, by simp, fun a ha b hb => ?_⟩
      rw [List.mem_singleton] at hb; subst hb
      have := (mem_lows.1 ha).2.1; omega
    · exact asc_lows n k

theorem asc_highs {n : Nat} (hn : 0 < n) : ∀ k, (highs n k).Pairwise (· < ·)
  | 0 => by simp [highs]
  | k + 1 => by
    simp only [highs]
    split
    · rename_i h
      split
      · rw [List.pairwise_cons]
        refine ⟨fun a ha => ?_, asc_highs hn k⟩
        obtain ⟨d, h1, h2, h3, h4, rfl⟩ := mem_highs.1 ha
        obtain ⟨c, hc⟩ := h3
        obtain ⟨c', hc'⟩ := Nat.dvd_of_mod_eq_zero h
        have e1 : n / d = c := by rw [hc]; exact Nat.mul_div_cancel_left _ h1
        have e2 : n / (k + 1) = c' := by rw [hc']; exact Nat.mul_div_cancel_left _ (by omega)
        rw [e1, e2]
        rcases Nat.lt_or_ge c' c with h5 | h5
        · exact h5
        · exfalso
          have h6 : d * c ≤ d * c' := Nat.mul_le_mul_left _ h5
          have h7 : d * c' < (k + 1) * c' := by
            refine Nat.mul_lt_mul_of_pos_right (by omega) ?_
            rcases Nat.eq_zero_or_pos c' with h8 | h8
            · subst h8; omega
            · exact h8
          omega
      · exact asc_highs hn k
    · exact asc_highs hn k

theorem divs_two {n k : Nat} (hn : 0 < n) (h1 : k * k ≤ n) (h2 : n < (k + 1) * (k + 1)) : (lows n k ++ highs n k).Pairwise (· < ·) ∧ ∀ x, x ∈ lows n k ++ highs n k ↔ x ∣ n := by
  constructor
  · rw [List.pairwise_append]
    refine ⟨asc_lows n k, asc_highs hn k, fun a ha b hb => ?_⟩
    obtain ⟨d, g1, g2, g3, g4, rfl⟩ := mem_highs.1 hb
    have ha2 := (mem_lows.1 ha).2.1
    obtain ⟨c, hc⟩ := g3
    have e1 : n / d = c := by rw [hc]; exact Nat.mul_div_cancel_left _ g1
    rw [e1]
    rcases Nat.lt_or_ge a c with h5 | h5
    · exact h5
    · exfalso
      have h6 : d < c := by
        rcases Nat.lt_or_ge d c with h | h
        · exact h
        · have := Nat.mul_le_mul_left d h; omega
      have h7 : d * c ≤ d * k := Nat.mul_le_mul_left _ (by omega)
      have h8 : d * k < k * k := Nat.mul_lt_mul_of_pos_right (by omega) (by omega)
      omega
  · intro x
    rw [List.mem_append, mem_lows, mem_highs]
    constructor
    · rintro (⟨_, _, h⟩ | ⟨d, g1, g2, ⟨c, hc⟩, g4, rfl⟩)
      · exact h
      · have e1 : n / d = c := by rw [hc]; exact Nat.mul_div_cancel_left _ g1
        rw [e1]; exact ⟨d, by rw [hc, Nat.mul_comm]⟩
    · intro hx
      have hx0 := Nat.pos_of_dvd_of_pos hx hn
      rcases Nat.lt_or_ge k x with h | h
      · right
        obtain ⟨d, hd⟩ := hx
        have hd0 : 0 < d := by
          rcases Nat.eq_zero_or_pos d with h8 | h8
          · subst h8; omega
          · exact h8
        have hdk : d ≤ k := by
          rcases Nat.lt_or_ge k d with h9 | h9
          · have := Nat.mul_le_mul (show k + 1 ≤ x by omega) (show k + 1 ≤ d by omega); omega
          · exact h9
        refine ⟨d, hd0, hdk, ⟨x, by rw [hd, Nat.mul_comm]⟩, ?_, ?_⟩
        · rw [hd]; exact Nat.mul_lt_mul_of_pos_right (by omega) hd0
        · rw [hd]; exact (Nat.mul_div_cancel _ hd0).symm
      · exact .inl ⟨hx0, h, hx⟩

theorem length_lows (n : Nat) : ∀ k, (lows n k).length ≤ k
  | 0 => by simp [lows]
  | k + 1 => by
    simp only [lows]
    have := length_lows n k
    split
    · rw [List.length_append]; simp; omega
    · omega

theorem length_highs (n : Nat) : ∀ k, (highs n k).length ≤ k
  | 0 => by simp [highs]
  | k + 1 => by
    simp only [highs]
    have := length_highs n k
    split
    · split
      · simp; omega
      · omega
    · omega
end Go.Proofs.YtamhlkjfpdkhoaaGreatDoor
