/- Plain arithmetic: permutations of lists, products, the theorems of Fermat and Euler. No program is spoken of. -/
namespace Go.Proofs.YtamhlkjfpdkhoaaGreatDoor

/-- A number without divisors but 1 and itself. -/
def Pr (p : Nat) : Prop := 2 ≤ p ∧ ∀ d, d ∣ p → d = 1 ∨ d = p

theorem perm_of_nodup : ∀ (l1 l2 : List Nat), l1.Nodup → (∀ x ∈ l1, x ∈ l2) → l2.length ≤ l1.length → l1.Perm l2
  | [], l2, _, _, h => by
    have : l2 = [] := List.eq_nil_of_length_eq_zero (by simpa using h)
    subst this; exact List.Perm.refl _
  | x :: l, l2, hn, hs, h => by
    have hx : x ∈ l2 := hs x (by simp)
    have hp := List.perm_cons_erase hx
    have hl : (l2.erase x).length + 1 = l2.length := by
      have := hp.length_eq; simpa using this.symm
    rw [List.nodup_cons] at hn
    have ih := perm_of_nodup l (l2.erase x) hn.2 (fun y hy => by
      have h1 := hs y (by simp [hy])
      have h2 := hp.mem_iff.1 h1
      rw [List.mem_cons] at h2
      rcases h2 with h2 | h2
      · subst h2; exact absurd hy hn.1
      · exact h2) (by simp at h; omega)
    exact (List.Perm.cons x ih).trans hp.symm

def prd : List Nat → Nat
  | [] => 1
  | x :: l => x * prd l

theorem prd_perm {l1 l2 : List Nat} (h : l1.Perm l2) : prd l1 = prd l2 := by
  induction h with
  | nil => rfl
  | cons x _ ih => simp [prd, ih]
  | swap x y l => simp [prd, Nat.mul_left_comm]
  | trans _ _ ih1 ih2 => rw [ih1, ih2]

theorem prd_map_mul (m a : Nat) : ∀ l : List Nat, prd (l.map fun k => a * k % m) % m = a ^ l.length * prd l % m
  | [] => by simp [prd]
  | x :: l => by
    have ih := prd_map_mul m a l
    simp only [List.map_cons, prd, List.length_cons]
    rw [Nat.mul_mod, Nat.mod_mod, ih, ← Nat.mul_mod, Nat.pow_succ]
    congr 1
    simp only [Nat.mul_assoc, Nat.mul_left_comm, Nat.mul_comm]

theorem Pr.coprime {p a : Nat} (hp : Pr p) (h : ¬ p ∣ a) : Nat.Coprime p a := by
  rcases hp.2 (Nat.gcd p a) (Nat.gcd_dvd_left _ _) with h1 | h1
  · exact h1
  · exact absurd (h1 ▸ Nat.gcd_dvd_right p a) h

theorem Pr.dvd_mul {p a b : Nat} (hp : Pr p) (h : p ∣ a * b) : p ∣ a ∨ p ∣ b := by
  by_cases ha : p ∣ a
  · exact .inl ha
  · exact .inr ((hp.coprime ha).dvd_of_dvd_mul_left h)

theorem not_dvd_prd {p : Nat} (hp : Pr p) : ∀ l : List Nat, (∀ x ∈ l, ¬ p ∣ x) → ¬ p ∣ prd l
  | [], _, h => by
    have := Nat.le_of_dvd (by simp [prd]) h; simp [prd] at this; have := hp.1; omega
  | x :: l, hx, h => by
    rcases hp.dvd_mul h with h | h
    · exact hx x (by simp) h
    · exact not_dvd_prd hp l (fun y hy => hx y (by simp [hy])) h

theorem mod_eq_dvd {m a b : Nat} (hab : a ≤ b) : a % m = b % m ↔ m ∣ b - a := by
  constructor
  · intro h
    exact Nat.dvd_of_mod_eq_zero (Nat.sub_mod_eq_zero_of_mod_eq h.symm)
  · rintro ⟨c, hc⟩
    have : b = a + m * c := by omega
    rw [this, Nat.add_mul_mod_self_left]

/-- Cancelling a factor modulo m. -/
theorem cancel_mod {m c a b : Nat} (hc : Nat.Coprime m c) (h : c * a % m = c * b % m) : a % m = b % m := by
  rcases Nat.le_total a b with hab | hab
  · have h1 : m ∣ c * b - c * a := (mod_eq_dvd (Nat.mul_le_mul_left c hab)).1 h
    rw [← Nat.mul_sub] at h1
    exact (mod_eq_dvd hab).2 (hc.dvd_of_dvd_mul_left h1)
  · have h1 : m ∣ c * a - c * b := (mod_eq_dvd (Nat.mul_le_mul_left c hab)).1 h.symm
    rw [← Nat.mul_sub] at h1
    exact ((mod_eq_dvd hab).2 (hc.dvd_of_dvd_mul_left h1)).symm

theorem nodup_map_of {f : Nat → Nat} : ∀ l : List Nat, l.Nodup → (∀ x ∈ l, ∀ y ∈ l, f x = f y → x = y) → (l.map f).Nodup
  | [], _, _ => by simp
  | x :: l, h, hf => by
    rw [List.nodup_cons] at h
    rw [List.map_cons, List.nodup_cons]
    refine ⟨?_, nodup_map_of l h.2 fun a ha b hb => hf a (by simp [ha]) b (by simp [hb])⟩
    intro hm
    obtain ⟨y, hy, he⟩ := List.mem_map.1 hm
    have := hf y (by simp [hy]) x (by simp) he
    exact h.1 (this ▸ hy)

/-- Fermat. -/
theorem fermat {p a : Nat} (hp : Pr p) (ha : ¬ p ∣ a) : a ^ (p - 1) % p = 1 % p := by
  have h2 := hp.1
  let L := List.range' 1 (p - 1)
  have hL : ∀ x, x ∈ L ↔ 1 ≤ x ∧ x < p := by
    intro x; simp only [L, List.mem_range'_1]; omega
  have hlen : L.length = p - 1 := by simp [L]
  have hnd : L.Nodup := List.nodup_range'
  have hnp : ∀ x ∈ L, ¬ p ∣ x := by
    intro x hx hd
    have := Nat.le_of_dvd (by have := (hL x).1 hx; omega) hd
    have := (hL x).1 hx; omega
  have hcop := hp.coprime ha
  have hperm : (L.map fun k => a * k % p).Perm L := by
    refine perm_of_nodup _ _ (nodup_map_of L hnd ?_) ?_ (by simp)
    · intro x hx y hy he
      have hxy := cancel_mod hcop he
      have h1 := (hL x).1 hx; have h2 := (hL y).1 hy
      rwa [Nat.mod_eq_of_lt h1.2, Nat.mod_eq_of_lt h2.2] at hxy
    · intro y hy
      obtain ⟨x, hx, rfl⟩ := List.mem_map.1 hy
      rw [hL]
      refine ⟨?_, Nat.mod_lt _ (by omega)⟩
      rcases Nat.eq_zero_or_pos (a * x % p) with h0 | h0
      · rcases hp.dvd_mul (Nat.dvd_of_mod_eq_zero h0) with h | h
        · exact absurd h ha
        · exact absurd h (hnp x hx)
      · exact h0
  have h1 := prd_map_mul p a L
  rw [prd_perm hperm, hlen] at h1
  have hc : Nat.Coprime p (prd L) := hp.coprime (not_dvd_prd hp L hnp)
  have h3 : prd L * a ^ (p - 1) % p = prd L * 1 % p := by
    rw [Nat.mul_one, h1, Nat.mul_comm]
  exact cancel_mod hc h3

theorem one_add_pow (y : Nat) : ∀ n : Nat, ∃ c, (1 + y) ^ n = 1 + n * y + y * y * c
  | 0 => ⟨0, by simp⟩
  | n + 1 => by
    obtain ⟨c, hc⟩ := one_add_pow y n
    refine ⟨c + c * y + n, ?_⟩
    rw [Nat.pow_succ, hc]
    simp only [Nat.mul_add, Nat.mul_one, Nat.mul_comm, Nat.mul_left_comm]
    omega

theorem lift_one {p k x : Nat} (hp : 2 ≤ p) (hk : 1 ≤ k) (h : x % p ^ k = 1 % p ^ k) : x ^ p % p ^ (k + 1) = 1 % p ^ (k + 1) := by
  have hpk : 2 ≤ p ^ k := by
    calc 2 ≤ p := hp
      _ = p ^ 1 := (Nat.pow_one p).symm
      _ ≤ p ^ k := Nat.pow_le_pow_right (by omega) hk
  rw [Nat.mod_eq_of_lt (by omega : 1 < p ^ k)] at h
  have hx : x = 1 + p ^ k * (x / p ^ k) := by
    have := Nat.mod_add_div x (p ^ k); omega
  generalize x / p ^ k = t at hx
  subst hx
  obtain ⟨c, hc⟩ := one_add_pow (p ^ k * t) p
  rw [hc]
  have e1 : p * (p ^ k * t) = p ^ (k + 1) * t := by
    rw [Nat.pow_succ, Nat.mul_comm (p ^ k) p, Nat.mul_assoc]
  obtain ⟨j, rfl⟩ : ∃ j, k = j + 1 := ⟨k - 1, by omega⟩
  have e2 : p ^ (j + 1) * t * (p ^ (j + 1) * t) * c = p ^ (j + 1 + 1) * (t * (p ^ j * t) * c) := by
    simp only [Nat.pow_succ, Nat.mul_comm, Nat.mul_left_comm]
  rw [e1, e2, Nat.add_assoc, ← Nat.mul_add, Nat.add_mul_mod_self_left]

theorem pow_mod_one {m a : Nat} (n : Nat) (h : a % m = 1 % m) : a ^ n % m = 1 % m := by
  rw [Nat.pow_mod, h, ← Nat.pow_mod, Nat.one_pow]

theorem euler_pp {p a : Nat} (hp : Pr p) (ha : ¬ p ∣ a) : ∀ k, a ^ ((p - 1) * p ^ k) % p ^ (k + 1) = 1 % p ^ (k + 1)
  | 0 => by simpa using fermat hp ha
  | k + 1 => by
    have ih := lift_one hp.1 (by omega) (euler_pp hp ha k)
    rw [Nat.pow_succ p k, ← Nat.mul_assoc, Nat.pow_mul]; exact ih

/-- The list of primes, rising, each with how often it divides: the number. -/
def facs : List (Nat × Nat) → Nat
  | [] => 1
  | (p, k) :: l => p ^ k * facs l

def phi : List (Nat × Nat) → Nat
  | [] => 1
  | (p, k) :: l => (p - 1) * p ^ (k - 1) * phi l

/-- Primes rising above a bound, each at least once. -/
def Rise : Nat → List (Nat × Nat) → Prop
  | _, [] => True
  | b, (p, k) :: l => b < p ∧ Pr p ∧ 1 ≤ k ∧ Rise p l

theorem Pr.dvd_pow {p a : Nat} (hp : Pr p) : ∀ {k}, p ∣ a ^ k → p ∣ a
  | 0, h => by
    rw [Nat.pow_zero] at h
    have := Nat.le_of_dvd (by omega) h; have := hp.1; omega
  | k + 1, h => by
    rw [Nat.pow_succ] at h
    rcases hp.dvd_mul h with h | h
    · exact hp.dvd_pow h
    · exact h

theorem rise_not_dvd {q : Nat} (hq : Pr q) : ∀ (l : List (Nat × Nat)) (b : Nat), Rise b l → q ≤ b → ¬ q ∣ facs l
  | [], _, _, _, h => by have := Nat.le_of_dvd (by simp [facs]) h; simp [facs] at this; have := hq.1; omega
  | (p, k) :: l, b, hr, hb, h => by
    obtain ⟨h1, h2, h3, h4⟩ := hr
    rcases hq.dvd_mul h with h | h
    · have := hq.dvd_pow h
      rcases h2.2 q this with e | e
      · have := hq.1; omega
      · omega
    · exact rise_not_dvd hq l p h4 (by omega) h

theorem facs_pos : ∀ (l : List (Nat × Nat)) (b : Nat), Rise b l → 0 < facs l
  | [], _, _ => by simp [facs]
  | (p, k) :: l, b, hr => Nat.mul_pos (Nat.pow_pos (by have := hr.2.1.1; omega)) (facs_pos l p hr.2.2.2)

theorem coprime_pow {p m : Nat} (hp : Pr p) (h : ¬ p ∣ m) (k : Nat) : Nat.Coprime (p ^ k) m :=
  Nat.Coprime.pow_left k (hp.coprime h)

/-- Euler. -/
theorem euler : ∀ (l : List (Nat × Nat)) (b a : Nat), Rise b l → Nat.Coprime (facs l) a → a ^ phi l % facs l = 1 % facs l
  | [], _, a, _, _ => by simp [facs, Nat.mod_one]
  | (p, k) :: l, b, a, hr, hc => by
    obtain ⟨h1, h2, h3, h4⟩ := hr
    have hcl : Nat.Coprime (facs l) a := Nat.Coprime.coprime_mul_left hc
    have hcp : Nat.Coprime (p ^ k) a := Nat.Coprime.coprime_mul_right hc
    have ih := euler l p a h4 hcl
    obtain ⟨j, rfl⟩ : ∃ j, k = j + 1 := ⟨k - 1, by omega⟩
    have hpa : ¬ p ∣ a := by
      intro hd
      have hg : p ∣ Nat.gcd (p ^ (j + 1)) a := Nat.dvd_gcd (by rw [Nat.pow_succ]; exact Nat.dvd_mul_left _ _) hd
      rw [hcp] at hg
      have := Nat.le_of_dvd (by omega) hg; have := h2.1; omega
    have h5 := euler_pp h2 hpa j
    have apos : 0 < a ^ phi ((p, j + 1) :: l) := by
      apply Nat.pow_pos
      rcases Nat.eq_zero_or_pos a with h0 | h0
      · subst h0; exact absurd (Nat.dvd_zero p) hpa
      · exact h0
    have e1 : a ^ phi ((p, j + 1) :: l) % p ^ (j + 1) = 1 % p ^ (j + 1) := by
      simp only [phi, Nat.add_sub_cancel]; rw [Nat.pow_mul]; exact pow_mod_one _ h5
    have e2 : a ^ phi ((p, j + 1) :: l) % facs l = 1 % facs l := by
      simp only [phi]; rw [Nat.mul_comm, Nat.pow_mul]; exact pow_mod_one _ ih
    have d1 := (mod_eq_dvd (m := p ^ (j + 1)) apos).1 e1.symm
    have d2 := (mod_eq_dvd (m := facs l) apos).1 e2.symm
    have hco : Nat.Coprime (p ^ (j + 1)) (facs l) := coprime_pow h2 (rise_not_dvd h2 l p h4 (Nat.le_refl _)) _
    have d3 := hco.mul_dvd_of_dvd_of_dvd d1 d2
    exact ((mod_eq_dvd apos).2 d3).symm

end Go.Proofs.YtamhlkjfpdkhoaaGreatDoor
