/- Plain arithmetic: the law of reciprocity, the symbols of Legendre and Jacobi. No program is spoken of. -/
import Derived.Test.YtamhlkjfpdkhoaaGreatDoorArith
/-! Recip: Plain arithmetic: the lemma of Gauss and the law of reciprocity. No program is spoken of. -/
namespace Go.Proofs.YtamhlkjfpdkhoaaGreatDoor

/-- The sum of f 1 .. f n. -/
def sm (f : Nat → Nat) : Nat → Nat
  | 0 => 0
  | n + 1 => sm f n + f (n + 1)

theorem sm_congr {f g : Nat → Nat} : ∀ n, (∀ k, 1 ≤ k → k ≤ n → f k = g k) → sm f n = sm g n
  | 0, _ => rfl
  | n + 1, h => by simp only [sm]; rw [sm_congr n fun k a b => h k a (by omega), h (n + 1) (by omega) (by omega)]

theorem sm_add (f g : Nat → Nat) : ∀ n, sm (fun k => f k + g k) n = sm f n + sm g n
  | 0 => rfl
  | n + 1 => by simp only [sm]; rw [sm_add f g n]; omega

theorem sm_mul (c : Nat) (f : Nat → Nat) : ∀ n, sm (fun k => c * f k) n = c * sm f n
  | 0 => rfl
  | n + 1 => by simp only [sm]; rw [sm_mul c f n, Nat.mul_add]

theorem sm_const (c : Nat) : ∀ n, sm (fun _ => c) n = n * c
  | 0 => by simp [sm]
  | n + 1 => by simp only [sm]; rw [sm_const c n, Nat.succ_mul]

theorem sm_swap (f : Nat → Nat → Nat) (m : Nat) : ∀ n, sm (fun i => sm (fun j => f i j) m) n = sm (fun j => sm (fun i => f i j) n) m
  | 0 => by
    simp only [sm]
    have : ∀ m, sm (fun _ => 0) m = 0 := fun m => by rw [sm_const]; simp
    exact (this m).symm
  | n + 1 => by
    simp only [sm]
    rw [sm_swap f m n, ← sm_add]

/-- A sum over a permutation of 1 .. n. -/
def lsum : List Nat → Nat
  | [] => 0
  | x :: l => x + lsum l

theorem lsum_perm {l1 l2 : List Nat} (h : l1.Perm l2) : lsum l1 = lsum l2 := by
  induction h with
  | nil => rfl
  | cons x _ ih => simp [lsum, ih]
  | swap x y l => simp [lsum]; omega
  | trans _ _ ih1 ih2 => rw [ih1, ih2]

/-- 1 .. n, the greatest first. -/
def down : Nat → List Nat
  | 0 => []
  | n + 1 => (n + 1) :: down n

theorem mem_down {n x : Nat} : x ∈ down n ↔ 1 ≤ x ∧ x ≤ n := by
  induction n with
  | zero => simp [down]; omega
  | succ n ih => simp only [down, List.mem_cons, ih]; omega

theorem nodup_down : ∀ n, (down n).Nodup
  | 0 => by simp [down]
  | n + 1 => by simp only [down, List.nodup_cons, mem_down]; exact ⟨by omega, nodup_down n⟩

theorem lsum_map_down (f : Nat → Nat) : ∀ n, lsum ((down n).map f) = sm f n
  | 0 => rfl
  | n + 1 => by simp only [down, List.map_cons, lsum, sm, lsum_map_down f n]; omega

theorem lsum_down (n : Nat) : lsum (down n) = sm (fun k => k) n := by
  have := lsum_map_down (fun k => k) n; simpa using this

theorem length_down (n : Nat) : (down n).length = n := by
  induction n with
  | zero => rfl
  | succ n ih => simp [down, ih]

/-- The absolutely least rest of a k by p, without its sign. -/
def near (p a k : Nat) : Nat := if a * k % p ≤ (p - 1) / 2 then a * k % p else p - a * k % p

/-- Is that rest negative? -/
def far (p a k : Nat) : Nat := if a * k % p ≤ (p - 1) / 2 then 0 else 1

def sgn (n : Nat) : Int := if n % 2 = 0 then 1 else -1

theorem sgn_add (m n : Nat) : sgn (m + n) = sgn m * sgn n := by
  unfold sgn
  rcases Nat.mod_two_eq_zero_or_one m with h | h <;> rcases Nat.mod_two_eq_zero_or_one n with h' | h' <;> simp [Nat.add_mod, h, h']

section
variable {p a : Nat}

theorem near_perm (hp : Pr p) (h2 : p % 2 = 1) (ha : ¬ p ∣ a) : ((down ((p - 1) / 2)).map (near p a)).Perm (down ((p - 1) / 2)) := by
  have hp2 := hp.1
  have hcop := hp.coprime ha
  have hr : ∀ k, 1 ≤ k → k ≤ (p - 1) / 2 → 0 < a * k % p ∧ a * k % p < p := by
    intro k h1 hk
    refine ⟨?_, Nat.mod_lt _ (by omega)⟩
    rcases Nat.eq_zero_or_pos (a * k % p) with h0 | h0
    · rcases hp.dvd_mul (Nat.dvd_of_mod_eq_zero h0) with h | h
      · exact absurd h ha
      · have := Nat.le_of_dvd (by omega) h; omega
    · exact h0
  refine perm_of_nodup _ _ (nodup_map_of _ (nodup_down _) ?_) ?_ (by simp)
  · intro x hx y hy he
    rw [mem_down] at hx hy
    have hrx := hr x hx.1 hx.2
    have hry := hr y hy.1 hy.2
    have hsame : a * x % p = a * y % p → x = y := by
      intro h
      have := cancel_mod hcop h
      rwa [Nat.mod_eq_of_lt (by omega), Nat.mod_eq_of_lt (by omega)] at this
    have hopp : a * x % p + a * y % p = p → x = y := by
      intro h
      exfalso
      have h3 : p ∣ a * (x + y) := by
        rw [Nat.mul_add]
        have e1 := Nat.mod_add_div (a * x) p
        have e2 := Nat.mod_add_div (a * y) p
        refine ⟨1 + a * x / p + a * y / p, ?_⟩
        rw [Nat.mul_add, Nat.mul_add]; omega
      rcases hp.dvd_mul h3 with h | h
      · exact ha h
      · have := Nat.le_of_dvd (by omega) h; omega
    unfold near at he
    split at he <;> split at he
    · exact hsame he
    · exact hopp (by omega)
    · exact hopp (by omega)
    · exact hsame (by omega)
  · intro y hy
    obtain ⟨x, hx, rfl⟩ := List.mem_map.1 hy
    rw [mem_down] at hx ⊢
    have := hr x hx.1 hx.2
    unfold near; split <;> omega

theorem near_prd (hp0 : 0 < p) : ∀ n, ∃ c : Int, (prd ((down n).map (near p a)) : Int) * sgn (sm (far p a) n) = (a : Int) ^ n * prd (down n) + p * c
  | 0 => ⟨0, by simp [down, prd, sm, sgn]⟩
  | n + 1 => by
    obtain ⟨c, hc⟩ := near_prd hp0 n
    have e := Nat.mod_add_div (a * (n + 1)) p
    simp only [down, List.map_cons, prd, sm, sgn_add]
    have e' : ((a * (n + 1) % p : Nat) : Int) + p * ((a * (n + 1) / p : Nat) : Int) = a * (n + 1) := by exact_mod_cast e
    generalize prd (down n) = Q at *
    generalize prd ((down n).map (near p a)) = N at *
    generalize sgn (sm (far p a) n) = S at *
    by_cases h : a * (n + 1) % p ≤ (p - 1) / 2
    · have h1 : near p a (n + 1) = a * (n + 1) % p := by simp [near, h]
      have h2 : far p a (n + 1) = 0 := by simp [far, h]
      rw [h1, h2]
      generalize a * (n + 1) % p = r at *
      generalize a * (n + 1) / p = q at *
      have s0 : sgn 0 = 1 := rfl
      refine ⟨(a * (n + 1)) * c - q * ((a : Int) ^ n * Q + p * c), ?_⟩
      rw [s0]; push_cast
      grind
    · have h1 : near p a (n + 1) = p - a * (n + 1) % p := by simp [near, h]
      have h2 : far p a (n + 1) = 1 := by simp [far, h]
      have h3 : a * (n + 1) % p ≤ p := Nat.le_of_lt (Nat.mod_lt _ hp0)
      rw [h1, h2]
      have h4 : ((p - a * (n + 1) % p : Nat) : Int) = p - (a * (n + 1) % p : Nat) := by omega
      have s1 : sgn 1 = -1 := rfl
      rw [s1]
      simp only [Int.natCast_mul, h4]
      generalize a * (n + 1) % p = r at *
      generalize a * (n + 1) / p = q at *
      refine ⟨(a * (n + 1)) * c - (q + 1) * ((a : Int) ^ n * Q + p * c), ?_⟩
      push_cast
      grind

/-- The lemma of Gauss. -/
theorem gauss_lemma (hp : Pr p) (h2 : p % 2 = 1) (ha : ¬ p ∣ a) : (p : Int) ∣ (a : Int) ^ ((p - 1) / 2) - sgn (sm (far p a) ((p - 1) / 2)) := by
  obtain ⟨c, hc⟩ := near_prd (p := p) (a := a) (by have := hp.1; omega) ((p - 1) / 2)
  rw [prd_perm (near_perm hp h2 ha)] at hc
  have hnd : ¬ p ∣ prd (down ((p - 1) / 2)) := by
    refine not_dvd_prd hp _ ?_
    intro x hx hd
    rw [mem_down] at hx
    have := Nat.le_of_dvd (by omega) hd; have := hp.1; omega
  have hco : Nat.Coprime p (prd (down ((p - 1) / 2))) := hp.coprime hnd
  generalize prd (down ((p - 1) / 2)) = Q at *
  generalize sgn (sm (far p a) ((p - 1) / 2)) = S at *
  have hd : (p : Int) ∣ (Q : Int) * ((a : Int) ^ ((p - 1) / 2) - S) := ⟨-c, by grind⟩
  rw [← Int.natAbs_dvd_natAbs, Int.natAbs_mul, Int.natAbs_natCast, Int.natAbs_natCast] at hd
  rw [← Int.natAbs_dvd_natAbs, Int.natAbs_natCast]
  exact hco.dvd_of_dvd_mul_left hd


theorem sm_even {f : Nat → Nat} : ∀ n, (∀ k, 1 ≤ k → k ≤ n → f k % 2 = 0) → sm f n % 2 = 0
  | 0, _ => rfl
  | n + 1, h => by
    have h1 := sm_even n fun k a b => h k a (by omega)
    have h2 := h (n + 1) (by omega) (by omega)
    simp only [sm]; omega

/-- The parity of the number of negative rests. -/
theorem far_parity (hp : Pr p) (h2 : p % 2 = 1) (ha : ¬ p ∣ a) :
    (a * sm (fun k => k) ((p - 1) / 2) + sm (fun k => a * k / p) ((p - 1) / 2) + sm (fun k => k) ((p - 1) / 2) + sm (far p a) ((p - 1) / 2)) % 2 = 0 := by
  have hp0 : 0 < p := by have := hp.1; omega
  have hs : sm (near p a) ((p - 1) / 2) = sm (fun k => k) ((p - 1) / 2) := by
    rw [← lsum_map_down, ← lsum_down]; exact lsum_perm (near_perm hp h2 ha)
  have he : sm (fun k => a * k % p + near p a k + far p a k) ((p - 1) / 2) % 2 = 0 := by
    refine sm_even _ fun k _ _ => ?_
    have := Nat.mod_lt (a * k) hp0
    unfold near far
    split <;> omega
  have hsum : sm (fun k => a * k % p + near p a k + far p a k) ((p - 1) / 2) = sm (fun k => a * k % p) ((p - 1) / 2) + sm (near p a) ((p - 1) / 2) + sm (far p a) ((p - 1) / 2) := by
    rw [sm_add (fun k => a * k % p + near p a k) (far p a), sm_add (fun k => a * k % p) (near p a)]
  have hm : a * sm (fun k => k) ((p - 1) / 2) = p * sm (fun k => a * k / p) ((p - 1) / 2) + sm (fun k => a * k % p) ((p - 1) / 2) := by
    rw [← sm_mul, ← sm_mul, ← sm_add]
    exact sm_congr _ fun k _ _ => (Nat.div_add_mod _ _).symm
  rw [hsum, hs] at he
  generalize sm (fun k => a * k % p) ((p - 1) / 2) = R at *
  generalize sm (fun k => a * k / p) ((p - 1) / 2) = F at *
  generalize sm (fun k => k) ((p - 1) / 2) = K at *
  generalize sm (far p a) ((p - 1) / 2) = G at *
  rw [hm]
  have e : p * F % 2 = F % 2 := by rw [Nat.mul_mod, h2]; simp
  omega

/-- For odd a the quotients tell it. -/
theorem far_floor (hp : Pr p) (h2 : p % 2 = 1) (ha : ¬ p ∣ a) (h2a : a % 2 = 1) : sm (far p a) ((p - 1) / 2) % 2 = sm (fun k => a * k / p) ((p - 1) / 2) % 2 := by
  have h := far_parity hp h2 ha
  have e : a * sm (fun k => k) ((p - 1) / 2) % 2 = sm (fun k => k) ((p - 1) / 2) % 2 := by rw [Nat.mul_mod, h2a]; simp
  omega

theorem sm_id (n : Nat) : 2 * sm (fun k => k) n = n * (n + 1) := by
  induction n with
  | zero => rfl
  | succ n ih => simp only [sm, Nat.mul_add, ih]; grind

/-- 2 is a square just by the rest by 8. -/
theorem far_two (hp : Pr p) (h2 : p % 2 = 1) : sgn (sm (far p 2) ((p - 1) / 2)) = if p % 8 = 3 ∨ p % 8 = 5 then -1 else 1 := by
  have hnd : ¬ p ∣ 2 := fun h => by have := Nat.le_of_dvd (by omega) h; have := hp.1; omega
  have h := far_parity hp h2 hnd
  have h0 : sm (fun k => 2 * k / p) ((p - 1) / 2) = 0 := by
    rw [sm_congr (g := fun _ => 0) _ fun k _ hk => Nat.div_eq_of_lt (by omega), sm_const]; simp
  rw [h0] at h
  have hK := sm_id ((p - 1) / 2)
  unfold sgn
  generalize sm (fun k => k) ((p - 1) / 2) = K at *
  generalize sm (far p 2) ((p - 1) / 2) = G at *
  have hG : G % 2 = K % 2 := by omega
  rw [hG]
  obtain ⟨t, r, ht, hr⟩ : ∃ t r, (p - 1) / 2 = 4 * t + r ∧ r < 4 := ⟨(p - 1) / 2 / 4, (p - 1) / 2 % 4, by omega, by omega⟩
  rw [ht] at hK
  have hp8 : p % 8 = 2 * r + 1 := by omega
  have hK2 : K = (4 * t + r) * (4 * t + r + 1) / 2 := by omega
  have e1 : (4 * t + r) * (4 * t + r + 1) = 2 * (8 * (t * t) + 4 * (t * r) + 2 * t) + r * (r + 1) := by grind
  rw [hp8]
  have : r = 0 ∨ r = 1 ∨ r = 2 ∨ r = 3 := by omega
  rcases this with rfl | rfl | rfl | rfl
  · have : K % 2 = 0 := by omega
    simp [this]
  · have : K % 2 = 1 := by omega
    simp [this]
  · have : K % 2 = 1 := by omega
    simp [this]
  · have : K % 2 = 0 := by omega
    simp [this]

theorem cnt (hp0 : 0 < p) {x : Nat} (hx : 0 < x) : ∀ n, sm (fun j => if p * j < x then 1 else 0) n = min n ((x - 1) / p)
  | 0 => by simp [sm]
  | n + 1 => by
    simp only [sm, cnt hp0 hx n]
    have e : p * (n + 1) < x ↔ n + 1 ≤ (x - 1) / p := by
      rw [Nat.le_div_iff_mul_le hp0, Nat.mul_comm]; omega
    by_cases h : p * (n + 1) < x
    · rw [if_pos h]; have := e.1 h; omega
    · rw [if_neg h]; have := fun hh => h (e.2 hh); omega

theorem div_pred (hp0 : 0 < p) {x : Nat} (hx : ¬ p ∣ x) : (x - 1) / p = x / p := by
  have h0 : 0 < x % p := Nat.pos_of_ne_zero fun h => hx (Nat.dvd_of_mod_eq_zero h)
  have e := Nat.div_add_mod x p
  have hl := Nat.mod_lt x hp0
  have hlt : x % p - 1 < p := by omega
  have hx1 : x - 1 = p * (x / p) + (x % p - 1) := by omega
  rw [hx1, Nat.mul_add_div hp0, Nat.div_eq_of_lt hlt]; simp

/-- The points below a line and above it. -/
theorem lattice {q : Nat} (hp : Pr p) (hq : Pr q) (h2 : p % 2 = 1) (h2q : q % 2 = 1) (hne : p ≠ q) :
    sm (fun k => q * k / p) ((p - 1) / 2) + sm (fun j => p * j / q) ((q - 1) / 2) = (p - 1) / 2 * ((q - 1) / 2) := by
  have hp0 : 0 < p := by have := hp.1; omega
  have hq0 : 0 < q := by have := hq.1; omega
  have nd : ∀ {p q k : Nat}, Pr p → Pr q → p ≠ q → 1 ≤ k → k ≤ (p - 1) / 2 → ¬ p ∣ q * k := by
    intro p q k hp hq hne h1 hk hd
    rcases hp.dvd_mul hd with h | h
    · rcases hq.2 p h with h | h
      · have := hp.1; omega
      · exact hne h
    · have := Nat.le_of_dvd (by omega) h; omega
  have one : ∀ {p q : Nat}, Pr p → Pr q → p ≠ q → p % 2 = 1 → q % 2 = 1 → sm (fun k => q * k / p) ((p - 1) / 2) = sm (fun k => sm (fun j => if p * j < q * k then 1 else 0) ((q - 1) / 2)) ((p - 1) / 2) := by
    intro p q hp hq hne h2 h2q
    have hp0 : 0 < p := by have := hp.1; omega
    have hq0 : 0 < q := by have := hq.1; omega
    refine sm_congr _ fun k h1 hk => ?_
    rw [cnt hp0 (Nat.mul_pos hq0 h1), div_pred hp0 (nd hp hq hne h1 hk)]
    have : q * k / p < (q - 1) / 2 + 1 := by
      rw [Nat.div_lt_iff_lt_mul hp0]
      obtain ⟨u, rfl⟩ : ∃ u, p = 2 * u + 1 := ⟨p / 2, by omega⟩
      obtain ⟨v, rfl⟩ : ∃ v, q = 2 * v + 1 := ⟨q / 2, by omega⟩
      have e1 : (2 * u + 1 - 1) / 2 = u := by omega
      have e2 : (2 * v + 1 - 1) / 2 = v := by omega
      rw [e1] at hk
      rw [e2]
      have := Nat.mul_le_mul_left (2 * v + 1) hk
      have e3 : (v + 1) * (2 * u + 1) = (2 * v + 1) * u + u + v + 1 := by grind
      omega
    omega
  rw [one hp hq hne h2 h2q, one hq hp (Ne.symm hne) h2q h2, sm_swap (fun j k => if q * k < p * j then 1 else 0), ← sm_add]
  have e : sm (fun k => sm (fun j => if p * j < q * k then 1 else 0) ((q - 1) / 2) + sm (fun j => if q * k < p * j then 1 else 0) ((q - 1) / 2)) ((p - 1) / 2) = sm (fun _ => (q - 1) / 2) ((p - 1) / 2) := by
    refine sm_congr _ fun k h1 hk => ?_
    rw [← sm_add]
    have : sm (fun j => (if p * j < q * k then 1 else 0) + (if q * k < p * j then 1 else 0)) ((q - 1) / 2) = sm (fun _ => 1) ((q - 1) / 2) := by
      refine sm_congr _ fun j _ _ => ?_
      have hne2 : p * j ≠ q * k := fun h => nd hp hq hne h1 hk ⟨j, h.symm⟩
      by_cases h : p * j < q * k
      · rw [if_pos h, if_neg (by omega)]
      · rw [if_neg h, if_pos (by omega)]
    rw [this, sm_const]; simp
  rw [e, sm_const]

/-- THE LAW OF RECIPROCITY. -/
theorem reciprocity {q : Nat} (hp : Pr p) (hq : Pr q) (h2 : p % 2 = 1) (h2q : q % 2 = 1) (hne : p ≠ q) :
    sgn (sm (far p q) ((p - 1) / 2)) * sgn (sm (far q p) ((q - 1) / 2)) = sgn ((p - 1) / 2 * ((q - 1) / 2)) := by
  have nd1 : ¬ p ∣ q := fun h => by
    rcases hq.2 p h with h | h
    · have := hp.1; omega
    · exact hne h
  have nd2 : ¬ q ∣ p := fun h => by
    rcases hp.2 q h with h | h
    · have := hq.1; omega
    · exact hne h.symm
  have f1 := far_floor hp h2 nd1 h2q
  have f2 := far_floor hq h2q nd2 h2
  rw [← lattice hp hq h2 h2q hne, sgn_add]
  unfold sgn
  rw [f1, f2]
end
end Go.Proofs.YtamhlkjfpdkhoaaGreatDoor

/-! Jac: Plain arithmetic: the symbols of Legendre and Jacobi, and their laws. No program is spoken of. -/
namespace Go.Proofs.YtamhlkjfpdkhoaaGreatDoor

/-- A number is what is left of it before the first candidate and its factors, after each. -/
theorem part_exists {N : Nat} (h : 0 < N) : ∀ j, ∃ left l, Part N (2 + j) left l
  | 0 => ⟨N, [], Part.start h⟩
  | j + 1 => by
    obtain ⟨left, l, hp⟩ := part_exists h j
    have h0 : 0 < left := hp.2.2.2.2
    have key : ∀ f v, v ≤ f → 0 < v → ∃ k u, (2 + j) ^ k * u = v ∧ ¬ (2 + j) ∣ u := by
      intro f
      induction f with
      | zero => intro v h1 h2; omega
      | succ f ih =>
        intro v h1 h2
        by_cases hd : (2 + j) ∣ v
        · obtain ⟨c, rfl⟩ := hd
          have hc0 : 0 < c := Nat.pos_of_mul_pos_left h2
          have hc : c < (2 + j) * c := by have := Nat.mul_le_mul_right c (show 2 ≤ 2 + j by omega); omega
          obtain ⟨k, u, e, hu⟩ := ih c (by omega) hc0
          exact ⟨k + 1, u, by rw [← e, Nat.pow_succ, Nat.mul_comm ((2 + j) ^ k), Nat.mul_assoc], hu⟩
        · exact ⟨0, v, by simp, hd⟩
    obtain ⟨k, u, e, hu⟩ := key left left (Nat.le_refl _) h0
    rcases Nat.eq_zero_or_pos k with rfl | hk
    · have : u = left := by simpa using e
      subst this
      exact ⟨u, l, hp.none hu⟩
    · exact ⟨u, _, hp.some (by omega) hk e hu⟩

theorem fac_exists {N : Nat} (h : 0 < N) : ∃ L, Rise 1 L ∧ facs L = N := by
  obtain ⟨left, l, hp⟩ := part_exists h N
  have hle : left ≤ N := by
    have := hp.2.2.1
    rw [← this]; exact Nat.le_mul_of_pos_left _ (facs_pos l 1 hp.1)
  have hlt : left < (2 + N) * (2 + N) := by
    have := Nat.mul_le_mul (show 2 ≤ 2 + N by omega) (Nat.le_refl (2 + N)); omega
  rcases hp.last (by omega) hlt with ⟨_, h1, h2⟩ | ⟨_, h1, h2⟩
  · exact ⟨_, h1, h2⟩
  · exact ⟨_, h1, h2⟩

theorem rise_unique : ∀ {L M : List (Nat × Nat)} {b c : Nat}, Rise b L → Rise c M → facs L = facs M → L = M
  | [], [], _, _, _, _, _ => rfl
  | [], (q, k) :: m, b, c, _, hM, e => by
    exfalso
    have h2 := hM.2.1.1
    have h3 : q ∣ facs ((q, k) :: m) := by
      obtain ⟨j, rfl⟩ : ∃ j, k = j + 1 := ⟨k - 1, by have := hM.2.2.1; omega⟩
      exact ⟨q ^ j * facs m, by simp only [facs]; rw [Nat.pow_succ, Nat.mul_comm (q ^ j), Nat.mul_assoc]⟩
    rw [← e] at h3
    have := Nat.le_of_dvd (by simp [facs]) h3
    simp [facs] at this; omega
  | (p, j) :: l, [], b, c, hL, _, e => by
    exfalso
    have h2 := hL.2.1.1
    have h3 : p ∣ facs ((p, j) :: l) := by
      obtain ⟨i, rfl⟩ : ∃ i, j = i + 1 := ⟨j - 1, by have := hL.2.2.1; omega⟩
      exact ⟨p ^ i * facs l, by simp only [facs]; rw [Nat.pow_succ, Nat.mul_comm (p ^ i), Nat.mul_assoc]⟩
    rw [e] at h3
    have := Nat.le_of_dvd (by simp [facs]) h3
    simp [facs] at this; omega
  | (p, j) :: l, (q, k) :: m, b, c, hL, hM, e => by
    have dv : ∀ {p j : Nat} {l : List (Nat × Nat)}, 1 ≤ j → p ∣ facs ((p, j) :: l) := by
      intro p j l hj
      obtain ⟨i, rfl⟩ : ∃ i, j = i + 1 := ⟨j - 1, by omega⟩
      exact ⟨p ^ i * facs l, by simp only [facs]; rw [Nat.pow_succ, Nat.mul_comm (p ^ i), Nat.mul_assoc]⟩
    have hpq : p = q := by
      have h1 : p ≤ q := by
        have hd : q ∣ facs ((p, j) :: l) := e ▸ dv hM.2.2.1
        have hL' : Rise (p - 1) ((p, j) :: l) := ⟨by have := hL.2.1.1; omega, hL.2⟩
        have := Rise.lt_of_dvd hM.2.1 hL' hd; omega
      have h2 : q ≤ p := by
        have hd : p ∣ facs ((q, k) :: m) := e ▸ dv hL.2.2.1
        have hM' : Rise (q - 1) ((q, k) :: m) := ⟨by have := hM.2.1.1; omega, hM.2⟩
        have := Rise.lt_of_dvd hL.2.1 hM' hd; omega
      omega
    subst hpq
    have hp0 : 0 < p := by have := hL.2.1.1; omega
    obtain ⟨e1, e2⟩ := power_unique hp0 (rise_not_dvd hL.2.1 l p hL.2.2.2 (Nat.le_refl _)) (rise_not_dvd hL.2.1 m p hM.2.2.2 (Nat.le_refl _)) (show p ^ j * facs l = p ^ k * facs m from e)
    rw [e1, rise_unique hL.2.2.2 hM.2.2.2 e2]

/-- The list of the primes of a number. -/
noncomputable def fl (n : Nat) : List (Nat × Nat) := @Classical.epsilon _ ⟨[]⟩ fun L => Rise 1 L ∧ facs L = n
theorem fl_spec {n : Nat} (h : 0 < n) : Rise 1 (fl n) ∧ facs (fl n) = n := Classical.epsilon_spec (fac_exists h)
theorem fl_eq {n : Nat} {L : List (Nat × Nat)} (h1 : Rise 1 L) (h2 : facs L = n) : fl n = L := by
  have h := fl_spec (n := n) (by rw [← h2]; exact facs_pos L 1 h1)
  exact rise_unique h.1 h1 (h.2.trans h2.symm)

/-- The symbol of Legendre. -/
def leg (a p : Nat) : Int := if a % p = 0 then 0 else sgn (sm (far p a) ((p - 1) / 2))

theorem sgn_cases (n : Nat) : sgn n = 1 ∨ sgn n = -1 := by unfold sgn; split <;> simp

theorem leg_congr {a b p : Nat} (h : a % p = b % p) : leg a p = leg b p := by
  unfold leg
  rw [h]
  have : sm (far p a) ((p - 1) / 2) = sm (far p b) ((p - 1) / 2) := sm_congr _ fun k _ _ => by
    unfold far
    rw [Nat.mul_mod, h, ← Nat.mul_mod]
  rw [this]

theorem leg_euler {a p : Nat} (hp : Pr p) (h2 : p % 2 = 1) (ha : ¬ a % p = 0) : (p : Int) ∣ (a : Int) ^ ((p - 1) / 2) - leg a p ∧ (leg a p = 1 ∨ leg a p = -1) := by
  unfold leg
  rw [if_neg ha]
  exact ⟨gauss_lemma hp h2 fun h => ha (Nat.mod_eq_zero_of_dvd h), sgn_cases _⟩

theorem small_dvd {p : Nat} (hp : Pr p) (h2 : p % 2 = 1) {x y : Int} (hx : x = 1 ∨ x = -1) (hy : y = 1 ∨ y = -1) (h : (p : Int) ∣ x - y) : x = y := by
  have := hp.1
  obtain ⟨c, hc⟩ := h
  rcases hx with rfl | rfl <;> rcases hy with rfl | rfl
  · rfl
  · exfalso
    have hd : p ∣ 2 := by
      have : (p : Int) ∣ 2 := ⟨c, by omega⟩
      exact_mod_cast this
    have := Nat.le_of_dvd (by omega) hd; omega
  · exfalso
    have hd : p ∣ 2 := by
      have : (p : Int) ∣ 2 := ⟨-c, by rw [Int.mul_neg]; omega⟩
      exact_mod_cast this
    have := Nat.le_of_dvd (by omega) hd; omega
  · rfl

theorem leg_mul {a b p : Nat} (hp : Pr p) (h2 : p % 2 = 1) : leg (a * b) p = leg a p * leg b p := by
  by_cases ha : a % p = 0
  · have : a * b % p = 0 := by rw [Nat.mul_mod, ha]; simp
    unfold leg; rw [if_pos this, if_pos ha]; simp
  by_cases hb : b % p = 0
  · have : a * b % p = 0 := by rw [Nat.mul_mod, hb]; simp
    unfold leg; rw [if_pos this, if_pos hb]; simp
  have hab : ¬ a * b % p = 0 := fun h => by
    rcases hp.dvd_mul (Nat.dvd_of_mod_eq_zero h) with h | h
    · exact ha (Nat.mod_eq_zero_of_dvd h)
    · exact hb (Nat.mod_eq_zero_of_dvd h)
  obtain ⟨d1, v1⟩ := leg_euler hp h2 ha
  obtain ⟨d2, v2⟩ := leg_euler hp h2 hb
  obtain ⟨d3, v3⟩ := leg_euler hp h2 hab
  refine small_dvd hp h2 v3 (by rcases v1 with h | h <;> rcases v2 with h' | h' <;> rw [h, h'] <;> simp) ?_
  obtain ⟨c1, e1⟩ := d1
  obtain ⟨c2, e2⟩ := d2
  obtain ⟨c3, e3⟩ := d3
  rw [Int.natCast_mul, Int.mul_pow] at e3
  generalize (a : Int) ^ ((p - 1) / 2) = A at *
  generalize (b : Int) ^ ((p - 1) / 2) = B at *
  exact ⟨A * c2 + leg b p * c1 - c3, by grind⟩

def tw (n : Nat) : Int := if n % 8 = 3 ∨ n % 8 = 5 then -1 else 1

theorem tw_mul {m n : Nat} (hm : m % 2 = 1) (hn : n % 2 = 1) : tw (m * n) = tw m * tw n := by
  have h1 : m % 8 = 1 ∨ m % 8 = 3 ∨ m % 8 = 5 ∨ m % 8 = 7 := by omega
  have h2 : n % 8 = 1 ∨ n % 8 = 3 ∨ n % 8 = 5 ∨ n % 8 = 7 := by omega
  unfold tw
  rw [Nat.mul_mod]
  rcases h1 with h | h | h | h <;> rcases h2 with h' | h' | h' | h' <;> rw [h, h'] <;> simp

def rc (m n : Nat) : Int := if m % 4 = 3 ∧ n % 4 = 3 then -1 else 1

theorem rc_comm (m n : Nat) : rc m n = rc n m := by
  unfold rc
  by_cases h : m % 4 = 3 <;> by_cases h' : n % 4 = 3 <;> simp [h, h']

theorem rc_mul {m n k : Nat} (hm : m % 2 = 1) (hn : n % 2 = 1) : rc k (m * n) = rc k m * rc k n := by
  have h1 : m % 4 = 1 ∨ m % 4 = 3 := by omega
  have h2 : n % 4 = 1 ∨ n % 4 = 3 := by omega
  unfold rc
  rw [Nat.mul_mod]
  by_cases h : k % 4 = 3 <;> rcases h1 with h1 | h1 <;> rcases h2 with h2 | h2 <;> rw [h1, h2] <;> simp [h]

/-- The symbol of Jacobi, by the primes of the lower number. -/
def jac (a : Nat) : List (Nat × Nat) → Int
  | [] => 1
  | (p, k) :: l => leg a p ^ k * jac a l

/-- All primes are odd. -/
def Odds : List (Nat × Nat) → Prop
  | [] => True
  | (p, _) :: l => p % 2 = 1 ∧ Odds l

theorem pow_odd' {p : Nat} (h : p % 2 = 1) : ∀ k, p ^ k % 2 = 1
  | 0 => rfl
  | k + 1 => by rw [Nat.pow_succ, Nat.mul_mod, pow_odd' h k, h]

theorem odds_of : ∀ {l : List (Nat × Nat)} {b : Nat}, Rise b l → facs l % 2 = 1 → Odds l
  | [], _, _, _ => trivial
  | (p, k) :: l, b, hr, h => by
    have h1 : p % 2 = 1 := by
      rcases Nat.mod_two_eq_zero_or_one p with h0 | h0
      · exfalso
        have hd : 2 ∣ facs ((p, k) :: l) := by
          obtain ⟨j, rfl⟩ : ∃ j, k = j + 1 := ⟨k - 1, by have := hr.2.2.1; omega⟩
          exact Nat.dvd_trans (Nat.dvd_of_mod_eq_zero h0) ⟨p ^ j * facs l, by simp only [facs]; rw [Nat.pow_succ, Nat.mul_comm (p ^ j), Nat.mul_assoc]⟩
        omega
      · exact h0
    refine ⟨h1, odds_of hr.2.2.2 ?_⟩
    have : facs ((p, k) :: l) % 2 = (p ^ k % 2) * (facs l % 2) % 2 := Nat.mul_mod _ _ _
    rw [h, pow_odd' h1] at this
    omega

theorem facs_odd : ∀ {l : List (Nat × Nat)}, Odds l → facs l % 2 = 1
  | [], _ => rfl
  | (p, k) :: l, h => by
    show p ^ k * facs l % 2 = 1
    rw [Nat.mul_mod, pow_odd' h.1, facs_odd h.2]

theorem jac_mul {a b : Nat} : ∀ {l : List (Nat × Nat)} {c : Nat}, Rise c l → Odds l → jac (a * b) l = jac a l * jac b l
  | [], _, _, _ => by simp [jac]
  | (p, k) :: l, c, hr, ho => by
    simp only [jac, leg_mul hr.2.1 ho.1, jac_mul hr.2.2.2 ho.2, Int.mul_pow]
    grind

theorem jac_congr {a b : Nat} : ∀ {l : List (Nat × Nat)} {c m : Nat}, Rise c l → facs l ∣ m → a % m = b % m → jac a l = jac b l
  | [], _, _, _, _, _ => by simp [jac]
  | (p, k) :: l, c, m, hr, hd, h => by
    have hp : p ∣ m := Nat.dvd_trans (by
      obtain ⟨j, rfl⟩ : ∃ j, k = j + 1 := ⟨k - 1, by have := hr.2.2.1; omega⟩
      exact ⟨p ^ j * facs l, by simp only [facs]; rw [Nat.pow_succ, Nat.mul_comm (p ^ j), Nat.mul_assoc]⟩) hd
    have hl : facs l ∣ m := Nat.dvd_trans ⟨p ^ k, by simp only [facs]; rw [Nat.mul_comm]⟩ hd
    have e : a % p = b % p := by
      rw [← Nat.mod_mod_of_dvd a hp, h, Nat.mod_mod_of_dvd b hp]
    simp only [jac, leg_congr e, jac_congr hr.2.2.2 hl h]

theorem jac_two : ∀ {l : List (Nat × Nat)} {c : Nat}, Rise c l → Odds l → jac 2 l = tw (facs l)
  | [], _, _, _ => by simp [jac, facs, tw]
  | (p, k) :: l, c, hr, ho => by
    have hp := hr.2.1
    have e : leg 2 p = tw p := by
      have h2 : ¬ 2 % p = 0 := fun h => by
        have := Nat.le_of_dvd (by omega) (Nat.dvd_of_mod_eq_zero h); have := hp.1; have := ho.1; omega
      unfold leg tw
      rw [if_neg h2, far_two hp ho.1]
    have ek : ∀ k, tw (p ^ k) = tw p ^ k := by
      intro k
      induction k with
      | zero => simp [tw]
      | succ k ih => rw [Nat.pow_succ, tw_mul (pow_odd' ho.1 k) ho.1, ih, Int.pow_succ]
    simp only [jac, facs, e, jac_two hr.2.2.2 ho.2]
    rw [tw_mul (pow_odd' ho.1 k) (facs_odd ho.2), ek]

theorem rc_pow {p q : Nat} (ho : p % 2 = 1) : ∀ k, rc q (p ^ k) = rc q p ^ k
  | 0 => by simp [rc]
  | k + 1 => by rw [Nat.pow_succ, rc_mul (pow_odd' ho k) ho, rc_pow ho k, Int.pow_succ]

theorem leg_recip {p q : Nat} (hp : Pr p) (hq : Pr q) (h2 : p % 2 = 1) (h2q : q % 2 = 1) (hne : p ≠ q) : leg q p * leg p q = rc q p := by
  have n1 : ¬ q % p = 0 := fun h => by
    rcases hq.2 p (Nat.dvd_of_mod_eq_zero h) with h | h
    · have := hp.1; omega
    · exact hne h
  have n2 : ¬ p % q = 0 := fun h => by
    rcases hp.2 q (Nat.dvd_of_mod_eq_zero h) with h | h
    · have := hq.1; omega
    · exact hne h.symm
  unfold leg
  rw [if_neg n1, if_neg n2, reciprocity hp hq h2 h2q hne]
  unfold sgn rc
  rw [Nat.mul_mod]
  have h1 : q % 4 = 1 ∨ q % 4 = 3 := by omega
  have h3 : p % 4 = 1 ∨ p % 4 = 3 := by omega
  have a1 : (p - 1) / 2 % 2 = if p % 4 = 3 then 1 else 0 := by split <;> omega
  have a2 : (q - 1) / 2 % 2 = if q % 4 = 3 then 1 else 0 := by split <;> omega
  rw [a1, a2]
  rcases h1 with h1 | h1 <;> rcases h3 with h3 | h3 <;> rw [h1, h3] <;> simp

theorem leg_pow {a p : Nat} (hp : Pr p) (h2 : p % 2 = 1) : ∀ k, leg (a ^ k) p = leg a p ^ k
  | 0 => by
    have : ¬ 1 % p = 0 := by have := hp.1; rw [Nat.mod_eq_of_lt (by omega)]; omega
    have h := leg_euler hp h2 this
    simp only [Nat.pow_zero, Int.pow_zero]
    exact small_dvd hp h2 h.2 (.inl rfl) (by
      obtain ⟨⟨c, hc⟩, _⟩ := h
      simp at hc
      exact ⟨-c, by grind⟩)
  | k + 1 => by rw [Nat.pow_succ, leg_mul hp h2, leg_pow hp h2 k, Int.pow_succ]

theorem leg_one {p : Nat} (hp : Pr p) (h2 : p % 2 = 1) : leg 1 p = 1 := by simpa using leg_pow (a := 1) hp h2 0

/-- Reciprocity between a prime and a number. -/
theorem recip_one {q : Nat} (hq : Pr q) (h2q : q % 2 = 1) : ∀ {l : List (Nat × Nat)} {c : Nat}, Rise c l → Odds l → ¬ q ∣ facs l → jac q l * leg (facs l) q = rc q (facs l)
  | [], _, _, _, _ => by simp [jac, facs, leg_one hq h2q, rc]
  | (p, k) :: l, c, hr, ho, hnd => by
    have hne : p ≠ q := fun h => hnd (by
      obtain ⟨j, rfl⟩ : ∃ j, k = j + 1 := ⟨k - 1, by have := hr.2.2.1; omega⟩
      exact ⟨q ^ j * facs l, by simp only [facs]; rw [h, Nat.pow_succ, Nat.mul_comm (q ^ j), Nat.mul_assoc]⟩)
    have ih := recip_one hq h2q hr.2.2.2 ho.2 fun h => hnd (Nat.dvd_trans h ⟨p ^ k, by simp only [facs]; rw [Nat.mul_comm]⟩)
    simp only [jac, facs]
    rw [leg_mul hq h2q, leg_pow hq h2q, rc_mul (pow_odd' ho.1 k) (facs_odd ho.2), rc_pow ho.1, ← ih, ← leg_recip hr.2.1 hq ho.1 h2q hne, Int.mul_pow]
    grind

theorem jac_pow {a : Nat} {l : List (Nat × Nat)} {c : Nat} (hr : Rise c l) (ho : Odds l) : ∀ k, jac (a ^ k) l = jac a l ^ k
  | 0 => by
    simp only [Nat.pow_zero, Int.pow_zero]
    induction l generalizing c with
    | nil => rfl
    | cons x l ih => obtain ⟨p, k⟩ := x; simp only [jac, leg_one hr.2.1 ho.1, ih hr.2.2.2 ho.2, Int.one_pow]; rfl
  | k + 1 => by rw [Nat.pow_succ, jac_mul hr ho, jac_pow hr ho k, Int.pow_succ]

/-- Reciprocity between two numbers without a common divisor. -/
theorem recip_two {L : List (Nat × Nat)} {c : Nat} (hL : Rise c L) (oL : Odds L) : ∀ {M : List (Nat × Nat)} {d : Nat}, Rise d M → Odds M → Nat.Coprime (facs M) (facs L) → jac (facs M) L * jac (facs L) M = rc (facs M) (facs L)
  | [], _, _, _, _ => by
    have := jac_pow (a := 1) hL oL 0
    simp at this
    simp [jac, facs, this, rc]
  | (q, k) :: m, d, hM, oM, hc => by
    have hq := hM.2.1
    have c1 : Nat.Coprime (facs m) (facs L) := Nat.Coprime.coprime_dvd_left ⟨q ^ k, by simp only [facs]; rw [Nat.mul_comm]⟩ hc
    have c2 : ¬ q ∣ facs L := fun h => by
      have hdq : q ∣ facs ((q, k) :: m) := by
        obtain ⟨j, rfl⟩ : ∃ j, k = j + 1 := ⟨k - 1, by have := hM.2.2.1; omega⟩
        exact ⟨q ^ j * facs m, by simp only [facs]; rw [Nat.pow_succ, Nat.mul_comm (q ^ j), Nat.mul_assoc]⟩
      have := Nat.dvd_gcd hdq h
      rw [hc] at this
      have := Nat.le_of_dvd (by omega) this; have := hq.1; omega
    have ih := recip_two hL oL hM.2.2.2 oM.2 c1
    have r1 := recip_one hq oM.1 hL oL c2
    simp only [jac, facs]
    rw [jac_mul hL oL, jac_pow hL oL, rc_comm, rc_mul (pow_odd' oM.1 k) (facs_odd oM.2), rc_pow oM.1, rc_comm (facs L) q, ← r1, rc_comm (facs L) (facs m), ← ih, Int.mul_pow]
    grind

theorem jac_zero : ∀ {l : List (Nat × Nat)} {c p a : Nat}, Rise c l → Pr p → p ∣ facs l → p ∣ a → jac a l = 0
  | [], _, p, a, _, hp, hd, _ => by
    have := Nat.le_of_dvd (by simp [facs]) hd; simp [facs] at this; have := hp.1; omega
  | (q, k) :: l, c, p, a, hr, hp, hd, ha => by
    simp only [jac]
    by_cases hq : p = q
    · subst hq
      have : leg a p = 0 := by unfold leg; rw [if_pos (Nat.mod_eq_zero_of_dvd ha)]
      rw [this, Int.zero_pow (by have := hr.2.2.1; omega)]; simp
    · have : p ∣ facs l := by
        rcases hp.dvd_mul hd with h | h
        · exfalso
          rcases hr.2.1.2 p (hp.dvd_pow h) with h | h
          · have := hp.1; omega
          · exact hq h
        · exact h
      rw [jac_zero hr.2.2.2 hp this ha]; simp

/-- The symbol of Jacobi of two numbers. -/
noncomputable def J (a n : Nat) : Int := jac a (fl n)

theorem J_mod {a n : Nat} (hn : 0 < n) : J (a % n) n = J a n := by
  have h := fl_spec hn
  exact jac_congr (m := n) h.1 (by rw [h.2]; exact Nat.dvd_refl _) (by simp)

theorem J_mul {a b n : Nat} (hn : n % 2 = 1) : J (a * b) n = J a n * J b n := by
  have h := fl_spec (n := n) (by omega)
  exact jac_mul h.1 (odds_of h.1 (by rw [h.2]; exact hn))

theorem J_even {a n : Nat} (hn : n % 2 = 1) (ha : a % 2 = 0) : J a n = tw n * J (a / 2) n := by
  have h := fl_spec (n := n) (by omega)
  have e : a = 2 * (a / 2) := by omega
  have := J_mul (a := 2) (b := a / 2) hn
  rw [← e] at this
  rw [this]
  unfold J
  rw [jac_two h.1 (odds_of h.1 (by rw [h.2]; exact hn)), h.2]

theorem J_one (a : Nat) : J a 1 = 1 := by
  unfold J; rw [fl_eq (L := []) (n := 1) trivial rfl]; rfl

theorem J_common {a n : Nat} (hn : 0 < n) (hg : Nat.gcd a n ≠ 1) : J a n = 0 := by
  have h := fl_spec hn
  have hg0 : 0 < Nat.gcd a n := Nat.gcd_pos_of_pos_right _ hn
  obtain ⟨p, hp, hd⟩ := prime_divisor (Nat.gcd a n) (Nat.gcd a n) (Nat.le_refl _) (by omega)
  exact jac_zero h.1 hp (by rw [h.2]; exact Nat.dvd_trans hd (Nat.gcd_dvd_right _ _)) (Nat.dvd_trans hd (Nat.gcd_dvd_left _ _))

theorem J_zero {n : Nat} (hn : 1 < n) : J 0 n = 0 := J_common (by omega) (by simp; omega)

theorem rc_sq (a n : Nat) : rc a n * rc a n = 1 := by unfold rc; split <;> simp

theorem jac_unit : ∀ {l : List (Nat × Nat)} {c a : Nat}, Rise c l → Odds l → Nat.Coprime a (facs l) → jac a l * jac a l = 1
  | [], _, _, _, _, _ => by simp [jac]
  | (p, k) :: l, c, a, hr, ho, hc => by
    have hp := hr.2.1
    have hdp : p ∣ facs ((p, k) :: l) := by
      obtain ⟨j, rfl⟩ : ∃ j, k = j + 1 := ⟨k - 1, by have := hr.2.2.1; omega⟩
      exact ⟨p ^ j * facs l, by simp only [facs]; rw [Nat.pow_succ, Nat.mul_comm (p ^ j), Nat.mul_assoc]⟩
    have hna : ¬ a % p = 0 := fun h => by
      have := Nat.dvd_gcd (Nat.dvd_of_mod_eq_zero h) hdp
      rw [hc] at this
      have := Nat.le_of_dvd (by omega) this; have := hp.1; omega
    have hv := (leg_euler hp ho.1 hna).2
    have hv2 : leg a p * leg a p = 1 := by rcases hv with h | h <;> rw [h] <;> rfl
    have ih := jac_unit hr.2.2.2 ho.2 (Nat.Coprime.coprime_dvd_right ⟨p ^ k, by simp only [facs]; rw [Nat.mul_comm]⟩ hc)
    have hk : leg a p ^ k * leg a p ^ k = 1 := by rw [← Int.mul_pow, hv2, Int.one_pow]
    simp only [jac]
    grind

/-- What one step of the algorithm does. -/
theorem J_flip {a n : Nat} (ha : a % 2 = 1) (hn : n % 2 = 1) : J a n = rc a n * J (n % a) a := by
  rw [J_mod (by omega)]
  by_cases hg : Nat.gcd a n = 1
  · have h1 := fl_spec (n := n) (by omega)
    have h2 := fl_spec (n := a) (by omega)
    have o1 := odds_of h1.1 (by rw [h1.2]; exact hn)
    have o2 := odds_of h2.1 (by rw [h2.2]; exact ha)
    have r := recip_two h1.1 o1 h2.1 o2 (by rw [h1.2, h2.2]; exact hg)
    rw [h1.2, h2.2] at r
    have u := jac_unit (a := n) h2.1 o2 (by rw [h2.2]; unfold Nat.Coprime; rw [Nat.gcd_comm]; exact hg)
    unfold J
    rw [← r]
    grind
  · rw [J_common (by omega) hg, J_common (a := n) (n := a) (by omega) (by rw [Nat.gcd_comm]; exact hg)]; simp
end Go.Proofs.YtamhlkjfpdkhoaaGreatDoor

/-! Jac2: Plain arithmetic: the symbol of Jacobi is a product in its lower number, too; what NumGauss asks. No program is spoken of. -/
namespace Go.Proofs.YtamhlkjfpdkhoaaGreatDoor

/-- One prime more. -/
def ins (p : Nat) : List (Nat × Nat) → List (Nat × Nat)
  | [] => [(p, 1)]
  | (q, k) :: l => if p = q then (q, k + 1) :: l else if p < q then (p, 1) :: (q, k) :: l else (q, k) :: ins p l

theorem ins_spec {p : Nat} (hp : Pr p) : ∀ {l : List (Nat × Nat)} {b : Nat}, Rise b l → b < p → Rise b (ins p l) ∧ facs (ins p l) = p * facs l ∧ ∀ a, jac a (ins p l) = leg a p * jac a l
  | [], b, _, hb => ⟨⟨hb, hp, Nat.le_refl _, trivial⟩, by simp [ins, facs], fun a => by simp [ins, jac, Int.pow_succ]⟩
  | (q, k) :: l, b, hr, hb => by
    unfold ins
    by_cases h1 : p = q
    · subst h1
      rw [if_pos rfl]
      exact ⟨⟨hr.1, hr.2.1, by omega, hr.2.2.2⟩, by simp only [facs]; rw [Nat.pow_succ]; grind, fun a => by simp only [jac]; rw [Int.pow_succ]; grind⟩
    · rw [if_neg h1]
      by_cases h2 : p < q
      · rw [if_pos h2]
        exact ⟨⟨hb, hp, Nat.le_refl _, h2, hr.2⟩, by simp [facs], fun a => by simp [jac, Int.pow_succ]⟩
      · rw [if_neg h2]
        obtain ⟨i1, i2, i3⟩ := ins_spec hp hr.2.2.2 (by omega)
        exact ⟨⟨hr.1, hr.2.1, hr.2.2.1, i1⟩, by simp only [facs, i2]; grind, fun a => by simp only [jac, i3]; grind⟩

theorem J_prime {a p n : Nat} (hp : Pr p) (hn : 0 < n) : J a (p * n) = leg a p * J a n := by
  have h := fl_spec hn
  obtain ⟨i1, i2, i3⟩ := ins_spec hp h.1 (by have := hp.1; omega)
  unfold J
  rw [fl_eq i1 (by rw [i2, h.2]), i3]

theorem J_list {a n : Nat} (hn : 0 < n) : ∀ {M : List (Nat × Nat)} {b : Nat}, Rise b M → J a (facs M * n) = jac a M * J a n
  | [], _, _ => by simp [facs, jac]
  | (p, k) :: m, b, hr => by
    have key : ∀ k n, 0 < n → J a (p ^ k * n) = leg a p ^ k * J a n := by
      intro k
      induction k with
      | zero => intro n _; simp
      | succ k ih =>
        intro n hn
        have e : p ^ (k + 1) * n = p ^ k * (p * n) := by rw [Nat.pow_succ, Nat.mul_assoc]
        have hp0 : 0 < p := by have := hr.2.1.1; omega
        rw [e, ih _ (Nat.mul_pos hp0 hn), J_prime hr.2.1 hn, Int.pow_succ]; grind
    simp only [facs, jac]
    rw [Nat.mul_assoc, key k _ (Nat.mul_pos (facs_pos m p hr.2.2.2) hn), J_list hn hr.2.2.2]; grind

theorem J_lower {a m n : Nat} (hm : 0 < m) (hn : 0 < n) : J a (m * n) = J a m * J a n := by
  have h := fl_spec hm
  have := J_list (a := a) hn h.1
  rw [h.2] at this
  exact this

theorem J_part {a n d : Nat} (hd : 0 < d) (h : d ∣ n) : J (a % n) d = J a d := by
  have s := fl_spec hd
  exact jac_congr (m := d) s.1 (by rw [s.2]; exact Nat.dvd_refl _) (Nat.mod_mod_of_dvd a h)

theorem J_both {m k : Nat} (hm : m % 2 = 1) (hk : k % 2 = 1) (hg : Nat.gcd m k = 1) : J (m % k) k * J (k % m) m = rc m k := by
  rw [J_mod (by omega), J_flip hm hk, J_mod (by omega)]
  have s := fl_spec (n := m) (by omega)
  have u := jac_unit (a := k) s.1 (odds_of s.1 (by rw [s.2]; exact hm)) (by rw [s.2]; unfold Nat.Coprime; rw [Nat.gcd_comm]; exact hg)
  unfold J
  grind

/-- Euler's power of a prime. -/
theorem J_euler {q r : Nat} (hq : Pr q) (h2 : q % 2 = 1) (hr : ¬ r % q = 0) : J r q = leg r q ∧ ((r ^ ((q - 1) / 2) % q : Nat) : Int) = (J r q + q) % q := by
  have e : J r q = leg r q := by
    have := J_prime (a := r) (n := 1) hq (by omega)
    rw [Nat.mul_one, J_one] at this; simpa using this
  refine ⟨e, ?_⟩
  rw [e]
  obtain ⟨hd, hv⟩ := leg_euler hq h2 hr
  have h3 : (((r ^ ((q - 1) / 2) : Nat) : Int)) % (q : Int) = leg r q % q := by
    rw [Int.natCast_pow]
    exact Int.emod_eq_emod_iff_emod_sub_eq_zero.2 (Int.emod_eq_zero_of_dvd hd)
  rw [Int.natCast_emod, h3, Int.add_emod_right]
end Go.Proofs.YtamhlkjfpdkhoaaGreatDoor

/-! SymA: Plain arithmetic: the symbol of a prime by Euler's power, as the reference reckons it. No program is spoken of. -/
namespace Go.Proofs.YtamhlkjfpdkhoaaGreatDoor

theorem leg_power {a p : Nat} (hp : Pr p) (h2 : p % 2 = 1) :
    (¬ a % p = 0 ∧ a ^ ((p - 1) / 2) % p = 1 ∧ leg a p = 1) ∨ (¬ a % p = 0 ∧ a ^ ((p - 1) / 2) % p = p - 1 ∧ leg a p = -1) ∨ (a % p = 0 ∧ a ^ ((p - 1) / 2) % p = 0 ∧ leg a p = 0) := by
  have hp3 : 3 ≤ p := by have := hp.1; omega
  by_cases h : a % p = 0
  · refine .inr (.inr ⟨h, ?_, ?_⟩)
    · rw [Nat.pow_mod, h, Nat.zero_pow (by omega)]; simp
    · unfold leg; rw [if_pos h]
  · obtain ⟨e1, e2⟩ := J_euler hp h2 h
    have hv := (leg_euler hp h2 h).2
    rw [e1] at e2
    rcases hv with hv | hv
    · refine .inl ⟨h, ?_, hv⟩
      rw [hv, Int.add_emod_right, Int.emod_eq_of_lt (by omega) (by omega)] at e2
      omega
    · refine .inr (.inl ⟨h, ?_, hv⟩)
      rw [hv, Int.emod_eq_of_lt (by omega) (by omega)] at e2
      omega

theorem jac_snoc (a p k : Nat) : ∀ l : List (Nat × Nat), jac a (l ++ [(p, k)]) = jac a l * leg a p ^ k
  | [] => by simp [jac]
  | (q, j) :: l => by
    simp only [List.cons_append, jac, jac_snoc a p k l]
    rw [Int.mul_assoc]

theorem jac_take {a p k i : Nat} {L : List (Nat × Nat)} (h : L[i]? = some (p, k)) : jac a (L.take (i + 1)) = jac a (L.take i) * leg a p ^ k := by
  rw [List.take_add_one, h]; exact jac_snoc a p k _

theorem odds_mem : ∀ {L : List (Nat × Nat)} {i p k : Nat}, Odds L → L[i]? = some (p, k) → p % 2 = 1
  | [], _, _, _, _, h => by simp at h
  | (q, j) :: l, 0, p, k, ho, h => by simp at h; obtain ⟨rfl, rfl⟩ := h; exact ho.1
  | (q, j) :: l, i + 1, p, k, ho, h => odds_mem ho.2 (by simpa using h)

theorem rise_get {b : Nat} : ∀ {L : List (Nat × Nat)} {b i p k : Nat}, Rise b L → L[i]? = some (p, k) → Pr p ∧ 1 ≤ k ∧ p ^ k ∣ facs L
  | [], _, _, _, _, _, h => by simp at h
  | (q, j) :: l, b, 0, p, k, hr, h => by
    simp at h; obtain ⟨rfl, rfl⟩ := h
    exact ⟨hr.2.1, hr.2.2.1, ⟨facs l, rfl⟩⟩
  | (q, j) :: l, b, i + 1, p, k, hr, h => by
    obtain ⟨h1, h2, h3⟩ := rise_get (b := b) hr.2.2.2 (by simpa using h)
    exact ⟨h1, h2, Nat.dvd_trans h3 ⟨q ^ j, by simp only [facs]; rw [Nat.mul_comm]⟩⟩

theorem rise_get_le {L : List (Nat × Nat)} {b i p k : Nat} (hr : Rise b L) (h : L[i]? = some (p, k)) : 2 ≤ p ∧ p ≤ facs L ∧ p ∣ facs L ∧ 1 ≤ k ∧ k < p ^ k ∧ p ^ k ≤ facs L := by
  obtain ⟨h1, h2, h3⟩ := rise_get (b := b) hr h
  have hp := h1.1
  have h4 : p ∣ p ^ k := by
    obtain ⟨j, rfl⟩ : ∃ j, k = j + 1 := ⟨k - 1, by omega⟩
    exact ⟨p ^ j, by rw [Nat.pow_succ, Nat.mul_comm]⟩
  have h5 := Nat.dvd_trans h4 h3
  have hpos := facs_pos L b hr
  exact ⟨hp, Nat.le_of_dvd hpos h5, h5, h2, Nat.lt_pow_self hp, Nat.le_of_dvd hpos h3⟩

/-- One step of the sign. -/
theorem sgn_step {x s : Int} {j : Nat} (t : Int) (h : x = t * s ^ j) : x * s = t * s ^ (j + 1) := by rw [h, Int.pow_succ, Int.mul_assoc]
end Go.Proofs.YtamhlkjfpdkhoaaGreatDoor

