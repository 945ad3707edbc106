/- Plain arithmetic: Euler's number of a list of primes, and inverses. No program is spoken of. -/
import Derived.Test.YtamhlkjfpdkhoaaGreatDoorRefA
import Derived.Test.YtamhlkjfpdkhoaaGreatDoorPlain
namespace Go.Proofs.YtamhlkjfpdkhoaaGreatDoor

theorem phi_append : ∀ (l l' : List (Nat × Nat)), phi (l ++ l') = phi l * phi l'
  | [], l' => by simp [phi]
  | (p, k) :: l, l' => by simp only [List.cons_append, phi, phi_append l l', Nat.mul_assoc]

theorem facs_append : ∀ (l l' : List (Nat × Nat)), facs (l ++ l') = facs l * facs l'
  | [], l' => by simp [facs]
  | (p, k) :: l, l' => by simp only [List.cons_append, facs, facs_append l l', Nat.mul_assoc]

theorem phi_take {L : List (Nat × Nat)} {i p e : Nat} (h : L[i]? = some (p, e)) : phi (L.take (i + 1)) = phi (L.take i) * ((p - 1) * p ^ (e - 1)) := by
  rw [List.take_add_one, h, phi_append]; simp [phi]

theorem facs_take {L : List (Nat × Nat)} {i p e : Nat} (h : L[i]? = some (p, e)) : facs (L.take (i + 1)) = facs (L.take i) * p ^ e := by
  rw [List.take_add_one, h, facs_append]; simp [facs]

theorem rise_mem {p e : Nat} : ∀ {l : List (Nat × Nat)} {b : Nat}, Rise b l → (p, e) ∈ l → Pr p ∧ 1 ≤ e
  | [], _, _, h => by simp at h
  | (q, k) :: l, b, hr, h => by
    rcases List.mem_cons.1 h with h | h
    · cases h; exact ⟨hr.2.1, hr.2.2.1⟩
    · exact rise_mem hr.2.2.2 h

theorem phi_le : ∀ (l : List (Nat × Nat)) , (∀ p e, (p, e) ∈ l → Pr p ∧ 1 ≤ e) → phi l ≤ facs l ∧ 0 < phi l
  | [], _ => by simp [phi, facs]
  | (p, k) :: l, h => by
    obtain ⟨h1, h2⟩ := phi_le l fun p e hm => h p e (List.mem_cons_of_mem _ hm)
    obtain ⟨hp, hk⟩ := h p k (by simp)
    have hp2 := hp.1
    simp only [phi, facs]
    have e1 : p ^ k = p * p ^ (k - 1) := by
      obtain ⟨j, rfl⟩ : ∃ j, k = j + 1 := ⟨k - 1, by omega⟩
      rw [Nat.pow_succ, Nat.add_sub_cancel, Nat.mul_comm]
    refine ⟨Nat.mul_le_mul ?_ h1, Nat.mul_pos (Nat.mul_pos (by omega) (Nat.pow_pos (by omega))) h2⟩
    rw [e1]; exact Nat.mul_le_mul_right _ (by omega)

theorem facs_take_le {L : List (Nat × Nat)} (h : ∀ p e, (p, e) ∈ L → Pr p ∧ 1 ≤ e) (i : Nat) : facs (L.take i) ≤ facs L := by
  have e := List.take_append_drop i L
  have : facs L = facs (L.take i) * facs (L.drop i) := by rw [← facs_append, e]
  rw [this]
  refine Nat.le_mul_of_pos_right _ ?_
  obtain ⟨h1, h2⟩ := phi_le (L.drop i) fun p e hm => h p e (List.mem_of_mem_drop hm)
  omega

/-- What stands in the number while it is computed is never greater than the modulus. -/
theorem phi_bound {L : List (Nat × Nat)} {b i p e t : Nat} (hr : Rise b L) (h : L[i]? = some (p, e)) (ht : t < e) : phi (L.take i) * ((p - 1) * p ^ t) ≤ facs L ∧ 2 ≤ p ∧ p ≤ facs L ∧ e < facs L := by
  have hm : ∀ p e, (p, e) ∈ L → Pr p ∧ 1 ≤ e := fun p e hm => rise_mem hr hm
  obtain ⟨hp, he⟩ := hm p e (List.mem_of_getElem? h)
  have hp2 := hp.1
  have h1 := (phi_le (L.take i) fun p e hq => hm p e (List.mem_of_mem_take hq))
  have h2 := facs_take_le hm (i + 1)
  rw [facs_take h] at h2
  have h3 : (p - 1) * p ^ t ≤ p ^ e := by
    have e1 : p ^ (t + 1) ≤ p ^ e := Nat.pow_le_pow_right (by omega) ht
    rw [Nat.pow_succ, Nat.mul_comm] at e1
    exact Nat.le_trans (Nat.mul_le_mul_right _ (by omega)) e1
  have h4 : p ^ e ≤ facs L := Nat.le_trans (Nat.le_mul_of_pos_left _ (by omega)) h2
  refine ⟨Nat.le_trans (Nat.mul_le_mul h1.1 h3) h2, hp2, Nat.le_trans ?_ h4, Nat.lt_of_lt_of_le (Nat.lt_pow_self hp2) h4⟩
  exact Nat.le_trans (by simp) (Nat.pow_le_pow_right (by omega) he : p ^ 1 ≤ p ^ e)

theorem inv_unique {m r x y : Nat} (hc : Nat.Coprime m r) (hx : r * x % m = 1 % m) (hy : r * y % m = 1 % m) (hxm : x < m) (hym : y < m) : x = y := by
  have := cancel_mod hc (hx.trans hy.symm)
  rwa [Nat.mod_eq_of_lt hxm, Nat.mod_eq_of_lt hym] at this

/-- Euler's power is an inverse. -/
theorem euler_inv {L : List (Nat × Nat)} {r : Nat} (hr : Rise 1 L) (hc : Nat.Coprime (facs L) r) : r * (r ^ (phi L - 1 + phi L) % facs L) % facs L = 1 % facs L := by
  have h0 := (phi_le L fun p e hm => rise_mem hr hm).2
  have e := euler L 1 r hr hc
  have e2 : r * (r ^ (phi L - 1 + phi L) % facs L) % facs L = r ^ (phi L + phi L) % facs L := by
    rw [Nat.mul_mod, Nat.mod_mod, ← Nat.mul_mod]
    have : r * r ^ (phi L - 1 + phi L) = r ^ (phi L + phi L) := by
      rw [Nat.mul_comm, ← Nat.pow_succ]; congr 1; omega
    rw [this]
  rw [e2, Nat.pow_add, Nat.mul_mod, e, ← Nat.mul_mod]
end Go.Proofs.YtamhlkjfpdkhoaaGreatDoor
