/- Plain lists: the divisors of a number, as they are collected prime by prime. No program is spoken of. -/
import Derived.Test.YtamhlkjfpdkhoaaGreatDoorFacs
namespace Go.Proofs.YtamhlkjfpdkhoaaGreatDoor

/-- A list, and behind it the list times p, times p^2, .., times p^t. -/
def ext (p : Nat) (ds : List Nat) : Nat → List Nat
  | 0 => ds
  | t + 1 => ext p ds t ++ ds.map (· * p ^ (t + 1))

/-- All divisors that come of the pairs, one pair after the other. -/
def dvs : List (Nat × Nat) → List Nat → List Nat
  | [], ds => ds
  | (p, e) :: l, ds => dvs l (ext p ds e)

theorem length_ext (p : Nat) (ds : List Nat) : ∀ t, (ext p ds t).length = ds.length * (t + 1)
  | 0 => by simp [ext]
  | t + 1 => by
    simp only [ext, List.length_append, List.length_map, length_ext p ds t]
    rw [Nat.mul_succ ds.length (t + 1)]

theorem mem_ext {p : Nat} {ds : List Nat} {x : Nat} : ∀ {t}, x ∈ ext p ds t → ∃ d ∈ ds, ∃ s, s ≤ t ∧ x = d * p ^ s
  | 0, h => ⟨x, h, 0, Nat.le_refl _, by simp⟩
  | t + 1, h => by
    simp only [ext, List.mem_append, List.mem_map] at h
    rcases h with h | ⟨d, hd, rfl⟩
    · obtain ⟨d, hd, s, hs, e⟩ := mem_ext h
      exact ⟨d, hd, s, by omega, e⟩
    · exact ⟨d, hd, t + 1, Nat.le_refl _, rfl⟩

/-- What is collected stays small: what is still to come is accounted for. -/
def Few (m : Nat) (l : List (Nat × Nat)) (ds : List Nat) : Prop := (∀ d ∈ ds, d * facs l ≤ m) ∧ ds.length * facs l ≤ m ∧ 0 < ds.length

theorem Few.small {m p e : Nat} {l : List (Nat × Nat)} {ds : List Nat} {b : Nat} (h : Few m ((p, e) :: l) ds) (hr : Rise b ((p, e) :: l)) : (∀ d ∈ ds, ∀ s, s ≤ e → d * p ^ s ≤ m) ∧ (∀ t, t ≤ e → ds.length * (t + 1) ≤ m) ∧ Few m l (ext p ds e) := by
  obtain ⟨h1, h2, h3⟩ := h
  obtain ⟨g1, g2, g3, g4⟩ := hr
  have hp := g2.1
  have hpos := facs_pos l p g4
  simp only [facs] at h1 h2
  have key : ∀ d ∈ ds, ∀ s, s ≤ e → d * p ^ s * facs l ≤ m := fun d hd s hs => by
    have a1 : p ^ s ≤ p ^ e := Nat.pow_le_pow_right (by omega) hs
    have a2 : d * p ^ s * facs l ≤ d * (p ^ e * facs l) := by
      rw [Nat.mul_assoc]; exact Nat.mul_le_mul_left _ (Nat.mul_le_mul_right _ a1)
    exact Nat.le_trans a2 (h1 d hd)
  have hpe : e + 1 ≤ p ^ e := Nat.lt_pow_self hp
  have len : ds.length * (e + 1) * facs l ≤ m := by
    refine Nat.le_trans ?_ h2
    rw [Nat.mul_assoc]; exact Nat.mul_le_mul_left _ (Nat.mul_le_mul_right _ hpe)
  refine ⟨fun d hd s hs => Nat.le_trans (Nat.le_mul_of_pos_right _ hpos) (key d hd s hs), fun t ht => ?_, ?_, ?_, ?_⟩
  · exact Nat.le_trans (Nat.mul_le_mul_left _ (by omega)) (Nat.le_trans (Nat.le_mul_of_pos_right _ hpos) len)
  · intro x hx
    obtain ⟨d, hd, s, hs, rfl⟩ := mem_ext hx
    exact key d hd s hs
  · rw [length_ext]; exact len
  · rw [length_ext]; exact Nat.mul_pos h3 (by omega)

theorem ext_prefix (p : Nat) (ds : List Nat) : ∀ t, ∃ r, ext p ds t = ds ++ r
  | 0 => ⟨[], by simp [ext]⟩
  | t + 1 => by
    obtain ⟨r, hr⟩ := ext_prefix p ds t
    exact ⟨r ++ ds.map (· * p ^ (t + 1)), by simp [ext, hr]⟩

theorem rise_length : ∀ {l : List (Nat × Nat)} {b : Nat}, Rise b l → 2 ^ l.length ≤ facs l
  | [], _, _ => by simp [facs]
  | (p, e) :: l, b, h => by
    obtain ⟨g1, g2, g3, g4⟩ := h
    have h1 := rise_length g4
    have h2 : p ^ 1 ≤ p ^ e := Nat.pow_le_pow_right (by have := g2.1; omega) g3
    rw [Nat.pow_one] at h2
    have h3 := g2.1
    simp only [List.length_cons, facs, Nat.pow_succ]
    calc 2 ^ l.length * 2 = 2 * 2 ^ l.length := Nat.mul_comm _ _
      _ ≤ p ^ e * facs l := Nat.mul_le_mul (by omega) h1

theorem rise_short {l : List (Nat × Nat)} {b : Nat} (h : Rise b l) (hle : facs l ≤ 1000000000000) : l.length < 40 := by
  have h1 := rise_length h
  rcases Nat.lt_or_ge l.length 40 with h3 | h3
  · exact h3
  · have h4 : 2 ^ 40 ≤ 2 ^ l.length := Nat.pow_le_pow_right (by omega) h3
    have h5 : (2 : Nat) ^ 40 = 1099511627776 := by decide
    omega

theorem rise_drop : ∀ {l : List (Nat × Nat)} {b : Nat} (k : Nat), Rise b l → ∃ b', Rise b' (l.drop k)
  | l, b, 0, h => ⟨b, h⟩
  | [], b, k + 1, _ => ⟨b, by simp [Rise]⟩
  | (p, e) :: l, b, k + 1, h => rise_drop k h.2.2.2

end Go.Proofs.YtamhlkjfpdkhoaaGreatDoor
