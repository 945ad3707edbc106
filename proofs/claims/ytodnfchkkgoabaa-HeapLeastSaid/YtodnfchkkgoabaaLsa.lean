/- The least number that is missing is the product. -/
import Derived.Test.YtodnfchkkgoabaaNb
set_option linter.unusedVariables false
namespace Go.Proofs.Ytodnfchkkgoabaa.Nim

def tabL : List (List Nat) := (List.range 16).map fun u => (List.range 16).map fun v => nm 2 u v
def tabV : List (List Nat) := [[0,0,0,0,0,0,0,0,0,0,0,0,0,0,0,0],[0,1,2,3,4,5,6,7,8,9,10,11,12,13,14,15],[0,2,3,1,8,10,11,9,12,14,15,13,4,6,7,5],[0,3,1,2,12,15,13,14,4,7,5,6,8,11,9,10],[0,4,8,12,6,2,14,10,11,15,3,7,13,9,5,1],[0,5,10,15,2,7,8,13,3,6,9,12,1,4,11,14],[0,6,11,13,14,8,5,3,7,1,12,10,9,15,2,4],[0,7,9,14,10,13,3,4,15,8,6,1,5,2,12,11],[0,8,12,4,11,3,7,15,13,5,1,9,6,14,10,2],[0,9,14,7,15,6,1,8,5,12,11,2,10,3,4,13],[0,10,15,5,3,9,12,6,1,11,14,4,2,8,13,7],[0,11,13,6,7,12,10,1,9,2,4,15,14,5,3,8],[0,12,4,8,13,1,9,5,6,10,2,14,11,7,15,3],[0,13,6,11,9,4,15,2,14,3,8,5,7,10,1,12],[0,14,7,9,5,11,2,12,10,4,13,3,15,1,8,6],[0,15,5,10,1,14,4,11,2,13,7,8,3,12,6,9]]
def tab (u v : Nat) : Nat := (tabV.getD u []).getD v 0
theorem tab_nm : ∀ u < 16, ∀ v < 16, nm 4 u v = tab u v := by decide +kernel
theorem tab_in : ((List.range 16).all fun x => (List.range 16).all fun y => (List.range (tab x y)).all fun j => (List.range x).any fun i => (List.range y).any fun k => j == tab i y ^^^ tab x k ^^^ tab i k) = true := by decide +kernel

theorem nm_in (x y j : Nat) (hx : x < 16) (hy : y < 16) (hj : j < nm 4 x y) : ∃ i k, i < x ∧ k < y ∧ j = nm 4 i y ^^^ nm 4 x k ^^^ nm 4 i k := by
  have h := tab_in
  rw [tab_nm x hx y hy] at hj
  simp only [List.all_eq_true, List.any_eq_true, List.mem_range, beq_iff_eq] at h
  obtain ⟨i, hi, k, hk, e⟩ := h x hx y hy j hj
  refine ⟨i, k, hi, hk, ?_⟩
  rw [tab_nm i (by omega) y hy, tab_nm x hx k (by omega), tab_nm i (by omega) k (by omega)]
  exact e
theorem nm_out (x y i k : Nat) (hx : x < 16) (hy : y < 16) (hi : i < x) (hk : k < y) : nm 4 i y ^^^ nm 4 x k ^^^ nm 4 i k ≠ nm 4 x y := by
  intro h
  have lx : x ^^^ i < 2 ^ 16 := Nat.xor_lt_two_pow (by omega) (by omega)
  have ly : y ^^^ k < 2 ^ 16 := Nat.xor_lt_two_pow (by omega) (by omega)
  have hx' : x < 2 ^ 16 := by omega
  have hy' : y < 2 ^ 16 := by omega
  have hi' : i < 2 ^ 16 := by omega
  have hk' : k < 2 ^ 16 := by omega
  have e : nm 4 (x ^^^ i) (y ^^^ k) = 0 := by
    rw [field4.dist _ _ _ lx hy' hk', field4.comm _ _ lx hy', field4.comm _ _ lx hk', field4.dist _ _ _ hy' hx' hi', field4.dist _ _ _ hk' hx' hi', field4.comm _ _ hy' hx', field4.comm _ _ hy' hi', field4.comm _ _ hk' hx', field4.comm _ _ hk' hi', ← h]
    generalize nm 4 i y = p
    generalize nm 4 x k = q
    generalize nm 4 i k = r
    apply Nat.eq_of_testBit_eq
    intro n
    simp only [Nat.testBit_xor, Nat.zero_testBit]
    cases p.testBit n <;> cases q.testBit n <;> cases r.testBit n <;> rfl
  have z : ∀ s t : Nat, s ^^^ t = 0 → s = t := fun s t e => by
    rw [← Nat.xor_zero s, ← Nat.xor_self t, ← Nat.xor_assoc, e, Nat.zero_xor]
  rcases field4.none _ _ lx ly e with h | h
  · have := z _ _ h; omega
  · have := z _ _ h; omega
/-- What is missing is the product. -/
theorem nm_is (x y n : Nat) (S : Nat → Prop) (hx : x < 16) (hy : y < 16) (hS : ∀ z, S z ↔ ∃ i k, i < x ∧ k < y ∧ z = nm 4 i y ^^^ nm 4 x k ^^^ nm 4 i k) (h1 : ∀ j, j < n → S j) (h2 : ¬ S n) : n = nm 4 x y := by
  rcases Nat.lt_trichotomy n (nm 4 x y) with h | h | h
  · exact absurd ((hS n).2 (nm_in x y n hx hy h)) h2
  · exact h
  · obtain ⟨i, k, hi, hk, e⟩ := (hS _).1 (h1 _ h)
    exact absurd e.symm (nm_out x y i k hx hy hi hk)
end Go.Proofs.Ytodnfchkkgoabaa.Nim
