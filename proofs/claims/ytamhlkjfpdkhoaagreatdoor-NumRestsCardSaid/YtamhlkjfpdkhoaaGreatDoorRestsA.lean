/- What the calls of NumRests answer, ours and the reference's alike. -/
import Derived.Test.YtamhlkjfpdkhoaaGreatDoorRMeet
set_option linter.unusedVariables false
namespace Go.Proofs.YtamhlkjfpdkhoaaGreatDoor
open Go.RowKit

/-- The inverse, if there is one. -/
noncomputable def inv0 (r m : Nat) : Nat := @Classical.epsilon Nat ⟨0⟩ fun x => x < m ∧ r * x % m = 1 % m

theorem inv0_eq {r m x : Nat} (hc : Nat.gcd r m = 1) (hx : x < m) (he : r * x % m = 1 % m) : x = inv0 r m := by
  have h := Classical.epsilon_spec (p := fun x => x < m ∧ r * x % m = 1 % m) ⟨x, hx, he⟩
  exact inv_unique (by unfold Nat.Coprime; rw [Nat.gcd_comm]; exact hc) he h.2 hx h.1

theorem Inv_none (a : Int) (r m : Nat) (w : World) (hm : 1 ≤ m) (hm2 : m ≤ 1000000000000) (hr : a % m = (r : Int)) (hg : Nat.gcd r m ≠ 1) :
    Calls Tryz.prog 70 #[.int .i64 a, .int .i64 m] w fun e w' => e = .returned (.tuple #[.int .i64 0, .int .i64 4]) ∧ Drew w w' := by
  refine (Inverse_any a r m w hm hm2 hr).mono ?_
  rintro e w' ⟨⟨_, he⟩ | ⟨h, _⟩, hd⟩
  · exact ⟨he, hd⟩
  · exact absurd h hg

theorem Inv_some (a : Int) (r m : Nat) (w : World) (hm : 1 ≤ m) (hm2 : m ≤ 1000000000000) (hr : a % m = (r : Int)) (hg : Nat.gcd r m = 1) :
    Calls Tryz.prog 70 #[.int .i64 a, .int .i64 m] w fun e w' => e = .returned (.tuple #[.int .i64 (inv0 r m : Nat), .int .i64 0]) ∧ Drew w w' := by
  refine (Inverse_any a r m w hm hm2 hr).mono ?_
  rintro e w' ⟨⟨h, _⟩ | ⟨_, x, he, hx, hxe⟩, hd⟩
  · omega
  · rw [← inv0_eq hg hx hxe]; exact ⟨he, hd⟩

theorem RInv_none (a : Int) (r m : Nat) (w : World) (hm : 1 ≤ m) (hm2 : m ≤ 1000000000000) (hr : a % m = (r : Int)) (hg : Nat.gcd r m ≠ 1) :
    Calls Tryz.prog 73 #[.int .i64 a, .int .i64 m] w fun e w' => e = .returned (.tuple #[.int .i64 0, .bool false]) ∧ Below w.heap.size w w' := by
  refine (RInverse_any a r m w hm hm2 hr).mono ?_
  rintro e w' ⟨⟨_, he⟩ | ⟨h, _⟩, hd⟩
  · exact ⟨he, hd⟩
  · exact absurd h hg

theorem RInv_some (a : Int) (r m : Nat) (w : World) (hm : 1 ≤ m) (hm2 : m ≤ 1000000000000) (hr : a % m = (r : Int)) (hg : Nat.gcd r m = 1) :
    Calls Tryz.prog 73 #[.int .i64 a, .int .i64 m] w fun e w' => e = .returned (.tuple #[.int .i64 (inv0 r m : Nat), .bool true]) ∧ Below w.heap.size w w' := by
  refine (RInverse_any a r m w hm hm2 hr).mono ?_
  rintro e w' ⟨⟨h, _⟩ | ⟨_, x, he, hx, hxe⟩, hd⟩
  · exact absurd hg h
  · rw [← inv0_eq hg hx hxe]; exact ⟨he, hd⟩

/-- Two numbers below the least common multiple that leave the same rests are the same. -/
theorem meet_unique {m n X Y : Nat} (hm : 0 < m) (hn : 0 < n) (hX : X < m * (n / Nat.gcd m n)) (hY : Y < m * (n / Nat.gcd m n)) (h1 : X % m = Y % m) (h2 : X % n = Y % n) : X = Y := by
  have key : ∀ {X Y : Nat}, Y ≤ X → X < m * (n / Nat.gcd m n) → X % m = Y % m → X % n = Y % n → X = Y := by
    intro X Y hle hX h1 h2
    have d1 : m ∣ X - Y := (mod_eq_dvd hle).1 h1.symm
    have d2 : n ∣ X - Y := (mod_eq_dvd hle).1 h2.symm
    have d3 : Nat.lcm m n ∣ X - Y := Nat.lcm_dvd d1 d2
    have hl : Nat.lcm m n = m * (n / Nat.gcd m n) := by unfold Nat.lcm; exact Nat.mul_div_assoc m (Nat.gcd_dvd_right m n)
    rw [hl] at d3
    rcases Nat.eq_zero_or_pos (X - Y) with h | h
    · omega
    · have := Nat.le_of_dvd h d3; omega
  rcases Nat.le_total X Y with h | h
  · exact (key h hY h1.symm h2.symm).symm
  · exact key h hX h1 h2

/-- What both meet at. -/
theorem meet_same (r1 r2 m n : Nat) (hm : 0 < m) (hn : 0 < n) : ∃ x y g : Int, (0 ≤ g ∧ g ≤ 4) ∧ ∀ e, Met r1 r2 m n e → e = .returned (.tuple #[.int .i64 x, .int .i64 y, .int .i64 g]) := by
  by_cases c1 : 1000000000000 / n < m / Nat.gcd m n
  · exact ⟨0, 0, 2, by omega, fun e h => by
      rcases h with ⟨_, h⟩ | ⟨h, _⟩ | ⟨h, _⟩
      · exact h
      · omega
      · omega⟩
  · by_cases c2 : ((Nat.gcd m n : Nat) : Int) ∣ (r2 : Int) - r1
    · have sp := fun h => Classical.epsilon_spec (p := fun X => X < m * (n / Nat.gcd m n) ∧ X % m = r1 ∧ X % n = r2) h
      refine ⟨((@Classical.epsilon Nat ⟨0⟩ fun X => X < m * (n / Nat.gcd m n) ∧ X % m = r1 ∧ X % n = r2 : Nat) : Int), (m * (n / Nat.gcd m n) : Nat), 0, by omega, fun e h => ?_⟩
      rcases h with ⟨h, _⟩ | ⟨_, h, _⟩ | ⟨_, _, X, h, hX⟩
      · omega
      · exact absurd c2 h
      · have s := sp ⟨X, hX⟩
        have := meet_unique hm hn hX.1 s.1 (hX.2.1.trans s.2.1.symm) (hX.2.2.trans s.2.2.symm)
        rw [← this]; exact h
    · exact ⟨0, 0, 4, by omega, fun e h => by
        rcases h with ⟨h, _⟩ | ⟨_, _, h⟩ | ⟨_, h, _⟩
        · omega
        · exact h
        · exact absurd h c2⟩

/-- Powers: what ours answers, and that the reference agrees. -/
def PowSays (a x2 m : Int) (p e : Int) : Prop :=
  (x2 < 0 ∧ p = 0 ∧ e = 1) ∨ (0 ≤ x2 ∧ e = 0 ∧ ∀ W, Calls Tryz.prog 72 #[.int .i64 a, .int .i64 x2, .int .i64 m] W fun e w' => e = .returned (.int .i64 p) ∧ W = w')

theorem pow_says (a x2 m : Int) (hx : x2 ≤ 9223372036854775807) (hm : 1 ≤ m) (hm2 : m ≤ 1000000000000) :
    ∃ p e : Int, PowSays a x2 m p e ∧ ∀ W, Calls Tryz.prog 69 #[.int .i64 a, .int .i64 x2, .int .i64 m] W fun e' w' => e' = .returned (.tuple #[.int .i64 p, .int .i64 e]) ∧ Drew W w' := by
  by_cases h : x2 < 0
  · exact ⟨0, 1, .inl ⟨h, rfl, rfl⟩, fun W => Power_arg2 a x2 m W hm hm2 h⟩
  · obtain ⟨n, rfl⟩ : ∃ n : Nat, x2 = n := ⟨x2.toNat, by omega⟩
    obtain ⟨m', rfl⟩ : ∃ k : Nat, m = k := ⟨m.toNat, by omega⟩
    obtain ⟨r, hr⟩ : ∃ r : Nat, a % (m' : Int) = r := ⟨(a % (m' : Int)).toNat, by have := Int.emod_nonneg a (b := (m' : Int)) (by omega); omega⟩
    exact ⟨(r ^ n % m' : Nat), 0, .inr ⟨by omega, rfl, fun W => PowerMod_any a r n m' W hr (by omega) (by omega) (by omega)⟩, fun W => Power_any a r n m' W hr (by omega) (by omega) (by omega)⟩

/-- Inverses: likewise. -/
def InvSays (a m : Int) (q f : Int) : Prop :=
  (q = 0 ∧ f = 4 ∧ ∀ W, Calls Tryz.prog 73 #[.int .i64 a, .int .i64 m] W fun e w' => e = .returned (.tuple #[.int .i64 0, .bool false]) ∧ Below W.heap.size W w') ∨
  (f = 0 ∧ ∀ W, Calls Tryz.prog 73 #[.int .i64 a, .int .i64 m] W fun e w' => e = .returned (.tuple #[.int .i64 q, .bool true]) ∧ Below W.heap.size W w')

theorem inv_says (a m : Int) (hm : 1 ≤ m) (hm2 : m ≤ 1000000000000) :
    ∃ q f : Int, InvSays a m q f ∧ ∀ W, Calls Tryz.prog 70 #[.int .i64 a, .int .i64 m] W fun e' w' => e' = .returned (.tuple #[.int .i64 q, .int .i64 f]) ∧ Drew W w' := by
  obtain ⟨m', rfl⟩ : ∃ k : Nat, m = k := ⟨m.toNat, by omega⟩
  obtain ⟨r, hr⟩ : ∃ r : Nat, a % (m' : Int) = r := ⟨(a % (m' : Int)).toNat, by have := Int.emod_nonneg a (b := (m' : Int)) (by omega); omega⟩
  by_cases hg : Nat.gcd r m' = 1
  · exact ⟨_, 0, .inr ⟨rfl, fun W => RInv_some a r m' W (by omega) (by omega) hr hg⟩, fun W => Inv_some a r m' W (by omega) (by omega) hr hg⟩
  · exact ⟨0, 4, .inl ⟨rfl, rfl, fun W => RInv_none a r m' W (by omega) (by omega) hr hg⟩, fun W => Inv_none a r m' W (by omega) (by omega) hr hg⟩

/-- Meets: likewise. -/
def MeetSays (a m b n : Int) (x y g : Int) : Prop :=
  ((n < 1 ∨ (1 ≤ n ∧ 1000000000000 < n)) ∧ x = 0 ∧ y = 0 ∧ g = 1) ∨
  (1 ≤ n ∧ n ≤ 1000000000000 ∧ ∀ W, Calls Tryz.prog 74 #[.int .i64 a, .int .i64 m, .int .i64 b, .int .i64 n] W fun e w' => e = .returned (.tuple #[.int .i64 x, .int .i64 y, .int .i64 g]) ∧ Below W.heap.size W w')

theorem meet_says (a m b n : Int) (hm : 1 ≤ m) (hm2 : m ≤ 1000000000000) :
    ∃ x y g : Int, (0 ≤ g ∧ g ≤ 4) ∧ MeetSays a m b n x y g ∧ ∀ W, Calls Tryz.prog 71 #[.int .i64 a, .int .i64 m, .int .i64 b, .int .i64 n] W fun e' w' => e' = .returned (.tuple #[.int .i64 x, .int .i64 y, .int .i64 g]) ∧ Drew W w' := by
  by_cases h : 1 ≤ n ∧ n ≤ 1000000000000
  · obtain ⟨h1, h2⟩ := h
    obtain ⟨m', rfl⟩ : ∃ k : Nat, m = k := ⟨m.toNat, by omega⟩
    obtain ⟨n', rfl⟩ : ∃ k : Nat, n = k := ⟨n.toNat, by omega⟩
    obtain ⟨r1, hr1⟩ : ∃ r : Nat, a % (m' : Int) = r := ⟨(a % (m' : Int)).toNat, by have := Int.emod_nonneg a (b := (m' : Int)) (by omega); omega⟩
    obtain ⟨r2, hr2⟩ : ∃ r : Nat, b % (n' : Int) = r := ⟨(b % (n' : Int)).toNat, by have := Int.emod_nonneg b (b := (n' : Int)) (by omega); omega⟩
    obtain ⟨x, y, g, hg, hs⟩ := meet_same r1 r2 m' n' (by omega) (by omega)
    exact ⟨x, y, g, hg, .inr ⟨h1, h2, fun W => (RMeet_any a b r1 r2 m' n' W hr1 hr2 (by omega) (by omega) (by omega) (by omega)).mono fun e w' h => ⟨hs e h.1, h.2⟩⟩,
      fun W => (Meet_any a b r1 r2 m' n' W hr1 hr2 (by omega) (by omega) (by omega) (by omega)).mono fun e w' h => ⟨hs e h.1, h.2⟩⟩
  · exact ⟨0, 0, 1, by omega, .inl ⟨by omega, rfl, rfl, rfl⟩, fun W => Meet_arg a m b n W (.inr h)⟩

/-- The three calls of one round. -/
def RoundSays (a b x0 x1 x2 p e q f x y g : Int) : Prop :=
  ((x0 < 1 ∨ (1 ≤ x0 ∧ 1000000000000 < x0)) ∧ e = 1 ∧ f = 1 ∧ g = 1 ∧ p = 0 ∧ q = 0 ∧ x = 0 ∧ y = 0) ∨
  (1 ≤ x0 ∧ x0 ≤ 1000000000000 ∧ PowSays a x2 x0 p e ∧ InvSays a x0 q f ∧ MeetSays a x0 b x1 x y g)

theorem round_says (a b x0 x1 x2 : Int) (hx : x2 ≤ 9223372036854775807) : ∃ p e q f x y g : Int, (0 ≤ g ∧ g ≤ 4) ∧ RoundSays a b x0 x1 x2 p e q f x y g ∧
    (∀ W, Calls Tryz.prog 69 #[.int .i64 a, .int .i64 x2, .int .i64 x0] W fun e' w' => e' = .returned (.tuple #[.int .i64 p, .int .i64 e]) ∧ Drew W w') ∧
    (∀ W, Calls Tryz.prog 70 #[.int .i64 a, .int .i64 x0] W fun e' w' => e' = .returned (.tuple #[.int .i64 q, .int .i64 f]) ∧ Drew W w') ∧
    (∀ W, Calls Tryz.prog 71 #[.int .i64 a, .int .i64 x0, .int .i64 b, .int .i64 x1] W fun e' w' => e' = .returned (.tuple #[.int .i64 x, .int .i64 y, .int .i64 g]) ∧ Drew W w') := by
  by_cases h : 1 ≤ x0 ∧ x0 ≤ 1000000000000
  · obtain ⟨h1, h2⟩ := h
    obtain ⟨p, e, hp, cp⟩ := pow_says a x2 x0 hx h1 h2
    obtain ⟨q, f, hq, cq⟩ := inv_says a x0 h1 h2
    obtain ⟨x, y, g, hg, hm, cm⟩ := meet_says a x0 b x1 h1 h2
    exact ⟨p, e, q, f, x, y, g, hg, .inr ⟨h1, h2, hp, hq, hm⟩, cp, cq, cm⟩
  · exact ⟨0, 1, 0, 1, 0, 0, 1, by omega, .inl ⟨by omega, rfl, rfl, rfl, rfl, rfl, rfl, rfl⟩, fun W => Power_arg1 a x2 x0 W h, fun W => Inverse_arg a x0 W h, fun W => Meet_arg a x0 b x1 W (.inl h)⟩
end Go.Proofs.YtamhlkjfpdkhoaaGreatDoor
