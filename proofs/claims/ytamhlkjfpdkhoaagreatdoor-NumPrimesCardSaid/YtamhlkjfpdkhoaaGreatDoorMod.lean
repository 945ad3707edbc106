/- WALKS of the functions of remainders that multiply: Rem64, timesModulo, Power, Meet. -/
import Derived.Test.YtamhlkjfpdkhoaaGreatDoorDivB
namespace Go.Proofs.YtamhlkjfpdkhoaaGreatDoor
open Go.RowKit

theorem rem_hi (hi lo y : Nat) : (hi % y * 18446744073709551616 + lo) % y = (hi * 18446744073709551616 + lo) % y := by
  rw [Nat.add_mod, Nat.mul_mod, Nat.mod_mod, ← Nat.mul_mod, ← Nat.add_mod]

set_option maxHeartbeats 400000 in
theorem Rem64_any (hi lo y : Nat) (w : World) (h : hi < 18446744073709551616) (hl : lo < 18446744073709551616) (hy0 : 0 < y) (hy : y < 18446744073709551616) :
    Calls Tryz.prog 175 #[.int .u64 hi, .int .u64 lo, .int .u64 y] w fun e w' => e = .returned (.int .u64 ((hi * 18446744073709551616 + lo) % y : Nat)) ∧ Drew w w' := by
  have e1 : (hi : Int) % (y : Int) = ((hi % y : Nat) : Int) := by simp
  have b1 : hi % y < y := Nat.mod_lt _ hy0
  have H := Lib.hid (rem_hi hi lo y)
  generalize hi % y = r at *
  have hyn : ¬ y = 0 := by omega
  obtain ⟨Q, hQ⟩ : ∃ Q, (r * 18446744073709551616 + lo) / y = Q := ⟨_, rfl⟩
  obtain ⟨R, hR⟩ : ∃ R, (r * 18446744073709551616 + lo) % y = R := ⟨_, rfl⟩
  have D := Div64_any r lo y w b1 hl hy
  rw [hQ, hR] at D
  have HR : Hid ((hi * 18446744073709551616 + lo) % y = R) := Lib.hid (by rw [← H.out, hR])
  rw [HR.out]
  clear hQ hR H
  go_enter Tryz.func175, Tryz.ntmps175
  go_wp2_with fail
  refine D.mono ?_
  rintro e w1 ⟨rfl, hd⟩
  have Hd := Lib.hid hd
  clear hd D
  go_wp2_with fail
  go_ret
  exact ⟨rfl, Hd.out⟩

set_option maxHeartbeats 400000 in
theorem timesModulo_any (a b m : Nat) (w : World) (hm : 1 ≤ m) (hm2 : m ≤ 1000000000000) (ha : a < m) (hb : b < m) :
    Calls Tryz.prog 135 #[.int .i64 a, .int .i64 b, .int .i64 m] w fun e w' => e = .returned (.int .i64 (a * b % m : Nat)) ∧ Drew w w' := by
  have hR : a * b % m < m := Nat.mod_lt _ (by omega)
  have hN : a * b / 18446744073709551616 * 18446744073709551616 + a * b % 18446744073709551616 = a * b := by
    have := Nat.div_add_mod (a * b) 18446744073709551616; omega
  have h1 : a * b / 18446744073709551616 < 18446744073709551616 := by
    have : a * b ≤ 1000000000000 * 1000000000000 := Nat.mul_le_mul (by omega) (by omega)
    omega
  have h2 : a * b % 18446744073709551616 < 18446744073709551616 := Nat.mod_lt _ (by omega)
  have M := Tryz.bits_Mul64 a b (by omega) (by omega) w
  obtain ⟨x, hx⟩ : ∃ x, a * b / 18446744073709551616 = x := ⟨_, rfl⟩
  obtain ⟨y, hy⟩ : ∃ y, a * b % 18446744073709551616 = y := ⟨_, rfl⟩
  rw [hx, hy] at M hN
  rw [hx] at h1; rw [hy] at h2
  clear hx hy
  have D := fun w' => Rem64_any x y m w' h1 h2 (by omega) (by omega)
  rw [hN] at D
  generalize a * b % m = R at *
  clear hN h1 h2
  have HM := Lib.hid M
  have HD := Lib.hid D
  clear M D
  go_enter Tryz.func135, Tryz.ntmps135
  go_wp2_with fail
  refine HM.out.mono ?_
  rintro e w1 ⟨rfl, rfl⟩
  go_wp2_with fail
  refine (HD.out _).mono ?_
  rintro e w2 ⟨rfl, hd⟩
  have Hd := Lib.hid hd
  clear hd HD
  go_wp2_with fail
  go_ret
  exact ⟨rfl, Hd.out⟩

end Go.Proofs.YtamhlkjfpdkhoaaGreatDoor
