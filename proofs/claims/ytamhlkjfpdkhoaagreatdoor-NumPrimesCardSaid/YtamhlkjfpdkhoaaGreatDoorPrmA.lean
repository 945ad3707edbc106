/- WALKS: Factors and Divisors of what is no modulus. -/
import Derived.Test.YtamhlkjfpdkhoaaGreatDoorPure
import Derived.Outline
namespace Go.Proofs.YtamhlkjfpdkhoaaGreatDoor
open Go.RowKit

set_option maxRecDepth 100000 in
theorem Factors_arg (n : Int) (w : World) (h : ¬ (1 ≤ n ∧ n ≤ 1000000000000)) :
    Calls Tryz.prog 76 #[.int .i64 n] w fun e w' => e = .returned (.tuple #[.slice none 0 0, .int .i64 1]) ∧ Below w.heap.size w w' := by
  have H : isMod n = false := isMod_no h
  clear h
  go_enter Tryz.func76, Tryz.ntmps76
  go_wp2_with (go_at_call 133; refine (isModulus_any _ _).mono ?_; rintro e w' ⟨rfl, rfl⟩)
  go_ret2
  exact ⟨rfl, Below.refl _ _⟩

set_option maxRecDepth 100000 in
theorem Divisors_arg (n : Int) (w : World) (h : ¬ (1 ≤ n ∧ n ≤ 1000000000000)) :
    Calls Tryz.prog 77 #[.int .i64 n] w fun e w' => e = .returned (.tuple #[.slice none 0 0, .int .i64 1]) ∧ Below w.heap.size w w' := by
  have H : isMod n = false := isMod_no h
  clear h
  go_enter Tryz.func77, Tryz.ntmps77
  go_wp2_with (go_at_call 133; refine (isModulus_any _ _).mono ?_; rintro e w' ⟨rfl, rfl⟩)
  go_ret2
  exact ⟨rfl, Below.refl _ _⟩
end Go.Proofs.YtamhlkjfpdkhoaaGreatDoor
