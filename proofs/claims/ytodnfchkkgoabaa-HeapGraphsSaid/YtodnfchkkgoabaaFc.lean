/- WALKS of Times, Inverse, Root, Power. -/
import Derived.Test.YtodnfchkkgoabaaFb
namespace Go.Proofs.Ytodnfchkkgoabaa
open Go.RowKit
open Nim

theorem inF_two (a b : Int) (h : 0 ≤ a ∧ a < 65536 ∧ 0 ≤ b ∧ b < 65536) : inF [a, b] = true := by simp [inF]; omega
theorem inF_two_no (a b : Int) (h : ¬ (0 ≤ a ∧ a < 65536 ∧ 0 ≤ b ∧ b < 65536)) : inF [a, b] = false := by simp [inF]; omega
theorem inF_one (a : Int) (h : 0 ≤ a ∧ a < 65536) : inF [a] = true := by simp [inF]; omega
theorem inF_one_no (a : Int) (h : ¬ (0 ≤ a ∧ a < 65536)) : inF [a] = false := by simp [inF]; omega

theorem ints_two (w : World) (a b : Int) (t : TypeId) : Ints (w.alloc (.cells #[.int .i64 a, .int .i64 b] t)) w.heap.size [a, b] := by
  intro i hi
  have : i = 0 ∨ i = 1 := by simp at hi; omega
  rcases this with rfl | rfl <;> simp
theorem ints_one (w : World) (a : Int) (t : TypeId) : Ints (w.alloc (.cells #[.int .i64 a] t)) w.heap.size [a] := by
  intro i hi
  have : i = 0 := by simp at hi; omega
  subst this; simp

theorem two_in (a b : Int) (c : Nat) (w : World) (t : TypeId) (x : Bool) (h : inF [a, b] = x) :
    Calls Try.prog 54 #[.slice (some ⟨w.heap.size, 0, none⟩) 2 c] (w.alloc (.cells #[.int .i64 a, .int .i64 b] t)) fun e w' => e = .returned (.bool x) ∧ (w.alloc (.cells #[.int .i64 a, .int .i64 b] t)) = w' := by
  rw [← h]
  exact inField_any w.heap.size [a, b] c _ (by simp) (ints_two w a b t)
theorem one_in (a : Int) (c : Nat) (w : World) (t : TypeId) (x : Bool) (h : inF [a] = x) :
    Calls Try.prog 54 #[.slice (some ⟨w.heap.size, 0, none⟩) 1 c] (w.alloc (.cells #[.int .i64 a] t)) fun e w' => e = .returned (.bool x) ∧ (w.alloc (.cells #[.int .i64 a] t)) = w' := by
  rw [← h]
  exact inField_any w.heap.size [a] c _ (by simp) (ints_one w a t)


set_option maxHeartbeats 400000 in
theorem Times_ok (a b : Nat) (w : World) (ha : a < 65536) (hb : b < 65536) :
    Calls Try.prog 28 #[.int .i64 a, .int .i64 b] w fun e w' => e = .returned (.tuple #[.int .i64 (nm 4 a b : Nat), .int .i64 0]) ∧ Below w.heap.size w w' := by
  have I := Lib.hid (two_in a b 2 w 3 true (inF_two _ _ (by omega)))
  have P0 := Lib.hid (fun W => product_nat a b W ha hb)
  go_enter Try.func28, Try.ntmps28
  go_wp2_with fail
  refine I.out.mono ?_
  rintro e w' ⟨rfl, rfl⟩
  have B0 := Lib.hid ((Below.refl w.heap.size w).alloc (Nat.le_refl _) (.cells #[.int .i64 a, .int .i64 b] 3))
  generalize w.alloc (.cells #[.int .i64 a, .int .i64 b] 3) = w0 at *
  go_wp2_with fail
  refine (P0.out _).mono ?_
  rintro e w1 ⟨rfl, hb⟩
  have B1 := Lib.hid (B0.out.trans (hb.mono B0.out.size))
  clear hb
  go_wp2_with fail
  go_ret2
  exact ⟨rfl, B1.out⟩

set_option maxHeartbeats 400000 in
theorem Times_no (a b : Int) (w : World) (h : ¬ (0 ≤ a ∧ a < 65536 ∧ 0 ≤ b ∧ b < 65536)) :
    Calls Try.prog 28 #[.int .i64 a, .int .i64 b] w fun e w' => e = .returned (.tuple #[.int .i64 0, .int .i64 1]) ∧ Below w.heap.size w w' := by
  have I := Lib.hid (two_in a b 2 w 3 false (inF_two_no _ _ h))
  go_enter Try.func28, Try.ntmps28
  go_wp2_with fail
  refine I.out.mono ?_
  rintro e w' ⟨rfl, rfl⟩
  have B0 := Lib.hid ((Below.refl w.heap.size w).alloc (Nat.le_refl _) (.cells #[.int .i64 a, .int .i64 b] 3))
  generalize w.alloc (.cells #[.int .i64 a, .int .i64 b] 3) = w0 at *
  go_wp2_with fail
  go_ret2
  exact ⟨rfl, B0.out⟩

set_option maxHeartbeats 400000 in
theorem Inverse_ok (a : Nat) (w : World) (ha : a < 65536) (h0 : 0 < a) :
    Calls Try.prog 29 #[.int .i64 a] w fun e w' => e = .returned (.tuple #[.int .i64 (npw 4 a 65534 : Nat), .int .i64 0]) ∧ Below w.heap.size w w' := by
  have I := Lib.hid (one_in a 1 w 3 true (inF_one _ (by omega)))
  have P0 := Lib.hid (fun W => power_any a 65534 W ha (by omega))
  go_enter Try.func29, Try.ntmps29
  go_wp2_with fail
  refine I.out.mono ?_
  rintro e w' ⟨rfl, rfl⟩
  have B0 := Lib.hid ((Below.refl w.heap.size w).alloc (Nat.le_refl _) (.cells #[.int .i64 a] 3))
  generalize w.alloc (.cells #[.int .i64 a] 3) = w0 at *
  go_wp2_with fail
  refine (P0.out _).mono ?_
  rintro e w1 ⟨rfl, hb⟩
  have B1 := Lib.hid (B0.out.trans (hb.mono B0.out.size))
  clear hb
  go_wp2_with fail
  go_ret2
  exact ⟨rfl, B1.out⟩

set_option maxHeartbeats 400000 in
theorem Inverse_no (a : Int) (w : World) (h : ¬ (0 ≤ a ∧ a < 65536)) :
    Calls Try.prog 29 #[.int .i64 a] w fun e w' => e = .returned (.tuple #[.int .i64 0, .int .i64 1]) ∧ Below w.heap.size w w' := by
  have I := Lib.hid (one_in a 1 w 3 false (inF_one_no _ h))
  go_enter Try.func29, Try.ntmps29
  go_wp2_with fail
  refine I.out.mono ?_
  rintro e w' ⟨rfl, rfl⟩
  have B0 := Lib.hid ((Below.refl w.heap.size w).alloc (Nat.le_refl _) (.cells #[.int .i64 a] 3))
  generalize w.alloc (.cells #[.int .i64 a] 3) = w0 at *
  go_wp2_with fail
  go_ret2
  exact ⟨rfl, B0.out⟩

set_option maxHeartbeats 400000 in
theorem Inverse_zero  (w : World)  :
    Calls Try.prog 29 #[.int .i64 0] w fun e w' => e = .returned (.tuple #[.int .i64 0, .int .i64 4]) ∧ Below w.heap.size w w' := by
  have I := Lib.hid (one_in 0 1 w 3 true (inF_one _ (by omega)))
  go_enter Try.func29, Try.ntmps29
  go_wp2_with fail
  refine I.out.mono ?_
  rintro e w' ⟨rfl, rfl⟩
  have B0 := Lib.hid ((Below.refl w.heap.size w).alloc (Nat.le_refl _) (.cells #[.int .i64 0] 3))
  generalize w.alloc (.cells #[.int .i64 0] 3) = w0 at *
  go_wp2_with fail
  go_ret2
  exact ⟨rfl, B0.out⟩

set_option maxHeartbeats 400000 in
theorem Root_ok (a : Nat) (w : World) (ha : a < 65536) :
    Calls Try.prog 30 #[.int .i64 a] w fun e w' => e = .returned (.tuple #[.int .i64 (npw 4 a 32768 : Nat), .int .i64 0]) ∧ Below w.heap.size w w' := by
  have I := Lib.hid (one_in a 1 w 3 true (inF_one _ (by omega)))
  have P0 := Lib.hid (fun W => power_any a 32768 W ha (by omega))
  go_enter Try.func30, Try.ntmps30
  go_wp2_with fail
  refine I.out.mono ?_
  rintro e w' ⟨rfl, rfl⟩
  have B0 := Lib.hid ((Below.refl w.heap.size w).alloc (Nat.le_refl _) (.cells #[.int .i64 a] 3))
  generalize w.alloc (.cells #[.int .i64 a] 3) = w0 at *
  go_wp2_with fail
  refine (P0.out _).mono ?_
  rintro e w1 ⟨rfl, hb⟩
  have B1 := Lib.hid (B0.out.trans (hb.mono B0.out.size))
  clear hb
  go_wp2_with fail
  go_ret2
  exact ⟨rfl, B1.out⟩

set_option maxHeartbeats 400000 in
theorem Root_no (a : Int) (w : World) (h : ¬ (0 ≤ a ∧ a < 65536)) :
    Calls Try.prog 30 #[.int .i64 a] w fun e w' => e = .returned (.tuple #[.int .i64 0, .int .i64 1]) ∧ Below w.heap.size w w' := by
  have I := Lib.hid (one_in a 1 w 3 false (inF_one_no _ h))
  go_enter Try.func30, Try.ntmps30
  go_wp2_with fail
  refine I.out.mono ?_
  rintro e w' ⟨rfl, rfl⟩
  have B0 := Lib.hid ((Below.refl w.heap.size w).alloc (Nat.le_refl _) (.cells #[.int .i64 a] 3))
  generalize w.alloc (.cells #[.int .i64 a] 3) = w0 at *
  go_wp2_with fail
  go_ret2
  exact ⟨rfl, B0.out⟩

set_option maxHeartbeats 400000 in
theorem Power_ok (a n : Nat) (w : World) (ha : a < 65536) (hn : n ≤ 9223372036854775807) :
    Calls Try.prog 31 #[.int .i64 a, .int .i64 n] w fun e w' => e = .returned (.tuple #[.int .i64 (npw 4 a n : Nat), .int .i64 0]) ∧ Below w.heap.size w w' := by
  have I := Lib.hid (one_in a 1 w 3 true (inF_one _ (by omega)))
  have P0 := Lib.hid (fun W => power_any a n W ha hn)
  go_enter Try.func31, Try.ntmps31
  go_wp2_with fail
  refine I.out.mono ?_
  rintro e w' ⟨rfl, rfl⟩
  have B0 := Lib.hid ((Below.refl w.heap.size w).alloc (Nat.le_refl _) (.cells #[.int .i64 a] 3))
  generalize w.alloc (.cells #[.int .i64 a] 3) = w0 at *
  go_wp2_with fail
  refine (P0.out _).mono ?_
  rintro e w1 ⟨rfl, hb⟩
  have B1 := Lib.hid (B0.out.trans (hb.mono B0.out.size))
  clear hb
  go_wp2_with fail
  go_ret2
  exact ⟨rfl, B1.out⟩

set_option maxHeartbeats 400000 in
theorem Power_neg (a n : Int) (w : World) (ha : 0 ≤ a) (ha1 : a < 65536) (hn : n < 0) :
    Calls Try.prog 31 #[.int .i64 a, .int .i64 n] w fun e w' => e = .returned (.tuple #[.int .i64 0, .int .i64 1]) ∧ Below w.heap.size w w' := by
  have I := Lib.hid (one_in a 1 w 3 true (inF_one _ (by omega)))
  go_enter Try.func31, Try.ntmps31
  go_wp2_with fail
  refine I.out.mono ?_
  rintro e w' ⟨rfl, rfl⟩
  have B0 := Lib.hid ((Below.refl w.heap.size w).alloc (Nat.le_refl _) (.cells #[.int .i64 a] 3))
  generalize w.alloc (.cells #[.int .i64 a] 3) = w0 at *
  go_wp2_with fail
  go_ret2
  exact ⟨rfl, B0.out⟩

set_option maxHeartbeats 400000 in
theorem Power_no (a n : Int) (w : World) (h : ¬ (0 ≤ a ∧ a < 65536)) :
    Calls Try.prog 31 #[.int .i64 a, .int .i64 n] w fun e w' => e = .returned (.tuple #[.int .i64 0, .int .i64 1]) ∧ Below w.heap.size w w' := by
  have I := Lib.hid (one_in a 1 w 3 false (inF_one_no _ h))
  go_enter Try.func31, Try.ntmps31
  go_wp2_with fail
  refine I.out.mono ?_
  rintro e w' ⟨rfl, rfl⟩
  have B0 := Lib.hid ((Below.refl w.heap.size w).alloc (Nat.le_refl _) (.cells #[.int .i64 a] 3))
  generalize w.alloc (.cells #[.int .i64 a] 3) = w0 at *
  go_wp2_with fail
  go_ret2
  exact ⟨rfl, B0.out⟩
end Go.Proofs.Ytodnfchkkgoabaa
