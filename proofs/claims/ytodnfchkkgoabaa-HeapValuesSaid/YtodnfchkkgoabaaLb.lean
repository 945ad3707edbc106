/- The four functions at integers. -/
import Derived.Test.YtodnfchkkgoabaaAw
import Derived.Test.YtodnfchkkgoabaaFd
set_option linter.unusedVariables false
namespace Go.Proofs.Ytodnfchkkgoabaa
open Go.RowKit
open Nim

theorem w64_fits (a : Int) : -9223372036854775808 ≤ wrap64 a ∧ wrap64 a ≤ 9223372036854775807 := by unfold wrap64; omega
theorem i64_fits (a : Int) : -9223372036854775808 ≤ IntKind.i64.wrap a ∧ IntKind.i64.wrap a ≤ 9223372036854775807 := by rw [IntKind.wrap_i64]; omega

def RT (a b t : Int) : Prop := ∀ X : World, Calls Try.prog 32 #[.int .i64 a, .int .i64 b] X fun e w' => e = .returned (.int .i64 t) ∧ X = w'
def RP (a n t : Int) : Prop := ∀ X : World, Calls Try.prog 33 #[.int .i64 a, .int .i64 n] X fun e w' => e = .returned (.int .i64 t) ∧ X = w'

theorem TimesI (a b : Int) (w : World) (ha : 0 ≤ a ∧ a < 65536) :
    Calls Try.prog 28 #[.int .i64 a, .int .i64 b] w fun e w' => ∃ t te : Int, e = .returned (.tuple #[.int .i64 t, .int .i64 te]) ∧ Below w.heap.size w w' ∧ ((0 ≤ b ∧ b < 65536) → te = 0 ∧ RT a b t) ∧ (¬ (0 ≤ b ∧ b < 65536) → te = 1 ∧ t = 0) := by
  by_cases hb : 0 ≤ b ∧ b < 65536
  · obtain ⟨m, rfl⟩ : ∃ m : Nat, a = m := ⟨a.toNat, by omega⟩
    obtain ⟨k, rfl⟩ : ∃ m : Nat, b = m := ⟨b.toNat, by omega⟩
    refine (Times_ok m k w (by omega) (by omega)).mono ?_
    rintro e w' ⟨rfl, h⟩
    exact ⟨_, _, rfl, h, fun _ => ⟨rfl, fun X => RTimes_nat m k X (by omega) (by omega)⟩, fun h => absurd hb h⟩
  · refine (Times_no a b w (by omega)).mono ?_
    rintro e w' ⟨rfl, h⟩
    exact ⟨_, _, rfl, h, fun h => absurd h hb, fun _ => ⟨rfl, rfl⟩⟩
theorem InverseI (a : Int) (w : World) (ha : 0 ≤ a ∧ a < 65536) :
    Calls Try.prog 29 #[.int .i64 a] w fun e w' => ∃ t te : Int, e = .returned (.tuple #[.int .i64 t, .int .i64 te]) ∧ Below w.heap.size w w' ∧ (a = 0 → te = 4 ∧ t = 0) ∧ (a ≠ 0 → te = 0 ∧ 0 ≤ t ∧ t ≤ 65535 ∧ RT a t 1) := by
  by_cases h0 : a = 0
  · subst h0
    refine (Inverse_zero w).mono ?_
    rintro e w' ⟨rfl, h⟩
    exact ⟨_, _, rfl, h, fun _ => ⟨rfl, rfl⟩, fun h => absurd rfl h⟩
  · obtain ⟨m, rfl⟩ : ∃ m : Nat, a = m := ⟨a.toNat, by omega⟩
    refine (Inverse_ok m w (by omega) (by omega)).mono ?_
    rintro e w' ⟨rfl, h⟩
    have l := npw_lt m 65534 (by omega)
    refine ⟨_, _, rfl, h, fun h => absurd h h0, fun _ => ⟨rfl, by omega, by omega, fun X => ?_⟩⟩
    have := RTimes_nat m (npw 4 m 65534) X (by omega) l
    rw [npw_inv m (by omega) (by omega)] at this
    exact this
theorem RootI (a : Int) (w : World) (ha : 0 ≤ a ∧ a < 65536) :
    Calls Try.prog 30 #[.int .i64 a] w fun e w' => ∃ t : Int, e = .returned (.tuple #[.int .i64 t, .int .i64 0]) ∧ Below w.heap.size w w' ∧ 0 ≤ t ∧ t ≤ 65535 ∧ RT t t a := by
  obtain ⟨m, rfl⟩ : ∃ m : Nat, a = m := ⟨a.toNat, by omega⟩
  refine (Root_ok m w (by omega)).mono ?_
  rintro e w' ⟨rfl, h⟩
  have l := npw_lt m 32768 (by omega)
  refine ⟨_, rfl, h, by omega, by omega, fun X => ?_⟩
  have := RTimes_nat (npw 4 m 32768) (npw 4 m 32768) X l l
  rw [npw_root m (by omega)] at this
  exact this
theorem PowerI (a n : Int) (w : World) (ha : 0 ≤ a ∧ a < 65536) (hn : n ≤ 9223372036854775807) :
    Calls Try.prog 31 #[.int .i64 a, .int .i64 n] w fun e w' => ∃ t te : Int, e = .returned (.tuple #[.int .i64 t, .int .i64 te]) ∧ Below w.heap.size w w' ∧ (n < 0 → te = 1 ∧ t = 0) ∧ (0 ≤ n → te = 0 ∧ RP a n t) := by
  by_cases h0 : n < 0
  · refine (Power_neg a n w ha.1 ha.2 h0).mono ?_
    rintro e w' ⟨rfl, h⟩
    exact ⟨_, _, rfl, h, fun _ => ⟨rfl, rfl⟩, fun h => absurd h0 (by omega)⟩
  · obtain ⟨m, rfl⟩ : ∃ m : Nat, a = m := ⟨a.toNat, by omega⟩
    obtain ⟨k, rfl⟩ : ∃ m : Nat, n = m := ⟨n.toNat, by omega⟩
    refine (Power_ok m k w (by omega) (by omega)).mono ?_
    rintro e w' ⟨rfl, h⟩
    exact ⟨_, _, rfl, h, fun h => absurd h h0, fun _ => ⟨rfl, fun X => RPower_any m k X (by omega) (by omega)⟩⟩
end Go.Proofs.Ytodnfchkkgoabaa
