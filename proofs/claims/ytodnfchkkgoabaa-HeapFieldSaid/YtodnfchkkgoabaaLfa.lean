/- Facts for HeapField. -/
import Derived.Test.YtodnfchkkgoabaaLb
set_option linter.unusedVariables false
namespace Go.Proofs.Ytodnfchkkgoabaa
open Go.RowKit
open Nim

theorem pow_2 : ∀ m < 2, nm 4 2 m = 2 * m := by decide +kernel
theorem pow_4 : ∀ m < 4, nm 4 4 m = 4 * m := by decide +kernel
theorem pow_16 : ∀ m < 16, nm 4 16 m = 16 * m := by decide +kernel
theorem pow_256 : ∀ m < 256, nm 4 256 m = 256 * m := by decide +kernel
theorem sq_2 : nm 4 2 2 = 3 := by decide +kernel
theorem sq_4 : nm 4 4 4 = 6 := by decide +kernel
theorem sq_16 : nm 4 16 16 = 24 := by decide +kernel
theorem sq_256 : nm 4 256 256 = 384 := by decide +kernel

theorem small_T (two x : Nat) (h : ∀ m < two, nm 4 two m = two * m) (h0 : 0 < two) (h1 : two < 65536) (X : World) :
    Calls Try.prog 28 #[.int .i64 two, .int .i64 ((x : Int) % (two : Int))] X fun e w' => e = .returned (.tuple #[.int .i64 ((two : Int) * ((x : Int) % (two : Int))), .int .i64 0]) ∧ Below X.heap.size X w' := by
  have hm := Nat.mod_lt x h0
  have := Times_ok two (x % two) X h1 (by omega)
  rw [h _ hm, Int.natCast_mul, Int.natCast_emod] at this
  exact this

theorem u64_pos (a : Int) : 0 ≤ IntKind.u64.wrap a := by
  have : IntKind.u64.wrap a = a % 2 ^ 64 := by rfl
  rw [this]; omega
theorem tm_pos (u : Int) (h : 0 ≤ u) : 0 ≤ u.tmod 65536 ∧ u.tmod 65536 < 65536 := ⟨Int.tmod_nonneg _ h, Int.tmod_lt_of_pos _ (by decide)⟩
theorem as_nat (E : Int) (h0 : 0 ≤ E ∧ E < 65536) : ∃ p : Nat, Value.int .i64 E = .int .i64 (p : Int) ∧ p < 65536 := ⟨E.toNat, by rw [Int.toNat_of_nonneg h0.1], by omega⟩
theorem as_nat1 (a : Int) : ∃ p : Nat, Value.int .i64 (IntKind.i64.wrap ((IntKind.u64.wrap a).tmod 65536)) = .int .i64 (p : Int) ∧ p < 65536 := by
  have := tm_pos _ (u64_pos a)
  apply as_nat
  rw [IntKind.wrap_i64]; omega
theorem as_nat2 (a : Int) : ∃ p : Nat, Value.int .i64 (wrap64 ((IntKind.u64.wrap a).tmod 65536)) = .int .i64 (p : Int) ∧ p < 65536 := by
  have := tm_pos _ (u64_pos a)
  apply as_nat
  unfold wrap64; omega
theorem as_nat3 (a : Int) : ∃ p : Nat, Value.int .i64 ((IntKind.u64.wrap a).tmod 65536) = .int .i64 (p : Int) ∧ p < 65536 := as_nat _ (tm_pos _ (u64_pos a))
end Go.Proofs.Ytodnfchkkgoabaa
