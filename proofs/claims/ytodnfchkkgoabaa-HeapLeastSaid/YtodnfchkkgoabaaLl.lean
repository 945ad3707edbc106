/- WALK of HeapLeast. -/
import Derived.Test.YtodnfchkkgoabaaLb
import Derived.Test.YtodnfchkkgoabaaLs
import Derived.Deep.CutBlock
set_option linter.unusedVariables false
namespace Go.Proofs.Ytodnfchkkgoabaa
open Go.RowKit
open Nim

theorem u64_pos' (a : Int) : 0 ≤ IntKind.u64.wrap a := by
  have : IntKind.u64.wrap a = a % 2 ^ 64 := by rfl
  rw [this]; omega
theorem tm16 (u : Int) (h : 0 ≤ u) : 0 ≤ u.tmod 16 ∧ u.tmod 16 < 16 := ⟨Int.tmod_nonneg _ h, Int.tmod_lt_of_pos _ (by decide)⟩
theorem nat16 (E : Int) (h0 : 0 ≤ E ∧ E < 16) : ∃ p : Nat, Value.int .i64 E = .int .i64 (p : Int) ∧ p < 16 := ⟨E.toNat, by rw [Int.toNat_of_nonneg h0.1], by omega⟩
theorem nat16a (a : Int) : ∃ p : Nat, Value.int .i64 (IntKind.i64.wrap ((IntKind.u64.wrap a).tmod 16)) = .int .i64 (p : Int) ∧ p < 16 := by
  have := tm16 _ (u64_pos' a)
  apply nat16
  rw [IntKind.wrap_i64]; omega
theorem nat16b (a : Int) : ∃ p : Nat, Value.int .i64 (wrap64 ((IntKind.u64.wrap a).tmod 16)) = .int .i64 (p : Int) ∧ p < 16 := by
  have := tm16 _ (u64_pos' a)
  apply nat16
  unfold wrap64; omega
theorem nat16c (a : Int) : ∃ p : Nat, Value.int .i64 ((IntKind.u64.wrap a).tmod 16) = .int .i64 (p : Int) ∧ p < 16 := nat16 _ (tm16 _ (u64_pos' a))

set_option maxRecDepth 100000 in
set_option maxHeartbeats 4000000 in
theorem HeapLeast_any (a0 b0 : Int) (W : World) (wa : -9223372036854775808 ≤ a0 ∧ a0 ≤ 9223372036854775807) (wb : -9223372036854775808 ≤ b0 ∧ b0 ≤ 9223372036854775807) :
    Calls Try.prog 7 #[.int .i64 a0, .int .i64 b0] W fun e w' => e = .returned (.bool true) ∧ Below W.heap.size W w' := by
  have AW := Lib.hid awake_any
  go_enter Try.func7, Try.ntmps7
  go_upto_region 1 with fail
  go_cut [5, 6] from 9 to 16 (fun x y wx => (∃ p : Nat, x = .int .i64 p ∧ p < 16) ∧ (∃ p : Nat, y = .int .i64 p ∧ p < 16) ∧ W = wx)
  case first =>
    go_wp2_with fail
    go_meet
    case rel => exact ⟨by first | exact nat16a _ | exact nat16b _ | exact nat16c _, by first | exact nat16a _ | exact nat16b _ | exact nat16c _, rfl⟩
  case rest =>
    obtain ⟨⟨x, rfl, hx⟩, ⟨y, rfl, hy⟩, rfl⟩ := hcut
    clear wa wb
    have T := Lib.hid (fun X => Times_ok x y X (by omega) (by omega))
    have L := Lib.hid (fun X => Least_any x y X hx hy)
    have R := Lib.hid (fun X => RTimes_nat x y X (by omega) (by omega))
    generalize nm 4 x y = t at *
    go_wp2_with fail
    refine (T.out W).mono ?_
    rintro e w1 ⟨rfl, hb1⟩
    have B1 := Lib.hid hb1
    clear hb1 T
    go_wp2_with fail
    refine (L.out w1).mono ?_
    rintro e w2 ⟨rfl, hb1⟩
    have B2 := Lib.hid (B1.out.trans (hb1.mono B1.out.size))
    clear hb1 L B1
    go_wp2_with fail
    refine (R.out w2).mono ?_
    rintro e w3 ⟨rfl, rfl⟩
    clear R
    go_wp2_with fail
    refine (AW.out w2).mono ?_
    rintro e w3 ⟨rfl, hb1⟩
    have B3 := Lib.hid (B2.out.trans (hb1.mono B2.out.size))
    clear hb1 B2
    go_wp2_with fail
    go_ret
    exact ⟨rfl, B3.out⟩
end Go.Proofs.Ytodnfchkkgoabaa
