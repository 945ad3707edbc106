/- Two pairs that are the same are equal in Go. -/
import Derived.Test.YtamhlkjfpdkhoaaGreatDoorPrmA
import Derived.ChangeKeysEq
import Derived.WalkKit
namespace Go.Proofs.YtamhlkjfpdkhoaaGreatDoor
open Go.RowKit

theorem cellsI64 : Tryz.prog.cellsOf 2 = 1 := by kernel_rfl
theorem infoI64b : (Tryz.prog.info? 2).map (fun i => (i.zero, i.size, i.bytes)) = some (some (.int .i64 0), 1, 8) := by kernel_rfl

theorem eq_pair (q e : Int) (w : World) : (Op.equalIn 10000 114 (.agg #[.int .i64 q, .int .i64 e]) (.agg #[.int .i64 q, .int .i64 e])).run Tryz.prog w = .ok true w := by
  obtain ⟨i0, hi, hz0, hz1, hz2⟩ := info_parts infoI64b
  have p0 : (part 2 #[.int .i64 q, .int .i64 e] 0).run Tryz.prog w = .ok (.int .i64 q) w := by kernel_rfl
  have p1 : (part 2 #[.int .i64 q, .int .i64 e] 1).run Tryz.prog w = .ok (.int .i64 e) w := by kernel_rfl
  have e0 : ∀ (d : Nat) (x : Int), (Op.equalIn (d + 1) 2 (.int .i64 x) (.int .i64 x)).run Tryz.prog w = .ok true w := fun d x => by
    rw [run_equalIn_int (P := Tryz.prog) (w := w) d 2 .i64 .i64 x x Tryz.underlying2]; simp
  rw [show (10000 : Nat) = 9999 + 1 from rfl, run_equalIn_array w 9999 _ _ Tryz.underlying114 hi, cellsI64]
  simp [List.range, List.range.loop, Op.eqItems, p0, p1, e0 9998]
end Go.Proofs.YtamhlkjfpdkhoaaGreatDoor
