/- WALK of candidates: 2, 3 and the numbers from 5 on that neither divides are handed on, one after the other. -/
import Derived.Test.YtamhlkjfpdkhoaaGreatDoorRange
import Derived.Test.YtamhlkjfpdkhoaaGreatDoorPure
import Derived.Test.YtamhlkjfpdkhoaaGreatDoorArith
import Derived.RangeFuncBound
import Derived.RangeFuncCalls
import Derived.Shelf.Abstract
import Derived.Shelf.RegionOpen
import Derived.OwnWalkIn
import Derived.TacticsInMore
import Derived.LoopNIn
import Derived.LoopIn
namespace Go.Proofs.YtamhlkjfpdkhoaaGreatDoor
open Go.RowKit Go.Shelf
attribute [local go_sem] Oper.semAt_some

set_option maxHeartbeats 1000000 in
theorem candidates_iter (n : Nat) (W : World) : Iter n Tryz.prog 177 #[] (fun k => #[.int .i64 (cand k)]) 0 2000000 (fun _ => True) (fun _ => False) W := by
  intro l N J Jx hNM hJ hJx hN hY h0
  refine callsIn_of_wp Tryz.func177 rfl trivial ?_ rfl
  simp only [Tryz.ntmps177, List.size_toArray, List.length_cons, List.length_nil, Nat.reduceAdd, Nat.reduceSub, Array.replicate_succ, Array.replicate_zero, List.push_toArray, List.append_toArray, List.nil_append, List.cons_append]
  obtain ⟨fn, tmps, assign, body, hy, hR⟩ := hY 0 W trivial h0 (by omega)
  change (Instr.yield l #[.int .i64 2]).run _ _ = _ at hy
  gi_wp2
  refine ⟨fun h => (by simp [Fence.wide] at h), hR.mono ?_⟩
  clear hy hR
  rintro e W1 ⟨⟨rfl, hJ1⟩ | ⟨rfl, hx⟩, hk1⟩
  · have s1 := hk1.size
    obtain ⟨fn, tmps, assign, body, hy, hR⟩ := hY 1 W1 trivial hJ1 (by omega)
    change (Instr.yield l #[.int .i64 3]).run _ _ = _ at hy
    gi_wp2
    refine ⟨fun h => (by simp [Fence.wide] at h), hR.mono ?_⟩
    clear hy hR
    rintro e W2 ⟨⟨rfl, hJ2⟩ | ⟨rfl, hx⟩, hk2⟩
    · have s2 := hk2.size
      gi_wp2
      gi_loopw [2] (fun p wr => ∃ j : Nat, p = .int .i64 (5 + 6 * j) ∧ J (2 + 2 * j) wr ∧ W.heap.size ≤ wr.heap.size) (fun p _ => 3 * N + 100 - (intOf p).toNat)
      case atStart => exact ⟨0, rfl, hJ2, by omega⟩
      case round =>
        clear hJ1 hJ2 hk1 hk2 s1 s2 h0
        obtain ⟨j, rfl, hj, hs⟩ := hrel
        have hb := hN _ _ hj
        have c0 : cand (2 + 2 * j) = 5 + 6 * j := by
          unfold cand; rw [if_neg (by omega), if_neg (by omega), if_pos (by omega), show (2 + 2 * j) / 2 - 1 = j by omega]
        have c1 : cand (2 + 2 * j + 1) = 7 + 6 * j := by
          unfold cand; rw [if_neg (by omega), if_neg (by omega), if_neg (by omega), show (2 + 2 * j + 1) / 2 - 1 = j by omega]
        obtain ⟨fn, tmps, assign, body, hy, hR⟩ := hY _ wr trivial hj (by omega)
        rw [c0] at hy
        have e0 : ((5 + 6 * j : Nat) : Int) = 5 + 6 * (j : Int) := by omega
        rw [e0] at hy
        gi_wp2
        refine ⟨fun h => (by simp [Fence.wide] at h), hR.mono ?_⟩
        clear hy hR
        rintro e W3 ⟨⟨rfl, hJ3⟩ | ⟨rfl, hx⟩, hk3⟩
        · have s3 := hk3.size
          have hb3 := hN _ _ hJ3
          obtain ⟨fn, tmps, assign, body, hy, hR⟩ := hY _ W3 trivial hJ3 (by omega)
          rw [c1] at hy
          have e1 : ((7 + 6 * j : Nat) : Int) = 5 + 6 * (j : Int) + 2 := by omega
          rw [e1] at hy
          gi_wp2
          refine ⟨fun h => (by simp [Fence.wide] at h), hR.mono ?_⟩
          clear hy hR
          rintro e W4 ⟨⟨rfl, hJ4⟩ | ⟨rfl, hx⟩, hk4⟩
          · have s4 := hk4.size
            gi_wp2
            refine ⟨⟨j + 1, ?_, hJ4, by omega⟩, ?_⟩
            · rw [show (5 + 6 * (j : Int) + 6) = 5 + 6 * ((j + 1 : Nat) : Int) by omega]
            · simp only [intOf]; omega
          · gi_wp2
            go_end0
            exact ⟨⟨_, rfl⟩, .inr ⟨_, hx⟩⟩
        · gi_wp2
          refine ⟨fun _ h => (by cases h), ?_⟩
          gi_wp2
          go_end0
          exact ⟨⟨_, rfl⟩, .inr ⟨_, hx⟩⟩
    · gi_wp2
      refine bodyPost_ret (results_none rfl _ _ _) rfl ?_
      exact ⟨⟨_, rfl⟩, .inr ⟨_, hx⟩⟩
  · gi_wp2
    refine ⟨fun _ h => (by cases h), ?_⟩
    gi_wp2
    refine bodyPost_ret (results_none rfl _ _ _) rfl ?_
    exact ⟨⟨_, rfl⟩, .inr ⟨_, hx⟩⟩
end Go.Proofs.YtamhlkjfpdkhoaaGreatDoor
