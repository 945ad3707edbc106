/- WALK of HeapField. -/
import Derived.Test.YtodnfchkkgoabaaLfa
import Derived.Deep.CutBlock
set_option linter.unusedVariables false
namespace Go.Proofs.Ytodnfchkkgoabaa
open Go.RowKit
open Nim

set_option maxRecDepth 100000 in
set_option maxHeartbeats 4000000 in
theorem HeapField_any (a0 b0 n0 : Int) (W : World) (wa : -9223372036854775808 ≤ a0 ∧ a0 ≤ 9223372036854775807) (wb : -9223372036854775808 ≤ b0 ∧ b0 ≤ 9223372036854775807) (wn : -9223372036854775808 ≤ n0 ∧ n0 ≤ 9223372036854775807) :
    Calls Try.prog 11 #[.int .i64 a0, .int .i64 b0, .int .i64 n0] W fun e w' => e = .returned (.bool true) ∧ Below W.heap.size W w' := by
  have AW := Lib.hid awake_any
  go_enter Try.func11, Try.ntmps11
  go_upto_region 1 with fail
  go_cut [7, 8, 9] from 32 to 43 (fun x y z wx => (∃ p : Nat, x = .int .i64 p ∧ p < 65536) ∧ (∃ p : Nat, y = .int .i64 p ∧ p < 65536) ∧ (∃ p : Nat, z = .int .i64 p ∧ p < 65536) ∧ W = wx)
  case first =>
    go_wp2_with fail
    go_meet
    case rel => exact ⟨by first | exact as_nat1 _ | exact as_nat2 _ | exact as_nat3 _, by first | exact as_nat1 _ | exact as_nat2 _ | exact as_nat3 _, by first | exact as_nat1 _ | exact as_nat2 _ | exact as_nat3 _, rfl⟩
  case rest =>
    obtain ⟨⟨x, rfl, hx⟩, ⟨y, rfl, hy⟩, ⟨z, rfl, hz⟩, rfl⟩ := hcut
    clear wa wb wn
    have T1 := Lib.hid (fun X => Times_ok x y X hx hy)
    have T2 := Lib.hid (fun X => Times_ok y x X hy hx)
    rw [field4.comm y x hy hx] at T2
    have T4 := Lib.hid (fun X => Times_ok y z X hy hz)
    have lt := field4.lt x y hx hy
    have lu := field4.lt y z hy hz
    have T3 := Lib.hid (fun X => Times_ok (nm 4 x y) z X lt hz)
    have T5 := Lib.hid (fun X => Times_ok x (nm 4 y z) X hx lu)
    rw [← field4.assoc x y z hx hy hz] at T5
    have lyz : y ^^^ z < 2 ^ 16 := Nat.xor_lt_two_pow hy hz
    have T6 := Lib.hid (fun X => Times_ok x (y ^^^ z) X hx lyz)
    rw [field4.dist x y z hx hy hz] at T6
    have T7 := Lib.hid (fun X => Times_ok x z X hx hz)
    have lv := field4.lt x z hx hz
    have T8 := Lib.hid (fun X => Power_ok x 65536 X hx (by omega))
    rw [npw_all x hx] at T8
    have HN := Lib.hid (field4.none x y hx hy)
    have H0 : Hid (x = 0 ∨ y = 0 → nm 4 x y = 0) := Lib.hid (fun h => by
      rcases h with rfl | rfl
      · exact field4.zero' y hy
      · exact field4.zero x hx)
    generalize nm 4 (nm 4 x y) z = p at *
    generalize nm 4 x y = t at *
    generalize nm 4 y z = u at *
    generalize nm 4 x z = v at *
    have X1 := xor_nat y z (by omega) (by omega)
    have X2 := xor_nat t v (by omega) (by omega)
    generalize y ^^^ z = yz at *
    generalize t ^^^ v = s at *
    have HX2 := Lib.hid X2
    clear lt lu lyz lv X2
    go_wp2_with fail
    refine (T1.out W).mono ?_
    rintro e w1 ⟨rfl, hb1⟩
    have B1 := Lib.hid hb1
    clear hb1 T1
    go_wp2_with fail
    refine (T2.out w1).mono ?_
    rintro e w2 ⟨rfl, hb1⟩
    have B2 := Lib.hid (B1.out.trans (hb1.mono B1.out.size))
    clear hb1 T2 B1
    go_wp2_with fail
    refine (T3.out w2).mono ?_
    rintro e w3 ⟨rfl, hb1⟩
    have B3 := Lib.hid (B2.out.trans (hb1.mono B2.out.size))
    clear hb1 T3 B2
    go_wp2_with fail
    refine (T4.out w3).mono ?_
    rintro e w4 ⟨rfl, hb1⟩
    have B4 := Lib.hid (B3.out.trans (hb1.mono B3.out.size))
    clear hb1 T4 B3
    go_wp2_with fail
    refine (T5.out w4).mono ?_
    rintro e w5 ⟨rfl, hb1⟩
    have B5 := Lib.hid (B4.out.trans (hb1.mono B4.out.size))
    clear hb1 T5 B4
    go_wp2_with fail
    refine (T6.out w5).mono ?_
    rintro e w6 ⟨rfl, hb1⟩
    have B6 := Lib.hid (B5.out.trans (hb1.mono B5.out.size))
    clear hb1 T6 B5 X1
    go_wp2_with fail
    refine (T7.out w6).mono ?_
    rintro e w7 ⟨rfl, hb1⟩
    have B7 := Lib.hid (B6.out.trans (hb1.mono B6.out.size))
    clear hb1 T7 B6
    go_wp2_with fail
    refine (T8.out w7).mono ?_
    rintro e w8 ⟨rfl, hb1⟩
    have B8 := Lib.hid (B7.out.trans (hb1.mono B7.out.size))
    clear hb1 T8 B7
    go_upto_region 10 with fail
    go_cut [155] from 93 to 154 (fun r wx => r = .bool false ∧ w8 = wx)
    case first =>
      have X2 := HX2.out
      by_cases hx0 : x = 0
      · have ht0 := H0.out (.inl hx0)
        have qx : ((x : Int) == 0) = true := by simp [hx0]
        have qt : ((t : Int) == 0) = true := by simp [ht0]
        clear HX2 HN H0 hx0 ht0
        go_wp2_with fail
        go_meet
        case rel => exact ⟨rfl, rfl⟩
      · by_cases hy0 : y = 0
        · have ht0 := H0.out (.inr hy0)
          have qx : ((x : Int) == 0) = false := by simp [hx0]
          have qy : ((y : Int) == 0) = true := by simp [hy0]
          have qt : ((t : Int) == 0) = true := by simp [ht0]
          clear HX2 HN H0 hy0 ht0
          go_wp2_with fail
          go_meet
          case rel => exact ⟨rfl, rfl⟩
        · have ht0 : ¬ t = 0 := fun h => by have := HN.out h; omega
          have qx : ((x : Int) == 0) = false := by simp [hx0]
          have qy : ((y : Int) == 0) = false := by simp [hy0]
          have qt : ((t : Int) == 0) = false := by simp [ht0]
          clear HX2 HN H0
          go_wp2_with fail
          go_meet
          case rel => exact ⟨rfl, rfl⟩
    case rest =>
      obtain ⟨rfl, rfl⟩ := hcut
      clear HX2 HN H0
      go_wp2_with fail
      go_loopw [26] (fun k wr => ∃ n : Nat, k = .int .i64 n ∧ (n = 1 ∨ n = 2 ∨ n = 4 ∨ n = 8 ∨ n = 16) ∧ Hid (Below W.heap.size W wr)) (fun k _ => 16 - (intOf k).toNat)
      case atStart => exact ⟨1, rfl, by omega, B8⟩
      case round =>
        clear B8
        obtain ⟨n, rfl, hn, hd⟩ := hrel
        rcases hn with rfl | rfl | rfl | rfl | rfl
        · have T := Lib.hid (fun X => small_T 2 x pow_2 (by omega) (by omega) X)
          have Q := Lib.hid (fun X => Times_ok 2 2 X (by omega) (by omega))
          rw [sq_2] at Q
          go_wp2_with fail
          refine (T.out wr).mono ?_
          rintro e w1 ⟨rfl, hb1⟩
          have B1 := Lib.hid (hd.out.trans (hb1.mono hd.out.size))
          clear hb1 T hd
          go_wp2_with fail
          refine (Q.out w1).mono ?_
          rintro e w2 ⟨rfl, hb1⟩
          have B2 := Lib.hid (B1.out.trans (hb1.mono B1.out.size))
          clear hb1 Q B1
          go_wp2_with fail
          go_roundw
          case rel => exact ⟨2, rfl, by omega, B2⟩
          case measure => simp [intOf]
        · have T := Lib.hid (fun X => small_T 4 x pow_4 (by omega) (by omega) X)
          have Q := Lib.hid (fun X => Times_ok 4 4 X (by omega) (by omega))
          rw [sq_4] at Q
          go_wp2_with fail
          refine (T.out wr).mono ?_
          rintro e w1 ⟨rfl, hb1⟩
          have B1 := Lib.hid (hd.out.trans (hb1.mono hd.out.size))
          clear hb1 T hd
          go_wp2_with fail
          refine (Q.out w1).mono ?_
          rintro e w2 ⟨rfl, hb1⟩
          have B2 := Lib.hid (B1.out.trans (hb1.mono B1.out.size))
          clear hb1 Q B1
          go_wp2_with fail
          go_roundw
          case rel => exact ⟨4, rfl, by omega, B2⟩
          case measure => simp [intOf]
        · have T := Lib.hid (fun X => small_T 16 x pow_16 (by omega) (by omega) X)
          have Q := Lib.hid (fun X => Times_ok 16 16 X (by omega) (by omega))
          rw [sq_16] at Q
          go_wp2_with fail
          refine (T.out wr).mono ?_
          rintro e w1 ⟨rfl, hb1⟩
          have B1 := Lib.hid (hd.out.trans (hb1.mono hd.out.size))
          clear hb1 T hd
          go_wp2_with fail
          refine (Q.out w1).mono ?_
          rintro e w2 ⟨rfl, hb1⟩
          have B2 := Lib.hid (B1.out.trans (hb1.mono B1.out.size))
          clear hb1 Q B1
          go_wp2_with fail
          go_roundw
          case rel => exact ⟨8, rfl, by omega, B2⟩
          case measure => simp [intOf]
        · have T := Lib.hid (fun X => small_T 256 x pow_256 (by omega) (by omega) X)
          have Q := Lib.hid (fun X => Times_ok 256 256 X (by omega) (by omega))
          rw [sq_256] at Q
          go_wp2_with fail
          refine (T.out wr).mono ?_
          rintro e w1 ⟨rfl, hb1⟩
          have B1 := Lib.hid (hd.out.trans (hb1.mono hd.out.size))
          clear hb1 T hd
          go_wp2_with fail
          refine (Q.out w1).mono ?_
          rintro e w2 ⟨rfl, hb1⟩
          have B2 := Lib.hid (B1.out.trans (hb1.mono B1.out.size))
          clear hb1 Q B1
          go_wp2_with fail
          go_roundw
          case rel => exact ⟨16, rfl, by omega, B2⟩
          case measure => simp [intOf]
        · go_wp2_with fail
          refine (AW.out wr).mono ?_
          rintro e w1 ⟨rfl, hb1⟩
          have B1 := Lib.hid (hd.out.trans (hb1.mono hd.out.size))
          clear hb1
          go_wp2_with fail
          go_ret
          exact ⟨rfl, B1.out⟩
end Go.Proofs.Ytodnfchkkgoabaa
