/- WALK of HeapProducts. -/
import Derived.Test.YtodnfchkkgoabaaLb
import Derived.Deep.CutBlock
set_option linter.unusedVariables false
namespace Go.Proofs.Ytodnfchkkgoabaa
open Go.RowKit
open Nim

set_option maxRecDepth 100000 in
set_option maxHeartbeats 4000000 in
theorem HeapProducts_any (a0 b0 n0 : Int) (W : World) (wa : -9223372036854775808 ≤ a0 ∧ a0 ≤ 9223372036854775807) (wb : -9223372036854775808 ≤ b0 ∧ b0 ≤ 9223372036854775807) (wn : -9223372036854775808 ≤ n0 ∧ n0 ≤ 9223372036854775807) :
    Calls Try.prog 6 #[.int .i64 a0, .int .i64 b0, .int .i64 n0] W fun e w' => e = .returned (.bool true) ∧ Below W.heap.size W w' := by
  have AW := Lib.hid awake_any
  go_enter Try.func6, Try.ntmps6
  go_wp2_with fail
  go_loopw [0, 1, 2, 7] (fun x y z k wr => ∃ (a b n : Int) (j : Nat), x = .int .i64 a ∧ y = .int .i64 b ∧ z = .int .i64 n ∧ k = .int .i64 j ∧ j ≤ 2 ∧ (-9223372036854775808 ≤ a ∧ a ≤ 9223372036854775807) ∧ (-9223372036854775808 ≤ b ∧ b ≤ 9223372036854775807) ∧ (-9223372036854775808 ≤ n ∧ n ≤ 9223372036854775807) ∧ Hid (Below W.heap.size W wr)) (fun _ _ _ k _ => 2 - (intOf k).toNat)
  case atStart => exact ⟨a0, b0, n0, 0, rfl, rfl, rfl, rfl, by omega, wa, wb, wn, Lib.hid (Below.refl _ _)⟩
  case round =>
    obtain ⟨a, b, n, j, rfl, rfl, rfl, rfl, hj, ha, hb, hn, hd⟩ := hrel
    by_cases hlt : j < 2
    · by_cases h1 : 0 ≤ a ∧ a < 65536
      · have T := Lib.hid (fun X => TimesI a b X h1)
        have I := Lib.hid (fun X => InverseI a X h1)
        have R := Lib.hid (fun X => RootI a X h1)
        have P := Lib.hid (fun X => PowerI a n X h1 hn.2)
        have H1 := Lib.hid h1
        clear h1
        go_wp2_with fail
        refine (T.out wr).mono ?_
        rintro e w1 ⟨t, te, rfl, hb1, t1, t2⟩
        have B1 := Lib.hid (hd.out.trans (hb1.mono hd.out.size))
        have HT := Lib.hid (And.intro t1 t2)
        clear hb1 T hd t1 t2
        go_wp2_with fail
        refine (I.out w1).mono ?_
        rintro e w2 ⟨y, ye, rfl, hb1, t1, t2⟩
        have B2 := Lib.hid (B1.out.trans (hb1.mono B1.out.size))
        have HI := Lib.hid (And.intro t1 t2)
        clear hb1 I B1 t1 t2
        go_wp2_with fail
        refine (R.out w2).mono ?_
        rintro e w3 ⟨z, rfl, hb1, z1, z2, z3⟩
        have B3 := Lib.hid (B2.out.trans (hb1.mono B2.out.size))
        have HZ := Lib.hid z3
        have HZ2 := Lib.hid (And.intro z1 z2)
        clear hb1 R B2 z1 z2 z3
        go_wp2_with fail
        refine (P.out w3).mono ?_
        rintro e w4 ⟨pw, pe, rfl, hb1, t1, t2⟩
        have B4 := Lib.hid (B3.out.trans (hb1.mono B3.out.size))
        have HP := Lib.hid (And.intro t1 t2)
        clear hb1 P B3 t1 t2
        go_upto_region 8 with fail
        go_cut [16, 17] from 44 to 55 (fun x y wx => x = .bool true ∧ (∃ c, y = .bool c ∧ Hid (c = true ↔ 0 ≤ b ∧ b < 65536)) ∧ w4 = wx)
        case first =>
          have hp : 0 ≤ a := H1.out.1
          have hq : a < 65536 := H1.out.2
          by_cases h2a : 0 ≤ b
          · by_cases h2b : b < 65536
            · go_wp2_with fail
              go_meet
              case rel => exact ⟨rfl, ⟨_, rfl, Lib.hid (by simp; omega)⟩, rfl⟩
            · go_wp2_with fail
              go_meet
              case rel => exact ⟨rfl, ⟨_, rfl, Lib.hid (by simp; omega)⟩, rfl⟩
          · go_wp2_with fail
            go_meet
            case rel => exact ⟨rfl, ⟨_, rfl, Lib.hid (by simp; omega)⟩, rfl⟩
        case rest =>
          obtain ⟨rfl, ⟨c, rfl, HC⟩, rfl⟩ := hcut
          go_upto_if 61 with fail
          go_cut [] from 62 to 76 (fun wx => w4 = wx)
          case first =>
            by_cases h2 : 0 ≤ b ∧ b < 65536
            · obtain rfl := HC.out.2 h2
              clear HC
              obtain ⟨rfl, rt⟩ := HT.out.1 h2
              have HR := Lib.hid rt
              clear h2 rt HT HI HZ HP
              go_wp2_with fail
              refine (HR.out w4).mono ?_
              rintro e w5 ⟨rfl, rfl⟩
              go_wp2_with fail
              go_meet
              case rel => rfl
            · obtain rfl : c = false := by cases c with | false => rfl | true => exact absurd (HC.out.1 rfl) h2
              clear HC
              obtain ⟨rfl, rfl⟩ := HT.out.2 h2
              clear h2 HT HI HZ HP
              go_wp2_with fail
              go_meet
              case rel => rfl
          case rest =>
            obtain rfl := hcut
            clear HT HC
            go_upto_if 102 with fail
            go_cut [] from 102 to 124 (fun wx => w4 = wx)
            case first =>
              by_cases h0 : a = 0
              · obtain ⟨rfl, rfl⟩ := HI.out.1 h0
                subst h0
                clear HI HZ HP
                go_wp2_with fail
                go_meet
                case rel => rfl
              · obtain ⟨rfl, y1, y2, rt⟩ := HI.out.2 h0
                have HR := Lib.hid rt
                have q0 : (a == 0) = false := by simpa using h0
                have q1 : decide (y < 0) = false := decide_eq_false (by omega)
                have q2 : decide (65535 < y) = false := decide_eq_false (by omega)
                clear rt HI HZ HP
                go_wp2_with fail
                refine (HR.out w4).mono ?_
                rintro e w5 ⟨rfl, rfl⟩
                go_wp2_with fail
                go_meet
                case rel => rfl
            case rest =>
              obtain rfl := hcut
              clear HI
              have q1 : decide (z < 0) = false := decide_eq_false (by have := HZ2.out; omega)
              have q2 : decide (65535 < z) = false := decide_eq_false (by have := HZ2.out; omega)
              go_wp2_with fail
              refine (HZ.out w4).mono ?_
              rintro e w5 ⟨rfl, rfl⟩
              clear HZ HZ2 q1 q2
              by_cases h3 : n < 0
              · obtain ⟨rfl, rfl⟩ := HP.out.1 h3
                clear HP
                go_wp2_with fail
                go_roundw
                case rel => exact ⟨_, _, _, j + 1, rfl, rfl, rfl, by go_num, by omega, by (first | exact w64_fits _ | exact i64_fits _ | omega), by (first | exact w64_fits _ | exact i64_fits _ | omega), by (first | exact w64_fits _ | exact i64_fits _ | omega), B4⟩
                case measure => simp [intOf]; omega
              · obtain ⟨rfl, rp⟩ := HP.out.2 (by omega)
                have HR := Lib.hid rp
                clear HP rp
                go_wp2_with fail
                refine (HR.out w4).mono ?_
                rintro e w5 ⟨rfl, rfl⟩
                go_wp2_with fail
                go_roundw
                case rel => exact ⟨_, _, _, j + 1, rfl, rfl, rfl, by go_num, by omega, by (first | exact w64_fits _ | exact i64_fits _ | omega), by (first | exact w64_fits _ | exact i64_fits _ | omega), by (first | exact w64_fits _ | exact i64_fits _ | omega), B4⟩
                case measure => simp [intOf]; omega
      · have T := Lib.hid (fun X => Times_no a b X (by omega))
        have I := Lib.hid (fun X => Inverse_no a X h1)
        have R := Lib.hid (fun X => Root_no a X h1)
        have P := Lib.hid (fun X => Power_no a n X h1)
        have H1 := Lib.hid h1
        clear h1
        go_wp2_with fail
        refine (T.out wr).mono ?_
        rintro e w1 ⟨rfl, hb1⟩
        have B1 := Lib.hid (hd.out.trans (hb1.mono hd.out.size))
        clear hb1 T hd
        go_wp2_with fail
        refine (I.out w1).mono ?_
        rintro e w2 ⟨rfl, hb1⟩
        have B2 := Lib.hid (B1.out.trans (hb1.mono B1.out.size))
        clear hb1 I B1
        go_wp2_with fail
        refine (R.out w2).mono ?_
        rintro e w3 ⟨rfl, hb1⟩
        have B3 := Lib.hid (B2.out.trans (hb1.mono B2.out.size))
        clear hb1 R B2
        go_wp2_with fail
        refine (P.out w3).mono ?_
        rintro e w4 ⟨rfl, hb1⟩
        have B4 := Lib.hid (B3.out.trans (hb1.mono B3.out.size))
        clear hb1 P B3
        go_upto_region 8 with fail
        go_cut [16, 17] from 44 to 55 (fun x y wx => (∃ c, y = .bool c) ∧ x = .bool false ∧ w4 = wx)
        case first =>
          by_cases h1a : 0 ≤ a
          · have h1b : ¬ a < 65536 := fun h => H1.out ⟨h1a, h⟩
            by_cases h2a : 0 ≤ b
            · go_wp2_with fail
              go_meet
              case rel => exact ⟨⟨_, rfl⟩, rfl, rfl⟩
            · go_wp2_with fail
              go_meet
              case rel => exact ⟨⟨_, rfl⟩, rfl, rfl⟩
          · by_cases h2a : 0 ≤ b
            · go_wp2_with fail
              go_meet
              case rel => exact ⟨⟨_, rfl⟩, rfl, rfl⟩
            · go_wp2_with fail
              go_meet
              case rel => exact ⟨⟨_, rfl⟩, rfl, rfl⟩
        case rest =>
          obtain ⟨⟨c, rfl⟩, rfl, rfl⟩ := hcut
          go_wp2_with fail
          go_roundw
          case rel => exact ⟨_, _, _, j + 1, rfl, rfl, rfl, by go_num, by omega, by (first | exact w64_fits _ | exact i64_fits _ | omega), by (first | exact w64_fits _ | exact i64_fits _ | omega), by (first | exact w64_fits _ | exact i64_fits _ | omega), B4⟩
          case measure => simp [intOf]; omega
    · go_wp2_with fail
      refine (AW.out wr).mono ?_
      rintro e w1 ⟨rfl, hb1⟩
      have B1 := Lib.hid (hd.out.trans (hb1.mono hd.out.size))
      clear hb1
      go_wp2_with fail
      go_ret
      exact ⟨rfl, B1.out⟩
end Go.Proofs.Ytodnfchkkgoabaa
