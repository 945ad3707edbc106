/- WALK of NumRests. -/
import Derived.Test.YtamhlkjfpdkhoaaGreatDoorRestsA
import Derived.Test.YtamhlkjfpdkhoaaGreatDoorAwake
import Derived.Deep.DeepCutAuto
import Derived.Outline
namespace Go.Proofs.YtamhlkjfpdkhoaaGreatDoor
open Go.RowKit

/-- The three numbers lie in the block, and nothing that was there before has changed. -/
def Three (w : World) (x0 x1 x2 : Int) (W : World) : Prop := W.heap[w.heap.size]? = some (.cells #[.int .i64 x0, .int .i64 x1, .int .i64 x2] 92 (0, 0)) ∧ Below w.heap.size w W

theorem Three.drew {w W W' : World} {x0 x1 x2 : Int} (h : Three w x0 x1 x2 W) (hd : Drew W W') : Three w x0 x1 x2 W' :=
  ⟨Below.row (hd.below W.heap.size) (lt_of_row h.1) h.1, h.2.trans (hd.below _)⟩

theorem Three.step {w W W' : World} {x0 x1 x2 : Int} (h : Three w x0 x1 x2 W) (hd : Below W.heap.size W W') : Three w x0 x1 x2 W' :=
  ⟨Below.row hd (lt_of_row h.1) h.1, h.2.trans (hd.mono h.2.size)⟩

theorem wrap64_bd (n : Int) : -9223372036854775808 ≤ wrap64 n ∧ wrap64 n ≤ 9223372036854775807 := by
  unfold wrap64; omega

set_option maxRecDepth 1000000 in
set_option maxHeartbeats 4000000 in
theorem rests_any (a b m0 m1 m2 : Int) (w : World) (h0 : -9223372036854775808 ≤ m0 ∧ m0 ≤ 9223372036854775807) (h1 : -9223372036854775808 ≤ m1 ∧ m1 ≤ 9223372036854775807) (h2 : -9223372036854775808 ≤ m2 ∧ m2 ≤ 9223372036854775807) :
    Calls Tryz.prog 9 #[.int .i64 a, .int .i64 b, .agg #[.int .i64 m0, .int .i64 m1, .int .i64 m2]] w fun e w' => e = .returned (.bool true) ∧ Below w.heap.size w w' := by
  have L0 := Lib.hid (show Three w m0 m1 m2 (w.alloc (.cells #[.int .i64 m0, .int .i64 m1, .int .i64 m2] 92)) from ⟨heap_alloc_new _ _, (Below.refl _ _).alloc (Nat.le_refl _) _⟩)
  go_enter Tryz.func9, Tryz.ntmps9
  go_wp2_with fail
  generalize (w.alloc (.cells #[.int .i64 m0, .int .i64 m1, .int .i64 m2] 92)) = w0 at *
  go_loopw [7] (fun kk wr => ∃ k : Nat, k ≤ 2 ∧ kk = .int .i64 k ∧ ∃ x0 x1 x2 : Int, ((-9223372036854775808 ≤ x0 ∧ x0 ≤ 9223372036854775807) ∧ (-9223372036854775808 ≤ x1 ∧ x1 ≤ 9223372036854775807) ∧ (-9223372036854775808 ≤ x2 ∧ x2 ≤ 9223372036854775807)) ∧ Hid (Three w x0 x1 x2 wr)) (fun kk _ => 2 - (intOf kk).toNat)
  case atStart => exact ⟨0, by omega, rfl, m0, m1, m2, ⟨h0, h1, h2⟩, L0⟩
  case round =>
    clear h0 h1 h2 L0
    obtain ⟨k, hk, rfl, x0, x1, x2, ⟨b0, b1, b2⟩, L⟩ := hrel
    obtain ⟨c0, c1, c2, f0, f1, f2⟩ := cells3 L.out.1
    by_cases hlt : k < 2
    · obtain ⟨p, e, q, f, x, y, g, hg, hs, CP, CI, CM⟩ := round_says a b x0 x1 x2 b2.2
      have HS := Lib.hid hs
      replace CP := Lib.hid CP
      replace CI := Lib.hid CI
      replace CM := Lib.hid CM
      clear hs
      go_upto_region 7 with (first
        | (go_at_call 69; refine (CP.out _).mono ?_; rintro _ w1 ⟨rfl, hd⟩; have L1 := Lib.hid (L.out.drew hd); clear hd c0 c1 c2 f0 f1 f2; obtain ⟨c0, c1, c2, f0, f1, f2⟩ := cells3 L1.out.1)
        | (go_at_call 70; refine (CI.out _).mono ?_; rintro _ w2 ⟨rfl, hd⟩; have L2 := Lib.hid (L1.out.drew hd); clear hd c0 c1 c2 f0 f1 f2; obtain ⟨c0, c1, c2, f0, f1, f2⟩ := cells3 L2.out.1)
        | (go_at_call 71; refine (CM.out _).mono ?_; rintro _ w3 ⟨rfl, hd⟩; have L3 := Lib.hid (L2.out.drew hd); clear hd c0 c1 c2 f0 f1 f2; obtain ⟨c0, c1, c2, f0, f1, f2⟩ := cells3 L3.out.1))
      clear CP CI CM L L1 L2
      go_cut [59] (fun s wx => s = .bool (!isMod x0) ∧ Hid (Three w x0 x1 x2 wx))
      case first => as_aux_lemma =>
        by_cases h0 : 1 ≤ x0 ∧ x0 ≤ 1000000000000
        · have hm := isMod_yes h0.1 h0.2
          obtain ⟨h0, h0'⟩ := h0
          have e1 : decide (x0 < 1) = false := by simp; omega
          have e2 : decide (1000000000000 < x0) = false := by simp; omega
          have E12 := Lib.hid (show (decide (x0 < 1) || decide (1000000000000 < x0)) = false by rw [e1, e2]; rfl)
          clear e1 e2
          go_wp2_with fail
          go_meet
          case rel => exact ⟨by rw [hm]; first | rw [E12.out]; rfl | rfl, L3⟩
        · have hm := isMod_no h0
          rcases (show x0 < 1 ∨ (1 ≤ x0 ∧ 1000000000000 < x0) by omega) with h0' | ⟨h0', h0''⟩
          · clear h0
            go_wp2_with fail
            go_meet
            case rel => exact ⟨by rw [hm]; rfl, L3⟩
          · clear h0
            go_wp2_with fail
            go_meet
            case rel => exact ⟨by rw [hm]; rfl, L3⟩
      case rest => as_aux_lemma =>
        clear c0 c1 c2 f0 f1 f2 L3
        obtain ⟨rfl, L4⟩ := hcut
        obtain ⟨c0, c1, c2, f0, f1, f2⟩ := cells3 L4.out.1
        go_upto_if 59 with fail
        go_cut [15] (fun _ wx => Hid (Three w x0 x1 x2 wx))
        case first => as_aux_lemma =>
          rcases HS.out with ⟨h0, rfl, rfl, rfl, rfl, rfl, rfl, rfl⟩ | ⟨h01, h02, hP, hI, hM⟩
          · have hm : isMod x0 = false := isMod_no (by omega)
            rw [hm]
            go_wp2_with fail
            go_meet
            case rel => exact L4
          · have hm : isMod x0 = true := isMod_yes h01 h02
            rw [hm]
            have HP := Lib.hid hP
            have HI := Lib.hid hI
            have HM := Lib.hid hM
            clear hP hI hM HS
            go_upto_if 88 with fail
            go_cut [15] (fun _ wx => Hid (Three w x0 x1 x2 wx))
            case first => as_aux_lemma =>
              rcases HP.out with ⟨h2, rfl, rfl⟩ | ⟨h2, rfl, hp⟩
              · go_wp2_with fail
                go_meet
                case rel => exact L4
              · have CP := Lib.hid hp
                clear hp
                go_wp2_with (go_at_call 72; refine (CP.out _).mono ?_; rintro _ w5 ⟨rfl, rfl⟩)
                go_meet
                case rel => exact L4
            case rest => as_aux_lemma =>
              clear L4 HP c0 c1 c2 f0 f1 f2
              have L5 := hcut
              obtain ⟨c0, c1, c2, f0, f1, f2⟩ := cells3 L5.out.1
              clear hcut
              obtain ⟨q', ok, hri, hq⟩ : ∃ (q' : Int) (ok : Bool), (∀ W, Calls Tryz.prog 73 #[.int .i64 a, .int .i64 x0] W fun e w' => e = .returned (.tuple #[.int .i64 q', .bool ok]) ∧ Below W.heap.size W w') ∧ ((ok = false ∧ q = 0 ∧ f = 4) ∨ (ok = true ∧ f = 0 ∧ q' = q)) := by
                rcases HI.out with ⟨h1, h2, h3⟩ | ⟨h1, h3⟩
                · exact ⟨_, _, h3, .inl ⟨rfl, h1, h2⟩⟩
                · exact ⟨_, _, h3, .inr ⟨rfl, h1, rfl⟩⟩
              have RI := Lib.hid hri
              have HQ := Lib.hid hq
              clear hri hq HI
              go_upto_if 115 with (go_at_call 73; refine (RI.out _).mono ?_; rintro _ w6 ⟨rfl, hb⟩; have L6 := Lib.hid (L5.out.step hb); clear hb c0 c1 c2 f0 f1 f2; obtain ⟨c0, c1, c2, f0, f1, f2⟩ := cells3 L6.out.1)
              go_cut [15] (fun _ wx => Hid (Three w x0 x1 x2 wx))
              case first => as_aux_lemma =>
                rcases HQ.out with ⟨rfl, rfl, rfl⟩ | ⟨rfl, rfl, rfl⟩
                · go_wp2_with fail
                  go_meet
                  case rel => exact L6
                · go_wp2_with fail
                  go_meet
                  case rel => exact L6
              case rest => as_aux_lemma =>
                clear L5 L6 HQ RI c0 c1 c2 f0 f1 f2
                have L7 := hcut
                obtain ⟨c0, c1, c2, f0, f1, f2⟩ := cells3 L7.out.1
                clear hcut
                rcases HM.out with ⟨h1 | ⟨h1, h1'⟩, rfl, rfl, rfl⟩ | ⟨h1, h1', hr⟩
                · go_wp2_with fail
                  go_meet
                  case rel => exact L7
                · go_wp2_with fail
                  go_meet
                  case rel => exact L7
                · have RM := Lib.hid hr
                  clear hr
                  go_wp2_with (go_at_call 74; refine (RM.out _).mono ?_; rintro _ w8 ⟨rfl, hb⟩; have L8 := Lib.hid (L7.out.step hb); clear hb c0 c1 c2 f0 f1 f2)
                  go_meet
                  case rel => exact L8
        case rest => as_aux_lemma =>
          have L5 := hcut
          obtain ⟨c0, c1, c2, f0, f1, f2⟩ := cells3 L5.out.1
          clear hcut HS L4
          go_wp2_with fail
          refine wp_loop_rounds 3 ?_
          rw [rounds_succ]
          go_wp2_with fail
          rw [rounds_succ]
          go_wp2_with fail
          rw [rounds_succ]
          go_wp2_with fail
          go_roundw
          case rel => exact ⟨k + 1, by omega, by go_num, _, _, _, ⟨wrap64_bd _, wrap64_bd _, wrap64_bd _⟩, Lib.hid ⟨set3 L5.out.1 _ _ _, Below.set3 L5.out.2 (Nat.le_refl _) _ _ _⟩⟩
          case measure => simp [intOf]; omega
    · have AW := Lib.hid (awake_any wr)
      go_wp2_with fail
      refine AW.out.mono ?_
      rintro e w1 ⟨rfl, hb⟩
      have HB := Lib.hid (L.out.2.trans (hb.mono L.out.2.size))
      clear hb
      go_wp2_with fail
      go_ret
      exact ⟨rfl, HB.out⟩
end Go.Proofs.YtamhlkjfpdkhoaaGreatDoor
