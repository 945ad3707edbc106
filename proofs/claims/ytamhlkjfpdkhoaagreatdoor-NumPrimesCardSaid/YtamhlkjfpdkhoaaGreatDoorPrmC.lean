/- WALK of NumPrimes: the law itself. -/
import Derived.Test.YtamhlkjfpdkhoaaGreatDoorPrmB
import Derived.Test.YtamhlkjfpdkhoaaGreatDoorPrmE
namespace Go.Proofs.YtamhlkjfpdkhoaaGreatDoor
open Go.RowKit

theorem w64_bd (n : Int) : -9223372036854775808 ≤ wrap64 n ∧ wrap64 n ≤ 9223372036854775807 := by
  unfold wrap64; omega

theorem prs_slice {w : World} {v : Value} {L : List (Nat × Nat)} (h : Prs w v L) : ∃ p c, v = .slice p L.length c := by
  obtain ⟨p, c, h, _⟩ := h; exact ⟨p, c, h⟩

theorem lies_slice {w : World} {v : Value} {l : List Nat} (h : Lies w v l) : ∃ p c, v = .slice p l.length c := by
  obtain ⟨p, c, h, _⟩ := h; exact ⟨p, c, h⟩

set_option maxRecDepth 1000000 in
set_option maxHeartbeats 4000000 in
theorem primes_any (a n : Int) (w : World) (hn : -9223372036854775808 ≤ n ∧ n ≤ 9223372036854775807) :
    Calls Tryz.prog 10 #[.int .i64 a, .int .i64 n] w fun e w' => e = .returned (.bool true) ∧ Below w.heap.size w w' := by
  go_enter Tryz.func10, Tryz.ntmps10
  go_wp2_with fail
  go_loopw [1, 5] (fun nn kk wr => ∃ (k : Nat) (x : Int), k ≤ 2 ∧ kk = .int .i64 k ∧ nn = .int .i64 x ∧ (-9223372036854775808 ≤ x ∧ x ≤ 9223372036854775807) ∧ Hid (Below w.heap.size w wr)) (fun _ kk _ => 2 - (intOf kk).toNat)
  case atStart => exact ⟨0, n, by omega, rfl, rfl, hn, Lib.hid (Below.refl _ _)⟩
  case round =>
    clear hn
    obtain ⟨k, x, hk, rfl, rfl, hx, hB⟩ := hrel
    by_cases hlt : k < 2
    · by_cases hg : 1 ≤ x ∧ x ≤ 1000000000000
      · obtain ⟨m, rfl⟩ : ∃ m : Nat, x = m := ⟨x.toNat, by omega⟩
        obtain ⟨L, l, len1, len2, f1, f2, f3, f4⟩ := prm_says m (by omega) (by omega)
        have F1 := Lib.hid f1
        have F2 := Lib.hid f2
        have F3 := Lib.hid f3
        have F4 := Lib.hid f4
        obtain ⟨s, e, hs⟩ : ∃ s e : Int, (∀ W, Calls Tryz.prog 75 #[.int .i64 a, .int .i64 m] W fun r w' => r = .returned (.tuple #[.int .i64 s, .int .i64 e]) ∧ Drew W w') ∧
            ((m % 2 = 0 ∧ s = 0 ∧ e = 1) ∨ (m % 2 = 1 ∧ e = 0 ∧ ∀ W, Calls Tryz.prog 78 #[.int .i64 a, .int .i64 m] W fun r w' => r = .returned (.int .i64 s) ∧ Below W.heap.size W w')) := by
          rcases Nat.mod_two_eq_zero_or_one m with h | h
          · exact ⟨0, 1, fun W => Symbol_arg a m W (.inr (by omega)), .inl ⟨h, rfl, rfl⟩⟩
          · obtain ⟨r, hr⟩ : ∃ r : Nat, a % m = (r : Int) := ⟨(a % m).toNat, by have := Int.emod_nonneg a (show (m : Int) ≠ 0 by omega); omega⟩
            exact ⟨J r m, 0, fun W => Symbol_any a r m W (by omega) (by omega) h hr, .inr ⟨h, rfl, fun W => RSymbol_any a r m W (by omega) (by omega) h hr⟩⟩
        have S1 := Lib.hid hs.1
        have HS := Lib.hid hs.2
        clear hs f1 f2 f3 f4
        have g1 := hg.1
        have g2 := hg.2
        clear hg hx
        go_upto_if 68 with (first
          | (go_at_call 75; refine (S1.out _).mono ?_; rintro _ w1 ⟨rfl, hd⟩; have B1 := Lib.hid (hB.out.trans (hd.below _)); clear hd)
          | (go_at_call 76; refine (F1.out _).mono ?_; rintro _ w2 ⟨v2, rfl, hp, hb⟩; have B2 := Lib.hid (B1.out.trans (hb.mono B1.out.size)); have P2 := Lib.hid hp; obtain ⟨vp, vc, rfl⟩ := prs_slice hp; clear hp hb)
          | (go_at_call 77; refine (F3.out _).mono ?_; rintro _ w3 ⟨v3, rfl, hp, hb⟩; have B3 := Lib.hid (B2.out.trans (hb.mono B2.out.size)); have P3 := Lib.hid (P2.out.below hb); have D3 := Lib.hid hp; obtain ⟨dp, dc, rfl⟩ := lies_slice hp; clear hp hb))
        clear S1 F1 F3 hB B1 B2 P2
        go_cut [12] (fun _ wx => Hid (Prs wx (.slice vp L.length vc) L) ∧ Hid (Lies wx (.slice dp l.length dc) l) ∧ Hid (Below w.heap.size w wx))
        case first => as_aux_lemma =>
          rcases HS.out with ⟨h0, rfl, rfl⟩ | ⟨h0, rfl, hr⟩
          · have t2 : ((m : Int) % 2 == 0) = true := by
              have : (m : Int) % 2 = 0 := by omega
              simp [this]
            clear h0 HS
            go_wp2_with fail
            go_meet
            case rel => exact ⟨P3, D3, B3⟩
          · have t2 : ((m : Int) % 2 == 0) = false := by
              have : ¬ (m : Int) % 2 = 0 := by omega
              simpa using this
            have RS := Lib.hid hr
            clear h0 HS hr
            go_wp2_with (go_at_call 78; refine (RS.out _).mono ?_; rintro _ w4 ⟨rfl, hb⟩; have B4 := Lib.hid (B3.out.trans (hb.mono B3.out.size)); have P4 := Lib.hid (P3.out.below hb); have D4 := Lib.hid (D3.out.below hb); clear hb)
            go_meet
            case rel => exact ⟨P4, D4, B4⟩
        case rest => as_aux_lemma =>
          clear P3 D3 B3 HS
          obtain ⟨P4, D4, B4⟩ := hcut
          go_upto_region 18 with (go_at_call 79; refine (F2.out _).mono ?_; rintro _ w5 ⟨v5, rfl, hp, hb⟩; have B5 := Lib.hid (B4.out.trans (hb.mono B4.out.size)); have P5 := Lib.hid (P4.out.below hb); have D5 := Lib.hid (D4.out.below hb); have Q5 := Lib.hid hp; obtain ⟨wp, wc, rfl⟩ := prs_slice hp; clear hp hb)
          clear P4 D4 B4 F2
          go_wp2_with fail
          go_loopw [13] (fun ii wr => ∃ i : Nat, i ≤ L.length ∧ ii = .int .i64 i ∧ Hid (Drew w5 wr)) (fun ii _ => L.length - (intOf ii).toNat)
          case atStart => exact ⟨0, by omega, rfl, Lib.hid (Drew.refl _)⟩
          case round =>
            obtain ⟨i, hi, rfl, hd⟩ := hrel
            obtain ⟨nd, hnd⟩ := hd.out
            by_cases hil : i < L.length
            · obtain ⟨⟨q, e'⟩, hqe⟩ : ∃ x, L[i]? = some x := ⟨_, List.getElem?_eq_getElem hil⟩
              obtain ⟨_, _, ev, hc⟩ := P5.out
              simp only [Value.slice.injEq] at ev
              obtain ⟨rfl, _, rfl⟩ := ev
              obtain ⟨g, rfl, c0, c1⟩ := hc i q e' hqe
              obtain ⟨_, _, ev, hc'⟩ := Q5.out
              simp only [Value.slice.injEq] at ev
              obtain ⟨rfl, _, rfl⟩ := ev
              obtain ⟨g', rfl, d0, d1⟩ := hc' i q e' hqe
              have c0' : wr.cell? ⟨g, i * 2, none⟩ = some (.int .i64 q) := by rw [Nat.mul_comm, hnd]; exact c0
              have c1' : wr.cell? ⟨g, i * 2 + 1, none⟩ = some (.int .i64 e') := by rw [Nat.mul_comm, hnd]; exact c1
              have d0' : wr.cell? ⟨g', i * 2, none⟩ = some (.int .i64 q) := by rw [Nat.mul_comm, hnd]; exact d0
              have d1' : wr.cell? ⟨g', i * 2 + 1, none⟩ = some (.int .i64 e') := by rw [Nat.mul_comm, hnd]; exact d1
              clear c0 c1 d0 d1 hc hc' hqe hnd
              have EQ := fun W => eq_pair (q : Int) (e' : Int) W
              have hd' : Hid (Drew w5 wr.drew) := Lib.hid (hd.out.trans ⟨1, rfl⟩)
              go_wp2_with fail
              go_region
              go_wp2_with fail
              go_roundw
              case rel => exact ⟨i + 1, by omega, by go_num, hd'⟩
              case measure => simp [intOf]; omega
            · clear hnd
              have B6 : Hid (Below w.heap.size w wr) := Lib.hid (B5.out.trans (hd.out.below _))
              have D6 : Hid (Lies wr (.slice dp l.length dc) l) := Lib.hid (D5.out.below (hd.out.below _))
              clear B5 D5 P5 Q5
              go_upto_region 26 with (go_at_call 80; refine (F4.out _).mono ?_; rintro _ w7 ⟨v7, rfl, hp, hb⟩; have B7 := Lib.hid (B6.out.trans (hb.mono B6.out.size)); have D7 := Lib.hid (D6.out.below hb); have Q7 := Lib.hid hp; obtain ⟨ep, ec, rfl⟩ := lies_slice hp; clear hp hb)
              clear B6 D6 F4
              go_wp2_with fail
              go_loopw [15] (fun ii wr2 => ∃ i : Nat, i ≤ l.length ∧ ii = .int .i64 i ∧ Hid (Drew w7 wr2)) (fun ii _ => l.length - (intOf ii).toNat)
              case atStart => exact ⟨0, by omega, rfl, Lib.hid (Drew.refl _)⟩
              case round =>
                clear hd
                obtain ⟨i, hi, rfl, hd⟩ := hrel
                obtain ⟨nd, hnd⟩ := hd.out
                by_cases hil : i < l.length
                · obtain ⟨d, hde⟩ : ∃ x, l[i]? = some x := ⟨_, List.getElem?_eq_getElem hil⟩
                  obtain ⟨_, _, ev, hc⟩ := D7.out
                  simp only [Value.slice.injEq] at ev
                  obtain ⟨rfl, _, rfl⟩ := ev
                  obtain ⟨g, rfl, c0⟩ := hc i d hde
                  obtain ⟨_, _, ev, hc'⟩ := Q7.out
                  simp only [Value.slice.injEq] at ev
                  obtain ⟨rfl, _, rfl⟩ := ev
                  obtain ⟨g', rfl, d0⟩ := hc' i d hde
                  have c0' : wr.cell? ⟨g, i, none⟩ = some (.int .i64 d) := by rw [hnd]; exact c0
                  have d0' : wr.cell? ⟨g', i, none⟩ = some (.int .i64 d) := by rw [hnd]; exact d0
                  clear c0 d0 hc hc' hde hnd
                  have hd' : Hid (Drew w7 wr.drew) := Lib.hid (hd.out.trans ⟨1, rfl⟩)
                  go_wp2_with fail
                  go_region
                  go_wp2_with fail
                  go_roundw
                  case rel => exact ⟨i + 1, by omega, by go_num, hd'⟩
                  case measure => simp [intOf]; omega
                · clear hnd
                  have B8 : Hid (Below w.heap.size w wr) := Lib.hid (B7.out.trans (hd.out.below _))
                  clear B7 D7 Q7
                  go_wp2_with fail
                  go_roundw
                  case rel => exact ⟨k + 1, _, by omega, by go_num, rfl, (by first | exact w64_bd _ | omega), B8⟩
                  case measure => simp [intOf]; omega
      · have SA := Lib.hid (fun W => Symbol_arg a x W (.inl hg))
        have FA := Lib.hid (fun W => Factors_arg x W hg)
        have DA := Lib.hid (fun W => Divisors_arg x W hg)
        rcases (show x < 1 ∨ (1 ≤ x ∧ 1000000000000 < x) by omega) with h0 | ⟨h0, h1⟩
        all_goals
          clear hg
          go_wp2_with (first
            | (go_at_call 75; refine (SA.out _).mono ?_; rintro _ w1 ⟨rfl, hd⟩; have B1 := Lib.hid (hB.out.trans (hd.below _)); clear hd)
            | (go_at_call 76; refine (FA.out _).mono ?_; rintro _ w2 ⟨rfl, hb⟩; have B2 := Lib.hid (B1.out.trans (hb.mono B1.out.size)); clear hb)
            | (go_at_call 77; refine (DA.out _).mono ?_; rintro _ w3 ⟨rfl, hb⟩; have B3 := Lib.hid (B2.out.trans (hb.mono B2.out.size)); clear hb))
          go_roundw
          case rel => exact ⟨k + 1, _, by omega, by go_num, rfl, (by first | exact w64_bd _ | omega), B3⟩
          case measure => simp [intOf]; omega
    · have AW := Lib.hid (awake_any wr)
      go_wp2_with fail
      refine AW.out.mono ?_
      rintro e w1 ⟨rfl, hb⟩
      have HB := Lib.hid (hB.out.trans (hb.mono hB.out.size))
      clear hb
      go_wp2_with fail
      go_ret
      exact ⟨rfl, HB.out⟩
end Go.Proofs.YtamhlkjfpdkhoaaGreatDoor
