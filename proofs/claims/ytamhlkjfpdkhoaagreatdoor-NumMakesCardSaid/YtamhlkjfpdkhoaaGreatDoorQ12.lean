/- WALKS of the divisions by words: math/bits Div64, Rem64. -/
import Derived.Test.YtamhlkjfpdkhoaaGreatDoorQ3
import Derived.Test.YtamhlkjfpdkhoaaGreatDoorQ10
import Derived.Test.YtamhlkjfpdkhoaaGreatDoorQ11
import Derived.Laws.BitsAllLaws
import Derived.Laws.Bits64b
namespace Go.Proofs.YtamhlkjfpdkhoaaGreatDoor
open Go.RowKit

theorem ret_two {k k' : IntKind} {a b c d : Int} (h1 : a = c) (h2 : b = d) : Ending.returned (.tuple #[.int k a, .int k' b]) = Ending.returned (.tuple #[.int k c, .int k' d]) := by rw [h1, h2]

theorem wrapu (n : Nat) : IntKind.u64.wrap (n : Int) = ((n % 18446744073709551616 : Nat) : Int) := by
  rw [IntKind.wrap_u64]; simp

theorem and_low (a : Nat) (ha : a < 18446744073709551616) : bits .and .u64 (a : Int) 4294967295 = ((a % 4294967296 : Nat) : Int) := by
  have := u64_and_nat a 4294967295 ha (by omega)
  have e : a &&& 4294967295 = a % 4294967296 := Nat.and_two_pow_sub_one_eq_mod a 32
  rw [e] at this; exact this

theorem norm_shl {y s : Nat} (h : y * 2 ^ s < 18446744073709551616) : IntKind.u64.wrap ((y : Int) * 2 ^ s) = ((y * 2 ^ s : Nat) : Int) := by
  have e : ((y : Int) * 2 ^ s) = ((y * 2 ^ s : Nat) : Int) := by simp
  rw [e, wrapu, Nat.mod_eq_of_lt h]

theorem norm_or {hi lo y s : Nat} (h : hi < y) (hl : lo < 18446744073709551616) (hs : s ≤ 63) (hy : y * 2 ^ s < 18446744073709551616) :
    IntKind.u64.wrap ((hi : Int) * 2 ^ s) = ((hi * 2 ^ s : Nat) : Int) ∧ ((lo : Int) / 2 ^ (64 - s)) = ((lo / 2 ^ (64 - s) : Nat) : Int) ∧
    bits .or .u64 ((hi * 2 ^ s : Nat) : Int) ((lo / 2 ^ (64 - s) : Nat) : Int) = ((hi * 2 ^ s + lo / 2 ^ (64 - s) : Nat) : Int) := by
  have h2 : 0 < 2 ^ s := Nat.pow_pos (by omega)
  have h1 : hi * 2 ^ s < y * 2 ^ s := Nat.mul_lt_mul_of_pos_right h h2
  have h64 : (18446744073709551616 : Nat) = 2 ^ s * 2 ^ (64 - s) := p64.trans (by rw [← Nat.pow_add, show s + (64 - s) = 64 by omega])
  have h3 : lo / 2 ^ (64 - s) < 2 ^ s := by
    rw [Nat.div_lt_iff_lt_mul (Nat.pow_pos (by omega)), ← h64]; exact hl
  have h4 : 2 ^ s ≤ 18446744073709551616 := by rw [h64]; exact Nat.le_mul_of_pos_right _ (Nat.pow_pos (by omega))
  have e : ((lo : Int) / 2 ^ (64 - s)) = ((lo / 2 ^ (64 - s) : Nat) : Int) := by simp
  refine ⟨norm_shl (by omega), e, ?_⟩
  rw [u64_or_nat _ _ (by omega) (by omega), nat_join s _ _ (by simp) h3]

/-- What is left of the first estimate, modulo 2^64. -/
theorem un21 {u d Y : Nat} (hY : 0 < Y) (hY2 : Y < 18446744073709551616) (q : Nat) (hq : q = (u * 4294967296 + d) / Y) (T : Int) (hT : ∃ k : Int, T = (u : Int) * 4294967296 + d - q * Y + k * 18446744073709551616) :
    IntKind.u64.wrap T = (((u * 4294967296 + d) % Y : Nat) : Int) := by
  obtain ⟨k, rfl⟩ := hT
  have e := Nat.div_add_mod (u * 4294967296 + d) Y
  have hl := Nat.mod_lt (u * 4294967296 + d) hY
  rw [← hq] at e
  have e' : (u : Int) * 4294967296 + d - q * Y = (((u * 4294967296 + d) % Y : Nat) : Int) := by
    have : (Y : Int) * q + (((u * 4294967296 + d) % Y : Nat) : Int) = u * 4294967296 + d := by
      have e2 : ((Y * q : Nat) : Int) = (Y : Int) * q := Int.natCast_mul _ _
      omega
    rw [Int.mul_comm (q : Int)]; omega
  rw [e', IntKind.wrap_u64, Int.add_mul_emod_self_right]
  rw [Int.emod_eq_of_lt (by omega) (by omega)]

theorem wrapT (a d b : Int) : ∃ k : Int, IntKind.u64.wrap (IntKind.u64.wrap a + d) - IntKind.u64.wrap b = a + d - b + k * 18446744073709551616 := by
  simp only [IntKind.wrap_u64]
  have h1 := Int.emod_def (a % 18446744073709551616 + d) 18446744073709551616
  have h2 := Int.emod_def a 18446744073709551616
  have h3 := Int.emod_def b 18446744073709551616
  refine ⟨-(a / 18446744073709551616) - (a % 18446744073709551616 + d) / 18446744073709551616 + b / 18446744073709551616, ?_⟩
  rw [h1, h3]
  generalize (a % 18446744073709551616 + d) / 18446744073709551616 = x at *
  rw [h2]
  generalize a / 18446744073709551616 = y
  generalize b / 18446744073709551616 = z
  clear h1 h2 h3
  grind

/-- What is left of an estimate, in the walk's spelling. -/
theorem left_of {u d Y q R : Nat} (hY : 0 < Y) (hY2 : Y < 18446744073709551616) (hq : (u * 4294967296 + d) / Y = q) (hR : (u * 4294967296 + d) % Y = R) :
    IntKind.u64.wrap (IntKind.u64.wrap (IntKind.u64.wrap ((u : Int) * 4294967296) + (d : Int)) - IntKind.u64.wrap ((q : Int) * (Y : Int))) = (R : Int) := by
  rw [← hR]
  exact un21 hY hY2 q hq.symm _ (wrapT _ _ _)

set_option maxRecDepth 100000 in
set_option maxHeartbeats 4000000 in
theorem Div64_any (hi lo y : Nat) (w : World) (h : hi < y) (hl : lo < 18446744073709551616) (hy : y < 18446744073709551616) :
    Calls Tryz.prog 196 #[.int .u64 hi, .int .u64 lo, .int .u64 y] w fun e w' => e = .returned (.tuple #[.int .u64 ((hi * 18446744073709551616 + lo) / y : Nat), .int .u64 ((hi * 18446744073709551616 + lo) % y : Nat)]) ∧ Drew w w' := by
  have hy0 : 0 < y := by omega
  have t1 : ((y : Int) == 0) = false := by rw [beq_eq_false_iff_ne]; omega
  have t2 : decide ((y : Int) ≤ (hi : Int)) = false := by simp; omega
  have t2' : ¬ y ≤ hi := by omega
  by_cases h0 : hi = 0
  · subst h0
    have c1 : 0 ≤ (lo : Int) / (y : Int) := Int.ediv_nonneg (by omega) (by omega)
    have c2 : (lo : Int) / (y : Int) ≤ lo := Int.ediv_le_self _ (by omega)
    go_enter Tryz.func196, Tryz.ntmps196
    go_wp2
    go_quiet (fail)
    go_wp2
    go_ret2
    exact ⟨by simp, Drew.refl _ |>.drewN _⟩
  · have h00 : 0 < hi := by omega
    have t3 : ((hi : Int) == 0) = false := by rw [beq_eq_false_iff_ne]; omega
    obtain ⟨s, hs, hs63, hs1, hs2⟩ := lead y hy0 hy
    have hN := norm_eq (hi := hi) (lo := lo) (s := s) hs63
    have E1 := norm_shl hs2
    obtain ⟨E11, E12, E4⟩ := norm_or h hl hs63 hs2
    have E5 : IntKind.u64.wrap ((lo : Int) * 2 ^ s) = ((lo * 2 ^ s % 18446744073709551616 : Nat) : Int) := by
      rw [← wrapu]; simp
    have hL : lo * 2 ^ s % 18446744073709551616 < 18446744073709551616 := Nat.mod_lt _ (by omega)
    obtain ⟨Y, hYe⟩ : ∃ Y, y * 2 ^ s = Y := ⟨_, rfl⟩
    have hlt : (hi * 18446744073709551616 + lo) * 2 ^ s < Y * 18446744073709551616 := by
      rw [← hYe, Nat.mul_right_comm]; exact Nat.mul_lt_mul_of_pos_right (by omega) (Nat.pow_pos (by omega))
    rw [hYe] at hs1 hs2 E1
    generalize lo * 2 ^ s % 18446744073709551616 = L at *
    generalize hi * 2 ^ s = H at *
    generalize lo / 2 ^ (64 - s) = l' at *
    generalize H + l' = u at *
    have hu : u < Y := by omega
    have hF := two_steps hy0 hYe hN rfl rfl
    clear hN hYe hlt
    have E2 := and_low Y hs2
    have E7 := and_low L hL
    have E3 : (Y : Int) / 4294967296 = ((Y / 4294967296 : Nat) : Int) := by simp
    have E6 : (L : Int) / 4294967296 = ((L / 4294967296 : Nat) : Int) := by simp
    have b1 : 2147483648 ≤ Y / 4294967296 := by omega
    have b2 : Y / 4294967296 < 4294967296 := by omega
    have b3 : Y % 4294967296 < 4294967296 := by omega
    have b4 : L / 4294967296 < 4294967296 := by omega
    have b5 : L % 4294967296 < 4294967296 := by omega
    have hYs : Y = Y / 4294967296 * 4294967296 + Y % 4294967296 := by omega
    generalize Y / 4294967296 = v1 at *
    generalize Y % 4294967296 = v0 at *
    generalize L / 4294967296 = d1 at *
    generalize L % 4294967296 = d0 at *
    have hv1 : ¬ v1 = 0 := by omega
    have hY0 : 0 < Y := by omega
    have E8 : (u : Int) / (v1 : Int) = ((u / v1 : Nat) : Int) := by simp
    have HK := Lib.hid (Kn.start (u := u) (v1 := v1) (v0 := v0) (d := d1) (by omega) b4)
    have c0 : u / v1 * v1 ≤ u := Nat.div_mul_le_self u v1
    have c1 : u / v1 ≤ u := Nat.div_le_self u v1
    have c2 : u - u / v1 * v1 < v1 := by have := Nat.mod_lt u (show 0 < v1 by omega); have := Nat.div_add_mod u v1; rw [Nat.mul_comm] at this; omega
    have E9 : ((u / v1 : Nat) : Int) * (v1 : Int) = ((u / v1 * v1 : Nat) : Int) := (Int.natCast_mul _ _).symm
    generalize u / v1 * v1 = p0 at *
    generalize u / v1 = g0 at *
    obtain ⟨R1, hR1⟩ : ∃ R1, (u * 4294967296 + d1) % Y = R1 := ⟨_, rfl⟩
    obtain ⟨Q1, hQ1⟩ : ∃ Q1, (u * 4294967296 + d1) / Y = Q1 := ⟨_, rfl⟩
    have hR1l : R1 < Y := by rw [← hR1]; exact Nat.mod_lt _ hY0
    rw [hR1, hQ1] at hF
    obtain ⟨R0, hR0⟩ : ∃ R0, (R1 * 4294967296 + d0) % Y = R0 := ⟨_, rfl⟩
    obtain ⟨Q2, hQ2⟩ : ∃ Q2, (R1 * 4294967296 + d0) / Y = Q2 := ⟨_, rfl⟩
    have hR0l : R0 < Y := by rw [← hR0]; exact Nat.mod_lt _ hY0
    rw [hR0, hQ2] at hF
    have F1 := left_of hY0 hs2 hQ1 hR1
    have F4 := left_of hY0 hs2 hQ2 hR0
    have F2 : (R1 : Int) / (v1 : Int) = ((R1 / v1 : Nat) : Int) := by simp
    have HK2 := Lib.hid (Kn.start (u := R1) (v1 := v1) (v0 := v0) (d := d0) (by omega) b5)
    have k0 : R1 / v1 * v1 ≤ R1 := Nat.div_mul_le_self R1 v1
    have k1 : R1 / v1 ≤ R1 := Nat.div_le_self R1 v1
    have k2 : R1 - R1 / v1 * v1 < v1 := by have := Nat.mod_lt R1 (show 0 < v1 by omega); have := Nat.div_add_mod R1 v1; rw [Nat.mul_comm] at this; omega
    have F3 : ((R1 / v1 : Nat) : Int) * (v1 : Int) = ((R1 / v1 * v1 : Nat) : Int) := (Int.natCast_mul _ _).symm
    generalize R1 / v1 * v1 = p1 at *
    generalize R1 / v1 = g1 at *
    have I9 : Q1 < 4294967296 := by
      rw [← hQ1, Nat.div_lt_iff_lt_mul hY0]; omega
    have I10 : Q2 < 4294967296 := by
      rw [← hQ2, Nat.div_lt_iff_lt_mul hY0]; omega
    rw [hYs] at hQ1 hQ2
    have HU := Lib.hid (hYs ▸ hu)
    have HU2 := Lib.hid (hYs ▸ hR1l)
    have HQ1 := Lib.hid hQ1
    have HQ2 := Lib.hid hQ2
    have hF1 : (Q1 : Int) * 4294967296 + Q2 = ((hi : Int) * 18446744073709551616 + lo) / (y : Int) := by
      have e : (((hi * 18446744073709551616 + lo) / y : Nat) : Int) = ((Q1 * 4294967296 + Q2 : Nat) : Int) := by rw [hF.1]
      simp only [Int.natCast_ediv, Int.natCast_add, Int.natCast_mul] at e; exact e.symm
    have hF2 : (R0 : Int) / 2 ^ s = ((hi : Int) * 18446744073709551616 + lo) % (y : Int) := by
      have e : (((hi * 18446744073709551616 + lo) % y : Nat) : Int) = ((R0 / 2 ^ s : Nat) : Int) := by rw [hF.2]
      simp only [Int.natCast_ediv, Int.natCast_emod, Int.natCast_add, Int.natCast_mul, Int.natCast_pow] at e; exact e.symm
    have HF := Lib.hid (And.intro hF1 hF2)
    clear hF hF1 hF2 hQ1 hQ2 hR1 hR0 hYs
    go_enter Tryz.func196, Tryz.ntmps196
    go_wp2_with (go_at_call 164; refine (Tryz.bits_LeadingZeros64 _ _ (by omega) (by omega)).mono ?_; rintro e w' ⟨rfl, rfl⟩)
    go_loop [15, 16] (fun q r => ∃ q' r' : Nat, q = .int .u64 q' ∧ r = .int .u64 r' ∧ Kn u v1 v0 d1 q' r' ∧ (r' : Int) < 4294967296) (fun q _ => (intOf q).toNat)
    case atStart => exact ⟨g0, u - p0, rfl, by rw [show ((u : Int) - (p0 : Int)) = ((u - p0 : Nat) : Int) by omega], HK.out, by omega⟩
    case round =>
      obtain ⟨q, r, rfl, rfl, hk, hr⟩ := hrel
      have hle := Kn.le hk HU.out b3 b1
      have hways := Kn.ways hk HU.out b3 b4 HQ1.out
      clear hk HK E1 E11 E12 E4 E5 E2 E7 E3 E6 E8 E9 c0 c1 c2 t1 t2 t2' t3 h0 h00 hy0
      have B := Lib.hid (And.intro b1 (And.intro b3 b5))
      have I1 : (2147483648 : Int) ≤ v1 := by omega
      have I2 : (v1 : Int) < 4294967296 := by omega
      have I3 : (v0 : Int) < 4294967296 := by omega
      have I4 : (d1 : Int) < 4294967296 := by omega
      have I5 : (d0 : Int) < 4294967296 := by omega
      have I6 : (R1 : Int) < 18446744073709551616 := by omega
      have I7 : (R0 : Int) < 18446744073709551616 := by omega
      have I8 : (q : Int) ≤ 4294967297 := by omega
      have I9 : (Q1 : Int) < 4294967296 := by omega
      have I10 : (Q2 : Int) < 4294967296 := by omega
      clear b1 b2 b3 b4 b5 hs1 hs2 hu h hl hy hL hR1l hR0l hle
      rcases hways with ⟨c, rfl, x1, x2, hk⟩ | ⟨c, rfl, x1, x2, x3, x4, x5, hk⟩ | ⟨rfl, x1, x2⟩ | ⟨rfl, x1, x2, x3, x4, x5⟩ | ⟨rfl, x1, x2, x3, x4⟩
      · have Hk := Lib.hid hk
        clear hk
        obtain ⟨q, hq⟩ : ∃ q : Nat, q = c + 1 := ⟨_, rfl⟩
        have y1 : (4294967296 : Int) ≤ (q : Int) := by omega
        have y2 : (q : Int) - 1 = (c : Int) := by omega
        have y3 : (q : Int) ≤ 4294967297 := by omega
        rw [← hq]
        have X2 := Lib.hid x2
        have z2 : decide ((4294967296 : Int) ≤ (r : Int) + (v1 : Int)) = false := by simp only [decide_eq_false_iff_not]; omega
        clear hq x1 I8 x2
        repeat (first | go_skip | go_guarded | go_step | go_upon)
        go_round
        case rel => exact ⟨c, r + v1, rfl, by simp, Hk.out, by have := X2.out; omega⟩
        case measure => simp only [intOf]; omega
      · have Hk := Lib.hid hk
        clear hk
        obtain ⟨q, hq⟩ : ∃ q : Nat, q = c + 1 := ⟨_, rfl⟩
        have y0 : (q : Int) = (c : Int) + 1 := by omega
        rw [← y0] at x1 x2 x3 x4
        have y2 : (q : Int) - 1 = (c : Int) := by omega
        have y3 : (1 : Int) ≤ (q : Int) := by omega
        rw [← hq]
        have X2 := Lib.hid x5
        have z2 : decide ((4294967296 : Int) ≤ (r : Int) + (v1 : Int)) = false := by simp only [decide_eq_false_iff_not]; omega
        clear hq y0 I8 x5
        repeat (first | go_skip | go_guarded | go_step | go_upon)
        go_round
        case rel => exact ⟨c, r + v1, rfl, by simp, Hk.out, by have := X2.out; omega⟩
        case measure => simp only [intOf]; omega
      · obtain ⟨q, hq⟩ : ∃ q : Nat, q = Q1 + 1 := ⟨_, rfl⟩
        have y0 : (q : Int) = (Q1 : Int) + 1 := by omega
        rw [← y0] at x1
        have y2 : (q : Int) - 1 = (Q1 : Int) := by omega
        have y3 : (q : Int) ≤ 4294967297 := by omega
        rw [← hq]
        clear hq y0 I8
        go_wp2
        try clear x3 x4
        try clear x5
        try clear y3
        try clear x1
        try clear x2
        go_loop [18, 16] (fun q r => ∃ q' r' : Nat, q = .int .u64 q' ∧ r = .int .u64 r' ∧ Kn R1 v1 v0 d0 q' r' ∧ (r' : Int) < 4294967296) (fun q _ => (intOf q).toNat)
        case atStart => exact ⟨g1, R1 - p1, rfl, by rw [show ((R1 : Int) - (p1 : Int)) = ((R1 - p1 : Nat) : Int) by omega], HK2.out, by omega⟩
        case round =>
          try clear y2
          clear hr
          obtain ⟨q, r, rfl, rfl, hk, hr⟩ := hrel
          have hle := Kn.le hk HU2.out B.out.2.1 B.out.1
          have hways := Kn.ways hk HU2.out B.out.2.1 B.out.2.2 HQ2.out
          clear hk HK2 F1 F2 F3 k0 k1 k2
          have I8 : (q : Int) ≤ 4294967297 := by omega
          clear hle
          rcases hways with ⟨c, rfl, x1, x2, hk⟩ | ⟨c, rfl, x1, x2, x3, x4, x5, hk⟩ | ⟨rfl, x1, x2⟩ | ⟨rfl, x1, x2, x3, x4, x5⟩ | ⟨rfl, x1, x2, x3, x4⟩
          · have Hk := Lib.hid hk
            clear hk
            obtain ⟨q, hq⟩ : ∃ q : Nat, q = c + 1 := ⟨_, rfl⟩
            have y1 : (4294967296 : Int) ≤ (q : Int) := by omega
            have y2 : (q : Int) - 1 = (c : Int) := by omega
            have y3 : (q : Int) ≤ 4294967297 := by omega
            rw [← hq]
            have X2 := Lib.hid x2
            have z2 : decide ((4294967296 : Int) ≤ (r : Int) + (v1 : Int)) = false := by simp only [decide_eq_false_iff_not]; omega
            clear hq x1 I8 x2
            repeat (first | go_skip | go_guarded | go_step | go_upon)
            go_round
            case rel => exact ⟨c, r + v1, rfl, by simp, Hk.out, by have := X2.out; omega⟩
            case measure => simp only [intOf]; omega
          · have Hk := Lib.hid hk
            clear hk
            obtain ⟨q, hq⟩ : ∃ q : Nat, q = c + 1 := ⟨_, rfl⟩
            have y0 : (q : Int) = (c : Int) + 1 := by omega
            rw [← y0] at x1 x2 x3 x4
            have y2 : (q : Int) - 1 = (c : Int) := by omega
            have y3 : (1 : Int) ≤ (q : Int) := by omega
            rw [← hq]
            have X2 := Lib.hid x5
            have z2 : decide ((4294967296 : Int) ≤ (r : Int) + (v1 : Int)) = false := by simp only [decide_eq_false_iff_not]; omega
            clear hq y0 I8 x5
            repeat (first | go_skip | go_guarded | go_step | go_upon)
            go_round
            case rel => exact ⟨c, r + v1, rfl, by simp, Hk.out, by have := X2.out; omega⟩
            case measure => simp only [intOf]; omega
          · obtain ⟨q, hq⟩ : ∃ q : Nat, q = Q2 + 1 := ⟨_, rfl⟩
            have y0 : (q : Int) = (Q2 : Int) + 1 := by omega
            rw [← y0] at x1
            have y2 : (q : Int) - 1 = (Q2 : Int) := by omega
            have y3 : (q : Int) ≤ 4294967297 := by omega
            rw [← hq]
            clear hq y0 I8
            go_wp2
            go_ret2
            exact ⟨ret_two HF.out.1 HF.out.2, Drew.refl _⟩
          · obtain ⟨q, hq⟩ : ∃ q : Nat, q = Q2 + 1 := ⟨_, rfl⟩
            have y0 : (q : Int) = (Q2 : Int) + 1 := by omega
            rw [← y0] at x1 x2 x3 x4
            have y2 : (q : Int) - 1 = (Q2 : Int) := by omega
            have y3 : (1 : Int) ≤ (q : Int) := by omega
            rw [← hq]
            clear hq y0 I8
            go_wp2
            go_ret2
            exact ⟨ret_two HF.out.1 HF.out.2, Drew.refl _⟩
          · have z1 : decide ((4294967296 : Int) ≤ (q : Int)) = false := by simp only [decide_eq_false_iff_not]; omega
            have z2 : decide (4294967296 * (r : Int) + (d0 : Int) < (q : Int) * (v0 : Int)) = false := by simp only [decide_eq_false_iff_not]; omega
            have X1 := Lib.hid x1
            have X2 := Lib.hid x2
            try clear x1
            try clear x2
            go_wp2
            go_ret2
            exact ⟨ret_two HF.out.1 HF.out.2, Drew.refl _⟩
      · obtain ⟨q, hq⟩ : ∃ q : Nat, q = Q1 + 1 := ⟨_, rfl⟩
        have y0 : (q : Int) = (Q1 : Int) + 1 := by omega
        rw [← y0] at x1 x2 x3 x4
        have y2 : (q : Int) - 1 = (Q1 : Int) := by omega
        have y3 : (1 : Int) ≤ (q : Int) := by omega
        rw [← hq]
        clear hq y0 I8
        go_wp2
        try clear x3 x4
        try clear x5
        try clear y3
        try clear x1
        try clear x2
        go_loop [18, 16] (fun q r => ∃ q' r' : Nat, q = .int .u64 q' ∧ r = .int .u64 r' ∧ Kn R1 v1 v0 d0 q' r' ∧ (r' : Int) < 4294967296) (fun q _ => (intOf q).toNat)
        case atStart => exact ⟨g1, R1 - p1, rfl, by rw [show ((R1 : Int) - (p1 : Int)) = ((R1 - p1 : Nat) : Int) by omega], HK2.out, by omega⟩
        case round =>
          try clear y2
          clear hr
          obtain ⟨q, r, rfl, rfl, hk, hr⟩ := hrel
          have hle := Kn.le hk HU2.out B.out.2.1 B.out.1
          have hways := Kn.ways hk HU2.out B.out.2.1 B.out.2.2 HQ2.out
          clear hk HK2 F1 F2 F3 k0 k1 k2
          have I8 : (q : Int) ≤ 4294967297 := by omega
          clear hle
          rcases hways with ⟨c, rfl, x1, x2, hk⟩ | ⟨c, rfl, x1, x2, x3, x4, x5, hk⟩ | ⟨rfl, x1, x2⟩ | ⟨rfl, x1, x2, x3, x4, x5⟩ | ⟨rfl, x1, x2, x3, x4⟩
          · have Hk := Lib.hid hk
            clear hk
            obtain ⟨q, hq⟩ : ∃ q : Nat, q = c + 1 := ⟨_, rfl⟩
            have y1 : (4294967296 : Int) ≤ (q : Int) := by omega
            have y2 : (q : Int) - 1 = (c : Int) := by omega
            have y3 : (q : Int) ≤ 4294967297 := by omega
            rw [← hq]
            have X2 := Lib.hid x2
            have z2 : decide ((4294967296 : Int) ≤ (r : Int) + (v1 : Int)) = false := by simp only [decide_eq_false_iff_not]; omega
            clear hq x1 I8 x2
            repeat (first | go_skip | go_guarded | go_step | go_upon)
            go_round
            case rel => exact ⟨c, r + v1, rfl, by simp, Hk.out, by have := X2.out; omega⟩
            case measure => simp only [intOf]; omega
          · have Hk := Lib.hid hk
            clear hk
            obtain ⟨q, hq⟩ : ∃ q : Nat, q = c + 1 := ⟨_, rfl⟩
            have y0 : (q : Int) = (c : Int) + 1 := by omega
            rw [← y0] at x1 x2 x3 x4
            have y2 : (q : Int) - 1 = (c : Int) := by omega
            have y3 : (1 : Int) ≤ (q : Int) := by omega
            rw [← hq]
            have X2 := Lib.hid x5
            have z2 : decide ((4294967296 : Int) ≤ (r : Int) + (v1 : Int)) = false := by simp only [decide_eq_false_iff_not]; omega
            clear hq y0 I8 x5
            repeat (first | go_skip | go_guarded | go_step | go_upon)
            go_round
            case rel => exact ⟨c, r + v1, rfl, by simp, Hk.out, by have := X2.out; omega⟩
            case measure => simp only [intOf]; omega
          · obtain ⟨q, hq⟩ : ∃ q : Nat, q = Q2 + 1 := ⟨_, rfl⟩
            have y0 : (q : Int) = (Q2 : Int) + 1 := by omega
            rw [← y0] at x1
            have y2 : (q : Int) - 1 = (Q2 : Int) := by omega
            have y3 : (q : Int) ≤ 4294967297 := by omega
            rw [← hq]
            clear hq y0 I8
            go_wp2
            go_ret2
            exact ⟨ret_two HF.out.1 HF.out.2, Drew.refl _⟩
          · obtain ⟨q, hq⟩ : ∃ q : Nat, q = Q2 + 1 := ⟨_, rfl⟩
            have y0 : (q : Int) = (Q2 : Int) + 1 := by omega
            rw [← y0] at x1 x2 x3 x4
            have y2 : (q : Int) - 1 = (Q2 : Int) := by omega
            have y3 : (1 : Int) ≤ (q : Int) := by omega
            rw [← hq]
            clear hq y0 I8
            go_wp2
            go_ret2
            exact ⟨ret_two HF.out.1 HF.out.2, Drew.refl _⟩
          · have z1 : decide ((4294967296 : Int) ≤ (q : Int)) = false := by simp only [decide_eq_false_iff_not]; omega
            have z2 : decide (4294967296 * (r : Int) + (d0 : Int) < (q : Int) * (v0 : Int)) = false := by simp only [decide_eq_false_iff_not]; omega
            have X1 := Lib.hid x1
            have X2 := Lib.hid x2
            try clear x1
            try clear x2
            go_wp2
            go_ret2
            exact ⟨ret_two HF.out.1 HF.out.2, Drew.refl _⟩
      · have z1 : decide ((4294967296 : Int) ≤ (q : Int)) = false := by simp only [decide_eq_false_iff_not]; omega
        have z2 : decide (4294967296 * (r : Int) + (d1 : Int) < (q : Int) * (v0 : Int)) = false := by simp only [decide_eq_false_iff_not]; omega
        have X1 := Lib.hid x1
        have X2 := Lib.hid x2
        try clear x1
        try clear x2
        go_wp2
        try clear x3 x4
        try clear x5
        try clear y3
        try clear x1
        try clear x2
        go_loop [18, 16] (fun q r => ∃ q' r' : Nat, q = .int .u64 q' ∧ r = .int .u64 r' ∧ Kn R1 v1 v0 d0 q' r' ∧ (r' : Int) < 4294967296) (fun q _ => (intOf q).toNat)
        case atStart => exact ⟨g1, R1 - p1, rfl, by rw [show ((R1 : Int) - (p1 : Int)) = ((R1 - p1 : Nat) : Int) by omega], HK2.out, by omega⟩
        case round =>
          try clear y2
          clear hr
          obtain ⟨q, r, rfl, rfl, hk, hr⟩ := hrel
          have hle := Kn.le hk HU2.out B.out.2.1 B.out.1
          have hways := Kn.ways hk HU2.out B.out.2.1 B.out.2.2 HQ2.out
          clear hk HK2 F1 F2 F3 k0 k1 k2
          have I8 : (q : Int) ≤ 4294967297 := by omega
          clear hle
          rcases hways with ⟨c, rfl, x1, x2, hk⟩ | ⟨c, rfl, x1, x2, x3, x4, x5, hk⟩ | ⟨rfl, x1, x2⟩ | ⟨rfl, x1, x2, x3, x4, x5⟩ | ⟨rfl, x1, x2, x3, x4⟩
          · have Hk := Lib.hid hk
            clear hk
            obtain ⟨q, hq⟩ : ∃ q : Nat, q = c + 1 := ⟨_, rfl⟩
            have y1 : (4294967296 : Int) ≤ (q : Int) := by omega
            have y2 : (q : Int) - 1 = (c : Int) := by omega
            have y3 : (q : Int) ≤ 4294967297 := by omega
            rw [← hq]
            have X2 := Lib.hid x2
            have z2 : decide ((4294967296 : Int) ≤ (r : Int) + (v1 : Int)) = false := by simp only [decide_eq_false_iff_not]; omega
            clear hq x1 I8 x2
            repeat (first | go_skip | go_guarded | go_step | go_upon)
            go_round
            case rel => exact ⟨c, r + v1, rfl, by simp, Hk.out, by have := X2.out; omega⟩
            case measure => simp only [intOf]; omega
          · have Hk := Lib.hid hk
            clear hk
            obtain ⟨q, hq⟩ : ∃ q : Nat, q = c + 1 := ⟨_, rfl⟩
            have y0 : (q : Int) = (c : Int) + 1 := by omega
            rw [← y0] at x1 x2 x3 x4
            have y2 : (q : Int) - 1 = (c : Int) := by omega
            have y3 : (1 : Int) ≤ (q : Int) := by omega
            rw [← hq]
            have X2 := Lib.hid x5
            have z2 : decide ((4294967296 : Int) ≤ (r : Int) + (v1 : Int)) = false := by simp only [decide_eq_false_iff_not]; omega
            clear hq y0 I8 x5
            repeat (first | go_skip | go_guarded | go_step | go_upon)
            go_round
            case rel => exact ⟨c, r + v1, rfl, by simp, Hk.out, by have := X2.out; omega⟩
            case measure => simp only [intOf]; omega
          · obtain ⟨q, hq⟩ : ∃ q : Nat, q = Q2 + 1 := ⟨_, rfl⟩
            have y0 : (q : Int) = (Q2 : Int) + 1 := by omega
            rw [← y0] at x1
            have y2 : (q : Int) - 1 = (Q2 : Int) := by omega
            have y3 : (q : Int) ≤ 4294967297 := by omega
            rw [← hq]
            clear hq y0 I8
            go_wp2
            go_ret2
            exact ⟨ret_two HF.out.1 HF.out.2, Drew.refl _⟩
          · obtain ⟨q, hq⟩ : ∃ q : Nat, q = Q2 + 1 := ⟨_, rfl⟩
            have y0 : (q : Int) = (Q2 : Int) + 1 := by omega
            rw [← y0] at x1 x2 x3 x4
            have y2 : (q : Int) - 1 = (Q2 : Int) := by omega
            have y3 : (1 : Int) ≤ (q : Int) := by omega
            rw [← hq]
            clear hq y0 I8
            go_wp2
            go_ret2
            exact ⟨ret_two HF.out.1 HF.out.2, Drew.refl _⟩
          · have z1 : decide ((4294967296 : Int) ≤ (q : Int)) = false := by simp only [decide_eq_false_iff_not]; omega
            have z2 : decide (4294967296 * (r : Int) + (d0 : Int) < (q : Int) * (v0 : Int)) = false := by simp only [decide_eq_false_iff_not]; omega
            have X1 := Lib.hid x1
            have X2 := Lib.hid x2
            try clear x1
            try clear x2
            go_wp2
            go_ret2
            exact ⟨ret_two HF.out.1 HF.out.2, Drew.refl _⟩
end Go.Proofs.YtamhlkjfpdkhoaaGreatDoor
