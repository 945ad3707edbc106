import Derived.Test.YtamhlkjfpdkhoaaGreatDoorQ13
import Derived.Test.YtamhlkjfpdkhoaaGreatDoorQ15
import Derived.Test.YtamhlkjfpdkhoaaGreatDoorQ21
import Derived.Test.YtamhlkjfpdkhoaaGreatDoorQ37
import Derived.Outline
/- WALKS of Power and Meet. -/
namespace Go.Proofs.YtamhlkjfpdkhoaaGreatDoor
open Go.RowKit

set_option maxHeartbeats 400000 in
theorem Power_arg1 (a n m : Int) (w : World) (h : ¬ (1 ≤ m ∧ m ≤ 1000000000000)) :
    Calls Tryz.prog 69 #[.int .i64 a, .int .i64 n, .int .i64 m] w fun e w' => e = .returned (.tuple #[.int .i64 0, .int .i64 1]) ∧ Drew w w' := by
  have H := isMod_no h
  go_enter Tryz.func69, Tryz.ntmps69
  go_wp2_with (go_at_call 133; refine (isModulus_any _ _).mono ?_; rintro e w' ⟨rfl, rfl⟩)
  go_ret2
  exact ⟨rfl, Drew.refl _⟩

set_option maxHeartbeats 400000 in
theorem Power_arg2 (a n m : Int) (w : World) (h1 : 1 ≤ m) (h2 : m ≤ 1000000000000) (hn : n < 0) :
    Calls Tryz.prog 69 #[.int .i64 a, .int .i64 n, .int .i64 m] w fun e w' => e = .returned (.tuple #[.int .i64 0, .int .i64 1]) ∧ Drew w w' := by
  have H := isMod_yes h1 h2
  go_enter Tryz.func69, Tryz.ntmps69
  go_wp2_with (go_at_call 133; refine (isModulus_any _ _).mono ?_; rintro e w' ⟨rfl, rfl⟩)
  go_ret2
  exact ⟨rfl, Drew.refl _⟩

set_option maxHeartbeats 1000000 in
theorem Power_any (a : Int) (r n m : Nat) (w : World) (hr : a % m = (r : Int)) (hm : 1 ≤ m) (hm2 : m ≤ 1000000000000) (hn : n ≤ 9223372036854775807) :
    Calls Tryz.prog 69 #[.int .i64 a, .int .i64 n, .int .i64 m] w fun e w' => e = .returned (.tuple #[.int .i64 (r ^ n % m : Nat), .int .i64 0]) ∧ Drew w w' := by
  have H : isMod (m : Int) = true := isMod_yes (by omega) (by omega)
  have hn0 : decide ((n : Int) < 0) = false := by simp
  have hr0 : 0 ≤ a % m := Int.emod_nonneg _ (by omega)
  have hr1 : a % m < m := Int.emod_lt_of_pos _ (by omega)
  go_enter Tryz.func69, Tryz.ntmps69
  go_wp2_with (first | (go_at_call 133; refine (isModulus_any _ _).mono ?_; rintro e w' ⟨rfl, rfl⟩) | (go_at_call 134; refine (modulo_any _ _ _ (by omega) (by omega)).mono ?_; rintro e w' ⟨rfl, rfl⟩))
  have hr2 : r < m := by omega
  clear H hn0 hr hr0 hr1
  have l0 : 1 % m < m := Nat.mod_lt _ (by omega)
  have L0 := Lib.hid l0
  clear l0
  go_loopw [1, 8, 9] (fun y z x wr => ∃ a' n' o : Nat, x = .int .i64 a' ∧ y = .int .i64 n' ∧ z = .int .i64 o ∧ a' < m ∧ n' ≤ 9223372036854775807 ∧ o < m ∧ (o * a' ^ n') % m = r ^ n % m ∧ Drew w wr) (fun y _ _ _ => (intOf y).toNat)
  case atStart => exact ⟨r, n, 1 % m, rfl, rfl, by simp, hr2, hn, L0.out, by rw [Nat.mul_mod, Nat.mod_mod, ← Nat.mul_mod, Nat.one_mul], Drew.refl _⟩
  case round =>
    clear L0
    obtain ⟨a', n', o, rfl, rfl, rfl, ha', hn', ho, hg, hd⟩ := hrel
    have Hg := Lib.hid hg
    have Hd := Lib.hid hd
    clear hg hd
    by_cases h0 : n' = 0
    · subst h0
      go_wp2
      go_ret2
      have h : o = r ^ n % m := by rw [← Hg.out, Nat.pow_zero, Nat.mul_one, Nat.mod_eq_of_lt ho]
      exact ⟨ret_two (by exact_mod_cast h) rfl, Hd.out⟩
    · have hp : 0 < n' := by omega
      by_cases hodd : n' % 2 = 1
      · have l1 : o * a' % m < m := Nat.mod_lt _ (by omega)
        have l2 : a' * a' % m < m := Nat.mod_lt _ (by omega)
        go_wp2_with fail
        refine (timesModulo_any _ _ _ _ (by omega) (by omega) (by omega) (by omega)).mono ?_
        rintro e w1 ⟨rfl, hd1⟩
        have Hd1 := Lib.hid hd1
        clear hd1
        go_wp2_with fail
        refine (timesModulo_any _ _ _ _ (by omega) (by omega) (by omega) (by omega)).mono ?_
        rintro e w2 ⟨rfl, hd2⟩
        have Hd2 := Lib.hid hd2
        clear hd2
        go_wp2_with fail
        refine ⟨⟨a' * a' % m, n' / 2, o * a' % m, by simp, by simp, by simp, l2, by omega, l1, ?_, (Hd.out.trans Hd1.out).trans Hd2.out⟩, ?_⟩
        · rw [← Hg.out, pow_odd hodd]
        · simp only [intOf]; omega
      · have l2 : a' * a' % m < m := Nat.mod_lt _ (by omega)
        go_wp2_with fail
        refine (timesModulo_any _ _ _ _ (by omega) (by omega) (by omega) (by omega)).mono ?_
        rintro e w2 ⟨rfl, hd2⟩
        have Hd2 := Lib.hid hd2
        clear hd2
        go_wp2_with fail
        refine ⟨⟨a' * a' % m, n' / 2, o, by simp, by simp, by simp, l2, by omega, ho, ?_, Hd.out.trans Hd2.out⟩, ?_⟩
        · rw [← Hg.out, pow_even (by omega)]
        · simp only [intOf]; omega

set_option maxHeartbeats 400000 in
theorem Meet_arg (a m b n : Int) (w : World) (h : ¬ (1 ≤ m ∧ m ≤ 1000000000000) ∨ ¬ (1 ≤ n ∧ n ≤ 1000000000000)) :
    Calls Tryz.prog 71 #[.int .i64 a, .int .i64 m, .int .i64 b, .int .i64 n] w fun e w' => e = .returned (.tuple #[.int .i64 0, .int .i64 0, .int .i64 1]) ∧ Drew w w' := by
  by_cases hm : (1 ≤ m ∧ m ≤ 1000000000000)
  · have H := isMod_no (h.resolve_left (fun k => k hm))
    have H' := isMod_yes hm.1 hm.2
    go_enter Tryz.func71, Tryz.ntmps71
    go_wp2_with (go_at_call 133; refine (isModulus_any _ _).mono ?_; rintro e w' ⟨rfl, rfl⟩)
    go_ret3
    exact ⟨rfl, Drew.refl _⟩
  · have H := isMod_no hm
    go_enter Tryz.func71, Tryz.ntmps71
    go_wp2_with (go_at_call 133; refine (isModulus_any _ _).mono ?_; rintro e w' ⟨rfl, rfl⟩)
    go_ret3
    exact ⟨rfl, Drew.refl _⟩

theorem ret_three {k k' k'' : IntKind} {a b c d e f : Int} (h1 : a = b) (h2 : c = d) (h3 : e = f) : Ending.returned (.tuple #[.int k a, .int k' c, .int k'' e]) = Ending.returned (.tuple #[.int k b, .int k' d, .int k'' f]) := by rw [h1, h2, h3]

/-- What Meet returns, by the two rests and the common divisor. -/
def Met (r1 r2 m n : Nat) (e : Ending) : Prop :=
  (1000000000000 / n < m / Nat.gcd m n ∧ e = .returned (.tuple #[.int .i64 0, .int .i64 0, .int .i64 2])) ∨
  (m / Nat.gcd m n ≤ 1000000000000 / n ∧ ¬ ((Nat.gcd m n : Nat) : Int) ∣ (r2 : Int) - r1 ∧ e = .returned (.tuple #[.int .i64 0, .int .i64 0, .int .i64 4])) ∨
  (m / Nat.gcd m n ≤ 1000000000000 / n ∧ ((Nat.gcd m n : Nat) : Int) ∣ (r2 : Int) - r1 ∧ ∃ X : Nat, e = .returned (.tuple #[.int .i64 X, .int .i64 (m * (n / Nat.gcd m n) : Nat), .int .i64 0]) ∧ X < m * (n / Nat.gcd m n) ∧ X % m = r1 ∧ X % n = r2)

set_option maxHeartbeats 1000000 in
theorem Meet_any (a b : Int) (r1 r2 m n : Nat) (w : World) (h1 : a % m = (r1 : Int)) (h2 : b % n = (r2 : Int)) (hm : 1 ≤ m) (hm2 : m ≤ 1000000000000) (hn : 1 ≤ n) (hn2 : n ≤ 1000000000000) :
    Calls Tryz.prog 71 #[.int .i64 a, .int .i64 m, .int .i64 b, .int .i64 n] w fun e w' => Met r1 r2 m n e ∧ Drew w w' := by
  have H : isMod (m : Int) = true := isMod_yes (by omega) (by omega)
  have H' : isMod (n : Int) = true := isMod_yes (by omega) (by omega)
  have e0 : (m : Int) % (n : Int) = ((m % n : Nat) : Int) := by simp
  have g0 : Nat.gcd (m % n) n = Nat.gcd m n := by rw [Nat.gcd_comm m n, Nat.gcd_rec n m]
  have l0 : m % n < n := Nat.mod_lt _ (by omega)
  have EU := fun w' => euclid_any (m % n) n w' hn hn2 l0
  rw [g0] at EU
  obtain ⟨d, hd⟩ : ∃ d, Nat.gcd m n = d := ⟨_, rfl⟩
  have dm : d ∣ m := hd ▸ Nat.gcd_dvd_left m n
  have dn : d ∣ n := hd ▸ Nat.gcd_dvd_right m n
  have hd0 : 0 < d := hd ▸ Nat.gcd_pos_of_pos_left n (by omega)
  have hdn : d ≤ n := Nat.le_of_dvd (by omega) dn
  rw [hd] at EU
  unfold Met
  rw [hd]
  clear g0 hd
  obtain ⟨m0, hm0⟩ : ∃ m0, m % n = m0 := ⟨_, rfl⟩
  rw [hm0] at e0 EU l0
  have HM0 := Lib.hid hm0
  have HEU := Lib.hid EU
  clear EU hm0
  have hr1 : r1 < m := by have := Int.emod_lt_of_pos a (b := (m : Int)) (by omega); omega
  have hr2 : r2 < n := by have := Int.emod_lt_of_pos b (b := (n : Int)) (by omega); omega
  obtain ⟨m', hm'⟩ : ∃ m', m / d = m' := ⟨_, rfl⟩
  obtain ⟨own, hown⟩ : ∃ own, n / d = own := ⟨_, rfl⟩
  have hmd : m = d * m' := by rw [← hm']; exact (Nat.mul_div_cancel' dm).symm
  have hnd : n = d * own := by rw [← hown]; exact (Nat.mul_div_cancel' dn).symm
  have E1 : (m : Int) / (d : Int) = (m' : Int) := by rw [← hm']; simp
  have E2 : (n : Int) / (d : Int) = (own : Int) := by rw [← hown]; simp
  have E3 : (1000000000000 : Int) / (n : Int) = ((1000000000000 / n : Nat) : Int) := by simp
  rw [hm', hown]
  have hm'0 : 0 < m' := by rcases Nat.eq_zero_or_pos m' with h | h; (subst h; simp at hmd; omega); exact h
  have hown0 : 0 < own := by rcases Nat.eq_zero_or_pos own with h | h; (subst h; simp at hnd; omega); exact h
  have hm'l : m' ≤ m := by rw [← hm']; exact Nat.div_le_self _ _
  have hownl : own ≤ n := by rw [← hown]; exact Nat.div_le_self _ _
  have hmax : 1000000000000 / n ≤ 1000000000000 := Nat.div_le_self _ _
  have hmaxn : 1000000000000 / n * n ≤ 1000000000000 := Nat.div_mul_le_self _ _
  obtain ⟨mx, hmx⟩ : ∃ mx, 1000000000000 / n = mx := ⟨_, rfl⟩
  rw [hmx] at E3 hmax hmaxn ⊢
  have Hmd := Lib.hid hmd
  have Hnd := Lib.hid hnd
  have Hmaxn := Lib.hid hmaxn
  clear hmd hnd hm' hown hmx hmaxn dm dn
  have hdm : d ≤ m := by rw [Hmd.out]; exact Nat.le_mul_of_pos_right _ hm'0
  by_cases hlong : mx < m'
  · go_enter Tryz.func71, Tryz.ntmps71
    go_wp2_with (first | (go_at_call 133; refine (isModulus_any _ _).mono ?_; rintro e w' ⟨rfl, rfl⟩) | (go_at_call 134; refine (modulo_any _ _ _ (by omega) (by omega)).mono ?_; rintro e w' ⟨rfl, rfl⟩))
    refine (HEU.out _).mono ?_
    rintro e w1 ⟨x, rfl, hx, hx2, hdr⟩
    have Hx2 := Lib.hid hx2
    have Hdr := Lib.hid hdr
    clear hx2 hdr
    go_wp2_with (first | (go_at_call 134; refine (modulo_any _ _ _ (by omega) (by omega)).mono ?_; rintro e w' ⟨rfl, rfl⟩))
    go_quiet (fail)
    go_wp2
    go_ret3
    exact ⟨.inl ⟨hlong, rfl⟩, Hdr.out.drewN _⟩
  · have hmle : m' * n ≤ 1000000000000 := by
      have h1 : m' * n ≤ mx * n := Nat.mul_le_mul_right _ (by omega)
      have := Hmaxn.out
      omega
    have hall : m * own ≤ 1000000000000 := by
      have h1 : m * own = m' * n := by rw [Hmd.out, Hnd.out, Nat.mul_comm d m', Nat.mul_assoc]
      omega
    have T0 := emod_of_tmod (a := (r2 : Int) - r1) (m := (d : Int)) (by omega)
    by_cases hdv : (d : Int) ∣ (r2 : Int) - r1
    · obtain ⟨q, hq⟩ := hdv
      have hdI : (0 : Int) < (d : Int) := by omega
      have T1 : (((r2 : Int) - (r1 : Int)).tmod (d : Int) != 0) = false := by
        rw [hq, Int.mul_tmod_right]; rfl
      have T2 : ((r2 : Int) - (r1 : Int)).tdiv (d : Int) = q := by
        rw [hq]; exact Int.mul_tdiv_cancel_left _ (by omega)
      have hq1 : -1000000000000 ≤ q ∧ q ≤ 1000000000000 := by
        have a1 : d * q.natAbs ≤ 1000000000000 := by
          have := congrArg Int.natAbs hq
          rw [Int.natAbs_mul, Int.natAbs_natCast] at this
          omega
        have a2 : q.natAbs ≤ d * q.natAbs := Nat.le_mul_of_pos_left _ hd0
        omega
      obtain ⟨hq1, hq2⟩ := hq1
      have Hq := Lib.hid hq
      clear hq T0
      obtain ⟨q0, hq0⟩ : ∃ q0 : Nat, q % (own : Int) = q0 := ⟨(q % (own : Int)).toNat, by have := Int.emod_nonneg q (b := (own : Int)) (by omega); omega⟩
      have hq0l : q0 < own := by have := Int.emod_lt_of_pos q (b := (own : Int)) (by omega); omega
      have E6 : (m : Int) * (own : Int) = ((m * own : Nat) : Int) := (Int.natCast_mul _ _).symm
      obtain ⟨al, hal⟩ : ∃ al, m * own = al := ⟨_, rfl⟩
      rw [hal] at E6 hall
      have Hal := Lib.hid hal
      have Hmle := Lib.hid hmle
      clear hal hmle
      go_enter Tryz.func71, Tryz.ntmps71
      go_wp2_with (first | (go_at_call 133; refine (isModulus_any _ _).mono ?_; rintro e w' ⟨rfl, rfl⟩) | (go_at_call 134; refine (modulo_any _ _ _ (by omega) (by omega)).mono ?_; rintro e w' ⟨rfl, rfl⟩))
      refine (HEU.out _).mono ?_
      rintro e w1 ⟨x, rfl, hx, hx2, hdr⟩
      have Hx2 := Lib.hid hx2
      have Hdr := Lib.hid hdr
      clear hx2 hdr
      have E7 : (x : Int) % (own : Int) = ((x % own : Nat) : Int) := by simp
      have hx0 : x % own < own := Nat.mod_lt _ hown0
      obtain ⟨x0, hx0e⟩ : ∃ x0, x % own = x0 := ⟨_, rfl⟩
      rw [hx0e] at E7 hx0
      have Hx0e := Lib.hid hx0e
      clear hx0e
      have hst : q0 * x0 % own < own := Nat.mod_lt _ hown0
      have TM := fun w' => timesModulo_any q0 x0 own w' (by omega) (by omega) hq0l hx0
      obtain ⟨st, hste⟩ : ∃ st, q0 * x0 % own = st := ⟨_, rfl⟩
      rw [hste] at hst TM
      have E8 : (m : Int) * (st : Int) = ((m * st : Nat) : Int) := (Int.natCast_mul _ _).symm
      have hms : m * st + m ≤ al := by
        rw [← Hal.out]
        have : m * (st + 1) ≤ m * own := Nat.mul_le_mul_left _ hst
        rw [Nat.mul_succ] at this; exact this
      obtain ⟨ms, hmse⟩ : ∃ ms, m * st = ms := ⟨_, rfl⟩
      rw [hmse] at E8 hms
      have Hmse := Lib.hid hmse
      have Hste := Lib.hid hste
      have HTM := Lib.hid TM
      clear hmse hste TM
      go_wp2_with fail
      go_quiet (fail)
      go_wp2_with (first | (go_at_call 134; refine (modulo_any _ _ _ (by omega) (by omega)).mono ?_; rintro e w' ⟨rfl, rfl⟩))
      refine (HTM.out _).mono ?_
      rintro e w2 ⟨rfl, hdr2⟩
      have Hdr2 := Lib.hid hdr2
      clear hdr2
      go_wp2_with fail
      go_ret3
      refine ⟨.inr (.inr ⟨by omega, ⟨q, Hq.out⟩, r1 + ms, ret_three ?_ ?_ rfl, ?_, ?_, ?_⟩), (Hdr.out.drewN _).trans Hdr2.out⟩
      · simp
      · rw [Hal.out]
      · rw [Hal.out]; omega
      · rw [← Hmse.out, Nat.add_mul_mod_self_left, Nat.mod_eq_of_lt hr1]
      · have hxd : (n : Int) ∣ (m : Int) * x - d := by
          have h1 : m * x % n = d % n := by
            rw [← Hx2.out, ← HM0.out, Nat.mod_mul_mod]
          have h2 : ((m * x : Nat) : Int) % (n : Int) = ((d : Nat) : Int) % (n : Int) := by
            have := congrArg (fun z : Nat => (z : Int)) h1
            simpa using this
          have h4 : (((m * x : Nat) : Int) - d) % (n : Int) = 0 := Int.emod_eq_emod_iff_emod_sub_eq_zero.1 h2
          have h5 := Int.dvd_of_emod_eq_zero h4
          rwa [Int.natCast_mul] at h5
        have hst2 : (own : Int) ∣ q * x - st := by
          apply dvd_of_emod
          rw [Int.mul_emod, hq0, E7, ← Int.natCast_mul, ← Int.natCast_emod, Hste.out]
        have hfin := meet_math (r1 := r1) (r2 := r2) hd0 Hmd.out Hnd.out hxd Hq.out hst2
        have hX : ((r1 + ms : Nat) : Int) = (r1 : Int) + m * st := by rw [Int.natCast_add, E8]
        rw [← hX] at hfin
        have := emod_of_dvd hfin (by omega) (by omega)
        exact_mod_cast this
    · have T1 : (((r2 : Int) - (r1 : Int)).tmod (d : Int) != 0) = true := by
        rw [bne_iff_ne]; intro h
        exact hdv (Int.dvd_of_tmod_eq_zero h)
      clear T0
      have Hall := Lib.hid hall
      have Hmle := Lib.hid hmle
      clear hall hmle
      go_enter Tryz.func71, Tryz.ntmps71
      go_wp2_with (first | (go_at_call 133; refine (isModulus_any _ _).mono ?_; rintro e w' ⟨rfl, rfl⟩) | (go_at_call 134; refine (modulo_any _ _ _ (by omega) (by omega)).mono ?_; rintro e w' ⟨rfl, rfl⟩))
      refine (HEU.out _).mono ?_
      rintro e w1 ⟨x, rfl, hx, hx2, hdr⟩
      have Hx2 := Lib.hid hx2
      have Hdr := Lib.hid hdr
      clear hx2 hdr
      go_wp2_with fail
      go_quiet (fail)
      go_wp2_with (first | (go_at_call 134; refine (modulo_any _ _ _ (by omega) (by omega)).mono ?_; rintro e w' ⟨rfl, rfl⟩))
      go_ret3
      exact ⟨.inr (.inl ⟨by omega, hdv, rfl⟩), Hdr.out.drewN _⟩

end Go.Proofs.YtamhlkjfpdkhoaaGreatDoor

/- WALKS: what awake asks besides: the symbol of 3 and 7, -7 by 2, the power 2 ^ 10, the divisors of 12. -/
namespace Go.Proofs.YtamhlkjfpdkhoaaGreatDoor
open Go.RowKit

set_option maxRecDepth 100000 in
set_option maxHeartbeats 1000000 in
theorem Symbol_three (w : World) :
    Calls Tryz.prog 75 #[.int .i64 3, .int .i64 7] w fun e w' => e = .returned (.tuple #[.int .i64 (-1), .int .i64 0]) ∧ Below w.heap.size w w' := by
  have H : isMod 7 = true := isMod_yes (by omega) (by omega)
  go_enter Tryz.func75, Tryz.ntmps75
  go_wp2_with (first | (go_at_call 133; refine (isModulus_any _ _).mono ?_; rintro e w' ⟨rfl, rfl⟩) | (go_at_call 134; refine (modulo_any _ _ _ (by omega) (by omega)).mono ?_; rintro e w' ⟨rfl, rfl⟩))
  refine wp_loop_rounds 3 ?_
  rw [rounds_succ]
  go_wp2
  refine wp_loop_rounds 1 ?_
  rw [rounds_succ]
  go_wp2
  rw [rounds_succ]
  go_wp2
  refine wp_loop_rounds 1 ?_
  rw [rounds_succ]
  go_wp2
  rw [rounds_succ]
  go_wp2
  go_ret2
  exact ⟨rfl, by first | exact Below.refl _ _ | exact (Below.refl _ _).drewN _⟩

theorem res_int_int_err {fn : Func} {p q r : Tmp} (h : fn.results = #[.cell p 31, .cell q 31, .tmp r]) (tmps : Array Value) (w : World) (g k : Nat) (x y x' y' u : Value) (t t' : TypeId)
    (hp : tmps.getD p undef = .pointer (some ⟨g, 0, none⟩)) (hq : tmps.getD q undef = .pointer (some ⟨k, 0, none⟩)) (hr : tmps.getD r undef = u) (hg : w.heap[g]? = some (.cells #[x, y] t (0, 0))) (hk : w.heap[k]? = some (.cells #[x', y'] t' (0, 0))) :
    (results fn tmps).run Tryz.prog w = .ok (.tuple #[.agg #[x, y], .agg #[x', y'], u]) w := by
  have hp' : tmps[p]?.getD undef = .pointer (some ⟨g, 0, none⟩) := by simpa using hp
  have hq' : tmps[q]?.getD undef = .pointer (some ⟨k, 0, none⟩) := by simpa using hq
  have hr' : tmps[r]?.getD undef = u := by simpa using hr
  have r1 := run_loadVar_row (P := Tryz.prog) w g t 31 #[x, y] (0, 0) _ hg Tryz.underlying31 rfl (by kernel_rfl)
  have r2 := run_loadVar_row (P := Tryz.prog) w k t' 31 #[x', y'] (0, 0) _ hk Tryz.underlying31 rfl (by kernel_rfl)
  simp [results, h, hp', hq', hr', asAddr, r1, r2, Sem.run_bind, Result.andThen]

set_option maxRecDepth 100000 in
set_option maxHeartbeats 1000000 in
theorem Div_seven (u v : Value) (w : World) (hu : WI w u true 7) (hv : WI w v false 2) :
    Calls Tryz.prog 54 #[u, v] w fun e w' => ∃ x y, e = .returned (.tuple #[x, y, .int .i64 0]) ∧ WI w' x true 4 ∧ WI w' y false 1 ∧ Below w.heap.size w w' := by
  obtain ⟨d, rfl, hd⟩ := hu
  obtain ⟨e, rfl, he⟩ := hv
  have DV := fun W (hb : Below w.heap.size w W) => divide_any d e 7 2 W (hd.below hb) (he.below hb) (by omega)
  have e73 : 7 / 2 = 3 := rfl
  have e71 : 7 % 2 = 1 := rfl
  rw [e73, e71] at DV
  replace DV := Lib.hid DV
  have WO := Lib.hid (fun W => word_any 1 W (by omega))
  have PL := Lib.hid (fun W a b (ha : Dig W a 3) (hb : Dig W b 1) => plus_pos a b 3 1 4 W ha hb (by omega) (by omega) rfl (by omega))
  have MI := Lib.hid (fun W b (hl : Below w.heap.size w W) (hb : Dig W b 1) => minus_pos e b 2 1 1 W (he.below hl) hb (by omega) (by omega) rfl)
  have S1 : Hid (∀ W d, Dig W d 4 → Calls Tryz.prog 90 #[.bool true, d] W fun e w' => e = .returned (.agg #[.bool true, d]) ∧ Below W.heap.size W w') := Lib.hid (fun W d hd => signed_any true d 4 W hd)
  have S2 : Hid (∀ W d, Dig W d 1 → Calls Tryz.prog 90 #[.bool false, d] W fun e w' => e = .returned (.agg #[.bool false, d]) ∧ Below W.heap.size W w') := Lib.hid (fun W d hd => signed_any false d 1 W hd)
  obtain ⟨p, l, c, rfl⟩ := hd.slice
  obtain ⟨b, o, hx⟩ : ∃ b o, e = .slice (some ⟨b, o, none⟩) 1 1 := by
    obtain ⟨_, ⟨h, _⟩ | ⟨_, b, o, h, _⟩⟩ := he
    · omega
    · exact ⟨b, o, h⟩
  subst hx
  have L0 := Lib.hid ((((((LayX.nil w).push #[.bool true, .slice p l c] 31).push #[.bool false, .slice (some ⟨b, o, none⟩) 1 1] 31).push #[.bool false, .slice none 0 0] 31).push #[.bool false, .slice none 0 0] 31).push #[.bool false, .slice (some ⟨b, o, none⟩) 1 1] 31)
  clear hd he e73 e71
  go_enter Tryz.func54, Tryz.ntmps54
  go_wp2_with (go_at_call 14; go_in)
  refine (DV.out _ L0.out.1.2).mono ?_
  rintro e w1 ⟨x, y, rfl, hx, hy, hb⟩
  have L1 : Hid (Lay w [(#[.bool true, .slice p l c], 31), (#[.bool false, .slice (some ⟨b, o, none⟩) 1 1], 31), (#[.bool false, .slice none 0 0], 31), (#[.bool false, .slice none 0 0], 31), (#[.bool false, .slice (some ⟨b, o, none⟩) 1 1], 31)] w1) := Lib.hid (L0.out.1.step hb)
  obtain ⟨yb, yo, rfl⟩ : ∃ b o, y = .slice (some ⟨b, o, none⟩) 1 1 := by
    obtain ⟨_, ⟨h, _⟩ | ⟨_, b, o, h, _⟩⟩ := hy
    · omega
    · exact ⟨b, o, h⟩
  obtain ⟨xp, xl, xc, rfl⟩ := hx.slice
  have Hx := Lib.hid hx
  have Hy := Lib.hid hy
  obtain ⟨a0, a1, _, _⟩ := cells2 (L1.out.row 0 w.heap.size rfl rfl)
  obtain ⟨b0, b1, _, _⟩ := cells2 (L1.out.row 1 (w.heap.size + 1) rfl rfl)
  clear hx hy hb L0 DV
  go_wp2_with fail
  refine (WO.out _).mono ?_
  rintro e w2 ⟨z, rfl, hz, hb⟩
  have L2 := Lib.hid (L1.out.step hb)
  have Hz := Lib.hid hz
  replace Hx := Lib.hid (Hx.out.below hb)
  replace Hy := Lib.hid (Hy.out.below hb)
  clear hz hb L1 a0 a1 b0 b1
  go_wp2_with fail
  refine (PL.out _ _ _ Hx.out Hz.out).mono ?_
  rintro e w3 ⟨q, rfl, hq, hb⟩
  have L3 := Lib.hid (L2.out.step hb)
  have Hq := Lib.hid hq
  replace Hy := Lib.hid (Hy.out.below hb)
  obtain ⟨a0, a1, _, _⟩ := cells2 (L3.out.row 0 w.heap.size rfl rfl)
  obtain ⟨b0, b1, _, _⟩ := cells2 (L3.out.row 1 (w.heap.size + 1) rfl rfl)
  clear hq hb L2 Hx Hz WO PL
  go_wp2_with fail
  refine (MI.out _ _ L3.out.2 Hy.out).mono ?_
  rintro e w4 ⟨r, rfl, hr, hb⟩
  have L4 := Lib.hid (L3.out.step hb)
  have Hr := Lib.hid hr
  replace Hq := Lib.hid (Hq.out.below hb)
  clear hr hb L3 Hy MI a0 a1 b0 b1
  obtain ⟨a0, a1, _, _⟩ := cells2 (L4.out.row 0 w.heap.size rfl rfl)
  obtain ⟨b0, b1, _, _⟩ := cells2 (L4.out.row 1 (w.heap.size + 1) rfl rfl)
  go_wp2_with fail
  refine (S1.out _ _ Hq.out).mono ?_
  rintro e w5 ⟨rfl, hb⟩
  have L5 := Lib.hid (L4.out.step hb)
  replace Hq := Lib.hid (Hq.out.below hb)
  replace Hr := Lib.hid (Hr.out.below hb)
  clear hb L4 a0 a1 b0 b1
  go_wp2_with fail
  refine (S2.out _ _ Hr.out).mono ?_
  rintro e w6 ⟨rfl, hb⟩
  have L6 := Lib.hid (L5.out.step hb)
  replace Hq := Lib.hid (Hq.out.below hb)
  replace Hr := Lib.hid (Hr.out.below hb)
  clear hb L5
  obtain ⟨qp, ql, qc, rfl⟩ := Hq.out.slice
  obtain ⟨rp, rl, rc, rfl⟩ := Hr.out.slice
  obtain ⟨a0, a1, a2, a3⟩ := cells2 (L6.out.row 2 (w.heap.size + 1 + 1) rfl rfl)
  obtain ⟨b0, b1, b2, b3⟩ := cells2 (L6.out.row 3 (w.heap.size + 1 + 1 + 1) rfl rfl)
  go_wp2_with fail
  have LA := L6.out.set2 2 (w.heap.size + 1 + 1) rfl rfl (.bool true) (.slice qp ql qc)
  have o1 := off2 (L6.out.row 2 (w.heap.size + 1 + 1) rfl rfl)
  have LB := LA.set2 3 (w.heap.size + 1 + 1 + 1) rfl rfl (.bool false) (.slice rp rl rc)
  have o2 := off2 (LA.row 3 (w.heap.size + 1 + 1 + 1) rfl rfl)
  refine bodyPost_ret (res_int_int_err rfl _ _ (w.heap.size + 1 + 1) (w.heap.size + 1 + 1 + 1) _ _ _ _ _ _ _ (by rfl) (by rfl) (by rfl) (LB.row 2 _ rfl rfl) (LB.row 3 _ rfl rfl)) rfl ?_
  exact ⟨_, _, rfl, ⟨_, rfl, (Hq.out.set2 o1 _ _).set2 o2 _ _⟩, ⟨_, rfl, (Hr.out.set2 o1 _ _).set2 o2 _ _⟩, LB.2⟩
end Go.Proofs.YtamhlkjfpdkhoaaGreatDoor
