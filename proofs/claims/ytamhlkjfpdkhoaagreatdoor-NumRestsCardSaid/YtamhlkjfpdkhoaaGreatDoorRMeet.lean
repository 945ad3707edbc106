/- WALK of the reference's Meet. -/
import Derived.Test.YtamhlkjfpdkhoaaGreatDoorInvB
import Derived.Test.YtamhlkjfpdkhoaaGreatDoorPower
import Derived.Outline
import Derived.IntWalk
import Derived.Deep.RegionHeld3
namespace Go.Proofs.YtamhlkjfpdkhoaaGreatDoor
open Go.RowKit

set_option maxRecDepth 100000 in
set_option maxHeartbeats 1000000 in
theorem RMeet_any (a b : Int) (r1 r2 m n : Nat) (w : World) (h1 : a % m = (r1 : Int)) (h2 : b % n = (r2 : Int)) (hm : 1 ≤ m) (hm2 : m ≤ 1000000000000) (hn : 1 ≤ n) (hn2 : n ≤ 1000000000000) :
    Calls Tryz.prog 74 #[.int .i64 a, .int .i64 m, .int .i64 b, .int .i64 n] w fun e w' => Met r1 r2 m n e ∧ Below w.heap.size w w' := by
  have GC := fun W => GcdInt_any m n W hm2 hn2
  obtain ⟨d, hd⟩ : ∃ d, Nat.gcd m n = d := ⟨_, rfl⟩
  have dm : d ∣ m := hd ▸ Nat.gcd_dvd_left m n
  have dn : d ∣ n := hd ▸ Nat.gcd_dvd_right m n
  have hd0 : 0 < d := hd ▸ Nat.gcd_pos_of_pos_left n (by omega)
  have hdn : d ≤ n := Nat.le_of_dvd (by omega) dn
  have hco : Nat.gcd (m / d) (n / d) = 1 := by rw [Nat.gcd_div dm dn, hd, Nat.div_self hd0]
  rw [hd] at GC
  unfold Met
  rw [hd]
  replace GC := Lib.hid GC
  clear hd
  have hr1 : r1 < m := by have := Int.emod_lt_of_pos a (b := (m : Int)) (by omega); omega
  have hr2 : r2 < n := by have := Int.emod_lt_of_pos b (b := (n : Int)) (by omega); omega
  obtain ⟨m', hm'⟩ : ∃ m', m / d = m' := ⟨_, rfl⟩
  obtain ⟨own, hown⟩ : ∃ own, n / d = own := ⟨_, rfl⟩
  have hmd : m = d * m' := by rw [← hm']; exact (Nat.mul_div_cancel' dm).symm
  have hnd : n = d * own := by rw [← hown]; exact (Nat.mul_div_cancel' dn).symm
  have E1 : (m : Int) / (d : Int) = (m' : Int) := by rw [← hm']; simp
  have E2 : (n : Int) / (d : Int) = (own : Int) := by rw [← hown]; simp
  have E3 : (1000000000000 : Int) / (n : Int) = ((1000000000000 / n : Nat) : Int) := by simp
  rw [hm', hown] at hco ⊢
  have hm'0 : 0 < m' := by rcases Nat.eq_zero_or_pos m' with h | h; (subst h; simp at hmd; omega); exact h
  have hown0 : 0 < own := by rcases Nat.eq_zero_or_pos own with h | h; (subst h; simp at hnd; omega); exact h
  have hm'l : m' ≤ m := by rw [← hm']; exact Nat.div_le_self _ _
  have hownl : own ≤ n := by rw [← hown]; exact Nat.div_le_self _ _
  have hmax : 1000000000000 / n ≤ 1000000000000 := Nat.div_le_self _ _
  have hmaxn : 1000000000000 / n * n ≤ 1000000000000 := Nat.div_mul_le_self _ _
  obtain ⟨mx, hmx⟩ : ∃ mx, 1000000000000 / n = mx := ⟨_, rfl⟩
  rw [hmx] at E3 hmax hmaxn ⊢
  have Hmd := Lib.hid hmd
  have Hnd := Lib.hid hnd
  have Hmaxn := Lib.hid hmaxn
  have Hco := Lib.hid hco
  have R1 := Lib.hid (fun W => Rest_any a m W (by omega) (by omega))
  have R2 := Lib.hid (fun W => Rest_any b n W (by omega) (by omega))
  rw [h1] at R1
  rw [h2] at R2
  clear hmd hnd hm' hown hmx hmaxn dm dn hco h1 h2
  have hdm : d ≤ m := by rw [Hmd.out]; exact Nat.le_mul_of_pos_right _ hm'0
  by_cases hlong : mx < m'
  · go_enter Tryz.func74, Tryz.ntmps74
    go_wp2_with fail
    refine (GC.out _).mono ?_
    rintro e w1 ⟨rfl, hdr⟩
    have Hdr := Lib.hid hdr
    clear hdr
    go_wp2_with fail
    go_quiet (fail)
    go_wp2
    go_ret3
    exact ⟨.inl ⟨hlong, rfl⟩, (Hdr.out.drewN _).below _⟩
  · have hmle : m' * n ≤ 1000000000000 := by
      have h1 : m' * n ≤ mx * n := Nat.mul_le_mul_right _ (by omega)
      have := Hmaxn.out
      omega
    have hallE : m * own = m' * n := by rw [Hmd.out, Hnd.out, Nat.mul_comm d m', Nat.mul_assoc]
    have E4 : (m' : Int) * (n : Int) = ((m' * n : Nat) : Int) := (Int.natCast_mul _ _).symm
    have hall0 : 0 < m' * n := Nat.mul_pos hm'0 (by omega)
    obtain ⟨al, hal⟩ : ∃ al, m' * n = al := ⟨_, rfl⟩
    rw [hal] at E4 hmle hallE hall0
    have Hal := Lib.hid hallE
    clear hal hallE
    by_cases hdv : (d : Int) ∣ (r2 : Int) - r1
    · obtain ⟨q, hq⟩ := hdv
      have T1 : (((r2 : Int) - (r1 : Int)).tmod (d : Int) != 0) = false := by
        rw [hq, Int.mul_tmod_right]; rfl
      have T2 : ((r2 : Int) - (r1 : Int)).tdiv (d : Int) = q := by
        rw [hq]; exact Int.mul_tdiv_cancel_left _ (by omega)
      have hq1 : -1000000000000 ≤ q ∧ q ≤ 1000000000000 := by
        have a1 : d * q.natAbs ≤ 1000000000000 := by
          have := congrArg Int.natAbs hq
          rw [Int.natAbs_mul, Int.natAbs_natCast] at this
          omega
        have a2 : q.natAbs ≤ d * q.natAbs := Nat.le_mul_of_pos_left _ hd0
        omega
      obtain ⟨hq1, hq2⟩ := hq1
      have Hq := Lib.hid hq
      clear hq
      obtain ⟨q0, hq0⟩ : ∃ q0 : Nat, q % (own : Int) = q0 := ⟨(q % (own : Int)).toNat, by have := Int.emod_nonneg q (b := (own : Int)) (by omega); omega⟩
      have hq0l : q0 < own := by have := Int.emod_lt_of_pos q (b := (own : Int)) (by omega); omega
      obtain ⟨m0, hm0⟩ : ∃ m0, m' % own = m0 := ⟨_, rfl⟩
      have hg0 : Nat.gcd m0 own = 1 := by rw [← hm0, Nat.gcd_comm, Nat.gcd_comm, ← Nat.gcd_rec, Nat.gcd_comm]; exact Hco.out
      have IV := Lib.hid (fun W => RInverse_any (m' : Int) m0 own W (by omega) (by omega) (by rw [← hm0]; simp))
      have R3 := fun W => Rest_any q own W (by omega) (by omega)
      rw [hq0] at R3
      replace R3 := Lib.hid R3
      have HM0 := Lib.hid hm0
      have Hq0 := Lib.hid hq0
      clear hm0 hq0
      have E1t : (m : Int).tdiv (d : Int) = m' := by rw [Int.tdiv_eq_ediv_of_nonneg (by omega)]; exact E1
      have E2t : (n : Int).tdiv (d : Int) = own := by rw [Int.tdiv_eq_ediv_of_nonneg (by omega)]; exact E2
      have E1w : IntKind.i64.wrap (m' : Int) = m' := IntWalk.i64_in _ (by omega)
      have E2w : IntKind.i64.wrap (own : Int) = own := IntWalk.i64_in _ (by omega)
      have Edz : ((d : Int) == 0) = false := by simp; omega
      have Edn : ¬ (d : Int) = 0 := by omega
      have Ed0 : ¬ d = 0 := by omega
      have Ed1 : (d == 0) = false := by simp; omega
      go_enter Tryz.func74, Tryz.ntmps74
      go_wp2_with fail
      refine (GC.out _).mono ?_
      rintro e w1 ⟨rfl, hdr⟩
      have Hdr := Lib.hid hdr
      clear hdr
      go_wp2_with fail
      go_quiet (fail)
      go_wp2_with fail
      refine (R1.out _).mono ?_
      rintro e w2 ⟨rfl, hw2⟩
      subst hw2
      go_wp2_with fail
      refine (R2.out _).mono ?_
      rintro e w3 ⟨rfl, hw3⟩
      subst hw3
      go_wp2_with fail
      replace Hdr := Lib.hid ((Hdr.out.drewN nq).below w.heap.size)
      replace Hdr := Lib.hid (Hdr.out.drew)
      generalize w1.drewN nq = v1 at *
      go_region_held3 (fun W => True) (trivial) (first
        | (go_at_call 73; refine (IV.out _).mono ?_; rintro e w4 ⟨hiv, hb4⟩; rcases hiv with ⟨hne, _⟩ | ⟨_, x, rfl, hxo, hxe⟩; exact absurd hg0 hne; have HB4 := Lib.hid (Hdr.out.trans (hb4.mono Hdr.out.size)); have Hxe := Lib.hid hxe; clear hb4 hxe))
      have Qw : IntKind.i64.wrap q = q := IntWalk.i64_in _ (by omega)
      all_goals
        go_wp2_with fail
        have hst : q0 * x % own < own := Nat.mod_lt _ hown0
        have PR := fun W => product_any q0 x own W (by omega) (by omega) hq0l (by omega)
        obtain ⟨st, hste⟩ : ∃ st, q0 * x % own = st := ⟨_, rfl⟩
        rw [hste] at hst PR
        replace PR := Lib.hid PR
        have Hste := Lib.hid hste
        have E8 : (m : Int) * (st : Int) = ((m * st : Nat) : Int) := (Int.natCast_mul _ _).symm
        have hms : m * st + m ≤ al := by
          rw [← Hal.out]
          have : m * (st + 1) ≤ m * own := Nat.mul_le_mul_left _ hst
          rw [Nat.mul_succ] at this; exact this
        obtain ⟨ms, hmse⟩ : ∃ ms, m * st = ms := ⟨_, rfl⟩
        rw [hmse] at E8 hms
        have Hmse := Lib.hid hmse
        have hX : (r1 + ms) % al = r1 + ms := Nat.mod_eq_of_lt (by omega)
        have R4 := fun W => Rest_any ((r1 : Int) + ms) al W (by omega) (by omega)
        have eX : ((r1 : Int) + ms) % (al : Int) = ((r1 + ms : Nat) : Int) := by rw [← Int.natCast_add, ← Int.natCast_emod, hX]
        rw [eX] at R4
        replace R4 := Lib.hid R4
        clear hste hmse hX eX
        go_quiet ((first | (go_at_call 137; exact Calls.quiet_of_same ((R3.out _).mono fun _ _ h => ⟨h.1, h.2.symm⟩)) | (go_at_call 138; exact Calls.quiet_of_same ((PR.out _).mono fun _ _ h => ⟨h.1, h.2.symm⟩))))
        go_wp2_with fail
        refine (R4.out _).mono ?_
        rintro e w5 ⟨rfl, hw5⟩
        subst hw5
        go_wp2_with fail
        go_ret3
        refine ⟨.inr (.inr ⟨by omega, ⟨q, Hq.out⟩, r1 + ms, ret_three rfl ?_ rfl, ?_, ?_, ?_⟩), HB4.out.trans (Drew.below ⟨_, rfl⟩ _)⟩
        · rw [Hal.out]
        · rw [Hal.out]; omega
        · rw [← Hmse.out, Nat.add_mul_mod_self_left, Nat.mod_eq_of_lt hr1]
        · have hxd : (n : Int) ∣ (m : Int) * x - d := by
            have h1 : m' * x % own = 1 % own := by rw [← Hxe.out, ← HM0.out, Nat.mod_mul_mod]
            have h2 : ((m' * x : Nat) : Int) % (own : Int) = ((1 : Nat) : Int) % (own : Int) := by
              have := congrArg (fun z : Nat => (z : Int)) h1
              simpa using this
            have h4 : (((m' * x : Nat) : Int) - (1 : Nat)) % (own : Int) = 0 := Int.emod_eq_emod_iff_emod_sub_eq_zero.1 h2
            obtain ⟨z, hz⟩ := Int.dvd_of_emod_eq_zero h4
            refine ⟨z, ?_⟩
            rw [Hmd.out, Hnd.out, Int.natCast_mul, Int.natCast_mul, Int.mul_assoc, ← Int.natCast_mul m' x, Int.mul_assoc, ← hz, Int.mul_sub]
            simp
          have hst2 : (own : Int) ∣ q * x - st := by
            apply dvd_of_emod
            rw [Int.mul_emod, Hq0.out]
            have ex : (x : Int) % (own : Int) = x := by rw [← Int.natCast_emod, Nat.mod_eq_of_lt hxo]
            rw [ex, ← Int.natCast_mul, ← Int.natCast_emod, Hste.out]
          have hfin := meet_math (r1 := r1) (r2 := r2) hd0 Hmd.out Hnd.out hxd Hq.out hst2
          have hX : ((r1 + ms : Nat) : Int) = (r1 : Int) + m * st := by rw [Int.natCast_add, E8]
          rw [← hX] at hfin
          have := emod_of_dvd hfin (by omega) (by omega)
          exact_mod_cast this
    · have T1 : (((r2 : Int) - (r1 : Int)).tmod (d : Int) != 0) = true := by
        rw [bne_iff_ne]; intro h
        exact hdv (Int.dvd_of_tmod_eq_zero h)
      go_enter Tryz.func74, Tryz.ntmps74
      go_wp2_with fail
      refine (GC.out _).mono ?_
      rintro e w1 ⟨rfl, hdr⟩
      have Hdr := Lib.hid hdr
      clear hdr
      go_wp2_with fail
      go_quiet (fail)
      go_wp2_with fail
      refine (R1.out _).mono ?_
      rintro e w2 ⟨rfl, hw2⟩
      subst hw2
      go_wp2_with fail
      refine (R2.out _).mono ?_
      rintro e w3 ⟨rfl, hw3⟩
      subst hw3
      go_wp2_with fail
      go_ret3
      exact ⟨.inr (.inl ⟨by omega, hdv, rfl⟩), (Hdr.out.drewN _).below _⟩
end Go.Proofs.YtamhlkjfpdkhoaaGreatDoor
