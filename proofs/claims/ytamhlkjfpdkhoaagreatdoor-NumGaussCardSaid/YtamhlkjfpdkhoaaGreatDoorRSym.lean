/- WALK of the reference's Symbol. -/
import Derived.Test.YtamhlkjfpdkhoaaGreatDoorArithB
import Derived.Test.YtamhlkjfpdkhoaaGreatDoorInvB
import Derived.Outline
namespace Go.Proofs.YtamhlkjfpdkhoaaGreatDoor
open Go.RowKit

def Tri (x : Int) : Prop := x = 0 ∨ x = 1 ∨ x = -1

theorem Tri.mul {x y : Int} (hx : Tri x) (hy : Tri y) : Tri (x * y) := by
  unfold Tri at *
  rcases hx with rfl | rfl | rfl <;> rcases hy with rfl | rfl | rfl <;> simp

theorem Tri.pow {x : Int} (hx : Tri x) : ∀ k, Tri (x ^ k)
  | 0 => by simp [Tri]
  | k + 1 => by rw [Int.pow_succ]; exact (Tri.pow hx k).mul hx

theorem leg_tri (a p : Nat) : Tri (leg a p) := by
  unfold leg; split
  · exact .inl rfl
  · exact .inr (sgn_cases _)

theorem jac_tri (a : Nat) : ∀ l, Tri (jac a l)
  | [] => by simp [jac, Tri]
  | (p, k) :: l => by simp only [jac]; exact ((leg_tri a p).pow k).mul (jac_tri a l)

theorem J_tri (a n : Nat) : Tri (J a n) := jac_tri a _

theorem Tri.bd {x : Int} (h : Tri x) : -1 ≤ x ∧ x ≤ 1 := by unfold Tri at h; omega

set_option maxRecDepth 100000 in
set_option maxHeartbeats 1000000 in
theorem RSymbol_any (a : Int) (r n : Nat) (w : World) (hn : 1 ≤ n) (hn2 : n ≤ 1000000000000) (ho : n % 2 = 1) (hr : a % n = (r : Int)) :
    Calls Tryz.prog 78 #[.int .i64 a, .int .i64 n] w fun e w' => e = .returned (.int .i64 (J r n)) ∧ Below w.heap.size w w' := by
  have FA := Lib.hid (fun W => RFactors_any n W (by omega) hn2)
  have HO := Lib.hid ho
  have HR := Lib.hid hr
  clear ho hr
  go_enter Tryz.func78, Tryz.ntmps78
  go_wp2_with fail
  refine (FA.out _).mono ?_
  rintro e w3 ⟨L, v, hL, hf, rfl, hown, hb⟩
  have HP := Lib.hid (prs_of hown)
  have HB := Lib.hid hb
  have HL := Lib.hid hL
  have HF := Lib.hid hf
  clear hL hf hown hb FA
  obtain ⟨p, c, hv, hcells⟩ := HP.out
  subst hv
  have HC := Lib.hid hcells
  clear hcells HP
  have hLlen : L.length < 40 := rise_short HL.out (by rw [HF.out]; exact hn2)
  have HJ : Hid (J r n = jac r L) := Lib.hid (by unfold J; rw [fl_eq HL.out HF.out])
  go_wp2_with fail
  go_loop [5, 7] (fun f i => ∃ (k : Nat) (o : Int), k ≤ L.length ∧ i = .int .i64 k ∧ f = .int .i64 o ∧ Hid (o = jac r (L.take k)) ∧ (-1 ≤ o ∧ o ≤ 1)) (fun _ i => L.length - (intOf i).toNat)
  case atStart => exact ⟨0, 1, by omega, rfl, rfl, Lib.hid (by simp [jac]), by omega⟩
  case round =>
    obtain ⟨k, o, hk, rfl, rfl, hO, hO1, hO2⟩ := hrel
    by_cases hlt : k < L.length
    · obtain ⟨⟨q, e⟩, hqe⟩ : ∃ x, L[k]? = some x := ⟨_, List.getElem?_eq_getElem hlt⟩
      obtain ⟨hq2, hqn, hqd, he1, heq, hpe⟩ := rise_get_le HL.out hqe
      obtain ⟨hpr, _, _⟩ := rise_get (b := 1) HL.out hqe
      have hqo : q % 2 = 1 := odds_mem (odds_of HL.out (by rw [HF.out]; exact HO.out)) hqe
      rw [HF.out] at hqn hqd hpe
      have JT := Lib.hid (jac_take (a := r) hqe)
      have hrq : a % (q : Int) = ((r % q : Nat) : Int) := by
        rw [Int.natCast_emod, ← HR.out]
        exact (Int.emod_emod_of_dvd a (Int.ofNat_dvd.2 hqd)).symm
      have hlr : leg (r % q) q = leg r q := leg_congr (Nat.mod_mod _ _)
      have LP := leg_power (a := r % q) hpr hqo
      rw [hlr, Nat.mod_mod] at LP
      have PM := Lib.hid (fun W => PowerMod_any a (r % q) ((q - 1) / 2) q W hrq (by omega) (by omega) (by omega))
      have RE := Lib.hid (fun W => Rest_any a q W (by omega) (by omega))
      rw [hrq] at RE
      obtain ⟨g, rfl, c0, c1⟩ := HC.out k q e hqe
      have c0' : w3.cell? ⟨g, k * 2, none⟩ = some (.int .i64 q) := by rw [Nat.mul_comm]; exact c0
      have c1' : w3.cell? ⟨g, k * 2 + 1, none⟩ = some (.int .i64 e) := by rw [Nat.mul_comm]; exact c1
      have eH : ((q : Int) - 1) / 2 = (((q - 1) / 2 : Nat) : Int) := by omega
      obtain ⟨s, hs⟩ : ∃ s, leg r q = s := ⟨_, rfl⟩
      obtain ⟨z, hz⟩ : ∃ z, (r % q) ^ ((q - 1) / 2) % q = z := ⟨_, rfl⟩
      obtain ⟨y, hy⟩ : ∃ y, r % q = y := ⟨_, rfl⟩
      rw [hs, hz, hy] at LP
      rw [hs] at JT
      rw [hz] at PM
      rw [hy] at RE
      have hst := (leg_tri r q).bd
      rw [hs] at hst
      have HS := Lib.hid (leg_tri r q)
      rw [hs] at HS
      have HOt := Lib.hid (jac_tri r (L.take k))
      rw [← hO.out] at HOt
      have HLP := Lib.hid LP
      have q3 : 3 ≤ q := by omega
      clear hqe hs hz hy LP hrq hlr hpr hqo hqd c0 c1
      rcases HLP.out with ⟨h1, h2, h3⟩ | ⟨h1, h2, h3⟩ | ⟨h1, h2, h3⟩
      · subst h2
        subst h3
        have b1 : ((y : Int) == 0) = false := by simpa using h1
        clear h1 HLP
        go_wp2_with (first | (go_at_call 72; refine (PM.out _).mono ?_; rintro _ w4 ⟨rfl, rfl⟩) | (go_at_call 137; refine (RE.out _).mono ?_; rintro _ w5 ⟨rfl, rfl⟩))
        go_loop [5, 10] (fun f kk => ∃ (j : Nat) (x : Int), j ≤ e ∧ kk = .int .i64 j ∧ f = .int .i64 x ∧ Hid (x = o * (1 : Int) ^ j) ∧ (-1 ≤ x ∧ x ≤ 1)) (fun _ kk => e - (intOf kk).toNat)
        case atStart => exact ⟨0, o, by omega, rfl, rfl, Lib.hid (by simp), hO1, hO2⟩
        case round =>
          obtain ⟨j, x, hj, rfl, rfl, hX, hX1, hX2⟩ := hrel
          by_cases hje : j < e
          · have HX := Lib.hid (sgn_step o hX.out)
            have HY := (HOt.out.mul (HS.out.pow (j + 1))).bd
            rw [← HX.out] at HY
            have HY1 := HY.1
            have HY2 := HY.2
            clear HY hX
            go_wp2
            go_round
            case rel => exact ⟨j + 1, _, by omega, by go_num, rfl, Lib.hid (by have h := HX.out; rw [Int.mul_one] at h; exact h), by omega, by omega⟩
            case measure => simp [intOf]; omega
          · obtain rfl : j = e := by omega
            have HN : Hid (x = jac r (L.take (k + 1))) := Lib.hid (by rw [JT.out, ← hO.out]; exact hX.out)
            clear hX
            go_wp2
            go_round
            case rel => exact ⟨k + 1, x, by omega, by go_num, rfl, HN, hX1, hX2⟩
            case measure => simp [intOf]; omega
      · subst h2
        subst h3
        have b1 : ((y : Int) == 0) = false := by simpa using h1
        have eZ : ((q - 1 : Nat) : Int) = (q : Int) - 1 := by omega
        have b2 : ((q : Int) - 1 == 1) = false := by simp; omega
        rw [eZ] at PM
        clear h1 HLP eZ
        go_wp2_with (first | (go_at_call 72; refine (PM.out _).mono ?_; rintro _ w4 ⟨rfl, rfl⟩) | (go_at_call 137; refine (RE.out _).mono ?_; rintro _ w5 ⟨rfl, rfl⟩))
        go_loop [5, 10] (fun f kk => ∃ (j : Nat) (x : Int), j ≤ e ∧ kk = .int .i64 j ∧ f = .int .i64 x ∧ Hid (x = o * (-1 : Int) ^ j) ∧ (-1 ≤ x ∧ x ≤ 1)) (fun _ kk => e - (intOf kk).toNat)
        case atStart => exact ⟨0, o, by omega, rfl, rfl, Lib.hid (by simp), hO1, hO2⟩
        case round =>
          obtain ⟨j, x, hj, rfl, rfl, hX, hX1, hX2⟩ := hrel
          by_cases hje : j < e
          · have HX := Lib.hid (sgn_step o hX.out)
            have HY := (HOt.out.mul (HS.out.pow (j + 1))).bd
            rw [← HX.out] at HY
            have HY1 := HY.1
            have HY2 := HY.2
            clear HY hX
            go_wp2
            go_round
            case rel => exact ⟨j + 1, _, by omega, by go_num, rfl, Lib.hid (by have h := HX.out; rw [Int.mul_neg, Int.mul_one] at h; exact h), by omega, by omega⟩
            case measure => simp [intOf]; omega
          · obtain rfl : j = e := by omega
            have HN : Hid (x = jac r (L.take (k + 1))) := Lib.hid (by rw [JT.out, ← hO.out]; exact hX.out)
            clear hX
            go_wp2
            go_round
            case rel => exact ⟨k + 1, x, by omega, by go_num, rfl, HN, hX1, hX2⟩
            case measure => simp [intOf]; omega
      · subst h1
        subst h2
        subst h3
        have b1 : ((0 : Int) == (q : Int) - 1) = false := by simp; omega
        clear HLP
        go_wp2_with (first | (go_at_call 72; refine (PM.out _).mono ?_; rintro _ w4 ⟨rfl, rfl⟩) | (go_at_call 137; refine (RE.out _).mono ?_; rintro _ w5 ⟨rfl, rfl⟩))
        go_loop [5, 10] (fun f kk => ∃ (j : Nat) (x : Int), j ≤ e ∧ kk = .int .i64 j ∧ f = .int .i64 x ∧ Hid (x = o * (0 : Int) ^ j) ∧ (-1 ≤ x ∧ x ≤ 1)) (fun _ kk => e - (intOf kk).toNat)
        case atStart => exact ⟨0, o, by omega, rfl, rfl, Lib.hid (by simp), hO1, hO2⟩
        case round =>
          obtain ⟨j, x, hj, rfl, rfl, hX, hX1, hX2⟩ := hrel
          by_cases hje : j < e
          · have HX := Lib.hid (sgn_step o hX.out)
            have HY := (HOt.out.mul (HS.out.pow (j + 1))).bd
            rw [← HX.out] at HY
            have HY1 := HY.1
            have HY2 := HY.2
            clear HY hX
            go_wp2
            go_round
            case rel => exact ⟨j + 1, _, by omega, by go_num, rfl, Lib.hid (by have h := HX.out; rw [Int.mul_zero] at h; exact h), by omega, by omega⟩
            case measure => simp [intOf]; omega
          · obtain rfl : j = e := by omega
            have HN : Hid (x = jac r (L.take (k + 1))) := Lib.hid (by rw [JT.out, ← hO.out]; exact hX.out)
            clear hX
            go_wp2
            go_round
            case rel => exact ⟨k + 1, x, by omega, by go_num, rfl, HN, hX1, hX2⟩
            case measure => simp [intOf]; omega
    · have hkL : k = L.length := by omega
      subst hkL
      have HE : Hid (o = J r n) := Lib.hid (by rw [HJ.out, hO.out, List.take_length])
      clear hO
      go_wp2
      go_ret
      exact ⟨ret_int HE.out, HB.out⟩
end Go.Proofs.YtamhlkjfpdkhoaaGreatDoor
