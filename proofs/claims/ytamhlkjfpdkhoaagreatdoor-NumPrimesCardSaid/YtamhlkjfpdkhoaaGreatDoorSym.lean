/- WALK of Symbol. -/
import Derived.Test.YtamhlkjfpdkhoaaGreatDoorArithB
import Derived.Test.YtamhlkjfpdkhoaaGreatDoorPure
import Derived.Outline
namespace Go.Proofs.YtamhlkjfpdkhoaaGreatDoor
open Go.RowKit

theorem Symbol_arg (a n : Int) (w : World) (h : ¬ (1 ≤ n ∧ n ≤ 1000000000000) ∨ n % 2 = 0) :
    Calls Tryz.prog 75 #[.int .i64 a, .int .i64 n] w fun e w' => e = .returned (.tuple #[.int .i64 0, .int .i64 1]) ∧ Drew w w' := by
  by_cases hm : 1 ≤ n ∧ n ≤ 1000000000000
  · have H : isMod n = true := isMod_yes hm.1 hm.2
    have h2 : n % 2 = 0 := by rcases h with h | h; exact absurd hm h; exact h
    have t2 : (n % 2 == 0) = true := by simp [h2]
    obtain ⟨hm1, hm2⟩ := hm
    clear h h2
    go_enter Tryz.func75, Tryz.ntmps75
    go_wp2_with (go_at_call 133; refine (isModulus_any _ _).mono ?_; rintro e w' ⟨rfl, rfl⟩)
    go_ret2
    exact ⟨rfl, Drew.refl _⟩
  · have H : isMod n = false := isMod_no hm
    clear h hm
    go_enter Tryz.func75, Tryz.ntmps75
    go_wp2_with (go_at_call 133; refine (isModulus_any _ _).mono ?_; rintro e w' ⟨rfl, rfl⟩)
    go_ret2
    exact ⟨rfl, Drew.refl _⟩

set_option maxRecDepth 100000 in
set_option maxHeartbeats 1000000 in
theorem Symbol_any (a : Int) (r n : Nat) (w : World) (hn : 1 ≤ n) (hn2 : n ≤ 1000000000000) (ho : n % 2 = 1) (hr : a % n = (r : Int)) :
    Calls Tryz.prog 75 #[.int .i64 a, .int .i64 n] w fun e w' => e = .returned (.tuple #[.int .i64 (J r n), .int .i64 0]) ∧ Drew w w' := by
  have H : isMod (n : Int) = true := isMod_yes (by omega) (by omega)
  have t2 : ((n : Int) % 2 == 0) = false := by
    have : ¬ (n : Int) % 2 = 0 := by omega
    simpa using this
  have hrn : r < n := by have := Int.emod_lt_of_pos a (b := (n : Int)) (by omega); omega
  have MO := fun W => modulo_any a n W (by omega) (by omega)
  rw [hr] at MO
  replace MO := Lib.hid MO
  have HO := Lib.hid ho
  clear hr ho
  go_enter Tryz.func75, Tryz.ntmps75
  go_wp2_with (first | (go_at_call 133; refine (isModulus_any _ _).mono ?_; rintro e w' ⟨rfl, rfl⟩) | (go_at_call 134; refine (MO.out _).mono ?_; rintro e w' ⟨rfl, rfl⟩))
  clear H t2
  go_loop [0, 1, 6] (fun x y s => ∃ (u v : Nat) (t : Int), x = .int .i64 (u : Nat) ∧ y = .int .i64 (v : Nat) ∧ s = .int .i64 t ∧ (-1 ≤ t ∧ t ≤ 1) ∧ (u ≤ 1000000000000 ∧ v ≤ 1000000000000 ∧ 1 ≤ v) ∧ Hid (v % 2 = 1) ∧ Hid (t * J u v = J r n)) (fun x _ _ => (intOf x).toNat)
  case atStart => exact ⟨r, n, 1, rfl, rfl, rfl, by omega, ⟨by omega, by omega, by omega⟩, HO, Lib.hid (by simp)⟩
  case round =>
    obtain ⟨u, v, t, rfl, rfl, rfl, ⟨ht1, ht2⟩, ⟨hu, hv, hv1⟩, hvo, hJ⟩ := hrel
    by_cases hu0 : 0 < u
    · go_wp2
      go_loop [0, 6] (fun x s => ∃ (u' : Nat) (t' : Int), x = .int .i64 (u' : Nat) ∧ s = .int .i64 t' ∧ (-1 ≤ t' ∧ t' ≤ 1) ∧ (0 < u' ∧ u' ≤ u) ∧ Hid (t' * J u' v = J r n)) (fun x _ => (intOf x).toNat)
      case atStart => exact ⟨u, t, rfl, rfl, by omega, by omega, hJ⟩
      case round =>
        obtain ⟨u', t', rfl, rfl, ⟨ht1', ht2'⟩, ⟨hu1, hu2⟩, hJ'⟩ := hrel
        by_cases he : u' % 2 = 0
        · have hb : ((u' : Int) % 2 == 0) = true := by have : (u' : Int) % 2 = 0 := by omega
                                                       simp [this]
          have hd : (u' : Int) / 2 = ((u' / 2 : Nat) : Int) := by omega
          have hst := Lib.hid (J_even (n := v) hvo.out he)
          obtain ⟨q, hq⟩ : ∃ q, u' / 2 = q := ⟨_, rfl⟩
          rw [hq] at hd hst
          have hq1 : 0 < q := by omega
          have hq2 : q < u' := by omega
          clear hq he
          have hv8 : (v : Int) % 8 = ((v % 8 : Nat) : Int) := by omega
          by_cases h3 : v % 8 = 3
          · have b3 : ((v : Int) % 8 == 3) = true := by rw [hv8, h3]; rfl
            have htw : Hid (-t' * J q v = J r n) := Lib.hid (by rw [← hJ'.out, hst.out]; unfold tw; rw [if_pos (.inl h3)]; grind)
            clear hv8 h3
            go_wp2
            go_round
            case rel => exact ⟨q, -t', rfl, rfl, by omega, by omega, htw⟩
            case measure => simp [intOf]; omega
          · have b3 : ((v : Int) % 8 == 3) = false := by rw [hv8]; simp; omega
            by_cases h5 : v % 8 = 5
            · have b5 : ((v : Int) % 8 == 5) = true := by rw [hv8, h5]; rfl
              have htw : Hid (-t' * J q v = J r n) := Lib.hid (by rw [← hJ'.out, hst.out]; unfold tw; rw [if_pos (.inr h5)]; grind)
              clear hv8 h3 h5
              go_wp2
              go_round
              case rel => exact ⟨q, -t', rfl, rfl, by omega, by omega, htw⟩
              case measure => simp [intOf]; omega
            · have b5 : ((v : Int) % 8 == 5) = false := by rw [hv8]; simp; omega
              have htw : Hid (t' * J q v = J r n) := Lib.hid (by rw [← hJ'.out, hst.out]; unfold tw; rw [if_neg (by omega)]; grind)
              clear hv8 h3 h5
              go_wp2
              go_round
              case rel => exact ⟨q, t', rfl, rfl, by omega, by omega, htw⟩
              case measure => simp [intOf]; omega
        · have hb : ((u' : Int) % 2 == 0) = false := by have : ¬ (u' : Int) % 2 = 0 := by omega
                                                        simpa using this
          have hfl := Lib.hid (J_flip (a := u') (n := v) (by omega) hvo.out)
          have hm : (v : Int) % (u' : Int) = ((v % u' : Nat) : Int) := by simp
          have hml : v % u' < u' := Nat.mod_lt _ hu1
          obtain ⟨z, hz⟩ : ∃ z, v % u' = z := ⟨_, rfl⟩
          rw [hz] at hm hml hfl
          have huo : Hid (u' % 2 = 1) := Lib.hid (by omega)
          have a4 : (u' : Int) % 4 = ((u' % 4 : Nat) : Int) := by omega
          have v4 : (v : Int) % 4 = ((v % 4 : Nat) : Int) := by omega
          clear hz he
          by_cases h1 : u' % 4 = 3
          · have b1 : ((u' : Int) % 4 == 3) = true := by rw [a4, h1]; rfl
            by_cases h2 : v % 4 = 3
            · have b2 : ((v : Int) % 4 == 3) = true := by rw [v4, h2]; rfl
              have htw : Hid (-t' * J z u' = J r n) := Lib.hid (by rw [← hJ'.out, hfl.out]; unfold rc; rw [if_pos ⟨h1, h2⟩]; grind)
              clear a4 v4 h1 h2
              go_wp2
              go_round
              case rel => exact ⟨z, u', -t', by rw [hm], rfl, rfl, by omega, by omega, huo, htw⟩
              case measure => simp [intOf]; omega
            · have b2 : ((v : Int) % 4 == 3) = false := by rw [v4]; simp; omega
              have htw : Hid (t' * J z u' = J r n) := Lib.hid (by rw [← hJ'.out, hfl.out]; unfold rc; rw [if_neg (by omega)]; grind)
              clear a4 v4 h1 h2
              go_wp2
              go_round
              case rel => exact ⟨z, u', t', by rw [hm], rfl, rfl, by omega, by omega, huo, htw⟩
              case measure => simp [intOf]; omega
          · have b1 : ((u' : Int) % 4 == 3) = false := by rw [a4]; simp; omega
            have htw : Hid (t' * J z u' = J r n) := Lib.hid (by rw [← hJ'.out, hfl.out]; unfold rc; rw [if_neg (by omega)]; grind)
            clear a4 v4 h1
            go_wp2
            go_round
            case rel => exact ⟨z, u', t', by rw [hm], rfl, rfl, by omega, by omega, huo, htw⟩
            case measure => simp [intOf]; omega
    · obtain rfl : u = 0 := by omega
      by_cases hv2 : 1 < v
      · have hz : Hid (J r n = 0) := Lib.hid (by rw [← hJ.out, J_zero hv2]; simp)
        go_wp2
        go_ret2
        exact ⟨by rw [hz.out]; rfl, Drew.refl _⟩
      · obtain rfl : v = 1 := by omega
        have hz : Hid (J r n = t) := Lib.hid (by rw [← hJ.out, J_one]; simp)
        go_wp2
        go_ret2
        exact ⟨by rw [hz.out]; rfl, Drew.refl _⟩
end Go.Proofs.YtamhlkjfpdkhoaaGreatDoor
