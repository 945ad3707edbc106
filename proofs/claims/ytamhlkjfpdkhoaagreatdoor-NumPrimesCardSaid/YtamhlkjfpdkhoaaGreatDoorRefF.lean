/- WALK of the reference's Factors. -/
import Derived.Test.YtamhlkjfpdkhoaaGreatDoorArith
import Derived.Test.YtamhlkjfpdkhoaaGreatDoorPure
import Derived.Outline
namespace Go.Proofs.YtamhlkjfpdkhoaaGreatDoor
open Go.RowKit

/-- A list of pairs, as cells. -/
def pairs (L : List (Nat × Nat)) : List Value := L.flatMap fun a => [.int .i64 (a.1 : Int), .int .i64 (a.2 : Int)]

theorem pairs_snoc (l : List (Nat × Nat)) (p k : Nat) : pairs (l ++ [(p, k)]) = pairs l ++ [.int .i64 (p : Int), .int .i64 (k : Int)] := by simp [pairs]

theorem part_short {N p left : Nat} {l : List (Nat × Nat)} (h : Part N p left l) (hN : N ≤ 1000000000000) : l.length < 40 := by
  obtain ⟨h1, _, h3, _, h5⟩ := h
  refine rise_short h1 (Nat.le_trans ?_ hN)
  rw [← h3]
  exact Nat.le_mul_of_pos_right _ h5

theorem infoPair : (Tryz.prog.info? 114).map (fun i => (i.zero, i.size, i.bytes)) = some (some (.agg #[.int .i64 0, .int .i64 0]), 2, 16) := by kernel_rfl

set_option maxRecDepth 100000 in
set_option maxHeartbeats 1000000 in
theorem RFactors_any (N : Nat) (w : World) (h0 : 0 < N) (hN : N ≤ 1000000000000) :
    Calls Tryz.prog 79 #[.int .i64 N] w fun e w' => ∃ L v, Rise 1 L ∧ facs L = N ∧ e = .returned v ∧ w'.ownsRow w.heap.size 114 2 v L.length (pairs L) ∧ Below w.heap.size w w' := by
  go_enter Tryz.func79, Tryz.ntmps79
  go_wp2
  go_loopw [0, 3, 4] (fun n v p wr => ∃ left pp l, n = .int .i64 (left : Nat) ∧ p = .int .i64 (pp : Nat) ∧ Hid (Part N pp left l) ∧ (2 ≤ pp ∧ pp ≤ 1000001 ∧ left ≤ 1000000000000) ∧ Hid (wr.ownsRow w.heap.size 114 2 v l.length (pairs l)) ∧ Hid (Below w.heap.size w wr)) (fun _ _ p _ => 1000002 - (intOf p).toNat)
  case atStart => exact ⟨N, 2, [], rfl, rfl, Lib.hid (Part.start h0), ⟨by omega, by omega, hN⟩, Lib.hid ⟨rfl, .inl ⟨rfl, rfl⟩⟩, Lib.hid (Below.refl _ _)⟩
  case round =>
    obtain ⟨left, pp, l, rfl, rfl, hP, ⟨h2, hpp, hle⟩, hO, hB⟩ := hrel
    have hbd : pp * pp ≤ 1000001 * 1000001 := Nat.mul_le_mul hpp hpp
    have eP : (pp : Int) * (pp : Int) = ((pp * pp : Nat) : Int) := (Int.natCast_mul _ _).symm
    obtain ⟨sq, hsq⟩ : ∃ sq, pp * pp = sq := ⟨_, rfl⟩
    rw [hsq] at eP hbd
    have Hsq := Lib.hid hsq
    clear hsq
    obtain ⟨i0, hi, hz0, hz1, hz2⟩ := info_parts infoPair
    have len40 := part_short hP.out hN
    by_cases hlt : sq ≤ left
    · have hp6 : pp ≤ 1000000 := root_small (v := left) (by rw [Hsq.out]; exact hlt) hle
      go_wp2
      have HO2 := Lib.hid (hO)
      clear hO
      obtain ⟨wo, hwo⟩ : ∃ wo : World, wo = wr := ⟨_, rfl⟩
      subst hwo
      go_loop [0, 5] (fun n k => ∃ u j, n = .int .i64 (u : Nat) ∧ k = .int .i64 (j : Nat) ∧ Hid (pp ^ j * u = left) ∧ (0 < u ∧ u ≤ left ∧ j + u ≤ left)) (fun n _ => (intOf n).toNat)
      case atStart => exact ⟨left, 0, rfl, rfl, Lib.hid (by simp), by have := hP.out.2.2.2.2; omega, by omega, by omega⟩
      case round =>
        obtain ⟨u, j, rfl, rfl, hpu, hu0, hul, hju⟩ := hrel
        have eM : (u : Int) % (pp : Int) = ((u % pp : Nat) : Int) := by simp
        have eD : (u : Int) / (pp : Int) = ((u / pp : Nat) : Int) := by simp
        by_cases hd : u % pp = 0
        · have hb : ((u : Int) % (pp : Int) == 0) = true := by rw [eM, hd]; rfl
          obtain ⟨v, hv⟩ : ∃ v, u / pp = v := ⟨_, rfl⟩
          rw [hv] at eD
          have hvu : v < u := by rw [← hv]; exact Nat.div_lt_self hu0 h2
          have hv0 : 0 < v := by rcases Nat.eq_zero_or_pos v with h | h; (rw [h] at hv; have := Nat.div_add_mod u pp; rw [hv, hd] at this; simp at this; omega); exact h
          have hpv : Hid (pp ^ (j + 1) * v = left) := Lib.hid (by rw [← hpu.out, Nat.pow_succ, Nat.mul_assoc, ← hv, Nat.mul_div_cancel' (Nat.dvd_of_mod_eq_zero hd)])
          clear hv hd eM
          go_wp2
          go_round
          case rel => exact ⟨v, j + 1, rfl, by go_num, hpv, by omega, by omega, by omega⟩
          case measure => simp [intOf]; omega
        · have hb : ((u : Int) % (pp : Int) == 0) = false := by rw [eM]; simpa using (by omega : ¬ ((u % pp : Nat) : Int) = 0)
          have HD := Lib.hid (fun h : pp ∣ u => hd (Nat.mod_eq_zero_of_dvd h))
          clear hd eM eD
          by_cases hj : j = 0
          · subst hj
            have hres : Hid (Part N (pp + 1) u l) := Lib.hid (by have e := hpu.out; simp at e; subst e; exact hP.out.none HD.out)
            go_wp2
            go_roundw
            case rel => exact ⟨u, pp + 1, l, rfl, by go_num, hres, ⟨by omega, by omega, by omega⟩, HO2, hB⟩
            case measure => simp [intOf]; omega
          · have hj0 : 0 < j := by omega
            have hres : Hid (Part N (pp + 1) u (l ++ [(pp, j)])) := Lib.hid (hP.out.some h2 hj0 hpu.out HD.out)
            have eu := Lib.hid (pairs_snoc l pp j)
            go_wp2_with (at_builtin; refine wpList_append_own _ rfl _ _ 106 rfl w.heap.size 114 i0 (.agg #[.int .i64 0, .int .i64 0]) 2 16 Tryz.underlying106 hi hz0 hz1 hz2 rfl (by decide) _ _ _ rfl (HO2.out.alloc _) ⟨wo.heap.size, 0, none⟩ 1 1 [.int .i64 (pp : Int), .int .i64 (j : Int)] rfl rfl (cell_two_new _ _ _ _) (fun x hx => by simp at hx; rcases hx with rfl | rfl <;> rfl) (by unfold maxLen; omega) (by omega) (by have := hB.out.size; simp; omega) ?_; intro v' w1 hown' hgrow _; have HO3 := Lib.hid hown'; have HG := Lib.hid hgrow; clear hown' hgrow)
            go_roundw
            case rel => exact ⟨u, pp + 1, l ++ [(pp, j)], rfl, by go_num, hres, ⟨by omega, by omega, by omega⟩, Lib.hid (by rw [eu.out, List.length_append]; exact HO3.out), Lib.hid ((hB.out.alloc hB.out.size _).grown HG.out (by have := hB.out.size; simp; omega) fun k hk => (HO2.out.lt k hk).1)⟩
            case measure => simp [intOf]; omega
    · have hl := Lib.hid (hP.out.last h2 (by rw [Hsq.out]; omega))
      have h1 : 0 < left := hP.out.2.2.2.2
      have HO2 := Lib.hid hO
      clear hO
      by_cases h1 : 1 < left
      · have hres : Hid (Rise 1 (l ++ [(left, 1)]) ∧ facs (l ++ [(left, 1)]) = N) := Lib.hid (by rcases hl.out with ⟨h, _⟩ | ⟨_, h⟩; (exfalso; omega); exact h)
        have eu := Lib.hid (pairs_snoc l left 1)
        go_wp2_with (at_builtin; refine wpList_append_own _ rfl _ _ 106 rfl w.heap.size 114 i0 (.agg #[.int .i64 0, .int .i64 0]) 2 16 Tryz.underlying106 hi hz0 hz1 hz2 rfl (by decide) _ _ _ rfl (HO2.out.alloc _) ⟨wr.heap.size, 0, none⟩ 1 1 [.int .i64 (left : Int), .int .i64 1] rfl rfl (cell_two_new _ _ _ _) (fun x hx => by simp at hx; rcases hx with rfl | rfl <;> rfl) (by unfold maxLen; omega) (by omega) (by have := hB.out.size; simp; omega) ?_; intro v' w1 hown' hgrow _; have HO3 := Lib.hid hown'; have HG := Lib.hid hgrow; clear hown' hgrow)
        go_ret
        exact ⟨l ++ [(left, 1)], _, hres.out.1, hres.out.2, rfl, by rw [eu.out, List.length_append]; exact HO3.out, (hB.out.alloc hB.out.size _).grown HG.out (by have := hB.out.size; simp; omega) fun k hk => (HO2.out.lt k hk).1⟩
      · have hres : Hid (Rise 1 l ∧ facs l = N) := Lib.hid (by rcases hl.out with ⟨_, h⟩ | ⟨h, _⟩; exact h; (exfalso; omega))
        go_wp2
        go_ret
        exact ⟨l, _, hres.out.1, hres.out.2, rfl, HO2.out, hB.out⟩
end Go.Proofs.YtamhlkjfpdkhoaaGreatDoor
