/- WALK of before of the reference: the order of slices.Compare. -/
import Derived.Test.YtodnfchkkgoabaaHCm
set_option linter.unusedVariables false
namespace Go.Proofs.Ytodnfchkkgoabaa
open Go.RowKit

theorem cI_lt {x y : Int} (h : x < y) : Lib.compareInt x y = -1 := by unfold Lib.compareInt; simp [h]
theorem cI_gt {x y : Int} (h : y < x) : Lib.compareInt x y = 1 := by unfold Lib.compareInt; simp [h, show ¬ x < y by omega]
theorem cI_eq (x : Int) : Lib.compareInt x x = 0 := by unfold Lib.compareInt; simp

set_option maxRecDepth 100000 in
set_option maxHeartbeats 1000000 in
theorem before_any (A B : List Int) (p q : Option Addr) (c d : Nat) (w : World) (hA : NI w p A) (hB : NI w q B) (la : A.length ≤ 1000) (lb : B.length ≤ 1000) :
    Calls Try.prog 53 #[.slice p A.length c, .slice q B.length d] w fun e w' => e = .returned (.bool (decide (cmpL A B < 0))) ∧ Below w.heap.size w w' := by
  obtain ⟨m, hm⟩ : ∃ m, A.length = m := ⟨_, rfl⟩
  obtain ⟨n, hn⟩ : ∃ n, B.length = n := ⟨_, rfl⟩
  have HM := Lib.hid hm
  have HN := Lib.hid hn
  have H1 := Lib.hid (fun X (hX : Below w.heap.size w X) i (hi : i < A.length) => (show ∃ g, p = some ⟨g, 0, none⟩ ∧ X.cell? ⟨g, i, none⟩ = some (.int .i64 (A.getD i 0)) from by
    obtain ⟨g, e, hc⟩ := hA i hi
    exact ⟨g, e, cellOf2 hX hc (cell_lt2 hc)⟩))
  have H2 := Lib.hid (fun X (hX : Below w.heap.size w X) i (hi : i < B.length) => (show ∃ g, q = some ⟨g, 0, none⟩ ∧ X.cell? ⟨g, i, none⟩ = some (.int .i64 (B.getD i 0)) from by
    obtain ⟨g, e, hc⟩ := hB i hi
    exact ⟨g, e, cellOf2 hX hc (cell_lt2 hc)⟩))
  rw [hm] at la ⊢
  rw [hn] at lb ⊢
  clear hm hn hA hB
  go_enter Try.func53, Try.ntmps53
  go_wp2_with fail
  go_loopw [5] (fun x wr => ∃ i : Nat, x = .int .i64 i ∧ i ≤ m ∧ i ≤ n ∧ Hid (cmpL (A.drop i) (B.drop i) = cmpL A B) ∧ Hid (Below w.heap.size w wr)) (fun x _ => m - (intOf x).toNat)
  case atStart => exact ⟨0, rfl, by omega, by omega, Lib.hid rfl, Lib.hid (Below.refl _ _)⟩
  case round =>
    obtain ⟨i, rfl, him, hin, heq, hb⟩ := hrel
    by_cases hlt : i < m
    · by_cases hlt2 : i < n
      · obtain ⟨g, rfl, c1⟩ := H1.out wr hb.out i (by rw [HM.out]; exact hlt)
        obtain ⟨g2, rfl, c2⟩ := H2.out wr hb.out i (by rw [HN.out]; exact hlt2)
        have HD := Lib.hid (cmpL_drop A B i (by rw [HM.out]; exact hlt) (by rw [HN.out]; exact hlt2))
        generalize A.getD i 0 = x at *
        generalize B.getD i 0 = y at *
        have bm : (i : Int) < (m : Int) := by omega
        have bn : (i : Int) < (n : Int) := by omega
        by_cases hxy : x = y
        · subst hxy
          have HE : Hid (cmpL (A.drop (i + 1)) (B.drop (i + 1)) = cmpL A B) := Lib.hid (by rw [← heq.out, HD.out, if_pos (cI_eq x)])
          clear heq HD
          go_wp2_with fail
          go_quiet (fail)
          go_wp2_with fail
          go_roundw
          case rel => exact ⟨i + 1, by go_num, by omega, by omega, HE, Lib.hid (below_drewN hb.out _)⟩
          case measure => simp [intOf]; omega
        · have q0 : (x != y) = true := by simpa using hxy
          by_cases hl : x < y
          · have HE : Hid (decide (cmpL A B < 0) = true) := Lib.hid (by rw [← heq.out, HD.out, cI_lt hl]; rfl)
            have q1 : decide (x < y) = true := decide_eq_true hl
            clear heq HD
            go_wp2_with fail
            go_quiet (fail)
            go_wp2_with fail
            go_quiet (fail)
            go_wp2_with fail
            go_ret
            exact ⟨by rw [HE.out]; rfl, below_drewN (below_drewN hb.out _) _⟩
          · have HE : Hid (decide (cmpL A B < 0) = false) := Lib.hid (by rw [← heq.out, HD.out, cI_gt (show y < x by omega)]; rfl)
            have q1 : decide (x < y) = false := decide_eq_false hl
            clear heq HD
            go_wp2_with fail
            go_quiet (fail)
            go_wp2_with fail
            go_quiet (fail)
            go_wp2_with fail
            go_ret
            exact ⟨by rw [HE.out]; rfl, below_drewN (below_drewN hb.out _) _⟩
      · have HE : Hid (decide (cmpL A B < 0) = false) := Lib.hid (by rw [← heq.out, cmpL_end1 A B i (by rw [HM.out]; exact hlt) (by rw [HN.out]; omega)]; rfl)
        have hmn : ¬ m < n := by omega
        clear heq
        go_wp2_with fail
        go_ret
        exact ⟨by rw [HE.out]; rfl, hb.out⟩
    · by_cases hlt2 : m < n
      · have HE : Hid (decide (cmpL A B < 0) = true) := Lib.hid (by rw [← heq.out, cmpL_end2 A B i (by rw [HM.out]; omega) (by rw [HN.out]; omega)]; rfl)
        clear heq
        go_wp2_with fail
        go_ret
        exact ⟨by rw [HE.out]; rfl, hb.out⟩
      · have HE : Hid (decide (cmpL A B < 0) = false) := Lib.hid (by rw [← heq.out, cmpL_end0 A B i (by rw [HM.out]; omega) (by rw [HN.out]; omega)]; rfl)
        clear heq
        go_wp2_with fail
        go_ret
        exact ⟨by rw [HE.out]; rfl, hb.out⟩
end Go.Proofs.Ytodnfchkkgoabaa
