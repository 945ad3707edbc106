/- WALKS of CheckGraph of the reference, of Outcomes and Best for a bad graph, and of Best beside a graph. -/
import Derived.Test.YtodnfchkkgoabaaHGd
set_option linter.unusedVariables false
namespace Go.Proofs.Ytodnfchkkgoabaa
open Go.RowKit

set_option maxRecDepth 100000 in
set_option maxHeartbeats 1000000 in
theorem Outcomes_bad (G : List (List Int)) (p : Option Addr) (c : Nat) (w : World) (hG : GI w p G) (hl : G.length ≤ 100000) (hr : ∀ v, (G.getD v []).length ≤ 100000) (hc : chk G = false) :
    Calls Try.prog 37 #[.slice p G.length c] w fun e w' => e = .returned (.tuple #[.slice none 0 0, .slice none 0 0, .int .i64 61]) ∧ Below w.heap.size w w' := by
  have CG := CheckGraph_any G p c w hG hl hr
  rw [hc, show errG false = 61 from rfl] at CG
  have HC := Lib.hid CG
  generalize G.length = n at *
  clear CG hG hr hc
  go_enter Try.func37, Try.ntmps37
  go_wp2_with fail
  refine HC.out.mono ?_
  rintro e w' ⟨rfl, rfl⟩
  go_wp2_with fail
  go_ret3
  exact ⟨rfl, Below.refl _ _⟩

set_option maxRecDepth 100000 in
set_option maxHeartbeats 1000000 in
theorem Best_bad (G : List (List Int)) (p : Option Addr) (c : Nat) (v : Int) (w : World) (hG : GI w p G) (hl : G.length ≤ 100000) (hr : ∀ v, (G.getD v []).length ≤ 100000) (hc : chk G = false) :
    Calls Try.prog 38 #[.slice p G.length c, .int .i64 v] w fun e w' => e = .returned (.tuple #[.int .i64 0, .int .i64 61]) ∧ Below w.heap.size w w' := by
  have HO := Lib.hid (Outcomes_bad G p c w hG hl hr hc)
  generalize G.length = n at *
  clear hG hr hc
  go_enter Try.func38, Try.ntmps38
  go_wp2_with fail
  refine HO.out.mono ?_
  rintro e w1 ⟨rfl, hb⟩
  have HB := Lib.hid hb
  clear hb HO
  go_wp2_with fail
  go_ret2
  exact ⟨rfl, (HB.out.alloc HB.out.size _).alloc (by have := HB.out.size; simp; omega) _⟩

set_option maxRecDepth 100000 in
set_option maxHeartbeats 1000000 in
theorem Best_out (G : List (List Nat)) (p : Option Addr) (c : Nat) (v : Int) (W : World) (hG : GN W p G) (hc : chk (intG G) = true) (hv : ¬ (0 ≤ v ∧ v < G.length)) :
    Calls Try.prog 38 #[.slice p G.length c, .int .i64 v] W fun e w' => e = .returned (.tuple #[.int .i64 0, .int .i64 1]) ∧ Below W.heap.size W w' := by
  obtain ⟨l1, l200, hr, hx⟩ := chk_nat hc
  have HO := Lib.hid (Outcomes_any G p c W hG hc)
  obtain ⟨n, hn⟩ : ∃ n, G.length = n := ⟨_, rfl⟩
  rw [hn] at HO hv l1 l200 ⊢
  clear hG hc hr hx hn
  by_cases hneg : v < 0
  · go_enter Try.func38, Try.ntmps38
    go_wp2_with fail
    refine HO.out.mono ?_
    rintro e w1 ⟨gk, gd, f, rfl, hk, hd, ho, hg1, hg2, hb1⟩
    have HB1 := Lib.hid hb1
    clear hk hd ho hb1 HO hg1 hg2
    go_wp2_with fail
    go_ret2
    exact ⟨rfl, (HB1.out.alloc HB1.out.size _).alloc (by have := HB1.out.size; simp; omega) _⟩
  · have hq : decide (v < 0) = false := decide_eq_false hneg
    have hq2 : (n : Int) ≤ v := by omega
    go_enter Try.func38, Try.ntmps38
    go_wp2_with fail
    refine HO.out.mono ?_
    rintro e w1 ⟨gk, gd, f, rfl, hk, hd, ho, hg1, hg2, hb1⟩
    have HB1 := Lib.hid hb1
    clear hk hd ho hb1 HO hg1 hg2
    go_wp2_with fail
    go_ret2
    exact ⟨rfl, (HB1.out.alloc HB1.out.size _).alloc (by have := HB1.out.size; simp; omega) _⟩

/-- The number before the k-th of a row. -/
def lastOf (R : List Int) (k : Nat) : Int := if k = 0 then -1 else R.getD (k - 1) 0

set_option maxRecDepth 100000 in
set_option maxHeartbeats 2000000 in
theorem RCheckGraph_any (G : List (List Int)) (p : Option Addr) (c : Nat) (w : World) (hG : GI w p G) (hl : G.length ≤ 100000) (hr : ∀ v, (G.getD v []).length ≤ 100000) :
    Calls Try.prog 35 #[.slice p G.length c] w fun e w' => e = .returned (.int .i64 (errG (chk G))) ∧ Below w.heap.size w w' := by
  obtain ⟨n, hn⟩ : ∃ n, G.length = n := ⟨_, rfl⟩
  have HN := Lib.hid hn
  have HG := Lib.hid (fun X (hX : Below w.heap.size w X) => (show GI X p G from fun v hv => by
    obtain ⟨g, pv, cv, e, hc, hni⟩ := hG v hv
    exact ⟨g, pv, cv, e, cellOf2 hX hc (cell_lt2 hc), fun i hi => by
      obtain ⟨g', e', hc'⟩ := hni i hi
      exact ⟨g', e', cellOf2 hX hc' (cell_lt2 hc')⟩⟩))
  have HR := Lib.hid hr
  rw [hn] at hl ⊢
  clear hn hG hr
  by_cases h0 : 1 ≤ n ∧ n ≤ 200
  · obtain ⟨h1, h2⟩ := h0
    go_enter Try.func35, Try.ntmps35
    go_wp2_with fail
    go_loopw [3] (fun i wr => ∃ v : Nat, i = .int .i64 v ∧ v ≤ n ∧ Hid (∀ u, u < v → chkRow G.length (-1) (G.getD u []) = true) ∧ Hid (Below w.heap.size w wr)) (fun i _ => n - (intOf i).toNat)
    case atStart => exact ⟨0, rfl, by omega, Lib.hid (fun u hu => by omega), Lib.hid (Below.refl _ _)⟩
    case round =>
      obtain ⟨v, rfl, hv, hall, hb⟩ := hrel
      by_cases hlt : v < n
      · obtain ⟨R, hR⟩ : ∃ R, G.getD v [] = R := ⟨_, rfl⟩
        have hrl := HR.out v
        rw [hR] at hrl
        have HRR := Lib.hid hR
        obtain ⟨m, hm⟩ : ∃ m, R.length = m := ⟨_, rfl⟩
        have HM := Lib.hid hm
        have HROW : Hid (∀ X, Below w.heap.size w X → ∃ g pv cv, p = some ⟨g, 0, none⟩ ∧ X.cell? ⟨g, v, none⟩ = some (.slice pv m cv) ∧ NI X pv R) := Lib.hid (fun X hX => by
          have := (HG.out X hX).row (by rw [HN.out]; exact hlt) hR
          rw [hm] at this
          exact this)
        rw [hm] at hrl
        clear hR hm
        obtain ⟨g, pv, cv, rfl, hc, -⟩ := HROW.out wr hb.out
        clear hc
        go_wp2_with fail
        go_loopw [4] (fun i wx => ∃ k : Nat, i = .int .i64 k ∧ k ≤ m ∧ -1 ≤ lastOf R k ∧ Hid (chkRow G.length (lastOf R k) (R.drop k) = chkRow G.length (-1) R) ∧ Hid (Below w.heap.size w wx)) (fun i _ => m - (intOf i).toNat)
        case atStart => exact ⟨0, rfl, by omega, by unfold lastOf; simp, Lib.hid rfl, hb⟩
        case round =>
          clear hb
          obtain ⟨k, rfl, hk, hl1, hd, hb⟩ := hrel
          obtain ⟨g', pv, cv, e, hc, hni⟩ := HROW.out wr hb.out
          cases e
          have HNI := Lib.hid hni
          clear hni
          by_cases hlt2 : k < m
          · obtain ⟨g2, rfl, hc2⟩ := HNI.out k (by rw [HM.out]; exact hlt2)
            have hd := Lib.hid (hd.out.symm.trans (row_drop _ (lastOf R k) R k (by rw [HM.out]; exact hlt2)))
            have hnx : lastOf R (k + 1) = R.getD k 0 := by unfold lastOf; rw [if_neg (by omega)]; rfl
            have HNX := Lib.hid hnx
            have bk : (k : Int) < (m : Int) := by omega
            have HBAD : Hid (chkRow G.length (-1) R = false → chk G = false) := Lib.hid (fun h => chk_no (v := v) (by rw [HN.out]; exact hlt) (by rw [HRR.out]; exact h))
            clear hnx
            by_cases hx0 : R.getD k 0 < 0
            · have HF : Hid (chk G = false) := Lib.hid (HBAD.out (by
                rw [hd.out]
                have : decide (lastOf R k < R.getD k 0) = false := decide_eq_false (by omega)
                rw [this]; rfl))
              generalize R.getD k 0 = x at hc2 hx0
              clear hd HBAD HNX
              go_wp2_with fail
              go_quiet (fail)
              go_wp2_with fail
              go_ret
              exact ⟨by rw [HF.out]; rfl, below_drewN hb.out _⟩
            · by_cases hx2 : R.getD k 0 < n
              · by_cases hk0 : k = 0
                · subst hk0
                  have HD : Hid (chkRow G.length (lastOf R (0 + 1)) (R.drop (0 + 1)) = chkRow G.length (-1) R) := Lib.hid (by
                    rw [HNX.out, hd.out, HN.out]
                    have e1 : decide (lastOf R 0 < R.getD 0 0) = true := decide_eq_true (by unfold lastOf; simp only [if_true]; omega)
                    have e2 : decide (R.getD 0 0 < (n : Int)) = true := decide_eq_true hx2
                    rw [e1, e2]; rfl)
                  have HL1 : Hid (-1 ≤ lastOf R (0 + 1)) := Lib.hid (by rw [HNX.out]; omega)
                  generalize R.getD 0 0 = x at hc2 hx0 hx2
                  have q0 : decide (x < 0) = false := decide_eq_false hx0
                  have q2 : decide ((n : Int) ≤ x) = false := decide_eq_false (by omega)
                  clear hd HBAD HNX hl1
                  go_wp2_with fail
                  go_quiet (fail)
                  go_wp2_with fail
                  go_roundw
                  case rel => exact ⟨1, by go_num, by omega, HL1.out, HD, Lib.hid (below_drewN hb.out _)⟩
                  case measure => simp [intOf]; omega
                · obtain ⟨j, rfl⟩ : ∃ j, k = j + 1 := ⟨k - 1, by omega⟩
                  obtain ⟨g3, e3, hc3⟩ := HNI.out j (by have := HM.out; omega)
                  cases e3
                  have hlj : lastOf R (j + 1) = R.getD j 0 := by unfold lastOf; rw [if_neg (by omega)]; rfl
                  rw [hlj] at hl1 hd
                  have bj : (j : Int) < (m : Int) := by omega
                  have qj : ((j : Int) + 1) - 1 = (j : Int) := by omega
                  by_cases hpr : R.getD j 0 < R.getD (j + 1) 0
                  · have HD : Hid (chkRow G.length (lastOf R (j + 1 + 1)) (R.drop (j + 1 + 1)) = chkRow G.length (-1) R) := Lib.hid (by
                      rw [HNX.out, hd.out, HN.out]
                      have e1 : decide (R.getD j 0 < R.getD (j + 1) 0) = true := decide_eq_true hpr
                      have e2 : decide (R.getD (j + 1) 0 < (n : Int)) = true := decide_eq_true hx2
                      rw [e1, e2]; rfl)
                    have HL1 : Hid (-1 ≤ lastOf R (j + 1 + 1)) := Lib.hid (by rw [HNX.out]; omega)
                    generalize R.getD (j + 1) 0 = x at hc2 hx0 hx2 hpr
                    generalize R.getD j 0 = y at hc3 hpr hl1
                    have q0 : decide (x < 0) = false := decide_eq_false hx0
                    have q2 : decide ((n : Int) ≤ x) = false := decide_eq_false (by omega)
                    have q3 : decide (x ≤ y) = false := decide_eq_false (by omega)
                    clear hd HBAD HNX hl1 hlj
                    go_wp2_with fail
                    go_quiet (fail)
                    go_wp2_with fail
                    go_roundw
                    case rel => exact ⟨j + 1 + 1, by go_num, by omega, HL1.out, HD, Lib.hid (below_drewN hb.out _)⟩
                    case measure => simp [intOf]; omega
                  · have HF : Hid (chk G = false) := Lib.hid (HBAD.out (by
                      rw [hd.out]
                      have : decide (R.getD j 0 < R.getD (j + 1) 0) = false := decide_eq_false hpr
                      rw [this]; rfl))
                    generalize R.getD (j + 1) 0 = x at hc2 hx0 hx2 hpr
                    generalize R.getD j 0 = y at hc3 hpr hl1
                    have q0 : decide (x < 0) = false := decide_eq_false hx0
                    have q2 : decide ((n : Int) ≤ x) = false := decide_eq_false (by omega)
                    have q3 : decide (x ≤ y) = true := decide_eq_true (by omega)
                    clear hd HBAD HNX hl1 hlj
                    go_wp2_with fail
                    go_quiet (fail)
                    go_wp2_with fail
                    go_ret
                    exact ⟨by rw [HF.out]; rfl, below_drewN hb.out _⟩
              · have HF : Hid (chk G = false) := Lib.hid (HBAD.out (by
                  rw [hd.out, HN.out]
                  have : decide (R.getD k 0 < (n : Int)) = false := decide_eq_false hx2
                  rw [this]; simp))
                generalize R.getD k 0 = x at hc2 hx0 hx2
                have q0 : decide (x < 0) = false := decide_eq_false hx0
                have q2 : decide ((n : Int) ≤ x) = true := decide_eq_true (by omega)
                clear hd HBAD HNX
                go_wp2_with fail
                go_quiet (fail)
                go_wp2_with fail
                go_ret
                exact ⟨by rw [HF.out]; rfl, below_drewN hb.out _⟩
          · have HA : Hid (∀ u, u < v + 1 → chkRow G.length (-1) (G.getD u []) = true) := Lib.hid (fun u hu => by
              rcases Nat.lt_succ_iff_lt_or_eq.1 hu with h | rfl
              · exact hall.out u h
              · rw [HRR.out, ← hd.out, List.drop_eq_nil_iff.2 (by rw [HM.out]; omega)]; rfl)
            clear hd
            go_wp2_with fail
            go_roundw
            case rel => exact ⟨v + 1, by go_num, by omega, HA, hb⟩
            case measure => simp [intOf]; omega
      · have HT : Hid (chk G = true) := Lib.hid (chk_yes (by rw [HN.out]; exact h1) (by rw [HN.out]; exact h2) (fun u hu => hall.out u (by rw [HN.out] at hu; omega)))
        go_wp2_with fail
        go_ret
        exact ⟨by rw [HT.out]; rfl, hb.out⟩
  · have HF : Hid (chk G = false) := Lib.hid (by
      cases hq : chk G with
      | false => rfl
      | true =>
        unfold chk at hq
        simp only [Bool.and_eq_true, decide_eq_true_eq, HN.out] at hq
        exact absurd hq.1 h0)
    by_cases h1 : 1 ≤ n
    · have h2 : 200 < n := by omega
      go_enter Try.func35, Try.ntmps35
      go_wp2_with fail
      go_ret
      exact ⟨by rw [HF.out]; rfl, Below.refl _ _⟩
    · have h2 : n < 1 := by omega
      go_enter Try.func35, Try.ntmps35
      go_wp2_with fail
      go_ret
      exact ⟨by rw [HF.out]; rfl, Below.refl _ _⟩
end Go.Proofs.Ytodnfchkkgoabaa
