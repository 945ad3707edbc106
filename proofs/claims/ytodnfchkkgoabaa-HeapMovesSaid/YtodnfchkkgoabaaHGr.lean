/- Graphs as they lie in memory; WALK of CheckGraph. -/
import Derived.Test.YtodnfchkkgoabaaHVb
set_option linter.unusedVariables false
namespace Go.Proofs.Ytodnfchkkgoabaa
open Go.RowKit

/-- Integers that lie in a slice. -/
def NI (w : World) (p : Option Addr) (L : List Int) : Prop := ∀ i, i < L.length → ∃ g, p = some ⟨g, 0, none⟩ ∧ w.cell? ⟨g, i, none⟩ = some (.int .i64 (L.getD i 0))
/-- Lists that lie in a slice of slices. -/
def GI (w : World) (p : Option Addr) (G : List (List Int)) : Prop := ∀ v, v < G.length → ∃ g pv cv, p = some ⟨g, 0, none⟩ ∧ w.cell? ⟨g, v, none⟩ = some (.slice pv (G.getD v []).length cv) ∧ NI w pv (G.getD v [])

theorem GI.row {w : World} {p : Option Addr} {G : List (List Int)} (h : GI w p G) {v : Nat} (hv : v < G.length) {R : List Int} (hR : G.getD v [] = R) : ∃ g pv cv, p = some ⟨g, 0, none⟩ ∧ w.cell? ⟨g, v, none⟩ = some (.slice pv R.length cv) ∧ NI w pv R := by
  rw [← hR]; exact h v hv

/-- A list of vertices, rising from last on. -/
def chkRow (n : Int) : Int → List Int → Bool
  | _, [] => true
  | last, x :: r => decide (last < x) && decide (x < n) && chkRow n x r
def chk (G : List (List Int)) : Bool := decide (1 ≤ G.length) && decide (G.length ≤ 200) && G.all (chkRow G.length (-1))

theorem row_drop (n last : Int) (L : List Int) (k : Nat) (h : k < L.length) : chkRow n last (L.drop k) = (decide (last < L.getD k 0) && decide (L.getD k 0 < n) && chkRow n (L.getD k 0) (L.drop (k + 1))) := by
  rw [List.drop_eq_getElem_cons h, List.getD_eq_getElem?_getD, List.getElem?_eq_getElem h]; rfl

theorem chk_no {G : List (List Int)} {v : Nat} (hv : v < G.length) (h : chkRow G.length (-1) (G.getD v []) = false) : chk G = false := by
  cases hq : chk G with
  | false => rfl
  | true =>
    unfold chk at hq
    simp only [Bool.and_eq_true, List.all_eq_true] at hq
    have := hq.2 (G.getD v []) (by rw [List.getD_eq_getElem?_getD, List.getElem?_eq_getElem hv]; exact List.getElem_mem hv)
    rw [h] at this; cases this

theorem chk_yes {G : List (List Int)} (h1 : 1 ≤ G.length) (h2 : G.length ≤ 200) (h : ∀ u, u < G.length → chkRow G.length (-1) (G.getD u []) = true) : chk G = true := by
  unfold chk
  simp only [Bool.and_eq_true, List.all_eq_true, decide_eq_true_eq]
  refine ⟨⟨h1, h2⟩, fun x hx => ?_⟩
  obtain ⟨u, hu, rfl⟩ := List.getElem_of_mem hx
  have := h u hu
  rw [List.getD_eq_getElem?_getD, List.getElem?_eq_getElem hu] at this
  exact this

def errG (b : Bool) : Int := if b then 0 else 61

set_option maxRecDepth 100000 in
set_option maxHeartbeats 1000000 in
theorem CheckGraph_any (G : List (List Int)) (p : Option Addr) (c : Nat) (w : World) (hG : GI w p G) (hl : G.length ≤ 100000) (hr : ∀ v, (G.getD v []).length ≤ 100000) :
    Calls Try.prog 36 #[.slice p G.length c] w fun e w' => e = .returned (.int .i64 (errG (chk G))) ∧ w = w' := by
  obtain ⟨n, hn⟩ : ∃ n, G.length = n := ⟨_, rfl⟩
  have HN := Lib.hid hn
  have HG := Lib.hid hG
  have HR := Lib.hid hr
  rw [hn] at hl ⊢
  clear hn hG hr
  by_cases h0 : 1 ≤ n ∧ n ≤ 200
  · obtain ⟨h1, h2⟩ := h0
    go_enter Try.func36, Try.ntmps36
    go_wp2_with fail
    go_loop [4, 5, 7, 18, 24] (fun _ _ _ i _ => ∃ v : Nat, i = .int .i64 v ∧ v ≤ n ∧ Hid (∀ u, u < v → chkRow G.length (-1) (G.getD u []) = true)) (fun _ _ _ i _ => n - (intOf i).toNat)
    case atStart => exact ⟨0, rfl, by omega, Lib.hid (fun u hu => by omega)⟩
    case round =>
      obtain ⟨v, rfl, hv, hall⟩ := hrel
      by_cases hlt : v < n
      · obtain ⟨R, hR⟩ : ∃ R, G.getD v [] = R := ⟨_, rfl⟩
        obtain ⟨g, pv, cv, rfl, hc, hrow⟩ := HG.out.row (by rw [HN.out]; exact hlt) hR
        have hrl := HR.out v
        rw [hR] at hrl
        have HRR := Lib.hid hR
        have HROW := Lib.hid hrow
        obtain ⟨m, hm⟩ : ∃ m, R.length = m := ⟨_, rfl⟩
        have HM := Lib.hid hm
        rw [hm] at hc hrl
        clear hR hrow hm
        go_wp2_with fail
        go_loop [5, 7, 24] (fun l _ i => ∃ (k : Nat) (last : Int), i = .int .i64 k ∧ l = .int .i64 last ∧ k ≤ m ∧ -1 ≤ last ∧ last < 1000000 ∧ Hid (chkRow G.length last (R.drop k) = chkRow G.length (-1) R)) (fun _ _ i => m - (intOf i).toNat)
        case atStart => exact ⟨0, -1, rfl, rfl, by omega, by omega, by omega, Lib.hid rfl⟩
        case round =>
          obtain ⟨k, last, rfl, rfl, hk, hl1, hl2, hd⟩ := hrel
          by_cases hlt2 : k < m
          · obtain ⟨g2, rfl, hc2⟩ := HROW.out k (by rw [HM.out]; exact hlt2)
            have hd := Lib.hid (hd.out.symm.trans (row_drop _ last R k (by rw [HM.out]; exact hlt2)))
            generalize R.getD k 0 = x at *
            by_cases hx1 : last < x
            · by_cases hx2 : x < n
              · have HD : Hid (chkRow G.length x (R.drop (k + 1)) = chkRow G.length (-1) R) := Lib.hid (by
                  rw [hd.out, HN.out]; simp [hx1, hx2])
                clear hd
                go_wp2_with fail
                go_round
                case rel => exact ⟨k + 1, x, by go_num, rfl, by omega, by omega, by omega, HD⟩
                case measure => simp [intOf]; omega
              · have HF : Hid (chk G = false) := Lib.hid (chk_no (v := v) (by rw [HN.out]; exact hlt) (by rw [HRR.out, hd.out, HN.out]; simp [hx2]))
                clear hd
                go_wp2_with fail
                go_ret
                exact ⟨by rw [HF.out]; rfl, rfl⟩
            · have HF : Hid (chk G = false) := Lib.hid (chk_no (v := v) (by rw [HN.out]; exact hlt) (by rw [HRR.out, hd.out]; simp [hx1]))
              clear hd
              go_wp2_with fail
              go_ret
              exact ⟨by rw [HF.out]; rfl, rfl⟩
          · have HA : Hid (∀ u, u < v + 1 → chkRow G.length (-1) (G.getD u []) = true) := Lib.hid (fun u hu => by
              rcases Nat.lt_succ_iff_lt_or_eq.1 hu with h | rfl
              · exact hall.out u h
              · rw [HRR.out, ← hd.out, List.drop_eq_nil_iff.2 (by rw [HM.out]; omega)]; rfl)
            clear hd
            go_wp2_with fail
            go_round
            case rel => exact ⟨v + 1, by go_num, by omega, HA⟩
            case measure => simp [intOf]; omega
      · have HT : Hid (chk G = true) := Lib.hid (chk_yes (by rw [HN.out]; exact h1) (by rw [HN.out]; exact h2) (fun u hu => hall.out u (by rw [HN.out] at hu; omega)))
        go_wp2_with fail
        go_ret
        exact ⟨by rw [HT.out]; rfl, rfl⟩
  · have HF : Hid (chk G = false) := Lib.hid (by
      cases hq : chk G with
      | false => rfl
      | true =>
        unfold chk at hq
        simp only [Bool.and_eq_true, decide_eq_true_eq, HN.out] at hq
        exact absurd hq.1 h0)
    by_cases h1 : 1 ≤ n
    · have h2 : 200 < n := by omega
      go_enter Try.func36, Try.ntmps36
      go_wp2_with fail
      go_ret
      exact ⟨by rw [HF.out]; rfl, rfl⟩
    · have h2 : n < 1 := by omega
      go_enter Try.func36, Try.ntmps36
      go_wp2_with fail
      go_ret
      exact ⟨by rw [HF.out]; rfl, rfl⟩
end Go.Proofs.Ytodnfchkkgoabaa
