/- WALK of Best of the reference. -/
import Derived.Test.YtodnfchkkgoabaaHGf
set_option linter.unusedVariables false
namespace Go.Proofs.Ytodnfchkkgoabaa
open Go.RowKit

/-- A vertex, or -1. -/
def bI : Option Nat → Int
  | none => -1
  | some w => w
theorem bI_none : bI none = -1 := rfl
theorem bI_some (w : Nat) : bI (some w) = (w : Int) := rfl

set_option maxRecDepth 100000 in
set_option maxHeartbeats 4000000 in
theorem RBest_any (G : List (List Nat)) (p : Option Addr) (c v : Nat) (W : World) (hG : GN W p G) (hc : chk (intG G) = true) (f : Nat → Nat × Nat) (ho : OutP (dec G) G.length f) (hv : v < G.length) :
    Calls Try.prog 40 #[.slice p G.length c, .int .i64 v] W fun e w' => e = .returned (.tuple #[.int .i64 (bI (rbl f (f v).1 (G.getD v []))), .bool (rbl f (f v).1 (G.getD v [])).isSome]) ∧ Below W.heap.size W w' := by
  obtain ⟨l1, l200, hr, hx⟩ := chk_nat hc
  have HO := Lib.hid (ROutcomes_any G p c W hG hc f ho)
  have HP := Lib.hid (chk_plays hc ho)
  have hk2 := HP.out.kind v hv
  obtain ⟨R, hR⟩ : ∃ R, G.getD v [] = R := ⟨_, rfl⟩
  obtain ⟨m, hm⟩ : ∃ m, R.length = m := ⟨_, rfl⟩
  have hm2 : m ≤ 200 := by have := hr v; rw [hR, hm] at this; exact this
  have HRW : Hid (∀ X, Below W.heap.size W X → ∃ g pv cv, p = some ⟨g, 0, none⟩ ∧ X.cell? ⟨g, v, none⟩ = some (.slice pv m cv) ∧ NS X pv R) := Lib.hid (fun X hX => by
    have := (hG.under hX).row hv hR
    rw [hm] at this
    exact this)
  obtain ⟨n, hn⟩ : ∃ n, G.length = n := ⟨_, rfl⟩
  have HRX : Hid (∀ k, k < m → R.getD k 0 < n) := Lib.hid (fun k hk => by
    have h1 := row_lt hx (v := v) (i := k) (by rw [hR, hm]; exact hk)
    rw [hR, hn] at h1
    exact h1)
  have HM := Lib.hid hm
  have hlt : v < n := by omega
  rw [hn] at HO l1 l200 ⊢
  rw [hR]
  clear hn hr hx hc hG ho hm hR hv
  obtain ⟨t, ht⟩ : ∃ t, (f v).1 = t := ⟨_, rfl⟩
  have HT := Lib.hid ht
  rw [ht] at hk2
  clear ht
  go_enter Try.func40, Try.ntmps40
  go_wp2_with fail
  refine HO.out.mono ?_
  rintro e w2 ⟨go, co, gd, rfl, hk, hd, hb2⟩
  have HKD : Hid (∀ X u, Below w2.heap.size w2 X → u < n → X.cell? ⟨go, u, none⟩ = some (.int .i64 ((f u).1 : Nat)) ∧ X.cell? ⟨gd, u, none⟩ = some (.int .i64 ((f u).2 : Nat))) := Lib.hid (fun X u hX hu => ⟨(hk.keep (hX.block _ hk.lt)).cell hu, (hd.keep (hX.block _ hd.lt)).cell hu⟩)
  have HB2 := Lib.hid hb2
  have HROW : Hid (∀ X, Below w2.heap.size w2 X → ∃ g pv cv, p = some ⟨g, 0, none⟩ ∧ X.cell? ⟨g, v, none⟩ = some (.slice pv m cv) ∧ NS X pv R) := Lib.hid (fun X hX => HRW.out X (HB2.out.trans (hX.mono HB2.out.size)))
  clear hk hd hb2 HO HRW
  obtain ⟨g, pv, cv, rfl, cG0, -⟩ := HROW.out w2 (Below.refl _ _)
  clear cG0
  obtain rfl | rfl | rfl : t = 0 ∨ t = 1 ∨ t = 2 := by omega
  · have cV : ∀ X, Below w2.heap.size w2 X → X.cell? ⟨go, v, none⟩ = some (.int .i64 0) := fun X hX => by rw [(HKD.out X v hX hlt).1, HT.out]; rfl
    have HCV := Lib.hid cV
    clear cV
    go_wp2_with fail
    go_loopw [8, 9] (fun x y wx => ∃ (b : Option Nat) (k : Nat), x = .int .i64 (bI b) ∧ y = .int .i64 k ∧ k ≤ m ∧ Hid (b = rbl f 0 (R.take k)) ∧ Hid (∀ w, b = some w → w < n) ∧ Hid (Below w2.heap.size w2 wx)) (fun _ y _ => m - (intOf y).toNat)
    case atStart => exact ⟨none, 0, rfl, rfl, by omega, Lib.hid rfl, Lib.hid (fun w e => (by cases e)), Lib.hid (Below.refl _ _)⟩
    case round =>
      obtain ⟨b, k, rfl, rfl, hkm', hbr, hbn, hb⟩ := hrel
      obtain ⟨g1, pv1, cv1, eg, cG, hns⟩ := HROW.out wr hb.out
      cases eg
      have cV := HCV.out wr hb.out
      by_cases hkm : k < m
      · have hxn := HRX.out k hkm
        obtain ⟨cX1, cX2⟩ := HKD.out wr _ hb.out hxn
        obtain ⟨g2, rfl, cR⟩ := hns k (by rw [HM.out]; exact hkm)
        have HST : Hid (rbl f 0 (R.take (k + 1)) = rbs f 0 b (R.getD k 0)) := Lib.hid (by
          have hk9 : k < R.length := by rw [HM.out]; exact hkm
          rw [List.take_succ_eq_append_getElem hk9, rbl_snoc, ← hbr.out, List.getD_eq_getElem?_getD, List.getElem?_eq_getElem hk9]; rfl)
        clear hns
        generalize R.getD k 0 = x at *
        have bx : (x : Int) < (n : Int) := by omega
        have bk : (k : Int) < (m : Int) := by omega
        cases b with
        | none =>
          simp only [bI_none]
          have HN2 : Hid (rbs f 0 none x = some x) := Lib.hid (by rw [rbs_none, if_pos ⟨fun e => (by cases e), fun e => (by cases e)⟩])
          clear cX1 cX2
          go_wp2_with fail
          go_quiet (fail)
          go_wp2_with fail
          go_roundw
          case rel => exact ⟨some x, k + 1, rfl, by go_num, by omega, Lib.hid (by rw [HST.out, HN2.out]), Lib.hid (by intro w hw; first | (cases hw; omega) | (exact hbn.out w hw)), Lib.hid (below_drewN hb.out _)⟩
          case measure => simp [intOf]; omega
        | some y =>
          simp only [bI_some]
          have hyn := hbn.out y rfl
          have cY := (HKD.out wr y hb.out hyn).2
          have by' : (y : Int) < (n : Int) := by omega
          by_cases h2 : (f y).2 < (f x).2
          · have HN2 : Hid (rbs f 0 (some y) x = some x) := Lib.hid (by rw [rbs_some, if_pos (.inr ⟨rfl, h2⟩)])
            generalize (f x).2 = dx at cX2 h2
            generalize (f y).2 = dy at cY h2
            have q2 : decide ((dy : Int) < (dx : Int)) = true := decide_eq_true (by omega)
            clear cX1
            go_wp2_with fail
            go_quiet (fail)
            go_wp2_with fail
            go_roundw
            case rel => exact ⟨some x, k + 1, rfl, by go_num, by omega, Lib.hid (by rw [HST.out, HN2.out]), Lib.hid (by intro w hw; first | (cases hw; omega) | (exact hbn.out w hw)), Lib.hid (below_drewN hb.out _)⟩
            case measure => simp [intOf]; omega
          · have HN2 : Hid (rbs f 0 (some y) x = some y) := Lib.hid (by
              rw [rbs_some, if_neg]
              rintro (⟨e, _⟩ | ⟨_, e⟩)
              · cases e
              · exact h2 e)
            generalize (f x).2 = dx at cX2 h2
            generalize (f y).2 = dy at cY h2
            have q2 : decide ((dy : Int) < (dx : Int)) = false := decide_eq_false (by omega)
            clear cX1
            go_wp2_with fail
            go_quiet (fail)
            go_wp2_with fail
            go_roundw
            case rel => exact ⟨some y, k + 1, rfl, by go_num, by omega, Lib.hid (by rw [HST.out, HN2.out]), Lib.hid (by intro w hw; first | (cases hw; omega) | (exact hbn.out w hw)), Lib.hid (below_drewN hb.out _)⟩
            case measure => simp [intOf]; omega
      · have HE : Hid (b = rbl f (f v).1 R) := Lib.hid (by rw [hbr.out, HT.out, List.take_of_length_le (by rw [HM.out]; omega)])
        clear hns
        cases b with
        | none =>
          simp only [bI_none]
          go_wp2_with fail
          go_ret2
          exact ⟨by rw [← HE.out]; rfl, HB2.out.trans (hb.out.mono HB2.out.size)⟩
        | some y =>
          simp only [bI_some]
          go_wp2_with fail
          go_ret2
          exact ⟨by rw [← HE.out]; rfl, HB2.out.trans (hb.out.mono HB2.out.size)⟩
  · have cV : ∀ X, Below w2.heap.size w2 X → X.cell? ⟨go, v, none⟩ = some (.int .i64 1) := fun X hX => by rw [(HKD.out X v hX hlt).1, HT.out]; rfl
    have HCV := Lib.hid cV
    clear cV
    go_wp2_with fail
    go_loopw [8, 9] (fun x y wx => ∃ (b : Option Nat) (k : Nat), x = .int .i64 (bI b) ∧ y = .int .i64 k ∧ k ≤ m ∧ Hid (b = rbl f 1 (R.take k)) ∧ Hid (∀ w, b = some w → w < n) ∧ Hid (Below w2.heap.size w2 wx)) (fun _ y _ => m - (intOf y).toNat)
    case atStart => exact ⟨none, 0, rfl, rfl, by omega, Lib.hid rfl, Lib.hid (fun w e => (by cases e)), Lib.hid (Below.refl _ _)⟩
    case round =>
      obtain ⟨b, k, rfl, rfl, hkm', hbr, hbn, hb⟩ := hrel
      obtain ⟨g1, pv1, cv1, eg, cG, hns⟩ := HROW.out wr hb.out
      cases eg
      have cV := HCV.out wr hb.out
      by_cases hkm : k < m
      · have hxn := HRX.out k hkm
        obtain ⟨cX1, cX2⟩ := HKD.out wr _ hb.out hxn
        obtain ⟨g2, rfl, cR⟩ := hns k (by rw [HM.out]; exact hkm)
        have HST : Hid (rbl f 1 (R.take (k + 1)) = rbs f 1 b (R.getD k 0)) := Lib.hid (by
          have hk9 : k < R.length := by rw [HM.out]; exact hkm
          rw [List.take_succ_eq_append_getElem hk9, rbl_snoc, ← hbr.out, List.getD_eq_getElem?_getD, List.getElem?_eq_getElem hk9]; rfl)
        clear hns
        generalize R.getD k 0 = x at *
        have bx : (x : Int) < (n : Int) := by omega
        have bk : (k : Int) < (m : Int) := by omega
        cases b with
        | none =>
          simp only [bI_none]
          by_cases h : (f x).1 = 0
          · have HN2 : Hid (rbs f 1 none x = some x) := Lib.hid (by rw [rbs_none, if_pos ⟨fun _ => h, fun e => (by cases e)⟩])
            have c1 : wr.cell? ⟨go, x, none⟩ = some (.int .i64 0) := by rw [cX1, h]; rfl
            clear cX1 cX2 h
            go_wp2_with fail
            go_quiet (fail)
            go_wp2_with fail
            go_roundw
            case rel => exact ⟨some x, k + 1, rfl, by go_num, by omega, Lib.hid (by rw [HST.out, HN2.out]), Lib.hid (by intro w hw; first | (cases hw; omega) | (exact hbn.out w hw)), Lib.hid (below_drewN hb.out _)⟩
            case measure => simp [intOf]; omega
          · have HN2 : Hid (rbs f 1 none x = none) := Lib.hid (by rw [rbs_none, if_neg (fun hh => h (hh.1 rfl))])
            generalize (f x).1 = tw at cX1 h
            have q0 : ((tw : Int) == 0) = false := by simp; omega
            clear cX2 h
            go_wp2_with fail
            go_quiet (fail)
            go_wp2_with fail
            go_roundw
            case rel => exact ⟨none, k + 1, rfl, by go_num, by omega, Lib.hid (by rw [HST.out, HN2.out]), Lib.hid (by intro w hw; first | (cases hw; omega) | (exact hbn.out w hw)), Lib.hid (below_drewN hb.out _)⟩
            case measure => simp [intOf]; omega
        | some y =>
          simp only [bI_some]
          have hyn := hbn.out y rfl
          have cY := (HKD.out wr y hb.out hyn).2
          have by' : (y : Int) < (n : Int) := by omega
          by_cases h : (f x).1 = 0
          · have c1 : wr.cell? ⟨go, x, none⟩ = some (.int .i64 0) := by rw [cX1, h]; rfl
            by_cases h2 : (f x).2 < (f y).2
            · have HN2 : Hid (rbs f 1 (some y) x = some x) := Lib.hid (by rw [rbs_some, if_pos (.inl ⟨rfl, h, h2⟩)])
              generalize (f x).2 = dx at cX2 h2
              generalize (f y).2 = dy at cY h2
              have q2 : decide ((dx : Int) < (dy : Int)) = true := decide_eq_true (by omega)
              clear cX1 h
              go_wp2_with fail
              go_quiet (fail)
              go_wp2_with fail
              go_roundw
              case rel => exact ⟨some x, k + 1, rfl, by go_num, by omega, Lib.hid (by rw [HST.out, HN2.out]), Lib.hid (by intro w hw; first | (cases hw; omega) | (exact hbn.out w hw)), Lib.hid (below_drewN hb.out _)⟩
              case measure => simp [intOf]; omega
            · have HN2 : Hid (rbs f 1 (some y) x = some y) := Lib.hid (by
                rw [rbs_some, if_neg]
                rintro (⟨_, _, e⟩ | ⟨e, _⟩)
                · exact h2 e
                · cases e)
              generalize (f x).2 = dx at cX2 h2
              generalize (f y).2 = dy at cY h2
              have q2 : decide ((dx : Int) < (dy : Int)) = false := decide_eq_false (by omega)
              clear cX1 h
              go_wp2_with fail
              go_quiet (fail)
              go_wp2_with fail
              go_roundw
              case rel => exact ⟨some y, k + 1, rfl, by go_num, by omega, Lib.hid (by rw [HST.out, HN2.out]), Lib.hid (by intro w hw; first | (cases hw; omega) | (exact hbn.out w hw)), Lib.hid (below_drewN hb.out _)⟩
              case measure => simp [intOf]; omega
          · have HN2 : Hid (rbs f 1 (some y) x = some y) := Lib.hid (by
              rw [rbs_some, if_neg]
              rintro (⟨_, e, _⟩ | ⟨e, _⟩)
              · exact h e
              · cases e)
            generalize (f x).1 = tw at cX1 h
            have q0 : ((tw : Int) == 0) = false := by simp; omega
            clear cX2 h
            go_wp2_with fail
            go_quiet (fail)
            go_wp2_with fail
            go_roundw
            case rel => exact ⟨some y, k + 1, rfl, by go_num, by omega, Lib.hid (by rw [HST.out, HN2.out]), Lib.hid (by intro w hw; first | (cases hw; omega) | (exact hbn.out w hw)), Lib.hid (below_drewN hb.out _)⟩
            case measure => simp [intOf]; omega
      · have HE : Hid (b = rbl f (f v).1 R) := Lib.hid (by rw [hbr.out, HT.out, List.take_of_length_le (by rw [HM.out]; omega)])
        clear hns
        cases b with
        | none =>
          simp only [bI_none]
          go_wp2_with fail
          go_ret2
          exact ⟨by rw [← HE.out]; rfl, HB2.out.trans (hb.out.mono HB2.out.size)⟩
        | some y =>
          simp only [bI_some]
          go_wp2_with fail
          go_ret2
          exact ⟨by rw [← HE.out]; rfl, HB2.out.trans (hb.out.mono HB2.out.size)⟩
  · have cV : ∀ X, Below w2.heap.size w2 X → X.cell? ⟨go, v, none⟩ = some (.int .i64 2) := fun X hX => by rw [(HKD.out X v hX hlt).1, HT.out]; rfl
    have HCV := Lib.hid cV
    clear cV
    go_wp2_with fail
    go_loopw [8, 9] (fun x y wx => ∃ (b : Option Nat) (k : Nat), x = .int .i64 (bI b) ∧ y = .int .i64 k ∧ k ≤ m ∧ Hid (b = rbl f 2 (R.take k)) ∧ Hid (∀ w, b = some w → w < n) ∧ Hid (Below w2.heap.size w2 wx)) (fun _ y _ => m - (intOf y).toNat)
    case atStart => exact ⟨none, 0, rfl, rfl, by omega, Lib.hid rfl, Lib.hid (fun w e => (by cases e)), Lib.hid (Below.refl _ _)⟩
    case round =>
      obtain ⟨b, k, rfl, rfl, hkm', hbr, hbn, hb⟩ := hrel
      obtain ⟨g1, pv1, cv1, eg, cG, hns⟩ := HROW.out wr hb.out
      cases eg
      have cV := HCV.out wr hb.out
      by_cases hkm : k < m
      · have hxn := HRX.out k hkm
        obtain ⟨cX1, cX2⟩ := HKD.out wr _ hb.out hxn
        obtain ⟨g2, rfl, cR⟩ := hns k (by rw [HM.out]; exact hkm)
        have HST : Hid (rbl f 2 (R.take (k + 1)) = rbs f 2 b (R.getD k 0)) := Lib.hid (by
          have hk9 : k < R.length := by rw [HM.out]; exact hkm
          rw [List.take_succ_eq_append_getElem hk9, rbl_snoc, ← hbr.out, List.getD_eq_getElem?_getD, List.getElem?_eq_getElem hk9]; rfl)
        clear hns
        generalize R.getD k 0 = x at *
        have bx : (x : Int) < (n : Int) := by omega
        have bk : (k : Int) < (m : Int) := by omega
        cases b with
        | none =>
          simp only [bI_none]
          by_cases h : (f x).1 = 2
          · have HN2 : Hid (rbs f 2 none x = some x) := Lib.hid (by rw [rbs_none, if_pos ⟨fun e => (by cases e), fun _ => h⟩])
            have c1 : wr.cell? ⟨go, x, none⟩ = some (.int .i64 2) := by rw [cX1, h]; rfl
            clear cX1 cX2 h
            go_wp2_with fail
            go_roundw
            case rel => exact ⟨some x, k + 1, rfl, by go_num, by omega, Lib.hid (by rw [HST.out, HN2.out]), Lib.hid (by intro w hw; first | (cases hw; omega) | (exact hbn.out w hw)), hb⟩
            case measure => simp [intOf]; omega
          · have HN2 : Hid (rbs f 2 none x = none) := Lib.hid (by rw [rbs_none, if_neg (fun hh => h (hh.2 rfl))])
            generalize (f x).1 = tw at cX1 h
            have q0 : ((tw : Int) == 2) = false := by simp; omega
            clear cX2 h
            go_wp2_with fail
            go_roundw
            case rel => exact ⟨none, k + 1, rfl, by go_num, by omega, Lib.hid (by rw [HST.out, HN2.out]), Lib.hid (by intro w hw; first | (cases hw; omega) | (exact hbn.out w hw)), hb⟩
            case measure => simp [intOf]; omega
        | some y =>
          simp only [bI_some]
          have hyn := hbn.out y rfl
          have cY := (HKD.out wr y hb.out hyn).2
          have by' : (y : Int) < (n : Int) := by omega
          have HN2 : Hid (rbs f 2 (some y) x = some y) := Lib.hid (by
            rw [rbs_some, if_neg]
            rintro (⟨e, _⟩ | ⟨e, _⟩) <;> cases e)
          by_cases h : (f x).1 = 2
          · have c1 : wr.cell? ⟨go, x, none⟩ = some (.int .i64 2) := by rw [cX1, h]; rfl
            clear cX1 cX2 h
            go_wp2_with fail
            go_roundw
            case rel => exact ⟨some y, k + 1, rfl, by go_num, by omega, Lib.hid (by rw [HST.out, HN2.out]), Lib.hid (by intro w hw; first | (cases hw; omega) | (exact hbn.out w hw)), hb⟩
            case measure => simp [intOf]; omega
          · generalize (f x).1 = tw at cX1 h
            have q0 : ((tw : Int) == 2) = false := by simp; omega
            clear cX2 h
            go_wp2_with fail
            go_roundw
            case rel => exact ⟨some y, k + 1, rfl, by go_num, by omega, Lib.hid (by rw [HST.out, HN2.out]), Lib.hid (by intro w hw; first | (cases hw; omega) | (exact hbn.out w hw)), hb⟩
            case measure => simp [intOf]; omega
      · have HE : Hid (b = rbl f (f v).1 R) := Lib.hid (by rw [hbr.out, HT.out, List.take_of_length_le (by rw [HM.out]; omega)])
        clear hns
        cases b with
        | none =>
          simp only [bI_none]
          go_wp2_with fail
          go_ret2
          exact ⟨by rw [← HE.out]; rfl, HB2.out.trans (hb.out.mono HB2.out.size)⟩
        | some y =>
          simp only [bI_some]
          go_wp2_with fail
          go_ret2
          exact ⟨by rw [← HE.out]; rfl, HB2.out.trans (hb.out.mono HB2.out.size)⟩
end Go.Proofs.Ytodnfchkkgoabaa
