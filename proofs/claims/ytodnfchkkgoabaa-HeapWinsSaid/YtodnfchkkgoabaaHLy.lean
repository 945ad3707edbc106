/- WALK of HeapPlays. -/
import Derived.Test.YtodnfchkkgoabaaHGw
import Derived.Test.YtodnfchkkgoabaaHFbFcAw
set_option linter.unusedVariables false
namespace Go.Proofs.Ytodnfchkkgoabaa
open Go.RowKit

set_option maxRecDepth 100000 in
set_option maxHeartbeats 1000000 in
theorem Best_stop (G : List (List Nat)) (p : Option Addr) (c v : Nat) (W : World) (hG : GN W p G) (hc : chk (intG G) = true) (hv : v < G.length) (hne : G.getD v [] = []) :
    Calls Try.prog 38 #[.slice p G.length c, .int .i64 v] W fun e w' => e = .returned (.tuple #[.int .i64 0, .int .i64 4]) ∧ Below W.heap.size W w' := by
  obtain ⟨l1, l200, hr, hx⟩ := chk_nat hc
  have HO := Lib.hid (Outcomes_any G p c W hG hc)
  have HRW := Lib.hid (fun X (hb : Below W.heap.size W X) => (hG.under hb).row hv hne)
  obtain ⟨n, hn⟩ : ∃ n, G.length = n := ⟨_, rfl⟩
  rw [hn] at HO hv l1 l200 ⊢
  clear hG hc hr hx hne hn
  go_enter Try.func38, Try.ntmps38
  go_wp2_with fail
  refine HO.out.mono ?_
  rintro e w1 ⟨gk, gd, f, rfl, hk, hd, ho, hg1, hg2, hb1⟩
  have HB1 := Lib.hid hb1
  clear hk hd ho hb1 HO hg1 hg2
  obtain ⟨g, pv, cv, rfl, cG, hrow⟩ := HRW.out w1 HB1.out
  simp only [List.length_nil] at cG
  have hgl := cell_lt2 cG
  clear hrow HRW
  go_wp2_with fail
  go_ret2
  exact ⟨rfl, (HB1.out.alloc HB1.out.size _).alloc (by have := HB1.out.size; simp; omega) _⟩

/-- What the law asks at a vertex. -/
theorem good_iff {f : Nat → Nat × Nat} {kd ds x : Nat} (h : good f kd ds x = true) : (f x).1 = kd ∧ (f x).2 = ds := by
  unfold good at h
  simpa using h

set_option maxRecDepth 100000 in
set_option maxHeartbeats 4000000 in
theorem HeapPlays_any (L : List (List Int)) (p : Option Addr) (c : Nat) (W : World) (hL : GA W p L) (hll : L.length ≤ 9223372036854775807) (hrl : ∀ v, (L.getD v []).length ≤ 9223372036854775807) :
    Calls Try.prog 12 #[.slice p L.length c] W fun e w' => e = .returned (.bool true) ∧ Below W.heap.size W w' := by
  have AW := Lib.hid awake_any
  have GR := Lib.hid (graph_any L p c 30 W hL (by omega) (by omega) hll hrl)
  obtain ⟨ln, hln⟩ : ∃ m, L.length = m := ⟨_, rfl⟩
  rw [hln] at GR ⊢
  clear hln hL hll hrl
  go_enter Try.func12, Try.ntmps12
  go_wp2_with fail
  refine GR.out.mono ?_
  rintro e w1 ⟨h, G, rfl, hG, hc, hn, hb1⟩
  have HO := Lib.hid (Outcomes_any G (some ⟨h, 0, none⟩) G.length w1 hG hc)
  have BI := Lib.hid (fun X v (hX : Below w1.heap.size w1 X) hv hne => Best_in G (some ⟨h, 0, none⟩) G.length v X (hG.under hX) hc hv hne)
  have BS := Lib.hid (fun X v (hX : Below w1.heap.size w1 X) hv hne => Best_stop G (some ⟨h, 0, none⟩) G.length v X (hG.under hX) hc hv hne)
  have HGN := Lib.hid hG
  have HPL := Lib.hid (fun f (ho : OutP (dec G) G.length f) => chk_plays hc ho)
  have HXX := Lib.hid (chk_nat hc)
  have HB1 := Lib.hid hb1
  obtain ⟨n, hnn⟩ : ∃ n, G.length = n := ⟨_, rfl⟩
  have HN := Lib.hid hnn
  rw [hnn] at HO BI BS hn ⊢
  clear hG hc hb1 hnn GR
  go_wp2_with fail
  refine HO.out.mono ?_
  rintro e w2 ⟨gk, gd, f, rfl, hk, hd, ho, hg1, hg2, hb2⟩
  have HP := Lib.hid (HPL.out f (by rw [← HN.out] at ho; exact ho))
  have HOP := Lib.hid (show OutP (dec G) G.length f by rw [← HN.out] at ho; exact ho)
  have HK := Lib.hid hk
  have HD := Lib.hid hd
  have HB2 := Lib.hid hb2
  clear hk hd ho hb2 HO HPL hg1 hg2
  go_wp2_with fail
  go_loopw [7] (fun x wr => ∃ v : Nat, x = .int .i64 v ∧ v ≤ n ∧ Hid (Below w2.heap.size w2 wr)) (fun x _ => n - (intOf x).toNat)
  case atStart => exact ⟨0, rfl, by omega, Lib.hid (Below.refl _ _)⟩
  case round =>
    obtain ⟨v, rfl, hv, hb⟩ := hrel
    by_cases hlt : v < n
    · have HX1 := Lib.hid (HB2.out.trans (hb.out.mono HB2.out.size))
      obtain ⟨R, hR⟩ : ∃ R, G.getD v [] = R := ⟨_, rfl⟩
      by_cases hne : R = []
      · subst hne
        have hst := HP.out.stop v (by rw [HN.out]; exact hlt) hR
        have BS1 := Lib.hid (BS.out wr v HX1.out hlt hR)
        have hk2 := HK.out.cell hlt
        have hd2 := HD.out.cell hlt
        simp only [hst] at hk2 hd2
        obtain ⟨g, pv, cv, e, cG, -⟩ := (HGN.out.under HX1.out).row (by rw [HN.out]; exact hlt) hR
        cases e
        have HRA := Lib.hid (fun X (hX : Below wr.heap.size wr X) => (cellOf2 hX cG (cell_lt2 cG)))
        have HRK := Lib.hid (fun X (hX : Below w2.heap.size w2 X) => (cellOf2 hX hk2 (cell_lt2 hk2)))
        have HRD := Lib.hid (fun X (hX : Below w2.heap.size w2 X) => (cellOf2 hX hd2 (cell_lt2 hd2)))
        clear hk2 hd2 hst cG hR
        go_wp2_with fail
        refine BS1.out.mono ?_
        rintro e w3 ⟨rfl, hb3⟩
        have B3 := Lib.hid (hb.out.trans (hb3.mono hb.out.size))
        have cG := HRA.out w3 hb3
        have cK := HRK.out w3 B3.out
        have cD := HRD.out w3 B3.out
        simp only [List.length_nil] at cG
        clear hb3 BS1 HRA HRK HRD
        go_wp2_with fail
        go_roundw
        case rel => exact ⟨v + 1, by go_num, by omega, B3⟩
        case measure => simp [intOf]; omega
      · have BI1 := Lib.hid (BI.out wr v HX1.out hlt (by rw [hR]; exact hne))
        have hvG : v < G.length := by rw [HN.out]; exact hlt
        obtain ⟨m, hm⟩ : ∃ m, R.length = m := ⟨_, rfl⟩
        have HM := Lib.hid hm
        have hm1 : 1 ≤ m := by rw [← hm]; exact List.length_pos_iff.2 hne
        have hm2 : m ≤ 200 := by have := HXX.out.2.2.1 v; rw [hR, hm] at this; exact this
        have HRX : Hid (∀ k, k < m → R.getD k 0 < n ∧ R.getD k 0 ∈ R) := Lib.hid (fun k hk => by
          have h1 := row_lt HXX.out.2.2.2 (v := v) (i := k) (by rw [hR, hm]; exact hk)
          rw [hR, HN.out] at h1
          refine ⟨h1, ?_⟩
          rw [List.getD_eq_getElem?_getD, List.getElem?_eq_getElem (by rw [hm]; exact hk)]
          exact List.getElem_mem _)
        have HMEM : Hid (∀ x ∈ R, ∃ k, k < m ∧ R.getD k 0 = x) := Lib.hid (fun x hx => by
          obtain ⟨k, hk, e⟩ := List.getElem_of_mem hx
          exact ⟨k, by rw [← hm]; exact hk, by rw [List.getD_eq_getElem?_getD, List.getElem?_eq_getElem hk]; exact e⟩)
        have HROW : Hid (∀ X, Below w2.heap.size w2 X → ∃ g pv cv, some (⟨h, 0, none⟩ : Addr) = some ⟨g, 0, none⟩ ∧ X.cell? ⟨g, v, none⟩ = some (.slice pv m cv) ∧ NS X pv R) := Lib.hid (fun X hX => by
          have := (HGN.out.under (HB2.out.trans (hX.mono HB2.out.size))).row hvG hR
          rw [hm] at this
          exact this)
        have HKX : Hid (∀ X u, Below w2.heap.size w2 X → u < n → X.cell? ⟨gk, u, none⟩ = some (.int .i64 ((f u).1 : Nat)) ∧ X.cell? ⟨gd, u, none⟩ = some (.int .i64 ((f u).2 : Nat))) := Lib.hid (fun X u hX hu => ⟨(HK.out.keep (hX.block _ HK.out.lt)).cell hu, (HD.out.keep (hX.block _ HD.out.lt)).cell hu⟩)
        have HBO : Hid (∀ w, BestOf G v w → good f (kindOf (f v).1) ((f v).2 - 1) w = true ∧ w < n) := Lib.hid (fun w hw => by
          obtain ⟨K, k1, k2, k3, _⟩ := hw f HOP.out
          refine ⟨k3, ?_⟩
          have := row_lt HXX.out.2.2.2 k1
          rw [HN.out, ← k2] at this
          exact this)
        have hk2 := HP.out.kind v hvG
        have hfar := HP.out.far v hvG
        obtain ⟨g, pv, cv, eg, cG, -⟩ := HROW.out wr hb.out
        cases eg
        go_wp2_with fail
        refine BI1.out.mono ?_
        rintro e w3 ⟨w, rfl, hbo, hb3⟩
        obtain ⟨hgood, hwn⟩ := HBO.out w hbo
        obtain ⟨q1, q2⟩ := good_iff hgood
        have B3 := Lib.hid (hb.out.trans (hb3.mono hb.out.size))
        have HGO := Lib.hid (And.intro q1 q2)
        clear hb3 BI1 cG hb hbo hgood q1 q2 HBO BI BS hne hm
        obtain ⟨t, ht⟩ : ∃ t, (f v).1 = t := ⟨_, rfl⟩
        have HT := Lib.hid ht
        rw [ht] at hk2
        obtain ⟨d, hd⟩ : ∃ d, (f v).2 = d := ⟨_, rfl⟩
        have HDV := Lib.hid hd
        have hd4 : d ≤ 60 := by rw [hd] at hfar; have := HN.out; omega
        clear ht hd hfar
        obtain ⟨g', pv', cv', eg, cG, -⟩ := HROW.out w3 B3.out
        cases eg
        have hmz : ((m : Int) == 0) = false := by simp; omega
        obtain rfl | rfl | rfl : t = 0 ∨ t = 1 ∨ t = 2 := by omega
        · have HLO := Lib.hid (HP.out.lost v d hvG (by rw [← HT.out, ← HDV.out]))
          obtain ⟨d0, hd0⟩ : ∃ e, d = e + 1 := by
            obtain ⟨u, _, e, _, h2⟩ := HLO.out.2 (by intro e; rw [hR] at e; have := HM.out; rw [e] at this; simp at this; omega)
            exact ⟨e, h2⟩
          subst hd0
          have HALL : Hid (∀ k, k < m → (f (R.getD k 0)).1 = 1 ∧ (f (R.getD k 0)).2 < d0 + 1) := Lib.hid (fun k hk => HLO.out.1 _ (by rw [hR]; exact (HRX.out k hk).2))
          have HBW : Hid ((f w).2 = d0) := Lib.hid (by rw [HGO.out.2, HDV.out]; omega)
          clear HLO
          go_wp2_with fail
          go_loopw [10, 11] (fun x y wx => ∃ (dr : Bool) (k : Nat), x = .bool dr ∧ y = .int .i64 k ∧ k ≤ m ∧ Hid (dr = true ↔ ∃ j, j < k ∧ (f (R.getD j 0)).1 = 2) ∧ Hid (Below w2.heap.size w2 wx)) (fun _ y _ => m - (intOf y).toNat)
          case atStart => exact ⟨false, 0, rfl, rfl, by omega, Lib.hid (by simp), B3⟩
          case round =>
            clear B3 cG
            obtain ⟨dr, k, rfl, rfl, hkm', hdr, hb⟩ := hrel
            obtain ⟨g1, pv1, cv1, eg, cG, hns⟩ := HROW.out wr hb.out
            cases eg
            have cV := HKX.out wr v hb.out hlt
            have cVk : wr.cell? ⟨gk, v, none⟩ = some (.int .i64 0) := by rw [cV.1, HT.out]; rfl
            have cVd : wr.cell? ⟨gd, v, none⟩ = some (.int .i64 ((d0 : Int) + 1)) := by rw [cV.2, HDV.out]; rfl
            clear cV
            by_cases hkm : k < m
            · have hxn := (HRX.out k hkm).1
              have cX := HKX.out wr _ hb.out hxn
              obtain ⟨g2, rfl, cR⟩ := hns k (by rw [HM.out]; exact hkm)
              have HNS := Lib.hid hns
              clear hns
              have bk : (k : Int) < (m : Int) := by omega
              obtain ⟨ha1, ha2⟩ := HALL.out k hkm
              simp only [ha1] at cX
              have HIF : Hid ((∃ j, j < k + 1 ∧ (f (R.getD j 0)).1 = 2) ↔ ∃ j, j < k ∧ (f (R.getD j 0)).1 = 2) := Lib.hid ⟨fun ⟨j, h1, h2⟩ => by
                by_cases e : j = k
                · subst e; rw [ha1] at h2; cases h2
                · exact ⟨j, by omega, h2⟩, fun ⟨j, h1, h2⟩ => ⟨j, by omega, h2⟩⟩
              clear ha1
              generalize (f (R.getD k 0)).2 = dw at cX ha2
              generalize R.getD k 0 = x at cX cR hxn
              have q0 : decide ((d0 : Int) + 1 ≤ (dw : Int)) = false := decide_eq_false (by omega)
              have bx : (x : Int) < (n : Int) := by omega
              obtain ⟨cX1, cX2⟩ := cX
              cases dr with
              | true =>
                go_wp2_with fail
                go_quiet (fail)
                go_wp2_with fail
                go_roundw
                case rel => exact ⟨_, k + 1, rfl, by go_num, by omega, Lib.hid (by rw [HIF.out]; first | exact hdr.out | simpa using hdr.out), Lib.hid (below_drewN hb.out _)⟩
                case measure => simp [intOf]; omega
              | false =>
                go_wp2_with fail
                go_quiet (fail)
                go_wp2_with fail
                go_roundw
                case rel => exact ⟨_, k + 1, rfl, by go_num, by omega, Lib.hid (by rw [HIF.out]; first | exact hdr.out | simpa using hdr.out), Lib.hid (below_drewN hb.out _)⟩
                case measure => simp [intOf]; omega
            · clear hns
              have cW := HKX.out wr w hb.out hwn
              have bw : (w : Int) < (n : Int) := by omega
              have cB : wr.cell? ⟨gd, w, none⟩ = some (.int .i64 (d0 : Int)) := by rw [cW.2, HBW.out]
              clear cW
              go_wp2_with fail
              go_quiet (fail)
              go_wp2_with fail
              go_roundw
              case rel => exact ⟨v + 1, by go_num, by omega, Lib.hid (below_drewN hb.out _)⟩
              case measure => simp [intOf]; omega
        · have HWO := Lib.hid (HP.out.won v d hvG (by rw [← HT.out, ← HDV.out]))
          obtain ⟨d0, hd0⟩ : ∃ e, d = e + 1 := by
            obtain ⟨u, _, e, _, h2⟩ := HWO.out
            exact ⟨e, h2⟩
          subst hd0
          have HBW : Hid ((f w).1 = 0 ∧ (f w).2 = d0) := Lib.hid ⟨by rw [HGO.out.1, HT.out]; rfl, by rw [HGO.out.2, HDV.out]; omega⟩
          clear HWO
          go_wp2_with fail
          go_loopw [10, 11] (fun x y wx => ∃ (dr : Bool) (k : Nat), x = .bool dr ∧ y = .int .i64 k ∧ k ≤ m ∧ Hid (dr = true ↔ ∃ j, j < k ∧ (f (R.getD j 0)).1 = 2) ∧ Hid (Below w2.heap.size w2 wx)) (fun _ y _ => m - (intOf y).toNat)
          case atStart => exact ⟨false, 0, rfl, rfl, by omega, Lib.hid (by simp), B3⟩
          case round =>
            clear B3 cG
            obtain ⟨dr, k, rfl, rfl, hkm', hdr, hb⟩ := hrel
            obtain ⟨g1, pv1, cv1, eg, cG, hns⟩ := HROW.out wr hb.out
            cases eg
            have cV := HKX.out wr v hb.out hlt
            have cVk : wr.cell? ⟨gk, v, none⟩ = some (.int .i64 1) := by rw [cV.1, HT.out]; rfl
            have cVd : wr.cell? ⟨gd, v, none⟩ = some (.int .i64 ((d0 : Int) + 1)) := by rw [cV.2, HDV.out]; rfl
            clear cV
            by_cases hkm : k < m
            · have hxn := (HRX.out k hkm).1
              have cX := HKX.out wr _ hb.out hxn
              obtain ⟨g2, rfl, cR⟩ := hns k (by rw [HM.out]; exact hkm)
              have HNS := Lib.hid hns
              clear hns
              have bk : (k : Int) < (m : Int) := by omega
              have HIF : Hid ((∃ j, j < k + 1 ∧ (f (R.getD j 0)).1 = 2) ↔ (∃ j, j < k ∧ (f (R.getD j 0)).1 = 2) ∨ (f (R.getD k 0)).1 = 2) := Lib.hid ⟨fun ⟨j, h1, h2⟩ => by
                by_cases e : j = k
                · subst e; exact .inr h2
                · exact .inl ⟨j, by omega, h2⟩, fun h => by
                rcases h with ⟨j, h1, h2⟩ | h
                · exact ⟨j, by omega, h2⟩
                · exact ⟨k, by omega, h⟩⟩
              generalize (f (R.getD k 0)).2 = dw at cX
              generalize (f (R.getD k 0)).1 = tw at cX HIF
              generalize R.getD k 0 = x at cX cR hxn
              have bx : (x : Int) < (n : Int) := by omega
              obtain ⟨cX1, cX2⟩ := cX
              cases dr with
              | true =>
                go_wp2_with fail
                go_quiet (fail)
                go_wp2_with fail
                go_roundw
                case rel => exact ⟨_, k + 1, rfl, by go_num, by omega, Lib.hid (by rw [HIF.out]; exact ⟨fun _ => .inl (hdr.out.1 (by trivial)), fun _ => rfl⟩), Lib.hid (below_drewN hb.out _)⟩
                case measure => simp [intOf]; omega
              | false =>
                by_cases e2 : tw = 2
                · subst e2
                  go_wp2_with fail
                  go_quiet (fail)
                  go_wp2_with fail
                  go_roundw
                  case rel => exact ⟨_, k + 1, rfl, by go_num, by omega, Lib.hid (by rw [HIF.out]; exact ⟨fun _ => .inr (by trivial), fun _ => rfl⟩), Lib.hid (below_drewN hb.out _)⟩
                  case measure => simp [intOf]; omega
                · have q2 : ((tw : Int) == 2) = false := by simp; omega
                  go_wp2_with fail
                  go_quiet (fail)
                  go_wp2_with fail
                  go_roundw
                  case rel => exact ⟨_, k + 1, rfl, by go_num, by omega, Lib.hid (by rw [HIF.out]; exact ⟨fun h => (by cases h), fun h => absurd (h.resolve_left (fun h => by have := hdr.out.2 h; cases this)) e2⟩), Lib.hid (below_drewN hb.out _)⟩
                  case measure => simp [intOf]; omega
            · clear hns
              have cW := HKX.out wr w hb.out hwn
              have bw : (w : Int) < (n : Int) := by omega
              have cB1 : wr.cell? ⟨gk, w, none⟩ = some (.int .i64 0) := by rw [cW.1, HBW.out.1]; rfl
              have cB : wr.cell? ⟨gd, w, none⟩ = some (.int .i64 (d0 : Int)) := by rw [cW.2, HBW.out.2]
              clear cW
              go_wp2_with fail
              go_quiet (fail)
              go_wp2_with fail
              go_roundw
              case rel => exact ⟨v + 1, by go_num, by omega, Lib.hid (below_drewN hb.out _)⟩
              case measure => simp [intOf]; omega
        · have HDR := Lib.hid (HP.out.drawn v hvG HT.out)
          obtain rfl : d = 0 := by rw [← HDV.out]; exact HDR.out.1
          have HALL : Hid (∀ k, k < m → (f (R.getD k 0)).1 ≠ 0) := Lib.hid (fun k hk => HDR.out.2.1 _ (by rw [hR]; exact (HRX.out k hk).2))
          have HEX : Hid (∃ k, k < m ∧ (f (R.getD k 0)).1 = 2) := Lib.hid (by
            obtain ⟨u, h1, h2⟩ := HDR.out.2.2
            rw [hR] at h1
            obtain ⟨k, h3, rfl⟩ := HMEM.out u h1
            exact ⟨k, h3, by rw [h2]⟩)
          have HBW : Hid ((f w).1 = 2) := Lib.hid (by rw [HGO.out.1, HT.out]; rfl)
          clear HDR
          go_wp2_with fail
          go_loopw [10, 11] (fun x y wx => ∃ (dr : Bool) (k : Nat), x = .bool dr ∧ y = .int .i64 k ∧ k ≤ m ∧ Hid (dr = true ↔ ∃ j, j < k ∧ (f (R.getD j 0)).1 = 2) ∧ Hid (Below w2.heap.size w2 wx)) (fun _ y _ => m - (intOf y).toNat)
          case atStart => exact ⟨false, 0, rfl, rfl, by omega, Lib.hid (by simp), B3⟩
          case round =>
            clear B3 cG
            obtain ⟨dr, k, rfl, rfl, hkm', hdr, hb⟩ := hrel
            obtain ⟨g1, pv1, cv1, eg, cG, hns⟩ := HROW.out wr hb.out
            cases eg
            have cV := HKX.out wr v hb.out hlt
            have cVk : wr.cell? ⟨gk, v, none⟩ = some (.int .i64 2) := by rw [cV.1, HT.out]; rfl
            have cVd : wr.cell? ⟨gd, v, none⟩ = some (.int .i64 0) := by rw [cV.2, HDV.out]; rfl
            clear cV
            by_cases hkm : k < m
            · have hxn := (HRX.out k hkm).1
              have cX := HKX.out wr _ hb.out hxn
              obtain ⟨g2, rfl, cR⟩ := hns k (by rw [HM.out]; exact hkm)
              have HNS := Lib.hid hns
              clear hns
              have bk : (k : Int) < (m : Int) := by omega
              have ha1 := HALL.out k hkm
              have HIF : Hid ((∃ j, j < k + 1 ∧ (f (R.getD j 0)).1 = 2) ↔ (∃ j, j < k ∧ (f (R.getD j 0)).1 = 2) ∨ (f (R.getD k 0)).1 = 2) := Lib.hid ⟨fun ⟨j, h1, h2⟩ => by
                by_cases e : j = k
                · subst e; exact .inr h2
                · exact .inl ⟨j, by omega, h2⟩, fun h => by
                rcases h with ⟨j, h1, h2⟩ | h
                · exact ⟨j, by omega, h2⟩
                · exact ⟨k, by omega, h⟩⟩
              generalize (f (R.getD k 0)).2 = dw at cX
              generalize (f (R.getD k 0)).1 = tw at cX HIF ha1
              generalize R.getD k 0 = x at cX cR hxn
              have q0 : ((tw : Int) == 0) = false := by simp; omega
              have bx : (x : Int) < (n : Int) := by omega
              obtain ⟨cX1, cX2⟩ := cX
              cases dr with
              | true =>
                go_wp2_with fail
                go_quiet (fail)
                go_wp2_with fail
                go_roundw
                case rel => exact ⟨_, k + 1, rfl, by go_num, by omega, Lib.hid (by rw [HIF.out]; exact ⟨fun _ => .inl (hdr.out.1 (by trivial)), fun _ => rfl⟩), Lib.hid (below_drewN hb.out _)⟩
                case measure => simp [intOf]; omega
              | false =>
                by_cases e2 : tw = 2
                · subst e2
                  go_wp2_with fail
                  go_quiet (fail)
                  go_wp2_with fail
                  go_roundw
                  case rel => exact ⟨_, k + 1, rfl, by go_num, by omega, Lib.hid (by rw [HIF.out]; exact ⟨fun _ => .inr (by trivial), fun _ => rfl⟩), Lib.hid (below_drewN hb.out _)⟩
                  case measure => simp [intOf]; omega
                · have q2 : ((tw : Int) == 2) = false := by simp; omega
                  go_wp2_with fail
                  go_quiet (fail)
                  go_wp2_with fail
                  go_roundw
                  case rel => exact ⟨_, k + 1, rfl, by go_num, by omega, Lib.hid (by rw [HIF.out]; exact ⟨fun h => (by cases h), fun h => absurd (h.resolve_left (fun h => by have := hdr.out.2 h; cases this)) e2⟩), Lib.hid (below_drewN hb.out _)⟩
                  case measure => simp [intOf]; omega
            · clear hns
              have cW := HKX.out wr w hb.out hwn
              have bw : (w : Int) < (n : Int) := by omega
              have cB1 : wr.cell? ⟨gk, w, none⟩ = some (.int .i64 2) := by rw [cW.1, HBW.out]; rfl
              obtain rfl : dr = true := hdr.out.2 (by
                obtain ⟨j, h1, h2⟩ := HEX.out
                exact ⟨j, by omega, h2⟩)
              clear cW
              go_wp2_with fail
              go_roundw
              case rel => exact ⟨v + 1, by go_num, by omega, hb⟩
              case measure => simp [intOf]; omega
    · go_wp2_with fail
      refine (AW.out wr).mono ?_
      rintro e w5 ⟨rfl, hb5⟩
      have B5 := Lib.hid ((HB1.out.trans (HB2.out.mono HB1.out.size)).trans ((hb.out.mono (Nat.le_trans HB1.out.size HB2.out.size)).trans (hb5.mono (Nat.le_trans (Nat.le_trans HB1.out.size HB2.out.size) hb.out.size))))
      clear hb5
      go_wp2_with fail
      go_ret
      exact ⟨rfl, B5.out⟩
end Go.Proofs.Ytodnfchkkgoabaa
