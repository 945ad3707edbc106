import Derived.Test.YtamhlkjfpdkhoaaGreatDoorQ11
import Derived.Test.YtamhlkjfpdkhoaaGreatDoorQ21
import Derived.Test.YtamhlkjfpdkhoaaGreatDoorQ22
import Derived.Recover
/- WALKS of the program's fractions of any size: times. -/
set_option linter.unusedVariables false
namespace Go.Proofs.YtamhlkjfpdkhoaaGreatDoor
open Go.RowKit

theorem DN.pos_den (k : Nat) : 0 < den k := den_pos k

set_option maxRecDepth 100000 in
set_option maxHeartbeats 2000000 in
theorem rtimes_frac {K : Nat} (hK : K ≤ 1073741824) (hK1 : 1 ≤ K) (GC : GcdC K) (DC : DivC K) (u v : Value) (s s' : Bool) (n k n' k' a b c d p q : Nat) (w : World) (hu : WQ w u s n k K) (hv : WQ w v s' n' k' K) (hne : k ≠ 0 ∨ k' ≠ 0)
    (ha : n / Nat.gcd n (den k') = a) (hb : den k' / Nat.gcd n (den k') = b) (hc : n' / Nat.gcd n' (den k) = c) (hd : den k / Nat.gcd n' (den k) = d) (hp : a * c = p) (hq : d * b = q) :
    Calls Tryz.prog 129 #[u, v] w fun e w' => ∃ x, e = .returned x ∧ WQ w' x ((s != s') && decide (0 < p)) p (short q) (K + K) ∧ Below w.heap.size w w' := by
  have BU : ∀ W (hb : Below w.heap.size w W), _ := fun W hb => below_all u s n k K W (hu.below hb) hK1
  have BV : ∀ W (hb : Below w.heap.size w W), _ := fun W hb => below_all v s' n' k' K W (hv.below hb) hK1
  have WU : ∀ W (hb : Below w.heap.size w W), _ := fun W hb => isWhole_all u s n k K W (hu.below hb)
  have WV : ∀ W (hb : Below w.heap.size w W), _ := fun W hb => isWhole_all v s' n' k' K W (hv.below hb)
  obtain ⟨du, eu, rfl, hdu, heu⟩ := hu
  obtain ⟨up, ul, uc, rfl⟩ := hdu.slice
  obtain ⟨up', ul', uc', rfl⟩ := heu.slice
  obtain ⟨dv, ev, rfl, hdv, hev⟩ := hv
  obtain ⟨vp, vl, vc, rfl⟩ := hdv.slice
  obtain ⟨vp', vl', vc', rfl⟩ := hev.slice
  have S1 : ∀ W y (hy : DN W y (den k') K) (hb : Below w.heap.size w W), _ := fun W y hy hb => shorten_all hK GC DC _ y n (den k') W (hdu.below hb) hy (den_pos _)
  have S2 : ∀ W y (hy : DN W y (den k) K) (hb : Below w.heap.size w W), _ := fun W y hy hb => shorten_all hK GC DC _ y n' (den k) W (hdv.below hb) hy (den_pos _)
  rw [ha, hb] at S1
  rw [hc, hd] at S2
  have T1 : ∀ W x y (hx : DN W x a K) (hy : DN W y c K), _ := fun W x y hx hy => times_all x y a c K K W hx hy hK hK
  have T2 : ∀ W x y (hx : DN W x d K) (hy : DN W y b K), _ := fun W x y hx hy => times_all x y d b K K W hx hy hK hK
  rw [hp] at T1
  rw [hq] at T2
  obtain ⟨s0, hs0⟩ : ∃ s0, ((s != s') && decide (0 < p)) = s0 := ⟨_, rfl⟩
  have SG : ∀ W d, DN W d p (K + K) → _ := fun W d h => signed_all (s != s') d p (K + K) W h
  rw [hs0]
  simp only [hs0] at SG
  have LW := fun W u v (hu : WS W u s0 p (K + K)) (hv : DN W v q (K + K)) => lowest_all u v s0 p q (K + K) W hu hv
  obtain ⟨dk, hdk⟩ : ∃ dk, den k = dk := ⟨_, rfl⟩
  obtain ⟨dk', hdk'⟩ : ∃ dk, den k' = dk := ⟨_, rfl⟩
  rw [hdk] at BU S2
  rw [hdk'] at BV S1
  replace BU := Lib.hid BU
  replace BV := Lib.hid BV
  replace S1 := Lib.hid S1
  replace S2 := Lib.hid S2
  replace T1 := Lib.hid T1
  replace T2 := Lib.hid T2
  replace SG := Lib.hid SG
  replace LW := Lib.hid LW
  have L0 := Lib.hid ((((LayX.nil w).push #[.bool s, .slice up ul uc, .slice up' ul' uc'] 45).push #[.bool s', .slice vp vl vc, .slice vp' vl' vc'] 45).push #[.bool false, .slice none 0 0, .slice none 0 0] 45)
  clear ha hb hc hd hp hq hdu hdv heu hev hs0 hdk hdk' GC DC
  by_cases hk : k = 0
  · have e1 : decide (k = 0) = true := by simp [hk]
    have e2 : decide (k' = 0) = false := by rcases hne with h | h <;> simp_all
    rw [e1] at WU
    rw [e2] at WV
    replace WU := Lib.hid WU
    replace WV := Lib.hid WV
    clear e1 e2 hne hk
    go_enter Tryz.func129, Tryz.ntmps129
    go_wp2_with fail
    refine (WU.out _ L0.out.1.2).mono ?_
    rintro e w1 ⟨rfl, hb1⟩
    have L1 : Hid (Lay w [(#[.bool s, .slice up ul uc, .slice up' ul' uc'], 45), (#[.bool s', .slice vp vl vc, .slice vp' vl' vc'], 45), (#[.bool false, .slice none 0 0, .slice none 0 0], 45)] w1) := Lib.hid (L0.out.1.step hb1)
    obtain ⟨⟨c0, c1, c2, c3, c4, c5⟩, _⟩ := sOfRR L1.out
    clear hb1 L0
    go_wp2_with fail
    refine (WV.out _ L1.out.2).mono ?_
    rintro e w2 ⟨rfl, hb2⟩
    have L2 := Lib.hid (L1.out.step hb2)
    clear hb2 L1 c0 c1 c2 c3 c4 c5
    obtain ⟨⟨c0, c1, c2, c3, c4, c5⟩, _⟩ := sOfRR L2.out
    go_wp2_with fail
    replace L2 := Lib.hid L2.out.drew
    clear c0 c1 c2 c3 c4 c5
    go_region_held3 (fun W => (W.cell? ⟨w.heap.size, 0, none⟩ = some (.bool s) ∧ W.cell? ⟨w.heap.size, 1, none⟩ = some (.slice up ul uc) ∧ W.cell? ⟨w.heap.size, 2, none⟩ = some (.slice up' ul' uc') ∧ W.cell? ⟨w.heap.size + 1, 0, none⟩ = some (.bool s') ∧ W.cell? ⟨w.heap.size + 1, 1, none⟩ = some (.slice vp vl vc) ∧ W.cell? ⟨w.heap.size + 1, 2, none⟩ = some (.slice vp' vl' vc')) ∧ Hid (∃ rest, Lay w ((#[.bool s, .slice up ul uc, .slice up' ul' uc'], 45) :: (#[.bool s', .slice vp vl vc, .slice vp' vl' vc'], 45) :: rest) W)) (first | exact sOfRR L4.out | exact sOfRR L3.out | exact sOfRR L2.out) (first
      | (go_at_call 104; refine (BV.out _ L2.out.2).mono ?_; rintro e w3 ⟨y, rfl, hy, hb⟩; have L3 := Lib.hid (L2.out.step hb); have Hy := Lib.hid hy; clear hy hb)
      | (go_at_call 172; refine (S1.out _ _ Hy.out L3.out.2).mono ?_; rintro e w4 ⟨xa, xb, rfl, ha, hb, hl⟩; have L4 := Lib.hid (L3.out.step hl); have Ha := Lib.hid ha; have Hb := Lib.hid hb; clear ha hb hl))
    obtain ⟨⟨c0, c1, c2, c3, c4, c5⟩, _⟩ := sOfRR L4.out
    clear Hy L2 L3
    go_wp2_with fail
    replace L4 := Lib.hid L4.out.drew
    clear c0 c1 c2 c3 c4 c5
    go_region_held3 (fun W => (W.cell? ⟨w.heap.size, 0, none⟩ = some (.bool s) ∧ W.cell? ⟨w.heap.size, 1, none⟩ = some (.slice up ul uc) ∧ W.cell? ⟨w.heap.size, 2, none⟩ = some (.slice up' ul' uc') ∧ W.cell? ⟨w.heap.size + 1, 0, none⟩ = some (.bool s') ∧ W.cell? ⟨w.heap.size + 1, 1, none⟩ = some (.slice vp vl vc) ∧ W.cell? ⟨w.heap.size + 1, 2, none⟩ = some (.slice vp' vl' vc')) ∧ Hid (∃ rest, Lay w ((#[.bool s, .slice up ul uc, .slice up' ul' uc'], 45) :: (#[.bool s', .slice vp vl vc, .slice vp' vl' vc'], 45) :: rest) W)) (first | exact sOfRR L6.out | exact sOfRR L5.out | exact sOfRR L4.out) (first
      | (go_at_call 104; refine (BU.out _ L4.out.2).mono ?_; rintro e w5 ⟨y, rfl, hy, hb⟩; have L5 := Lib.hid (L4.out.step hb); have Hy := Lib.hid hy; replace Ha := Lib.hid (Ha.out.below ((Below.refl _ _).drew.trans hb)); replace Hb := Lib.hid (Hb.out.below ((Below.refl _ _).drew.trans hb)); clear hy hb)
      | (go_at_call 172; refine (S2.out _ _ Hy.out L5.out.2).mono ?_; rintro e w6 ⟨xc, xd, rfl, ha, hb, hl⟩; have L6 := Lib.hid (L5.out.step hl); have Hc := Lib.hid ha; have Hd := Lib.hid hb; replace Ha := Lib.hid (Ha.out.below hl); replace Hb := Lib.hid (Hb.out.below hl); clear ha hb hl))
    obtain ⟨⟨c0, c1, c2, c3, c4, c5⟩, _⟩ := sOfRR L6.out
    clear Hy L4 L5
    go_wp2_with fail
    clear c0 c1 c2 c3 c4 c5
    refine (T1.out _ _ _ Ha.out Hc.out).mono ?_
    rintro e w7 ⟨xp, rfl, hp, _, hl⟩
    have L7 := Lib.hid (L6.out.step hl)
    obtain ⟨xpp, xpl, xpc, rfl⟩ := hp.slice
    have Hp := Lib.hid hp
    replace Hd := Lib.hid (Hd.out.below hl)
    replace Hb := Lib.hid (Hb.out.below hl)
    clear L6 Ha Hc hp hl
    go_wp2_with fail
    refine (SG.out _ _ Hp.out).mono ?_
    rintro e w8 ⟨rfl, hl⟩
    have L8 := Lib.hid (L7.out.step hl)
    replace Hp := Lib.hid (Hp.out.below hl)
    replace Hd := Lib.hid (Hd.out.below hl)
    replace Hb := Lib.hid (Hb.out.below hl)
    clear L7 hl
    go_wp2_with fail
    refine (T2.out _ _ _ Hd.out Hb.out).mono ?_
    rintro e w9 ⟨xq, rfl, hq, _, hl⟩
    have L9 := Lib.hid (L8.out.step hl)
    have Hq := Lib.hid hq
    replace Hp := Lib.hid (Hp.out.below hl)
    clear L8 Hb Hd hq hl
    go_wp2_with fail
    refine (LW.out _ _ _ ⟨_, rfl, Hp.out⟩ Hq.out).mono ?_
    rintro e wx ⟨x, rfl, ⟨x1, x2, rfl, hx1, hx2⟩, hl⟩
    obtain ⟨xp, xl, xc, rfl⟩ := hx1.slice
    obtain ⟨zp, zl, zc, rfl⟩ := hx2.slice
    have T3 := Lib.hid (L9.out.step hl)
    have Hx1 := Lib.hid hx1
    have Hx2 := Lib.hid hx2
    obtain ⟨c0, c1, c2, f0, f1, f2⟩ := cells3 (T3.out.row 2 (w.heap.size + 1 + 1) rfl rfl)
    clear L9 Hq Hp hx1 hx2 hl
    go_wp2_with fail
    refine bodyPost_ret (res_rat rfl _ _ (w.heap.size + 1 + 1) _ _ _ _ (by rfl) ((T3.out.set3 2 _ rfl rfl _ _ _).row 2 _ rfl rfl)) rfl ?_
    exact ⟨_, rfl, ⟨_, _, rfl, Hx1.out.set3 (off3 (T3.out.row 2 _ rfl rfl)) _ _ _, Hx2.out.set3 (off3 (T3.out.row 2 _ rfl rfl)) _ _ _⟩, (T3.out.set3 2 _ rfl rfl _ _ _).2⟩
  · have e1 : decide (k = 0) = false := by simp [hk]
    rw [e1] at WU
    replace WU := Lib.hid WU
    clear e1 hne hk WV
    go_enter Tryz.func129, Tryz.ntmps129
    go_wp2_with fail
    refine (WU.out _ L0.out.1.2).mono ?_
    rintro e w1 ⟨rfl, hb1⟩
    have L1 : Hid (Lay w [(#[.bool s, .slice up ul uc, .slice up' ul' uc'], 45), (#[.bool s', .slice vp vl vc, .slice vp' vl' vc'], 45), (#[.bool false, .slice none 0 0, .slice none 0 0], 45)] w1) := Lib.hid (L0.out.1.step hb1)
    obtain ⟨⟨c0, c1, c2, c3, c4, c5⟩, _⟩ := sOfRR L1.out
    clear hb1 L0
    have L2 := L1
    clear L1
    go_wp2_with fail
    replace L2 := Lib.hid L2.out.drew
    clear c0 c1 c2 c3 c4 c5
    go_region_held3 (fun W => (W.cell? ⟨w.heap.size, 0, none⟩ = some (.bool s) ∧ W.cell? ⟨w.heap.size, 1, none⟩ = some (.slice up ul uc) ∧ W.cell? ⟨w.heap.size, 2, none⟩ = some (.slice up' ul' uc') ∧ W.cell? ⟨w.heap.size + 1, 0, none⟩ = some (.bool s') ∧ W.cell? ⟨w.heap.size + 1, 1, none⟩ = some (.slice vp vl vc) ∧ W.cell? ⟨w.heap.size + 1, 2, none⟩ = some (.slice vp' vl' vc')) ∧ Hid (∃ rest, Lay w ((#[.bool s, .slice up ul uc, .slice up' ul' uc'], 45) :: (#[.bool s', .slice vp vl vc, .slice vp' vl' vc'], 45) :: rest) W)) (first | exact sOfRR L4.out | exact sOfRR L3.out | exact sOfRR L2.out) (first
      | (go_at_call 104; refine (BV.out _ L2.out.2).mono ?_; rintro e w3 ⟨y, rfl, hy, hb⟩; have L3 := Lib.hid (L2.out.step hb); have Hy := Lib.hid hy; clear hy hb)
      | (go_at_call 172; refine (S1.out _ _ Hy.out L3.out.2).mono ?_; rintro e w4 ⟨xa, xb, rfl, ha, hb, hl⟩; have L4 := Lib.hid (L3.out.step hl); have Ha := Lib.hid ha; have Hb := Lib.hid hb; clear ha hb hl))
    obtain ⟨⟨c0, c1, c2, c3, c4, c5⟩, _⟩ := sOfRR L4.out
    clear Hy L2 L3
    go_wp2_with fail
    replace L4 := Lib.hid L4.out.drew
    clear c0 c1 c2 c3 c4 c5
    go_region_held3 (fun W => (W.cell? ⟨w.heap.size, 0, none⟩ = some (.bool s) ∧ W.cell? ⟨w.heap.size, 1, none⟩ = some (.slice up ul uc) ∧ W.cell? ⟨w.heap.size, 2, none⟩ = some (.slice up' ul' uc') ∧ W.cell? ⟨w.heap.size + 1, 0, none⟩ = some (.bool s') ∧ W.cell? ⟨w.heap.size + 1, 1, none⟩ = some (.slice vp vl vc) ∧ W.cell? ⟨w.heap.size + 1, 2, none⟩ = some (.slice vp' vl' vc')) ∧ Hid (∃ rest, Lay w ((#[.bool s, .slice up ul uc, .slice up' ul' uc'], 45) :: (#[.bool s', .slice vp vl vc, .slice vp' vl' vc'], 45) :: rest) W)) (first | exact sOfRR L6.out | exact sOfRR L5.out | exact sOfRR L4.out) (first
      | (go_at_call 104; refine (BU.out _ L4.out.2).mono ?_; rintro e w5 ⟨y, rfl, hy, hb⟩; have L5 := Lib.hid (L4.out.step hb); have Hy := Lib.hid hy; replace Ha := Lib.hid (Ha.out.below ((Below.refl _ _).drew.trans hb)); replace Hb := Lib.hid (Hb.out.below ((Below.refl _ _).drew.trans hb)); clear hy hb)
      | (go_at_call 172; refine (S2.out _ _ Hy.out L5.out.2).mono ?_; rintro e w6 ⟨xc, xd, rfl, ha, hb, hl⟩; have L6 := Lib.hid (L5.out.step hl); have Hc := Lib.hid ha; have Hd := Lib.hid hb; replace Ha := Lib.hid (Ha.out.below hl); replace Hb := Lib.hid (Hb.out.below hl); clear ha hb hl))
    obtain ⟨⟨c0, c1, c2, c3, c4, c5⟩, _⟩ := sOfRR L6.out
    clear Hy L4 L5
    go_wp2_with fail
    clear c0 c1 c2 c3 c4 c5
    refine (T1.out _ _ _ Ha.out Hc.out).mono ?_
    rintro e w7 ⟨xp, rfl, hp, _, hl⟩
    have L7 := Lib.hid (L6.out.step hl)
    obtain ⟨xpp, xpl, xpc, rfl⟩ := hp.slice
    have Hp := Lib.hid hp
    replace Hd := Lib.hid (Hd.out.below hl)
    replace Hb := Lib.hid (Hb.out.below hl)
    clear L6 Ha Hc hp hl
    go_wp2_with fail
    refine (SG.out _ _ Hp.out).mono ?_
    rintro e w8 ⟨rfl, hl⟩
    have L8 := Lib.hid (L7.out.step hl)
    replace Hp := Lib.hid (Hp.out.below hl)
    replace Hd := Lib.hid (Hd.out.below hl)
    replace Hb := Lib.hid (Hb.out.below hl)
    clear L7 hl
    go_wp2_with fail
    refine (T2.out _ _ _ Hd.out Hb.out).mono ?_
    rintro e w9 ⟨xq, rfl, hq, _, hl⟩
    have L9 := Lib.hid (L8.out.step hl)
    have Hq := Lib.hid hq
    replace Hp := Lib.hid (Hp.out.below hl)
    clear L8 Hb Hd hq hl
    go_wp2_with fail
    refine (LW.out _ _ _ ⟨_, rfl, Hp.out⟩ Hq.out).mono ?_
    rintro e wx ⟨x, rfl, ⟨x1, x2, rfl, hx1, hx2⟩, hl⟩
    obtain ⟨xp, xl, xc, rfl⟩ := hx1.slice
    obtain ⟨zp, zl, zc, rfl⟩ := hx2.slice
    have T3 := Lib.hid (L9.out.step hl)
    have Hx1 := Lib.hid hx1
    have Hx2 := Lib.hid hx2
    obtain ⟨c0, c1, c2, f0, f1, f2⟩ := cells3 (T3.out.row 2 (w.heap.size + 1 + 1) rfl rfl)
    clear L9 Hq Hp hx1 hx2 hl
    go_wp2_with fail
    refine bodyPost_ret (res_rat rfl _ _ (w.heap.size + 1 + 1) _ _ _ _ (by rfl) ((T3.out.set3 2 _ rfl rfl _ _ _).row 2 _ rfl rfl)) rfl ?_
    exact ⟨_, rfl, ⟨_, _, rfl, Hx1.out.set3 (off3 (T3.out.row 2 _ rfl rfl)) _ _ _, Hx2.out.set3 (off3 (T3.out.row 2 _ rfl rfl)) _ _ _⟩, (T3.out.set3 2 _ rfl rfl _ _ _).2⟩

set_option maxRecDepth 100000 in
set_option maxHeartbeats 1000000 in
theorem rtimes_whole {K : Nat} (hK : K ≤ 1073741824) (u v : Value) (s s' : Bool) (n n' p : Nat) (w : World) (hu : WQ w u s n 0 K) (hv : WQ w v s' n' 0 K) (hp : n * n' = p) :
    Calls Tryz.prog 129 #[u, v] w fun e w' => ∃ x, e = .returned x ∧ WQ w' x ((s != s') && decide (0 < p)) p 0 (K + K) ∧ Below w.heap.size w w' := by
  have WU : ∀ W (hb : Below w.heap.size w W), _ := fun W hb => isWhole_all u s n 0 K W (hu.below hb)
  have WV : ∀ W (hb : Below w.heap.size w W), _ := fun W hb => isWhole_all v s' n' 0 K W (hv.below hb)
  have e1 : decide ((0 : Nat) = 0) = true := rfl
  rw [e1] at WU WV
  obtain ⟨du, eu, rfl, hdu, heu⟩ := hu
  obtain ⟨up, ul, uc, rfl⟩ := hdu.slice
  obtain ⟨up', ul', uc', rfl⟩ := heu.slice
  obtain ⟨dv, ev, rfl, hdv, hev⟩ := hv
  obtain ⟨vp, vl, vc, rfl⟩ := hdv.slice
  obtain ⟨vp', vl', vc', rfl⟩ := hev.slice
  have T1 := fun W (h : Below w.heap.size w W) => itimes_all (.agg #[.bool s, .slice up ul uc]) (.agg #[.bool s', .slice vp vl vc]) s s' n n' p K K W ⟨_, rfl, hdu.below h⟩ ⟨_, rfl, hdv.below h⟩ hp hK hK
  obtain ⟨s0, hs0⟩ : ∃ s0, ((s != s') && decide (0 < p)) = s0 := ⟨_, rfl⟩
  rw [hs0]
  simp only [hs0] at T1
  replace WU := Lib.hid WU
  replace WV := Lib.hid WV
  replace T1 := Lib.hid T1
  have L0 := Lib.hid ((((LayX.nil w).push #[.bool s, .slice up ul uc, .slice up' ul' uc'] 45).push #[.bool s', .slice vp vl vc, .slice vp' vl' vc'] 45).push #[.bool false, .slice none 0 0, .slice none 0 0] 45)
  clear hp hdu hdv heu hev hs0 e1
  go_enter Tryz.func129, Tryz.ntmps129
  go_wp2_with fail
  refine (WU.out _ L0.out.1.2).mono ?_
  rintro e w1 ⟨rfl, hb1⟩
  have L1 : Hid (Lay w [(#[.bool s, .slice up ul uc, .slice up' ul' uc'], 45), (#[.bool s', .slice vp vl vc, .slice vp' vl' vc'], 45), (#[.bool false, .slice none 0 0, .slice none 0 0], 45)] w1) := Lib.hid (L0.out.1.step hb1)
  obtain ⟨⟨c0, c1, c2, c3, c4, c5⟩, _⟩ := sOfRR L1.out
  clear hb1 L0
  go_wp2_with fail
  refine (WV.out _ L1.out.2).mono ?_
  rintro e w2 ⟨rfl, hb2⟩
  have L2 := Lib.hid (L1.out.step hb2)
  clear hb2 L1 c0 c1 c2 c3 c4 c5
  obtain ⟨⟨c0, c1, c2, c3, c4, c5⟩, _⟩ := sOfRR L2.out
  go_wp2_with fail
  refine (T1.out _ L2.out.2).mono ?_
  rintro e w3 ⟨x, rfl, ⟨x1, rfl, hx1⟩, hl⟩
  obtain ⟨xp, xl, xc, rfl⟩ := hx1.slice
  have T3 := Lib.hid (L2.out.step hl)
  have Hx1 := Lib.hid hx1
  clear L2 c0 c1 c2 c3 c4 c5 hx1 hl
  obtain ⟨c0, c1, c2, f0, f1, f2⟩ := cells3 (T3.out.row 2 (w.heap.size + 1 + 1) rfl rfl)
  go_wp2_with fail
  refine bodyPost_ret (res_rat rfl _ _ (w.heap.size + 1 + 1) _ _ _ _ (by rfl) ((T3.out.set3 2 _ rfl rfl _ _ _).row 2 _ rfl rfl)) rfl ?_
  exact ⟨_, rfl, ⟨_, _, rfl, Hx1.out.set3 (off3 (T3.out.row 2 _ rfl rfl)) _ _ _, DN.nil _ _⟩, (T3.out.set3 2 _ rfl rfl _ _ _).2⟩
end Go.Proofs.YtamhlkjfpdkhoaaGreatDoor

/- WALKS: numbers of one word are small; attempts that come to an end. -/
namespace Go.Proofs.YtamhlkjfpdkhoaaGreatDoor
open Go.RowKit

theorem bitLenAux_le : ∀ (f x : Nat), Lib.bitLenAux f x ≤ f
  | 0, _ => by simp [Lib.bitLenAux]
  | f + 1, x => by
    have := bitLenAux_le f (x / 2)
    simp only [Lib.bitLenAux]; split <;> omega

theorem bitLen_le (x : Nat) : Lib.bitLen x ≤ 64 := bitLenAux_le 64 x

set_option maxRecDepth 100000 in
set_option maxHeartbeats 400000 in
theorem bitLength_any (v : Value) (n : Nat) (w : World) (hd : Dig w v n) :
    Calls Tryz.prog 161 #[v] w fun e w' => ∃ k : Int, e = .returned (.int .i64 k) ∧ (0 ≤ k ∧ k ≤ 64) ∧ Drew w w' := by
  obtain ⟨hn, hd⟩ := hd
  obtain ⟨rfl, rfl⟩ | ⟨h0, b, o, rfl, hc⟩ := hd
  · go_enter Tryz.func161, Tryz.ntmps161
    go_wp2
    go_ret
    exact ⟨0, rfl, ⟨by omega, by omega⟩, Drew.refl _⟩
  · have B := fun W => Tryz.bits_Len64 (n : Int) W (by omega) (by omega)
    obtain ⟨k, hk, hk0, hk1⟩ : ∃ k : Int, (Lib.bitLen (n : Int).toNat : Int) = k ∧ 0 ≤ k ∧ k ≤ 64 := ⟨_, rfl, by omega, by have := bitLen_le (n : Int).toNat; omega⟩
    rw [hk] at B
    replace B := Lib.hid B
    clear hn h0 hk
    go_enter Tryz.func161, Tryz.ntmps161
    go_wp2_with fail
    refine (B.out _).mono ?_
    rintro e w1 ⟨rfl, hw⟩
    have HW := Lib.hid hw
    clear hw
    go_wp2_with fail
    go_ret
    refine ⟨_, rfl, ⟨by omega, by omega⟩, ?_⟩
    rw [HW.out]
    first | exact Drew.refl _ | exact (Drew.refl _).drewN 1

set_option maxRecDepth 100000 in
set_option maxHeartbeats 400000 in
theorem mustBeSmall_any (v : Value) (n : Nat) (w : World) (hd : Dig w v n) :
    Calls Tryz.prog 144 #[v] w fun e w' => e = .returned (.tuple #[]) ∧ Drew w w' := by
  have B := Lib.hid (bitLength_any v n w hd)
  obtain ⟨p, l, c, rfl⟩ := hd.slice
  clear hd
  go_enter Tryz.func144, Tryz.ntmps144
  go_wp2_with fail
  refine B.out.mono ?_
  rintro e w1 ⟨k, rfl, ⟨hk0, hk1⟩, hd⟩
  have Hd := Lib.hid hd
  clear hd
  go_wp2_with fail
  go_end0
  exact ⟨rfl, Hd.out⟩

set_option maxRecDepth 100000 in
set_option maxHeartbeats 400000 in
theorem smallRat_any (v : Value) (s : Bool) (n k : Nat) (w : World) (h : WR w v s n k) :
    Calls Tryz.prog 102 #[v] w fun e w' => e = .returned v ∧ Below w.heap.size w w' := by
  obtain ⟨d, e, rfl, hd, he⟩ := h
  obtain ⟨dp, dl, dc, rfl⟩ := hd.slice
  obtain ⟨ep, el, ec, rfl⟩ := he.slice
  have M1 := Lib.hid (fun W (hb : Below w.heap.size w W) => mustBeSmall_any _ n W (hd.below hb))
  have M2 := Lib.hid (fun W (hb : Below w.heap.size w W) => mustBeSmall_any _ k W (he.below hb))
  have L0 := Lib.hid (((LayX.nil w).push #[.bool s, .slice dp dl dc, .slice ep el ec] 45).push #[.bool false, .slice none 0 0, .slice none 0 0] 45)
  clear hd he
  go_enter Tryz.func102, Tryz.ntmps102
  go_wp2_with fail
  refine (M1.out _ L0.out.1.2).mono ?_
  rintro e w1 ⟨rfl, hd1⟩
  have L1 : Hid (Lay w [(#[.bool s, .slice dp dl dc, .slice ep el ec], 45), (#[.bool false, .slice none 0 0, .slice none 0 0], 45)] w1) := Lib.hid (L0.out.1.step (hd1.below _))
  obtain ⟨c0, c1, c2, _, _, _⟩ := cells3 (L1.out.row 0 w.heap.size rfl rfl)
  clear hd1 L0
  go_wp2_with fail
  refine (M2.out _ L1.out.2).mono ?_
  rintro e w2 ⟨rfl, hd2⟩
  have L2 : Hid (Lay w [(#[.bool s, .slice dp dl dc, .slice ep el ec], 45), (#[.bool false, .slice none 0 0, .slice none 0 0], 45)] w2) := Lib.hid (L1.out.step (hd2.below _))
  clear hd2 L1 c0 c1 c2
  obtain ⟨c0, c1, c2, _, _, _⟩ := cells3 (L2.out.row 0 w.heap.size rfl rfl)
  obtain ⟨b0, b1, b2, f0, f1, f2⟩ := cells3 (L2.out.row 1 (w.heap.size + 1) rfl rfl)
  go_wp2_with fail
  refine bodyPost_ret (res_rat rfl _ _ (w.heap.size + 1) _ _ _ _ (by rfl) ((L2.out.set3 1 _ rfl rfl _ _ _).row 1 _ rfl rfl)) rfl ?_
  exact ⟨rfl, (L2.out.set3 1 _ rfl rfl _ _ _).2⟩
end Go.Proofs.YtamhlkjfpdkhoaaGreatDoor
