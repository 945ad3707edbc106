/- WALKS of fractions of one word at most, more: turned, times. -/
import Derived.Test.YtamhlkjfpdkhoaaGreatDoorQ20
namespace Go.Proofs.YtamhlkjfpdkhoaaGreatDoor
open Go.RowKit

theorem den_pos (k : Nat) : 0 < den k := by unfold den; split <;> omega

theorem sOfR {w W : World} {x y z : Value} {t : TypeId} {rest : List (Array Value × TypeId)} (h : Lay w ((#[x, y, z], t) :: rest) W) :
    (W.cell? ⟨w.heap.size, 0, none⟩ = some x ∧ W.cell? ⟨w.heap.size, 1, none⟩ = some y ∧ W.cell? ⟨w.heap.size, 2, none⟩ = some z) ∧ Hid (∃ rest, Lay w ((#[x, y, z], t) :: rest) W) := by
  have h1 := h.row 0 w.heap.size rfl rfl
  exact ⟨⟨(cells3 h1).1, (cells3 h1).2.1, (cells3 h1).2.2.1⟩, Lib.hid ⟨_, h⟩⟩

set_option maxRecDepth 100000 in
set_option maxHeartbeats 1000000 in
theorem turned_pos (v : Value) (s : Bool) (n k : Nat) (w : World) (h : WR w v s n k) :
    Calls Tryz.prog 131 #[v] w fun e w' => ∃ x, e = .returned x ∧ WR w' x s (den k) (short n) ∧ Below w.heap.size w w' := by
  have BL := Lib.hid (fun W (hb : Below w.heap.size w W) => below_any v s n k W (h.below hb))
  obtain ⟨d, e, rfl, hd, he⟩ := h
  obtain ⟨dp, dl, dc, rfl⟩ := hd.slice
  obtain ⟨ep, el, ec, rfl⟩ := he.slice
  have Hd := Lib.hid hd
  have e1 : decide (0 < den k) = true := by simp [den_pos]
  have SG : ∀ W d, Dig W d (den k) → _ := fun W d h => signed_any s d (den k) W h
  simp only [e1, Bool.and_true] at SG
  have HSG := Lib.hid SG
  have LW := Lib.hid (fun W u v (hu : WI W u s (den k)) (hv : Dig W v n) => lowest_any u v s (den k) n W hu hv)
  clear hd he SG e1
  have L0 := Lib.hid (((LayX.nil w).push #[.bool s, .slice dp dl dc, .slice ep el ec] 45).push #[.bool false, .slice none 0 0, .slice none 0 0] 45)
  go_enter Tryz.func131, Tryz.ntmps131
  go_wp2_with fail
  generalize ((w.alloc (Obj.cells #[Value.bool s, .slice dp dl dc, .slice ep el ec] 45)).alloc (Obj.cells #[Value.bool false, Value.slice none 0 0, .slice none 0 0] 45)) = W0 at *
  have L1 : Hid (Lay w [(#[.bool s, .slice dp dl dc, .slice ep el ec], 45), (#[.bool false, .slice none 0 0, .slice none 0 0], 45)] W0.drew) := Lib.hid L0.out.1.drew
  go_region_held3 (fun W => (W.cell? ⟨w.heap.size, 0, none⟩ = some (.bool s) ∧ W.cell? ⟨w.heap.size, 1, none⟩ = some (.slice dp dl dc) ∧ W.cell? ⟨w.heap.size, 2, none⟩ = some (.slice ep el ec)) ∧ Hid (∃ rest, Lay w ((#[.bool s, .slice dp dl dc, .slice ep el ec], 45) :: rest) W)) (first | exact sOfR (T3.out.set3 1 (w.heap.size + 1) rfl rfl _ _ _) | exact sOfR T3.out | exact sOfR T2.out | exact sOfR T1.out | exact sOfR L1.out) (first
    | (go_at_call 104; refine (BL.out _ ?_).mono ?_; exact L1.out.2; rintro e w1 ⟨y, rfl, hy, hb1⟩; obtain ⟨yp, yl, yc, rfl⟩ := hy.slice; have T1 := Lib.hid (L1.out.step hb1); have Hy := Lib.hid hy; clear hy hb1)
    | (go_at_call 90; refine (HSG.out _ _ Hy.out).mono ?_; rintro e w2 ⟨rfl, hb2⟩; have T2 := Lib.hid (T1.out.step hb2); have Hy2 := Lib.hid (Hy.out.below hb2); clear hb2)
    | (go_at_call 103; refine (LW.out _ _ _ ⟨_, rfl, Hy2.out⟩ (Hd.out.below T2.out.2)).mono ?_; rintro e w3 ⟨x, rfl, ⟨x1, x2, rfl, hx1, hx2⟩, hb3⟩; obtain ⟨xp, xl, xc, rfl⟩ := hx1.slice; obtain ⟨zp, zl, zc, rfl⟩ := hx2.slice; have T3 := Lib.hid (T2.out.step hb3); have Hx1 := Lib.hid hx1; have Hx2 := Lib.hid hx2; obtain ⟨c0, c1, c2, f0, f1, f2⟩ := cells3 (T3.out.row 1 (w.heap.size + 1) rfl rfl); clear hb3 hx1 hx2))
  go_wp2
  refine bodyPost_ret (res_rat rfl _ _ (w.heap.size + 1) _ _ _ _ (by rfl) ((T3.out.set3 1 _ rfl rfl _ _ _).row 1 _ rfl rfl)) rfl ?_
  exact ⟨_, rfl, ⟨_, _, rfl, Hx1.out.set3 (off3 (T3.out.row 1 _ rfl rfl)) _ _ _, Hx2.out.set3 (off3 (T3.out.row 1 _ rfl rfl)) _ _ _⟩, (T3.out.set3 1 _ rfl rfl _ _ _).2⟩

theorem sOfRR {w W : World} {x y z x' y' z' : Value} {t t' : TypeId} {rest : List (Array Value × TypeId)} (h : Lay w ((#[x, y, z], t) :: (#[x', y', z'], t') :: rest) W) :
    (W.cell? ⟨w.heap.size, 0, none⟩ = some x ∧ W.cell? ⟨w.heap.size, 1, none⟩ = some y ∧ W.cell? ⟨w.heap.size, 2, none⟩ = some z ∧ W.cell? ⟨w.heap.size + 1, 0, none⟩ = some x' ∧ W.cell? ⟨w.heap.size + 1, 1, none⟩ = some y' ∧ W.cell? ⟨w.heap.size + 1, 2, none⟩ = some z') ∧ Hid (∃ rest, Lay w ((#[x, y, z], t) :: (#[x', y', z'], t') :: rest) W) := by
  have h1 := h.row 0 w.heap.size rfl rfl
  have h2 := h.row 1 (w.heap.size + 1) rfl rfl
  exact ⟨⟨(cells3 h1).1, (cells3 h1).2.1, (cells3 h1).2.2.1, (cells3 h2).1, (cells3 h2).2.1, (cells3 h2).2.2.1⟩, Lib.hid ⟨_, h⟩⟩

set_option maxRecDepth 100000 in
set_option maxHeartbeats 1000000 in
theorem rtimes_pos (u v : Value) (s s' : Bool) (n n' k' a b c d p q : Nat) (w : World) (hu : WR w u s n 0) (hv : WR w v s' n' k') (hk' : k' ≠ 0)
    (ha : n / Nat.gcd n k' = a) (hb : k' / Nat.gcd n k' = b) (hc : n' / Nat.gcd n' 1 = c) (hd : 1 / Nat.gcd n' 1 = d) (hp : a * c = p) (hq : d * b = q) (ha0 : 0 < a) (hb0 : 0 < b) (hc0 : 0 < c) (hd0 : 0 < d) (hpl : p < 18446744073709551616) (hql : q < 18446744073709551616) :
    Calls Tryz.prog 129 #[u, v] w fun e w' => ∃ x, e = .returned x ∧ WR w' x (s != s') p (short q) ∧ Below w.heap.size w w' := by
  have hp0 : 0 < p := by rw [← hp]; exact Nat.mul_pos ha0 hc0
  have BU : ∀ W (hb : Below w.heap.size w W), _ := fun W hb => below_any u s n 0 W (hu.below hb)
  have BV : ∀ W (hb : Below w.heap.size w W), _ := fun W hb => below_any v s' n' k' W (hv.below hb)
  have WU : ∀ W (hb : Below w.heap.size w W), _ := fun W hb => isWhole_any u s n 0 W (hu.below hb)
  have WV : ∀ W (hb : Below w.heap.size w W), _ := fun W hb => isWhole_any v s' n' k' W (hv.below hb)
  have e1 : decide (0 = 0) = true := rfl
  have e2 : decide (k' = 0) = false := by simp [hk']
  have e3 : den 0 = 1 := rfl
  have e4 : den k' = k' := if_neg hk'
  rw [e3] at BU
  rw [e4] at BV
  rw [e1] at WU
  rw [e2] at WV
  obtain ⟨du, eu, rfl, hdu, heu⟩ := hu
  obtain ⟨up, ul, uc, rfl⟩ := hdu.slice
  obtain ⟨up', ul', uc', rfl⟩ := heu.slice
  obtain ⟨dv, ev, rfl, hdv, hev⟩ := hv
  obtain ⟨vp, vl, vc, rfl⟩ := hdv.slice
  obtain ⟨vp', vl', vc', rfl⟩ := hev.slice
  have S1 : ∀ W y (hy : Dig W y k') (hb : Below w.heap.size w W), _ := fun W y hy hb => shorten_any _ y n k' W (hdu.below hb) hy (by omega)
  have S2 : ∀ W y (hy : Dig W y 1) (hb : Below w.heap.size w W), _ := fun W y hy hb => shorten_any _ y n' 1 W (hdv.below hb) hy (by omega)
  rw [ha, hb] at S1
  rw [hc, hd] at S2
  have T1 : ∀ W x y (hx : Dig W x a) (hy : Dig W y c), _ := fun W x y hx hy => times_pos x y a c p W hx hy ha0 hc0 hp hpl
  have T2 : ∀ W x y (hx : Dig W x d) (hy : Dig W y b), _ := fun W x y hx hy => times_pos x y d b q W hx hy hd0 hb0 hq hql
  have e1 : decide (0 < p) = true := by simp [hp0]
  have SG : ∀ W d, Dig W d p → _ := fun W d h => signed_any (s != s') d p W h
  simp only [e1, Bool.and_true] at SG
  have LW := fun W u v (hu : WI W u (s != s') p) (hv : Dig W v q) => lowest_any u v (s != s') p q W hu hv
  replace BU := Lib.hid BU
  replace BV := Lib.hid BV
  replace WU := Lib.hid WU
  replace WV := Lib.hid WV
  replace S1 := Lib.hid S1
  replace S2 := Lib.hid S2
  replace T1 := Lib.hid T1
  replace T2 := Lib.hid T2
  replace SG := Lib.hid SG
  replace LW := Lib.hid LW
  have L0 := Lib.hid ((((LayX.nil w).push #[.bool s, .slice up ul uc, .slice up' ul' uc'] 45).push #[.bool s', .slice vp vl vc, .slice vp' vl' vc'] 45).push #[.bool false, .slice none 0 0, .slice none 0 0] 45)
  clear ha hb hc hd hp hq ha0 hb0 hc0 hd0 hpl hql e1 e2 e3 e4 hdu hdv heu hev hk' hp0
  go_enter Tryz.func129, Tryz.ntmps129
  go_wp2_with fail
  refine (WU.out _ L0.out.1.2).mono ?_
  rintro e w1 ⟨rfl, hb1⟩
  have L1 : Hid (Lay w [(#[.bool s, .slice up ul uc, .slice up' ul' uc'], 45), (#[.bool s', .slice vp vl vc, .slice vp' vl' vc'], 45), (#[.bool false, .slice none 0 0, .slice none 0 0], 45)] w1) := Lib.hid (L0.out.1.step hb1)
  obtain ⟨⟨c0, c1, c2, c3, c4, c5⟩, _⟩ := sOfRR L1.out
  clear hb1 L0
  go_wp2_with fail
  refine (WV.out _ L1.out.2).mono ?_
  rintro e w2 ⟨rfl, hb2⟩
  have L2 := Lib.hid (L1.out.step hb2)
  clear hb2 L1 c0 c1 c2 c3 c4 c5
  obtain ⟨⟨c0, c1, c2, c3, c4, c5⟩, _⟩ := sOfRR L2.out
  go_wp2_with fail
  replace L2 := Lib.hid L2.out.drew
  clear c0 c1 c2 c3 c4 c5
  go_region_held3 (fun W => (W.cell? ⟨w.heap.size, 0, none⟩ = some (.bool s) ∧ W.cell? ⟨w.heap.size, 1, none⟩ = some (.slice up ul uc) ∧ W.cell? ⟨w.heap.size, 2, none⟩ = some (.slice up' ul' uc') ∧ W.cell? ⟨w.heap.size + 1, 0, none⟩ = some (.bool s') ∧ W.cell? ⟨w.heap.size + 1, 1, none⟩ = some (.slice vp vl vc) ∧ W.cell? ⟨w.heap.size + 1, 2, none⟩ = some (.slice vp' vl' vc')) ∧ Hid (∃ rest, Lay w ((#[.bool s, .slice up ul uc, .slice up' ul' uc'], 45) :: (#[.bool s', .slice vp vl vc, .slice vp' vl' vc'], 45) :: rest) W)) (first | exact sOfRR L4.out | exact sOfRR L3.out | exact sOfRR L2.out) (first
    | (go_at_call 104; refine (BV.out _ L2.out.2).mono ?_; rintro e w3 ⟨y, rfl, hy, hb⟩; have L3 := Lib.hid (L2.out.step hb); have Hy := Lib.hid hy; clear hy hb)
    | (go_at_call 172; refine (S1.out _ _ Hy.out L3.out.2).mono ?_; rintro e w4 ⟨xa, xb, rfl, ha, hb, hl⟩; have L4 := Lib.hid (L3.out.step hl); have Ha := Lib.hid ha; have Hb := Lib.hid hb; clear ha hb hl))
  obtain ⟨⟨c0, c1, c2, c3, c4, c5⟩, _⟩ := sOfRR L4.out
  clear Hy L2 L3
  go_wp2_with fail
  replace L4 := Lib.hid L4.out.drew
  clear c0 c1 c2 c3 c4 c5
  go_region_held3 (fun W => (W.cell? ⟨w.heap.size, 0, none⟩ = some (.bool s) ∧ W.cell? ⟨w.heap.size, 1, none⟩ = some (.slice up ul uc) ∧ W.cell? ⟨w.heap.size, 2, none⟩ = some (.slice up' ul' uc') ∧ W.cell? ⟨w.heap.size + 1, 0, none⟩ = some (.bool s') ∧ W.cell? ⟨w.heap.size + 1, 1, none⟩ = some (.slice vp vl vc) ∧ W.cell? ⟨w.heap.size + 1, 2, none⟩ = some (.slice vp' vl' vc')) ∧ Hid (∃ rest, Lay w ((#[.bool s, .slice up ul uc, .slice up' ul' uc'], 45) :: (#[.bool s', .slice vp vl vc, .slice vp' vl' vc'], 45) :: rest) W)) (first | exact sOfRR L6.out | exact sOfRR L5.out | exact sOfRR L4.out) (first
    | (go_at_call 104; refine (BU.out _ L4.out.2).mono ?_; rintro e w5 ⟨y, rfl, hy, hb⟩; have L5 := Lib.hid (L4.out.step hb); have Hy := Lib.hid hy; replace Ha := Lib.hid (Ha.out.below ((Below.refl _ _).drew.trans hb)); replace Hb := Lib.hid (Hb.out.below ((Below.refl _ _).drew.trans hb)); clear hy hb)
    | (go_at_call 172; refine (S2.out _ _ Hy.out L5.out.2).mono ?_; rintro e w6 ⟨xc, xd, rfl, ha, hb, hl⟩; have L6 := Lib.hid (L5.out.step hl); have Hc := Lib.hid ha; have Hd := Lib.hid hb; replace Ha := Lib.hid (Ha.out.below hl); replace Hb := Lib.hid (Hb.out.below hl); clear ha hb hl))
  obtain ⟨⟨c0, c1, c2, c3, c4, c5⟩, _⟩ := sOfRR L6.out
  clear Hy L4 L5
  go_wp2_with fail
  clear c0 c1 c2 c3 c4 c5
  refine (T1.out _ _ _ Ha.out Hc.out).mono ?_
  rintro e w7 ⟨xp, rfl, hp, hl⟩
  have L7 := Lib.hid (L6.out.step hl)
  have Hp := Lib.hid hp
  replace Hd := Lib.hid (Hd.out.below hl)
  replace Hb := Lib.hid (Hb.out.below hl)
  clear L6 Ha Hc hp hl
  go_wp2_with fail
  refine (SG.out _ _ Hp.out).mono ?_
  rintro e w8 ⟨rfl, hl⟩
  have L8 := Lib.hid (L7.out.step hl)
  replace Hp := Lib.hid (Hp.out.below hl)
  replace Hd := Lib.hid (Hd.out.below hl)
  replace Hb := Lib.hid (Hb.out.below hl)
  clear L7 hl
  go_wp2_with fail
  refine (T2.out _ _ _ Hd.out Hb.out).mono ?_
  rintro e w9 ⟨xq, rfl, hq, hl⟩
  have L9 := Lib.hid (L8.out.step hl)
  have Hq := Lib.hid hq
  replace Hp := Lib.hid (Hp.out.below hl)
  clear L8 Hb Hd hq hl
  go_wp2_with fail
  refine (LW.out _ _ _ ⟨_, rfl, Hp.out⟩ Hq.out).mono ?_
  rintro e wx ⟨x, rfl, ⟨x1, x2, rfl, hx1, hx2⟩, hl⟩
  obtain ⟨xp, xl, xc, rfl⟩ := hx1.slice
  obtain ⟨zp, zl, zc, rfl⟩ := hx2.slice
  have T3 := Lib.hid (L9.out.step hl)
  have Hx1 := Lib.hid hx1
  have Hx2 := Lib.hid hx2
  obtain ⟨c0, c1, c2, f0, f1, f2⟩ := cells3 (T3.out.row 2 (w.heap.size + 1 + 1) rfl rfl)
  clear L9 Hq Hp hx1 hx2 hl
  go_wp2_with fail
  refine bodyPost_ret (res_rat rfl _ _ (w.heap.size + 1 + 1) _ _ _ _ (by rfl) ((T3.out.set3 2 _ rfl rfl _ _ _).row 2 _ rfl rfl)) rfl ?_
  exact ⟨_, rfl, ⟨_, _, rfl, Hx1.out.set3 (off3 (T3.out.row 2 _ rfl rfl)) _ _ _, Hx2.out.set3 (off3 (T3.out.row 2 _ rfl rfl)) _ _ _⟩, (T3.out.set3 2 _ rfl rfl _ _ _).2⟩
end Go.Proofs.YtamhlkjfpdkhoaaGreatDoor
