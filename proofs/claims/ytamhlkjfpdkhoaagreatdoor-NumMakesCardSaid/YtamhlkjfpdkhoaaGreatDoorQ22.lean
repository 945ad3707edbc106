/- WALKS of the program's integers and fractions of any size, by sign and absolute value: times, isWhole, below, lowest, turned, shorten. -/
import Derived.Test.YtamhlkjfpdkhoaaGreatDoorQ20
import Derived.Test.YtamhlkjfpdkhoaaGreatDoorQ21
namespace Go.Proofs.YtamhlkjfpdkhoaaGreatDoor
open Go.RowKit

/-- The value is the integer with this sign and this absolute value, of K words at most. -/
def WS (w : World) (v : Value) (s : Bool) (n K : Nat) : Prop := ∃ d, v = .agg #[.bool s, d] ∧ DN w d n K

theorem WS.below {w w' : World} {v : Value} {s : Bool} {n K : Nat} (h : WS w v s n K) (hb : Below w.heap.size w w') : WS w' v s n K := by
  obtain ⟨d, h1, h2⟩ := h; exact ⟨d, h1, h2.below hb⟩

theorem WS.more {w : World} {v : Value} {s : Bool} {n K K' : Nat} (h : WS w v s n K) (hk : K ≤ K') : WS w v s n K' := by
  obtain ⟨d, h1, h2⟩ := h; exact ⟨d, h1, h2.more hk⟩

theorem WZ.ws {w : World} {v : Value} {z : Int} {K : Nat} (h : WZ w v z K) : WS w v (decide (z < 0)) z.natAbs K := h

/-- The value is the fraction with this sign, numerator and denominator (0: nothing is written for 1), of K words at most. -/
def WQ (w : World) (v : Value) (s : Bool) (n k K : Nat) : Prop := ∃ d e, v = .agg #[.bool s, d, e] ∧ DN w d n K ∧ DN w e k K

theorem WQ.below {w w' : World} {v : Value} {s : Bool} {n k K : Nat} (h : WQ w v s n k K) (hb : Below w.heap.size w w') : WQ w' v s n k K := by
  obtain ⟨d, e, h1, h2, h3⟩ := h; exact ⟨d, e, h1, h2.below hb, h3.below hb⟩

theorem WQ.more {w : World} {v : Value} {s : Bool} {n k K K' : Nat} (h : WQ w v s n k K) (hk : K ≤ K') : WQ w v s n k K' := by
  obtain ⟨d, e, h1, h2, h3⟩ := h; exact ⟨d, e, h1, h2.more hk, h3.more hk⟩

theorem WQ.fit {w : World} {v : Value} {s : Bool} {n k K K' : Nat} (h : WQ w v s n k K) (hn : n < B64 ^ K') (hk : k < B64 ^ K') : WQ w v s n k K' := by
  obtain ⟨d, e, h1, h2, h3⟩ := h; exact ⟨d, e, h1, h2.fit hn, h3.fit hk⟩

/-- An empty row is 0, and no other is. -/
theorem DN.empty {w : World} {p : Option Addr} {l c n K : Nat} (h : DN w (.slice p l c) n K) : l = 0 ↔ n = 0 := by
  obtain ⟨m, ⟨p', c', h1, _⟩, h2, h3, _⟩ := h
  simp only [Value.slice.injEq] at h1
  obtain ⟨rfl, rfl, rfl⟩ := h1
  constructor
  · intro h; rw [← h3, List.eq_nil_of_length_eq_zero h]; rfl
  · intro h; rw [h2.zero B64_pos (by rw [h3]; exact h)]; rfl

set_option maxRecDepth 100000 in
set_option maxHeartbeats 1000000 in
theorem itimes_all (u v : Value) (s s' : Bool) (a b p K K' : Nat) (w : World) (hu : WS w u s a K) (hv : WS w v s' b K') (hp : a * b = p) (hK : K ≤ 1073741824) (hK' : K' ≤ 1073741824) :
    Calls Tryz.prog 111 #[u, v] w fun e w' => ∃ x, e = .returned x ∧ WS w' x ((s != s') && decide (0 < p)) p (K + K') ∧ Below w.heap.size w w' := by
  obtain ⟨du, rfl, hu⟩ := hu
  obtain ⟨dv, rfl, hv⟩ := hv
  obtain ⟨up, ul, uc, rfl⟩ := hu.slice
  obtain ⟨vp, vl, vc, rfl⟩ := hv.slice
  have T := fun W (h : Below w.heap.size w W) => times_all _ _ a b K K' W (hu.below h) (hv.below h) hK hK'
  rw [hp] at T
  obtain ⟨s0, hs0⟩ : ∃ s0, ((s != s') && decide (0 < p)) = s0 := ⟨_, rfl⟩
  have SG : ∀ W d, DN W d p (K + K') → _ := fun W d h => signed_all (s != s') d p (K + K') W h
  rw [hs0]
  simp only [hs0] at SG
  have HT := Lib.hid T
  have HSG := Lib.hid SG
  clear T SG hp hs0 hu hv
  have L0 := Lib.hid (lay3_new w #[.bool s, .slice up ul uc] #[.bool s', .slice vp vl vc] #[.bool false, .slice none 0 0] 31 31 31)
  go_enter Tryz.func111, Tryz.ntmps111
  go_wp2_with fail
  generalize (((w.alloc (Obj.cells #[Value.bool s, Value.slice up ul uc] 31)).alloc (Obj.cells #[Value.bool s', Value.slice vp vl vc] 31)).alloc (Obj.cells #[Value.bool false, Value.slice none 0 0] 31)) = W0 at *
  have L1 := Lib.hid L0.out.drewN
  go_region_held3 (fun W => (W.cell? ⟨w.heap.size, 0, none⟩ = some (.bool s) ∧ W.cell? ⟨w.heap.size, 1, none⟩ = some (.slice up ul uc) ∧ W.cell? ⟨w.heap.size + 1, 0, none⟩ = some (.bool s') ∧ W.cell? ⟨w.heap.size + 1, 1, none⟩ = some (.slice vp vl vc)) ∧ Hid (∃ C, Lay3 w #[.bool s, .slice up ul uc] #[.bool s', .slice vp vl vc] C 31 31 31 W)) (first | exact sOf3 (T2.out.set _ _) | exact sOf3 T2.out | exact sOf3 T1.out | exact sOf3 L1.out) (first
    | (go_at_call 158; refine (HT.out _ ?_).mono ?_; exact L1.out.2.2.2; rintro e w1 ⟨d, rfl, hd, _, hb1⟩; obtain ⟨dp, dl, dc, rfl⟩ := hd.slice; have T1 := Lib.hid (L1.out.step hb1); have Hd := Lib.hid hd; clear hd hb1)
    | (go_at_call 90; refine (HSG.out _ _ Hd.out).mono ?_; rintro e w2 ⟨rfl, hb2⟩; have T2 := Lib.hid (T1.out.step hb2); have Hd2 := Lib.hid (Hd.out.below hb2); obtain ⟨c0, c1, f0, f1⟩ := T2.out.res; clear hb2))
  go_wp2
  refine bodyPost_ret (res_int rfl _ _ (w.heap.size + 1 + 1) _ _ _ (by rfl) (T2.out.set _ _).2.2.1) rfl ?_
  exact ⟨_, rfl, ⟨_, rfl, Hd2.out.set2 (off2 T2.out.2.2.1) _ _⟩, (T2.out.set _ _).2.2.2⟩

set_option maxRecDepth 100000 in
set_option maxHeartbeats 400000 in
theorem isWhole_all (v : Value) (s : Bool) (n k K : Nat) (w : World) (h : WQ w v s n k K) :
    Calls Tryz.prog 92 #[v] w fun e w' => e = .returned (.bool (decide (k = 0))) ∧ Below w.heap.size w w' := by
  obtain ⟨d, e, rfl, hd, he⟩ := h
  obtain ⟨dp, dl, dc, rfl⟩ := hd.slice
  obtain ⟨ep, el, ec, rfl⟩ := he.slice
  have e0 : decide (k = 0) = decide (el = 0) := decide_eq_decide.2 he.empty.symm
  rw [e0]
  clear hd he e0
  by_cases h0 : el = 0
  · subst h0
    go_enter Tryz.func92, Tryz.ntmps92
    go_wp2
    go_ret
    exact ⟨rfl, (Below.refl _ _).alloc (Nat.le_refl _) _⟩
  · have e1 : decide (el = 0) = false := by simp; omega
    have t1 : ((el : Int) == 0) = false := by rw [beq_eq_false_iff_ne]; omega
    rw [e1]
    go_enter Tryz.func92, Tryz.ntmps92
    go_wp2
    go_ret
    exact ⟨rfl, (Below.refl _ _).alloc (Nat.le_refl _) _⟩


set_option maxRecDepth 100000 in
set_option maxHeartbeats 400000 in
theorem below_all (v : Value) (s : Bool) (n k K : Nat) (w : World) (h : WQ w v s n k K) (hK1 : 1 ≤ K) :
    Calls Tryz.prog 104 #[v] w fun e w' => ∃ x, e = .returned x ∧ DN w' x (den k) K ∧ Below w.heap.size w w' := by
  have W := fun W (hb : Below w.heap.size w W) => isWhole_all v s n k K W (h.below hb)
  obtain ⟨d, e, rfl, hd, he⟩ := h
  obtain ⟨dp, dl, dc, rfl⟩ := hd.slice
  obtain ⟨ep, el, ec, rfl⟩ := he.slice
  have He := Lib.hid he
  have W1 := Lib.hid (fun W => word_all 1 W (by omega))
  unfold den
  by_cases h0 : k = 0
  · subst h0
    have e1 : decide (0 = 0) = true := rfl
    rw [e1] at W
    rw [if_pos rfl]
    have HW := Lib.hid W
    clear W hd he e1
    go_enter Tryz.func104, Tryz.ntmps104
    go_wp2_with fail
    refine (HW.out _ ?_).mono ?_
    · exact (Below.refl _ _).alloc (Nat.le_refl _) _
    rintro e w1 ⟨rfl, hb1⟩
    have Hb1 := Lib.hid (((Below.refl _ _).alloc (Nat.le_refl _) _).trans (hb1.mono (show w.heap.size ≤ _ by simp)))
    clear hb1
    go_wp2_with fail
    refine (W1.out _).mono ?_
    rintro e w2 ⟨x, rfl, hx, _, hb2⟩
    have Hx := Lib.hid hx
    have Hb2 := Lib.hid hb2
    clear hx hb2
    go_wp2_with fail
    go_ret
    exact ⟨_, rfl, Hx.out.more hK1, Hb1.out.trans (Hb2.out.mono Hb1.out.size)⟩
  · have e1 : decide (k = 0) = false := by simp [h0]
    rw [e1] at W
    rw [if_neg h0]
    have HW := Lib.hid W
    clear W hd he e1
    go_enter Tryz.func104, Tryz.ntmps104
    go_wp2_with fail
    refine (HW.out _ ?_).mono ?_
    · exact (Below.refl _ _).alloc (Nat.le_refl _) _
    rintro e w1 ⟨rfl, hb1⟩
    have r1 := Below.row hb1 (by simp) (heap_alloc_new _ _)
    obtain ⟨c0, c1, c2, _⟩ := cells3 r1
    have Hb1 := Lib.hid (((Below.refl _ _).alloc (Nat.le_refl _) _).trans (hb1.mono (show w.heap.size ≤ _ by simp)))
    clear hb1 r1
    go_wp2_with fail
    go_ret
    exact ⟨_, rfl, He.out.below Hb1.out, Hb1.out⟩


set_option maxRecDepth 100000 in
set_option maxHeartbeats 400000 in
theorem lowest_all (u v : Value) (s : Bool) (n k K : Nat) (w : World) (hu : WS w u s n K) (hv : DN w v k K) :
    Calls Tryz.prog 103 #[u, v] w fun e w' => ∃ x, e = .returned x ∧ WQ w' x s n (short k) K ∧ Below w.heap.size w w' := by
  have W := fun W (hb : Below w.heap.size w W) => isOne_all v k K W (hv.below hb)
  obtain ⟨d, rfl, hd⟩ := hu
  obtain ⟨dp, dl, dc, rfl⟩ := hd.slice
  obtain ⟨ep, el, ec, rfl⟩ := hv.slice
  have Hd := Lib.hid hd
  have He := Lib.hid hv
  unfold short
  by_cases h0 : k = 1
  · subst h0
    have e1 : decide (1 = 1) = true := rfl
    rw [e1] at W
    rw [if_pos rfl]
    have HW := Lib.hid W
    have L0 := Lib.hid (((LayX.nil w).push #[.bool s, .slice dp dl dc] 31).push #[.bool false, .slice none 0 0, .slice none 0 0] 45)
    clear W hd hv e1
    go_enter Tryz.func103, Tryz.ntmps103
    go_wp2_with fail
    refine (HW.out _ ?_).mono ?_
    · exact L0.out.1.2
    rintro e w1 ⟨rfl, hd1⟩
    have hL := L0.out.1.step (hd1.below _)
    have r1 := hL.row 1 (w.heap.size + 1) rfl rfl
    obtain ⟨q0, q1, _, _⟩ := cells2 (hL.row 0 w.heap.size rfl rfl)
    obtain ⟨c0, c1, c2, f0, f1, f2⟩ := cells3 r1
    have Hb1 := Lib.hid hL.2
    have S2 := Lib.hid (hL.set3 1 (w.heap.size + 1) rfl rfl)
    have Of := Lib.hid (off3 r1)
    have Hd1 := Lib.hid (Hd.out.below hL.2)
    clear hd1 r1 hL
    go_wp2_with fail
    refine bodyPost_ret (res_rat rfl _ _ (w.heap.size + 1) _ _ _ _ (by rfl) ((S2.out _ _ _).row 1 _ rfl rfl)) rfl ?_
    exact ⟨_, rfl, ⟨_, _, rfl, Hd1.out.set3 Of.out _ _ _, DN.nil _ _⟩, (S2.out _ _ _).2⟩
  · have e1 : decide (k = 1) = false := by simp [h0]
    rw [e1] at W
    rw [if_neg h0]
    have HW := Lib.hid W
    have L0 := Lib.hid (((LayX.nil w).push #[.bool s, .slice dp dl dc] 31).push #[.bool false, .slice none 0 0, .slice none 0 0] 45)
    clear W hd hv e1
    go_enter Tryz.func103, Tryz.ntmps103
    go_wp2_with fail
    refine (HW.out _ ?_).mono ?_
    · exact L0.out.1.2
    rintro e w1 ⟨rfl, hd1⟩
    have hL := L0.out.1.step (hd1.below _)
    have r1 := hL.row 1 (w.heap.size + 1) rfl rfl
    obtain ⟨q0, q1, _, _⟩ := cells2 (hL.row 0 w.heap.size rfl rfl)
    obtain ⟨c0, c1, c2, f0, f1, f2⟩ := cells3 r1
    have S2 := Lib.hid (hL.set3 1 (w.heap.size + 1) rfl rfl)
    have Of := Lib.hid (off3 r1)
    have Hd1 := Lib.hid (Hd.out.below hL.2)
    have He1 := Lib.hid (He.out.below hL.2)
    clear hd1 r1 hL
    go_wp2_with fail
    refine bodyPost_ret (res_rat rfl _ _ (w.heap.size + 1) _ _ _ _ (by rfl) ((S2.out _ _ _).row 1 _ rfl rfl)) rfl ?_
    exact ⟨_, rfl, ⟨_, _, rfl, Hd1.out.set3 Of.out _ _ _, He1.out.set3 Of.out _ _ _⟩, (S2.out _ _ _).2⟩

set_option maxRecDepth 100000 in
set_option maxHeartbeats 400000 in
theorem shorten_all {K : Nat} (hK : K ≤ 1073741824) (GC : GcdC K) (DC : DivC K) (u v : Value) (a b : Nat) (w : World) (hu : DN w u a K) (hv : DN w v b K) (hb0 : 0 < b) :
    Calls Tryz.prog 172 #[u, v] w fun e w' => ∃ x y, e = .returned (.tuple #[x, y]) ∧ DN w' x (a / Nat.gcd a b) K ∧ DN w' y (b / Nat.gcd a b) K ∧ Below w.heap.size w w' := by
  have hg0 : 0 < Nat.gcd a b := Nat.gcd_pos_of_pos_right _ hb0
  have G := GC u v a b w hu hv
  obtain ⟨g, hg⟩ : ∃ g, Nat.gcd a b = g := ⟨_, rfl⟩
  rw [hg] at hg0 G ⊢
  have HG := Lib.hid G
  have EX := Lib.hid (fun u v a b w => exactly_all hK DC u v a b w)
  have Hu := Lib.hid hu
  have Hv := Lib.hid hv
  obtain ⟨p, lu, c, rfl⟩ := hu.slice
  obtain ⟨q, lv, cm, rfl⟩ := hv.slice
  clear G hu hv hg GC DC
  go_enter Tryz.func172, Tryz.ntmps172
  go_wp2_with fail
  refine HG.out.mono ?_
  rintro e w1 ⟨x, rfl, hx, hb1⟩
  have Hx := Lib.hid hx
  have Hb1 := Lib.hid hb1
  clear hx hb1
  go_wp2_with fail
  refine (EX.out _ _ _ _ _ (Hu.out.below Hb1.out) Hx.out hg0).mono ?_
  rintro e w2 ⟨y, rfl, hy, hb2⟩
  have Hy := Lib.hid hy
  have Hb2 := Lib.hid hb2
  clear hy hb2
  go_wp2_with fail
  have hv2 := (Hv.out.below Hb1.out).below Hb2.out
  refine (EX.out _ _ _ _ _ hv2 (Hx.out.below Hb2.out) hg0).mono ?_
  rintro e w3 ⟨z, rfl, hz, hb3⟩
  have Hz := Lib.hid hz
  have Hb3 := Lib.hid hb3
  clear hz hb3 hv2
  go_wp2_with fail
  go_ret2
  exact ⟨y, z, rfl, Hy.out.below Hb3.out, Hz.out, (Hb1.out.trans (Hb2.out.mono Hb1.out.size)).trans (Hb3.out.mono (Nat.le_trans Hb1.out.size Hb2.out.size))⟩

set_option maxRecDepth 100000 in
set_option maxHeartbeats 1000000 in
theorem turned_all (v : Value) (s : Bool) (n k K : Nat) (w : World) (h : WQ w v s n k K) (hK1 : 1 ≤ K) :
    Calls Tryz.prog 131 #[v] w fun e w' => ∃ x, e = .returned x ∧ WQ w' x s (den k) (short n) K ∧ Below w.heap.size w w' := by
  have BL := Lib.hid (fun W (hb : Below w.heap.size w W) => below_all v s n k K W (h.below hb) hK1)
  obtain ⟨d, e, rfl, hd, he⟩ := h
  obtain ⟨dp, dl, dc, rfl⟩ := hd.slice
  obtain ⟨ep, el, ec, rfl⟩ := he.slice
  have Hd := Lib.hid hd
  have e1 : decide (0 < den k) = true := by simp [den_pos]
  have SG : ∀ W d, DN W d (den k) K → _ := fun W d h => signed_all s d (den k) K W h
  simp only [e1, Bool.and_true] at SG
  have HSG := Lib.hid SG
  have LW := Lib.hid (fun W u v (hu : WS W u s (den k) K) (hv : DN W v n K) => lowest_all u v s (den k) n K W hu hv)
  clear hd he SG e1
  have L0 := Lib.hid (((LayX.nil w).push #[.bool s, .slice dp dl dc, .slice ep el ec] 45).push #[.bool false, .slice none 0 0, .slice none 0 0] 45)
  go_enter Tryz.func131, Tryz.ntmps131
  go_wp2_with fail
  generalize ((w.alloc (Obj.cells #[Value.bool s, .slice dp dl dc, .slice ep el ec] 45)).alloc (Obj.cells #[Value.bool false, Value.slice none 0 0, .slice none 0 0] 45)) = W0 at *
  have L1 : Hid (Lay w [(#[.bool s, .slice dp dl dc, .slice ep el ec], 45), (#[.bool false, .slice none 0 0, .slice none 0 0], 45)] W0.drew) := Lib.hid L0.out.1.drew
  go_region_held3 (fun W => (W.cell? ⟨w.heap.size, 0, none⟩ = some (.bool s) ∧ W.cell? ⟨w.heap.size, 1, none⟩ = some (.slice dp dl dc) ∧ W.cell? ⟨w.heap.size, 2, none⟩ = some (.slice ep el ec)) ∧ Hid (∃ rest, Lay w ((#[.bool s, .slice dp dl dc, .slice ep el ec], 45) :: rest) W)) (first | exact sOfR (T3.out.set3 1 (w.heap.size + 1) rfl rfl _ _ _) | exact sOfR T3.out | exact sOfR T2.out | exact sOfR T1.out | exact sOfR L1.out) (first
    | (go_at_call 104; refine (BL.out _ ?_).mono ?_; exact L1.out.2; rintro e w1 ⟨y, rfl, hy, hb1⟩; obtain ⟨yp, yl, yc, rfl⟩ := hy.slice; have T1 := Lib.hid (L1.out.step hb1); have Hy := Lib.hid hy; clear hy hb1)
    | (go_at_call 90; refine (HSG.out _ _ Hy.out).mono ?_; rintro e w2 ⟨rfl, hb2⟩; have T2 := Lib.hid (T1.out.step hb2); have Hy2 := Lib.hid (Hy.out.below hb2); clear hb2)
    | (go_at_call 103; refine (LW.out _ _ _ ⟨_, rfl, Hy2.out⟩ (Hd.out.below T2.out.2)).mono ?_; rintro e w3 ⟨x, rfl, ⟨x1, x2, rfl, hx1, hx2⟩, hb3⟩; obtain ⟨xp, xl, xc, rfl⟩ := hx1.slice; obtain ⟨zp, zl, zc, rfl⟩ := hx2.slice; have T3 := Lib.hid (T2.out.step hb3); have Hx1 := Lib.hid hx1; have Hx2 := Lib.hid hx2; obtain ⟨c0, c1, c2, f0, f1, f2⟩ := cells3 (T3.out.row 1 (w.heap.size + 1) rfl rfl); clear hb3 hx1 hx2))
  go_wp2
  refine bodyPost_ret (res_rat rfl _ _ (w.heap.size + 1) _ _ _ _ (by rfl) ((T3.out.set3 1 _ rfl rfl _ _ _).row 1 _ rfl rfl)) rfl ?_
  exact ⟨_, rfl, ⟨_, _, rfl, Hx1.out.set3 (off3 (T3.out.row 1 _ rfl rfl)) _ _ _, Hx2.out.set3 (off3 (T3.out.row 1 _ rfl rfl)) _ _ _⟩, (T3.out.set3 1 _ rfl rfl _ _ _).2⟩


end Go.Proofs.YtamhlkjfpdkhoaaGreatDoor
