/- WALKS of the reference's integers: Sub, Cmp, Gcd, Quo. -/
import Derived.Test.YtamhlkjfpdkhoaaGreatDoorQ23
set_option linter.unusedVariables false
namespace Go.Proofs.YtamhlkjfpdkhoaaGreatDoor
open Go.RowKit

/-- The value is this integer of the reference's. -/
def RZ (w : World) (v : Value) (z : Int) (K : Nat) : Prop := RS w v (decide (z < 0)) z.natAbs K

theorem RZ.below {w w' : World} {v : Value} {z : Int} {K : Nat} (h : RZ w v z K) (hb : Below w.heap.size w w') : RZ w' v z K := RS.below h hb
theorem RZ.more {w : World} {v : Value} {z : Int} {K K' : Nat} (h : RZ w v z K) (hk : K ≤ K') : RZ w v z K' := RS.more h hk
theorem RZ.fit {w : World} {v : Value} {z : Int} {K K' : Nat} (h : RZ w v z K) (hn : z.natAbs < B9 ^ K') : RZ w v z K' := RS.fit h hn

theorem RZ.parts {w : World} {v : Value} {z : Int} {K : Nat} (h : RZ w v z K) : ∃ p l c, v = .agg #[.bool (decide (z < 0)), .slice p l c] ∧ NN w (.slice p l c) z.natAbs K := by
  obtain ⟨d, h1, h2⟩ := h
  obtain ⟨p, l, c, rfl⟩ := h2.slice
  exact ⟨p, l, c, h1, h2⟩

theorem Add_z (u v : Value) (x y : Int) (K : Nat) (w : World) (hu : RZ w u x K) (hv : RZ w v y K) (hK : K ≤ 268435456) :
    Calls Tryz.prog 45 #[u, v] w fun e w' => ∃ r, e = .returned r ∧ RZ w' r (x + y) (K + 1) ∧ Below w.heap.size w w' := by
  have h := Add_ref u v _ _ _ _ K w hu hv hK
  have e : zsum (decide (x < 0)) x.natAbs (decide (y < 0)) y.natAbs = x + y := by
    unfold zsum
    by_cases hx : x < 0 <;> by_cases hy : y < 0 <;> simp [hx, hy] <;> omega
  rw [e] at h
  exact h

theorem Neg_z (v : Value) (x : Int) (K : Nat) (w : World) (hv : RZ w v x K) :
    Calls Tryz.prog 21 #[v] w fun e w' => ∃ r, e = .returned r ∧ RZ w' r (-x) K ∧ Below w.heap.size w w' := by
  have h := Neg_ref v _ _ K w hv
  have e1 : (!decide (x < 0) && decide (0 < x.natAbs)) = decide (-x < 0) := by
    by_cases hx : x < 0 <;> by_cases h0 : x = 0 <;> simp [hx, h0] <;> omega
  have e2 : (-x).natAbs = x.natAbs := by omega
  unfold RZ
  rw [e2]
  rw [e1] at h
  exact h

theorem Mul_z (u v : Value) (x y : Int) (K K' : Nat) (w : World) (hu : RZ w u x K) (hv : RZ w v y K') (hK : K ≤ 268435456) (hK' : K' ≤ 268435456) :
    Calls Tryz.prog 47 #[u, v] w fun e w' => ∃ r, e = .returned r ∧ RZ w' r (x * y) (K + K') ∧ Below w.heap.size w w' := by
  have h := Mul_ref u v _ _ _ _ _ K K' w hu hv rfl hK hK'
  rw [sign_mul, ← Int.natAbs_mul] at h
  exact h

theorem Sign_z (v : Value) (x : Int) (K : Nat) (w : World) (hv : RZ w v x K) :
    Calls Tryz.prog 18 #[v] w fun e w' => e = .returned (.int .i64 x.sign) ∧ Below w.heap.size w w' := by
  have h := Sign_ref v _ _ K w hv
  have e : (if x.natAbs = 0 then 0 else if decide (x < 0) = true then -1 else 1 : Int) = x.sign := by
    rcases Int.lt_trichotomy x 0 with hx | hx | hx
    · rw [if_neg (by omega), if_pos (by simpa using hx), Int.sign_eq_neg_one_of_neg hx]
    · subst hx; rfl
    · rw [if_neg (by omega), if_neg (by simp; omega), Int.sign_eq_one_of_pos hx]
  rw [e] at h
  exact h

set_option maxRecDepth 100000 in
set_option maxHeartbeats 1000000 in
theorem Sub_z (u v : Value) (x y : Int) (K : Nat) (w : World) (hu : RZ w u x K) (hv : RZ w v y K) (hK : K ≤ 268435456) :
    Calls Tryz.prog 46 #[u, v] w fun e w' => ∃ r, e = .returned r ∧ RZ w' r (x - y) (K + 1) ∧ Below w.heap.size w w' := by
  have NG := Lib.hid (fun W (h : Below w.heap.size w W) => Neg_z v y K W (hv.below h))
  have AD := Lib.hid (fun W z (h : Below w.heap.size w W) (hz : RZ W z (-y) K) => Add_z u z x (-y) K W (hu.below h) hz hK)
  rw [← Int.sub_eq_add_neg] at AD
  obtain ⟨up, ul, uc, rfl, hu⟩ := hu.parts
  obtain ⟨vp, vl, vc, rfl, hv⟩ := hv.parts
  obtain ⟨s, hs⟩ : ∃ s, decide (x < 0) = s := ⟨_, rfl⟩
  obtain ⟨s', hs'⟩ : ∃ s, decide (y < 0) = s := ⟨_, rfl⟩
  rw [hs] at AD ⊢
  rw [hs'] at NG ⊢
  have L0 := Lib.hid ((((LayX.nil w).push #[.bool s, .slice up ul uc] 25).push #[.bool s', .slice vp vl vc] 25).push #[.bool false, .slice none 0 0] 25)
  clear hu hv hs hs'
  go_enter Tryz.func46, Tryz.ntmps46
  go_wp2_with fail
  generalize (((w.alloc (Obj.cells #[Value.bool s, .slice up ul uc] 25)).alloc (Obj.cells #[Value.bool s', .slice vp vl vc] 25)).alloc (Obj.cells #[Value.bool false, Value.slice none 0 0] 25)) = W0 at *
  have L1 : Hid (Lay w [(#[.bool s, .slice up ul uc], 25), (#[.bool s', .slice vp vl vc], 25), (#[.bool false, .slice none 0 0], 25)] W0.drew) := Lib.hid L0.out.1.drew
  go_region_held3 (fun W => (W.cell? ⟨w.heap.size, 0, none⟩ = some (.bool s) ∧ W.cell? ⟨w.heap.size, 1, none⟩ = some (.slice up ul uc) ∧ W.cell? ⟨w.heap.size + 1, 0, none⟩ = some (.bool s') ∧ W.cell? ⟨w.heap.size + 1, 1, none⟩ = some (.slice vp vl vc)) ∧ Hid (∃ rest, Lay w ((#[.bool s, .slice up ul uc], 25) :: (#[.bool s', .slice vp vl vc], 25) :: rest) W)) (first | exact sOf22 (T2.out.set2 2 (w.heap.size + 1 + 1) rfl rfl _ _) | exact sOf22 T2.out | exact sOf22 T1.out | exact sOf22 L1.out) (first
    | (go_at_call 21; refine (NG.out _ ?_).mono ?_; exact L1.out.2; rintro e w1 ⟨z, rfl, hz, hb1⟩; have T1 := Lib.hid (L1.out.step hb1); have Hz := Lib.hid hz; clear hz hb1)
    | (go_at_call 45; refine (AD.out _ _ ?_ Hz.out).mono ?_; exact T1.out.2; rintro e w2 ⟨r, rfl, hr, hb2⟩; have T2 := Lib.hid (T1.out.step hb2); obtain ⟨xp, xl, xc, rfl, hr2⟩ := hr.parts; have Hx := Lib.hid hr2; obtain ⟨c0, c1, f0, f1⟩ := cells2 (T2.out.row 2 (w.heap.size + 1 + 1) rfl rfl); clear hr hr2 hb2))
  go_wp2
  refine bodyPost_ret (res_z rfl _ _ (w.heap.size + 1 + 1) _ _ _ (by rfl) ((T2.out.set2 2 _ rfl rfl _ _).row 2 _ rfl rfl)) rfl ?_
  exact ⟨_, rfl, ⟨_, rfl, Hx.out.set2 (offi2 (T2.out.row 2 _ rfl rfl)) _ _⟩, (T2.out.set2 2 _ rfl rfl _ _).2⟩

set_option maxRecDepth 100000 in
set_option maxHeartbeats 1000000 in
theorem Cmp_z (u v : Value) (x y : Int) (K : Nat) (w : World) (hu : RZ w u x K) (hv : RZ w v y K) (hK : K ≤ 268435456) :
    Calls Tryz.prog 49 #[u, v] w fun e w' => e = .returned (.int .i64 (x - y).sign) ∧ Below w.heap.size w w' := by
  have SB := Lib.hid (fun W (h : Below w.heap.size w W) => Sub_z u v x y K W (hu.below h) (hv.below h) hK)
  obtain ⟨up, ul, uc, rfl, hu⟩ := hu.parts
  obtain ⟨vp, vl, vc, rfl, hv⟩ := hv.parts
  obtain ⟨s, hs⟩ : ∃ s, decide (x < 0) = s := ⟨_, rfl⟩
  obtain ⟨s', hs'⟩ : ∃ s, decide (y < 0) = s := ⟨_, rfl⟩
  rw [hs, hs'] at SB
  rw [hs, hs']
  have SG := Lib.hid (fun W z (hz : RZ W z (x - y) (K + 1)) => Sign_z z (x - y) (K + 1) W hz)
  have L0 := Lib.hid (((LayX.nil w).push #[.bool s, .slice up ul uc] 25).push #[.bool s', .slice vp vl vc] 25)
  clear hu hv hs hs'
  go_enter Tryz.func49, Tryz.ntmps49
  go_wp2_with fail
  generalize ((w.alloc (Obj.cells #[Value.bool s, .slice up ul uc] 25)).alloc (Obj.cells #[Value.bool s', .slice vp vl vc] 25)) = W0 at *
  refine (SB.out _ L0.out.1.2).mono ?_
  rintro _ w1 ⟨r, rfl, hr, hb⟩
  have Hr := Lib.hid hr
  have HB := Lib.hid (L0.out.1.2.trans (hb.mono L0.out.1.2.size))
  clear hr hb
  go_wp2_with fail
  refine (SG.out _ _ Hr.out).mono ?_
  rintro _ w2 ⟨rfl, hb⟩
  have HB2 := Lib.hid (HB.out.trans (hb.mono HB.out.size))
  clear hb
  go_wp2_with fail
  go_ret
  exact ⟨rfl, HB2.out⟩

set_option maxRecDepth 100000 in
set_option maxHeartbeats 1000000 in
theorem Gcd_z (u v : Value) (s s' : Bool) (a b g K : Nat) (w : World) (hu : RS w u s a K) (hv : RS w v s' b K) (hg : Nat.gcd a b = g) (hK : K ≤ 268435456) :
    Calls Tryz.prog 51 #[u, v] w fun e w' => ∃ r, e = .returned r ∧ RS w' r false g K ∧ Below w.heap.size w w' := by
  obtain ⟨du, rfl, hu⟩ := hu
  obtain ⟨dv, rfl, hv⟩ := hv
  obtain ⟨up, ul, uc, rfl⟩ := hu.slice
  obtain ⟨vp, vl, vc, rfl⟩ := hv.slice
  have GN := fun W (h : Below w.heap.size w W) => GcdN_any _ _ a b K W (hu.below h) (hv.below h) (by omega)
  rw [hg] at GN
  have SG : ∀ W d, NN W d g K → _ := fun W d h => Int_ref false d g K W h
  have e1 : (false && decide (0 < g)) = false := rfl
  simp only [e1] at SG
  replace GN := Lib.hid GN
  replace SG := Lib.hid SG
  have L0 := Lib.hid ((((LayX.nil w).push #[.bool s, .slice up ul uc] 25).push #[.bool s', .slice vp vl vc] 25).push #[.bool false, .slice none 0 0] 25)
  clear hu hv e1 hg
  go_enter Tryz.func51, Tryz.ntmps51
  go_wp2_with fail
  refine (GN.out _ L0.out.1.2).mono ?_
  rintro e w1 ⟨z, rfl, hz, hb1⟩
  obtain ⟨zp, zl, zc, rfl⟩ := hz.slice
  have T1 : Hid (Lay w [(#[.bool s, .slice up ul uc], 25), (#[.bool s', .slice vp vl vc], 25), (#[.bool false, .slice none 0 0], 25)] w1) := Lib.hid (L0.out.1.step hb1)
  have Hz := Lib.hid hz
  clear hz hb1 L0
  go_wp2_with fail
  refine (SG.out _ _ Hz.out).mono ?_
  rintro e w2 ⟨rfl, hb2⟩
  have T2 := Lib.hid (T1.out.step hb2)
  have Hx := Lib.hid (Hz.out.below hb2)
  obtain ⟨c0, c1, f0, f1⟩ := cells2 (T2.out.row 2 (w.heap.size + 1 + 1) rfl rfl)
  clear hb2
  go_wp2_with fail
  refine bodyPost_ret (res_z rfl _ _ (w.heap.size + 1 + 1) _ _ _ (by rfl) ((T2.out.set2 2 _ rfl rfl _ _).row 2 _ rfl rfl)) rfl ?_
  exact ⟨_, rfl, ⟨_, rfl, Hx.out.set2 (offi2 (T2.out.row 2 _ rfl rfl)) _ _⟩, (T2.out.set2 2 _ rfl rfl _ _).2⟩

set_option maxRecDepth 100000 in
set_option maxHeartbeats 1000000 in
theorem Quo_ref (u v : Value) (s s' : Bool) (a b q K : Nat) (w : World) (hu : RS w u s a K) (hv : RS w v s' b K) (hq : a / b = q) (hb0 : 0 < b) (hK : K ≤ 268435456) :
    Calls Tryz.prog 106 #[u, v] w fun e w' => ∃ r, e = .returned r ∧ RS w' r ((s != s') && decide (0 < q)) q K ∧ Below w.heap.size w w' := by
  obtain ⟨du, rfl, hu⟩ := hu
  obtain ⟨dv, rfl, hv⟩ := hv
  obtain ⟨up, ul, uc, rfl⟩ := hu.slice
  obtain ⟨vp, vl, vc, rfl⟩ := hv.slice
  have GN := fun W (h : Below w.heap.size w W) => DivN_any _ _ a b K K W (hu.below h) (hv.below h) (by omega) (by omega) hb0
  rw [hq] at GN
  obtain ⟨s0, hs0⟩ : ∃ s0, ((s != s') && decide (0 < q)) = s0 := ⟨_, rfl⟩
  have SG : ∀ W d, NN W d q K → _ := fun W d h => Int_ref (s != s') d q K W h
  rw [hs0]
  simp only [hs0] at SG
  replace GN := Lib.hid GN
  replace SG := Lib.hid SG
  have L0 := Lib.hid ((((LayX.nil w).push #[.bool s, .slice up ul uc] 25).push #[.bool s', .slice vp vl vc] 25).push #[.bool false, .slice none 0 0] 25)
  clear hu hv hs0 hq hb0
  go_enter Tryz.func106, Tryz.ntmps106
  go_wp2_with fail
  refine (GN.out _ L0.out.1.2).mono ?_
  rintro e w1 ⟨z, z', rfl, hz, _, _, _, hb1⟩
  obtain ⟨zp, zl, zc, rfl⟩ := hz.slice
  have T1 : Hid (Lay w [(#[.bool s, .slice up ul uc], 25), (#[.bool s', .slice vp vl vc], 25), (#[.bool false, .slice none 0 0], 25)] w1) := Lib.hid (L0.out.1.step hb1)
  have Hz := Lib.hid hz
  obtain ⟨⟨c0, c1, c2, c3⟩, _⟩ := sOf22 T1.out
  clear hz hb1 L0
  go_wp2_with fail
  refine (SG.out _ _ ?_).mono ?_
  · exact Hz.out
  rintro e w2 ⟨rfl, hb2⟩
  have T2 := Lib.hid (T1.out.step hb2)
  have Hx := Lib.hid (Hz.out.below hb2)
  clear c0 c1 c2 c3
  obtain ⟨c0, c1, f0, f1⟩ := cells2 (T2.out.row 2 (w.heap.size + 1 + 1) rfl rfl)
  clear hb2
  go_wp2_with fail
  refine bodyPost_ret (res_z rfl _ _ (w.heap.size + 1 + 1) _ _ _ (by rfl) ((T2.out.set2 2 _ rfl rfl _ _).row 2 _ rfl rfl)) rfl ?_
  exact ⟨_, rfl, ⟨_, rfl, Hx.out.set2 (offi2 (T2.out.row 2 _ rfl rfl)) _ _⟩, (T2.out.set2 2 _ rfl rfl _ _).2⟩
end Go.Proofs.YtamhlkjfpdkhoaaGreatDoor
