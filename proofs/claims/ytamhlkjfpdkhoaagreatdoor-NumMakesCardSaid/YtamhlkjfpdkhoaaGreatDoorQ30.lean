import Derived.Test.YtamhlkjfpdkhoaaGreatDoorQ28
import Derived.Test.YtamhlkjfpdkhoaaGreatDoorQ29
/- WALKS: what is small; attempts that come to an end; Of, Sign, Quo, Make of any numbers. -/
set_option linter.unusedVariables false
namespace Go.Proofs.YtamhlkjfpdkhoaaGreatDoor
open Go.RowKit

set_option maxRecDepth 100000 in
set_option maxHeartbeats 400000 in
theorem bitLength_all (v : Value) (n K : Nat) (w : World) (hd : DN w v n K) (hK : K ≤ 1562) :
    Calls Tryz.prog 161 #[v] w fun e w' => ∃ k : Int, e = .returned (.int .i64 k) ∧ (0 ≤ k ∧ k ≤ 99968) ∧ Drew w w' := by
  obtain ⟨l, p, c, rfl, h1, h2, rfl, h4, h5, h6⟩ := hd.norm
  rcases Nat.eq_zero_or_pos l.length with hl | hl
  · rw [hl]
    clear hd h1 h2 h4 h5 h6
    go_enter Tryz.func161, Tryz.ntmps161
    go_wp2
    go_ret
    exact ⟨0, rfl, ⟨by omega, by omega⟩, Drew.refl _⟩
  · obtain ⟨d, hx⟩ : ∃ d, l[l.length - 1]? = some d := ⟨_, List.getElem?_eq_getElem (by omega)⟩
    obtain ⟨g, rfl, hc⟩ := h1.at_ (Below.refl _ _) hx
    have bd : d < 18446744073709551616 := h2.1.at_ hx
    have B := fun W => Tryz.bits_Len64 (d : Int) W (by omega) (by omega)
    obtain ⟨k, hk, hk0, hk1⟩ : ∃ k : Int, (Lib.bitLen (d : Int).toNat : Int) = k ∧ 0 ≤ k ∧ k ≤ 64 := ⟨_, rfl, by omega, by have := bitLen_le (d : Int).toNat; omega⟩
    rw [hk] at B
    replace B := Lib.hid B
    clear hd h1 h2 hk hx bd
    go_enter Tryz.func161, Tryz.ntmps161
    go_wp2_with fail
    refine (B.out _).mono ?_
    rintro e w1 ⟨rfl, hw⟩
    have HW := Lib.hid hw
    clear hw
    go_wp2_with fail
    go_ret
    refine ⟨_, rfl, ⟨by omega, by omega⟩, ?_⟩
    rw [HW.out]
    first | exact Drew.refl _ | exact (Drew.refl _).drewN 1

set_option maxRecDepth 100000 in
set_option maxHeartbeats 400000 in
theorem mustBeSmall_all (v : Value) (n K : Nat) (w : World) (hd : DN w v n K) (hK : K ≤ 1562) :
    Calls Tryz.prog 144 #[v] w fun e w' => e = .returned (.tuple #[]) ∧ Drew w w' := by
  have B := Lib.hid (bitLength_all v n K w hd hK)
  obtain ⟨p, l, c, rfl⟩ := hd.slice
  clear hd
  go_enter Tryz.func144, Tryz.ntmps144
  go_wp2_with fail
  refine B.out.mono ?_
  rintro e w1 ⟨k, rfl, ⟨hk0, hk1⟩, hd⟩
  have Hd := Lib.hid hd
  clear hd
  go_wp2_with fail
  go_end0
  exact ⟨rfl, Hd.out⟩

set_option maxRecDepth 100000 in
set_option maxHeartbeats 400000 in
theorem smallRat_all (v : Value) (s : Bool) (n k K : Nat) (w : World) (h : WQ w v s n k K) (hK : K ≤ 1562) :
    Calls Tryz.prog 102 #[v] w fun e w' => e = .returned v ∧ Below w.heap.size w w' := by
  obtain ⟨d, e, rfl, hd, he⟩ := h
  obtain ⟨dp, dl, dc, rfl⟩ := hd.slice
  obtain ⟨ep, el, ec, rfl⟩ := he.slice
  have M1 := Lib.hid (fun W (hb : Below w.heap.size w W) => mustBeSmall_all _ n K W (hd.below hb) hK)
  have M2 := Lib.hid (fun W (hb : Below w.heap.size w W) => mustBeSmall_all _ k K W (he.below hb) hK)
  have L0 := Lib.hid (((LayX.nil w).push #[.bool s, .slice dp dl dc, .slice ep el ec] 45).push #[.bool false, .slice none 0 0, .slice none 0 0] 45)
  clear hd he
  go_enter Tryz.func102, Tryz.ntmps102
  go_wp2_with fail
  refine (M1.out _ L0.out.1.2).mono ?_
  rintro e w1 ⟨rfl, hd1⟩
  have L1 : Hid (Lay w [(#[.bool s, .slice dp dl dc, .slice ep el ec], 45), (#[.bool false, .slice none 0 0, .slice none 0 0], 45)] w1) := Lib.hid (L0.out.1.step (hd1.below _))
  obtain ⟨c0, c1, c2, _, _, _⟩ := cells3 (L1.out.row 0 w.heap.size rfl rfl)
  clear hd1 L0
  go_wp2_with fail
  refine (M2.out _ L1.out.2).mono ?_
  rintro e w2 ⟨rfl, hd2⟩
  have L2 : Hid (Lay w [(#[.bool s, .slice dp dl dc, .slice ep el ec], 45), (#[.bool false, .slice none 0 0, .slice none 0 0], 45)] w2) := Lib.hid (L1.out.step (hd2.below _))
  clear hd2 L1 c0 c1 c2
  obtain ⟨c0, c1, c2, _, _, _⟩ := cells3 (L2.out.row 0 w.heap.size rfl rfl)
  obtain ⟨b0, b1, b2, f0, f1, f2⟩ := cells3 (L2.out.row 1 (w.heap.size + 1) rfl rfl)
  go_wp2_with fail
  refine bodyPost_ret (res_rat rfl _ _ (w.heap.size + 1) _ _ _ _ (by rfl) ((L2.out.set3 1 _ rfl rfl _ _ _).row 1 _ rfl rfl)) rfl ?_
  exact ⟨rfl, (L2.out.set3 1 _ rfl rfl _ _ _).2⟩

set_option maxRecDepth 100000 in
set_option maxHeartbeats 400000 in
theorem attempt_all (F : Nat) (cap : Array Value) (s : Bool) (n k K : Nat) (w : World) (hE : ∀ w, (callFunc F cap).run Tryz.prog w = .ok (.enter F cap) w)
    (hF : ∀ W, Below w.heap.size w W → Calls Tryz.prog F cap W fun e w' => ∃ x, e = .returned x ∧ WQ w' x s n k K ∧ Below W.heap.size W w') :
    Calls Tryz.prog 100 #[.func (.func F) #[] cap] w fun e w' => ∃ x, e = .returned (.tuple #[x, .int .i64 0]) ∧ WQ w' x s n k K ∧ Below w.heap.size w w' := by
  have hmf : ∀ (fn : Fn) (first cap : Array Value) (w : World), (Instr.makeFunc fn first cap).run Tryz.prog w = .ok (.func fn first cap) w := fun _ _ _ _ => rfl
  have HF := Lib.hid hF
  have L0 := Lib.hid (((LayX.nil w).push #[.bool false, .slice none 0 0, .slice none 0 0] 45).push #[.int .i64 0] 32)
  clear hF
  go_enter_defers Tryz.func100, Tryz.ntmps100
  go_wp2_with fail
  refine (HF.out _ L0.out.1.2).mono ?_
  rintro e w1 ⟨x, rfl, ⟨d, e, rfl, hd, he⟩, hb⟩
  obtain ⟨dp, dl, dc, rfl⟩ := hd.slice
  obtain ⟨ep, el, ec, rfl⟩ := he.slice
  have L1 : Hid (Lay w [(#[.bool false, .slice none 0 0, .slice none 0 0], 45), (#[.int .i64 0], 32)] w1) := Lib.hid (L0.out.1.step hb)
  have Hd := Lib.hid hd
  have He := Lib.hid he
  clear hd he hb L0
  obtain ⟨c0, c1, c2, f0, f1, f2⟩ := cells3 (L1.out.row 0 w.heap.size rfl rfl)
  have r1 := L1.out.row 1 (w.heap.size + 1) rfl rfl
  have d0 := cell_of_one r1
  have g0 := free_of_one r1
  clear r1
  go_wp2_with fail
  have L2 := L1.out.set3 0 w.heap.size rfl rfl (.bool s) (.slice dp dl dc) (.slice ep el ec)
  have r0 := L2.row 0 w.heap.size rfl rfl
  have r1 := L2.row 1 (w.heap.size + 1) rfl rfl
  have r0' : ((((w1.setCell ⟨w.heap.size, 0, none⟩ (.bool s)).setCell ⟨w.heap.size, 1, none⟩ (.slice dp dl dc)).setCell ⟨w.heap.size, 2, none⟩ (.slice ep el ec)).setCell ⟨w.heap.size + 1, 0, none⟩ (.int .i64 0)).heap[w.heap.size]? = some (.cells #[.bool s, .slice dp dl dc, .slice ep el ec] 45 (0, 0)) := by
    rw [Below.heap_setCell _ _ _ _ (by simp)]; exact r0
  have r1' := cell_of_one (one_setCell (u := .int .i64 0) r1)
  have off1 := off3 (L1.out.row 0 w.heap.size rfl rfl)
  have D1 := (Hd.out.set3 off1 (.bool s) (.slice dp dl dc) (.slice ep el ec))
  have E1 := (He.out.set3 off1 (.bool s) (.slice dp dl dc) (.slice ep el ec))
  have offk : Off (((w1.setCell ⟨w.heap.size, 0, none⟩ (.bool s)).setCell ⟨w.heap.size, 1, none⟩ (.slice dp dl dc)).setCell ⟨w.heap.size, 2, none⟩ (.slice ep el ec)) (w.heap.size + 1) := off_errno r1
  have B1 := L2.2.setCell (p := ⟨w.heap.size + 1, 0, none⟩) (by simp) (.int .i64 0)
  generalize (((w1.setCell ⟨w.heap.size, 0, none⟩ (.bool s)).setCell ⟨w.heap.size, 1, none⟩ (.slice dp dl dc)).setCell ⟨w.heap.size, 2, none⟩ (.slice ep el ec)) = w2 at *
  refine leaves_cons (f := 157) (args := #[.pointer (some ⟨w.heap.size + 1, 0, none⟩)]) (by simp) (by simp [go_sem]) ?_
  refine (ends_idle ⟨w.heap.size + 1, 0, none⟩ _).mono ?_
  rintro e u' w'' ⟨rfl, rfl, rfl⟩
  refine ⟨_, results_rat_errno rfl _ _ w.heap.size (w.heap.size + 1) _ _ _ _ _ 0 (by rfl) (by rfl) r0' r1', _, rfl, ⟨_, _, rfl, D1.upon offk (fun k hk => Below.heap_setCell _ _ _ _ hk), E1.upon offk (fun k hk => Below.heap_setCell _ _ _ _ hk)⟩, B1⟩

set_option maxRecDepth 100000 in
set_option maxHeartbeats 400000 in
theorem Of_all (m : Int) (s : Bool) (n K : Nat) (w : World) (HW : ∀ W, Calls Tryz.prog 35 #[.int .i64 m] W fun e w' => ∃ x, e = .returned x ∧ WS w' x s n K ∧ Below W.heap.size W w') :
    Calls Tryz.prog 37 #[.int .i64 m] w fun e w' => ∃ x, e = .returned x ∧ WQ w' x s n 0 K ∧ Below w.heap.size w w' := by
  replace HW := Lib.hid HW
  have L0 := Lib.hid ((LayX.nil w).push #[.bool false, .slice none 0 0, .slice none 0 0] 45)
  go_enter Tryz.func37, Tryz.ntmps37
  go_wp2_with fail
  refine (HW.out _).mono ?_
  rintro e w1 ⟨x, rfl, ⟨d, rfl, hd⟩, hb⟩
  obtain ⟨dp, dl, dc, rfl⟩ := hd.slice
  have L1 : Hid (Lay w [(#[.bool false, .slice none 0 0, .slice none 0 0], 45)] w1) := Lib.hid (L0.out.1.step hb)
  have Hd := Lib.hid hd
  clear hd hb L0
  obtain ⟨c0, c1, c2, f0, f1, f2⟩ := cells3 (L1.out.row 0 w.heap.size rfl rfl)
  go_wp2_with fail
  refine bodyPost_ret (res_rat rfl _ _ w.heap.size _ _ _ _ (by rfl) ((L1.out.set3 0 _ rfl rfl _ _ _).row 0 _ rfl rfl)) rfl ?_
  exact ⟨_, rfl, ⟨_, _, rfl, Hd.out.set3 (off3 (L1.out.row 0 _ rfl rfl)) _ _ _, DN.nil _ _⟩, (L1.out.set3 0 _ rfl rfl _ _ _).2⟩


set_option maxRecDepth 100000 in
set_option maxHeartbeats 400000 in
/-- The sign, of a number that bears a sign only where it is not 0. -/
theorem RSign_all (v : Value) (s : Bool) (n k K : Nat) (w : World) (h : WQ w v s n k K) (hs : n = 0 → s = false) :
    Calls Tryz.prog 26 #[v] w fun e w' => e = .returned (.int .i64 (if n = 0 then 0 else if s then -1 else 1)) ∧ Below w.heap.size w w' := by
  obtain ⟨d, e, rfl, hd, he⟩ := h
  obtain ⟨dp, dl, dc, rfl⟩ := hd.slice
  obtain ⟨ep, el, ec, rfl⟩ := he.slice
  have h0 := hd.empty
  clear hd he
  by_cases hn : n = 0
  · have hl := h0.2 hn
    obtain rfl := hs hn
    subst hl
    rw [if_pos hn]
    go_enter Tryz.func26, Tryz.ntmps26
    go_wp2
    go_ret
    exact ⟨rfl, by first | exact (Below.refl _ _).alloc (Nat.le_refl _) _ | exact ((Below.refl _ _).alloc (Nat.le_refl _) _).alloc (by simp) _ | exact (((Below.refl _ _).alloc (Nat.le_refl _) _).drew).alloc (by simp) _⟩
  · have hl : dl ≠ 0 := fun h => hn (h0.1 h)
    have t1 : 0 < dl := by omega
    rw [if_neg hn]
    clear hs h0 hn hl
    cases s
    · go_enter Tryz.func26, Tryz.ntmps26
      go_wp2
      go_ret
      exact ⟨rfl, by first | exact (Below.refl _ _).alloc (Nat.le_refl _) _ | exact ((Below.refl _ _).alloc (Nat.le_refl _) _).alloc (by simp) _ | exact (((Below.refl _ _).alloc (Nat.le_refl _) _).drew).alloc (by simp) _⟩
    · go_enter Tryz.func26, Tryz.ntmps26
      go_wp2
      go_ret
      exact ⟨rfl, by first | exact (Below.refl _ _).alloc (Nat.le_refl _) _ | exact ((Below.refl _ _).alloc (Nat.le_refl _) _).alloc (by simp) _ | exact (((Below.refl _ _).alloc (Nat.le_refl _) _).drew).alloc (by simp) _⟩

end Go.Proofs.YtamhlkjfpdkhoaaGreatDoor

/- WALKS: Quo, Make of any whole numbers. -/
set_option linter.unusedVariables false
namespace Go.Proofs.YtamhlkjfpdkhoaaGreatDoor
open Go.RowKit

theorem times_turned {K : Nat} (hK : K ≤ 1073741824) (hK1 : 1 ≤ K) (GC : GcdC K) (DC : DivC K) (u x : Value) (s s' : Bool) (n n' g a b : Nat) (w : World) (hu : WQ w u s n 0 K) (hx : WQ w x s' 1 (short n') K) (hn' : 0 < n') (hg : Nat.gcd n n' = g) (ha : n / g = a) (hb : n' / g = b) :
    Calls Tryz.prog 129 #[u, x] w fun e w' => ∃ z, e = .returned z ∧ WQ w' z ((s != s') && decide (0 < a)) a (short b) (K + K) ∧ Below w.heap.size w w' := by
  by_cases h1 : n' = 1
  · subst h1
    have e1 : short 1 = 0 := rfl
    rw [Nat.gcd_one_right] at hg
    subst hg
    rw [Nat.div_one] at ha hb
    subst ha hb
    rw [e1] at hx ⊢
    exact rtimes_whole hK u x s s' n 1 n w hu hx (Nat.mul_one _)
  · have e1 : short n' = n' := if_neg h1
    have e2 : den n' = n' := if_neg (by omega)
    have e3 : den 0 = 1 := rfl
    rw [e1] at hx
    have e4 : a * 1 = a := Nat.mul_one _
    have e5 : 1 * b = b := Nat.one_mul _
    exact rtimes_frac hK hK1 GC DC u x s s' n 0 1 n' a b 1 1 a b w hu hx (.inr (by omega)) (by rw [e2, hg]; exact ha) (by rw [e2, hg]; exact hb) (by rw [e3]; rfl) (by rw [e3]; rfl) e4 e5

set_option maxRecDepth 100000 in
set_option maxHeartbeats 1000000 in
theorem QuoFn_all (p q : Nat) (s s' : Bool) (du eu dv ev : Value) (n n' g a b : Nat) (w : World) (hp : w.heap[p]? = some (.cells #[.bool s, du, eu] 45 (0, 0))) (hq : w.heap[q]? = some (.cells #[.bool s', dv, ev] 45 (0, 0)))
    (hu : WQ w (.agg #[.bool s, du, eu]) s n 0 1) (hv : WQ w (.agg #[.bool s', dv, ev]) s' n' 0 1) (hg : Nat.gcd n n' = g) (hqa : n / g = a) (hqb : n' / g = b) (hn' : 0 < n') :
    Calls Tryz.prog 130 #[.pointer (some ⟨p, 0, none⟩), .pointer (some ⟨q, 0, none⟩)] w fun e w' => ∃ x, e = .returned x ∧ WQ w' x ((s != s') && decide (0 < a)) a (short b) 2 ∧ Below w.heap.size w w' := by
  have hd0 : den 0 = 1 := rfl
  have TU := fun W (hb : Below w.heap.size w W) => turned_all (.agg #[.bool s', dv, ev]) s' n' 0 1 W (hv.below hb) (Nat.le_refl _)
  rw [hd0] at TU
  have TI := fun W x (hb : Below w.heap.size w W) (hx : WQ W x s' 1 (short n') 1) => times_turned (by decide) (Nat.le_refl _) gcd_one div_one (.agg #[.bool s, du, eu]) x s s' n n' g a b W (hu.below hb) hx hn' hg hqa hqb
  obtain ⟨s0, hs0⟩ : ∃ s0, ((s != s') && decide (0 < a)) = s0 := ⟨_, rfl⟩
  rw [hs0]
  simp only [hs0] at TI
  have SM := fun W x (hx : WQ W x s0 a (short b) 2) => smallRat_all x s0 a (short b) 2 W hx (by omega)
  obtain ⟨c0, c1, c2, _, _, _⟩ := cells3 hp
  obtain ⟨d0, d1, d2, _, _, _⟩ := cells3 hq
  obtain ⟨xd, xe, e1, hd1, he1⟩ := hu
  obtain ⟨yd, ye, e2, hd2, he2⟩ := hv
  obtain ⟨rfl, rfl⟩ : du = xd ∧ eu = xe := by simpa using e1
  obtain ⟨rfl, rfl⟩ : dv = yd ∧ ev = ye := by simpa using e2
  obtain ⟨up, ul, uc, rfl⟩ := hd1.slice
  obtain ⟨up', ul', uc', rfl⟩ := he1.slice
  obtain ⟨vp, vl, vc, rfl⟩ := hd2.slice
  obtain ⟨vp', vl', vc', rfl⟩ := he2.slice
  replace TU := Lib.hid TU
  replace TI := Lib.hid TI
  replace SM := Lib.hid SM
  have L0 := Lib.hid ((LayX.nil w).push #[.bool false, .slice none 0 0, .slice none 0 0] 45)
  clear hg hqa hqb hd0 e1 e2 hd1 hd2 he1 he2 hn' hs0
  go_enter Tryz.func130, Tryz.ntmps130
  go_wp2_with fail
  have HP := Lib.hid hp
  have HQ := Lib.hid hq
  have L1 : Hid (Lay w [(#[.bool false, .slice none 0 0, .slice none 0 0], 45)] (w.alloc (.cells #[.bool false, .slice none 0 0, .slice none 0 0] 45)).drew) := Lib.hid L0.out.1.drew
  clear L0 hp hq
  generalize (w.alloc (Obj.cells #[Value.bool false, Value.slice none 0 0, .slice none 0 0] 45)) = W0 at *
  go_region_held3 (fun W => (W.cell? ⟨p, 0, none⟩ = some (.bool s) ∧ W.cell? ⟨p, 1, none⟩ = some (.slice up ul uc) ∧ W.cell? ⟨p, 2, none⟩ = some (.slice up' ul' uc') ∧ W.cell? ⟨q, 0, none⟩ = some (.bool s') ∧ W.cell? ⟨q, 1, none⟩ = some (.slice vp vl vc) ∧ W.cell? ⟨q, 2, none⟩ = some (.slice vp' vl' vc')) ∧ Hid (Below w.heap.size w W)) (first | exact sOfPQ HP.out HQ.out (T3.out.set3 0 w.heap.size rfl rfl _ _ _).2 | exact sOfPQ HP.out HQ.out T3.out.2 | exact sOfPQ HP.out HQ.out T2.out.2 | exact sOfPQ HP.out HQ.out T1.out.2 | exact sOfPQ HP.out HQ.out L1.out.2) (first
    | (go_at_call 131; refine (TU.out _ ?_).mono ?_; exact L1.out.2; rintro e w1 ⟨y, rfl, hy, hb1⟩; have T1 := Lib.hid (L1.out.step hb1); have Hy := Lib.hid hy; clear hy hb1)
    | (go_at_call 129; refine (TI.out _ _ ?_ Hy.out).mono ?_; exact T1.out.2; rintro e w2 ⟨z, rfl, hy, hb2⟩; have T2 := Lib.hid (T1.out.step hb2); have Hz := Lib.hid hy; clear hy hb2)
    | (go_at_call 102; refine (SM.out _ _ Hz.out).mono ?_; rintro e w3 ⟨rfl, hb3⟩; have T3 := Lib.hid (T2.out.step hb3); replace Hz := Lib.hid (Hz.out.below hb3); obtain ⟨x1, x2, hx, hx1, hx2⟩ := Hz.out; obtain ⟨xp, xl, xc, rfl⟩ := hx1.slice; obtain ⟨zp, zl, zc, rfl⟩ := hx2.slice; subst hx; have Hx1 := Lib.hid hx1; have Hx2 := Lib.hid hx2; obtain ⟨b0, b1, b2, f0, f1, f2⟩ := cells3 (T3.out.row 0 w.heap.size rfl rfl); clear hb3 hx1 hx2))
  go_wp2
  refine bodyPost_ret (res_rat rfl _ _ w.heap.size _ _ _ _ (by rfl) ((T3.out.set3 0 _ rfl rfl _ _ _).row 0 _ rfl rfl)) rfl ?_
  exact ⟨_, rfl, ⟨_, _, rfl, Hx1.out.set3 (off3 (T3.out.row 0 _ rfl rfl)) _ _ _, Hx2.out.set3 (off3 (T3.out.row 0 _ rfl rfl)) _ _ _⟩, (T3.out.set3 0 _ rfl rfl _ _ _).2⟩

set_option maxRecDepth 100000 in
set_option maxHeartbeats 1000000 in
theorem Quo_whole (u v : Value) (s s' : Bool) (n n' g a b : Nat) (w : World) (hu : WQ w u s n 0 1) (hv : WQ w v s' n' 0 1) (hg : Nat.gcd n n' = g) (hqa : n / g = a) (hqb : n' / g = b) (hn' : 0 < n') :
    Calls Tryz.prog 60 #[u, v] w fun e w' => ∃ x, e = .returned (.tuple #[x, .int .i64 0]) ∧ WQ w' x ((s != s') && decide (0 < a)) a (short b) 2 ∧ Below w.heap.size w w' := by
  have SG := fun W (hb : Below w.heap.size w W) => RSign_all v s' n' 0 1 W (hv.below hb) (fun h => absurd h (by omega))
  obtain ⟨sg, hsg, hsg0⟩ : ∃ sg : Int, (if n' = 0 then 0 else if s' then -1 else 1) = sg ∧ sg ≠ 0 := ⟨_, rfl, by rw [if_neg (by omega)]; split <;> omega⟩
  rw [hsg] at SG
  have t1 : (sg == 0) = false := by rw [beq_eq_false_iff_ne]; exact hsg0
  have hmf : ∀ (fn : Fn) (first cap : Array Value) (w : World), (Instr.makeFunc fn first cap).run Tryz.prog w = .ok (.func fn first cap) w := fun _ _ _ _ => rfl
  have QF := fun p q du eu dv ev W hp hq hu hv => QuoFn_all p q s s' du eu dv ev n n' g a b W hp hq hu hv hg hqa hqb hn'
  obtain ⟨s0, hs0⟩ : ∃ s0, ((s != s') && decide (0 < a)) = s0 := ⟨_, rfl⟩
  rw [hs0]
  simp only [hs0] at QF
  have AT := fun cap W => attempt_all 130 cap s0 a (short b) 2 W (fun w => by simp [go_sem])
  obtain ⟨xd, xe, rfl, hd1, he1⟩ := hu
  obtain ⟨yd, ye, rfl, hd2, he2⟩ := hv
  obtain ⟨up, ul, uc, rfl⟩ := hd1.slice
  obtain ⟨up', ul', uc', rfl⟩ := he1.slice
  obtain ⟨vp, vl, vc, rfl⟩ := hd2.slice
  obtain ⟨vp', vl', vc', rfl⟩ := he2.slice
  replace SG := Lib.hid SG
  replace QF := Lib.hid QF
  replace AT := Lib.hid AT
  have L0 := Lib.hid ((((LayX.nil w).push #[.bool s, .slice up ul uc, .slice up' ul' uc'] 45).push #[.bool s', .slice vp vl vc, .slice vp' vl' vc'] 45).push #[.bool false, .slice none 0 0, .slice none 0 0] 45)
  have HU := Lib.hid (fun W (hb : Below w.heap.size w W) => (⟨_, _, rfl, hd1.below hb, he1.below hb⟩ : WQ W (.agg #[.bool s, .slice up ul uc, .slice up' ul' uc']) s n 0 1))
  have HV := Lib.hid (fun W (hb : Below w.heap.size w W) => (⟨_, _, rfl, hd2.below hb, he2.below hb⟩ : WQ W (.agg #[.bool s', .slice vp vl vc, .slice vp' vl' vc']) s' n' 0 1))
  clear hg hqa hqb hn' hd1 he1 hd2 he2 hs0 hsg hsg0
  go_enter Tryz.func60, Tryz.ntmps60
  go_wp2_with fail
  refine (SG.out _ L0.out.1.2).mono ?_
  rintro e w1 ⟨rfl, hb⟩
  have L1 : Hid (Lay w [(#[.bool s, .slice up ul uc, .slice up' ul' uc'], 45), (#[.bool s', .slice vp vl vc, .slice vp' vl' vc'], 45), (#[.bool false, .slice none 0 0, .slice none 0 0], 45)] w1) := Lib.hid (L0.out.1.step hb)
  clear hb L0
  go_wp2_with fail
  refine (AT.out _ _ ?_).mono ?_
  · intro W hW
    have hL := L1.out.step hW
    exact QF.out _ _ _ _ _ _ W (hL.row 0 _ rfl rfl) (hL.row 1 _ rfl rfl) (HU.out _ hL.2) (HV.out _ hL.2)
  rintro e w2 ⟨x, rfl, ⟨x1, x2, rfl, hx1, hx2⟩, hb⟩
  have L2 := Lib.hid (L1.out.step hb)
  obtain ⟨xp, xl, xc, rfl⟩ := hx1.slice
  obtain ⟨zp, zl, zc, rfl⟩ := hx2.slice
  have Hx1 := Lib.hid hx1
  have Hx2 := Lib.hid hx2
  obtain ⟨b0, b1, b2, f0, f1, f2⟩ := cells3 (L2.out.row 2 (w.heap.size + 1 + 1) rfl rfl)
  clear hb hx1 hx2
  go_wp2_with fail
  refine bodyPost_ret (res_rat_err rfl _ _ (w.heap.size + 1 + 1) _ _ _ _ _ (by rfl) (by rfl) ((L2.out.set3 2 _ rfl rfl _ _ _).row 2 _ rfl rfl)) rfl ?_
  exact ⟨_, rfl, ⟨_, _, rfl, Hx1.out.set3 (off3 (L2.out.row 2 _ rfl rfl)) _ _ _, Hx2.out.set3 (off3 (L2.out.row 2 _ rfl rfl)) _ _ _⟩, (L2.out.set3 2 _ rfl rfl _ _ _).2⟩

set_option maxRecDepth 100000 in
set_option maxHeartbeats 1000000 in
theorem Make_all (x y : Int) (s s' : Bool) (n n' g a b : Nat) (w : World) (hx1 : -9223372036854775808 ≤ x) (hx2 : x < 9223372036854775808) (hy1 : -9223372036854775808 ≤ y) (hy2 : y < 9223372036854775808) (es : decide (x < 0) = s) (es' : decide (y < 0) = s') (en : x.natAbs = n) (en' : y.natAbs = n') (hg : Nat.gcd n n' = g) (hqa : n / g = a) (hqb : n' / g = b) (hn' : 0 < n') :
    Calls Tryz.prog 39 #[.int .i64 x, .int .i64 y] w fun e w' => ∃ x, e = .returned (.tuple #[x, .int .i64 0]) ∧ WQ w' x ((s != s') && decide (0 < a)) a (short b) 2 ∧ Below w.heap.size w w' := by
  have OF := fun W => Of_all x s n 1 W (fun W => by have h := Whole_all x W hx1 hx2; unfold WZ at h; rw [es, en] at h; exact h)
  have OF' := fun W => Of_all y s' n' 1 W (fun W => by have h := Whole_all y W hy1 hy2; unfold WZ at h; rw [es', en'] at h; exact h)
  have QU := fun u v W hu hv => Quo_whole u v s s' n n' g a b W hu hv hg hqa hqb hn'
  replace OF := Lib.hid OF
  replace OF' := Lib.hid OF'
  have L0 := Lib.hid ((LayX.nil w).push #[.bool false, .slice none 0 0, .slice none 0 0] 45)
  obtain ⟨s0, hs0⟩ : ∃ s0, ((s != s') && decide (0 < a)) = s0 := ⟨_, rfl⟩
  rw [hs0]
  simp only [hs0] at QU
  replace QU := Lib.hid QU
  clear hg hqa hqb hn' es es' en en' hs0 hx1 hx2 hy1 hy2
  go_enter Tryz.func39, Tryz.ntmps39
  go_wp2_with fail
  refine (OF.out _).mono ?_
  rintro e w1 ⟨vx, rfl, hx, hb⟩
  have L1 : Hid (Lay w [(#[.bool false, .slice none 0 0, .slice none 0 0], 45)] w1) := Lib.hid (L0.out.1.step hb)
  have Hx := Lib.hid hx
  clear hx hb L0
  go_wp2_with fail
  refine (OF'.out _).mono ?_
  rintro e w2 ⟨vy, rfl, hy, hb⟩
  have L2 := Lib.hid (L1.out.step hb)
  have Hy := Lib.hid hy
  replace Hx := Lib.hid (Hx.out.below hb)
  clear hy hb L1
  go_wp2_with fail
  refine (QU.out _ _ _ Hx.out Hy.out).mono ?_
  rintro e w3 ⟨z, rfl, ⟨x1, x2, rfl, hx1, hx2⟩, hb⟩
  have L3 := Lib.hid (L2.out.step hb)
  obtain ⟨xp, xl, xc, rfl⟩ := hx1.slice
  obtain ⟨zp, zl, zc, rfl⟩ := hx2.slice
  have Hx1 := Lib.hid hx1
  have Hx2 := Lib.hid hx2
  obtain ⟨b0, b1, b2, f0, f1, f2⟩ := cells3 (L3.out.row 0 w.heap.size rfl rfl)
  clear hb hx1 hx2 L2
  go_wp2_with fail
  refine bodyPost_ret (res_rat_err rfl _ _ w.heap.size _ _ _ _ _ (by rfl) (by rfl) ((L3.out.set3 0 _ rfl rfl _ _ _).row 0 _ rfl rfl)) rfl ?_
  exact ⟨_, rfl, ⟨_, _, rfl, Hx1.out.set3 (off3 (L3.out.row 0 _ rfl rfl)) _ _ _, Hx2.out.set3 (off3 (L3.out.row 0 _ rfl rfl)) _ _ _⟩, (L3.out.set3 0 _ rfl rfl _ _ _).2⟩

end Go.Proofs.YtamhlkjfpdkhoaaGreatDoor
