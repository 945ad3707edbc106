/- WALKS: 1/3 and 1/6 make 1/2. -/
import Derived.Test.YtamhlkjfpdkhoaaGreatDoorMake
import Derived.Test.YtamhlkjfpdkhoaaGreatDoorRatC
namespace Go.Proofs.YtamhlkjfpdkhoaaGreatDoor
open Go.RowKit

set_option maxRecDepth 100000 in
set_option maxHeartbeats 1000000 in
theorem AddFn_pos (p q : Nat) (s s' s'' : Bool) (n k n' k' a b : Nat) (du eu dv ev : Value) (w : World) (hp : w.heap[p]? = some (.cells #[.bool s, du, eu] 45 (0, 0))) (hq : w.heap[q]? = some (.cells #[.bool s', dv, ev] 45 (0, 0)))
    (hd1 : Dig w du n) (he1 : Dig w eu k) (hd2 : Dig w dv n') (he2 : Dig w ev k')
    (PL : ∀ W, Below w.heap.size w W → Calls Tryz.prog 126 #[.agg #[.bool s, du, eu], .agg #[.bool s', dv, ev]] W fun e w' => ∃ x, e = .returned x ∧ WR w' x s'' a b ∧ Below W.heap.size W w') :
    Calls Tryz.prog 125 #[.pointer (some ⟨p, 0, none⟩), .pointer (some ⟨q, 0, none⟩)] w fun e w' => ∃ x, e = .returned x ∧ WR w' x s'' a b ∧ Below w.heap.size w w' := by
  have SM := fun W x (hx : WR W x s'' a b) => smallRat_any x s'' a b W hx
  obtain ⟨c0, c1, c2, _, _, _⟩ := cells3 hp
  obtain ⟨d0, d1, d2, _, _, _⟩ := cells3 hq
  obtain ⟨up, ul, uc, rfl⟩ := hd1.slice
  obtain ⟨up', ul', uc', rfl⟩ := he1.slice
  obtain ⟨vp, vl, vc, rfl⟩ := hd2.slice
  obtain ⟨vp', vl', vc', rfl⟩ := he2.slice
  replace PL := Lib.hid PL
  replace SM := Lib.hid SM
  have L0 := Lib.hid ((LayX.nil w).push #[.bool false, .slice none 0 0, .slice none 0 0] 45)
  obtain ⟨k0, k1, k2, _, _, _⟩ := cells3 (rowAlloc (o := .cells #[.bool false, .slice none 0 0, .slice none 0 0] 45) hp)
  obtain ⟨l0, l1, l2, _, _, _⟩ := cells3 (rowAlloc (o := .cells #[.bool false, .slice none 0 0, .slice none 0 0] 45) hq)
  have HP := Lib.hid hp
  have HQ := Lib.hid hq
  clear hd1 hd2 he1 he2 hp hq
  go_enter Tryz.func125, Tryz.ntmps125
  go_wp2_with fail
  have L1b : Hid (Lay w [(#[.bool false, .slice none 0 0, .slice none 0 0], 45)] (w.alloc (.cells #[.bool false, .slice none 0 0, .slice none 0 0] 45))) := Lib.hid L0.out.1
  clear L0
  generalize (w.alloc (Obj.cells #[Value.bool false, Value.slice none 0 0, .slice none 0 0] 45)) = W0 at *
  refine (PL.out _ L1b.out.2).mono ?_
  rintro e w2 ⟨z, rfl, hy, hb2⟩
  have T2 := Lib.hid (L1b.out.step hb2)
  have Hz := Lib.hid hy
  clear hy hb2
  go_wp2_with fail
  refine (SM.out _ _ Hz.out).mono ?_
  rintro e w3 ⟨rfl, hb3⟩
  have T3 := Lib.hid (T2.out.step hb3)
  replace Hz := Lib.hid (Hz.out.below hb3)
  obtain ⟨x1, x2, hx, hx1, hx2⟩ := Hz.out
  obtain ⟨xp, xl, xc, rfl⟩ := hx1.slice
  obtain ⟨zp, zl, zc, rfl⟩ := hx2.slice
  subst hx
  have Hx1 := Lib.hid hx1
  have Hx2 := Lib.hid hx2
  obtain ⟨b0, b1, b2, f0, f1, f2⟩ := cells3 (T3.out.row 0 w.heap.size rfl rfl)
  clear hb3 hx1 hx2
  go_wp2_with fail
  refine bodyPost_ret (res_rat rfl _ _ w.heap.size _ _ _ _ (by rfl) ((T3.out.set3 0 _ rfl rfl _ _ _).row 0 _ rfl rfl)) rfl ?_
  exact ⟨_, rfl, ⟨_, _, rfl, Hx1.out.set3 (off3 (T3.out.row 0 _ rfl rfl)) _ _ _, Hx2.out.set3 (off3 (T3.out.row 0 _ rfl rfl)) _ _ _⟩, (T3.out.set3 0 _ rfl rfl _ _ _).2⟩

set_option maxRecDepth 100000 in
set_option maxHeartbeats 1000000 in
theorem Add_of (u v : Value) (s s' s'' : Bool) (n k n' k' a b : Nat) (w : World) (hu : WR w u s n k) (hv : WR w v s' n' k')
    (PL : ∀ W u v, WR W u s n k → WR W v s' n' k' → Calls Tryz.prog 126 #[u, v] W fun e w' => ∃ x, e = .returned x ∧ WR w' x s'' a b ∧ Below W.heap.size W w') :
    Calls Tryz.prog 57 #[u, v] w fun e w' => ∃ x, e = .returned (.tuple #[x, .int .i64 0]) ∧ WR w' x s'' a b ∧ Below w.heap.size w w' := by
  have hmf : ∀ (fn : Fn) (first cap : Array Value) (w : World), (Instr.makeFunc fn first cap).run Tryz.prog w = .ok (.func fn first cap) w := fun _ _ _ _ => rfl
  have AT := fun cap W => attempt_any 125 cap s'' a b W (fun w => by simp [go_sem])
  have AF := fun p q du eu dv ev W hp hq h1 h2 h3 h4 PL => AddFn_pos p q s s' s'' n k n' k' a b du eu dv ev W hp hq h1 h2 h3 h4 PL
  obtain ⟨xd, xe, rfl, hd1, he1⟩ := hu
  obtain ⟨yd, ye, rfl, hd2, he2⟩ := hv
  obtain ⟨up, ul, uc, rfl⟩ := hd1.slice
  obtain ⟨up', ul', uc', rfl⟩ := he1.slice
  obtain ⟨vp, vl, vc, rfl⟩ := hd2.slice
  obtain ⟨vp', vl', vc', rfl⟩ := he2.slice
  replace AF := Lib.hid AF
  replace AT := Lib.hid AT
  have L0 := Lib.hid ((((LayX.nil w).push #[.bool s, .slice up ul uc, .slice up' ul' uc'] 45).push #[.bool s', .slice vp vl vc, .slice vp' vl' vc'] 45).push #[.bool false, .slice none 0 0, .slice none 0 0] 45)
  have H1 := Lib.hid hd1
  have H2 := Lib.hid he1
  have H3 := Lib.hid hd2
  have H4 := Lib.hid he2
  replace PL := Lib.hid PL
  clear hd1 he1 hd2 he2
  go_enter Tryz.func57, Tryz.ntmps57
  go_wp2_with fail
  refine (AT.out _ _ ?_).mono ?_
  · intro W hW
    have hL := L0.out.1.step hW
    refine AF.out _ _ _ _ _ _ W (hL.row 0 _ rfl rfl) (hL.row 1 _ rfl rfl) (H1.out.below hL.2) (H2.out.below hL.2) (H3.out.below hL.2) (H4.out.below hL.2) ?_
    intro W' hW'
    have hL' := hL.2.trans (hW'.mono hL.2.size)
    exact PL.out _ _ _ ⟨_, _, rfl, H1.out.below hL', H2.out.below hL'⟩ ⟨_, _, rfl, H3.out.below hL', H4.out.below hL'⟩
  rintro e w2 ⟨x, rfl, ⟨x1, x2, rfl, hx1, hx2⟩, hb⟩
  have L2 : Hid (Lay w [(#[.bool s, .slice up ul uc, .slice up' ul' uc'], 45), (#[.bool s', .slice vp vl vc, .slice vp' vl' vc'], 45), (#[.bool false, .slice none 0 0, .slice none 0 0], 45)] w2) := Lib.hid (L0.out.1.step hb)
  obtain ⟨xp, xl, xc, rfl⟩ := hx1.slice
  obtain ⟨zp, zl, zc, rfl⟩ := hx2.slice
  have Hx1 := Lib.hid hx1
  have Hx2 := Lib.hid hx2
  obtain ⟨b0, b1, b2, f0, f1, f2⟩ := cells3 (L2.out.row 2 (w.heap.size + 1 + 1) rfl rfl)
  clear hb hx1 hx2
  go_wp2_with fail
  refine bodyPost_ret (res_rat_err rfl _ _ (w.heap.size + 1 + 1) _ _ _ _ _ (by rfl) (by rfl) ((L2.out.set3 2 _ rfl rfl _ _ _).row 2 _ rfl rfl)) rfl ?_
  exact ⟨_, rfl, ⟨_, _, rfl, Hx1.out.set3 (off3 (L2.out.row 2 _ rfl rfl)) _ _ _, Hx2.out.set3 (off3 (L2.out.row 2 _ rfl rfl)) _ _ _⟩, (L2.out.set3 2 _ rfl rfl _ _ _).2⟩

/-- A third and a sixth make a half. -/
theorem Add_half (u v : Value) (w : World) (hu : WR w u false 1 3) (hv : WR w v false 1 6) :
    Calls Tryz.prog 57 #[u, v] w fun e w' => ∃ x, e = .returned (.tuple #[x, .int .i64 0]) ∧ WR w' x false 1 2 ∧ Below w.heap.size w w' :=
  Add_of u v false false false 1 3 1 6 1 2 w hu hv fun W u v hu hv => rplus_pos u v 1 3 1 6 3 1 2 2 1 3 3 1 2 2 W hu hv (by omega) (by omega) rfl rfl rfl rfl rfl rfl rfl rfl rfl rfl (by decide) (by decide)
end Go.Proofs.YtamhlkjfpdkhoaaGreatDoor
