/- WALKS: the greatest common divisor of integers of one word, and their order. -/
import Derived.Test.YtamhlkjfpdkhoaaGreatDoorRatB
import Derived.Outline
namespace Go.Proofs.YtamhlkjfpdkhoaaGreatDoor
open Go.RowKit

set_option maxRecDepth 100000 in
set_option maxHeartbeats 400000 in
theorem IGcd_any (u v : Value) (s s' : Bool) (a b : Nat) (w : World) (hu : WI w u s a) (hv : WI w v s' b) :
    Calls Tryz.prog 50 #[u, v] w fun e w' => ∃ x, e = .returned x ∧ WI w' x false (Nat.gcd a b) ∧ Below w.heap.size w w' := by
  obtain ⟨d, rfl, hd⟩ := hu
  obtain ⟨e, rfl, he⟩ := hv
  have GC := Lib.hid (fun W (hb : Below w.heap.size w W) => gcd_any d e a b W (hd.below hb) (he.below hb))
  have SG : Hid (∀ W d, Dig W d (Nat.gcd a b) → Calls Tryz.prog 90 #[.bool false, d] W fun e w' => e = .returned (.agg #[.bool false, d]) ∧ Below W.heap.size W w') := Lib.hid (fun W d hd => signed_any false d _ W hd)
  obtain ⟨p, l, c, rfl⟩ := hd.slice
  obtain ⟨p', l', c', rfl⟩ := he.slice
  have L0 := Lib.hid ((((LayX.nil w).push #[.bool s, .slice p l c] 31).push #[.bool s', .slice p' l' c'] 31).push #[.bool false, .slice none 0 0] 31)
  clear hd he
  go_enter Tryz.func50, Tryz.ntmps50
  go_wp2_with fail
  refine (GC.out _ L0.out.1.2).mono ?_
  rintro e w1 ⟨x, rfl, hx, hb⟩
  have L1 : Hid (Lay w [(#[.bool s, .slice p l c], 31), (#[.bool s', .slice p' l' c'], 31), (#[.bool false, .slice none 0 0], 31)] w1) := Lib.hid (L0.out.1.step hb)
  have Hx := Lib.hid hx
  clear hx hb L0
  go_wp2_with fail
  refine (SG.out _ _ Hx.out).mono ?_
  rintro e w2 ⟨rfl, hb⟩
  have L2 := Lib.hid (L1.out.step hb)
  replace Hx := Lib.hid (Hx.out.below hb)
  clear hb L1
  obtain ⟨xp, xl, xc, rfl⟩ := Hx.out.slice
  obtain ⟨a0, a1, a2, a3⟩ := cells2 (L2.out.row 2 (w.heap.size + 1 + 1) rfl rfl)
  go_wp2_with fail
  have LA := L2.out.set2 2 (w.heap.size + 1 + 1) rfl rfl (.bool false) (.slice xp xl xc)
  have o1 := off2 (L2.out.row 2 (w.heap.size + 1 + 1) rfl rfl)
  refine bodyPost_ret (res_int rfl _ _ (w.heap.size + 1 + 1) _ _ _ (by rfl) (LA.row 2 _ rfl rfl)) rfl ?_
  exact ⟨_, rfl, ⟨_, rfl, Hx.out.set2 o1 _ _⟩, LA.2⟩

set_option maxRecDepth 100000 in
set_option maxHeartbeats 400000 in
theorem ICmp_pos (u v : Value) (a b : Nat) (w : World) (hu : WI w u false a) (hv : WI w v false b) :
    Calls Tryz.prog 48 #[u, v] w fun e w' => e = .returned (.int .i64 (cmpN a b)) ∧ Below w.heap.size w w' := by
  obtain ⟨d, rfl, hd⟩ := hu
  obtain ⟨e, rfl, he⟩ := hv
  have CM := Lib.hid (fun W (hb : Below w.heap.size w W) => compare_any d e a b W (hd.below hb) (he.below hb))
  obtain ⟨p, l, c, rfl⟩ := hd.slice
  obtain ⟨p', l', c', rfl⟩ := he.slice
  have L0 := Lib.hid (((LayX.nil w).push #[.bool false, .slice p l c] 31).push #[.bool false, .slice p' l' c'] 31)
  clear hd he
  go_enter Tryz.func48, Tryz.ntmps48
  go_wp2_with fail
  refine (CM.out _ L0.out.1.2).mono ?_
  rintro e w1 ⟨rfl, hd⟩
  have Hd := Lib.hid (L0.out.1.2.trans (hd.below _))
  clear hd
  go_wp2_with fail
  go_ret
  exact ⟨rfl, Hd.out⟩
end Go.Proofs.YtamhlkjfpdkhoaaGreatDoor
