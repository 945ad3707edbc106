/- WALKS: what awake asks besides: the symbol of 3 and 7, -7 by 2, the power 2 ^ 10, the divisors of 12. -/
import Derived.Test.YtamhlkjfpdkhoaaGreatDoorDivs
import Derived.Test.YtamhlkjfpdkhoaaGreatDoorPower
import Derived.Test.YtamhlkjfpdkhoaaGreatDoorRatB
import Derived.Test.YtamhlkjfpdkhoaaGreatDoorDig5
import Derived.Outline
namespace Go.Proofs.YtamhlkjfpdkhoaaGreatDoor
open Go.RowKit

set_option maxRecDepth 100000 in
set_option maxHeartbeats 1000000 in
theorem Symbol_three (w : World) :
    Calls Tryz.prog 75 #[.int .i64 3, .int .i64 7] w fun e w' => e = .returned (.tuple #[.int .i64 (-1), .int .i64 0]) ∧ Below w.heap.size w w' := by
  have H : isMod 7 = true := isMod_yes (by omega) (by omega)
  go_enter Tryz.func75, Tryz.ntmps75
  go_wp2_with (first | (go_at_call 133; refine (isModulus_any _ _).mono ?_; rintro e w' ⟨rfl, rfl⟩) | (go_at_call 134; refine (modulo_any _ _ _ (by omega) (by omega)).mono ?_; rintro e w' ⟨rfl, rfl⟩))
  refine wp_loop_rounds 3 ?_
  rw [rounds_succ]
  go_wp2
  refine wp_loop_rounds 1 ?_
  rw [rounds_succ]
  go_wp2
  rw [rounds_succ]
  go_wp2
  refine wp_loop_rounds 1 ?_
  rw [rounds_succ]
  go_wp2
  rw [rounds_succ]
  go_wp2
  go_ret2
  exact ⟨rfl, by first | exact Below.refl _ _ | exact (Below.refl _ _).drewN _⟩

theorem res_int_int_err {fn : Func} {p q r : Tmp} (h : fn.results = #[.cell p 31, .cell q 31, .tmp r]) (tmps : Array Value) (w : World) (g k : Nat) (x y x' y' u : Value) (t t' : TypeId)
    (hp : tmps.getD p undef = .pointer (some ⟨g, 0, none⟩)) (hq : tmps.getD q undef = .pointer (some ⟨k, 0, none⟩)) (hr : tmps.getD r undef = u) (hg : w.heap[g]? = some (.cells #[x, y] t (0, 0))) (hk : w.heap[k]? = some (.cells #[x', y'] t' (0, 0))) :
    (results fn tmps).run Tryz.prog w = .ok (.tuple #[.agg #[x, y], .agg #[x', y'], u]) w := by
  have hp' : tmps[p]?.getD undef = .pointer (some ⟨g, 0, none⟩) := by simpa using hp
  have hq' : tmps[q]?.getD undef = .pointer (some ⟨k, 0, none⟩) := by simpa using hq
  have hr' : tmps[r]?.getD undef = u := by simpa using hr
  have r1 := run_loadVar_row (P := Tryz.prog) w g t 31 #[x, y] (0, 0) _ hg Tryz.underlying31 rfl (by kernel_rfl)
  have r2 := run_loadVar_row (P := Tryz.prog) w k t' 31 #[x', y'] (0, 0) _ hk Tryz.underlying31 rfl (by kernel_rfl)
  simp [results, h, hp', hq', hr', asAddr, r1, r2, Sem.run_bind, Result.andThen]

set_option maxRecDepth 100000 in
set_option maxHeartbeats 1000000 in
theorem Div_seven (u v : Value) (w : World) (hu : WI w u true 7) (hv : WI w v false 2) :
    Calls Tryz.prog 54 #[u, v] w fun e w' => ∃ x y, e = .returned (.tuple #[x, y, .int .i64 0]) ∧ WI w' x true 4 ∧ WI w' y false 1 ∧ Below w.heap.size w w' := by
  obtain ⟨d, rfl, hd⟩ := hu
  obtain ⟨e, rfl, he⟩ := hv
  have DV := fun W (hb : Below w.heap.size w W) => divide_any d e 7 2 W (hd.below hb) (he.below hb) (by omega)
  have e73 : 7 / 2 = 3 := rfl
  have e71 : 7 % 2 = 1 := rfl
  rw [e73, e71] at DV
  replace DV := Lib.hid DV
  have WO := Lib.hid (fun W => word_any 1 W (by omega))
  have PL := Lib.hid (fun W a b (ha : Dig W a 3) (hb : Dig W b 1) => plus_pos a b 3 1 4 W ha hb (by omega) (by omega) rfl (by omega))
  have MI := Lib.hid (fun W b (hl : Below w.heap.size w W) (hb : Dig W b 1) => minus_pos e b 2 1 1 W (he.below hl) hb (by omega) (by omega) rfl)
  have S1 : Hid (∀ W d, Dig W d 4 → Calls Tryz.prog 90 #[.bool true, d] W fun e w' => e = .returned (.agg #[.bool true, d]) ∧ Below W.heap.size W w') := Lib.hid (fun W d hd => signed_any true d 4 W hd)
  have S2 : Hid (∀ W d, Dig W d 1 → Calls Tryz.prog 90 #[.bool false, d] W fun e w' => e = .returned (.agg #[.bool false, d]) ∧ Below W.heap.size W w') := Lib.hid (fun W d hd => signed_any false d 1 W hd)
  obtain ⟨p, l, c, rfl⟩ := hd.slice
  obtain ⟨b, o, hx⟩ : ∃ b o, e = .slice (some ⟨b, o, none⟩) 1 1 := by
    obtain ⟨_, ⟨h, _⟩ | ⟨_, b, o, h, _⟩⟩ := he
    · omega
    · exact ⟨b, o, h⟩
  subst hx
  have L0 := Lib.hid ((((((LayX.nil w).push #[.bool true, .slice p l c] 31).push #[.bool false, .slice (some ⟨b, o, none⟩) 1 1] 31).push #[.bool false, .slice none 0 0] 31).push #[.bool false, .slice none 0 0] 31).push #[.bool false, .slice (some ⟨b, o, none⟩) 1 1] 31)
  clear hd he e73 e71
  go_enter Tryz.func54, Tryz.ntmps54
  go_wp2_with (go_at_call 14; go_in)
  refine (DV.out _ L0.out.1.2).mono ?_
  rintro e w1 ⟨x, y, rfl, hx, hy, hb⟩
  have L1 : Hid (Lay w [(#[.bool true, .slice p l c], 31), (#[.bool false, .slice (some ⟨b, o, none⟩) 1 1], 31), (#[.bool false, .slice none 0 0], 31), (#[.bool false, .slice none 0 0], 31), (#[.bool false, .slice (some ⟨b, o, none⟩) 1 1], 31)] w1) := Lib.hid (L0.out.1.step hb)
  obtain ⟨yb, yo, rfl⟩ : ∃ b o, y = .slice (some ⟨b, o, none⟩) 1 1 := by
    obtain ⟨_, ⟨h, _⟩ | ⟨_, b, o, h, _⟩⟩ := hy
    · omega
    · exact ⟨b, o, h⟩
  obtain ⟨xp, xl, xc, rfl⟩ := hx.slice
  have Hx := Lib.hid hx
  have Hy := Lib.hid hy
  obtain ⟨a0, a1, _, _⟩ := cells2 (L1.out.row 0 w.heap.size rfl rfl)
  obtain ⟨b0, b1, _, _⟩ := cells2 (L1.out.row 1 (w.heap.size + 1) rfl rfl)
  clear hx hy hb L0 DV
  go_wp2_with fail
  refine (WO.out _).mono ?_
  rintro e w2 ⟨z, rfl, hz, hb⟩
  have L2 := Lib.hid (L1.out.step hb)
  have Hz := Lib.hid hz
  replace Hx := Lib.hid (Hx.out.below hb)
  replace Hy := Lib.hid (Hy.out.below hb)
  clear hz hb L1 a0 a1 b0 b1
  go_wp2_with fail
  refine (PL.out _ _ _ Hx.out Hz.out).mono ?_
  rintro e w3 ⟨q, rfl, hq, hb⟩
  have L3 := Lib.hid (L2.out.step hb)
  have Hq := Lib.hid hq
  replace Hy := Lib.hid (Hy.out.below hb)
  obtain ⟨a0, a1, _, _⟩ := cells2 (L3.out.row 0 w.heap.size rfl rfl)
  obtain ⟨b0, b1, _, _⟩ := cells2 (L3.out.row 1 (w.heap.size + 1) rfl rfl)
  clear hq hb L2 Hx Hz WO PL
  go_wp2_with fail
  refine (MI.out _ _ L3.out.2 Hy.out).mono ?_
  rintro e w4 ⟨r, rfl, hr, hb⟩
  have L4 := Lib.hid (L3.out.step hb)
  have Hr := Lib.hid hr
  replace Hq := Lib.hid (Hq.out.below hb)
  clear hr hb L3 Hy MI a0 a1 b0 b1
  obtain ⟨a0, a1, _, _⟩ := cells2 (L4.out.row 0 w.heap.size rfl rfl)
  obtain ⟨b0, b1, _, _⟩ := cells2 (L4.out.row 1 (w.heap.size + 1) rfl rfl)
  go_wp2_with fail
  refine (S1.out _ _ Hq.out).mono ?_
  rintro e w5 ⟨rfl, hb⟩
  have L5 := Lib.hid (L4.out.step hb)
  replace Hq := Lib.hid (Hq.out.below hb)
  replace Hr := Lib.hid (Hr.out.below hb)
  clear hb L4 a0 a1 b0 b1
  go_wp2_with fail
  refine (S2.out _ _ Hr.out).mono ?_
  rintro e w6 ⟨rfl, hb⟩
  have L6 := Lib.hid (L5.out.step hb)
  replace Hq := Lib.hid (Hq.out.below hb)
  replace Hr := Lib.hid (Hr.out.below hb)
  clear hb L5
  obtain ⟨qp, ql, qc, rfl⟩ := Hq.out.slice
  obtain ⟨rp, rl, rc, rfl⟩ := Hr.out.slice
  obtain ⟨a0, a1, a2, a3⟩ := cells2 (L6.out.row 2 (w.heap.size + 1 + 1) rfl rfl)
  obtain ⟨b0, b1, b2, b3⟩ := cells2 (L6.out.row 3 (w.heap.size + 1 + 1 + 1) rfl rfl)
  go_wp2_with fail
  have LA := L6.out.set2 2 (w.heap.size + 1 + 1) rfl rfl (.bool true) (.slice qp ql qc)
  have o1 := off2 (L6.out.row 2 (w.heap.size + 1 + 1) rfl rfl)
  have LB := LA.set2 3 (w.heap.size + 1 + 1 + 1) rfl rfl (.bool false) (.slice rp rl rc)
  have o2 := off2 (LA.row 3 (w.heap.size + 1 + 1 + 1) rfl rfl)
  refine bodyPost_ret (res_int_int_err rfl _ _ (w.heap.size + 1 + 1) (w.heap.size + 1 + 1 + 1) _ _ _ _ _ _ _ (by rfl) (by rfl) (by rfl) (LB.row 2 _ rfl rfl) (LB.row 3 _ rfl rfl)) rfl ?_
  exact ⟨_, _, rfl, ⟨_, rfl, (Hq.out.set2 o1 _ _).set2 o2 _ _⟩, ⟨_, rfl, (Hr.out.set2 o1 _ _).set2 o2 _ _⟩, LB.2⟩
end Go.Proofs.YtamhlkjfpdkhoaaGreatDoor
