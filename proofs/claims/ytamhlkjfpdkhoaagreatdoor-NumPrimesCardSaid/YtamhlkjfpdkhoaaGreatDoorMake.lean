/- WALKS: Quo, Make of numbers of one word. -/
import Derived.Test.YtamhlkjfpdkhoaaGreatDoorAtt
import Derived.Outline
namespace Go.Proofs.YtamhlkjfpdkhoaaGreatDoor
open Go.RowKit

theorem res_rat_err {fn : Func} {p q : Tmp} (h : fn.results = #[.cell p 45, .tmp q]) (tmps : Array Value) (w : World) (g : Nat) (x y z u : Value) (t : TypeId)
    (hp : tmps.getD p undef = .pointer (some ⟨g, 0, none⟩)) (hq : tmps.getD q undef = u) (hg : w.heap[g]? = some (.cells #[x, y, z] t (0, 0))) :
    (results fn tmps).run Tryz.prog w = .ok (.tuple #[.agg #[x, y, z], u]) w := by
  rw [results_cell_tmp h, hp, hq]
  simp [asAddr, run_loadVar_row (P := Tryz.prog) w g t 45 #[x, y, z] (0, 0) _ hg Tryz.underlying45 rfl (by kernel_rfl), Result.andThen]

set_option maxRecDepth 100000 in
set_option maxHeartbeats 1000000 in
theorem Quo_pos (u v : Value) (n n' g a b : Nat) (w : World) (hu : WR w u false n 0) (hv : WR w v false n' 0) (hg : Nat.gcd n n' = g) (hqa : n / g = a) (hqb : n' / g = b) (h1 : 1 < n') (ha0 : 0 < a) (hb0 : 0 < b) (hn : n < 9223372036854775808) (hn' : n' < 9223372036854775808) :
    Calls Tryz.prog 60 #[u, v] w fun e w' => ∃ x, e = .returned (.tuple #[x, .int .i64 0]) ∧ WR w' x false a (short b) ∧ Below w.heap.size w w' := by
  have SG := fun W (hb : Below w.heap.size w W) => RSign_pos v n' 0 W (hv.below hb) (by omega)
  have hmf : ∀ (fn : Fn) (first cap : Array Value) (w : World), (Instr.makeFunc fn first cap).run Tryz.prog w = .ok (.func fn first cap) w := fun _ _ _ _ => rfl
  have QF := fun p q du eu dv ev W hp hq hu hv => QuoFn_pos p q du eu dv ev n n' g a b W hp hq hu hv hg hqa hqb h1 ha0 hb0 hn hn'
  have AT := fun cap W => attempt_any 130 cap false a (short b) W (fun w => by simp [go_sem])
  obtain ⟨xd, xe, rfl, hd1, he1⟩ := hu
  obtain ⟨yd, ye, rfl, hd2, he2⟩ := hv
  obtain ⟨up, ul, uc, rfl⟩ := hd1.slice
  obtain ⟨up', ul', uc', rfl⟩ := he1.slice
  obtain ⟨vp, vl, vc, rfl⟩ := hd2.slice
  obtain ⟨vp', vl', vc', rfl⟩ := he2.slice
  replace SG := Lib.hid SG
  replace QF := Lib.hid QF
  replace AT := Lib.hid AT
  have L0 := Lib.hid ((((LayX.nil w).push #[.bool false, .slice up ul uc, .slice up' ul' uc'] 45).push #[.bool false, .slice vp vl vc, .slice vp' vl' vc'] 45).push #[.bool false, .slice none 0 0, .slice none 0 0] 45)
  have HU := Lib.hid (fun W (hb : Below w.heap.size w W) => (⟨_, _, rfl, hd1.below hb, he1.below hb⟩ : WR W (.agg #[.bool false, .slice up ul uc, .slice up' ul' uc']) false n 0))
  have HV := Lib.hid (fun W (hb : Below w.heap.size w W) => (⟨_, _, rfl, hd2.below hb, he2.below hb⟩ : WR W (.agg #[.bool false, .slice vp vl vc, .slice vp' vl' vc']) false n' 0))
  clear hg hqa hqb h1 ha0 hb0 hn hn' hd1 he1 hd2 he2
  go_enter Tryz.func60, Tryz.ntmps60
  go_wp2_with fail
  refine (SG.out _ L0.out.1.2).mono ?_
  rintro e w1 ⟨rfl, hb⟩
  have L1 : Hid (Lay w [(#[.bool false, .slice up ul uc, .slice up' ul' uc'], 45), (#[.bool false, .slice vp vl vc, .slice vp' vl' vc'], 45), (#[.bool false, .slice none 0 0, .slice none 0 0], 45)] w1) := Lib.hid (L0.out.1.step hb)
  clear hb L0
  go_wp2_with fail
  refine (AT.out _ _ ?_).mono ?_
  · intro W hW
    have hL := L1.out.step hW
    exact QF.out _ _ _ _ _ _ W (hL.row 0 _ rfl rfl) (hL.row 1 _ rfl rfl) (HU.out _ hL.2) (HV.out _ hL.2)
  rintro e w2 ⟨x, rfl, ⟨x1, x2, rfl, hx1, hx2⟩, hb⟩
  have L2 := Lib.hid (L1.out.step hb)
  obtain ⟨xp, xl, xc, rfl⟩ := hx1.slice
  obtain ⟨zp, zl, zc, rfl⟩ := hx2.slice
  have Hx1 := Lib.hid hx1
  have Hx2 := Lib.hid hx2
  obtain ⟨b0, b1, b2, f0, f1, f2⟩ := cells3 (L2.out.row 2 (w.heap.size + 1 + 1) rfl rfl)
  clear hb hx1 hx2
  go_wp2_with fail
  refine bodyPost_ret (res_rat_err rfl _ _ (w.heap.size + 1 + 1) _ _ _ _ _ (by rfl) (by rfl) ((L2.out.set3 2 _ rfl rfl _ _ _).row 2 _ rfl rfl)) rfl ?_
  exact ⟨_, rfl, ⟨_, _, rfl, Hx1.out.set3 (off3 (L2.out.row 2 _ rfl rfl)) _ _ _, Hx2.out.set3 (off3 (L2.out.row 2 _ rfl rfl)) _ _ _⟩, (L2.out.set3 2 _ rfl rfl _ _ _).2⟩

set_option maxRecDepth 100000 in
set_option maxHeartbeats 1000000 in
theorem Make_pos (n n' g a b : Nat) (w : World) (hg : Nat.gcd n n' = g) (hqa : n / g = a) (hqb : n' / g = b) (h1 : 1 < n') (hn0 : 0 < n) (ha0 : 0 < a) (hb0 : 0 < b) (hn : n < 9223372036854775808) (hn' : n' < 9223372036854775808) :
    Calls Tryz.prog 39 #[.int .i64 n, .int .i64 n'] w fun e w' => ∃ x, e = .returned (.tuple #[x, .int .i64 0]) ∧ WR w' x false a (short b) ∧ Below w.heap.size w w' := by
  have OF := fun W => Of_of (n : Int) false n W (fun W => Whole_pos n W hn0 hn)
  have OF' := fun W => Of_of (n' : Int) false n' W (fun W => Whole_pos n' W (by omega) hn')
  have QU := fun u v W hu hv => Quo_pos u v n n' g a b W hu hv hg hqa hqb h1 ha0 hb0 hn hn'
  replace OF := Lib.hid OF
  replace OF' := Lib.hid OF'
  replace QU := Lib.hid QU
  have L0 := Lib.hid ((LayX.nil w).push #[.bool false, .slice none 0 0, .slice none 0 0] 45)
  clear hg hqa hqb h1 hn0 ha0 hb0 hn hn'
  go_enter Tryz.func39, Tryz.ntmps39
  go_wp2_with fail
  refine (OF.out _).mono ?_
  rintro e w1 ⟨x, rfl, hx, hb⟩
  have L1 : Hid (Lay w [(#[.bool false, .slice none 0 0, .slice none 0 0], 45)] w1) := Lib.hid (L0.out.1.step hb)
  have Hx := Lib.hid hx
  clear hx hb L0
  go_wp2_with fail
  refine (OF'.out _).mono ?_
  rintro e w2 ⟨y, rfl, hy, hb⟩
  have L2 := Lib.hid (L1.out.step hb)
  have Hy := Lib.hid hy
  replace Hx := Lib.hid (Hx.out.below hb)
  clear hy hb L1
  go_wp2_with fail
  refine (QU.out _ _ _ Hx.out Hy.out).mono ?_
  rintro e w3 ⟨z, rfl, ⟨x1, x2, rfl, hx1, hx2⟩, hb⟩
  have L3 := Lib.hid (L2.out.step hb)
  obtain ⟨xp, xl, xc, rfl⟩ := hx1.slice
  obtain ⟨zp, zl, zc, rfl⟩ := hx2.slice
  have Hx1 := Lib.hid hx1
  have Hx2 := Lib.hid hx2
  obtain ⟨b0, b1, b2, f0, f1, f2⟩ := cells3 (L3.out.row 0 w.heap.size rfl rfl)
  clear hb hx1 hx2 L2
  go_wp2_with fail
  refine bodyPost_ret (res_rat_err rfl _ _ w.heap.size _ _ _ _ _ (by rfl) (by rfl) ((L3.out.set3 0 _ rfl rfl _ _ _).row 0 _ rfl rfl)) rfl ?_
  exact ⟨_, rfl, ⟨_, _, rfl, Hx1.out.set3 (off3 (L3.out.row 0 _ rfl rfl)) _ _ _, Hx2.out.set3 (off3 (L3.out.row 0 _ rfl rfl)) _ _ _⟩, (L3.out.set3 0 _ rfl rfl _ _ _).2⟩
end Go.Proofs.YtamhlkjfpdkhoaaGreatDoor
