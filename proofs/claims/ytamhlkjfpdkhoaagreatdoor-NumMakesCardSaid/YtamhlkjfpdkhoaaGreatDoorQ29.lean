import Derived.Test.YtamhlkjfpdkhoaaGreatDoorQ28
import Derived.Outline
/- WALKS: attempts that come to an end; Of, Quo, Make of numbers of one word. -/
set_option linter.unusedVariables false
namespace Go.Proofs.YtamhlkjfpdkhoaaGreatDoor
open Go.RowKit

theorem ends_idle (p : Addr) (w : World) :
    CallsD Tryz.prog 157 #[.pointer (some p)] .returning w fun e u' w' => e = .returned (.tuple #[]) ∧ u' = .returning ∧ w' = w := by
  refine callsD_of_wpS Tryz.func157 rfl fun c₀ cs hu => ?_
  apply wpS_seq
  apply wpS_region
  simp [wpOpsS, go_sem, recoverD, hu, Tryz.ntmps157, Exit.thenS]
  refine wpS_cond (t := false) (by simp [Act.eval, Array.replicate]) ?_
  simp only [Bool.false_eq_true, if_false]
  refine wpS_of_wp (wp_skip ?_)
  cases c₀
  simp_all [bodyPostS, results, Tryz.results157]

theorem off_errno {w : World} {g : Nat} {u : Int} {t : TypeId} (h : w.heap[g]? = some (.cells #[.int .i64 u] t (0, 0))) : Off w g := by
  intro o m hc
  have h0 := cell_of_one h
  cases o with
  | zero => rw [h0] at hc; simp at hc
  | succ o => simp [World.cell?, h] at hc

theorem results_rat_errno {fn : Func} {p q : Tmp} (h : fn.results = #[.cell p 45, .cell q 32]) (tmps : Array Value) (w : World) (g k : Nat) (x y z : Value) (u : Int) (t t' : TypeId)
    (hp : tmps.getD p undef = .pointer (some ⟨g, 0, none⟩)) (hq : tmps.getD q undef = .pointer (some ⟨k, 0, none⟩)) (hg : w.heap[g]? = some (.cells #[x, y, z] t (0, 0))) (hk : w.cell? ⟨k, 0, none⟩ = some (.int .i64 u)) :
    (results fn tmps).run Tryz.prog w = .ok (.tuple #[.agg #[x, y, z], .int .i64 u]) w := by
  have hp' : tmps[p]?.getD undef = .pointer (some ⟨g, 0, none⟩) := by simpa using hp
  have hq' : tmps[q]?.getD undef = .pointer (some ⟨k, 0, none⟩) := by simpa using hq
  have r1 := run_loadVar_row (P := Tryz.prog) w g t 45 #[x, y, z] (0, 0) _ hg Tryz.underlying45 rfl (by kernel_rfl)
  have r2 : (loadVar 32 ⟨k, 0, none⟩).run Tryz.prog w = .ok (.int .i64 u) w := by simp [go_sem, hk]
  simp [results, h, hp', hq', asAddr, r1, r2, Sem.run_bind, Result.andThen]

set_option maxRecDepth 100000 in
set_option maxHeartbeats 400000 in
theorem attempt_any (F : Nat) (cap : Array Value) (s : Bool) (n k : Nat) (w : World) (hE : ∀ w, (callFunc F cap).run Tryz.prog w = .ok (.enter F cap) w)
    (hF : ∀ W, Below w.heap.size w W → Calls Tryz.prog F cap W fun e w' => ∃ x, e = .returned x ∧ WR w' x s n k ∧ Below W.heap.size W w') :
    Calls Tryz.prog 100 #[.func (.func F) #[] cap] w fun e w' => ∃ x, e = .returned (.tuple #[x, .int .i64 0]) ∧ WR w' x s n k ∧ Below w.heap.size w w' := by
  have hmf : ∀ (fn : Fn) (first cap : Array Value) (w : World), (Instr.makeFunc fn first cap).run Tryz.prog w = .ok (.func fn first cap) w := fun _ _ _ _ => rfl
  have HF := Lib.hid hF
  have L0 := Lib.hid (((LayX.nil w).push #[.bool false, .slice none 0 0, .slice none 0 0] 45).push #[.int .i64 0] 32)
  clear hF
  go_enter_defers Tryz.func100, Tryz.ntmps100
  go_wp2_with fail
  refine (HF.out _ L0.out.1.2).mono ?_
  rintro e w1 ⟨x, rfl, ⟨d, e, rfl, hd, he⟩, hb⟩
  obtain ⟨dp, dl, dc, rfl⟩ := hd.slice
  obtain ⟨ep, el, ec, rfl⟩ := he.slice
  have L1 : Hid (Lay w [(#[.bool false, .slice none 0 0, .slice none 0 0], 45), (#[.int .i64 0], 32)] w1) := Lib.hid (L0.out.1.step hb)
  have Hd := Lib.hid hd
  have He := Lib.hid he
  clear hd he hb L0
  obtain ⟨c0, c1, c2, f0, f1, f2⟩ := cells3 (L1.out.row 0 w.heap.size rfl rfl)
  have r1 := L1.out.row 1 (w.heap.size + 1) rfl rfl
  have d0 := cell_of_one r1
  have g0 := free_of_one r1
  clear r1
  go_wp2_with fail
  have L2 := L1.out.set3 0 w.heap.size rfl rfl (.bool s) (.slice dp dl dc) (.slice ep el ec)
  have r0 := L2.row 0 w.heap.size rfl rfl
  have r1 := L2.row 1 (w.heap.size + 1) rfl rfl
  have r0' : ((((w1.setCell ⟨w.heap.size, 0, none⟩ (.bool s)).setCell ⟨w.heap.size, 1, none⟩ (.slice dp dl dc)).setCell ⟨w.heap.size, 2, none⟩ (.slice ep el ec)).setCell ⟨w.heap.size + 1, 0, none⟩ (.int .i64 0)).heap[w.heap.size]? = some (.cells #[.bool s, .slice dp dl dc, .slice ep el ec] 45 (0, 0)) := by
    rw [Below.heap_setCell _ _ _ _ (by simp)]; exact r0
  have r1' := cell_of_one (one_setCell (u := .int .i64 0) r1)
  have off1 := off3 (L1.out.row 0 w.heap.size rfl rfl)
  have D1 := (Hd.out.set3 off1 (.bool s) (.slice dp dl dc) (.slice ep el ec))
  have E1 := (He.out.set3 off1 (.bool s) (.slice dp dl dc) (.slice ep el ec))
  have offk : Off (((w1.setCell ⟨w.heap.size, 0, none⟩ (.bool s)).setCell ⟨w.heap.size, 1, none⟩ (.slice dp dl dc)).setCell ⟨w.heap.size, 2, none⟩ (.slice ep el ec)) (w.heap.size + 1) := off_errno r1
  have B1 := L2.2.setCell (p := ⟨w.heap.size + 1, 0, none⟩) (by simp) (.int .i64 0)
  generalize (((w1.setCell ⟨w.heap.size, 0, none⟩ (.bool s)).setCell ⟨w.heap.size, 1, none⟩ (.slice dp dl dc)).setCell ⟨w.heap.size, 2, none⟩ (.slice ep el ec)) = w2 at *
  refine leaves_cons (f := 157) (args := #[.pointer (some ⟨w.heap.size + 1, 0, none⟩)]) (by simp) (by simp [go_sem]) ?_
  refine (ends_idle ⟨w.heap.size + 1, 0, none⟩ _).mono ?_
  rintro e u' w'' ⟨rfl, rfl, rfl⟩
  refine ⟨_, results_rat_errno rfl _ _ w.heap.size (w.heap.size + 1) _ _ _ _ _ 0 (by rfl) (by rfl) r0' r1', _, rfl, ⟨_, _, rfl, D1.upon offk (fun k hk => Below.heap_setCell _ _ _ _ hk), E1.upon offk (fun k hk => Below.heap_setCell _ _ _ _ hk)⟩, B1⟩

set_option maxRecDepth 100000 in
set_option maxHeartbeats 400000 in
theorem Of_of (m : Int) (s : Bool) (n : Nat) (w : World) (HW : ∀ W, Calls Tryz.prog 35 #[.int .i64 m] W fun e w' => ∃ x, e = .returned x ∧ WI w' x s n ∧ Below W.heap.size W w') :
    Calls Tryz.prog 37 #[.int .i64 m] w fun e w' => ∃ x, e = .returned x ∧ WR w' x s n 0 ∧ Below w.heap.size w w' := by
  replace HW := Lib.hid HW
  have L0 := Lib.hid ((LayX.nil w).push #[.bool false, .slice none 0 0, .slice none 0 0] 45)
  go_enter Tryz.func37, Tryz.ntmps37
  go_wp2_with fail
  refine (HW.out _).mono ?_
  rintro e w1 ⟨x, rfl, ⟨d, rfl, hd⟩, hb⟩
  obtain ⟨dp, dl, dc, rfl⟩ := hd.slice
  have L1 : Hid (Lay w [(#[.bool false, .slice none 0 0, .slice none 0 0], 45)] w1) := Lib.hid (L0.out.1.step hb)
  have Hd := Lib.hid hd
  clear hd hb L0
  obtain ⟨c0, c1, c2, f0, f1, f2⟩ := cells3 (L1.out.row 0 w.heap.size rfl rfl)
  go_wp2_with fail
  refine bodyPost_ret (res_rat rfl _ _ w.heap.size _ _ _ _ (by rfl) ((L1.out.set3 0 _ rfl rfl _ _ _).row 0 _ rfl rfl)) rfl ?_
  exact ⟨_, rfl, ⟨_, _, rfl, Hd.out.set3 (off3 (L1.out.row 0 _ rfl rfl)) _ _ _, Dig.zero _⟩, (L1.out.set3 0 _ rfl rfl _ _ _).2⟩

set_option maxRecDepth 100000 in
set_option maxHeartbeats 400000 in
theorem RSign_pos (v : Value) (n k : Nat) (w : World) (h : WR w v false n k) (h0 : 0 < n) :
    Calls Tryz.prog 26 #[v] w fun e w' => e = .returned (.int .i64 1) ∧ Below w.heap.size w w' := by
  obtain ⟨d, e, rfl, hd, he⟩ := h
  obtain ⟨dp, dl, dc, rfl⟩ := hd.slice
  obtain ⟨ep, el, ec, rfl⟩ := he.slice
  obtain ⟨_, ⟨hz, _⟩ | ⟨_, b, o, hs, hc⟩⟩ := hd
  · omega
  obtain ⟨rfl, rfl, rfl⟩ : dp = some ⟨b, o, none⟩ ∧ dl = 1 ∧ dc = 1 := by simpa using hs
  clear hs hc he
  go_enter Tryz.func26, Tryz.ntmps26
  go_wp2
  go_ret
  exact ⟨rfl, by first | exact (Below.refl _ _).alloc (Nat.le_refl _) _ | exact ((Below.refl _ _).alloc (Nat.le_refl _) _).alloc (by simp) _ | exact (((Below.refl _ _).alloc (Nat.le_refl _) _).drew).alloc (by simp) _⟩

theorem sOfPQ {w W : World} {p q : Nat} {x y z x' y' z' : Value} {t t' : TypeId} (hp : w.heap[p]? = some (.cells #[x, y, z] t (0, 0))) (hq : w.heap[q]? = some (.cells #[x', y', z'] t' (0, 0))) (h : Below w.heap.size w W) :
    (W.cell? ⟨p, 0, none⟩ = some x ∧ W.cell? ⟨p, 1, none⟩ = some y ∧ W.cell? ⟨p, 2, none⟩ = some z ∧ W.cell? ⟨q, 0, none⟩ = some x' ∧ W.cell? ⟨q, 1, none⟩ = some y' ∧ W.cell? ⟨q, 2, none⟩ = some z') ∧ Hid (Below w.heap.size w W) := by
  have h1 := Below.row h (lt_of_row hp) hp
  have h2 := Below.row h (lt_of_row hq) hq
  exact ⟨⟨(cells3 h1).1, (cells3 h1).2.1, (cells3 h1).2.2.1, (cells3 h2).1, (cells3 h2).2.1, (cells3 h2).2.2.1⟩, Lib.hid h⟩

set_option maxRecDepth 100000 in
set_option maxHeartbeats 1000000 in
theorem QuoFn_pos (p q : Nat) (du eu dv ev : Value) (n n' g a b : Nat) (w : World) (hp : w.heap[p]? = some (.cells #[.bool false, du, eu] 45 (0, 0))) (hq : w.heap[q]? = some (.cells #[.bool false, dv, ev] 45 (0, 0)))
    (hu : WR w (.agg #[.bool false, du, eu]) false n 0) (hv : WR w (.agg #[.bool false, dv, ev]) false n' 0) (hg : Nat.gcd n n' = g) (hqa : n / g = a) (hqb : n' / g = b) (h1 : 1 < n') (ha0 : 0 < a) (hb0 : 0 < b) (hn : n < 9223372036854775808) (hn' : n' < 9223372036854775808) :
    Calls Tryz.prog 130 #[.pointer (some ⟨p, 0, none⟩), .pointer (some ⟨q, 0, none⟩)] w fun e w' => ∃ x, e = .returned x ∧ WR w' x false a (short b) ∧ Below w.heap.size w w' := by
  have hal : a ≤ n := by rw [← hqa]; exact Nat.div_le_self _ _
  have hbl : b ≤ n' := by rw [← hqb]; exact Nat.div_le_self _ _
  have hs : short n' = n' := by unfold short; rw [if_neg (by omega)]
  have hd0 : den 0 = 1 := rfl
  have TU := fun W (hb : Below w.heap.size w W) => turned_pos (.agg #[.bool false, dv, ev]) false n' 0 W (hv.below hb)
  rw [hs, hd0] at TU
  have TI := fun W x (hb : Below w.heap.size w W) (hx : WR W x false 1 n') => rtimes_pos (.agg #[.bool false, du, eu]) x false false n 1 n' a b 1 1 a b W (hu.below hb) hx (by omega) (by rw [hg]; exact hqa) (by rw [hg]; exact hqb) (by simp) (by simp) (by simp) (by simp) ha0 hb0 (by omega) (by omega) (by omega) (by omega)
  have ef : (false != false) = false := rfl
  rw [ef] at TI
  have SM := fun W x (hx : WR W x false a (short b)) => smallRat_any x false a (short b) W hx
  obtain ⟨c0, c1, c2, _, _, _⟩ := cells3 hp
  obtain ⟨d0, d1, d2, _, _, _⟩ := cells3 hq
  obtain ⟨xd, xe, e1, hd1, he1⟩ := hu
  obtain ⟨yd, ye, e2, hd2, he2⟩ := hv
  obtain ⟨rfl, rfl⟩ : du = xd ∧ eu = xe := by simpa using e1
  obtain ⟨rfl, rfl⟩ : dv = yd ∧ ev = ye := by simpa using e2
  obtain ⟨up, ul, uc, rfl⟩ := hd1.slice
  obtain ⟨up', ul', uc', rfl⟩ := he1.slice
  obtain ⟨vp, vl, vc, rfl⟩ := hd2.slice
  obtain ⟨vp', vl', vc', rfl⟩ := he2.slice
  replace TU := Lib.hid TU
  replace TI := Lib.hid TI
  replace SM := Lib.hid SM
  have L0 := Lib.hid ((LayX.nil w).push #[.bool false, .slice none 0 0, .slice none 0 0] 45)
  clear hg hqa hqb hal hbl hs hd0 ef e1 e2 hd1 hd2 he1 he2 ha0 hb0 hn hn' h1
  go_enter Tryz.func130, Tryz.ntmps130
  go_wp2_with fail
  have HP := Lib.hid hp
  have HQ := Lib.hid hq
  have L1 : Hid (Lay w [(#[.bool false, .slice none 0 0, .slice none 0 0], 45)] (w.alloc (.cells #[.bool false, .slice none 0 0, .slice none 0 0] 45)).drew) := Lib.hid L0.out.1.drew
  clear L0 hp hq
  generalize (w.alloc (Obj.cells #[Value.bool false, Value.slice none 0 0, .slice none 0 0] 45)) = W0 at *
  go_region_held3 (fun W => (W.cell? ⟨p, 0, none⟩ = some (.bool false) ∧ W.cell? ⟨p, 1, none⟩ = some (.slice up ul uc) ∧ W.cell? ⟨p, 2, none⟩ = some (.slice up' ul' uc') ∧ W.cell? ⟨q, 0, none⟩ = some (.bool false) ∧ W.cell? ⟨q, 1, none⟩ = some (.slice vp vl vc) ∧ W.cell? ⟨q, 2, none⟩ = some (.slice vp' vl' vc')) ∧ Hid (Below w.heap.size w W)) (first | exact sOfPQ HP.out HQ.out (T3.out.set3 0 w.heap.size rfl rfl _ _ _).2 | exact sOfPQ HP.out HQ.out T3.out.2 | exact sOfPQ HP.out HQ.out T2.out.2 | exact sOfPQ HP.out HQ.out T1.out.2 | exact sOfPQ HP.out HQ.out L1.out.2) (first
    | (go_at_call 131; refine (TU.out _ ?_).mono ?_; exact L1.out.2; rintro e w1 ⟨y, rfl, hy, hb1⟩; have T1 := Lib.hid (L1.out.step hb1); have Hy := Lib.hid hy; clear hy hb1)
    | (go_at_call 129; refine (TI.out _ _ ?_ Hy.out).mono ?_; exact T1.out.2; rintro e w2 ⟨z, rfl, hy, hb2⟩; have T2 := Lib.hid (T1.out.step hb2); have Hz := Lib.hid hy; clear hy hb2)
    | (go_at_call 102; refine (SM.out _ _ Hz.out).mono ?_; rintro e w3 ⟨rfl, hb3⟩; have T3 := Lib.hid (T2.out.step hb3); replace Hz := Lib.hid (Hz.out.below hb3); obtain ⟨x1, x2, hx, hx1, hx2⟩ := Hz.out; obtain ⟨xp, xl, xc, rfl⟩ := hx1.slice; obtain ⟨zp, zl, zc, rfl⟩ := hx2.slice; subst hx; have Hx1 := Lib.hid hx1; have Hx2 := Lib.hid hx2; obtain ⟨b0, b1, b2, f0, f1, f2⟩ := cells3 (T3.out.row 0 w.heap.size rfl rfl); clear hb3 hx1 hx2))
  go_wp2
  refine bodyPost_ret (res_rat rfl _ _ w.heap.size _ _ _ _ (by rfl) ((T3.out.set3 0 _ rfl rfl _ _ _).row 0 _ rfl rfl)) rfl ?_
  exact ⟨_, rfl, ⟨_, _, rfl, Hx1.out.set3 (off3 (T3.out.row 0 _ rfl rfl)) _ _ _, Hx2.out.set3 (off3 (T3.out.row 0 _ rfl rfl)) _ _ _⟩, (T3.out.set3 0 _ rfl rfl _ _ _).2⟩
end Go.Proofs.YtamhlkjfpdkhoaaGreatDoor

/- WALKS: Quo, Make of numbers of one word. -/
namespace Go.Proofs.YtamhlkjfpdkhoaaGreatDoor
open Go.RowKit

theorem res_rat_err {fn : Func} {p q : Tmp} (h : fn.results = #[.cell p 45, .tmp q]) (tmps : Array Value) (w : World) (g : Nat) (x y z u : Value) (t : TypeId)
    (hp : tmps.getD p undef = .pointer (some ⟨g, 0, none⟩)) (hq : tmps.getD q undef = u) (hg : w.heap[g]? = some (.cells #[x, y, z] t (0, 0))) :
    (results fn tmps).run Tryz.prog w = .ok (.tuple #[.agg #[x, y, z], u]) w := by
  rw [results_cell_tmp h, hp, hq]
  simp [asAddr, run_loadVar_row (P := Tryz.prog) w g t 45 #[x, y, z] (0, 0) _ hg Tryz.underlying45 rfl (by kernel_rfl), Result.andThen]

set_option maxRecDepth 100000 in
set_option maxHeartbeats 1000000 in
theorem Quo_pos (u v : Value) (n n' g a b : Nat) (w : World) (hu : WR w u false n 0) (hv : WR w v false n' 0) (hg : Nat.gcd n n' = g) (hqa : n / g = a) (hqb : n' / g = b) (h1 : 1 < n') (ha0 : 0 < a) (hb0 : 0 < b) (hn : n < 9223372036854775808) (hn' : n' < 9223372036854775808) :
    Calls Tryz.prog 60 #[u, v] w fun e w' => ∃ x, e = .returned (.tuple #[x, .int .i64 0]) ∧ WR w' x false a (short b) ∧ Below w.heap.size w w' := by
  have SG := fun W (hb : Below w.heap.size w W) => RSign_pos v n' 0 W (hv.below hb) (by omega)
  have hmf : ∀ (fn : Fn) (first cap : Array Value) (w : World), (Instr.makeFunc fn first cap).run Tryz.prog w = .ok (.func fn first cap) w := fun _ _ _ _ => rfl
  have QF := fun p q du eu dv ev W hp hq hu hv => QuoFn_pos p q du eu dv ev n n' g a b W hp hq hu hv hg hqa hqb h1 ha0 hb0 hn hn'
  have AT := fun cap W => attempt_any 130 cap false a (short b) W (fun w => by simp [go_sem])
  obtain ⟨xd, xe, rfl, hd1, he1⟩ := hu
  obtain ⟨yd, ye, rfl, hd2, he2⟩ := hv
  obtain ⟨up, ul, uc, rfl⟩ := hd1.slice
  obtain ⟨up', ul', uc', rfl⟩ := he1.slice
  obtain ⟨vp, vl, vc, rfl⟩ := hd2.slice
  obtain ⟨vp', vl', vc', rfl⟩ := he2.slice
  replace SG := Lib.hid SG
  replace QF := Lib.hid QF
  replace AT := Lib.hid AT
  have L0 := Lib.hid ((((LayX.nil w).push #[.bool false, .slice up ul uc, .slice up' ul' uc'] 45).push #[.bool false, .slice vp vl vc, .slice vp' vl' vc'] 45).push #[.bool false, .slice none 0 0, .slice none 0 0] 45)
  have HU := Lib.hid (fun W (hb : Below w.heap.size w W) => (⟨_, _, rfl, hd1.below hb, he1.below hb⟩ : WR W (.agg #[.bool false, .slice up ul uc, .slice up' ul' uc']) false n 0))
  have HV := Lib.hid (fun W (hb : Below w.heap.size w W) => (⟨_, _, rfl, hd2.below hb, he2.below hb⟩ : WR W (.agg #[.bool false, .slice vp vl vc, .slice vp' vl' vc']) false n' 0))
  clear hg hqa hqb h1 ha0 hb0 hn hn' hd1 he1 hd2 he2
  go_enter Tryz.func60, Tryz.ntmps60
  go_wp2_with fail
  refine (SG.out _ L0.out.1.2).mono ?_
  rintro e w1 ⟨rfl, hb⟩
  have L1 : Hid (Lay w [(#[.bool false, .slice up ul uc, .slice up' ul' uc'], 45), (#[.bool false, .slice vp vl vc, .slice vp' vl' vc'], 45), (#[.bool false, .slice none 0 0, .slice none 0 0], 45)] w1) := Lib.hid (L0.out.1.step hb)
  clear hb L0
  go_wp2_with fail
  refine (AT.out _ _ ?_).mono ?_
  · intro W hW
    have hL := L1.out.step hW
    exact QF.out _ _ _ _ _ _ W (hL.row 0 _ rfl rfl) (hL.row 1 _ rfl rfl) (HU.out _ hL.2) (HV.out _ hL.2)
  rintro e w2 ⟨x, rfl, ⟨x1, x2, rfl, hx1, hx2⟩, hb⟩
  have L2 := Lib.hid (L1.out.step hb)
  obtain ⟨xp, xl, xc, rfl⟩ := hx1.slice
  obtain ⟨zp, zl, zc, rfl⟩ := hx2.slice
  have Hx1 := Lib.hid hx1
  have Hx2 := Lib.hid hx2
  obtain ⟨b0, b1, b2, f0, f1, f2⟩ := cells3 (L2.out.row 2 (w.heap.size + 1 + 1) rfl rfl)
  clear hb hx1 hx2
  go_wp2_with fail
  refine bodyPost_ret (res_rat_err rfl _ _ (w.heap.size + 1 + 1) _ _ _ _ _ (by rfl) (by rfl) ((L2.out.set3 2 _ rfl rfl _ _ _).row 2 _ rfl rfl)) rfl ?_
  exact ⟨_, rfl, ⟨_, _, rfl, Hx1.out.set3 (off3 (L2.out.row 2 _ rfl rfl)) _ _ _, Hx2.out.set3 (off3 (L2.out.row 2 _ rfl rfl)) _ _ _⟩, (L2.out.set3 2 _ rfl rfl _ _ _).2⟩

set_option maxRecDepth 100000 in
set_option maxHeartbeats 1000000 in
theorem Make_pos (n n' g a b : Nat) (w : World) (hg : Nat.gcd n n' = g) (hqa : n / g = a) (hqb : n' / g = b) (h1 : 1 < n') (hn0 : 0 < n) (ha0 : 0 < a) (hb0 : 0 < b) (hn : n < 9223372036854775808) (hn' : n' < 9223372036854775808) :
    Calls Tryz.prog 39 #[.int .i64 n, .int .i64 n'] w fun e w' => ∃ x, e = .returned (.tuple #[x, .int .i64 0]) ∧ WR w' x false a (short b) ∧ Below w.heap.size w w' := by
  have OF := fun W => Of_of (n : Int) false n W (fun W => Whole_pos n W hn0 hn)
  have OF' := fun W => Of_of (n' : Int) false n' W (fun W => Whole_pos n' W (by omega) hn')
  have QU := fun u v W hu hv => Quo_pos u v n n' g a b W hu hv hg hqa hqb h1 ha0 hb0 hn hn'
  replace OF := Lib.hid OF
  replace OF' := Lib.hid OF'
  replace QU := Lib.hid QU
  have L0 := Lib.hid ((LayX.nil w).push #[.bool false, .slice none 0 0, .slice none 0 0] 45)
  clear hg hqa hqb h1 hn0 ha0 hb0 hn hn'
  go_enter Tryz.func39, Tryz.ntmps39
  go_wp2_with fail
  refine (OF.out _).mono ?_
  rintro e w1 ⟨x, rfl, hx, hb⟩
  have L1 : Hid (Lay w [(#[.bool false, .slice none 0 0, .slice none 0 0], 45)] w1) := Lib.hid (L0.out.1.step hb)
  have Hx := Lib.hid hx
  clear hx hb L0
  go_wp2_with fail
  refine (OF'.out _).mono ?_
  rintro e w2 ⟨y, rfl, hy, hb⟩
  have L2 := Lib.hid (L1.out.step hb)
  have Hy := Lib.hid hy
  replace Hx := Lib.hid (Hx.out.below hb)
  clear hy hb L1
  go_wp2_with fail
  refine (QU.out _ _ _ Hx.out Hy.out).mono ?_
  rintro e w3 ⟨z, rfl, ⟨x1, x2, rfl, hx1, hx2⟩, hb⟩
  have L3 := Lib.hid (L2.out.step hb)
  obtain ⟨xp, xl, xc, rfl⟩ := hx1.slice
  obtain ⟨zp, zl, zc, rfl⟩ := hx2.slice
  have Hx1 := Lib.hid hx1
  have Hx2 := Lib.hid hx2
  obtain ⟨b0, b1, b2, f0, f1, f2⟩ := cells3 (L3.out.row 0 w.heap.size rfl rfl)
  clear hb hx1 hx2 L2
  go_wp2_with fail
  refine bodyPost_ret (res_rat_err rfl _ _ w.heap.size _ _ _ _ _ (by rfl) (by rfl) ((L3.out.set3 0 _ rfl rfl _ _ _).row 0 _ rfl rfl)) rfl ?_
  exact ⟨_, rfl, ⟨_, _, rfl, Hx1.out.set3 (off3 (L3.out.row 0 _ rfl rfl)) _ _ _, Hx2.out.set3 (off3 (L3.out.row 0 _ rfl rfl)) _ _ _⟩, (L3.out.set3 0 _ rfl rfl _ _ _).2⟩
end Go.Proofs.YtamhlkjfpdkhoaaGreatDoor
