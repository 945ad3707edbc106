/- WALKS of Period and IsPeriod. -/
import Derived.Test.YtodnfchkkgoabaaHPdPeRp
set_option linter.unusedVariables false
namespace Go.Proofs.Ytodnfchkkgoabaa
open Go.RowKit

theorem results_tmp4 {fn : Func} {t u v x : Tmp} (h : fn.results = #[.tmp t, .tmp u, .tmp v, .tmp x]) (tmps : Array Value) (P : Program) (w : World) :
    (results fn tmps).run P w = .ok (.tuple #[tmps.getD t undef, tmps.getD u undef, tmps.getD v undef, tmps.getD x undef]) w := by
  simp [results, h]

set_option maxHeartbeats 1000000 in
theorem Period_ok (s : ByteArray) (ds : List Nat) (lim : Nat) (w : World) (h : codeOf s = some ds) (h1 : 1 ≤ lim) (h2 : lim ≤ 2000) :
    Calls Try.prog 20 #[.string s, .int .i64 lim] w fun e w' => ∃ pre per b, e = .returned (.tuple #[.int .i64 (pre : Nat), .int .i64 (per : Nat), .bool b, .int .i64 0]) ∧ FP (vals ds (lim + 1)) ds.length lim pre per b ∧ Below w.heap.size w w' := by
  obtain ⟨l1, l8, hds⟩ := codeOf_len h
  have R := Lib.hid (read_some s ds w h)
  have L := Lib.hid (fun X => isLimit_any (lim : Int) X)
  rw [show decide (1 ≤ (lim : Int) ∧ (lim : Int) ≤ 2000) = true from decide_eq_true (by omega)] at L
  have HD := Lib.hid hds
  clear h hds
  go_enter Try.func20, Try.ntmps20
  go_wp2_with fail
  refine R.out.mono ?_
  rintro e w1 ⟨v, rfl, ho, hb⟩
  obtain ⟨g, c, rfl, hns⟩ := own_some ho l1
  have RW := Lib.hid (row_any ds g c lim w1 hns (by omega) HD.out h2)
  have HB := Lib.hid hb
  clear hb ho hns R
  have FPP := Lib.hid (fun (p : Option Addr) (c : Nat) (X : World) (hX : NS X p (vals ds (lim + 1))) => firstPeriod_any (vals ds (lim + 1)) p c ds.length lim X hX (by omega) (by rw [vals_len]) l8)
  obtain ⟨m, hml⟩ : ∃ m, ds.length = m := ⟨_, rfl⟩
  rw [hml] at RW FPP l1 l8 ⊢
  have HML := Lib.hid hml
  clear hml
  go_wp2_with fail
  refine (L.out w1).mono ?_
  rintro e w2 ⟨rfl, rfl⟩
  go_wp2_with fail
  refine RW.out.mono ?_
  rintro e w2 ⟨v, rfl, ho, hb2⟩
  have hlen := vals_len ds (lim + 1)
  obtain ⟨g2, c2, rfl, hns⟩ := own_some ho (by rw [hlen]; omega)
  have F := Lib.hid (FPP.out _ c2 w2 hns)
  rw [hlen]
  have HB2 := Lib.hid (HB.out.trans (hb2.mono HB.out.size))
  clear ho hb2 hns hlen RW
  go_wp2_with fail
  refine F.out.mono ?_
  rintro e w3 ⟨pre, per, b, rfl, hf, hb3⟩
  have HF := Lib.hid hf
  have HB3 := Lib.hid (HB2.out.trans (hb3.mono HB2.out.size))
  clear hf hb3 F
  go_wp2_with fail
  refine bodyPost_ret (results_tmp4 rfl _ _ _) rfl ?_
  exact ⟨pre, per, b, rfl, by rw [HML.out]; exact HF.out, HB3.out⟩

set_option maxHeartbeats 1000000 in
/-- IsPeriod at two numbers that may be looked at. -/
theorem IsPeriod_in (s : ByteArray) (ds : List Nat) (lim pre per : Nat) (w : World) (h : codeOf s = some ds) (h1 : 1 ≤ lim) (h2 : lim ≤ 2000) (hp : 1 ≤ per) (hn : 2 * pre + 3 * per + ds.length ≤ lim) :
    Calls Try.prog 22 #[.string s, .int .i64 lim, .int .i64 pre, .int .i64 per] w fun e w' => ∃ b, e = .returned (.bool b) ∧ (b = true ↔ All (vals ds (lim + 1)) pre per ds.length) ∧ Below w.heap.size w w' := by
  obtain ⟨l1, l8, hds⟩ := codeOf_len h
  have R := Lib.hid (read_some s ds w h)
  have L := Lib.hid (fun X => isLimit_any (lim : Int) X)
  rw [show decide (1 ≤ (lim : Int) ∧ (lim : Int) ≤ 2000) = true from decide_eq_true (by omega)] at L
  have HD := Lib.hid hds
  clear h hds
  have N := Lib.hid (fun X => needed_nat pre per ds.length X (by omega) (by omega) (by omega))
  go_enter Try.func22, Try.ntmps22
  go_wp2_with fail
  refine R.out.mono ?_
  rintro e w1 ⟨v, rfl, ho, hb⟩
  obtain ⟨g, c, rfl, hns⟩ := own_some ho l1
  have RW := Lib.hid (row_any ds g c lim w1 hns (by omega) HD.out h2)
  have HB := Lib.hid hb
  clear hb ho hns R
  have FBB := Lib.hid (fun (p : Option Addr) (c : Nat) (X : World) (hX : NS X p (vals ds (lim + 1))) => firstBreak_any (vals ds (lim + 1)) p c pre per ds.length X hX (by rw [vals_len]; omega) (by rw [vals_len]; omega))
  obtain ⟨m, hml⟩ : ∃ m, ds.length = m := ⟨_, rfl⟩
  rw [hml] at RW FBB l1 l8 N hn ⊢
  have HML := Lib.hid hml
  clear hml
  obtain ⟨nd, hnd⟩ : ∃ n, 2 * pre + 3 * per + m = n := ⟨_, rfl⟩
  rw [hnd] at N
  have hnl : nd ≤ lim := by omega
  have a1 : pre ≤ lim := by omega
  have a2 : per ≤ lim := by omega
  clear hnd hn
  go_wp2_with fail
  refine (L.out w1).mono ?_
  rintro e w2 ⟨rfl, rfl⟩
  go_wp2_with fail
  refine (N.out w1).mono ?_
  rintro e w2 ⟨rfl, rfl⟩
  go_wp2_with fail
  refine RW.out.mono ?_
  rintro e w2 ⟨v, rfl, ho, hb2⟩
  have hlen := vals_len ds (lim + 1)
  obtain ⟨g2, c2, rfl, hns⟩ := own_some ho (by rw [hlen]; omega)
  have F := Lib.hid (FBB.out _ c2 w2 hns)
  rw [hlen] at F ⊢
  have HB2 := Lib.hid (HB.out.trans (hb2.mono HB.out.size))
  clear ho hb2 hns hlen RW FBB
  go_wp2_with fail
  refine F.out.mono ?_
  rintro e w3 ⟨n, b, rfl, hf, hb3⟩
  have HF : Hid ((!b) = true ↔ All (vals ds (lim + 1)) pre per m) := Lib.hid (by
    cases b with
    | true => exact ⟨fun h => by simp at h, fun h => absurd (h n (hf.1 rfl).1 (hf.1 rfl).2.1) (hf.1 rfl).2.2.1⟩
    | false => exact ⟨fun _ => (hf.2 rfl).2, fun _ => rfl⟩)
  have HB3 := Lib.hid (HB2.out.trans (hb3.mono HB2.out.size))
  clear hf hb3 F
  go_wp2_with fail
  go_ret
  exact ⟨_, rfl, by rw [HML.out]; exact HF.out, HB3.out⟩
end Go.Proofs.Ytodnfchkkgoabaa
