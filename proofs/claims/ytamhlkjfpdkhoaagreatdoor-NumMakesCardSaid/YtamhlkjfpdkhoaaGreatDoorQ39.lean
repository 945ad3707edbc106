import Derived.Test.YtamhlkjfpdkhoaaGreatDoorQ31
import Derived.Test.YtamhlkjfpdkhoaaGreatDoorQ33
import Derived.Test.YtamhlkjfpdkhoaaGreatDoorQ35
import Derived.Test.YtamhlkjfpdkhoaaGreatDoorQ38
import Derived.Outline
/- WALK of awake. -/
namespace Go.Proofs.YtamhlkjfpdkhoaaGreatDoor
open Go.RowKit

theorem pr_two : Pr 2 := ⟨by omega, fun d hd => by
  have := Nat.le_of_dvd (by omega) hd
  have : d ≠ 0 := fun h => by subst h; simp at hd
  omega⟩
theorem pr_three : Pr 3 := ⟨by omega, fun d hd => by
  have := Nat.le_of_dvd (by omega) hd
  have : d ≠ 0 := fun h => by subst h; simp at hd
  have : d ≠ 2 := fun h => by subst h; simp at hd
  omega⟩

theorem Divisors_twelve (w : World) :
    Calls Tryz.prog 77 #[.int .i64 12] w fun e w' => ∃ p c, e = .returned (.tuple #[.slice p 6 c, .int .i64 0]) ∧ Below w.heap.size w w' := by
  refine (Divisors_any [(2, 2), (3, 1)] w ⟨by omega, pr_two, by omega, by omega, pr_three, by omega, trivial⟩ (by decide)).mono ?_
  rintro e w' ⟨g, cap, ds, rfl, hp, _, _, hb⟩
  have hl : ds.length = 6 := by rw [hp.length_eq]; decide
  rw [hl]
  exact ⟨_, _, rfl, hb⟩

theorem Power_ten (w : World) :
    Calls Tryz.prog 69 #[.int .i64 2, .int .i64 10, .int .i64 1000] w fun e w' => e = .returned (.tuple #[.int .i64 24, .int .i64 0]) ∧ Below w.heap.size w w' := by
  refine (Power_any 2 2 10 1000 w (by decide) (by omega) (by omega) (by omega)).mono ?_
  rintro e w' ⟨rfl, hd⟩
  exact ⟨rfl, hd.below _⟩

set_option maxRecDepth 1000000 in
set_option maxHeartbeats 2000000 in
theorem awake_any (w : World) : Calls Tryz.prog 27 #[] w fun e w' => e = .returned (.bool true) ∧ Below w.heap.size w w' := by
  have M3 : Hid (∀ W, Calls Tryz.prog 39 #[.int .i64 1, .int .i64 3] W fun e w' => ∃ x, e = .returned (.tuple #[x, .int .i64 0]) ∧ WR w' x false 1 3 ∧ Below W.heap.size W w') := Lib.hid (fun W => Make_pos 1 3 1 1 3 W rfl rfl rfl (by omega) (by omega) (by omega) (by omega) (by omega) (by omega))
  have M6 : Hid (∀ W, Calls Tryz.prog 39 #[.int .i64 1, .int .i64 6] W fun e w' => ∃ x, e = .returned (.tuple #[x, .int .i64 0]) ∧ WR w' x false 1 6 ∧ Below W.heap.size W w') := Lib.hid (fun W => Make_pos 1 6 1 1 6 W rfl rfl rfl (by omega) (by omega) (by omega) (by omega) (by omega) (by omega))
  have AD := Lib.hid Add_half
  have W7 := Lib.hid (fun W => Whole_neg 7 (-7) W (by omega) (by omega) rfl)
  have W2 : Hid (∀ W, Calls Tryz.prog 35 #[.int .i64 2] W fun e w' => ∃ x, e = .returned x ∧ WI w' x false 2 ∧ Below W.heap.size W w') := Lib.hid (fun W => Whole_pos 2 W (by omega) (by omega))
  have DS := Lib.hid Div_seven
  have RS : Hid (∀ W v, WR W v false 1 2 → Calls Tryz.prog 23 #[v] W fun e w' => e = .returned (.string ⟨#[49, 47, 50]⟩) ∧ Below W.heap.size W w') := Lib.hid fun W v h => RString_of v false 1 2 [49] [50] W h (by omega) (by decide) (by decide) (fun W d hd => text_small d 1 [49] W hd (by omega) (by omega) (by rw [Lib.decDigits]; rfl) (by decide) (by decide)) (fun W d hd => text_small d 2 [50] W hd (by omega) (by omega) (by rw [Lib.decDigits]; rfl) (by decide) (by decide))
  have IQ : Hid (∀ W v, WI W v true 4 → Calls Tryz.prog 17 #[v] W fun e w' => e = .returned (.string ⟨#[45, 52]⟩) ∧ Below W.heap.size W w') := Lib.hid fun W v h => IString_of v true 4 [52] W h (by decide) (fun W d hd => text_small d 4 [52] W hd (by omega) (by omega) (by rw [Lib.decDigits]; rfl) (by decide) (by decide))
  have IR : Hid (∀ W v, WI W v false 1 → Calls Tryz.prog 17 #[v] W fun e w' => e = .returned (.string ⟨#[49]⟩) ∧ Below W.heap.size W w') := Lib.hid fun W v h => IString_of v false 1 [49] W h (by decide) (fun W d hd => text_small d 1 [49] W hd (by omega) (by omega) (by rw [Lib.decDigits]; rfl) (by decide) (by decide))
  go_enter Tryz.func27, Tryz.ntmps27
  go_wp2_with fail
  refine (M3.out _).mono ?_
  rintro e w1 ⟨a, rfl, ha, hb⟩
  have B1 := Lib.hid hb
  obtain ⟨da, ea, rfl, ha1, ha2⟩ := ha
  obtain ⟨dap, dal, dac, rfl⟩ := ha1.slice
  obtain ⟨eap, eal, eac, rfl⟩ := ha2.slice
  have A1 := Lib.hid ha1
  have A2 := Lib.hid ha2
  clear ha1 ha2 hb M3
  go_wp2_with fail
  have RA : Hid ((w1.alloc (.cells #[.bool false, .slice dap dal dac, .slice eap eal eac] 45)).heap[w1.heap.size]? = some (.cells #[.bool false, .slice dap dal dac, .slice eap eal eac] 45 (0, 0))) := Lib.hid (heap_alloc_new _ _)
  replace A1 := Lib.hid (A1.out.below ((Below.refl _ _).alloc (Nat.le_refl _) (.cells #[.bool false, .slice dap dal dac, .slice eap eal eac] 45)))
  replace A2 := Lib.hid (A2.out.below ((Below.refl _ _).alloc (Nat.le_refl _) (.cells #[.bool false, .slice dap dal dac, .slice eap eal eac] 45)))
  replace B1 := Lib.hid (B1.out.alloc B1.out.size (.cells #[.bool false, .slice dap dal dac, .slice eap eal eac] 45))
  generalize (w1.alloc (.cells #[.bool false, .slice dap dal dac, .slice eap eal eac] 45)) = v1 at *
  generalize w1.heap.size = gA at *
  refine (M6.out _).mono ?_
  rintro e w2 ⟨b, rfl, hb0, hb⟩
  have B2 := Lib.hid (B1.out.trans (hb.mono B1.out.size))
  replace RA := Lib.hid (Below.row hb (lt_of_row RA.out) RA.out)
  replace A1 := Lib.hid (A1.out.below hb)
  replace A2 := Lib.hid (A2.out.below hb)
  obtain ⟨db, eb, rfl, hb1, hb2⟩ := hb0
  obtain ⟨dbp, dbl, dbc, rfl⟩ := hb1.slice
  obtain ⟨ebp, ebl, ebc, rfl⟩ := hb2.slice
  have C1 := Lib.hid hb1
  have C2 := Lib.hid hb2
  clear hb1 hb2 hb M6 B1
  obtain ⟨k0, k1, k2, _, _, _⟩ := cells3 (rowAlloc (o := .cells #[.bool false, .slice dbp dbl dbc, .slice ebp ebl ebc] 45) RA.out)
  go_wp2_with fail
  clear k0 k1 k2
  replace A1 := Lib.hid (A1.out.below ((Below.refl _ _).alloc (Nat.le_refl _) (.cells #[.bool false, .slice dbp dbl dbc, .slice ebp ebl ebc] 45)))
  replace A2 := Lib.hid (A2.out.below ((Below.refl _ _).alloc (Nat.le_refl _) (.cells #[.bool false, .slice dbp dbl dbc, .slice ebp ebl ebc] 45)))
  replace C1 := Lib.hid (C1.out.below ((Below.refl _ _).alloc (Nat.le_refl _) (.cells #[.bool false, .slice dbp dbl dbc, .slice ebp ebl ebc] 45)))
  replace C2 := Lib.hid (C2.out.below ((Below.refl _ _).alloc (Nat.le_refl _) (.cells #[.bool false, .slice dbp dbl dbc, .slice ebp ebl ebc] 45)))
  replace B2 := Lib.hid (B2.out.alloc B2.out.size (.cells #[.bool false, .slice dbp dbl dbc, .slice ebp ebl ebc] 45))
  clear RA
  generalize (w2.alloc (.cells #[.bool false, .slice dbp dbl dbc, .slice ebp ebl ebc] 45)) = v2 at *
  generalize w2.heap.size = gB at *
  refine (AD.out _ _ _ ⟨_, _, rfl, A1.out, A2.out⟩ ⟨_, _, rfl, C1.out, C2.out⟩).mono ?_
  rintro e w3 ⟨c, rfl, hc0, hb⟩
  have B3 := Lib.hid (B2.out.trans (hb.mono B2.out.size))
  obtain ⟨dc, ec, rfl, hb1, hb2⟩ := hc0
  obtain ⟨dcp, dcl, dcc, rfl⟩ := hb1.slice
  obtain ⟨ecp, ecl, ecc, rfl⟩ := hb2.slice
  replace C1 := Lib.hid hb1
  replace C2 := Lib.hid hb2
  clear hb1 hb2 hb A1 A2 AD B2
  go_wp2_with fail
  have RC : Hid ((w3.alloc (.cells #[.bool false, .slice dcp dcl dcc, .slice ecp ecl ecc] 45)).heap[w3.heap.size]? = some (.cells #[.bool false, .slice dcp dcl dcc, .slice ecp ecl ecc] 45 (0, 0))) := Lib.hid (heap_alloc_new _ _)
  replace C1 := Lib.hid (C1.out.below ((Below.refl _ _).alloc (Nat.le_refl _) (.cells #[.bool false, .slice dcp dcl dcc, .slice ecp ecl ecc] 45)))
  replace C2 := Lib.hid (C2.out.below ((Below.refl _ _).alloc (Nat.le_refl _) (.cells #[.bool false, .slice dcp dcl dcc, .slice ecp ecl ecc] 45)))
  replace B3 := Lib.hid (B3.out.alloc B3.out.size (.cells #[.bool false, .slice dcp dcl dcc, .slice ecp ecl ecc] 45))
  generalize (w3.alloc (.cells #[.bool false, .slice dcp dcl dcc, .slice ecp ecl ecc] 45)) = v3 at *
  generalize w3.heap.size = gC at *
  refine (W7.out _).mono ?_
  rintro e w4 ⟨y, rfl, hy, hb⟩
  have B4 := Lib.hid (B3.out.trans (hb.mono B3.out.size))
  replace RC := Lib.hid (Below.row hb (lt_of_row RC.out) RC.out)
  replace C1 := Lib.hid (C1.out.below hb)
  replace C2 := Lib.hid (C2.out.below hb)
  have Y := Lib.hid hy
  clear hy hb W7 B3
  go_wp2_with fail
  refine (W2.out _).mono ?_
  rintro e w5 ⟨z, rfl, hz, hb⟩
  have B5 := Lib.hid (B4.out.trans (hb.mono B4.out.size))
  replace RC := Lib.hid (Below.row hb (lt_of_row RC.out) RC.out)
  replace C1 := Lib.hid (C1.out.below hb)
  replace C2 := Lib.hid (C2.out.below hb)
  replace Y := Lib.hid (Y.out.below hb)
  have Z := Lib.hid hz
  clear hz hb W2 B4
  go_wp2_with fail
  refine (DS.out _ _ _ Y.out Z.out).mono ?_
  rintro e w6 ⟨q, r, rfl, ⟨dq, rfl, hq⟩, ⟨dr, rfl, hr⟩, hb⟩
  have B6 := Lib.hid (B5.out.trans (hb.mono B5.out.size))
  replace RC := Lib.hid (Below.row hb (lt_of_row RC.out) RC.out)
  replace C1 := Lib.hid (C1.out.below hb)
  replace C2 := Lib.hid (C2.out.below hb)
  obtain ⟨qp, ql, qc, rfl⟩ := hq.slice
  obtain ⟨rp, rl, rc, rfl⟩ := hr.slice
  have Q := Lib.hid hq
  have R := Lib.hid hr
  clear hq hr hb DS B5 Y Z
  go_wp2_with fail
  have LQ := ((LayX.nil w6).push #[.bool true, .slice qp ql qc] 31).push #[.bool false, .slice rp rl rc] 31
  have RQ := Lib.hid (LQ.1.row 0 w6.heap.size rfl rfl)
  have RR := Lib.hid (LQ.1.row 1 (w6.heap.size + 1) rfl rfl)
  have hb := LQ.1.2
  have B7 := Lib.hid (B6.out.trans (hb.mono B6.out.size))
  replace RC := Lib.hid (Below.row hb (lt_of_row RC.out) RC.out)
  replace C1 := Lib.hid (C1.out.below hb)
  replace C2 := Lib.hid (C2.out.below hb)
  replace Q := Lib.hid (Q.out.below hb)
  replace R := Lib.hid (R.out.below hb)
  clear hb LQ B6
  generalize ((w6.alloc (.cells #[.bool true, .slice qp ql qc] 31)).alloc (.cells #[.bool false, .slice rp rl rc] 31)) = v6 at *
  generalize hgR : w6.heap.size + 1 = gR at *
  generalize w6.heap.size = gQ at *
  clear hgR
  refine (Power_ten _).mono ?_
  rintro e w7 ⟨rfl, hb⟩
  have B8 := Lib.hid (B7.out.trans (hb.mono B7.out.size))
  replace RC := Lib.hid (Below.row hb (lt_of_row RC.out) RC.out)
  replace RQ := Lib.hid (Below.row hb (lt_of_row RQ.out) RQ.out)
  replace RR := Lib.hid (Below.row hb (lt_of_row RR.out) RR.out)
  replace C1 := Lib.hid (C1.out.below hb)
  replace C2 := Lib.hid (C2.out.below hb)
  replace Q := Lib.hid (Q.out.below hb)
  replace R := Lib.hid (R.out.below hb)
  clear hb B7
  go_wp2_with fail
  refine (Symbol_three _).mono ?_
  rintro e w8 ⟨rfl, hb⟩
  have B9 := Lib.hid (B8.out.trans (hb.mono B8.out.size))
  replace RC := Lib.hid (Below.row hb (lt_of_row RC.out) RC.out)
  replace RQ := Lib.hid (Below.row hb (lt_of_row RQ.out) RQ.out)
  replace RR := Lib.hid (Below.row hb (lt_of_row RR.out) RR.out)
  replace C1 := Lib.hid (C1.out.below hb)
  replace C2 := Lib.hid (C2.out.below hb)
  replace Q := Lib.hid (Q.out.below hb)
  replace R := Lib.hid (R.out.below hb)
  clear hb B8
  go_wp2_with fail
  refine (Divisors_twelve _).mono ?_
  rintro e w9 ⟨dvp, dvc, rfl, hb⟩
  have B10 := Lib.hid (B9.out.trans (hb.mono B9.out.size))
  replace RC := Lib.hid (Below.row hb (lt_of_row RC.out) RC.out)
  replace RQ := Lib.hid (Below.row hb (lt_of_row RQ.out) RQ.out)
  replace RR := Lib.hid (Below.row hb (lt_of_row RR.out) RR.out)
  replace C1 := Lib.hid (C1.out.below hb)
  replace C2 := Lib.hid (C2.out.below hb)
  replace Q := Lib.hid (Q.out.below hb)
  replace R := Lib.hid (R.out.below hb)
  clear hb B9
  obtain ⟨c0, c1, c2, _, _, _⟩ := cells3 RC.out
  obtain ⟨q0, q1, _, _⟩ := cells2 RQ.out
  obtain ⟨r0, r1, _, _⟩ := cells2 RR.out
  go_wp2_with fail
  refine (RS.out _ _ ⟨_, _, rfl, C1.out, C2.out⟩).mono ?_
  rintro e w10 ⟨rfl, hb⟩
  have B11 := Lib.hid (B10.out.trans (hb.mono B10.out.size))
  replace RQ := Lib.hid (Below.row hb (lt_of_row RQ.out) RQ.out)
  replace RR := Lib.hid (Below.row hb (lt_of_row RR.out) RR.out)
  replace Q := Lib.hid (Q.out.below hb)
  replace R := Lib.hid (R.out.below hb)
  clear hb B10 c0 c1 c2 q0 q1 r0 r1 RC C1 C2
  obtain ⟨q0, q1, _, _⟩ := cells2 RQ.out
  go_wp2_with fail
  refine (IQ.out _ _ ⟨_, rfl, Q.out⟩).mono ?_
  rintro e w11 ⟨rfl, hb⟩
  have B12 := Lib.hid (B11.out.trans (hb.mono B11.out.size))
  replace RR := Lib.hid (Below.row hb (lt_of_row RR.out) RR.out)
  replace R := Lib.hid (R.out.below hb)
  clear hb B11 q0 q1 RQ Q
  obtain ⟨r0, r1, _, _⟩ := cells2 RR.out
  go_wp2_with fail
  refine (IR.out _ _ ⟨_, rfl, R.out⟩).mono ?_
  rintro e w12 ⟨rfl, hb⟩
  have B13 := Lib.hid (B12.out.trans (hb.mono B12.out.size))
  clear hb B12 r0 r1 RR R
  go_wp2_with fail
  go_ret
  exact ⟨rfl, B13.out⟩
end Go.Proofs.YtamhlkjfpdkhoaaGreatDoor

/- WALK of the law NumMakes. -/
set_option linter.unusedVariables false
namespace Go.Proofs.YtamhlkjfpdkhoaaGreatDoor
open Go.RowKit

theorem WZ.fits {w : World} {v : Value} {z : Int} {K K' : Nat} (h : WZ w v z K) (hn : z.natAbs < B64 ^ K') : WZ w v z K' := by
  obtain ⟨d, h1, h2⟩ := h; exact ⟨d, h1, h2.fit hn⟩

theorem sOfM {Y W : World} {x y z : Value} {t : TypeId} {g : Nat} (h0 : Y.heap[g]? = some (.cells #[x, y, z] t (0, 0))) (h : Below Y.heap.size Y W) :
    (W.cell? ⟨g, 0, none⟩ = some x ∧ W.cell? ⟨g, 1, none⟩ = some y ∧ W.cell? ⟨g, 2, none⟩ = some z) ∧ Hid (Below Y.heap.size Y W) := by
  have h1 := cells3 (Below.row h (lt_of_row h0) h0)
  exact ⟨⟨h1.1, h1.2.1, h1.2.2.1⟩, Lib.hid h⟩

set_option maxRecDepth 100000 in
set_option maxHeartbeats 4000000 in
theorem makes_any (m n : Int) (w : World) (hm1 : -9223372036854775808 ≤ m) (hm2 : m < 9223372036854775808) (hn1 : -9223372036854775808 ≤ n) (hn2 : n < 9223372036854775808) (ht : Tab w) :
    Calls Tryz.prog 4 #[.int .i64 m, .int .i64 n] w fun e w' => e = .returned (.bool true) ∧ Below w.heap.size w w' := by
  have WM := Lib.hid (fun W => Whole_all m W hm1 hm2)
  have OM := Lib.hid (fun W => Of_ref m W hm1 hm2)
  have ON := Lib.hid (fun W => Of_ref n W hn1 hn2)
  have FM := Lib.hid (fun W => Of_all m (decide (m < 0)) m.natAbs 1 W (fun W => Whole_all m W hm1 hm2))
  have AW := Lib.hid awake_any
  have hmB : m.natAbs < 10000000000000000000 := by omega
  have hms : m.natAbs = 0 → decide (m < 0) = false := by intro h; simp; omega
  have WL := Lib.hid (fun u v W (hu : WZ W u m 1) (hv : RZ W v m 3) (ht : Tab W) => whole_law u v (decide (m < 0)) m.natAbs 3 W hu hv hms hmB (by decide) ht)
  have RS1 := Lib.hid (fun v W (hv : WQ W v (decide (m < 0)) m.natAbs 0 1) (ht : Tab W) => by have h := RString_any v (decide (m < 0)) m.natAbs 0 W hv hmB (by decide) ht; rw [if_pos rfl] at h; exact h)
  have RS2 := Lib.hid (fun v W (hv : RZ W v m 3) => String_any v (decide (m < 0)) m.natAbs 3 W hv hms (by decide))
  have HT := Lib.hid ht
  go_enter Tryz.func4, Tryz.ntmps4
  go_wp2_with fail
  refine (WM.out _).mono ?_
  rintro _ w1 ⟨x1, rfl, hx, hb⟩
  have X1 := Lib.hid hx
  have B1 := Lib.hid hb
  clear hx hb
  go_wp2_with fail
  refine (OM.out _).mono ?_
  rintro _ w2 ⟨z1, rfl, hz, hb⟩
  have Z1 := Lib.hid hz
  have X2 := Lib.hid (X1.out.below hb)
  have B2 := Lib.hid (B1.out.trans (hb.mono B1.out.size))
  clear hz hb X1 B1
  go_wp2_with fail
  refine (WL.out _ _ _ X2.out Z1.out (HT.out.below B2.out)).mono ?_
  rintro _ w3 ⟨rfl, hb⟩
  have B3 := Lib.hid (B2.out.trans (hb.mono B2.out.size))
  clear hb B2 X2 Z1 WL
  go_wp2_with fail
  refine (FM.out _).mono ?_
  rintro _ w4 ⟨f1, rfl, hf, hb⟩
  have F1 := Lib.hid hf
  have B4 := Lib.hid (B3.out.trans (hb.mono B3.out.size))
  clear hf hb B3
  go_wp2_with fail
  refine (RS1.out _ _ F1.out (HT.out.below B4.out)).mono ?_
  rintro _ w5 ⟨rfl, hb⟩
  have B5 := Lib.hid (B4.out.trans (hb.mono B4.out.size))
  clear hb B4 F1
  go_wp2_with fail
  refine (OM.out _).mono ?_
  rintro _ w6 ⟨z2, rfl, hz, hb⟩
  have Z2 := Lib.hid hz
  have B6 := Lib.hid (B5.out.trans (hb.mono B5.out.size))
  clear hz hb B5
  go_wp2_with fail
  refine (RS2.out _ _ Z2.out).mono ?_
  rintro _ w7 ⟨rfl, hb⟩
  have B7 := Lib.hid (B6.out.trans (hb.mono B6.out.size))
  clear hb B6 Z2 RS1 RS2 FM
  have e0 : ((sdec (decide (m < 0)) m.natAbs).toArray == (sdec (decide (m < 0)) m.natAbs).toArray) = true := by simp
  go_wp2_with fail
  by_cases hn0 : n = 0
  · subst hn0
    have MZ := Lib.hid (fun W => Make_zero m (decide (m < 0)) m.natAbs W hm1 hm2 rfl rfl)
    have SG := Lib.hid (fun W => RSign_all (.agg #[.bool false, .slice none 0 0, .slice none 0 0]) false 0 0 1 W ⟨_, _, rfl, DN.nil _ _, DN.nil _ _⟩ (fun _ => rfl))
    refine (MZ.out _).mono ?_
    rintro _ w8 ⟨rfl, hb⟩
    have B8 := Lib.hid (B7.out.trans (hb.mono B7.out.size))
    clear hb B7 MZ
    have R8 : Hid ((w8.alloc (.cells #[.bool false, .slice none 0 0, .slice none 0 0] 45)).heap[w8.heap.size]? = some (.cells #[.bool false, .slice none 0 0, .slice none 0 0] 45 (0, 0))) := Lib.hid (heap_alloc_new _ _)
    have BA := Lib.hid (B8.out.alloc B8.out.size (.cells #[.bool false, .slice none 0 0, .slice none 0 0] 45))
    go_wp2_with fail
    refine (SG.out _).mono ?_
    rintro _ w9 ⟨rfl, hb⟩
    have B9 := Lib.hid (BA.out.trans (hb.mono BA.out.size))
    clear hb BA SG
    go_wp2_with fail
    refine (AW.out _).mono ?_
    rintro _ w10 ⟨rfl, hb⟩
    have B10 := Lib.hid (B9.out.trans (hb.mono B9.out.size))
    clear hb B9
    go_wp2_with fail
    go_ret
    exact ⟨rfl, B10.out⟩
  · obtain ⟨g, hg⟩ : ∃ g, Nat.gcd m.natAbs n.natAbs = g := ⟨_, rfl⟩
    obtain ⟨a, ha⟩ : ∃ a, m.natAbs / g = a := ⟨_, rfl⟩
    obtain ⟨b, hb⟩ : ∃ b, n.natAbs / g = b := ⟨_, rfl⟩
    have hnp : 0 < n.natAbs := by omega
    have hg0 : 0 < g := by rw [← hg]; exact Nat.gcd_pos_of_pos_right _ hnp
    have hb0 : 0 < b := by rw [← hb]; exact Nat.div_pos (by rw [← hg]; exact Nat.gcd_le_right _ hnp) hg0
    have hal : a ≤ m.natAbs := by rw [← ha]; exact Nat.div_le_self _ _
    have hbl : b ≤ n.natAbs := by rw [← hb]; exact Nat.div_le_self _ _
    obtain ⟨s0, hs0⟩ : ∃ s0, ((decide (m < 0) != decide (n < 0)) && decide (0 < a)) = s0 := ⟨_, rfl⟩
    have MK := fun W => Make_all m n (decide (m < 0)) (decide (n < 0)) m.natAbs n.natAbs g a b W hm1 hm2 hn1 hn2 rfl rfl rfl rfl hg ha hb hnp
    have RT := fun u v W (hu : RZ W u m 3) (hv : RZ W v n 3) => Ratio_ref u v (decide (m < 0)) (decide (n < 0)) m.natAbs n.natAbs g a b 3 W hu hv hnp hg ha hb (by decide)
    rw [hs0] at RT
    simp only [hs0] at MK
    have hs1 : a = 0 → s0 = false := by intro h; rw [← hs0, h]; simp
    have IS := fun u v W (hu : WQ W u s0 a (short b) 1) (hv : RQ W v s0 a b 3) (ht : Tab W) => is_law u v s0 a b 3 W hu hv hs1 (by omega) hb0 (by omega) (by decide) (by decide) ht
    have FT : Hid (a < B64 ^ 1 ∧ short b < B64 ^ 1) := Lib.hid (by
      rw [Nat.pow_one]
      unfold B64 short
      split <;> omega)
    replace MK := Lib.hid MK
    replace RT := Lib.hid RT
    replace IS := Lib.hid IS
    clear hs0 hg ha hb hal hbl hs1 hnp hg0
    refine (MK.out _).mono ?_
    rintro _ w8 ⟨x, rfl, hx, hb⟩
    have hx := hx.fit FT.out.1 FT.out.2
    obtain ⟨d1, d2, rfl, hd1, hd2⟩ := hx
    obtain ⟨p1, l1, c1, rfl⟩ := hd1.slice
    obtain ⟨p2, l2, c2, rfl⟩ := hd2.slice
    have B8 := Lib.hid (B7.out.trans (hb.mono B7.out.size))
    have RA : Hid ((w8.alloc (.cells #[.bool s0, .slice p1 l1 c1, .slice p2 l2 c2] 45)).heap[w8.heap.size]? = some (.cells #[.bool s0, .slice p1 l1 c1, .slice p2 l2 c2] 45 (0, 0))) := Lib.hid (heap_alloc_new _ _)
    have BA := Lib.hid (B8.out.alloc B8.out.size (.cells #[.bool s0, .slice p1 l1 c1, .slice p2 l2 c2] 45))
    have BW := Lib.hid ((Below.refl w8.heap.size w8).alloc (Nat.le_refl _) (.cells #[.bool s0, .slice p1 l1 c1, .slice p2 l2 c2] 45))
    have D1 := Lib.hid (hd1.below BW.out)
    have D2 := Lib.hid (hd2.below BW.out)
    clear hb B7 MK hd1 hd2 B8 BW
    go_wp2_with fail
    generalize w8.alloc (.cells #[.bool s0, .slice p1 l1 c1, .slice p2 l2 c2] 45) = Y0 at *
    have RY : Hid (Y0.drew.heap[w8.heap.size]? = some (.cells #[.bool s0, .slice p1 l1 c1, .slice p2 l2 c2] 45 (0, 0))) := RA
    have BY : Hid (Below w.heap.size w Y0.drew) := Lib.hid BA.out.drew
    have E1 : Hid (DN Y0.drew (.slice p1 l1 c1) a 1) := Lib.hid (D1.out.below ((Below.refl _ _).drew))
    have E2 : Hid (DN Y0.drew (.slice p2 l2 c2) (short b) 1) := Lib.hid (D2.out.below ((Below.refl _ _).drew))
    clear D1 D2 RA BA
    go_region_held3 (fun W => (W.cell? ⟨w8.heap.size, 0, none⟩ = some (.bool s0) ∧ W.cell? ⟨w8.heap.size, 1, none⟩ = some (.slice p1 l1 c1) ∧ W.cell? ⟨w8.heap.size, 2, none⟩ = some (.slice p2 l2 c2)) ∧ Hid (Below Y0.drew.heap.size Y0.drew W)) (first | exact sOfM RY.out C5.out | exact sOfM RY.out C4.out | exact sOfM RY.out C3.out | exact sOfM RY.out C2.out | exact sOfM RY.out C1.out | exact sOfM RY.out (Below.refl _ _)) (first
      | (go_at_call_of 36 (Value.int .i64 m); refine (OM.out _).mono ?_; rintro e u1 ⟨y1, rfl, hz, hb⟩; have Y1 := Lib.hid hz; have C1 : Hid (Below Y0.drew.heap.size Y0.drew u1) := Lib.hid hb; clear hz hb)
      | (go_at_call_of 36 (Value.int .i64 n); refine (ON.out _).mono ?_; rintro e u2 ⟨y2, rfl, hz, hb⟩; replace Y1 := Lib.hid (Y1.out.below hb); have Y2 := Lib.hid hz; have C2 : Hid (Below Y0.drew.heap.size Y0.drew u2) := Lib.hid (bel_step hb C1.out); clear hz hb)
      | (go_at_call 40; refine (RT.out _ _ _ Y1.out Y2.out).mono ?_; rintro e u3 ⟨y3, rfl, hz, hb⟩; have Y3 := Lib.hid hz; have C3 : Hid (Below Y0.drew.heap.size Y0.drew u3) := Lib.hid (bel_step hb C2.out); clear hz hb)
      | (go_at_call 31; refine (IS.out _ _ _ ⟨_, _, rfl, E1.out.below C3.out, E2.out.below C3.out⟩ Y3.out (HT.out.below (BY.out.trans (C3.out.mono BY.out.size)))).mono ?_; rintro e u4 ⟨rfl, hb⟩; have C4 : Hid (Below Y0.drew.heap.size Y0.drew u4) := Lib.hid (bel_step hb C3.out); clear hb)
      | (go_at_call 27; refine (AW.out _).mono ?_; rintro e u5 ⟨rfl, hb⟩; have C5 : Hid (Below Y0.drew.heap.size Y0.drew u5) := Lib.hid (bel_step hb C4.out); clear hb))
    all_goals (go_wp2; go_ret; exact ⟨rfl, BY.out.trans (C5.out.mono BY.out.size)⟩)
end Go.Proofs.YtamhlkjfpdkhoaaGreatDoor
