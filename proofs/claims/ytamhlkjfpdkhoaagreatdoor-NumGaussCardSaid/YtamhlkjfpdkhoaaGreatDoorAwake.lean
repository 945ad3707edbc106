/- WALK of awake. -/
import Derived.Test.YtamhlkjfpdkhoaaGreatDoorAdd
import Derived.Test.YtamhlkjfpdkhoaaGreatDoorStr
import Derived.Test.YtamhlkjfpdkhoaaGreatDoorSev
import Derived.Outline
namespace Go.Proofs.YtamhlkjfpdkhoaaGreatDoor
open Go.RowKit

theorem pr_two : Pr 2 := ⟨by omega, fun d hd => by
  have := Nat.le_of_dvd (by omega) hd
  have : d ≠ 0 := fun h => by subst h; simp at hd
  omega⟩
theorem pr_three : Pr 3 := ⟨by omega, fun d hd => by
  have := Nat.le_of_dvd (by omega) hd
  have : d ≠ 0 := fun h => by subst h; simp at hd
  have : d ≠ 2 := fun h => by subst h; simp at hd
  omega⟩

theorem Divisors_twelve (w : World) :
    Calls Tryz.prog 77 #[.int .i64 12] w fun e w' => ∃ p c, e = .returned (.tuple #[.slice p 6 c, .int .i64 0]) ∧ Below w.heap.size w w' := by
  refine (Divisors_any [(2, 2), (3, 1)] w ⟨by omega, pr_two, by omega, by omega, pr_three, by omega, trivial⟩ (by decide)).mono ?_
  rintro e w' ⟨g, cap, ds, rfl, hp, _, _, hb⟩
  have hl : ds.length = 6 := by rw [hp.length_eq]; decide
  rw [hl]
  exact ⟨_, _, rfl, hb⟩

theorem Power_ten (w : World) :
    Calls Tryz.prog 69 #[.int .i64 2, .int .i64 10, .int .i64 1000] w fun e w' => e = .returned (.tuple #[.int .i64 24, .int .i64 0]) ∧ Below w.heap.size w w' := by
  refine (Power_any 2 2 10 1000 w (by decide) (by omega) (by omega) (by omega)).mono ?_
  rintro e w' ⟨rfl, hd⟩
  exact ⟨rfl, hd.below _⟩

set_option maxRecDepth 1000000 in
set_option maxHeartbeats 2000000 in
theorem awake_any (w : World) : Calls Tryz.prog 27 #[] w fun e w' => e = .returned (.bool true) ∧ Below w.heap.size w w' := by
  have M3 : Hid (∀ W, Calls Tryz.prog 39 #[.int .i64 1, .int .i64 3] W fun e w' => ∃ x, e = .returned (.tuple #[x, .int .i64 0]) ∧ WR w' x false 1 3 ∧ Below W.heap.size W w') := Lib.hid (fun W => Make_pos 1 3 1 1 3 W rfl rfl rfl (by omega) (by omega) (by omega) (by omega) (by omega) (by omega))
  have M6 : Hid (∀ W, Calls Tryz.prog 39 #[.int .i64 1, .int .i64 6] W fun e w' => ∃ x, e = .returned (.tuple #[x, .int .i64 0]) ∧ WR w' x false 1 6 ∧ Below W.heap.size W w') := Lib.hid (fun W => Make_pos 1 6 1 1 6 W rfl rfl rfl (by omega) (by omega) (by omega) (by omega) (by omega) (by omega))
  have AD := Lib.hid Add_half
  have W7 := Lib.hid (fun W => Whole_neg 7 (-7) W (by omega) (by omega) rfl)
  have W2 : Hid (∀ W, Calls Tryz.prog 35 #[.int .i64 2] W fun e w' => ∃ x, e = .returned x ∧ WI w' x false 2 ∧ Below W.heap.size W w') := Lib.hid (fun W => Whole_pos 2 W (by omega) (by omega))
  have DS := Lib.hid Div_seven
  have RS : Hid (∀ W v, WR W v false 1 2 → Calls Tryz.prog 23 #[v] W fun e w' => e = .returned (.string ⟨#[49, 47, 50]⟩) ∧ Below W.heap.size W w') := Lib.hid fun W v h => RString_of v false 1 2 [49] [50] W h (by omega) (by decide) (by decide) (fun W d hd => text_small d 1 [49] W hd (by omega) (by omega) (by rw [Lib.decDigits]; rfl) (by decide) (by decide)) (fun W d hd => text_small d 2 [50] W hd (by omega) (by omega) (by rw [Lib.decDigits]; rfl) (by decide) (by decide))
  have IQ : Hid (∀ W v, WI W v true 4 → Calls Tryz.prog 17 #[v] W fun e w' => e = .returned (.string ⟨#[45, 52]⟩) ∧ Below W.heap.size W w') := Lib.hid fun W v h => IString_of v true 4 [52] W h (by decide) (fun W d hd => text_small d 4 [52] W hd (by omega) (by omega) (by rw [Lib.decDigits]; rfl) (by decide) (by decide))
  have IR : Hid (∀ W v, WI W v false 1 → Calls Tryz.prog 17 #[v] W fun e w' => e = .returned (.string ⟨#[49]⟩) ∧ Below W.heap.size W w') := Lib.hid fun W v h => IString_of v false 1 [49] W h (by decide) (fun W d hd => text_small d 1 [49] W hd (by omega) (by omega) (by rw [Lib.decDigits]; rfl) (by decide) (by decide))
  go_enter Tryz.func27, Tryz.ntmps27
  go_wp2_with fail
  refine (M3.out _).mono ?_
  rintro e w1 ⟨a, rfl, ha, hb⟩
  have B1 := Lib.hid hb
  obtain ⟨da, ea, rfl, ha1, ha2⟩ := ha
  obtain ⟨dap, dal, dac, rfl⟩ := ha1.slice
  obtain ⟨eap, eal, eac, rfl⟩ := ha2.slice
  have A1 := Lib.hid ha1
  have A2 := Lib.hid ha2
  clear ha1 ha2 hb M3
  go_wp2_with fail
  have RA : Hid ((w1.alloc (.cells #[.bool false, .slice dap dal dac, .slice eap eal eac] 45)).heap[w1.heap.size]? = some (.cells #[.bool false, .slice dap dal dac, .slice eap eal eac] 45 (0, 0))) := Lib.hid (heap_alloc_new _ _)
  replace A1 := Lib.hid (A1.out.below ((Below.refl _ _).alloc (Nat.le_refl _) (.cells #[.bool false, .slice dap dal dac, .slice eap eal eac] 45)))
  replace A2 := Lib.hid (A2.out.below ((Below.refl _ _).alloc (Nat.le_refl _) (.cells #[.bool false, .slice dap dal dac, .slice eap eal eac] 45)))
  replace B1 := Lib.hid (B1.out.alloc B1.out.size (.cells #[.bool false, .slice dap dal dac, .slice eap eal eac] 45))
  generalize (w1.alloc (.cells #[.bool false, .slice dap dal dac, .slice eap eal eac] 45)) = v1 at *
  generalize w1.heap.size = gA at *
  refine (M6.out _).mono ?_
  rintro e w2 ⟨b, rfl, hb0, hb⟩
  have B2 := Lib.hid (B1.out.trans (hb.mono B1.out.size))
  replace RA := Lib.hid (Below.row hb (lt_of_row RA.out) RA.out)
  replace A1 := Lib.hid (A1.out.below hb)
  replace A2 := Lib.hid (A2.out.below hb)
  obtain ⟨db, eb, rfl, hb1, hb2⟩ := hb0
  obtain ⟨dbp, dbl, dbc, rfl⟩ := hb1.slice
  obtain ⟨ebp, ebl, ebc, rfl⟩ := hb2.slice
  have C1 := Lib.hid hb1
  have C2 := Lib.hid hb2
  clear hb1 hb2 hb M6 B1
  obtain ⟨k0, k1, k2, _, _, _⟩ := cells3 (rowAlloc (o := .cells #[.bool false, .slice dbp dbl dbc, .slice ebp ebl ebc] 45) RA.out)
  go_wp2_with fail
  clear k0 k1 k2
  replace A1 := Lib.hid (A1.out.below ((Below.refl _ _).alloc (Nat.le_refl _) (.cells #[.bool false, .slice dbp dbl dbc, .slice ebp ebl ebc] 45)))
  replace A2 := Lib.hid (A2.out.below ((Below.refl _ _).alloc (Nat.le_refl _) (.cells #[.bool false, .slice dbp dbl dbc, .slice ebp ebl ebc] 45)))
  replace C1 := Lib.hid (C1.out.below ((Below.refl _ _).alloc (Nat.le_refl _) (.cells #[.bool false, .slice dbp dbl dbc, .slice ebp ebl ebc] 45)))
  replace C2 := Lib.hid (C2.out.below ((Below.refl _ _).alloc (Nat.le_refl _) (.cells #[.bool false, .slice dbp dbl dbc, .slice ebp ebl ebc] 45)))
  replace B2 := Lib.hid (B2.out.alloc B2.out.size (.cells #[.bool false, .slice dbp dbl dbc, .slice ebp ebl ebc] 45))
  clear RA
  generalize (w2.alloc (.cells #[.bool false, .slice dbp dbl dbc, .slice ebp ebl ebc] 45)) = v2 at *
  generalize w2.heap.size = gB at *
  refine (AD.out _ _ _ ⟨_, _, rfl, A1.out, A2.out⟩ ⟨_, _, rfl, C1.out, C2.out⟩).mono ?_
  rintro e w3 ⟨c, rfl, hc0, hb⟩
  have B3 := Lib.hid (B2.out.trans (hb.mono B2.out.size))
  obtain ⟨dc, ec, rfl, hb1, hb2⟩ := hc0
  obtain ⟨dcp, dcl, dcc, rfl⟩ := hb1.slice
  obtain ⟨ecp, ecl, ecc, rfl⟩ := hb2.slice
  replace C1 := Lib.hid hb1
  replace C2 := Lib.hid hb2
  clear hb1 hb2 hb A1 A2 AD B2
  go_wp2_with fail
  have RC : Hid ((w3.alloc (.cells #[.bool false, .slice dcp dcl dcc, .slice ecp ecl ecc] 45)).heap[w3.heap.size]? = some (.cells #[.bool false, .slice dcp dcl dcc, .slice ecp ecl ecc] 45 (0, 0))) := Lib.hid (heap_alloc_new _ _)
  replace C1 := Lib.hid (C1.out.below ((Below.refl _ _).alloc (Nat.le_refl _) (.cells #[.bool false, .slice dcp dcl dcc, .slice ecp ecl ecc] 45)))
  replace C2 := Lib.hid (C2.out.below ((Below.refl _ _).alloc (Nat.le_refl _) (.cells #[.bool false, .slice dcp dcl dcc, .slice ecp ecl ecc] 45)))
  replace B3 := Lib.hid (B3.out.alloc B3.out.size (.cells #[.bool false, .slice dcp dcl dcc, .slice ecp ecl ecc] 45))
  generalize (w3.alloc (.cells #[.bool false, .slice dcp dcl dcc, .slice ecp ecl ecc] 45)) = v3 at *
  generalize w3.heap.size = gC at *
  refine (W7.out _).mono ?_
  rintro e w4 ⟨y, rfl, hy, hb⟩
  have B4 := Lib.hid (B3.out.trans (hb.mono B3.out.size))
  replace RC := Lib.hid (Below.row hb (lt_of_row RC.out) RC.out)
  replace C1 := Lib.hid (C1.out.below hb)
  replace C2 := Lib.hid (C2.out.below hb)
  have Y := Lib.hid hy
  clear hy hb W7 B3
  go_wp2_with fail
  refine (W2.out _).mono ?_
  rintro e w5 ⟨z, rfl, hz, hb⟩
  have B5 := Lib.hid (B4.out.trans (hb.mono B4.out.size))
  replace RC := Lib.hid (Below.row hb (lt_of_row RC.out) RC.out)
  replace C1 := Lib.hid (C1.out.below hb)
  replace C2 := Lib.hid (C2.out.below hb)
  replace Y := Lib.hid (Y.out.below hb)
  have Z := Lib.hid hz
  clear hz hb W2 B4
  go_wp2_with fail
  refine (DS.out _ _ _ Y.out Z.out).mono ?_
  rintro e w6 ⟨q, r, rfl, ⟨dq, rfl, hq⟩, ⟨dr, rfl, hr⟩, hb⟩
  have B6 := Lib.hid (B5.out.trans (hb.mono B5.out.size))
  replace RC := Lib.hid (Below.row hb (lt_of_row RC.out) RC.out)
  replace C1 := Lib.hid (C1.out.below hb)
  replace C2 := Lib.hid (C2.out.below hb)
  obtain ⟨qp, ql, qc, rfl⟩ := hq.slice
  obtain ⟨rp, rl, rc, rfl⟩ := hr.slice
  have Q := Lib.hid hq
  have R := Lib.hid hr
  clear hq hr hb DS B5 Y Z
  go_wp2_with fail
  have LQ := ((LayX.nil w6).push #[.bool true, .slice qp ql qc] 31).push #[.bool false, .slice rp rl rc] 31
  have RQ := Lib.hid (LQ.1.row 0 w6.heap.size rfl rfl)
  have RR := Lib.hid (LQ.1.row 1 (w6.heap.size + 1) rfl rfl)
  have hb := LQ.1.2
  have B7 := Lib.hid (B6.out.trans (hb.mono B6.out.size))
  replace RC := Lib.hid (Below.row hb (lt_of_row RC.out) RC.out)
  replace C1 := Lib.hid (C1.out.below hb)
  replace C2 := Lib.hid (C2.out.below hb)
  replace Q := Lib.hid (Q.out.below hb)
  replace R := Lib.hid (R.out.below hb)
  clear hb LQ B6
  generalize ((w6.alloc (.cells #[.bool true, .slice qp ql qc] 31)).alloc (.cells #[.bool false, .slice rp rl rc] 31)) = v6 at *
  generalize hgR : w6.heap.size + 1 = gR at *
  generalize w6.heap.size = gQ at *
  clear hgR
  refine (Power_ten _).mono ?_
  rintro e w7 ⟨rfl, hb⟩
  have B8 := Lib.hid (B7.out.trans (hb.mono B7.out.size))
  replace RC := Lib.hid (Below.row hb (lt_of_row RC.out) RC.out)
  replace RQ := Lib.hid (Below.row hb (lt_of_row RQ.out) RQ.out)
  replace RR := Lib.hid (Below.row hb (lt_of_row RR.out) RR.out)
  replace C1 := Lib.hid (C1.out.below hb)
  replace C2 := Lib.hid (C2.out.below hb)
  replace Q := Lib.hid (Q.out.below hb)
  replace R := Lib.hid (R.out.below hb)
  clear hb B7
  go_wp2_with fail
  refine (Symbol_three _).mono ?_
  rintro e w8 ⟨rfl, hb⟩
  have B9 := Lib.hid (B8.out.trans (hb.mono B8.out.size))
  replace RC := Lib.hid (Below.row hb (lt_of_row RC.out) RC.out)
  replace RQ := Lib.hid (Below.row hb (lt_of_row RQ.out) RQ.out)
  replace RR := Lib.hid (Below.row hb (lt_of_row RR.out) RR.out)
  replace C1 := Lib.hid (C1.out.below hb)
  replace C2 := Lib.hid (C2.out.below hb)
  replace Q := Lib.hid (Q.out.below hb)
  replace R := Lib.hid (R.out.below hb)
  clear hb B8
  go_wp2_with fail
  refine (Divisors_twelve _).mono ?_
  rintro e w9 ⟨dvp, dvc, rfl, hb⟩
  have B10 := Lib.hid (B9.out.trans (hb.mono B9.out.size))
  replace RC := Lib.hid (Below.row hb (lt_of_row RC.out) RC.out)
  replace RQ := Lib.hid (Below.row hb (lt_of_row RQ.out) RQ.out)
  replace RR := Lib.hid (Below.row hb (lt_of_row RR.out) RR.out)
  replace C1 := Lib.hid (C1.out.below hb)
  replace C2 := Lib.hid (C2.out.below hb)
  replace Q := Lib.hid (Q.out.below hb)
  replace R := Lib.hid (R.out.below hb)
  clear hb B9
  obtain ⟨c0, c1, c2, _, _, _⟩ := cells3 RC.out
  obtain ⟨q0, q1, _, _⟩ := cells2 RQ.out
  obtain ⟨r0, r1, _, _⟩ := cells2 RR.out
  go_wp2_with fail
  refine (RS.out _ _ ⟨_, _, rfl, C1.out, C2.out⟩).mono ?_
  rintro e w10 ⟨rfl, hb⟩
  have B11 := Lib.hid (B10.out.trans (hb.mono B10.out.size))
  replace RQ := Lib.hid (Below.row hb (lt_of_row RQ.out) RQ.out)
  replace RR := Lib.hid (Below.row hb (lt_of_row RR.out) RR.out)
  replace Q := Lib.hid (Q.out.below hb)
  replace R := Lib.hid (R.out.below hb)
  clear hb B10 c0 c1 c2 q0 q1 r0 r1 RC C1 C2
  obtain ⟨q0, q1, _, _⟩ := cells2 RQ.out
  go_wp2_with fail
  refine (IQ.out _ _ ⟨_, rfl, Q.out⟩).mono ?_
  rintro e w11 ⟨rfl, hb⟩
  have B12 := Lib.hid (B11.out.trans (hb.mono B11.out.size))
  replace RR := Lib.hid (Below.row hb (lt_of_row RR.out) RR.out)
  replace R := Lib.hid (R.out.below hb)
  clear hb B11 q0 q1 RQ Q
  obtain ⟨r0, r1, _, _⟩ := cells2 RR.out
  go_wp2_with fail
  refine (IR.out _ _ ⟨_, rfl, R.out⟩).mono ?_
  rintro e w12 ⟨rfl, hb⟩
  have B13 := Lib.hid (B12.out.trans (hb.mono B12.out.size))
  clear hb B12 r0 r1 RR R
  go_wp2_with fail
  go_ret
  exact ⟨rfl, B13.out⟩
end Go.Proofs.YtamhlkjfpdkhoaaGreatDoor
