/- WALKS of the reference's products and powers. -/
import Derived.Test.YtodnfchkkgoabaaFb
namespace Go.Proofs.Ytodnfchkkgoabaa
open Go.RowKit
open Nim

theorem rtimes_1 (a b : Int) (w : World) (ha0 : 0 ≤ a) (ha : a < 2) (hb0 : 0 ≤ b) (hb : b < 2) :
    Calls Try.prog 57 #[.int .i64 a, .int .i64 b, .int .i64 1] w fun e w' => e = .returned (.int .i64 (nmI 0 a b)) ∧ w = w' := by
  have E : bits .and .i64 a b = nmI 0 a b := by
    have h1 : a = 0 ∨ a = 1 := by omega
    have h2 : b = 0 ∨ b = 1 := by omega
    rcases h1 with rfl | rfl <;> rcases h2 with rfl | rfl <;> decide
  replace E := Lib.hid E
  go_enter Try.func57, Try.ntmps57
  go_wp2_with fail
  go_ret
  exact ⟨ret_int E.out, rfl⟩

set_option maxHeartbeats 400000 in
theorem rtimes_2 (a b : Int) (w : World) (ha0 : 0 ≤ a) (ha : a < 4) (hb0 : 0 ≤ b) (hb : b < 4) :
    Calls Try.prog 57 #[.int .i64 a, .int .i64 b, .int .i64 2] w fun e w' => e = .returned (.int .i64 (nmI 1 a b)) ∧ w = w' := by
  have IHH := Lib.hid rtimes_1
  have E := times_end_2 a b
  have e1 : bits .and .i64 a 1 = a % 2 := and_int 1 (by decide) a (by omega) (by omega)
  have e2 : bits .and .i64 b 1 = b % 2 := and_int 1 (by decide) b (by omega) (by omega)
  have hlim : a % 2 < 2 ∧ b % 2 < 2 ∧ 0 ≤ a % 2 ∧ 0 ≤ b % 2 ∧ 0 ≤ a / 2 ∧ 0 ≤ b / 2 ∧ a / 2 < 2 ∧ b / 2 < 2 := by omega
  obtain ⟨l1, l2, l3, l4, l5, l6, l7, l8⟩ := hlim
  obtain ⟨A, hA⟩ : ∃ A, a / 2 = A := ⟨_, rfl⟩
  obtain ⟨A', hA'⟩ : ∃ A, a % 2 = A := ⟨_, rfl⟩
  obtain ⟨B, hB⟩ : ∃ A, b / 2 = A := ⟨_, rfl⟩
  obtain ⟨B', hB'⟩ : ∃ A, b % 2 = A := ⟨_, rfl⟩
  rw [hA'] at e1 l1 l3
  rw [hB'] at e2 l2 l4
  rw [hA] at l5 l7
  rw [hB] at l6 l8
  have X1 := xor_int 1 (by decide) A A' l5 l7 l3 l1
  have X2 := xor_int 1 (by decide) B B' l6 l8 l4 l2
  obtain ⟨xa, hxa⟩ : ∃ x, bits .xor .i64 A A' = x := ⟨_, rfl⟩
  obtain ⟨xb, hxb⟩ : ∃ x, bits .xor .i64 B B' = x := ⟨_, rfl⟩
  rw [hxa] at X1
  rw [hxb] at X2
  obtain ⟨-, x1, x2⟩ := X1
  obtain ⟨-, x3, x4⟩ := X2
  have N1 := nmI_lt field0 A B l5 l7 l6 l8
  have N2 := nmI_lt field0 A' B' l3 l1 l4 l2
  have N3 := nmI_lt field0 xa xb x1 x2 x3 x4
  obtain ⟨hi, hhi⟩ : ∃ x, nmI 0 A B = x := ⟨_, rfl⟩
  obtain ⟨lo, hlo⟩ : ∃ x, nmI 0 A' B' = x := ⟨_, rfl⟩
  obtain ⟨al, hal⟩ : ∃ x, nmI 0 xa xb = x := ⟨_, rfl⟩
  rw [hhi] at N1
  rw [hlo] at N2
  rw [hal] at N3
  obtain ⟨n1, n2⟩ := N1
  obtain ⟨n3, n4⟩ := N2
  obtain ⟨n5, n6⟩ := N3
  obtain ⟨-, y1, y2⟩ := xor_int 1 (by decide) al lo n5 n6 n3 n4
  obtain ⟨tt, htt⟩ : ∃ x, nmI 0 hi 1 = x := ⟨_, rfl⟩
  have E := Lib.hid (E A A' B B' xa xb hi lo al tt (by omega) (by omega) hA hA' hB hB' hxa hxb ha hb hhi hlo hal htt)
  have I1 : Hid (∀ W, Calls Try.prog 57 #[.int .i64 A, .int .i64 B, .int .i64 1] W fun e w' => e = .returned (.int .i64 hi) ∧ W = w') := Lib.hid (fun W => by have := IHH.out A B W l5 l7 l6 l8; rw [hhi] at this; exact this)
  have I2 : Hid (∀ W, Calls Try.prog 57 #[.int .i64 A', .int .i64 B', .int .i64 1] W fun e w' => e = .returned (.int .i64 lo) ∧ W = w') := Lib.hid (fun W => by have := IHH.out A' B' W l3 l1 l4 l2; rw [hlo] at this; exact this)
  have I3 : Hid (∀ W, Calls Try.prog 57 #[.int .i64 xa, .int .i64 xb, .int .i64 1] W fun e w' => e = .returned (.int .i64 al) ∧ W = w') := Lib.hid (fun W => by have := IHH.out xa xb W x1 x2 x3 x4; rw [hal] at this; exact this)
  have I4 : Hid (∀ W, Calls Try.prog 57 #[.int .i64 hi, .int .i64 1, .int .i64 1] W fun e w' => e = .returned (.int .i64 tt) ∧ W = w') := Lib.hid (fun W => by have := IHH.out hi 1 W n1 n2 (by omega) (by omega); rw [htt] at this; exact this)
  clear hhi hlo hal htt IHH
  have y3 : 0 ≤ bits .xor .i64 al lo * 2 ∧ bits .xor .i64 al lo * 2 < 4 := by
    have : ((2 ^ 1 : Nat) : Int) = 2 := rfl
    omega
  obtain ⟨y4, y5⟩ := y3
  have W1 : IntKind.i64.wrap (bits .xor .i64 al lo * 2) = bits .xor .i64 al lo * 2 := wraps_i64 _ y4 (by omega)
  go_enter Try.func57, Try.ntmps57
  go_wp2_with fail
  refine (I1.out _).mono ?_
  rintro e w' ⟨rfl, rfl⟩
  go_wp2_with fail
  refine (I2.out _).mono ?_
  rintro e w' ⟨rfl, rfl⟩
  go_wp2_with fail
  refine (I3.out _).mono ?_
  rintro e w' ⟨rfl, rfl⟩
  go_wp2_with fail
  refine (I4.out _).mono ?_
  rintro e w' ⟨rfl, rfl⟩
  go_wp2_with fail
  go_ret
  exact ⟨ret_int E.out, rfl⟩

set_option maxHeartbeats 400000 in
theorem rtimes_4 (a b : Int) (w : World) (ha0 : 0 ≤ a) (ha : a < 16) (hb0 : 0 ≤ b) (hb : b < 16) :
    Calls Try.prog 57 #[.int .i64 a, .int .i64 b, .int .i64 4] w fun e w' => e = .returned (.int .i64 (nmI 2 a b)) ∧ w = w' := by
  have IHH := Lib.hid rtimes_2
  have E := times_end_4 a b
  have e1 : bits .and .i64 a 3 = a % 4 := and_int 2 (by decide) a (by omega) (by omega)
  have e2 : bits .and .i64 b 3 = b % 4 := and_int 2 (by decide) b (by omega) (by omega)
  have hlim : a % 4 < 4 ∧ b % 4 < 4 ∧ 0 ≤ a % 4 ∧ 0 ≤ b % 4 ∧ 0 ≤ a / 4 ∧ 0 ≤ b / 4 ∧ a / 4 < 4 ∧ b / 4 < 4 := by omega
  obtain ⟨l1, l2, l3, l4, l5, l6, l7, l8⟩ := hlim
  obtain ⟨A, hA⟩ : ∃ A, a / 4 = A := ⟨_, rfl⟩
  obtain ⟨A', hA'⟩ : ∃ A, a % 4 = A := ⟨_, rfl⟩
  obtain ⟨B, hB⟩ : ∃ A, b / 4 = A := ⟨_, rfl⟩
  obtain ⟨B', hB'⟩ : ∃ A, b % 4 = A := ⟨_, rfl⟩
  rw [hA'] at e1 l1 l3
  rw [hB'] at e2 l2 l4
  rw [hA] at l5 l7
  rw [hB] at l6 l8
  have X1 := xor_int 2 (by decide) A A' l5 l7 l3 l1
  have X2 := xor_int 2 (by decide) B B' l6 l8 l4 l2
  obtain ⟨xa, hxa⟩ : ∃ x, bits .xor .i64 A A' = x := ⟨_, rfl⟩
  obtain ⟨xb, hxb⟩ : ∃ x, bits .xor .i64 B B' = x := ⟨_, rfl⟩
  rw [hxa] at X1
  rw [hxb] at X2
  obtain ⟨-, x1, x2⟩ := X1
  obtain ⟨-, x3, x4⟩ := X2
  have N1 := nmI_lt field1 A B l5 l7 l6 l8
  have N2 := nmI_lt field1 A' B' l3 l1 l4 l2
  have N3 := nmI_lt field1 xa xb x1 x2 x3 x4
  obtain ⟨hi, hhi⟩ : ∃ x, nmI 1 A B = x := ⟨_, rfl⟩
  obtain ⟨lo, hlo⟩ : ∃ x, nmI 1 A' B' = x := ⟨_, rfl⟩
  obtain ⟨al, hal⟩ : ∃ x, nmI 1 xa xb = x := ⟨_, rfl⟩
  rw [hhi] at N1
  rw [hlo] at N2
  rw [hal] at N3
  obtain ⟨n1, n2⟩ := N1
  obtain ⟨n3, n4⟩ := N2
  obtain ⟨n5, n6⟩ := N3
  obtain ⟨-, y1, y2⟩ := xor_int 2 (by decide) al lo n5 n6 n3 n4
  obtain ⟨tt, htt⟩ : ∃ x, nmI 1 hi 2 = x := ⟨_, rfl⟩
  have E := Lib.hid (E A A' B B' xa xb hi lo al tt (by omega) (by omega) hA hA' hB hB' hxa hxb ha hb hhi hlo hal htt)
  have I1 : Hid (∀ W, Calls Try.prog 57 #[.int .i64 A, .int .i64 B, .int .i64 2] W fun e w' => e = .returned (.int .i64 hi) ∧ W = w') := Lib.hid (fun W => by have := IHH.out A B W l5 l7 l6 l8; rw [hhi] at this; exact this)
  have I2 : Hid (∀ W, Calls Try.prog 57 #[.int .i64 A', .int .i64 B', .int .i64 2] W fun e w' => e = .returned (.int .i64 lo) ∧ W = w') := Lib.hid (fun W => by have := IHH.out A' B' W l3 l1 l4 l2; rw [hlo] at this; exact this)
  have I3 : Hid (∀ W, Calls Try.prog 57 #[.int .i64 xa, .int .i64 xb, .int .i64 2] W fun e w' => e = .returned (.int .i64 al) ∧ W = w') := Lib.hid (fun W => by have := IHH.out xa xb W x1 x2 x3 x4; rw [hal] at this; exact this)
  have I4 : Hid (∀ W, Calls Try.prog 57 #[.int .i64 hi, .int .i64 2, .int .i64 2] W fun e w' => e = .returned (.int .i64 tt) ∧ W = w') := Lib.hid (fun W => by have := IHH.out hi 2 W n1 n2 (by omega) (by omega); rw [htt] at this; exact this)
  clear hhi hlo hal htt IHH
  have y3 : 0 ≤ bits .xor .i64 al lo * 4 ∧ bits .xor .i64 al lo * 4 < 16 := by
    have : ((2 ^ 2 : Nat) : Int) = 4 := rfl
    omega
  obtain ⟨y4, y5⟩ := y3
  have W1 : IntKind.i64.wrap (bits .xor .i64 al lo * 4) = bits .xor .i64 al lo * 4 := wraps_i64 _ y4 (by omega)
  go_enter Try.func57, Try.ntmps57
  go_wp2_with fail
  refine (I1.out _).mono ?_
  rintro e w' ⟨rfl, rfl⟩
  go_wp2_with fail
  refine (I2.out _).mono ?_
  rintro e w' ⟨rfl, rfl⟩
  go_wp2_with fail
  refine (I3.out _).mono ?_
  rintro e w' ⟨rfl, rfl⟩
  go_wp2_with fail
  refine (I4.out _).mono ?_
  rintro e w' ⟨rfl, rfl⟩
  go_wp2_with fail
  go_ret
  exact ⟨ret_int E.out, rfl⟩

set_option maxHeartbeats 400000 in
theorem rtimes_8 (a b : Int) (w : World) (ha0 : 0 ≤ a) (ha : a < 256) (hb0 : 0 ≤ b) (hb : b < 256) :
    Calls Try.prog 57 #[.int .i64 a, .int .i64 b, .int .i64 8] w fun e w' => e = .returned (.int .i64 (nmI 3 a b)) ∧ w = w' := by
  have IHH := Lib.hid rtimes_4
  have E := times_end_8 a b
  have e1 : bits .and .i64 a 15 = a % 16 := and_int 4 (by decide) a (by omega) (by omega)
  have e2 : bits .and .i64 b 15 = b % 16 := and_int 4 (by decide) b (by omega) (by omega)
  have hlim : a % 16 < 16 ∧ b % 16 < 16 ∧ 0 ≤ a % 16 ∧ 0 ≤ b % 16 ∧ 0 ≤ a / 16 ∧ 0 ≤ b / 16 ∧ a / 16 < 16 ∧ b / 16 < 16 := by omega
  obtain ⟨l1, l2, l3, l4, l5, l6, l7, l8⟩ := hlim
  obtain ⟨A, hA⟩ : ∃ A, a / 16 = A := ⟨_, rfl⟩
  obtain ⟨A', hA'⟩ : ∃ A, a % 16 = A := ⟨_, rfl⟩
  obtain ⟨B, hB⟩ : ∃ A, b / 16 = A := ⟨_, rfl⟩
  obtain ⟨B', hB'⟩ : ∃ A, b % 16 = A := ⟨_, rfl⟩
  rw [hA'] at e1 l1 l3
  rw [hB'] at e2 l2 l4
  rw [hA] at l5 l7
  rw [hB] at l6 l8
  have X1 := xor_int 4 (by decide) A A' l5 l7 l3 l1
  have X2 := xor_int 4 (by decide) B B' l6 l8 l4 l2
  obtain ⟨xa, hxa⟩ : ∃ x, bits .xor .i64 A A' = x := ⟨_, rfl⟩
  obtain ⟨xb, hxb⟩ : ∃ x, bits .xor .i64 B B' = x := ⟨_, rfl⟩
  rw [hxa] at X1
  rw [hxb] at X2
  obtain ⟨-, x1, x2⟩ := X1
  obtain ⟨-, x3, x4⟩ := X2
  have N1 := nmI_lt field2 A B l5 l7 l6 l8
  have N2 := nmI_lt field2 A' B' l3 l1 l4 l2
  have N3 := nmI_lt field2 xa xb x1 x2 x3 x4
  obtain ⟨hi, hhi⟩ : ∃ x, nmI 2 A B = x := ⟨_, rfl⟩
  obtain ⟨lo, hlo⟩ : ∃ x, nmI 2 A' B' = x := ⟨_, rfl⟩
  obtain ⟨al, hal⟩ : ∃ x, nmI 2 xa xb = x := ⟨_, rfl⟩
  rw [hhi] at N1
  rw [hlo] at N2
  rw [hal] at N3
  obtain ⟨n1, n2⟩ := N1
  obtain ⟨n3, n4⟩ := N2
  obtain ⟨n5, n6⟩ := N3
  obtain ⟨-, y1, y2⟩ := xor_int 4 (by decide) al lo n5 n6 n3 n4
  obtain ⟨tt, htt⟩ : ∃ x, nmI 2 hi 8 = x := ⟨_, rfl⟩
  have E := Lib.hid (E A A' B B' xa xb hi lo al tt (by omega) (by omega) hA hA' hB hB' hxa hxb ha hb hhi hlo hal htt)
  have I1 : Hid (∀ W, Calls Try.prog 57 #[.int .i64 A, .int .i64 B, .int .i64 4] W fun e w' => e = .returned (.int .i64 hi) ∧ W = w') := Lib.hid (fun W => by have := IHH.out A B W l5 l7 l6 l8; rw [hhi] at this; exact this)
  have I2 : Hid (∀ W, Calls Try.prog 57 #[.int .i64 A', .int .i64 B', .int .i64 4] W fun e w' => e = .returned (.int .i64 lo) ∧ W = w') := Lib.hid (fun W => by have := IHH.out A' B' W l3 l1 l4 l2; rw [hlo] at this; exact this)
  have I3 : Hid (∀ W, Calls Try.prog 57 #[.int .i64 xa, .int .i64 xb, .int .i64 4] W fun e w' => e = .returned (.int .i64 al) ∧ W = w') := Lib.hid (fun W => by have := IHH.out xa xb W x1 x2 x3 x4; rw [hal] at this; exact this)
  have I4 : Hid (∀ W, Calls Try.prog 57 #[.int .i64 hi, .int .i64 8, .int .i64 4] W fun e w' => e = .returned (.int .i64 tt) ∧ W = w') := Lib.hid (fun W => by have := IHH.out hi 8 W n1 n2 (by omega) (by omega); rw [htt] at this; exact this)
  clear hhi hlo hal htt IHH
  have y3 : 0 ≤ bits .xor .i64 al lo * 16 ∧ bits .xor .i64 al lo * 16 < 256 := by
    have : ((2 ^ 4 : Nat) : Int) = 16 := rfl
    omega
  obtain ⟨y4, y5⟩ := y3
  have W1 : IntKind.i64.wrap (bits .xor .i64 al lo * 16) = bits .xor .i64 al lo * 16 := wraps_i64 _ y4 (by omega)
  go_enter Try.func57, Try.ntmps57
  go_wp2_with fail
  refine (I1.out _).mono ?_
  rintro e w' ⟨rfl, rfl⟩
  go_wp2_with fail
  refine (I2.out _).mono ?_
  rintro e w' ⟨rfl, rfl⟩
  go_wp2_with fail
  refine (I3.out _).mono ?_
  rintro e w' ⟨rfl, rfl⟩
  go_wp2_with fail
  refine (I4.out _).mono ?_
  rintro e w' ⟨rfl, rfl⟩
  go_wp2_with fail
  go_ret
  exact ⟨ret_int E.out, rfl⟩

set_option maxHeartbeats 400000 in
theorem rtimes_16 (a b : Int) (w : World) (ha0 : 0 ≤ a) (ha : a < 65536) (hb0 : 0 ≤ b) (hb : b < 65536) :
    Calls Try.prog 57 #[.int .i64 a, .int .i64 b, .int .i64 16] w fun e w' => e = .returned (.int .i64 (nmI 4 a b)) ∧ w = w' := by
  have IHH := Lib.hid rtimes_8
  have E := times_end_16 a b
  have e1 : bits .and .i64 a 255 = a % 256 := and_int 8 (by decide) a (by omega) (by omega)
  have e2 : bits .and .i64 b 255 = b % 256 := and_int 8 (by decide) b (by omega) (by omega)
  have hlim : a % 256 < 256 ∧ b % 256 < 256 ∧ 0 ≤ a % 256 ∧ 0 ≤ b % 256 ∧ 0 ≤ a / 256 ∧ 0 ≤ b / 256 ∧ a / 256 < 256 ∧ b / 256 < 256 := by omega
  obtain ⟨l1, l2, l3, l4, l5, l6, l7, l8⟩ := hlim
  obtain ⟨A, hA⟩ : ∃ A, a / 256 = A := ⟨_, rfl⟩
  obtain ⟨A', hA'⟩ : ∃ A, a % 256 = A := ⟨_, rfl⟩
  obtain ⟨B, hB⟩ : ∃ A, b / 256 = A := ⟨_, rfl⟩
  obtain ⟨B', hB'⟩ : ∃ A, b % 256 = A := ⟨_, rfl⟩
  rw [hA'] at e1 l1 l3
  rw [hB'] at e2 l2 l4
  rw [hA] at l5 l7
  rw [hB] at l6 l8
  have X1 := xor_int 8 (by decide) A A' l5 l7 l3 l1
  have X2 := xor_int 8 (by decide) B B' l6 l8 l4 l2
  obtain ⟨xa, hxa⟩ : ∃ x, bits .xor .i64 A A' = x := ⟨_, rfl⟩
  obtain ⟨xb, hxb⟩ : ∃ x, bits .xor .i64 B B' = x := ⟨_, rfl⟩
  rw [hxa] at X1
  rw [hxb] at X2
  obtain ⟨-, x1, x2⟩ := X1
  obtain ⟨-, x3, x4⟩ := X2
  have N1 := nmI_lt field3 A B l5 l7 l6 l8
  have N2 := nmI_lt field3 A' B' l3 l1 l4 l2
  have N3 := nmI_lt field3 xa xb x1 x2 x3 x4
  obtain ⟨hi, hhi⟩ : ∃ x, nmI 3 A B = x := ⟨_, rfl⟩
  obtain ⟨lo, hlo⟩ : ∃ x, nmI 3 A' B' = x := ⟨_, rfl⟩
  obtain ⟨al, hal⟩ : ∃ x, nmI 3 xa xb = x := ⟨_, rfl⟩
  rw [hhi] at N1
  rw [hlo] at N2
  rw [hal] at N3
  obtain ⟨n1, n2⟩ := N1
  obtain ⟨n3, n4⟩ := N2
  obtain ⟨n5, n6⟩ := N3
  obtain ⟨-, y1, y2⟩ := xor_int 8 (by decide) al lo n5 n6 n3 n4
  obtain ⟨tt, htt⟩ : ∃ x, nmI 3 hi 128 = x := ⟨_, rfl⟩
  have E := Lib.hid (E A A' B B' xa xb hi lo al tt (by omega) (by omega) hA hA' hB hB' hxa hxb ha hb hhi hlo hal htt)
  have I1 : Hid (∀ W, Calls Try.prog 57 #[.int .i64 A, .int .i64 B, .int .i64 8] W fun e w' => e = .returned (.int .i64 hi) ∧ W = w') := Lib.hid (fun W => by have := IHH.out A B W l5 l7 l6 l8; rw [hhi] at this; exact this)
  have I2 : Hid (∀ W, Calls Try.prog 57 #[.int .i64 A', .int .i64 B', .int .i64 8] W fun e w' => e = .returned (.int .i64 lo) ∧ W = w') := Lib.hid (fun W => by have := IHH.out A' B' W l3 l1 l4 l2; rw [hlo] at this; exact this)
  have I3 : Hid (∀ W, Calls Try.prog 57 #[.int .i64 xa, .int .i64 xb, .int .i64 8] W fun e w' => e = .returned (.int .i64 al) ∧ W = w') := Lib.hid (fun W => by have := IHH.out xa xb W x1 x2 x3 x4; rw [hal] at this; exact this)
  have I4 : Hid (∀ W, Calls Try.prog 57 #[.int .i64 hi, .int .i64 128, .int .i64 8] W fun e w' => e = .returned (.int .i64 tt) ∧ W = w') := Lib.hid (fun W => by have := IHH.out hi 128 W n1 n2 (by omega) (by omega); rw [htt] at this; exact this)
  clear hhi hlo hal htt IHH
  have y3 : 0 ≤ bits .xor .i64 al lo * 256 ∧ bits .xor .i64 al lo * 256 < 65536 := by
    have : ((2 ^ 8 : Nat) : Int) = 256 := rfl
    omega
  obtain ⟨y4, y5⟩ := y3
  have W1 : IntKind.i64.wrap (bits .xor .i64 al lo * 256) = bits .xor .i64 al lo * 256 := wraps_i64 _ y4 (by omega)
  go_enter Try.func57, Try.ntmps57
  go_wp2_with fail
  refine (I1.out _).mono ?_
  rintro e w' ⟨rfl, rfl⟩
  go_wp2_with fail
  refine (I2.out _).mono ?_
  rintro e w' ⟨rfl, rfl⟩
  go_wp2_with fail
  refine (I3.out _).mono ?_
  rintro e w' ⟨rfl, rfl⟩
  go_wp2_with fail
  refine (I4.out _).mono ?_
  rintro e w' ⟨rfl, rfl⟩
  go_wp2_with fail
  go_ret
  exact ⟨ret_int E.out, rfl⟩

theorem RTimes_nat (a b : Nat) (w : World) (ha : a < 65536) (hb : b < 65536) :
    Calls Try.prog 32 #[.int .i64 a, .int .i64 b] w fun e w' => e = .returned (.int .i64 (nm 4 a b : Nat)) ∧ w = w' := by
  have T := Lib.hid (rtimes_16 a b w (by omega) (by omega) (by omega) (by omega))
  go_enter Try.func32, Try.ntmps32
  go_wp2_with fail
  refine T.out.mono ?_
  rintro e w' ⟨rfl, rfl⟩
  go_wp2_with fail
  go_ret
  exact ⟨rfl, rfl⟩

set_option maxHeartbeats 400000 in
theorem RPower_any (a n : Nat) (w : World) (ha : a < 65536) (hn : n ≤ 9223372036854775807) :
    Calls Try.prog 33 #[.int .i64 a, .int .i64 n] w fun e w' => e = .returned (.int .i64 (npw 4 a n : Nat)) ∧ w = w' := by
  have P := Lib.hid RTimes_nat
  have h0 := field4.one' _ (npw_lt a n ha)
  have H0 := Lib.hid h0
  clear h0
  go_enter Try.func33, Try.ntmps33
  go_wp2_with fail
  go_loop [0, 1, 5] (fun x y z => ∃ a' n' r : Nat, x = .int .i64 a' ∧ y = .int .i64 n' ∧ z = .int .i64 r ∧ a' < 65536 ∧ n' ≤ 9223372036854775807 ∧ r < 65536 ∧ Hid (nm 4 r (npw 4 a' n') = npw 4 a n)) (fun _ y _ => (intOf y).toNat)
  case atStart => exact ⟨a, n, 1, rfl, rfl, rfl, ha, hn, by omega, H0⟩
  case round =>
    clear H0
    obtain ⟨a', n', r, rfl, rfl, rfl, ha', hn', hr, hg⟩ := hrel
    by_cases h0 : n' = 0
    · have hN : Hid (r = npw 4 a n) := Lib.hid (by rw [← hg.out, h0]; exact (field4.one _ (by omega)).symm)
      subst h0
      go_wp2_with fail
      go_ret
      exact ⟨ret_int (by exact_mod_cast hN.out), rfl⟩
    · have hp : 0 < n' := by omega
      by_cases hodd : n' % 2 = 1
      · have G := Lib.hid (step_odd r a' n' _ hr ha' hodd hg.out)
        have l1 := field4.lt _ _ (show r < 2 ^ 16 from hr) (show a' < 2 ^ 16 from ha')
        have l2 := field4.lt _ _ (show a' < 2 ^ 16 from ha') (show a' < 2 ^ 16 from ha')
        have P1 : Hid (∀ W : World, Calls Try.prog 32 #[.int .i64 r, .int .i64 a'] W fun e w' => e = .returned (.int .i64 (nm 4 r a' : Nat)) ∧ W = w') := Lib.hid fun W => P.out r a' W hr ha'
        have P2 : Hid (∀ W : World, Calls Try.prog 32 #[.int .i64 a', .int .i64 a'] W fun e w' => e = .returned (.int .i64 (nm 4 a' a' : Nat)) ∧ W = w') := Lib.hid fun W => P.out a' a' W ha' ha'
        generalize nm 4 r a' = r2 at *
        generalize nm 4 a' a' = a2 at *
        go_wp2_with fail
        refine (P1.out _).mono ?_
        rintro e w1 ⟨rfl, rfl⟩
        go_wp2_with fail
        refine (P2.out _).mono ?_
        rintro e w2 ⟨rfl, rfl⟩
        go_wp2_with fail
        go_round
        case rel => exact ⟨a2, n' / 2, r2, rfl, by go_num, rfl, l2, by omega, l1, G⟩
        case measure => simp [intOf]; omega
      · have G := Lib.hid (step_even r a' n' _ ha' (by omega) hg.out)
        have l2 := field4.lt _ _ (show a' < 2 ^ 16 from ha') (show a' < 2 ^ 16 from ha')
        have P2 : Hid (∀ W : World, Calls Try.prog 32 #[.int .i64 a', .int .i64 a'] W fun e w' => e = .returned (.int .i64 (nm 4 a' a' : Nat)) ∧ W = w') := Lib.hid fun W => P.out a' a' W ha' ha'
        generalize nm 4 a' a' = a2 at *
        go_wp2_with fail
        refine (P2.out _).mono ?_
        rintro e w2 ⟨rfl, rfl⟩
        go_wp2_with fail
        go_round
        case rel => exact ⟨a2, n' / 2, r, rfl, by go_num, rfl, l2, by omega, hr, G⟩
        case measure => simp [intOf]; omega
end Go.Proofs.Ytodnfchkkgoabaa
