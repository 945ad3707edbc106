/- WALKS of product. -/
import Derived.Test.YtodnfchkkgoabaaHMvMxP
import Derived.Test.YtodnfchkkgoabaaHNaNb
import Derived.Outline
set_option linter.unusedVariables false
namespace Go.Proofs.Ytodnfchkkgoabaa
open Go.RowKit
open Nim

theorem quiet_add {P : Program} {f : FuncId} {args : Array Value} {w : World} {a n : Nat} {v : Value}
    (h : Calls P f args (w.drewN (a + n)) fun e w' => e = .returned v ∧ ∃ m, w' = (w.drewN (a + n)).drewN m) :
    Calls P f args (w.drewN (a + n)) fun e w'' => e = .returned v ∧ ∃ m, w'' = w.drewN (a + m) :=
  h.mono fun _ _ ⟨he, m, hm⟩ => ⟨he, n + m, by rw [hm, World.drewN_drewN, Nat.add_assoc]⟩

/-- The product of integers in range. -/
def nmI (k : Nat) (x y : Int) : Int := ((nm k x.toNat y.toNat : Nat) : Int)

theorem nmI_nat (k a b : Nat) : nmI k (a : Int) (b : Int) = ((nm k a b : Nat) : Int) := rfl
theorem nmI_lt {k n : Nat} (F : NField k n) (x y : Int) (hx : 0 ≤ x) (hx1 : x < ((2 ^ n : Nat) : Int)) (hy : 0 ≤ y) (hy1 : y < ((2 ^ n : Nat) : Int)) : 0 ≤ nmI k x y ∧ nmI k x y < ((2 ^ n : Nat) : Int) := by
  obtain ⟨a, rfl⟩ := Int.eq_ofNat_of_zero_le hx
  obtain ⟨b, rfl⟩ := Int.eq_ofNat_of_zero_le hy
  rw [nmI_nat]
  have := F.lt a b (by exact_mod_cast hx1) (by exact_mod_cast hy1)
  exact ⟨Int.natCast_nonneg _, by exact_mod_cast this⟩
theorem nmI_less {k n : Nat} (F : NField k n) (x y : Int) (hx : 0 ≤ x) (hx1 : x < ((2 ^ n : Nat) : Int)) (hy : 0 ≤ y) (hy1 : y < ((2 ^ n : Nat) : Int)) (h : x < 2 ∨ y < 2) : nmI k x y = x * y := by
  obtain ⟨a, rfl⟩ := Int.eq_ofNat_of_zero_le hx
  obtain ⟨b, rfl⟩ := Int.eq_ofNat_of_zero_le hy
  rw [nmI_nat]
  have ha : a < 2 ^ n := by exact_mod_cast hx1
  have hb : b < 2 ^ n := by exact_mod_cast hy1
  have : nm k a b = a * b := by
    rcases h with h | h
    · have : a = 0 ∨ a = 1 := by omega
      rcases this with rfl | rfl
      · rw [F.zero' _ hb]; simp
      · rw [F.one' _ hb]; simp
    · have : b = 0 ∨ b = 1 := by omega
      rcases this with rfl | rfl
      · rw [F.zero _ ha]; simp
      · rw [F.one _ ha]; simp
  rw [this]; simp

theorem xor_int (n : Nat) (hn : n ≤ 16) (x y : Int) (hx : 0 ≤ x) (hx1 : x < ((2 ^ n : Nat) : Int)) (hy : 0 ≤ y) (hy1 : y < ((2 ^ n : Nat) : Int)) :
    bits .xor .i64 x y = ((x.toNat ^^^ y.toNat : Nat) : Int) ∧ 0 ≤ bits .xor .i64 x y ∧ bits .xor .i64 x y < ((2 ^ n : Nat) : Int) := by
  obtain ⟨a, rfl⟩ := Int.eq_ofNat_of_zero_le hx
  obtain ⟨b, rfl⟩ := Int.eq_ofNat_of_zero_le hy
  have ha : a < 2 ^ n := by exact_mod_cast hx1
  have hb : b < 2 ^ n := by exact_mod_cast hy1
  have hp : 2 ^ n ≤ 2 ^ 63 := Nat.pow_le_pow_right (by decide) (by omega)
  rw [xor_nat a b (by omega) (by omega)]
  exact ⟨rfl, Int.natCast_nonneg _, by exact_mod_cast Nat.xor_lt_two_pow ha hb⟩
theorem and_int (n : Nat) (hn : n ≤ 16) (x : Int) (hx : 0 ≤ x) (hx1 : x < 65536) : bits .and .i64 x ((2 ^ n - 1 : Nat) : Int) = x % ((2 ^ n : Nat) : Int) := by
  obtain ⟨a, rfl⟩ := Int.eq_ofNat_of_zero_le hx
  have hp : 2 ^ n ≤ 2 ^ 16 := Nat.pow_le_pow_right (by decide) hn
  rw [and_nat a _ (by omega) (by omega), Nat.and_two_pow_sub_one_eq_mod]
  exact Int.natCast_emod a (2 ^ n)

/-- The closure of products, in its own cell. -/
def Prod1 (w : World) (c : Nat) : Prop := w.cell? ⟨c, 0, none⟩ = some (.func (.func 70) #[] #[.pointer (some ⟨c, 0, none⟩)])

theorem times_less (a b bits c : Int) (p : Nat) (w : World) (h : a < 2 ∨ b < 2) (ha0 : 0 ≤ a) (hb0 : 0 ≤ b) (ha : a < 65536) (hb : b < 65536) :
    Calls Try.prog 70 #[.int .i64 a, .int .i64 b, .int .i64 bits, .pointer (some ⟨p, 0, none⟩)] w fun e w' => e = .returned (.int .i64 (a * b)) ∧ Drew w w' := by
  have hm : 0 ≤ a * b := Int.mul_nonneg ha0 hb0
  have hm2 : a * b ≤ 65536 * 65536 := Int.mul_le_mul (by omega) (by omega) hb0 (by omega)
  by_cases h1 : a < 2
  · go_enter Try.func70, Try.ntmps70
    go_wp2_with fail
    go_ret
    exact ⟨rfl, Drew.refl _⟩
  · have h2 : b < 2 := by omega
    go_enter Try.func70, Try.ntmps70
    go_wp2_with fail
    go_ret
    exact ⟨rfl, Drew.refl _⟩

theorem times_1 (c : Nat) (a b : Int) (w : World) (ha0 : 0 ≤ a) (ha : a < 2) (hb0 : 0 ≤ b) (hb : b < 2) (hp : Prod1 w c) :
    Calls Try.prog 70 #[.int .i64 a, .int .i64 b, .int .i64 1, .pointer (some ⟨c, 0, none⟩)] w fun e w' => e = .returned (.int .i64 (nmI 0 a b)) ∧ Drew w w' := by
  rw [nmI_less field0 a b ha0 ha hb0 hb (.inl ha)]
  exact times_less a b 1 c c w (.inl ha) ha0 hb0 (by omega) (by omega)

theorem times_end_2 (a b A A' B B' xa xb hi lo al tt : Int) (ha0 : 0 ≤ a) (hb0 : 0 ≤ b)
    (hA : a / 2 = A) (hA' : a % 2 = A') (hB : b / 2 = B) (hB' : b % 2 = B') (hxa : bits .xor .i64 A A' = xa) (hxb : bits .xor .i64 B B' = xb)
    (ha : a < 4) (hb : b < 4) (hhi : nmI 0 A B = hi) (hlo : nmI 0 A' B' = lo) (hal : nmI 0 xa xb = al) (htt : nmI 0 hi 1 = tt) :
    bits .xor .i64 (bits .xor .i64 (bits .xor .i64 al lo * 2) lo) tt = nmI 1 a b := by
  obtain ⟨x, rfl⟩ := Int.eq_ofNat_of_zero_le ha0
  obtain ⟨y, rfl⟩ := Int.eq_ofNat_of_zero_le hb0
  have dv : ∀ z : Nat, (z : Int) / 2 = ((z / 2 : Nat) : Int) := fun z => by simp
  have md : ∀ z : Nat, (z : Int) % 2 = ((z % 2 : Nat) : Int) := fun z => by simp
  have F := field0
  have l1 : x / 2 < 2 ^ 1 := by omega
  have l2 : x % 2 < 2 ^ 1 := by omega
  have l3 : y / 2 < 2 ^ 1 := by omega
  have l4 : y % 2 < 2 ^ 1 := by omega
  have sm : ∀ z : Nat, z < 2 ^ 1 → z < 2 ^ 63 := fun z hz => Nat.lt_of_lt_of_le hz (Nat.pow_le_pow_right (by decide) (by decide))
  rw [dv] at hA hB
  rw [md] at hA' hB'
  subst hA hA' hB hB'
  rw [xor_nat _ _ (sm _ l1) (sm _ l2)] at hxa
  rw [xor_nat _ _ (sm _ l3) (sm _ l4)] at hxb
  subst hxa hxb
  have l5 := Nat.xor_lt_two_pow l1 l2
  have l6 := Nat.xor_lt_two_pow l3 l4
  rw [nmI_nat] at hhi hlo hal
  have m1 := F.lt _ _ l1 l3
  have m2 := F.lt _ _ l2 l4
  have m3 := F.lt _ _ l5 l6
  subst hhi hlo hal
  have htt' : ((nm 0 (nm 0 (x / 2) (y / 2)) 1 : Nat) : Int) = tt := htt
  have m4 := F.lt _ 1 m1 (by decide)
  subst htt'
  have m5 := Nat.xor_lt_two_pow m3 m2
  rw [xor_nat _ _ (sm _ m3) (sm _ m2)]
  have c : ∀ z : Nat, (z : Int) * 2 = ((z * 2 : Nat) : Int) := fun z => by simp
  rw [c]
  have m6 : (nm 0 (x / 2 ^^^ x % 2) (y / 2 ^^^ y % 2) ^^^ nm 0 (x % 2) (y % 2)) * 2 < 2 ^ 2 := by
    have : (nm 0 (x / 2 ^^^ x % 2) (y / 2 ^^^ y % 2) ^^^ nm 0 (x % 2) (y % 2)) < 2 := m5
    omega
  have sm2 : ∀ z : Nat, z < 2 ^ 2 → z < 2 ^ 63 := fun z hz => Nat.lt_of_lt_of_le hz (Nat.pow_le_pow_right (by decide) (by decide))
  have up : ∀ z : Nat, z < 2 ^ 1 → z < 2 ^ 2 := fun z hz => Nat.lt_of_lt_of_le hz (Nat.pow_le_pow_right (by decide) (by decide))
  rw [xor_nat _ _ (sm2 _ m6) (sm _ m2)]
  rw [xor_nat _ _ (sm2 _ (Nat.xor_lt_two_pow m6 (up _ m2))) (sm _ m4)]
  rfl

set_option maxHeartbeats 400000 in
theorem times_2_big (c : Nat) (IH : ∀ (a b : Int) (w : World), 0 ≤ a → a < 2 → 0 ≤ b → b < 2 → Prod1 w c →
      Calls Try.prog 70 #[.int .i64 a, .int .i64 b, .int .i64 1, .pointer (some ⟨c, 0, none⟩)] w fun e w' => e = .returned (.int .i64 (nmI 0 a b)) ∧ Drew w w')
    (a b : Int) (w : World) (h1 : 2 ≤ a) (h2 : 2 ≤ b) (ha : a < 4) (hb : b < 4) (hp : Prod1 w c) :
    Calls Try.prog 70 #[.int .i64 a, .int .i64 b, .int .i64 2, .pointer (some ⟨c, 0, none⟩)] w fun e w' => e = .returned (.int .i64 (nmI 1 a b)) ∧ Drew w w' := by
  have IHH := Lib.hid IH
  clear IH
  have HP := Lib.hid hp
  have hc : w.cell? ⟨c, 0, none⟩ = some (.func (.func 70) #[] #[.pointer (some ⟨c, 0, none⟩)]) := hp
  clear hp
  have E := times_end_2 a b
  have e1 : bits .and .i64 a 1 = a % 2 := and_int 1 (by decide) a (by omega) (by omega)
  have e2 : bits .and .i64 b 1 = b % 2 := and_int 1 (by decide) b (by omega) (by omega)
  have hlim : a % 2 < 2 ∧ b % 2 < 2 ∧ 0 ≤ a % 2 ∧ 0 ≤ b % 2 ∧ 0 ≤ a / 2 ∧ 0 ≤ b / 2 ∧ a / 2 < 2 ∧ b / 2 < 2 := by omega
  obtain ⟨l1, l2, l3, l4, l5, l6, l7, l8⟩ := hlim
  obtain ⟨A, hA⟩ : ∃ A, a / 2 = A := ⟨_, rfl⟩
  obtain ⟨A', hA'⟩ : ∃ A, a % 2 = A := ⟨_, rfl⟩
  obtain ⟨B, hB⟩ : ∃ A, b / 2 = A := ⟨_, rfl⟩
  obtain ⟨B', hB'⟩ : ∃ A, b % 2 = A := ⟨_, rfl⟩
  rw [hA'] at e1 l1 l3
  rw [hB'] at e2 l2 l4
  rw [hA] at l5 l7
  rw [hB] at l6 l8
  have X1 := xor_int 1 (by decide) A A' l5 l7 l3 l1
  have X2 := xor_int 1 (by decide) B B' l6 l8 l4 l2
  obtain ⟨xa, hxa⟩ : ∃ x, bits .xor .i64 A A' = x := ⟨_, rfl⟩
  obtain ⟨xb, hxb⟩ : ∃ x, bits .xor .i64 B B' = x := ⟨_, rfl⟩
  rw [hxa] at X1
  rw [hxb] at X2
  obtain ⟨-, x1, x2⟩ := X1
  obtain ⟨-, x3, x4⟩ := X2
  have N1 := nmI_lt field0 A B l5 l7 l6 l8
  have N2 := nmI_lt field0 A' B' l3 l1 l4 l2
  have N3 := nmI_lt field0 xa xb x1 x2 x3 x4
  obtain ⟨hi, hhi⟩ : ∃ x, nmI 0 A B = x := ⟨_, rfl⟩
  obtain ⟨lo, hlo⟩ : ∃ x, nmI 0 A' B' = x := ⟨_, rfl⟩
  obtain ⟨al, hal⟩ : ∃ x, nmI 0 xa xb = x := ⟨_, rfl⟩
  rw [hhi] at N1
  rw [hlo] at N2
  rw [hal] at N3
  obtain ⟨n1, n2⟩ := N1
  obtain ⟨n3, n4⟩ := N2
  obtain ⟨n5, n6⟩ := N3
  obtain ⟨-, y1, y2⟩ := xor_int 1 (by decide) al lo n5 n6 n3 n4
  obtain ⟨tt, htt⟩ : ∃ x, nmI 0 hi 1 = x := ⟨_, rfl⟩
  have E := Lib.hid (E A A' B B' xa xb hi lo al tt (by omega) (by omega) hA hA' hB hB' hxa hxb ha hb hhi hlo hal htt)
  have I1 : Hid (∀ W, Prod1 W c → Calls Try.prog 70 #[.int .i64 A, .int .i64 B, .int .i64 1, .pointer (some ⟨c, 0, none⟩)] W fun e w' => e = .returned (.int .i64 hi) ∧ Drew W w') := Lib.hid (fun W hW => by have := IHH.out A B W l5 l7 l6 l8 hW; rw [hhi] at this; exact this)
  have I2 : Hid (∀ W, Prod1 W c → Calls Try.prog 70 #[.int .i64 A', .int .i64 B', .int .i64 1, .pointer (some ⟨c, 0, none⟩)] W fun e w' => e = .returned (.int .i64 lo) ∧ Drew W w') := Lib.hid (fun W hW => by have := IHH.out A' B' W l3 l1 l4 l2 hW; rw [hlo] at this; exact this)
  have I3 : Hid (∀ W, Prod1 W c → Calls Try.prog 70 #[.int .i64 xa, .int .i64 xb, .int .i64 1, .pointer (some ⟨c, 0, none⟩)] W fun e w' => e = .returned (.int .i64 al) ∧ Drew W w') := Lib.hid (fun W hW => by have := IHH.out xa xb W x1 x2 x3 x4 hW; rw [hal] at this; exact this)
  have I4 : Hid (∀ W, Prod1 W c → Calls Try.prog 70 #[.int .i64 hi, .int .i64 1, .int .i64 1, .pointer (some ⟨c, 0, none⟩)] W fun e w' => e = .returned (.int .i64 tt) ∧ Drew W w') := Lib.hid (fun W hW => by have := IHH.out hi 1 W n1 n2 (by omega) (by omega) hW; rw [htt] at this; exact this)
  clear hhi hlo hal htt IHH
  have y3 : 0 ≤ bits .xor .i64 al lo * 2 ∧ bits .xor .i64 al lo * 2 < 4 := by
    have : ((2 ^ 1 : Nat) : Int) = 2 := rfl
    omega
  obtain ⟨y4, y5⟩ := y3
  have W1 : IntKind.i64.wrap (bits .xor .i64 al lo * 2) = bits .xor .i64 al lo * 2 := wraps_i64 _ y4 (by omega)
  go_enter Try.func70, Try.ntmps70
  go_wp2_with fail
  go_quiet ((go_at_call 70; exact Calls.quiet_of (I1.out _ (by unfold Prod1; simp; exact HP.out))))
  have HP2 : Hid (Prod1 (w.drewN nq) c) := Lib.hid (by unfold Prod1; simp; exact HP.out)
  have hc2 : (w.drewN nq).cell? ⟨c, 0, none⟩ = some (.func (.func 70) #[] #[.pointer (some ⟨c, 0, none⟩)]) := HP2.out
  have D2 : Hid (Drew w (w.drewN nq)) := Lib.hid ⟨nq, rfl⟩
  clear hc HP
  generalize w.drewN nq = w2 at *
  go_wp2_with fail
  refine (I2.out _ HP2.out).mono ?_
  rintro e w3 ⟨rfl, hd⟩
  have HP3 : Hid (Prod1 w3 c) := Lib.hid (by unfold Prod1; rw [hd.cell]; exact HP2.out)
  have hc3 : w3.cell? ⟨c, 0, none⟩ = some (.func (.func 70) #[] #[.pointer (some ⟨c, 0, none⟩)]) := HP3.out
  have D3 : Hid (Drew w w3) := Lib.hid (D2.out.trans hd)
  clear hc2 HP2 D2 hd
  go_wp2_with fail
  go_quiet ((go_at_call 70; exact Calls.quiet_of (I3.out _ (by unfold Prod1; simp; exact HP3.out))))
  have HP4 : Hid (Prod1 (w3.drewN nq) c) := Lib.hid (by unfold Prod1; simp; exact HP3.out)
  have hc4 : (w3.drewN nq).cell? ⟨c, 0, none⟩ = some (.func (.func 70) #[] #[.pointer (some ⟨c, 0, none⟩)]) := HP4.out
  have D4 : Hid (Drew w (w3.drewN nq)) := Lib.hid (D3.out.drewN nq)
  clear hc3 HP3 D3
  generalize w3.drewN nq = w4 at *
  go_wp2_with fail
  go_quiet ((go_at_call 70; exact Calls.quiet_of (I4.out _ (by unfold Prod1; simp; exact HP4.out))))
  go_wp2_with fail
  go_ret
  exact ⟨ret_int E.out, D4.out.drewN _⟩

theorem times_2 (c : Nat) (a b : Int) (w : World) (ha0 : 0 ≤ a) (ha : a < 4) (hb0 : 0 ≤ b) (hb : b < 4) (hp : Prod1 w c) :
    Calls Try.prog 70 #[.int .i64 a, .int .i64 b, .int .i64 2, .pointer (some ⟨c, 0, none⟩)] w fun e w' => e = .returned (.int .i64 (nmI 1 a b)) ∧ Drew w w' := by
  by_cases h : a < 2 ∨ b < 2
  · rw [nmI_less field1 a b ha0 ha hb0 hb h]
    exact times_less a b 2 c c w h ha0 hb0 (by omega) (by omega)
  · exact times_2_big c (fun a b w h1 h2 h3 h4 h5 => times_1 c a b w h1 h2 h3 h4 h5) a b w (by omega) (by omega) ha hb hp

theorem times_end_4 (a b A A' B B' xa xb hi lo al tt : Int) (ha0 : 0 ≤ a) (hb0 : 0 ≤ b)
    (hA : a / 4 = A) (hA' : a % 4 = A') (hB : b / 4 = B) (hB' : b % 4 = B') (hxa : bits .xor .i64 A A' = xa) (hxb : bits .xor .i64 B B' = xb)
    (ha : a < 16) (hb : b < 16) (hhi : nmI 1 A B = hi) (hlo : nmI 1 A' B' = lo) (hal : nmI 1 xa xb = al) (htt : nmI 1 hi 2 = tt) :
    bits .xor .i64 (bits .xor .i64 (bits .xor .i64 al lo * 4) lo) tt = nmI 2 a b := by
  obtain ⟨x, rfl⟩ := Int.eq_ofNat_of_zero_le ha0
  obtain ⟨y, rfl⟩ := Int.eq_ofNat_of_zero_le hb0
  have dv : ∀ z : Nat, (z : Int) / 4 = ((z / 4 : Nat) : Int) := fun z => by simp
  have md : ∀ z : Nat, (z : Int) % 4 = ((z % 4 : Nat) : Int) := fun z => by simp
  have F := field1
  have l1 : x / 4 < 2 ^ 2 := by omega
  have l2 : x % 4 < 2 ^ 2 := by omega
  have l3 : y / 4 < 2 ^ 2 := by omega
  have l4 : y % 4 < 2 ^ 2 := by omega
  have sm : ∀ z : Nat, z < 2 ^ 2 → z < 2 ^ 63 := fun z hz => Nat.lt_of_lt_of_le hz (Nat.pow_le_pow_right (by decide) (by decide))
  rw [dv] at hA hB
  rw [md] at hA' hB'
  subst hA hA' hB hB'
  rw [xor_nat _ _ (sm _ l1) (sm _ l2)] at hxa
  rw [xor_nat _ _ (sm _ l3) (sm _ l4)] at hxb
  subst hxa hxb
  have l5 := Nat.xor_lt_two_pow l1 l2
  have l6 := Nat.xor_lt_two_pow l3 l4
  rw [nmI_nat] at hhi hlo hal
  have m1 := F.lt _ _ l1 l3
  have m2 := F.lt _ _ l2 l4
  have m3 := F.lt _ _ l5 l6
  subst hhi hlo hal
  have htt' : ((nm 1 (nm 1 (x / 4) (y / 4)) 2 : Nat) : Int) = tt := htt
  have m4 := F.lt _ 2 m1 (by decide)
  subst htt'
  have m5 := Nat.xor_lt_two_pow m3 m2
  rw [xor_nat _ _ (sm _ m3) (sm _ m2)]
  have c : ∀ z : Nat, (z : Int) * 4 = ((z * 4 : Nat) : Int) := fun z => by simp
  rw [c]
  have m6 : (nm 1 (x / 4 ^^^ x % 4) (y / 4 ^^^ y % 4) ^^^ nm 1 (x % 4) (y % 4)) * 4 < 2 ^ 4 := by
    have : (nm 1 (x / 4 ^^^ x % 4) (y / 4 ^^^ y % 4) ^^^ nm 1 (x % 4) (y % 4)) < 4 := m5
    omega
  have sm2 : ∀ z : Nat, z < 2 ^ 4 → z < 2 ^ 63 := fun z hz => Nat.lt_of_lt_of_le hz (Nat.pow_le_pow_right (by decide) (by decide))
  have up : ∀ z : Nat, z < 2 ^ 2 → z < 2 ^ 4 := fun z hz => Nat.lt_of_lt_of_le hz (Nat.pow_le_pow_right (by decide) (by decide))
  rw [xor_nat _ _ (sm2 _ m6) (sm _ m2)]
  rw [xor_nat _ _ (sm2 _ (Nat.xor_lt_two_pow m6 (up _ m2))) (sm _ m4)]
  rfl

set_option maxHeartbeats 400000 in
theorem times_4_big (c : Nat) (IH : ∀ (a b : Int) (w : World), 0 ≤ a → a < 4 → 0 ≤ b → b < 4 → Prod1 w c →
      Calls Try.prog 70 #[.int .i64 a, .int .i64 b, .int .i64 2, .pointer (some ⟨c, 0, none⟩)] w fun e w' => e = .returned (.int .i64 (nmI 1 a b)) ∧ Drew w w')
    (a b : Int) (w : World) (h1 : 2 ≤ a) (h2 : 2 ≤ b) (ha : a < 16) (hb : b < 16) (hp : Prod1 w c) :
    Calls Try.prog 70 #[.int .i64 a, .int .i64 b, .int .i64 4, .pointer (some ⟨c, 0, none⟩)] w fun e w' => e = .returned (.int .i64 (nmI 2 a b)) ∧ Drew w w' := by
  have IHH := Lib.hid IH
  clear IH
  have HP := Lib.hid hp
  have hc : w.cell? ⟨c, 0, none⟩ = some (.func (.func 70) #[] #[.pointer (some ⟨c, 0, none⟩)]) := hp
  clear hp
  have E := times_end_4 a b
  have e1 : bits .and .i64 a 3 = a % 4 := and_int 2 (by decide) a (by omega) (by omega)
  have e2 : bits .and .i64 b 3 = b % 4 := and_int 2 (by decide) b (by omega) (by omega)
  have hlim : a % 4 < 4 ∧ b % 4 < 4 ∧ 0 ≤ a % 4 ∧ 0 ≤ b % 4 ∧ 0 ≤ a / 4 ∧ 0 ≤ b / 4 ∧ a / 4 < 4 ∧ b / 4 < 4 := by omega
  obtain ⟨l1, l2, l3, l4, l5, l6, l7, l8⟩ := hlim
  obtain ⟨A, hA⟩ : ∃ A, a / 4 = A := ⟨_, rfl⟩
  obtain ⟨A', hA'⟩ : ∃ A, a % 4 = A := ⟨_, rfl⟩
  obtain ⟨B, hB⟩ : ∃ A, b / 4 = A := ⟨_, rfl⟩
  obtain ⟨B', hB'⟩ : ∃ A, b % 4 = A := ⟨_, rfl⟩
  rw [hA'] at e1 l1 l3
  rw [hB'] at e2 l2 l4
  rw [hA] at l5 l7
  rw [hB] at l6 l8
  have X1 := xor_int 2 (by decide) A A' l5 l7 l3 l1
  have X2 := xor_int 2 (by decide) B B' l6 l8 l4 l2
  obtain ⟨xa, hxa⟩ : ∃ x, bits .xor .i64 A A' = x := ⟨_, rfl⟩
  obtain ⟨xb, hxb⟩ : ∃ x, bits .xor .i64 B B' = x := ⟨_, rfl⟩
  rw [hxa] at X1
  rw [hxb] at X2
  obtain ⟨-, x1, x2⟩ := X1
  obtain ⟨-, x3, x4⟩ := X2
  have N1 := nmI_lt field1 A B l5 l7 l6 l8
  have N2 := nmI_lt field1 A' B' l3 l1 l4 l2
  have N3 := nmI_lt field1 xa xb x1 x2 x3 x4
  obtain ⟨hi, hhi⟩ : ∃ x, nmI 1 A B = x := ⟨_, rfl⟩
  obtain ⟨lo, hlo⟩ : ∃ x, nmI 1 A' B' = x := ⟨_, rfl⟩
  obtain ⟨al, hal⟩ : ∃ x, nmI 1 xa xb = x := ⟨_, rfl⟩
  rw [hhi] at N1
  rw [hlo] at N2
  rw [hal] at N3
  obtain ⟨n1, n2⟩ := N1
  obtain ⟨n3, n4⟩ := N2
  obtain ⟨n5, n6⟩ := N3
  obtain ⟨-, y1, y2⟩ := xor_int 2 (by decide) al lo n5 n6 n3 n4
  obtain ⟨tt, htt⟩ : ∃ x, nmI 1 hi 2 = x := ⟨_, rfl⟩
  have E := Lib.hid (E A A' B B' xa xb hi lo al tt (by omega) (by omega) hA hA' hB hB' hxa hxb ha hb hhi hlo hal htt)
  have I1 : Hid (∀ W, Prod1 W c → Calls Try.prog 70 #[.int .i64 A, .int .i64 B, .int .i64 2, .pointer (some ⟨c, 0, none⟩)] W fun e w' => e = .returned (.int .i64 hi) ∧ Drew W w') := Lib.hid (fun W hW => by have := IHH.out A B W l5 l7 l6 l8 hW; rw [hhi] at this; exact this)
  have I2 : Hid (∀ W, Prod1 W c → Calls Try.prog 70 #[.int .i64 A', .int .i64 B', .int .i64 2, .pointer (some ⟨c, 0, none⟩)] W fun e w' => e = .returned (.int .i64 lo) ∧ Drew W w') := Lib.hid (fun W hW => by have := IHH.out A' B' W l3 l1 l4 l2 hW; rw [hlo] at this; exact this)
  have I3 : Hid (∀ W, Prod1 W c → Calls Try.prog 70 #[.int .i64 xa, .int .i64 xb, .int .i64 2, .pointer (some ⟨c, 0, none⟩)] W fun e w' => e = .returned (.int .i64 al) ∧ Drew W w') := Lib.hid (fun W hW => by have := IHH.out xa xb W x1 x2 x3 x4 hW; rw [hal] at this; exact this)
  have I4 : Hid (∀ W, Prod1 W c → Calls Try.prog 70 #[.int .i64 hi, .int .i64 2, .int .i64 2, .pointer (some ⟨c, 0, none⟩)] W fun e w' => e = .returned (.int .i64 tt) ∧ Drew W w') := Lib.hid (fun W hW => by have := IHH.out hi 2 W n1 n2 (by omega) (by omega) hW; rw [htt] at this; exact this)
  clear hhi hlo hal htt IHH
  have y3 : 0 ≤ bits .xor .i64 al lo * 4 ∧ bits .xor .i64 al lo * 4 < 16 := by
    have : ((2 ^ 2 : Nat) : Int) = 4 := rfl
    omega
  obtain ⟨y4, y5⟩ := y3
  have W1 : IntKind.i64.wrap (bits .xor .i64 al lo * 4) = bits .xor .i64 al lo * 4 := wraps_i64 _ y4 (by omega)
  go_enter Try.func70, Try.ntmps70
  go_wp2_with fail
  go_quiet ((go_at_call 70; exact Calls.quiet_of (I1.out _ (by unfold Prod1; simp; exact HP.out))))
  have HP2 : Hid (Prod1 (w.drewN nq) c) := Lib.hid (by unfold Prod1; simp; exact HP.out)
  have hc2 : (w.drewN nq).cell? ⟨c, 0, none⟩ = some (.func (.func 70) #[] #[.pointer (some ⟨c, 0, none⟩)]) := HP2.out
  have D2 : Hid (Drew w (w.drewN nq)) := Lib.hid ⟨nq, rfl⟩
  clear hc HP
  generalize w.drewN nq = w2 at *
  go_wp2_with fail
  refine (I2.out _ HP2.out).mono ?_
  rintro e w3 ⟨rfl, hd⟩
  have HP3 : Hid (Prod1 w3 c) := Lib.hid (by unfold Prod1; rw [hd.cell]; exact HP2.out)
  have hc3 : w3.cell? ⟨c, 0, none⟩ = some (.func (.func 70) #[] #[.pointer (some ⟨c, 0, none⟩)]) := HP3.out
  have D3 : Hid (Drew w w3) := Lib.hid (D2.out.trans hd)
  clear hc2 HP2 D2 hd
  go_wp2_with fail
  go_quiet ((go_at_call 70; exact Calls.quiet_of (I3.out _ (by unfold Prod1; simp; exact HP3.out))))
  have HP4 : Hid (Prod1 (w3.drewN nq) c) := Lib.hid (by unfold Prod1; simp; exact HP3.out)
  have hc4 : (w3.drewN nq).cell? ⟨c, 0, none⟩ = some (.func (.func 70) #[] #[.pointer (some ⟨c, 0, none⟩)]) := HP4.out
  have D4 : Hid (Drew w (w3.drewN nq)) := Lib.hid (D3.out.drewN nq)
  clear hc3 HP3 D3
  generalize w3.drewN nq = w4 at *
  go_wp2_with fail
  go_quiet ((go_at_call 70; exact Calls.quiet_of (I4.out _ (by unfold Prod1; simp; exact HP4.out))))
  go_wp2_with fail
  go_ret
  exact ⟨ret_int E.out, D4.out.drewN _⟩

theorem times_4 (c : Nat) (a b : Int) (w : World) (ha0 : 0 ≤ a) (ha : a < 16) (hb0 : 0 ≤ b) (hb : b < 16) (hp : Prod1 w c) :
    Calls Try.prog 70 #[.int .i64 a, .int .i64 b, .int .i64 4, .pointer (some ⟨c, 0, none⟩)] w fun e w' => e = .returned (.int .i64 (nmI 2 a b)) ∧ Drew w w' := by
  by_cases h : a < 2 ∨ b < 2
  · rw [nmI_less field2 a b ha0 ha hb0 hb h]
    exact times_less a b 4 c c w h ha0 hb0 (by omega) (by omega)
  · exact times_4_big c (fun a b w h1 h2 h3 h4 h5 => times_2 c a b w h1 h2 h3 h4 h5) a b w (by omega) (by omega) ha hb hp

theorem times_end_8 (a b A A' B B' xa xb hi lo al tt : Int) (ha0 : 0 ≤ a) (hb0 : 0 ≤ b)
    (hA : a / 16 = A) (hA' : a % 16 = A') (hB : b / 16 = B) (hB' : b % 16 = B') (hxa : bits .xor .i64 A A' = xa) (hxb : bits .xor .i64 B B' = xb)
    (ha : a < 256) (hb : b < 256) (hhi : nmI 2 A B = hi) (hlo : nmI 2 A' B' = lo) (hal : nmI 2 xa xb = al) (htt : nmI 2 hi 8 = tt) :
    bits .xor .i64 (bits .xor .i64 (bits .xor .i64 al lo * 16) lo) tt = nmI 3 a b := by
  obtain ⟨x, rfl⟩ := Int.eq_ofNat_of_zero_le ha0
  obtain ⟨y, rfl⟩ := Int.eq_ofNat_of_zero_le hb0
  have dv : ∀ z : Nat, (z : Int) / 16 = ((z / 16 : Nat) : Int) := fun z => by simp
  have md : ∀ z : Nat, (z : Int) % 16 = ((z % 16 : Nat) : Int) := fun z => by simp
  have F := field2
  have l1 : x / 16 < 2 ^ 4 := by omega
  have l2 : x % 16 < 2 ^ 4 := by omega
  have l3 : y / 16 < 2 ^ 4 := by omega
  have l4 : y % 16 < 2 ^ 4 := by omega
  have sm : ∀ z : Nat, z < 2 ^ 4 → z < 2 ^ 63 := fun z hz => Nat.lt_of_lt_of_le hz (Nat.pow_le_pow_right (by decide) (by decide))
  rw [dv] at hA hB
  rw [md] at hA' hB'
  subst hA hA' hB hB'
  rw [xor_nat _ _ (sm _ l1) (sm _ l2)] at hxa
  rw [xor_nat _ _ (sm _ l3) (sm _ l4)] at hxb
  subst hxa hxb
  have l5 := Nat.xor_lt_two_pow l1 l2
  have l6 := Nat.xor_lt_two_pow l3 l4
  rw [nmI_nat] at hhi hlo hal
  have m1 := F.lt _ _ l1 l3
  have m2 := F.lt _ _ l2 l4
  have m3 := F.lt _ _ l5 l6
  subst hhi hlo hal
  have htt' : ((nm 2 (nm 2 (x / 16) (y / 16)) 8 : Nat) : Int) = tt := htt
  have m4 := F.lt _ 8 m1 (by decide)
  subst htt'
  have m5 := Nat.xor_lt_two_pow m3 m2
  rw [xor_nat _ _ (sm _ m3) (sm _ m2)]
  have c : ∀ z : Nat, (z : Int) * 16 = ((z * 16 : Nat) : Int) := fun z => by simp
  rw [c]
  have m6 : (nm 2 (x / 16 ^^^ x % 16) (y / 16 ^^^ y % 16) ^^^ nm 2 (x % 16) (y % 16)) * 16 < 2 ^ 8 := by
    have : (nm 2 (x / 16 ^^^ x % 16) (y / 16 ^^^ y % 16) ^^^ nm 2 (x % 16) (y % 16)) < 16 := m5
    omega
  have sm2 : ∀ z : Nat, z < 2 ^ 8 → z < 2 ^ 63 := fun z hz => Nat.lt_of_lt_of_le hz (Nat.pow_le_pow_right (by decide) (by decide))
  have up : ∀ z : Nat, z < 2 ^ 4 → z < 2 ^ 8 := fun z hz => Nat.lt_of_lt_of_le hz (Nat.pow_le_pow_right (by decide) (by decide))
  rw [xor_nat _ _ (sm2 _ m6) (sm _ m2)]
  rw [xor_nat _ _ (sm2 _ (Nat.xor_lt_two_pow m6 (up _ m2))) (sm _ m4)]
  rfl

set_option maxHeartbeats 400000 in
theorem times_8_big (c : Nat) (IH : ∀ (a b : Int) (w : World), 0 ≤ a → a < 16 → 0 ≤ b → b < 16 → Prod1 w c →
      Calls Try.prog 70 #[.int .i64 a, .int .i64 b, .int .i64 4, .pointer (some ⟨c, 0, none⟩)] w fun e w' => e = .returned (.int .i64 (nmI 2 a b)) ∧ Drew w w')
    (a b : Int) (w : World) (h1 : 2 ≤ a) (h2 : 2 ≤ b) (ha : a < 256) (hb : b < 256) (hp : Prod1 w c) :
    Calls Try.prog 70 #[.int .i64 a, .int .i64 b, .int .i64 8, .pointer (some ⟨c, 0, none⟩)] w fun e w' => e = .returned (.int .i64 (nmI 3 a b)) ∧ Drew w w' := by
  have IHH := Lib.hid IH
  clear IH
  have HP := Lib.hid hp
  have hc : w.cell? ⟨c, 0, none⟩ = some (.func (.func 70) #[] #[.pointer (some ⟨c, 0, none⟩)]) := hp
  clear hp
  have E := times_end_8 a b
  have e1 : bits .and .i64 a 15 = a % 16 := and_int 4 (by decide) a (by omega) (by omega)
  have e2 : bits .and .i64 b 15 = b % 16 := and_int 4 (by decide) b (by omega) (by omega)
  have hlim : a % 16 < 16 ∧ b % 16 < 16 ∧ 0 ≤ a % 16 ∧ 0 ≤ b % 16 ∧ 0 ≤ a / 16 ∧ 0 ≤ b / 16 ∧ a / 16 < 16 ∧ b / 16 < 16 := by omega
  obtain ⟨l1, l2, l3, l4, l5, l6, l7, l8⟩ := hlim
  obtain ⟨A, hA⟩ : ∃ A, a / 16 = A := ⟨_, rfl⟩
  obtain ⟨A', hA'⟩ : ∃ A, a % 16 = A := ⟨_, rfl⟩
  obtain ⟨B, hB⟩ : ∃ A, b / 16 = A := ⟨_, rfl⟩
  obtain ⟨B', hB'⟩ : ∃ A, b % 16 = A := ⟨_, rfl⟩
  rw [hA'] at e1 l1 l3
  rw [hB'] at e2 l2 l4
  rw [hA] at l5 l7
  rw [hB] at l6 l8
  have X1 := xor_int 4 (by decide) A A' l5 l7 l3 l1
  have X2 := xor_int 4 (by decide) B B' l6 l8 l4 l2
  obtain ⟨xa, hxa⟩ : ∃ x, bits .xor .i64 A A' = x := ⟨_, rfl⟩
  obtain ⟨xb, hxb⟩ : ∃ x, bits .xor .i64 B B' = x := ⟨_, rfl⟩
  rw [hxa] at X1
  rw [hxb] at X2
  obtain ⟨-, x1, x2⟩ := X1
  obtain ⟨-, x3, x4⟩ := X2
  have N1 := nmI_lt field2 A B l5 l7 l6 l8
  have N2 := nmI_lt field2 A' B' l3 l1 l4 l2
  have N3 := nmI_lt field2 xa xb x1 x2 x3 x4
  obtain ⟨hi, hhi⟩ : ∃ x, nmI 2 A B = x := ⟨_, rfl⟩
  obtain ⟨lo, hlo⟩ : ∃ x, nmI 2 A' B' = x := ⟨_, rfl⟩
  obtain ⟨al, hal⟩ : ∃ x, nmI 2 xa xb = x := ⟨_, rfl⟩
  rw [hhi] at N1
  rw [hlo] at N2
  rw [hal] at N3
  obtain ⟨n1, n2⟩ := N1
  obtain ⟨n3, n4⟩ := N2
  obtain ⟨n5, n6⟩ := N3
  obtain ⟨-, y1, y2⟩ := xor_int 4 (by decide) al lo n5 n6 n3 n4
  obtain ⟨tt, htt⟩ : ∃ x, nmI 2 hi 8 = x := ⟨_, rfl⟩
  have E := Lib.hid (E A A' B B' xa xb hi lo al tt (by omega) (by omega) hA hA' hB hB' hxa hxb ha hb hhi hlo hal htt)
  have I1 : Hid (∀ W, Prod1 W c → Calls Try.prog 70 #[.int .i64 A, .int .i64 B, .int .i64 4, .pointer (some ⟨c, 0, none⟩)] W fun e w' => e = .returned (.int .i64 hi) ∧ Drew W w') := Lib.hid (fun W hW => by have := IHH.out A B W l5 l7 l6 l8 hW; rw [hhi] at this; exact this)
  have I2 : Hid (∀ W, Prod1 W c → Calls Try.prog 70 #[.int .i64 A', .int .i64 B', .int .i64 4, .pointer (some ⟨c, 0, none⟩)] W fun e w' => e = .returned (.int .i64 lo) ∧ Drew W w') := Lib.hid (fun W hW => by have := IHH.out A' B' W l3 l1 l4 l2 hW; rw [hlo] at this; exact this)
  have I3 : Hid (∀ W, Prod1 W c → Calls Try.prog 70 #[.int .i64 xa, .int .i64 xb, .int .i64 4, .pointer (some ⟨c, 0, none⟩)] W fun e w' => e = .returned (.int .i64 al) ∧ Drew W w') := Lib.hid (fun W hW => by have := IHH.out xa xb W x1 x2 x3 x4 hW; rw [hal] at this; exact this)
  have I4 : Hid (∀ W, Prod1 W c → Calls Try.prog 70 #[.int .i64 hi, .int .i64 8, .int .i64 4, .pointer (some ⟨c, 0, none⟩)] W fun e w' => e = .returned (.int .i64 tt) ∧ Drew W w') := Lib.hid (fun W hW => by have := IHH.out hi 8 W n1 n2 (by omega) (by omega) hW; rw [htt] at this; exact this)
  clear hhi hlo hal htt IHH
  have y3 : 0 ≤ bits .xor .i64 al lo * 16 ∧ bits .xor .i64 al lo * 16 < 256 := by
    have : ((2 ^ 4 : Nat) : Int) = 16 := rfl
    omega
  obtain ⟨y4, y5⟩ := y3
  have W1 : IntKind.i64.wrap (bits .xor .i64 al lo * 16) = bits .xor .i64 al lo * 16 := wraps_i64 _ y4 (by omega)
  go_enter Try.func70, Try.ntmps70
  go_wp2_with fail
  go_quiet ((go_at_call 70; exact Calls.quiet_of (I1.out _ (by unfold Prod1; simp; exact HP.out))))
  have HP2 : Hid (Prod1 (w.drewN nq) c) := Lib.hid (by unfold Prod1; simp; exact HP.out)
  have hc2 : (w.drewN nq).cell? ⟨c, 0, none⟩ = some (.func (.func 70) #[] #[.pointer (some ⟨c, 0, none⟩)]) := HP2.out
  have D2 : Hid (Drew w (w.drewN nq)) := Lib.hid ⟨nq, rfl⟩
  clear hc HP
  generalize w.drewN nq = w2 at *
  go_wp2_with fail
  refine (I2.out _ HP2.out).mono ?_
  rintro e w3 ⟨rfl, hd⟩
  have HP3 : Hid (Prod1 w3 c) := Lib.hid (by unfold Prod1; rw [hd.cell]; exact HP2.out)
  have hc3 : w3.cell? ⟨c, 0, none⟩ = some (.func (.func 70) #[] #[.pointer (some ⟨c, 0, none⟩)]) := HP3.out
  have D3 : Hid (Drew w w3) := Lib.hid (D2.out.trans hd)
  clear hc2 HP2 D2 hd
  go_wp2_with fail
  go_quiet ((go_at_call 70; exact Calls.quiet_of (I3.out _ (by unfold Prod1; simp; exact HP3.out))))
  have HP4 : Hid (Prod1 (w3.drewN nq) c) := Lib.hid (by unfold Prod1; simp; exact HP3.out)
  have hc4 : (w3.drewN nq).cell? ⟨c, 0, none⟩ = some (.func (.func 70) #[] #[.pointer (some ⟨c, 0, none⟩)]) := HP4.out
  have D4 : Hid (Drew w (w3.drewN nq)) := Lib.hid (D3.out.drewN nq)
  clear hc3 HP3 D3
  generalize w3.drewN nq = w4 at *
  go_wp2_with fail
  go_quiet ((go_at_call 70; exact Calls.quiet_of (I4.out _ (by unfold Prod1; simp; exact HP4.out))))
  go_wp2_with fail
  go_ret
  exact ⟨ret_int E.out, D4.out.drewN _⟩

theorem times_8 (c : Nat) (a b : Int) (w : World) (ha0 : 0 ≤ a) (ha : a < 256) (hb0 : 0 ≤ b) (hb : b < 256) (hp : Prod1 w c) :
    Calls Try.prog 70 #[.int .i64 a, .int .i64 b, .int .i64 8, .pointer (some ⟨c, 0, none⟩)] w fun e w' => e = .returned (.int .i64 (nmI 3 a b)) ∧ Drew w w' := by
  by_cases h : a < 2 ∨ b < 2
  · rw [nmI_less field3 a b ha0 ha hb0 hb h]
    exact times_less a b 8 c c w h ha0 hb0 (by omega) (by omega)
  · exact times_8_big c (fun a b w h1 h2 h3 h4 h5 => times_4 c a b w h1 h2 h3 h4 h5) a b w (by omega) (by omega) ha hb hp

theorem times_end_16 (a b A A' B B' xa xb hi lo al tt : Int) (ha0 : 0 ≤ a) (hb0 : 0 ≤ b)
    (hA : a / 256 = A) (hA' : a % 256 = A') (hB : b / 256 = B) (hB' : b % 256 = B') (hxa : bits .xor .i64 A A' = xa) (hxb : bits .xor .i64 B B' = xb)
    (ha : a < 65536) (hb : b < 65536) (hhi : nmI 3 A B = hi) (hlo : nmI 3 A' B' = lo) (hal : nmI 3 xa xb = al) (htt : nmI 3 hi 128 = tt) :
    bits .xor .i64 (bits .xor .i64 (bits .xor .i64 al lo * 256) lo) tt = nmI 4 a b := by
  obtain ⟨x, rfl⟩ := Int.eq_ofNat_of_zero_le ha0
  obtain ⟨y, rfl⟩ := Int.eq_ofNat_of_zero_le hb0
  have dv : ∀ z : Nat, (z : Int) / 256 = ((z / 256 : Nat) : Int) := fun z => by simp
  have md : ∀ z : Nat, (z : Int) % 256 = ((z % 256 : Nat) : Int) := fun z => by simp
  have F := field3
  have l1 : x / 256 < 2 ^ 8 := by omega
  have l2 : x % 256 < 2 ^ 8 := by omega
  have l3 : y / 256 < 2 ^ 8 := by omega
  have l4 : y % 256 < 2 ^ 8 := by omega
  have sm : ∀ z : Nat, z < 2 ^ 8 → z < 2 ^ 63 := fun z hz => Nat.lt_of_lt_of_le hz (Nat.pow_le_pow_right (by decide) (by decide))
  rw [dv] at hA hB
  rw [md] at hA' hB'
  subst hA hA' hB hB'
  rw [xor_nat _ _ (sm _ l1) (sm _ l2)] at hxa
  rw [xor_nat _ _ (sm _ l3) (sm _ l4)] at hxb
  subst hxa hxb
  have l5 := Nat.xor_lt_two_pow l1 l2
  have l6 := Nat.xor_lt_two_pow l3 l4
  rw [nmI_nat] at hhi hlo hal
  have m1 := F.lt _ _ l1 l3
  have m2 := F.lt _ _ l2 l4
  have m3 := F.lt _ _ l5 l6
  subst hhi hlo hal
  have htt' : ((nm 3 (nm 3 (x / 256) (y / 256)) 128 : Nat) : Int) = tt := htt
  have m4 := F.lt _ 128 m1 (by decide)
  subst htt'
  have m5 := Nat.xor_lt_two_pow m3 m2
  rw [xor_nat _ _ (sm _ m3) (sm _ m2)]
  have c : ∀ z : Nat, (z : Int) * 256 = ((z * 256 : Nat) : Int) := fun z => by simp
  rw [c]
  have m6 : (nm 3 (x / 256 ^^^ x % 256) (y / 256 ^^^ y % 256) ^^^ nm 3 (x % 256) (y % 256)) * 256 < 2 ^ 16 := by
    have : (nm 3 (x / 256 ^^^ x % 256) (y / 256 ^^^ y % 256) ^^^ nm 3 (x % 256) (y % 256)) < 256 := m5
    omega
  have sm2 : ∀ z : Nat, z < 2 ^ 16 → z < 2 ^ 63 := fun z hz => Nat.lt_of_lt_of_le hz (Nat.pow_le_pow_right (by decide) (by decide))
  have up : ∀ z : Nat, z < 2 ^ 8 → z < 2 ^ 16 := fun z hz => Nat.lt_of_lt_of_le hz (Nat.pow_le_pow_right (by decide) (by decide))
  rw [xor_nat _ _ (sm2 _ m6) (sm _ m2)]
  rw [xor_nat _ _ (sm2 _ (Nat.xor_lt_two_pow m6 (up _ m2))) (sm _ m4)]
  rfl

set_option maxHeartbeats 400000 in
theorem times_16_big (c : Nat) (IH : ∀ (a b : Int) (w : World), 0 ≤ a → a < 256 → 0 ≤ b → b < 256 → Prod1 w c →
      Calls Try.prog 70 #[.int .i64 a, .int .i64 b, .int .i64 8, .pointer (some ⟨c, 0, none⟩)] w fun e w' => e = .returned (.int .i64 (nmI 3 a b)) ∧ Drew w w')
    (a b : Int) (w : World) (h1 : 2 ≤ a) (h2 : 2 ≤ b) (ha : a < 65536) (hb : b < 65536) (hp : Prod1 w c) :
    Calls Try.prog 70 #[.int .i64 a, .int .i64 b, .int .i64 16, .pointer (some ⟨c, 0, none⟩)] w fun e w' => e = .returned (.int .i64 (nmI 4 a b)) ∧ Drew w w' := by
  have IHH := Lib.hid IH
  clear IH
  have HP := Lib.hid hp
  have hc : w.cell? ⟨c, 0, none⟩ = some (.func (.func 70) #[] #[.pointer (some ⟨c, 0, none⟩)]) := hp
  clear hp
  have E := times_end_16 a b
  have e1 : bits .and .i64 a 255 = a % 256 := and_int 8 (by decide) a (by omega) (by omega)
  have e2 : bits .and .i64 b 255 = b % 256 := and_int 8 (by decide) b (by omega) (by omega)
  have hlim : a % 256 < 256 ∧ b % 256 < 256 ∧ 0 ≤ a % 256 ∧ 0 ≤ b % 256 ∧ 0 ≤ a / 256 ∧ 0 ≤ b / 256 ∧ a / 256 < 256 ∧ b / 256 < 256 := by omega
  obtain ⟨l1, l2, l3, l4, l5, l6, l7, l8⟩ := hlim
  obtain ⟨A, hA⟩ : ∃ A, a / 256 = A := ⟨_, rfl⟩
  obtain ⟨A', hA'⟩ : ∃ A, a % 256 = A := ⟨_, rfl⟩
  obtain ⟨B, hB⟩ : ∃ A, b / 256 = A := ⟨_, rfl⟩
  obtain ⟨B', hB'⟩ : ∃ A, b % 256 = A := ⟨_, rfl⟩
  rw [hA'] at e1 l1 l3
  rw [hB'] at e2 l2 l4
  rw [hA] at l5 l7
  rw [hB] at l6 l8
  have X1 := xor_int 8 (by decide) A A' l5 l7 l3 l1
  have X2 := xor_int 8 (by decide) B B' l6 l8 l4 l2
  obtain ⟨xa, hxa⟩ : ∃ x, bits .xor .i64 A A' = x := ⟨_, rfl⟩
  obtain ⟨xb, hxb⟩ : ∃ x, bits .xor .i64 B B' = x := ⟨_, rfl⟩
  rw [hxa] at X1
  rw [hxb] at X2
  obtain ⟨-, x1, x2⟩ := X1
  obtain ⟨-, x3, x4⟩ := X2
  have N1 := nmI_lt field3 A B l5 l7 l6 l8
  have N2 := nmI_lt field3 A' B' l3 l1 l4 l2
  have N3 := nmI_lt field3 xa xb x1 x2 x3 x4
  obtain ⟨hi, hhi⟩ : ∃ x, nmI 3 A B = x := ⟨_, rfl⟩
  obtain ⟨lo, hlo⟩ : ∃ x, nmI 3 A' B' = x := ⟨_, rfl⟩
  obtain ⟨al, hal⟩ : ∃ x, nmI 3 xa xb = x := ⟨_, rfl⟩
  rw [hhi] at N1
  rw [hlo] at N2
  rw [hal] at N3
  obtain ⟨n1, n2⟩ := N1
  obtain ⟨n3, n4⟩ := N2
  obtain ⟨n5, n6⟩ := N3
  obtain ⟨-, y1, y2⟩ := xor_int 8 (by decide) al lo n5 n6 n3 n4
  obtain ⟨tt, htt⟩ : ∃ x, nmI 3 hi 128 = x := ⟨_, rfl⟩
  have E := Lib.hid (E A A' B B' xa xb hi lo al tt (by omega) (by omega) hA hA' hB hB' hxa hxb ha hb hhi hlo hal htt)
  have I1 : Hid (∀ W, Prod1 W c → Calls Try.prog 70 #[.int .i64 A, .int .i64 B, .int .i64 8, .pointer (some ⟨c, 0, none⟩)] W fun e w' => e = .returned (.int .i64 hi) ∧ Drew W w') := Lib.hid (fun W hW => by have := IHH.out A B W l5 l7 l6 l8 hW; rw [hhi] at this; exact this)
  have I2 : Hid (∀ W, Prod1 W c → Calls Try.prog 70 #[.int .i64 A', .int .i64 B', .int .i64 8, .pointer (some ⟨c, 0, none⟩)] W fun e w' => e = .returned (.int .i64 lo) ∧ Drew W w') := Lib.hid (fun W hW => by have := IHH.out A' B' W l3 l1 l4 l2 hW; rw [hlo] at this; exact this)
  have I3 : Hid (∀ W, Prod1 W c → Calls Try.prog 70 #[.int .i64 xa, .int .i64 xb, .int .i64 8, .pointer (some ⟨c, 0, none⟩)] W fun e w' => e = .returned (.int .i64 al) ∧ Drew W w') := Lib.hid (fun W hW => by have := IHH.out xa xb W x1 x2 x3 x4 hW; rw [hal] at this; exact this)
  have I4 : Hid (∀ W, Prod1 W c → Calls Try.prog 70 #[.int .i64 hi, .int .i64 128, .int .i64 8, .pointer (some ⟨c, 0, none⟩)] W fun e w' => e = .returned (.int .i64 tt) ∧ Drew W w') := Lib.hid (fun W hW => by have := IHH.out hi 128 W n1 n2 (by omega) (by omega) hW; rw [htt] at this; exact this)
  clear hhi hlo hal htt IHH
  have y3 : 0 ≤ bits .xor .i64 al lo * 256 ∧ bits .xor .i64 al lo * 256 < 65536 := by
    have : ((2 ^ 8 : Nat) : Int) = 256 := rfl
    omega
  obtain ⟨y4, y5⟩ := y3
  have W1 : IntKind.i64.wrap (bits .xor .i64 al lo * 256) = bits .xor .i64 al lo * 256 := wraps_i64 _ y4 (by omega)
  go_enter Try.func70, Try.ntmps70
  go_wp2_with fail
  go_quiet ((go_at_call 70; exact Calls.quiet_of (I1.out _ (by unfold Prod1; simp; exact HP.out))))
  have HP2 : Hid (Prod1 (w.drewN nq) c) := Lib.hid (by unfold Prod1; simp; exact HP.out)
  have hc2 : (w.drewN nq).cell? ⟨c, 0, none⟩ = some (.func (.func 70) #[] #[.pointer (some ⟨c, 0, none⟩)]) := HP2.out
  have D2 : Hid (Drew w (w.drewN nq)) := Lib.hid ⟨nq, rfl⟩
  clear hc HP
  generalize w.drewN nq = w2 at *
  go_wp2_with fail
  refine (I2.out _ HP2.out).mono ?_
  rintro e w3 ⟨rfl, hd⟩
  have HP3 : Hid (Prod1 w3 c) := Lib.hid (by unfold Prod1; rw [hd.cell]; exact HP2.out)
  have hc3 : w3.cell? ⟨c, 0, none⟩ = some (.func (.func 70) #[] #[.pointer (some ⟨c, 0, none⟩)]) := HP3.out
  have D3 : Hid (Drew w w3) := Lib.hid (D2.out.trans hd)
  clear hc2 HP2 D2 hd
  go_wp2_with fail
  go_quiet ((go_at_call 70; exact Calls.quiet_of (I3.out _ (by unfold Prod1; simp; exact HP3.out))))
  have HP4 : Hid (Prod1 (w3.drewN nq) c) := Lib.hid (by unfold Prod1; simp; exact HP3.out)
  have hc4 : (w3.drewN nq).cell? ⟨c, 0, none⟩ = some (.func (.func 70) #[] #[.pointer (some ⟨c, 0, none⟩)]) := HP4.out
  have D4 : Hid (Drew w (w3.drewN nq)) := Lib.hid (D3.out.drewN nq)
  clear hc3 HP3 D3
  generalize w3.drewN nq = w4 at *
  go_wp2_with fail
  go_quiet ((go_at_call 70; exact Calls.quiet_of (I4.out _ (by unfold Prod1; simp; exact HP4.out))))
  go_wp2_with fail
  go_ret
  exact ⟨ret_int E.out, D4.out.drewN _⟩

theorem times_16 (c : Nat) (a b : Int) (w : World) (ha0 : 0 ≤ a) (ha : a < 65536) (hb0 : 0 ≤ b) (hb : b < 65536) (hp : Prod1 w c) :
    Calls Try.prog 70 #[.int .i64 a, .int .i64 b, .int .i64 16, .pointer (some ⟨c, 0, none⟩)] w fun e w' => e = .returned (.int .i64 (nmI 4 a b)) ∧ Drew w w' := by
  by_cases h : a < 2 ∨ b < 2
  · rw [nmI_less field4 a b ha0 ha hb0 hb h]
    exact times_less a b 16 c c w h ha0 hb0 (by omega) (by omega)
  · exact times_16_big c (fun a b w h1 h2 h3 h4 h5 => times_8 c a b w h1 h2 h3 h4 h5) a b w (by omega) (by omega) ha hb hp
end Go.Proofs.Ytodnfchkkgoabaa
