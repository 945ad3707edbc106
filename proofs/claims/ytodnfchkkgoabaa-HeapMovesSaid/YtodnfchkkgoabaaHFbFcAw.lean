/- WALKS of product, inField, power, Times, Inverse, Root, Power. -/
import Derived.Test.YtodnfchkkgoabaaHFa
import Derived.Test.YtodnfchkkgoabaaHVeVf
import Derived.Test.YtodnfchkkgoabaaHOc
import Derived.OneCell
import Derived.Laws.EntriesVeiled
namespace Go.Proofs.Ytodnfchkkgoabaa
open Go.RowKit
open Nim

theorem product_any (a b : Int) (w : World) (ha0 : 0 ≤ a) (ha : a < 65536) (hb0 : 0 ≤ b) (hb : b < 65536) :
    Calls Try.prog 55 #[.int .i64 a, .int .i64 b] w fun e w' => e = .returned (.int .i64 (nmI 4 a b)) ∧ Below w.heap.size w w' := by
  have T := Lib.hid times_16
  go_enter Try.func55, Try.ntmps55
  go_wp2_with fail
  refine (T.out w.heap.size _ _ _ ha0 ha hb0 hb ?_).mono ?_
  · unfold Prod1; simp
  rintro e w' ⟨rfl, hd⟩
  have HB := Lib.hid (((Below.refl w.heap.size w).alloc (Nat.le_refl _) _).trans (hd.below _))
  clear hd
  go_wp2_with fail
  go_ret
  exact ⟨rfl, HB.out⟩

/-- The slice's cells, and that they are not beyond the heap. -/
def Ints (w : World) (b : Nat) (L : List Int) : Prop := ∀ i, i < L.length → w.cell? ⟨b, i, none⟩ = some (.int .i64 (L.getD i 0))
def inF (L : List Int) : Bool := L.all fun a => decide (0 ≤ a) && decide (a < 65536)

theorem inField_any (b : Nat) (L : List Int) (c : Nat) (w : World) (hL : L.length ≤ 1000) (h : Ints w b L) :
    Calls Try.prog 54 #[.slice (some ⟨b, 0, none⟩) L.length c] w fun e w' => e = .returned (.bool (inF L)) ∧ w = w' := by
  obtain ⟨n, hn⟩ : ∃ n, L.length = n := ⟨_, rfl⟩
  rw [hn] at hL ⊢
  have HN := Lib.hid hn
  have H := Lib.hid h
  clear hn h
  go_enter Try.func54, Try.ntmps54
  go_wp2_with fail
  go_loop [4, 7] (fun _ i => ∃ k : Nat, i = .int .i64 k ∧ k ≤ n ∧ Hid (inF (L.take k) = true)) (fun _ i => n - (intOf i).toNat)
  case atStart => exact ⟨0, rfl, by omega, rfl⟩
  case round =>
    obtain ⟨k, rfl, hk, hf⟩ := hrel
    by_cases hlt : k < n
    · have hcell : w.cell? ⟨b, k, none⟩ = some (.int .i64 (L.getD k 0)) := H.out k (by have := HN.out; omega)
      have HT : Hid (inF (L.take (k + 1)) = (decide (0 ≤ L.getD k 0) && decide (L.getD k 0 < 65536))) := Lib.hid (by
        have h1 : k < L.length := by have := HN.out; omega
        unfold inF at *
        rw [List.take_succ_eq_append_getElem h1, List.all_append]
        have := hf.out
        rw [this]
        simp [List.getD_eq_getElem?_getD, List.getElem?_eq_getElem h1])
      have HA : Hid (inF L = true → inF (L.take (k + 1)) = true) := Lib.hid (by
        intro ha
        unfold inF at *
        rw [List.all_eq_true] at *
        exact fun x hx => ha x (List.mem_of_mem_take hx))
      generalize L.getD k 0 = v at *
      by_cases h0 : 0 ≤ v
      · by_cases h1 : v < 65536
        · go_wp2_with fail
          go_round
          case rel => exact ⟨k + 1, by go_num, by omega, Lib.hid (by rw [HT.out]; simp; omega)⟩
          case measure => simp [intOf]; omega
        · have hF : inF L = false := by
            cases hq : inF L with
            | false => rfl
            | true => have := HA.out hq; rw [HT.out] at this; simp at this; omega
          replace hF := Lib.hid hF
          clear HT HA hf
          go_wp2_with fail
          go_ret
          exact ⟨by rw [hF.out]; rfl, rfl⟩
      · have hF : inF L = false := by
          cases hq : inF L with
          | false => rfl
          | true => have := HA.out hq; rw [HT.out] at this; simp at this; omega
        replace hF := Lib.hid hF
        clear HT HA hf
        go_wp2_with fail
        go_ret
        exact ⟨by rw [hF.out]; rfl, rfl⟩
    · have hF : inF L = true := by have := hf.out; rw [List.take_of_length_le (by have := HN.out; omega)] at this; exact this
      replace hF := Lib.hid hF
      clear hf
      go_wp2_with fail
      go_ret
      exact ⟨by rw [hF.out]; rfl, rfl⟩

theorem npw_two (a n : Nat) (ha : a < 2 ^ 16) : npw 4 (nm 4 a a) n = npw 4 a (n + n) := by
  induction n with
  | zero => rfl
  | succ n ih =>
    have e : n + 1 + (n + 1) = (n + n) + 2 := by omega
    have h2 : npw 4 a 2 = nm 4 a a := by
      show nm 4 (nm 4 1 a) a = nm 4 a a
      rw [field4.one' _ ha]
    show nm 4 (npw 4 (nm 4 a a) n) (nm 4 a a) = _
    rw [ih, e, npw_add a (n + n) 2 ha, h2]
theorem npw_succ' (a n : Nat) (ha : a < 2 ^ 16) : npw 4 a (n + 1) = nm 4 a (npw 4 a n) := by
  rw [Nat.add_comm, npw_add a 1 n ha]
  congr 1
  show nm 4 1 a = a
  rw [field4.one' _ ha]
theorem step_odd (r a n N : Nat) (hr : r < 2 ^ 16) (ha : a < 2 ^ 16) (hn : n % 2 = 1) (h : nm 4 r (npw 4 a n) = N) : nm 4 (nm 4 r a) (npw 4 (nm 4 a a) (n / 2)) = N := by
  rw [npw_two _ _ ha, ← h, field4.assoc _ _ _ hr ha (npw_lt _ _ ha), ← npw_succ' _ _ ha]
  congr 2; omega
theorem step_even (r a n N : Nat) (ha : a < 2 ^ 16) (hn : n % 2 = 0) (h : nm 4 r (npw 4 a n) = N) : nm 4 r (npw 4 (nm 4 a a) (n / 2)) = N := by
  rw [npw_two _ _ ha, ← h]
  congr 2; omega

theorem product_nat (a b : Nat) (w : World) (ha : a < 65536) (hb : b < 65536) :
    Calls Try.prog 55 #[.int .i64 a, .int .i64 b] w fun e w' => e = .returned (.int .i64 (nm 4 a b : Nat)) ∧ Below w.heap.size w w' :=
  product_any a b w (by omega) (by omega) (by omega) (by omega)

set_option maxHeartbeats 400000 in
theorem power_any (a n : Nat) (w : World) (ha : a < 65536) (hn : n ≤ 9223372036854775807) :
    Calls Try.prog 56 #[.int .i64 a, .int .i64 n] w fun e w' => e = .returned (.int .i64 (npw 4 a n : Nat)) ∧ Below w.heap.size w w' := by
  have P := Lib.hid product_nat
  have h0 := field4.one' _ (npw_lt a n ha)
  have H0 := Lib.hid h0
  clear h0
  go_enter Try.func56, Try.ntmps56
  go_wp2_with fail
  go_loopw [0, 1, 5] (fun x y z wr => ∃ a' n' r : Nat, x = .int .i64 a' ∧ y = .int .i64 n' ∧ z = .int .i64 r ∧ a' < 65536 ∧ n' ≤ 9223372036854775807 ∧ r < 65536 ∧ Hid (nm 4 r (npw 4 a' n') = npw 4 a n) ∧ Hid (Below w.heap.size w wr)) (fun _ y _ _ => (intOf y).toNat)
  case atStart => exact ⟨a, n, 1, rfl, rfl, rfl, ha, hn, by omega, H0, Lib.hid (Below.refl _ _)⟩
  case round =>
    clear H0
    obtain ⟨a', n', r, rfl, rfl, rfl, ha', hn', hr, hg, hd⟩ := hrel
    by_cases h0 : n' = 0
    · have hN : Hid (r = npw 4 a n) := Lib.hid (by rw [← hg.out, h0]; exact (field4.one _ (by omega)).symm)
      subst h0
      go_wp2_with fail
      go_ret
      exact ⟨ret_int (by exact_mod_cast hN.out), hd.out⟩
    · have hp : 0 < n' := by omega
      by_cases hodd : n' % 2 = 1
      · have G := Lib.hid (step_odd r a' n' _ hr ha' hodd hg.out)
        have l1 := field4.lt _ _ (show r < 2 ^ 16 from hr) (show a' < 2 ^ 16 from ha')
        have l2 := field4.lt _ _ (show a' < 2 ^ 16 from ha') (show a' < 2 ^ 16 from ha')
        have P1 : Hid (∀ W : World, Calls Try.prog 55 #[.int .i64 r, .int .i64 a'] W fun e w' => e = .returned (.int .i64 (nm 4 r a' : Nat)) ∧ Below W.heap.size W w') := Lib.hid fun W => P.out r a' W hr ha'
        have P2 : Hid (∀ W : World, Calls Try.prog 55 #[.int .i64 a', .int .i64 a'] W fun e w' => e = .returned (.int .i64 (nm 4 a' a' : Nat)) ∧ Below W.heap.size W w') := Lib.hid fun W => P.out a' a' W ha' ha'
        generalize nm 4 r a' = r2 at *
        generalize nm 4 a' a' = a2 at *
        go_wp2_with fail
        refine (P1.out _).mono ?_
        rintro e w1 ⟨rfl, hb1⟩
        have B1 := Lib.hid (hd.out.trans (hb1.mono hd.out.size))
        clear hb1
        go_wp2_with fail
        refine (P2.out _).mono ?_
        rintro e w2 ⟨rfl, hb2⟩
        have B2 := Lib.hid (B1.out.trans (hb2.mono B1.out.size))
        clear hb2
        go_wp2_with fail
        go_roundw
        case rel => exact ⟨a2, n' / 2, r2, rfl, by go_num, rfl, l2, by omega, l1, G, B2⟩
        case measure => simp [intOf]; omega
      · have G := Lib.hid (step_even r a' n' _ ha' (by omega) hg.out)
        have l2 := field4.lt _ _ (show a' < 2 ^ 16 from ha') (show a' < 2 ^ 16 from ha')
        have P2 : Hid (∀ W : World, Calls Try.prog 55 #[.int .i64 a', .int .i64 a'] W fun e w' => e = .returned (.int .i64 (nm 4 a' a' : Nat)) ∧ Below W.heap.size W w') := Lib.hid fun W => P.out a' a' W ha' ha'
        generalize nm 4 a' a' = a2 at *
        go_wp2_with fail
        refine (P2.out _).mono ?_
        rintro e w2 ⟨rfl, hb2⟩
        have B2 := Lib.hid (hd.out.trans (hb2.mono hd.out.size))
        clear hb2
        go_wp2_with fail
        go_roundw
        case rel => exact ⟨a2, n' / 2, r, rfl, by go_num, rfl, l2, by omega, hr, G, B2⟩
        case measure => simp [intOf]; omega
end Go.Proofs.Ytodnfchkkgoabaa

/- WALKS of Times, Inverse, Root, Power. -/
namespace Go.Proofs.Ytodnfchkkgoabaa
open Go.RowKit
open Nim

theorem inF_two (a b : Int) (h : 0 ≤ a ∧ a < 65536 ∧ 0 ≤ b ∧ b < 65536) : inF [a, b] = true := by simp [inF]; omega
theorem inF_two_no (a b : Int) (h : ¬ (0 ≤ a ∧ a < 65536 ∧ 0 ≤ b ∧ b < 65536)) : inF [a, b] = false := by simp [inF]; omega
theorem inF_one (a : Int) (h : 0 ≤ a ∧ a < 65536) : inF [a] = true := by simp [inF]; omega
theorem inF_one_no (a : Int) (h : ¬ (0 ≤ a ∧ a < 65536)) : inF [a] = false := by simp [inF]; omega

theorem ints_two (w : World) (a b : Int) (t : TypeId) : Ints (w.alloc (.cells #[.int .i64 a, .int .i64 b] t)) w.heap.size [a, b] := by
  intro i hi
  have : i = 0 ∨ i = 1 := by simp at hi; omega
  rcases this with rfl | rfl <;> simp
theorem ints_one (w : World) (a : Int) (t : TypeId) : Ints (w.alloc (.cells #[.int .i64 a] t)) w.heap.size [a] := by
  intro i hi
  have : i = 0 := by simp at hi; omega
  subst this; simp

theorem two_in (a b : Int) (c : Nat) (w : World) (t : TypeId) (x : Bool) (h : inF [a, b] = x) :
    Calls Try.prog 54 #[.slice (some ⟨w.heap.size, 0, none⟩) 2 c] (w.alloc (.cells #[.int .i64 a, .int .i64 b] t)) fun e w' => e = .returned (.bool x) ∧ (w.alloc (.cells #[.int .i64 a, .int .i64 b] t)) = w' := by
  rw [← h]
  exact inField_any w.heap.size [a, b] c _ (by simp) (ints_two w a b t)
theorem one_in (a : Int) (c : Nat) (w : World) (t : TypeId) (x : Bool) (h : inF [a] = x) :
    Calls Try.prog 54 #[.slice (some ⟨w.heap.size, 0, none⟩) 1 c] (w.alloc (.cells #[.int .i64 a] t)) fun e w' => e = .returned (.bool x) ∧ (w.alloc (.cells #[.int .i64 a] t)) = w' := by
  rw [← h]
  exact inField_any w.heap.size [a] c _ (by simp) (ints_one w a t)


set_option maxHeartbeats 400000 in
theorem Times_ok (a b : Nat) (w : World) (ha : a < 65536) (hb : b < 65536) :
    Calls Try.prog 28 #[.int .i64 a, .int .i64 b] w fun e w' => e = .returned (.tuple #[.int .i64 (nm 4 a b : Nat), .int .i64 0]) ∧ Below w.heap.size w w' := by
  have I := Lib.hid (two_in a b 2 w 3 true (inF_two _ _ (by omega)))
  have P0 := Lib.hid (fun W => product_nat a b W ha hb)
  go_enter Try.func28, Try.ntmps28
  go_wp2_with fail
  refine I.out.mono ?_
  rintro e w' ⟨rfl, rfl⟩
  have B0 := Lib.hid ((Below.refl w.heap.size w).alloc (Nat.le_refl _) (.cells #[.int .i64 a, .int .i64 b] 3))
  generalize w.alloc (.cells #[.int .i64 a, .int .i64 b] 3) = w0 at *
  go_wp2_with fail
  refine (P0.out _).mono ?_
  rintro e w1 ⟨rfl, hb⟩
  have B1 := Lib.hid (B0.out.trans (hb.mono B0.out.size))
  clear hb
  go_wp2_with fail
  go_ret2
  exact ⟨rfl, B1.out⟩

set_option maxHeartbeats 400000 in
theorem Times_no (a b : Int) (w : World) (h : ¬ (0 ≤ a ∧ a < 65536 ∧ 0 ≤ b ∧ b < 65536)) :
    Calls Try.prog 28 #[.int .i64 a, .int .i64 b] w fun e w' => e = .returned (.tuple #[.int .i64 0, .int .i64 1]) ∧ Below w.heap.size w w' := by
  have I := Lib.hid (two_in a b 2 w 3 false (inF_two_no _ _ h))
  go_enter Try.func28, Try.ntmps28
  go_wp2_with fail
  refine I.out.mono ?_
  rintro e w' ⟨rfl, rfl⟩
  have B0 := Lib.hid ((Below.refl w.heap.size w).alloc (Nat.le_refl _) (.cells #[.int .i64 a, .int .i64 b] 3))
  generalize w.alloc (.cells #[.int .i64 a, .int .i64 b] 3) = w0 at *
  go_wp2_with fail
  go_ret2
  exact ⟨rfl, B0.out⟩

set_option maxHeartbeats 400000 in
theorem Inverse_ok (a : Nat) (w : World) (ha : a < 65536) (h0 : 0 < a) :
    Calls Try.prog 29 #[.int .i64 a] w fun e w' => e = .returned (.tuple #[.int .i64 (npw 4 a 65534 : Nat), .int .i64 0]) ∧ Below w.heap.size w w' := by
  have I := Lib.hid (one_in a 1 w 3 true (inF_one _ (by omega)))
  have P0 := Lib.hid (fun W => power_any a 65534 W ha (by omega))
  go_enter Try.func29, Try.ntmps29
  go_wp2_with fail
  refine I.out.mono ?_
  rintro e w' ⟨rfl, rfl⟩
  have B0 := Lib.hid ((Below.refl w.heap.size w).alloc (Nat.le_refl _) (.cells #[.int .i64 a] 3))
  generalize w.alloc (.cells #[.int .i64 a] 3) = w0 at *
  go_wp2_with fail
  refine (P0.out _).mono ?_
  rintro e w1 ⟨rfl, hb⟩
  have B1 := Lib.hid (B0.out.trans (hb.mono B0.out.size))
  clear hb
  go_wp2_with fail
  go_ret2
  exact ⟨rfl, B1.out⟩

set_option maxHeartbeats 400000 in
theorem Inverse_no (a : Int) (w : World) (h : ¬ (0 ≤ a ∧ a < 65536)) :
    Calls Try.prog 29 #[.int .i64 a] w fun e w' => e = .returned (.tuple #[.int .i64 0, .int .i64 1]) ∧ Below w.heap.size w w' := by
  have I := Lib.hid (one_in a 1 w 3 false (inF_one_no _ h))
  go_enter Try.func29, Try.ntmps29
  go_wp2_with fail
  refine I.out.mono ?_
  rintro e w' ⟨rfl, rfl⟩
  have B0 := Lib.hid ((Below.refl w.heap.size w).alloc (Nat.le_refl _) (.cells #[.int .i64 a] 3))
  generalize w.alloc (.cells #[.int .i64 a] 3) = w0 at *
  go_wp2_with fail
  go_ret2
  exact ⟨rfl, B0.out⟩

set_option maxHeartbeats 400000 in
theorem Inverse_zero  (w : World)  :
    Calls Try.prog 29 #[.int .i64 0] w fun e w' => e = .returned (.tuple #[.int .i64 0, .int .i64 4]) ∧ Below w.heap.size w w' := by
  have I := Lib.hid (one_in 0 1 w 3 true (inF_one _ (by omega)))
  go_enter Try.func29, Try.ntmps29
  go_wp2_with fail
  refine I.out.mono ?_
  rintro e w' ⟨rfl, rfl⟩
  have B0 := Lib.hid ((Below.refl w.heap.size w).alloc (Nat.le_refl _) (.cells #[.int .i64 0] 3))
  generalize w.alloc (.cells #[.int .i64 0] 3) = w0 at *
  go_wp2_with fail
  go_ret2
  exact ⟨rfl, B0.out⟩

set_option maxHeartbeats 400000 in
theorem Root_ok (a : Nat) (w : World) (ha : a < 65536) :
    Calls Try.prog 30 #[.int .i64 a] w fun e w' => e = .returned (.tuple #[.int .i64 (npw 4 a 32768 : Nat), .int .i64 0]) ∧ Below w.heap.size w w' := by
  have I := Lib.hid (one_in a 1 w 3 true (inF_one _ (by omega)))
  have P0 := Lib.hid (fun W => power_any a 32768 W ha (by omega))
  go_enter Try.func30, Try.ntmps30
  go_wp2_with fail
  refine I.out.mono ?_
  rintro e w' ⟨rfl, rfl⟩
  have B0 := Lib.hid ((Below.refl w.heap.size w).alloc (Nat.le_refl _) (.cells #[.int .i64 a] 3))
  generalize w.alloc (.cells #[.int .i64 a] 3) = w0 at *
  go_wp2_with fail
  refine (P0.out _).mono ?_
  rintro e w1 ⟨rfl, hb⟩
  have B1 := Lib.hid (B0.out.trans (hb.mono B0.out.size))
  clear hb
  go_wp2_with fail
  go_ret2
  exact ⟨rfl, B1.out⟩

set_option maxHeartbeats 400000 in
theorem Root_no (a : Int) (w : World) (h : ¬ (0 ≤ a ∧ a < 65536)) :
    Calls Try.prog 30 #[.int .i64 a] w fun e w' => e = .returned (.tuple #[.int .i64 0, .int .i64 1]) ∧ Below w.heap.size w w' := by
  have I := Lib.hid (one_in a 1 w 3 false (inF_one_no _ h))
  go_enter Try.func30, Try.ntmps30
  go_wp2_with fail
  refine I.out.mono ?_
  rintro e w' ⟨rfl, rfl⟩
  have B0 := Lib.hid ((Below.refl w.heap.size w).alloc (Nat.le_refl _) (.cells #[.int .i64 a] 3))
  generalize w.alloc (.cells #[.int .i64 a] 3) = w0 at *
  go_wp2_with fail
  go_ret2
  exact ⟨rfl, B0.out⟩

set_option maxHeartbeats 400000 in
theorem Power_ok (a n : Nat) (w : World) (ha : a < 65536) (hn : n ≤ 9223372036854775807) :
    Calls Try.prog 31 #[.int .i64 a, .int .i64 n] w fun e w' => e = .returned (.tuple #[.int .i64 (npw 4 a n : Nat), .int .i64 0]) ∧ Below w.heap.size w w' := by
  have I := Lib.hid (one_in a 1 w 3 true (inF_one _ (by omega)))
  have P0 := Lib.hid (fun W => power_any a n W ha hn)
  go_enter Try.func31, Try.ntmps31
  go_wp2_with fail
  refine I.out.mono ?_
  rintro e w' ⟨rfl, rfl⟩
  have B0 := Lib.hid ((Below.refl w.heap.size w).alloc (Nat.le_refl _) (.cells #[.int .i64 a] 3))
  generalize w.alloc (.cells #[.int .i64 a] 3) = w0 at *
  go_wp2_with fail
  refine (P0.out _).mono ?_
  rintro e w1 ⟨rfl, hb⟩
  have B1 := Lib.hid (B0.out.trans (hb.mono B0.out.size))
  clear hb
  go_wp2_with fail
  go_ret2
  exact ⟨rfl, B1.out⟩

set_option maxHeartbeats 400000 in
theorem Power_neg (a n : Int) (w : World) (ha : 0 ≤ a) (ha1 : a < 65536) (hn : n < 0) :
    Calls Try.prog 31 #[.int .i64 a, .int .i64 n] w fun e w' => e = .returned (.tuple #[.int .i64 0, .int .i64 1]) ∧ Below w.heap.size w w' := by
  have I := Lib.hid (one_in a 1 w 3 true (inF_one _ (by omega)))
  go_enter Try.func31, Try.ntmps31
  go_wp2_with fail
  refine I.out.mono ?_
  rintro e w' ⟨rfl, rfl⟩
  have B0 := Lib.hid ((Below.refl w.heap.size w).alloc (Nat.le_refl _) (.cells #[.int .i64 a] 3))
  generalize w.alloc (.cells #[.int .i64 a] 3) = w0 at *
  go_wp2_with fail
  go_ret2
  exact ⟨rfl, B0.out⟩

set_option maxHeartbeats 400000 in
theorem Power_no (a n : Int) (w : World) (h : ¬ (0 ≤ a ∧ a < 65536)) :
    Calls Try.prog 31 #[.int .i64 a, .int .i64 n] w fun e w' => e = .returned (.tuple #[.int .i64 0, .int .i64 1]) ∧ Below w.heap.size w w' := by
  have I := Lib.hid (one_in a 1 w 3 false (inF_one_no _ h))
  go_enter Try.func31, Try.ntmps31
  go_wp2_with fail
  refine I.out.mono ?_
  rintro e w' ⟨rfl, rfl⟩
  have B0 := Lib.hid ((Below.refl w.heap.size w).alloc (Nat.le_refl _) (.cells #[.int .i64 a] 3))
  generalize w.alloc (.cells #[.int .i64 a] 3) = w0 at *
  go_wp2_with fail
  go_ret2
  exact ⟨rfl, B0.out⟩
end Go.Proofs.Ytodnfchkkgoabaa

/- WALK of awake. -/
set_option linter.unusedVariables false
namespace Go.Proofs.Ytodnfchkkgoabaa
open Go.RowKit
open Nim

theorem nm_23 : nm 4 2 3 = 1 := by decide +kernel
theorem nm_32 : nm 4 3 2 = 1 := by decide +kernel
theorem nm_22 : nm 4 2 2 = 3 := by decide +kernel
theorem inv_two : npw 4 2 65534 = 3 := by
  have h := npw_inv 2 (by decide) (by decide)
  have l := npw_lt 2 65534 (by decide)
  have h2 := field4.assoc 3 2 (npw 4 2 65534) (by decide) (by decide) l
  rw [h, nm_32, field4.one' _ l, field4.one _ (by decide)] at h2
  exact h2
theorem root_three : npw 4 3 32768 = 2 := by
  have h := npw_root 3 (by decide)
  have l := npw_lt 3 32768 (by decide)
  generalize npw 4 3 32768 = x at *
  have lx : x ^^^ 2 < 2 ^ 16 := Nat.xor_lt_two_pow l (by decide)
  have h2 : nm 4 (x ^^^ 2) (x ^^^ 2) = 0 := by
    rw [field4.dist _ _ _ lx l (by decide), field4.comm _ _ lx l, field4.comm _ _ lx (by decide), field4.dist _ _ _ l l (by decide), field4.dist _ _ _ (by decide) l (by decide), h, nm_22, field4.comm x 2 l (by decide), Nat.xor_assoc 3, ← Nat.xor_assoc (nm 4 2 x), Nat.xor_self, Nat.zero_xor, Nat.xor_self]
  have h3 := field4.none _ _ lx lx h2
  have h4 : x ^^^ 2 = 0 := by rcases h3 with h | h <;> exact h
  rw [← Nat.xor_zero x, ← Nat.xor_self 2, ← Nat.xor_assoc, h4]; rfl

theorem dec_three : dec [[1], [0, 2], []] = [((2, 0), 0), ((1, 1), 1), ((0, 0), 2)] := by decide +kernel
theorem chk_three : chk (intG [[1], [0, 2], []]) = true := by decide
theorem out_three {f : Nat → Nat × Nat} (h : OutP (dec [[1], [0, 2], []]) 3 f) : f 0 = (0, 2) ∧ f 1 = (1, 1) ∧ f 2 = (0, 0) := by
  rw [dec_three] at h
  refine ⟨?_, ?_, ?_⟩
  · rcases h 0 (by omega) with ⟨x, hx, e, hf⟩ | ⟨h1, _⟩
    · simp at hx; rcases hx with rfl | rfl | rfl <;> simp at e; exact hf
    · exact absurd rfl (h1 ((0, 0), 2) (by simp))
  · rcases h 1 (by omega) with ⟨x, hx, e, hf⟩ | ⟨h1, _⟩
    · simp at hx; rcases hx with rfl | rfl | rfl <;> simp at e; exact hf
    · exact absurd rfl (h1 ((1, 1), 1) (by simp))
  · rcases h 2 (by omega) with ⟨x, hx, e, hf⟩ | ⟨h1, _⟩
    · simp at hx; rcases hx with rfl | rfl | rfl <;> simp at e; exact hf
    · exact absurd rfl (h1 ((2, 0), 0) (by simp))

theorem gn_three (w : World) : GN (((w.alloc (.cells #[.int .i64 1] 3)).alloc (.cells #[.int .i64 0, .int .i64 2] 3)).alloc (.cells #[.slice (some ⟨w.heap.size, 0, none⟩) 1 1, .slice (some ⟨w.heap.size + 1, 0, none⟩) 2 2, .slice none 0 0] 22)) (some ⟨w.heap.size + 2, 0, none⟩) [[1], [0, 2], []] := by
  have a0 : (((w.alloc (.cells #[.int .i64 1] 3)).alloc (.cells #[.int .i64 0, .int .i64 2] 3)).alloc (.cells #[.slice (some ⟨w.heap.size, 0, none⟩) 1 1, .slice (some ⟨w.heap.size + 1, 0, none⟩) 2 2, .slice none 0 0] 22)).heap[w.heap.size]? = some (.cells #[.int .i64 1] 3 (0, 0)) := by
    rw [Below.heap_alloc _ _ _ (by simp; omega), Below.heap_alloc _ _ _ (by simp)]
    exact heap_alloc_new _ _
  have a1 : (((w.alloc (.cells #[.int .i64 1] 3)).alloc (.cells #[.int .i64 0, .int .i64 2] 3)).alloc (.cells #[.slice (some ⟨w.heap.size, 0, none⟩) 1 1, .slice (some ⟨w.heap.size + 1, 0, none⟩) 2 2, .slice none 0 0] 22)).heap[w.heap.size + 1]? = some (.cells #[.int .i64 0, .int .i64 2] 3 (0, 0)) := by
    rw [Below.heap_alloc _ _ _ (by simp)]
    have := heap_alloc_new (w.alloc (.cells #[.int .i64 1] 3)) (.cells #[.int .i64 0, .int .i64 2] 3)
    simpa using this
  have a2 : (((w.alloc (.cells #[.int .i64 1] 3)).alloc (.cells #[.int .i64 0, .int .i64 2] 3)).alloc (.cells #[.slice (some ⟨w.heap.size, 0, none⟩) 1 1, .slice (some ⟨w.heap.size + 1, 0, none⟩) 2 2, .slice none 0 0] 22)).heap[w.heap.size + 2]? = some (.cells #[.slice (some ⟨w.heap.size, 0, none⟩) 1 1, .slice (some ⟨w.heap.size + 1, 0, none⟩) 2 2, .slice none 0 0] 22 (0, 0)) := by
    have := heap_alloc_new ((w.alloc (.cells #[.int .i64 1] 3)).alloc (.cells #[.int .i64 0, .int .i64 2] 3)) (.cells #[.slice (some ⟨w.heap.size, 0, none⟩) 1 1, .slice (some ⟨w.heap.size + 1, 0, none⟩) 2 2, .slice none 0 0] 22)
    simpa using this
  generalize (((w.alloc (.cells #[.int .i64 1] 3)).alloc (.cells #[.int .i64 0, .int .i64 2] 3)).alloc (.cells #[.slice (some ⟨w.heap.size, 0, none⟩) 1 1, .slice (some ⟨w.heap.size + 1, 0, none⟩) 2 2, .slice none 0 0] 22)) = W at *
  intro v hv
  have : v = 0 ∨ v = 1 ∨ v = 2 := by simp at hv; omega
  rcases this with rfl | rfl | rfl
  · refine ⟨_, some ⟨w.heap.size, 0, none⟩, 1, rfl, by simp [World.cell?, a2], fun i hi => ?_⟩
    have : i = 0 := by simp at hi; omega
    subst this
    exact ⟨_, rfl, by simp [World.cell?, a0]⟩
  · refine ⟨_, some ⟨w.heap.size + 1, 0, none⟩, 2, rfl, by simp [World.cell?, a2], fun i hi => ?_⟩
    have : i = 0 ∨ i = 1 := by simp at hi; omega
    rcases this with rfl | rfl <;> exact ⟨_, rfl, by simp [World.cell?, a1]⟩
  · exact ⟨_, none, 0, rfl, by simp [World.cell?, a2], fun i hi => by simp at hi⟩

set_option maxRecDepth 100000 in
set_option maxHeartbeats 2000000 in
theorem awake_any (W : World) :
    Calls Try.prog 24 #[] W fun e w' => e = .returned (.bool true) ∧ Below W.heap.size W w' := by
  have V := Lib.hid (fun X => Values_ok ⟨#[48, 46, 55, 55]⟩ _ 8 X kayles (by omega))
  have T := Lib.hid (fun X => Times_ok 2 3 X (by omega) (by omega))
  have I := Lib.hid (fun X => Inverse_ok 2 X (by omega) (by omega))
  have R := Lib.hid (fun X => Root_ok 3 X (by omega))
  rw [nm_23] at T
  rw [inv_two] at I
  rw [root_three] at R
  go_enter Try.func24, Try.ntmps24
  go_wp2_with fail
  refine (V.out W).mono ?_
  rintro e w1 ⟨v, rfl, ho, hb⟩
  rw [kayles8] at ho
  obtain ⟨g, c, rfl, hns⟩ := own_some ho (by decide)
  have HO := Lib.hid hns
  have HB1 := Lib.hid hb
  clear ho hns hb V
  go_wp2_with fail
  refine (T.out w1).mono ?_
  rintro e w2 ⟨rfl, hb⟩
  have HB2 := Lib.hid hb
  clear hb T
  go_wp2_with fail
  refine (I.out w2).mono ?_
  rintro e w3 ⟨rfl, hb⟩
  have HB3 := Lib.hid hb
  clear hb I
  go_wp2_with fail
  refine (R.out w3).mono ?_
  rintro e w4 ⟨rfl, hb⟩
  have HB4 := Lib.hid hb
  clear hb R
  go_wp2_with fail
  have OC := Lib.hid (Outcomes_any [[1], [0, 2], []] _ 3 _ (gn_three w4) chk_three)
  have HBA := Lib.hid ((((Below.refl w4.heap.size w4).alloc (Nat.le_refl _) (.cells #[.int .i64 1] 3)).alloc (by simp) (.cells #[.int .i64 0, .int .i64 2] 3)).alloc (by simp; omega) (.cells #[.slice (some ⟨w4.heap.size, 0, none⟩) 1 1, .slice (some ⟨w4.heap.size + 1, 0, none⟩) 2 2, .slice none 0 0] 22))
  refine OC.out.mono ?_
  generalize (((w4.alloc (.cells #[.int .i64 1] 3)).alloc (.cells #[.int .i64 0, .int .i64 2] 3)).alloc (.cells #[.slice (some ⟨w4.heap.size, 0, none⟩) 1 1, .slice (some ⟨w4.heap.size + 1, 0, none⟩) 2 2, .slice none 0 0] 22)) = w5 at *
  rintro e w6 ⟨gk, gd, f, rfl, hk, hd, hf, _, _, hb⟩
  obtain ⟨f0, f1, f2⟩ := out_three hf
  have s1 := HB1.out.size
  have s2 := HB2.out.size
  have s3 := HB3.out.size
  have s4 := HB4.out.size
  have s5 := HBA.out.size
  have B2 := HB2.out.trans (HB3.out.mono s2)
  have B3 := B2.trans (HB4.out.mono (by omega))
  have B4 := B3.trans (HBA.out.mono (by omega))
  have B5 := B4.trans (hb.mono (by omega))
  have B6 := Lib.hid (HB1.out.trans (B5.mono s1))
  obtain ⟨g', hg', c8⟩ := (HO.out.under B5) 8 (by decide)
  cases hg'
  have k0 := hk.cell (i := 0) (by decide)
  have k1 := hk.cell (i := 1) (by decide)
  have d0 := hd.cell (i := 0) (by decide)
  simp only [f0, f1] at k0 k1 d0
  have c8' : w6.cell? ⟨g, 8, none⟩ = some (.int .i64 1) := c8
  clear c8 hk hd hf hb B2 B3 B4 B5 HBA OC HB1 HB2 HB3 HB4 HO s1 s2 s3 s4 s5 f0 f1 f2
  go_wp2_with fail
  go_ret
  exact ⟨rfl, B6.out⟩
end Go.Proofs.Ytodnfchkkgoabaa
