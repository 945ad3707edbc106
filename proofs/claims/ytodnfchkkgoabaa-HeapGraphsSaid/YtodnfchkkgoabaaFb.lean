/- WALKS of product, inField, power, Times, Inverse, Root, Power. -/
import Derived.Test.YtodnfchkkgoabaaFa
import Derived.OneCell
import Derived.Laws.EntriesVeiled
namespace Go.Proofs.Ytodnfchkkgoabaa
open Go.RowKit
open Nim

theorem product_any (a b : Int) (w : World) (ha0 : 0 ≤ a) (ha : a < 65536) (hb0 : 0 ≤ b) (hb : b < 65536) :
    Calls Try.prog 55 #[.int .i64 a, .int .i64 b] w fun e w' => e = .returned (.int .i64 (nmI 4 a b)) ∧ Below w.heap.size w w' := by
  have T := Lib.hid times_16
  go_enter Try.func55, Try.ntmps55
  go_wp2_with fail
  refine (T.out w.heap.size _ _ _ ha0 ha hb0 hb ?_).mono ?_
  · unfold Prod1; simp
  rintro e w' ⟨rfl, hd⟩
  have HB := Lib.hid (((Below.refl w.heap.size w).alloc (Nat.le_refl _) _).trans (hd.below _))
  clear hd
  go_wp2_with fail
  go_ret
  exact ⟨rfl, HB.out⟩

/-- The slice's cells, and that they are not beyond the heap. -/
def Ints (w : World) (b : Nat) (L : List Int) : Prop := ∀ i, i < L.length → w.cell? ⟨b, i, none⟩ = some (.int .i64 (L.getD i 0))
def inF (L : List Int) : Bool := L.all fun a => decide (0 ≤ a) && decide (a < 65536)

theorem inField_any (b : Nat) (L : List Int) (c : Nat) (w : World) (hL : L.length ≤ 1000) (h : Ints w b L) :
    Calls Try.prog 54 #[.slice (some ⟨b, 0, none⟩) L.length c] w fun e w' => e = .returned (.bool (inF L)) ∧ w = w' := by
  obtain ⟨n, hn⟩ : ∃ n, L.length = n := ⟨_, rfl⟩
  rw [hn] at hL ⊢
  have HN := Lib.hid hn
  have H := Lib.hid h
  clear hn h
  go_enter Try.func54, Try.ntmps54
  go_wp2_with fail
  go_loop [4, 7] (fun _ i => ∃ k : Nat, i = .int .i64 k ∧ k ≤ n ∧ Hid (inF (L.take k) = true)) (fun _ i => n - (intOf i).toNat)
  case atStart => exact ⟨0, rfl, by omega, rfl⟩
  case round =>
    obtain ⟨k, rfl, hk, hf⟩ := hrel
    by_cases hlt : k < n
    · have hcell : w.cell? ⟨b, k, none⟩ = some (.int .i64 (L.getD k 0)) := H.out k (by have := HN.out; omega)
      have HT : Hid (inF (L.take (k + 1)) = (decide (0 ≤ L.getD k 0) && decide (L.getD k 0 < 65536))) := Lib.hid (by
        have h1 : k < L.length := by have := HN.out; omega
        unfold inF at *
        rw [List.take_succ_eq_append_getElem h1, List.all_append]
        have := hf.out
        rw [this]
        simp [List.getD_eq_getElem?_getD, List.getElem?_eq_getElem h1])
      have HA : Hid (inF L = true → inF (L.take (k + 1)) = true) := Lib.hid (by
        intro ha
        unfold inF at *
        rw [List.all_eq_true] at *
        exact fun x hx => ha x (List.mem_of_mem_take hx))
      generalize L.getD k 0 = v at *
      by_cases h0 : 0 ≤ v
      · by_cases h1 : v < 65536
        · go_wp2_with fail
          go_round
          case rel => exact ⟨k + 1, by go_num, by omega, Lib.hid (by rw [HT.out]; simp; omega)⟩
          case measure => simp [intOf]; omega
        · have hF : inF L = false := by
            cases hq : inF L with
            | false => rfl
            | true => have := HA.out hq; rw [HT.out] at this; simp at this; omega
          replace hF := Lib.hid hF
          clear HT HA hf
          go_wp2_with fail
          go_ret
          exact ⟨by rw [hF.out]; rfl, rfl⟩
      · have hF : inF L = false := by
          cases hq : inF L with
          | false => rfl
          | true => have := HA.out hq; rw [HT.out] at this; simp at this; omega
        replace hF := Lib.hid hF
        clear HT HA hf
        go_wp2_with fail
        go_ret
        exact ⟨by rw [hF.out]; rfl, rfl⟩
    · have hF : inF L = true := by have := hf.out; rw [List.take_of_length_le (by have := HN.out; omega)] at this; exact this
      replace hF := Lib.hid hF
      clear hf
      go_wp2_with fail
      go_ret
      exact ⟨by rw [hF.out]; rfl, rfl⟩

theorem npw_two (a n : Nat) (ha : a < 2 ^ 16) : npw 4 (nm 4 a a) n = npw 4 a (n + n) := by
  induction n with
  | zero => rfl
  | succ n ih =>
    have e : n + 1 + (n + 1) = (n + n) + 2 := by omega
    have h2 : npw 4 a 2 = nm 4 a a := by
      show nm 4 (nm 4 1 a) a = nm 4 a a
      rw [field4.one' _ ha]
    show nm 4 (npw 4 (nm 4 a a) n) (nm 4 a a) = _
    rw [ih, e, npw_add a (n + n) 2 ha, h2]
theorem npw_succ' (a n : Nat) (ha : a < 2 ^ 16) : npw 4 a (n + 1) = nm 4 a (npw 4 a n) := by
  rw [Nat.add_comm, npw_add a 1 n ha]
  congr 1
  show nm 4 1 a = a
  rw [field4.one' _ ha]
theorem step_odd (r a n N : Nat) (hr : r < 2 ^ 16) (ha : a < 2 ^ 16) (hn : n % 2 = 1) (h : nm 4 r (npw 4 a n) = N) : nm 4 (nm 4 r a) (npw 4 (nm 4 a a) (n / 2)) = N := by
  rw [npw_two _ _ ha, ← h, field4.assoc _ _ _ hr ha (npw_lt _ _ ha), ← npw_succ' _ _ ha]
  congr 2; omega
theorem step_even (r a n N : Nat) (ha : a < 2 ^ 16) (hn : n % 2 = 0) (h : nm 4 r (npw 4 a n) = N) : nm 4 r (npw 4 (nm 4 a a) (n / 2)) = N := by
  rw [npw_two _ _ ha, ← h]
  congr 2; omega

theorem product_nat (a b : Nat) (w : World) (ha : a < 65536) (hb : b < 65536) :
    Calls Try.prog 55 #[.int .i64 a, .int .i64 b] w fun e w' => e = .returned (.int .i64 (nm 4 a b : Nat)) ∧ Below w.heap.size w w' :=
  product_any a b w (by omega) (by omega) (by omega) (by omega)

set_option maxHeartbeats 400000 in
theorem power_any (a n : Nat) (w : World) (ha : a < 65536) (hn : n ≤ 9223372036854775807) :
    Calls Try.prog 56 #[.int .i64 a, .int .i64 n] w fun e w' => e = .returned (.int .i64 (npw 4 a n : Nat)) ∧ Below w.heap.size w w' := by
  have P := Lib.hid product_nat
  have h0 := field4.one' _ (npw_lt a n ha)
  have H0 := Lib.hid h0
  clear h0
  go_enter Try.func56, Try.ntmps56
  go_wp2_with fail
  go_loopw [0, 1, 5] (fun x y z wr => ∃ a' n' r : Nat, x = .int .i64 a' ∧ y = .int .i64 n' ∧ z = .int .i64 r ∧ a' < 65536 ∧ n' ≤ 9223372036854775807 ∧ r < 65536 ∧ Hid (nm 4 r (npw 4 a' n') = npw 4 a n) ∧ Hid (Below w.heap.size w wr)) (fun _ y _ _ => (intOf y).toNat)
  case atStart => exact ⟨a, n, 1, rfl, rfl, rfl, ha, hn, by omega, H0, Lib.hid (Below.refl _ _)⟩
  case round =>
    clear H0
    obtain ⟨a', n', r, rfl, rfl, rfl, ha', hn', hr, hg, hd⟩ := hrel
    by_cases h0 : n' = 0
    · have hN : Hid (r = npw 4 a n) := Lib.hid (by rw [← hg.out, h0]; exact (field4.one _ (by omega)).symm)
      subst h0
      go_wp2_with fail
      go_ret
      exact ⟨ret_int (by exact_mod_cast hN.out), hd.out⟩
    · have hp : 0 < n' := by omega
      by_cases hodd : n' % 2 = 1
      · have G := Lib.hid (step_odd r a' n' _ hr ha' hodd hg.out)
        have l1 := field4.lt _ _ (show r < 2 ^ 16 from hr) (show a' < 2 ^ 16 from ha')
        have l2 := field4.lt _ _ (show a' < 2 ^ 16 from ha') (show a' < 2 ^ 16 from ha')
        have P1 : Hid (∀ W : World, Calls Try.prog 55 #[.int .i64 r, .int .i64 a'] W fun e w' => e = .returned (.int .i64 (nm 4 r a' : Nat)) ∧ Below W.heap.size W w') := Lib.hid fun W => P.out r a' W hr ha'
        have P2 : Hid (∀ W : World, Calls Try.prog 55 #[.int .i64 a', .int .i64 a'] W fun e w' => e = .returned (.int .i64 (nm 4 a' a' : Nat)) ∧ Below W.heap.size W w') := Lib.hid fun W => P.out a' a' W ha' ha'
        generalize nm 4 r a' = r2 at *
        generalize nm 4 a' a' = a2 at *
        go_wp2_with fail
        refine (P1.out _).mono ?_
        rintro e w1 ⟨rfl, hb1⟩
        have B1 := Lib.hid (hd.out.trans (hb1.mono hd.out.size))
        clear hb1
        go_wp2_with fail
        refine (P2.out _).mono ?_
        rintro e w2 ⟨rfl, hb2⟩
        have B2 := Lib.hid (B1.out.trans (hb2.mono B1.out.size))
        clear hb2
        go_wp2_with fail
        go_roundw
        case rel => exact ⟨a2, n' / 2, r2, rfl, by go_num, rfl, l2, by omega, l1, G, B2⟩
        case measure => simp [intOf]; omega
      · have G := Lib.hid (step_even r a' n' _ ha' (by omega) hg.out)
        have l2 := field4.lt _ _ (show a' < 2 ^ 16 from ha') (show a' < 2 ^ 16 from ha')
        have P2 : Hid (∀ W : World, Calls Try.prog 55 #[.int .i64 a', .int .i64 a'] W fun e w' => e = .returned (.int .i64 (nm 4 a' a' : Nat)) ∧ Below W.heap.size W w') := Lib.hid fun W => P.out a' a' W ha' ha'
        generalize nm 4 a' a' = a2 at *
        go_wp2_with fail
        refine (P2.out _).mono ?_
        rintro e w2 ⟨rfl, hb2⟩
        have B2 := Lib.hid (hd.out.trans (hb2.mono hd.out.size))
        clear hb2
        go_wp2_with fail
        go_roundw
        case rel => exact ⟨a2, n' / 2, r, rfl, by go_num, rfl, l2, by omega, hr, G, B2⟩
        case measure => simp [intOf]; omega
end Go.Proofs.Ytodnfchkkgoabaa
