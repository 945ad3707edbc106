/- WALKS: numbers of one word are small; attempts that come to an end. -/
import Derived.Test.YtamhlkjfpdkhoaaGreatDoorRatB
import Derived.Test.YtamhlkjfpdkhoaaGreatDoorShelf
import Derived.Recover
namespace Go.Proofs.YtamhlkjfpdkhoaaGreatDoor
open Go.RowKit

theorem bitLenAux_le : ∀ (f x : Nat), Lib.bitLenAux f x ≤ f
  | 0, _ => by simp [Lib.bitLenAux]
  | f + 1, x => by
    have := bitLenAux_le f (x / 2)
    simp only [Lib.bitLenAux]; split <;> omega

theorem bitLen_le (x : Nat) : Lib.bitLen x ≤ 64 := bitLenAux_le 64 x

set_option maxRecDepth 100000 in
set_option maxHeartbeats 400000 in
theorem bitLength_any (v : Value) (n : Nat) (w : World) (hd : Dig w v n) :
    Calls Tryz.prog 161 #[v] w fun e w' => ∃ k : Int, e = .returned (.int .i64 k) ∧ (0 ≤ k ∧ k ≤ 64) ∧ Drew w w' := by
  obtain ⟨hn, hd⟩ := hd
  obtain ⟨rfl, rfl⟩ | ⟨h0, b, o, rfl, hc⟩ := hd
  · go_enter Tryz.func161, Tryz.ntmps161
    go_wp2
    go_ret
    exact ⟨0, rfl, ⟨by omega, by omega⟩, Drew.refl _⟩
  · have B := fun W => Tryz.bits_Len64 (n : Int) W (by omega) (by omega)
    obtain ⟨k, hk, hk0, hk1⟩ : ∃ k : Int, (Lib.bitLen (n : Int).toNat : Int) = k ∧ 0 ≤ k ∧ k ≤ 64 := ⟨_, rfl, by omega, by have := bitLen_le (n : Int).toNat; omega⟩
    rw [hk] at B
    replace B := Lib.hid B
    clear hn h0 hk
    go_enter Tryz.func161, Tryz.ntmps161
    go_wp2_with fail
    refine (B.out _).mono ?_
    rintro e w1 ⟨rfl, hw⟩
    have HW := Lib.hid hw
    clear hw
    go_wp2_with fail
    go_ret
    refine ⟨_, rfl, ⟨by omega, by omega⟩, ?_⟩
    rw [HW.out]
    first | exact Drew.refl _ | exact (Drew.refl _).drewN 1

set_option maxRecDepth 100000 in
set_option maxHeartbeats 400000 in
theorem mustBeSmall_any (v : Value) (n : Nat) (w : World) (hd : Dig w v n) :
    Calls Tryz.prog 144 #[v] w fun e w' => e = .returned (.tuple #[]) ∧ Drew w w' := by
  have B := Lib.hid (bitLength_any v n w hd)
  obtain ⟨p, l, c, rfl⟩ := hd.slice
  clear hd
  go_enter Tryz.func144, Tryz.ntmps144
  go_wp2_with fail
  refine B.out.mono ?_
  rintro e w1 ⟨k, rfl, ⟨hk0, hk1⟩, hd⟩
  have Hd := Lib.hid hd
  clear hd
  go_wp2_with fail
  go_end0
  exact ⟨rfl, Hd.out⟩

set_option maxRecDepth 100000 in
set_option maxHeartbeats 400000 in
theorem smallRat_any (v : Value) (s : Bool) (n k : Nat) (w : World) (h : WR w v s n k) :
    Calls Tryz.prog 102 #[v] w fun e w' => e = .returned v ∧ Below w.heap.size w w' := by
  obtain ⟨d, e, rfl, hd, he⟩ := h
  obtain ⟨dp, dl, dc, rfl⟩ := hd.slice
  obtain ⟨ep, el, ec, rfl⟩ := he.slice
  have M1 := Lib.hid (fun W (hb : Below w.heap.size w W) => mustBeSmall_any _ n W (hd.below hb))
  have M2 := Lib.hid (fun W (hb : Below w.heap.size w W) => mustBeSmall_any _ k W (he.below hb))
  have L0 := Lib.hid (((LayX.nil w).push #[.bool s, .slice dp dl dc, .slice ep el ec] 45).push #[.bool false, .slice none 0 0, .slice none 0 0] 45)
  clear hd he
  go_enter Tryz.func102, Tryz.ntmps102
  go_wp2_with fail
  refine (M1.out _ L0.out.1.2).mono ?_
  rintro e w1 ⟨rfl, hd1⟩
  have L1 : Hid (Lay w [(#[.bool s, .slice dp dl dc, .slice ep el ec], 45), (#[.bool false, .slice none 0 0, .slice none 0 0], 45)] w1) := Lib.hid (L0.out.1.step (hd1.below _))
  obtain ⟨c0, c1, c2, _, _, _⟩ := cells3 (L1.out.row 0 w.heap.size rfl rfl)
  clear hd1 L0
  go_wp2_with fail
  refine (M2.out _ L1.out.2).mono ?_
  rintro e w2 ⟨rfl, hd2⟩
  have L2 : Hid (Lay w [(#[.bool s, .slice dp dl dc, .slice ep el ec], 45), (#[.bool false, .slice none 0 0, .slice none 0 0], 45)] w2) := Lib.hid (L1.out.step (hd2.below _))
  clear hd2 L1 c0 c1 c2
  obtain ⟨c0, c1, c2, _, _, _⟩ := cells3 (L2.out.row 0 w.heap.size rfl rfl)
  obtain ⟨b0, b1, b2, f0, f1, f2⟩ := cells3 (L2.out.row 1 (w.heap.size + 1) rfl rfl)
  go_wp2_with fail
  refine bodyPost_ret (res_rat rfl _ _ (w.heap.size + 1) _ _ _ _ (by rfl) ((L2.out.set3 1 _ rfl rfl _ _ _).row 1 _ rfl rfl)) rfl ?_
  exact ⟨rfl, (L2.out.set3 1 _ rfl rfl _ _ _).2⟩
end Go.Proofs.YtamhlkjfpdkhoaaGreatDoor
