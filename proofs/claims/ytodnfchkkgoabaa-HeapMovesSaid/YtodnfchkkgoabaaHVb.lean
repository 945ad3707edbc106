/- WALKS of at and of slices.Index. -/
import Derived.Test.YtodnfchkkgoabaaHMvMxP
import Derived.Outline
set_option linter.unusedVariables false
namespace Go.Proofs.Ytodnfchkkgoabaa
open Go.RowKit

/-- Natural numbers that lie in a slice. -/
def NS (w : World) (p : Option Addr) (L : List Nat) : Prop := ∀ i, i < L.length → ∃ g, p = some ⟨g, 0, none⟩ ∧ w.cell? ⟨g, i, none⟩ = some (.int .i64 (L.getD i 0 : Nat))

theorem at_any (V H : List Nat) (pv ph : Option Addr) (cv ch : Nat) (w : World) (hV : NS w pv V) (hH : NS w ph H) (lV : V.length ≤ 100000) (lH : H.length ≤ 100000) (hin : ∀ h ∈ H, h < V.length) (hv : ∀ i, V.getD i 0 < 2 ^ 11) :
    Calls Try.prog 63 #[.slice pv V.length cv, .slice ph H.length ch] w fun e w' => e = .returned (.int .i64 (xorl V H : Nat)) ∧ w = w' := by
  obtain ⟨n, hn⟩ : ∃ n, V.length = n := ⟨_, rfl⟩
  obtain ⟨m, hm⟩ : ∃ n, H.length = n := ⟨_, rfl⟩
  rw [hn] at lV ⊢
  rw [hm] at lH ⊢
  have HN := Lib.hid hn
  have HM := Lib.hid hm
  have h1 := Lib.hid hV
  have h2 := Lib.hid hH
  have h3 := Lib.hid hin
  have h4 := Lib.hid hv
  clear hn hm hV hH hin hv
  go_enter Try.func63, Try.ntmps63
  go_wp2_with fail
  go_loop [5, 7, 10] (fun s _ i => ∃ k : Nat, i = .int .i64 k ∧ s = .int .i64 (xorl V (H.take k) : Nat) ∧ k ≤ m) (fun _ _ i => m - (intOf i).toNat)
  case atStart => exact ⟨0, rfl, rfl, by omega⟩
  case round =>
    obtain ⟨k, rfl, rfl, hk⟩ := hrel
    by_cases hlt : k < m
    · obtain ⟨gh, eh, ch1⟩ := h2.out k (by rw [HM.out]; exact hlt)
      have hh := h3.out (H.getD k 0) (by
        have hl : k < H.length := by rw [HM.out]; exact hlt
        rw [List.getD_eq_getElem?_getD, List.getElem?_eq_getElem hl]; exact List.getElem_mem hl)
      obtain ⟨gv, ev, cv1⟩ := h1.out (H.getD k 0) hh
      rw [HN.out] at hh
      subst eh ev
      have X := xor_nat (xorl V (H.take k)) (V.getD (H.getD k 0) 0) (Nat.lt_of_lt_of_le (xorl_lt V 11 h4.out _) (Nat.pow_le_pow_right (by decide) (by decide))) (Nat.lt_of_lt_of_le (h4.out _) (Nat.pow_le_pow_right (by decide) (by decide)))
      have E : Hid (xorl V (H.take (k + 1)) = xorl V (H.take k) ^^^ V.getD (H.getD k 0) 0) := Lib.hid (by
        have hl : k < H.length := by rw [HM.out]; exact hlt
        rw [List.take_succ_eq_append_getElem hl, xorl_snoc]
        simp [List.getD_eq_getElem?_getD, List.getElem?_eq_getElem hl])
      generalize H.getD k 0 = h at *
      generalize V.getD h 0 = x at *
      generalize xorl V (H.take k) = s at *
      go_wp2_with fail
      go_round
      case rel => exact ⟨k + 1, by go_num, by rw [E.out], by omega⟩
      case measure => simp [intOf]; omega
    · have E : Hid (H.take k = H) := Lib.hid (List.take_of_length_le (by rw [HM.out]; omega))
      go_wp2_with fail
      go_ret
      exact ⟨ret_int (by rw [E.out]), rfl⟩

/-- Truth values that lie in a block. -/
def Bools (w : World) (g N : Nat) (F : Nat → Bool) : Prop := ∀ i, i < N → w.cell? ⟨g, i, none⟩ = some (.bool (F i))

theorem Index_any (g N c k : Nat) (F : Nat → Bool) (w : World) (h : Bools w g N F) (hN : N ≤ 100000000) (hk : k < N) (hF : F k = false) (hb : ∀ i, i < k → F i = true) :
    Calls Try.prog 42 #[.slice (some ⟨g, 0, none⟩) N c, .bool false] w fun e w' => e = .returned (.int .i64 (k : Nat)) ∧ w = w' := by
  have h1 := Lib.hid h
  have h2 := Lib.hid hF
  have h3 := Lib.hid hb
  clear h hF hb
  go_enter Try.func42, Try.ntmps42
  go_wp2_with fail
  go_loop [5, 8] (fun _ i => ∃ j : Nat, i = .int .i64 j ∧ j ≤ k) (fun _ i => N - (intOf i).toNat)
  case atStart => exact ⟨0, rfl, by omega⟩
  case round =>
    obtain ⟨j, rfl, hj⟩ := hrel
    have hc := h1.out j (by omega)
    by_cases hlt : j < k
    · rw [h3.out j hlt] at hc
      go_wp2_with fail
      go_round
      case rel => exact ⟨j + 1, by go_num, by omega⟩
      case measure => simp [intOf]; omega
    · obtain rfl : j = k := by omega
      rw [h2.out] at hc
      go_wp2_with fail
      go_ret
      exact ⟨rfl, rfl⟩

theorem z112 : Try.zeroCells112 = (List.replicate 2048 (Value.bool false)).toArray := by kernel_rfl
end Go.Proofs.Ytodnfchkkgoabaa
