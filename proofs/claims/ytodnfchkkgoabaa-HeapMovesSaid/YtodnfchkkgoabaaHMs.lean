/- WALK of Missing of the reference. -/
import Derived.Test.YtodnfchkkgoabaaHGr
set_option linter.unusedVariables false
namespace Go.Proofs.Ytodnfchkkgoabaa
open Go.RowKit

theorem allZ (L : List Int) (k : Nat) (h : ∀ i : Nat, i < k → (i : Int) ∈ L) : k ≤ L.length := by
  have := all_below k (L.map Int.toNat) (fun i hi => List.mem_map.2 ⟨_, h i hi, by simp⟩)
  simpa using this

set_option maxHeartbeats 1000000 in
theorem Missing_any (L : List Int) (p : Option Addr) (c : Nat) (w : World) (hL : NI w p L) (hl : L.length ≤ 1000000) :
    Calls Try.prog 14 #[.slice p L.length c] w fun e w' => (∃ n : Nat, e = .returned (.int .i64 n) ∧ (∀ i : Nat, i < n → (i : Int) ∈ L) ∧ (n : Int) ∉ L) ∧ w = w' := by
  obtain ⟨m, hm⟩ : ∃ m, L.length = m := ⟨_, rfl⟩
  have HL := Lib.hid hL
  have HM := Lib.hid hm
  rw [hm] at hl ⊢
  clear hm hL
  go_enter Try.func14, Try.ntmps14
  go_wp2_with fail
  go_loop [3] (fun x => ∃ n : Nat, x = .int .i64 n ∧ n ≤ m ∧ Hid (∀ i : Nat, i < n → (i : Int) ∈ L)) (fun x => m + 1 - (intOf x).toNat)
  case atStart => exact ⟨0, rfl, by omega, Lib.hid (by intro i hi; omega)⟩
  case round =>
    obtain ⟨n, rfl, hn, hall⟩ := hrel
    go_wp2_with fail
    go_loop [4, 5] (fun x y => ∃ (c : Bool) (i : Nat), x = .bool c ∧ y = .int .i64 i ∧ i ≤ m ∧ Hid (c = true ↔ (n : Int) ∈ L.take i)) (fun _ y => m - (intOf y).toNat)
    case atStart => exact ⟨false, 0, rfl, rfl, by omega, Lib.hid (by simp)⟩
    case round =>
      obtain ⟨c, i, rfl, rfl, hi, hc⟩ := hrel
      by_cases hlt : i < m
      · have h1 : i < L.length := by have := HM.out; omega
        have HT : Hid ((n : Int) ∈ L.take (i + 1) ↔ (n : Int) ∈ L.take i ∨ L.getD i 0 = n) := Lib.hid (by
          rw [List.take_succ_eq_append_getElem h1, List.mem_append, List.getD_eq_getElem?_getD, List.getElem?_eq_getElem h1]
          simp only [List.mem_singleton, Option.getD_some]
          constructor
          · rintro (h | h)
            · exact .inl h
            · exact .inr h.symm
          · rintro (h | h)
            · exact .inl h
            · exact .inr h.symm)
        obtain ⟨g, rfl, hcell⟩ := HL.out i h1
        clear h1
        generalize L.getD i 0 = v at *
        cases c with
        | true =>
          go_wp2_with fail
          go_round
          case rel => exact ⟨true, i + 1, rfl, by go_num, by omega, Lib.hid (by rw [HT.out]; exact ⟨fun _ => .inl (hc.out.1 rfl), fun _ => rfl⟩)⟩
          case measure => simp [intOf]; omega
        | false =>
          have hno : Hid (¬ (n : Int) ∈ L.take i) := Lib.hid (fun h => by have := hc.out.2 h; cases this)
          go_wp2_with fail
          go_round
          case rel => exact ⟨_, i + 1, rfl, by go_num, by omega, Lib.hid (by rw [HT.out]; have := hno.out; simp [this])⟩
          case measure => simp [intOf]; omega
      · have hi2 : Hid (c = true ↔ (n : Int) ∈ L) := Lib.hid (by rw [hc.out, List.take_of_length_le (by have := HM.out; omega)])
        clear hc
        cases c with
        | true =>
          have hl2 : n + 1 ≤ m := by
            have h3 : ∀ i : Nat, i < n + 1 → (i : Int) ∈ L := fun i hi => by
              by_cases e : i = n
              · subst e; exact hi2.out.1 rfl
              · exact hall.out i (by omega)
            have := allZ L (n + 1) h3
            have := HM.out; omega
          go_wp2_with fail
          go_round
          case rel => exact ⟨n + 1, by go_num, by omega, Lib.hid (fun i hi => by
            by_cases e : i = n
            · subst e; exact hi2.out.1 rfl
            · exact hall.out i (by omega))⟩
          case measure => simp [intOf]; omega
        | false =>
          go_wp2_with fail
          go_ret
          exact ⟨⟨n, rfl, hall.out, fun h => by have := hi2.out.2 h; cases this⟩, rfl⟩
end Go.Proofs.Ytodnfchkkgoabaa
