/- WALK of Check of the reference. -/
import Derived.Test.YtodnfchkkgoabaaMi
set_option linter.unusedVariables false
namespace Go.Proofs.Ytodnfchkkgoabaa
open Go.RowKit

theorem pre_two (s : ByteArray) (h : 2 ≤ s.size) : ((s.extract 0 2).toList == ([48, 46] : List UInt8)) = Lib.hasPrefix s.data.toList [48, 46] := by
  have := Lib.hasPrefix_raw s ⟨#[48, 46]⟩
  have e : (⟨#[48, 46]⟩ : ByteArray).size = 2 := rfl
  have e2 : (⟨#[48, 46]⟩ : ByteArray).toList = [48, 46] := by rw [Lib.toList_data]
  rw [e, e2, show decide (2 ≤ s.size) = true from decide_eq_true h, Bool.true_and] at this
  exact this

theorem dig_byte {s : ByteArray} (h : isDig (s.data.toList.drop 2) = true) {i : Nat} (h2 : 2 ≤ i) (hi : i < s.size) : 48 ≤ (s[i]'hi).toNat ∧ (s[i]'hi).toNat ≤ 55 := by
  have hl : i < s.data.toList.length := by rw [← Lib.size_eq]; exact hi
  have hk : i - 2 < (s.data.toList.drop 2).length := by rw [List.length_drop]; omega
  have := dig_at h hk
  rw [List.getElem_drop] at this
  rw [byte_at s i hi hl]
  have e : 2 + (i - 2) = i := by omega
  simp only [e] at this
  exact this
theorem dig_bad {s : ByteArray} (h : isDig (s.data.toList.drop 2) = false) : ∃ i, 2 ≤ i ∧ ∃ hi : i < s.size, ¬ (48 ≤ (s[i]'hi).toNat ∧ (s[i]'hi).toNat ≤ 55) := by
  unfold isDig at h
  rw [List.all_eq_false] at h
  obtain ⟨x, hx, hn⟩ := h
  obtain ⟨j, hj, rfl⟩ := List.getElem_of_mem hx
  have hj2 : j + 2 < s.data.toList.length := by rw [List.length_drop] at hj; omega
  have hi : j + 2 < s.size := by rw [Lib.size_eq]; exact hj2
  refine ⟨j + 2, by omega, hi, fun hh => hn ?_⟩
  rw [byte_at s (j + 2) hi hj2] at hh
  rw [List.getElem_drop]
  simp only [Nat.add_comm 2 j, Bool.and_eq_true, decide_eq_true_eq]
  exact hh

theorem RCheck_some (s : ByteArray) (ds : List Nat) (w : World) (h : codeOf s = some ds) :
    Calls Try.prog 15 #[.string s] w fun e w' => e = .returned (.int .i64 0) ∧ Below w.heap.size w w' := by
  have hsz := code_size h
  obtain ⟨l1, l8, _⟩ := codeOf_len h
  obtain ⟨hp, _, _, h3, rfl⟩ := codeOf_some h
  clear h
  generalize (digs (s.data.toList.drop 2)).length = m at *
  have b1 : 3 ≤ s.size := by omega
  have b2 : s.size ≤ 10 := by omega
  have hq := pre_two s (by omega)
  rw [hp] at hq
  have HD := Lib.hid (fun i h2 hi => dig_byte h3 (i := i) h2 hi)
  clear hsz hp h3
  go_enter Try.func15, Try.ntmps15
  go_wp2_with fail
  go_loop [3] (fun x => ∃ i : Nat, x = .int .i64 i ∧ 2 ≤ i ∧ i ≤ s.size) (fun x => s.size - (intOf x).toNat)
  case atStart => exact ⟨2, rfl, by omega, by omega⟩
  case round =>
    obtain ⟨i, rfl, i2, hi⟩ := hrel
    by_cases hlt : i < s.size
    · obtain ⟨d1, d2⟩ := HD.out i i2 hlt
      have hi32 : i < 10 := by omega
      go_wp2_with fail
      go_round
      case rel => exact ⟨i + 1, by go_num, by omega, by omega⟩
      case measure => simp [intOf]; omega
    · go_wp2_with fail
      go_ret
      exact ⟨rfl, Below.refl _ _⟩

theorem RCheck_none (s : ByteArray) (w : World) (h : codeOf s = none) :
    Calls Try.prog 15 #[.string s] w fun e w' => e = .returned (.int .i64 60) ∧ Below w.heap.size w w' := by
  by_cases b1 : 3 ≤ s.size
  · by_cases b2 : s.size ≤ 10
    · have hq := pre_two s (by omega)
      cases hp : Lib.hasPrefix s.data.toList [48, 46] with
      | false =>
        rw [hp] at hq
        go_enter Try.func15, Try.ntmps15
        go_wp2_with fail
        go_ret
        exact ⟨rfl, Below.refl _ _⟩
      | true =>
        have hbad : isDig (s.data.toList.drop 2) = false := by
          cases hd : isDig (s.data.toList.drop 2) with
          | false => rfl
          | true =>
            exfalso
            unfold codeOf okRest at h
            have e1 : decide (1 ≤ (s.data.toList.drop 2).length) = true := decide_eq_true (by rw [List.length_drop, ← Lib.size_eq]; omega)
            have e2 : decide ((s.data.toList.drop 2).length ≤ 8) = true := decide_eq_true (by rw [List.length_drop, ← Lib.size_eq]; omega)
            rw [hp, hd, e1, e2] at h
            cases h
        obtain ⟨K, k2, kl, hk⟩ := dig_bad hbad
        have HK := Lib.hid hk
        rw [hp] at hq
        clear hbad h hk hp
        go_enter Try.func15, Try.ntmps15
        go_wp2_with fail
        go_loop [3] (fun x => ∃ i : Nat, x = .int .i64 i ∧ 2 ≤ i ∧ i ≤ K) (fun x => s.size - (intOf x).toNat)
        case atStart => exact ⟨2, rfl, by omega, by omega⟩
        case round =>
          obtain ⟨i, rfl, i2, hi⟩ := hrel
          have hlt : i < s.size := by omega
          have HKK : Hid (i = K → ¬ (48 ≤ (s[i]'hlt).toNat ∧ (s[i]'hlt).toNat ≤ 55)) := Lib.hid (fun e => by subst e; exact HK.out)
          by_cases c1 : 48 ≤ (s[i]'hlt).toNat
          · by_cases c2 : (s[i]'hlt).toNat ≤ 55
            · have hne : i ≠ K := fun e => HKK.out e ⟨c1, c2⟩
              go_wp2_with fail
              go_round
              case rel => exact ⟨i + 1, by go_num, by omega, by omega⟩
              case measure => simp [intOf]; omega
            · go_wp2_with fail
              go_ret
              exact ⟨rfl, Below.refl _ _⟩
          · go_wp2_with fail
            go_ret
            exact ⟨rfl, Below.refl _ _⟩
    · go_enter Try.func15, Try.ntmps15
      go_wp2_with fail
      go_ret
      exact ⟨rfl, Below.refl _ _⟩
  · go_enter Try.func15, Try.ntmps15
    go_wp2_with fail
    go_ret
    exact ⟨rfl, Below.refl _ _⟩
end Go.Proofs.Ytodnfchkkgoabaa
