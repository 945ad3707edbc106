/- WALKS of Check and Values. -/
import Derived.Test.YtodnfchkkgoabaaRd
import Derived.Test.YtodnfchkkgoabaaVe
set_option linter.unusedVariables false
namespace Go.Proofs.Ytodnfchkkgoabaa
open Go.RowKit

/-- The digits of a string that is a code. -/
def codeOf (s : ByteArray) : Option (List Nat) := if Lib.hasPrefix s.data.toList [48, 46] && okRest (s.data.toList.drop 2) then some (digs (s.data.toList.drop 2)) else none

theorem codeOf_some {s : ByteArray} {ds : List Nat} (h : codeOf s = some ds) : Lib.hasPrefix s.data.toList [48, 46] = true ∧ 1 ≤ (s.data.toList.drop 2).length ∧ (s.data.toList.drop 2).length ≤ 8 ∧ isDig (s.data.toList.drop 2) = true ∧ ds = digs (s.data.toList.drop 2) := by
  unfold codeOf at h
  split at h
  · rename_i hc
    simp only [okRest, Bool.and_eq_true, decide_eq_true_eq] at hc
    cases h
    exact ⟨hc.1, hc.2.1.1, hc.2.1.2, hc.2.2, rfl⟩
  · cases h
theorem codeOf_len {s : ByteArray} {ds : List Nat} (h : codeOf s = some ds) : 1 ≤ ds.length ∧ ds.length ≤ 8 ∧ ∀ d ∈ ds, d < 8 := by
  obtain ⟨_, h1, h2, h3, rfl⟩ := codeOf_some h
  refine ⟨by unfold digs; rw [List.length_map]; exact h1, by unfold digs; rw [List.length_map]; exact h2, digs_lt h3⟩

theorem read_some (s : ByteArray) (ds : List Nat) (w : World) (h : codeOf s = some ds) :
    Calls Try.prog 43 #[.string s] w fun e w' => ∃ v, e = .returned (.tuple #[v, .int .i64 0]) ∧ OwnN w' w.heap.size v ds ∧ Below w.heap.size w w' := by
  obtain ⟨hp, h1, h2, h3, rfl⟩ := codeOf_some h
  have hr : (⟨(Lib.trimPrefix s.data.toList [48, 46]).toArray⟩ : ByteArray) = ⟨(s.data.toList.drop 2).toArray⟩ := by rw [hp_take, hp]; rfl
  exact read_ok s _ w hp hr (by rw [Lib.size_eq]; exact h1) (by rw [Lib.size_eq]; exact h2) h3

theorem read_nocode (s : ByteArray) (w : World) (h : codeOf s = none) :
    Calls Try.prog 43 #[.string s] w fun e w' => e = .returned (.tuple #[.slice none 0 0, .int .i64 60]) ∧ Below w.heap.size w w' := by
  cases hp : Lib.hasPrefix s.data.toList [48, 46] with
  | false => exact read_none s w hp
  | true =>
    have hr : (⟨(Lib.trimPrefix s.data.toList [48, 46]).toArray⟩ : ByteArray) = ⟨(s.data.toList.drop 2).toArray⟩ := by rw [hp_take, hp]; rfl
    by_cases h18 : 1 ≤ (s.data.toList.drop 2).length ∧ (s.data.toList.drop 2).length ≤ 8
    · cases hd : isDig (s.data.toList.drop 2) with
      | false => exact read_bad s _ w hp hr (by rw [Lib.size_eq]; exact h18.1) (by rw [Lib.size_eq]; exact h18.2) hd
      | true =>
        exfalso
        unfold codeOf okRest at h
        rw [hp, hd] at h
        simp only [Bool.and_true, Bool.true_and, Bool.and_eq_true, decide_eq_true_eq] at h
        rw [if_pos h18] at h
        cases h
    · exact read_size s _ w hp hr (by rw [Lib.size_eq]; exact h18)

theorem Check_some (s : ByteArray) (ds : List Nat) (w : World) (h : codeOf s = some ds) :
    Calls Try.prog 16 #[.string s] w fun e w' => e = .returned (.int .i64 0) ∧ Below w.heap.size w w' := by
  have R := Lib.hid (read_some s ds w h)
  clear h
  go_enter Try.func16, Try.ntmps16
  go_wp2_with fail
  refine R.out.mono ?_
  rintro e w' ⟨v, rfl, _, hb⟩
  have HB := Lib.hid hb
  clear hb
  go_wp2_with fail
  go_ret
  exact ⟨rfl, HB.out⟩
theorem Check_none (s : ByteArray) (w : World) (h : codeOf s = none) :
    Calls Try.prog 16 #[.string s] w fun e w' => e = .returned (.int .i64 60) ∧ Below w.heap.size w w' := by
  have R := Lib.hid (read_nocode s w h)
  clear h
  go_enter Try.func16, Try.ntmps16
  go_wp2_with fail
  refine R.out.mono ?_
  rintro e w' ⟨rfl, hb⟩
  have HB := Lib.hid hb
  clear hb
  go_wp2_with fail
  go_ret
  exact ⟨rfl, HB.out⟩

theorem own_some {w : World} {base : Nat} {v : Value} {L : List Nat} (h : OwnN w base v L) (hl : 1 ≤ L.length) : ∃ g c, v = .slice (some ⟨g, 0, none⟩) L.length c ∧ NS w (some ⟨g, 0, none⟩) L := by
  obtain ⟨p, c, rfl, _⟩ := h.slice
  obtain ⟨g, rfl, _⟩ := h.ns 0 (by omega)
  exact ⟨g, c, rfl, h.ns⟩

theorem Values_ok (s : ByteArray) (ds : List Nat) (most : Nat) (w : World) (h : codeOf s = some ds) (hm : most ≤ 2000) :
    Calls Try.prog 17 #[.string s, .int .i64 most] w fun e w' => ∃ v, e = .returned (.tuple #[v, .int .i64 0]) ∧ OwnN w' w.heap.size v (vals ds (most + 1)) ∧ Below w.heap.size w w' := by
  obtain ⟨l1, l8, hds⟩ := codeOf_len h
  have R := Lib.hid (read_some s ds w h)
  have HD := Lib.hid hds
  clear h hds
  go_enter Try.func17, Try.ntmps17
  go_wp2_with fail
  refine R.out.mono ?_
  rintro e w1 ⟨v, rfl, ho, hb⟩
  obtain ⟨g, c, rfl, hns⟩ := own_some ho l1
  have RW := Lib.hid (row_any ds g c most w1 hns (by omega) HD.out hm)
  have HB := Lib.hid hb
  clear hb ho hns R
  obtain ⟨m, hml⟩ : ∃ m, ds.length = m := ⟨_, rfl⟩
  rw [hml] at RW l1 l8 ⊢
  clear hml
  go_wp2_with fail
  refine RW.out.mono ?_
  rintro e w2 ⟨v, rfl, ho, hb2⟩
  have HO := Lib.hid ho
  have HB2 := Lib.hid (HB.out.trans (hb2.mono HB.out.size))
  clear ho hb2
  go_wp2_with fail
  go_ret2
  exact ⟨v, rfl, HO.out.base_le HB.out.size, HB2.out⟩

theorem Values_none (s : ByteArray) (most : Int) (w : World) (h : codeOf s = none) :
    Calls Try.prog 17 #[.string s, .int .i64 most] w fun e w' => e = .returned (.tuple #[.slice none 0 0, .int .i64 60]) ∧ Below w.heap.size w w' := by
  have R := Lib.hid (read_nocode s w h)
  clear h
  go_enter Try.func17, Try.ntmps17
  go_wp2_with fail
  refine R.out.mono ?_
  rintro e w1 ⟨rfl, hb⟩
  have HB := Lib.hid hb
  clear hb
  go_wp2_with fail
  go_ret2
  exact ⟨rfl, HB.out⟩

theorem Values_arg (s : ByteArray) (ds : List Nat) (most : Int) (w : World) (h : codeOf s = some ds) (hm : ¬ (0 ≤ most ∧ most ≤ 2000)) :
    Calls Try.prog 17 #[.string s, .int .i64 most] w fun e w' => e = .returned (.tuple #[.slice none 0 0, .int .i64 1]) ∧ Below w.heap.size w w' := by
  have R := Lib.hid (read_some s ds w h)
  clear h
  by_cases h0 : most < 0
  · go_enter Try.func17, Try.ntmps17
    go_wp2_with fail
    refine R.out.mono ?_
    rintro e w1 ⟨v, rfl, ho, hb⟩
    have HB := Lib.hid hb
    clear hb ho
    go_wp2_with fail
    go_ret2
    exact ⟨rfl, HB.out⟩
  · have h2 : 2000 < most := by omega
    go_enter Try.func17, Try.ntmps17
    go_wp2_with fail
    refine R.out.mono ?_
    rintro e w1 ⟨v, rfl, ho, hb⟩
    have HB := Lib.hid hb
    clear hb ho
    go_wp2_with fail
    go_ret2
    exact ⟨rfl, HB.out⟩

theorem kayles : codeOf ⟨#[48, 46, 55, 55]⟩ = some [7, 7] := by decide
theorem kayles8 : vals [7, 7] 9 = [0, 1, 2, 3, 1, 4, 3, 2, 1] := by decide
end Go.Proofs.Ytodnfchkkgoabaa
