/- WALK of Moves of a code that counts: too many heaps, a bad heap, and else what winning gives. -/
import Derived.Test.YtodnfchkkgoabaaHPm
import Derived.Test.YtodnfchkkgoabaaHMi
set_option linter.unusedVariables false
namespace Go.Proofs.Ytodnfchkkgoabaa
open Go.RowKit

/-- What winning is to give. -/
def WinC : Prop := ∀ (ds H : List Nat) (g cap : Nat) (ph : Option Addr) (ch : Nat) (X : World), NS X (some ⟨g, 0, none⟩) ds → 1 ≤ ds.length → ds.length ≤ 8 → (∀ d ∈ ds, d < 8) → NS X ph H → H.length ≤ ch → H.length ≤ 10 → (∀ h ∈ H, h ≤ 200) →
  Calls Try.prog 48 #[.slice (some ⟨g, 0, none⟩) ds.length cap, .slice ph H.length ch] X fun e w' => ∃ v, e = .returned v ∧ Out w' v (placed (mvl ds H H.length)) ∧ Below X.heap.size X w'

set_option maxRecDepth 100000 in
set_option maxHeartbeats 2000000 in
theorem Moves_long (s : ByteArray) (ds : List Nat) (n c : Nat) (ph : Option Addr) (w : World) (h : codeOf s = some ds) (hl : 10 < n) (hl2 : n ≤ 1000) :
    Calls Try.prog 21 #[.string s, .slice ph n c] w fun e w' => e = .returned (.tuple #[.slice none 0 0, .int .i64 2]) ∧ Below w.heap.size w w' := by
  have R := Lib.hid (read_some s ds w h)
  clear h
  go_enter Try.func21, Try.ntmps21
  go_wp2_with fail
  refine R.out.mono ?_
  rintro e w1 ⟨v, rfl, ho, hb⟩
  have HB := Lib.hid hb
  clear hb ho R
  go_wp2_with fail
  go_ret2
  exact ⟨rfl, HB.out⟩

set_option maxRecDepth 100000 in
set_option maxHeartbeats 2000000 in
theorem Moves_arg (s : ByteArray) (ds : List Nat) (L : List Int) (c : Nat) (ph : Option Addr) (w : World) (h : codeOf s = some ds) (hL : NI w ph L) (hl : L.length ≤ 10) (hb : ∃ x ∈ L, x < 0 ∨ 200 < x) :
    Calls Try.prog 21 #[.string s, .slice ph L.length c] w fun e w' => e = .returned (.tuple #[.slice none 0 0, .int .i64 1]) ∧ Below w.heap.size w w' := by
  have R := Lib.hid (read_some s ds w h)
  clear h
  obtain ⟨n, hn⟩ : ∃ n, L.length = n := ⟨_, rfl⟩
  have HN := Lib.hid hn
  have HL := Lib.hid hL
  have HBD := Lib.hid hb
  rw [hn] at hl ⊢
  clear hn hL hb
  go_enter Try.func21, Try.ntmps21
  go_wp2_with fail
  refine R.out.mono ?_
  rintro e w1 ⟨v, rfl, ho, hb⟩
  have HB := Lib.hid hb
  have HL1 := Lib.hid (HL.out.lower hb)
  clear hb ho R HL
  go_wp2_with fail
  go_loop [23] (fun x => ∃ i : Nat, x = .int .i64 i ∧ i ≤ n ∧ Hid (∀ j, j < i → 0 ≤ L.getD j 0 ∧ L.getD j 0 ≤ 200)) (fun x => n - (intOf x).toNat)
  case atStart => exact ⟨0, rfl, by omega, Lib.hid (fun j hj => by omega)⟩
  case round =>
    obtain ⟨i, rfl, hin, hall⟩ := hrel
    by_cases hlt : i < n
    · obtain ⟨g, e, hc⟩ := HL1.out i (by have := HN.out; omega)
      subst e
      have HA2 : Hid (0 ≤ L.getD i 0 ∧ L.getD i 0 ≤ 200 → ∀ j, j < i + 1 → 0 ≤ L.getD j 0 ∧ L.getD j 0 ≤ 200) := Lib.hid (fun h9 j hj => by
        by_cases e : j = i
        · subst e; exact h9
        · exact hall.out j (by omega))
      have bi : (i : Int) < (n : Int) := by omega
      generalize L.getD i 0 = x at *
      clear hall
      by_cases h1 : x < 0
      · go_wp2_with fail
        go_ret2
        exact ⟨rfl, HB.out⟩
      · by_cases h2 : 200 < x
        · go_wp2_with fail
          go_ret2
          exact ⟨rfl, HB.out⟩
        · have HS := Lib.hid (HA2.out ⟨by omega, by omega⟩)
          clear HA2
          go_wp2_with fail
          go_round
          case rel => exact ⟨i + 1, by go_num, by omega, HS⟩
          case measure => simp [intOf]; omega
    · exfalso
      obtain ⟨x, hx, h9⟩ := HBD.out
      obtain ⟨j, hj, rfl⟩ := List.getElem_of_mem hx
      have h8 := hall.out j (by have := HN.out; omega)
      rw [List.getD_eq_getElem?_getD, List.getElem?_eq_getElem hj] at h8
      simp only [Option.getD_some] at h8
      omega

set_option maxRecDepth 100000 in
set_option maxHeartbeats 2000000 in
theorem Moves_good (WIN : WinC) (s : ByteArray) (ds H : List Nat) (c : Nat) (ph : Option Addr) (w : World) (h : codeOf s = some ds) (hL : NS w ph H) (hcc : H.length ≤ c) (hl : H.length ≤ 10) (hb : ∀ x ∈ H, x ≤ 200) :
    Calls Try.prog 21 #[.string s, .slice ph H.length c] w fun e w' => ∃ v, e = .returned (.tuple #[v, .int .i64 0]) ∧ Out w' v (placed (mvl ds H H.length)) ∧ Below w.heap.size w w' := by
  have R := Lib.hid (read_some s ds w h)
  obtain ⟨l1, l8, hds⟩ := codeOf_len h
  clear h
  obtain ⟨n, hn⟩ : ∃ n, H.length = n := ⟨_, rfl⟩
  have HN := Lib.hid hn
  have HL := Lib.hid hL
  have HBD := Lib.hid hb
  have WI := Lib.hid (fun g cap X h1 h2 => WIN ds H g cap ph c X h1 l1 l8 hds h2 hcc hl hb)
  have L1 := Lib.hid l1
  rw [hn] at hl WI ⊢
  clear hn hL hb hds l1 l8 WIN hcc
  go_enter Try.func21, Try.ntmps21
  go_wp2_with fail
  refine R.out.mono ?_
  rintro e w1 ⟨v, rfl, ho, hb⟩
  obtain ⟨g0, c0, rfl, hns⟩ := own_some ho L1.out
  have HB := Lib.hid hb
  have HL1 := Lib.hid (HL.out.under hb)
  have HD := Lib.hid hns
  clear hb ho R HL hns
  go_wp2_with fail
  go_loop [23] (fun x => ∃ i : Nat, x = .int .i64 i ∧ i ≤ n) (fun x => n - (intOf x).toNat)
  case atStart => exact ⟨0, rfl, by omega⟩
  case round =>
    obtain ⟨i, rfl, hin⟩ := hrel
    by_cases hlt : i < n
    · obtain ⟨g, e, hc⟩ := HL1.out i (by have := HN.out; omega)
      subst e
      have hx : H.getD i 0 ≤ 200 := HBD.out _ (by
        rw [List.getD_eq_getElem?_getD, List.getElem?_eq_getElem (show i < H.length by have := HN.out; omega)]; exact List.getElem_mem _)
      have bi : (i : Int) < (n : Int) := by omega
      generalize H.getD i 0 = x at *
      go_wp2_with fail
      go_round
      case rel => exact ⟨i + 1, by go_num, by omega⟩
      case measure => simp [intOf]; omega
    · go_wp2_with fail
      refine (WI.out g0 c0 w1 HD.out HL1.out).mono ?_
      rintro e w2 ⟨v2, rfl, hout, hb2⟩
      have HO := Lib.hid hout
      have HB2 := Lib.hid (HB.out.trans (hb2.mono HB.out.size))
      clear hout hb2
      go_wp2_with fail
      go_ret2
      exact ⟨v2, rfl, HO.out, HB2.out⟩
end Go.Proofs.Ytodnfchkkgoabaa
