/- WALK of slices.Compare: lists of integers, by their first difference. -/
import Derived.Test.YtodnfchkkgoabaaHOe
set_option linter.unusedVariables false
namespace Go.Proofs.Ytodnfchkkgoabaa
open Go.Shelf Go.RowKit Go.Lib Go.Sort

/-- Lists of integers compared. -/
def cmpL : List Int → List Int → Int
  | [], [] => 0
  | [], _ :: _ => -1
  | _ :: _, [] => 1
  | a :: A, b :: B => if Lib.compareInt a b = 0 then cmpL A B else Lib.compareInt a b

theorem cmpL_cons (a b : Int) (A B : List Int) : cmpL (a :: A) (b :: B) = if Lib.compareInt a b = 0 then cmpL A B else Lib.compareInt a b := rfl
theorem cmpL_drop (A B : List Int) (i : Nat) (ha : i < A.length) (hb : i < B.length) : cmpL (A.drop i) (B.drop i) = if Lib.compareInt (A.getD i 0) (B.getD i 0) = 0 then cmpL (A.drop (i + 1)) (B.drop (i + 1)) else Lib.compareInt (A.getD i 0) (B.getD i 0) := by
  rw [List.drop_eq_getElem_cons ha, List.drop_eq_getElem_cons hb, cmpL_cons, List.getD_eq_getElem?_getD, List.getD_eq_getElem?_getD, List.getElem?_eq_getElem ha, List.getElem?_eq_getElem hb]
  simp only [Option.getD_some]
theorem cmpL_end1 (A B : List Int) (i : Nat) (ha : i < A.length) (hb : B.length ≤ i) : cmpL (A.drop i) (B.drop i) = 1 := by
  rw [List.drop_eq_getElem_cons ha, List.drop_eq_nil_iff.2 hb]; rfl
theorem cmpL_end2 (A B : List Int) (i : Nat) (ha : A.length ≤ i) (hb : i < B.length) : cmpL (A.drop i) (B.drop i) = -1 := by
  rw [List.drop_eq_getElem_cons hb, List.drop_eq_nil_iff.2 ha]; rfl
theorem cmpL_end0 (A B : List Int) (i : Nat) (ha : A.length ≤ i) (hb : B.length ≤ i) : cmpL (A.drop i) (B.drop i) = 0 := by
  rw [List.drop_eq_nil_iff.2 ha, List.drop_eq_nil_iff.2 hb]; rfl

set_option maxRecDepth 100000 in
theorem Compare_any (A B : List Int) (p q : Option Addr) (c d : Nat) (w : World) (hA : NI w p A) (hB : NI w q B) (la : A.length ≤ 1000) (lb : B.length ≤ 1000) :
    Calls Try.prog 67 #[.slice p A.length c, .slice q B.length d] w fun e w' => e = .returned (.int .i64 (cmpL A B)) ∧ w' = w := by
  obtain ⟨m, hm⟩ : ∃ m, A.length = m := ⟨_, rfl⟩
  obtain ⟨n, hn⟩ : ∃ n, B.length = n := ⟨_, rfl⟩
  have HM := Lib.hid hm
  have HN := Lib.hid hn
  have H1 := Lib.hid hA
  have H2 := Lib.hid hB
  have CI := Lib.hid (fun x y X => Try.cmp_Compare_int x y X)
  rw [hm] at la ⊢
  rw [hn] at lb ⊢
  clear hm hn hA hB
  go_enter Try.func67, Try.ntmps67
  go_wp2_with fail
  go_loop [5, 6, 7, 8, 11] (fun _ _ _ _ x => ∃ i : Nat, x = .int .i64 i ∧ i ≤ m ∧ i ≤ n ∧ Hid (cmpL (A.drop i) (B.drop i) = cmpL A B)) (fun _ _ _ _ x => m - (intOf x).toNat)
  case atStart => exact ⟨0, rfl, by omega, by omega, Lib.hid rfl⟩
  case round =>
    obtain ⟨i, rfl, him, hin, heq⟩ := hrel
    by_cases hlt : i < m
    · obtain ⟨g, rfl, c1⟩ := H1.out i (by rw [HM.out]; exact hlt)
      by_cases hlt2 : i < n
      · obtain ⟨g2, rfl, c2⟩ := H2.out i (by rw [HN.out]; exact hlt2)
        have HD := Lib.hid (cmpL_drop A B i (by rw [HM.out]; exact hlt) (by rw [HN.out]; exact hlt2))
        have CC := Lib.hid (CI.out (A.getD i 0) (B.getD i 0) w)
        obtain ⟨r, hr⟩ : ∃ r, Lib.compareInt (A.getD i 0) (B.getD i 0) = r := ⟨_, rfl⟩
        rw [hr] at HD CC
        generalize A.getD i 0 = x at c1 CC
        generalize B.getD i 0 = y at c2 CC
        clear hr
        by_cases hr0 : r = 0
        · have HE : Hid (cmpL (A.drop (i + 1)) (B.drop (i + 1)) = cmpL A B) := Lib.hid (by rw [← heq.out, HD.out, if_pos hr0])
          subst hr0
          clear heq HD
          go_wp2_with fail
          refine CC.out.mono ?_
          rintro e w' ⟨rfl, rfl⟩
          go_wp2_with fail
          go_round
          case rel => exact ⟨i + 1, by go_num, by omega, by omega, HE⟩
          case measure => simp [intOf]; omega
        · have HE : Hid (r = cmpL A B) := Lib.hid (by rw [← heq.out, HD.out, if_neg hr0])
          have q0 : (r != 0) = true := by simpa using hr0
          clear heq HD
          go_wp2_with fail
          refine CC.out.mono ?_
          rintro e w' ⟨rfl, rfl⟩
          go_wp2_with fail
          go_ret
          exact ⟨by rw [HE.out]; rfl, rfl⟩
      · have HE : Hid (cmpL A B = 1) := Lib.hid (by rw [← heq.out]; exact cmpL_end1 A B i (by rw [HM.out]; exact hlt) (by rw [HN.out]; omega))
        clear heq
        go_wp2_with fail
        go_ret
        exact ⟨by rw [HE.out]; rfl, rfl⟩
    · by_cases hlt2 : m < n
      · have HE : Hid (cmpL A B = -1) := Lib.hid (by rw [← heq.out]; exact cmpL_end2 A B i (by rw [HM.out]; omega) (by rw [HN.out]; omega))
        clear heq
        go_wp2_with fail
        go_ret
        exact ⟨by rw [HE.out]; rfl, rfl⟩
      · have HE : Hid (cmpL A B = 0) := Lib.hid (by rw [← heq.out]; exact cmpL_end0 A B i (by rw [HM.out]; omega) (by rw [HN.out]; omega))
        clear heq
        go_wp2_with fail
        go_ret
        exact ⟨by rw [HE.out]; rfl, rfl⟩
end Go.Proofs.Ytodnfchkkgoabaa
