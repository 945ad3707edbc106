/- WALKS of IsPeriod at any numbers (the program's and the reference's), of Period at a bad limit. -/
import Derived.Test.YtodnfchkkgoabaaPf
import Derived.Test.YtodnfchkkgoabaaRp
import Derived.Test.YtodnfchkkgoabaaAf
set_option linter.unusedVariables false
namespace Go.Proofs.Ytodnfchkkgoabaa
open Go.RowKit

/-- Two numbers that may be looked at. -/
def Look (lim pre per : Int) (d : Nat) : Prop := 0 ≤ pre ∧ 1 ≤ per ∧ 2 * pre + 3 * per + d ≤ lim

set_option maxHeartbeats 1000000 in
theorem IsPeriod_out (s : ByteArray) (ds : List Nat) (lim : Nat) (pre per : Int) (w : World) (h : codeOf s = some ds) (h1 : 1 ≤ lim) (h2 : lim ≤ 2000) (hn : ¬ Look lim pre per ds.length) :
    Calls Try.prog 22 #[.string s, .int .i64 lim, .int .i64 pre, .int .i64 per] w fun e w' => e = .returned (.bool false) ∧ Below w.heap.size w w' := by
  obtain ⟨l1, l8, hds⟩ := codeOf_len h
  have R := Lib.hid (read_some s ds w h)
  have L := Lib.hid (fun X => isLimit_any (lim : Int) X)
  rw [show decide (1 ≤ (lim : Int) ∧ (lim : Int) ≤ 2000) = true from decide_eq_true (by omega)] at L
  clear h hds
  have N : Hid (∀ (X : World) (a b : Nat), a ≤ 2000 → b ≤ 2000 → Calls Try.prog 49 #[.int .i64 a, .int .i64 b, .int .i64 ds.length] X fun e w' => e = .returned (.int .i64 ((2 * a + 3 * b + ds.length : Nat) : Int)) ∧ X = w') := Lib.hid (fun X a b ha hb => needed_nat a b ds.length X (by omega) (by omega) (by omega))
  have HOUT := Lib.hid hn
  clear hn
  by_cases c1 : pre < 0
  · go_enter Try.func22, Try.ntmps22
    go_wp2_with fail
    refine R.out.mono ?_
    rintro e w1 ⟨v, rfl, ho, hb⟩
    have HB := Lib.hid hb
    clear hb ho R
    go_wp2_with fail
    refine (L.out w1).mono ?_
    rintro e w2 ⟨rfl, rfl⟩
    go_wp2_with fail
    go_ret
    exact ⟨rfl, HB.out⟩
  · by_cases c2 : (lim : Int) < pre
    · have c1' : decide (pre < 0) = false := decide_eq_false c1
      have c2' : decide ((lim : Int) < pre) = true := decide_eq_true c2
      go_enter Try.func22, Try.ntmps22
      go_wp2_with fail
      refine R.out.mono ?_
      rintro e w1 ⟨v, rfl, ho, hb⟩
      have HB := Lib.hid hb
      clear hb ho R
      go_wp2_with fail
      refine (L.out w1).mono ?_
      rintro e w2 ⟨rfl, rfl⟩
      go_wp2_with fail
      go_ret
      exact ⟨rfl, HB.out⟩
    · obtain ⟨pre, rfl⟩ : ∃ m : Nat, pre = m := ⟨pre.toNat, by omega⟩
      have p1 : pre ≤ lim := by omega
      clear c1 c2
      by_cases c3 : per < 1
      · have c3' : decide (per < 1) = true := decide_eq_true c3
        go_enter Try.func22, Try.ntmps22
        go_wp2_with fail
        refine R.out.mono ?_
        rintro e w1 ⟨v, rfl, ho, hb⟩
        have HB := Lib.hid hb
        clear hb ho R
        go_wp2_with fail
        refine (L.out w1).mono ?_
        rintro e w2 ⟨rfl, rfl⟩
        go_wp2_with fail
        go_ret
        exact ⟨rfl, HB.out⟩
      · by_cases c4 : (lim : Int) < per
        · have c3' : decide (per < 1) = false := decide_eq_false c3
          have c4' : decide ((lim : Int) < per) = true := decide_eq_true c4
          go_enter Try.func22, Try.ntmps22
          go_wp2_with fail
          refine R.out.mono ?_
          rintro e w1 ⟨v, rfl, ho, hb⟩
          have HB := Lib.hid hb
          clear hb ho R
          go_wp2_with fail
          refine (L.out w1).mono ?_
          rintro e w2 ⟨rfl, rfl⟩
          go_wp2_with fail
          go_ret
          exact ⟨rfl, HB.out⟩
        · obtain ⟨per, rfl⟩ : ∃ m : Nat, per = m := ⟨per.toNat, by omega⟩
          have p2 : per ≤ lim := by omega
          have p3 : 1 ≤ per := by omega
          have N2 := Lib.hid (fun X => N.out X pre per (by omega) (by omega))
          have hnd : lim < 2 * pre + 3 * per + ds.length := by
            have := HOUT.out
            unfold Look at this
            omega
          obtain ⟨nd, hnd2⟩ : ∃ n, 2 * pre + 3 * per + ds.length = n := ⟨_, rfl⟩
          rw [hnd2] at N2 hnd
          obtain ⟨m, hml⟩ : ∃ m, ds.length = m := ⟨_, rfl⟩
          rw [hml] at N2 l1 l8
          have HML := Lib.hid hml
          clear c3 c4 hnd2 hml N HOUT
          go_enter Try.func22, Try.ntmps22
          go_wp2_with fail
          refine R.out.mono ?_
          rintro e w1 ⟨v, rfl, ho, hb⟩
          obtain ⟨p, c, rfl, -⟩ := ho.slice
          rw [HML.out]
          have HB := Lib.hid hb
          clear hb ho R
          go_wp2_with fail
          refine (L.out w1).mono ?_
          rintro e w2 ⟨rfl, rfl⟩
          go_wp2_with fail
          refine (N2.out w1).mono ?_
          rintro e w2 ⟨rfl, rfl⟩
          go_wp2_with fail
          go_ret
          exact ⟨rfl, HB.out⟩

theorem Period_arg (s : ByteArray) (ds : List Nat) (lim : Int) (w : World) (h : codeOf s = some ds) (hl : ¬ (1 ≤ lim ∧ lim ≤ 2000)) :
    Calls Try.prog 20 #[.string s, .int .i64 lim] w fun e w' => e = .returned (.tuple #[.int .i64 0, .int .i64 0, .bool false, .int .i64 1]) ∧ Below w.heap.size w w' := by
  have R := Lib.hid (read_some s ds w h)
  have L := Lib.hid (fun X => isLimit_any lim X)
  rw [show decide (1 ≤ lim ∧ lim ≤ 2000) = false from decide_eq_false hl] at L
  clear h hl
  go_enter Try.func20, Try.ntmps20
  go_wp2_with fail
  refine R.out.mono ?_
  rintro e w1 ⟨v, rfl, ho, hb⟩
  have HB := Lib.hid hb
  clear hb ho R
  go_wp2_with fail
  refine (L.out w1).mono ?_
  rintro e w2 ⟨rfl, rfl⟩
  go_wp2_with fail
  refine bodyPost_ret (results_tmp4 rfl _ _ _) rfl ?_
  exact ⟨rfl, HB.out⟩
theorem Period_none (s : ByteArray) (lim : Int) (w : World) (h : codeOf s = none) :
    Calls Try.prog 20 #[.string s, .int .i64 lim] w fun e w' => e = .returned (.tuple #[.int .i64 0, .int .i64 0, .bool false, .int .i64 60]) ∧ Below w.heap.size w w' := by
  have R := Lib.hid (read_nocode s w h)
  clear h
  go_enter Try.func20, Try.ntmps20
  go_wp2_with fail
  refine R.out.mono ?_
  rintro e w1 ⟨rfl, hb⟩
  have HB := Lib.hid hb
  clear hb R
  go_wp2_with fail
  refine bodyPost_ret (results_tmp4 rfl _ _ _) rfl ?_
  exact ⟨rfl, HB.out⟩
theorem IsPeriod_arg (s : ByteArray) (ds : List Nat) (lim pre per : Int) (w : World) (h : codeOf s = some ds) (hl : ¬ (1 ≤ lim ∧ lim ≤ 2000)) :
    Calls Try.prog 22 #[.string s, .int .i64 lim, .int .i64 pre, .int .i64 per] w fun e w' => e = .returned (.bool false) ∧ Below w.heap.size w w' := by
  have R := Lib.hid (read_some s ds w h)
  have L := Lib.hid (fun X => isLimit_any lim X)
  rw [show decide (1 ≤ lim ∧ lim ≤ 2000) = false from decide_eq_false hl] at L
  clear h hl
  go_enter Try.func22, Try.ntmps22
  go_wp2_with fail
  refine R.out.mono ?_
  rintro e w1 ⟨v, rfl, ho, hb⟩
  have HB := Lib.hid hb
  clear hb ho R
  go_wp2_with fail
  refine (L.out w1).mono ?_
  rintro e w2 ⟨rfl, rfl⟩
  go_wp2_with fail
  go_ret
  exact ⟨rfl, HB.out⟩
theorem IsPeriod_none (s : ByteArray) (lim pre per : Int) (w : World) (h : codeOf s = none) :
    Calls Try.prog 22 #[.string s, .int .i64 lim, .int .i64 pre, .int .i64 per] w fun e w' => e = .returned (.bool false) ∧ Below w.heap.size w w' := by
  have R := Lib.hid (read_nocode s w h)
  clear h
  go_enter Try.func22, Try.ntmps22
  go_wp2_with fail
  refine R.out.mono ?_
  rintro e w1 ⟨rfl, hb⟩
  have HB := Lib.hid hb
  clear hb R
  go_wp2_with fail
  go_ret
  exact ⟨rfl, HB.out⟩
end Go.Proofs.Ytodnfchkkgoabaa
