/- WALK of IsPeriod of the reference (it takes what is said of its Values). -/
import Derived.Test.YtodnfchkkgoabaaPg
set_option linter.unusedVariables false
namespace Go.Proofs.Ytodnfchkkgoabaa
open Go.RowKit

set_option maxHeartbeats 1000000 in
theorem RIsPeriod_in (t : ByteArray) (ds : List Nat) (lim pre per : Nat) (w : World) (hv : RV t ds lim) (hs : t.size = 2 + ds.length) (hd8 : ds.length ≤ 8) (h2 : lim ≤ 2000) (hp : 1 ≤ per) (hn : 2 * pre + 3 * per + ds.length ≤ lim) :
    Calls Try.prog 26 #[.string t, .int .i64 lim, .int .i64 pre, .int .i64 per] w fun e w' => ∃ b, e = .returned (.bool b) ∧ (b = true ↔ All (vals ds (lim + 1)) pre per ds.length) ∧ Below w.heap.size w w' := by
  have HRV := Lib.hid (hv w)
  obtain ⟨d, hd⟩ : ∃ d, ds.length = d := ⟨_, rfl⟩
  obtain ⟨V, hV⟩ : ∃ V, vals ds (lim + 1) = V := ⟨_, rfl⟩
  have hlen := vals_len ds (lim + 1)
  rw [hV] at HRV hlen ⊢
  rw [hd] at hs hd8 hn ⊢
  have HL := Lib.hid hlen
  have hts : (t.size : Int) - 2 = (d : Int) := by omega
  have a1 : decide ((pre : Int) < 0) = false := decide_eq_false (by omega)
  have a2 : decide ((per : Int) < 1) = false := decide_eq_false (by omega)
  have a3 : decide ((lim : Int) < (pre : Int)) = false := decide_eq_false (by omega)
  have a4 : decide ((lim : Int) < (per : Int)) = false := decide_eq_false (by omega)
  have a5 : decide ((lim : Int) < 2 * (pre : Int) + 3 * (per : Int) + (d : Int)) = false := decide_eq_false (by omega)
  have G := Lib.hid (fun (g c : Nat) (X : World) (hX : NS X (some ⟨g, 0, none⟩) V) => goesOn_any V (some ⟨g, 0, none⟩) c pre per d X hX (by omega) (by omega))
  clear hv hd hV hs
  rw [hlen] at G
  clear hlen
  go_enter Try.func26, Try.ntmps26
  go_wp2_with fail
  refine HRV.out.mono ?_
  rintro e w1 ⟨v, rfl, ho, hb1⟩
  obtain ⟨g, c, rfl, hns⟩ := own_some ho (by rw [HL.out]; omega)
  have F := Lib.hid (G.out g c w1 hns)
  have HB1 := Lib.hid hb1
  rw [HL.out]
  clear ho hns hb1 HRV hts G
  go_wp2_with fail
  refine F.out.mono ?_
  rintro e w2 ⟨b, rfl, hbb, hb2⟩
  have HB2 := Lib.hid (HB1.out.trans (hb2.mono HB1.out.size))
  have HBB := Lib.hid hbb
  clear hbb hb2 F
  go_wp2_with fail
  go_ret
  exact ⟨b, rfl, HBB.out, HB2.out⟩

set_option maxHeartbeats 1000000 in
theorem RIsPeriod_out (t : ByteArray) (d : Nat) (lim pre per : Int) (w : World) (hs : t.size = 2 + d) (hd8 : d ≤ 8) (hl : 1 ≤ lim ∧ lim ≤ 2000) (hn : ¬ Look lim pre per d) (b1 : -9223372036854775808 ≤ pre ∧ pre ≤ 9223372036854775807) (b2 : -9223372036854775808 ≤ per ∧ per ≤ 9223372036854775807) :
    Calls Try.prog 26 #[.string t, .int .i64 lim, .int .i64 pre, .int .i64 per] w fun e w' => e = .returned (.bool false) ∧ w = w' := by
  have hts : (t.size : Int) - 2 = (d : Int) := by omega
  have HOUT := Lib.hid hn
  clear hn hs
  by_cases c1 : pre < 0
  · go_enter Try.func26, Try.ntmps26
    go_wp2_with fail
    go_ret
    exact ⟨rfl, rfl⟩
  · have c1' : decide (pre < 0) = false := decide_eq_false c1
    by_cases c3 : per < 1
    · have c3' : decide (per < 1) = true := decide_eq_true c3
      go_enter Try.func26, Try.ntmps26
      go_wp2_with fail
      go_ret
      exact ⟨rfl, rfl⟩
    · have c3' : decide (per < 1) = false := decide_eq_false c3
      by_cases c2 : lim < pre
      · have c2' : decide (lim < pre) = true := decide_eq_true c2
        go_enter Try.func26, Try.ntmps26
        go_wp2_with fail
        go_ret
        exact ⟨rfl, rfl⟩
      · have c2' : decide (lim < pre) = false := decide_eq_false c2
        by_cases c4 : lim < per
        · have c4' : decide (lim < per) = true := decide_eq_true c4
          go_enter Try.func26, Try.ntmps26
          go_wp2_with fail
          go_ret
          exact ⟨rfl, rfl⟩
        · have c4' : decide (lim < per) = false := decide_eq_false c4
          have c5 : decide (lim < 2 * pre + 3 * per + (d : Int)) = true := decide_eq_true (by
            have := HOUT.out
            unfold Look at this
            omega)
          go_enter Try.func26, Try.ntmps26
          go_wp2_with fail
          go_ret
          exact ⟨rfl, rfl⟩
end Go.Proofs.Ytodnfchkkgoabaa
