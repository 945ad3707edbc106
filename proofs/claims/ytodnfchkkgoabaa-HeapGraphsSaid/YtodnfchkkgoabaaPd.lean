/- WALKS of needed, isLimit, firstBreak. -/
import Derived.Test.YtodnfchkkgoabaaVf
import Derived.Test.YtodnfchkkgoabaaRv
import Derived.Deep.QuietTactic
import Derived.BigQuiet
set_option linter.unusedVariables false
namespace Go.Proofs.Ytodnfchkkgoabaa
open Go.RowKit

theorem below_drewN {B : Nat} {w w' : World} (h : Below B w w') (n : Nat) : Below B w (w'.drewN n) := ⟨h.os, h.tape, h.output, h.size, h.block⟩

theorem needed_nat (a b c : Nat) (w : World) (ha : a ≤ 100000) (hb : b ≤ 100000) (hc : c ≤ 100000) :
    Calls Try.prog 49 #[.int .i64 a, .int .i64 b, .int .i64 c] w fun e w' => e = .returned (.int .i64 ((2 * a + 3 * b + c : Nat) : Int)) ∧ w = w' := by
  go_enter Try.func49, Try.ntmps49
  go_wp2_with fail
  go_ret
  exact ⟨ret_int (by omega), rfl⟩

theorem isLimit_any (n : Int) (w : World) :
    Calls Try.prog 46 #[.int .i64 n] w fun e w' => e = .returned (.bool (decide (1 ≤ n ∧ n ≤ 2000))) ∧ w = w' := by
  by_cases h1 : 1 ≤ n
  · by_cases h2 : n ≤ 2000
    · go_enter Try.func46, Try.ntmps46
      go_wp2_with fail
      go_ret
      exact ⟨by simp [h1, h2], rfl⟩
    · have hd : decide (1 ≤ n ∧ n ≤ 2000) = false := decide_eq_false (by omega)
      rw [hd]
      clear hd
      go_enter Try.func46, Try.ntmps46
      go_wp2_with fail
      go_ret
      exact ⟨rfl, rfl⟩
  · have hd : decide (1 ≤ n ∧ n ≤ 2000) = false := decide_eq_false (by omega)
    rw [hd]
    clear hd
    go_enter Try.func46, Try.ntmps46
    go_wp2_with fail
    go_ret
    exact ⟨rfl, rfl⟩

/-- What firstBreak finds. -/
def FB (V : List Nat) (pre per d n : Nat) (b : Bool) : Prop :=
  (b = true → pre ≤ n ∧ n + per ≤ 2 * pre + 3 * per + d ∧ V.getD n 0 ≠ V.getD (n + per) 0 ∧ ∀ m, pre ≤ m → m < n → V.getD m 0 = V.getD (m + per) 0) ∧
  (b = false → n = 0 ∧ ∀ m, pre ≤ m → m + per ≤ 2 * pre + 3 * per + d → V.getD m 0 = V.getD (m + per) 0)

set_option maxHeartbeats 1000000 in
theorem firstBreak_any (V : List Nat) (p : Option Addr) (c pre per d : Nat) (w : World) (hV : NS w p V) (hl : V.length ≤ 3000) (hn : 2 * pre + 3 * per + d < V.length) :
    Calls Try.prog 50 #[.slice p V.length c, .int .i64 pre, .int .i64 per, .int .i64 d] w fun e w' => ∃ n b, e = .returned (.tuple #[.int .i64 (n : Nat), .bool b]) ∧ FB V pre per d n b ∧ Below w.heap.size w w' := by
  have N := Lib.hid (fun X => needed_nat pre per d X (by omega) (by omega) (by omega))
  have HV := Lib.hid hV
  obtain ⟨len, hlen⟩ : ∃ l, V.length = l := ⟨_, rfl⟩
  obtain ⟨need, hneed⟩ : ∃ l, 2 * pre + 3 * per + d = l := ⟨_, rfl⟩
  have HL := Lib.hid hlen
  have HN := Lib.hid hneed
  have hpp : pre + per ≤ need := by omega
  rw [hlen] at hl hn ⊢
  rw [hneed] at hn N
  clear hlen hneed hV
  go_enter Try.func50, Try.ntmps50
  go_wp2_with fail
  go_loopw [10] (fun i wr => ∃ n : Nat, i = .int .i64 n ∧ pre ≤ n ∧ n + per ≤ need + 1 ∧ Hid (∀ m, pre ≤ m → m < n → V.getD m 0 = V.getD (m + per) 0) ∧ Hid (Below w.heap.size w wr)) (fun i _ => need + 1 - (intOf i).toNat)
  case atStart => exact ⟨pre, rfl, by omega, by omega, Lib.hid (fun m h1 h2 => by omega), Lib.hid (Below.refl _ _)⟩
  case round =>
    obtain ⟨n, rfl, h1, h2, hall, hb⟩ := hrel
    by_cases hlt : n + per ≤ need
    · obtain ⟨g, hg, c1⟩ := (HV.out.under hb.out) n (by have := HL.out; omega)
      obtain ⟨g', hg', c2⟩ := (HV.out.under hb.out) (n + per) (by have := HL.out; omega)
      subst hg
      cases hg'
      by_cases he : V.getD n 0 = V.getD (n + per) 0
      · have HE := Lib.hid he
        rw [← he] at c2
        clear he
        generalize V.getD n 0 = v at c1 c2
        have b1 : (n : Int) < (len : Int) := by omega
        have b2 : (n : Int) + (per : Int) < (len : Int) := by omega
        go_wp2_with fail
        refine (N.out wr).mono ?_
        rintro e w1 ⟨rfl, rfl⟩
        go_wp2_with fail
        go_quiet (fail)
        go_wp2_with fail
        go_roundw
        case rel => exact ⟨n + 1, by go_num, by omega, by omega, Lib.hid (fun m g1 g2 => by
          by_cases e : m = n
          · subst e; exact HE.out
          · exact hall.out m g1 (by omega)), Lib.hid (below_drewN hb.out _)⟩
        case measure => simp [intOf]; omega
      · have HE := Lib.hid he
        have q : ((V.getD n 0 : Nat) : Int) ≠ ((V.getD (n + per) 0 : Nat) : Int) := by omega
        clear he
        generalize V.getD n 0 = v at c1 q
        generalize V.getD (n + per) 0 = v2 at c2 q
        have q2 : (((v : Nat) : Int) == ((v2 : Nat) : Int)) = false := by simpa using q
        have q3 : (((v : Nat) : Int) != ((v2 : Nat) : Int)) = true := by simpa using q
        clear q
        have b1 : (n : Int) < (len : Int) := by omega
        have b2 : (n : Int) + (per : Int) < (len : Int) := by omega
        go_wp2_with fail
        refine (N.out wr).mono ?_
        rintro e w1 ⟨rfl, rfl⟩
        go_wp2_with fail
        go_quiet (fail)
        go_wp2_with fail
        go_ret2
        exact ⟨n, true, rfl, ⟨fun _ => ⟨h1, by rw [HN.out]; exact hlt, HE.out, hall.out⟩, fun h => by cases h⟩, below_drewN hb.out _⟩
    · go_wp2_with fail
      refine (N.out wr).mono ?_
      rintro e w1 ⟨rfl, rfl⟩
      go_wp2_with fail
      go_ret2
      exact ⟨0, false, rfl, ⟨fun h => (by cases h), fun _ => ⟨rfl, fun m g1 g2 => hall.out m g1 (by rw [HN.out] at g2; omega)⟩⟩, hb.out⟩
end Go.Proofs.Ytodnfchkkgoabaa
