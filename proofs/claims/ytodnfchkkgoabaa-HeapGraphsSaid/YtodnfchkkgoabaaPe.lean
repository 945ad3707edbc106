/- WALK of firstPeriod. -/
import Derived.Test.YtodnfchkkgoabaaPd
import Derived.Deep.LoopGhost
set_option linter.unusedVariables false
namespace Go.Proofs.Ytodnfchkkgoabaa
open Go.RowKit

/-- The values are the same a period later, as far as is needed. -/
def All (V : List Nat) (pre per d : Nat) : Prop := ∀ m, pre ≤ m → m + per ≤ 2 * pre + 3 * per + d → V.getD m 0 = V.getD (m + per) 0
/-- None comes before. -/
def Bef (V : List Nat) (d lim pre per : Nat) : Prop := ∀ q r, 1 ≤ r → (r < per ∨ r = per ∧ q < pre) → 2 * q + 3 * r + d ≤ lim → ¬ All V q r d
def FP (V : List Nat) (d lim pre per : Nat) (b : Bool) : Prop :=
  (b = true → 1 ≤ per ∧ 2 * pre + 3 * per + d ≤ lim ∧ All V pre per d ∧ Bef V d lim pre per) ∧
  (b = false → pre = 0 ∧ per = 0 ∧ ∀ q r, 1 ≤ r → 2 * q + 3 * r + d ≤ lim → ¬ All V q r d)

set_option maxRecDepth 100000 in
set_option maxHeartbeats 1000000 in
theorem firstPeriod_any (V : List Nat) (p : Option Addr) (c d lim : Nat) (w : World) (hV : NS w p V) (hl : lim ≤ 2500) (hlen : V.length = lim + 1) (hd8 : d ≤ 8) :
    Calls Try.prog 47 #[.slice p (lim + 1) c, .int .i64 d] w fun e w' => ∃ pre per b, e = .returned (.tuple #[.int .i64 (pre : Nat), .int .i64 (per : Nat), .bool b]) ∧ FP V d lim pre per b ∧ Below w.heap.size w w' := by
  have HV := Lib.hid hV
  have HL := Lib.hid hlen
  clear hV hlen
  go_enter Try.func47, Try.ntmps47
  go_wp2_with fail
  go_step3
  go_wp2_with fail
  go_step3
  go_wp2_with fail
  go_loopg [8, 9, 10] (lim + 1) (fun gk x y u wr => ∃ pre per : Nat, x = .int .i64 pre ∧ y = .int .i64 per ∧ u = .bool false ∧ gk + per = lim + 2 ∧ 1 ≤ per ∧ per ≤ lim + 1 ∧ Hid (Bef V d lim 0 per) ∧ Hid (Below w.heap.size w wr))
  case atStart => exact ⟨0, 1, rfl, rfl, rfl, by omega, by omega, by omega, Lib.hid (fun q r h1 h2 => by omega), Lib.hid (Below.refl _ _)⟩
  case round =>
    obtain ⟨pre0, per, rfl, rfl, rfl, hgk, h1, h2, hbef, hb⟩ := hrel
    have N0 : Hid (∀ X : World, Calls Try.prog 49 #[.int .i64 0, .int .i64 per, .int .i64 d] X fun e w' => e = .returned (.int .i64 ((3 * per + d : Nat) : Int)) ∧ X = w') := Lib.hid (fun X => by
      have := needed_nat 0 per d X (by omega) (by omega) (by omega)
      rw [show 2 * 0 + 3 * per + d = 3 * per + d by omega] at this
      exact this)
    obtain ⟨nd0, hnd0⟩ : ∃ n, 3 * per + d = n := ⟨_, rfl⟩
    rw [hnd0] at N0
    have HN0 := Lib.hid hnd0
    by_cases hlt : nd0 ≤ lim
    · have hper : per ≤ lim := by omega
      clear hnd0
      have HGK := Lib.hid hgk
      go_wp2_with fail
      refine (N0.out wr).mono ?_
      rintro e w1 ⟨rfl, rfl⟩
      go_wp2_with fail
      go_loopg [8, 10] (lim + 1) (fun gj x u wr => ∃ pre : Nat, x = .int .i64 pre ∧ u = .bool false ∧ gj + pre = lim + 1 ∧ pre ≤ lim + 1 ∧ Hid (Bef V d lim pre per) ∧ Hid (Below w.heap.size w wr))
      case atStart => exact ⟨0, rfl, rfl, by omega, by omega, hbef, hb⟩
      case round =>
        clear hbef hb N0
        obtain ⟨pre, rfl, rfl, hgj, h3, hbef, hb⟩ := hrel
        have N1 := Lib.hid (fun X => needed_nat pre per d X (by omega) (by omega) (by omega))
        obtain ⟨nd, hnd⟩ : ∃ n, 2 * pre + 3 * per + d = n := ⟨_, rfl⟩
        rw [hnd] at N1
        have HN1 := Lib.hid hnd
        by_cases hlt2 : nd ≤ lim
        · have hpl : pre ≤ lim := by omega
          have F := Lib.hid (fun X (hX : Below w.heap.size w X) => firstBreak_any V p c pre per d X (HV.out.under hX) (by rw [HL.out]; omega) (by rw [HL.out]; omega))
          rw [HL.out] at F
          clear hnd
          go_wp2_with fail
          refine (N1.out wr).mono ?_
          rintro e w1 ⟨rfl, rfl⟩
          go_wp2_with fail
          refine (F.out wr hb.out).mono ?_
          rintro e w2 ⟨n, b, rfl, hf, hb2⟩
          have HF := Lib.hid hf
          have HB2 := Lib.hid (hb.out.trans (hb2.mono hb.out.size))
          clear hf hb2 F hb N1
          cases b with
          | true =>
            obtain ⟨g1, g2, g3, g4⟩ := HF.out.1 rfl
            have gn : n + 1 ≤ lim + 1 := by have := HN1.out; omega
            have HBF : Hid (Bef V d lim (n + 1) per) := Lib.hid (fun q r k1 k2 k3 hA => by
              by_cases e : r = per ∧ pre ≤ q
              · obtain ⟨rfl, e2⟩ := e
                exact g3 (hA n (by omega) (by omega))
              · exact hbef.out q r k1 (by omega) k3 hA)
            clear g2 g3 g4 HF hbef
            go_wp2_with fail
            go_roundg (lim - n)
            case measure => omega
            case rel => exact ⟨n + 1, by go_num, rfl, by omega, gn, HBF, HB2⟩
          | false =>
            have HR : Hid (FP V d lim pre per true) := Lib.hid ⟨fun _ => ⟨h1, by rw [HN1.out]; exact hlt2, (HF.out.2 rfl).2, hbef.out⟩, fun h => (by cases h)⟩
            clear HF hbef
            go_wp2_with fail
            rw [Exit.noGoto_ret]
            go_ret3
            exact ⟨pre, per, true, rfl, HR.out, HB2.out⟩
        · have HBF : Hid (Bef V d lim 0 (per + 1)) := Lib.hid (fun q r k1 k2 k3 hA => by
            exact hbef.out q r k1 (by have := HN1.out; omega) k3 hA)
          clear hnd hbef
          go_wp2_with fail
          refine (N1.out wr).mono ?_
          rintro e w1 ⟨rfl, rfl⟩
          go_wp2_with fail
          go_roundg (lim + 1 - per)
          case measure => have := HGK.out; omega
          case rel => exact ⟨pre, per + 1, rfl, by go_num, rfl, by omega, by omega, by omega, HBF, hb⟩
    · have HR : Hid (FP V d lim 0 0 false) := Lib.hid ⟨fun h => (by cases h), fun _ => ⟨rfl, rfl, fun q r k1 k2 hA => hbef.out q r k1 (by have := HN0.out; omega) k2 hA⟩⟩
      clear hnd0 hbef
      go_wp2_with fail
      refine (N0.out wr).mono ?_
      rintro e w1 ⟨rfl, rfl⟩
      go_wp2_with fail
      rw [Exit.noGoto_ret]
      go_ret3
      exact ⟨0, 0, false, rfl, HR.out, hb.out⟩
end Go.Proofs.Ytodnfchkkgoabaa
