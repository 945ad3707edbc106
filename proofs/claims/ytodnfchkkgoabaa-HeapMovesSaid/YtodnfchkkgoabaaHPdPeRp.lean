/- WALKS of needed, isLimit, firstBreak. -/
import Derived.Test.YtodnfchkkgoabaaHVeVf
import Derived.Test.YtodnfchkkgoabaaHOwRvMp
import Derived.Deep.QuietTactic
import Derived.BigQuiet
import Derived.Deep.LoopGhost
set_option linter.unusedVariables false
namespace Go.Proofs.Ytodnfchkkgoabaa
open Go.RowKit

theorem below_drewN {B : Nat} {w w' : World} (h : Below B w w') (n : Nat) : Below B w (w'.drewN n) := ⟨h.os, h.tape, h.output, h.size, h.block⟩

theorem needed_nat (a b c : Nat) (w : World) (ha : a ≤ 100000) (hb : b ≤ 100000) (hc : c ≤ 100000) :
    Calls Try.prog 49 #[.int .i64 a, .int .i64 b, .int .i64 c] w fun e w' => e = .returned (.int .i64 ((2 * a + 3 * b + c : Nat) : Int)) ∧ w = w' := by
  go_enter Try.func49, Try.ntmps49
  go_wp2_with fail
  go_ret
  exact ⟨ret_int (by omega), rfl⟩

theorem isLimit_any (n : Int) (w : World) :
    Calls Try.prog 46 #[.int .i64 n] w fun e w' => e = .returned (.bool (decide (1 ≤ n ∧ n ≤ 2000))) ∧ w = w' := by
  by_cases h1 : 1 ≤ n
  · by_cases h2 : n ≤ 2000
    · go_enter Try.func46, Try.ntmps46
      go_wp2_with fail
      go_ret
      exact ⟨by simp [h1, h2], rfl⟩
    · have hd : decide (1 ≤ n ∧ n ≤ 2000) = false := decide_eq_false (by omega)
      rw [hd]
      clear hd
      go_enter Try.func46, Try.ntmps46
      go_wp2_with fail
      go_ret
      exact ⟨rfl, rfl⟩
  · have hd : decide (1 ≤ n ∧ n ≤ 2000) = false := decide_eq_false (by omega)
    rw [hd]
    clear hd
    go_enter Try.func46, Try.ntmps46
    go_wp2_with fail
    go_ret
    exact ⟨rfl, rfl⟩

/-- What firstBreak finds. -/
def FB (V : List Nat) (pre per d n : Nat) (b : Bool) : Prop :=
  (b = true → pre ≤ n ∧ n + per ≤ 2 * pre + 3 * per + d ∧ V.getD n 0 ≠ V.getD (n + per) 0 ∧ ∀ m, pre ≤ m → m < n → V.getD m 0 = V.getD (m + per) 0) ∧
  (b = false → n = 0 ∧ ∀ m, pre ≤ m → m + per ≤ 2 * pre + 3 * per + d → V.getD m 0 = V.getD (m + per) 0)

set_option maxHeartbeats 1000000 in
theorem firstBreak_any (V : List Nat) (p : Option Addr) (c pre per d : Nat) (w : World) (hV : NS w p V) (hl : V.length ≤ 3000) (hn : 2 * pre + 3 * per + d < V.length) :
    Calls Try.prog 50 #[.slice p V.length c, .int .i64 pre, .int .i64 per, .int .i64 d] w fun e w' => ∃ n b, e = .returned (.tuple #[.int .i64 (n : Nat), .bool b]) ∧ FB V pre per d n b ∧ Below w.heap.size w w' := by
  have N := Lib.hid (fun X => needed_nat pre per d X (by omega) (by omega) (by omega))
  have HV := Lib.hid hV
  obtain ⟨len, hlen⟩ : ∃ l, V.length = l := ⟨_, rfl⟩
  obtain ⟨need, hneed⟩ : ∃ l, 2 * pre + 3 * per + d = l := ⟨_, rfl⟩
  have HL := Lib.hid hlen
  have HN := Lib.hid hneed
  have hpp : pre + per ≤ need := by omega
  rw [hlen] at hl hn ⊢
  rw [hneed] at hn N
  clear hlen hneed hV
  go_enter Try.func50, Try.ntmps50
  go_wp2_with fail
  go_loopw [10] (fun i wr => ∃ n : Nat, i = .int .i64 n ∧ pre ≤ n ∧ n + per ≤ need + 1 ∧ Hid (∀ m, pre ≤ m → m < n → V.getD m 0 = V.getD (m + per) 0) ∧ Hid (Below w.heap.size w wr)) (fun i _ => need + 1 - (intOf i).toNat)
  case atStart => exact ⟨pre, rfl, by omega, by omega, Lib.hid (fun m h1 h2 => by omega), Lib.hid (Below.refl _ _)⟩
  case round =>
    obtain ⟨n, rfl, h1, h2, hall, hb⟩ := hrel
    by_cases hlt : n + per ≤ need
    · obtain ⟨g, hg, c1⟩ := (HV.out.under hb.out) n (by have := HL.out; omega)
      obtain ⟨g', hg', c2⟩ := (HV.out.under hb.out) (n + per) (by have := HL.out; omega)
      subst hg
      cases hg'
      by_cases he : V.getD n 0 = V.getD (n + per) 0
      · have HE := Lib.hid he
        rw [← he] at c2
        clear he
        generalize V.getD n 0 = v at c1 c2
        have b1 : (n : Int) < (len : Int) := by omega
        have b2 : (n : Int) + (per : Int) < (len : Int) := by omega
        go_wp2_with fail
        refine (N.out wr).mono ?_
        rintro e w1 ⟨rfl, rfl⟩
        go_wp2_with fail
        go_quiet (fail)
        go_wp2_with fail
        go_roundw
        case rel => exact ⟨n + 1, by go_num, by omega, by omega, Lib.hid (fun m g1 g2 => by
          by_cases e : m = n
          · subst e; exact HE.out
          · exact hall.out m g1 (by omega)), Lib.hid (below_drewN hb.out _)⟩
        case measure => simp [intOf]; omega
      · have HE := Lib.hid he
        have q : ((V.getD n 0 : Nat) : Int) ≠ ((V.getD (n + per) 0 : Nat) : Int) := by omega
        clear he
        generalize V.getD n 0 = v at c1 q
        generalize V.getD (n + per) 0 = v2 at c2 q
        have q2 : (((v : Nat) : Int) == ((v2 : Nat) : Int)) = false := by simpa using q
        have q3 : (((v : Nat) : Int) != ((v2 : Nat) : Int)) = true := by simpa using q
        clear q
        have b1 : (n : Int) < (len : Int) := by omega
        have b2 : (n : Int) + (per : Int) < (len : Int) := by omega
        go_wp2_with fail
        refine (N.out wr).mono ?_
        rintro e w1 ⟨rfl, rfl⟩
        go_wp2_with fail
        go_quiet (fail)
        go_wp2_with fail
        go_ret2
        exact ⟨n, true, rfl, ⟨fun _ => ⟨h1, by rw [HN.out]; exact hlt, HE.out, hall.out⟩, fun h => by cases h⟩, below_drewN hb.out _⟩
    · go_wp2_with fail
      refine (N.out wr).mono ?_
      rintro e w1 ⟨rfl, rfl⟩
      go_wp2_with fail
      go_ret2
      exact ⟨0, false, rfl, ⟨fun h => (by cases h), fun _ => ⟨rfl, fun m g1 g2 => hall.out m g1 (by rw [HN.out] at g2; omega)⟩⟩, hb.out⟩
end Go.Proofs.Ytodnfchkkgoabaa

/- WALK of firstPeriod. -/
set_option linter.unusedVariables false
namespace Go.Proofs.Ytodnfchkkgoabaa
open Go.RowKit

/-- The values are the same a period later, as far as is needed. -/
def All (V : List Nat) (pre per d : Nat) : Prop := ∀ m, pre ≤ m → m + per ≤ 2 * pre + 3 * per + d → V.getD m 0 = V.getD (m + per) 0
/-- None comes before. -/
def Bef (V : List Nat) (d lim pre per : Nat) : Prop := ∀ q r, 1 ≤ r → (r < per ∨ r = per ∧ q < pre) → 2 * q + 3 * r + d ≤ lim → ¬ All V q r d
def FP (V : List Nat) (d lim pre per : Nat) (b : Bool) : Prop :=
  (b = true → 1 ≤ per ∧ 2 * pre + 3 * per + d ≤ lim ∧ All V pre per d ∧ Bef V d lim pre per) ∧
  (b = false → pre = 0 ∧ per = 0 ∧ ∀ q r, 1 ≤ r → 2 * q + 3 * r + d ≤ lim → ¬ All V q r d)

set_option maxRecDepth 100000 in
set_option maxHeartbeats 1000000 in
theorem firstPeriod_any (V : List Nat) (p : Option Addr) (c d lim : Nat) (w : World) (hV : NS w p V) (hl : lim ≤ 2500) (hlen : V.length = lim + 1) (hd8 : d ≤ 8) :
    Calls Try.prog 47 #[.slice p (lim + 1) c, .int .i64 d] w fun e w' => ∃ pre per b, e = .returned (.tuple #[.int .i64 (pre : Nat), .int .i64 (per : Nat), .bool b]) ∧ FP V d lim pre per b ∧ Below w.heap.size w w' := by
  have HV := Lib.hid hV
  have HL := Lib.hid hlen
  clear hV hlen
  go_enter Try.func47, Try.ntmps47
  go_wp2_with fail
  go_step3
  go_wp2_with fail
  go_step3
  go_wp2_with fail
  go_loopg [8, 9, 10] (lim + 1) (fun gk x y u wr => ∃ pre per : Nat, x = .int .i64 pre ∧ y = .int .i64 per ∧ u = .bool false ∧ gk + per = lim + 2 ∧ 1 ≤ per ∧ per ≤ lim + 1 ∧ Hid (Bef V d lim 0 per) ∧ Hid (Below w.heap.size w wr))
  case atStart => exact ⟨0, 1, rfl, rfl, rfl, by omega, by omega, by omega, Lib.hid (fun q r h1 h2 => by omega), Lib.hid (Below.refl _ _)⟩
  case round =>
    obtain ⟨pre0, per, rfl, rfl, rfl, hgk, h1, h2, hbef, hb⟩ := hrel
    have N0 : Hid (∀ X : World, Calls Try.prog 49 #[.int .i64 0, .int .i64 per, .int .i64 d] X fun e w' => e = .returned (.int .i64 ((3 * per + d : Nat) : Int)) ∧ X = w') := Lib.hid (fun X => by
      have := needed_nat 0 per d X (by omega) (by omega) (by omega)
      rw [show 2 * 0 + 3 * per + d = 3 * per + d by omega] at this
      exact this)
    obtain ⟨nd0, hnd0⟩ : ∃ n, 3 * per + d = n := ⟨_, rfl⟩
    rw [hnd0] at N0
    have HN0 := Lib.hid hnd0
    by_cases hlt : nd0 ≤ lim
    · have hper : per ≤ lim := by omega
      clear hnd0
      have HGK := Lib.hid hgk
      go_wp2_with fail
      refine (N0.out wr).mono ?_
      rintro e w1 ⟨rfl, rfl⟩
      go_wp2_with fail
      go_loopg [8, 10] (lim + 1) (fun gj x u wr => ∃ pre : Nat, x = .int .i64 pre ∧ u = .bool false ∧ gj + pre = lim + 1 ∧ pre ≤ lim + 1 ∧ Hid (Bef V d lim pre per) ∧ Hid (Below w.heap.size w wr))
      case atStart => exact ⟨0, rfl, rfl, by omega, by omega, hbef, hb⟩
      case round =>
        clear hbef hb N0
        obtain ⟨pre, rfl, rfl, hgj, h3, hbef, hb⟩ := hrel
        have N1 := Lib.hid (fun X => needed_nat pre per d X (by omega) (by omega) (by omega))
        obtain ⟨nd, hnd⟩ : ∃ n, 2 * pre + 3 * per + d = n := ⟨_, rfl⟩
        rw [hnd] at N1
        have HN1 := Lib.hid hnd
        by_cases hlt2 : nd ≤ lim
        · have hpl : pre ≤ lim := by omega
          have F := Lib.hid (fun X (hX : Below w.heap.size w X) => firstBreak_any V p c pre per d X (HV.out.under hX) (by rw [HL.out]; omega) (by rw [HL.out]; omega))
          rw [HL.out] at F
          clear hnd
          go_wp2_with fail
          refine (N1.out wr).mono ?_
          rintro e w1 ⟨rfl, rfl⟩
          go_wp2_with fail
          refine (F.out wr hb.out).mono ?_
          rintro e w2 ⟨n, b, rfl, hf, hb2⟩
          have HF := Lib.hid hf
          have HB2 := Lib.hid (hb.out.trans (hb2.mono hb.out.size))
          clear hf hb2 F hb N1
          cases b with
          | true =>
            obtain ⟨g1, g2, g3, g4⟩ := HF.out.1 rfl
            have gn : n + 1 ≤ lim + 1 := by have := HN1.out; omega
            have HBF : Hid (Bef V d lim (n + 1) per) := Lib.hid (fun q r k1 k2 k3 hA => by
              by_cases e : r = per ∧ pre ≤ q
              · obtain ⟨rfl, e2⟩ := e
                exact g3 (hA n (by omega) (by omega))
              · exact hbef.out q r k1 (by omega) k3 hA)
            clear g2 g3 g4 HF hbef
            go_wp2_with fail
            go_roundg (lim - n)
            case measure => omega
            case rel => exact ⟨n + 1, by go_num, rfl, by omega, gn, HBF, HB2⟩
          | false =>
            have HR : Hid (FP V d lim pre per true) := Lib.hid ⟨fun _ => ⟨h1, by rw [HN1.out]; exact hlt2, (HF.out.2 rfl).2, hbef.out⟩, fun h => (by cases h)⟩
            clear HF hbef
            go_wp2_with fail
            rw [Exit.noGoto_ret]
            go_ret3
            exact ⟨pre, per, true, rfl, HR.out, HB2.out⟩
        · have HBF : Hid (Bef V d lim 0 (per + 1)) := Lib.hid (fun q r k1 k2 k3 hA => by
            exact hbef.out q r k1 (by have := HN1.out; omega) k3 hA)
          clear hnd hbef
          go_wp2_with fail
          refine (N1.out wr).mono ?_
          rintro e w1 ⟨rfl, rfl⟩
          go_wp2_with fail
          go_roundg (lim + 1 - per)
          case measure => have := HGK.out; omega
          case rel => exact ⟨pre, per + 1, rfl, by go_num, rfl, by omega, by omega, by omega, HBF, hb⟩
    · have HR : Hid (FP V d lim 0 0 false) := Lib.hid ⟨fun h => (by cases h), fun _ => ⟨rfl, rfl, fun q r k1 k2 hA => hbef.out q r k1 (by have := HN0.out; omega) k2 hA⟩⟩
      clear hnd0 hbef
      go_wp2_with fail
      refine (N0.out wr).mono ?_
      rintro e w1 ⟨rfl, rfl⟩
      go_wp2_with fail
      rw [Exit.noGoto_ret]
      go_ret3
      exact ⟨0, 0, false, rfl, HR.out, hb.out⟩
end Go.Proofs.Ytodnfchkkgoabaa

/- WALKS of goesOn and Period of the reference (Period takes what is said of its Values). -/
set_option linter.unusedVariables false
namespace Go.Proofs.Ytodnfchkkgoabaa
open Go.RowKit

set_option maxHeartbeats 1000000 in
theorem goesOn_any (V : List Nat) (p : Option Addr) (c pre per d : Nat) (w : World) (hV : NS w p V) (hl : V.length ≤ 3000) (hn : 2 * pre + 3 * per + d < V.length) :
    Calls Try.prog 51 #[.slice p V.length c, .int .i64 d, .int .i64 pre, .int .i64 per] w fun e w' => ∃ b, e = .returned (.bool b) ∧ (b = true ↔ All V pre per d) ∧ Below w.heap.size w w' := by
  have HV := Lib.hid hV
  obtain ⟨len, hlen⟩ : ∃ l, V.length = l := ⟨_, rfl⟩
  have HL := Lib.hid hlen
  rw [hlen] at hl hn ⊢
  clear hlen hV
  go_enter Try.func51, Try.ntmps51
  go_wp2_with fail
  go_loopw [9] (fun i wr => ∃ n : Nat, i = .int .i64 n ∧ pre ≤ n ∧ n ≤ 2 * pre + 2 * per + d + 1 ∧ Hid (∀ m, pre ≤ m → m < n → V.getD m 0 = V.getD (m + per) 0) ∧ Hid (Below w.heap.size w wr)) (fun i _ => 2 * pre + 2 * per + d + 1 - (intOf i).toNat)
  case atStart => exact ⟨pre, rfl, by omega, by omega, Lib.hid (fun m h1 h2 => by omega), Lib.hid (Below.refl _ _)⟩
  case round =>
    obtain ⟨n, rfl, h1, h2, hall, hb⟩ := hrel
    by_cases hlt : n ≤ 2 * pre + 2 * per + d
    · obtain ⟨g, hg, c1⟩ := (HV.out.under hb.out) n (by have := HL.out; omega)
      obtain ⟨g', hg', c2⟩ := (HV.out.under hb.out) (n + per) (by have := HL.out; omega)
      subst hg
      cases hg'
      have b1 : (n : Int) < (len : Int) := by omega
      have b2 : (n : Int) + (per : Int) < (len : Int) := by omega
      by_cases he : V.getD n 0 = V.getD (n + per) 0
      · have HE := Lib.hid he
        rw [← he] at c2
        clear he
        generalize V.getD n 0 = v at c1 c2
        go_wp2_with fail
        go_quiet (fail)
        go_wp2_with fail
        go_roundw
        case rel => exact ⟨n + 1, by go_num, by omega, by omega, Lib.hid (fun m g1 g2 => by
          by_cases e : m = n
          · subst e; exact HE.out
          · exact hall.out m g1 (by omega)), Lib.hid (below_drewN hb.out _)⟩
        case measure => simp [intOf]; omega
      · have HNO : Hid (¬ All V pre per d) := Lib.hid (fun h => he (h n h1 (by omega)))
        have q : ((V.getD n 0 : Nat) : Int) ≠ ((V.getD (n + per) 0 : Nat) : Int) := by omega
        clear he
        generalize V.getD n 0 = v at c1 q
        generalize V.getD (n + per) 0 = v2 at c2 q
        have q2 : (((v2 : Nat) : Int) == ((v : Nat) : Int)) = false := by simpa using fun h => q (by omega)
        have q3 : (((v2 : Nat) : Int) != ((v : Nat) : Int)) = true := by simpa using fun h => q (by omega)
        clear q
        go_wp2_with fail
        go_quiet (fail)
        go_wp2_with fail
        go_ret
        exact ⟨false, rfl, ⟨fun h => (by cases h), fun h => absurd h HNO.out⟩, below_drewN hb.out _⟩
    · have HYES : Hid (All V pre per d) := Lib.hid (fun m g1 g2 => hall.out m g1 (by omega))
      go_wp2_with fail
      go_ret
      exact ⟨true, rfl, ⟨fun _ => HYES.out, fun _ => rfl⟩, hb.out⟩

/-- What is said of Values of the reference. -/
def RV (t : ByteArray) (ds : List Nat) (most : Nat) : Prop := ∀ X : World, Calls Try.prog 19 #[.string t, .int .i64 most] X fun e w' => ∃ v, e = .returned v ∧ OwnN w' X.heap.size v (vals ds (most + 1)) ∧ Below X.heap.size X w'

set_option maxRecDepth 100000 in
set_option maxHeartbeats 1000000 in
theorem RPeriod_any (t : ByteArray) (ds : List Nat) (lim : Nat) (w : World) (hv : RV t ds lim) (hs : t.size = 2 + ds.length) (hd8 : ds.length ≤ 8) (hl : lim ≤ 2000) :
    Calls Try.prog 25 #[.string t, .int .i64 lim] w fun e w' => ∃ pre per b, e = .returned (.tuple #[.int .i64 (pre : Nat), .int .i64 (per : Nat), .bool b]) ∧ FP (vals ds (lim + 1)) ds.length lim pre per b ∧ Below w.heap.size w w' := by
  have HRV := Lib.hid (hv w)
  obtain ⟨d, hd⟩ : ∃ d, ds.length = d := ⟨_, rfl⟩
  obtain ⟨V, hV⟩ : ∃ V, vals ds (lim + 1) = V := ⟨_, rfl⟩
  have hlen := vals_len ds (lim + 1)
  rw [hV] at HRV hlen ⊢
  rw [hd] at hs hd8 ⊢
  have HL := Lib.hid hlen
  have hts : (t.size : Int) - 2 = (d : Int) := by omega
  clear hv hd hV hlen hs
  go_enter Try.func25, Try.ntmps25
  go_wp2_with fail
  refine HRV.out.mono ?_
  rintro e w1 ⟨v, rfl, ho, hb1⟩
  obtain ⟨g, c, rfl, hns⟩ := own_some ho (by rw [HL.out]; omega)
  have HNS := Lib.hid hns
  have HB1 := Lib.hid hb1
  rw [HL.out]
  clear ho hns hb1 HRV hts
  go_wp2_with fail
  obtain ⟨wz, rfl⟩ : ∃ wz : World, wz = w1 := ⟨_, rfl⟩
  go_loopw [9] (fun y wr => ∃ per : Nat, y = .int .i64 per ∧ 1 ≤ per ∧ per ≤ lim + 1 ∧ Hid (Bef V d lim 0 per) ∧ Hid (Below wz.heap.size wz wr)) (fun y _ => lim + 1 - (intOf y).toNat)
  case atStart => exact ⟨1, rfl, by omega, by omega, Lib.hid (fun q r h1 h2 => by omega), Lib.hid (Below.refl _ _)⟩
  case round =>
    obtain ⟨per, rfl, h1, h2, hbef, hb⟩ := hrel
    by_cases hlt : 3 * per + d ≤ lim
    · have hq : decide (3 * (per : Int) + (d : Int) ≤ (lim : Int)) = true := decide_eq_true (by omega)
      go_wp2_with fail
      go_loopw [10] (fun x wr => ∃ pre : Nat, x = .int .i64 pre ∧ pre ≤ lim + 1 ∧ Hid (Bef V d lim pre per) ∧ Hid (Below wz.heap.size wz wr)) (fun x _ => lim + 1 - (intOf x).toNat)
      case atStart => exact ⟨0, rfl, by omega, hbef, hb⟩
      case round =>
        clear hbef hb
        obtain ⟨pre, rfl, h3, hbef, hb⟩ := hrel
        by_cases hlt2 : 2 * pre + 3 * per + d ≤ lim
        · have G := Lib.hid (goesOn_any V (some ⟨g, 0, none⟩) c pre per d wr (HNS.out.under hb.out) (by rw [HL.out]; omega) (by rw [HL.out]; omega))
          rw [HL.out] at G
          go_wp2_with fail
          refine G.out.mono ?_
          rintro e w2 ⟨b, rfl, hbb, hb2⟩
          have HB2 := Lib.hid (hb.out.trans (hb2.mono hb.out.size))
          have HBB := Lib.hid hbb
          clear hbb hb2 G hb
          cases b with
          | true =>
            have HR : Hid (FP V d lim pre per true) := Lib.hid ⟨fun _ => ⟨h1, hlt2, HBB.out.1 rfl, hbef.out⟩, fun h => (by cases h)⟩
            clear HBB hbef
            go_wp2_with fail
            go_ret3
            exact ⟨pre, per, true, rfl, HR.out, HB1.out.trans (HB2.out.mono HB1.out.size)⟩
          | false =>
            have HBF : Hid (Bef V d lim (pre + 1) per) := Lib.hid (fun q r k1 k2 k3 hA => by
              by_cases e : r = per ∧ q = pre
              · obtain ⟨rfl, rfl⟩ := e
                have := HBB.out.2 hA
                cases this
              · exact hbef.out q r k1 (by omega) k3 hA)
            clear HBB hbef
            go_wp2_with fail
            go_roundw
            case rel => exact ⟨pre + 1, by go_num, by omega, HBF, HB2⟩
            case measure => simp [intOf]; omega
        · have HBF : Hid (Bef V d lim 0 (per + 1)) := Lib.hid (fun q r k1 k2 k3 hA => hbef.out q r k1 (by omega) k3 hA)
          clear hbef
          go_wp2_with fail
          go_roundw
          case rel => exact ⟨per + 1, by go_num, by omega, by omega, HBF, hb⟩
          case measure => simp [intOf]; omega
    · have HR : Hid (FP V d lim 0 0 false) := Lib.hid ⟨fun h => (by cases h), fun _ => ⟨rfl, rfl, fun q r k1 k2 hA => hbef.out q r k1 (by omega) k2 hA⟩⟩
      clear hbef
      go_wp2_with fail
      go_ret3
      exact ⟨0, 0, false, rfl, HR.out, HB1.out.trans (hb.out.mono HB1.out.size)⟩
end Go.Proofs.Ytodnfchkkgoabaa
