/- WALKS of goesOn and Period of the reference (Period takes what is said of its Values). -/
import Derived.Test.YtodnfchkkgoabaaPe
set_option linter.unusedVariables false
namespace Go.Proofs.Ytodnfchkkgoabaa
open Go.RowKit

set_option maxHeartbeats 1000000 in
theorem goesOn_any (V : List Nat) (p : Option Addr) (c pre per d : Nat) (w : World) (hV : NS w p V) (hl : V.length ≤ 3000) (hn : 2 * pre + 3 * per + d < V.length) :
    Calls Try.prog 51 #[.slice p V.length c, .int .i64 d, .int .i64 pre, .int .i64 per] w fun e w' => ∃ b, e = .returned (.bool b) ∧ (b = true ↔ All V pre per d) ∧ Below w.heap.size w w' := by
  have HV := Lib.hid hV
  obtain ⟨len, hlen⟩ : ∃ l, V.length = l := ⟨_, rfl⟩
  have HL := Lib.hid hlen
  rw [hlen] at hl hn ⊢
  clear hlen hV
  go_enter Try.func51, Try.ntmps51
  go_wp2_with fail
  go_loopw [9] (fun i wr => ∃ n : Nat, i = .int .i64 n ∧ pre ≤ n ∧ n ≤ 2 * pre + 2 * per + d + 1 ∧ Hid (∀ m, pre ≤ m → m < n → V.getD m 0 = V.getD (m + per) 0) ∧ Hid (Below w.heap.size w wr)) (fun i _ => 2 * pre + 2 * per + d + 1 - (intOf i).toNat)
  case atStart => exact ⟨pre, rfl, by omega, by omega, Lib.hid (fun m h1 h2 => by omega), Lib.hid (Below.refl _ _)⟩
  case round =>
    obtain ⟨n, rfl, h1, h2, hall, hb⟩ := hrel
    by_cases hlt : n ≤ 2 * pre + 2 * per + d
    · obtain ⟨g, hg, c1⟩ := (HV.out.under hb.out) n (by have := HL.out; omega)
      obtain ⟨g', hg', c2⟩ := (HV.out.under hb.out) (n + per) (by have := HL.out; omega)
      subst hg
      cases hg'
      have b1 : (n : Int) < (len : Int) := by omega
      have b2 : (n : Int) + (per : Int) < (len : Int) := by omega
      by_cases he : V.getD n 0 = V.getD (n + per) 0
      · have HE := Lib.hid he
        rw [← he] at c2
        clear he
        generalize V.getD n 0 = v at c1 c2
        go_wp2_with fail
        go_quiet (fail)
        go_wp2_with fail
        go_roundw
        case rel => exact ⟨n + 1, by go_num, by omega, by omega, Lib.hid (fun m g1 g2 => by
          by_cases e : m = n
          · subst e; exact HE.out
          · exact hall.out m g1 (by omega)), Lib.hid (below_drewN hb.out _)⟩
        case measure => simp [intOf]; omega
      · have HNO : Hid (¬ All V pre per d) := Lib.hid (fun h => he (h n h1 (by omega)))
        have q : ((V.getD n 0 : Nat) : Int) ≠ ((V.getD (n + per) 0 : Nat) : Int) := by omega
        clear he
        generalize V.getD n 0 = v at c1 q
        generalize V.getD (n + per) 0 = v2 at c2 q
        have q2 : (((v2 : Nat) : Int) == ((v : Nat) : Int)) = false := by simpa using fun h => q (by omega)
        have q3 : (((v2 : Nat) : Int) != ((v : Nat) : Int)) = true := by simpa using fun h => q (by omega)
        clear q
        go_wp2_with fail
        go_quiet (fail)
        go_wp2_with fail
        go_ret
        exact ⟨false, rfl, ⟨fun h => (by cases h), fun h => absurd h HNO.out⟩, below_drewN hb.out _⟩
    · have HYES : Hid (All V pre per d) := Lib.hid (fun m g1 g2 => hall.out m g1 (by omega))
      go_wp2_with fail
      go_ret
      exact ⟨true, rfl, ⟨fun _ => HYES.out, fun _ => rfl⟩, hb.out⟩

/-- What is said of Values of the reference. -/
def RV (t : ByteArray) (ds : List Nat) (most : Nat) : Prop := ∀ X : World, Calls Try.prog 19 #[.string t, .int .i64 most] X fun e w' => ∃ v, e = .returned v ∧ OwnN w' X.heap.size v (vals ds (most + 1)) ∧ Below X.heap.size X w'

set_option maxRecDepth 100000 in
set_option maxHeartbeats 1000000 in
theorem RPeriod_any (t : ByteArray) (ds : List Nat) (lim : Nat) (w : World) (hv : RV t ds lim) (hs : t.size = 2 + ds.length) (hd8 : ds.length ≤ 8) (hl : lim ≤ 2000) :
    Calls Try.prog 25 #[.string t, .int .i64 lim] w fun e w' => ∃ pre per b, e = .returned (.tuple #[.int .i64 (pre : Nat), .int .i64 (per : Nat), .bool b]) ∧ FP (vals ds (lim + 1)) ds.length lim pre per b ∧ Below w.heap.size w w' := by
  have HRV := Lib.hid (hv w)
  obtain ⟨d, hd⟩ : ∃ d, ds.length = d := ⟨_, rfl⟩
  obtain ⟨V, hV⟩ : ∃ V, vals ds (lim + 1) = V := ⟨_, rfl⟩
  have hlen := vals_len ds (lim + 1)
  rw [hV] at HRV hlen ⊢
  rw [hd] at hs hd8 ⊢
  have HL := Lib.hid hlen
  have hts : (t.size : Int) - 2 = (d : Int) := by omega
  clear hv hd hV hlen hs
  go_enter Try.func25, Try.ntmps25
  go_wp2_with fail
  refine HRV.out.mono ?_
  rintro e w1 ⟨v, rfl, ho, hb1⟩
  obtain ⟨g, c, rfl, hns⟩ := own_some ho (by rw [HL.out]; omega)
  have HNS := Lib.hid hns
  have HB1 := Lib.hid hb1
  rw [HL.out]
  clear ho hns hb1 HRV hts
  go_wp2_with fail
  obtain ⟨wz, rfl⟩ : ∃ wz : World, wz = w1 := ⟨_, rfl⟩
  go_loopw [9] (fun y wr => ∃ per : Nat, y = .int .i64 per ∧ 1 ≤ per ∧ per ≤ lim + 1 ∧ Hid (Bef V d lim 0 per) ∧ Hid (Below wz.heap.size wz wr)) (fun y _ => lim + 1 - (intOf y).toNat)
  case atStart => exact ⟨1, rfl, by omega, by omega, Lib.hid (fun q r h1 h2 => by omega), Lib.hid (Below.refl _ _)⟩
  case round =>
    obtain ⟨per, rfl, h1, h2, hbef, hb⟩ := hrel
    by_cases hlt : 3 * per + d ≤ lim
    · have hq : decide (3 * (per : Int) + (d : Int) ≤ (lim : Int)) = true := decide_eq_true (by omega)
      go_wp2_with fail
      go_loopw [10] (fun x wr => ∃ pre : Nat, x = .int .i64 pre ∧ pre ≤ lim + 1 ∧ Hid (Bef V d lim pre per) ∧ Hid (Below wz.heap.size wz wr)) (fun x _ => lim + 1 - (intOf x).toNat)
      case atStart => exact ⟨0, rfl, by omega, hbef, hb⟩
      case round =>
        clear hbef hb
        obtain ⟨pre, rfl, h3, hbef, hb⟩ := hrel
        by_cases hlt2 : 2 * pre + 3 * per + d ≤ lim
        · have G := Lib.hid (goesOn_any V (some ⟨g, 0, none⟩) c pre per d wr (HNS.out.under hb.out) (by rw [HL.out]; omega) (by rw [HL.out]; omega))
          rw [HL.out] at G
          go_wp2_with fail
          refine G.out.mono ?_
          rintro e w2 ⟨b, rfl, hbb, hb2⟩
          have HB2 := Lib.hid (hb.out.trans (hb2.mono hb.out.size))
          have HBB := Lib.hid hbb
          clear hbb hb2 G hb
          cases b with
          | true =>
            have HR : Hid (FP V d lim pre per true) := Lib.hid ⟨fun _ => ⟨h1, hlt2, HBB.out.1 rfl, hbef.out⟩, fun h => (by cases h)⟩
            clear HBB hbef
            go_wp2_with fail
            go_ret3
            exact ⟨pre, per, true, rfl, HR.out, HB1.out.trans (HB2.out.mono HB1.out.size)⟩
          | false =>
            have HBF : Hid (Bef V d lim (pre + 1) per) := Lib.hid (fun q r k1 k2 k3 hA => by
              by_cases e : r = per ∧ q = pre
              · obtain ⟨rfl, rfl⟩ := e
                have := HBB.out.2 hA
                cases this
              · exact hbef.out q r k1 (by omega) k3 hA)
            clear HBB hbef
            go_wp2_with fail
            go_roundw
            case rel => exact ⟨pre + 1, by go_num, by omega, HBF, HB2⟩
            case measure => simp [intOf]; omega
        · have HBF : Hid (Bef V d lim 0 (per + 1)) := Lib.hid (fun q r k1 k2 k3 hA => hbef.out q r k1 (by omega) k3 hA)
          clear hbef
          go_wp2_with fail
          go_roundw
          case rel => exact ⟨per + 1, by go_num, by omega, by omega, HBF, hb⟩
          case measure => simp [intOf]; omega
    · have HR : Hid (FP V d lim 0 0 false) := Lib.hid ⟨fun h => (by cases h), fun _ => ⟨rfl, rfl, fun q r k1 k2 hA => hbef.out q r k1 (by omega) k2 hA⟩⟩
      clear hbef
      go_wp2_with fail
      go_ret3
      exact ⟨0, 0, false, rfl, HR.out, HB1.out.trans (hb.out.mono HB1.out.size)⟩
end Go.Proofs.Ytodnfchkkgoabaa
