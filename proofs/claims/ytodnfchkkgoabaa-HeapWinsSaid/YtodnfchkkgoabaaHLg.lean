/- WALK of HeapGoesOn. -/
import Derived.Test.YtodnfchkkgoabaaHFbFcAw
import Derived.Test.YtodnfchkkgoabaaHPf
import Derived.Test.YtodnfchkkgoabaaHCd
import Derived.Test.YtodnfchkkgoabaaHGs
import Derived.Deep.CutBlock
import Derived.Deep.QuietTactic
import Derived.BigQuiet
set_option linter.unusedVariables false
namespace Go.Proofs.Ytodnfchkkgoabaa
open Go.RowKit

theorem u64_pos2 (a : Int) : 0 ≤ IntKind.u64.wrap a := by
  have : IntKind.u64.wrap a = a % 2 ^ 64 := by rfl
  rw [this]; omega
theorem tm200 (u : Int) (h : 0 ≤ u) : 0 ≤ u.tmod 200 ∧ u.tmod 200 < 200 := ⟨Int.tmod_nonneg _ h, Int.tmod_lt_of_pos _ (by decide)⟩
theorem nat220 (E : Int) (h0 : 20 ≤ E ∧ E < 220) : ∃ p : Nat, Value.int .i64 E = .int .i64 (p : Int) ∧ 20 ≤ p ∧ p < 220 := ⟨E.toNat, by rw [Int.toNat_of_nonneg (by omega)], by omega⟩
theorem nat220a (a : Int) : ∃ p : Nat, Value.int .i64 (20 + IntKind.i64.wrap ((IntKind.u64.wrap a).tmod 200)) = .int .i64 (p : Int) ∧ 20 ≤ p ∧ p < 220 := by
  have := tm200 _ (u64_pos2 a)
  apply nat220
  rw [IntKind.wrap_i64]; omega
theorem nat220b (a : Int) : ∃ p : Nat, Value.int .i64 (20 + wrap64 ((IntKind.u64.wrap a).tmod 200)) = .int .i64 (p : Int) ∧ 20 ≤ p ∧ p < 220 := by
  have := tm200 _ (u64_pos2 a)
  apply nat220
  unfold wrap64; omega
theorem nat220c (a : Int) : ∃ p : Nat, Value.int .i64 (wrap64 (20 + wrap64 ((IntKind.u64.wrap a).tmod 200))) = .int .i64 (p : Int) ∧ 20 ≤ p ∧ p < 220 := by
  have := tm200 _ (u64_pos2 a)
  apply nat220
  unfold wrap64; omega

theorem all_gv {ds : List Nat} {n pre per : Nat} (h : All (vals ds (n + 1)) pre per ds.length) (hn : 2 * pre + 3 * per + ds.length ≤ n) : ∀ m, pre ≤ m → m + per ≤ 2 * pre + 3 * per + ds.length → gv ds m = gv ds (m + per) := by
  intro m h1 h2
  have := h m h1 h2
  rw [vals_getD ds (n + 1) m (by omega), vals_getD ds (n + 1) (m + per) (by omega)] at this
  exact this

set_option maxRecDepth 100000 in
set_option maxHeartbeats 4000000 in
theorem HeapGoesOn_any (s : ByteArray) (l0 : Int) (W : World) (wl : -9223372036854775808 ≤ l0 ∧ l0 ≤ 9223372036854775807) :
    Calls Try.prog 10 #[.string s, .int .i64 l0] W fun e w' => e = .returned (.bool true) ∧ Below W.heap.size W w' := by
  have AW := Lib.hid awake_any
  have C := Lib.hid (code_any s W)
  go_enter Try.func10, Try.ntmps10
  go_wp2_with fail
  refine C.out.mono ?_
  rintro e w1 ⟨t, ds, rfl, hds, hb1⟩
  have B1 := Lib.hid hb1
  have HDS := Lib.hid hds
  obtain ⟨d1, d8, -⟩ := codeOf_len hds
  clear hb1 hds C
  go_upto_region 2 with fail
  go_cut [6] from 16 to 20 (fun x wx => (∃ p : Nat, x = .int .i64 p ∧ 20 ≤ p ∧ p < 220) ∧ w1 = wx)
  case first =>
    go_wp2_with fail
    go_meet
    case rel => exact ⟨by first | exact nat220a _ | exact nat220b _ | exact nat220c _, rfl⟩
  case rest =>
    obtain ⟨⟨n, rfl, n1, n2⟩, rfl⟩ := hcut
    clear wl
    have PD := Lib.hid (Period_ok t ds n w1 HDS.out (by omega) (by omega))
    go_wp2_with fail
    refine PD.out.mono ?_
    rintro e w2 ⟨pre, per, b, rfl, hf, hb2⟩
    have B2 := Lib.hid (B1.out.trans (hb2.mono B1.out.size))
    clear hb2 PD B1
    cases b with
    | false =>
      clear hf
      go_wp2_with fail
      refine (AW.out w2).mono ?_
      rintro e w3 ⟨rfl, hb3⟩
      have B3 := Lib.hid (B2.out.trans (hb3.mono B2.out.size))
      clear hb3
      go_wp2_with fail
      go_ret
      exact ⟨rfl, B3.out⟩
    | true =>
      obtain ⟨p1, p2, p3, -⟩ := hf.1 rfl
      have HGO := Lib.hid (goes_on ds pre per p1 (all_gv p3 p2))
      have VL := Lib.hid (Values_ok t ds 600 w2 HDS.out (by omega))
      have IP := Lib.hid (fun X => IsPeriod_in t ds n pre per X HDS.out (by omega) (by omega) p1 p2)
      have HA := Lib.hid p3
      have hpre : pre ≤ 220 := by omega
      have hper : per ≤ 220 := by omega
      clear hf p2 p3 d1 d8
      go_wp2_with fail
      refine VL.out.mono ?_
      rintro e w3 ⟨v, rfl, ho, hb3⟩
      have hlen := vals_len ds (600 + 1)
      obtain ⟨g, c, rfl, hns⟩ := own_some ho (by rw [hlen]; omega)
      rw [hlen]
      have HNS := Lib.hid hns
      have B3 := Lib.hid (B2.out.trans (hb3.mono B2.out.size))
      clear hb3 ho hns hlen VL B2
      go_wp2_with fail
      refine (IP.out w3).mono ?_
      rintro e w4 ⟨b, rfl, hbb, hb4⟩
      obtain rfl := hbb.2 HA.out
      have HNS4 := Lib.hid (HNS.out.under hb4)
      have B4 := Lib.hid (B3.out.trans (hb4.mono B3.out.size))
      clear hbb hb4 IP HNS B3 HA
      go_wp2_with fail
      go_loopw [13] (fun x wr => ∃ i : Nat, x = .int .i64 i ∧ pre ≤ i ∧ i ≤ 601 ∧ Hid (NS wr (some ⟨g, 0, none⟩) (vals ds (600 + 1))) ∧ Hid (Below W.heap.size W wr)) (fun x _ => 601 - (intOf x).toNat)
      case atStart => exact ⟨pre, rfl, by omega, by omega, HNS4, B4⟩
      case round =>
        clear HNS4 B4
        obtain ⟨i, rfl, i1, i2, hns, hb⟩ := hrel
        by_cases hlt : i + per ≤ 600
        · have hlen := vals_len ds (600 + 1)
          obtain ⟨g1, hg1, c1⟩ := hns.out i (by rw [hlen]; omega)
          obtain ⟨g2, hg2, c2⟩ := hns.out (i + per) (by rw [hlen]; omega)
          cases hg1
          cases hg2
          rw [vals_getD ds (600 + 1) i (by omega)] at c1
          rw [vals_getD ds (600 + 1) (i + per) (by omega), ← HGO.out i i1] at c2
          generalize gv ds i = v at c1 c2
          have b1 : (i : Int) < 601 := by omega
          have b2 : (i : Int) + (per : Int) < 601 := by omega
          clear hlen
          go_wp2_with fail
          go_quiet (fail)
          go_wp2_with fail
          go_roundw
          case rel => exact ⟨i + 1, by go_num, by omega, by omega, Lib.hid (hns.out.under (below_drewN (Below.refl _ _) _)), Lib.hid (below_drewN hb.out _)⟩
          case measure => simp [intOf]; omega
        · go_wp2_with fail
          refine (AW.out wr).mono ?_
          rintro e w5 ⟨rfl, hb5⟩
          have B5 := Lib.hid (hb.out.trans (hb5.mono hb.out.size))
          clear hb5
          go_wp2_with fail
          go_ret
          exact ⟨rfl, B5.out⟩
end Go.Proofs.Ytodnfchkkgoabaa
