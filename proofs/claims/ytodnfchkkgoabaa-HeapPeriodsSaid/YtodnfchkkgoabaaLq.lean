/- WALK of HeapPeriods. -/
import Derived.Test.YtodnfchkkgoabaaAw
import Derived.Test.YtodnfchkkgoabaaLb
import Derived.Test.YtodnfchkkgoabaaPz
import Derived.Test.YtodnfchkkgoabaaCd
import Derived.Deep.CutBlock
set_option linter.unusedVariables false
namespace Go.Proofs.Ytodnfchkkgoabaa
open Go.RowKit

def I64 (a : Int) : Prop := -9223372036854775808 ≤ a ∧ a ≤ 9223372036854775807
/-- The array lies in its block. -/
def Two (w : World) (b : Nat) (x y : Int) : Prop := ∃ t : TypeId, w.heap[b]? = some (.cells #[.int .i64 x, .int .i64 y] t (0, 0))
theorem Two.lt {w : World} {b : Nat} {x y : Int} (h : Two w b x y) : b < w.heap.size := by
  obtain ⟨t, h⟩ := h; exact (Array.getElem?_eq_some_iff.1 h).1
theorem Two.c0 {w : World} {b : Nat} {x y : Int} (h : Two w b x y) : w.cell? ⟨b, 0, none⟩ = some (.int .i64 x) := by obtain ⟨t, h⟩ := h; simp [World.cell?, h]
theorem Two.c1 {w : World} {b : Nat} {x y : Int} (h : Two w b x y) : w.cell? ⟨b, 1, none⟩ = some (.int .i64 y) := by obtain ⟨t, h⟩ := h; simp [World.cell?, h]
theorem Two.fz {w : World} {b i : Nat} {x y : Int} (h : Two w b x y) : w.frozen? ⟨b, i, none⟩ = false := by obtain ⟨t, h⟩ := h; simp [World.frozen?, h]
theorem Two.set {w : World} {b : Nat} {x y : Int} (h : Two w b x y) (x' y' : Int) : Two ((w.setCell ⟨b, 0, none⟩ (.int .i64 x')).setCell ⟨b, 1, none⟩ (.int .i64 y')) b x' y' := by
  have hl := h.lt
  obtain ⟨t, h⟩ := h
  refine ⟨t, ?_⟩
  obtain ⟨_, hk⟩ := Array.getElem?_eq_some_iff.1 h
  simp [World.setCell, Array.getElem?_modify, h]
theorem Two.under {w w' : World} {b : Nat} {x y : Int} (h : Two w b x y) (hb : Below w.heap.size w w') : Two w' b x y := by
  have hl := h.lt
  obtain ⟨t, h⟩ := h
  exact ⟨t, (hb.block b hl).trans h⟩

set_option maxRecDepth 100000 in
set_option maxHeartbeats 4000000 in
theorem HeapPeriods_any (s : ByteArray) (l0 o0 o1 : Int) (W : World) (wl : I64 l0) (w0 : I64 o0) (w1 : I64 o1) :
    Calls Try.prog 4 #[.string s, .int .i64 l0, .agg #[.int .i64 o0, .int .i64 o1]] W fun e w' => e = .returned (.bool true) ∧ Below W.heap.size W w' := by
  have AW := Lib.hid awake_any
  have C := Lib.hid (fun X => code_any s X)
  go_enter Try.func4, Try.ntmps4
  go_wp2_with fail
  refine (C.out _).mono ?_
  rintro e wa ⟨t, ds, rfl, hds, hb1⟩
  obtain ⟨b, hb⟩ : ∃ b, W.heap.size = b := ⟨_, rfl⟩
  have H0 : Hid (Two wa b o0 o1) := Lib.hid (Two.under ⟨_, by rw [← hb]; exact heap_alloc_new _ _⟩ hb1)
  have HB0 : Hid (Below W.heap.size W wa) := Lib.hid (((Below.refl _ W).alloc (Nat.le_refl _) _).trans (hb1.mono (by simp)))
  have HDS := Lib.hid hds
  have HBE := Lib.hid hb
  simp only [hb]
  clear hds hb1 hb C
  go_wp2_with fail
  go_loopw [1, 8] (fun x k wr => ∃ (l p q : Int) (j : Nat), x = .int .i64 l ∧ k = .int .i64 j ∧ j ≤ 3 ∧ Hid (I64 l) ∧ Hid (I64 p) ∧ Hid (I64 q) ∧ Hid (Two wr b p q) ∧ Hid (Below W.heap.size W wr)) (fun _ k _ => 3 - (intOf k).toNat)
  case atStart => exact ⟨l0, o0, o1, 0, rfl, rfl, by omega, Lib.hid wl, Lib.hid w0, Lib.hid w1, H0, HB0⟩
  case round =>
    clear H0 HB0 wl w0 w1
    obtain ⟨l, p, q, j, rfl, rfl, hj, hl, hp, hq, ht, hd⟩ := hrel
    have c0 := ht.out.c0
    have c1 := ht.out.c1
    by_cases hlt : j < 3
    · by_cases hlim : 1 ≤ l ∧ l ≤ 2000
      · obtain ⟨lim, rfl⟩ : ∃ m : Nat, l = m := ⟨l.toNat, by omega⟩
        have m1 : 1 ≤ lim := by omega
        have m2 : lim ≤ 2000 := by omega
        have q1 : decide ((lim : Int) < 1) = false := decide_eq_false (by omega)
        have q2 : decide (2000 < (lim : Int)) = false := decide_eq_false (by omega)
        have PO := Lib.hid (fun X => Period_ok t ds lim X HDS.out m1 m2)
        have IZ := Lib.hid (fun X => IsPeriod_z t ds lim p q X HDS.out m1 m2)
        clear hlim
        go_wp2_with fail
        refine (PO.out wr).mono ?_
        rintro e w2 ⟨pre, per, bb, rfl, hf, hb2⟩
        have HF := Lib.hid hf
        have B2 := Lib.hid (hd.out.trans (hb2.mono hd.out.size))
        have T2 := Lib.hid (ht.out.under hb2)
        have c0' := T2.out.c0
        have c1' := T2.out.c1
        have z1 := T2.out.fz (i := 0)
        have z2 := T2.out.fz (i := 1)
        clear hb2 hf PO hd ht c0 c1
        go_wp2_with fail
        refine (IZ.out w2).mono ?_
        rintro e w3 ⟨b1, rfl, hi1, hb3⟩
        have HI1 := Lib.hid hi1
        have B3 := Lib.hid (B2.out.trans (hb3.mono B2.out.size))
        have T3 := Lib.hid (T2.out.under hb3)
        have d0 := T3.out.c0
        have d1 := T3.out.c1
        have z3 := T3.out.fz (i := 0)
        have z4 := T3.out.fz (i := 1)
        clear hb3 hi1 IZ T2 B2 c0' c1' z1 z2
        by_cases h3 : lim ≤ 300
        · have RPz := Lib.hid (fun X => RPeriod_z t ds lim X HDS.out m2)
          have RIz := Lib.hid (fun X => RIsPeriod_z t ds lim p q X HDS.out m1 m2 hp.out hq.out)
          go_wp2_with fail
          refine (RPz.out w3).mono ?_
          rintro e w4 ⟨pre', per', bb', rfl, hf, hb4⟩
          obtain ⟨rfl, rfl, rfl⟩ := FP.one HF.out hf
          have B4 := Lib.hid (B3.out.trans (hb4.mono B3.out.size))
          have T4 := Lib.hid (T3.out.under hb4)
          have c0' := T4.out.c0
          have c1' := T4.out.c1
          clear hb4 hf RPz T3 B3 d0 d1 z3 z4
          go_wp2_with fail
          refine (RIz.out w4).mono ?_
          rintro e w5 ⟨b2, rfl, hi2, hb5⟩
          obtain rfl : b1 = b2 := by rw [Bool.eq_iff_iff, HI1.out, hi2]
          have B5 := Lib.hid (B4.out.trans (hb5.mono B4.out.size))
          have T5 := Lib.hid (T4.out.under hb5)
          have e0 := T5.out.c0
          have e1 := T5.out.c1
          have z5 := T5.out.fz (i := 0)
          have z6 := T5.out.fz (i := 1)
          clear hb5 hi2 RIz T4 B4 c0' c1' HI1 HF
          go_wp2_with fail
          go_roundw
          case rel => exact ⟨_, _, _, j + 1, rfl, by go_num, by omega, Lib.hid (by unfold I64; first | exact w64_fits _ | exact i64_fits _ | omega), Lib.hid (by unfold I64; first | exact w64_fits _ | exact i64_fits _ | omega), Lib.hid (by unfold I64; first | exact w64_fits _ | exact i64_fits _ | omega), Lib.hid (T5.out.set _ _), Lib.hid ((B5.out.setCell (by have := HBE.out; simp; omega) _).setCell (by have := HBE.out; simp; omega) _)⟩
          case measure => simp [intOf]; omega
        · cases bb with
          | false =>
            clear HF HI1
            go_wp2_with fail
            go_roundw
            case rel => exact ⟨_, _, _, j + 1, rfl, by go_num, by omega, Lib.hid (by unfold I64; first | exact w64_fits _ | exact i64_fits _ | omega), Lib.hid (by unfold I64; first | exact w64_fits _ | exact i64_fits _ | omega), Lib.hid (by unfold I64; first | exact w64_fits _ | exact i64_fits _ | omega), Lib.hid (T3.out.set _ _), Lib.hid ((B3.out.setCell (by have := HBE.out; simp; omega) _).setCell (by have := HBE.out; simp; omega) _)⟩
            case measure => simp [intOf]; omega
          | true =>
            obtain ⟨k1, k2, k3, -⟩ := HF.out.1 rfl
            have RIz := Lib.hid (fun X => RIsPeriod_in t ds lim pre per X (fun X => RValues_any t ds lim X HDS.out m2) (code_size HDS.out) (codeOf_len HDS.out).2.1 m2 k1 k2)
            have HA := Lib.hid k3
            clear k1 k2 k3 HF HI1
            go_wp2_with fail
            refine (RIz.out w3).mono ?_
            rintro e w5 ⟨b2, rfl, hi2, hb5⟩
            obtain rfl := hi2.2 HA.out
            have B5 := Lib.hid (B3.out.trans (hb5.mono B3.out.size))
            have T5 := Lib.hid (T3.out.under hb5)
            have e0 := T5.out.c0
            have e1 := T5.out.c1
            have z5 := T5.out.fz (i := 0)
            have z6 := T5.out.fz (i := 1)
            clear hb5 hi2 RIz T3 B3 d0 d1 z3 z4 HA
            go_wp2_with fail
            go_roundw
            case rel => exact ⟨_, _, _, j + 1, rfl, by go_num, by omega, Lib.hid (by unfold I64; first | exact w64_fits _ | exact i64_fits _ | omega), Lib.hid (by unfold I64; first | exact w64_fits _ | exact i64_fits _ | omega), Lib.hid (by unfold I64; first | exact w64_fits _ | exact i64_fits _ | omega), Lib.hid (T5.out.set _ _), Lib.hid ((B5.out.setCell (by have := HBE.out; simp; omega) _).setCell (by have := HBE.out; simp; omega) _)⟩
            case measure => simp [intOf]; omega
      · have PA := Lib.hid (fun X => Period_arg t ds l X HDS.out hlim)
        have IA := Lib.hid (fun X => IsPeriod_arg t ds l p q X HDS.out hlim)
        go_wp2_with fail
        refine (PA.out wr).mono ?_
        rintro e w2 ⟨rfl, hb2⟩
        have B2 := Lib.hid (hd.out.trans (hb2.mono hd.out.size))
        have T2 := Lib.hid (ht.out.under hb2)
        have c0' := T2.out.c0
        have c1' := T2.out.c1
        clear hb2 PA hd ht c0 c1
        have z1 := T2.out.fz (i := 0)
        have z2 := T2.out.fz (i := 1)
        go_wp2_with fail
        refine (IA.out w2).mono ?_
        rintro e w3 ⟨rfl, hb3⟩
        have B3 := Lib.hid (B2.out.trans (hb3.mono B2.out.size))
        have T3 := Lib.hid (T2.out.under hb3)
        have d0 := T3.out.c0
        have d1 := T3.out.c1
        have z3 := T3.out.fz (i := 0)
        have z4 := T3.out.fz (i := 1)
        clear hb3 IA T2 B2 c0' c1' z1 z2
        by_cases hlow : l < 1
        · skip
          go_wp2_with fail
          go_roundw
          case rel => exact ⟨_, _, _, j + 1, rfl, by go_num, by omega, Lib.hid (by unfold I64; first | exact w64_fits _ | exact i64_fits _ | omega), Lib.hid (by unfold I64; first | exact w64_fits _ | exact i64_fits _ | omega), Lib.hid (by unfold I64; first | exact w64_fits _ | exact i64_fits _ | omega), Lib.hid (T3.out.set _ _), Lib.hid ((B3.out.setCell (by have := HBE.out; simp; omega) _).setCell (by have := HBE.out; simp; omega) _)⟩
          case measure => simp [intOf]; omega
        · have hlow' : decide (l < 1) = false := decide_eq_false hlow
          have hhi : decide (2000 < l) = true := decide_eq_true (by omega)
          go_wp2_with fail
          go_roundw
          case rel => exact ⟨_, _, _, j + 1, rfl, by go_num, by omega, Lib.hid (by unfold I64; first | exact w64_fits _ | exact i64_fits _ | omega), Lib.hid (by unfold I64; first | exact w64_fits _ | exact i64_fits _ | omega), Lib.hid (by unfold I64; first | exact w64_fits _ | exact i64_fits _ | omega), Lib.hid (T3.out.set _ _), Lib.hid ((B3.out.setCell (by have := HBE.out; simp; omega) _).setCell (by have := HBE.out; simp; omega) _)⟩
          case measure => simp [intOf]; omega
    · go_wp2_with fail
      refine (AW.out wr).mono ?_
      rintro e w5 ⟨rfl, hb5⟩
      have B5 := Lib.hid (hd.out.trans (hb5.mono hd.out.size))
      clear hb5
      go_wp2_with fail
      go_ret
      exact ⟨rfl, B5.out⟩
end Go.Proofs.Ytodnfchkkgoabaa
