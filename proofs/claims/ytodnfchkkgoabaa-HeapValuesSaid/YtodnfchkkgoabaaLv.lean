/- WALK of HeapValues. -/
import Derived.Test.YtodnfchkkgoabaaRk
import Derived.Test.YtodnfchkkgoabaaGw
import Derived.Test.YtodnfchkkgoabaaPg
import Derived.Test.YtodnfchkkgoabaaCd
import Derived.Test.YtodnfchkkgoabaaAw
import Derived.Test.YtodnfchkkgoabaaLb
import Derived.Deep.CutBlock
set_option linter.unusedVariables false
namespace Go.Proofs.Ytodnfchkkgoabaa
open Go.RowKit

theorem ni_of_own {w : World} {base : Nat} {v : Value} {L : List Int} {n : Nat} (h : w.ownsRow base 3 1 v n (L.map (Value.int .i64))) (hn : n = L.length) : ∃ q c, v = .slice q L.length c ∧ NI w q L := by
  subst hn
  rcases h.2 with ⟨h1, h2⟩ | ⟨g, cap, cur, h1, _, hg, _, _, _, ht⟩
  · exact ⟨none, 0, by rw [h1, h2], fun i hi => by omega⟩
  · refine ⟨_, _, h1, fun i hi => ⟨g, rfl, ?_⟩⟩
    have hj : cur.toList[i]? = some (.int .i64 (L.getD i 0)) := by
      have h5 : (L.map (Value.int .i64))[i]? = some (.int .i64 (L.getD i 0)) := by
        rw [List.getElem?_map, List.getElem?_eq_getElem hi]; simp [List.getD_eq_getElem?_getD, hi]
      rw [← ht, List.getElem?_take] at h5
      split at h5
      · exact h5
      · cases h5
    have hj2 : cur[i]? = some (.int .i64 (L.getD i 0)) := by rw [← hj]; simp
    simp [World.cell?, hg, hj2]

theorem NI.under {W X : World} {p : Option Addr} {L : List Int} (h : NI W p L) (hb : Below W.heap.size W X) : NI X p L := by
  intro i hi
  obtain ⟨g, e, hc⟩ := h i hi
  exact ⟨g, e, cellOf2 hb hc (cell_lt2 hc)⟩

set_option maxRecDepth 100000 in
set_option maxHeartbeats 4000000 in
theorem HeapValues_any (s : ByteArray) (m0 : Int) (L : List Int) (p : Option Addr) (cap : Nat) (W : World) (wm : -9223372036854775808 ≤ m0 ∧ m0 ≤ 9223372036854775807) (hL : NA W p L) (hlc : L.length ≤ cap) (hcap : cap ≤ 9223372036854775807) (hnil : p = none → cap = 0) :
    Calls Try.prog 3 #[.string s, .int .i64 m0, .slice p L.length cap] W fun e w' => e = .returned (.bool true) ∧ Below W.heap.size W w' := by
  have AW := Lib.hid awake_any
  have C := Lib.hid (fun X => code_any s X)
  obtain ⟨i1, hj, hy0, hy1, hy2⟩ := info_parts infoInt
  have hap : ∀ w : World, (Builtin.append_ #[22, 22] 22 #[.slice none 0 0, .slice none 0 0]).run Try.prog w = .ok (.slice none 0 0) w := fun w => by
    simp [Builtin.append_, run_underlying Try.underlying22, sizeOf, typeInfo, hj, Builtin.lenOf, Builtin.firstCells, loadCells, loadCellsFrom]
  obtain ⟨ln, hln⟩ : ∃ m, L.length = m := ⟨_, rfl⟩
  have HL := Lib.hid hL
  have HLN := Lib.hid hln
  rw [hln] at hlc ⊢
  clear hL hln
  go_enter Try.func3, Try.ntmps3
  go_upto_region 2 with fail
  go_cut [7] from 20 to 26 (fun x wx => ∃ (q : Option Addr) (c : Nat) (Lo : List Int), x = .slice q Lo.length c ∧ Lo.length ≤ 40 ∧ Hid (NI wx q Lo) ∧ Hid (Below W.heap.size W wx))
  case first =>
    cases p with
    | none =>
      obtain rfl : cap = 0 := hnil rfl
      obtain rfl : ln = 0 := by omega
      have hmin : (min 0 40 : Int) = 0 := rfl
      go_wp2_with fail
      go_meet
      case rel => exact ⟨none, 0, [], rfl, by simp, Lib.hid (fun i hi => absurd hi (by simp)), Lib.hid (Below.refl _ _)⟩
    | some ad =>
      obtain ⟨k, hk⟩ : ∃ k, min ln 40 = k := ⟨_, rfl⟩
      have hmin : min (ln : Int) 40 = (k : Int) := by omega
      have hkl : k ≤ ln := by omega
      have hk40 : k ≤ 40 := by omega
      have hlk : ((L.take k).map (Value.int .i64)).length = k * 1 := by
        rw [List.length_map, List.length_take, HLN.out]; omega
      have hnews : ∀ j u, ((L.take k).map (Value.int .i64))[j]? = some u → W.cell? (ad.add j) = some u := fun j u hu => by
        have hj : j < ((L.take k).map (Value.int .i64)).length := (List.getElem?_eq_some_iff.1 hu).1
        obtain ⟨a', e, hc⟩ := HL.out j (by have := HLN.out; omega)
        cases e
        rw [hc, ← hu, List.getElem?_map, List.getElem?_take, if_pos (by omega), List.getElem?_eq_getElem (by have := HLN.out; omega)]
        simp [List.getD_eq_getElem?_getD, List.getElem?_eq_getElem (show j < L.length by have := HLN.out; omega)]
      have HNW := Lib.hid hnews
      have HLK := Lib.hid hlk
      clear hk hnews hlk
      go_wp2_with (at_builtin; refine wpList_append_own_at _ rfl _ _ 22 rfl W.heap.size 3 i1 (.int .i64 0) 1 8 Try.underlying22 hj hy0 hy1 hy2 rfl (by decide) (.slice none 0 0) 0 [] rfl (World.ownsRow_nil W W.heap.size 3 1) ad k cap ((L.take k).map (Value.int .i64)) rfl HLK.out HNW.out (ints_oneCell .i64 _) (by unfold maxLen; omega) (by omega) (by omega) ?_; intro v' w4 hw1 hw2 _ hw3)
      go_meet
      case rel =>
        rw [List.nil_append, Nat.zero_add] at hw1
        obtain ⟨q, c, e, hni⟩ := ni_of_own hw1 (by rw [List.length_take, HLN.out]; omega)
        exact ⟨q, c, L.take k, e, by rw [List.length_take, HLN.out]; omega, Lib.hid hni, Lib.hid ⟨hw2.os, hw2.tape, hw2.output, hw2.size, fun b hb => hw2.block b hb (by simp [Value.ownBlock])⟩⟩
  case rest =>
    obtain ⟨q, c, Lo, rfl, hlo, hni, hbc⟩ := hcut
    have HM := Lib.hid (HMissing_any Lo q c wc hni.out (by omega))
    obtain ⟨lo, hlo2⟩ : ∃ m, Lo.length = m := ⟨_, rfl⟩
    have MI2 := Lib.hid (fun X (hX : Below wc.heap.size wc X) => Missing_any Lo q c X (hni.out.under hX) (by omega))
    rw [hlo2] at HM MI2 hlo ⊢
    clear hni hlo2
    go_wp2_with fail
    refine HM.out.mono ?_
    rintro e w1 ⟨⟨n1, rfl, a1, a2⟩, hbb⟩
    have MI3 := Lib.hid (MI2.out w1 hbb)
    have HB1 := Lib.hid (hbc.out.trans (hbb.mono hbc.out.size))
    have HA := Lib.hid (And.intro a1 a2)
    clear hbb a1 a2 HM MI2 hbc
    go_wp2_with fail
    refine MI3.out.mono ?_
    rintro e w2 ⟨⟨n2, rfl, b1, b2⟩, rfl⟩
    obtain rfl := miss_one HA.out.1 HA.out.2 b1 b2
    clear b1 b2 HA MI3
    go_wp2_with fail
    go_loopw [1, 8, 9] (fun x y z wr => ∃ (most : Int) (cs : ByteArray) (k : Nat), x = .int .i64 most ∧ y = .string cs ∧ z = .int .i64 k ∧ k ≤ 2 ∧ Hid (-9223372036854775808 ≤ most ∧ most ≤ 9223372036854775807) ∧ Hid (Below W.heap.size W wr)) (fun _ _ z _ => 2 - (intOf z).toNat)
    case atStart => exact ⟨_, _, 0, rfl, rfl, rfl, by omega, Lib.hid wm, HB1⟩
    case round =>
      clear HB1 wm
      obtain ⟨most, cs, k, rfl, rfl, rfl, hk, hm, hb⟩ := hrel
      by_cases hlt : k < 2
      · cases hcode : codeOf cs with
        | none =>
          have RC := Lib.hid (fun X => RCheck_none cs X hcode)
          have CK := Lib.hid (fun X => Check_none cs X hcode)
          have VN := Lib.hid (fun X => Values_none cs most X hcode)
          have PN := Lib.hid (fun X => Period_none cs 100 X hcode)
          have MN := Lib.hid (fun X v => Moves_none cs v X hcode)
          have IN := Lib.hid (fun X => IsPeriod_none cs 100 0 1 X hcode)
          clear hcode
          go_wp2_with fail
          refine (RC.out wr).mono ?_
          rintro e w1 ⟨rfl, hbb⟩
          have B1 := Lib.hid (hb.out.trans (hbb.mono hb.out.size))
          clear hbb 
          go_wp2_with fail
          refine (CK.out w1).mono ?_
          rintro e w2 ⟨rfl, hbb⟩
          have B2 := Lib.hid (B1.out.trans (hbb.mono B1.out.size))
          clear hbb B1 CK
          go_wp2_with fail
          refine (VN.out w2).mono ?_
          rintro e w3 ⟨rfl, hbb⟩
          have B3 := Lib.hid (B2.out.trans (hbb.mono B2.out.size))
          clear hbb B2 VN
          go_wp2_with fail
          refine (RC.out w3).mono ?_
          rintro e w4 ⟨rfl, hbb⟩
          have B4 := Lib.hid (B3.out.trans (hbb.mono B3.out.size))
          clear hbb B3 RC
          go_wp2_with fail
          refine (PN.out w4).mono ?_
          rintro e w5 ⟨rfl, hbb⟩
          have B5 := Lib.hid (B4.out.trans (hbb.mono B4.out.size))
          clear hbb B4 PN
          go_wp2_with fail
          obtain ⟨wa, hwa⟩ : ∃ wa, w5.alloc (.cells #[.int .i64 1] 3) = wa := ⟨_, rfl⟩
          have BA : Hid (Below W.heap.size W wa) := Lib.hid (by rw [← hwa]; exact B5.out.alloc B5.out.size _)
          simp only [hwa]
          refine (MN.out _ _).mono ?_
          rintro e w6 ⟨rfl, hbb⟩
          have B6 := Lib.hid (BA.out.trans (hbb.mono BA.out.size))
          clear hbb B5 BA MN hwa
          go_wp2_with fail
          refine (IN.out w6).mono ?_
          rintro e w7 ⟨rfl, hbb⟩
          have B7 := Lib.hid (B6.out.trans (hbb.mono B6.out.size))
          clear hbb B6 IN
          go_wp2_with fail
          refine (C.out w7).mono ?_
          rintro e wz ⟨t, ds', rfl, -, hbb⟩
          have BZ := Lib.hid (B7.out.trans (hbb.mono B7.out.size))
          clear hbb
          go_wp2_with fail
          go_roundw
          case rel => exact ⟨_, _, k + 1, rfl, rfl, by go_num, by omega, Lib.hid (by first | exact w64_fits _ | exact i64_fits _ | omega), BZ⟩
          case measure => simp [intOf]; omega
        | some ds =>
          by_cases hin : 0 ≤ most ∧ most ≤ 2000
          · obtain ⟨mo, rfl⟩ : ∃ m : Nat, most = m := ⟨most.toNat, by omega⟩
            have hmo : mo ≤ 2000 := by omega
            have RC := Lib.hid (fun X => RCheck_some cs ds X hcode)
            have CK := Lib.hid (fun X => Check_some cs ds X hcode)
            have VO := Lib.hid (fun X => Values_ok cs ds mo X hcode hmo)
            have RV := Lib.hid (fun X => RValues_any cs ds mo X hcode hmo)
            have HVL := Lib.hid (vals_len ds (mo + 1))
            clear hcode hin
            by_cases h300 : mo ≤ 300
            · go_wp2_with fail
              refine (RC.out wr).mono ?_
              rintro e w1 ⟨rfl, hbb⟩
              have B1 := Lib.hid (hb.out.trans (hbb.mono hb.out.size))
              clear hbb 
              go_wp2_with fail
              refine (CK.out w1).mono ?_
              rintro e w2 ⟨rfl, hbb⟩
              have B2 := Lib.hid (B1.out.trans (hbb.mono B1.out.size))
              clear hbb B1 CK
              go_wp2_with fail
              refine (VO.out w2).mono ?_
              rintro e w3 ⟨vv, rfl, hov, hbb⟩
              obtain ⟨gv, cv, rfl, hnv⟩ := own_some hov (by rw [HVL.out]; omega)
              have B3 := Lib.hid (B2.out.trans (hbb.mono B2.out.size))
              have HNV := Lib.hid hnv
              rw [HVL.out]
              clear hbb hov hnv B2 VO
              go_wp2_with fail
              refine (RV.out w3).mono ?_
              rintro e w4 ⟨vv, rfl, hov, hbb⟩
              obtain ⟨gu, cu, rfl, hnu⟩ := own_some hov (by rw [HVL.out]; omega)
              have B4 := Lib.hid (B3.out.trans (hbb.mono B3.out.size))
              have SM := Lib.hid (same_any (vals ds (mo + 1)) _ _ cv cu w4 (HNV.out.under hbb) hnu (by rw [HVL.out]; omega))
              rw [HVL.out] at SM ⊢
              clear hbb hov hnu B3 RV
              go_wp2_with fail
              refine SM.out.mono ?_
              rintro e w5 ⟨rfl, hbb⟩
              have B5 := Lib.hid (B4.out.trans (hbb.mono B4.out.size))
              clear hbb B4 SM
              go_wp2_with fail
              refine (RC.out w5).mono ?_
              rintro e w6 ⟨rfl, hbb⟩
              have B6 := Lib.hid (B5.out.trans (hbb.mono B5.out.size))
              clear hbb B5 RC
              go_wp2_with fail
              refine (C.out w6).mono ?_
              rintro e wz ⟨t, ds', rfl, -, hbb⟩
              have BZ := Lib.hid (B6.out.trans (hbb.mono B6.out.size))
              clear hbb
              go_wp2_with fail
              go_roundw
              case rel => exact ⟨_, _, k + 1, rfl, rfl, by go_num, by omega, Lib.hid (by first | exact w64_fits _ | exact i64_fits _ | omega), BZ⟩
              case measure => simp [intOf]; omega
            · have q3 : decide ((mo : Int) ≤ 300) = false := decide_eq_false (by omega)
              go_wp2_with fail
              refine (RC.out wr).mono ?_
              rintro e w1 ⟨rfl, hbb⟩
              have B1 := Lib.hid (hb.out.trans (hbb.mono hb.out.size))
              clear hbb 
              go_wp2_with fail
              refine (CK.out w1).mono ?_
              rintro e w2 ⟨rfl, hbb⟩
              have B2 := Lib.hid (B1.out.trans (hbb.mono B1.out.size))
              clear hbb B1 CK
              go_wp2_with fail
              refine (VO.out w2).mono ?_
              rintro e w3 ⟨vv, rfl, hov, hbb⟩
              obtain ⟨gv, cv, rfl, hnv⟩ := own_some hov (by rw [HVL.out]; omega)
              have B3 := Lib.hid (B2.out.trans (hbb.mono B2.out.size))
              rw [HVL.out]
              clear hbb hov hnv B2 VO
              go_wp2_with fail
              refine (RC.out w3).mono ?_
              rintro e w4 ⟨rfl, hbb⟩
              have B4 := Lib.hid (B3.out.trans (hbb.mono B3.out.size))
              clear hbb B3 RC
              go_wp2_with fail
              refine (C.out w4).mono ?_
              rintro e wz ⟨t, ds', rfl, -, hbb⟩
              have BZ := Lib.hid (B4.out.trans (hbb.mono B4.out.size))
              clear hbb
              go_wp2_with fail
              go_roundw
              case rel => exact ⟨_, _, k + 1, rfl, rfl, by go_num, by omega, Lib.hid (by first | exact w64_fits _ | exact i64_fits _ | omega), BZ⟩
              case measure => simp [intOf]; omega
          · have RC := Lib.hid (fun X => RCheck_some cs ds X hcode)
            have CK := Lib.hid (fun X => Check_some cs ds X hcode)
            have VN := Lib.hid (fun X => Values_arg cs ds most X hcode hin)
            clear hcode
            by_cases hneg : most < 0
            · go_wp2_with fail
              refine (RC.out wr).mono ?_
              rintro e w1 ⟨rfl, hbb⟩
              have B1 := Lib.hid (hb.out.trans (hbb.mono hb.out.size))
              clear hbb 
              go_wp2_with fail
              refine (CK.out w1).mono ?_
              rintro e w2 ⟨rfl, hbb⟩
              have B2 := Lib.hid (B1.out.trans (hbb.mono B1.out.size))
              clear hbb B1 CK
              go_wp2_with fail
              refine (VN.out w2).mono ?_
              rintro e w3 ⟨rfl, hbb⟩
              have B3 := Lib.hid (B2.out.trans (hbb.mono B2.out.size))
              clear hbb B2 VN
              go_wp2_with fail
              refine (RC.out w3).mono ?_
              rintro e w4 ⟨rfl, hbb⟩
              have B4 := Lib.hid (B3.out.trans (hbb.mono B3.out.size))
              clear hbb B3 RC
              go_wp2_with fail
              refine (C.out w4).mono ?_
              rintro e wz ⟨t, ds', rfl, -, hbb⟩
              have BZ := Lib.hid (B4.out.trans (hbb.mono B4.out.size))
              clear hbb
              go_wp2_with fail
              go_roundw
              case rel => exact ⟨_, _, k + 1, rfl, rfl, by go_num, by omega, Lib.hid (by first | exact w64_fits _ | exact i64_fits _ | omega), BZ⟩
              case measure => simp [intOf]; omega
            · have hbig : 2000 < most := by omega
              have qn : decide (most < 0) = false := decide_eq_false hneg
              have qb : decide (2000 < most) = true := decide_eq_true hbig
              go_wp2_with fail
              refine (RC.out wr).mono ?_
              rintro e w1 ⟨rfl, hbb⟩
              have B1 := Lib.hid (hb.out.trans (hbb.mono hb.out.size))
              clear hbb 
              go_wp2_with fail
              refine (CK.out w1).mono ?_
              rintro e w2 ⟨rfl, hbb⟩
              have B2 := Lib.hid (B1.out.trans (hbb.mono B1.out.size))
              clear hbb B1 CK
              go_wp2_with fail
              refine (VN.out w2).mono ?_
              rintro e w3 ⟨rfl, hbb⟩
              have B3 := Lib.hid (B2.out.trans (hbb.mono B2.out.size))
              clear hbb B2 VN
              go_wp2_with fail
              refine (RC.out w3).mono ?_
              rintro e w4 ⟨rfl, hbb⟩
              have B4 := Lib.hid (B3.out.trans (hbb.mono B3.out.size))
              clear hbb B3 RC
              go_wp2_with fail
              refine (C.out w4).mono ?_
              rintro e wz ⟨t, ds', rfl, -, hbb⟩
              have BZ := Lib.hid (B4.out.trans (hbb.mono B4.out.size))
              clear hbb
              go_wp2_with fail
              go_roundw
              case rel => exact ⟨_, _, k + 1, rfl, rfl, by go_num, by omega, Lib.hid (by first | exact w64_fits _ | exact i64_fits _ | omega), BZ⟩
              case measure => simp [intOf]; omega
      · go_wp2_with fail
        refine (AW.out wr).mono ?_
        rintro e w5 ⟨rfl, hb5⟩
        have B5 := Lib.hid (hb.out.trans (hb5.mono hb.out.size))
        clear hb5
        go_wp2_with fail
        go_ret
        exact ⟨rfl, B5.out⟩
end Go.Proofs.Ytodnfchkkgoabaa
