/- WALK of the law HeapWins, but for what winning gives. -/
import Derived.Test.YtodnfchkkgoabaaHWn
import Derived.Test.YtodnfchkkgoabaaHMo
import Derived.Test.YtodnfchkkgoabaaHFbFcAw
import Derived.Test.YtodnfchkkgoabaaHCd
import Derived.Test.YtodnfchkkgoabaaHLg
import Derived.Test.YtodnfchkkgoabaaHGw
set_option linter.unusedVariables false
namespace Go.Proofs.Ytodnfchkkgoabaa
open Go.RowKit

theorem tm31 (u : Int) (h : 0 ≤ u) : 0 ≤ u.tmod 31 ∧ u.tmod 31 < 31 := ⟨Int.tmod_nonneg _ h, Int.tmod_lt_of_pos _ (by decide)⟩
theorem nat31 (E : Int) (h0 : 0 ≤ E ∧ E < 31) : ∃ p : Nat, Value.int .i64 E = .int .i64 (p : Int) ∧ p ≤ 30 := ⟨E.toNat, by rw [Int.toNat_of_nonneg (by omega)], by omega⟩
theorem nat31a (a : Int) : ∃ p : Nat, Value.int .i64 (IntKind.i64.wrap ((IntKind.u64.wrap a).tmod 31)) = .int .i64 (p : Int) ∧ p ≤ 30 := by
  have := tm31 _ (u64_pos2 a)
  apply nat31
  rw [IntKind.wrap_i64]; omega
theorem nat31b (a : Int) : ∃ p : Nat, Value.int .i64 (wrap64 ((IntKind.u64.wrap a).tmod 31)) = .int .i64 (p : Int) ∧ p ≤ 30 := by
  have := tm31 _ (u64_pos2 a)
  apply nat31
  unfold wrap64; omega
theorem nat31c (a : Int) : ∃ p : Nat, Value.int .i64 ((IntKind.u64.wrap a).tmod 31) = .int .i64 (p : Int) ∧ p ≤ 30 := by
  have := tm31 _ (u64_pos2 a)
  exact nat31 _ this

theorem gx_ints_snoc (ds H : List Nat) (x : Nat) : gx ds (ints (H ++ [x])) = gx ds (ints H) ^^^ gv ds x := by
  have h : ints (H ++ [x]) = ints H ++ [(x : Int)] := by unfold ints; rw [List.map_append]; rfl
  rw [h, gx_snoc, Int.toNat_natCast]

theorem mvl_len2 (ds H : List Nat) (i : Nat) (p : List Int) (h : p ∈ mvl ds H i) : p.length ≤ H.length + 2 := by
  unfold mvl at h
  obtain ⟨j, _, hj⟩ := List.mem_flatMap.1 h
  obtain ⟨R, hR, rfl⟩ := List.mem_map.1 (List.mem_filter.1 hj).1
  obtain ⟨x, _, rfl⟩ := List.mem_map.1 hR
  unfold posOf
  have h1 := ord_len (oth H j H.length ++ ints (rowOf x))
  have h2 := oth_len H j H.length
  rw [List.length_append] at h1
  have h3 : (ints (rowOf x)).length = (rowOf x).length := by unfold ints; rw [List.length_map]
  have := row_len x
  omega

set_option maxRecDepth 100000 in
set_option maxHeartbeats 8000000 in
theorem HeapWins_any (WIN : WinC) (s : ByteArray) (L : List Int) (p : Option Addr) (cap : Nat) (W : World) (hL : NA W p L) (hlc : L.length ≤ cap) (hcap : cap ≤ 9223372036854775807) :
    Calls Try.prog 9 #[.string s, .slice p L.length cap] W fun e w' => e = .returned (.bool true) ∧ Below W.heap.size W w' := by
  have AW := Lib.hid awake_any
  have C := Lib.hid (code_any s W)
  obtain ⟨i1, hj, hy0, hy1, hy2⟩ := info_parts infoInt
  have MG := Lib.hid (fun t ds H c ph w h hN hc hl hb => Moves_good WIN t ds H c ph w h hN hc hl hb)
  obtain ⟨ln, hln⟩ : ∃ m, L.length = m := ⟨_, rfl⟩
  have HL := Lib.hid hL
  have HLN := Lib.hid hln
  rw [hln] at hlc ⊢
  clear hL hln WIN
  go_enter Try.func9, Try.ntmps9
  go_wp2_with fail
  refine C.out.mono ?_
  rintro e w1 ⟨t, ds, rfl, hds, hb1⟩
  have B1 := Lib.hid hb1
  have HDS := Lib.hid hds
  have VL := Lib.hid (Values_ok t ds 30 w1 hds (by omega))
  clear hb1 hds C
  go_wp2_with fail
  refine VL.out.mono ?_
  rintro e U ⟨v, rfl, ho, hbU⟩
  have hlen := vals_len ds (30 + 1)
  obtain ⟨g0, c0, rfl, hns⟩ := own_some ho (by rw [hlen]; omega)
  rw [hlen]
  have HV := Lib.hid hns
  have BU := Lib.hid (B1.out.trans (hbU.mono B1.out.size))
  have HLU := Lib.hid (HL.out.under BU.out)
  clear hbU ho hns hlen VL B1 HL
  go_wp2_with fail
  go_loopw [8, 9, 10] (fun x y z wr => ∃ (q : Nat) (v : Value) (H : List Nat), x = .int .i64 q ∧ v = y ∧ z = .int .i64 H.length ∧ H.length ≤ 5 ∧ q < 256 ∧ Hid (q = gx ds (ints H)) ∧ Hid (∀ h ∈ H, h ≤ 30) ∧ Hid (OwnN wr U.heap.size v H) ∧ Hid (Below U.heap.size U wr)) (fun _ _ z _ => 5 - (intOf z).toNat)
  case atStart => exact ⟨0, _, [], rfl, rfl, rfl, by simp, by omega, Lib.hid rfl, Lib.hid (by simp), Lib.hid (OwnN.nil _ _), Lib.hid (Below.refl _ _)⟩
  case round =>
    obtain ⟨q, v, H, rfl, hv, rfl, h5, hq8, hq, hH, ho, hb⟩ := hrel
    subst hv
    obtain ⟨wi, rfl⟩ : ∃ w, w = wr := ⟨_, rfl⟩
    obtain ⟨i, hi⟩ : ∃ i, H.length = i := ⟨_, rfl⟩
    have HI := Lib.hid hi
    rw [hi] at h5 ⊢
    clear hi
    by_cases hlt : i < ln ∧ i < 5
    · obtain ⟨hl1, hl2⟩ := hlt
      obtain ⟨a', e, hc⟩ := (HLU.out.under hb.out) i (by have := HLN.out; omega)
      subst e
      have bi : (i : Int) < (ln : Int) := by omega
      generalize L.getD i 0 = x at *
      go_upto_region 10 with fail
      go_cut [11] from 41 to 47 (fun x wx => (∃ h : Nat, x = .int .i64 h ∧ h ≤ 30) ∧ wi = wx)
      case first =>
        go_wp2_with fail
        go_meet
        case rel => exact ⟨by first | exact nat31a _ | exact nat31b _ | exact nat31c _, rfl⟩
      case rest =>
        obtain ⟨⟨h, rfl, h30⟩, rfl⟩ := hcut
        clear hc
        have HH2 : Hid (∀ y ∈ H ++ [h], y ≤ 30) := Lib.hid (fun y hy => by
          rcases List.mem_append.1 hy with e | e
          · exact hH.out y e
          · simp at e; omega)
        have HQ2 : Hid (q ^^^ gv ds h = gx ds (ints (H ++ [h]))) := Lib.hid (by rw [gx_ints_snoc, hq.out])
        have hg30 : gv ds h ≤ h := vals_le ds (h + 1) h
        have hg8 : gv ds h < 256 := by omega
        have X1 := xor_nat q (gv ds h) (by omega) (by omega)
        have hx8 : q ^^^ gv ds h < 256 := Nat.xor_lt_two_pow (n := 8) hq8 hg8
        have HC : Hid (∀ X, Below U.heap.size U X → X.cell? ⟨g0, h, none⟩ = some (.int .i64 (gv ds h : Nat))) := Lib.hid (fun X hX => by
          obtain ⟨g3, e3, cV⟩ := (HV.out.under hX) h (by rw [vals_len]; omega)
          cases e3
          rw [cV, vals_getD ds (30 + 1) h (by omega)])
        generalize gv ds h = y at *
        obtain ⟨zz, hzz⟩ : ∃ zz, q ^^^ y = zz := ⟨_, rfl⟩
        rw [hzz] at HQ2 X1 hx8
        have HO := Lib.hid ho.out
        have bh : (h : Int) < 31 := by omega
        clear hzz hq hH ho hg30 hg8
        go_wp2_with (at_builtin; refine wpList_append_own_at _ rfl _ _ 22 rfl U.heap.size 3 i1 (.int .i64 0) 1 8 Try.underlying22 hj hy0 hy1 hy2 rfl (by decide) v i (H.map nv) rfl (by have := HO.out; unfold OwnN at this; rw [HI.out] at this; exact this.alloc _) ⟨wi.heap.size, 0, none⟩ 1 1 [nv h] rfl rfl (cell_one_new _ _ _) (fun y hy => by simp at hy; subst hy; rfl) (by unfold maxLen; omega) (by omega) (by have := hb.out.size; simp; omega) ?_; intro v' w4 hw1 hw2 _ hw3; have P := pushed (L := H) (x := h) (by rw [HI.out]; exact hw1) hw2 hw3; have HP := Lib.hid P.own; have HB4 : Hid (Below U.heap.size U w4) := Lib.hid (hb.out.trans (P.below (fun b hb9 => (HO.out.block_lt hb9).2) hb.out.size)); have hcv := HC.out w4 HB4.out; clear hw1 hw2 hw3 P)
        go_roundw
        case rel => exact ⟨zz, v', H ++ [h], rfl, rfl, by rw [List.length_append, HI.out]; go_num, by rw [List.length_append, HI.out]; simp; omega, hx8, HQ2, HH2, HP, HB4⟩
        case measure => simp [intOf]; omega
    · obtain ⟨pp, cp, hv, hcp⟩ := ho.out.slice
      subst hv
      have HNS := Lib.hid ho.out.ns
      have MV := Lib.hid (MG.out t ds H cp pp wi HDS.out HNS.out hcp (by have := HI.out; omega) (fun x hx => by have := hH.out x hx; omega))
      have HWI := Lib.hid (wins_iff ds H)
      have HMM := Lib.hid (mvl_mem ds H 30 (fun k => by
        by_cases e : k < H.length
        · rw [List.getD_eq_getElem?_getD, List.getElem?_eq_getElem e]; exact hH.out _ (List.getElem_mem e)
        · rw [List.getD_eq_getElem?_getD, List.getElem?_eq_none (by omega)]; simp))
      rw [HI.out] at MV HWI HMM ⊢
      clear ho hcp hH HNS MG
      have hcs : (i < ln ∧ ¬ i < 5) ∨ ¬ i < ln := by omega
      clear hlt
      rcases hcs with ⟨hA, hA5⟩ | hA
      all_goals
        go_wp2_with fail
        refine MV.out.mono ?_
        rintro e w2 ⟨v2, rfl, hout, hb2⟩
        have B2 := Lib.hid (hb.out.trans (hb2.mono hb.out.size))
        have HO := Lib.hid hout
        have BW := Lib.hid (BU.out.trans (B2.out.mono BU.out.size))
        clear hout hb2 MV hb
        have HLA9 : Hid (∀ A ∈ placed (mvl ds H i), A.length ≤ 12) := Lib.hid (fun A hA => by have := mvl_len2 ds H i A ((placed_mem _ _).1 hA); have := HI.out; omega)
        have HMP : Hid (∀ A ∈ placed (mvl ds H i), gx ds A = 0 ∧ ∀ z ∈ A, ∃ b : Nat, z = (b : Int) ∧ 1 ≤ b ∧ b ≤ 30) := Lib.hid (fun A hA => HMM.out A ((placed_mem _ _).1 hA))
        have HPN : Hid (placed (mvl ds H i) = [] ↔ q = 0) := Lib.hid (by
          rw [hq.out]
          constructor
          · intro h
            apply Classical.byContradiction
            intro h2
            obtain ⟨x, hx⟩ := List.exists_mem_of_ne_nil _ (HWI.out.2 h2)
            have := (placed_mem _ x).2 hx
            rw [h] at this; cases this
          · intro h
            apply Classical.byContradiction
            intro h2
            obtain ⟨x, hx⟩ := List.exists_mem_of_ne_nil _ h2
            have h3 := (placed_mem _ x).1 hx
            exact HWI.out.1 (fun h4 => by rw [h4] at h3; cases h3) h)
        obtain ⟨F, hF⟩ : ∃ F, placed (mvl ds H i) = F := ⟨_, rfl⟩
        rw [hF] at HO HMP HPN HLA9
        clear hF hq HMM HWI
        rcases HO.out with ⟨hv0, hF0⟩ | ⟨g', c, Rv, hv1, f1, hfc, hc9, hgl, hRv, hcells, hrows⟩
        · subst hv0
          have hq0 : q = 0 := HPN.out.1 hF0
          have qz1 : ((q : Int) == 0) = true := by simp [hq0]
          have qz2 : ((q : Int) != 0) = false := by simp [hq0]
          clear hq0 hF0
          go_wp2_with fail
          go_loop [14] (fun y => y = .int .i64 0) (fun _ => 0)
          case atStart => rfl
          case round =>
            subst hrel
            go_wp2_with fail
            refine (AW.out w2).mono ?_
            rintro e w3 ⟨rfl, hb3⟩
            have B3 := Lib.hid (BW.out.trans (hb3.mono BW.out.size))
            clear hb3
            go_wp2_with fail
            go_ret
            exact ⟨rfl, B3.out⟩
        · subst hv1
          have hq0 : ¬ q = 0 := fun h => by
            rw [HPN.out.2 h] at f1; simp at f1
          have qz1 : ((q : Int) == 0) = false := by simp; omega
          have qz2 : ((q : Int) != 0) = true := by simp; omega
          obtain ⟨f, hf⟩ : ∃ f, F.length = f := ⟨_, rfl⟩
          have HF := Lib.hid hf
          have HCE := Lib.hid hcells
          have HRO := Lib.hid hrows
          have HV2 := Lib.hid (HV.out.under B2.out)
          rw [hf] at f1 hfc ⊢
          clear hf hcells hrows hRv hgl
          have bf : (0 : Int) < (f : Int) := by omega
          have qf : decide (0 < f) = true := decide_eq_true (by omega)
          have qf2 : (!decide (0 < f)) = false := by rw [qf]; rfl
          go_wp2_with fail
          go_loop [14] (fun x => ∃ k : Nat, x = .int .i64 k ∧ k ≤ f) (fun x => f - (intOf x).toNat)
          case atStart => exact ⟨0, rfl, by omega⟩
          case round =>
            obtain ⟨k, rfl, hkf⟩ := hrel
            by_cases hlt2 : k < f
            · obtain ⟨pa, da, ea, na⟩ := HRO.out k (by have := HF.out; omega)
              have hca := HCE.out k _ ea
              have hAm : F.getD k [] ∈ F := by
                rw [List.getD_eq_getElem?_getD, List.getElem?_eq_getElem (show k < F.length by have := HF.out; omega)]; exact List.getElem_mem _
              have HAM := Lib.hid (HMP.out _ hAm)
              have hA12 := HLA9.out _ hAm
              have NAY := Lib.hid na
              have bk : (k : Int) < (f : Int) := by omega
              generalize F.getD k [] = A at *
              obtain ⟨la, hla⟩ : ∃ n, A.length = n := ⟨_, rfl⟩
              have HLA := Lib.hid hla
              rw [hla] at hca hA12
              clear hla ea na hAm
              go_wp2_with fail
              go_loop [15, 16] (fun x y => ∃ z j : Nat, x = .int .i64 z ∧ y = .int .i64 j ∧ j ≤ la ∧ z < 256 ∧ Hid (z = gx ds (A.take j))) (fun _ y => la - (intOf y).toNat)
              case atStart => exact ⟨0, 0, rfl, rfl, by omega, by omega, Lib.hid rfl⟩
              case round =>
                obtain ⟨z, j, rfl, rfl, hjp, hz8, hz⟩ := hrel
                by_cases hlt6 : j < la
                · have hj9 : j < A.length := by have := HLA.out; omega
                  obtain ⟨g2, e2, cP⟩ := NAY.out j hj9
                  subst e2
                  obtain ⟨b, hb1, hb2, hb3⟩ := HAM.out.2 (A.getD j 0) (by rw [List.getD_eq_getElem?_getD, List.getElem?_eq_getElem hj9]; exact List.getElem_mem _)
                  rw [hb1] at cP
                  obtain ⟨g3, e3, cV⟩ := HV2.out b (by rw [vals_len]; omega)
                  cases e3
                  rw [vals_getD ds (30 + 1) b (by omega)] at cV
                  have hvx : gv ds b ≤ b := vals_le ds (b + 1) b
                  have HZ2 : Hid (z ^^^ gv ds b = gx ds (A.take (j + 1))) := Lib.hid (by
                    rw [List.take_succ_eq_append_getElem hj9, gx_snoc, ← hz.out]
                    have h9 : A[j] = (b : Int) := by rw [← hb1, List.getD_eq_getElem?_getD, List.getElem?_eq_getElem hj9]; rfl
                    rw [h9, Int.toNat_natCast])
                  have hvx2 : gv ds b < 256 := by omega
                  generalize gv ds b = x at *
                  have X1 := xor_nat z x (by omega) (by omega)
                  have hx8 : z ^^^ x < 256 := Nat.xor_lt_two_pow (n := 8) hz8 hvx2
                  have bb : (b : Int) < 31 := by omega
                  have bj : (j : Int) < (la : Int) := by omega
                  obtain ⟨zz, hzz⟩ : ∃ zz, z ^^^ x = zz := ⟨_, rfl⟩
                  rw [hzz] at HZ2 X1 hx8
                  clear hzz hz hb1 hj9
                  go_wp2_with fail
                  go_round
                  case rel => exact ⟨zz, j + 1, rfl, by go_num, by omega, hx8, HZ2⟩
                  case measure => simp [intOf]; omega
                · have hz0 : z = 0 := by rw [hz.out, List.take_of_length_le (by have := HLA.out; omega)]; exact HAM.out.1
                  subst hz0
                  clear hz
                  go_wp2_with fail
                  go_round
                  case rel => exact ⟨k + 1, by go_num, by omega⟩
                  case measure => simp [intOf]; omega
            · go_wp2_with fail
              refine (AW.out w2).mono ?_
              rintro e w3 ⟨rfl, hb3⟩
              have B3 := Lib.hid (BW.out.trans (hb3.mono BW.out.size))
              clear hb3
              go_wp2_with fail
              go_ret
              exact ⟨rfl, B3.out⟩
end Go.Proofs.Ytodnfchkkgoabaa
