/- WALK of Values of the reference. -/
import Derived.Test.YtodnfchkkgoabaaHRw
import Derived.Test.YtodnfchkkgoabaaHPdPeRp
set_option linter.unusedVariables false
namespace Go.Proofs.Ytodnfchkkgoabaa
open Go.RowKit

theorem con_new (l : List Nat) (x : Nat) : (l ++ [x]).contains x = true := by simp
theorem con_old (l : List Nat) (x j : Nat) (h : ¬ j = x) : (l ++ [x]).contains j = l.contains j := by rw [Bool.eq_iff_iff]; simp [h]

theorem infoBool : (Try.prog.info? 4).map (fun i => (i.zero, i.size, i.bytes)) = some (some (.bool false), 1, 1) := by kernel_rfl

set_option maxRecDepth 100000 in
set_option maxHeartbeats 4000000 in
theorem RValues_any (t : ByteArray) (ds : List Nat) (most : Nat) (W : World) (hc : codeOf t = some ds) (hm : most ≤ 2000) :
    Calls Try.prog 19 #[.string t, .int .i64 most] W fun e w' => ∃ v, e = .returned v ∧ OwnN w' W.heap.size v (vals ds (most + 1)) ∧ Below W.heap.size W w' := by
  obtain ⟨i0, hi, hz0, hz1, hz2⟩ := info_parts infoInt
  obtain ⟨i1, hj, hy0, hy1, hy2⟩ := info_parts infoBool
  obtain ⟨cl1, cl8, -⟩ := codeOf_len hc
  have HML : Hid (∀ n, n ≤ 2000 → (mvs n 0 ds).length ≤ 20000) := Lib.hid (fun n hn => by
    have h1 := mvs_len n ds 0
    have h2 : ds.length * (n + 2) ≤ 8 * 2002 := Nat.mul_le_mul cl8 (by omega)
    omega)
  clear cl1 cl8
  have AFT := Lib.hid (fun n (hn : n ≤ 2000) X => after_any t ds n X hc hn)
  clear hc
  obtain ⟨N, hN⟩ : ∃ N, 2 * most + 4 = N := ⟨_, rfl⟩
  have hq : 2 * (most : Int) + 4 = (N : Int) := by omega
  have HN := Lib.hid hN
  obtain ⟨zc, hzc⟩ : ∃ z, madeCells (Value.bool false).cells (N * 1) = z := ⟨_, rfl⟩
  have hmk : ∀ w : World, (Instr.makeSlice 66 (.int .i64 (N : Int)) (.int .i64 (N : Int))).run Try.prog w = .ok (.slice (some ⟨w.heap.size, 0, none⟩) N N) (w.alloc (.cells zc 4)) := fun w => by
    have hr := run_make (P := Try.prog) w 66 4 i1 (.bool false) Try.underlying66 hj hy0 .i64 .i64 N N (by omega) (Int.le_refl _) (by rw [hy2]; omega) (by omega)
    simp only [Int.toNat_natCast, hy1, hzc] at hr
    exact hr
  have HZ : Hid (∀ (w : World) (g : Nat), w.heap[g]? = some (.cells zc 4 (0, 0)) → Blk w g N (fun _ => .bool false)) := Lib.hid (fun w g h => by
    refine ⟨zc, _, h, by rw [← hzc, size_madeCells]; omega, fun i hi => ?_⟩
    have : zc.toList = List.replicate N (.bool false) := by rw [← hzc, Nat.mul_one]; exact toList_madeCells_one _ _
    have h2 : zc.toList[i]? = some (.bool false) := by rw [this, List.getElem?_replicate, if_pos hi]
    rw [← h2]; simp)
  clear hzc hN
  have h01 : vals ds 1 = [0] := by
    have := gv_zero ds
    unfold gv at this
    have hl := vals_len ds 1
    match hv : vals ds 1, hl with
    | [x], _ => rw [hv] at this; simp at this; rw [this]
  go_enter Try.func19, Try.ntmps19
  go_wp2_with fail
  have H0 : Hid (OwnN (W.alloc (.cells #[.int .i64 0] 3)) W.heap.size (.slice (some ⟨W.heap.size, 0, none⟩) 1 1) (vals ds 1)) := Lib.hid (by
    rw [h01]
    exact ⟨rfl, .inr ⟨W.heap.size, 1, _, rfl, Nat.le_refl _, heap_alloc_new _ _, Nat.le_refl _, by decide, rfl, rfl⟩⟩)
  have HB0 := Lib.hid ((Below.refl W.heap.size W).alloc (Nat.le_refl _) (.cells #[.int .i64 0] 3))
  clear h01
  go_loopw [5, 6] (fun x y wr => ∃ (v : Value) (n : Nat), v = x ∧ y = .int .i64 n ∧ 1 ≤ n ∧ n ≤ most + 1 ∧ Hid (OwnN wr W.heap.size v (vals ds n)) ∧ Hid (Below W.heap.size W wr)) (fun _ y _ => most + 1 - (intOf y).toNat)
  case atStart => exact ⟨_, 1, rfl, rfl, by omega, by omega, H0, HB0⟩
  case round =>
    clear H0 HB0
    obtain ⟨v, n, hv, rfl, n1, n2, ho, hb⟩ := hrel
    subst hv
    by_cases hlt : n ≤ most
    · obtain ⟨g0, c0, rfl, hns0⟩ := own_some ho.out (by rw [vals_len]; exact n1)
      have HV := Lib.hid hns0
      have hg0 : g0 < wr.heap.size := by
        obtain ⟨g', e, hcell⟩ := hns0 0 (by rw [vals_len]; exact n1)
        cases e
        exact cell_lt2 hcell
      obtain ⟨w1, hw1⟩ : ∃ w1, wr.alloc (.cells zc 4) = w1 := ⟨_, rfl⟩
      obtain ⟨b, hbb⟩ : ∃ b, wr.heap.size = b := ⟨_, rfl⟩
      have HBK : Hid (Blk w1 b N (fun _ => .bool false)) := Lib.hid (HZ.out _ _ (by rw [← hw1, ← hbb]; exact heap_alloc_new _ _))
      have hk1 : ∀ k, k < b → w1.heap[k]? = wr.heap[k]? := fun k hk => by rw [← hw1]; exact Below.heap_alloc _ _ _ (by omega)
      have hs1 : w1.heap.size = b + 1 := by rw [← hw1, ← hbb]; simp
      have HB1 : Hid (Below W.heap.size W w1) := Lib.hid (by rw [← hw1]; exact hb.out.alloc hb.out.size _)
      have HO1 : Hid (OwnN w1 W.heap.size (.slice (some ⟨g0, 0, none⟩) (vals ds n).length c0) (vals ds n)) := Lib.hid (ho.out.keep (fun k e => by cases e; exact hk1 g0 (by omega)))
      have HS1 := Lib.hid hs1
      have HWB := Lib.hid hb.out.size
      rw [hbb] at hg0
      have AF := Lib.hid (AFT.out n (by omega) w1)
      have HLV := Lib.hid (vals_len ds n)
      rw [vals_len]
      clear ho hb hk1 hs1 hns0
      go_wp2_with fail
      refine AF.out.mono ?_
      rintro e w3 ⟨l, rfl, har, hb3⟩
      obtain ⟨pl, cl, rfl, hrows, hpl⟩ := har.slice
      have HB3 := Lib.hid (HB1.out.trans (hb3.mono HB1.out.size))
      have HBK3 : Hid (Blk w3 b N (fun _ => .bool false)) := Lib.hid (HBK.out.keep (hb3.block b (by have := HS1.out; omega)))
      have HO3 : Hid (OwnN w3 W.heap.size (.slice (some ⟨g0, 0, none⟩) (vals ds n).length c0) (vals ds n)) := Lib.hid (HO1.out.keep (fun k e => by cases e; exact hb3.block g0 (by have := HS1.out; omega)))
      have HRW := Lib.hid hrows
      have HPL : Hid (∀ g, pl = some ⟨g, 0, none⟩ → g ≠ b) := Lib.hid (fun g e => by have := hpl g e; have := HS1.out; omega)
      have OA := Lib.hid (fun i hi => opts_at ds n i hi n1)
      obtain ⟨F, hF⟩ : ∃ F, (mvs n 0 ds).map rowOf = F := ⟨_, rfl⟩
      have hFl : F.length = (mvs n 0 ds).length := by rw [← hF, List.length_map]
      rw [hF] at HRW OA ⊢
      obtain ⟨q, hq2⟩ : ∃ q, F.length = q := ⟨_, rfl⟩
      rw [hq2]
      have HQ := Lib.hid hq2
      have HFL := Lib.hid (hFl.symm.trans hq2)
      have hqb : q ≤ 20000 := by have := HML.out n (by omega); omega
      obtain ⟨O, hO⟩ : ∃ O, opts ds (vals ds n) = O := ⟨_, rfl⟩
      rw [hO] at OA
      have HOP := Lib.hid hO
      clear har hb3 hrows hpl hF hFl hq2 hO AF HBK HO1 HB1 hw1
      go_wp2_with fail
      go_loopw [9] (fun x wx => ∃ i : Nat, x = .int .i64 i ∧ i ≤ q ∧ Hid (Blk wx b N (fun j => .bool ((O.take i).contains j))) ∧ Hid (RowsAt wx pl F) ∧ Hid (OwnN wx W.heap.size (.slice (some ⟨g0, 0, none⟩) (vals ds n).length c0) (vals ds n)) ∧ Hid (Below W.heap.size W wx)) (fun x _ => q - (intOf x).toNat)
      case atStart => exact ⟨0, rfl, by omega, Lib.hid (HBK3.out.congr (fun j _ => by simp)), HRW, HO3, HB3⟩
      case round =>
        clear HBK3 HRW HO3 HB3
        obtain ⟨i, rfl, hiq, hbk, hrw, ho, hb⟩ := hrel
        by_cases hlt2 : i < q
        · obtain ⟨oa1, oa2, oa3, oa4, oa5⟩ := OA.out i (by have := HFL.out; omega)
          obtain ⟨R, hR⟩ : ∃ R, F.getD i [] = R := ⟨_, rfl⟩
          rw [hR] at oa1 oa4 oa5
          obtain ⟨gl, pr, cr, e1, cl1, hnr⟩ := hrw.out.row (by have := HQ.out; omega) hR
          have HNR := Lib.hid hnr
          have HX := Lib.hid (And.intro oa1 (And.intro oa2 oa3))
          have HR5 := Lib.hid oa5
          have HPL' := Lib.hid e1
          obtain ⟨r, hr⟩ : ∃ r, R.length = r := ⟨_, rfl⟩
          rw [hr] at cl1 oa4
          have HRL := Lib.hid hr
          subst e1
          have bq : (i : Int) < (q : Int) := by omega
          clear oa1 oa2 oa3 oa5 hnr hR hr
          have HVB : Hid (∀ j, (vals ds n).getD j 0 < 2 ^ 11) := Lib.hid (fun j => by
            by_cases e : j < n
            · have := vals_le ds n j; omega
            · rw [List.getD_eq_getElem?_getD, List.getElem?_eq_none (by rw [vals_len]; omega)]; decide)
          go_wp2_with fail
          go_loop [10, 11] (fun x y => ∃ z k : Nat, x = .int .i64 z ∧ y = .int .i64 k ∧ k ≤ r ∧ Hid (z = xorl (vals ds n) (R.take k))) (fun _ y => r - (intOf y).toNat)
          case atStart => exact ⟨0, 0, rfl, rfl, by omega, Lib.hid rfl⟩
          case round =>
            obtain ⟨z, k, rfl, rfl, hkr, hz⟩ := hrel
            by_cases hlt3 : k < r
            · obtain ⟨g2, e2, cr2⟩ := HNR.out k (by have := HRL.out; omega)
              have hxn : R.getD k 0 < n := HR5.out _ (by
                rw [List.getD_eq_getElem?_getD, List.getElem?_eq_getElem (by have := HRL.out; omega)]
                exact List.getElem_mem _)
              obtain ⟨g3, e3, cv3⟩ := ho.out.ns (R.getD k 0) (by rw [vals_len]; exact hxn)
              cases e3
              subst e2
              have hzl : z < 2 ^ 11 := by rw [hz.out]; exact xorl_lt _ 11 HVB.out _
              have hvl := HVB.out (R.getD k 0)
              have HZ2 : Hid (z ^^^ (vals ds n).getD (R.getD k 0) 0 = xorl (vals ds n) (R.take (k + 1))) := Lib.hid (by
                have hk9 : k < R.length := by have := HRL.out; omega
                rw [List.take_succ_eq_append_getElem hk9, xorl_snoc, ← hz.out, List.getD_eq_getElem?_getD (l := R), List.getElem?_eq_getElem hk9]; rfl)
              generalize R.getD k 0 = x at *
              generalize (vals ds n).getD x 0 = vx at *
              have X1 := xor_nat z vx (by omega) (by omega)
              have bx : (x : Int) < (n : Int) := by omega
              have bk : (k : Int) < (r : Int) := by omega
              obtain ⟨zz, hzz⟩ : ∃ zz, z ^^^ vx = zz := ⟨_, rfl⟩
              rw [hzz] at HZ2 X1
              clear hzz hz
              go_wp2_with fail
              go_round
              case rel => exact ⟨zz, k + 1, rfl, by go_num, by omega, HZ2⟩
              case measure => simp [intOf]; omega
            · have HZE : Hid (z = O.getD i 0) := Lib.hid (by
                rw [hz.out, List.take_of_length_le (by have := HRL.out; omega)]; exact HX.out.1)
              have hzN : z < N := by have := HX.out.2.2; have := HZE.out; have := HN.out; omega
              have hcz := hbk.out.cell hzN
              have hfz := hbk.out.frozen z
              have bz : (z : Int) < (N : Int) := by omega
              have bz' : decide ((z : Int) < (N : Int)) = true := decide_eq_true bz
              have HBL := Lib.hid hbk.out.lt
              clear hz
              go_wp2_with fail
              go_roundw
              case rel => exact ⟨i + 1, by go_num, by omega, Lib.hid ((hbk.out.set z (.bool true)).congr (fun j _ => by
                have h9 : i < O.length := by have := HX.out.2.1; have := HFL.out; have := HOP.out; rw [HOP.out] at *; omega
                rw [List.take_succ_eq_append_getElem h9]
                have hzo : z = O[i] := by rw [HZE.out, List.getD_eq_getElem?_getD, List.getElem?_eq_getElem h9]; rfl
                by_cases e : j = z
                · have h10 : (O.take i ++ [O[i]]).contains j = true := by rw [e, hzo]; exact con_new _ _
                  rw [if_pos e, h10]
                · rw [if_neg e]
                  have h10 : ¬ j = O[i] := fun h => e (h.trans hzo.symm)
                  have h11 : (O.take i ++ [O[i]]).contains j = (O.take i).contains j := con_old _ _ _ h10
                  rw [h11])), Lib.hid (hrw.out.other (b := b) (fun k hk => Below.heap_setCell _ _ _ _ (by simpa using hk)) HPL.out (fun j => by
                  by_cases e : j < q
                  · exact (OA.out j (by have := HFL.out; omega)).2.2.2.1
                  · rw [List.getD_eq_getElem?_getD, List.getElem?_eq_none (by have := HQ.out; omega)]; simp) (fun j hj => ⟨_, hbk.out.cell (by have := HN.out; omega)⟩)), Lib.hid (ho.out.keep (fun k e => by cases e; exact Below.heap_setCell _ _ _ _ (by simp; omega))), Lib.hid (hb.out.setCell (by have := HWB.out; simp; omega) _)⟩
              case measure => simp [intOf]; omega
        · have hOl : O.length = q := by
            rw [← HOP.out, ← HFL.out]; unfold opts; rw [List.length_map, vals_len]
          have HBO : Hid (Blk wr b N (fun j => .bool (O.contains j))) := Lib.hid (hbk.out.congr (fun j _ => by rw [List.take_of_length_le (by omega)]))
          obtain ⟨M, hM⟩ : ∃ M, mex O = M := ⟨_, rfl⟩
          have hMn : M ≤ n + 1 := by
            rw [← hM]
            refine mex_le _ _ fun x hx => ?_
            obtain ⟨j, hj, rfl⟩ := List.getElem_of_mem hx
            have h9 := (OA.out j (by have := HFL.out; omega)).2.2.1
            rw [List.getD_eq_getElem?_getD, List.getElem?_eq_getElem hj] at h9
            simp at h9; omega
          have hMN : M < N := by have := HN.out; omega
          have HYES : Hid (∀ j, j < M → O.contains j = true) := Lib.hid (fun j hj => by
            have := mex_below O j (by rw [hM]; exact hj)
            simpa using this)
          have HNO : Hid (O.contains M = false) := Lib.hid (by
            have := mex_not O
            rw [hM] at this
            simpa using this)
          have HVN : Hid (vals ds (n + 1) = vals ds n ++ [M]) := Lib.hid (by
            show vals ds n ++ [_] = _
            rw [HOP.out, hM])
          clear hOl hM hbk
          go_wp2_with fail
          go_loop [12] (fun x => ∃ j : Nat, x = .int .i64 j ∧ j ≤ M) (fun x => M - (intOf x).toNat)
          case atStart => exact ⟨0, rfl, by omega⟩
          case round =>
            obtain ⟨j, rfl, hjM⟩ := hrel
            have bj : (j : Int) < (N : Int) := by omega
            have hcj := HBO.out.cell (i := j) (by omega)
            by_cases hlt4 : j < M
            · rw [HYES.out j hlt4] at hcj
              go_wp2_with fail
              go_round
              case rel => exact ⟨j + 1, by go_num, by omega⟩
              case measure => simp [intOf]; omega
            · obtain rfl : j = M := by omega
              rw [HNO.out] at hcj
              have HO9 := Lib.hid ho.out
              have hg0n := HLV.out
              have HG9 := Lib.hid hg0n
              clear hg0n ho
              go_wp2_with (at_builtin; refine wpList_append_own_at _ rfl _ _ 22 rfl W.heap.size 3 i0 (.int .i64 0) 1 8 Try.underlying22 hi hz0 hz1 hz2 rfl (by decide) (.slice (some ⟨g0, 0, none⟩) n c0) n ((vals ds n).map nv) rfl (by have := HO9.out; unfold OwnN at this; rw [HLV.out] at this; exact this.alloc _) ⟨wr.heap.size, 0, none⟩ 1 1 [nv j] rfl rfl (cell_one_new _ _ _) (fun y hy => by simp at hy; subst hy; rfl) (by unfold maxLen; omega) (by omega) (by have := hb.out.size; simp; omega) ?_; intro v' w4 hw1 hw2 _ hw3)
              have P := pushed (L := vals ds n) (x := j) (by rw [HLV.out]; exact hw1) hw2 hw3
              have hne : ∀ e, (Value.slice (some ⟨g0, 0, none⟩) n c0).ownBlock = some e → W.heap.size ≤ e := fun e h => by
                have := HO9.out
                rw [HLV.out] at this
                exact (this.block_lt h).2
              go_roundw
              case rel => exact ⟨v', n + 1, rfl, by go_num, by omega, by omega, Lib.hid (by rw [HVN.out]; exact P.own), Lib.hid (hb.out.trans (P.below hne hb.out.size))⟩
              case measure => simp [intOf]; omega
    · have HE : Hid (OwnN wr W.heap.size v (vals ds (most + 1))) := Lib.hid (by
        obtain rfl : n = most + 1 := by omega
        exact ho.out)
      clear ho
      go_wp2_with fail
      go_ret
      exact ⟨v, rfl, HE.out, hb.out⟩
end Go.Proofs.Ytodnfchkkgoabaa
