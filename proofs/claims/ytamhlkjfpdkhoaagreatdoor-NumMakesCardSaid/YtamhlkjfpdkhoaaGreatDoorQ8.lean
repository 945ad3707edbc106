import Derived.Test.YtamhlkjfpdkhoaaGreatDoorQ7
import Derived.Deep.DeepCutAuto
import Derived.Lib.MinMax
import Derived.Outline
/- WALK of the reference's DivN. -/
namespace Go.Proofs.YtamhlkjfpdkhoaaGreatDoor
open Go.RowKit

theorem lims_news {w : World} {ad : Addr} {n c : Nat} {l : List Nat} (h : Lims w (.slice (some ad) n c) l) : ∀ j u, (ints l)[j]? = some u → w.cell? (ad.add j) = some u := by
  obtain ⟨p', c', h1, h2, h3, h5, h4⟩ := h
  simp only [Value.slice.injEq] at h1
  obtain ⟨rfl, rfl, rfl⟩ := h1
  intro j u hu
  unfold ints at hu
  rw [List.getElem?_map] at hu
  cases hj : l[j]? with
  | none => rw [hj] at hu; simp at hu
  | some d =>
    rw [hj] at hu
    obtain ⟨g, hg, hc⟩ := h4 j d hj
    simp only [Option.some.injEq] at hg
    subst hg
    rw [add_zero_off, hc]
    simpa using hu

theorem ints_one (l : List Nat) : ∀ u ∈ ints l, u.oneCell' = true := by
  intro u hu
  rw [List.mem_map] at hu
  obtain ⟨d, _, rfl⟩ := hu
  rfl

theorem own_append {w : World} {B x n : Nat} {v : Value} {l : List Nat} (hn : n = l.length) (h : w.ownsRow B 3 1 v (1 + n) (ints [x] ++ ints l)) : Own w B v (x :: l) := by
  subst hn
  unfold Own
  rw [List.length_cons, Nat.add_comm]
  simpa [ints] using h

theorem own_size {w : World} {B g n c : Nat} {l : List Nat} (h : Own w B (.slice (some ⟨g, 0, none⟩) n c) l) : g < w.heap.size := by
  rcases h.2 with ⟨h0, _⟩ | ⟨g', cap, cur, h0, _, h2, _⟩
  · simp at h0
  · simp only [Value.slice.injEq, Option.some.injEq, Addr.mk.injEq, and_true] at h0
    obtain ⟨rfl, _⟩ := h0
    exact (Array.getElem?_eq_some_iff.1 h2).1

theorem div_end {a b d x y Q R : Nat} (hx : x = a * d) (hy : y = b * d) (hR : R < y) (h : x = y * Q + R) (hd : 1 ≤ d) (hb : 0 < b) : Q = a / b ∧ R / d = a % b := by
  have hy0 : 0 < y := by omega
  have e1 : x / y = Q := by rw [h, Nat.mul_add_div hy0, Nat.div_eq_of_lt hR, Nat.add_zero]
  have e2 : x % y = R := by rw [h, Nat.mul_add_mod, Nat.mod_eq_of_lt hR]
  rw [hx, hy, Nat.mul_div_mul_right a b (by omega : 0 < d)] at e1
  rw [hx, hy, Nat.mul_mod_mul_right] at e2
  exact ⟨e1.symm, by rw [← e2, Nat.mul_div_cancel _ (by omega : 0 < d)]⟩

set_option maxRecDepth 1000000 in
set_option maxHeartbeats 8000000 in
theorem DivN_any (u v : Value) (a b ka kb : Nat) (w : World) (ha : NN w u a ka) (hb : NN w v b kb) (hka : ka ≤ 536870912) (hkb : kb ≤ 536870912) (hb0 : 0 < b) :
    Calls Tryz.prog 123 #[u, v] w fun e w' => ∃ q s, e = .returned (.tuple #[q, s]) ∧ NN w' q (a / b) ka ∧ NN w' s (a % b) kb ∧ Young w.heap.size q ∧ Young w.heap.size s ∧ Below w.heap.size w w' := by
  obtain ⟨i0, hi, hz0, hz1, hz2⟩ := info_parts infoInt
  obtain ⟨m, q, cm, rfl, hm1, hm2, hm3, hm4⟩ := hb.norm
  obtain ⟨bt, hbt, hbt0, hbt9, hml⟩ := top_limb hm2 (by rw [hm3]; exact hb0)
  obtain ⟨gm, rfl, dm⟩ := hm1.at_ (Below.refl _ _) hbt
  obtain ⟨d, hd⟩ : ∃ d, 1000000000 / (bt + 1) = d := ⟨_, rfl⟩
  have hd1 : 1 ≤ d := by rw [← hd]; exact (Nat.le_div_iff_mul_le (by omega)).2 (by omega)
  have hd9 : d ≤ 500000000 := by rw [← hd]; exact Nat.div_le_of_le_mul (by omega)
  have eD : (1000000000 : Int) / ((bt : Int) + 1) = (d : Int) := by rw [← hd]; simp
  have HA := Lib.hid ha
  have HB := Lib.hid hb
  have T1 := Lib.hid (fun W (h : Below w.heap.size w W) => times_ref u a d ka W (ha.below h) (by omega) (by omega))
  have T2 := Lib.hid (fun W (h : Below w.heap.size w W) => times_ref (.slice (some ⟨gm, 0, none⟩) m.length cm) b d kb W (hb.below h) (by omega) (by omega))
  have TR := Lib.hid trim_any
  have TM := Lib.hid times_ref
  have CM := Lib.hid CmpN_any
  have SB := Lib.hid SubN_any
  have SM := Lib.hid small_ref
  have HLa := Lib.hid ha.lt
  have HLb := Lib.hid hb.lt
  have HB0 := Lib.hid hb0
  clear ha hb hm1 hm2 hm3 hbt hd
  go_enter Tryz.func123, Tryz.ntmps123
  go_wp2_with fail
  refine (T1.out _ (Below.refl _ _)).mono ?_
  rintro _ w1 ⟨x, rfl, hx, hyx, hb⟩
  have B1 := Lib.hid hb
  have X1 := Lib.hid hx
  clear hx hyx hb T1 dm
  go_wp2_with fail
  refine (T2.out _ B1.out).mono ?_
  rintro _ w2 ⟨y, rfl, hy, hyy, hb⟩
  have B2 := Lib.hid (B1.out.trans (hb.mono B1.out.size))
  have X2 := Lib.hid (X1.out.below hb)
  have Y2 := Lib.hid hy
  clear hy hyy hb B1 X1 T2
  obtain ⟨lx, xp, xc, rfl, x1, x2, x3, x4⟩ := X2.out.norm
  obtain ⟨ly, yp, yc, rfl, y1, y2, y3, y4⟩ := Y2.out.norm
  have hY0 : 0 < val B9 ly := by rw [y3]; exact Nat.mul_pos HB0.out hd1
  obtain ⟨yt, hyt, hyt0, hyt9, hyl⟩ := top_limb y2 hY0
  obtain ⟨gy, rfl, dy⟩ := y1.at_ (Below.refl _ _) hyt
  have LX := Lib.hid x1
  have LY := Lib.hid y1
  have NX := Lib.hid x2
  have NY := Lib.hid y2
  have VX := Lib.hid x3
  have VY := Lib.hid y3
  have HYT := Lib.hid hyt
  have HY0 := Lib.hid hY0
  clear x1 y1 x2 y2 x3 y3 hyt hY0 X2
  go_wp2_with (at_make; refine wpList_make_full _ rfl _ _ 23 rfl w2.heap.size 3 i0 (.int .i64 0) 1 Tryz.underlying23 hi hz0 hz1 .i64 .i64 (lx.length : Int) (lx.length : Int) lx.length rfl rfl rfl rfl (by rw [hz2]; omega) (by unfold maxLen; omega) (Nat.le_refl _) ?_; intro w3 hown3 hgrow3; have O3 := Lib.hid (own_made hown3); have B3 := Lib.hid ((Below.refl w2.heap.size w2).grown hgrow3 (Nat.le_refl _) (fun k hk => by cases hk)); clear hown3 hgrow3)
  clear dy
  go_loopw [11, 12] (fun rv iv wr => ∃ (qo : List Nat) (R k : Nat), iv = .int .i64 ((k : Int) - 1) ∧ k ≤ lx.length ∧ Hid (NN wr rv R (kb + 2)) ∧ Hid (R < val B9 ly ∧ val B9 (lx.drop k) = val B9 ly * val B9 (qo.drop k) + R) ∧ Hid (Own wr w2.heap.size (.slice (some ⟨w2.heap.size, 0, none⟩) lx.length lx.length) qo ∧ qo.length = lx.length) ∧ Hid (Low B9 (qo.drop k)) ∧ Hid (∀ j, j < k → qo[j]? = some 0) ∧ Hid (Below w2.heap.size w2 wr)) (fun _ iv _ => (intOf iv + 1).toNat)
  case atStart => exact ⟨List.replicate lx.length 0, 0, lx.length, rfl, Nat.le_refl _, Lib.hid ((NN.nil _).more (by omega)), Lib.hid ⟨HY0.out, by rw [val_drop_end _ (Nat.le_refl _), val_drop_end _ (by simp)]; simp⟩, Lib.hid ⟨O3.out, by simp⟩, Lib.hid (by rw [List.drop_eq_nil_of_le (by simp)]; exact Low.nil _), Lib.hid (fun j hj => by rw [List.getElem?_replicate]; rw [if_pos hj]), B3⟩
  case round =>
    clear O3 B3
    obtain ⟨qo, R, k, rfl, hk, hR, hV, hO, hLow, hZ, HB2⟩ := hrel
    by_cases hk0 : 0 < k
    · obtain ⟨xi, hxi⟩ : ∃ d, lx[k - 1]? = some d := ⟨_, List.getElem?_eq_getElem (by omega)⟩
      obtain ⟨gx, rfl, dx⟩ := LX.out.at_ HB2.out hxi
      have bxi : xi < 1000000000 := NX.out.1.at_ hxi
      obtain ⟨S, hS⟩ : ∃ S, xi + B9 * R = S := ⟨_, rfl⟩
      have HS := Lib.hid hS
      have HSY : Hid (S < B9 * val B9 ly) := Lib.hid (by rw [← hS]; exact brought bxi hV.out.1)
      have HXI := Lib.hid hxi
      have HFit : Hid (S < B9 ^ (kb + 2)) := Lib.hid (Nat.lt_of_lt_of_le HSY.out (by rw [Nat.pow_succ, Nat.mul_comm]; exact Nat.mul_le_mul_right _ (Nat.le_of_lt Y2.out.lt |> fun h => by rw [VY.out]; exact h)))
      obtain ⟨lr, rp, rc, rfl, r1, r2, r3, r4⟩ := hR.out.norm
      have LR := Lib.hid r1
      have HLR : Hid (Low B9 (xi :: lr)) := Lib.hid (Low.cons bxi r2.1)
      have HVR : Hid (val B9 (xi :: lr) = S) := Lib.hid (by rw [← hS, ← r3]; rfl)
      have hup : Hid (Own (wr.alloc (.cells #[.int .i64 (xi : Int)] 3)) wr.heap.size (.slice (some ⟨wr.heap.size, 0, none⟩) 1 1) [xi]) := Lib.hid (up_own wr xi)
      have hwsz : Hid (w2.heap.size < wr.heap.size) := Lib.hid (by
        have h := hO.out.1
        rcases h.2 with ⟨h0, _⟩ | ⟨g, cap, cur, h0, _, h2, _⟩
        · simp at h0
        · simp only [Value.slice.injEq, Option.some.injEq, Addr.mk.injEq, and_true] at h0
          have := (Array.getElem?_eq_some_iff.1 h2).1
          omega)
      clear hxi hS r1 r2 r3
      go_upto_region 10 with fail
      go_cut [11] (fun rv wx => Hid (NN wx rv S (kb + 2)) ∧ Hid (Own wx w2.heap.size (.slice (some ⟨w2.heap.size, 0, none⟩) lx.length lx.length) qo) ∧ Hid (Below w2.heap.size w2 wx))
      case first => as_aux_lemma =>
        rcases rp with _ | ad
        · obtain ⟨_, hln, hrc, hlr⟩ : True ∧ lr.length = 0 ∧ rc = 0 ∧ lr = [] := by
            rcases lims_nil_or LR.out with ⟨_, h1, h2, h3⟩ | ⟨g, h | h⟩
            · exact ⟨trivial, h1, h2, h3⟩
            · cases h
            · obtain ⟨p', c', e1, _, _, e5, _⟩ := LR.out
              simp only [Value.slice.injEq] at e1
              obtain ⟨e1, _, e3⟩ := e1
              subst e3
              exact ⟨trivial, by rw [h]; rfl, e5 e1.symm, h⟩
          subst hlr hrc
          clear hln
          have BW := Lib.hid (HB2.out.alloc HB2.out.size (.cells #[.int .i64 (xi : Int)] 3))
          have OW := Lib.hid (World.ownsRow.alloc (show wr.ownsRow w2.heap.size 3 1 _ _ _ from hO.out.1) (.cells #[.int .i64 (xi : Int)] 3))
          go_wp2_with (at_builtin; refine wpList_append_own_none rfl _ _ 23 rfl wr.heap.size 3 i0 1 Tryz.underlying23 hi (.slice (some ⟨wr.heap.size, 0, none⟩) 1 1) 1 (ints [xi]) rfl hup.out rfl ?_)
          refine (TR.out _ _ _ (own_lims hup.out) HLR.out).mono ?_
          rintro _ w6 ⟨⟨v', rfl, hn, hy⟩, rfl⟩
          have HN := Lib.hid hn
          rw [HVR.out] at HN
          clear hn hy
          go_wp2_with fail
          go_meet
          case rel => exact ⟨Lib.hid (HN.out.fit HFit.out), OW, BW⟩
        · go_wp2_with (at_builtin; refine wpList_append_own_at _ rfl _ _ 23 rfl wr.heap.size 3 i0 (.int .i64 0) 1 8 Tryz.underlying23 hi hz0 hz1 hz2 rfl (by decide) (.slice (some ⟨wr.heap.size, 0, none⟩) 1 1) 1 (ints [xi]) rfl hup.out ad lr.length rc (ints lr) rfl (by simp) (lims_news (LR.out.below (((Below.refl _ wr).alloc (Nat.le_refl _) _)))) (ints_one lr) (by unfold maxLen; omega) (by omega) (by simp) ?_; intro v5 w5 hown5 hgrow5 _ _; have O5 := Lib.hid (own_append rfl hown5); have G5 := Lib.hid (((Below.refl wr.heap.size wr).alloc (Nat.le_refl _) _).grown hgrow5 (by simp) (fun k hk => by simp [Value.ownBlock] at hk; omega)); clear hown5 hgrow5)
          refine (TR.out _ _ _ (own_lims O5.out) HLR.out).mono ?_
          rintro _ w6 ⟨⟨v', rfl, hn, hy⟩, rfl⟩
          have HN := Lib.hid hn
          rw [HVR.out] at HN
          clear hn hy
          go_wp2_with fail
          go_meet
          case rel => exact ⟨Lib.hid (HN.out.fit HFit.out), Lib.hid (own_below hO.out.1 G5.out), Lib.hid (HB2.out.trans (G5.out.mono HB2.out.size))⟩
      case rest => as_aux_lemma =>
        clear hR hup HLR HVR LR
        have HQL := Lib.hid hO.out.2
        clear hO HB2
        obtain ⟨HR6, HO6, HB6⟩ := hcut
        have HZ0 : Hid (qo.set (k - 1) 0 = qo) := Lib.hid (by
          have h := hZ.out (k - 1) (by omega)
          have hi := (List.getElem?_eq_some_iff.1 h).1
          have he := (List.getElem?_eq_some_iff.1 h).2
          conv => lhs; rw [← he]
          exact List.set_getElem_self hi)
        have HKQ : Hid (k ≤ qo.length) := Lib.hid (by have := HQL.out; omega)
        go_wp2_with fail
        go_loopg [11] S (fun g rv wr => ∃ qi : Nat, qi < 1000000000 ∧ Hid (S = val B9 ly * qi + g) ∧ Hid (NN wr rv g (kb + 2)) ∧ Hid (Own wr w2.heap.size (.slice (some ⟨w2.heap.size, 0, none⟩) lx.length lx.length) (qo.set (k - 1) qi)) ∧ Hid (Below w2.heap.size w2 wr))
        case atStart => exact ⟨0, by omega, Lib.hid (by simp), HR6, Lib.hid (by rw [HZ0.out]; exact HO6.out), HB6⟩
        case round =>
          clear HR6 HO6 HB6
          obtain ⟨qi, hqi, hSq, hR, hO, HB7⟩ := hrel
          obtain ⟨lr, rp, rc, rfl, r1, r2, r3, r4⟩ := hR.out.norm
          have C1 := Lib.hid (fun W (h : Below w2.heap.size w2 W) (hb : Below wr.heap.size wr W) => CM.out _ _ gk (b * d) (kb + 2) (kb + 1) W (hR.out.below hb) (Y2.out.below h))
          by_cases hRY : gk < b * d
          · have hc := cmpv_lt hRY
            rw [hc] at C1
            have HRY : Hid (gk < val B9 ly) := Lib.hid (by rw [VY.out]; exact hRY)
            clear hRY hc r1 r2 r3
            go_wp2_with fail
            refine (C1.out _ HB7.out (Below.refl _ _)).mono ?_
            rintro _ w8 ⟨rfl, hd⟩
            have HD := Lib.hid (drew_below hd wr.heap.size)
            clear hd C1
            go_wp2_with fail
            go_roundw
            case rel =>
              refine ⟨qo.set (k - 1) qi, gk, k - 1, by go_num, by omega, Lib.hid (hR.out.below HD.out), Lib.hid ⟨HRY.out, ?_⟩, Lib.hid ⟨own_below hO.out HD.out, by rw [List.length_set]; exact HQL.out⟩, Lib.hid ?_, Lib.hid ?_, Lib.hid (HB7.out.trans (HD.out.mono HB7.out.size))⟩
              · rw [val_drop_step B9 HXI.out, show k - 1 + 1 = k by omega, hV.out.2, drop_set hk0 HKQ.out]
                have h1 := HS.out
                have h2 := hSq.out
                simp only [val, Nat.mul_add]
                rw [Nat.mul_left_comm B9]
                omega
              · rw [drop_set hk0 HKQ.out]; exact Low.cons hqi hLow.out
              · intro j hj
                rw [List.getElem?_set_ne (by omega)]
                exact hZ.out j (by omega)
            case measure => simp [intOf]; omega
          · obtain ⟨cc, hcc, hc0⟩ : ∃ cc : Int, cmpv gk (b * d) = cc ∧ 0 ≤ cc := by
              refine ⟨_, rfl, ?_⟩
              unfold cmpv; rw [if_neg hRY]; split <;> omega
            rw [hcc] at C1
            have HRY : Hid (val B9 ly ≤ gk) := Lib.hid (by rw [VY.out]; omega)
            have t1 : decide (0 ≤ cc) = true := by simpa using hc0
            have LR := Lib.hid r1
            have NR := Lib.hid r2
            have VR := Lib.hid r3
            clear hRY hcc r1 r2 r3
            go_wp2_with fail
            refine (C1.out _ HB7.out (Below.refl _ _)).mono ?_
            rintro _ w8 ⟨rfl, hd⟩
            have HD := Lib.hid (drew_below hd wr.heap.size)
            clear hd C1
            obtain ⟨rt, hrt, _, _, hrl⟩ := top_limb NR.out (by rw [VR.out]; have := HRY.out; have := HY0.out; omega)
            obtain ⟨gr, rfl, _⟩ := LR.out.at_ (Below.refl _ _) hrt
            have L2 := len_two (lr := lr) NR.out NY.out.1 (by rw [VR.out]; have h1 := HSY.out; have h2 := hSq.out; omega)
            have L1 := len_of_le NY.out NR.out (by rw [VR.out]; exact HRY.out)
            clear hrt
            go_wp2_with fail
            go_loop [14, 15] (fun nv kv => ∃ nn j : Nat, nv = .int .i64 nn ∧ kv = .int .i64 ((j : Int) - 1) ∧ (ly.length - 1 ≤ j ∧ j ≤ lr.length) ∧ Hid (nn = val B9 (lr.drop j)) ∧ nn < 1000000000000000000) (fun _ kv => (intOf kv + 1).toNat)
            case atStart => exact ⟨0, lr.length, rfl, rfl, ⟨by omega, Nat.le_refl _⟩, Lib.hid (by rw [val_drop_end _ (Nat.le_refl _)]), by omega⟩
            case round =>
              obtain ⟨nn, j, rfl, rfl, ⟨hj1, hj2⟩, hnn, hn18⟩ := hrel
              by_cases hj : ly.length ≤ j
              · have hn9 : nn < 1000000000 := by rw [hnn.out]; exact two_limbs NR.out.1 (by omega)
                obtain ⟨z, hz⟩ : ∃ d, lr[j - 1]? = some d := ⟨_, List.getElem?_eq_getElem (by omega)⟩
                obtain ⟨g', hg', dz⟩ := LR.out.at_ HD.out hz
                simp only [Option.some.injEq, Addr.mk.injEq, and_true] at hg'
                subst hg'
                have bz : z < 1000000000 := NR.out.1.at_ hz
                obtain ⟨t, ht⟩ : ∃ t, nn * 1000000000 + z = t := ⟨_, rfl⟩
                have eT : (nn : Int) * 1000000000 + (z : Int) = (t : Int) := by omega
                have HT : Hid (t = val B9 (lr.drop (j - 1))) := Lib.hid (by rw [val_drop_step B9 hz, show j - 1 + 1 = j by omega, ← hnn.out, ← ht, Nat.add_comm, Nat.mul_comm]; rfl)
                have ht18 : t < 1000000000000000000 := by omega
                clear hz ht hnn
                go_wp2
                go_round
                case rel => exact ⟨t, j - 1, rfl, by go_num, ⟨by omega, by omega⟩, HT, ht18⟩
                case measure => simp [intOf]; omega
              · have hjl : j = ly.length - 1 := by omega
                have hN : val B9 (lr.drop (ly.length - 1)) = nn := by rw [← hjl]; exact hnn.out.symm
                have G1 := div_guess NY.out.1 HYT.out hN (by omega)
                obtain ⟨t, ht⟩ : ∃ t, nn / (yt + 1) = t := ⟨_, rfl⟩
                rw [ht] at G1
                have htB : t < 1000000000000000000 := by rw [← ht]; exact Nat.lt_of_le_of_lt (Nat.div_le_self _ _) hn18
                have eT : (nn : Int) / ((yt : Int) + 1) = (t : Int) := by rw [← ht]; simp
                obtain ⟨n', hn'⟩ : ∃ n', max 1 (min 999999999 t) = n' := ⟨_, rfl⟩
                have hn1 : 1 ≤ n' ∧ n' ≤ 999999999 := by omega
                have HG : Hid (b * d * n' ≤ gk) := Lib.hid (by
                  have hry := HRY.out
                  rw [VY.out] at hry G1
                  rw [VR.out] at G1
                  rcases Nat.eq_zero_or_pos t with h0 | h0
                  · have : n' = 1 := by omega
                    rw [this]; omega
                  · have : n' ≤ t := by omega
                    have h5 := Nat.mul_le_mul_left (b * d) this
                    rw [Nat.mul_comm t] at G1
                    omega)
                clear hN hjl ht G1 hnn
                have eMM : max (1 : Int) (min 999999999 (t : Int)) = (n' : Int) := by omega
                clear hn'
                have T3 := Lib.hid (fun W (h : Below w2.heap.size w2 W) => TM.out _ (b * d) n' (kb + 1) W (Y2.out.below h) (by omega) hn1.2)
                go_wp2_with fail
                refine (T3.out _ (HB7.out.trans (HD.out.mono HB7.out.size))).mono ?_
                rintro _ w9 ⟨z, rfl, hz, hzy, hb⟩
                have HZ := Lib.hid hz
                have HB9 := Lib.hid ((HD.out).trans (hb.mono HD.out.size))
                clear hz hzy hb T3 eMM eT
                have T4 := Lib.hid (SB.out _ _ gk (b * d * n') (kb + 2) (kb + 1 + 1) w9 (hR.out.below HB9.out) HZ.out (by omega) HG.out)
                go_wp2_with fail
                refine T4.out.mono ?_
                rintro _ w10 ⟨r', rfl, hr, hry, hb⟩
                have HR10 := Lib.hid hr
                have HRY10 := Lib.hid hry
                have HB10 := Lib.hid (HB9.out.trans (hb.mono HB9.out.size))
                have HS9 := Lib.hid HB9.out.size
                clear hr hry hb T4 HB9 HZ
                have HO10 := Lib.hid (own_below hO.out HB10.out)
                have HQ : Hid ((qo.set (k - 1) qi)[k - 1]? = some qi) := Lib.hid (by rw [List.getElem?_set_self]; have := HKQ.out; omega)
                obtain ⟨e1, e2, _⟩ := own_cell HO10.out HQ.out
                obtain ⟨q2, hq2⟩ : ∃ q2, qi + n' = q2 := ⟨_, rfl⟩
                have hqB : q2 < 1000000000 := by
                  rw [← hq2]
                  exact digit_lt (Y := val B9 ly) hSq.out (by rw [VY.out]; exact HG.out) HSY.out
                have eQ : (qi : Int) + (n' : Int) = (q2 : Int) := by omega
                have HSN : Hid (S = val B9 ly * q2 + (gk - b * d * n')) := Lib.hid (by
                  have h1 := hSq.out
                  have h2 := HG.out
                  rw [← hq2, Nat.mul_add, VY.out]
                  rw [VY.out] at h1
                  omega)
                have HLess : Hid (gk - b * d * n' < gk) := Lib.hid (by
                  have h2 := HG.out
                  have h3 : 0 < b * d * n' := Nat.mul_pos (by have := HY0.out; rw [VY.out] at this; exact this) hn1.1
                  omega)
                have OS := Lib.hid (own_set HO10.out (by rw [List.length_set, HQL.out]) (k - 1) q2)
                rw [List.set_set] at OS
                have NS := Lib.hid (NN.store (g := w2.heap.size) (j := k - 1) (u := .int .i64 (q2 : Int)) HR10.out HRY10.out (by have h1 := own_size hO.out; have h2 := HS9.out; omega))
                have BS := Lib.hid ((HB7.out.trans (HB10.out.mono HB7.out.size)).setCell (p := ⟨w2.heap.size, k - 1, none⟩) (Nat.le_refl _) (.int .i64 (q2 : Int)))
                clear hq2
                go_wp2_with fail
                go_roundg (gk - b * d * n')
                case measure => exact HLess.out
                case rel => exact ⟨q2, hqB, HSN, NS, OS, BS⟩
    · obtain rfl : k = 0 := by omega
      have E1 : Hid (val B9 qo = a / b ∧ R / d = a % b) := Lib.hid (div_end VX.out VY.out hV.out.1 (by have h := hV.out.2; simpa using h) hd1 HB0.out)
      have S1 := Lib.hid (SM.out _ R d (kb + 2) wr hR.out (by omega) hd1 (by omega))
      have HLow : Hid (Low B9 qo) := Lib.hid (by have h := hLow.out; simpa using h)
      clear hV hLow hZ hR
      go_wp2_with fail
      refine S1.out.mono ?_
      rintro _ w4 ⟨s, rfl, hs, hsy, hb⟩
      have HS := Lib.hid hs
      have HSY := Lib.hid hsy
      have HBs := Lib.hid hb
      have HQ := Lib.hid (own_below hO.out.1 hb)
      clear hs hsy hb S1
      go_wp2_with fail
      refine (TR.out _ _ _ (own_lims HQ.out) HLow.out).mono ?_
      rintro _ w5 ⟨⟨v', rfl, hn, hy⟩, rfl⟩
      have HN := Lib.hid hn
      have HY := Lib.hid (hy _ (own_young HQ.out))
      clear hn hy
      go_wp2_with fail
      go_ret2
      have hA := HLa.out
      have hBb := HLb.out
      refine ⟨_, _, rfl, ?_, ?_, HY.out.mono B2.out.size, HSY.out.mono (Nat.le_trans B2.out.size HB2.out.size), (B2.out.trans (HB2.out.mono B2.out.size)).trans (HBs.out.mono (Nat.le_trans B2.out.size HB2.out.size))⟩
      · have h := HN.out; rw [E1.out.1] at h; exact h.fit (Nat.lt_of_le_of_lt (Nat.div_le_self _ _) hA)
      · have h := HS.out; rw [E1.out.2] at h; exact h.fit (Nat.lt_of_lt_of_le (Nat.mod_lt _ HB0.out) (Nat.le_of_lt hBb))
end Go.Proofs.YtamhlkjfpdkhoaaGreatDoor

/- WALKS of the reference's naturals: GcdN. -/
namespace Go.Proofs.YtamhlkjfpdkhoaaGreatDoor
open Go.RowKit

set_option maxRecDepth 100000 in
set_option maxHeartbeats 2000000 in
theorem GcdN_any (u v : Value) (a b k : Nat) (w : World) (ha : NN w u a k) (hb : NN w v b k) (hk : k ≤ 536870912) :
    Calls Tryz.prog 117 #[u, v] w fun e w' => ∃ x, e = .returned x ∧ NN w' x (Nat.gcd a b) k ∧ Below w.heap.size w w' := by
  have DV := Lib.hid DivN_any
  have HA := Lib.hid ha
  have HB := Lib.hid hb
  clear ha hb
  go_enter Tryz.func117, Tryz.ntmps117
  go_wp2
  go_loopg [0, 1] b (fun g x y wr => ∃ a' : Nat, Hid (NN wr x a' k) ∧ Hid (NN wr y g k) ∧ Hid (Nat.gcd a' g = Nat.gcd a b) ∧ Hid (Below w.heap.size w wr))
  case atStart => exact ⟨a, HA, HB, Lib.hid rfl, Lib.hid (Below.refl _ _)⟩
  case round =>
    clear HA HB
    obtain ⟨a', hx, hy, hg, hB⟩ := hrel
    obtain ⟨ly, yp, yc, rfl, y1, y2, y3, y4⟩ := hy.out.norm
    by_cases h0 : gk = 0
    · obtain rfl := y2.zero B9_pos (by rw [y3]; exact h0)
      have HG := Lib.hid (show a' = Nat.gcd a b by rw [← hg.out, h0]; simp)
      clear y1 y2 y3 h0 hy hg
      go_wp2_with fail
      go_ret
      exact ⟨_, rfl, (by rw [← HG.out]; exact hx.out), hB.out⟩
    · have hl : 0 < ly.length := by
        rcases Nat.eq_zero_or_pos ly.length with h | h
        · rw [List.eq_nil_of_length_eq_zero h] at y3; simp [val] at y3; omega
        · exact h
      have D1 := Lib.hid (DV.out _ _ a' gk k k wr hx.out hy.out hk hk (by omega))
      have HM := Lib.hid (Nat.mod_lt a' (show 0 < gk by omega))
      have HG := Lib.hid (show Nat.gcd gk (a' % gk) = Nat.gcd a b by rw [← hg.out, Nat.gcd_comm a' gk, Nat.gcd_rec gk a', Nat.gcd_comm])
      clear y1 y2 y3 h0 hg
      go_wp2_with fail
      refine D1.out.mono ?_
      rintro _ w2 ⟨q, s, rfl, _, hs, _, _, hb⟩
      have HS := Lib.hid hs
      have HY := Lib.hid (hy.out.below hb)
      have HB2 := Lib.hid (hB.out.trans (hb.mono hB.out.size))
      clear hs hb D1 hx hy hB
      go_wp2_with fail
      go_roundg (a' % gk)
      case measure => exact HM.out
      case rel => exact ⟨gk, HY, HS, HG, HB2⟩
end Go.Proofs.YtamhlkjfpdkhoaaGreatDoor
