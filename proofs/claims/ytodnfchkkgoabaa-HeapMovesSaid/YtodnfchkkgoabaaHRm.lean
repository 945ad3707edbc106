/- WALK of Moves of the reference. -/
import Derived.Test.YtodnfchkkgoabaaHPm
import Derived.Test.YtodnfchkkgoabaaHRx
set_option linter.unusedVariables false
namespace Go.Proofs.Ytodnfchkkgoabaa
open Go.RowKit

theorem own_baseR {w : World} {base n : Nat} {v : Value} {xs : List Value} (h : w.ownsRow base 22 1 v n xs) : ∀ b, v.ownBlock = some b → base ≤ b := fun b e => by
  rcases h.2 with ⟨h1, _⟩ | ⟨g9, cap9, cur9, h1, h2, _⟩
  · rw [h1] at e; cases e
  · rw [h1] at e; cases e; exact h2

theorem Row1.shape {w : World} {v : Value} {L : List Int} (h : Row1 w v L) : ∃ p c, v = .slice p L.length c ∧ NI w p L := by
  rcases h with ⟨rfl, rfl⟩ | ⟨g, c, rfl, _, _, h⟩
  · exact ⟨none, 0, rfl, fun i hi => by simp at hi⟩
  · exact ⟨_, c, rfl, h⟩

theorem Row1.under {W X : World} {v : Value} {L : List Int} (h : Row1 W v L) (hb : Below W.heap.size W X) : Row1 X v L := by
  rcases h with h | ⟨g, c, e, h1, h2, h⟩
  · exact .inl h
  · exact .inr ⟨g, c, e, h1, h2, h.lower hb⟩

theorem rows_mid {w : World} {F : List (List Int)} {Rv : List Value} {P : List Int} {pp : Option Addr} {cp a : Nat} (hr : ∀ i, i < F.length → ∃ p d, Rv[i]? = some (.slice p (F.getD i []).length d) ∧ NI w p (F.getD i [])) (hl : Rv.length = F.length) (hp : NI w pp P) (ha : a ≤ F.length) :
    ∀ i, i < (F.take a ++ P :: F.drop a).length → ∃ p d, (Rv.take a ++ [.slice pp P.length cp] ++ Rv.drop a)[i]? = some (.slice p ((F.take a ++ P :: F.drop a).getD i []).length d) ∧ NI w p ((F.take a ++ P :: F.drop a).getD i []) := by
  intro i hi
  have hi2 : i < F.length + 1 := by simp at hi; omega
  rcases Nat.lt_trichotomy i a with h | h | h
  · obtain ⟨p, d, e1, e2⟩ := hr i (by omega)
    have h1 : (F.take a ++ P :: F.drop a).getD i [] = F.getD i [] := by
      rw [List.getD_eq_getElem?_getD, List.getElem?_append_left (by rw [List.length_take]; omega), List.getElem?_take, if_pos h, ← List.getD_eq_getElem?_getD]
    rw [h1]
    refine ⟨p, d, ?_, e2⟩
    rw [List.append_assoc, List.getElem?_append_left (by rw [List.length_take]; omega), List.getElem?_take, if_pos h, e1]
  · subst h
    have h1 : (F.take i ++ P :: F.drop i).getD i [] = P := by
      rw [List.getD_eq_getElem?_getD, List.getElem?_append_right (by rw [List.length_take]; omega), List.length_take, Nat.min_eq_left ha]; simp
    rw [h1]
    refine ⟨pp, cp, ?_, hp⟩
    rw [List.append_assoc, List.getElem?_append_right (by rw [List.length_take]; omega), List.length_take, hl, Nat.min_eq_left ha]; simp
  · obtain ⟨p, d, e1, e2⟩ := hr (i - 1) (by omega)
    obtain ⟨k, hk⟩ : ∃ k, i = a + 1 + k := ⟨i - a - 1, by omega⟩
    subst hk
    have h0 : a + 1 + k - 1 = a + k := by omega
    rw [h0] at e1 e2
    have h1 : (F.take a ++ P :: F.drop a).getD (a + 1 + k) [] = F.getD (a + k) [] := by
      rw [List.getD_eq_getElem?_getD, List.getElem?_append_right (by rw [List.length_take]; omega), List.length_take, Nat.min_eq_left ha, show a + 1 + k - a = k + 1 by omega, List.getElem?_cons_succ, List.getElem?_drop, ← List.getD_eq_getElem?_getD]
    rw [h1]
    refine ⟨p, d, ?_, e2⟩
    rw [List.append_assoc, List.getElem?_append_right (by rw [List.length_take]; omega), List.length_take, hl, Nat.min_eq_left ha, show a + 1 + k - a = k + 1 by omega, List.singleton_append, List.getElem?_cons_succ, List.getElem?_drop, e1]

theorem take_cells {W X : World} {g' a : Nat} {Rv : List Value} (h : ∀ j u, Rv[j]? = some u → W.cell? ⟨g', j, none⟩ = some u) (hg : g' < W.heap.size) (hb : Below W.heap.size W X) : ∀ j u, (Rv.take a)[j]? = some u → X.cell? ((⟨g', 0, none⟩ : Addr).add j) = some u := by
  intro j u hu
  have hadd : (⟨g', 0, none⟩ : Addr).add j = ⟨g', j, none⟩ := by unfold Addr.add; split <;> simp_all
  rw [hadd]
  refine cellOf2 hb (h j u ?_) hg
  rw [List.getElem?_take] at hu
  split at hu
  · exact hu
  · cases hu
theorem drop_cells {W X : World} {g' a : Nat} {Rv : List Value} (h : ∀ j u, Rv[j]? = some u → W.cell? ⟨g', j, none⟩ = some u) (hg : g' < W.heap.size) (hb : Below W.heap.size W X) : ∀ j u, (Rv.drop a)[j]? = some u → X.cell? ((⟨g', a, none⟩ : Addr).add j) = some u := by
  intro j u hu
  have hadd : (⟨g', a, none⟩ : Addr).add j = ⟨g', a + j, none⟩ := by unfold Addr.add; split <;> simp_all
  rw [hadd]
  refine cellOf2 hb (h (a + j) u ?_) hg
  rw [List.getElem?_drop] at hu
  exact hu

theorem posOf_len (H : List Nat) (i : Nat) (R : List Nat) : (posOf H i R).length ≤ H.length + R.length := by
  unfold posOf
  have h1 := ord_len (oth H i H.length ++ ints R)
  have h2 := oth_len H i H.length
  rw [List.length_append] at h1
  have h3 : (ints R).length = R.length := by unfold ints; rw [List.length_map]
  omega
theorem mvl_lens (ds H : List Nat) (i : Nat) (p : List Int) (h : p ∈ mvl ds H i) : p.length ≤ H.length + 2 := by
  unfold mvl at h
  obtain ⟨j, _, hj⟩ := List.mem_flatMap.1 h
  have h2 := (List.mem_filter.1 hj).1
  obtain ⟨R, hR, rfl⟩ := List.mem_map.1 h2
  obtain ⟨x, _, rfl⟩ := List.mem_map.1 hR
  have := posOf_len H j (rowOf x)
  have := row_len x
  omega
theorem out_one {w : World} {base : Nat} {v : Value} {P : List Int} {pp : Option Addr} {cp : Nat} (h : w.ownsRow base 22 1 v 1 [.slice pp P.length cp]) (hn : NI w pp P) : Out w v [P] :=
  out_of_own (F := [P]) h rfl (by simp) (fun i9 hi9 => by
    have h0 : i9 = 0 := by simp at hi9; omega
    subst h0
    exact ⟨pp, cp, rfl, hn⟩)
theorem Out.some {w : World} {v : Value} {F : List (List Int)} (h : Out w v F) (hl : 1 ≤ F.length) : ∃ g c, v = .slice (some ⟨g, 0, none⟩) F.length c ∧ F.length ≤ c ∧ c ≤ 9223372036854775807 := by
  rcases h with ⟨_, h⟩ | ⟨g, c, Rv, e, _, h1, h2, _⟩
  · rw [h] at hl; simp at hl
  · exact ⟨g, c, e, h1, h2⟩

set_option maxRecDepth 100000 in
set_option maxHeartbeats 8000000 in
theorem RMoves_any (t : ByteArray) (ds H : List Nat) (ph : Option Addr) (ch : Nat) (W : World) (hc : codeOf t = some ds) (hH : NS W ph H) (hl : H.length ≤ 10) (hm : ∀ h ∈ H, h ≤ 200) :
    Calls Try.prog 27 #[.string t, .slice ph H.length ch] W fun e w' => ∃ v, e = .returned v ∧ Out w' v (placed (mvl ds H H.length)) ∧ Below W.heap.size W w' := by
  obtain ⟨i1, hj, hy0, hy1, hy2⟩ := info_parts infoRow
  obtain ⟨cl1, cl8, -⟩ := codeOf_len hc
  have HML : Hid (∀ n, n ≤ 200 → (mvs n 0 ds).length ≤ 2000) := Lib.hid (fun n hn => by
    have h1 := mvs_len n ds 0
    have h2 : ds.length * (n + 2) ≤ 8 * 202 := Nat.mul_le_mul cl8 (by omega)
    omega)
  clear cl1 cl8
  have AFT := Lib.hid (fun n (hn : n ≤ 200) X => after_any t ds n X hc (by omega))
  have VAL := Lib.hid (fun n (hn : n ≤ 200) X => RValues_any t ds n X hc (by omega))
  clear hc
  have HH := Lib.hid hH
  have HM : Hid (∀ j, H.getD j 0 ≤ 200) := Lib.hid (fun j => by
    by_cases e : j < H.length
    · rw [List.getD_eq_getElem?_getD, List.getElem?_eq_getElem e]; exact hm _ (List.getElem_mem e)
    · rw [List.getD_eq_getElem?_getD, List.getElem?_eq_none (by omega)]; simp)
  obtain ⟨n, hn⟩ : ∃ n, H.length = n := ⟨_, rfl⟩
  have HN := Lib.hid hn
  rw [hn] at hl ⊢
  clear hn hm hH
  go_enter Try.func27, Try.ntmps27
  go_wp2_with fail
  go_loop [5, 6] (fun x y => ∃ m i : Nat, x = .int .i64 m ∧ y = .int .i64 i ∧ i ≤ n ∧ m ≤ 200 ∧ Hid (∀ j, j < i → H.getD j 0 ≤ m)) (fun _ y => n - (intOf y).toNat)
  case atStart => exact ⟨0, 0, rfl, rfl, by omega, by omega, Lib.hid (fun j hj => by omega)⟩
  case round =>
    obtain ⟨m, i, rfl, rfl, him, hm2, hall⟩ := hrel
    by_cases hlt : i < n
    · obtain ⟨g, e, hcell⟩ := HH.out i (by have := HN.out; omega)
      subst e
      obtain ⟨h, hh⟩ : ∃ h, H.getD i 0 = h := ⟨_, rfl⟩
      have h200 := HM.out i
      rw [hh] at hcell h200
      obtain ⟨m2, hm3⟩ : ∃ m2, max m h = m2 := ⟨_, rfl⟩
      have q1 : max (m : Int) (h : Int) = (m2 : Int) := by omega
      have HA2 : Hid (∀ j, j < i + 1 → H.getD j 0 ≤ m2) := Lib.hid (fun j hj => by
        by_cases e : j = i
        · subst e; omega
        · have := hall.out j (by omega); omega)
      have hm4 : m2 ≤ 200 := by omega
      have bi : (i : Int) < (n : Int) := by omega
      clear hm3 hh hall
      go_wp2_with fail
      go_round
      case rel => exact ⟨m2, i + 1, rfl, by go_num, by omega, hm4, HA2⟩
      case measure => simp [intOf]; omega
    · obtain rfl : n = i := by omega
      have HALL : Hid (∀ j, H.getD j 0 ≤ m) := Lib.hid (fun j => by
        by_cases e : j < n
        · exact hall.out j e
        · rw [List.getD_eq_getElem?_getD, List.getElem?_eq_none (by have := HN.out; omega)]; simp)
      clear hall
      go_wp2_with fail
      refine (VAL.out m (by omega) W).mono ?_
      rintro e U ⟨vv, rfl, hown, hbU⟩
      obtain ⟨g0, c0, rfl, hns⟩ := own_some hown (by rw [vals_len]; omega)
      have HV := Lib.hid hns
      have HHU := Lib.hid (HH.out.under hbU)
      have HBU := Lib.hid hbU
      rw [vals_len]
      clear hown hns hbU HH
      go_wp2_with fail
      go_loopw [8, 9] (fun x y wr => ∃ (v : Value) (k : Nat) (F : List (List Int)), v = x ∧ y = .int .i64 k ∧ k ≤ n ∧ F.length ≤ 2000 * k ∧ Hid (F = placed (mvl ds H k)) ∧ Hid (Out wr v F) ∧ Hid (Below U.heap.size U wr)) (fun _ y _ => n - (intOf y).toNat)
      case atStart => exact ⟨_, 0, [], rfl, rfl, by omega, by simp, Lib.hid rfl, Lib.hid (.inl ⟨rfl, rfl⟩), Lib.hid (Below.refl _ _)⟩
      case round =>
        obtain ⟨v, i, F, hv, rfl, hin, hfl, hF, hout, hb⟩ := hrel
        subst hv
        obtain ⟨wi, rfl⟩ : ∃ w, w = wr := ⟨_, rfl⟩
        by_cases hlt2 : i < n
        · obtain ⟨g, e, hcell⟩ := (HHU.out.under hb.out) i (by have := HN.out; omega)
          subst e
          obtain ⟨h, hh⟩ : ∃ h, H.getD i 0 = h := ⟨_, rfl⟩
          have h200 := HM.out i
          have hhm := HALL.out i
          rw [hh] at hcell h200 hhm
          have HHI := Lib.hid hh
          have bi : (i : Int) < (n : Int) := by omega
          clear hh
          go_wp2_with fail
          refine (AFT.out h h200 wi).mono ?_
          rintro e w3 ⟨l, rfl, har, hb3⟩
          obtain ⟨pl, cl, rfl, hrows, hpl⟩ := har.slice
          have HGM : Hid (∀ R ∈ (mvs h 0 ds).map rowOf, (∀ x ∈ R, x ≤ m) ∧ R.length ≤ 2) := Lib.hid (fun R hR => by
            obtain ⟨x, hx, rfl⟩ := List.mem_map.1 hR
            refine ⟨fun y hy => ?_, row_len x⟩
            have h1 := mvs_lt h ds 0 x hx
            unfold rowOf at hy
            split at hy
            · simp at hy
            · split at hy <;> simp at hy <;> omega)
          have hq2 : ((mvs h 0 ds).map rowOf).length ≤ 2000 := by rw [List.length_map]; exact HML.out h h200
          have HCD : Hid (cand ds H i = ((mvs h 0 ds).map rowOf).map (posOf H i)) := Lib.hid (by unfold cand; rw [HHI.out])
          obtain ⟨G, hG⟩ : ∃ G, (mvs h 0 ds).map rowOf = G := ⟨_, rfl⟩
          rw [hG] at hrows HGM hq2 HCD ⊢
          obtain ⟨q, hq⟩ : ∃ q, G.length = q := ⟨_, rfl⟩
          rw [hq] at hq2 ⊢
          have HQ := Lib.hid hq
          have HB3 : Hid (Below U.heap.size U w3) := Lib.hid (hb.out.trans (hb3.mono hb.out.size))
          have HRW := Lib.hid hrows
          have HO3 := Lib.hid (hout.out.under hb3)
          have HV3 := Lib.hid (HV.out.under HB3.out)
          have HH3 := Lib.hid (HHU.out.under HB3.out)
          clear har hrows hpl hb3 hG hq hout hcell
          go_wp2_with fail
          go_loopw [8, 11] (fun x y wr => ∃ (v : Value) (k : Nat) (F : List (List Int)), v = x ∧ y = .int .i64 k ∧ k ≤ q ∧ F.length ≤ 2000 * i + k ∧ Hid (F = placed (mvl ds H i ++ wins0 ds ((G.take k).map (posOf H i)))) ∧ Hid (Out wr v F) ∧ Hid (Below w3.heap.size w3 wr)) (fun _ y _ => q - (intOf y).toNat)
          case atStart => exact ⟨v, 0, F, rfl, rfl, by omega, by omega, Lib.hid (by rw [hF.out]; simp [wins0]), HO3, Lib.hid (Below.refl _ _)⟩
          case round =>
            clear HO3 hF hfl
            obtain ⟨v, k, F, hv, rfl, hkq, hfl, hF, hout, hbx⟩ := hrel
            subst hv
            obtain ⟨wk, rfl⟩ : ∃ w, w = wr := ⟨_, rfl⟩
            by_cases hlt3 : k < q
            · obtain ⟨R, hR⟩ : ∃ R, G.getD k [] = R := ⟨_, rfl⟩
              have hkG : k < G.length := by have := HQ.out; omega
              obtain ⟨gl, pr, cr, e1, hcl, hnr⟩ := HRW.out.row hkG hR
              subst e1
              have hRm : R ∈ G := by
                rw [← hR, List.getD_eq_getElem?_getD, List.getElem?_eq_getElem hkG]; exact List.getElem_mem _
              have HRM := Lib.hid (HGM.out R hRm)
              have HTK : Hid ((G.take (k + 1)).map (posOf H i) = (G.take k).map (posOf H i) ++ [posOf H i R]) := Lib.hid (by
                rw [List.take_succ_eq_append_getElem hkG, List.map_append, ← hR, List.getD_eq_getElem?_getD, List.getElem?_eq_getElem hkG]; rfl)
              obtain ⟨r, hr⟩ : ∃ r, R.length = r := ⟨_, rfl⟩
              rw [hr] at hcl
              have HR := Lib.hid hr
              have HCL : Hid (∀ X, Below w3.heap.size w3 X → X.cell? ⟨gl, k, none⟩ = some (.slice pr r cr)) := Lib.hid (fun X h => cellOf2 h hcl (cell_lt2 hcl))
              have HNR : Hid (∀ X, Below w3.heap.size w3 X → NS X pr R) := Lib.hid (fun X h => hnr.under h)
              have bk : (k : Int) < (q : Int) := by omega
              clear hR hkG hcl hnr hRm hr
              go_wp2_with fail
              go_loopw [12, 13] (fun x y wr => ∃ (u : Value) (P : List Int) (j : Nat), u = x ∧ y = .int .i64 j ∧ j ≤ n ∧ Hid (P = (oth H i j).foldl ins []) ∧ Hid (Row1 wr u P) ∧ Hid (Below w3.heap.size w3 wr) ∧ Hid (Below wk.heap.size wk wr)) (fun _ y _ => n - (intOf y).toNat)
              case atStart => exact ⟨_, [], 0, rfl, rfl, by omega, Lib.hid rfl, Lib.hid (.inl ⟨rfl, rfl⟩), hbx, Lib.hid (Below.refl _ _)⟩
              case round =>
                obtain ⟨u, P, j, hu, rfl, hjn, hP, hrow, hbz, hbk⟩ := hrel
                subst hu
                obtain ⟨wj, rfl⟩ : ∃ w, w = wr := ⟨_, rfl⟩
                have hPl : P.length ≤ 10 := by rw [hP.out]; have h1 := fold_len (oth H i j); have h2 := oth_len H i j; omega
                by_cases hlt4 : j < n
                · have bj : (j : Int) < (n : Int) := by omega
                  by_cases hji : j = i
                  · have q1 : ((j : Int) == (i : Int)) = true := by simp [hji]
                    have q2 : ((j : Int) != (i : Int)) = false := by simp [hji]
                    have HS : Hid (P = (oth H i (j + 1)).foldl ins []) := Lib.hid (by rw [oth_succ, if_pos hji, List.append_nil]; exact hP.out)
                    clear hji hP
                    go_wp2_with fail
                    go_roundw
                    case rel => exact ⟨u, P, j + 1, rfl, by go_num, by omega, HS, hrow, hbz, hbk⟩
                    case measure => simp [intOf]; omega
                  · have q1 : ((j : Int) == (i : Int)) = false := by simp; omega
                    have q2 : ((j : Int) != (i : Int)) = true := by simp; omega
                    obtain ⟨g', e, hcj⟩ := (HH3.out.under hbz.out) j (by have := HN.out; omega)
                    cases e
                    have HS : Hid (ins P ((H.getD j 0 : Nat) : Int) = (oth H i (j + 1)).foldl ins []) := Lib.hid (by rw [oth_succ, if_neg hji, fold_snoc, hP.out])
                    generalize H.getD j 0 = a at *
                    clear hji hP
                    go_wp2_with fail
                    refine (put_any P u a wj hrow.out (by omega)).mono ?_
                    rintro e w5 ⟨u5, rfl, hr5, hb5⟩
                    have HR5 := Lib.hid hr5
                    have HB5 := Lib.hid (hbz.out.trans (hb5.mono hbz.out.size))
                    have HK5 := Lib.hid (hbk.out.trans (hb5.mono hbk.out.size))
                    clear hr5 hb5 hrow hbz hbk
                    go_wp2_with fail
                    go_roundw
                    case rel => exact ⟨u5, _, j + 1, rfl, by go_num, by omega, HS, HR5, HB5, HK5⟩
                    case measure => simp [intOf]; omega
                · have HP1 : Hid (P = (oth H i n).foldl ins []) := Lib.hid (by rw [show n = j by omega]; exact hP.out)
                  clear hP
                  have HWJ := hrow
                  go_wp2_with fail
                  go_loopw [12, 14] (fun x y wr => ∃ (u : Value) (P : List Int) (j : Nat), u = x ∧ y = .int .i64 j ∧ j ≤ r ∧ Hid (P = (oth H i n ++ ints (R.take j)).foldl ins []) ∧ Hid (Row1 wr u P) ∧ Hid (Below w3.heap.size w3 wr) ∧ Hid (Below wk.heap.size wk wr)) (fun _ y _ => r - (intOf y).toNat)
                  case atStart => exact ⟨u, P, 0, rfl, rfl, by omega, Lib.hid (by rw [HP1.out]; simp [ints]), hrow, hbz, hbk⟩
                  case round =>
                    clear HP1 hrow HWJ hbz hbk hPl
                    obtain ⟨u, P, j, hu, rfl, hjr, hP, hrow, hbz, hbk⟩ := hrel
                    subst hu
                    obtain ⟨wj, rfl⟩ : ∃ w, w = wr := ⟨_, rfl⟩
                    have hr2 : r ≤ 2 := by have := HRM.out.2; have := HR.out; omega
                    have hPl : P.length ≤ 12 := by
                      rw [hP.out]; have h1 := fold_len (oth H i n ++ ints (R.take j)); have h2 := oth_len H i n
                      rw [List.length_append] at h1
                      have h3 : (ints (R.take j)).length ≤ j := by unfold ints; rw [List.length_map, List.length_take]; omega
                      omega
                    have hcl := HCL.out wj hbz.out
                    by_cases hlt5 : j < r
                    · have bj : (j : Int) < (r : Int) := by omega
                      obtain ⟨g', e, hcj⟩ := HNR.out wj hbz.out j (by have := HR.out; omega)
                      subst e
                      have HS : Hid (ins P ((R.getD j 0 : Nat) : Int) = (oth H i n ++ ints (R.take (j + 1))).foldl ins []) := Lib.hid (by
                        have h9 : j < R.length := by have := HR.out; omega
                        rw [List.take_succ_eq_append_getElem h9]
                        have h10 : ints (R.take j ++ [R[j]]) = ints (R.take j) ++ [((R.getD j 0 : Nat) : Int)] := by unfold ints; rw [List.map_append, List.getD_eq_getElem?_getD, List.getElem?_eq_getElem h9]; rfl
                        rw [h10, ← List.append_assoc, fold_snoc, hP.out])
                      generalize R.getD j 0 = a at *
                      clear hP
                      go_wp2_with fail
                      refine (put_any P u a wj hrow.out (by omega)).mono ?_
                      rintro e w5 ⟨u5, rfl, hr5, hb5⟩
                      have HR5 := Lib.hid hr5
                      have HB5 := Lib.hid (hbz.out.trans (hb5.mono hbz.out.size))
                      have HK5 := Lib.hid (hbk.out.trans (hb5.mono hbk.out.size))
                      clear hr5 hb5 hrow hbz hbk
                      go_wp2_with fail
                      go_roundw
                      case rel => exact ⟨u5, _, j + 1, rfl, by go_num, by omega, HS, HR5, HB5, HK5⟩
                      case measure => simp [intOf]; omega
                    · have HP2 : Hid (P = posOf H i R) := Lib.hid (by
                        unfold posOf
                        rw [hP.out, ins_ord, List.take_of_length_le (by have := HR.out; omega), HN.out])
                      clear hP
                      obtain ⟨pp, cp, rfl, hnp⟩ := hrow.out.shape
                      have HNP := Lib.hid hnp
                      have hPl2 : P.length ≤ 12 := hPl
                      have HMEM : Hid (∀ z ∈ P, ∃ b : Nat, z = (b : Int) ∧ b ≤ m) := Lib.hid (fun z hz => by
                        rw [HP2.out, posOf, ord_mem] at hz
                        rcases List.mem_append.1 hz.1 with h | h
                        · unfold oth at h
                          obtain ⟨j9, _, rfl⟩ := List.mem_map.1 h
                          exact ⟨_, rfl, HALL.out j9⟩
                        · unfold ints at h
                          obtain ⟨x9, hx9, rfl⟩ := List.mem_map.1 h
                          exact ⟨_, rfl, HRM.out.1 x9 hx9⟩)
                      have HVJ := Lib.hid (HV3.out.under hbz.out)
                      have HLEN : Hid (∀ A ∈ F, A.length ≤ 12) := Lib.hid (fun A hA => by
                        rw [hF.out, placed_mem] at hA
                        rcases List.mem_append.1 hA with h | h
                        · have := mvl_lens ds H i A h; have := HN.out; omega
                        · obtain ⟨h1, _⟩ := List.mem_filter.1 h
                          obtain ⟨R9, hR9, rfl⟩ := List.mem_map.1 h1
                          have h2 := posOf_len H i R9
                          have h3 := (HGM.out R9 (List.take_subset _ _ hR9)).2
                          have := HN.out; omega)
                      have HS0 : Hid (¬ gx ds P = 0 → F = placed (mvl ds H i ++ wins0 ds ((G.take (k + 1)).map (posOf H i)))) := Lib.hid (fun h => by
                        rw [HTK.out, wins0_snoc, ← HP2.out, if_neg h, List.append_nil]; exact hF.out)
                      have HS1 : Hid (gx ds P = 0 → place F P = placed (mvl ds H i ++ wins0 ds ((G.take (k + 1)).map (posOf H i)))) := Lib.hid (fun h => by
                        rw [HTK.out, wins0_snoc, ← HP2.out, if_pos h, ← List.append_assoc, placed_snoc, ← hF.out])
                      have HOZ := Lib.hid (hout.out.under hbk.out)
                      obtain ⟨f, hf⟩ : ∃ f, F.length = f := ⟨_, rfl⟩
                      have HF := Lib.hid hf
                      rw [hf] at hfl
                      clear hf hF hout hrow hnp HTK HP2 hbk HRM HR
                      go_wp2_with fail
                      go_loop [15, 16] (fun x y => ∃ z j : Nat, x = .int .i64 z ∧ y = .int .i64 j ∧ j ≤ P.length ∧ z < 256 ∧ Hid (z = gx ds (P.take j))) (fun _ y => P.length - (intOf y).toNat)
                      case atStart => exact ⟨0, 0, rfl, rfl, by omega, by omega, Lib.hid rfl⟩
                      case round =>
                        obtain ⟨z, j, rfl, rfl, hjp, hz8, hz⟩ := hrel
                        by_cases hlt6 : j < P.length
                        · obtain ⟨g2, e2, cP⟩ := HNP.out j hlt6
                          subst e2
                          obtain ⟨b, hb1, hb2⟩ := HMEM.out (P.getD j 0) (by rw [List.getD_eq_getElem?_getD, List.getElem?_eq_getElem hlt6]; exact List.getElem_mem _)
                          rw [hb1] at cP
                          obtain ⟨g3, e3, cV⟩ := HVJ.out b (by rw [vals_len]; omega)
                          cases e3
                          rw [vals_getD ds (m + 1) b (by omega)] at cV
                          have hvx : gv ds b ≤ b := vals_le ds (b + 1) b
                          have HZ2 : Hid (z ^^^ gv ds b = gx ds (P.take (j + 1))) := Lib.hid (by
                            rw [List.take_succ_eq_append_getElem hlt6, gx_snoc, ← hz.out]
                            have h9 : P[j] = (b : Int) := by rw [← hb1, List.getD_eq_getElem?_getD, List.getElem?_eq_getElem hlt6]; rfl
                            rw [h9, Int.toNat_natCast])
                          have hvx2 : gv ds b < 256 := by omega
                          generalize gv ds b = x at *
                          have X1 := xor_nat z x (by omega) (by omega)
                          have hx8 : z ^^^ x < 256 := Nat.xor_lt_two_pow (n := 8) hz8 hvx2
                          have bx : (b : Int) < ((m + 1 : Nat) : Int) := by omega
                          have bj : (j : Int) < (P.length : Int) := by omega
                          obtain ⟨zz, hzz⟩ : ∃ zz, z ^^^ x = zz := ⟨_, rfl⟩
                          rw [hzz] at HZ2 X1 hx8
                          clear hzz hz hb1
                          go_wp2_with fail
                          go_round
                          case rel => exact ⟨zz, j + 1, rfl, by go_num, by omega, hx8, HZ2⟩
                          case measure => simp [intOf]; omega
                        · have HZ : Hid (z = gx ds P) := Lib.hid (by rw [hz.out, List.take_of_length_le (by omega)])
                          clear hz
                          rcases HOZ.out with ⟨hv0, hF0⟩ | ⟨g', c, Rv, hv1, f1, hfc, hc9, hgl, hRv, hcells, hrows⟩
                          · subst hv0
                            have HF0 := Lib.hid hF0
                            clear hF0
                            go_wp2_with fail
                            go_loop [17] (fun y => y = .int .i64 0) (fun _ => 0)
                            case atStart => rfl
                            case round =>
                              subst hrel
                              by_cases hz0 : z = 0
                              · have qz1 : ((z : Int) == 0) = true := by simp [hz0]
                                have qz2 : ((z : Int) != 0) = false := by simp [hz0]
                                have HS : Hid ([P] = placed (mvl ds H i ++ wins0 ds ((G.take (k + 1)).map (posOf H i)))) := Lib.hid (by rw [← HS1.out (by rw [← HZ.out]; exact hz0), HF0.out]; rfl)
                                clear hz0
                                go_wp2_with (at_builtin; (refine wpList_append_own_at _ rfl _ _ 33 rfl wj.heap.size 22 i1 (.slice none 0 0) 1 24 Try.underlying33 hj hy0 hy1 hy2 rfl (by decide) (.slice none 0 0) 0 [] rfl (World.ownsRow_nil _ wj.heap.size 22 1) ⟨wj.heap.size, 0, none⟩ 1 1 [.slice pp P.length cp] rfl rfl (cell_one_new _ _ _) (fun y hy => by simp at hy; subst hy; rfl) (by unfold maxLen; omega) (by omega) (by simp) ?_; intro v' w4 hw1 hw2 _ hw3; have HB4 : Hid (Below wj.heap.size wj w4) := Lib.hid (((Below.refl _ wj).alloc (Nat.le_refl _) _).trans ⟨hw2.os, hw2.tape, hw2.output, hw2.size, fun b hb => hw2.block b (by simp; omega) (by simp [Value.ownBlock])⟩); have HO4 : Hid (Out w4 v' [P]) := Lib.hid (out_one hw1 (HNP.out.lower HB4.out)); obtain ⟨g9, c9, rfl, hc1, hc2⟩ := HO4.out.some (by simp); simp only [List.length_cons, List.length_nil, Nat.zero_add] at hc1 HO4 ⊢; clear hw1 hw2 hw3))
                                go_roundw
                                case rel => exact ⟨_, k + 1, [P], rfl, by go_num, by omega, by simp; omega, HS, HO4, Lib.hid (hbz.out.trans (HB4.out.mono hbz.out.size))⟩
                                case measure => simp [intOf]; omega
                              · have qz1 : ((z : Int) == 0) = false := by simp; omega
                                have qz2 : ((z : Int) != 0) = true := by simp; omega
                                have HS := Lib.hid (HS0.out (by rw [← HZ.out]; exact hz0))
                                clear hz0
                                go_wp2_with fail
                                go_roundw
                                case rel => exact ⟨_, k + 1, F, rfl, by go_num, by omega, by have := HF.out; omega, HS, HOZ, hbz⟩
                                case measure => simp [intOf]; omega
                          · subst hv1
                            have HOZ2 : Hid (Out wj (.slice (some ⟨g', 0, none⟩) f c) F) := Lib.hid (by rw [← HF.out]; exact HOZ.out)
                            rw [HF.out] at hfc f1 ⊢
                            have HRV := Lib.hid (hRv.trans HF.out)
                            have HCE := Lib.hid hcells
                            have HRO := Lib.hid hrows
                            have HGL := Lib.hid hgl
                            have HOC : Hid (∀ y ∈ Rv, y.oneCell' = true) := Lib.hid (fun y hy => by
                              obtain ⟨i9, hi9, rfl⟩ := List.getElem_of_mem hy
                              obtain ⟨p9, d9, e9, _⟩ := hrows i9 (by omega)
                              rw [List.getElem?_eq_getElem hi9] at e9
                              rw [Option.some.inj e9]; rfl)
                            have NPY : Hid (∀ X, Below wj.heap.size wj X → NI X pp P) := Lib.hid (fun X h => HNP.out.lower h)
                            clear hRv hcells hrows hgl HOZ
                            go_wp2_with fail
                            go_loopw [17] (fun x wr => ∃ a : Nat, x = .int .i64 a ∧ a ≤ f ∧ Hid (∀ j, j < a → ltL (F.getD j []) P) ∧ Hid (Below wj.heap.size wj wr)) (fun x _ => f - (intOf x).toNat)
                            case atStart => exact ⟨0, rfl, by omega, Lib.hid (fun j hj => by omega), Lib.hid (Below.refl _ _)⟩
                            case round =>
                              obtain ⟨a, rfl, haf, hall, hby⟩ := hrel
                              obtain ⟨wy, rfl⟩ : ∃ w, w = wr := ⟨_, rfl⟩
                              by_cases ha : a < f
                              · obtain ⟨pa, da, ea, na⟩ := HRO.out a (by have := HF.out; omega)
                                obtain ⟨A, hA⟩ : ∃ A, F.getD a [] = A := ⟨_, rfl⟩
                                rw [hA] at ea na
                                have hAl : A.length ≤ 12 := HLEN.out A (by
                                  rw [← hA, List.getD_eq_getElem?_getD, List.getElem?_eq_getElem (show a < F.length by have := HF.out; omega)]; exact List.getElem_mem _)
                                have NAY : Hid (∀ X, Below wj.heap.size wj X → NI X pa A) := Lib.hid (fun X h => na.lower h)
                                have HCA : Hid (∀ X, Below wj.heap.size wj X → X.cell? ⟨g', a, none⟩ = some (.slice pa A.length da)) := Lib.hid (fun X h => cellOf2 h (HCE.out a _ ea) HGL.out)
                                have hca := HCA.out wy hby.out
                                have HAA := Lib.hid hA
                                have ba : (a : Int) < (f : Int) := by omega
                                clear ea na hA
                                by_cases hlt : ltL A P
                                · have hd : decide (cmpL A P < 0) = true := decide_eq_true hlt
                                  have HA2 : Hid (∀ j, j < a + 1 → ltL (F.getD j []) P) := Lib.hid (fun j hj => by
                                    by_cases e : j = a
                                    · rw [e, HAA.out]; exact hlt
                                    · exact hall.out j (by omega))
                                  clear hlt hall
                                  go_wp2_with fail
                                  refine (before_any A P pa pp da cp wy (NAY.out wy hby.out) (NPY.out wy hby.out) (by omega) (by omega)).mono ?_
                                  rintro e w5 ⟨rfl, hb5⟩
                                  rw [hd]
                                  have HB5 := Lib.hid (hby.out.trans (hb5.mono hby.out.size))
                                  clear hb5 hby hca
                                  go_wp2_with fail
                                  go_roundw
                                  case rel => exact ⟨a + 1, by go_num, by omega, HA2, HB5⟩
                                  case measure => simp [intOf]; omega
                                · have hd : decide (cmpL A P < 0) = false := decide_eq_false hlt
                                  have HPL := Lib.hid (place_at P F a (by have := HF.out; omega) hall.out (fun _ => by rw [HAA.out]; exact hlt))
                                  clear hlt hall
                                  go_wp2_with fail
                                  refine (before_any A P pa pp da cp wy (NAY.out wy hby.out) (NPY.out wy hby.out) (by omega) (by omega)).mono ?_
                                  rintro e w5 ⟨rfl, hb5⟩
                                  rw [hd]
                                  have HB5 := Lib.hid (hby.out.trans (hb5.mono hby.out.size))
                                  clear hb5 hby hca
                                  have hca5 := HCA.out w5 HB5.out
                                  by_cases hz0 : z = 0
                                  · have qz1 : ((z : Int) == 0) = true := by simp [hz0]
                                    have qz2 : ((z : Int) != 0) = false := by simp [hz0]
                                    have hg0 : gx ds P = 0 := by rw [← HZ.out]; exact hz0
                                    by_cases hpa : ltL P A
                                    · have hd2 : decide (cmpL P A < 0) = true := decide_eq_true hpa
                                      have HS : Hid (F.take a ++ P :: F.drop a = placed (mvl ds H i ++ wins0 ds ((G.take (k + 1)).map (posOf H i)))) := Lib.hid (by rw [← HS1.out hg0, HPL.out, if_pos (.inr (by rw [HAA.out]; exact hpa))])
                                      clear hz0 hg0 hpa
                                      go_wp2_with fail
                                      refine (before_any P A pp pa cp da w5 (NPY.out w5 HB5.out) (NAY.out w5 HB5.out) (by omega) (by omega)).mono ?_
                                      rintro e wy ⟨rfl, hb6⟩
                                      rw [hd2]
                                      have HB6 := Lib.hid (HB5.out.trans (hb6.mono HB5.out.size))
                                      have HN1 := Lib.hid (take_cells (a := a) HCE.out HGL.out HB6.out)
                                      have HN3 : Hid (∀ X, Below wy.heap.size wy X → ∀ j u, (Rv.drop a)[j]? = some u → X.cell? ((⟨g', a, none⟩ : Addr).add j) = some u) := Lib.hid (fun X hX => drop_cells HCE.out HGL.out (HB6.out.trans (hX.mono HB6.out.size)))
                                      have HMID : Hid (∀ X, Below wy.heap.size wy X → ∀ i9, i9 < (F.take a ++ P :: F.drop a).length → ∃ p d, (Rv.take a ++ [.slice pp P.length cp] ++ Rv.drop a)[i9]? = some (.slice p ((F.take a ++ P :: F.drop a).getD i9 []).length d) ∧ NI X p ((F.take a ++ P :: F.drop a).getD i9 [])) := Lib.hid (fun X hX => rows_mid (fun i9 hi9 => by
                                        obtain ⟨p9, d9, e9, n9⟩ := HRO.out i9 hi9
                                        exact ⟨p9, d9, e9, n9.lower (HB6.out.trans (hX.mono HB6.out.size))⟩) (HRV.out.trans HF.out.symm) (NPY.out X (HB6.out.trans (hX.mono HB6.out.size))) (by have := HF.out; omega))
                                      clear hb6 hca5
                                      have hci : ¬ c = a := by omega
                                      go_wp2_with (at_builtin; first | (refine wpList_append_own_at _ rfl _ _ 33 rfl wy.heap.size 22 i1 (.slice none 0 0) 1 24 Try.underlying33 hj hy0 hy1 hy2 rfl (by decide) (.slice none 0 0) 0 [] rfl (World.ownsRow_nil _ wy.heap.size 22 1) ⟨g', 0, none⟩ a c (Rv.take a) rfl (by rw [List.length_take, HRV.out]; omega) HN1.out (fun y hy => HOC.out y (List.take_subset _ _ hy)) (by unfold maxLen; omega) (by omega) (Nat.le_refl _) ?_; intro v1 w4 hw1 hw2 _ hw3; rw [List.nil_append, Nat.zero_add] at hw1; have O1 := Lib.hid hw1; have K4 : Hid (Below wy.heap.size wy w4) := Lib.hid ⟨hw2.os, hw2.tape, hw2.output, hw2.size, fun b hb => hw2.block b hb (by simp [Value.ownBlock])⟩; clear hw1 hw2 hw3) | (refine wpList_append_own_at _ rfl _ _ 33 rfl wy.heap.size 22 i1 (.slice none 0 0) 1 24 Try.underlying33 hj hy0 hy1 hy2 rfl (by decide) v1 a (Rv.take a) rfl (O1.out.alloc _) ⟨w4.heap.size, 0, none⟩ 1 1 [.slice pp P.length cp] rfl rfl (cell_one_new _ _ _) (fun y hy => by simp at hy; subst hy; rfl) (by unfold maxLen; omega) (by omega) (by have := K4.out.size; simp; omega) ?_; intro v2 w6 hw1 hw2 _ hw3; have O2 := Lib.hid hw1; have K6 : Hid (Below wy.heap.size wy w6) := Lib.hid ((K4.out.alloc K4.out.size _).trans ⟨hw2.os, hw2.tape, hw2.output, hw2.size, fun b hb => hw2.block b (by have := K4.out.size; simp; omega) (fun e => by have := own_baseR O1.out b e.symm; omega)⟩); have B2 : Hid (∀ b, v2.ownBlock = some b → wy.heap.size ≤ b) := Lib.hid (own_baseR O2.out); clear hw1 hw2 hw3) | (refine wpList_append_own_at _ rfl _ _ 33 rfl wy.heap.size 22 i1 (.slice none 0 0) 1 24 Try.underlying33 hj hy0 hy1 hy2 rfl (by decide) v2 (a + 1) (Rv.take a ++ [.slice pp P.length cp]) rfl O2.out ⟨g', a, none⟩ (f - a) (c - a) (Rv.drop a) rfl (by rw [List.length_drop, HRV.out, Nat.mul_one]) (HN3.out w6 K6.out) (fun y hy => HOC.out y (List.drop_subset _ _ hy)) (by unfold maxLen; omega) (by omega) (by have := K6.out.size; omega) ?_; intro v3 w8 hw1 hw2 _ hw3; have HB8 : Hid (Below wy.heap.size wy w8) := Lib.hid (K6.out.trans ⟨hw2.os, hw2.tape, hw2.output, hw2.size, fun b hb => hw2.block b (by have := K6.out.size; omega) (fun e => by have := B2.out b e.symm; omega)⟩); have HR8 : Hid (Out w8 v3 (F.take a ++ P :: F.drop a)) := Lib.hid (out_of_own hw1 (by simp only [List.length_append, List.length_take, List.length_drop, HF.out, List.length_cons]; omega) (by rw [List.length_append, List.length_cons]; omega) (HMID.out w8 HB8.out)); clear hw1 hw2 hw3))
                                      go_roundw
                                      case rel => exact ⟨v3, k + 1, _, rfl, by go_num, by omega, by have := HF.out; simp only [List.length_append, List.length_take, List.length_drop, List.length_cons]; omega, HS, HR8, Lib.hid (hbz.out.trans ((HB6.out.trans (HB8.out.mono HB6.out.size)).mono hbz.out.size))⟩
                                      case measure => simp [intOf]; omega
                                    · have hd2 : decide (cmpL P A < 0) = false := decide_eq_false hpa
                                      have HS : Hid (F = placed (mvl ds H i ++ wins0 ds ((G.take (k + 1)).map (posOf H i)))) := Lib.hid (by rw [← HS1.out hg0, HPL.out, if_neg (fun h9 => by rw [HAA.out] at h9; exact h9.elim (fun h9 => by have := HF.out; omega) hpa)])
                                      clear hz0 hg0 hpa
                                      go_wp2_with fail
                                      refine (before_any P A pp pa cp da w5 (NPY.out w5 HB5.out) (NAY.out w5 HB5.out) (by omega) (by omega)).mono ?_
                                      rintro e w6 ⟨rfl, hb6⟩
                                      rw [hd2]
                                      have HB6 := Lib.hid (HB5.out.trans (hb6.mono HB5.out.size))
                                      clear hb6 hca5
                                      go_wp2_with fail
                                      go_roundw
                                      case rel => exact ⟨_, k + 1, F, rfl, by go_num, by omega, by have := HF.out; omega, HS, Lib.hid (HOZ2.out.under HB6.out), Lib.hid (hbz.out.trans (HB6.out.mono hbz.out.size))⟩
                                      case measure => simp [intOf]; omega
                                  · have qz1 : ((z : Int) == 0) = false := by simp; omega
                                    have qz2 : ((z : Int) != 0) = true := by simp; omega
                                    have HS := Lib.hid (HS0.out (by rw [← HZ.out]; exact hz0))
                                    clear hz0
                                    go_wp2_with fail
                                    go_roundw
                                    case rel => exact ⟨_, k + 1, F, rfl, by go_num, by omega, by have := HF.out; omega, HS, Lib.hid (HOZ2.out.under HB5.out), Lib.hid (hbz.out.trans (HB5.out.mono hbz.out.size))⟩
                                    case measure => simp [intOf]; omega
                              · obtain rfl : a = f := by omega
                                have HPL := Lib.hid (place_at P F a (by have := HF.out; omega) hall.out (fun h => by have := HF.out; omega))
                                have HB6 := hby
                                clear hall hby
                                by_cases hz0 : z = 0
                                · have qz1 : ((z : Int) == 0) = true := by simp [hz0]
                                  have qz2 : ((z : Int) != 0) = false := by simp [hz0]
                                  have hg0 : gx ds P = 0 := by rw [← HZ.out]; exact hz0
                                  have HS : Hid (F.take a ++ P :: F.drop a = placed (mvl ds H i ++ wins0 ds ((G.take (k + 1)).map (posOf H i)))) := Lib.hid (by rw [← HS1.out hg0, HPL.out, if_pos (.inl HF.out.symm)])
                                  clear hz0 hg0
                                  have HN1 := Lib.hid (take_cells (a := a) HCE.out HGL.out HB6.out)
                                  have HN3 : Hid (∀ X, Below wy.heap.size wy X → ∀ j u, (Rv.drop a)[j]? = some u → X.cell? ((⟨g', a, none⟩ : Addr).add j) = some u) := Lib.hid (fun X hX => drop_cells HCE.out HGL.out (HB6.out.trans (hX.mono HB6.out.size)))
                                  have HMID : Hid (∀ X, Below wy.heap.size wy X → ∀ i9, i9 < (F.take a ++ P :: F.drop a).length → ∃ p d, (Rv.take a ++ [.slice pp P.length cp] ++ Rv.drop a)[i9]? = some (.slice p ((F.take a ++ P :: F.drop a).getD i9 []).length d) ∧ NI X p ((F.take a ++ P :: F.drop a).getD i9 [])) := Lib.hid (fun X hX => rows_mid (fun i9 hi9 => by
                                    obtain ⟨p9, d9, e9, n9⟩ := HRO.out i9 hi9
                                    exact ⟨p9, d9, e9, n9.lower (HB6.out.trans (hX.mono HB6.out.size))⟩) (HRV.out.trans HF.out.symm) (NPY.out X (HB6.out.trans (hX.mono HB6.out.size))) (by have := HF.out; omega))
                                  by_cases hci : c = a
                                  · have hci : c = a := hci
                                    go_wp2_with (at_builtin; first | (refine wpList_append_own_at _ rfl _ _ 33 rfl wy.heap.size 22 i1 (.slice none 0 0) 1 24 Try.underlying33 hj hy0 hy1 hy2 rfl (by decide) (.slice none 0 0) 0 [] rfl (World.ownsRow_nil _ wy.heap.size 22 1) ⟨g', 0, none⟩ a a (Rv.take a) rfl (by rw [List.length_take, HRV.out]; omega) HN1.out (fun y hy => HOC.out y (List.take_subset _ _ hy)) (by unfold maxLen; omega) (by omega) (Nat.le_refl _) ?_; intro v1 w4 hw1 hw2 _ hw3; rw [List.nil_append, Nat.zero_add] at hw1; have O1 := Lib.hid hw1; have K4 : Hid (Below wy.heap.size wy w4) := Lib.hid ⟨hw2.os, hw2.tape, hw2.output, hw2.size, fun b hb => hw2.block b hb (by simp [Value.ownBlock])⟩; clear hw1 hw2 hw3) | (refine wpList_append_own_at _ rfl _ _ 33 rfl wy.heap.size 22 i1 (.slice none 0 0) 1 24 Try.underlying33 hj hy0 hy1 hy2 rfl (by decide) v1 a (Rv.take a) rfl (O1.out.alloc _) ⟨w4.heap.size, 0, none⟩ 1 1 [.slice pp P.length cp] rfl rfl (cell_one_new _ _ _) (fun y hy => by simp at hy; subst hy; rfl) (by unfold maxLen; omega) (by omega) (by have := K4.out.size; simp; omega) ?_; intro v2 w6 hw1 hw2 _ hw3; have O2 := Lib.hid hw1; have K6 : Hid (Below wy.heap.size wy w6) := Lib.hid ((K4.out.alloc K4.out.size _).trans ⟨hw2.os, hw2.tape, hw2.output, hw2.size, fun b hb => hw2.block b (by have := K4.out.size; simp; omega) (fun e => by have := own_baseR O1.out b e.symm; omega)⟩); have B2 : Hid (∀ b, v2.ownBlock = some b → wy.heap.size ≤ b) := Lib.hid (own_baseR O2.out); clear hw1 hw2 hw3) | (refine wpList_append_own_at _ rfl _ _ 33 rfl wy.heap.size 22 i1 (.slice none 0 0) 1 24 Try.underlying33 hj hy0 hy1 hy2 rfl (by decide) v2 (a + 1) (Rv.take a ++ [.slice pp P.length cp]) rfl O2.out ⟨g', 0, none⟩ 0 _ (Rv.drop a) rfl (by simp [HRV.out]) (fun j u hu => by rw [List.drop_eq_nil_iff.2 (by have := HRV.out; omega)] at hu; simp at hu) (fun y hy => HOC.out y (List.drop_subset _ _ hy)) (by unfold maxLen; omega) (by omega) (by have := K6.out.size; omega) ?_; intro v3 w8 hw1 hw2 _ hw3; have HB8 : Hid (Below wy.heap.size wy w8) := Lib.hid (K6.out.trans ⟨hw2.os, hw2.tape, hw2.output, hw2.size, fun b hb => hw2.block b (by have := K6.out.size; omega) (fun e => by have := B2.out b e.symm; omega)⟩); have HR8 : Hid (Out w8 v3 (F.take a ++ P :: F.drop a)) := Lib.hid (out_of_own hw1 (by simp only [List.length_append, List.length_take, List.length_drop, HF.out, List.length_cons]; omega) (by rw [List.length_append, List.length_cons]; omega) (HMID.out w8 HB8.out)); clear hw1 hw2 hw3))
                                    go_roundw
                                    case rel => exact ⟨v3, k + 1, _, rfl, by go_num, by omega, by have := HF.out; simp only [List.length_append, List.length_take, List.length_drop, List.length_cons]; omega, HS, HR8, Lib.hid (hbz.out.trans ((HB6.out.trans (HB8.out.mono HB6.out.size)).mono hbz.out.size))⟩
                                    case measure => simp [intOf]; omega
                                  · have hci : ¬ c = a := hci
                                    go_wp2_with (at_builtin; first | (refine wpList_append_own_at _ rfl _ _ 33 rfl wy.heap.size 22 i1 (.slice none 0 0) 1 24 Try.underlying33 hj hy0 hy1 hy2 rfl (by decide) (.slice none 0 0) 0 [] rfl (World.ownsRow_nil _ wy.heap.size 22 1) ⟨g', 0, none⟩ a c (Rv.take a) rfl (by rw [List.length_take, HRV.out]; omega) HN1.out (fun y hy => HOC.out y (List.take_subset _ _ hy)) (by unfold maxLen; omega) (by omega) (Nat.le_refl _) ?_; intro v1 w4 hw1 hw2 _ hw3; rw [List.nil_append, Nat.zero_add] at hw1; have O1 := Lib.hid hw1; have K4 : Hid (Below wy.heap.size wy w4) := Lib.hid ⟨hw2.os, hw2.tape, hw2.output, hw2.size, fun b hb => hw2.block b hb (by simp [Value.ownBlock])⟩; clear hw1 hw2 hw3) | (refine wpList_append_own_at _ rfl _ _ 33 rfl wy.heap.size 22 i1 (.slice none 0 0) 1 24 Try.underlying33 hj hy0 hy1 hy2 rfl (by decide) v1 a (Rv.take a) rfl (O1.out.alloc _) ⟨w4.heap.size, 0, none⟩ 1 1 [.slice pp P.length cp] rfl rfl (cell_one_new _ _ _) (fun y hy => by simp at hy; subst hy; rfl) (by unfold maxLen; omega) (by omega) (by have := K4.out.size; simp; omega) ?_; intro v2 w6 hw1 hw2 _ hw3; have O2 := Lib.hid hw1; have K6 : Hid (Below wy.heap.size wy w6) := Lib.hid ((K4.out.alloc K4.out.size _).trans ⟨hw2.os, hw2.tape, hw2.output, hw2.size, fun b hb => hw2.block b (by have := K4.out.size; simp; omega) (fun e => by have := own_baseR O1.out b e.symm; omega)⟩); have B2 : Hid (∀ b, v2.ownBlock = some b → wy.heap.size ≤ b) := Lib.hid (own_baseR O2.out); clear hw1 hw2 hw3) | (refine wpList_append_own_at _ rfl _ _ 33 rfl wy.heap.size 22 i1 (.slice none 0 0) 1 24 Try.underlying33 hj hy0 hy1 hy2 rfl (by decide) v2 (a + 1) (Rv.take a ++ [.slice pp P.length cp]) rfl O2.out ⟨g', a, none⟩ 0 _ (Rv.drop a) rfl (by simp [HRV.out]) (HN3.out w6 K6.out) (fun y hy => HOC.out y (List.drop_subset _ _ hy)) (by unfold maxLen; omega) (by omega) (by have := K6.out.size; omega) ?_; intro v3 w8 hw1 hw2 _ hw3; have HB8 : Hid (Below wy.heap.size wy w8) := Lib.hid (K6.out.trans ⟨hw2.os, hw2.tape, hw2.output, hw2.size, fun b hb => hw2.block b (by have := K6.out.size; omega) (fun e => by have := B2.out b e.symm; omega)⟩); have HR8 : Hid (Out w8 v3 (F.take a ++ P :: F.drop a)) := Lib.hid (out_of_own hw1 (by simp only [List.length_append, List.length_take, List.length_drop, HF.out, List.length_cons]; omega) (by rw [List.length_append, List.length_cons]; omega) (HMID.out w8 HB8.out)); clear hw1 hw2 hw3))
                                    go_roundw
                                    case rel => exact ⟨v3, k + 1, _, rfl, by go_num, by omega, by have := HF.out; simp only [List.length_append, List.length_take, List.length_drop, List.length_cons]; omega, HS, HR8, Lib.hid (hbz.out.trans ((HB6.out.trans (HB8.out.mono HB6.out.size)).mono hbz.out.size))⟩
                                    case measure => simp [intOf]; omega
                                · have qz1 : ((z : Int) == 0) = false := by simp; omega
                                  have qz2 : ((z : Int) != 0) = true := by simp; omega
                                  have HS := Lib.hid (HS0.out (by rw [← HZ.out]; exact hz0))
                                  clear hz0
                                  go_wp2_with fail
                                  go_roundw
                                  case rel => exact ⟨_, k + 1, F, rfl, by go_num, by omega, by have := HF.out; omega, HS, Lib.hid (HOZ2.out.under HB6.out), Lib.hid (hbz.out.trans (HB6.out.mono hbz.out.size))⟩
                                  case measure => simp [intOf]; omega
            · have HE : Hid (F = placed (mvl ds H (i + 1))) := Lib.hid (by
                rw [hF.out, mvl_succ, HCD.out, List.take_of_length_le (by have := HQ.out; omega)])
              clear hF
              go_wp2_with fail
              go_roundw
              case rel => exact ⟨v, i + 1, F, rfl, by go_num, by omega, by omega, HE, hout, Lib.hid (HB3.out.trans (hbx.out.mono HB3.out.size))⟩
              case measure => simp [intOf]; omega
        · have HE : Hid (Out wi v (placed (mvl ds H n))) := Lib.hid (by have h9 := hF.out; rw [show i = n by omega] at h9; rw [← h9]; exact hout.out)
          have HBE : Hid (Below W.heap.size W wi) := Lib.hid (HBU.out.trans (hb.out.mono HBU.out.size))
          clear hF hout hb
          go_wp2_with fail
          go_ret
          exact ⟨v, rfl, HE.out, HBE.out⟩
end Go.Proofs.Ytodnfchkkgoabaa
