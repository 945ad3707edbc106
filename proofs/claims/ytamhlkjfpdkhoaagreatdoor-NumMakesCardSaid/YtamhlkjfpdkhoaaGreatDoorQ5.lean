/- WALKS of the reference's naturals: AddN. -/
import Derived.Test.YtamhlkjfpdkhoaaGreatDoorQ4
namespace Go.Proofs.YtamhlkjfpdkhoaaGreatDoor
open Go.RowKit

theorem pow_le_val {l : List Nat} {k : Nat} (h : Norm B9 l) (hk : k < l.length) : B9 ^ k ≤ val B9 l := by
  rcases h.2.low B9_pos with rfl | h2
  · simp at hk
  · exact Nat.le_trans (Nat.pow_le_pow_right B9_pos (by omega)) h2

theorem add_step {l m o : List Nat} {k cc x1 x2 t d c' total : Nat} (h : val B9 o + B9 ^ k * (cc + (val B9 (l.drop k) + val B9 (m.drop k))) = total) (hl : o.length = k)
    (s1 : val B9 (l.drop k) = x1 + B9 * val B9 (l.drop (k + 1))) (s2 : val B9 (m.drop k) = x2 + B9 * val B9 (m.drop (k + 1))) (ht : cc + x1 + x2 = t) (hd : t % 1000000000 = d) (hc : t / 1000000000 = c') :
    val B9 (o ++ [d]) + B9 ^ (k + 1) * (c' + (val B9 (l.drop (k + 1)) + val B9 (m.drop (k + 1)))) = total := by
  rw [val_snoc, hl]
  refine step_carry (c := cc) (x := x1 + x2) ?_ ?_
  · rw [← h, s1, s2]
    congr 2
    rw [Nat.mul_add]; omega
  · show cc + (x1 + x2) = d + 1000000000 * c'
    omega

theorem below_push {w wr w1 : World} {o : Obj} {row : Option Nat} (h : Below w.heap.size w wr) (hg : (wr.alloc o).grownBy w1 row) (hr : ∀ k, row = some k → w.heap.size ≤ k) : Hid (Below w.heap.size w w1) :=
  Lib.hid ((h.alloc h.size _).grown hg (by have := h.size; simp; omega) hr)

set_option maxRecDepth 100000 in
set_option maxHeartbeats 2000000 in
theorem AddN_any (u v : Value) (a b ka kb : Nat) (w : World) (ha : NN w u a ka) (hb : NN w v b kb) (hka : ka ≤ 1073741824) (hkb : kb ≤ 1073741824) :
    Calls Tryz.prog 112 #[u, v] w fun e w' => RetN w (a + b) (max ka kb + 1) e w' := by
  obtain ⟨l, h1, h2, rfl, hk1⟩ := ha
  obtain ⟨m, h3, h4, rfl, hk2⟩ := hb
  obtain ⟨p, c, hu⟩ := h1.slice
  obtain ⟨q, d, hv⟩ := h3.slice
  subst hu hv
  have HA := Lib.hid h1
  have HA2 := Lib.hid h3
  have N1 := Lib.hid h2
  have N2 := Lib.hid h4
  clear h1 h2 h3 h4
  obtain ⟨i0, hi, hz0, hz1, hz2⟩ := info_parts infoInt
  unfold RetN
  go_enter Tryz.func112, Tryz.ntmps112
  go_wp2
  go_loopw [5, 6, 7] (fun ov cv i wr => ∃ (o : List Nat) (op : Option Addr) (oc cc k : Nat), ov = .slice op o.length oc ∧ cv = .int .i64 cc ∧ i = .int .i64 k ∧ (cc ≤ 1 ∧ k ≤ max l.length m.length + 1 ∧ (cc = 0 ∨ k ≤ max l.length m.length)) ∧ Hid (Own wr w.heap.size (.slice op o.length oc) o ∧ o.length = k) ∧ Hid (Low B9 o) ∧ Hid (val B9 o + B9 ^ k * (cc + (val B9 (l.drop k) + val B9 (m.drop k))) = val B9 l + val B9 m) ∧ Hid (o = [] ∨ B9 ^ (o.length - 1) ≤ val B9 l + val B9 m) ∧ Hid (Below w.heap.size w wr)) (fun _ cv i _ => 2 * (l.length - (intOf i).toNat) + 2 * (m.length - (intOf i).toNat) + (intOf cv).toNat)
  case atStart => exact ⟨[], none, 0, 0, 0, rfl, rfl, rfl, ⟨by omega, by omega, by omega⟩, Lib.hid ⟨own_nil _ _, rfl⟩, Lib.hid (Low.nil _), Lib.hid (by simp [val]), Lib.hid (.inl rfl), Lib.hid (Below.refl _ _)⟩
  case round =>
    obtain ⟨o, op, oc, cc, k, rfl, rfl, rfl, ⟨hcc, hkm, hck⟩, ho, hLow, hV, hTop, HB⟩ := hrel
    obtain rfl : k = o.length := ho.out.2.symm
    by_cases h1 : o.length < l.length
    · by_cases h2 : o.length < m.length
      · obtain ⟨x1, hx1⟩ : ∃ d, l[o.length]? = some d := ⟨_, List.getElem?_eq_getElem h1⟩
        obtain ⟨g1, rfl, d1⟩ := HA.out.at_ HB.out hx1
        have b1 : x1 < 1000000000 := N1.out.1.at_ hx1
        have s1 : val B9 (l.drop o.length) = x1 + B9 * val B9 (l.drop (o.length + 1)) := val_drop_step _ hx1
        have p1 : B9 ^ o.length ≤ val B9 l + val B9 m := Nat.le_trans (pow_le_val N1.out h1) (Nat.le_add_right _ _)
        obtain ⟨x2, hx2⟩ : ∃ d, m[o.length]? = some d := ⟨_, List.getElem?_eq_getElem h2⟩
        obtain ⟨g2, rfl, d2⟩ := HA2.out.at_ HB.out hx2
        have b2 : x2 < 1000000000 := N2.out.1.at_ hx2
        have s2 : val B9 (m.drop o.length) = x2 + B9 * val B9 (m.drop (o.length + 1)) := val_drop_step _ hx2
        obtain ⟨t, ht⟩ : ∃ t, cc + x1 + x2 = t := ⟨_, rfl⟩
        have eT : (cc : Int) + x1 + x2 = (t : Int) := by omega
        have eM : (t : Int) % 1000000000 = ((t % 1000000000 : Nat) : Int) := by omega
        have eD : (t : Int) / 1000000000 = ((t / 1000000000 : Nat) : Int) := by omega
        obtain ⟨d, hd⟩ : ∃ d, t % 1000000000 = d := ⟨_, rfl⟩
        obtain ⟨c', hc'⟩ : ∃ c, t / 1000000000 = c := ⟨_, rfl⟩
        rw [hd] at eM
        rw [hc'] at eD
        have hc1 : c' ≤ 1 := by omega
        have hdl : d < 1000000000 := by omega
        have HV := Lib.hid (add_step (x1 := x1) (x2 := x2) (l := l) (m := m) hV.out rfl s1 s2 (by omega) hd hc')
        have HP := Lib.hid p1
        have HLo := Lib.hid (hLow.out.snoc (show d < B9 from hdl))
        have ht2 : t ≤ 1999999999 := by omega
        have hm2 : c' = 0 ∨ o.length < l.length ∨ o.length < m.length := by omega
        clear s1 s2 p1 hd hc' ht hV hLow
        clear hx1
        clear hx2
        go_wp2_with (at_builtin; refine wpList_append_own_at _ rfl _ _ 23 rfl w.heap.size 3 i0 (.int .i64 0) 1 8 Tryz.underlying23 hi hz0 hz1 hz2 rfl (by decide) (.slice op o.length oc) _ _ rfl (ho.out.1.alloc _) ⟨wr.heap.size, 0, none⟩ 1 1 [.int .i64 (d : Int)] rfl rfl (cell_one_new _ _ _) (fun x hx => by simp at hx; subst hx; rfl) (by unfold maxLen; omega) (by omega) (by have := HB.out.size; simp; omega) ?_; intro v' w1 hown' hgrow _ _; have HO := Lib.hid (own_snoc hown'); have HG := Lib.hid (below_push HB.out hgrow fun k hk => (ho.out.1.lt k hk).1); obtain ⟨ap, ac, rfl⟩ := own_slice HO.out; rw [show (o ++ [d]).length = o.length + 1 by simp] at HO; clear hown' hgrow)
        go_roundw
        case rel => exact ⟨o ++ [d], ap, ac, c', o.length + 1, by simp, rfl, by go_num, ⟨by omega, by omega, by omega⟩, Lib.hid ⟨by rw [show (o ++ [d]).length = o.length + 1 by simp]; exact HO.out, by simp⟩, HLo, Lib.hid HV.out, Lib.hid (.inr (by simpa using HP.out)), HG⟩
        case measure => simp [intOf]; omega
      · obtain ⟨x1, hx1⟩ : ∃ d, l[o.length]? = some d := ⟨_, List.getElem?_eq_getElem h1⟩
        obtain ⟨g1, rfl, d1⟩ := HA.out.at_ HB.out hx1
        have b1 : x1 < 1000000000 := N1.out.1.at_ hx1
        have s1 : val B9 (l.drop o.length) = x1 + B9 * val B9 (l.drop (o.length + 1)) := val_drop_step _ hx1
        have p1 : B9 ^ o.length ≤ val B9 l + val B9 m := Nat.le_trans (pow_le_val N1.out h1) (Nat.le_add_right _ _)
        have s2 : val B9 (m.drop o.length) = 0 + B9 * val B9 (m.drop (o.length + 1)) := by rw [val_drop_end _ (by omega), val_drop_end _ (by omega)]; simp
        obtain ⟨t, ht⟩ : ∃ t, cc + x1 = t := ⟨_, rfl⟩
        have eT : (cc : Int) + x1 = (t : Int) := by omega
        have eM : (t : Int) % 1000000000 = ((t % 1000000000 : Nat) : Int) := by omega
        have eD : (t : Int) / 1000000000 = ((t / 1000000000 : Nat) : Int) := by omega
        obtain ⟨d, hd⟩ : ∃ d, t % 1000000000 = d := ⟨_, rfl⟩
        obtain ⟨c', hc'⟩ : ∃ c, t / 1000000000 = c := ⟨_, rfl⟩
        rw [hd] at eM
        rw [hc'] at eD
        have hc1 : c' ≤ 1 := by omega
        have hdl : d < 1000000000 := by omega
        have HV := Lib.hid (add_step (x1 := x1) (x2 := 0) (l := l) (m := m) hV.out rfl s1 s2 (by omega) hd hc')
        have HP := Lib.hid p1
        have HLo := Lib.hid (hLow.out.snoc (show d < B9 from hdl))
        have ht2 : t ≤ 1999999999 := by omega
        have hm2 : c' = 0 ∨ o.length < l.length ∨ o.length < m.length := by omega
        clear s1 s2 p1 hd hc' ht hV hLow
        clear hx1
        go_wp2_with (at_builtin; refine wpList_append_own_at _ rfl _ _ 23 rfl w.heap.size 3 i0 (.int .i64 0) 1 8 Tryz.underlying23 hi hz0 hz1 hz2 rfl (by decide) (.slice op o.length oc) _ _ rfl (ho.out.1.alloc _) ⟨wr.heap.size, 0, none⟩ 1 1 [.int .i64 (d : Int)] rfl rfl (cell_one_new _ _ _) (fun x hx => by simp at hx; subst hx; rfl) (by unfold maxLen; omega) (by omega) (by have := HB.out.size; simp; omega) ?_; intro v' w1 hown' hgrow _ _; have HO := Lib.hid (own_snoc hown'); have HG := Lib.hid (below_push HB.out hgrow fun k hk => (ho.out.1.lt k hk).1); obtain ⟨ap, ac, rfl⟩ := own_slice HO.out; rw [show (o ++ [d]).length = o.length + 1 by simp] at HO; clear hown' hgrow)
        go_roundw
        case rel => exact ⟨o ++ [d], ap, ac, c', o.length + 1, by simp, rfl, by go_num, ⟨by omega, by omega, by omega⟩, Lib.hid ⟨by rw [show (o ++ [d]).length = o.length + 1 by simp]; exact HO.out, by simp⟩, HLo, Lib.hid HV.out, Lib.hid (.inr (by simpa using HP.out)), HG⟩
        case measure => simp [intOf]; omega
    · by_cases h2 : o.length < m.length
      · have s1 : val B9 (l.drop o.length) = 0 + B9 * val B9 (l.drop (o.length + 1)) := by rw [val_drop_end _ (by omega), val_drop_end _ (by omega)]; simp
        obtain ⟨x2, hx2⟩ : ∃ d, m[o.length]? = some d := ⟨_, List.getElem?_eq_getElem h2⟩
        obtain ⟨g2, rfl, d2⟩ := HA2.out.at_ HB.out hx2
        have b2 : x2 < 1000000000 := N2.out.1.at_ hx2
        have s2 : val B9 (m.drop o.length) = x2 + B9 * val B9 (m.drop (o.length + 1)) := val_drop_step _ hx2
        have p1 : B9 ^ o.length ≤ val B9 l + val B9 m := Nat.le_trans (pow_le_val N2.out h2) (Nat.le_add_left _ _)
        obtain ⟨t, ht⟩ : ∃ t, cc + x2 = t := ⟨_, rfl⟩
        have eT : (cc : Int) + x2 = (t : Int) := by omega
        have eM : (t : Int) % 1000000000 = ((t % 1000000000 : Nat) : Int) := by omega
        have eD : (t : Int) / 1000000000 = ((t / 1000000000 : Nat) : Int) := by omega
        obtain ⟨d, hd⟩ : ∃ d, t % 1000000000 = d := ⟨_, rfl⟩
        obtain ⟨c', hc'⟩ : ∃ c, t / 1000000000 = c := ⟨_, rfl⟩
        rw [hd] at eM
        rw [hc'] at eD
        have hc1 : c' ≤ 1 := by omega
        have hdl : d < 1000000000 := by omega
        have HV := Lib.hid (add_step (x1 := 0) (x2 := x2) (l := l) (m := m) hV.out rfl s1 s2 (by omega) hd hc')
        have HP := Lib.hid p1
        have HLo := Lib.hid (hLow.out.snoc (show d < B9 from hdl))
        have ht2 : t ≤ 1999999999 := by omega
        have hm2 : c' = 0 ∨ o.length < l.length ∨ o.length < m.length := by omega
        clear s1 s2 p1 hd hc' ht hV hLow
        clear hx2
        go_wp2_with (at_builtin; refine wpList_append_own_at _ rfl _ _ 23 rfl w.heap.size 3 i0 (.int .i64 0) 1 8 Tryz.underlying23 hi hz0 hz1 hz2 rfl (by decide) (.slice op o.length oc) _ _ rfl (ho.out.1.alloc _) ⟨wr.heap.size, 0, none⟩ 1 1 [.int .i64 (d : Int)] rfl rfl (cell_one_new _ _ _) (fun x hx => by simp at hx; subst hx; rfl) (by unfold maxLen; omega) (by omega) (by have := HB.out.size; simp; omega) ?_; intro v' w1 hown' hgrow _ _; have HO := Lib.hid (own_snoc hown'); have HG := Lib.hid (below_push HB.out hgrow fun k hk => (ho.out.1.lt k hk).1); obtain ⟨ap, ac, rfl⟩ := own_slice HO.out; rw [show (o ++ [d]).length = o.length + 1 by simp] at HO; clear hown' hgrow)
        go_roundw
        case rel => exact ⟨o ++ [d], ap, ac, c', o.length + 1, by simp, rfl, by go_num, ⟨by omega, by omega, by omega⟩, Lib.hid ⟨by rw [show (o ++ [d]).length = o.length + 1 by simp]; exact HO.out, by simp⟩, HLo, Lib.hid HV.out, Lib.hid (.inr (by simpa using HP.out)), HG⟩
        case measure => simp [intOf]; omega
      · by_cases h3 : 0 < cc
        · have s1 : val B9 (l.drop o.length) = 0 + B9 * val B9 (l.drop (o.length + 1)) := by rw [val_drop_end _ (by omega), val_drop_end _ (by omega)]; simp
          have s2 : val B9 (m.drop o.length) = 0 + B9 * val B9 (m.drop (o.length + 1)) := by rw [val_drop_end _ (by omega), val_drop_end _ (by omega)]; simp
          have p1 : B9 ^ o.length ≤ val B9 l + val B9 m := by rw [← hV.out]; exact Nat.le_trans (Nat.le_mul_of_pos_right _ (by omega)) (Nat.le_add_left _ _)
          obtain ⟨t, ht⟩ : ∃ t, cc = t := ⟨_, rfl⟩
          have eT : (cc : Int) = (t : Int) := by omega
          have eM : (t : Int) % 1000000000 = ((t % 1000000000 : Nat) : Int) := by omega
          have eD : (t : Int) / 1000000000 = ((t / 1000000000 : Nat) : Int) := by omega
          obtain ⟨d, hd⟩ : ∃ d, t % 1000000000 = d := ⟨_, rfl⟩
          obtain ⟨c', hc'⟩ : ∃ c, t / 1000000000 = c := ⟨_, rfl⟩
          rw [hd] at eM
          rw [hc'] at eD
          have hc1 : c' ≤ 1 := by omega
          have hdl : d < 1000000000 := by omega
          have HV := Lib.hid (add_step (x1 := 0) (x2 := 0) (l := l) (m := m) hV.out rfl s1 s2 (by omega) hd hc')
          have HP := Lib.hid p1
          have HLo := Lib.hid (hLow.out.snoc (show d < B9 from hdl))
          have ht2 : t ≤ 1999999999 := by omega
          have hm2 : c' = 0 := by omega
          clear s1 s2 p1 hd hc' ht hV hLow
          subst hm2
          go_wp2_with (at_builtin; refine wpList_append_own_at _ rfl _ _ 23 rfl w.heap.size 3 i0 (.int .i64 0) 1 8 Tryz.underlying23 hi hz0 hz1 hz2 rfl (by decide) (.slice op o.length oc) _ _ rfl (ho.out.1.alloc _) ⟨wr.heap.size, 0, none⟩ 1 1 [.int .i64 (d : Int)] rfl rfl (cell_one_new _ _ _) (fun x hx => by simp at hx; subst hx; rfl) (by unfold maxLen; omega) (by omega) (by have := HB.out.size; simp; omega) ?_; intro v' w1 hown' hgrow _ _; have HO := Lib.hid (own_snoc hown'); have HG := Lib.hid (below_push HB.out hgrow fun k hk => (ho.out.1.lt k hk).1); obtain ⟨ap, ac, rfl⟩ := own_slice HO.out; rw [show (o ++ [d]).length = o.length + 1 by simp] at HO; clear hown' hgrow)
          go_roundw
          case rel => exact ⟨o ++ [d], ap, ac, 0, o.length + 1, by simp, rfl, by go_num, ⟨by omega, by omega, by omega⟩, Lib.hid ⟨by rw [show (o ++ [d]).length = o.length + 1 by simp]; exact HO.out, by simp⟩, HLo, Lib.hid HV.out, Lib.hid (.inr (by simpa using HP.out)), HG⟩
          case measure => simp [intOf]; omega
        · obtain rfl : cc = 0 := by omega
          have HR : Hid (val B9 o = val B9 l + val B9 m) := Lib.hid (by have := hV.out; rw [val_drop_end _ (by omega), val_drop_end _ (by omega)] at this; simpa using this)
          have HN : Hid (Norm B9 o) := Lib.hid ⟨hLow.out, Top.of_val B9_pos hLow.out (by rw [HR.out]; exact hTop.out)⟩
          clear hV hLow hTop
          go_wp2
          go_ret
          exact ⟨_, rfl, ⟨o, own_lims ho.out.1, HN.out, HR.out, by omega⟩, own_young ho.out.1, HB.out⟩
end Go.Proofs.YtamhlkjfpdkhoaaGreatDoor
