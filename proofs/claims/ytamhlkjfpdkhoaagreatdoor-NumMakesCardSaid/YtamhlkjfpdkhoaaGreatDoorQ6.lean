/- WALKS of the reference's naturals: SubN, times. -/
import Derived.Test.YtamhlkjfpdkhoaaGreatDoorQ5
namespace Go.Proofs.YtamhlkjfpdkhoaaGreatDoor
open Go.RowKit

theorem sub_step {l m o : List Nat} {k bw bw' x y d : Nat} (h : val B9 o + B9 ^ k * val B9 (l.drop k) + val B9 m = val B9 l + B9 ^ k * (bw + val B9 (m.drop k))) (hl : o.length = k)
    (s1 : val B9 (l.drop k) = x + B9 * val B9 (l.drop (k + 1))) (s2 : val B9 (m.drop k) = y + B9 * val B9 (m.drop (k + 1))) (e : d + bw + y = x + 1000000000 * bw') :
    val B9 (o ++ [d]) + B9 ^ (k + 1) * val B9 (l.drop (k + 1)) + val B9 m = val B9 l + B9 ^ (k + 1) * (bw' + val B9 (m.drop (k + 1))) := by
  have e' : d + bw + y = x + B9 * bw' := e
  rw [val_snoc, hl, Nat.pow_succ]
  rw [s1, s2] at h
  generalize B9 ^ k = p at *
  generalize val B9 (l.drop (k + 1)) = r1 at *
  generalize val B9 (m.drop (k + 1)) = r2 at *
  have h2 : p * d + p * bw + p * y = p * x + p * B9 * bw' := by rw [← Nat.mul_add, ← Nat.mul_add, e', Nat.mul_add, Nat.mul_assoc]
  simp only [Nat.mul_add, ← Nat.mul_assoc] at h ⊢
  omega

set_option maxRecDepth 100000 in
set_option maxHeartbeats 2000000 in
theorem SubN_any (u v : Value) (a b ka kb : Nat) (w : World) (ha : NN w u a ka) (hb : NN w v b kb) (hka : ka ≤ 1073741824) (hab : b ≤ a) :
    Calls Tryz.prog 114 #[u, v] w fun e w' => RetN w (a - b) ka e w' := by
  obtain ⟨l, h1, h2, rfl, hk1⟩ := ha
  obtain ⟨m, h3, h4, rfl, hk2⟩ := hb
  have hlen : m.length ≤ l.length := by
    rcases Nat.lt_or_ge l.length m.length with h | h
    · have := h2.lt_of_len B9_pos h4 h; omega
    · exact h
  have hAB := Lib.hid hab
  clear hab
  obtain ⟨p, c, hu⟩ := h1.slice
  obtain ⟨q, d, hv⟩ := h3.slice
  subst hu hv
  have HA := Lib.hid h1
  have HA2 := Lib.hid h3
  have N1 := Lib.hid h2
  have N2 := Lib.hid h4
  have TR := Lib.hid trim_any
  clear h1 h2 h3 h4
  obtain ⟨i0, hi, hz0, hz1, hz2⟩ := info_parts infoInt
  unfold RetN
  go_enter Tryz.func114, Tryz.ntmps114
  go_wp2
  go_loopw [5, 6, 7] (fun ov cv i wr => ∃ (o : List Nat) (op : Option Addr) (oc cc k : Nat), ov = .slice op o.length oc ∧ cv = .int .i64 cc ∧ i = .int .i64 k ∧ (cc ≤ 1 ∧ k ≤ l.length) ∧ Hid (Own wr w.heap.size (.slice op o.length oc) o ∧ o.length = k) ∧ Hid (Low B9 o) ∧ Hid (val B9 o + B9 ^ k * val B9 (l.drop k) + val B9 m = val B9 l + B9 ^ k * (cc + val B9 (m.drop k))) ∧ Hid (Below w.heap.size w wr)) (fun _ _ i _ => l.length - (intOf i).toNat)
  case atStart => exact ⟨[], none, 0, 0, 0, rfl, rfl, rfl, ⟨by omega, by omega⟩, Lib.hid ⟨own_nil _ _, rfl⟩, Lib.hid (Low.nil _), Lib.hid (by simp [val]), Lib.hid (Below.refl _ _)⟩
  case round =>
    obtain ⟨o, op, oc, cc, k, rfl, rfl, rfl, ⟨hcc, hkm⟩, ho, hLow, hV, HB⟩ := hrel
    obtain rfl : k = o.length := ho.out.2.symm
    by_cases h1 : o.length < l.length
    · obtain ⟨x, hx1⟩ : ∃ d, l[o.length]? = some d := ⟨_, List.getElem?_eq_getElem h1⟩
      obtain ⟨g1, rfl, d1⟩ := HA.out.at_ HB.out hx1
      have b1 : x < 1000000000 := N1.out.1.at_ hx1
      have s1 : val B9 (l.drop o.length) = x + B9 * val B9 (l.drop (o.length + 1)) := val_drop_step _ hx1
      by_cases h2 : o.length < m.length
      · obtain ⟨y, hx2⟩ : ∃ d, m[o.length]? = some d := ⟨_, List.getElem?_eq_getElem h2⟩
        have hby : y < 1000000000 := N2.out.1.at_ hx2
        by_cases hneg : cc + y ≤ x
        · obtain ⟨g2, rfl, d2⟩ := HA2.out.at_ HB.out hx2
          have s2 : val B9 (m.drop o.length) = y + B9 * val B9 (m.drop (o.length + 1)) := val_drop_step _ hx2
          obtain ⟨d, hd⟩ : ∃ d : Nat, x - cc - y = d := ⟨_, rfl⟩
          have eT : (x : Int) - cc - y = (d : Int) := by omega
          have hst : d + cc + y = x + 1000000000 * 0 := by omega
          have hdl : d < 1000000000 := by omega
          have HV := Lib.hid (sub_step (y := y) (x := x) (l := l) (m := m) (bw' := 0) hV.out rfl s1 s2 hst)
          have HLo := Lib.hid (hLow.out.snoc (show d < B9 from hdl))
          clear s1 s2 hst hd hV hLow hx1
          clear hx2
          clear hby
          clear hneg
          go_wp2_with (at_builtin; refine wpList_append_own_at _ rfl _ _ 23 rfl w.heap.size 3 i0 (.int .i64 0) 1 8 Tryz.underlying23 hi hz0 hz1 hz2 rfl (by decide) (.slice op o.length oc) _ _ rfl (ho.out.1.alloc _) ⟨wr.heap.size, 0, none⟩ 1 1 [.int .i64 (d : Int)] rfl rfl (cell_one_new _ _ _) (fun x hx => by simp at hx; subst hx; rfl) (by unfold maxLen; omega) (by omega) (by have := HB.out.size; simp; omega) ?_; intro v' w1 hown' hgrow _ _; have HO := Lib.hid (own_snoc hown'); have HG := Lib.hid (below_push HB.out hgrow fun k hk => (ho.out.1.lt k hk).1); obtain ⟨ap, ac, rfl⟩ := own_slice HO.out; rw [show (o ++ [d]).length = o.length + 1 by simp] at HO; clear hown' hgrow)
          go_roundw
          case rel => exact ⟨o ++ [d], ap, ac, 0, o.length + 1, by simp, rfl, by go_num, ⟨by omega, by omega⟩, Lib.hid ⟨by rw [show (o ++ [d]).length = o.length + 1 by simp]; exact HO.out, by simp⟩, HLo, Lib.hid HV.out, HG⟩
          case measure => simp [intOf]; omega
        · obtain ⟨g2, rfl, d2⟩ := HA2.out.at_ HB.out hx2
          have s2 : val B9 (m.drop o.length) = y + B9 * val B9 (m.drop (o.length + 1)) := val_drop_step _ hx2
          obtain ⟨s, hs⟩ : ∃ s : Nat, cc + y - x = s := ⟨_, rfl⟩
          have hs0 : 0 < s := by omega
          have hs9 : s ≤ 1000000000 := by omega
          have eT : (x : Int) - cc - y = -(s : Int) := by omega
          obtain ⟨d, hd⟩ : ∃ d : Nat, 1000000000 - s = d := ⟨_, rfl⟩
          have eU : -(s : Int) + 1000000000 = (d : Int) := by omega
          have hst : d + cc + y = x + 1000000000 * 1 := by omega
          have hdl : d < 1000000000 := by omega
          have HV := Lib.hid (sub_step (y := y) (x := x) (l := l) (m := m) (bw' := 1) hV.out rfl s1 s2 hst)
          have HLo := Lib.hid (hLow.out.snoc (show d < B9 from hdl))
          clear s1 s2 hst hd hV hLow hx1
          clear hs
          clear hx2
          clear hby
          clear hneg
          go_wp2_with (at_builtin; refine wpList_append_own_at _ rfl _ _ 23 rfl w.heap.size 3 i0 (.int .i64 0) 1 8 Tryz.underlying23 hi hz0 hz1 hz2 rfl (by decide) (.slice op o.length oc) _ _ rfl (ho.out.1.alloc _) ⟨wr.heap.size, 0, none⟩ 1 1 [.int .i64 (d : Int)] rfl rfl (cell_one_new _ _ _) (fun x hx => by simp at hx; subst hx; rfl) (by unfold maxLen; omega) (by omega) (by have := HB.out.size; simp; omega) ?_; intro v' w1 hown' hgrow _ _; have HO := Lib.hid (own_snoc hown'); have HG := Lib.hid (below_push HB.out hgrow fun k hk => (ho.out.1.lt k hk).1); obtain ⟨ap, ac, rfl⟩ := own_slice HO.out; rw [show (o ++ [d]).length = o.length + 1 by simp] at HO; clear hown' hgrow)
          go_roundw
          case rel => exact ⟨o ++ [d], ap, ac, 1, o.length + 1, by simp, rfl, by go_num, ⟨by omega, by omega⟩, Lib.hid ⟨by rw [show (o ++ [d]).length = o.length + 1 by simp]; exact HO.out, by simp⟩, HLo, Lib.hid HV.out, HG⟩
          case measure => simp [intOf]; omega
      · by_cases hneg : cc ≤ x
        · have s2 : val B9 (m.drop o.length) = 0 + B9 * val B9 (m.drop (o.length + 1)) := by rw [val_drop_end _ (by omega), val_drop_end _ (by omega)]; simp
          obtain ⟨d, hd⟩ : ∃ d : Nat, x - cc - 0 = d := ⟨_, rfl⟩
          have eT : (x : Int) - cc = (d : Int) := by omega
          have hst : d + cc + 0 = x + 1000000000 * 0 := by omega
          have hdl : d < 1000000000 := by omega
          have HV := Lib.hid (sub_step (y := 0) (x := x) (l := l) (m := m) (bw' := 0) hV.out rfl s1 s2 hst)
          have HLo := Lib.hid (hLow.out.snoc (show d < B9 from hdl))
          clear s1 s2 hst hd hV hLow hx1
          clear hneg
          go_wp2_with (at_builtin; refine wpList_append_own_at _ rfl _ _ 23 rfl w.heap.size 3 i0 (.int .i64 0) 1 8 Tryz.underlying23 hi hz0 hz1 hz2 rfl (by decide) (.slice op o.length oc) _ _ rfl (ho.out.1.alloc _) ⟨wr.heap.size, 0, none⟩ 1 1 [.int .i64 (d : Int)] rfl rfl (cell_one_new _ _ _) (fun x hx => by simp at hx; subst hx; rfl) (by unfold maxLen; omega) (by omega) (by have := HB.out.size; simp; omega) ?_; intro v' w1 hown' hgrow _ _; have HO := Lib.hid (own_snoc hown'); have HG := Lib.hid (below_push HB.out hgrow fun k hk => (ho.out.1.lt k hk).1); obtain ⟨ap, ac, rfl⟩ := own_slice HO.out; rw [show (o ++ [d]).length = o.length + 1 by simp] at HO; clear hown' hgrow)
          go_roundw
          case rel => exact ⟨o ++ [d], ap, ac, 0, o.length + 1, by simp, rfl, by go_num, ⟨by omega, by omega⟩, Lib.hid ⟨by rw [show (o ++ [d]).length = o.length + 1 by simp]; exact HO.out, by simp⟩, HLo, Lib.hid HV.out, HG⟩
          case measure => simp [intOf]; omega
        · have s2 : val B9 (m.drop o.length) = 0 + B9 * val B9 (m.drop (o.length + 1)) := by rw [val_drop_end _ (by omega), val_drop_end _ (by omega)]; simp
          obtain ⟨s, hs⟩ : ∃ s : Nat, cc + 0 - x = s := ⟨_, rfl⟩
          have hs0 : 0 < s := by omega
          have hs9 : s ≤ 1000000000 := by omega
          have eT : (x : Int) - cc = -(s : Int) := by omega
          obtain ⟨d, hd⟩ : ∃ d : Nat, 1000000000 - s = d := ⟨_, rfl⟩
          have eU : -(s : Int) + 1000000000 = (d : Int) := by omega
          have hst : d + cc + 0 = x + 1000000000 * 1 := by omega
          have hdl : d < 1000000000 := by omega
          have HV := Lib.hid (sub_step (y := 0) (x := x) (l := l) (m := m) (bw' := 1) hV.out rfl s1 s2 hst)
          have HLo := Lib.hid (hLow.out.snoc (show d < B9 from hdl))
          clear s1 s2 hst hd hV hLow hx1
          clear hs
          clear hneg
          go_wp2_with (at_builtin; refine wpList_append_own_at _ rfl _ _ 23 rfl w.heap.size 3 i0 (.int .i64 0) 1 8 Tryz.underlying23 hi hz0 hz1 hz2 rfl (by decide) (.slice op o.length oc) _ _ rfl (ho.out.1.alloc _) ⟨wr.heap.size, 0, none⟩ 1 1 [.int .i64 (d : Int)] rfl rfl (cell_one_new _ _ _) (fun x hx => by simp at hx; subst hx; rfl) (by unfold maxLen; omega) (by omega) (by have := HB.out.size; simp; omega) ?_; intro v' w1 hown' hgrow _ _; have HO := Lib.hid (own_snoc hown'); have HG := Lib.hid (below_push HB.out hgrow fun k hk => (ho.out.1.lt k hk).1); obtain ⟨ap, ac, rfl⟩ := own_slice HO.out; rw [show (o ++ [d]).length = o.length + 1 by simp] at HO; clear hown' hgrow)
          go_roundw
          case rel => exact ⟨o ++ [d], ap, ac, 1, o.length + 1, by simp, rfl, by go_num, ⟨by omega, by omega⟩, Lib.hid ⟨by rw [show (o ++ [d]).length = o.length + 1 by simp]; exact HO.out, by simp⟩, HLo, Lib.hid HV.out, HG⟩
          case measure => simp [intOf]; omega
    · have HR : Hid (val B9 o = val B9 l - val B9 m) := Lib.hid (by
        have h := hV.out
        rw [val_drop_end _ (by omega), val_drop_end _ (by omega)] at h
        have hlt := hLow.out.lt
        have hab := hAB.out
        have : cc = 0 := by
          rcases Nat.eq_zero_or_pos cc with h0 | h0
          · exact h0
          · have := Nat.le_mul_of_pos_right (B9 ^ o.length) h0
            simp at h; omega
        subst this
        simp at h; omega)
      clear hV
      go_wp2_with fail
      refine (TR.out _ _ _ (own_lims ho.out.1) hLow.out).mono ?_
      rintro _ w2 ⟨⟨v', rfl, hn, hy⟩, rfl⟩
      have HN := Lib.hid hn
      have HY := Lib.hid (hy _ (own_young (show Own wr w.heap.size _ o from ho.out.1)))
      clear hn hy
      go_wp2_with fail
      go_ret
      exact ⟨_, rfl, (by rw [← HR.out]; exact HN.out.more (by omega)), HY.out, HB.out⟩


theorem times_step {l o : List Nat} {k cc x n d c' : Nat} (h : val B9 o + B9 ^ k * (cc + val B9 (l.drop k) * n) = val B9 l * n) (hl : o.length = k)
    (s1 : val B9 (l.drop k) = x + B9 * val B9 (l.drop (k + 1))) (e : cc + x * n = d + B9 * c') :
    val B9 (o ++ [d]) + B9 ^ (k + 1) * (c' + val B9 (l.drop (k + 1)) * n) = val B9 l * n := by
  rw [val_snoc, hl]
  refine step_carry (c := cc) (x := x * n) ?_ e
  rw [← h, s1]
  congr 2
  rw [Nat.add_mul, Nat.mul_assoc]

set_option maxRecDepth 100000 in
set_option maxHeartbeats 2000000 in
theorem times_ref (u : Value) (a n ka : Nat) (w : World) (ha : NN w u a ka) (hka : ka ≤ 1073741824) (hn : n ≤ 999999999) :
    Calls Tryz.prog 169 #[u, .int .i64 n] w fun e w' => RetN w (a * n) (ka + 1) e w' := by
  obtain ⟨l, h1, h2, rfl, hk1⟩ := ha
  obtain ⟨p, c, hu⟩ := h1.slice
  subst hu
  have HA := Lib.hid h1
  have N1 := Lib.hid h2
  have TR := Lib.hid trim_any
  clear h1 h2
  obtain ⟨i0, hi, hz0, hz1, hz2⟩ := info_parts infoInt
  unfold RetN
  go_enter Tryz.func169, Tryz.ntmps169
  go_wp2
  go_loopw [5, 6, 7] (fun ov cv i wr => ∃ (o : List Nat) (op : Option Addr) (oc cc k : Nat), ov = .slice op o.length oc ∧ cv = .int .i64 cc ∧ i = .int .i64 k ∧ (cc ≤ n ∧ k ≤ l.length + 1 ∧ (k ≤ l.length ∨ cc = 0)) ∧ Hid (Own wr w.heap.size (.slice op o.length oc) o ∧ o.length = k) ∧ Hid (Low B9 o) ∧ Hid (val B9 o + B9 ^ k * (cc + val B9 (l.drop k) * n) = val B9 l * n) ∧ Hid (Below w.heap.size w wr)) (fun _ cv i _ => 2 * (l.length - (intOf i).toNat) + min (intOf cv).toNat 1)
  case atStart => exact ⟨[], none, 0, 0, 0, rfl, rfl, rfl, ⟨by omega, by omega, by omega⟩, Lib.hid ⟨own_nil _ _, rfl⟩, Lib.hid (Low.nil _), Lib.hid (by simp [val]), Lib.hid (Below.refl _ _)⟩
  case round =>
    obtain ⟨o, op, oc, cc, k, rfl, rfl, rfl, ⟨hcc, hkm, hck⟩, ho, hLow, hV, HB⟩ := hrel
    obtain rfl : k = o.length := ho.out.2.symm
    by_cases h1 : o.length < l.length
    · obtain ⟨x, hx1⟩ : ∃ d, l[o.length]? = some d := ⟨_, List.getElem?_eq_getElem h1⟩
      obtain ⟨g1, rfl, d1⟩ := HA.out.at_ HB.out hx1
      have b1 : x < 1000000000 := N1.out.1.at_ hx1
      have s1 : val B9 (l.drop o.length) = x + B9 * val B9 (l.drop (o.length + 1)) := val_drop_step _ hx1
      have hxm : x * n ≤ 999999999 * 999999999 := Nat.mul_le_mul (by omega) hn
      have eX : (x : Int) * (n : Int) = ((x * n : Nat) : Int) := (Int.natCast_mul _ _).symm
      have hmx : x * n + n ≤ 1000000000 * n := by rw [← Nat.succ_mul]; exact Nat.mul_le_mul_right _ b1
      obtain ⟨z, hz⟩ : ∃ z, x * n = z := ⟨_, rfl⟩
      rw [hz] at eX hxm hmx
      obtain ⟨t, ht⟩ : ∃ t, cc + z = t := ⟨_, rfl⟩
      have eT : (cc : Int) + (z : Int) = (t : Int) := by omega
      have eM : (t : Int) % 1000000000 = ((t % 1000000000 : Nat) : Int) := by omega
      have eD : (t : Int) / 1000000000 = ((t / 1000000000 : Nat) : Int) := by omega
      obtain ⟨d, hd⟩ : ∃ d, t % 1000000000 = d := ⟨_, rfl⟩
      obtain ⟨c', hc'⟩ : ∃ c, t / 1000000000 = c := ⟨_, rfl⟩
      rw [hd] at eM
      rw [hc'] at eD
      have hc1 : c' ≤ n := by omega
      have hdl : d < 1000000000 := by omega
      have HV := Lib.hid (times_step (x := x) (l := l) hV.out rfl s1 (show cc + x * n = d + B9 * c' from by rw [hz]; show cc + z = d + 1000000000 * c'; omega))
      have HLo := Lib.hid (hLow.out.snoc (show d < B9 from hdl))
      have ht2 : t ≤ 1000000000000000000 := by omega
      clear s1 hd hc' hV hLow
      clear hz
      clear hx1 ht hmx
      go_wp2_with (at_builtin; refine wpList_append_own_at _ rfl _ _ 23 rfl w.heap.size 3 i0 (.int .i64 0) 1 8 Tryz.underlying23 hi hz0 hz1 hz2 rfl (by decide) (.slice op o.length oc) _ _ rfl (ho.out.1.alloc _) ⟨wr.heap.size, 0, none⟩ 1 1 [.int .i64 (d : Int)] rfl rfl (cell_one_new _ _ _) (fun x hx => by simp at hx; subst hx; rfl) (by unfold maxLen; omega) (by omega) (by have := HB.out.size; simp; omega) ?_; intro v' w1 hown' hgrow _ _; have HO := Lib.hid (own_snoc hown'); have HG := Lib.hid (below_push HB.out hgrow fun k hk => (ho.out.1.lt k hk).1); obtain ⟨ap, ac, rfl⟩ := own_slice HO.out; rw [show (o ++ [d]).length = o.length + 1 by simp] at HO; clear hown' hgrow)
      go_roundw
      case rel => exact ⟨o ++ [d], ap, ac, c', o.length + 1, by simp, rfl, by go_num, ⟨by omega, by omega, by omega⟩, Lib.hid ⟨by rw [show (o ++ [d]).length = o.length + 1 by simp]; exact HO.out, by simp⟩, HLo, Lib.hid HV.out, HG⟩
      case measure => simp [intOf]; omega
    · by_cases h3 : 0 < cc
      · have s1 : val B9 (l.drop o.length) = 0 + B9 * val B9 (l.drop (o.length + 1)) := by rw [val_drop_end _ (by omega), val_drop_end _ (by omega)]; simp
        have hz : 0 * n = 0 := Nat.zero_mul n
        obtain ⟨t, ht⟩ : ∃ t, cc = t := ⟨_, rfl⟩
        subst ht
        have eM : (cc : Int) % 1000000000 = ((cc % 1000000000 : Nat) : Int) := by omega
        have eD : (cc : Int) / 1000000000 = ((cc / 1000000000 : Nat) : Int) := by omega
        obtain ⟨d, hd⟩ : ∃ d, cc % 1000000000 = d := ⟨_, rfl⟩
        obtain ⟨c', hc'⟩ : ∃ c, cc / 1000000000 = c := ⟨_, rfl⟩
        rw [hd] at eM
        rw [hc'] at eD
        have hc1 : c' ≤ n := by omega
        have hdl : d < 1000000000 := by omega
        have HV := Lib.hid (times_step (x := 0) (l := l) hV.out rfl s1 (show cc + 0 * n = d + B9 * c' from by rw [hz]; show cc + 0 = d + 1000000000 * c'; omega))
        have HLo := Lib.hid (hLow.out.snoc (show d < B9 from hdl))
        have ht2 : cc ≤ 1000000000000000000 := by omega
        have hm2 : c' = 0 := by omega
        clear s1 hd hc' hV hLow
        clear hz
        subst hm2
        go_wp2_with (at_builtin; refine wpList_append_own_at _ rfl _ _ 23 rfl w.heap.size 3 i0 (.int .i64 0) 1 8 Tryz.underlying23 hi hz0 hz1 hz2 rfl (by decide) (.slice op o.length oc) _ _ rfl (ho.out.1.alloc _) ⟨wr.heap.size, 0, none⟩ 1 1 [.int .i64 (d : Int)] rfl rfl (cell_one_new _ _ _) (fun x hx => by simp at hx; subst hx; rfl) (by unfold maxLen; omega) (by omega) (by have := HB.out.size; simp; omega) ?_; intro v' w1 hown' hgrow _ _; have HO := Lib.hid (own_snoc hown'); have HG := Lib.hid (below_push HB.out hgrow fun k hk => (ho.out.1.lt k hk).1); obtain ⟨ap, ac, rfl⟩ := own_slice HO.out; rw [show (o ++ [d]).length = o.length + 1 by simp] at HO; clear hown' hgrow)
        go_roundw
        case rel => exact ⟨o ++ [d], ap, ac, 0, o.length + 1, by simp, rfl, by go_num, ⟨by omega, by omega, by omega⟩, Lib.hid ⟨by rw [show (o ++ [d]).length = o.length + 1 by simp]; exact HO.out, by simp⟩, HLo, Lib.hid HV.out, HG⟩
        case measure => simp [intOf]; omega
      · obtain rfl : cc = 0 := by omega
        have HR : Hid (val B9 o = val B9 l * n) := Lib.hid (by have h := hV.out; rw [val_drop_end _ (by omega)] at h; simpa using h)
        clear hV
        go_wp2_with fail
        refine (TR.out _ _ _ (own_lims ho.out.1) hLow.out).mono ?_
        rintro _ w2 ⟨⟨v', rfl, hn, hy⟩, rfl⟩
        have HN := Lib.hid hn
        have HY := Lib.hid (hy _ (own_young (show Own wr w.heap.size _ o from ho.out.1)))
        clear hn hy
        go_wp2_with fail
        go_ret
        exact ⟨_, rfl, (by rw [← HR.out]; exact HN.out.more (by omega)), HY.out, HB.out⟩
end Go.Proofs.YtamhlkjfpdkhoaaGreatDoor
