/- WALKS of the reference's integers: Of. -/
import Derived.Test.YtamhlkjfpdkhoaaGreatDoorQ24
set_option linter.unusedVariables false
namespace Go.Proofs.YtamhlkjfpdkhoaaGreatDoor
open Go.RowKit

theorem of_step {o : List Nat} {r d q n : Nat} (h : val B9 o + B9 ^ o.length * r = n) (hd : r % 1000000000 = d) (hq : r / 1000000000 = q) : val B9 (o ++ [d]) + B9 ^ (o.length + 1) * q = n := by
  rw [val_snoc, Nat.pow_succ, ← h]
  have e : r = d + B9 * q := by unfold B9; omega
  conv => rhs; rw [e, Nat.mul_add, ← Nat.mul_assoc, ← Nat.add_assoc]

theorem of_top {o : List Nat} {r n : Nat} (h : val B9 o + B9 ^ o.length * r = n) (hr : 0 < r) : B9 ^ o.length ≤ n := by
  have : B9 ^ o.length * 1 ≤ B9 ^ o.length * r := Nat.mul_le_mul_left _ hr
  omega

theorem of_end {o : List Nat} {n : Nat} (h : val B9 o + B9 ^ o.length * 0 = n) (hl : Low B9 o) (ht : o = [] ∨ B9 ^ (o.length - 1) ≤ n) : Norm B9 o ∧ val B9 o = n := by
  rw [Nat.mul_zero, Nat.add_zero] at h
  exact ⟨⟨hl, Top.of_val B9_pos hl (by rw [h]; exact ht)⟩, h⟩

set_option maxRecDepth 100000 in
set_option maxHeartbeats 2000000 in
theorem Of_ref (m : Int) (w : World) (h1 : -9223372036854775808 ≤ m) (h2 : m < 9223372036854775808) :
    Calls Tryz.prog 36 #[.int .i64 m] w fun e w' => ∃ r, e = .returned r ∧ RZ w' r m 3 ∧ Below w.heap.size w w' := by
  obtain ⟨i0, hi, hz0, hz1, hz2⟩ := info_parts infoInt
  obtain ⟨k, hk⟩ : ∃ k : Int, IntKind.u64.wrap m = k := ⟨_, rfl⟩
  have hneg : decide (m < 0) = true → IntKind.u64.wrap (-k) = m.natAbs := by intro h; simp at h; rw [← hk]; simp only [IntKind.wrap_u64]; omega
  have hneg' : decide (m < 0) = true → IntKind.u64.wrap (0 - k) = m.natAbs := by intro h; simp at h; rw [← hk]; simp only [IntKind.wrap_u64]; omega
  have hpos : decide (m < 0) = false → k = m.natAbs := by intro h; simp at h; rw [← hk]; simp only [IntKind.wrap_u64]; omega
  have hnB : m.natAbs < 18446744073709551616 := by omega
  have hn3 : m.natAbs < B9 ^ 3 := Nat.lt_of_lt_of_le hnB (by decide)
  obtain ⟨n, hn⟩ : ∃ n, m.natAbs = n := ⟨_, rfl⟩
  have HS : (decide (m < 0) && decide (0 < n)) = decide (m < 0) := by
    rw [← hn]
    by_cases h : m < 0
    · have : 0 < m.natAbs := by omega
      simp [h, this]
    · simp [h]
  obtain ⟨s, hs⟩ : ∃ s, decide (m < 0) = s := ⟨_, rfl⟩
  have SG := fun W d (h : NN W d n 3) => Int_ref (decide (m < 0)) d n 3 W h
  rw [HS] at SG
  unfold RZ
  rw [hn] at hneg hneg' hpos hnB hn3 ⊢
  rw [hs] at hneg hneg' hpos SG ⊢
  replace SG := Lib.hid SG
  have HSD := Lib.hid hs
  have HN3 := Lib.hid hn3
  have HNB := Lib.hid hnB
  unfold RS
  clear HS hn3 hn h1 h2 hnB
  cases s
  · have t1 : ¬ m < 0 := by simpa using hs
    have hc := hpos rfl
    subst hc
    clear hneg hneg' hpos hs
    go_enter Tryz.func36, Tryz.ntmps36
    go_wp2_with fail
    have R0 : Hid ((w.alloc (.cells #[.bool false, .slice none 0 0] 25)).heap[w.heap.size]? = some (.cells #[.bool false, .slice none 0 0] 25 (0, 0))) := Lib.hid (heap_alloc_new w _)
    have B0 := Lib.hid ((Below.refl w.heap.size w).alloc (Nat.le_refl _) (.cells #[.bool false, .slice none 0 0] 25))
    have Z0 : Hid ((w.alloc (.cells #[.bool false, .slice none 0 0] 25)).heap.size = w.heap.size + 1) := Lib.hid (size_alloc _ _)
    generalize w.alloc (.cells #[.bool false, .slice none 0 0] 25) = w0 at *
    go_loopw [3, 4] (fun uv mv wr => ∃ (o : List Nat) (op : Option Addr) (oc r : Nat), uv = .int .u64 r ∧ mv = .slice op o.length oc ∧ Hid (r < 18446744073709551616) ∧ Hid (Own wr w0.heap.size (.slice op o.length oc) o) ∧ Hid (Low B9 o) ∧ Hid (val B9 o + B9 ^ o.length * r = n) ∧ Hid (o = [] ∨ B9 ^ (o.length - 1) ≤ n) ∧ Hid (Below w0.heap.size w0 wr)) (fun uv _ _ => (intOf uv).toNat)
    case atStart => exact ⟨[], none, 0, n, rfl, rfl, HNB, Lib.hid (own_nil _ _), Lib.hid (Low.nil _), Lib.hid (by simp [val]), Lib.hid (.inl rfl), Lib.hid (Below.refl _ _)⟩
    case round =>
      obtain ⟨o, op, oc, r, rfl, rfl, hr, ho, hLow, hV, hTop, HB⟩ := hrel
      by_cases h0 : 0 < r
      · have br := hr.out
        have hT := of_top hV.out h0
        have hlen : o.length < 3 := (Nat.pow_lt_pow_iff_right B9_one).1 (Nat.lt_of_le_of_lt hT HN3.out)
        obtain ⟨d, hd⟩ : ∃ d, r % 1000000000 = d := ⟨_, rfl⟩
        obtain ⟨q, hq⟩ : ∃ q, r / 1000000000 = q := ⟨_, rfl⟩
        have eM : (r : Int) % 1000000000 = (d : Int) := by omega
        have eD : (r : Int) / 1000000000 = (q : Int) := by omega
        have hdl : d < 1000000000 := by omega
        have hqr : q < r := by omega
        have eW : IntKind.u64.wrap (q : Int) = (q : Int) := by rw [IntKind.wrap_u64]; omega
        have HV := Lib.hid (of_step hV.out hd hq)
        have HT := Lib.hid hT
        have HQ : Hid (q < 18446744073709551616) := Lib.hid (by omega)
        have HLo := Lib.hid (hLow.out.snoc (show d < B9 from hdl))
        clear hd hq hT hV hLow br
        go_wp2_with (at_builtin; refine wpList_append_own_at _ rfl _ _ 23 rfl w0.heap.size 3 i0 (.int .i64 0) 1 8 Tryz.underlying23 hi hz0 hz1 hz2 rfl (by decide) (.slice op o.length oc) _ _ rfl (ho.out.alloc _) ⟨wr.heap.size, 0, none⟩ 1 1 [.int .i64 (d : Int)] rfl rfl (cell_one_new _ _ _) (fun x hx => by simp at hx; subst hx; rfl) (by unfold maxLen; omega) (by omega) (by have := HB.out.size; simp; omega) ?_; intro v' w1 hown' hgrow _ _; have HO := Lib.hid (own_snoc hown'); have HG := Lib.hid (below_push HB.out hgrow fun k hk => (ho.out.lt k hk).1); obtain ⟨ap, ac, rfl⟩ := own_slice HO.out; rw [show (o ++ [d]).length = o.length + 1 by simp] at HO; clear hown' hgrow)
        go_roundw
        case rel => exact ⟨o ++ [d], ap, ac, q, rfl, by simp, HQ, Lib.hid (by rw [show (o ++ [d]).length = o.length + 1 by simp]; exact HO.out), HLo, Lib.hid (by rw [show (o ++ [d]).length = o.length + 1 by simp]; exact HV.out), Lib.hid (.inr (by simpa using HT.out)), HG.out⟩
        case measure => simp [intOf]; omega
      · obtain rfl : r = 0 := by omega
        have HE := of_end hV.out hLow.out hTop.out
        have hN : NN wr (.slice op o.length oc) n 3 := NN.fit ⟨o, own_lims ho.out, HE.1, HE.2, Nat.le_refl _⟩ HN3.out
        have HN := Lib.hid hN
        have S1 := Lib.hid (SG.out wr _ hN)
        clear HE hN hV hLow hTop hr SG
        go_wp2_with fail
        try rw [HSD.out]
        refine S1.out.mono ?_
        rintro _ w2 ⟨rfl, hb⟩
        have HNN := Lib.hid (HN.out.below hb)
        have HR := Lib.hid (Below.row hb (by have := HB.out.size; have := Z0.out; omega) (Below.row HB.out (by rw [Z0.out]; omega) R0.out))
        obtain ⟨a0, a1, a2, a3⟩ := cells2 HR.out
        have HB2 := Lib.hid (B0.out.trans ((HB.out.trans (hb.mono HB.out.size)).mono B0.out.size))
        clear hb S1
        go_wp2_with fail
        refine bodyPost_ret (res_z rfl _ _ w.heap.size _ _ _ (by rfl) (set2 HR.out _ _)) rfl ?_
        exact ⟨_, rfl, ⟨_, rfl, HNN.out.set2 (offi2 HR.out) _ _⟩, Below.set2 HB2.out (Nat.le_refl _) _ _⟩
  · have t1 : m < 0 := by simpa using hs
    have hc := hneg rfl
    have hc' := hneg' rfl
    clear hneg hneg' hpos hs
    go_enter Tryz.func36, Tryz.ntmps36
    go_wp2_with fail
    have R0 : Hid ((w.alloc (.cells #[.bool false, .slice none 0 0] 25)).heap[w.heap.size]? = some (.cells #[.bool false, .slice none 0 0] 25 (0, 0))) := Lib.hid (heap_alloc_new w _)
    have B0 := Lib.hid ((Below.refl w.heap.size w).alloc (Nat.le_refl _) (.cells #[.bool false, .slice none 0 0] 25))
    have Z0 : Hid ((w.alloc (.cells #[.bool false, .slice none 0 0] 25)).heap.size = w.heap.size + 1) := Lib.hid (size_alloc _ _)
    generalize w.alloc (.cells #[.bool false, .slice none 0 0] 25) = w0 at *
    go_loopw [3, 4] (fun uv mv wr => ∃ (o : List Nat) (op : Option Addr) (oc r : Nat), uv = .int .u64 r ∧ mv = .slice op o.length oc ∧ Hid (r < 18446744073709551616) ∧ Hid (Own wr w0.heap.size (.slice op o.length oc) o) ∧ Hid (Low B9 o) ∧ Hid (val B9 o + B9 ^ o.length * r = n) ∧ Hid (o = [] ∨ B9 ^ (o.length - 1) ≤ n) ∧ Hid (Below w0.heap.size w0 wr)) (fun uv _ _ => (intOf uv).toNat)
    case atStart => exact ⟨[], none, 0, n, rfl, rfl, HNB, Lib.hid (own_nil _ _), Lib.hid (Low.nil _), Lib.hid (by simp [val]), Lib.hid (.inl rfl), Lib.hid (Below.refl _ _)⟩
    case round =>
      obtain ⟨o, op, oc, r, rfl, rfl, hr, ho, hLow, hV, hTop, HB⟩ := hrel
      by_cases h0 : 0 < r
      · have br := hr.out
        have hT := of_top hV.out h0
        have hlen : o.length < 3 := (Nat.pow_lt_pow_iff_right B9_one).1 (Nat.lt_of_le_of_lt hT HN3.out)
        obtain ⟨d, hd⟩ : ∃ d, r % 1000000000 = d := ⟨_, rfl⟩
        obtain ⟨q, hq⟩ : ∃ q, r / 1000000000 = q := ⟨_, rfl⟩
        have eM : (r : Int) % 1000000000 = (d : Int) := by omega
        have eD : (r : Int) / 1000000000 = (q : Int) := by omega
        have hdl : d < 1000000000 := by omega
        have hqr : q < r := by omega
        have eW : IntKind.u64.wrap (q : Int) = (q : Int) := by rw [IntKind.wrap_u64]; omega
        have HV := Lib.hid (of_step hV.out hd hq)
        have HT := Lib.hid hT
        have HQ : Hid (q < 18446744073709551616) := Lib.hid (by omega)
        have HLo := Lib.hid (hLow.out.snoc (show d < B9 from hdl))
        clear hd hq hT hV hLow br
        go_wp2_with (at_builtin; refine wpList_append_own_at _ rfl _ _ 23 rfl w0.heap.size 3 i0 (.int .i64 0) 1 8 Tryz.underlying23 hi hz0 hz1 hz2 rfl (by decide) (.slice op o.length oc) _ _ rfl (ho.out.alloc _) ⟨wr.heap.size, 0, none⟩ 1 1 [.int .i64 (d : Int)] rfl rfl (cell_one_new _ _ _) (fun x hx => by simp at hx; subst hx; rfl) (by unfold maxLen; omega) (by omega) (by have := HB.out.size; simp; omega) ?_; intro v' w1 hown' hgrow _ _; have HO := Lib.hid (own_snoc hown'); have HG := Lib.hid (below_push HB.out hgrow fun k hk => (ho.out.lt k hk).1); obtain ⟨ap, ac, rfl⟩ := own_slice HO.out; rw [show (o ++ [d]).length = o.length + 1 by simp] at HO; clear hown' hgrow)
        go_roundw
        case rel => exact ⟨o ++ [d], ap, ac, q, rfl, by simp, HQ, Lib.hid (by rw [show (o ++ [d]).length = o.length + 1 by simp]; exact HO.out), HLo, Lib.hid (by rw [show (o ++ [d]).length = o.length + 1 by simp]; exact HV.out), Lib.hid (.inr (by simpa using HT.out)), HG.out⟩
        case measure => simp [intOf]; omega
      · obtain rfl : r = 0 := by omega
        have HE := of_end hV.out hLow.out hTop.out
        have hN : NN wr (.slice op o.length oc) n 3 := NN.fit ⟨o, own_lims ho.out, HE.1, HE.2, Nat.le_refl _⟩ HN3.out
        have HN := Lib.hid hN
        have S1 := Lib.hid (SG.out wr _ hN)
        clear HE hN hV hLow hTop hr SG
        go_wp2_with fail
        try rw [HSD.out]
        refine S1.out.mono ?_
        rintro _ w2 ⟨rfl, hb⟩
        have HNN := Lib.hid (HN.out.below hb)
        have HR := Lib.hid (Below.row hb (by have := HB.out.size; have := Z0.out; omega) (Below.row HB.out (by rw [Z0.out]; omega) R0.out))
        obtain ⟨a0, a1, a2, a3⟩ := cells2 HR.out
        have HB2 := Lib.hid (B0.out.trans ((HB.out.trans (hb.mono HB.out.size)).mono B0.out.size))
        clear hb S1
        go_wp2_with fail
        refine bodyPost_ret (res_z rfl _ _ w.heap.size _ _ _ (by rfl) (set2 HR.out _ _)) rfl ?_
        exact ⟨_, rfl, ⟨_, rfl, HNN.out.set2 (offi2 HR.out) _ _⟩, Below.set2 HB2.out (Nat.le_refl _) _ _⟩
end Go.Proofs.YtamhlkjfpdkhoaaGreatDoor
