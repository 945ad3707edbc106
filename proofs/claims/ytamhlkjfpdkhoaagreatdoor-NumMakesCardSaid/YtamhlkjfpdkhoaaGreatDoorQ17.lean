import Derived.Test.YtamhlkjfpdkhoaaGreatDoorQ16
/- WALKS of the program's numbers of any size: compare, isOne, multiplyAdd, addProduct. -/
namespace Go.Proofs.YtamhlkjfpdkhoaaGreatDoor
open Go.RowKit

theorem compareInt_cast (a b : Nat) : Lib.compareInt (a : Int) (b : Int) = cmpv a b := by
  unfold Lib.compareInt cmpv
  split <;> split <;> (try omega) <;> (try rfl) <;> split <;> (try omega) <;> (try rfl) <;> split <;> (try omega) <;> rfl

theorem cmpN_cmpv (a b : Nat) : cmpN a b = cmpv a b := rfl

set_option maxRecDepth 100000 in
set_option maxHeartbeats 1000000 in
theorem compare_all (u v : Value) (a b ka kb : Nat) (w : World) (ha : DN w u a ka) (hb : DN w v b kb) :
    Calls Tryz.prog 116 #[u, v] w fun e w' => e = .returned (.int .i64 (cmpv a b)) ∧ Drew w w' := by
  obtain ⟨l, p, c, rfl, h1, h2, rfl, h4, h5, e2⟩ := ha.norm
  obtain ⟨m, q, d, rfl, h3, h6, rfl, h7, h8, e5⟩ := hb.norm
  have HA := Lib.hid h1
  have HB := Lib.hid h3
  have N1 := Lib.hid h2
  have N2 := Lib.hid h6
  have C64 := Lib.hid Compare64_any
  unfold maxLen at e2 e5
  clear ha hb h1 h3 h2 h6
  by_cases hlen : l.length = m.length
  · have HL := Lib.hid hlen
    rw [← hlen]
    clear hlen h4 h7 h8
    go_enter Tryz.func116, Tryz.ntmps116
    go_wp2
    go_loopw [5] (fun i wr => ∃ k : Nat, k ≤ l.length ∧ i = .int .i64 ((k : Int) - 1) ∧ Hid (val B64 (l.drop k) = val B64 (m.drop k)) ∧ Hid (Drew w wr)) (fun i _ => (intOf i + 1).toNat)
    case atStart => exact ⟨l.length, Nat.le_refl _, rfl, Lib.hid (by rw [val_drop_end _ (Nat.le_refl _), val_drop_end _ (by rw [HL.out]; exact Nat.le_refl _)]), Lib.hid (Drew.refl _)⟩
    case round =>
      obtain ⟨k, hk, rfl, hv, hd⟩ := hrel
      by_cases hk0 : 0 < k
      · obtain ⟨x, hx⟩ : ∃ d, l[k - 1]? = some d := ⟨_, List.getElem?_eq_getElem (by omega)⟩
        obtain ⟨y, hy⟩ : ∃ d, m[k - 1]? = some d := ⟨_, List.getElem?_eq_getElem (by have := HL.out; omega)⟩
        obtain ⟨g, rfl, c0⟩ := HA.out.at_ (hd.out.below _) hx
        obtain ⟨g', rfl, c1⟩ := HB.out.at_ (hd.out.below _) hy
        have hds : ∀ n, Drew w (wr.drewN n) := fun n => hd.out.drewN n
        have DD := Lib.hid hds
        have k0 : ∀ n, (wr.drewN n).cell? ⟨g, k - 1, none⟩ = some (.int .u64 x) := fun n => (((Drew.refl wr).drewN n).cell _).trans c0
        have k1 : ∀ n, (wr.drewN n).cell? ⟨g', k - 1, none⟩ = some (.int .u64 y) := fun n => (((Drew.refl wr).drewN n).cell _).trans c1
        by_cases hxy : x = y
        · subst hxy
          have HV := Lib.hid (drop_same hk0 hx hy hv.out)
          clear hx hy hds
          go_wp2
          go_quiet (fail)
          go_wp2
          go_roundw
          case rel => exact ⟨k - 1, by omega, by go_num, HV, Lib.hid (DD.out _)⟩
          case measure => simp [intOf]; omega
        · have hR : cmpv x y = cmpv (val B64 l) (val B64 m) := by
            rcases Nat.lt_or_gt_of_ne hxy with h | h
            · rw [cmpv_lt h, cmpv_lt (lt_of_limb N1.out.1 HL.out hx hy (by rw [show k - 1 + 1 = k by omega]; exact hv.out) h)]
            · rw [cmpv_gt h, cmpv_gt (lt_of_limb N2.out.1 HL.out.symm hy hx (by rw [show k - 1 + 1 = k by omega]; exact hv.out.symm) h)]
          have HR := Lib.hid hR
          have t1 : ((x : Int) != (y : Int)) = true := by rw [bne_iff_ne]; omega
          clear hx hy hds hR
          go_wp2
          go_quiet (fail)
          go_wp2
          have s0 := k0 nq
          have s1 := k1 nq
          have HDn := Lib.hid (DD.out nq)
          clear k0 k1 c0 c1 DD
          generalize wr.drewN nq = w2 at *
          go_quiet ((go_at_call 160; exact Calls.quiet_of_same (C64.out _ _ _)))
          go_wp2
          go_ret
          exact ⟨ret_int HR.out, HDn.out.drewN _⟩
      · obtain rfl : k = 0 := by omega
        have HR := Lib.hid (cmpv_eq (show val B64 l = val B64 m from hv.out))
        go_wp2
        go_ret
        exact ⟨ret_int HR.out.symm, hd.out⟩
  · have hR : cmpv l.length m.length = cmpv (val B64 l) (val B64 m) := by
      rcases Nat.lt_or_gt_of_ne hlen with h | h
      · rw [cmpv_lt h, cmpv_lt (N1.out.lt_of_len B64_pos N2.out h)]
      · rw [cmpv_gt h, cmpv_gt (N2.out.lt_of_len B64_pos N1.out h)]
    have HR := Lib.hid hR
    have t1 : ((l.length : Int) != (m.length : Int)) = true := by simp; omega
    clear hlen hR
    go_enter Tryz.func116, Tryz.ntmps116
    go_wp2_with fail
    refine (Tryz.cmp_Compare_int _ _ _).mono ?_
    rintro e w1 ⟨rfl, rfl⟩
    go_wp2_with fail
    go_ret
    exact ⟨ret_int ((compareInt_cast _ _).trans HR.out), Drew.refl _⟩

set_option maxRecDepth 100000 in
set_option maxHeartbeats 1000000 in
theorem isOne_all (v : Value) (n k : Nat) (w : World) (hd : DN w v n k) :
    Calls Tryz.prog 99 #[v] w fun e w' => e = .returned (.bool (decide (n = 1))) ∧ Drew w w' := by
  obtain ⟨l, p, c, rfl, h1, h2, rfl, h4, h5, e2⟩ := hd.norm
  by_cases hl : l.length = 1
  · obtain ⟨d, rfl⟩ := List.length_eq_one_iff.1 hl
    obtain ⟨g, rfl, c0⟩ := h1.at_ (Below.refl _ _) (i := 0) (d := d) rfl
    have e1 : decide (val B64 [d] = 1) = decide (d = 1) := decide_eq_decide.2 (by simp [val])
    rw [e1]
    by_cases hd1 : d = 1
    · subst hd1
      clear hd h1 h2 h4 e1 hl
      go_enter Tryz.func99, Tryz.ntmps99
      go_wp2
      go_ret
      exact ⟨rfl, Drew.refl _⟩
    · have t1 : ((d : Int) == 1) = false := by rw [beq_eq_false_iff_ne]; omega
      have e3 : decide (d = 1) = false := by simp [hd1]
      rw [e3]
      clear hd h1 h2 h4 e1 hl
      go_enter Tryz.func99, Tryz.ntmps99
      go_wp2
      go_ret
      exact ⟨rfl, Drew.refl _⟩
  · have e1 : decide (val B64 l = 1) = false := by
      rw [decide_eq_false_iff_not]
      intro h
      have := h2.len_le (k := 1) B64_one (by rw [h]; decide)
      have h0 : l.length = 0 := by omega
      rw [List.eq_nil_of_length_eq_zero h0] at h
      simp [val] at h
    rw [e1]
    have t1 : ((l.length : Int) == 1) = false := by rw [beq_eq_false_iff_ne]; omega
    clear hd h1 h2 h4 e1
    go_enter Tryz.func99, Tryz.ntmps99
    go_wp2
    go_ret
    exact ⟨rfl, Drew.refl _⟩

set_option maxHeartbeats 400000 in
theorem multiplyAdd_all (x y z h l : Nat) (w : World) (hx : x < 18446744073709551616) (hy : y < 18446744073709551616) (hz : z < 18446744073709551616) (e : x * y + z = l + 18446744073709551616 * h) (hl : l < 18446744073709551616) :
    Calls Tryz.prog 186 #[.int .u64 x, .int .u64 y, .int .u64 z] w fun e w' => e = .returned (.tuple #[.int .u64 h, .int .u64 l]) ∧ Drew w w' := by
  have M := fun W => Tryz.bits_Mul64 x y hx hy W
  have hp : x * y ≤ 18446744073709551615 * 18446744073709551615 := Nat.mul_le_mul (by omega) (by omega)
  obtain ⟨p, hp'⟩ : ∃ p, x * y = p := ⟨_, rfl⟩
  rw [hp'] at M e hp
  obtain ⟨ph, hph⟩ : ∃ s, p / 18446744073709551616 = s := ⟨_, rfl⟩
  obtain ⟨pl, hpl⟩ : ∃ s, p % 18446744073709551616 = s := ⟨_, rfl⟩
  simp only [hph, hpl] at M
  obtain ⟨cy, hcy⟩ : ∃ s, (pl + z) / 18446744073709551616 = s := ⟨_, rfl⟩
  have e1 : pl + z = l + 18446744073709551616 * cy := by omega
  have e2 : ph + cy = h := by omega
  have e3 : ph + cy < 18446744073709551616 := by omega
  have A1 : ∀ W, (callFunc 199 #[.int .u64 pl, .int .u64 z, .int .u64 0]).run Tryz.prog W = .ok (.value (.tuple #[.int .u64 (l : Int), .int .u64 (cy : Int)])) W := fun W => add64_eq pl z 0 l cy (by omega) hl (by omega) W
  have hw : IntKind.u64.wrap ((ph : Int) + (cy : Int)) = (h : Int) := by rw [IntKind.wrap_u64]; omega
  have HM := Lib.hid M
  clear M hx hy hz e hl hp hp' hph hpl hcy e1 e2 e3
  go_enter Tryz.func186, Tryz.ntmps186
  go_wp2_with fail
  refine (HM.out _).mono ?_
  rintro e w1 ⟨rfl, rfl⟩
  go_wp2_with fail
  go_ret2
  exact ⟨rfl, Drew.refl _⟩
end Go.Proofs.YtamhlkjfpdkhoaaGreatDoor

/- WALKS of the program's numbers of any size: addProduct, times. -/
namespace Go.Proofs.YtamhlkjfpdkhoaaGreatDoor
open Go.RowKit

theorem set_top {b : Nat} {o : List Nat} {j cc W : Nat} (hz : o[j]? = some 0) (h : val b o + b ^ j * cc = W) : val b (o.set j cc) = W := by
  have hs := val_set (b := b) cc hz
  rw [Nat.mul_zero, Nat.add_zero] at hs
  rw [hs, h]

theorem prod_step {b x f cc z h lo d up : Nat} (e1 : x * f + cc = lo + b * h) (e2 : z + lo = d + b * up) : z + cc + x * f = d + b * (h + up) := by
  rw [Nat.mul_add]; omega

theorem prod_rel {b o i v v' x f V W c' : Nat} (h1 : v' = v + b ^ i * x) (h2 : V + b ^ (o + i + 1) * c' = W + b ^ o * (v * f) + b ^ (o + i) * (x * f)) : V + b ^ (o + (i + 1)) * c' = W + b ^ o * (v' * f) := by
  rw [h1, Nat.add_mul, Nat.mul_add, ← Nat.add_assoc, ← Nat.add_assoc, h2, Nat.mul_assoc (b ^ i), ← Nat.mul_assoc (b ^ o) (b ^ i), ← Nat.pow_add]

set_option maxRecDepth 100000 in
set_option maxHeartbeats 2000000 in
theorem addProduct_all (g o c cm f : Nat) (q : Option Addr) (L m : List Nat) (w : World) (hL : Cells w g L) (ho : o + m.length ≤ L.length) (hn : m.length ≤ c) (hc : c ≤ maxLen) (hLow : Low B64 L)
    (hm : Wds w (.slice q m.length cm) m) (hmL : Low B64 m) (hap : Apart g (.slice q m.length cm)) (hf : f < 18446744073709551616) :
    Calls Tryz.prog 192 #[.slice (some ⟨g, o, none⟩) m.length c, .slice q m.length cm, .int .u64 f] w fun e w' => ∃ (cy : Nat) (L' : List Nat), e = .returned (.int .u64 cy) ∧ cy < 18446744073709551616 ∧ L'.length = L.length ∧ Low B64 L' ∧ val B64 L' + B64 ^ (o + m.length) * cy = val B64 L + B64 ^ o * (val B64 m * f) ∧ L'.drop (o + m.length) = L.drop (o + m.length) ∧ Cells w' g L' ∧ Only g w w' := by
  have HL := Lib.hid hL
  have HO := Lib.hid ho
  have HLow := Lib.hid hLow
  have HM := Lib.hid hm
  have HML := Lib.hid hmL
  have HAP := Lib.hid hap
  have MA := Lib.hid multiplyAdd_all
  unfold maxLen at hc
  clear hL hLow hm hmL hap ho
  go_enter Tryz.func192, Tryz.ntmps192
  go_wp2
  go_loopw [7, 15] (fun cv iv wr => ∃ (R : List Nat) (cc i : Nat), cv = .int .u64 cc ∧ iv = .int .i64 i ∧ i ≤ m.length ∧ Hid (cc < 18446744073709551616) ∧ Hid (R.length = L.length) ∧ Hid (Low B64 R) ∧ Hid (val B64 R + B64 ^ (o + i) * cc = val B64 L + B64 ^ o * (val B64 (m.take i) * f)) ∧ Hid (R.drop (o + i) = L.drop (o + i)) ∧ Hid (Cells wr g R) ∧ Hid (Only g w wr)) (fun _ iv _ => m.length - (intOf iv).toNat)
  case atStart => exact ⟨L, 0, 0, rfl, rfl, by omega, Lib.hid (by decide), Lib.hid rfl, HLow, Lib.hid (by simp [val]), Lib.hid rfl, HL, Lib.hid (Only.refl _ _)⟩
  case round =>
    clear HL HLow
    obtain ⟨R, cc, i, rfl, rfl, him, hcc, hRl, hRL, hV, hD, hC, hOn⟩ := hrel
    by_cases h1 : i < m.length
    · obtain ⟨x, hx⟩ : ∃ d, m[i]? = some d := ⟨_, List.getElem?_eq_getElem h1⟩
      obtain ⟨gq, rfl, d1⟩ := (HM.out.only hOn.out HAP.out).at_ (Below.refl _ _) hx
      have bx : x < 18446744073709551616 := HML.out.at_ hx
      obtain ⟨z, hz⟩ : ∃ d, R[o + i]? = some d := ⟨_, List.getElem?_eq_getElem (by have := hRl.out; have := HO.out; omega)⟩
      have bz : z < 18446744073709551616 := hRL.out.at_ hz
      obtain ⟨c1, f1⟩ := hC.out _ _ hz
      have bcc := hcc.out
      have hp : x * f ≤ 18446744073709551615 * 18446744073709551615 := Nat.mul_le_mul (by omega) (by omega)
      obtain ⟨p, hp'⟩ : ∃ p, x * f = p := ⟨_, rfl⟩
      have M1 := fun h l W e hl => MA.out x f cc h l W bx hf bcc e hl
      rw [hp'] at hp M1
      obtain ⟨h, hh⟩ : ∃ s, (p + cc) / 18446744073709551616 = s := ⟨_, rfl⟩
      obtain ⟨lo, hlo⟩ : ∃ s, (p + cc) % 18446744073709551616 = s := ⟨_, rfl⟩
      have e1 : p + cc = lo + 18446744073709551616 * h := by omega
      have M2 := Lib.hid (fun W => M1 h lo W e1 (by omega))
      obtain ⟨up, hup⟩ : ∃ s, (z + lo) / 18446744073709551616 = s := ⟨_, rfl⟩
      obtain ⟨d, hd⟩ : ∃ s, (z + lo) % 18446744073709551616 = s := ⟨_, rfl⟩
      have e2 : z + lo = d + 18446744073709551616 * up := by omega
      have hdB : d < 18446744073709551616 := by omega
      have A1 : ∀ W, (callFunc 199 #[.int .u64 z, .int .u64 lo, .int .u64 0]).run Tryz.prog W = .ok (.value (.tuple #[.int .u64 (d : Int), .int .u64 (up : Int)])) W := fun W => add64_eq z lo 0 d up (by omega) hdB (by omega) W
      obtain ⟨c', hc'⟩ : ∃ s, h + up = s := ⟨_, rfl⟩
      have hcB : c' < 18446744073709551616 := by omega
      have hw : IntKind.u64.wrap ((h : Int) + (up : Int)) = (c' : Int) := by rw [IntKind.wrap_u64]; omega
      have HV := Lib.hid (set_add (b := B64) (c' := c') hz hV.out (show z + cc + x * f = d + B64 * c' by rw [← hc']; exact prod_step (by rw [hp']; exact e1) e2) rfl)
      have HT := Lib.hid (val_take_succ B64 hx)
      have HRL := Lib.hid (hRL.out.set (o + i) (show d < B64 from hdB))
      have HRl : Hid ((R.set (o + i) d).length = L.length) := Lib.hid (by rw [List.length_set]; exact hRl.out)
      have HD : Hid ((R.set (o + i) d).drop (o + (i + 1)) = L.drop (o + (i + 1))) := Lib.hid (by rw [← Nat.add_assoc, drop_set_next]; exact drop_more hD.out _ (by omega))
      have HC := fun W (h : Drew wr W) => (hC.out.of_drew h).set (o + i) d
      have HOn := fun W (h : Drew wr W) => (hOn.out.trans (Only.of_drew h)).set (o + i) (.int .u64 (d : Int))
      replace HC := Lib.hid HC
      replace HOn := Lib.hid HOn
      have HcB := Lib.hid hcB
      clear hz hx hh hlo hup hd hc' e1 e2 hV hRl hRL hD hC hOn hdB bx bz bcc hp hp' M1 hcB
      go_wp2_with fail
      refine (M2.out _).mono ?_
      rintro _ w2 ⟨rfl, hd2⟩
      have k1 := (hd2.cell ⟨g, o + i, none⟩).trans c1
      have k2 := (hd2.frozen ⟨g, o + i, none⟩).trans f1
      have HC2 := Lib.hid (HC.out _ hd2)
      have HOn2 := Lib.hid (HOn.out _ hd2)
      clear hd2 c1 f1 d1 HC HOn M2
      go_wp2
      go_roundw
      case rel => exact ⟨R.set (o + i) d, c', i + 1, rfl, by go_num, by omega, HcB, HRl, HRL, Lib.hid (prod_rel HT.out HV.out), HD, HC2, HOn2⟩
      case measure => simp [intOf]; omega
    · obtain rfl : i = m.length := by omega
      have HV : Hid (val B64 R + B64 ^ (o + m.length) * cc = val B64 L + B64 ^ o * (val B64 m * f)) := Lib.hid (by have h := hV.out; rwa [List.take_length] at h)
      clear hV
      go_wp2
      go_ret
      exact ⟨_, R, rfl, hcc.out, hRl.out, hRL.out, HV.out, hD.out, hC.out, hOn.out⟩
end Go.Proofs.YtamhlkjfpdkhoaaGreatDoor

/- WALKS of the program's numbers of any size: times. -/
namespace Go.Proofs.YtamhlkjfpdkhoaaGreatDoor
open Go.RowKit

theorem times_rel {b i V v v' x m : Nat} (h1 : v' = v + b ^ i * x) (h2 : V = v * m) : V + b ^ i * (m * x) = v' * m := by
  rw [h1, h2, Nat.add_mul, Nat.mul_assoc, Nat.mul_comm m x]

theorem low_zeros (n : Nat) : Low B64 (List.replicate n 0) := fun d hd => by rw [List.eq_of_mem_replicate hd]; exact B64_pos

set_option maxRecDepth 1000000 in
set_option maxHeartbeats 4000000 in
theorem times_all (u v : Value) (a b ka kb : Nat) (w : World) (hu : DN w u a ka) (hv : DN w v b kb) (hk : ka ≤ 1073741824) (hk' : kb ≤ 1073741824) :
    Calls Tryz.prog 158 #[u, v] w fun e w' => RetD w (a * b) (ka + kb) e w' := by
  obtain ⟨l, p, c, rfl, h1, h2, rfl, h4, h5, h6⟩ := hu.norm
  obtain ⟨m, q, cm, rfl, k1, k2, rfl, k4, k5, k6⟩ := hv.norm
  obtain ⟨i0, hi, hz0, hz1, hz2⟩ := info_parts infoWord
  have CT := Lib.hid cut_all
  have AP := Lib.hid addProduct_all
  have H1 := Lib.hid h2
  have K1 := Lib.hid k2
  have HW := Lib.hid h1
  have KW := Lib.hid k1
  clear hu hv h1 h2 k1 k2
  unfold RetD
  by_cases hlen : m.length < l.length
  · go_enter Tryz.func158, Tryz.ntmps158
    go_wp2_with (at_make; refine wpList_make_full _ rfl _ _ 28 rfl w.heap.size 102 i0 (.int .u64 0) 1 Tryz.underlying28 hi hz0 hz1 .i64 .i64 ((m.length : Int) + (l.length : Int)) ((m.length : Int) + (l.length : Int)) (m.length + l.length) (by go_num) (by go_num) (by omega) (by omega) (by rw [hz2]; omega) (by unfold maxLen; omega) (Nat.le_refl _) ?_; intro w1 hown1 hgrow1; have R1 := Lib.hid (row_made hown1); have B1 := Lib.hid ((Below.refl w.heap.size w).grown hgrow1 (Nat.le_refl _) (fun k hk => by cases hk)); clear hown1 hgrow1)
    go_loopw [23] (fun iv wr => ∃ (P : List Nat) (i : Nat), iv = .int .i64 i ∧ i ≤ m.length ∧ Hid (P.length = m.length + l.length) ∧ Hid (Low B64 P) ∧ Hid (val B64 P = val B64 (m.take i) * val B64 l) ∧ Hid (P.drop (i + l.length) = (List.replicate (m.length + l.length) 0).drop (i + l.length)) ∧ Hid (Cells wr w.heap.size P) ∧ Hid (Below w.heap.size w wr)) (fun iv _ => m.length - (intOf iv).toNat)
    case atStart => exact ⟨List.replicate (m.length + l.length) 0, 0, rfl, by omega, Lib.hid (by rw [List.length_replicate]), Lib.hid (low_zeros _), Lib.hid (by rw [val_zeros]; simp [val]), Lib.hid rfl, Lib.hid R1.out.cells, B1⟩
    case round =>
      clear R1 B1
      obtain ⟨P, i, rfl, hi, hPl, hPL, hV, hD, hC, hB⟩ := hrel
      by_cases h1 : i < m.length
      · obtain ⟨x, hx⟩ : ∃ d, m[i]? = some d := ⟨_, List.getElem?_eq_getElem h1⟩
        obtain ⟨gp, rfl, d1⟩ := KW.out.at_ hB.out hx
        have bx : x < 18446744073709551616 := K1.out.1.at_ hx
        have HVT := Lib.hid (val_take_succ B64 hx)
        have AP1 := Lib.hid (AP.out w.heap.size i (m.length + l.length - i) c x p P l wr hC.out (by rw [hPl.out]; omega) (by omega) (by unfold maxLen; omega) hPL.out (HW.out.below hB.out) H1.out.1 (Wds.apart HW.out (Nat.le_refl _)) bx)
        clear hx bx
        go_wp2_with fail
        refine AP1.out.mono ?_
        rintro _ w3 ⟨cy, P', rfl, hcy, hl, hlow, hv, hd, hc, ho⟩
        have E0 : P'[i + l.length]? = some 0 := by rw [get_of_drop hd, get_of_drop hD.out, List.getElem?_replicate, if_pos (by omega)]
        obtain ⟨c1, f1⟩ := hc _ _ E0
        have HV := Lib.hid ((set_top E0 hv).trans (times_rel HVT.out hV.out))
        have HC := Lib.hid (hc.set (i + l.length) cy)
        have HLow := Lib.hid (hlow.set (i + l.length) (show cy < B64 from hcy))
        have HLen : Hid ((P'.set (i + l.length) cy).length = m.length + l.length) := Lib.hid (by rw [List.length_set, hl, hPl.out])
        have HD : Hid ((P'.set (i + l.length) cy).drop (i + 1 + l.length) = (List.replicate (m.length + l.length) 0).drop (i + 1 + l.length)) := Lib.hid (by rw [Nat.add_right_comm, drop_set_next, drop_more hd _ (by omega), drop_more hD.out _ (by omega)])
        have HB := Lib.hid ((hB.out.trans (ho.below (Nat.le_refl _))).setCell (p := ⟨w.heap.size, i + l.length, none⟩) (Nat.le_refl _) (.int .u64 (cy : Int)))
        clear hv hd hc ho hlow hl E0 AP1 hPl hPL hV hD hC hB hcy
        go_wp2_with fail
        go_roundw
        case rel => exact ⟨P'.set (i + l.length) cy, i + 1, by go_num, by omega, HLen, HLow, HV, HD, HC, HB⟩
        case measure => simp [intOf]; omega
      · obtain rfl : i = m.length := by omega
        have HV : Hid (val B64 P = val B64 m * val B64 l) := Lib.hid (by have h := hV.out; rwa [List.take_length] at h)
        have CC := CT.out (some ⟨w.heap.size, 0, none⟩) (m.length + l.length) P wr (hC.out.wds (Nat.le_of_eq hPl.out) (by unfold maxLen; omega)) hPL.out
        rw [hPl.out, HV.out] at CC
        replace CC := Lib.hid CC
        clear hV
        go_wp2_with fail
        refine CC.out.mono ?_
        rintro _ w4 ⟨⟨v', rfl, hv, hf⟩, hd⟩
        have HV' := Lib.hid hv
        have HF := Lib.hid hf
        have HD := Lib.hid hd
        clear hv hf hd CC
        go_wp2_with fail
        go_ret
        refine ⟨_, rfl, ?_, young_of (by rintro _ ⟨⟩; exact Nat.le_refl _) HF.out, hB.out.trans (HD.out.below _)⟩
        have h := (HV'.out.below (HD.out.below _)).more (show _ ≤ ka + kb by omega)
        rw [Nat.mul_comm] at h; exact h
  · go_enter Tryz.func158, Tryz.ntmps158
    go_wp2_with (at_make; refine wpList_make_full _ rfl _ _ 28 rfl w.heap.size 102 i0 (.int .u64 0) 1 Tryz.underlying28 hi hz0 hz1 .i64 .i64 ((l.length : Int) + (m.length : Int)) ((l.length : Int) + (m.length : Int)) (l.length + m.length) (by go_num) (by go_num) (by omega) (by omega) (by rw [hz2]; omega) (by unfold maxLen; omega) (Nat.le_refl _) ?_; intro w1 hown1 hgrow1; have R1 := Lib.hid (row_made hown1); have B1 := Lib.hid ((Below.refl w.heap.size w).grown hgrow1 (Nat.le_refl _) (fun k hk => by cases hk)); clear hown1 hgrow1)
    go_loopw [23] (fun iv wr => ∃ (P : List Nat) (i : Nat), iv = .int .i64 i ∧ i ≤ l.length ∧ Hid (P.length = l.length + m.length) ∧ Hid (Low B64 P) ∧ Hid (val B64 P = val B64 (l.take i) * val B64 m) ∧ Hid (P.drop (i + m.length) = (List.replicate (l.length + m.length) 0).drop (i + m.length)) ∧ Hid (Cells wr w.heap.size P) ∧ Hid (Below w.heap.size w wr)) (fun iv _ => l.length - (intOf iv).toNat)
    case atStart => exact ⟨List.replicate (l.length + m.length) 0, 0, rfl, by omega, Lib.hid (by rw [List.length_replicate]), Lib.hid (low_zeros _), Lib.hid (by rw [val_zeros]; simp [val]), Lib.hid rfl, Lib.hid R1.out.cells, B1⟩
    case round =>
      clear R1 B1
      obtain ⟨P, i, rfl, hi, hPl, hPL, hV, hD, hC, hB⟩ := hrel
      by_cases h1 : i < l.length
      · obtain ⟨x, hx⟩ : ∃ d, l[i]? = some d := ⟨_, List.getElem?_eq_getElem h1⟩
        obtain ⟨gp, rfl, d1⟩ := HW.out.at_ hB.out hx
        have bx : x < 18446744073709551616 := H1.out.1.at_ hx
        have HVT := Lib.hid (val_take_succ B64 hx)
        have AP1 := Lib.hid (AP.out w.heap.size i (l.length + m.length - i) cm x q P m wr hC.out (by rw [hPl.out]; omega) (by omega) (by unfold maxLen; omega) hPL.out (KW.out.below hB.out) K1.out.1 (Wds.apart KW.out (Nat.le_refl _)) bx)
        clear hx bx
        go_wp2_with fail
        refine AP1.out.mono ?_
        rintro _ w3 ⟨cy, P', rfl, hcy, hl, hlow, hv, hd, hc, ho⟩
        have E0 : P'[i + m.length]? = some 0 := by rw [get_of_drop hd, get_of_drop hD.out, List.getElem?_replicate, if_pos (by omega)]
        obtain ⟨c1, f1⟩ := hc _ _ E0
        have HV := Lib.hid ((set_top E0 hv).trans (times_rel HVT.out hV.out))
        have HC := Lib.hid (hc.set (i + m.length) cy)
        have HLow := Lib.hid (hlow.set (i + m.length) (show cy < B64 from hcy))
        have HLen : Hid ((P'.set (i + m.length) cy).length = l.length + m.length) := Lib.hid (by rw [List.length_set, hl, hPl.out])
        have HD : Hid ((P'.set (i + m.length) cy).drop (i + 1 + m.length) = (List.replicate (l.length + m.length) 0).drop (i + 1 + m.length)) := Lib.hid (by rw [Nat.add_right_comm, drop_set_next, drop_more hd _ (by omega), drop_more hD.out _ (by omega)])
        have HB := Lib.hid ((hB.out.trans (ho.below (Nat.le_refl _))).setCell (p := ⟨w.heap.size, i + m.length, none⟩) (Nat.le_refl _) (.int .u64 (cy : Int)))
        clear hv hd hc ho hlow hl E0 AP1 hPl hPL hV hD hC hB hcy
        go_wp2_with fail
        go_roundw
        case rel => exact ⟨P'.set (i + m.length) cy, i + 1, by go_num, by omega, HLen, HLow, HV, HD, HC, HB⟩
        case measure => simp [intOf]; omega
      · obtain rfl : i = l.length := by omega
        have HV : Hid (val B64 P = val B64 l * val B64 m) := Lib.hid (by have h := hV.out; rwa [List.take_length] at h)
        have CC := CT.out (some ⟨w.heap.size, 0, none⟩) (l.length + m.length) P wr (hC.out.wds (Nat.le_of_eq hPl.out) (by unfold maxLen; omega)) hPL.out
        rw [hPl.out, HV.out] at CC
        replace CC := Lib.hid CC
        clear hV
        go_wp2_with fail
        refine CC.out.mono ?_
        rintro _ w4 ⟨⟨v', rfl, hv, hf⟩, hd⟩
        have HV' := Lib.hid hv
        have HF := Lib.hid hf
        have HD := Lib.hid hd
        clear hv hf hd CC
        go_wp2_with fail
        go_ret
        refine ⟨_, rfl, ?_, young_of (by rintro _ ⟨⟩; exact Nat.le_refl _) HF.out, hB.out.trans (HD.out.below _)⟩
        have h := (HV'.out.below (HD.out.below _)).more (show _ ≤ ka + kb by omega)
        exact h
end Go.Proofs.YtamhlkjfpdkhoaaGreatDoor
