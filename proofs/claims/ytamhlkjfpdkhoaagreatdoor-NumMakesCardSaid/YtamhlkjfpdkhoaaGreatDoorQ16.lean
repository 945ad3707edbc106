/- WALKS of the program's numbers of any size: at, increase, plus, minus. -/
import Derived.Test.YtamhlkjfpdkhoaaGreatDoorQ10
import Derived.Test.YtamhlkjfpdkhoaaGreatDoorQ15
import Derived.Outline
namespace Go.Proofs.YtamhlkjfpdkhoaaGreatDoor
open Go.RowKit

theorem add64_eq (x y c s cy : Nat) (h : x + y + c = s + 18446744073709551616 * cy) (hs : s < 18446744073709551616) (hc : c ≤ 1) (w : World) :
    (callFunc 199 #[.int .u64 x, .int .u64 y, .int .u64 c]).run Tryz.prog w = .ok (.value (.tuple #[.int .u64 (s : Int), .int .u64 (cy : Int)])) w := by
  have e := add64_run x y c hc w
  have e1 : (x + y + c) % 18446744073709551616 = s := by omega
  have e2 : (x + y + c) / 18446744073709551616 = cy := by omega
  rw [e1, e2] at e
  exact e

theorem sub64_eq (x y b d bw : Nat) (h : x + 18446744073709551616 * bw = y + b + d) (hd : d < 18446744073709551616) (hx : x < 18446744073709551616) (hy : y < 18446744073709551616) (hb : b ≤ 1) (w : World) :
    (callFunc 168 #[.int .u64 x, .int .u64 y, .int .u64 b]).run Tryz.prog w = .ok (.value (.tuple #[.int .u64 (d : Int), .int .u64 (bw : Int)])) w := by
  rw [run_callFunc_extern Tryz.func168 (by kernel_rfl) (by kernel_rfl) (by kernel_rfl) (e := sub64Entry) (by kernel_rfl)]
  have e := run_sub64 (P := Tryz.prog) x y b hb w
  have e1 : (x + 18446744073709551616 - y - b) % 18446744073709551616 = d := by omega
  have e2 : (if x < y + b then 1 else 0 : Nat) = bw := by split <;> omega
  rw [e1, e2] at e
  rw [e]; rfl

set_option maxRecDepth 100000 in
set_option maxHeartbeats 1000000 in
theorem at_all (p : Option Addr) (c i : Nat) (l : List Nat) (w : World) (h : Wds w (.slice p l.length c) l) :
    Calls Tryz.prog 88 #[.slice p l.length c, .int .i64 i] w fun e w' => e = .returned (.int .u64 (l.getD i 0 : Nat)) ∧ w' = w := by
  by_cases hi : i < l.length
  · obtain ⟨d, hd⟩ : ∃ d, l[i]? = some d := ⟨_, List.getElem?_eq_getElem hi⟩
    obtain ⟨g, rfl, c0⟩ := h.at_ (Below.refl _ _) hd
    have HD := Lib.hid hd
    clear h hd
    go_enter Tryz.func88, Tryz.ntmps88
    go_wp2
    go_ret
    exact ⟨by rw [List.getD_eq_getElem?_getD, HD.out]; rfl, rfl⟩
  · have hd : l[i]? = none := List.getElem?_eq_none (by omega)
    have HD := Lib.hid hd
    clear h hd
    go_enter Tryz.func88, Tryz.ntmps88
    go_wp2
    go_ret
    exact ⟨by rw [List.getD_eq_getElem?_getD, HD.out]; rfl, rfl⟩

set_option maxRecDepth 100000 in
set_option maxHeartbeats 2000000 in
theorem increase_all (g o n c cm : Nat) (q : Option Addr) (L m : List Nat) (w : World) (hL : Cells w g L) (ho : o + n ≤ L.length) (hn : n ≤ c) (hc : c ≤ maxLen) (hLow : Low B64 L)
    (hm : Wds w (.slice q m.length cm) m) (hmL : Low B64 m) (hap : Apart g (.slice q m.length cm)) (hmn : m.length ≤ n) :
    Calls Tryz.prog 167 #[.slice (some ⟨g, o, none⟩) n c, .slice q m.length cm] w fun e w' => ∃ (cy : Nat) (L' : List Nat), e = .returned (.int .u64 cy) ∧ cy ≤ 1 ∧ L'.length = L.length ∧ Low B64 L' ∧ val B64 L' + B64 ^ (o + n) * cy = val B64 L + B64 ^ o * val B64 m ∧ L'.drop (o + n) = L.drop (o + n) ∧ Cells w' g L' ∧ Only g w w' := by
  have HL := Lib.hid hL
  have HO := Lib.hid ho
  have HLow := Lib.hid hLow
  have HM := Lib.hid hm
  have HML := Lib.hid hmL
  have HAP := Lib.hid hap
  unfold maxLen at hc
  clear hL hLow hm hmL hap ho
  go_enter Tryz.func167, Tryz.ntmps167
  go_wp2
  go_loopw [5, 11] (fun cv iv wr => ∃ (R : List Nat) (cc i : Nat), cv = .int .u64 cc ∧ iv = .int .i64 i ∧ (cc ≤ 1 ∧ i ≤ m.length) ∧ Hid (R.length = L.length) ∧ Hid (Low B64 R) ∧ Hid (val B64 R + B64 ^ (o + i) * cc = val B64 L + B64 ^ o * val B64 (m.take i)) ∧ Hid (R.drop (o + i) = L.drop (o + i)) ∧ Hid (Cells wr g R) ∧ Hid (Only g w wr)) (fun _ iv _ => m.length - (intOf iv).toNat)
  case atStart => exact ⟨L, 0, 0, rfl, rfl, ⟨by omega, by omega⟩, Lib.hid rfl, HLow, Lib.hid (by simp [val]), Lib.hid rfl, HL, Lib.hid (Only.refl _ _)⟩
  case round =>
    clear HL HLow
    obtain ⟨R, cc, i, rfl, rfl, ⟨hcc, him⟩, hRl, hRL, hV, hD, hC, hOn⟩ := hrel
    by_cases h1 : i < m.length
    · obtain ⟨x, hx⟩ : ∃ d, m[i]? = some d := ⟨_, List.getElem?_eq_getElem h1⟩
      obtain ⟨gq, rfl, d1⟩ := (HM.out.only hOn.out HAP.out).at_ (Below.refl _ _) hx
      have bx : x < 18446744073709551616 := HML.out.at_ hx
      obtain ⟨z, hz⟩ : ∃ d, R[o + i]? = some d := ⟨_, List.getElem?_eq_getElem (by have := hRl.out; have := HO.out; omega)⟩
      have bz : z < 18446744073709551616 := hRL.out.at_ hz
      obtain ⟨c1, f1⟩ := hC.out _ _ hz
      obtain ⟨s, hs⟩ : ∃ s, (z + x + cc) % 18446744073709551616 = s := ⟨_, rfl⟩
      obtain ⟨cy, hcy⟩ : ∃ s, (z + x + cc) / 18446744073709551616 = s := ⟨_, rfl⟩
      have e0 : z + x + cc = s + 18446744073709551616 * cy := by omega
      have hsB : s < 18446744073709551616 := by omega
      have hcy1 : cy ≤ 1 := by omega
      have A1 := fun W => add64_eq z x cc s cy e0 hsB hcc W
      have HV := Lib.hid (set_add hz hV.out (show z + cc + x = s + B64 * cy by unfold B64; omega) rfl)
      have HT := Lib.hid (val_take_succ B64 hx)
      have HRL := Lib.hid (hRL.out.set (o + i) (show s < B64 from hsB))
      have HRl : Hid ((R.set (o + i) s).length = L.length) := Lib.hid (by rw [List.length_set]; exact hRl.out)
      have HD : Hid ((R.set (o + i) s).drop (o + (i + 1)) = L.drop (o + (i + 1))) := Lib.hid (by rw [← Nat.add_assoc, drop_set_next]; exact drop_more hD.out _ (by omega))
      have HC := Lib.hid (hC.out.set (o + i) s)
      have HOn := Lib.hid (hOn.out.set (o + i) (.int .u64 (s : Int)))
      clear hz hx hs hcy e0 hV hRl hRL hD hC hOn hsB bx bz
      go_wp2
      go_roundw
      case rel => exact ⟨R.set (o + i) s, cy, i + 1, rfl, by go_num, ⟨hcy1, by omega⟩, HRl, HRL, Lib.hid (by rw [HT.out, Nat.mul_add, ← Nat.mul_assoc, ← Nat.pow_add, ← Nat.add_assoc, ← Nat.add_assoc]; exact HV.out), HD, HC, HOn⟩
      case measure => simp [intOf]; omega
    · obtain rfl : i = m.length := by omega
      have HV : Hid (val B64 R + B64 ^ (o + m.length) * cc = val B64 L + B64 ^ o * val B64 m) := Lib.hid (by have h := hV.out; rwa [List.take_length] at h)
      clear hV
      go_wp2
      have hmn' : m.length ≤ n := hmn
      go_loopw [5, 8] (fun cv iv wr => ∃ (R : List Nat) (cc i : Nat), cv = .int .u64 cc ∧ iv = .int .i64 i ∧ (cc ≤ 1 ∧ m.length ≤ i ∧ i ≤ n) ∧ Hid (R.length = L.length) ∧ Hid (Low B64 R) ∧ Hid (val B64 R + B64 ^ (o + i) * cc = val B64 L + B64 ^ o * val B64 m) ∧ Hid (R.drop (o + i) = L.drop (o + i)) ∧ Hid (Cells wr g R) ∧ Hid (Only g w wr)) (fun _ iv _ => n - (intOf iv).toNat)
      case atStart => exact ⟨R, cc, m.length, rfl, rfl, ⟨hcc, by omega, hmn⟩, hRl, hRL, HV, hD, hC, hOn⟩
      case round =>
        clear hRl hRL HV hD hC hOn hcc
        obtain ⟨R, cc, i, rfl, rfl, ⟨hcc, him, hin⟩, hRl, hRL, hV, hD, hC, hOn⟩ := hrel
        by_cases h2 : i < n ∧ 0 < cc
        · obtain ⟨h2, hc0⟩ := h2
          obtain ⟨z, hz⟩ : ∃ d, R[o + i]? = some d := ⟨_, List.getElem?_eq_getElem (by have := hRl.out; have := HO.out; omega)⟩
          have bz : z < 18446744073709551616 := hRL.out.at_ hz
          obtain ⟨c1, f1⟩ := hC.out _ _ hz
          obtain ⟨s, hs⟩ : ∃ s, (z + cc) % 18446744073709551616 = s := ⟨_, rfl⟩
          obtain ⟨cy, hcy⟩ : ∃ s, (z + cc) / 18446744073709551616 = s := ⟨_, rfl⟩
          have e0 : z + 0 + cc = s + 18446744073709551616 * cy := by omega
          have hsB : s < 18446744073709551616 := by omega
          have hcy1 : cy ≤ 1 := by omega
          have A1 : ∀ W, (callFunc 199 #[.int .u64 z, .int .u64 0, .int .u64 cc]).run Tryz.prog W = .ok (.value (.tuple #[.int .u64 (s : Int), .int .u64 (cy : Int)])) W := fun W => add64_eq z 0 cc s cy e0 hsB hcc W
          have HV := Lib.hid (set_add hz hV.out (show z + cc + 0 = s + B64 * cy by unfold B64; omega) (Nat.add_zero _).symm)
          have HRL := Lib.hid (hRL.out.set (o + i) (show s < B64 from hsB))
          have HRl : Hid ((R.set (o + i) s).length = L.length) := Lib.hid (by rw [List.length_set]; exact hRl.out)
          have HD : Hid ((R.set (o + i) s).drop (o + (i + 1)) = L.drop (o + (i + 1))) := Lib.hid (by rw [← Nat.add_assoc, drop_set_next]; exact drop_more hD.out _ (by omega))
          have HC := Lib.hid (hC.out.set (o + i) s)
          have HOn := Lib.hid (hOn.out.set (o + i) (.int .u64 (s : Int)))
          clear hz hs hcy e0 hV hRl hRL hD hC hOn hsB bz
          go_wp2
          go_roundw
          case rel => exact ⟨R.set (o + i) s, cy, i + 1, rfl, by go_num, ⟨hcy1, by omega, by omega⟩, HRl, HRL, HV, HD, HC, HOn⟩
          case measure => simp [intOf]; omega
        · have HE : Hid (val B64 R + B64 ^ (o + n) * cc = val B64 L + B64 ^ o * val B64 m ∧ R.drop (o + n) = L.drop (o + n)) := Lib.hid (by
            by_cases h3 : i < n
            · have h4 : cc = 0 := by omega
              subst h4
              exact ⟨by simpa using hV.out, drop_more hD.out _ (by omega)⟩
            · obtain rfl : i = n := by omega
              exact ⟨hV.out, hD.out⟩)
          clear hV hD
          by_cases h3 : i < n
          · obtain rfl : cc = 0 := by omega
            clear h2
            go_wp2
            go_ret
            exact ⟨_, R, rfl, hcc, hRl.out, hRL.out, HE.out.1, HE.out.2, hC.out, hOn.out⟩
          · obtain rfl : i = n := by omega
            clear h2
            go_wp2
            go_ret
            exact ⟨_, R, rfl, hcc, hRl.out, hRL.out, HE.out.1, HE.out.2, hC.out, hOn.out⟩

theorem plus_end {l L' : List Nat} {cy y : Nat} (hl : L'.length = (l ++ [0]).length) (hv : val B64 L' + B64 ^ (0 + l.length) * cy = val B64 (l ++ [0]) + B64 ^ 0 * y) (hd : L'.drop (0 + l.length) = (l ++ [0]).drop (0 + l.length)) :
    L'[l.length]? = some 0 ∧ val B64 (L'.set l.length cy) = val B64 l + y ∧ (L'.set l.length cy).length = l.length + 1 := by
  rw [Nat.zero_add] at hv hd
  have E0 : L'[l.length]? = some 0 := by rw [get_of_drop hd]; simp
  have h := set_add (d := cy) (c' := 0) (p := 0) E0 hv (by rw [Nat.mul_zero, Nat.zero_add]) (by rw [Nat.mul_zero, Nat.add_zero])
  rw [Nat.mul_zero, Nat.add_zero, val_snoc, Nat.mul_zero, Nat.add_zero, Nat.pow_zero, Nat.one_mul] at h
  exact ⟨E0, h, by rw [List.length_set, hl, List.length_append]; rfl⟩

theorem lt_B64 {x : Nat} (h : x ≤ 1) : x < B64 := Nat.lt_of_le_of_lt h B64_one

set_option maxRecDepth 1000000 in
set_option maxHeartbeats 4000000 in
theorem plus_all (u v : Value) (a b k : Nat) (w : World) (hu : DN w u a k) (hv : DN w v b k) (hk : k ≤ 1073741824) :
    Calls Tryz.prog 121 #[u, v] w fun e w' => RetD w (a + b) (k + 1) e w' := by
  obtain ⟨l, p, c, rfl, h1, h2, rfl, h4, h5, h6⟩ := hu.norm
  obtain ⟨m, q, cm, rfl, k1, k2, rfl, k4, k5, k6⟩ := hv.norm
  obtain ⟨i0, hi, hz0, hz1, hz2⟩ := info_parts infoWord
  have CT := Lib.hid cut_all
  have IN := Lib.hid increase_all
  have H1 := Lib.hid h2
  have K1 := Lib.hid k2
  have HW := Lib.hid h1
  have KW := Lib.hid k1
  have SRC1 : Hid (∀ W, Below w.heap.size w W → 0 < (words l).length → ∃ ad, p = some ad ∧ ∀ j v, (words l)[j]? = some v → W.cell? (ad.add j) = some v) := Lib.hid fun W hb h0 => wds_src h1 hb h0
  have SRC2 : Hid (∀ W, Below w.heap.size w W → 0 < (words m).length → ∃ ad, q = some ad ∧ ∀ j v, (words m)[j]? = some v → W.cell? (ad.add j) = some v) := Lib.hid fun W hb h0 => wds_src k1 hb h0
  clear hu hv h1 h2 k1 k2
  unfold RetD
  by_cases hlen : l.length < m.length
  · go_enter Tryz.func121, Tryz.ntmps121
    go_wp2_with (first
      | (at_make; refine wpList_make_full _ rfl _ _ 28 rfl w.heap.size 102 i0 (.int .u64 0) 1 Tryz.underlying28 hi hz0 hz1 .i64 .i64 ((m.length : Int) + 1) ((m.length : Int) + 1) (m.length + 1) (by go_num) (by go_num) (by omega) (by omega) (by rw [hz2]; omega) (by unfold maxLen; omega) (Nat.le_refl _) ?_; intro w1 hown1 hgrow1; have R1 := Lib.hid (row_made hown1); have B1 := Lib.hid ((Below.refl w.heap.size w).grown hgrow1 (Nat.le_refl _) (fun k hk => by cases hk)); clear hown1 hgrow1)
      | ((with_reducible refine wpList_copy_splice rfl (.tmp 17) (.tmp 18) 28 29 rfl 102 Tryz.underlying28 (by kernel_rfl) _ _ (m.length + 1) (m.length + 1) m.length cm rfl rfl w.heap.size 0 (words (List.replicate (m.length + 1) 0)) 102 R1.out (words m) (by simp) (fun h0 => ⟨rfl, SRC2.out _ B1.out h0⟩) (by simp) (words_one m) w.heap.size w B1.out (Nat.le_refl _) ?_); intro w2 hw2 hb2; have R2 : Hid (Row w2 w.heap.size (m ++ [0])) := Lib.hid (by unfold Row; rw [hw2.out, splice_more m _ 1 rfl]; rfl); have B2 := Lib.hid hb2; clear hw2 hb2))
    have I1 := Lib.hid (IN.out w.heap.size 0 m.length (m.length + 1) c p (m ++ [0]) l w2 R2.out.cells (by simp) (by omega) (by unfold maxLen; omega) (fun x hx => by rw [List.mem_append, List.mem_singleton] at hx; rcases hx with hx | rfl; exact K1.out.1 x hx; exact B64_pos) (HW.out.below B2.out) H1.out.1 (Wds.apart HW.out (Nat.le_refl _)) (by omega))
    refine I1.out.mono ?_
    rintro _ w3 ⟨cy, L', rfl, hcy, hl, hlow, hv, hd, hc, ho⟩
    obtain ⟨E0, hV, hN⟩ := plus_end hl hv hd
    obtain ⟨c1, f1⟩ := hc _ _ E0
    have HV := Lib.hid hV
    have HC := Lib.hid (hc.set m.length cy)
    have HLow := Lib.hid (hlow.set m.length (lt_B64 hcy))
    have HLen : Hid ((L'.set m.length cy).length = m.length + 1) := Lib.hid hN
    have HB := Lib.hid ((B2.out.trans (ho.below (Nat.le_refl _))).setCell (p := ⟨w.heap.size, m.length, none⟩) (Nat.le_refl _) (.int .u64 (cy : Int)))
    clear hV hN hv hd hc ho hlow hl E0 I1 R2
    go_wp2_with fail
    have CC := Lib.hid (CT.out (some ⟨w.heap.size, 0, none⟩) (m.length + 1) (L'.set m.length cy) _ (HC.out.wds (Nat.le_of_eq HLen.out) (by unfold maxLen; omega)) HLow.out)
    rw [HLen.out] at CC
    refine CC.out.mono ?_
    rintro _ w4 ⟨⟨v', rfl, hv, hf⟩, hd⟩
    have HV' := Lib.hid hv
    have HF := Lib.hid hf
    have HD := Lib.hid hd
    clear hv hf hd CC
    go_wp2_with fail
    go_ret
    refine ⟨_, rfl, ?_, young_of (by rintro _ ⟨⟩; exact Nat.le_refl _) HF.out, HB.out.trans (HD.out.below _)⟩
    have h := HV'.out.below (HD.out.below _)
    rw [HV.out, Nat.add_comm] at h
    exact h.more (by omega)
  · go_enter Tryz.func121, Tryz.ntmps121
    go_wp2_with (first
      | (at_make; refine wpList_make_full _ rfl _ _ 28 rfl w.heap.size 102 i0 (.int .u64 0) 1 Tryz.underlying28 hi hz0 hz1 .i64 .i64 ((l.length : Int) + 1) ((l.length : Int) + 1) (l.length + 1) (by go_num) (by go_num) (by omega) (by omega) (by rw [hz2]; omega) (by unfold maxLen; omega) (Nat.le_refl _) ?_; intro w1 hown1 hgrow1; have R1 := Lib.hid (row_made hown1); have B1 := Lib.hid ((Below.refl w.heap.size w).grown hgrow1 (Nat.le_refl _) (fun k hk => by cases hk)); clear hown1 hgrow1)
      | ((with_reducible refine wpList_copy_splice rfl (.tmp 17) (.tmp 18) 28 29 rfl 102 Tryz.underlying28 (by kernel_rfl) _ _ (l.length + 1) (l.length + 1) l.length c rfl rfl w.heap.size 0 (words (List.replicate (l.length + 1) 0)) 102 R1.out (words l) (by simp) (fun h0 => ⟨rfl, SRC1.out _ B1.out h0⟩) (by simp) (words_one l) w.heap.size w B1.out (Nat.le_refl _) ?_); intro w2 hw2 hb2; have R2 : Hid (Row w2 w.heap.size (l ++ [0])) := Lib.hid (by unfold Row; rw [hw2.out, splice_more l _ 1 rfl]; rfl); have B2 := Lib.hid hb2; clear hw2 hb2))
    have I1 := Lib.hid (IN.out w.heap.size 0 l.length (l.length + 1) cm q (l ++ [0]) m w2 R2.out.cells (by simp) (by omega) (by unfold maxLen; omega) (fun x hx => by rw [List.mem_append, List.mem_singleton] at hx; rcases hx with hx | rfl; exact H1.out.1 x hx; exact B64_pos) (KW.out.below B2.out) K1.out.1 (Wds.apart KW.out (Nat.le_refl _)) (by omega))
    refine I1.out.mono ?_
    rintro _ w3 ⟨cy, L', rfl, hcy, hl, hlow, hv, hd, hc, ho⟩
    obtain ⟨E0, hV, hN⟩ := plus_end hl hv hd
    obtain ⟨c1, f1⟩ := hc _ _ E0
    have HV := Lib.hid hV
    have HC := Lib.hid (hc.set l.length cy)
    have HLow := Lib.hid (hlow.set l.length (lt_B64 hcy))
    have HLen : Hid ((L'.set l.length cy).length = l.length + 1) := Lib.hid hN
    have HB := Lib.hid ((B2.out.trans (ho.below (Nat.le_refl _))).setCell (p := ⟨w.heap.size, l.length, none⟩) (Nat.le_refl _) (.int .u64 (cy : Int)))
    clear hV hN hv hd hc ho hlow hl E0 I1 R2
    go_wp2_with fail
    have CC := Lib.hid (CT.out (some ⟨w.heap.size, 0, none⟩) (l.length + 1) (L'.set l.length cy) _ (HC.out.wds (Nat.le_of_eq HLen.out) (by unfold maxLen; omega)) HLow.out)
    rw [HLen.out] at CC
    refine CC.out.mono ?_
    rintro _ w4 ⟨⟨v', rfl, hv, hf⟩, hd⟩
    have HV' := Lib.hid hv
    have HF := Lib.hid hf
    have HD := Lib.hid hd
    clear hv hf hd CC
    go_wp2_with fail
    go_ret
    refine ⟨_, rfl, ?_, young_of (by rintro _ ⟨⟩; exact Nat.le_refl _) HF.out, HB.out.trans (HD.out.below _)⟩
    have h := HV'.out.below (HD.out.below _)
    rw [HV.out] at h
    exact h.more (by omega)
theorem getD_drop (m : List Nat) (i : Nat) (b : Nat) : val b (m.take (i + 1)) = val b (m.take i) + b ^ i * m.getD i 0 := by
  rw [List.getD_eq_getElem?_getD]
  cases h : m[i]? with
  | none =>
    have hl := List.getElem?_eq_none_iff.1 h
    rw [List.take_of_length_le (by omega), List.take_of_length_le hl]; simp
  | some d => rw [val_take_succ b h]; rfl

theorem getD_low {m : List Nat} (h : Low B64 m) (i : Nat) : m.getD i 0 < 18446744073709551616 := by
  rw [List.getD_eq_getElem?_getD]
  cases hi : m[i]? with
  | none => decide
  | some d => exact h.at_ hi

theorem dsub_step {b : Nat} {R l m : List Nat} {i x y bw bw' d : Nat} (hz : R[i]? = some 0) (hx : l[i]? = some x) (hy : m.getD i 0 = y) (h : val b R + val b (m.take i) = val b (l.take i) + b ^ i * bw) (e : x + b * bw' = y + bw + d) :
    val b (R.set i d) + val b (m.take (i + 1)) = val b (l.take (i + 1)) + b ^ (i + 1) * bw' := by
  have hs := val_set (b := b) d hz
  rw [Nat.mul_zero, Nat.add_zero] at hs
  rw [hs, getD_drop, hy, val_take_succ b hx, Nat.pow_succ]
  have h2 : b ^ i * x + b ^ i * b * bw' = b ^ i * y + b ^ i * bw + b ^ i * d := by rw [Nat.mul_assoc, ← Nat.mul_add, e]; simp only [Nat.mul_add]
  omega

theorem dsub_end {R l m : List Nat} {bw : Nat} (h1 : Norm B64 l) (h2 : Norm B64 m) (hR : Low B64 R) (hl : R.length = l.length) (hba : val B64 m ≤ val B64 l) (h : val B64 R + val B64 (m.take l.length) = val B64 (l.take l.length) + B64 ^ l.length * bw) : val B64 R = val B64 l - val B64 m := by
  have hml : m.length ≤ l.length := by
    rcases Nat.lt_or_ge l.length m.length with h3 | h3
    · have := h1.lt_of_len B64_pos h2 h3; omega
    · exact h3
  rw [List.take_of_length_le hml, List.take_length] at h
  have hb := hR.lt
  rw [hl] at hb
  rcases Nat.eq_zero_or_pos bw with h0 | h0
  · rw [h0, Nat.mul_zero] at h; omega
  · have : B64 ^ l.length * 1 ≤ B64 ^ l.length * bw := Nat.mul_le_mul_left _ h0
    omega

set_option maxRecDepth 1000000 in
set_option maxHeartbeats 4000000 in
theorem minus_all (u v : Value) (a b k : Nat) (w : World) (hu : DN w u a k) (hv : DN w v b k) (hk : k ≤ 1073741824) (hba : b ≤ a) :
    Calls Tryz.prog 122 #[u, v] w fun e w' => RetD w (a - b) k e w' := by
  obtain ⟨l, p, c, rfl, h1, h2, rfl, h4, h5, h6⟩ := hu.norm
  obtain ⟨m, q, cm, rfl, k1, k2, rfl, k4, k5, k6⟩ := hv.norm
  obtain ⟨i0, hi, hz0, hz1, hz2⟩ := info_parts infoWord
  have CT := Lib.hid cut_all
  have AT := Lib.hid at_all
  have H1 := Lib.hid h2
  have K1 := Lib.hid k2
  have HW := Lib.hid h1
  have KW := Lib.hid k1
  have HBA := Lib.hid hba
  have HC6 := Lib.hid h6
  clear hu hv h1 h2 k1 k2 hba
  unfold RetD
  go_enter Tryz.func122, Tryz.ntmps122
  go_wp2_with (at_make; refine wpList_make_full _ rfl _ _ 28 rfl w.heap.size 102 i0 (.int .u64 0) 1 Tryz.underlying28 hi hz0 hz1 .i64 .i64 (l.length : Int) (l.length : Int) l.length rfl rfl rfl rfl (by rw [hz2]; omega) (by unfold maxLen; omega) (Nat.le_refl _) ?_; intro w1 hown1 hgrow1; have R1 := Lib.hid (row_made hown1); have B1 := Lib.hid ((Below.refl w.heap.size w).grown hgrow1 (Nat.le_refl _) (fun k hk => by cases hk)); clear hown1 hgrow1)
  go_loopw [6, 14] (fun cv iv wr => ∃ (R : List Nat) (bw i : Nat), cv = .int .u64 bw ∧ iv = .int .i64 i ∧ (bw ≤ 1 ∧ i ≤ l.length) ∧ Hid (R.length = l.length) ∧ Hid (Low B64 R) ∧ Hid (val B64 R + val B64 (m.take i) = val B64 (l.take i) + B64 ^ i * bw) ∧ Hid (R.drop i = (List.replicate l.length 0).drop i) ∧ Hid (Cells wr w.heap.size R) ∧ Hid (Below w.heap.size w wr)) (fun _ iv _ => l.length - (intOf iv).toNat)
  case atStart => exact ⟨List.replicate l.length 0, 0, 0, rfl, rfl, ⟨by omega, by omega⟩, Lib.hid (by rw [List.length_replicate]), Lib.hid (fun d hd => by rw [List.eq_of_mem_replicate hd]; exact B64_pos), Lib.hid (by rw [val_zeros]; rfl), Lib.hid rfl, Lib.hid R1.out.cells, B1⟩
  case round =>
    clear R1 B1
    obtain ⟨R, bw, i, rfl, rfl, ⟨hbw, hil⟩, hRl, hRL, hV, hD, hC, hB⟩ := hrel
    by_cases h1 : i < l.length
    · obtain ⟨x, hx⟩ : ∃ d, l[i]? = some d := ⟨_, List.getElem?_eq_getElem h1⟩
      obtain ⟨gp, rfl, d1⟩ := HW.out.at_ hB.out hx
      have bx : x < 18446744073709551616 := H1.out.1.at_ hx
      have hz : R[i]? = some 0 := by rw [get_of_drop hD.out, List.getElem?_replicate, if_pos h1]
      obtain ⟨c1, f1⟩ := hC.out _ _ hz
      have AT1 := AT.out q cm i m wr (KW.out.below hB.out)
      obtain ⟨y, hy⟩ : ∃ y, m.getD i 0 = y := ⟨_, rfl⟩
      have byy : y < 18446744073709551616 := by rw [← hy]; exact getD_low K1.out.1 i
      rw [hy] at AT1
      replace AT1 := Lib.hid AT1
      obtain ⟨bw', hbw'⟩ : ∃ s, (if x < y + bw then 1 else 0 : Nat) = s := ⟨_, rfl⟩
      have hbw1 : bw' ≤ 1 := by rw [← hbw']; split <;> omega
      obtain ⟨d, hd⟩ : ∃ d, x + 18446744073709551616 * bw' - (y + bw) = d := ⟨_, rfl⟩
      have e0 : x + 18446744073709551616 * bw' = y + bw + d := by rw [← hd, ← hbw']; split <;> omega
      have hdB : d < 18446744073709551616 := by rw [← hd, ← hbw']; split <;> omega
      have S1 := fun W => sub64_eq x y bw d bw' e0 hdB bx byy hbw W
      have HV := Lib.hid (dsub_step hz hx hy hV.out (b := B64) e0)
      have HRL := Lib.hid (hRL.out.set i (show d < B64 from hdB))
      have HRl : Hid ((R.set i d).length = l.length) := Lib.hid (by rw [List.length_set]; exact hRl.out)
      have HD : Hid ((R.set i d).drop (i + 1) = (List.replicate l.length 0).drop (i + 1)) := Lib.hid (by rw [drop_set_next]; exact drop_more hD.out _ (by omega))
      have HC := Lib.hid (hC.out.set i d)
      have HB := Lib.hid (hB.out.setCell (p := ⟨w.heap.size, i, none⟩) (Nat.le_refl _) (.int .u64 (d : Int)))
      clear hz hx hy hbw' hd e0 hV hRl hRL hD hC hB hdB bx byy
      go_wp2_with fail
      refine AT1.out.mono ?_
      rintro _ w2 ⟨rfl, rfl⟩
      go_wp2
      go_roundw
      case rel => exact ⟨R.set i d, bw', i + 1, rfl, by go_num, ⟨hbw1, by omega⟩, HRl, HRL, HV, HD, HC, HB⟩
      case measure => simp [intOf]; omega
    · obtain rfl : i = l.length := by omega
      have HR := Lib.hid (dsub_end H1.out K1.out hRL.out hRl.out HBA.out hV.out)
      clear hV
      have CC := CT.out (some ⟨w.heap.size, 0, none⟩) l.length R wr (hC.out.wds (Nat.le_of_eq hRl.out) (by have := HC6.out; omega)) hRL.out
      rw [hRl.out, HR.out] at CC
      replace CC := Lib.hid CC
      go_wp2_with fail
      refine CC.out.mono ?_
      rintro _ w4 ⟨⟨v', rfl, hv, hf⟩, hd⟩
      have HV' := Lib.hid hv
      have HF := Lib.hid hf
      have HD := Lib.hid hd
      clear hv hf hd CC
      go_wp2_with fail
      go_ret
      exact ⟨_, rfl, (HV'.out.below (HD.out.below _)).more (by omega), young_of (by rintro _ ⟨⟩; exact Nat.le_refl _) HF.out, hB.out.trans (HD.out.below _)⟩
end Go.Proofs.YtamhlkjfpdkhoaaGreatDoor
