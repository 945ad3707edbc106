import Derived.Test.YtamhlkjfpdkhoaaGreatDoorQ6
import Derived.OwnWalk
import Derived.RegionTactic
import Derived.WalkLawsBesides
import Derived.Deep.LoopGhost
/- WALKS of the reference's naturals: small. -/
namespace Go.Proofs.YtamhlkjfpdkhoaaGreatDoor
open Go.RowKit

theorem own_set {w : World} {B g n c : Nat} {o : List Nat} (h : Own w B (.slice (some ⟨g, 0, none⟩) n c) o) (hn : n = o.length) (j x : Nat) : Own (w.setCell ⟨g, j, none⟩ (.int .i64 (x : Int))) B (.slice (some ⟨g, 0, none⟩) n c) (o.set j x) := by
  unfold Own at h ⊢
  subst hn
  have := (h.stored j (.int .i64 (x : Int))).1
  rw [List.length_set]
  unfold ints at this ⊢
  rw [List.map_set]
  exact this

theorem own_cell {w : World} {B g n c : Nat} {o : List Nat} (h : Own w B (.slice (some ⟨g, 0, none⟩) n c) o) {j x : Nat} (hj : o[j]? = some x) : w.cell? ⟨g, j, none⟩ = some (.int .i64 (x : Int)) ∧ w.frozen? ⟨g, j, none⟩ = false ∧ B ≤ g := by
  unfold Own at h
  rcases h.2 with ⟨h0, _⟩ | ⟨g', cap, cur, h0, hb, _⟩
  · simp at h0
  · have h1 := h0
    simp only [Value.slice.injEq, Option.some.injEq, Addr.mk.injEq, and_true] at h1
    obtain ⟨rfl, rfl, rfl⟩ := h1
    have hc := owns_cells h j (.int .i64 (x : Int)) (by rw [List.getElem?_map, hj]; rfl)
    rw [add_zero_off] at hc
    exact ⟨hc, World.ownsRow.frozenAt h j, hb⟩

theorem ints_zeros (n : Nat) : List.replicate n (Value.int .i64 0) = ints (List.replicate n 0) := by
  unfold ints; rw [List.map_replicate]; rfl

theorem own_made {w : World} {B g n : Nat} (h : w.ownsRow B 3 1 (.slice (some ⟨g, 0, none⟩) n n) n (madeCells (Value.int .i64 0).cells (n * 1)).toList) : Own w B (.slice (some ⟨g, 0, none⟩) n n) (List.replicate n 0) := by
  unfold Own
  rw [List.length_replicate, ← ints_zeros, ← toList_madeCells_one]
  simpa [Value.cells] using h

theorem drop_set {l : List Nat} {k x : Nat} (hk : 0 < k) (hl : k ≤ l.length) : (l.set (k - 1) x).drop (k - 1) = x :: l.drop k := by
  rw [List.drop_eq_getElem_cons (by rw [List.length_set]; omega)]
  rw [List.getElem_set_self]
  congr 1
  rw [show k - 1 + 1 = k by omega, List.drop_set_of_lt (by omega)]

theorem small_step {l o : List Nat} {k n x r q r' : Nat} (hk : 0 < k) (hx : l[k - 1]? = some x) (hko : k ≤ o.length) (h : val B9 (l.drop k) = n * val B9 (o.drop k) + r) (hr : r < n) (hn : n ≤ 1000000000)
    (hq : (r * 1000000000 + x) / n = q) (hr' : (r * 1000000000 + x) % n = r') : val B9 (l.drop (k - 1)) = n * val B9 ((o.set (k - 1) q).drop (k - 1)) + r' := by
  rw [drop_set hk hko, val_drop_step B9 hx, show k - 1 + 1 = k by omega, h]
  have e := Nat.div_add_mod (r * 1000000000 + x) n
  rw [hq, hr'] at e
  simp only [val]
  have e2 : B9 * r = r * 1000000000 := Nat.mul_comm _ _
  rw [Nat.mul_add B9, e2, Nat.mul_add n, Nat.mul_left_comm n B9]
  omega

set_option maxRecDepth 100000 in
set_option maxHeartbeats 2000000 in
theorem small_ref (u : Value) (a n ka : Nat) (w : World) (ha : NN w u a ka) (hka : ka ≤ 1073741824) (hn0 : 1 ≤ n) (hn : n ≤ 1000000000) :
    Calls Tryz.prog 170 #[u, .int .i64 n] w fun e w' => ∃ v, e = .returned (.tuple #[v, .int .i64 (a % n : Nat)]) ∧ NN w' v (a / n) ka ∧ Young w.heap.size v ∧ Below w.heap.size w w' := by
  obtain ⟨l, h1, h2, rfl, hk1⟩ := ha
  obtain ⟨p, c, hu⟩ := h1.slice
  subst hu
  have HA := Lib.hid h1
  have N1 := Lib.hid h2
  have TR := Lib.hid trim_any
  clear h1 h2
  obtain ⟨i0, hi, hz0, hz1, hz2⟩ := info_parts infoInt
  go_enter Tryz.func170, Tryz.ntmps170
  go_wp2_with (at_make; refine wpList_make_full _ rfl _ _ 23 rfl w.heap.size 3 i0 (.int .i64 0) 1 Tryz.underlying23 hi hz0 hz1 .i64 .i64 (l.length : Int) (l.length : Int) l.length rfl rfl rfl rfl (by rw [hz2]; omega) (by unfold maxLen; omega) (Nat.le_refl _) ?_; intro w1 hown1 hgrow1; have O1 := Lib.hid (own_made hown1); have B1 := Lib.hid ((Below.refl w.heap.size w).grown hgrow1 (Nat.le_refl _) (fun k hk => by cases hk)); clear hown1 hgrow1)
  go_loopw [7, 8] (fun rv i wr => ∃ (o : List Nat) (r k : Nat), rv = .int .i64 r ∧ i = .int .i64 ((k : Int) - 1) ∧ (k ≤ l.length ∧ r < n) ∧ Hid (Own wr w.heap.size (.slice (some ⟨w.heap.size, 0, none⟩) l.length l.length) o ∧ o.length = l.length) ∧ Hid (Low B9 (o.drop k)) ∧ Hid (val B9 (l.drop k) = n * val B9 (o.drop k) + r) ∧ Hid (Below w.heap.size w wr)) (fun _ i _ => (intOf i + 1).toNat)
  case atStart => exact ⟨List.replicate l.length 0, 0, l.length, rfl, rfl, ⟨Nat.le_refl _, by omega⟩, Lib.hid ⟨O1.out, by simp⟩, Lib.hid (by rw [List.drop_eq_nil_of_le (by simp)]; exact Low.nil _), Lib.hid (by rw [val_drop_end _ (Nat.le_refl _), val_drop_end _ (by simp)]; simp), B1⟩
  case round =>
    clear O1 B1
    obtain ⟨o, r, k, rfl, rfl, ⟨hkm, hrn⟩, ho, hLow, hV, HB⟩ := hrel
    by_cases hk0 : 0 < k
    · obtain ⟨x, hx⟩ : ∃ d, l[k - 1]? = some d := ⟨_, List.getElem?_eq_getElem (by omega)⟩
      obtain ⟨g1, rfl, d1⟩ := HA.out.at_ HB.out hx
      have b1 : x < 1000000000 := N1.out.1.at_ hx
      obtain ⟨y, hy⟩ : ∃ d, o[k - 1]? = some d := ⟨_, List.getElem?_eq_getElem (by have := ho.out.2; omega)⟩
      obtain ⟨c1, c2, _⟩ := own_cell ho.out.1 hy
      obtain ⟨q, hq⟩ : ∃ q, (r * 1000000000 + x) / n = q := ⟨_, rfl⟩
      obtain ⟨r', hr'⟩ : ∃ q, (r * 1000000000 + x) % n = q := ⟨_, rfl⟩
      have hrn' : r' < n := by rw [← hr']; exact Nat.mod_lt _ (by omega)
      have hqB : q < 1000000000 := by
        rw [← hq]; refine (Nat.div_lt_iff_lt_mul (by omega)).2 ?_
        have : (r + 1) * 1000000000 ≤ n * 1000000000 := Nat.mul_le_mul_right _ hrn
        rw [Nat.mul_comm 1000000000 n]; omega
      have eQ : ((r : Int) * 1000000000 + (x : Int)) / (n : Int) = (q : Int) := by rw [← hq]; simp
      have eR : ((r : Int) * 1000000000 + (x : Int)) % (n : Int) = (r' : Int) := by rw [← hr']; simp
      have HV := Lib.hid (small_step hk0 hx (by have := ho.out.2; omega) hV.out hrn hn hq hr')
      have HO := Lib.hid (own_set ho.out.1 (by rw [ho.out.2]) (k - 1) q)
      have HL : Hid (Low B9 ((o.set (k - 1) q).drop (k - 1))) := Lib.hid (by rw [drop_set hk0 (by have := ho.out.2; omega)]; exact Low.cons hqB hLow.out)
      have HG := Lib.hid (HB.out.setCell (p := ⟨w.heap.size, k - 1, none⟩) (Nat.le_refl _) (.int .i64 (q : Int)))
      have HLen := Lib.hid ho.out.2
      have hn1 : ((n : Int) == 0) = false := by simp; omega
      clear hq hr' hx hy hV hLow ho
      go_wp2
      go_roundw
      case rel => exact ⟨o.set (k - 1) q, r', k - 1, (by rw [eR]), by go_num, ⟨by omega, hrn'⟩, Lib.hid ⟨HO.out, by rw [List.length_set]; exact HLen.out⟩, HL, HV, HG⟩
      case measure => simp [intOf]; omega
    · obtain rfl : k = 0 := by omega
      have HR : Hid (val B9 o = val B9 l / n ∧ r = val B9 l % n) := Lib.hid (by
        have h := hV.out
        simp only [List.drop_zero] at h
        rw [h, Nat.mul_add_mod, Nat.mod_eq_of_lt hrn, Nat.mul_add_div (by omega), Nat.div_eq_of_lt hrn]
        exact ⟨by omega, rfl⟩)
      have HLow : Hid (Low B9 o) := hLow
      obtain ⟨hr1, rfl⟩ := HR.out
      have HR1 := Lib.hid hr1
      clear hr1 HR
      clear hV hLow
      go_wp2_with fail
      refine (TR.out _ _ _ (own_lims ho.out.1) HLow.out).mono ?_
      rintro _ w2 ⟨⟨v', rfl, hn, hy⟩, rfl⟩
      have HN := Lib.hid hn
      have HY := Lib.hid (hy _ (own_young (show Own wr w.heap.size _ o from ho.out.1)))
      clear hn hy
      go_wp2_with fail
      go_ret2
      exact ⟨_, rfl, (by rw [← HR1.out]; exact HN.out.more (by have := ho.out.2; omega)), HY.out, HB.out⟩
end Go.Proofs.YtamhlkjfpdkhoaaGreatDoor

/- WALKS of the reference's naturals: MulN. -/
namespace Go.Proofs.YtamhlkjfpdkhoaaGreatDoor
open Go.RowKit

theorem mul_step {o : List Nat} {I k j z cc p d c' W T : Nat} (hz : o[j]? = some z) (h : val B9 o + B9 ^ (I + k) * cc = W) (hj : I + k = j) (e : z + cc + p = d + 1000000000 * c') (hT : T = W + B9 ^ j * p) :
    val B9 (o.set j d) + B9 ^ (I + (k + 1)) * c' = T := by
  have e' : z + cc + p = d + B9 * c' := e
  have hs := val_set (b := B9) d hz
  rw [← Nat.add_assoc, hj, Nat.pow_succ, hT, ← h, hj]
  have h2 : B9 ^ j * z + B9 ^ j * cc + B9 ^ j * p = B9 ^ j * d + B9 ^ j * B9 * c' := by rw [← Nat.mul_add, ← Nat.mul_add, e', Nat.mul_add, Nat.mul_assoc]
  omega

/-- A carry that stands behind the last limb is in the row still. -/
theorem mul_room {l m o : List Nat} {I k x cc : Nat} (h1 : Norm B9 l) (h2 : Norm B9 m) (hx : l[I]? = some x) (hk : m.length ≤ k) (hc : 0 < cc) (h : val B9 o + B9 ^ (I + k) * cc = val B9 (l.take I) * val B9 m + B9 ^ I * x * val B9 (m.take k)) : k ≤ m.length := by
  have hi := (List.getElem?_eq_some_iff.1 hx).1
  rw [List.take_of_length_le hk, ← Nat.add_mul, ← val_take_succ B9 hx] at h
  have a := h1.1.take_lt (i := I + 1) (by omega)
  have b := h2.1.lt
  have c : B9 ^ (I + k) * 1 ≤ B9 ^ (I + k) * cc := Nat.mul_le_mul_left _ hc
  have d : val B9 (l.take (I + 1)) * val B9 m ≤ B9 ^ (I + 1) * B9 ^ m.length := Nat.mul_le_mul (by omega) (by omega)
  have d' : val B9 (l.take (I + 1)) * val B9 m < B9 ^ (I + 1) * B9 ^ m.length := by
    have p1 : 0 < B9 ^ m.length := Nat.pow_pos B9_pos
    have : val B9 (l.take (I + 1)) * val B9 m ≤ val B9 (l.take (I + 1)) * B9 ^ m.length := Nat.mul_le_mul_left _ (by omega)
    have : val B9 (l.take (I + 1)) * B9 ^ m.length < B9 ^ (I + 1) * B9 ^ m.length := Nat.mul_lt_mul_of_pos_right a p1
    omega
  rw [← Nat.pow_add] at d'
  rcases Nat.lt_or_ge m.length k with h5 | h5
  · have : B9 ^ (I + 1 + m.length) ≤ B9 ^ (I + k) := Nat.pow_le_pow_right B9_pos (by omega)
    omega
  · exact h5

set_option maxRecDepth 100000 in
set_option maxHeartbeats 4000000 in
theorem MulN_any (u v : Value) (a b ka kb : Nat) (w : World) (ha : NN w u a ka) (hb : NN w v b kb) (hka : ka ≤ 1073741824) (hkb : kb ≤ 1073741824) :
    Calls Tryz.prog 115 #[u, v] w fun e w' => RetN w (a * b) (ka + kb) e w' := by
  obtain ⟨l, h1, h2, rfl, hk1⟩ := ha
  obtain ⟨m, h3, h4, rfl, hk2⟩ := hb
  obtain ⟨p, c, hu⟩ := h1.slice
  obtain ⟨q, d, hv⟩ := h3.slice
  subst hu hv
  have HA := Lib.hid h1
  have HA2 := Lib.hid h3
  have N1 := Lib.hid h2
  have N2 := Lib.hid h4
  have TR := Lib.hid trim_any
  clear h1 h2 h3 h4
  obtain ⟨i0, hi, hz0, hz1, hz2⟩ := info_parts infoInt
  unfold RetN
  go_enter Tryz.func115, Tryz.ntmps115
  go_wp2_with (at_make; refine wpList_make_full _ rfl _ _ 23 rfl w.heap.size 3 i0 (.int .i64 0) 1 Tryz.underlying23 hi hz0 hz1 .i64 .i64 ((l.length : Int) + (m.length : Int)) ((l.length : Int) + (m.length : Int)) (l.length + m.length) (by go_num) (by go_num) (by omega) (by omega) (by rw [hz2]; omega) (by unfold maxLen; omega) (Nat.le_refl _) ?_; intro w1 hown1 hgrow1; have O1 := Lib.hid (own_made hown1); have B1 := Lib.hid ((Below.refl w.heap.size w).grown hgrow1 (Nat.le_refl _) (fun k hk => by cases hk)); clear hown1 hgrow1)
  go_loopw [6] (fun iv wr => ∃ (o : List Nat) (I : Nat), iv = .int .i64 I ∧ I ≤ l.length ∧ Hid (Own wr w.heap.size (.slice (some ⟨w.heap.size, 0, none⟩) (l.length + m.length) (l.length + m.length)) o ∧ o.length = l.length + m.length) ∧ Hid (Low B9 o) ∧ Hid (val B9 o = val B9 (l.take I) * val B9 m) ∧ Hid (Below w.heap.size w wr)) (fun iv _ => l.length - (intOf iv).toNat)
  case atStart => exact ⟨List.replicate (l.length + m.length) 0, 0, rfl, by omega, Lib.hid ⟨O1.out, by simp⟩, Lib.hid (fun d hd => by rw [List.eq_of_mem_replicate hd]; exact B9_pos), Lib.hid (by rw [val_zeros]; simp [val]), B1⟩
  case round =>
    clear O1 B1
    obtain ⟨o, I, rfl, hI, ho, hLow, hV, HB⟩ := hrel
    by_cases h1 : I < l.length
    · obtain ⟨x, hx⟩ : ∃ d, l[I]? = some d := ⟨_, List.getElem?_eq_getElem h1⟩
      have b1 : x < 1000000000 := N1.out.1.at_ hx
      have HX := Lib.hid hx
      have HVT := Lib.hid (val_take_succ B9 hx)
      clear hx
      go_wp2_with fail
      go_loopw [7, 8] (fun cv kv wr => ∃ (o : List Nat) (cc k : Nat), cv = .int .i64 cc ∧ kv = .int .i64 k ∧ (k ≤ m.length + 1 ∧ cc < 1000000000 ∧ (k ≤ m.length ∨ cc ≤ 1)) ∧ Hid (Own wr w.heap.size (.slice (some ⟨w.heap.size, 0, none⟩) (l.length + m.length) (l.length + m.length)) o ∧ o.length = l.length + m.length) ∧ Hid (Low B9 o) ∧ Hid (val B9 o + B9 ^ (I + k) * cc = val B9 (l.take I) * val B9 m + B9 ^ I * x * val B9 (m.take k)) ∧ Hid (Below w.heap.size w wr)) (fun cv kv _ => 2 * (m.length + 2 - (intOf kv).toNat) + min (intOf cv).toNat 1)
      case atStart => exact ⟨o, 0, 0, rfl, rfl, ⟨by omega, by omega, by omega⟩, ho, hLow, Lib.hid (by rw [hV.out]; simp [val]), HB⟩
      case round =>
        clear ho hLow hV HB
        obtain ⟨o, cc, k, rfl, rfl, ⟨hkm, hcc, hck⟩, ho, hLow, hV, HB⟩ := hrel
        obtain ⟨g1, rfl, d1⟩ := HA.out.at_ HB.out HX.out
        by_cases h2 : k < m.length
        · obtain ⟨j, hj⟩ : ∃ j, I + k = j := ⟨_, rfl⟩
          have hjl : j < l.length + m.length := by omega
          have eJ : (I : Int) + (k : Int) = (j : Int) := by omega
          obtain ⟨z, hz⟩ : ∃ d, o[j]? = some d := ⟨_, List.getElem?_eq_getElem (by have := ho.out.2; omega)⟩
          obtain ⟨c1, c2, _⟩ := own_cell ho.out.1 hz
          have bz : z < 1000000000 := hLow.out.at_ hz
          obtain ⟨y, hy⟩ : ∃ d, m[k]? = some d := ⟨_, List.getElem?_eq_getElem h2⟩
          obtain ⟨g2, rfl, d2⟩ := HA2.out.at_ HB.out hy
          have b2 : y < 1000000000 := N2.out.1.at_ hy
          have hp0 : x * y ≤ 999999999 * 999999999 := Nat.mul_le_mul (by omega) (by omega)
          have eX : (x : Int) * (y : Int) = ((x * y : Nat) : Int) := (Int.natCast_mul _ _).symm
          obtain ⟨p0, hp⟩ : ∃ p, x * y = p := ⟨_, rfl⟩
          rw [hp] at eX hp0
          obtain ⟨t, ht⟩ : ∃ t, z + cc + p0 = t := ⟨_, rfl⟩
          have eT : (z : Int) + (cc : Int) + (p0 : Int) = (t : Int) := by omega
          have hw : val B9 (l.take I) * val B9 m + B9 ^ I * x * val B9 (m.take (k + 1)) = val B9 (l.take I) * val B9 m + B9 ^ I * x * val B9 (m.take k) + B9 ^ j * p0 := by rw [val_take_succ B9 hy, ← hj, ← hp, Nat.pow_add, Nat.mul_add (B9 ^ I * x)]; grind
          have eM : (t : Int) % 1000000000 = ((t % 1000000000 : Nat) : Int) := by omega
          have eD : (t : Int) / 1000000000 = ((t / 1000000000 : Nat) : Int) := by omega
          obtain ⟨d, hd⟩ : ∃ d, t % 1000000000 = d := ⟨_, rfl⟩
          obtain ⟨c', hc'⟩ : ∃ c, t / 1000000000 = c := ⟨_, rfl⟩
          rw [hd] at eM
          rw [hc'] at eD
          have hdl : d < 1000000000 := by omega
          have hcl : c' < 1000000000 := by omega
          have ht9 : t ≤ 1000000000000000000 := by omega
          have HV := Lib.hid (mul_step hz hV.out hj (show z + cc + p0 = d + 1000000000 * c' by omega) hw)
          have HO := Lib.hid (own_set ho.out.1 (by rw [ho.out.2]) j d)
          have HL := Lib.hid (hLow.out.set j (show d < B9 from hdl))
          have HLen := Lib.hid ho.out.2
          have HG := Lib.hid (HB.out.setCell (p := ⟨w.heap.size, j, none⟩) (Nat.le_refl _) (.int .i64 (d : Int)))
          have HG2 := Lib.hid ((HB.out.drew).setCell (p := ⟨w.heap.size, j, none⟩) (Nat.le_refl _) (.int .i64 (d : Int)))
          have HO2 := Lib.hid (own_set (show Own wr.drew w.heap.size (.slice (some ⟨w.heap.size, 0, none⟩) (l.length + m.length) (l.length + m.length)) o from ho.out.1) (by rw [ho.out.2]) j d)
          have c1' : wr.drew.cell? ⟨w.heap.size, j, none⟩ = some (.int .i64 (z : Int)) := c1
          have HJ := Lib.hid hj
          clear hd hc' ht hw hz hV hLow ho hj
          clear hy hp
          go_wp2
          go_region
          go_wp2
          go_roundw
          case rel => exact ⟨o.set j d, c', k + 1, rfl, by go_num, ⟨by omega, hcl, by omega⟩, Lib.hid ⟨HO2.out, by rw [List.length_set]; exact HLen.out⟩, HL, HV, HG2⟩
          case measure => simp [intOf]; omega
        · by_cases h3 : 0 < cc
          · have hkk := mul_room N1.out N2.out HX.out (by omega) h3 hV.out
            obtain ⟨j, hj⟩ : ∃ j, I + k = j := ⟨_, rfl⟩
            have hjl : j < l.length + m.length := by omega
            have eJ : (I : Int) + (k : Int) = (j : Int) := by omega
            obtain ⟨z, hz⟩ : ∃ d, o[j]? = some d := ⟨_, List.getElem?_eq_getElem (by have := ho.out.2; omega)⟩
            obtain ⟨c1, c2, _⟩ := own_cell ho.out.1 hz
            have bz : z < 1000000000 := hLow.out.at_ hz
            obtain ⟨t, ht⟩ : ∃ t, z + cc = t := ⟨_, rfl⟩
            have eT : (z : Int) + (cc : Int) = (t : Int) := by omega
            have hp0 : 0 ≤ 0 := Nat.le_refl 0
            have hw : val B9 (l.take I) * val B9 m + B9 ^ I * x * val B9 (m.take (k + 1)) = val B9 (l.take I) * val B9 m + B9 ^ I * x * val B9 (m.take k) + B9 ^ j * 0 := by rw [List.take_of_length_le (show m.length ≤ k + 1 by omega), List.take_of_length_le (show m.length ≤ k by omega)]; simp
            have eM : (t : Int) % 1000000000 = ((t % 1000000000 : Nat) : Int) := by omega
            have eD : (t : Int) / 1000000000 = ((t / 1000000000 : Nat) : Int) := by omega
            obtain ⟨d, hd⟩ : ∃ d, t % 1000000000 = d := ⟨_, rfl⟩
            obtain ⟨c', hc'⟩ : ∃ c, t / 1000000000 = c := ⟨_, rfl⟩
            rw [hd] at eM
            rw [hc'] at eD
            have hdl : d < 1000000000 := by omega
            have hcl : c' < 1000000000 := by omega
            have ht9 : t ≤ 1000000000000000000 := by omega
            have hm2 : c' ≤ 1 := by omega
            have HV := Lib.hid (mul_step hz hV.out hj (show z + cc + 0 = d + 1000000000 * c' by omega) hw)
            have HO := Lib.hid (own_set ho.out.1 (by rw [ho.out.2]) j d)
            have HL := Lib.hid (hLow.out.set j (show d < B9 from hdl))
            have HLen := Lib.hid ho.out.2
            have HG := Lib.hid (HB.out.setCell (p := ⟨w.heap.size, j, none⟩) (Nat.le_refl _) (.int .i64 (d : Int)))
            have HJ := Lib.hid hj
            clear hd hc' ht hw hz hV hLow ho hj
            go_wp2
            go_roundw
            case rel => exact ⟨o.set j d, c', k + 1, rfl, by go_num, ⟨by omega, hcl, by omega⟩, Lib.hid ⟨HO.out, by rw [List.length_set]; exact HLen.out⟩, HL, HV, HG⟩
            case measure => simp [intOf]; omega
          · obtain rfl : cc = 0 := by omega
            have HV := Lib.hid (show val B9 o = val B9 (l.take (I + 1)) * val B9 m by rw [HVT.out, Nat.add_mul]; have h := hV.out; rw [List.take_of_length_le (show m.length ≤ k by omega)] at h; simpa using h)
            clear hV
            go_wp2_with fail
            go_roundw
            case rel => exact ⟨o, I + 1, by go_num, by omega, ho, hLow, HV, HB⟩
            case measure => simp [intOf]; omega
    · have hIl : I = l.length := by omega
      have HR := Lib.hid (show val B9 o = val B9 l * val B9 m by rw [hV.out, hIl, List.take_length])
      clear hV hIl
      go_wp2_with fail
      refine (TR.out _ _ _ (own_lims (show Own wr w.heap.size _ o from ho.out.1)) hLow.out).mono ?_
      rintro _ w2 ⟨⟨v', rfl, hn, hy⟩, rfl⟩
      have HN := Lib.hid hn
      have HY := Lib.hid (hy _ (own_young (show Own wr w.heap.size _ o from ho.out.1)))
      clear hn hy
      go_wp2_with fail
      go_ret
      exact ⟨_, rfl, (by rw [← HR.out]; exact HN.out.more (by have := ho.out.2; omega)), HY.out, HB.out⟩
end Go.Proofs.YtamhlkjfpdkhoaaGreatDoor

/- WALKS of the reference's naturals: DivN. -/
namespace Go.Proofs.YtamhlkjfpdkhoaaGreatDoor
open Go.RowKit

theorem top_limb {m : List Nat} (h : Norm B9 m) (h0 : 0 < val B9 m) : ∃ t, m[m.length - 1]? = some t ∧ 0 < t ∧ t < 1000000000 ∧ 0 < m.length := by
  rcases h.2 with rfl | ⟨l, d, rfl, hd⟩
  · simp [val] at h0
  · refine ⟨d, by simp, by omega, h.1 d (by simp), by simp⟩

theorem len_of_le {l m : List Nat} (h1 : Norm B9 l) (h2 : Norm B9 m) (h : val B9 l ≤ val B9 m) : l.length ≤ m.length := by
  rcases Nat.lt_or_ge m.length l.length with h3 | h3
  · have := h2.lt_of_len B9_pos h1 h3; omega
  · exact h3

theorem div_guess {lr ly : List Nat} {yt N : Nat} (h2 : Low B9 ly) (hyt : ly[ly.length - 1]? = some yt) (hN : val B9 (lr.drop (ly.length - 1)) = N) (hlen : ly.length - 1 ≤ lr.length) : N / (yt + 1) * val B9 ly ≤ val B9 lr := by
  have hi := (List.getElem?_eq_some_iff.1 hyt).1
  have e1 := val_split B9 ly (ly.length - 1) (by omega)
  rw [val_drop_step B9 hyt, val_drop_end B9 (show ly.length ≤ ly.length - 1 + 1 by omega)] at e1
  have e2 := val_split B9 lr (ly.length - 1) hlen
  rw [hN] at e2
  have e3 := h2.take_lt (i := ly.length - 1) (by omega)
  generalize B9 ^ (ly.length - 1) = p at *
  have h5 : val B9 ly ≤ p * (yt + 1) := by rw [Nat.mul_add]; simp at e1; omega
  have h6 : N / (yt + 1) * (p * (yt + 1)) ≤ p * N := by
    rw [Nat.mul_left_comm]
    exact Nat.mul_le_mul_left _ (Nat.div_mul_le_self _ _)
  have h7 := Nat.mul_le_mul_left (N / (yt + 1)) h5
  omega

theorem two_limbs {lr : List Nat} {j : Nat} (h : Low B9 lr) (hj : lr.length ≤ j + 1) : val B9 (lr.drop j) < 1000000000 := by
  have h1 := (h.drop j).lt
  have h2 : B9 ^ (lr.drop j).length ≤ B9 ^ 1 := Nat.pow_le_pow_right B9_pos (by rw [List.length_drop]; omega)
  have : B9 ^ 1 = 1000000000 := rfl
  omega

theorem up_own (W : World) (x : Nat) : Own (W.alloc (.cells #[.int .i64 (x : Int)] 3)) W.heap.size (.slice (some ⟨W.heap.size, 0, none⟩) 1 1) [x] :=
  World.ownsRow_lit W #[.int .i64 (x : Int)] 1 (Nat.le_refl _) (by unfold maxLen; omega) rfl

/-- The number below which all that is brought down lies. -/
theorem brought {x R Y : Nat} (hx : x < 1000000000) (hR : R < Y) : x + B9 * R < B9 * Y := by
  have : B9 * (R + 1) ≤ B9 * Y := Nat.mul_le_mul_left _ hR
  have e : B9 = 1000000000 := rfl
  rw [Nat.mul_add] at this
  omega

theorem digit_lt {Y n q S R : Nat} (hS : S = Y * q + R) (hn : Y * n ≤ R) (h : S < B9 * Y) : q + n < 1000000000 := by
  rcases Nat.lt_or_ge (q + n) 1000000000 with h1 | h1
  · exact h1
  · exfalso
    have h2 : Y * 1000000000 ≤ Y * (q + n) := Nat.mul_le_mul_left _ h1
    have e : B9 * Y = Y * 1000000000 := Nat.mul_comm _ _
    rw [Nat.mul_add] at h2
    omega

theorem len_two {lr ly : List Nat} (h1 : Norm B9 lr) (h2 : Low B9 ly) (h : val B9 lr < B9 * val B9 ly) : lr.length ≤ ly.length + 1 := by
  refine h1.len_le B9_one (Nat.lt_of_lt_of_le h ?_)
  rw [Nat.pow_succ, Nat.mul_comm]
  exact Nat.mul_le_mul_right _ (Nat.le_of_lt h2.lt)

theorem drew_below {w w' : World} (h : Drew w w') (B : Nat) : Below B w w' := by
  obtain ⟨n, rfl⟩ := h
  induction n with
  | zero => exact Below.refl _ _
  | succ n ih => exact ⟨ih.os, ih.tape, ih.output, ih.size, ih.block⟩

theorem NN.norm {w : World} {v : Value} {n k : Nat} (h : NN w v n k) : ∃ l p c, v = .slice p l.length c ∧ Lims w (.slice p l.length c) l ∧ Norm B9 l ∧ val B9 l = n ∧ l.length ≤ k := by
  obtain ⟨l, h1, h2, h3, h4⟩ := h
  obtain ⟨p, c, rfl⟩ := h1.slice
  exact ⟨l, p, c, rfl, h1, h2, h3, h4⟩

theorem lims_nil_or {w : World} {p : Option Addr} {n c : Nat} {l : List Nat} (h : Lims w (.slice p n c) l) : (p = none ∧ n = 0 ∧ c = 0 ∧ l = []) ∨ ∃ g, p = some ⟨g, 0, none⟩ ∨ l = [] := by
  obtain ⟨p', c', h1, h2, h3, h5, h4⟩ := h
  simp only [Value.slice.injEq] at h1
  obtain ⟨rfl, rfl, rfl⟩ := h1
  cases l with
  | nil => exact .inr ⟨0, .inr rfl⟩
  | cons d l =>
    obtain ⟨g, hg, _⟩ := h4 0 d rfl
    exact .inr ⟨g, .inl hg⟩
end Go.Proofs.YtamhlkjfpdkhoaaGreatDoor
