/- WALK of HeapGraphs. -/
import Derived.Test.YtodnfchkkgoabaaGk
import Derived.Test.YtodnfchkkgoabaaGw
import Derived.Test.YtodnfchkkgoabaaAz
import Derived.Test.YtodnfchkkgoabaaMi
import Derived.Test.YtodnfchkkgoabaaLy
import Derived.Deep.AppendLies
import Derived.Deep.CutBlock
import Derived.Deep.RegionLaw
set_option linter.unusedVariables false
namespace Go.Proofs.Ytodnfchkkgoabaa
open Go.RowKit

/-- Lists of integers in a slice of slices that came in, with their room. -/
def GB (w : World) (p : Option Addr) (G : List (List Int)) : Prop := ∀ v, v < G.length → ∃ (a : Addr) (pv : Option Addr) (cv : Nat), p = some a ∧ w.cell? (a.add v) = some (.slice pv (G.getD v []).length cv) ∧ NA w pv (G.getD v []) ∧ (G.getD v []).length ≤ cv ∧ cv ≤ 9223372036854775807 ∧ (pv = none → cv = 0)
theorem GB.ga {w : World} {p : Option Addr} {G : List (List Int)} (h : GB w p G) : GA w p G := fun v hv => by
  obtain ⟨a, pv, cv, h1, h2, h3, _⟩ := h v hv
  exact ⟨a, pv, cv, h1, h2, h3⟩
theorem GB.row {w : World} {p : Option Addr} {G : List (List Int)} (h : GB w p G) {v : Nat} (hv : v < G.length) {R : List Int} (hR : G.getD v [] = R) : ∃ (a : Addr) (pv : Option Addr) (cv : Nat), p = some a ∧ w.cell? (a.add v) = some (.slice pv R.length cv) ∧ NA w pv R ∧ R.length ≤ cv ∧ cv ≤ 9223372036854775807 ∧ (pv = none → cv = 0) := by
  rw [← hR]; exact h v hv
theorem GB.under {W X : World} {p : Option Addr} {G : List (List Int)} (h : GB W p G) (hb : Below W.heap.size W X) : GB X p G := by
  intro v hv
  obtain ⟨g, pv, cv, e, hc, hn, h4⟩ := h v hv
  exact ⟨g, pv, cv, e, cellOfA hb hc (cell_ltA hc), hn.under hb, h4⟩

theorem own_keep {w w' : World} {base n : Nat} {t : TypeId} {v : Value} {R : List Value} (h : w.ownsRow base t 1 v n R) (hk : ∀ b, v.ownBlock = some b → w'.heap[b]? = w.heap[b]?) : w'.ownsRow base t 1 v n R := by
  refine ⟨h.1, ?_⟩
  rcases h.2 with h1 | ⟨g, cap, cur, h1, h2, h3, h4⟩
  · exact .inl h1
  · exact .inr ⟨g, cap, cur, h1, h2, (hk g (by rw [h1]; rfl)).trans h3, h4⟩

theorem ni_row {w : World} {base g n c : Nat} {L : List Int} (h : w.ownsRow base 3 1 (.slice (some ⟨g, 0, none⟩) n c) n (L.map (Value.int .i64))) : NI w (some ⟨g, 0, none⟩) L := by
  intro i hi
  refine ⟨g, rfl, ?_⟩
  rcases h.2 with ⟨h1, h2⟩ | ⟨g', cap, cur, h1, _, hg, _, _, _, ht⟩
  · cases h1
  · simp only [Value.slice.injEq] at h1
    obtain ⟨h1, _, _⟩ := h1
    cases h1
    have hj : cur.toList[i]? = some (.int .i64 (L.getD i 0)) := by
      have h5 : (L.map (Value.int .i64))[i]? = some (.int .i64 (L.getD i 0)) := by
        rw [List.getElem?_map, List.getElem?_eq_getElem hi]; simp [List.getD_eq_getElem?_getD, hi]
      rw [← ht, List.getElem?_take] at h5
      split at h5
      · exact h5
      · cases h5
    have hj2 : cur[i]? = some (.int .i64 (L.getD i 0)) := by rw [← hj]; simp
    simp [World.cell?, hg, hj2]

theorem rows_len {F : List (List Int)} {T : List Int} (h : ∀ j, (F.getD j []).length ≤ 20) (hT : T.length ≤ 20) : ∀ j, ((F ++ [T]).getD j []).length ≤ 20 := by
  intro j
  by_cases h1 : j < F.length
  · rw [List.getD_eq_getElem?_getD, List.getElem?_append_left h1, ← List.getD_eq_getElem?_getD]; exact h j
  · by_cases h2 : j = F.length
    · subst h2
      rw [List.getD_eq_getElem?_getD, List.getElem?_append_right (Nat.le_refl _)]; simpa using hT
    · rw [List.getD_eq_getElem?_getD, List.getElem?_eq_none (by simp; omega)]; simp

set_option maxRecDepth 100000 in
set_option maxHeartbeats 4000000 in
theorem HeapGraphs_any (L : List (List Int)) (p : Option Addr) (c : Nat) (v0 : Int) (W : World) (wv : -9223372036854775808 ≤ v0 ∧ v0 ≤ 9223372036854775807) (hL : GB W p L) (hll : L.length ≤ 9223372036854775807) :
    Calls Try.prog 8 #[.slice p L.length c, .int .i64 v0] W fun e w' => e = .returned (.bool true) ∧ Below W.heap.size W w' := by
  have AW := Lib.hid awake_any
  have hrl : ∀ v, (L.getD v []).length ≤ 9223372036854775807 := fun v => by
    by_cases hv : v < L.length
    · obtain ⟨_, _, _, _, _, _, h1, h2, _⟩ := hL v hv; omega
    · rw [List.getD_eq_getElem?_getD, List.getElem?_eq_none (by omega)]; simp
  have GR := Lib.hid (fun X (hX : Below W.heap.size W X) => graph_any L p c 20 X (hL.under hX).ga (by omega) (by omega) hll hrl)
  obtain ⟨ln, hln⟩ : ∃ m, L.length = m := ⟨_, rfl⟩
  have HL := Lib.hid hL
  have HLN := Lib.hid hln
  rw [hln] at GR hll ⊢
  clear hln hL hrl
  obtain ⟨i0, hi, hz0, hz1, hz2⟩ := info_parts infoRow
  obtain ⟨i1, hj, hy0, hy1, hy2⟩ := info_parts infoInt
  obtain ⟨S, hS⟩ : ∃ S, W.heap.size = S := ⟨_, rfl⟩
  have HS := Lib.hid hS
  rw [hS] at GR
  clear hS
  go_enter Try.func8, Try.ntmps8
  go_wp2_with fail
  go_loopw [5, 6] (fun x y wr => ∃ (v : Value) (i : Nat) (F : List (List Int)), v = x ∧ y = .int .i64 i ∧ i ≤ 202 ∧ i ≤ ln ∧ F.length = i ∧ Hid (ARZ wr S v F) ∧ Hid (∀ j, (F.getD j []).length ≤ 20) ∧ Hid (Below S W wr)) (fun _ y _ => 202 - (intOf y).toNat)
  case atStart => exact ⟨_, 0, [], rfl, rfl, by omega, by omega, rfl, Lib.hid (ARZ.nil _ _), Lib.hid (fun j => by simp), Lib.hid (Below.refl _ _)⟩
  case round =>
    obtain ⟨v, i, F, hv, rfl, hi2, hil, hF, hown, hfl, hb⟩ := hrel
    subst hv
    go_upto_region 3 with fail
    go_cut [26] from 19 to 26 (fun u wx => (∃ c, u = .bool c ∧ Hid (c = true ↔ i < ln ∧ i < 202)) ∧ wr = wx)
    case first =>
      by_cases h1 : i < ln
      · by_cases h2 : i < 202
        · have HI : Hid (i < ln ∧ i < 202) := Lib.hid ⟨h1, h2⟩
          go_wp2_with fail
          go_meet
          case rel => exact ⟨⟨_, rfl, Lib.hid (by first | (simp [HI.out]; done) | (have h9 := HI.out; simp; omega))⟩, rfl⟩
        · have HI : Hid (¬ i < 202) := Lib.hid h2
          go_wp2_with fail
          go_meet
          case rel => exact ⟨⟨_, rfl, Lib.hid (by first | (simp [HI.out]; done) | (have h9 := HI.out; simp; omega))⟩, rfl⟩
      · have HI : Hid (¬ i < ln) := Lib.hid h1
        go_wp2_with fail
        go_meet
        case rel => exact ⟨⟨_, rfl, Lib.hid (by first | (simp [HI.out]; done) | (have h9 := HI.out; simp; omega))⟩, rfl⟩
    case rest =>
      obtain ⟨⟨cc, rfl, HCC⟩, rfl⟩ := hcut
      cases cc with
      | true =>
        obtain ⟨hlt1, hlt2⟩ := HCC.out.1 rfl
        obtain ⟨R, hR⟩ : ∃ R, L.getD i [] = R := ⟨_, rfl⟩
        obtain ⟨m, hm⟩ : ∃ m, R.length = m := ⟨_, rfl⟩
        obtain ⟨a, pv, cv, rfl, cR, hna, hmc, hcv, hpn⟩ := (HL.out.under (X := wr.drew) (by rw [HS.out]; exact hb.out.drew)).row (by rw [HLN.out]; exact hlt1) hR
        rw [hm] at cR hmc
        obtain ⟨k, hk⟩ : ∃ k, min m 20 = k := ⟨_, rfl⟩
        have hmin : min (m : Int) 20 = (k : Int) := by omega
        have hk20 : k ≤ 20 := by omega
        have hkc : k ≤ cv := by omega
        have hkm : k ≤ m := by omega
        have HM := Lib.hid hm
        obtain ⟨T, hT⟩ : ∃ T, R.take k = T := ⟨_, rfl⟩
        have HT : Hid (T.length = k) := Lib.hid (by rw [← hT, List.length_take, hm]; omega)
        have HNA : Hid (∀ j u, (T.map (Value.int .i64))[j]? = some u → ∃ ad, pv = some ad ∧ wr.drew.cell? (ad.add j) = some u) := Lib.hid (fun j u hu => by
          have hj : j < (T.map (Value.int .i64)).length := (List.getElem?_eq_some_iff.1 hu).1
          rw [List.length_map, HT.out] at hj
          obtain ⟨a', e, hc⟩ := hna j (by omega)
          refine ⟨a', e, ?_⟩
          rw [hc, ← hu, List.getElem?_map, ← hT, List.getElem?_take, if_pos hj, List.getElem?_eq_getElem (by omega)]
          simp [List.getD_eq_getElem?_getD, List.getElem?_eq_getElem (show j < R.length by omega)])
        have HPN := Lib.hid hpn
        obtain ⟨RR, hro, hrr⟩ := hown.out
        have HRO : Hid (wr.drew.ownsRow S 22 1 v F.length RR) := Lib.hid hro
        have HRR := Lib.hid hrr
        have hbs : S ≤ wr.heap.size := by have := hb.out.size; have := HS.out; omega
        clear hna hk hT hR hm hpn hown hro hrr
        by_cases hk0 : k = 0
        · subst hk0
          cases pv with
          | none =>
            go_wp2_with fail
            go_region_law (refine step_append_lies _ rfl _ _ 33 rfl S 22 i0 (.slice none 0 0) 1 24 Try.underlying33 hi hz0 hz1 hz2 rfl (by decide) v F.length RR rfl (by have := HRO.out; exact own_keep this (fun b hb' => Below.heap_alloc _ _ _ (own_lt this b hb'))) ⟨wr.heap.size, 0, none⟩ 1 1 [.slice none 0 0] rfl rfl (cell_one_new _ _ _) (fun y hy => by simp at hy; subst hy; rfl) (by decide) (by unfold maxLen; omega) (by omega) (by have := HS.out; simp; omega) _ rfl ?_; intro g' cap w4 hw1 hw2 hw3 hw4)
            all_goals
              have P : ARZ w4 S (.slice (some ⟨g', 0, none⟩) (F.length + 1) cap) (F ++ [[]]) := ARZ.push (wr := wr.drew) (wa := (wr.alloc (.cells #[.slice none 0 0] 22)).drew) (L := []) (p := none) (c := 0) HRO.out HRR.out (by show wr.heap.size ≤ (wr.alloc _).heap.size; simp) (fun b hb' => Below.heap_alloc wr _ b hb') (fun i hi => absurd hi (by simp)) (fun b e => by cases e) hw1 hw2 hw3 hw4
              rw [hF] at P
              have HPQ := Lib.hid P
              have HBQ : Hid (Below S W w4) := Lib.hid (hb.out.trans (((Below.refl S wr).alloc hbs (.cells #[.slice none 0 0] 22)).drew.trans ⟨hw2.os, hw2.tape, hw2.output, hw2.size, fun b hb' => hw2.block b (Nat.lt_of_lt_of_le hb' (Nat.le_trans hbs (by show wr.heap.size ≤ (wr.alloc _).heap.size; simp))) (fun e => by
                rcases HRO.out.2 with ⟨h1, _⟩ | ⟨g9, cap9, cur9, h1, h2, _⟩
                · rw [h1] at e; cases e
                · rw [h1] at e; cases e; exact Nat.lt_irrefl _ (Nat.lt_of_lt_of_le hb' h2))⟩))
              clear P hw1 hw2 hw3 hw4
              go_wp2_with fail
              go_roundw
              case rel => exact ⟨_, i + 1, F ++ [[]], rfl, by go_num, by omega, by omega, by simp [hF], HPQ, Lib.hid (rows_len hfl.out (by simp)), HBQ⟩
              case measure => simp [intOf]; omega
          | some ad =>
            go_wp2_with fail
            go_region_law (refine step_append_lies _ rfl _ _ 33 rfl S 22 i0 (.slice none 0 0) 1 24 Try.underlying33 hi hz0 hz1 hz2 rfl (by decide) v F.length RR rfl (by have := HRO.out; exact own_keep this (fun b hb' => Below.heap_alloc _ _ _ (own_lt this b hb'))) ⟨wr.heap.size, 0, none⟩ 1 1 [.slice none 0 0] rfl rfl (cell_one_new _ _ _) (fun y hy => by simp at hy; subst hy; rfl) (by decide) (by unfold maxLen; omega) (by omega) (by have := HS.out; simp; omega) _ rfl ?_; intro g' cap w4 hw1 hw2 hw3 hw4)
            all_goals
              have P : ARZ w4 S (.slice (some ⟨g', 0, none⟩) (F.length + 1) cap) (F ++ [[]]) := ARZ.push (wr := wr.drew) (wa := (wr.alloc (.cells #[.slice none 0 0] 22)).drew) (L := []) (p := none) (c := 0) HRO.out HRR.out (by show wr.heap.size ≤ (wr.alloc _).heap.size; simp) (fun b hb' => Below.heap_alloc wr _ b hb') (fun i hi => absurd hi (by simp)) (fun b e => by cases e) hw1 hw2 hw3 hw4
              rw [hF] at P
              have HPQ := Lib.hid P
              have HBQ : Hid (Below S W w4) := Lib.hid (hb.out.trans (((Below.refl S wr).alloc hbs (.cells #[.slice none 0 0] 22)).drew.trans ⟨hw2.os, hw2.tape, hw2.output, hw2.size, fun b hb' => hw2.block b (Nat.lt_of_lt_of_le hb' (Nat.le_trans hbs (by show wr.heap.size ≤ (wr.alloc _).heap.size; simp))) (fun e => by
                rcases HRO.out.2 with ⟨h1, _⟩ | ⟨g9, cap9, cur9, h1, h2, _⟩
                · rw [h1] at e; cases e
                · rw [h1] at e; cases e; exact Nat.lt_irrefl _ (Nat.lt_of_lt_of_le hb' h2))⟩))
              clear P hw1 hw2 hw3 hw4
              go_wp2_with fail
              go_roundw
              case rel => exact ⟨_, i + 1, F ++ [[]], rfl, by go_num, by omega, by omega, by simp [hF], HPQ, Lib.hid (rows_len hfl.out (by simp)), HBQ⟩
              case measure => simp [intOf]; omega
        · cases pv with
          | none => exact absurd (HPN.out rfl) (by omega)
          | some ad =>
            have HNB : Hid (∀ j u, (T.map (Value.int .i64))[j]? = some u → wr.drew.cell? (ad.add j) = some u) := Lib.hid (fun j u hu => by
              obtain ⟨a9, e, h9⟩ := HNA.out j u hu
              cases e; exact h9)
            go_wp2_with fail
            go_region_law (first | (refine step_append_lies _ rfl _ _ 22 rfl S 3 i1 (.int .i64 0) 1 8 Try.underlying22 hj hy0 hy1 hy2 rfl (by decide) (.slice none 0 0) 0 [] rfl (World.ownsRow_nil _ S 3 1) ad k cv (T.map (Value.int .i64)) rfl (by rw [List.length_map, HT.out]; omega) HNB.out (ints_oneCell .i64 _) (by omega) (by unfold maxLen; omega) (by omega) (by have := HS.out; show S ≤ wr.heap.size; omega) _ rfl ?_; intro g1 cap1 w5 hv1 hv2 hv3 hv4) | (refine step_append_lies _ rfl _ _ 33 rfl S 22 i0 (.slice none 0 0) 1 24 Try.underlying33 hi hz0 hz1 hz2 rfl (by decide) v F.length RR rfl (by have := HRO.out; exact own_keep this (fun b hb' => (Below.heap_alloc _ _ _ (by have := own_lt this b hb'; have := hv2.size; have h9 : wr.drew.heap.size = wr.heap.size := rfl; omega)).trans (hv2.block b (own_lt this b hb') (by simp [Value.ownBlock])))) ⟨w5.heap.size, 0, none⟩ 1 1 [_] rfl rfl (cell_one_new _ _ _) (fun y hy => by simp at hy; subst hy; rfl) (by decide) (by unfold maxLen; omega) (by omega) (by have := HS.out; have := hv2.size; have h9 : wr.drew.heap.size = wr.heap.size := rfl; simp; omega) _ rfl ?_; intro g' cap w4 hw1 hw2 hw3 hw4))
            all_goals
              have hnT : NI w5 (some ⟨g1, 0, none⟩) T := ni_row (by rw [Nat.zero_add, List.nil_append] at hv1; exact hv1)
              have hg1 : g1 = wr.heap.size := by
                rcases hv3 with h9 | h9
                · cases h9
                · exact h9
              have hs5 : wr.heap.size ≤ w5.heap.size := hv2.size
              have hk5 : ∀ b, b < wr.heap.size → (w5.alloc (.cells #[.slice (some ⟨g1, 0, none⟩) k cap1] 22)).heap[b]? = wr.heap[b]? := fun b hb' => (Below.heap_alloc _ _ _ (by omega)).trans (hv2.block b hb' (by simp [Value.ownBlock]))
              have P : ARZ w4 S (.slice (some ⟨g', 0, none⟩) (F.length + 1) cap) (F ++ [T]) := ARZ.push (wr := wr.drew) (wa := w5.alloc (.cells #[.slice (some ⟨g1, 0, none⟩) k cap1] 22)) (L := T) (p := some ⟨g1, 0, none⟩) (c := cap1) HRO.out HRR.out (by show wr.heap.size ≤ _; simp; omega) hk5 (hnT.keepB (fun g e => Below.heap_alloc _ _ _ (by cases e; exact hv4))) (fun b e => by cases e; exact ⟨by show wr.heap.size ≤ g1; omega, by simp; omega⟩) (by rw [HT.out]; exact hw1) hw2 hw3 hw4
              rw [hF] at P
              have HPQ := Lib.hid P
              have HBQ : Hid (Below S W w4) := Lib.hid (hb.out.trans ((show Below S wr w5 from ⟨hv2.os, hv2.tape, hv2.output, hv2.size, fun b hb' => hv2.block b (by show b < wr.heap.size; omega) (by simp [Value.ownBlock])⟩).trans (((Below.refl S w5).alloc (by omega) (.cells #[.slice (some ⟨g1, 0, none⟩) k cap1] 22)).trans ⟨hw2.os, hw2.tape, hw2.output, hw2.size, fun b hb' => hw2.block b (by simp; omega) (fun e => by
                rcases HRO.out.2 with ⟨h1, _⟩ | ⟨g9, cap9, cur9, h1, h2, _⟩
                · rw [h1] at e; cases e
                · rw [h1] at e; cases e; exact Nat.lt_irrefl _ (Nat.lt_of_lt_of_le hb' h2))⟩)))
              have HTL := HT.out
              clear P hw1 hw2 hw3 hw4 hv1 hv2 hv3 hv4 hnT hk5
              go_wp2_with fail
              go_roundw
              case rel => exact ⟨_, i + 1, F ++ [T], rfl, by go_num, by omega, by omega, by simp [hF], HPQ, Lib.hid (rows_len hfl.out (by omega)), HBQ⟩
              case measure => simp [intOf]; omega
      | false =>
        obtain ⟨q, cq, rfl, hgi⟩ := hown.out.gi
        have HGI := Lib.hid hgi
        rw [hF]
        clear hown hgi HCC
        go_upto_if 26 with fail
        go_wp2_with fail
        obtain ⟨wq, rfl⟩ : ∃ wq : World, wq = wr := ⟨_, rfl⟩
        go_loopw [1, 5, 8] (fun x y z wx => ∃ (vv : Int) (q : Option Addr) (c n k : Nat) (F : List (List Int)), x = .int .i64 vv ∧ y = .slice q n c ∧ z = .int .i64 k ∧ k ≤ 2 ∧ n ≤ 202 ∧ Hid (F.length = n) ∧ Hid (-9223372036854775808 ≤ vv ∧ vv ≤ 9223372036854775807) ∧ Hid (∀ j, (F.getD j []).length ≤ 202) ∧ Hid (GI wx q F) ∧ Hid (Below S W wx)) (fun _ _ z _ => 2 - (intOf z).toNat)
        case atStart => exact ⟨v0, q, cq, i, 0, F, rfl, rfl, rfl, by omega, hi2, Lib.hid hF, Lib.hid wv, Lib.hid (fun j => by have := hfl.out j; omega), HGI, hb⟩
        case round =>
          clear HGI hb hfl hF wv
          obtain ⟨vv, q, c', n, k, F, rfl, rfl, rfl, hk, hn, hF, hvv, hfl, hgi, hb⟩ := hrel
          by_cases hlt : k < 2
          · have HGX := Lib.hid (fun X (hX : Below wr.heap.size wr X) => hgi.out.under hX)
            have RCG := RCheckGraph_any F q c' wr hgi.out (by have := hF.out; omega) (fun v => by have := hfl.out v; omega)
            rw [hF.out] at RCG
            clear hgi
            cases hck : chk F with
            | false =>
              rw [hck, show errG false = 61 from rfl] at RCG
              have CP : Hid (∀ X, Below wr.heap.size wr X → Calls Try.prog 36 #[.slice q n c'] X fun e w' => e = .returned (.int .i64 61) ∧ X = w') := Lib.hid (fun X hX => by
                have := CheckGraph_any F q c' X (HGX.out X hX) (by have := hF.out; omega) (fun v => by have := hfl.out v; omega)
                rw [hF.out, hck] at this
                exact this)
              have OB : Hid (∀ X, Below wr.heap.size wr X → Calls Try.prog 37 #[.slice q n c'] X fun e w' => e = .returned (.tuple #[.slice none 0 0, .slice none 0 0, .int .i64 61]) ∧ Below X.heap.size X w') := Lib.hid (fun X hX => by
                have := Outcomes_bad F q c' X (HGX.out X hX) (by have := hF.out; omega) (fun v => by have := hfl.out v; omega) hck
                rw [hF.out] at this
                exact this)
              have BB : Hid (∀ X, Below wr.heap.size wr X → Calls Try.prog 38 #[.slice q n c', .int .i64 vv] X fun e w' => e = .returned (.tuple #[.int .i64 0, .int .i64 61]) ∧ Below X.heap.size X w') := Lib.hid (fun X hX => by
                have := Best_bad F q c' vv X (HGX.out X hX) (by have := hF.out; omega) (fun v => by have := hfl.out v; omega) hck
                rw [hF.out] at this
                exact this)
              have HCG := Lib.hid RCG
              clear RCG hck
              go_wp2_with fail
              have A0 := Lib.hid (Below.refl wr.heap.size wr)
              refine (HCG.out).mono ?_
              rintro e w1 ⟨rfl, hbb⟩
              have A1 := Lib.hid (A0.out.trans (hbb.mono A0.out.size))
              have B1 := Lib.hid (hb.out.trans (hbb.mono (by have := hb.out.size; have := HS.out; omega)))
              clear hbb A0 HCG
              go_wp2_with fail
              refine (CP.out w1 A1.out).mono ?_
              rintro e w2 ⟨rfl, rfl⟩
              go_wp2_with fail
              refine (OB.out w1 A1.out).mono ?_
              rintro e w3 ⟨rfl, hbb⟩
              have A3 := Lib.hid (A1.out.trans (hbb.mono A1.out.size))
              have B3 := Lib.hid (B1.out.trans (hbb.mono (by have := B1.out.size; have := HS.out; omega)))
              clear hbb A1 B1 OB CP
              go_wp2_with fail
              refine (BB.out w3 A3.out).mono ?_
              rintro e w4 ⟨rfl, hbb⟩
              have A4 := Lib.hid (A3.out.trans (hbb.mono A3.out.size))
              have B4 := Lib.hid (B3.out.trans (hbb.mono (by have := B3.out.size; have := HS.out; omega)))
              clear hbb A3 B3 BB
              go_wp2_with fail
              refine (GR.out w4 B4.out).mono ?_
              rintro e wz ⟨hg, G', rfl, hG', hc', hn', hbz⟩
              obtain ⟨c1', c2', c3', c4'⟩ := chk_nat hc'
              obtain ⟨n', hnn⟩ : ∃ n', G'.length = n' := ⟨_, rfl⟩
              rw [hnn] at c1' hn' ⊢
              obtain ⟨z, hz, hzn⟩ : ∃ z : Nat, (IntKind.u64.wrap vv).tmod (n' : Int) = (z : Int) ∧ z < n' := by
                have h1 : 0 ≤ IntKind.u64.wrap vv := by
                  have : IntKind.u64.wrap vv = vv % 2 ^ 64 := by rfl
                  omega
                have h2 : 0 ≤ (IntKind.u64.wrap vv).tmod (n' : Int) := Int.tmod_nonneg _ h1
                have h3 : (IntKind.u64.wrap vv).tmod (n' : Int) < n' := Int.tmod_lt_of_pos _ (by omega)
                exact ⟨((IntKind.u64.wrap vv).tmod (n' : Int)).toNat, by omega, by omega⟩
              have HG9 := Lib.hid hG'.gi
              have HR9 := Lib.hid c3'
              have HN9 := Lib.hid hnn
              have B9 := Lib.hid (B4.out.trans (hbz.mono (by have := B4.out.size; have := HS.out; omega)))
              clear hG' hc' c2' c3' c4' hnn hbz
              go_wp2_with fail
              go_roundw
              case rel => exact ⟨(z : Int), some ⟨hg, 0, none⟩, n', n', k + 1, intG G', rfl, rfl, by go_num, by omega, by omega, Lib.hid (by rw [intG_len, HN9.out]), Lib.hid (by omega), Lib.hid (fun j => by rw [intG_row, ints_len]; have := HR9.out j; omega), HG9, B9⟩
              case measure => simp [intOf]; omega
            | true =>
              obtain ⟨G, rfl⟩ := chk_intG hck
              rw [hck, show errG true = 0 from rfl] at RCG
              have HN : Hid (G.length = n) := Lib.hid (by rw [← intG_len]; exact hF.out)
              have HCK := Lib.hid hck
              have CP : Hid (∀ X, Below wr.heap.size wr X → Calls Try.prog 36 #[.slice q n c'] X fun e w' => e = .returned (.int .i64 0) ∧ X = w') := Lib.hid (fun X hX => by
                have := CheckGraph_any (intG G) q c' X (HGX.out X hX) (by have := hF.out; omega) (fun v => by have := hfl.out v; omega)
                rw [hF.out, hck] at this
                exact this)
              have HGN := Lib.hid (fun X (hX : Below wr.heap.size wr X) => (HGX.out X hX).gn)
              have OO : Hid (∀ X, Below wr.heap.size wr X → Calls Try.prog 37 #[.slice q n c'] X fun e w' => ∃ gk gd f, e = .returned (.tuple #[.slice (some ⟨gk, 0, none⟩) n n, .slice (some ⟨gd, 0, none⟩) n n, .int .i64 0]) ∧
                    Blk w' gk n (fun v => .int .i64 ((f v).1 : Nat)) ∧ Blk w' gd n (fun v => .int .i64 ((f v).2 : Nat)) ∧ OutP (dec G) n f ∧ Below X.heap.size X w') := Lib.hid (fun X hX => by
                refine (show Calls Try.prog 37 #[.slice q n c'] X _ from by
                  have := Outcomes_any G q c' X (HGN.out X hX) HCK.out
                  rw [HN.out] at this
                  exact this).mono ?_
                rintro e w' ⟨gk, gd, f, h1, h2, h3, h4, _, _, h7⟩
                exact ⟨gk, gd, f, h1, h2, h3, h4, h7⟩)
              have BA : Hid (∀ X, Below wr.heap.size wr X → Calls Try.prog 38 #[.slice q n c', .int .i64 vv] X fun e w' => ∃ a b : Int, e = .returned (.tuple #[.int .i64 a, .int .i64 b]) ∧ BSpec G vv a b ∧ Below X.heap.size X w') := Lib.hid (fun X hX => by
                have := Best_any G q c' vv X (HGN.out X hX) HCK.out
                rw [HN.out] at this
                exact this)
              have HCG := Lib.hid RCG
              clear RCG hck hfl hF
              go_wp2_with fail
              have A0 := Lib.hid (Below.refl wr.heap.size wr)
              refine (HCG.out).mono ?_
              rintro e w1 ⟨rfl, hbb⟩
              have A1 := Lib.hid (A0.out.trans (hbb.mono A0.out.size))
              have B1 := Lib.hid (hb.out.trans (hbb.mono (by have := hb.out.size; have := HS.out; omega)))
              clear hbb A0 HCG
              go_wp2_with fail
              refine (CP.out w1 A1.out).mono ?_
              rintro e w2 ⟨rfl, rfl⟩
              go_wp2_with fail
              refine (OO.out w1 A1.out).mono ?_
              rintro e w3 ⟨gk, gd, f, rfl, hk3, hd3, ho, hbb⟩
              have A3 := Lib.hid (A1.out.trans (hbb.mono A1.out.size))
              have B3 := Lib.hid (B1.out.trans (hbb.mono (by have := B1.out.size; have := HS.out; omega)))
              clear hbb A1 B1 OO CP
              have HK3 := Lib.hid hk3
              have HD3 := Lib.hid hd3
              have HOP := Lib.hid (show OutP (dec G) G.length f by rw [HN.out]; exact ho)
              clear hk3 hd3 ho
              go_wp2_with fail
              refine (BA.out w3 A3.out).mono ?_
              rintro e w4 ⟨a, b, rfl, hsp, hbb⟩
              have HK4 := Lib.hid (HK3.out.keep (hbb.block _ HK3.out.lt))
              have HD4 := Lib.hid (HD3.out.keep (hbb.block _ HD3.out.lt))
              have A4 := Lib.hid (A3.out.trans (hbb.mono A3.out.size))
              have B4 := Lib.hid (B3.out.trans (hbb.mono (by have := B3.out.size; have := HS.out; omega)))
              have HSP := Lib.hid hsp
              clear hbb hsp HK3 HD3 A3 B3 BA
              by_cases h40 : n ≤ 40
              · have RO : Hid (Calls Try.prog 39 #[.slice q n c'] w4 fun e w' => ∃ go co gd, e = .returned (.tuple #[.slice (some ⟨go, 0, none⟩) n co, .slice (some ⟨gd, 0, none⟩) n n]) ∧
                    Blk w' go n (fun v => .int .i64 ((f v).1 : Nat)) ∧ Blk w' gd n (fun v => .int .i64 ((f v).2 : Nat)) ∧ Below w4.heap.size w4 w') := Lib.hid (by
                  have := ROutcomes_any G q c' w4 (HGN.out w4 A4.out) HCK.out f HOP.out
                  rw [HN.out] at this
                  exact this)
                go_wp2_with fail
                refine RO.out.mono ?_
                rintro e w5 ⟨go', co, gd', rfl, hk5, hd5, hbb⟩
                have SM1 : Hid (Calls Try.prog 18 #[.slice (some ⟨gk, 0, none⟩) n n, .slice (some ⟨go', 0, none⟩) n co] w5 fun e w' => e = .returned (.bool true) ∧ Below w5.heap.size w5 w') := Lib.hid (by
                  have := same_any ((List.range n).map fun v => (f v).1) _ _ n co w5 (ns_blk (F := fun v => (f v).1) (HK4.out.keep (hbb.block _ HK4.out.lt))) (ns_blk (F := fun v => (f v).1) hk5) (by simp; omega)
                  rw [List.length_map, List.length_range] at this
                  exact this)
                have SM2 : Hid (∀ X, Below w5.heap.size w5 X → Calls Try.prog 18 #[.slice (some ⟨gd, 0, none⟩) n n, .slice (some ⟨gd', 0, none⟩) n n] X fun e w' => e = .returned (.bool true) ∧ Below X.heap.size X w') := Lib.hid (fun X hX => by
                  have := same_any ((List.range n).map fun v => (f v).2) _ _ n n X ((ns_blk (F := fun v => (f v).2) (HD4.out.keep (hbb.block _ HD4.out.lt))).under hX) ((ns_blk (F := fun v => (f v).2) hd5).under hX) (by simp; omega)
                  rw [List.length_map, List.length_range] at this
                  exact this)
                have A5 := Lib.hid (A4.out.trans (hbb.mono A4.out.size))
                have B5 := Lib.hid (B4.out.trans (hbb.mono (by have := B4.out.size; have := HS.out; omega)))
                clear hbb hk5 hd5 RO HK4 HD4 A4 B4
                go_wp2_with fail
                refine SM1.out.mono ?_
                rintro e w6 ⟨rfl, hbb⟩
                have SM3 := Lib.hid (SM2.out w6 hbb)
                have A6 := Lib.hid (A5.out.trans (hbb.mono A5.out.size))
                have B6 := Lib.hid (B5.out.trans (hbb.mono (by have := B5.out.size; have := HS.out; omega)))
                clear hbb SM1 SM2 A5 B5
                go_wp2_with fail
                refine SM3.out.mono ?_
                rintro e w7 ⟨rfl, hbb⟩
                have A7 := Lib.hid (A6.out.trans (hbb.mono A6.out.size))
                have B7 := Lib.hid (B6.out.trans (hbb.mono (by have := B6.out.size; have := HS.out; omega)))
                clear hbb SM3 A6 B6
                rcases HSP.out with ⟨hout, rfl, rfl⟩ | ⟨u, rfl, hu, ⟨hne, rfl, rfl⟩ | ⟨w, hne, hbo, rfl, rfl⟩⟩
                · clear HSP
                  rw [HN.out] at hout
                  by_cases hneg : vv < 0
                  · go_wp2_with fail
                    refine (GR.out w7 B7.out).mono ?_
                    rintro e wz ⟨hg, G', rfl, hG', hc', hn', hbz⟩
                    obtain ⟨c1', c2', c3', c4'⟩ := chk_nat hc'
                    obtain ⟨n', hnn⟩ : ∃ n', G'.length = n' := ⟨_, rfl⟩
                    rw [hnn] at c1' hn' ⊢
                    obtain ⟨z, hz, hzn⟩ : ∃ z : Nat, (IntKind.u64.wrap vv).tmod (n' : Int) = (z : Int) ∧ z < n' := by
                      have h1 : 0 ≤ IntKind.u64.wrap vv := by
                        have : IntKind.u64.wrap vv = vv % 2 ^ 64 := by rfl
                        omega
                      have h2 : 0 ≤ (IntKind.u64.wrap vv).tmod (n' : Int) := Int.tmod_nonneg _ h1
                      have h3 : (IntKind.u64.wrap vv).tmod (n' : Int) < n' := Int.tmod_lt_of_pos _ (by omega)
                      exact ⟨((IntKind.u64.wrap vv).tmod (n' : Int)).toNat, by omega, by omega⟩
                    have HG9 := Lib.hid hG'.gi
                    have HR9 := Lib.hid c3'
                    have HN9 := Lib.hid hnn
                    have B9 := Lib.hid (B7.out.trans (hbz.mono (by have := B7.out.size; have := HS.out; omega)))
                    clear hG' hc' c2' c3' c4' hnn hbz
                    go_wp2_with fail
                    go_roundw
                    case rel => exact ⟨(z : Int), some ⟨hg, 0, none⟩, n', n', k + 1, intG G', rfl, rfl, by go_num, by omega, by omega, Lib.hid (by rw [intG_len, HN9.out]), Lib.hid (by omega), Lib.hid (fun j => by rw [intG_row, ints_len]; have := HR9.out j; omega), HG9, B9⟩
                    case measure => simp [intOf]; omega
                  · have qn : decide (vv < 0) = false := decide_eq_false hneg
                    have qb : (n : Int) ≤ vv := by omega
                    go_wp2_with fail
                    refine (GR.out w7 B7.out).mono ?_
                    rintro e wz ⟨hg, G', rfl, hG', hc', hn', hbz⟩
                    obtain ⟨c1', c2', c3', c4'⟩ := chk_nat hc'
                    obtain ⟨n', hnn⟩ : ∃ n', G'.length = n' := ⟨_, rfl⟩
                    rw [hnn] at c1' hn' ⊢
                    obtain ⟨z, hz, hzn⟩ : ∃ z : Nat, (IntKind.u64.wrap vv).tmod (n' : Int) = (z : Int) ∧ z < n' := by
                      have h1 : 0 ≤ IntKind.u64.wrap vv := by
                        have : IntKind.u64.wrap vv = vv % 2 ^ 64 := by rfl
                        omega
                      have h2 : 0 ≤ (IntKind.u64.wrap vv).tmod (n' : Int) := Int.tmod_nonneg _ h1
                      have h3 : (IntKind.u64.wrap vv).tmod (n' : Int) < n' := Int.tmod_lt_of_pos _ (by omega)
                      exact ⟨((IntKind.u64.wrap vv).tmod (n' : Int)).toNat, by omega, by omega⟩
                    have HG9 := Lib.hid hG'.gi
                    have HR9 := Lib.hid c3'
                    have HN9 := Lib.hid hnn
                    have B9 := Lib.hid (B7.out.trans (hbz.mono (by have := B7.out.size; have := HS.out; omega)))
                    clear hG' hc' c2' c3' c4' hnn hbz
                    go_wp2_with fail
                    go_roundw
                    case rel => exact ⟨(z : Int), some ⟨hg, 0, none⟩, n', n', k + 1, intG G', rfl, rfl, by go_num, by omega, by omega, Lib.hid (by rw [intG_len, HN9.out]), Lib.hid (by omega), Lib.hid (fun j => by rw [intG_row, ints_len]; have := HR9.out j; omega), HG9, B9⟩
                    case measure => simp [intOf]; omega
                · clear HSP
                  have hun : u < n := by have := HN.out; omega
                  have RB : Hid (Calls Try.prog 40 #[.slice q n c', .int .i64 u] w7 fun e w' => e = .returned (.tuple #[.int .i64 (-1), .bool false]) ∧ Below w7.heap.size w7 w') := Lib.hid (by
                    have := RBest_any G q c' u w7 (HGN.out w7 A7.out) HCK.out f HOP.out hu
                    rw [HN.out, hne] at this
                    exact this)
                  clear hne hu
                  go_wp2_with fail
                  refine RB.out.mono ?_
                  rintro e w8 ⟨rfl, hbb⟩
                  have B8 := Lib.hid (B7.out.trans (hbb.mono (by have := B7.out.size; have := HS.out; omega)))
                  clear hbb RB B7 A7
                  go_wp2_with fail
                  refine (GR.out w8 B8.out).mono ?_
                  rintro e wz ⟨hg, G', rfl, hG', hc', hn', hbz⟩
                  obtain ⟨c1', c2', c3', c4'⟩ := chk_nat hc'
                  obtain ⟨n', hnn⟩ : ∃ n', G'.length = n' := ⟨_, rfl⟩
                  rw [hnn] at c1' hn' ⊢
                  obtain ⟨z, hz, hzn⟩ : ∃ z : Nat, (u : Int) % (n' : Int) = (z : Int) ∧ z < n' := ⟨u % n', by omega, Nat.mod_lt _ (by omega)⟩
                  have HG9 := Lib.hid hG'.gi
                  have HR9 := Lib.hid c3'
                  have HN9 := Lib.hid hnn
                  have B9 := Lib.hid (B8.out.trans (hbz.mono (by have := B8.out.size; have := HS.out; omega)))
                  clear hG' hc' c2' c3' c4' hnn hbz
                  go_wp2_with fail
                  go_roundw
                  case rel => exact ⟨(z : Int), some ⟨hg, 0, none⟩, n', n', k + 1, intG G', rfl, rfl, by go_num, by omega, by omega, Lib.hid (by rw [intG_len, HN9.out]), Lib.hid (by omega), Lib.hid (fun j => by rw [intG_row, ints_len]; have := HR9.out j; omega), HG9, B9⟩
                  case measure => simp [intOf]; omega
                · clear HSP
                  have hun : u < n := by have := HN.out; omega
                  have RB : Hid (Calls Try.prog 40 #[.slice q n c', .int .i64 u] w7 fun e w' => e = .returned (.tuple #[.int .i64 w, .bool true]) ∧ Below w7.heap.size w7 w') := Lib.hid (by
                    have := RBest_any G q c' u w7 (HGN.out w7 A7.out) HCK.out f HOP.out hu
                    rw [HN.out, rbl_best (chk_plays HCK.out HOP.out) (chk_nat HCK.out).2.2.2 hu (hbo f HOP.out)] at this
                    exact this)
                  clear hne hu hbo
                  go_wp2_with fail
                  refine RB.out.mono ?_
                  rintro e w8 ⟨rfl, hbb⟩
                  have B8 := Lib.hid (B7.out.trans (hbb.mono (by have := B7.out.size; have := HS.out; omega)))
                  clear hbb RB B7 A7
                  go_wp2_with fail
                  refine (GR.out w8 B8.out).mono ?_
                  rintro e wz ⟨hg, G', rfl, hG', hc', hn', hbz⟩
                  obtain ⟨c1', c2', c3', c4'⟩ := chk_nat hc'
                  obtain ⟨n', hnn⟩ : ∃ n', G'.length = n' := ⟨_, rfl⟩
                  rw [hnn] at c1' hn' ⊢
                  obtain ⟨z, hz, hzn⟩ : ∃ z : Nat, (u : Int) % (n' : Int) = (z : Int) ∧ z < n' := ⟨u % n', by omega, Nat.mod_lt _ (by omega)⟩
                  have HG9 := Lib.hid hG'.gi
                  have HR9 := Lib.hid c3'
                  have HN9 := Lib.hid hnn
                  have B9 := Lib.hid (B8.out.trans (hbz.mono (by have := B8.out.size; have := HS.out; omega)))
                  clear hG' hc' c2' c3' c4' hnn hbz
                  go_wp2_with fail
                  go_roundw
                  case rel => exact ⟨(z : Int), some ⟨hg, 0, none⟩, n', n', k + 1, intG G', rfl, rfl, by go_num, by omega, by omega, Lib.hid (by rw [intG_len, HN9.out]), Lib.hid (by omega), Lib.hid (fun j => by rw [intG_row, ints_len]; have := HR9.out j; omega), HG9, B9⟩
                  case measure => simp [intOf]; omega
              · clear HSP HK4 HD4 A4
                have q40 : decide ((n : Int) ≤ 40) = false := decide_eq_false (by omega)
                go_wp2_with fail
                refine (GR.out w4 B4.out).mono ?_
                rintro e wz ⟨hg, G', rfl, hG', hc', hn', hbz⟩
                obtain ⟨c1', c2', c3', c4'⟩ := chk_nat hc'
                obtain ⟨n', hnn⟩ : ∃ n', G'.length = n' := ⟨_, rfl⟩
                rw [hnn] at c1' hn' ⊢
                obtain ⟨z, hz, hzn⟩ : ∃ z : Nat, (IntKind.u64.wrap vv).tmod (n' : Int) = (z : Int) ∧ z < n' := by
                  have h1 : 0 ≤ IntKind.u64.wrap vv := by
                    have : IntKind.u64.wrap vv = vv % 2 ^ 64 := by rfl
                    omega
                  have h2 : 0 ≤ (IntKind.u64.wrap vv).tmod (n' : Int) := Int.tmod_nonneg _ h1
                  have h3 : (IntKind.u64.wrap vv).tmod (n' : Int) < n' := Int.tmod_lt_of_pos _ (by omega)
                  exact ⟨((IntKind.u64.wrap vv).tmod (n' : Int)).toNat, by omega, by omega⟩
                have HG9 := Lib.hid hG'.gi
                have HR9 := Lib.hid c3'
                have HN9 := Lib.hid hnn
                have B9 := Lib.hid (B4.out.trans (hbz.mono (by have := B4.out.size; have := HS.out; omega)))
                clear hG' hc' c2' c3' c4' hnn hbz
                go_wp2_with fail
                go_roundw
                case rel => exact ⟨(z : Int), some ⟨hg, 0, none⟩, n', n', k + 1, intG G', rfl, rfl, by go_num, by omega, by omega, Lib.hid (by rw [intG_len, HN9.out]), Lib.hid (by omega), Lib.hid (fun j => by rw [intG_row, ints_len]; have := HR9.out j; omega), HG9, B9⟩
                case measure => simp [intOf]; omega
          · go_wp2_with fail
            refine (AW.out wr).mono ?_
            rintro e w5 ⟨rfl, hbb⟩
            have B5 := Lib.hid (hb.out.trans (hbb.mono (by have := hb.out.size; have := HS.out; omega)))
            clear hbb
            go_wp2_with fail
            go_ret
            exact ⟨rfl, by have := B5.out; rw [← HS.out] at this; exact this⟩
end Go.Proofs.Ytodnfchkkgoabaa
