/- WALK of put of the reference: a heap more, in its place. -/
import Derived.Test.YtodnfchkkgoabaaHBe
set_option linter.unusedVariables false
namespace Go.Proofs.Ytodnfchkkgoabaa
open Go.RowKit

/-- A heap that is not empty, in its place. -/
def ins (L : List Int) (x : Int) : List Int := if x = 0 then L else L.takeWhile (fun y => decide (y < x)) ++ x :: L.dropWhile (fun y => decide (y < x))

theorem while_at (x : Int) : ∀ (L : List Int) (i : Nat), i ≤ L.length → (∀ j, j < i → L.getD j 0 < x) → (i < L.length → ¬ L.getD i 0 < x) → L.takeWhile (fun y => decide (y < x)) = L.take i ∧ L.dropWhile (fun y => decide (y < x)) = L.drop i := by
  intro L
  induction L with
  | nil => intro i hi _ _; simp
  | cons a L ih =>
    intro i hi h1 h2
    cases i with
    | zero =>
      have h3 : ¬ a < x := by simpa using h2 (by simp)
      simp [h3]
    | succ i =>
      have h3 : a < x := by simpa using h1 0 (by omega)
      obtain ⟨e1, e2⟩ := ih i (by simpa using hi) (fun j hj => by simpa using h1 (j + 1) (by omega)) (fun hl => by simpa using h2 (by simpa using hl))
      simp [List.takeWhile_cons, List.dropWhile_cons, h3, e1, e2]

/-- The value is a slice that holds these integers: of the call's own, or nil. -/
def Row1 (w : World) (v : Value) (L : List Int) : Prop := (v = .slice none 0 0 ∧ L = []) ∨ ∃ g c, v = .slice (some ⟨g, 0, none⟩) L.length c ∧ L.length ≤ c ∧ c ≤ 9223372036854775807 ∧ NI w (some ⟨g, 0, none⟩) L

theorem Row1.some {w : World} {v : Value} {L : List Int} (h : Row1 w v L) (hl : 1 ≤ L.length) : ∃ g c, v = .slice (some ⟨g, 0, none⟩) L.length c ∧ L.length ≤ c ∧ c ≤ 9223372036854775807 ∧ NI w (some ⟨g, 0, none⟩) L := by
  rcases h with ⟨_, h2⟩ | h
  · rw [h2] at hl; simp at hl
  · exact h

theorem row1_of_own {w : World} {base n : Nat} {v : Value} {L : List Int} (h : w.ownsRow base 3 1 v n (L.map (Value.int .i64))) (hn : n = L.length) : Row1 w v L := by
  subst hn
  rcases h.2 with ⟨h1, h2⟩ | ⟨g, cap, cur, h1, _, hg, h4, h5, _, ht⟩
  · exact .inl ⟨h1, List.length_eq_zero_iff.1 h2⟩
  · refine .inr ⟨g, cap, h1, h4, by unfold maxLen at h5; omega, fun i hi => ⟨g, rfl, ?_⟩⟩
    have hj : cur.toList[i]? = some (.int .i64 (L.getD i 0)) := by
      have h5 : (L.map (Value.int .i64))[i]? = some (.int .i64 (L.getD i 0)) := by
        rw [List.getElem?_map, List.getElem?_eq_getElem hi]; simp [List.getD_eq_getElem?_getD, hi]
      rw [← ht, List.getElem?_take] at h5
      split at h5
      · exact h5
      · cases h5
    have hj2 : cur[i]? = some (.int .i64 (L.getD i 0)) := by rw [← hj]; simp
    simp [World.cell?, hg, hj2]

theorem own_base {w : World} {base n : Nat} {v : Value} {xs : List Value} (h : w.ownsRow base 3 1 v n xs) : ∀ b, v.ownBlock = some b → base ≤ b := fun b e => by
  rcases h.2 with ⟨h1, _⟩ | ⟨g9, cap9, cur9, h1, h2, _⟩
  · rw [h1] at e; cases e
  · rw [h1] at e; cases e; exact h2

set_option maxRecDepth 100000 in
set_option maxHeartbeats 2000000 in
theorem put_any (L : List Int) (v : Value) (x : Int) (W : World) (hL : Row1 W v L) (hl : L.length ≤ 100) :
    Calls Try.prog 52 #[v, .int .i64 x] W fun e w' => ∃ v', e = .returned v' ∧ Row1 w' v' (ins L x) ∧ Below W.heap.size W w' := by
  obtain ⟨i1, hj, hy0, hy1, hy2⟩ := info_parts infoInt
  by_cases hx0 : x = 0
  · subst hx0
    have HI : Hid (ins L 0 = L) := Lib.hid (by unfold ins; rw [if_pos rfl])
    have HL := Lib.hid hL
    clear hL
    go_enter Try.func52, Try.ntmps52
    go_wp2_with fail
    go_ret
    exact ⟨v, rfl, by rw [HI.out]; exact HL.out, Below.refl _ _⟩
  · have q0 : (x == 0) = false := by simpa using hx0
    rcases hL with ⟨rfl, rfl⟩ | ⟨g, c, rfl, hlc, hc9, hni⟩
    · have HI : Hid (ins [] x = [x]) := Lib.hid (by unfold ins; rw [if_neg hx0]; rfl)
      clear hx0
      go_enter Try.func52, Try.ntmps52
      go_wp2_with fail
      go_loop [5] (fun y => y = .int .i64 0) (fun _ => 0)
      case atStart => rfl
      case round =>
        subst hrel
        go_wp2_with (at_builtin; refine wpList_append_own_at _ rfl _ _ 22 rfl W.heap.size 3 i1 (.int .i64 0) 1 8 Try.underlying22 hj hy0 hy1 hy2 rfl (by decide) (.slice none 0 0) 0 [] rfl (World.ownsRow_nil _ W.heap.size 3 1) ⟨W.heap.size, 0, none⟩ 1 1 [.int .i64 x] rfl rfl (cell_one_new _ _ _) (fun y hy => by simp at hy; subst hy; rfl) (by unfold maxLen; omega) (by omega) (by simp) ?_; intro v' w4 hw1 hw2 _ hw3; obtain ⟨g9, c9, rfl, hc1, hc2, hn9⟩ := (row1_of_own (L := [x]) hw1 rfl).some (by simp); simp only [List.length_cons, List.length_nil, Nat.zero_add] at hc1 hw1 ⊢; have HB4 : Hid (Below W.heap.size W w4) := Lib.hid (((Below.refl _ W).alloc (Nat.le_refl _) _).trans ⟨hw2.os, hw2.tape, hw2.output, hw2.size, fun b hb => hw2.block b (by simp; omega) (by simp [Value.ownBlock])⟩); have HN9 := Lib.hid hn9; clear hw1 hw2 hw3 hn9)
        go_ret
        exact ⟨_, rfl, by rw [HI.out]; exact .inr ⟨g9, c9, rfl, hc1, hc2, HN9.out⟩, HB4.out⟩
    · obtain ⟨m, hm⟩ : ∃ m, L.length = m := ⟨_, rfl⟩
      have HM := Lib.hid hm
      have HL := Lib.hid hni
      rw [hm] at hlc hl ⊢
      clear hm hni
      have HX : Hid (¬ x = 0) := Lib.hid hx0
      clear hx0
      go_enter Try.func52, Try.ntmps52
      go_wp2_with fail
      go_loop [5] (fun y => ∃ i : Nat, y = .int .i64 i ∧ i ≤ m ∧ Hid (∀ j, j < i → L.getD j 0 < x)) (fun y => m - (intOf y).toNat)
      case atStart => exact ⟨0, rfl, by omega, Lib.hid (fun j hj => by omega)⟩
      case round =>
        obtain ⟨i, rfl, him, hall⟩ := hrel
        by_cases hgo : i < m ∧ L.getD i 0 < x
        · obtain ⟨hlt, hlx⟩ := hgo
          obtain ⟨g', e, hc⟩ := HL.out i (by rw [HM.out]; exact hlt)
          cases e
          have HA2 : Hid (∀ j, j < i + 1 → L.getD j 0 < x) := Lib.hid (fun j hj => by
            by_cases e : j = i
            · subst e; exact hlx
            · exact hall.out j (by omega))
          generalize L.getD i 0 = y at hc hlx
          go_wp2_with fail
          go_round
          case rel => exact ⟨i + 1, by go_num, by omega, HA2⟩
          case measure => simp [intOf]; omega
        · have HW := Lib.hid (while_at x L i (by rw [HM.out]; exact him) hall.out (fun h => by rw [HM.out] at h; exact fun h2 => hgo ⟨h, h2⟩))
          have HI : Hid (ins L x = L.take i ++ [x] ++ L.drop i) := Lib.hid (by unfold ins; rw [if_neg HX.out, HW.out.1, HW.out.2]; simp)
          have HN1 : Hid (∀ j u, ((L.take i).map (Value.int .i64))[j]? = some u → W.cell? ((⟨g, 0, none⟩ : Addr).add j) = some u) := Lib.hid (fun j u hu => by
            have hj : j < ((L.take i).map (Value.int .i64)).length := (List.getElem?_eq_some_iff.1 hu).1
            rw [List.length_map, List.length_take, HM.out] at hj
            obtain ⟨g', e, hc⟩ := HL.out j (by rw [HM.out]; omega)
            cases e
            have hadd : (⟨g, 0, none⟩ : Addr).add j = ⟨g, j, none⟩ := by unfold Addr.add; split <;> simp_all
            rw [hadd, hc, ← hu, List.getElem?_map, List.getElem?_take, if_pos (by omega), List.getElem?_eq_getElem (by rw [HM.out]; omega)]
            simp [List.getD_eq_getElem?_getD, List.getElem?_eq_getElem (show j < L.length by rw [HM.out]; omega)])
          have HN3 : Hid (∀ X, Below W.heap.size W X → ∀ j u, ((L.drop i).map (Value.int .i64))[j]? = some u → X.cell? ((⟨g, i, none⟩ : Addr).add j) = some u) := Lib.hid (fun X hX j u hu => by
            have hj : j < ((L.drop i).map (Value.int .i64)).length := (List.getElem?_eq_some_iff.1 hu).1
            rw [List.length_map, List.length_drop, HM.out] at hj
            obtain ⟨g', e, hc⟩ := HL.out (i + j) (by rw [HM.out]; omega)
            cases e
            have hadd : (⟨g, i, none⟩ : Addr).add j = ⟨g, i + j, none⟩ := by unfold Addr.add; split <;> simp_all
            rw [hadd, cellOf2 hX hc (cell_lt2 hc), ← hu, List.getElem?_map, List.getElem?_drop, List.getElem?_eq_getElem (by rw [HM.out]; omega)]
            simp [List.getD_eq_getElem?_getD, List.getElem?_eq_getElem (show i + j < L.length by rw [HM.out]; omega)])
          by_cases hlt : i < m
          · obtain ⟨g', e, hc⟩ := HL.out i (by rw [HM.out]; exact hlt)
            cases e
            have hnx : ¬ L.getD i 0 < x := fun h => hgo ⟨hlt, h⟩
            generalize L.getD i 0 = y at hc hnx
            have hci : ¬ c = i := by omega
            clear hall HW hgo
            have hci : ¬ c = i := hci
            go_wp2_with (at_builtin; first | (refine wpList_append_own_at _ rfl _ _ 22 rfl W.heap.size 3 i1 (.int .i64 0) 1 8 Try.underlying22 hj hy0 hy1 hy2 rfl (by decide) (.slice none 0 0) 0 [] rfl (World.ownsRow_nil _ W.heap.size 3 1) ⟨g, 0, none⟩ i c ((L.take i).map (Value.int .i64)) rfl (by rw [List.length_map, List.length_take, HM.out]; omega) HN1.out (ints_oneCell .i64 _) (by unfold maxLen; omega) (by omega) (Nat.le_refl _) ?_; intro v1 w4 hw1 hw2 _ hw3; rw [List.nil_append, Nat.zero_add] at hw1; have O1 := Lib.hid hw1; have K4 : Hid (Below W.heap.size W w4) := Lib.hid ⟨hw2.os, hw2.tape, hw2.output, hw2.size, fun b hb => hw2.block b hb (by simp [Value.ownBlock])⟩; clear hw1 hw2 hw3) | (refine wpList_append_own_at _ rfl _ _ 22 rfl W.heap.size 3 i1 (.int .i64 0) 1 8 Try.underlying22 hj hy0 hy1 hy2 rfl (by decide) v1 i ((L.take i).map (Value.int .i64)) rfl (O1.out.alloc _) ⟨w4.heap.size, 0, none⟩ 1 1 [.int .i64 x] rfl rfl (cell_one_new _ _ _) (fun y hy => by simp at hy; subst hy; rfl) (by unfold maxLen; omega) (by omega) (by have := K4.out.size; simp; omega) ?_; intro v2 w6 hw1 hw2 _ hw3; have O2 : Hid (w6.ownsRow W.heap.size 3 1 v2 (i + 1) ((L.take i ++ [x]).map (Value.int .i64))) := Lib.hid (by rw [List.map_append]; exact hw1); have K6 : Hid (Below W.heap.size W w6) := Lib.hid ((K4.out.alloc K4.out.size _).trans ⟨hw2.os, hw2.tape, hw2.output, hw2.size, fun b hb => hw2.block b (by have := K4.out.size; simp; omega) (fun e => by have := own_base O1.out b e.symm; omega)⟩); have B2 : Hid (∀ b, v2.ownBlock = some b → W.heap.size ≤ b) := Lib.hid (own_base O2.out); clear hw1 hw2 hw3) | (refine wpList_append_own_at _ rfl _ _ 22 rfl W.heap.size 3 i1 (.int .i64 0) 1 8 Try.underlying22 hj hy0 hy1 hy2 rfl (by decide) v2 (i + 1) ((L.take i ++ [x]).map (Value.int .i64)) rfl O2.out ⟨g, i, none⟩ (m - i) (c - i) ((L.drop i).map (Value.int .i64)) rfl (by rw [List.length_map, List.length_drop, HM.out, Nat.mul_one]) (HN3.out w6 K6.out) (ints_oneCell .i64 _) (by unfold maxLen; omega) (by omega) (by have := K6.out.size; omega) ?_; intro v3 w8 hw1 hw2 _ hw3; rw [← List.map_append] at hw1; have HB8 : Hid (Below W.heap.size W w8) := Lib.hid (K6.out.trans ⟨hw2.os, hw2.tape, hw2.output, hw2.size, fun b hb => hw2.block b (by have := K6.out.size; omega) (fun e => by have := B2.out b e.symm; omega)⟩); have HR8 := Lib.hid (row1_of_own hw1 (by simp only [List.length_append, List.length_take, List.length_drop, HM.out, List.length_cons, List.length_nil]; omega)); clear hw1 hw2 hw3))
            go_ret
            exact ⟨v3, rfl, by rw [HI.out]; exact HR8.out, HB8.out⟩
          · obtain rfl : i = m := by omega
            clear hall HW hgo
            by_cases hci : c = i
            · have hci : c = i := hci
              go_wp2_with (at_builtin; first | (refine wpList_append_own_at _ rfl _ _ 22 rfl W.heap.size 3 i1 (.int .i64 0) 1 8 Try.underlying22 hj hy0 hy1 hy2 rfl (by decide) (.slice none 0 0) 0 [] rfl (World.ownsRow_nil _ W.heap.size 3 1) ⟨g, 0, none⟩ i i ((L.take i).map (Value.int .i64)) rfl (by rw [List.length_map, List.length_take, HM.out]; omega) HN1.out (ints_oneCell .i64 _) (by unfold maxLen; omega) (by omega) (Nat.le_refl _) ?_; intro v1 w4 hw1 hw2 _ hw3; rw [List.nil_append, Nat.zero_add] at hw1; have O1 := Lib.hid hw1; have K4 : Hid (Below W.heap.size W w4) := Lib.hid ⟨hw2.os, hw2.tape, hw2.output, hw2.size, fun b hb => hw2.block b hb (by simp [Value.ownBlock])⟩; clear hw1 hw2 hw3) | (refine wpList_append_own_at _ rfl _ _ 22 rfl W.heap.size 3 i1 (.int .i64 0) 1 8 Try.underlying22 hj hy0 hy1 hy2 rfl (by decide) v1 i ((L.take i).map (Value.int .i64)) rfl (O1.out.alloc _) ⟨w4.heap.size, 0, none⟩ 1 1 [.int .i64 x] rfl rfl (cell_one_new _ _ _) (fun y hy => by simp at hy; subst hy; rfl) (by unfold maxLen; omega) (by omega) (by have := K4.out.size; simp; omega) ?_; intro v2 w6 hw1 hw2 _ hw3; have O2 : Hid (w6.ownsRow W.heap.size 3 1 v2 (i + 1) ((L.take i ++ [x]).map (Value.int .i64))) := Lib.hid (by rw [List.map_append]; exact hw1); have K6 : Hid (Below W.heap.size W w6) := Lib.hid ((K4.out.alloc K4.out.size _).trans ⟨hw2.os, hw2.tape, hw2.output, hw2.size, fun b hb => hw2.block b (by have := K4.out.size; simp; omega) (fun e => by have := own_base O1.out b e.symm; omega)⟩); have B2 : Hid (∀ b, v2.ownBlock = some b → W.heap.size ≤ b) := Lib.hid (own_base O2.out); clear hw1 hw2 hw3) | (refine wpList_append_own_at _ rfl _ _ 22 rfl W.heap.size 3 i1 (.int .i64 0) 1 8 Try.underlying22 hj hy0 hy1 hy2 rfl (by decide) v2 (i + 1) ((L.take i ++ [x]).map (Value.int .i64)) rfl O2.out ⟨g, 0, none⟩ 0 _ ((L.drop i).map (Value.int .i64)) rfl (by simp [HM.out]) (fun j u hu => by rw [List.drop_eq_nil_iff.2 (by have := HM.out; omega)] at hu; simp at hu) (ints_oneCell .i64 _) (by unfold maxLen; omega) (by omega) (by have := K6.out.size; omega) ?_; intro v3 w8 hw1 hw2 _ hw3; rw [← List.map_append] at hw1; have HB8 : Hid (Below W.heap.size W w8) := Lib.hid (K6.out.trans ⟨hw2.os, hw2.tape, hw2.output, hw2.size, fun b hb => hw2.block b (by have := K6.out.size; omega) (fun e => by have := B2.out b e.symm; omega)⟩); have HR8 := Lib.hid (row1_of_own hw1 (by simp only [List.length_append, List.length_take, List.length_drop, HM.out, List.length_cons, List.length_nil]; omega)); clear hw1 hw2 hw3))
              go_ret
              exact ⟨v3, rfl, by rw [HI.out]; exact HR8.out, HB8.out⟩
            · have hci : ¬ c = i := hci
              go_wp2_with (at_builtin; first | (refine wpList_append_own_at _ rfl _ _ 22 rfl W.heap.size 3 i1 (.int .i64 0) 1 8 Try.underlying22 hj hy0 hy1 hy2 rfl (by decide) (.slice none 0 0) 0 [] rfl (World.ownsRow_nil _ W.heap.size 3 1) ⟨g, 0, none⟩ i c ((L.take i).map (Value.int .i64)) rfl (by rw [List.length_map, List.length_take, HM.out]; omega) HN1.out (ints_oneCell .i64 _) (by unfold maxLen; omega) (by omega) (Nat.le_refl _) ?_; intro v1 w4 hw1 hw2 _ hw3; rw [List.nil_append, Nat.zero_add] at hw1; have O1 := Lib.hid hw1; have K4 : Hid (Below W.heap.size W w4) := Lib.hid ⟨hw2.os, hw2.tape, hw2.output, hw2.size, fun b hb => hw2.block b hb (by simp [Value.ownBlock])⟩; clear hw1 hw2 hw3) | (refine wpList_append_own_at _ rfl _ _ 22 rfl W.heap.size 3 i1 (.int .i64 0) 1 8 Try.underlying22 hj hy0 hy1 hy2 rfl (by decide) v1 i ((L.take i).map (Value.int .i64)) rfl (O1.out.alloc _) ⟨w4.heap.size, 0, none⟩ 1 1 [.int .i64 x] rfl rfl (cell_one_new _ _ _) (fun y hy => by simp at hy; subst hy; rfl) (by unfold maxLen; omega) (by omega) (by have := K4.out.size; simp; omega) ?_; intro v2 w6 hw1 hw2 _ hw3; have O2 : Hid (w6.ownsRow W.heap.size 3 1 v2 (i + 1) ((L.take i ++ [x]).map (Value.int .i64))) := Lib.hid (by rw [List.map_append]; exact hw1); have K6 : Hid (Below W.heap.size W w6) := Lib.hid ((K4.out.alloc K4.out.size _).trans ⟨hw2.os, hw2.tape, hw2.output, hw2.size, fun b hb => hw2.block b (by have := K4.out.size; simp; omega) (fun e => by have := own_base O1.out b e.symm; omega)⟩); have B2 : Hid (∀ b, v2.ownBlock = some b → W.heap.size ≤ b) := Lib.hid (own_base O2.out); clear hw1 hw2 hw3) | (refine wpList_append_own_at _ rfl _ _ 22 rfl W.heap.size 3 i1 (.int .i64 0) 1 8 Try.underlying22 hj hy0 hy1 hy2 rfl (by decide) v2 (i + 1) ((L.take i ++ [x]).map (Value.int .i64)) rfl O2.out ⟨g, i, none⟩ 0 _ ((L.drop i).map (Value.int .i64)) rfl (by simp [HM.out]) (HN3.out w6 K6.out) (ints_oneCell .i64 _) (by unfold maxLen; omega) (by omega) (by have := K6.out.size; omega) ?_; intro v3 w8 hw1 hw2 _ hw3; rw [← List.map_append] at hw1; have HB8 : Hid (Below W.heap.size W w8) := Lib.hid (K6.out.trans ⟨hw2.os, hw2.tape, hw2.output, hw2.size, fun b hb => hw2.block b (by have := K6.out.size; omega) (fun e => by have := B2.out b e.symm; omega)⟩); have HR8 := Lib.hid (row1_of_own hw1 (by simp only [List.length_append, List.length_take, List.length_drop, HM.out, List.length_cons, List.length_nil]; omega)); clear hw1 hw2 hw3))
              go_ret
              exact ⟨v3, rfl, by rw [HI.out]; exact HR8.out, HB8.out⟩
end Go.Proofs.Ytodnfchkkgoabaa
