/- WALK of after of the reference. -/
import Derived.Test.YtodnfchkkgoabaaHArAz
import Derived.Test.YtodnfchkkgoabaaHVeVf
import Derived.Deep.CutBlock
set_option linter.unusedVariables false
namespace Go.Proofs.Ytodnfchkkgoabaa
open Go.RowKit

/-- The heaps that a move leaves. -/
def rowOf (x : Nat × Nat) : List Nat := if x.2 = 0 then [] else if x.1 = 0 then [x.2] else [x.1, x.2]

theorem mvs_append (n : Nat) (b : List Nat) : ∀ (a : List Nat) (i : Nat), mvs n i (a ++ b) = mvs n i a ++ mvs n (i + a.length) b := by
  intro a
  induction a with
  | nil => intro i; rfl
  | cons d a ih =>
    intro i
    rw [List.cons_append, mvs, mvs, ih, List.append_assoc, List.length_cons, show i + 1 + a.length = i + (a.length + 1) by omega]
theorem mvs_take (n : Nat) (ds : List Nat) (j : Nat) (hj : j < ds.length) : mvs n 0 (ds.take (j + 1)) = mvs n 0 (ds.take j) ++ mv1 (ds.getD j 0) n j := by
  rw [List.take_succ_eq_append_getElem hj, mvs_append, List.length_take, Nat.min_eq_left (by omega), Nat.zero_add, List.getD_eq_getElem?_getD, List.getElem?_eq_getElem hj]
  simp [mvs]
theorem mvs_stop (n : Nat) : ∀ (ds : List Nat) (i : Nat), n ≤ i → mvs n i ds = [] := by
  intro ds
  induction ds with
  | nil => intro i _; rfl
  | cons d ds ih =>
    intro i hi
    rw [mvs, ih (i + 1) (by omega), mv1_none (by omega) (by omega)]; rfl
theorem mvs_all (n : Nat) (ds : List Nat) (j : Nat) (h : ds.length ≤ j ∨ n ≤ j) : mvs n 0 (ds.take j) = mvs n 0 ds := by
  rcases h with h | h
  · rw [List.take_of_length_le h]
  · by_cases h2 : ds.length ≤ j
    · rw [List.take_of_length_le h2]
    · have hq : ds = ds.take j ++ ds.drop j := (List.take_append_drop j ds).symm
      conv => rhs; rw [hq]
      have h3 : n ≤ j := h
      rw [mvs_append, List.length_take, Nat.min_eq_left (by omega), mvs_stop n _ (0 + j) (by omega), List.append_nil]

theorem code_byte {t : ByteArray} {ds : List Nat} (h : codeOf t = some ds) (j : Nat) (hj : j < ds.length) (hk : j + 2 < t.size) : (t[j + 2]'hk).toNat = 48 + ds.getD j 0 := by
  obtain ⟨h1, h2, h3, h4, h5⟩ := codeOf_some h
  have hl : j + 2 < t.data.toList.length := by rw [← Lib.size_eq]; exact hk
  rw [byte_at t (j + 2) hk hl]
  have hd : (t.data.toList.drop 2)[j]? = some t.data.toList[j + 2] := by
    rw [List.getElem?_drop, show 2 + j = j + 2 by omega, List.getElem?_eq_getElem hl]
  have hm := List.mem_of_getElem? hd
  have hr : 48 ≤ t.data.toList[j + 2].toNat := by
    unfold isDig at h4
    rw [List.all_eq_true] at h4
    have := h4 _ hm
    simp only [Bool.and_eq_true, decide_eq_true_eq] at this
    exact this.1
  have he : ds.getD j 0 = t.data.toList[j + 2].toNat - 48 := by
    rw [h5]; unfold digs
    rw [List.getD_eq_getElem?_getD, List.getElem?_map, hd]; rfl
  omega
theorem code_size {t : ByteArray} {ds : List Nat} (h : codeOf t = some ds) : t.size = 2 + ds.length := by
  obtain ⟨h1, h2, h3, h4, h5⟩ := codeOf_some h
  rw [Lib.size_eq, h5]; unfold digs
  rw [List.length_map]
  rw [List.length_drop] at *
  omega

theorem ns_in (wm : World) (cs : Array Value) (L : List Nat) (t : TypeId) (x : Obj) (h : ∀ i, i < L.length → cs[i]? = some (nv (L.getD i 0))) : NS ((wm.alloc (.cells cs t)).alloc x) (some ⟨wm.heap.size, 0, none⟩) L := by
  intro i hi
  refine ⟨_, rfl, ?_⟩
  have : ((wm.alloc (.cells cs t)).alloc x).heap[wm.heap.size]? = some (.cells cs t (0, 0)) := by
    rw [Below.heap_alloc _ _ _ (by simp)]; exact heap_alloc_new _ _
  simp [World.cell?, this, h i hi]
theorem two_keep (wm : World) (x y : Obj) (b : Nat) (hb : b < wm.heap.size) : ((wm.alloc x).alloc y).heap[b]? = wm.heap[b]? := by
  rw [Below.heap_alloc _ _ _ (by simp; omega), Below.heap_alloc _ _ _ hb]
theorem rows_end {n k d : Nat} {ds : List Nat} {F F1 F2 F3 : List (List Nat)} (k1 : 1 ≤ k) (hF : F = (mvs n 0 (ds.take (k - 1))).map rowOf)
    (hM : mvs n 0 (ds.take (k - 1 + 1)) = mvs n 0 (ds.take (k - 1)) ++ mv1 d n (k - 1))
    (h1 : F1 = F ++ (if d % 2 = 1 ∧ n = k - 1 + 1 then [((0 : Nat), (0 : Nat))] else []).map rowOf)
    (h2 : F2 = F1 ++ (if d / 2 % 2 = 1 ∧ k - 1 + 1 < n then [((0 : Nat), n - (k - 1 + 1))] else []).map rowOf)
    (h3 : F3 = F2 ++ (if d / 4 % 2 = 1 then parts (n - (k - 1 + 1)) else []).map rowOf) : F3 = (mvs n 0 (ds.take (k + 1 - 1))).map rowOf := by
  rw [show k + 1 - 1 = k - 1 + 1 by omega, hM, List.map_append, mv1, List.map_append, List.map_append, ← hF, h3, h2, h1]
  simp only [List.append_assoc]
theorem parts_take (r a : Nat) (h1 : 1 ≤ a) (h : a + a ≤ r) : ((parts r).take (a + 1 - 1)).map rowOf = ((parts r).take (a - 1)).map rowOf ++ [[a, r - a]] := by
  have hl : a - 1 < (parts r).length := by simp [parts]; omega
  rw [show a + 1 - 1 = a - 1 + 1 by omega, List.take_succ_eq_append_getElem hl, List.map_append]
  congr 1
  simp only [parts, List.getElem_map, List.getElem_range, List.map_cons, List.map_nil]
  rw [show a - 1 + 1 = a by omega]
  unfold rowOf
  rw [if_neg (by show ¬ r - a = 0; omega), if_neg (by show ¬ a = 0; omega)]
theorem parts_full (r a : Nat) (h : r < a + a) : (parts r).take (a - 1) = parts r := List.take_of_length_le (by simp [parts]; omega)

theorem own_ge {w : World} {base : Nat} {t : TypeId} {v : Value} {n : Nat} {R : List Value} (h : w.ownsRow base t 1 v n R) : ∀ b, v.ownBlock = some b → base ≤ b := by
  intro b e
  rcases h.2 with ⟨h1, _⟩ | ⟨g, cap, cur, h1, h2, h3, h4⟩
  · rw [h1] at e; cases e
  · rw [h1] at e; cases e
    exact h2

set_option maxRecDepth 100000 in
set_option maxHeartbeats 4000000 in
theorem after_any (t : ByteArray) (ds : List Nat) (n : Nat) (W : World) (hc : codeOf t = some ds) (hn : n ≤ 2000) :
    Calls Try.prog 45 #[.string t, .int .i64 n] W fun e w' => ∃ v, e = .returned v ∧ AR w' W.heap.size v ((mvs n 0 ds).map rowOf) ∧ Below W.heap.size W w' := by
  obtain ⟨i1, hj, hy0, hy1, hy2⟩ := info_parts infoRow
  obtain ⟨l1, l8, hds⟩ := codeOf_len hc
  have hsz := code_size hc
  have HC := Lib.hid hc
  have HD := Lib.hid hds
  obtain ⟨m, hm⟩ : ∃ m, ds.length = m := ⟨_, rfl⟩
  rw [hm] at hsz l1 l8
  have HM := Lib.hid hm
  have hts : (t.size : Int) - 2 = (m : Int) := by omega
  have hs2 : m + 2 ≤ t.size := by omega
  clear hc hds hsz hm
  go_enter Try.func45, Try.ntmps45
  go_wp2_with fail
  go_loopw [5, 6] (fun x y wr => ∃ (v : Value) (k : Nat) (F : List (List Nat)), v = x ∧ y = .int .i64 k ∧ 1 ≤ k ∧ k ≤ m + 1 ∧ F.length ≤ 3000 * k ∧ Hid (F = (mvs n 0 (ds.take (k - 1))).map rowOf) ∧ Hid (AR wr W.heap.size v F) ∧ Hid (Below W.heap.size W wr)) (fun _ y _ => m + 1 - (intOf y).toNat)
  case atStart => exact ⟨_, 1, [], rfl, rfl, by omega, by omega, by simp, Lib.hid rfl, Lib.hid (AR.nil _ _), Lib.hid (Below.refl _ _)⟩
  case round =>
    obtain ⟨v, k, F, hv, rfl, k1, k2, hl, hF, har, hb⟩ := hrel
    subst hv
    by_cases hkm : k ≤ m
    · by_cases hkn : k ≤ n
      · have hbyte : (t[k + 1]'(by omega)).toNat = 48 + ds.getD (k - 1) 0 := by
          have := code_byte HC.out (k - 1) (by have := HM.out; omega) (by omega)
          simp only [show k - 1 + 2 = k + 1 by omega] at this
          exact this
        have hd8 : ds.getD (k - 1) 0 < 8 := by
          have h9 : k - 1 < ds.length := by have := HM.out; omega
          rw [List.getD_eq_getElem?_getD, List.getElem?_eq_getElem h9]
          exact HD.out _ (List.getElem_mem h9)
        have HMT := Lib.hid (mvs_take n ds (k - 1) (by have := HM.out; omega))
        generalize ds.getD (k - 1) 0 = d at *
        obtain ⟨left, hleft⟩ : ∃ l, n = k + l := ⟨n - k, by omega⟩
        have HLE := Lib.hid hleft
        have q1 : (n : Int) - (k : Int) = (left : Int) := by omega
        clear hleft
        have q2 : 48 + (d : Int) - 48 = (d : Int) := by omega
        go_upto_region 7 with fail
        go_cut [37] from 31 to 36 (fun u wx => (∃ c, u = .bool c ∧ Hid (c = true ↔ d % 2 = 1 ∧ left = 0)) ∧ wr = wx)
        case first =>
          by_cases hA : d % 2 = 1
          · have r1 : ((d : Int) % 2 == 1) = true := by simp; omega
            by_cases hB : left = 0
            · have r2 : ((left : Int) == 0) = true := by simp [hB]
              have HI : Hid (d % 2 = 1 ∧ left = 0) := Lib.hid ⟨hA, hB⟩
              clear hA hB
              go_wp2_with fail
              go_meet
              case rel => exact ⟨⟨_, rfl, Lib.hid (by simp [HI.out])⟩, rfl⟩
            · have r2 : ((left : Int) == 0) = false := by simp [hB]
              have HI : Hid (¬ left = 0) := Lib.hid hB
              clear hA hB
              go_wp2_with fail
              go_meet
              case rel => exact ⟨⟨_, rfl, Lib.hid (by simp [HI.out])⟩, rfl⟩
          · have r1 : ((d : Int) % 2 == 1) = false := by simp; omega
            have HI : Hid (¬ d % 2 = 1) := Lib.hid hA
            clear hA
            go_wp2_with fail
            go_meet
            case rel => exact ⟨⟨_, rfl, Lib.hid (by simp [HI.out])⟩, rfl⟩
        case rest =>
          obtain ⟨⟨c, rfl, HCC⟩, rfl⟩ := hcut
          go_upto_if 37 with fail
          go_cut [5] from 38 to 40 (fun u WR => ∃ v' F', v' = u ∧ Hid (F' = F ++ (if d % 2 = 1 ∧ n = k - 1 + 1 then [((0 : Nat), (0 : Nat))] else []).map rowOf) ∧ F'.length ≤ 3000 * k + 1 ∧ Hid (AR WR W.heap.size v' F') ∧ Hid (Below W.heap.size W WR))
          case first =>
            cases c with
            | true =>
              have HT := Lib.hid (HCC.out.1 rfl)
              clear HCC
              obtain ⟨R, ho, hr⟩ := har.out
              have HO := Lib.hid ho
              have HR := Lib.hid hr
              clear ho hr
              go_wp2_with (at_builtin; refine wpList_append_lies _ rfl _ _ 33 rfl W.heap.size 22 i1 (.slice none 0 0) 1 24 Try.underlying33 hj hy0 hy1 hy2 rfl (by decide) v F.length R rfl (HO.out.alloc _) ⟨wr.heap.size, 0, none⟩ 1 1 [.slice none 0 0] rfl rfl (cell_one_new _ _ _) (fun y hy => by simp at hy; subst hy; rfl) (by decide) (by unfold maxLen; omega) (by omega) (by have := hb.out.size; simp; omega) _ rfl ?_; intro g' cap w4 hw1 hw2 hw3 hw4)
              go_meet
              case rel =>
                have P : AR w4 W.heap.size (.slice (some ⟨g', 0, none⟩) (F.length + 1) cap) (F ++ [[]]) := AR.push (p := none) (c := 0) (L := []) HO.out HR.out (by simp) (fun b hb => Below.heap_alloc _ _ _ hb) (fun i hi => by simp at hi) (fun b e => by cases e) hw1 hw2 hw3 hw4
                refine ⟨_, F ++ [[]], rfl, Lib.hid ?_, by rw [List.length_append]; simp; omega, Lib.hid P, Lib.hid ?_⟩
                · rw [if_pos ⟨HT.out.1, by have := HT.out.2; have := HLE.out; omega⟩]; rfl
                · exact (hb.out.alloc hb.out.size _).grown hw2 (by have := hb.out.size; simp; omega) (own_ge HO.out)
            | false =>
              go_wp2_with fail
              go_meet
              case rel => exact ⟨v, F, rfl, Lib.hid (by
                rw [if_neg (fun h => ?_)]
                · simp
                · have := HCC.out.2 ⟨h.1, by have := HLE.out; omega⟩
                  cases this), by omega, har, hb⟩
          case rest =>
            clear har hb HCC
            obtain ⟨v1, F1, hv1, hF1, hl1, har, hb⟩ := hcut
            subst hv1
            obtain ⟨wm, rfl⟩ : ∃ x : World, x = wc := ⟨_, rfl⟩
            go_upto_region 9 with fail
            go_cut [48] from 41 to 47 (fun u wx => (∃ c, u = .bool c ∧ Hid (c = true ↔ d / 2 % 2 = 1 ∧ 0 < left)) ∧ wm = wx)
            case first =>
              by_cases hA : d / 2 % 2 = 1
              · have r1 : ((d : Int) / 2 % 2 == 1) = true := by simp; omega
                by_cases hB : 0 < left
                · have r2 : decide (0 < (left : Int)) = true := decide_eq_true (by omega)
                  have HI : Hid (d / 2 % 2 = 1 ∧ 0 < left) := Lib.hid ⟨hA, hB⟩
                  clear hA hB
                  go_wp2_with fail
                  go_meet
                  case rel => exact ⟨⟨_, rfl, Lib.hid (by simp [HI.out])⟩, rfl⟩
                · have r2 : decide (0 < (left : Int)) = false := decide_eq_false (by omega)
                  have HI : Hid (¬ 0 < left) := Lib.hid hB
                  clear hA hB
                  go_wp2_with fail
                  go_meet
                  case rel => exact ⟨⟨_, rfl, Lib.hid (by have := HI.out; simp; omega)⟩, rfl⟩
              · have r1 : ((d : Int) / 2 % 2 == 1) = false := by simp; omega
                have HI : Hid (¬ d / 2 % 2 = 1) := Lib.hid hA
                clear hA
                go_wp2_with fail
                go_meet
                case rel => exact ⟨⟨_, rfl, Lib.hid (by simp [HI.out])⟩, rfl⟩
            case rest =>
              obtain ⟨⟨c, rfl, HCC⟩, rfl⟩ := hcut
              go_upto_if 48 with fail
              go_cut [5] from 49 to 53 (fun u wx => ∃ v' F', v' = u ∧ Hid (F' = F1 ++ (if d / 2 % 2 = 1 ∧ k - 1 + 1 < n then [((0 : Nat), n - (k - 1 + 1))] else []).map rowOf) ∧ F'.length ≤ 3000 * k + 2 ∧ Hid (AR wx W.heap.size v' F') ∧ Hid (Below W.heap.size W wx))
              case first =>
                cases c with
                | true =>
                  have HT := Lib.hid (HCC.out.1 rfl)
                  clear HCC
                  obtain ⟨R, ho, hr⟩ := har.out
                  have HO := Lib.hid ho
                  have HR := Lib.hid hr
                  clear ho hr
                  go_wp2_with (at_builtin; refine wpList_append_lies _ rfl _ _ 33 rfl W.heap.size 22 i1 (.slice none 0 0) 1 24 Try.underlying33 hj hy0 hy1 hy2 rfl (by decide) v1 F1.length R rfl ((HO.out.alloc _).alloc _) ⟨wm.heap.size + 1, 0, none⟩ 1 1 [.slice (some ⟨wm.heap.size, 0, none⟩) 1 1] rfl rfl (by have := cell_one_new (wm.alloc (.cells #[.int .i64 (left : Int)] 3)) (.slice (some ⟨wm.heap.size, 0, none⟩) 1 1) 22; simpa using this) (fun y hy => by simp at hy; subst hy; rfl) (by decide) (by unfold maxLen; omega) (by omega) (by have := hb.out.size; simp; omega) _ rfl ?_; intro g' cap w4 hw1 hw2 hw3 hw4)
                  go_meet
                  case rel =>
                    have P : AR w4 W.heap.size (.slice (some ⟨g', 0, none⟩) (F1.length + 1) cap) (F1 ++ [[left]]) := AR.push (p := some ⟨wm.heap.size, 0, none⟩) (c := 1) (L := [left]) HO.out HR.out (by simp; omega) (fun b hb => two_keep _ _ _ b hb) (ns_in _ _ _ _ _ (fun i hi => by
                      have : i = 0 := by simp at hi; omega
                      subst this; rfl)) (fun b e => by cases e; simp; omega) hw1 hw2 hw3 hw4
                    refine ⟨_, F1 ++ [[left]], rfl, Lib.hid ?_, by rw [List.length_append]; simp; omega, Lib.hid P, Lib.hid ?_⟩
                    · have e1 : n - (k - 1 + 1) = left := by have := HLE.out; omega
                      have e2 : ¬ left = 0 := by have := HT.out.2; omega
                      rw [if_pos ⟨HT.out.1, by have := HT.out.2; have := HLE.out; omega⟩, e1]
                      simp [rowOf, e2]
                    · exact ((hb.out.alloc hb.out.size _).alloc (by have := hb.out.size; simp; omega) _).grown hw2 (by have := hb.out.size; simp; omega) (own_ge HO.out)
                | false =>
                  go_wp2_with fail
                  go_meet
                  case rel => exact ⟨v1, F1, rfl, Lib.hid (by
                    rw [if_neg (fun h => ?_)]
                    · simp
                    · have := HCC.out.2 ⟨h.1, by have := HLE.out; omega⟩
                      cases this), by omega, har, hb⟩
              case rest =>
                clear har hb HCC
                obtain ⟨v2, F2, hv2, hF2, hl2, har, hb⟩ := hcut
                subst hv2
                obtain ⟨wn, rfl⟩ : ∃ x : World, x = wc := ⟨_, rfl⟩
                by_cases hq : d / 4 = 1
                · have r1 : ((d : Int) / 4 == 1) = true := by simp; omega
                  have HQ := Lib.hid hq
                  clear hq
                  go_wp2_with fail
                  go_loopw [5, 9] (fun x y wx => ∃ (v' : Value) (a : Nat) (F' : List (List Nat)), v' = x ∧ y = .int .i64 a ∧ 1 ≤ a ∧ a ≤ left / 2 + 1 ∧ Hid (F' = F2 ++ ((parts left).take (a - 1)).map rowOf) ∧ F'.length ≤ 3000 * k + 2 + a ∧ Hid (AR wx W.heap.size v' F') ∧ Hid (Below W.heap.size W wx)) (fun _ y _ => left / 2 + 1 - (intOf y).toNat)
                  case atStart => exact ⟨_, 1, F2, rfl, rfl, by omega, by omega, Lib.hid (by simp), by omega, har, hb⟩
                  case round =>
                    clear har hb
                    obtain ⟨v3, a, F3, hv3, rfl, a1, a2, hF3, hl3, har, hb⟩ := hrel
                    subst hv3
                    by_cases ha : a + a ≤ left
                    · obtain ⟨rest, hrest⟩ : ∃ r, left = a + r := ⟨left - a, by omega⟩
                      have q3 : (left : Int) - (a : Int) = (rest : Int) := by omega
                      obtain ⟨R, ho, hr⟩ := har.out
                      have HO := Lib.hid ho
                      have HR := Lib.hid hr
                      have HRS := Lib.hid hrest
                      clear ho hr hrest
                      go_wp2_with (at_builtin; refine wpList_append_lies _ rfl _ _ 33 rfl W.heap.size 22 i1 (.slice none 0 0) 1 24 Try.underlying33 hj hy0 hy1 hy2 rfl (by decide) v3 F3.length R rfl ((HO.out.alloc _).alloc _) ⟨wr.heap.size + 1, 0, none⟩ 1 1 [.slice (some ⟨wr.heap.size, 0, none⟩) 2 2] rfl rfl (by have := cell_one_new (wr.alloc (.cells #[.int .i64 (a : Int), .int .i64 (rest : Int)] 3)) (.slice (some ⟨wr.heap.size, 0, none⟩) 2 2) 22; simpa using this) (fun y hy => by simp at hy; subst hy; rfl) (by decide) (by unfold maxLen; omega) (by omega) (by have := hb.out.size; simp; omega) _ rfl ?_; intro g' cap w4 hw1 hw2 hw3 hw4)
                      have P : AR w4 W.heap.size (.slice (some ⟨g', 0, none⟩) (F3.length + 1) cap) (F3 ++ [[a, rest]]) := AR.push (p := some ⟨wr.heap.size, 0, none⟩) (c := 2) (L := [a, rest]) HO.out HR.out (by simp; omega) (fun b hb => two_keep _ _ _ b hb) (ns_in _ _ _ _ _ (fun i hi => by
                        have : i = 0 ∨ i = 1 := by simp at hi; omega
                        rcases this with rfl | rfl <;> rfl)) (fun b e => by cases e; simp; omega) hw1 hw2 hw3 hw4
                      have hB4 : Below W.heap.size W w4 := ((hb.out.alloc hb.out.size _).alloc (by have := hb.out.size; simp; omega) _).grown hw2 (by have := hb.out.size; simp; omega) (own_ge HO.out)
                      refine ⟨⟨_, a + 1, F3 ++ [[a, rest]], rfl, by go_num, by omega, by omega, Lib.hid ?_, by rw [List.length_append]; simp; omega, Lib.hid P, Lib.hid hB4⟩, ?_⟩
                      · rw [parts_take left a a1 ha, hF3.out, List.append_assoc, show left - a = rest by have := HRS.out; omega]
                      · simp only [intOf]; omega
                    · have HE : Hid (F3 = (mvs n 0 (ds.take (k + 1 - 1))).map rowOf) := Lib.hid (rows_end k1 hF.out HMT.out hF1.out hF2.out (by
                        rw [hF3.out, parts_full left a (by omega), if_pos (by have := HQ.out; omega), show n - (k - 1 + 1) = left by have := HLE.out; omega]))
                      clear hF3
                      go_wp2_with fail
                      go_roundw
                      case rel => exact ⟨v3, k + 1, F3, rfl, by go_num, by omega, by omega, by omega, HE, har, hb⟩
                      case measure => simp [intOf]; omega
                · have r1 : ((d : Int) / 4 == 1) = false := by simp; omega
                  have HE : Hid (F2 = (mvs n 0 (ds.take (k + 1 - 1))).map rowOf) := Lib.hid (rows_end k1 hF.out HMT.out hF1.out hF2.out (by
                    rw [if_neg (by omega)]; simp))
                  clear hq
                  go_wp2_with fail
                  go_roundw
                  case rel => exact ⟨v2, k + 1, F2, rfl, by go_num, by omega, by omega, by omega, HE, har, hb⟩
                  case measure => simp [intOf]; omega
      · have HE : Hid (F = (mvs n 0 ds).map rowOf) := Lib.hid (by rw [hF.out, mvs_all n ds _ (.inr (by omega))])
        clear hF
        go_wp2_with fail
        go_ret
        exact ⟨v, rfl, by rw [← HE.out]; exact har.out, hb.out⟩
    · have HE : Hid (F = (mvs n 0 ds).map rowOf) := Lib.hid (by rw [hF.out, mvs_all n ds _ (.inl (by have := HM.out; omega))])
      clear hF
      go_wp2_with fail
      go_ret
      exact ⟨v, rfl, by rw [← HE.out]; exact har.out, hb.out⟩
end Go.Proofs.Ytodnfchkkgoabaa
