/- WALKS of slices.Concat and of ordered. -/
import Derived.Test.YtodnfchkkgoabaaHShelfBShelfShelfC
import Derived.Test.YtodnfchkkgoabaaHGw
set_option linter.unusedVariables false
namespace Go.Proofs.Ytodnfchkkgoabaa
open Go.RowKit

/-- Rows of integers that lie somewhere, each with an address. -/
def GS (w : World) (p : Option Addr) (G : List (List Int)) : Prop := ∀ v, v < G.length → ∃ (a a' : Addr) (cv : Nat), p = some a ∧ w.cell? (a.add v) = some (.slice (some a') (G.getD v []).length cv) ∧ ∀ i, i < (G.getD v []).length → w.cell? (a'.add i) = some (.int .i64 ((G.getD v []).getD i 0))
theorem GS.row {w : World} {p : Option Addr} {G : List (List Int)} (h : GS w p G) {v : Nat} (hv : v < G.length) {R : List Int} (hR : G.getD v [] = R) : ∃ (a a' : Addr) (cv : Nat), p = some a ∧ w.cell? (a.add v) = some (.slice (some a') R.length cv) ∧ ∀ i, i < R.length → w.cell? (a'.add i) = some (.int .i64 (R.getD i 0)) := by
  rw [← hR]; exact h v hv
theorem GS.under {W X : World} {p : Option Addr} {G : List (List Int)} (h : GS W p G) (hb : Below W.heap.size W X) : GS X p G := by
  intro v hv
  obtain ⟨a, a', cv, e, hc, hn⟩ := h v hv
  exact ⟨a, a', cv, e, cellOfA hb hc (cell_ltA hc), fun i hi => cellOfA hb (hn i hi) (cell_ltA (hn i hi))⟩

def szs (G : List (List Int)) (k : Nat) : Nat := (G.take k).flatten.length
theorem take_flat (G : List (List Int)) (k : Nat) (hk : k < G.length) : (G.take (k + 1)).flatten = (G.take k).flatten ++ G.getD k [] := by
  rw [List.take_succ_eq_append_getElem hk, List.flatten_append, List.getD_eq_getElem?_getD, List.getElem?_eq_getElem hk]
  simp
theorem szs_le (G : List (List Int)) (k : Nat) : szs G k ≤ G.flatten.length := by
  unfold szs
  have h : G.flatten = (G.take k).flatten ++ (G.drop k).flatten := by rw [← List.flatten_append, List.take_append_drop]
  rw [h, List.length_append]; omega

theorem Grow_nil (n : Nat) (X : World) (h1 : 1 ≤ n) (h2 : n ≤ 1000) :
    Calls Try.prog 84 #[.slice none 0 0, .int .i64 n] X fun e w' => ∃ cap, e = .returned (.slice (some ⟨X.heap.size, 0, none⟩) 0 cap) ∧ w'.ownsRow X.heap.size 3 1 (.slice (some ⟨X.heap.size, 0, none⟩) 0 cap) 0 [] ∧ Below X.heap.size X w' := by
  obtain ⟨i1, hj, hy0, hy1, hy2⟩ := info_parts infoInt
  have h := Any8.slices_Grow_grow Try.layGrow i1 (.int .i64 0) hj hy0 (by rw [hy1]; decide) none 0 0 n [] X (Nat.le_refl _) (by omega) (by rw [hy2]; omega) (by omega) (by simp) (fun _ => rfl) (fun a h => by cases h)
  change Calls Try.prog 84 _ _ _ at h
  refine h.mono ?_
  rintro e w' ⟨rfl, rfl⟩
  have hge := grownCap_ge X (0 + n) 0 3
  refine ⟨_, rfl, ⟨rfl, .inr ⟨X.heap.size, _, _, rfl, Nat.le_refl _, heap_alloc_new X.drew _, Nat.zero_le _, grownCap_le_maxLen X (0 + n) 0 3 (by unfold maxLen; omega), ?_, by simp⟩⟩, ((Below.refl _ X).drew).alloc (Nat.le_refl _) _⟩
  simp only [Array.size_append, size_zeroCells]
  have e1 : (Value.int IntKind.i64 0).cells.size = 1 := rfl
  rw [e1]
  show ([] : List Value).toArray.size + _ + _ = _
  simp only [List.size_toArray, List.length_nil]
  change 0 + (0 + n - 0) * 1 + (grownCap X (0 + n) 0 3 - (0 + n)) * 1 = grownCap X (0 + n) 0 3 * 1
  omega

set_option maxRecDepth 100000 in
set_option maxHeartbeats 2000000 in
theorem Concat_any (G : List (List Int)) (p : Option Addr) (c n : Nat) (W : World) (hG : GS W p G) (hl : G.length ≤ 10) (hn : G.flatten.length = n) (h1 : 1 ≤ n) (h2 : n ≤ 1000) :
    Calls Try.prog 76 #[.slice p G.length c] W fun e w' => ∃ g c', e = .returned (.slice (some ⟨g, 0, none⟩) n c') ∧ w'.ownsRow W.heap.size 3 1 (.slice (some ⟨g, 0, none⟩) n c') n (G.flatten.map (Value.int .i64)) ∧ Below W.heap.size W w' := by
  obtain ⟨i1, hj, hy0, hy1, hy2⟩ := info_parts infoInt
  obtain ⟨m, hm⟩ : ∃ m, G.length = m := ⟨_, rfl⟩
  have HM := Lib.hid hm
  have HG := Lib.hid hG
  have HN := Lib.hid hn
  have HSZ : Hid (∀ k, szs G k ≤ n) := Lib.hid (fun k => by have := szs_le G k; omega)
  have HS1 : Hid (∀ k, k < m → szs G (k + 1) = szs G k + (G.getD k []).length) := Lib.hid (fun k hk => by unfold szs; rw [take_flat G k (by omega), List.length_append])
  have HSM : Hid (szs G m = n) := Lib.hid (by unfold szs; rw [List.take_of_length_le (by omega)]; exact hn)
  rw [hm] at hl ⊢
  clear hG hm hn
  have GRW := Lib.hid (fun X : World => Grow_nil n X h1 h2)
  go_enter Try.func76, Try.ntmps76
  go_wp2_with fail
  go_loop [3, 11] (fun x y => ∃ k z : Nat, x = .int .i64 z ∧ y = .int .i64 k ∧ k ≤ m ∧ z ≤ n ∧ Hid (z = szs G k)) (fun _ y => m - (intOf y).toNat)
  case atStart => exact ⟨0, 0, rfl, rfl, by omega, by omega, Lib.hid rfl⟩
  case round =>
    obtain ⟨k, z, rfl, rfl, hk, hz, hzs⟩ := hrel
    by_cases hlt : k < m
    · obtain ⟨R, hR⟩ : ∃ R, G.getD k [] = R := ⟨_, rfl⟩
      obtain ⟨r, hr⟩ : ∃ r, R.length = r := ⟨_, rfl⟩
      obtain ⟨a, a', cv, rfl, cR, -⟩ := HG.out.row (by rw [HM.out]; exact hlt) hR
      rw [hr] at cR
      have HZ2 : Hid (z + r = szs G (k + 1)) := Lib.hid (by rw [HS1.out k hlt, ← hzs.out, hR, hr])
      have hzr : z + r ≤ n := by rw [HZ2.out]; exact HSZ.out _
      clear hR hr hzs
      go_wp2_with fail
      go_round
      case rel => exact ⟨k + 1, z + r, by go_num, by go_num, by omega, hzr, HZ2⟩
      case measure => simp [intOf]; omega
    · obtain rfl : n = z := by rw [hzs.out, ← HSM.out]; congr 1; omega
      clear hzs
      go_wp2_with fail
      refine (GRW.out W).mono ?_
      rintro e w1 ⟨cap, rfl, hown, hb⟩
      obtain ⟨S, hS⟩ : ∃ S, W.heap.size = S := ⟨_, rfl⟩
      rw [hS] at hown hb ⊢
      have H0 : Hid (w1.ownsRow S 3 1 (.slice (some ⟨S, 0, none⟩) 0 cap) (szs G 0) ((G.take 0).flatten.map (Value.int .i64))) := Lib.hid hown
      have HB0 := Lib.hid hb
      have HS := Lib.hid hS
      clear hown hb hS GRW
      go_wp2_with fail
      go_loopw [6, 27] (fun x y wr => ∃ (v : Value) (k : Nat), v = x ∧ y = .int .i64 k ∧ k ≤ m ∧ Hid (wr.ownsRow S 3 1 v (szs G k) ((G.take k).flatten.map (Value.int .i64))) ∧ Hid (Below S W wr)) (fun _ y _ => m - (intOf y).toNat)
      case atStart => exact ⟨_, 0, rfl, rfl, by omega, H0, HB0⟩
      case round =>
        clear H0 HB0
        obtain ⟨v, k, hv, rfl, hk, ho, hb⟩ := hrel
        subst hv
        by_cases hlt : k < m
        · obtain ⟨R, hR⟩ : ∃ R, G.getD k [] = R := ⟨_, rfl⟩
          obtain ⟨r, hr⟩ : ∃ r, R.length = r := ⟨_, rfl⟩
          obtain ⟨a, a', cv, rfl, cR, hcs⟩ := (HG.out.under (X := wr) (by rw [HS.out]; exact hb.out)).row (by rw [HM.out]; exact hlt) hR
          rw [hr] at cR
          have HFL : Hid ((G.take (k + 1)).flatten.map (Value.int .i64) = (G.take k).flatten.map (Value.int .i64) ++ R.map (Value.int .i64)) := Lib.hid (by rw [take_flat G k (by rw [HM.out]; exact hlt), List.map_append, hR])
          have HZ2 : Hid (szs G k + r = szs G (k + 1)) := Lib.hid (by rw [HS1.out k hlt, hR, hr])
          have HNW : Hid (∀ j u, (R.map (Value.int .i64))[j]? = some u → wr.cell? (a'.add j) = some u) := Lib.hid (fun j u hu => by
            have hj : j < (R.map (Value.int .i64)).length := (List.getElem?_eq_some_iff.1 hu).1
            rw [List.length_map] at hj
            rw [hcs j hj, ← hu, List.getElem?_map, List.getElem?_eq_getElem hj]
            simp [List.getD_eq_getElem?_getD, List.getElem?_eq_getElem hj])
          have HRL := Lib.hid hr
          have hb1 := HSZ.out k
          have hb2 := HSZ.out (k + 1)
          have hb3 : szs G k + r ≤ 1000 := by rw [HZ2.out]; omega
          clear hR hr hcs
          go_wp2_with (at_builtin; refine wpList_append_own_at _ rfl _ _ 22 rfl S 3 i1 (.int .i64 0) 1 8 Try.underlying22 hj hy0 hy1 hy2 rfl (by decide) v (szs G k) ((G.take k).flatten.map (Value.int .i64)) rfl ho.out a' r cv (R.map (Value.int .i64)) rfl (by rw [List.length_map, HRL.out, Nat.mul_one]) HNW.out (ints_oneCell .i64 _) (by unfold maxLen; omega) (by omega) (by have := HS.out; have := hb.out.size; omega) ?_; intro v' w4 hw1 hw2 _ hw3)
          have hown : ∀ b, v.ownBlock = some b → S ≤ b := fun b e => by
            rcases ho.out.2 with ⟨h1, _⟩ | ⟨g9, cap9, cur9, h1, h2, _⟩
            · rw [h1] at e; cases e
            · rw [h1] at e; cases e; exact h2
          have HB4 : Hid (Below S W w4) := Lib.hid (hb.out.trans ⟨hw2.os, hw2.tape, hw2.output, hw2.size, fun b hb' => hw2.block b (by have := HS.out; have := hb.out.size; omega) (fun e => by have := hown b e.symm; omega)⟩)
          go_roundw
          case rel => exact ⟨v', k + 1, rfl, by go_num, by omega, Lib.hid (by rw [← HZ2.out, HFL.out]; exact hw1), HB4⟩
          case measure => simp [intOf]; omega
        · have HE : Hid (wr.ownsRow S 3 1 v n (G.flatten.map (Value.int .i64))) := Lib.hid (by
            obtain rfl : k = m := by omega
            have := ho.out
            rw [HSM.out, List.take_of_length_le (by rw [HM.out]; exact Nat.le_refl _)] at this
            exact this)
          clear ho
          go_wp2_with fail
          go_ret
          rcases HE.out.2 with ⟨_, h9⟩ | ⟨g9, cap9, cur9, h9, h10⟩
          · omega
          · subst h9
            exact ⟨g9, cap9, rfl, by rw [HS.out]; exact HE.out, by rw [HS.out]; exact hb.out⟩
end Go.Proofs.Ytodnfchkkgoabaa
