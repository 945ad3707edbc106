/- Facts for Values of the reference. -/
import Derived.Test.YtodnfchkkgoabaaHAf
import Derived.Test.YtodnfchkkgoabaaHGs
set_option linter.unusedVariables false
namespace Go.Proofs.Ytodnfchkkgoabaa
open Go.RowKit

theorem mv1_zero (d n i : Nat) (x : Nat × Nat) (h : x ∈ mv1 d n i) (h0 : x.2 = 0) : x.1 = 0 := by
  unfold mv1 at h
  rw [List.mem_append, List.mem_append] at h
  rcases h with h | h | h
  · split at h
    · simp at h; rw [h]
    · simp at h
  · split at h
    · simp at h; rw [h]
    · simp at h
  · split at h
    · have := parts_lt h; omega
    · simp at h
theorem mvs_zero (n : Nat) : ∀ (ds : List Nat) (i : Nat) (x : Nat × Nat), x ∈ mvs n i ds → x.2 = 0 → x.1 = 0 := by
  intro ds
  induction ds with
  | nil => intro i x h; simp [mvs] at h
  | cons d ds ih =>
    intro i x h
    rw [mvs, List.mem_append] at h
    rcases h with h | h
    · exact mv1_zero d n i x h
    · exact ih _ x h
theorem xor_row (V : List Nat) (x : Nat × Nat) (hV : V.getD 0 0 = 0) (h : x.2 = 0 → x.1 = 0) : xorl V (rowOf x) = xorl V [x.1, x.2] := by
  unfold rowOf
  split
  · rename_i h2
    rw [h h2, h2, xorl_two, hV]; rfl
  · split
    · rename_i h2 h1
      rw [h1, xorl_two, hV, Nat.zero_xor]
      simp [xorl]
    · rfl
theorem row_len (x : Nat × Nat) : (rowOf x).length ≤ 2 := by
  unfold rowOf
  split
  · simp
  · split <;> simp

/-- The rows as they lie. -/
def RowsAt (w : World) (p : Option Addr) (F : List (List Nat)) : Prop := ∀ i, i < F.length → ∃ g pr c, p = some ⟨g, 0, none⟩ ∧ w.cell? ⟨g, i, none⟩ = some (.slice pr (F.getD i []).length c) ∧ NS w pr (F.getD i [])
theorem AR.slice {w : World} {base : Nat} {v : Value} {F : List (List Nat)} (h : AR w base v F) : ∃ p c, v = .slice p F.length c ∧ RowsAt w p F ∧ ∀ g, p = some ⟨g, 0, none⟩ → base ≤ g := by
  obtain ⟨R, ho, hr⟩ := h
  have hlen : R.length = F.length := by have := ho.1; simpa using this
  rcases ho.2 with ⟨h1, h2⟩ | ⟨g, cap, cur, h1, hbg, hg, _, _, _, ht⟩
  · exact ⟨none, 0, by rw [h1, h2], fun i hi => by omega, fun g e => by cases e⟩
  · refine ⟨_, _, h1, fun i hi => ?_, fun g' e => by cases e; exact hbg⟩
    obtain ⟨pr, c, e1, e2, _⟩ := hr i hi
    refine ⟨g, pr, c, rfl, ?_, e2⟩
    rw [← ht, List.getElem?_take] at e1
    split at e1
    · have : cur[i]? = some (.slice pr (F.getD i []).length c) := by rw [← e1]; simp
      simp [World.cell?, hg, this]
    · cases e1
theorem RowsAt.row {w : World} {p : Option Addr} {F : List (List Nat)} (h : RowsAt w p F) {i : Nat} (hi : i < F.length) {L : List Nat} (hL : F.getD i [] = L) : ∃ g pr c, p = some ⟨g, 0, none⟩ ∧ w.cell? ⟨g, i, none⟩ = some (.slice pr L.length c) ∧ NS w pr L := by
  rw [← hL]; exact h i hi
/-- A block of Booleans that is written leaves the rows. -/
theorem RowsAt.other {w w' : World} {p : Option Addr} {F : List (List Nat)} {b : Nat} (h : RowsAt w p F) (hk : ∀ k, k ≠ b → w'.heap[k]? = w.heap[k]?) (ho : ∀ g, p = some ⟨g, 0, none⟩ → g ≠ b) (hl : ∀ i, (F.getD i []).length ≤ 2) (hb : ∀ i, i < 2 → ∃ x, w.cell? ⟨b, i, none⟩ = some (.bool x)) : RowsAt w' p F := by
  intro i hi
  obtain ⟨g, pr, c, e1, e2, e3⟩ := h i hi
  refine ⟨g, pr, c, e1, (World.cell?_of_block (w := w) (hk g (ho g e1))).trans e2, fun j hj => ?_⟩
  obtain ⟨g2, f1, f2⟩ := e3 j hj
  have hg2 : g2 ≠ b := fun e => by
    subst e
    obtain ⟨x, hx⟩ := hb j (by have := hl i; omega)
    rw [hx] at f2; cases f2
  exact ⟨g2, f1, (World.cell?_of_block (w := w) (hk g2 hg2)).trans f2⟩
theorem opts_at (ds : List Nat) (n i : Nat) (hi : i < (mvs n 0 ds).length) (n1 : 1 ≤ n) : xorl (vals ds n) (((mvs n 0 ds).map rowOf).getD i []) = (opts ds (vals ds n)).getD i 0 ∧ (opts ds (vals ds n)).length = (mvs n 0 ds).length ∧ (opts ds (vals ds n)).getD i 0 ≤ n ∧ (((mvs n 0 ds).map rowOf).getD i []).length ≤ 2 ∧ ∀ x ∈ ((mvs n 0 ds).map rowOf).getD i [], x < n := by
  have h1 : ((mvs n 0 ds).map rowOf).getD i [] = rowOf (mvs n 0 ds)[i] := by
    rw [List.getD_eq_getElem?_getD, List.getElem?_map, List.getElem?_eq_getElem hi]; rfl
  have h2 : (opts ds (vals ds n)).getD i 0 = xorl (vals ds n) [(mvs n 0 ds)[i].1, (mvs n 0 ds)[i].2] := by
    unfold opts
    rw [vals_len, List.getD_eq_getElem?_getD, List.getElem?_map, List.getElem?_eq_getElem hi]; rfl
  have hm := List.getElem_mem hi
  have hlt := mvs_lt n ds 0 _ hm
  rw [h1, h2]
  refine ⟨xor_row _ _ (by have := vals_le ds n 0; omega) (mvs_zero n ds 0 _ hm), by unfold opts; rw [List.length_map, vals_len], ?_, row_len _, fun x hx => ?_⟩
  · rw [xorl_two]
    have a := xor_le ((vals ds n).getD (mvs n 0 ds)[i].1 0) ((vals ds n).getD (mvs n 0 ds)[i].2 0)
    have b := vals_le ds n (mvs n 0 ds)[i].1
    have c := vals_le ds n (mvs n 0 ds)[i].2
    omega
  · unfold rowOf at hx
    split at hx
    · simp at hx
    · split at hx
      · simp at hx; omega
      · simp at hx; omega
theorem NS.other {w w' : World} {p : Option Addr} {L : List Nat} {b : Nat} (h : NS w p L) (hk : ∀ k, k ≠ b → w'.heap[k]? = w.heap[k]?) (hb : ∀ i v, w.cell? ⟨b, i, none⟩ = some v → ∃ x, v = .bool x) : NS w' p L := by
  intro j hj
  obtain ⟨g2, f1, f2⟩ := h j hj
  have hg2 : g2 ≠ b := fun e => by
    subst e
    obtain ⟨x, hx⟩ := hb _ _ f2
    cases hx
  exact ⟨g2, f1, (World.cell?_of_block (w := w) (hk g2 hg2)).trans f2⟩
end Go.Proofs.Ytodnfchkkgoabaa
