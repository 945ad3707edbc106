/- A slice of the call's own that holds rows. -/
import Derived.Test.YtodnfchkkgoabaaHOwRvMp
import Derived.Test.YtodnfchkkgoabaaHGr
import Derived.Deep.AppendLies
set_option linter.unusedVariables false
namespace Go.Proofs.Ytodnfchkkgoabaa
open Go.RowKit

theorem own_lt {w : World} {base : Nat} {t : TypeId} {v : Value} {n : Nat} {R : List Value} (h : w.ownsRow base t 1 v n R) : ∀ b, v.ownBlock = some b → b < w.heap.size := by
  intro b e
  rcases h.2 with ⟨h1, _⟩ | ⟨g, cap, cur, h1, h2, h3, h4⟩
  · rw [h1] at e; cases e
  · rw [h1] at e; cases e
    exact (Array.getElem?_eq_some_iff.1 h3).1

/-- The slice owns rows that hold these lists. -/
def AR (w : World) (base : Nat) (v : Value) (F : List (List Nat)) : Prop := ∃ R : List Value, w.ownsRow base 22 1 v F.length R ∧
  ∀ i, i < F.length → ∃ p c, R[i]? = some (.slice p (F.getD i []).length c) ∧ NS w p (F.getD i []) ∧ ∀ g, p = some ⟨g, 0, none⟩ → g < w.heap.size ∧ v.ownBlock ≠ some g
theorem AR.nil (w : World) (base : Nat) : AR w base (.slice none 0 0) [] := ⟨[], ⟨rfl, .inl ⟨rfl, rfl⟩⟩, fun i hi => by simp at hi⟩
theorem NS.keepB {w w' : World} {p : Option Addr} {L : List Nat} (h : NS w p L) (hk : ∀ g, p = some ⟨g, 0, none⟩ → w'.heap[g]? = w.heap[g]?) : NS w' p L := by
  intro i hi
  obtain ⟨g, e, hc⟩ := h i hi
  exact ⟨g, e, (World.cell?_of_block (w := w) (hk g e)).trans hc⟩
theorem AR.keep {w w' : World} {base : Nat} {v : Value} {F : List (List Nat)} (h : AR w base v F) (hs : w.heap.size ≤ w'.heap.size) (hk : ∀ b, b < w.heap.size → w'.heap[b]? = w.heap[b]?) : AR w' base v F := by
  obtain ⟨R, ho, hr⟩ := h
  refine ⟨R, ?_, fun i hi => ?_⟩
  · refine ⟨ho.1, ?_⟩
    rcases ho.2 with h1 | ⟨g, cap, cur, h1, h2, h3, h4⟩
    · exact .inl h1
    · exact .inr ⟨g, cap, cur, h1, h2, (hk g (by
        rcases Nat.lt_or_ge g w.heap.size with h | h
        · exact h
        · rw [Array.getElem?_eq_none h] at h3; cases h3)).trans h3, h4⟩
  · obtain ⟨p, c, h1, h2, h3⟩ := hr i hi
    exact ⟨p, c, h1, h2.keepB (fun g e => hk g (h3 g e).1), fun g e => ⟨Nat.lt_of_lt_of_le (h3 g e).1 hs, (h3 g e).2⟩⟩

/-- One row more. -/
theorem AR.push {wr wa w4 : World} {base g cap : Nat} {v : Value} {F : List (List Nat)} {L : List Nat} {p : Option Addr} {c : Nat} {R : List Value}
    (ho : wr.ownsRow base 22 1 v F.length R) (hr : ∀ i, i < F.length → ∃ p c, R[i]? = some (.slice p (F.getD i []).length c) ∧ NS wr p (F.getD i []) ∧ ∀ g, p = some ⟨g, 0, none⟩ → g < wr.heap.size ∧ v.ownBlock ≠ some g)
    (hs : wr.heap.size ≤ wa.heap.size) (hk : ∀ b, b < wr.heap.size → wa.heap[b]? = wr.heap[b]?)
    (hn : NS wa p L) (hp : ∀ b, p = some ⟨b, 0, none⟩ → wr.heap.size ≤ b ∧ b < wa.heap.size)
    (h1 : w4.ownsRow base 22 1 (.slice (some ⟨g, 0, none⟩) (F.length + 1) cap) (F.length + 1) (R ++ [.slice p L.length c])) (h2 : wa.grownBy w4 v.ownBlock) (h3 : v.ownBlock = some g ∨ g = wa.heap.size) (h4 : g < w4.heap.size) :
    AR w4 base (.slice (some ⟨g, 0, none⟩) (F.length + 1) cap) (F ++ [L]) := by
  have hlenR : R.length = F.length := by have := ho.1; simpa using this
  have hown : ∀ b, v.ownBlock = some b → b < wr.heap.size := own_lt ho
  refine ⟨R ++ [.slice p L.length c], by rw [List.length_append]; exact h1, fun i hi => ?_⟩
  rw [List.length_append] at hi
  by_cases hlt : i < F.length
  · obtain ⟨q, d, e1, e2, e3⟩ := hr i hlt
    have hF : (F ++ [L]).getD i [] = F.getD i [] := by
      rw [List.getD_eq_getElem?_getD, List.getElem?_append_left hlt, ← List.getD_eq_getElem?_getD]
    rw [hF]
    refine ⟨q, d, by rw [List.getElem?_append_left (by omega)]; exact e1, e2.keepB (fun b e => ?_), fun b e => ?_⟩
    · have := e3 b e
      rw [h2.block b (by omega) (fun h => this.2 h.symm), hk b this.1]
    · have := e3 b e
      refine ⟨by have := h2.size; omega, ?_⟩
      show some g ≠ some b
      intro h; cases h
      rcases h3 with h3 | h3
      · exact this.2 h3
      · omega
  · obtain rfl : i = F.length := by simp at hi; omega
    have hF : (F ++ [L]).getD F.length [] = L := by
      rw [List.getD_eq_getElem?_getD, List.getElem?_append_right (Nat.le_refl _)]; simp
    rw [hF]
    refine ⟨p, c, by rw [List.getElem?_append_right (by omega), hlenR]; simp, hn.keepB (fun b e => ?_), fun b e => ?_⟩
    · have := hp b e
      exact h2.block b this.2 (fun h => by have := hown b h.symm; omega)
    · have := hp b e
      refine ⟨by have := h2.size; omega, ?_⟩
      show some g ≠ some b
      intro h; cases h
      rcases h3 with h3 | h3
      · have := hown _ h3; omega
      · omega
end Go.Proofs.Ytodnfchkkgoabaa

/- A slice of the call's own that holds rows of integers. -/
set_option linter.unusedVariables false
namespace Go.Proofs.Ytodnfchkkgoabaa
open Go.RowKit

/-- The slice owns rows that hold these lists. -/
def ARZ (w : World) (base : Nat) (v : Value) (F : List (List Int)) : Prop := ∃ R : List Value, w.ownsRow base 22 1 v F.length R ∧
  ∀ i, i < F.length → ∃ p c, R[i]? = some (.slice p (F.getD i []).length c) ∧ NI w p (F.getD i []) ∧ ∀ g, p = some ⟨g, 0, none⟩ → g < w.heap.size ∧ v.ownBlock ≠ some g
theorem ARZ.nil (w : World) (base : Nat) : ARZ w base (.slice none 0 0) [] := ⟨[], ⟨rfl, .inl ⟨rfl, rfl⟩⟩, fun i hi => by simp at hi⟩
theorem NI.keepB {w w' : World} {p : Option Addr} {L : List Int} (h : NI w p L) (hk : ∀ g, p = some ⟨g, 0, none⟩ → w'.heap[g]? = w.heap[g]?) : NI w' p L := by
  intro i hi
  obtain ⟨g, e, hc⟩ := h i hi
  exact ⟨g, e, (World.cell?_of_block (w := w) (hk g e)).trans hc⟩
theorem ARZ.keep {w w' : World} {base : Nat} {v : Value} {F : List (List Int)} (h : ARZ w base v F) (hs : w.heap.size ≤ w'.heap.size) (hk : ∀ b, b < w.heap.size → w'.heap[b]? = w.heap[b]?) : ARZ w' base v F := by
  obtain ⟨R, ho, hr⟩ := h
  refine ⟨R, ?_, fun i hi => ?_⟩
  · refine ⟨ho.1, ?_⟩
    rcases ho.2 with h1 | ⟨g, cap, cur, h1, h2, h3, h4⟩
    · exact .inl h1
    · exact .inr ⟨g, cap, cur, h1, h2, (hk g (by
        rcases Nat.lt_or_ge g w.heap.size with h | h
        · exact h
        · rw [Array.getElem?_eq_none h] at h3; cases h3)).trans h3, h4⟩
  · obtain ⟨p, c, h1, h2, h3⟩ := hr i hi
    exact ⟨p, c, h1, h2.keepB (fun g e => hk g (h3 g e).1), fun g e => ⟨Nat.lt_of_lt_of_le (h3 g e).1 hs, (h3 g e).2⟩⟩

/-- One row more. -/
theorem ARZ.push {wr wa w4 : World} {base g cap : Nat} {v : Value} {F : List (List Int)} {L : List Int} {p : Option Addr} {c : Nat} {R : List Value}
    (ho : wr.ownsRow base 22 1 v F.length R) (hr : ∀ i, i < F.length → ∃ p c, R[i]? = some (.slice p (F.getD i []).length c) ∧ NI wr p (F.getD i []) ∧ ∀ g, p = some ⟨g, 0, none⟩ → g < wr.heap.size ∧ v.ownBlock ≠ some g)
    (hs : wr.heap.size ≤ wa.heap.size) (hk : ∀ b, b < wr.heap.size → wa.heap[b]? = wr.heap[b]?)
    (hn : NI wa p L) (hp : ∀ b, p = some ⟨b, 0, none⟩ → wr.heap.size ≤ b ∧ b < wa.heap.size)
    (h1 : w4.ownsRow base 22 1 (.slice (some ⟨g, 0, none⟩) (F.length + 1) cap) (F.length + 1) (R ++ [.slice p L.length c])) (h2 : wa.grownBy w4 v.ownBlock) (h3 : v.ownBlock = some g ∨ g = wa.heap.size) (h4 : g < w4.heap.size) :
    ARZ w4 base (.slice (some ⟨g, 0, none⟩) (F.length + 1) cap) (F ++ [L]) := by
  have hlenR : R.length = F.length := by have := ho.1; simpa using this
  have hown : ∀ b, v.ownBlock = some b → b < wr.heap.size := own_lt ho
  refine ⟨R ++ [.slice p L.length c], by rw [List.length_append]; exact h1, fun i hi => ?_⟩
  rw [List.length_append] at hi
  by_cases hlt : i < F.length
  · obtain ⟨q, d, e1, e2, e3⟩ := hr i hlt
    have hF : (F ++ [L]).getD i [] = F.getD i [] := by
      rw [List.getD_eq_getElem?_getD, List.getElem?_append_left hlt, ← List.getD_eq_getElem?_getD]
    rw [hF]
    refine ⟨q, d, by rw [List.getElem?_append_left (by omega)]; exact e1, e2.keepB (fun b e => ?_), fun b e => ?_⟩
    · have := e3 b e
      rw [h2.block b (by omega) (fun h => this.2 h.symm), hk b this.1]
    · have := e3 b e
      refine ⟨by have := h2.size; omega, ?_⟩
      show some g ≠ some b
      intro h; cases h
      rcases h3 with h3 | h3
      · exact this.2 h3
      · omega
  · obtain rfl : i = F.length := by simp at hi; omega
    have hF : (F ++ [L]).getD F.length [] = L := by
      rw [List.getD_eq_getElem?_getD, List.getElem?_append_right (Nat.le_refl _)]; simp
    rw [hF]
    refine ⟨p, c, by rw [List.getElem?_append_right (by omega), hlenR]; simp, hn.keepB (fun b e => ?_), fun b e => ?_⟩
    · have := hp b e
      exact h2.block b this.2 (fun h => by have := hown b h.symm; omega)
    · have := hp b e
      refine ⟨by have := h2.size; omega, ?_⟩
      show some g ≠ some b
      intro h; cases h
      rcases h3 with h3 | h3
      · have := hown _ h3; omega
      · omega
end Go.Proofs.Ytodnfchkkgoabaa
