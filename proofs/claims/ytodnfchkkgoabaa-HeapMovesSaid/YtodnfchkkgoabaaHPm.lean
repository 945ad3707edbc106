/- Plain: the positions of the reference's Moves; rows that a slice holds. -/
import Derived.Test.YtodnfchkkgoabaaHPlPi
import Derived.Test.YtodnfchkkgoabaaHGs
import Derived.Test.YtodnfchkkgoabaaHGk
set_option linter.unusedVariables false
namespace Go.Proofs.Ytodnfchkkgoabaa
open Go.RowKit

/-- The heaps before number j but the i-th. -/
def oth (H : List Nat) (i j : Nat) : List Int := ((List.range j).filter fun k => !decide (k = i)).map fun k => ((H.getD k 0 : Nat) : Int)
theorem oth_succ (H : List Nat) (i j : Nat) : oth H i (j + 1) = oth H i j ++ (if j = i then [] else [((H.getD j 0 : Nat) : Int)]) := by
  unfold oth
  rw [List.range_succ, List.filter_append, List.map_append]
  by_cases h : j = i <;> simp [h]
theorem oth_len (H : List Nat) (i j : Nat) : (oth H i j).length ≤ j := by
  unfold oth
  rw [List.length_map]
  exact Nat.le_trans (List.length_filter_le _ _) (by simp)
/-- The position to which a move of the i-th heap leads. -/
def posOf (H : List Nat) (i : Nat) (R : List Nat) : List Int := ord (oth H i H.length ++ ints R)
/-- The value of a position. -/
def gx (ds : List Nat) (L : List Int) : Nat := L.foldl (fun s h => s ^^^ gv ds h.toNat) 0
theorem gx_snoc (ds : List Nat) (L : List Int) (x : Int) : gx ds (L ++ [x]) = gx ds L ^^^ gv ds x.toNat := by unfold gx; rw [List.foldl_append]; rfl
/-- All positions of the i-th heap's moves. -/
def cand (ds H : List Nat) (i : Nat) : List (List Int) := ((mvs (H.getD i 0) 0 ds).map rowOf).map (posOf H i)
/-- Those of them with value 0. -/
def wins0 (ds : List Nat) (C : List (List Int)) : List (List Int) := C.filter fun p => decide (gx ds p = 0)
theorem wins0_snoc (ds : List Nat) (C : List (List Int)) (p : List Int) : wins0 ds (C ++ [p]) = wins0 ds C ++ (if gx ds p = 0 then [p] else []) := by
  unfold wins0; rw [List.filter_append]
  by_cases h : gx ds p = 0 <;> simp [h]
def mvl (ds H : List Nat) (i : Nat) : List (List Int) := (List.range i).flatMap fun j => wins0 ds (cand ds H j)
theorem mvl_succ (ds H : List Nat) (i : Nat) : mvl ds H (i + 1) = mvl ds H i ++ wins0 ds (cand ds H i) := by
  unfold mvl; rw [List.range_succ, List.flatMap_append]; simp

theorem place_at (p : List Int) : ∀ (O : List (List Int)) (a : Nat), a ≤ O.length → (∀ j, j < a → ltL (O.getD j []) p) → (a < O.length → ¬ ltL (O.getD a []) p) → place O p = if a = O.length ∨ ltL p (O.getD a []) then O.take a ++ p :: O.drop a else O := by
  intro O
  induction O with
  | nil => intro a h _ _; simp at h; subst h; simp [place]
  | cons b O ih =>
    intro a h h1 h2
    rw [place_cons]
    cases a with
    | zero =>
      have h3 : ¬ ltL b p := by simpa using h2 (by simp)
      simp [h3]
    | succ a =>
      have h3 : ltL b p := by simpa using h1 0 (by omega)
      rw [if_pos h3, ih a (by simpa using h) (fun j hj => by simpa using h1 (j + 1) (by omega)) (fun hl => by simpa using h2 (by simpa using hl))]
      simp only [List.length_cons, List.getD_cons_succ, List.take_succ_cons, List.drop_succ_cons, List.cons_append]
      by_cases e : a = O.length ∨ ltL p (O.getD a [])
      · rw [if_pos e, if_pos (e.imp (fun h => by omega) id)]
      · rw [if_neg e, if_neg (fun h9 => e (h9.imp (fun h => by omega) id))]

theorem place_len (O : List (List Int)) (p : List Int) : (place O p).length ≤ O.length + 1 := by
  induction O with
  | nil => simp [place]
  | cons a O ih =>
    rw [place_cons]
    split
    · simp; omega
    · split <;> simp

theorem fold_len (T : List Int) : (T.foldl ins []).length ≤ T.length := by rw [ins_ord]; exact ord_len T
theorem fold_snoc (T : List Int) (x : Int) : (T ++ [x]).foldl ins [] = ins (T.foldl ins []) x := by rw [List.foldl_append]; rfl

theorem NI.lower {W X : World} {p : Option Addr} {L : List Int} (h : NI W p L) (hb : Below W.heap.size W X) : NI X p L := by
  intro i hi
  obtain ⟨g, e, hc⟩ := h i hi
  exact ⟨g, e, cellOf2 hb hc (cell_lt2 hc)⟩

/-- A slice that holds these rows; it and they may lie anywhere. -/
def Out (w : World) (v : Value) (F : List (List Int)) : Prop := (v = .slice none 0 0 ∧ F = []) ∨ ∃ g c, ∃ Rv : List Value, v = .slice (some ⟨g, 0, none⟩) F.length c ∧ 1 ≤ F.length ∧ F.length ≤ c ∧ c ≤ 9223372036854775807 ∧ g < w.heap.size ∧ Rv.length = F.length ∧ (∀ j u, Rv[j]? = some u → w.cell? ⟨g, j, none⟩ = some u) ∧ ∀ i, i < F.length → ∃ p d, Rv[i]? = some (.slice p (F.getD i []).length d) ∧ NI w p (F.getD i [])
theorem Out.under {W X : World} {v : Value} {F : List (List Int)} (h : Out W v F) (hb : Below W.heap.size W X) : Out X v F := by
  rcases h with h | ⟨g, c, Rv, h1, h0, h2, h3, h4, h5, h6, h7⟩
  · exact .inl h
  · refine .inr ⟨g, c, Rv, h1, h0, h2, h3, Nat.lt_of_lt_of_le h4 hb.size, h5, fun j u hu => cellOf2 hb (h6 j u hu) h4, fun i hi => ?_⟩
    obtain ⟨p, d, e1, e2⟩ := h7 i hi
    exact ⟨p, d, e1, e2.lower hb⟩
theorem out_of_own {w : World} {base n : Nat} {v : Value} {Rv : List Value} {F : List (List Int)} (h : w.ownsRow base 22 1 v n Rv) (hn : n = F.length) (h1 : 1 ≤ F.length) (hr : ∀ i, i < F.length → ∃ p d, Rv[i]? = some (.slice p (F.getD i []).length d) ∧ NI w p (F.getD i [])) : Out w v F := by
  subst hn
  rcases h.2 with ⟨_, h2⟩ | ⟨g, cap, cur, e1, _, hg, h4, h5, _, ht⟩
  · have := h.1; rw [h2] at this; simp at this; omega
  · refine .inr ⟨g, cap, Rv, e1, h1, h4, by unfold maxLen at h5; omega, by rw [Array.getElem?_eq_some_iff] at hg; exact hg.1, by have := h.1; omega, fun j u hu => ?_, hr⟩
    have hj : j < F.length := by
      have := (List.getElem?_eq_some_iff.1 hu).1
      have h9 := h.1; omega
    have hj2 : cur.toList[j]? = some u := by
      rw [← ht, List.getElem?_take] at hu
      split at hu
      · exact hu
      · cases hu
    have hj3 : cur[j]? = some u := by rw [← hj2]; simp
    simp [World.cell?, hg, hj3]
end Go.Proofs.Ytodnfchkkgoabaa
