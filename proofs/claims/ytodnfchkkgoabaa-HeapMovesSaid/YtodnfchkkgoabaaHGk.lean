/- What the law on graphs asks of a round. -/
import Derived.Test.YtodnfchkkgoabaaHGg
import Derived.Test.YtodnfchkkgoabaaHArAz
import Derived.Test.YtodnfchkkgoabaaHMi
import Derived.Test.YtodnfchkkgoabaaHLy
set_option linter.unusedVariables false
namespace Go.Proofs.Ytodnfchkkgoabaa
open Go.RowKit

/-- A good graph is one of natural numbers. -/
theorem chkRow_nat (n : Int) : ∀ (r : List Int) (last : Int), -1 ≤ last → chkRow n last r = true → ∃ R : List Nat, ints R = r := by
  intro r
  induction r with
  | nil => intro last _ _; exact ⟨[], rfl⟩
  | cons a r ih =>
    intro last hl h
    unfold chkRow at h
    simp only [Bool.and_eq_true, decide_eq_true_eq] at h
    obtain ⟨R, hR⟩ := ih a (by omega) h.2
    refine ⟨a.toNat :: R, ?_⟩
    unfold ints at *
    rw [List.map_cons, hR]
    congr 1
    omega
theorem rows_nat (n : Int) : ∀ F : List (List Int), (∀ r ∈ F, chkRow n (-1) r = true) → ∃ G : List (List Nat), intG G = F := by
  intro F
  induction F with
  | nil => intro _; exact ⟨[], rfl⟩
  | cons r F ih =>
    intro h
    obtain ⟨R, hR⟩ := chkRow_nat n r (-1) (Int.le_refl _) (h r (by simp))
    obtain ⟨G, hG⟩ := ih (fun x hx => h x (by simp [hx]))
    exact ⟨R :: G, by unfold intG at *; rw [List.map_cons, hR, hG]⟩
theorem chk_intG {F : List (List Int)} (h : chk F = true) : ∃ G : List (List Nat), intG G = F := by
  unfold chk at h
  simp only [Bool.and_eq_true, List.all_eq_true] at h
  exact rows_nat _ F h.2
theorem intG_len (G : List (List Nat)) : (intG G).length = G.length := by simp [intG]
theorem ints_len (R : List Nat) : (ints R).length = R.length := by simp [ints]
theorem GI.gn {w : World} {p : Option Addr} {G : List (List Nat)} (h : GI w p (intG G)) : GN w p G := by
  intro v hv
  obtain ⟨g, pv, cv, e, hc, hn⟩ := h v (by rw [intG_len]; exact hv)
  rw [intG_row, ints_len] at hc
  rw [intG_row] at hn
  refine ⟨g, pv, cv, e, hc, fun i hi => ?_⟩
  obtain ⟨g', e', hc'⟩ := hn i (by rw [ints_len]; exact hi)
  rw [ints_getD] at hc'
  exact ⟨g', e', hc'⟩
theorem GI.under {W X : World} {p : Option Addr} {G : List (List Int)} (h : GI W p G) (hb : Below W.heap.size W X) : GI X p G := by
  intro v hv
  obtain ⟨g, pv, cv, e, hc, hni⟩ := h v hv
  exact ⟨g, pv, cv, e, cellOf2 hb hc (cell_lt2 hc), fun i hi => by
    obtain ⟨g', e', hc'⟩ := hni i hi
    exact ⟨g', e', cellOf2 hb hc' (cell_lt2 hc')⟩⟩
theorem ARZ.gi {w : World} {base : Nat} {v : Value} {F : List (List Int)} (h : ARZ w base v F) : ∃ q c, v = .slice q F.length c ∧ GI w q F := by
  obtain ⟨R, ho, hr⟩ := h
  have ho' := ho
  have hl : R.length = F.length := by have := ho.1; simpa using this
  rcases ho.2 with ⟨h1, h2⟩ | ⟨g, cap, cur, h1, _⟩
  · exact ⟨none, 0, by rw [h1, h2], fun i hi => by omega⟩
  · subst h1
    have hb := Blk.of_own (d := .slice none 0 0) ho'
    refine ⟨_, _, rfl, fun i hi => ?_⟩
    obtain ⟨q, d, e1, e2, _⟩ := hr i hi
    refine ⟨g, q, d, rfl, ?_, e2⟩
    rw [hb.cell hi, List.getD_eq_getElem?_getD, e1]; rfl

/-- Rows of numbers that the vertices have. -/
theorem ns_blk {w : World} {g n : Nat} {F : Nat → Nat} (h : Blk w g n (fun v => .int .i64 (F v : Nat))) : NS w (some ⟨g, 0, none⟩) ((List.range n).map F) := by
  intro i hi
  have hi : i < n := by simpa using hi
  refine ⟨g, rfl, ?_⟩
  rw [h.cell hi, List.getD_eq_getElem?_getD, List.getElem?_map, List.getElem?_range hi]; rfl

/-- What Best gives. -/
def BSpec (G : List (List Nat)) (v a b : Int) : Prop := (¬ (0 ≤ v ∧ v < G.length) ∧ a = 0 ∧ b = 1) ∨ (∃ u : Nat, v = u ∧ u < G.length ∧ ((G.getD u [] = [] ∧ a = 0 ∧ b = 4) ∨ (∃ w : Nat, G.getD u [] ≠ [] ∧ BestOf G u w ∧ a = w ∧ b = 0)))
theorem Best_any (G : List (List Nat)) (p : Option Addr) (c : Nat) (v : Int) (W : World) (hG : GN W p G) (hc : chk (intG G) = true) :
    Calls Try.prog 38 #[.slice p G.length c, .int .i64 v] W fun e w' => ∃ a b : Int, e = .returned (.tuple #[.int .i64 a, .int .i64 b]) ∧ BSpec G v a b ∧ Below W.heap.size W w' := by
  by_cases hv : 0 ≤ v ∧ v < G.length
  · obtain ⟨u, rfl⟩ : ∃ u : Nat, v = u := ⟨v.toNat, by omega⟩
    have hu : u < G.length := by omega
    by_cases hne : G.getD u [] = []
    · refine (Best_stop G p c u W hG hc hu hne).mono ?_
      rintro e w' ⟨rfl, hb⟩
      exact ⟨0, 4, rfl, .inr ⟨u, rfl, hu, .inl ⟨hne, rfl, rfl⟩⟩, hb⟩
    · refine (Best_in G p c u W hG hc hu hne).mono ?_
      rintro e w' ⟨w, rfl, hw, hb⟩
      exact ⟨w, 0, rfl, .inr ⟨u, rfl, hu, .inr ⟨w, hne, hw, rfl, rfl⟩⟩, hb⟩
  · refine (Best_out G p c v W hG hc hv).mono ?_
    rintro e w' ⟨rfl, hb⟩
    exact ⟨0, 1, rfl, .inl ⟨hv, rfl, rfl⟩, hb⟩
end Go.Proofs.Ytodnfchkkgoabaa
