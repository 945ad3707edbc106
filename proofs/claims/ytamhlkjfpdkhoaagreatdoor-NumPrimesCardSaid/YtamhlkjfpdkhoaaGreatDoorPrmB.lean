/- WALK of NumPrimes. -/
import Derived.Test.YtamhlkjfpdkhoaaGreatDoorPrmA
import Derived.Test.YtamhlkjfpdkhoaaGreatDoorRSym
import Derived.Test.YtamhlkjfpdkhoaaGreatDoorRDivs
import Derived.Test.YtamhlkjfpdkhoaaGreatDoorSym
import Derived.Test.YtamhlkjfpdkhoaaGreatDoorFac
import Derived.Test.YtamhlkjfpdkhoaaGreatDoorAwake
import Derived.Deep.DeepCutAuto
import Derived.Outline
namespace Go.Proofs.YtamhlkjfpdkhoaaGreatDoor
open Go.RowKit

/-- Numbers that lie in a row. -/
def Lies (w : World) (v : Value) (l : List Nat) : Prop :=
  ∃ p c, v = .slice p l.length c ∧ ∀ i d, l[i]? = some d → ∃ g, p = some ⟨g, 0, none⟩ ∧ w.cell? ⟨g, i, none⟩ = some (.int .i64 (d : Nat))

theorem Nums.lies {w : World} {B : Nat} {v : Value} {l : List Nat} (h : Nums w B v l) : Lies w v l := by
  rcases h.form with ⟨rfl, rfl⟩ | ⟨g, c, rfl⟩
  · exact ⟨none, 0, rfl, fun i d hi => by simp at hi⟩
  · refine ⟨_, c, rfl, fun i d hi => ⟨g, rfl, ?_⟩⟩
    have h1 := h.cells i (.int .i64 (d : Int)) (by rw [List.getElem?_map, hi]; rfl)
    have ea : ((⟨g, 0, none⟩ : Addr).add i) = ⟨g, i, none⟩ := by unfold Addr.add; split <;> simp_all
    rw [ea] at h1; exact h1

theorem Lies.below {w w' : World} {v : Value} {l : List Nat} (h : Lies w v l) (hb : Below w.heap.size w w') : Lies w' v l := by
  obtain ⟨p, c, h1, h2⟩ := h
  refine ⟨p, c, h1, fun i d hi => ?_⟩
  obtain ⟨g, a, b⟩ := h2 i d hi
  obtain ⟨_, ho, _⟩ := cells_of_cell b
  have hg : g < w.heap.size := (Array.getElem?_eq_some_iff.1 ho).1
  exact ⟨g, a, (hb.cell (p := ⟨g, _, none⟩) hg).trans b⟩

/-- What ours and the reference's answer for a number that is a modulus. -/
theorem prm_says (n : Nat) (hn : 1 ≤ n) (hn2 : n ≤ 1000000000000) : ∃ (L : List (Nat × Nat)) (l : List Nat), L.length < 40 ∧ l.length ≤ 1000000000001 ∧
    (∀ W, Calls Tryz.prog 76 #[.int .i64 n] W fun e W' => ∃ v, e = .returned (.tuple #[v, .int .i64 0]) ∧ Prs W' v L ∧ Below W.heap.size W W') ∧
    (∀ W, Calls Tryz.prog 79 #[.int .i64 n] W fun e W' => ∃ v, e = .returned v ∧ Prs W' v L ∧ Below W.heap.size W W') ∧
    (∀ W, Calls Tryz.prog 77 #[.int .i64 n] W fun e W' => ∃ v, e = .returned (.tuple #[v, .int .i64 0]) ∧ Lies W' v l ∧ Below W.heap.size W W') ∧
    (∀ W, Calls Tryz.prog 80 #[.int .i64 n] W fun e W' => ∃ v, e = .returned v ∧ Lies W' v l ∧ Below W.heap.size W W') := by
  have hfl := fl_spec (n := n) (by omega)
  obtain ⟨hL, hf⟩ := hfl
  have hle : facs (fl n) ≤ 1000000000000 := by rw [hf]; exact hn2
  obtain ⟨l, hl⟩ : ∃ l, l = (List.range (n + 1)).filter fun d => decide (d ∣ n) := ⟨_, rfl⟩
  have l1 : l.Pairwise (· < ·) := by rw [hl]; exact List.pairwise_lt_range.filter _
  have l2 : ∀ x, x ∈ l ↔ x ∣ n := fun x => by
    rw [hl, List.mem_filter, List.mem_range]
    simp only [decide_eq_true_eq]
    exact ⟨fun h => h.2, fun h => ⟨by have := Nat.le_of_dvd (by omega) h; omega, h⟩⟩
  have l3 : l.length ≤ n + 1 := by rw [hl]; exact Nat.le_trans (List.length_filter_le _ _) (by simp)
  refine ⟨fl n, l, rise_short hL hle, by omega, fun W => ?_, fun W => ?_, fun W => ?_, fun W => ?_⟩
  · have h := Factors_any (fl n) W hL hle
    rw [hf] at h
    refine h.mono ?_
    rintro e W' ⟨v, rfl, ho, hb⟩
    exact ⟨v, rfl, prs_of ho, hb⟩
  · refine (RFactors_any n W (by omega) hn2).mono ?_
    rintro e W' ⟨L, v, h1, h2, rfl, ho, hb⟩
    obtain rfl : fl n = L := fl_eq h1 h2
    exact ⟨v, rfl, prs_of ho, hb⟩
  · have h := Divisors_any (fl n) W hL hle
    rw [hf] at h
    refine h.mono ?_
    rintro e W' ⟨g, c, ds, rfl, hp, hs, ho, hb⟩
    have hd := divs_spec hL hp hs
    rw [hf] at hd
    obtain rfl : ds = l := asc_eq hd.1 l1 fun x => (hd.2 x).trans (l2 x).symm
    have hN : Nums W' W.heap.size (.slice (some ⟨g, 0, none⟩) ds.length c) ds := ho
    exact ⟨_, rfl, hN.lies, hb⟩
  · refine (RDivisors_any n W hn hn2).mono ?_
    rintro e W' ⟨ds, v, rfl, h1, h2, hN, _, hb⟩
    obtain rfl : ds = l := asc_eq h1 l1 fun x => (h2 x).trans (l2 x).symm
    exact ⟨_, rfl, hN.lies, hb⟩
end Go.Proofs.YtamhlkjfpdkhoaaGreatDoor
