/- slices.SortFunc with slices.Compare, over rows of integers. -/
import Derived.Test.YtodnfchkkgoabaaHCp
import Derived.Test.YtodnfchkkgoabaaHShelfBShelfShelfC
set_option linter.unusedVariables false
namespace Go.Proofs.Ytodnfchkkgoabaa
open Go.Shelf Go.RowKit Go.Lib Go.Sort

theorem cI_cases (x y : Int) : (x < y ∧ Lib.compareInt x y = -1) ∨ (x = y ∧ Lib.compareInt x y = 0) ∨ (y < x ∧ Lib.compareInt x y = 1) := by
  unfold Lib.compareInt
  by_cases h1 : x < y
  · simp [h1]
  · by_cases h2 : y < x
    · simp [h1, h2]
    · have : x = y := by omega
      simp [h1, h2, this]

/-- By the first difference: three ways. -/
theorem cmpL_three : ∀ A B : List Int, cmpL A B = -1 ∨ (A = B ∧ cmpL A B = 0) ∨ cmpL A B = 1 := by
  intro A
  induction A with
  | nil => intro B; cases B with
    | nil => exact .inr (.inl ⟨rfl, rfl⟩)
    | cons b B => exact .inl rfl
  | cons a A ih =>
    intro B
    cases B with
    | nil => exact .inr (.inr rfl)
    | cons b B =>
      rw [cmpL_cons]
      rcases cI_cases a b with ⟨_, h⟩ | ⟨h0, h⟩ | ⟨_, h⟩
      · rw [h]; simp
      · rw [h, if_pos rfl]
        rcases ih B with h2 | ⟨h2, h3⟩ | h2
        · exact .inl h2
        · exact .inr (.inl ⟨by rw [h0, h2], h3⟩)
        · exact .inr (.inr h2)
      · rw [h]; simp
theorem cmpL_self (A : List Int) : cmpL A A = 0 := by
  induction A with
  | nil => rfl
  | cons a A ih =>
    rw [cmpL_cons]
    rcases cI_cases a a with ⟨h, _⟩ | ⟨_, h⟩ | ⟨h, _⟩
    · omega
    · rw [if_pos h]; exact ih
    · omega
theorem cmpL_neg : ∀ A B : List Int, cmpL B A = - cmpL A B := by
  intro A
  induction A with
  | nil => intro B; cases B <;> rfl
  | cons a A ih =>
    intro B
    cases B with
    | nil => rfl
    | cons b B =>
      rw [cmpL_cons, cmpL_cons]
      rcases cI_cases a b with ⟨h1, h⟩ | ⟨h1, h⟩ | ⟨h1, h⟩ <;> rcases cI_cases b a with ⟨h2, h'⟩ | ⟨h2, h'⟩ | ⟨h2, h'⟩ <;> first | omega | (rw [h, h', if_pos rfl, if_pos rfl]; exact ih B) | (rw [h, h']; simp)
theorem cmpL_trans : ∀ A B C : List Int, cmpL A B = -1 → cmpL B C = -1 → cmpL A C = -1 := by
  intro A
  induction A with
  | nil =>
    intro B C h1 h2
    cases C with
    | nil => cases B <;> cases h2
    | cons c C => rfl
  | cons a A ih =>
    intro B C h1 h2
    cases B with
    | nil => cases h1
    | cons b B =>
      cases C with
      | nil => cases h2
      | cons c C =>
        rw [cmpL_cons] at h1 h2 ⊢
        rcases cI_cases a b with ⟨k1, e1⟩ | ⟨k1, e1⟩ | ⟨k1, e1⟩ <;> rcases cI_cases b c with ⟨k2, e2⟩ | ⟨k2, e2⟩ | ⟨k2, e2⟩ <;> rcases cI_cases a c with ⟨k3, e3⟩ | ⟨k3, e3⟩ | ⟨k3, e3⟩ <;> first | omega | (rw [e1] at h1; rw [e2] at h2; rw [e3]; first | (rw [if_pos rfl] at h1 h2 ⊢; exact ih B C h1 h2) | (simp at h1; done) | (simp at h2; done) | simp)

theorem lt_swo (f : Nat → List Int) (m : Nat) : SWO (ltOf fun x y : Fin (m + 1) => cmpL (f x) (f y)) where
  irrefl x := by
    show decide (cmpL (f x) (f x) < 0) = false
    rw [cmpL_self]; rfl
  trans x y z h1 h2 := by
    unfold ltOf at *
    simp only [decide_eq_true_eq] at *
    have a1 := cmpL_three (f x) (f y)
    have a2 := cmpL_three (f y) (f z)
    have := cmpL_trans (f x) (f y) (f z) (by omega) (by omega)
    omega
  ntrans x y z h1 h2 := by
    unfold ltOf at *
    simp only [decide_eq_false_iff_not] at *
    intro h3
    have a3 := cmpL_three (f x) (f z)
    have n1 := cmpL_neg (f x) (f y)
    have n2 := cmpL_neg (f y) (f z)
    rcases cmpL_three (f x) (f y) with a1 | ⟨e1, a1⟩ | a1
    · omega
    · rw [e1] at h3; omega
    · rcases cmpL_three (f y) (f z) with a2 | ⟨e2, a2⟩ | a2
      · omega
      · rw [← e2] at h3; omega
      · have := cmpL_trans (f z) (f y) (f x) (by omega) (by omega)
        have n3 := cmpL_neg (f x) (f z)
        omega

theorem Blk.putRow {α : Type} [Inhabited α] {enc : α → Value} {w : World} {g n : Nat} {f : Nat → Value} {d : Array α} (h : Blk w g n f) (hd : d.size = n) : Blk (Sort.putRow enc w g 0 d) g n (fun i => enc d[i]!) := by
  obtain ⟨cur, t, h1, h2, h3⟩ := h
  refine ⟨putCells enc 0 d cur, t, ?_, by simp [putCells]; omega, fun i hi => ?_⟩
  · unfold Sort.putRow mapBlock
    simp [Array.getElem?_modify, h1, onCells]
  · have hi2 : i < cur.size := by omega
    simp [putCells, hi2, hd, hi]

/-- The world but for one block, and new ones. -/
structure Ag (W w : World) (blk : Nat) : Prop where
  os : w.os = W.os
  tape : w.tape = W.tape
  output : w.output = W.output
  size : W.heap.size ≤ w.heap.size
  block : ∀ k, k ≠ blk → k < W.heap.size → w.heap[k]? = W.heap[k]?

set_option maxRecDepth 100000 in
set_option maxHeartbeats 1000000 in
theorem Sort_any (F : List (List Int)) (V : Nat → Value) (blk n cap : Nat) (W : World) (hR : RowsV W blk n F V) (hB : Blk W blk n V) (h1 : 1 ≤ n) (hn : n ≤ 100000) :
    Calls Try.prog 66 #[.slice (some ⟨blk, 0, none⟩) n cap, .func (.func 67) #[] #[]] W fun e w' => e = .returned (.tuple #[]) ∧
      ∃ σ : List Nat, σ.length = n ∧ σ.Perm (List.range n) ∧ (∀ i j, i < j → j < n → ¬ cmpL (F.getD (σ.getD j 0) []) (F.getD (σ.getD i 0) []) < 0) ∧ Blk w' blk n (fun i => V (σ.getD i 0)) ∧ Ag W w' blk := by
  obtain ⟨m, rfl⟩ : ∃ m, n = m + 1 := ⟨n - 1, by omega⟩
  have eg : ∀ args w, (callFunc 67 args).run Try.prog w = .ok (.enter 67 args) w := enters_of Try.func67 (by kernel_rfl) rfl
  obtain ⟨d, hd⟩ : ∃ d : Array (Fin (m + 1)), d = Array.ofFn fun i : Fin (m + 1) => i := ⟨_, rfl⟩
  have hds : d.size = m + 1 := by rw [hd]; simp
  have hdj : ∀ j (hj : j < m + 1), d[j]! = ⟨j, hj⟩ := fun j hj => by
    rw [getElem!_pos d j (by omega)]
    simp [hd]
  have hH : Holds (fun i : Fin (m + 1) => V i) W blk 0 d := fun j hj => by
    rw [hds] at hj
    rw [Nat.zero_add, hdj j hj]
    exact ⟨hB.cell hj, hB.frozen j⟩
  have h1c : OneCell (fun i : Fin (m + 1) => V i) := fun i => by
    obtain ⟨g, c, e, _⟩ := hR i i.isLt
    show (V i).oneCell' = true
    rw [e]; rfl
  have hcr : CmpReads Try.prog 67 #[] (fun i : Fin (m + 1) => V i) (fun x y => cmpL (F.getD x []) (F.getD y [])) blk 0 d.size W := fun k os dk hk x y => by
    obtain ⟨g1, c1, e1, l1, n1, r1⟩ := hR x x.isLt
    obtain ⟨g2, c2, e2, l2, n2, r2⟩ := hR y y.isLt
    have hc : ∀ (g i : Nat) (v : Value), g ≠ blk → W.cell? ⟨g, i, none⟩ = some v → (sortWorld (fun i : Fin (m + 1) => V i) W blk 0 k dk os).cell? ⟨g, i, none⟩ = some v := fun g i v hg hv => by
      unfold sortWorld
      rw [cell?_grow _ _ _ (by show g < (Sort.putRow _ _ _ _ _).heap.size; rw [size_putRow]; exact cell_lt2 hv), cell?_putRow_other _ _ blk 0 _ _ (Or.inl hg)]
      exact hv
    show Calls Try.prog 67 #[V x, V y] _ _
    rw [e1, e2]
    refine (Compare_any (F.getD x []) (F.getD y []) _ _ c1 c2 _ (fun i hi => ⟨g1, rfl, hc _ _ _ n1 (r1 i hi)⟩) (fun i hi => ⟨g2, rfl, hc _ _ _ n2 (r2 i hi)⟩) l1 l2).mono ?_
    rintro e w' ⟨rfl, rfl⟩
    exact ⟨rfl, 0, rfl⟩
  have h := Any.slices_SortFunc Try.laySort (fun i : Fin (m + 1) => V i) h1c (fun x y => cmpL (F.getD x []) (F.getD y [])) (lt_swo (fun i => F.getD i []) m) 67 #[] blk 0 cap d W eg hcr.lays hH hB.lt (by omega)
  change Calls Try.prog 66 _ _ _ at h
  rw [hds] at h
  refine h.mono ?_
  rintro e w' ⟨rfl, d', k, os, hp, hs, rfl⟩
  obtain ⟨p1, _, p3⟩ := hp
  rw [hds] at p1
  have hdx : d'.toList.Perm d.toList := by
    have a1 : d'.extract 0 (m + 1) = d' := by
      have := Array.extract_size (xs := d')
      simp only [p1] at this
      exact this
    have a2 : d.extract 0 (m + 1) = d := by
      have := Array.extract_size (xs := d)
      simp only [hds] at this
      exact this
    rw [a1, a2] at p3
    exact p3
  have hsg : ∀ i (hi : i < m + 1), (d'.toList.map Fin.val).getD i 0 = (d'[i]!).val := fun i hi => by
    rw [getElem!_pos d' i (by omega), List.getD_eq_getElem?_getD, List.getElem?_map, List.getElem?_eq_getElem (by simpa using (by omega : i < d'.size))]
    simp
  refine ⟨rfl, d'.toList.map Fin.val, by simp [p1], ?_, fun i j hij hj => ?_, ?_, ?_⟩
  · have a3 : d.toList.map Fin.val = List.range (m + 1) := by
      apply List.ext_getElem
      · simp [hds]
      · intro i h1 h2
        have hi : i < m + 1 := by simpa using h2
        have := hdj i hi
        rw [getElem!_pos d i (by omega)] at this
        simp [this]
    rw [← a3]
    exact hdx.map _
  · have := hs i j (by omega) hij hj
    unfold ltOf at this
    rw [hsg j hj, hsg i (by omega)]
    simpa using this
  · have hb2 : Blk (Sort.putRow (fun i : Fin (m + 1) => V i) (Sort.ahead W k) blk 0 d') blk (m + 1) (fun i => (fun i : Fin (m + 1) => V i) d'[i]!) := Blk.putRow (show Blk (Sort.ahead W k) blk (m + 1) V from hB) p1
    unfold sortWorld
    exact (hb2.keep (heap_grow_old _ _ hb2.lt)).congr (fun i hi => by rw [hsg i hi])
  · unfold sortWorld
    refine ⟨rfl, rfl, rfl, ?_, fun b hb hb' => ?_⟩
    · show W.heap.size ≤ ((Sort.putRow _ (Sort.ahead W k) blk 0 d').heap ++ os).size
      rw [Array.size_append, size_putRow]
      show W.heap.size ≤ W.heap.size + os.size
      omega
    · rw [heap_grow_old _ _ (by rw [size_putRow]; exact hb')]
      exact putRow_block _ _ _ _ _ _ hb
end Go.Proofs.Ytodnfchkkgoabaa
