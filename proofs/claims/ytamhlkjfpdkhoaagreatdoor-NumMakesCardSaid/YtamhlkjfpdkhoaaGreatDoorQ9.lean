import Derived.Test.YtamhlkjfpdkhoaaGreatDoorQ3
import Derived.Test.YtamhlkjfpdkhoaaGreatDoorQ4
import Derived.Laws.CopyOwn
import Derived.RangeFuncOwn
/- Rows of words in memory, to the base 2^64: what is read, and what is written in place. -/
namespace Go.Proofs.YtamhlkjfpdkhoaaGreatDoor
open Go.RowKit

/-- The base of the program's numbers. -/
def B64 : Nat := 18446744073709551616
theorem B64_pos : 0 < B64 := by decide
theorem B64_one : 1 < B64 := by decide

theorem infoWord : (Tryz.prog.info? 102).map (fun i => (i.zero, i.size, i.bytes)) = some (some (.int .u64 0), 1, 8) := by kernel_rfl

abbrev words (l : List Nat) : List Value := l.map fun (d : Nat) => Value.int .u64 (d : Int)

/-- Words that lie in a slice. -/
def Wds (w : World) (v : Value) (l : List Nat) : Prop :=
  ∃ p c, v = .slice p l.length c ∧ l.length ≤ c ∧ c ≤ maxLen ∧ ∀ i d, l[i]? = some d → ∃ g, p = some ⟨g, 0, none⟩ ∧ w.cell? ⟨g, i, none⟩ = some (.int .u64 (d : Nat))

theorem Wds.below {w w' : World} {v : Value} {l : List Nat} (h : Wds w v l) (hb : Below w.heap.size w w') : Wds w' v l := by
  obtain ⟨p, c, h1, h2, h3, h4⟩ := h
  refine ⟨p, c, h1, h2, h3, fun i d hi => ?_⟩
  obtain ⟨g, a, b⟩ := h4 i d hi
  obtain ⟨_, ho, _⟩ := cells_of_cell b
  have hg : g < w.heap.size := (Array.getElem?_eq_some_iff.1 ho).1
  exact ⟨g, a, (hb.cell (p := ⟨g, _, none⟩) hg).trans b⟩

theorem Wds.at_ {w W : World} {p : Option Addr} {n c : Nat} {l : List Nat} (h : Wds w (.slice p n c) l) (hb : Below w.heap.size w W) {i d : Nat} (hi : l[i]? = some d) : ∃ g, p = some ⟨g, 0, none⟩ ∧ W.cell? ⟨g, i, none⟩ = some (.int .u64 (d : Nat)) := by
  obtain ⟨p', c', h1, _, _, h2⟩ := h.below hb
  simp only [Value.slice.injEq] at h1
  obtain ⟨rfl, _, _⟩ := h1
  exact h2 i d hi

theorem Wds.take {w : World} {p : Option Addr} {n c : Nat} {l : List Nat} (h : Wds w (.slice p n c) l) {k c' : Nat} (hk : k ≤ l.length) (hc : k ≤ c') (hc' : c' ≤ maxLen) : Wds w (.slice p k c') (l.take k) := by
  obtain ⟨p', c', h1, h2, h3, h4⟩ := h
  simp only [Value.slice.injEq] at h1
  obtain ⟨rfl, rfl, rfl⟩ := h1
  have hl : (l.take k).length = k := by rw [List.length_take, Nat.min_eq_left hk]
  refine ⟨p, _, by rw [hl], by omega, hc', fun i d hi => h4 i d ?_⟩
  rw [List.getElem?_take] at hi
  split at hi
  · exact hi
  · cases hi

/-- A natural number of the program's, of k words at most. -/
def DN (w : World) (v : Value) (n k : Nat) : Prop := ∃ l, Wds w v l ∧ Norm B64 l ∧ val B64 l = n ∧ l.length ≤ k

theorem DN.below {w w' : World} {v : Value} {n k : Nat} (h : DN w v n k) (hb : Below w.heap.size w w') : DN w' v n k := by
  obtain ⟨l, h1, h2⟩ := h; exact ⟨l, h1.below hb, h2⟩

theorem DN.more {w : World} {v : Value} {n k k' : Nat} (h : DN w v n k) (hk : k ≤ k') : DN w v n k' := by
  obtain ⟨l, h1, h2, h3, h4⟩ := h; exact ⟨l, h1, h2, h3, by omega⟩

theorem DN.nil (w : World) (k : Nat) : DN w (.slice none 0 0) 0 k := ⟨[], ⟨none, 0, rfl, Nat.le_refl _, by simp, fun i d h => by simp at h⟩, Norm.nil _, rfl, Nat.zero_le _⟩

theorem DN.zero {w : World} {n k : Nat} (h : n = 0) : DN w (.slice none 0 0) n k := by subst h; exact DN.nil w k

theorem DN.slice {w : World} {v : Value} {n k : Nat} (h : DN w v n k) : ∃ p m c, v = .slice p m c := by
  obtain ⟨l, ⟨p, c, h1, _⟩, _⟩ := h; exact ⟨p, _, c, h1⟩

theorem DN.fit {w : World} {v : Value} {n k j : Nat} (h : DN w v n k) (hn : n < B64 ^ j) : DN w v n j := by
  obtain ⟨l, h1, h2, h3, _⟩ := h
  exact ⟨l, h1, h2, h3, h2.len_le B64_one (by rw [h3]; exact hn)⟩

theorem DN.lt {w : World} {v : Value} {n k : Nat} (h : DN w v n k) : n < B64 ^ k := by
  obtain ⟨l, _, h2, h3, h4⟩ := h
  have := h2.1.lt
  have h5 : B64 ^ l.length ≤ B64 ^ k := Nat.pow_le_pow_right B64_pos h4
  omega

theorem DN.norm {w : World} {v : Value} {n k : Nat} (h : DN w v n k) : ∃ l p c, v = .slice p l.length c ∧ Wds w (.slice p l.length c) l ∧ Norm B64 l ∧ val B64 l = n ∧ l.length ≤ k ∧ l.length ≤ c ∧ c ≤ maxLen := by
  obtain ⟨l, ⟨p, c, rfl, h1, h2, h3⟩, h4, h5, h6⟩ := h
  exact ⟨l, p, c, rfl, ⟨p, c, rfl, h1, h2, h3⟩, h4, h5, h6, h1, h2⟩

/-- Words that lie in a block and may be written. -/
def Cells (w : World) (g : Nat) (l : List Nat) : Prop := ∀ i d, l[i]? = some d → w.cell? ⟨g, i, none⟩ = some (.int .u64 (d : Nat)) ∧ w.frozen? ⟨g, i, none⟩ = false

/-- Nothing but one block has changed. -/
structure Only (g : Nat) (w w' : World) : Prop where
  os : w'.os = w.os
  tape : w'.tape = w.tape
  output : w'.output = w.output
  size : w'.heap.size = w.heap.size
  block : ∀ k, k ≠ g → w'.heap[k]? = w.heap[k]?

theorem Only.refl (g : Nat) (w : World) : Only g w w := ⟨rfl, rfl, rfl, rfl, fun _ _ => rfl⟩
theorem Only.trans {g : Nat} {a b c : World} (h : Only g a b) (k : Only g b c) : Only g a c :=
  ⟨k.os.trans h.os, k.tape.trans h.tape, k.output.trans h.output, k.size.trans h.size, fun i hi => (k.block i hi).trans (h.block i hi)⟩
theorem Only.drew {g : Nat} {a w : World} (h : Only g a w) : Only g a w.drew := ⟨h.os, h.tape, h.output, h.size, h.block⟩
theorem Only.of_drew {g : Nat} {w w' : World} (h : Drew w w') : Only g w w' := by
  obtain ⟨n, rfl⟩ := h
  induction n with
  | zero => exact Only.refl _ _
  | succ n ih => exact ⟨ih.os, ih.tape, ih.output, ih.size, ih.block⟩
theorem Only.below {g B : Nat} {w w' : World} (h : Only g w w') (hB : B ≤ g) : Below B w w' := ⟨h.os, h.tape, h.output, by rw [h.size]; exact Nat.le_refl _, fun k hk => h.block k (by omega)⟩

theorem size_setCell (w : World) (a : Addr) (u : Value) : (w.setCell a u).heap.size = w.heap.size := by
  simp [World.setCell]

theorem Only.set {g : Nat} {a w : World} (h : Only g a w) (j : Nat) (u : Value) : Only g a (w.setCell ⟨g, j, none⟩ u) :=
  ⟨h.os, h.tape, h.output, by rw [size_setCell]; exact h.size, fun k hk => (Below.heap_setCell _ _ _ _ (by simpa using hk)).trans (h.block k hk)⟩

theorem Only.cell {g b : Nat} {w w' : World} (h : Only g w w') (hb : b ≠ g) (i : Nat) : w'.cell? ⟨b, i, none⟩ = w.cell? ⟨b, i, none⟩ :=
  World.cell?_of_block (w := w) (h.block b hb)

theorem frozen_of_block {w w' : World} {b i : Nat} (h : w'.heap[b]? = w.heap[b]?) : w'.frozen? ⟨b, i, none⟩ = w.frozen? ⟨b, i, none⟩ := by
  unfold World.frozen?; simp only [h]

theorem Cells.set {w : World} {g : Nat} {l : List Nat} (h : Cells w g l) (j x : Nat) : Cells (w.setCell ⟨g, j, none⟩ (.int .u64 (x : Int))) g (l.set j x) := by
  intro i d hi
  rw [World.frozen?_setCell]
  rw [List.getElem?_set] at hi
  split at hi
  · rename_i e
    subst e
    split at hi
    · rename_i hl
      have h0 := h j l[j] (List.getElem?_eq_getElem hl)
      simp only [Option.some.injEq] at hi
      subst hi
      exact ⟨World.cell?_setCell_same' _ _ _ (by rw [h0.1]; rfl), h0.2⟩
    · cases hi
  · rename_i e
    rw [World.cell?_setCell_other _ _ _ _ (by intro h; have h := congrArg Addr.off h; simp only at h; omega)]
    exact h i d hi

theorem Cells.only {w w' : World} {g b : Nat} {l : List Nat} (h : Cells w b l) (ho : Only g w w') (hb : b ≠ g) : Cells w' b l := by
  intro i d hi
  rw [ho.cell hb, frozen_of_block (ho.block b hb)]
  exact h i d hi

theorem Cells.of_drew {w w' : World} {g : Nat} {l : List Nat} (h : Cells w g l) (ho : Drew w w') : Cells w' g l := by
  obtain ⟨n, rfl⟩ := ho
  induction n with
  | zero => exact h
  | succ n ih => exact ih

/-- A slice that doesn't lie in a block. -/
def Apart (g : Nat) (v : Value) : Prop := ∀ p n c, v = .slice (some p) n c → 0 < n → p.block ≠ g

theorem Wds.only {w w' : World} {g : Nat} {v : Value} {l : List Nat} (h : Wds w v l) (ho : Only g w w') (ha : Apart g v) : Wds w' v l := by
  obtain ⟨p, c, rfl, h2, h3, h4⟩ := h
  refine ⟨p, c, rfl, h2, h3, fun i d hi => ?_⟩
  obtain ⟨b, rfl, e⟩ := h4 i d hi
  exact ⟨b, rfl, (ho.cell (ha _ _ _ rfl (by have := (List.getElem?_eq_some_iff.1 hi).1; omega)) i).trans e⟩

theorem Wds.apart {w : World} {v : Value} {l : List Nat} {g : Nat} (h : Wds w v l) (hg : w.heap.size ≤ g) : Apart g v := by
  obtain ⟨p, c, rfl, h2, h3, h4⟩ := h
  intro p' n' c' e hn
  simp only [Value.slice.injEq] at e
  obtain ⟨rfl, rfl, rfl⟩ := e
  obtain ⟨b, hb, hc⟩ := h4 0 _ (List.getElem?_eq_getElem hn)
  simp only [Option.some.injEq] at hb
  subst hb
  obtain ⟨_, ho, _⟩ := cells_of_cell hc
  have := (Array.getElem?_eq_some_iff.1 ho).1
  show b ≠ g
  have hb2 : b < w.heap.size := this
  omega

theorem DN.only {w w' : World} {g : Nat} {v : Value} {n k : Nat} (h : DN w v n k) (ho : Only g w w') (ha : Apart g v) : DN w' v n k := by
  obtain ⟨l, h1, h2⟩ := h; exact ⟨l, h1.only ho ha, h2⟩

/-- What a call that makes a natural number leaves. -/
def RetD (w : World) (n k : Nat) (e : Ending) (w' : World) : Prop := ∃ v, e = .returned v ∧ DN w' v n k ∧ Young w.heap.size v ∧ Below w.heap.size w w'

theorem young_nil (B : Nat) : Young B (.slice none 0 0) := by intro p n c h; simp at h

theorem zeros_words (n : Nat) : (madeCells (Value.int .u64 0).cells (n * 1)).toList = words (List.replicate n 0) := by
  unfold words; rw [List.map_replicate]
  have := toList_madeCells_one (Value.int .u64 0) n
  simpa [Value.cells] using this

/-- The cells of a row that was just made. -/
theorem cells_made {w : World} {B g n : Nat} (h : w.ownsRow B 102 1 (.slice (some ⟨g, 0, none⟩) n n) n (madeCells (Value.int .u64 0).cells (n * 1)).toList) : Cells w g (List.replicate n 0) := by
  rw [zeros_words] at h
  intro i d hi
  have hc := owns_cells h i (.int .u64 (d : Int)) (by unfold words; rw [List.getElem?_map, hi]; rfl)
  rw [add_zero_off] at hc
  exact ⟨hc, World.ownsRow.frozenAt h i⟩

/-- A block that is a row of words. -/
abbrev Row (w : World) (g : Nat) (l : List Nat) : Prop := w.heap[g]? = some (.cells (words l).toArray 102 (0, 0))

theorem row_made {w : World} {B g n : Nat} (h : w.ownsRow B 102 1 (.slice (some ⟨g, 0, none⟩) n n) n (madeCells (Value.int .u64 0).cells (n * 1)).toList) : Row w g (List.replicate n 0) := by
  rw [zeros_words] at h
  rcases h.2 with ⟨h0, _⟩ | ⟨g', cap, cur, h0, _, h2, _, _, h3, h4⟩
  · simp at h0
  · simp only [Value.slice.injEq, Option.some.injEq, Addr.mk.injEq, and_true, true_and] at h0
    obtain ⟨rfl, rfl⟩ := h0
    unfold Row
    rw [h2, ← h4]
    have : cur.toList.take (n * 1) = cur.toList := List.take_of_length_le (by simp [h3])
    rw [this]

theorem Row.cells {w : World} {g : Nat} {l : List Nat} (h : Row w g l) : Cells w g l := by
  intro i d hi
  unfold Row at h
  have hl := (List.getElem?_eq_some_iff.1 hi).1
  constructor
  · simp only [World.cell?, h]
    simp [words, hi]
  · simp [World.frozen?, h]

theorem splice_all (l : List Nat) (n : Nat) (hn : n = l.length) : splice (words (List.replicate n 0)) 0 (words l) = words l := by
  subst hn
  unfold splice
  simp [words]

theorem splice_more (l : List Nat) (n k : Nat) (hn : n = l.length + k) : splice (words (List.replicate n 0)) 0 (words l) = words (l ++ List.replicate k 0) := by
  subst hn
  unfold splice
  simp [words]

theorem wds_src {w W : World} {p : Option Addr} {n c : Nat} {l : List Nat} (h : Wds w (.slice p n c) l) (hb : Below w.heap.size w W) (h0 : 0 < (words l).length) : ∃ ad, p = some ad ∧ ∀ j v, (words l)[j]? = some v → W.cell? (ad.add j) = some v := by
  have hl : 0 < l.length := by simpa [words] using h0
  obtain ⟨g, rfl, _⟩ := h.at_ hb (List.getElem?_eq_getElem hl)
  refine ⟨_, rfl, fun j v hj => ?_⟩
  unfold words at hj
  rw [List.getElem?_map] at hj
  cases hx : l[j]? with
  | none => rw [hx] at hj; simp at hj
  | some d =>
    rw [hx] at hj
    obtain ⟨g', hg', hc⟩ := h.at_ hb hx
    simp only [Option.some.injEq, Addr.mk.injEq, and_true] at hg'
    subst hg'
    rw [add_zero_off, hc]
    simpa using hj

theorem words_one (l : List Nat) : ∀ u ∈ words l, u.oneCell' = true := by
  intro u hu
  rw [List.mem_map] at hu
  obtain ⟨d, _, rfl⟩ := hu
  rfl

theorem Cells.wds {w : World} {g : Nat} {l : List Nat} (h : Cells w g l) {c : Nat} (hc : l.length ≤ c) (hm : c ≤ maxLen) : Wds w (.slice (some ⟨g, 0, none⟩) l.length c) l :=
  ⟨_, c, rfl, hc, hm, fun i d hi => ⟨g, rfl, (h i d hi).1⟩⟩

theorem Cells.below {w w' : World} {g : Nat} {l : List Nat} (h : Cells w g l) {B : Nat} (hb : Below B w w') (hg : g < B) : Cells w' g l := by
  intro i d hi
  rw [World.cell?_of_block (w := w) (hb.block g hg), frozen_of_block (hb.block g hg)]
  exact h i d hi
end Go.Proofs.YtamhlkjfpdkhoaaGreatDoor

/- WALKS of the numbers of one word at most: word, cut, copied, isOne, compare, gcd .. -/
namespace Go.Proofs.YtamhlkjfpdkhoaaGreatDoor
open Go.RowKit

/-- The slice is the number n, of one word at most. -/
def Dig (w : World) (v : Value) (n : Nat) : Prop :=
  n < 18446744073709551616 ∧ ((n = 0 ∧ v = .slice none 0 0) ∨ (0 < n ∧ ∃ b o, v = .slice (some ⟨b, o, none⟩) 1 1 ∧ w.cell? ⟨b, o, none⟩ = some (.int .u64 n)))

set_option maxHeartbeats 400000 in
theorem cut_zero (b o c : Nat) (w : World) (hc : w.cell? ⟨b, o, none⟩ = some (.int .u64 0)) :
    Calls Tryz.prog 151 #[.slice (some ⟨b, o, none⟩) 1 c] w fun e w' => e = .returned (.slice none 0 0) ∧ Drew w w' := by
  go_enter Tryz.func151, Tryz.ntmps151
  go_wp2
  refine wp_loop_rounds 2 ?_
  rw [rounds_succ]
  go_wp2
  rw [rounds_succ]
  go_wp2
  go_ret
  exact ⟨rfl, Drew.refl _⟩

set_option maxHeartbeats 400000 in
theorem cut_one (n b o c : Nat) (w : World) (h0 : 0 < n) (hn : n < 18446744073709551616) (hcap : 1 ≤ c) (hcm : c ≤ maxLen) (hc : w.cell? ⟨b, o, none⟩ = some (.int .u64 n)) :
    Calls Tryz.prog 151 #[.slice (some ⟨b, o, none⟩) 1 c] w fun e w' => e = .returned (.slice (some ⟨b, o, none⟩) 1 1) ∧ Drew w w' := by
  have t1 : ((n : Int) == 0) = false := by rw [beq_eq_false_iff_ne]; omega
  unfold maxLen at hcm
  go_enter Tryz.func151, Tryz.ntmps151
  go_wp2
  refine wp_loop_rounds 1 ?_
  rw [rounds_succ]
  go_wp2
  go_ret
  exact ⟨rfl, Drew.refl _⟩

theorem Drew.below {w w' : World} (h : Drew w w') (B : Nat) : Below B w w' := by
  obtain ⟨n, rfl⟩ := h
  induction n with
  | zero => exact Below.refl _ _
  | succ n ih => exact ⟨ih.os, ih.tape, ih.output, ih.size, ih.block⟩

theorem Drew.cell {w w' : World} (h : Drew w w') (a : Addr) : w'.cell? a = w.cell? a := by
  obtain ⟨n, rfl⟩ := h
  induction n with
  | zero => rfl
  | succ n ih => exact ih

theorem Dig.below {w w' : World} {v : Value} {n : Nat} (h : Dig w v n) (hb : Below w.heap.size w w') : Dig w' v n := by
  obtain ⟨h0, ⟨h1, h2⟩ | ⟨h1, b, o, h2, h3⟩⟩ := h
  · exact ⟨h0, .inl ⟨h1, h2⟩⟩
  · obtain ⟨ob, ho, _⟩ := cells_of_cell h3
    exact ⟨h0, .inr ⟨h1, b, o, h2, (hb.cell (p := ⟨b, o, none⟩) (Array.getElem?_eq_some_iff.1 ho).1).trans h3⟩⟩

set_option maxHeartbeats 400000 in
theorem word_any (n : Nat) (w : World) (hn : n < 18446744073709551616) :
    Calls Tryz.prog 95 #[.int .u64 n] w fun e w' => ∃ v, e = .returned v ∧ Dig w' v n ∧ Below w.heap.size w w' := by
  by_cases h0 : n = 0
  · subst h0
    go_enter Tryz.func95, Tryz.ntmps95
    go_wp2_with (go_at_call 151; refine (cut_zero _ _ _ _ (by simp)).mono ?_; rintro e w1 ⟨rfl, hd⟩; have Hd := Lib.hid hd; clear hd)
    go_ret
    exact ⟨_, rfl, ⟨hn, .inl ⟨rfl, rfl⟩⟩, ((Below.refl _ _).alloc (Nat.le_refl _) _).trans (Hd.out.below _)⟩
  · have h0' : 0 < n := by omega
    go_enter Tryz.func95, Tryz.ntmps95
    go_wp2_with (go_at_call 151; refine (cut_one n _ _ _ _ h0' hn (by omega) (by unfold maxLen; omega) (by simp)).mono ?_; rintro e w1 ⟨rfl, hd⟩; have Hd := Lib.hid hd; clear hd)
    go_ret
    refine ⟨_, rfl, ⟨hn, .inr ⟨h0', _, _, rfl, ?_⟩⟩, ((Below.refl _ _).alloc (Nat.le_refl _) _).trans (Hd.out.below _)⟩
    rw [Hd.out.cell]; simp

set_option maxHeartbeats 400000 in
theorem cut_empty (v : Option Addr) (c : Nat) (w : World) :
    Calls Tryz.prog 151 #[.slice v 0 c] w fun e w' => e = .returned (.slice none 0 0) ∧ Drew w w' := by
  go_enter Tryz.func151, Tryz.ntmps151
  go_wp2
  refine wp_loop_rounds 1 ?_
  rw [rounds_succ]
  go_wp2
  go_ret
  exact ⟨rfl, Drew.refl _⟩

set_option maxRecDepth 1000000 in
set_option maxHeartbeats 400000 in
theorem copied_any (v : Value) (n : Nat) (w : World) (hd : Dig w v n) :
    Calls Tryz.prog 91 #[v] w fun e w' => ∃ u, e = .returned u ∧ Dig w' u n ∧ Below w.heap.size w w' := by
  obtain ⟨hn, hd⟩ := hd
  have HN := Lib.hid hn
  clear hn
  obtain ⟨rfl, rfl⟩ | ⟨h0, b, o, rfl, hc⟩ := hd
  · have hmk : ∀ w, (Instr.makeSlice 28 (.int .i64 0) (.int .i64 0)).run Tryz.prog w = .ok (.slice (some ⟨w.heap.size, 0, none⟩) 0 0) (w.alloc (.cells #[] 102)) := fun _ => by kernel_rfl
    go_enter Tryz.func91, Tryz.ntmps91
    go_wp2_with (first | (with_reducible refine wpList_copy_nothing rfl (.tmp 7) (.tmp 8) 28 29 rfl 102 Tryz.underlying28 (by kernel_rfl) _ _ 0 0 0 0 rfl rfl rfl ?_) | (go_at_call 151; refine (cut_empty _ _ _).mono ?_; rintro e w1 ⟨rfl, hd⟩; have Hd := Lib.hid hd; clear hd))
    go_ret
    exact ⟨_, rfl, ⟨HN.out, .inl ⟨rfl, rfl⟩⟩, ((Below.refl _ _).alloc (Nat.le_refl _) _).trans (Hd.out.below _)⟩
  · have hmk : ∀ w, (Instr.makeSlice 28 (.int .i64 1) (.int .i64 1)).run Tryz.prog w = .ok (.slice (some ⟨w.heap.size, 0, none⟩) 1 1) (w.alloc (.cells #[.int .u64 0] 102)) := fun _ => by kernel_rfl
    go_enter Tryz.func91, Tryz.ntmps91
    have hlt : b < w.heap.size := by obtain ⟨ob, ho, _⟩ := cells_of_cell hc; exact (Array.getElem?_eq_some_iff.1 ho).1
    have hcx : (w.alloc (.cells #[.int .u64 0] 102)).cell? ⟨b, o, none⟩ = some (.int .u64 n) := (((Below.refl w.heap.size w).alloc (Nat.le_refl _) _).cell (p := ⟨b, o, none⟩) hlt).trans hc
    have hsrc : ∀ j v, [Value.int .u64 (n : Int)][j]? = some v → (w.alloc (.cells #[.int .u64 0] 102)).cell? ((⟨b, o, none⟩ : Addr).add j) = some v := by
      intro j v hj
      cases j with
      | zero => simp at hj; subst hj; simpa [Addr.add] using hcx
      | succ j => simp at hj
    have Hsrc := Lib.hid hsrc
    clear hsrc
    go_wp2_with (first | (with_reducible refine wpList_copy_splice rfl (.tmp 7) (.tmp 8) 28 29 rfl 102 Tryz.underlying28 (by kernel_rfl) _ _ 1 1 1 1 rfl rfl w.heap.size 0 [.int .u64 0] 102 (World.alloc_heap_new w _) [.int .u64 n] rfl (fun _ => ⟨rfl, _, rfl, Hsrc.out⟩) (by simp) (by simp [Value.oneCell']) w.heap.size w ((Below.refl _ _).alloc (Nat.le_refl _) _) (Nat.le_refl _) ?_; intro w2 hw2 hb2; have hc2 : w2.cell? ⟨w.heap.size, 0, none⟩ = some (.int .u64 n) := (by simp [World.cell?, hw2.out, splice]); have Hb2 := Lib.hid hb2; clear hb2) | (go_at_call 151; refine (cut_one n _ _ _ _ h0 HN.out (by omega) (by unfold maxLen; omega) (by assumption)).mono ?_; rintro e w1 ⟨rfl, hd⟩; have Hd := Lib.hid hd; clear hd))
    go_ret
    refine ⟨_, rfl, ⟨HN.out, .inr ⟨h0, _, _, rfl, ?_⟩⟩, Hb2.out.trans (Hd.out.below _)⟩
    rw [Hd.out.cell]; assumption
end Go.Proofs.YtamhlkjfpdkhoaaGreatDoor
