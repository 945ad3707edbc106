/- WALK of ordered. -/
import Derived.Test.YtodnfchkkgoabaaHOd
set_option linter.unusedVariables false
namespace Go.Proofs.Ytodnfchkkgoabaa
open Go.Shelf Go.RowKit Go.Lib Go.Sort

theorem zero_gives (x : Int) (W : World) : FnGives Try.prog 78 #[] #[.int .i64 x] (.bool (decide (x = 0))) W := by
  show Calls Try.prog 78 #[.int .i64 x] W _
  by_cases h : x = 0
  · subst h
    go_enter Try.func78, Try.ntmps78
    go_wp2_with fail
    go_ret
    exact ⟨rfl, 0, rfl⟩
  · have q : (x == 0) = false := by simpa using h
    have q2 : decide (x = 0) = false := decide_eq_false h
    rw [q2]
    go_enter Try.func78, Try.ntmps78
    go_wp2_with fail
    go_ret
    exact ⟨rfl, 0, rfl⟩

/-- The heaps that are not empty, rising. -/
def ord (T : List Int) : List Int := (T.filter fun x => !decide (x = 0)).mergeSort fun x y => decide (x ≤ y)

theorem holds_own {w : World} {base g n c : Nat} {T : List Int} (h : w.ownsRow base 3 1 (.slice (some ⟨g, 0, none⟩) n c) n (T.map (Value.int .i64))) (hn : T.length = n) : Holds (Value.int .i64) w g 0 T.toArray := by
  have hb := Blk.of_own (d := .int .i64 0) h
  intro j hj
  have hj : j < T.length := by simpa using hj
  rw [Nat.zero_add]
  refine ⟨?_, hb.frozen j⟩
  rw [hb.cell (i := j) (by omega), List.getD_eq_getElem?_getD, List.getElem?_map, List.getElem?_eq_getElem hj]
  simp [getElem!_pos, hj]

theorem putRow_block {α : Type} [Inhabited α] (enc : α → Value) (w : World) (blk off k : Nat) (d : Array α) (h : k ≠ blk) : (putRow enc w blk off d).heap[k]? = w.heap[k]? := by
  unfold putRow mapBlock
  simp [Array.getElem?_modify, Ne.symm h]

theorem Holds.pre {w : World} {g : Nat} {F Z : List Int} (h : Holds (Value.int .i64) w g 0 (F ++ Z).toArray) : Holds (Value.int .i64) w g 0 F.toArray := by
  intro j hj
  have hj : j < F.length := by simpa using hj
  have h1 := h j (by simp; omega)
  refine ⟨?_, h1.2⟩
  rw [h1.1]
  have hj2 : j < (F ++ Z).toArray.size := by simp; omega
  rw [getElem!_pos _ j hj2, getElem!_pos _ j (by simpa using hj)]
  simp [List.getElem_append_left hj]

set_option maxRecDepth 100000 in
set_option maxHeartbeats 2000000 in
theorem ordered_any (G : List (List Int)) (p : Option Addr) (c n : Nat) (W : World) (hG : GS W p G) (hl : G.length ≤ 10) (hn : G.flatten.length = n) (h1 : 1 ≤ n) (h2 : n ≤ 1000) :
    Calls Try.prog 65 #[.slice p G.length c] W fun e w' => ∃ g c', e = .returned (.slice (some ⟨g, 0, none⟩) (ord G.flatten).length c') ∧ NI w' (some ⟨g, 0, none⟩) (ord G.flatten) ∧ W.heap.size ≤ g ∧ g < w'.heap.size ∧ Below W.heap.size W w' := by
  have C := Lib.hid (Concat_any G p c n W hG hl hn h1 h2)
  obtain ⟨T, hT⟩ : ∃ T, G.flatten = T := ⟨_, rfl⟩
  rw [hT] at C hn ⊢
  have HN := Lib.hid hn
  obtain ⟨m, hm⟩ : ∃ m, G.length = m := ⟨_, rfl⟩
  rw [hm] at C ⊢
  clear hG hl hT hm hn
  have eg : ∀ args w, (callFunc 78 args).run Try.prog w = .ok (.enter 78 args) w := enters_of Try.func78 (by kernel_rfl) rfl
  go_enter Try.func65, Try.ntmps65
  go_wp2_with fail
  refine C.out.mono ?_
  rintro e w1 ⟨g, c', rfl, hown, hb⟩
  have hH := holds_own hown HN.out
  have hsg : W.heap.size ≤ g ∧ g < w1.heap.size ∧ n ≤ c' := by
    rcases hown.2 with ⟨h9, _⟩ | ⟨g9, cap9, cur9, h9, h10, h11, h12, _⟩
    · cases h9
    · simp only [Value.slice.injEq, Option.some.injEq, Addr.mk.injEq] at h9
      obtain ⟨⟨rfl, _⟩, _, rfl⟩ := h9
      exact ⟨h10, (Array.getElem?_eq_some_iff.1 h11).1, h12⟩
  obtain ⟨hs1, hs2, hs3⟩ := hsg
  obtain ⟨F, hF⟩ : ∃ F, T.filter (fun x => !decide (x = 0)) = F := ⟨_, rfl⟩
  have hFl : F.length ≤ n := by rw [← hF, ← HN.out]; exact List.length_filter_le _ _
  have HO : Hid (ord T = F.mergeSort fun x y => decide (x ≤ y)) := Lib.hid (by unfold ord; rw [hF])
  have hD := AnyE.slices_DeleteFunc Try.layDel (Value.int .i64) (fun _ => rfl) (fun x => decide (x = 0)) 78 #[] eg 0 Try.zeroValue3 g 0 c' T.toArray w1 (fun W x _ => zero_gives x W) (fun _ _ _ x _ => zero_gives x _) hH (by simp; have := HN.out; omega) (by simp; have := HN.out; omega)
  change Calls Try.prog 77 _ _ _ at hD
  simp only [List.size_toArray, HN.out, hF] at hD
  have D := Lib.hid hD
  have HH := Lib.hid hH
  have HB := Lib.hid hb
  clear hD hH hown hb C hF
  go_wp2_with fail
  refine D.out.mono ?_
  rintro e w2 ⟨rfl, q, hw2⟩
  have hH2 : Holds (Value.int .i64) w2 g 0 F.toArray := by
    rw [hw2]
    exact Holds.pre (holds_putRow _ _ _ _ T.toArray _ (holds_ahead _ _ _ _ _ _ HH.out) (by have := HN.out; simp; omega))
  have hB2 : Below W.heap.size W w2 := by
    rw [hw2]
    exact ⟨HB.out.os, HB.out.tape, HB.out.output, by rw [size_putRow]; exact HB.out.size, fun b hb' => (putRow_block _ _ _ _ _ _ (by omega)).trans (HB.out.block b hb')⟩
  have hg2 : g < w2.heap.size := by rw [hw2, size_putRow]; exact hs2
  have hSo := Try.slices_Sort_int g 0 c' F w2 hH2 hg2 (by omega)
  obtain ⟨f, hf⟩ : ∃ f, F.length = f := ⟨_, rfl⟩
  have HFL := Lib.hid hf
  rw [hf] at hSo hFl ⊢
  have SO := Lib.hid hSo
  have HH2 := Lib.hid hH2
  have HB2 := Lib.hid hB2
  clear hSo hH2 hB2 hw2 D HH hf
  go_wp2_with fail
  refine SO.out.mono ?_
  rintro e w3 ⟨rfl, k, os, hw3⟩
  have hlen : (F.mergeSort fun x y => decide (x ≤ y)).length = f := by rw [List.length_mergeSort, HFL.out]
  have hH3 : Holds (Value.int .i64) (putRow (Value.int .i64) (Sort.ahead w2 k) g 0 (F.mergeSort fun x y => decide (x ≤ y)).toArray) g 0 (F.mergeSort fun x y => decide (x ≤ y)).toArray := holds_putRow _ _ _ _ F.toArray _ (holds_ahead _ _ _ _ _ _ HH2.out) (by simp [List.length_mergeSort])
  have HNI : Hid (NI w3 (some ⟨g, 0, none⟩) (ord T)) := Lib.hid (fun i hi => by
    rw [HO.out] at hi ⊢
    refine ⟨g, rfl, ?_⟩
    have h9 := (hH3 i (by simpa using hi)).1
    rw [Nat.zero_add] at h9
    rw [hw3, cell?_grow _ _ _ (by show g < (putRow _ _ _ _ _).heap.size; rw [size_putRow]; exact hg2), h9, getElem!_pos _ i (by simpa using hi)]
    simp [List.getD_eq_getElem?_getD, List.getElem?_eq_getElem hi])
  have HB3 : Hid (Below W.heap.size W w3) := Lib.hid (by
    rw [hw3]
    refine ⟨HB2.out.os, HB2.out.tape, HB2.out.output, ?_, fun b hb' => ?_⟩
    · show _ ≤ ((putRow (Value.int .i64) (Sort.ahead w2 k) g 0 _).heap ++ os).size
      rw [Array.size_append, size_putRow]
      have := HB2.out.size
      show W.heap.size ≤ w2.heap.size + os.size
      omega
    · rw [heap_grow_old _ _ (by rw [size_putRow]; show b < w2.heap.size; have := HB2.out.size; omega)]
      exact (putRow_block _ _ _ _ _ _ (by omega)).trans (HB2.out.block b hb'))
  have HG3 : Hid (g < w3.heap.size) := Lib.hid (by
    rw [hw3]
    show g < ((putRow (Value.int .i64) (Sort.ahead w2 k) g 0 _).heap ++ os).size
    rw [Array.size_append, size_putRow]
    show g < w2.heap.size + os.size
    omega)
  have HOL : Hid ((ord T).length = f) := Lib.hid (by rw [HO.out, hlen])
  clear hw3 hH3 SO
  go_wp2_with fail
  go_ret
  exact ⟨g, c', by rw [HOL.out]; rfl, HNI.out, hs1, HG3.out, HB3.out⟩
end Go.Proofs.Ytodnfchkkgoabaa
