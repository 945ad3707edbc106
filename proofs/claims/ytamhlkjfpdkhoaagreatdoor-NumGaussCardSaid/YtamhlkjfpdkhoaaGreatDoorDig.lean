/- WALKS of the numbers of one word at most: word, cut, copied, isOne, compare, gcd .. -/
import Derived.Test.YtamhlkjfpdkhoaaGreatDoorPure
import Derived.RangeFuncOwn
import Derived.Laws.CopyOwn
namespace Go.Proofs.YtamhlkjfpdkhoaaGreatDoor
open Go.RowKit

/-- The slice is the number n, of one word at most. -/
def Dig (w : World) (v : Value) (n : Nat) : Prop :=
  n < 18446744073709551616 ∧ ((n = 0 ∧ v = .slice none 0 0) ∨ (0 < n ∧ ∃ b o, v = .slice (some ⟨b, o, none⟩) 1 1 ∧ w.cell? ⟨b, o, none⟩ = some (.int .u64 n)))

set_option maxHeartbeats 400000 in
theorem cut_zero (b o c : Nat) (w : World) (hc : w.cell? ⟨b, o, none⟩ = some (.int .u64 0)) :
    Calls Tryz.prog 151 #[.slice (some ⟨b, o, none⟩) 1 c] w fun e w' => e = .returned (.slice none 0 0) ∧ Drew w w' := by
  go_enter Tryz.func151, Tryz.ntmps151
  go_wp2
  refine wp_loop_rounds 2 ?_
  rw [rounds_succ]
  go_wp2
  rw [rounds_succ]
  go_wp2
  go_ret
  exact ⟨rfl, Drew.refl _⟩

set_option maxHeartbeats 400000 in
theorem cut_one (n b o c : Nat) (w : World) (h0 : 0 < n) (hn : n < 18446744073709551616) (hcap : 1 ≤ c) (hcm : c ≤ maxLen) (hc : w.cell? ⟨b, o, none⟩ = some (.int .u64 n)) :
    Calls Tryz.prog 151 #[.slice (some ⟨b, o, none⟩) 1 c] w fun e w' => e = .returned (.slice (some ⟨b, o, none⟩) 1 1) ∧ Drew w w' := by
  have t1 : ((n : Int) == 0) = false := by rw [beq_eq_false_iff_ne]; omega
  unfold maxLen at hcm
  go_enter Tryz.func151, Tryz.ntmps151
  go_wp2
  refine wp_loop_rounds 1 ?_
  rw [rounds_succ]
  go_wp2
  go_ret
  exact ⟨rfl, Drew.refl _⟩

theorem Drew.below {w w' : World} (h : Drew w w') (B : Nat) : Below B w w' := by
  obtain ⟨n, rfl⟩ := h
  induction n with
  | zero => exact Below.refl _ _
  | succ n ih => exact ⟨ih.os, ih.tape, ih.output, ih.size, ih.block⟩

theorem Drew.cell {w w' : World} (h : Drew w w') (a : Addr) : w'.cell? a = w.cell? a := by
  obtain ⟨n, rfl⟩ := h
  induction n with
  | zero => rfl
  | succ n ih => exact ih

theorem Dig.below {w w' : World} {v : Value} {n : Nat} (h : Dig w v n) (hb : Below w.heap.size w w') : Dig w' v n := by
  obtain ⟨h0, ⟨h1, h2⟩ | ⟨h1, b, o, h2, h3⟩⟩ := h
  · exact ⟨h0, .inl ⟨h1, h2⟩⟩
  · obtain ⟨ob, ho, _⟩ := cells_of_cell h3
    exact ⟨h0, .inr ⟨h1, b, o, h2, (hb.cell (p := ⟨b, o, none⟩) (Array.getElem?_eq_some_iff.1 ho).1).trans h3⟩⟩

set_option maxHeartbeats 400000 in
theorem word_any (n : Nat) (w : World) (hn : n < 18446744073709551616) :
    Calls Tryz.prog 95 #[.int .u64 n] w fun e w' => ∃ v, e = .returned v ∧ Dig w' v n ∧ Below w.heap.size w w' := by
  by_cases h0 : n = 0
  · subst h0
    go_enter Tryz.func95, Tryz.ntmps95
    go_wp2_with (go_at_call 151; refine (cut_zero _ _ _ _ (by simp)).mono ?_; rintro e w1 ⟨rfl, hd⟩; have Hd := Lib.hid hd; clear hd)
    go_ret
    exact ⟨_, rfl, ⟨hn, .inl ⟨rfl, rfl⟩⟩, ((Below.refl _ _).alloc (Nat.le_refl _) _).trans (Hd.out.below _)⟩
  · have h0' : 0 < n := by omega
    go_enter Tryz.func95, Tryz.ntmps95
    go_wp2_with (go_at_call 151; refine (cut_one n _ _ _ _ h0' hn (by omega) (by unfold maxLen; omega) (by simp)).mono ?_; rintro e w1 ⟨rfl, hd⟩; have Hd := Lib.hid hd; clear hd)
    go_ret
    refine ⟨_, rfl, ⟨hn, .inr ⟨h0', _, _, rfl, ?_⟩⟩, ((Below.refl _ _).alloc (Nat.le_refl _) _).trans (Hd.out.below _)⟩
    rw [Hd.out.cell]; simp

set_option maxHeartbeats 400000 in
theorem cut_empty (v : Option Addr) (c : Nat) (w : World) :
    Calls Tryz.prog 151 #[.slice v 0 c] w fun e w' => e = .returned (.slice none 0 0) ∧ Drew w w' := by
  go_enter Tryz.func151, Tryz.ntmps151
  go_wp2
  refine wp_loop_rounds 1 ?_
  rw [rounds_succ]
  go_wp2
  go_ret
  exact ⟨rfl, Drew.refl _⟩

set_option maxRecDepth 1000000 in
set_option maxHeartbeats 400000 in
theorem copied_any (v : Value) (n : Nat) (w : World) (hd : Dig w v n) :
    Calls Tryz.prog 91 #[v] w fun e w' => ∃ u, e = .returned u ∧ Dig w' u n ∧ Below w.heap.size w w' := by
  obtain ⟨hn, hd⟩ := hd
  have HN := Lib.hid hn
  clear hn
  obtain ⟨rfl, rfl⟩ | ⟨h0, b, o, rfl, hc⟩ := hd
  · have hmk : ∀ w, (Instr.makeSlice 28 (.int .i64 0) (.int .i64 0)).run Tryz.prog w = .ok (.slice (some ⟨w.heap.size, 0, none⟩) 0 0) (w.alloc (.cells #[] 102)) := fun _ => by kernel_rfl
    go_enter Tryz.func91, Tryz.ntmps91
    go_wp2_with (first | (with_reducible refine wpList_copy_nothing rfl (.tmp 7) (.tmp 8) 28 29 rfl 102 Tryz.underlying28 (by kernel_rfl) _ _ 0 0 0 0 rfl rfl rfl ?_) | (go_at_call 151; refine (cut_empty _ _ _).mono ?_; rintro e w1 ⟨rfl, hd⟩; have Hd := Lib.hid hd; clear hd))
    go_ret
    exact ⟨_, rfl, ⟨HN.out, .inl ⟨rfl, rfl⟩⟩, ((Below.refl _ _).alloc (Nat.le_refl _) _).trans (Hd.out.below _)⟩
  · have hmk : ∀ w, (Instr.makeSlice 28 (.int .i64 1) (.int .i64 1)).run Tryz.prog w = .ok (.slice (some ⟨w.heap.size, 0, none⟩) 1 1) (w.alloc (.cells #[.int .u64 0] 102)) := fun _ => by kernel_rfl
    go_enter Tryz.func91, Tryz.ntmps91
    have hlt : b < w.heap.size := by obtain ⟨ob, ho, _⟩ := cells_of_cell hc; exact (Array.getElem?_eq_some_iff.1 ho).1
    have hcx : (w.alloc (.cells #[.int .u64 0] 102)).cell? ⟨b, o, none⟩ = some (.int .u64 n) := (((Below.refl w.heap.size w).alloc (Nat.le_refl _) _).cell (p := ⟨b, o, none⟩) hlt).trans hc
    have hsrc : ∀ j v, [Value.int .u64 (n : Int)][j]? = some v → (w.alloc (.cells #[.int .u64 0] 102)).cell? ((⟨b, o, none⟩ : Addr).add j) = some v := by
      intro j v hj
      cases j with
      | zero => simp at hj; subst hj; simpa [Addr.add] using hcx
      | succ j => simp at hj
    have Hsrc := Lib.hid hsrc
    clear hsrc
    go_wp2_with (first | (with_reducible refine wpList_copy_splice rfl (.tmp 7) (.tmp 8) 28 29 rfl 102 Tryz.underlying28 (by kernel_rfl) _ _ 1 1 1 1 rfl rfl w.heap.size 0 [.int .u64 0] 102 (World.alloc_heap_new w _) [.int .u64 n] rfl (fun _ => ⟨rfl, _, rfl, Hsrc.out⟩) (by simp) (by simp [Value.oneCell']) w.heap.size w ((Below.refl _ _).alloc (Nat.le_refl _) _) (Nat.le_refl _) ?_; intro w2 hw2 hb2; have hc2 : w2.cell? ⟨w.heap.size, 0, none⟩ = some (.int .u64 n) := (by simp [World.cell?, hw2.out, splice]); have Hb2 := Lib.hid hb2; clear hb2) | (go_at_call 151; refine (cut_one n _ _ _ _ h0 HN.out (by omega) (by unfold maxLen; omega) (by assumption)).mono ?_; rintro e w1 ⟨rfl, hd⟩; have Hd := Lib.hid hd; clear hd))
    go_ret
    refine ⟨_, rfl, ⟨HN.out, .inr ⟨h0, _, _, rfl, ?_⟩⟩, Hb2.out.trans (Hd.out.below _)⟩
    rw [Hd.out.cell]; assumption
end Go.Proofs.YtamhlkjfpdkhoaaGreatDoor
