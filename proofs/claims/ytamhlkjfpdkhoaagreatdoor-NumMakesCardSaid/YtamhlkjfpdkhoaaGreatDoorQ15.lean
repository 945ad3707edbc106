/- WALKS of the numbers of one word at most, more: plus, minus. -/
import Derived.Test.YtamhlkjfpdkhoaaGreatDoorQ14
import Derived.Shelf.Spec.BitsCarry
set_option linter.unusedVariables false
namespace Go.Proofs.YtamhlkjfpdkhoaaGreatDoor
open Go.RowKit

set_option maxRecDepth 100000 in
set_option maxHeartbeats 1000000 in
theorem increase_one (s x t b o c d od : Nat) (w : World) (ht : s + x = t) (h : t < 18446744073709551616) (hc1 : 1 ≤ c)
    (hc : w.cell? ⟨b, o, none⟩ = some (.int .u64 s)) (hf : w.frozen? ⟨b, o, none⟩ = false) (hd : w.cell? ⟨d, od, none⟩ = some (.int .u64 x)) :
    Calls Tryz.prog 167 #[.slice (some ⟨b, o, none⟩) 1 c, .slice (some ⟨d, od, none⟩) 1 1] w fun e w' => e = .returned (.int .u64 0) ∧ ∃ w0, Drew w w0 ∧ w' = w0.setCell ⟨b, o, none⟩ (.int .u64 t) := by
  have A1 := fun W => add64_small s x t ht h W
  clear ht h
  go_enter Tryz.func167, Tryz.ntmps167
  go_wp2
  refine wp_loop_rounds 2 ?_
  rw [rounds_succ]
  go_wp2
  rw [rounds_succ]
  go_wp2
  refine wp_loop_rounds 1 ?_
  rw [rounds_succ]
  go_wp2
  go_ret
  exact ⟨rfl, _, Drew.refl _, rfl⟩

set_option maxRecDepth 1000000 in
set_option maxHeartbeats 1000000 in
theorem plus_pos (u v : Value) (a b p : Nat) (w : World) (hu : Dig w u a) (hv : Dig w v b) (ha0 : 0 < a) (hb0 : 0 < b) (hp : a + b = p) (hpl : p < 18446744073709551616) :
    Calls Tryz.prog 121 #[u, v] w fun e w' => ∃ x, e = .returned x ∧ Dig w' x p ∧ Below w.heap.size w w' := by
  have hp0 : 0 < p := by omega
  obtain ⟨hal, hu⟩ := hu
  obtain ⟨hbl, hv⟩ := hv
  obtain ⟨rfl, rfl⟩ | ⟨_, b1, o1, rfl, hc1⟩ := hu
  · omega
  obtain ⟨rfl, rfl⟩ | ⟨_, b2, o2, rfl, hc2⟩ := hv
  · omega
  have hlt1 : b1 < w.heap.size := by obtain ⟨ob, ho, _⟩ := cells_of_cell hc1; exact (Array.getElem?_eq_some_iff.1 ho).1
  have hlt2 : b2 < w.heap.size := by obtain ⟨ob, ho, _⟩ := cells_of_cell hc2; exact (Array.getElem?_eq_some_iff.1 ho).1
  have hmk : ∀ w, (Instr.makeSlice 28 (.int .i64 2) (.int .i64 2)).run Tryz.prog w = .ok (.slice (some ⟨w.heap.size, 0, none⟩) 2 2) (w.alloc (.cells #[.int .u64 0, .int .u64 0] 102)) := fun _ => by kernel_rfl
  have P := fun W (h1) (h2) (h3) => increase_one a b p w.heap.size 0 2 b2 o2 W hp hpl (by omega) h1 h2 h3
  have HP := Lib.hid P
  have HL := Lib.hid hpl
  clear P hal hbl hp hpl ha0 hb0
  have hcx : (w.alloc (.cells #[.int .u64 0, .int .u64 0] 102)).cell? ⟨b1, o1, none⟩ = some (.int .u64 a) := (((Below.refl w.heap.size w).alloc (Nat.le_refl _) _).cell (p := ⟨b1, o1, none⟩) hlt1).trans hc1
  have hsrc : ∀ j v, [Value.int .u64 (a : Int)][j]? = some v → (w.alloc (.cells #[.int .u64 0, .int .u64 0] 102)).cell? ((⟨b1, o1, none⟩ : Addr).add j) = some v := by
    intro j v hj
    cases j with
    | zero => simp at hj; subst hj; simpa [Addr.add] using hcx
    | succ j => simp at hj
  have Hsrc := Lib.hid hsrc
  clear hsrc hcx
  go_enter Tryz.func121, Tryz.ntmps121
  go_wp2_with ((with_reducible refine wpList_copy_splice rfl (.tmp 17) (.tmp 18) 28 29 rfl 102 Tryz.underlying28 (by kernel_rfl) _ _ 2 2 1 1 rfl rfl w.heap.size 0 [.int .u64 0, .int .u64 0] 102 (World.alloc_heap_new w _) [.int .u64 a] rfl (fun _ => ⟨rfl, _, rfl, Hsrc.out⟩) (by simp) (by simp [Value.oneCell']) w.heap.size w ((Below.refl _ _).alloc (Nat.le_refl _) _) (Nat.le_refl _) ?_; intro w2 hw2 hb2; have k0 : w2.cell? ⟨w.heap.size, 0, none⟩ = some (.int .u64 a) := (by simp [World.cell?, hw2.out, splice]); have k1 : w2.cell? ⟨w.heap.size, 1, none⟩ = some (.int .u64 0) := (by simp [World.cell?, hw2.out, splice]); have f0 : w2.frozen? ⟨w.heap.size, 0, none⟩ = false := (by simp [World.frozen?, hw2.out]); have f1 : w2.frozen? ⟨w.heap.size, 1, none⟩ = false := (by simp [World.frozen?, hw2.out]); have k2 : w2.cell? ⟨b2, o2, none⟩ = some (.int .u64 b) := ((hb2.cell (p := ⟨b2, o2, none⟩) hlt2).trans hc2); have Hb2 := Lib.hid hb2; clear hb2 hw2))
  refine (HP.out _ k0 f0 k2).mono ?_
  rintro e w3 ⟨rfl, w0, hd0, hw1⟩
  have k3 := (hd0.cell ⟨w.heap.size, 0, none⟩).trans k0
  have c0 : w3.cell? ⟨w.heap.size, 0, none⟩ = some (.int .u64 p) := by rw [hw1]; exact World.cell?_setCell_same' _ _ _ (by rw [k3]; rfl)
  have c1 : w3.cell? ⟨w.heap.size, 1, none⟩ = some (.int .u64 0) := by rw [hw1, World.cell?_setCell_other _ _ _ _ (by simp), hd0.cell]; exact k1
  have g1 : w3.frozen? ⟨w.heap.size, 1, none⟩ = false := by rw [hw1, World.frozen?_setCell, hd0.frozen]; exact f1
  have bl : Below w.heap.size w w3 := by rw [hw1]; exact (Hb2.out.trans (hd0.below _)).setCell (by simp) _
  have Bl := Lib.hid bl
  clear hw1 k0 k1 k2 k3 f0 f1 bl hd0 Hb2
  go_wp2_with fail
  have e0 : (w3.setCell ⟨w.heap.size, 1, none⟩ (.int .u64 0)).cell? ⟨w.heap.size, 0, none⟩ = some (.int .u64 p) := by rw [World.cell?_setCell_other _ _ _ _ (by simp)]; exact c0
  have e1 : (w3.setCell ⟨w.heap.size, 1, none⟩ (.int .u64 0)).cell? ⟨w.heap.size, 0 + 1, none⟩ = some (.int .u64 0) := World.cell?_setCell_same' _ _ _ (by rw [c1]; rfl)
  have bl : Below w.heap.size w (w3.setCell ⟨w.heap.size, 1, none⟩ (.int .u64 0)) := Bl.out.setCell (by simp) _
  clear Bl
  generalize w3.setCell ⟨w.heap.size, 1, none⟩ (.int .u64 0) = w4 at *
  have Bl := Lib.hid bl
  clear bl
  refine (cut_two p _ _ _ _ hp0 HL.out (by omega) (by unfold maxLen; omega) e0 e1).mono ?_
  rintro e w5 ⟨rfl, hd3⟩
  have Hd3 := Lib.hid hd3
  clear hd3
  go_wp2_with fail
  go_ret
  exact ⟨_, rfl, ⟨HL.out, .inr ⟨hp0, _, _, rfl, (Hd3.out.cell _).trans e0⟩⟩, Bl.out.trans (Hd3.out.below _)⟩

theorem sub64_run (x y z : Nat) (hz : x = y + z) (hx : x < 18446744073709551616) (w : World) :
    (callFunc 168 #[.int .u64 x, .int .u64 y, .int .u64 0]).run Tryz.prog w =
      .ok (.value (.tuple #[.int .u64 (z : Int), .int .u64 0])) w := by
  rw [run_callFunc_extern Tryz.func168 (by kernel_rfl) (by kernel_rfl) (by kernel_rfl) (e := sub64Entry) (by kernel_rfl)]
  have := run_sub64 (P := Tryz.prog) x y 0 (by omega) w
  have e1 : (x + 18446744073709551616 - y - 0) % 18446744073709551616 = z := by omega
  rw [if_neg (by omega), e1] at this
  have t : (sub64Entry #[.int .u64 x, .int .u64 y, .int .u64 0]).run Tryz.prog w = .ok (.tuple #[.int .u64 z, .int .u64 0]) w := this
  rw [t]; rfl

set_option maxRecDepth 1000000 in
set_option maxHeartbeats 1000000 in
theorem minus_pos (u v : Value) (a b p : Nat) (w : World) (hu : Dig w u a) (hv : Dig w v b) (hb0 : 0 < b) (hp0 : 0 < p) (hp : a = b + p) :
    Calls Tryz.prog 122 #[u, v] w fun e w' => ∃ x, e = .returned x ∧ Dig w' x p ∧ Below w.heap.size w w' := by
  obtain ⟨hal, hu⟩ := hu
  obtain ⟨hbl, hv⟩ := hv
  obtain ⟨rfl, rfl⟩ | ⟨_, b1, o1, rfl, hc1⟩ := hu
  · omega
  obtain ⟨rfl, rfl⟩ | ⟨_, b2, o2, rfl, hc2⟩ := hv
  · omega
  have hlt1 : b1 < w.heap.size := by obtain ⟨ob, ho, _⟩ := cells_of_cell hc1; exact (Array.getElem?_eq_some_iff.1 ho).1
  have hlt2 : b2 < w.heap.size := by obtain ⟨ob, ho, _⟩ := cells_of_cell hc2; exact (Array.getElem?_eq_some_iff.1 ho).1
  have hmk : ∀ w, (Instr.makeSlice 28 (.int .i64 1) (.int .i64 1)).run Tryz.prog w = .ok (.slice (some ⟨w.heap.size, 0, none⟩) 1 1) (w.alloc (.cells #[.int .u64 0] 102)) := fun _ => by kernel_rfl
  have S := fun W => sub64_run a b p hp hal W
  have HL := Lib.hid (show p < 18446744073709551616 by omega)
  clear hal hbl hp
  go_enter Tryz.func122, Tryz.ntmps122
  go_wp2
  refine wp_loop_rounds 2 ?_
  rw [rounds_succ]
  go_wp2
  rw [rounds_succ]
  go_wp2_with fail
  have e0 : (w.alloc (.cells #[.int .u64 p] 102)).cell? ⟨w.heap.size, 0, none⟩ = some (.int .u64 p) := by simp
  have bl : Below w.heap.size w (w.alloc (.cells #[.int .u64 p] 102)) := (Below.refl _ _).alloc (Nat.le_refl _) _
  generalize w.alloc (.cells #[.int .u64 p] 102) = w2 at *
  have Bl := Lib.hid bl
  clear bl
  refine (cut_one p _ _ _ _ hp0 HL.out (by omega) (by unfold maxLen; omega) e0).mono ?_
  rintro e w5 ⟨rfl, hd3⟩
  have Hd3 := Lib.hid hd3
  clear hd3
  go_wp2_with fail
  go_ret
  exact ⟨_, rfl, ⟨HL.out, .inr ⟨hp0, _, _, rfl, (Hd3.out.cell _).trans e0⟩⟩, Bl.out.trans (Hd3.out.below _)⟩
end Go.Proofs.YtamhlkjfpdkhoaaGreatDoor
