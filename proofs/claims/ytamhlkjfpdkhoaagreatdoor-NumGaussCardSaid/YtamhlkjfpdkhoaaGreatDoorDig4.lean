/- WALKS of the numbers of one word at most, more: multiplyAdd, addProduct, times. -/
import Derived.Test.YtamhlkjfpdkhoaaGreatDoorDig3
import Derived.Laws.Externs
set_option linter.unusedVariables false
namespace Go.Proofs.YtamhlkjfpdkhoaaGreatDoor
open Go.RowKit

theorem add64_run (x y c : Nat) (hc : c ≤ 1) (w : World) :
    (callFunc 199 #[.int .u64 x, .int .u64 y, .int .u64 c]).run Tryz.prog w =
      .ok (.value (.tuple #[.int .u64 (((x + y + c) % 18446744073709551616 : Nat) : Int), .int .u64 (((x + y + c) / 18446744073709551616 : Nat) : Int)])) w := by
  rw [run_callFunc_extern Tryz.func199 (by kernel_rfl) (by kernel_rfl) (by kernel_rfl) (e := add64Entry) (by kernel_rfl), run_add64 x y c (by omega) (by omega) (by omega) (by omega)]
  simp only [Result.andThen]
  congr 5 <;> omega

theorem add64_small (x y s : Nat) (hs : x + y = s) (h : s < 18446744073709551616) (w : World) :
    (callFunc 199 #[.int .u64 x, .int .u64 y, .int .u64 0]).run Tryz.prog w =
      .ok (.value (.tuple #[.int .u64 (s : Int), .int .u64 0])) w := by
  have := add64_run x y 0 (by omega) w
  have e1 : (x + y + 0) % 18446744073709551616 = s := by omega
  have e2 : (x + y + 0) / 18446744073709551616 = 0 := by omega
  rw [e1, e2] at this
  exact this

set_option maxHeartbeats 400000 in
theorem multiplyAdd_small (x y z s : Nat) (w : World) (hx : x < 18446744073709551616) (hy : y < 18446744073709551616) (hs : x * y + z = s) (h : s < 18446744073709551616) :
    Calls Tryz.prog 186 #[.int .u64 x, .int .u64 y, .int .u64 z] w fun e w' => e = .returned (.tuple #[.int .u64 0, .int .u64 s]) ∧ Drew w w' := by
  have M := fun W => Tryz.bits_Mul64 x y hx hy W
  obtain ⟨p, hp⟩ : ∃ p, x * y = p := ⟨_, rfl⟩
  rw [hp] at M hs
  have e1 : p / 18446744073709551616 = 0 := by omega
  have e2 : p % 18446744073709551616 = p := by omega
  simp only [e1, e2] at M
  have A1 := fun W => add64_small p z s hs h W
  have HM := Lib.hid M
  clear M hx hy hs h e1 e2 hp
  go_enter Tryz.func186, Tryz.ntmps186
  go_wp2_with fail
  refine (HM.out _).mono ?_
  rintro e w1 ⟨rfl, rfl⟩
  go_wp2_with fail
  go_ret2
  exact ⟨rfl, Drew.refl _⟩

set_option maxHeartbeats 400000 in
theorem cut_two (n b o c : Nat) (w : World) (h0 : 0 < n) (hn : n < 18446744073709551616) (hcap : 2 ≤ c) (hcm : c ≤ maxLen) (hc : w.cell? ⟨b, o, none⟩ = some (.int .u64 n)) (hc1 : w.cell? ⟨b, o + 1, none⟩ = some (.int .u64 0)) :
    Calls Tryz.prog 151 #[.slice (some ⟨b, o, none⟩) 2 c] w fun e w' => e = .returned (.slice (some ⟨b, o, none⟩) 1 1) ∧ Drew w w' := by
  have t1 : ((n : Int) == 0) = false := by rw [beq_eq_false_iff_ne]; omega
  unfold maxLen at hcm
  go_enter Tryz.func151, Tryz.ntmps151
  go_wp2
  refine wp_loop_rounds 2 ?_
  rw [rounds_succ]
  go_wp2
  rw [rounds_succ]
  go_wp2
  go_ret
  exact ⟨rfl, Drew.refl _⟩

set_option maxRecDepth 100000 in
set_option maxHeartbeats 1000000 in
theorem addProduct_one (x y p b o c d od : Nat) (w : World) (hx : x < 18446744073709551616) (hy : y < 18446744073709551616) (hp : x * y = p) (h : p < 18446744073709551616) (hcap : 1 ≤ c)
    (hc : w.cell? ⟨b, o, none⟩ = some (.int .u64 0)) (hf : w.frozen? ⟨b, o, none⟩ = false) (hd : w.cell? ⟨d, od, none⟩ = some (.int .u64 x)) :
    Calls Tryz.prog 192 #[.slice (some ⟨b, o, none⟩) 1 c, .slice (some ⟨d, od, none⟩) 1 1, .int .u64 y] w fun e w' => e = .returned (.int .u64 0) ∧ ∃ w0, Drew w w0 ∧ w' = w0.setCell ⟨b, o, none⟩ (.int .u64 p) := by
  have M := fun W => multiplyAdd_small x y 0 p W hx hy (by omega) h
  have A1 : ∀ W, (callFunc 199 #[.int .u64 0, .int .u64 p, .int .u64 0]).run Tryz.prog W = .ok (.value (.tuple #[.int .u64 (p : Int), .int .u64 0])) W := fun W => add64_small 0 p p (by omega) h W
  have HM := Lib.hid M
  clear M hx hy hp h
  go_enter Tryz.func192, Tryz.ntmps192
  go_wp2
  refine wp_loop_rounds 2 ?_
  rw [rounds_succ]
  go_wp2_with fail
  refine (HM.out _).mono ?_
  rintro e w1 ⟨rfl, hd1⟩
  have k1 := (hd1.cell ⟨b, o, none⟩).trans hc
  have k2 := (hd1.frozen ⟨b, o, none⟩).trans hf
  have Hd1 := Lib.hid hd1
  clear hd1 hc hf
  go_wp2
  rw [rounds_succ]
  go_wp2
  go_ret
  exact ⟨rfl, w1, Hd1.out, rfl⟩

set_option maxRecDepth 1000000 in
set_option maxHeartbeats 1000000 in
theorem times_pos (u v : Value) (a b p : Nat) (w : World) (hu : Dig w u a) (hv : Dig w v b) (ha0 : 0 < a) (hb0 : 0 < b) (hp : a * b = p) (hpl : p < 18446744073709551616) :
    Calls Tryz.prog 158 #[u, v] w fun e w' => ∃ x, e = .returned x ∧ Dig w' x p ∧ Below w.heap.size w w' := by
  have hp0 : 0 < p := by rw [← hp]; exact Nat.mul_pos ha0 hb0
  obtain ⟨hal, hu⟩ := hu
  obtain ⟨hbl, hv⟩ := hv
  obtain ⟨rfl, rfl⟩ | ⟨_, b1, o1, rfl, hc1⟩ := hu
  · omega
  obtain ⟨rfl, rfl⟩ | ⟨_, b2, o2, rfl, hc2⟩ := hv
  · omega
  have hlt1 : b1 < w.heap.size := by obtain ⟨ob, ho, _⟩ := cells_of_cell hc1; exact (Array.getElem?_eq_some_iff.1 ho).1
  have hlt2 : b2 < w.heap.size := by obtain ⟨ob, ho, _⟩ := cells_of_cell hc2; exact (Array.getElem?_eq_some_iff.1 ho).1
  have hmk : ∀ w, (Instr.makeSlice 28 (.int .i64 2) (.int .i64 2)).run Tryz.prog w = .ok (.slice (some ⟨w.heap.size, 0, none⟩) 2 2) (w.alloc (.cells #[.int .u64 0, .int .u64 0] 102)) := fun _ => by kernel_rfl
  have P := fun W (h1) (h2) (h3) => addProduct_one b a p w.heap.size 0 2 b2 o2 W hbl hal (by rw [Nat.mul_comm]; exact hp) hpl (by omega) h1 h2 h3
  have HP := Lib.hid P
  have HL := Lib.hid hpl
  clear P hal hbl hp hpl ha0 hb0
  go_enter Tryz.func158, Tryz.ntmps158
  go_wp2
  refine wp_loop_rounds 2 ?_
  rw [rounds_succ]
  go_wp2_with fail
  have h2' : (w.alloc (.cells #[.int .u64 0, .int .u64 0] 102)).cell? ⟨b2, o2, none⟩ = some (.int .u64 b) := (((Below.refl w.heap.size w).alloc (Nat.le_refl _) _).cell (p := ⟨b2, o2, none⟩) hlt2).trans hc2
  refine (HP.out _ (by simp) (by simp) h2').mono ?_
  rintro e w1 ⟨rfl, w0, hd0, hw1⟩
  have k0 : w0.cell? ⟨w.heap.size, 0, none⟩ = some (.int .u64 0) := (hd0.cell _).trans (by simp)
  have c0 : w1.cell? ⟨w.heap.size, 0, none⟩ = some (.int .u64 p) := by rw [hw1]; exact World.cell?_setCell_same' _ _ _ (by rw [k0]; rfl)
  have c1 : w1.cell? ⟨w.heap.size, 1, none⟩ = some (.int .u64 0) := by rw [hw1, World.cell?_setCell_other _ _ _ _ (by simp), hd0.cell]; simp
  have f1 : w1.frozen? ⟨w.heap.size, 1, none⟩ = false := by rw [hw1, World.frozen?_setCell, hd0.frozen]; simp
  have bl : Below w.heap.size w w1 := by rw [hw1]; exact (((Below.refl w.heap.size w).alloc (Nat.le_refl _) _).trans (hd0.below _)).setCell (by simp) _
  have Bl := Lib.hid bl
  clear hw1 k0 h2' bl hd0
  go_wp2_with fail
  have e0 : (w1.setCell ⟨w.heap.size, 1, none⟩ (.int .u64 0)).cell? ⟨w.heap.size, 0, none⟩ = some (.int .u64 p) := by rw [World.cell?_setCell_other _ _ _ _ (by simp)]; exact c0
  have e1 : (w1.setCell ⟨w.heap.size, 1, none⟩ (.int .u64 0)).cell? ⟨w.heap.size, 0 + 1, none⟩ = some (.int .u64 0) := World.cell?_setCell_same' _ _ _ (by rw [c1]; rfl)
  have bl : Below w.heap.size w (w1.setCell ⟨w.heap.size, 1, none⟩ (.int .u64 0)) := Bl.out.setCell (by simp) _
  clear Bl
  generalize w1.setCell ⟨w.heap.size, 1, none⟩ (.int .u64 0) = w2 at *
  have Bl := Lib.hid bl
  clear bl
  rw [rounds_succ]
  go_wp2_with fail
  refine (cut_two p _ _ _ _ hp0 HL.out (by omega) (by unfold maxLen; omega) e0 e1).mono ?_
  rintro e w3 ⟨rfl, hd3⟩
  have Hd3 := Lib.hid hd3
  clear hd3
  go_wp2_with fail
  go_ret
  exact ⟨_, rfl, ⟨HL.out, .inr ⟨hp0, _, _, rfl, (Hd3.out.cell _).trans e0⟩⟩, Bl.out.trans (Hd3.out.below _)⟩
end Go.Proofs.YtamhlkjfpdkhoaaGreatDoor
