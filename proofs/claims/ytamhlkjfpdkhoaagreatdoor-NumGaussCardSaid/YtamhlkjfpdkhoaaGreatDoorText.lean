/- WALKS: the text of a number below 10. -/
import Derived.Test.YtamhlkjfpdkhoaaGreatDoorDig5
import Derived.Test.YtamhlkjfpdkhoaaGreatDoorBuild
import Derived.Test.YtamhlkjfpdkhoaaGreatDoorIntB
import Derived.Test.YtamhlkjfpdkhoaaGreatDoorAppend
import Derived.Outline
namespace Go.Proofs.YtamhlkjfpdkhoaaGreatDoor
open Go.RowKit

theorem infoU64 : (Tryz.prog.info? 102).map (fun i => (i.zero, i.size, i.bytes)) = some (some (.int .u64 0), 1, 8) := by kernel_rfl

set_option maxRecDepth 100000 in
set_option maxHeartbeats 1000000 in
theorem chunks_one (v : Value) (n : Nat) (w : World) (hd : Dig w v n) (h0 : 0 < n) (hn : n < 10000000000000000000) :
    Calls Tryz.prog 145 #[v] w fun e w' => ∃ g cap, e = .returned (.slice (some ⟨g, 0, none⟩) 1 cap) ∧ w'.cell? ⟨g, 0, none⟩ = some (.int .u64 n) ∧ g < w'.heap.size ∧ Below w.heap.size w w' := by
  obtain ⟨_, ⟨hz, _⟩ | ⟨_, b, o, rfl, hc⟩⟩ := hd
  · omega
  have CF := copied_fresh n b o w h0 (by omega) hc
  have DW := fun g W hc hf => divideByWord_any n 10000000000000000000 g 0 W (by omega) (by omega) (by omega) hc hf
  have e1 : n % 10000000000000000000 = n := by omega
  have e2 : n / 10000000000000000000 = 0 := by omega
  rw [e1, e2] at DW
  replace CF := Lib.hid CF
  replace DW := Lib.hid DW
  obtain ⟨i0, hi, hz0, hz1, hz2⟩ := info_parts infoU64
  clear e1 e2 hc h0 hn
  go_enter Tryz.func145, Tryz.ntmps145
  go_wp2_with fail
  refine CF.out.mono ?_
  rintro e w1 ⟨rfl, hc, hf, hb⟩
  have Hb := Lib.hid hb
  clear hb
  go_wp2_with fail
  refine wp_loop_rounds 2 ?_
  rw [rounds_succ]
  go_wp2_with fail
  refine (DW.out _ _ hc hf).mono ?_
  rintro e w2 ⟨rfl, hc2, hb2⟩
  have Hb2 := Lib.hid (Hb.out.trans hb2)
  obtain ⟨q0, q1, _⟩ := cells_of_cell hc2
  have lt2 : w.heap.size < w2.heap.size := (Array.getElem?_eq_some_iff.1 q1).1
  have ho : Hid (w2.ownsRow w.heap.size 102 1 (.slice none 0 0) 0 []) := Lib.hid ⟨rfl, .inl ⟨rfl, rfl⟩⟩
  clear hb2 Hb hc hf CF DW
  go_wp2_with (at_builtin; refine wpList_append_own _ rfl _ _ 28 rfl w.heap.size 102 i0 (.int .u64 0) 1 8 Tryz.underlying28 hi hz0 hz1 hz2 rfl (by decide) _ _ _ rfl (ho.out.alloc _) ⟨w2.heap.size, 0, none⟩ 1 1 [.int .u64 n] rfl rfl (cell_one_new _ _ _) (fun x hx => by simp at hx; subst hx; rfl) (by decide) (by decide) (by have := Hb2.out.size; simp; omega) ?_; intro v' w3 hown' hgrow3 _; have HO := Lib.hid hown'; have B3 := Lib.hid (((Below.refl w2.heap.size w2).alloc (Nat.le_refl _) _).grown (row := none) hgrow3 (by simp) (fun k hk => by cases hk)); clear hown' hgrow3)
  have hc3 : w3.cell? ⟨w.heap.size, 0, none⟩ = some (.int .u64 0) := (B3.out.cell (p := ⟨w.heap.size, 0, none⟩) lt2).trans hc2
  have CZ := Lib.hid (cut_zero w.heap.size 0 1 w3 hc3)
  clear hc2 hc3
  refine CZ.out.mono ?_
  rintro e w4 ⟨rfl, hd4⟩
  have HD4 := Lib.hid hd4
  clear hd4
  go_wp2_with fail
  rw [rounds_succ]
  go_wp2_with fail
  obtain ⟨g, cap, cur, rfl, hcg⟩ : ∃ g cap cur, v' = .slice (some ⟨g, 0, none⟩) 1 cap ∧ Hid (w3.heap[g]? = some cur ∧ w3.cell? ⟨g, 0, none⟩ = some (.int .u64 n)) := by
    rcases HO.out.2 with ⟨_, hx⟩ | ⟨g, cap, cur, h0, h1, h2, h3⟩
    · simp at hx
    · subst h0
      exact ⟨g, cap, _, rfl, Lib.hid ⟨h2, by have := owns_cells HO.out 0 _ rfl; simpa [Addr.add] using this⟩⟩
  go_ret
  have hb4 : Below w.heap.size w w4 := (Hb2.out.trans (B3.out.mono (Nat.le_of_lt lt2))).trans (HD4.out.below _)
  exact ⟨g, cap, rfl, (HD4.out.cell _).trans hcg.out.2, Nat.lt_of_lt_of_le (lt_of_row hcg.out.1) (HD4.out.below 0).size, hb4⟩
end Go.Proofs.YtamhlkjfpdkhoaaGreatDoor
