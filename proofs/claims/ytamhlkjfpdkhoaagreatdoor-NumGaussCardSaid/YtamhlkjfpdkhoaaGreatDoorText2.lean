/- WALKS: the text of a number below 10^19. -/
import Derived.Test.YtamhlkjfpdkhoaaGreatDoorText
import Derived.Lib.ItoaNum
import Derived.Outline
namespace Go.Proofs.YtamhlkjfpdkhoaaGreatDoor
open Go.RowKit

set_option maxRecDepth 100000 in
set_option maxHeartbeats 1000000 in
theorem FormatUintI_small (n : Nat) (w : World) (hn : n < 100) :
    Calls Tryz.prog 181 #[.int .u64 n, .int .i64 10] w fun e w' => e = .returned (.string ⟨(Lib.decDigits n).toArray⟩) ∧ w' = w := by
  have SM := Lib.hid (fun W => Tryz.internal_strconv_small n hn W)
  have hc : IntKind.i64.wrap (n : Int) = n := by simp only [IntKind.wrap_i64]; omega
  go_enter Tryz.func181, Tryz.ntmps181
  go_wp2_with fail
  refine (SM.out _).mono ?_
  rintro e w1 ⟨rfl, hw⟩
  subst hw
  go_wp2_with fail
  go_ret
  exact ⟨rfl, rfl⟩

set_option maxRecDepth 100000 in
set_option maxHeartbeats 1000000 in
theorem FormatUint_small (n : Nat) (w : World) (hn : n < 100) :
    Calls Tryz.prog 146 #[.int .u64 n, .int .i64 10] w fun e w' => e = .returned (.string ⟨(Lib.decDigits n).toArray⟩) ∧ Below w.heap.size w w' := by
  have SM := Lib.hid (fun W => FormatUintI_small n W hn)
  clear hn
  go_enter Tryz.func146, Tryz.ntmps146
  go_wp2_with fail
  refine (SM.out _).mono ?_
  rintro e w1 ⟨rfl, hw⟩
  subst hw
  go_wp2_with fail
  go_ret
  exact ⟨rfl, Below.refl _ _⟩

set_option maxRecDepth 100000 in
set_option maxHeartbeats 1000000 in
theorem text_of (v : Value) (n : Nat) (w : World) (hd : Dig w v n) (h0 : 0 < n) (hn : n < 10000000000000000000) (hlen : (Lib.decDigits n).length ≤ 20) (h1 : 0 < (Lib.decDigits n).length)
    (FU : ∀ W, Below w.heap.size w W → Calls Tryz.prog 146 #[.int .u64 n, .int .i64 10] W fun e w' => e = .returned (.string ⟨(Lib.decDigits n).toArray⟩) ∧ Below W.heap.size W w') :
    Calls Tryz.prog 89 #[v] w fun e w' => e = .returned (.string ⟨(Lib.decDigits n).toArray⟩) ∧ Below w.heap.size w w' := by
  have CH := Lib.hid (chunks_one v n w hd h0 hn)
  obtain ⟨p, l, c, rfl⟩ := hd.slice
  obtain ⟨ds, hds⟩ : ∃ ds, Lib.decDigits n = ds := ⟨_, rfl⟩
  rw [hds] at hlen h1 FU ⊢
  replace FU := Lib.hid FU
  clear hd h0 hn hds
  go_enter Tryz.func89, Tryz.ntmps89
  go_wp2_with fail
  refine CH.out.mono ?_
  rintro e w1 ⟨g, cap, rfl, hc, hg, hb⟩
  have Hb := Lib.hid hb
  have Hg := Lib.hid hg
  have hc' : (w1.alloc (.cells #[.pointer none, .slice none 0 0] 158)).cell? ⟨g, 0, none⟩ = some (.int .u64 n) := (((Below.refl w1.heap.size w1).alloc (Nat.le_refl _) _).cell (p := ⟨g, 0, none⟩) hg).trans hc
  have Ba := Lib.hid ((Below.refl w1.heap.size w1).alloc (Nat.le_refl _) (.cells #[.pointer none, .slice none 0 0] 158))
  have Rb : Hid ((w1.alloc (.cells #[.pointer none, .slice none 0 0] 158)).heap[w1.heap.size]? = some (.cells #[.pointer none, .slice none 0 0] 158 (0, 0))) := Lib.hid (heap_alloc_new _ _)
  clear hb hg CH hc
  go_wp2_with fail
  generalize (w1.alloc (.cells #[.pointer none, .slice none 0 0] 158)) = wa at *
  refine wp_loop_rounds 2 ?_
  rw [rounds_succ]
  go_wp2_with fail
  refine (FU.out _ ?_).mono ?_
  · exact Hb.out.trans (Ba.out.mono Hb.out.size)
  rintro e w2 ⟨rfl, hb2⟩
  have R2 := Lib.hid (Below.row hb2 (lt_of_row Rb.out) Rb.out)
  have B2 := Lib.hid (Ba.out.trans (hb2.mono Ba.out.size))
  have IB := Lib.hid (show Lib.IsBuilder 158 5 w1.heap.size w1.heap.size [] w2 from .inl ⟨Nat.le_refl _, .slice none 0 0, R2.out, ⟨rfl, .inl ⟨rfl, rfl⟩⟩, by simp [Value.ownBlock]⟩)
  clear hb2
  go_wp2_with fail
  refine (Tryz.Builder_Len _ _ _ _ IB.out).mono ?_
  rintro e w3 ⟨rfl, hw3⟩
  subst hw3
  go_wp2_with fail
  have WS := Lib.hid (Tryz.Builder_WriteString _ _ _ ⟨ds.toArray⟩ _ IB.out (by simp [ByteArray.size]; omega) B2.out.size)
  refine WS.out.mono ?_
  rintro e w4 ⟨rfl, hb4, hl4⟩
  have BA := Lib.hid hb4
  have L4 := Lib.hid hl4
  clear hb4 hl4
  go_wp2_with fail
  rw [rounds_succ]
  go_wp2_with fail
  refine (Tryz.Builder_String_any w1.heap.size w1.heap.size ds w4 (.inr BA.out) (Nat.le_trans B2.out.size L4.out.size)).mono ?_
  rintro e w5 ⟨rfl, hl5⟩
  have L5 := Lib.hid hl5
  clear hl5
  go_wp2_with fail
  go_ret
  exact ⟨rfl, (Hb.out.trans ((B2.out.trans (L4.out.trans L5.out)).mono Hb.out.size))⟩
end Go.Proofs.YtamhlkjfpdkhoaaGreatDoor
