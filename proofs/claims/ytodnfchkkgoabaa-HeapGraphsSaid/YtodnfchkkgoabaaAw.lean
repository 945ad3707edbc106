/- WALK of awake. -/
import Derived.Test.YtodnfchkkgoabaaFc
import Derived.Test.YtodnfchkkgoabaaVf
import Derived.Test.YtodnfchkkgoabaaOc
set_option linter.unusedVariables false
namespace Go.Proofs.Ytodnfchkkgoabaa
open Go.RowKit
open Nim

theorem nm_23 : nm 4 2 3 = 1 := by decide +kernel
theorem nm_32 : nm 4 3 2 = 1 := by decide +kernel
theorem nm_22 : nm 4 2 2 = 3 := by decide +kernel
theorem inv_two : npw 4 2 65534 = 3 := by
  have h := npw_inv 2 (by decide) (by decide)
  have l := npw_lt 2 65534 (by decide)
  have h2 := field4.assoc 3 2 (npw 4 2 65534) (by decide) (by decide) l
  rw [h, nm_32, field4.one' _ l, field4.one _ (by decide)] at h2
  exact h2
theorem root_three : npw 4 3 32768 = 2 := by
  have h := npw_root 3 (by decide)
  have l := npw_lt 3 32768 (by decide)
  generalize npw 4 3 32768 = x at *
  have lx : x ^^^ 2 < 2 ^ 16 := Nat.xor_lt_two_pow l (by decide)
  have h2 : nm 4 (x ^^^ 2) (x ^^^ 2) = 0 := by
    rw [field4.dist _ _ _ lx l (by decide), field4.comm _ _ lx l, field4.comm _ _ lx (by decide), field4.dist _ _ _ l l (by decide), field4.dist _ _ _ (by decide) l (by decide), h, nm_22, field4.comm x 2 l (by decide), Nat.xor_assoc 3, ← Nat.xor_assoc (nm 4 2 x), Nat.xor_self, Nat.zero_xor, Nat.xor_self]
  have h3 := field4.none _ _ lx lx h2
  have h4 : x ^^^ 2 = 0 := by rcases h3 with h | h <;> exact h
  rw [← Nat.xor_zero x, ← Nat.xor_self 2, ← Nat.xor_assoc, h4]; rfl

theorem dec_three : dec [[1], [0, 2], []] = [((2, 0), 0), ((1, 1), 1), ((0, 0), 2)] := by decide +kernel
theorem chk_three : chk (intG [[1], [0, 2], []]) = true := by decide
theorem out_three {f : Nat → Nat × Nat} (h : OutP (dec [[1], [0, 2], []]) 3 f) : f 0 = (0, 2) ∧ f 1 = (1, 1) ∧ f 2 = (0, 0) := by
  rw [dec_three] at h
  refine ⟨?_, ?_, ?_⟩
  · rcases h 0 (by omega) with ⟨x, hx, e, hf⟩ | ⟨h1, _⟩
    · simp at hx; rcases hx with rfl | rfl | rfl <;> simp at e; exact hf
    · exact absurd rfl (h1 ((0, 0), 2) (by simp))
  · rcases h 1 (by omega) with ⟨x, hx, e, hf⟩ | ⟨h1, _⟩
    · simp at hx; rcases hx with rfl | rfl | rfl <;> simp at e; exact hf
    · exact absurd rfl (h1 ((1, 1), 1) (by simp))
  · rcases h 2 (by omega) with ⟨x, hx, e, hf⟩ | ⟨h1, _⟩
    · simp at hx; rcases hx with rfl | rfl | rfl <;> simp at e; exact hf
    · exact absurd rfl (h1 ((2, 0), 0) (by simp))

theorem gn_three (w : World) : GN (((w.alloc (.cells #[.int .i64 1] 3)).alloc (.cells #[.int .i64 0, .int .i64 2] 3)).alloc (.cells #[.slice (some ⟨w.heap.size, 0, none⟩) 1 1, .slice (some ⟨w.heap.size + 1, 0, none⟩) 2 2, .slice none 0 0] 22)) (some ⟨w.heap.size + 2, 0, none⟩) [[1], [0, 2], []] := by
  have a0 : (((w.alloc (.cells #[.int .i64 1] 3)).alloc (.cells #[.int .i64 0, .int .i64 2] 3)).alloc (.cells #[.slice (some ⟨w.heap.size, 0, none⟩) 1 1, .slice (some ⟨w.heap.size + 1, 0, none⟩) 2 2, .slice none 0 0] 22)).heap[w.heap.size]? = some (.cells #[.int .i64 1] 3 (0, 0)) := by
    rw [Below.heap_alloc _ _ _ (by simp; omega), Below.heap_alloc _ _ _ (by simp)]
    exact heap_alloc_new _ _
  have a1 : (((w.alloc (.cells #[.int .i64 1] 3)).alloc (.cells #[.int .i64 0, .int .i64 2] 3)).alloc (.cells #[.slice (some ⟨w.heap.size, 0, none⟩) 1 1, .slice (some ⟨w.heap.size + 1, 0, none⟩) 2 2, .slice none 0 0] 22)).heap[w.heap.size + 1]? = some (.cells #[.int .i64 0, .int .i64 2] 3 (0, 0)) := by
    rw [Below.heap_alloc _ _ _ (by simp)]
    have := heap_alloc_new (w.alloc (.cells #[.int .i64 1] 3)) (.cells #[.int .i64 0, .int .i64 2] 3)
    simpa using this
  have a2 : (((w.alloc (.cells #[.int .i64 1] 3)).alloc (.cells #[.int .i64 0, .int .i64 2] 3)).alloc (.cells #[.slice (some ⟨w.heap.size, 0, none⟩) 1 1, .slice (some ⟨w.heap.size + 1, 0, none⟩) 2 2, .slice none 0 0] 22)).heap[w.heap.size + 2]? = some (.cells #[.slice (some ⟨w.heap.size, 0, none⟩) 1 1, .slice (some ⟨w.heap.size + 1, 0, none⟩) 2 2, .slice none 0 0] 22 (0, 0)) := by
    have := heap_alloc_new ((w.alloc (.cells #[.int .i64 1] 3)).alloc (.cells #[.int .i64 0, .int .i64 2] 3)) (.cells #[.slice (some ⟨w.heap.size, 0, none⟩) 1 1, .slice (some ⟨w.heap.size + 1, 0, none⟩) 2 2, .slice none 0 0] 22)
    simpa using this
  generalize (((w.alloc (.cells #[.int .i64 1] 3)).alloc (.cells #[.int .i64 0, .int .i64 2] 3)).alloc (.cells #[.slice (some ⟨w.heap.size, 0, none⟩) 1 1, .slice (some ⟨w.heap.size + 1, 0, none⟩) 2 2, .slice none 0 0] 22)) = W at *
  intro v hv
  have : v = 0 ∨ v = 1 ∨ v = 2 := by simp at hv; omega
  rcases this with rfl | rfl | rfl
  · refine ⟨_, some ⟨w.heap.size, 0, none⟩, 1, rfl, by simp [World.cell?, a2], fun i hi => ?_⟩
    have : i = 0 := by simp at hi; omega
    subst this
    exact ⟨_, rfl, by simp [World.cell?, a0]⟩
  · refine ⟨_, some ⟨w.heap.size + 1, 0, none⟩, 2, rfl, by simp [World.cell?, a2], fun i hi => ?_⟩
    have : i = 0 ∨ i = 1 := by simp at hi; omega
    rcases this with rfl | rfl <;> exact ⟨_, rfl, by simp [World.cell?, a1]⟩
  · exact ⟨_, none, 0, rfl, by simp [World.cell?, a2], fun i hi => by simp at hi⟩

set_option maxRecDepth 100000 in
set_option maxHeartbeats 2000000 in
theorem awake_any (W : World) :
    Calls Try.prog 24 #[] W fun e w' => e = .returned (.bool true) ∧ Below W.heap.size W w' := by
  have V := Lib.hid (fun X => Values_ok ⟨#[48, 46, 55, 55]⟩ _ 8 X kayles (by omega))
  have T := Lib.hid (fun X => Times_ok 2 3 X (by omega) (by omega))
  have I := Lib.hid (fun X => Inverse_ok 2 X (by omega) (by omega))
  have R := Lib.hid (fun X => Root_ok 3 X (by omega))
  rw [nm_23] at T
  rw [inv_two] at I
  rw [root_three] at R
  go_enter Try.func24, Try.ntmps24
  go_wp2_with fail
  refine (V.out W).mono ?_
  rintro e w1 ⟨v, rfl, ho, hb⟩
  rw [kayles8] at ho
  obtain ⟨g, c, rfl, hns⟩ := own_some ho (by decide)
  have HO := Lib.hid hns
  have HB1 := Lib.hid hb
  clear ho hns hb V
  go_wp2_with fail
  refine (T.out w1).mono ?_
  rintro e w2 ⟨rfl, hb⟩
  have HB2 := Lib.hid hb
  clear hb T
  go_wp2_with fail
  refine (I.out w2).mono ?_
  rintro e w3 ⟨rfl, hb⟩
  have HB3 := Lib.hid hb
  clear hb I
  go_wp2_with fail
  refine (R.out w3).mono ?_
  rintro e w4 ⟨rfl, hb⟩
  have HB4 := Lib.hid hb
  clear hb R
  go_wp2_with fail
  have OC := Lib.hid (Outcomes_any [[1], [0, 2], []] _ 3 _ (gn_three w4) chk_three)
  have HBA := Lib.hid ((((Below.refl w4.heap.size w4).alloc (Nat.le_refl _) (.cells #[.int .i64 1] 3)).alloc (by simp) (.cells #[.int .i64 0, .int .i64 2] 3)).alloc (by simp; omega) (.cells #[.slice (some ⟨w4.heap.size, 0, none⟩) 1 1, .slice (some ⟨w4.heap.size + 1, 0, none⟩) 2 2, .slice none 0 0] 22))
  refine OC.out.mono ?_
  generalize (((w4.alloc (.cells #[.int .i64 1] 3)).alloc (.cells #[.int .i64 0, .int .i64 2] 3)).alloc (.cells #[.slice (some ⟨w4.heap.size, 0, none⟩) 1 1, .slice (some ⟨w4.heap.size + 1, 0, none⟩) 2 2, .slice none 0 0] 22)) = w5 at *
  rintro e w6 ⟨gk, gd, f, rfl, hk, hd, hf, _, _, hb⟩
  obtain ⟨f0, f1, f2⟩ := out_three hf
  have s1 := HB1.out.size
  have s2 := HB2.out.size
  have s3 := HB3.out.size
  have s4 := HB4.out.size
  have s5 := HBA.out.size
  have B2 := HB2.out.trans (HB3.out.mono s2)
  have B3 := B2.trans (HB4.out.mono (by omega))
  have B4 := B3.trans (HBA.out.mono (by omega))
  have B5 := B4.trans (hb.mono (by omega))
  have B6 := Lib.hid (HB1.out.trans (B5.mono s1))
  obtain ⟨g', hg', c8⟩ := (HO.out.under B5) 8 (by decide)
  cases hg'
  have k0 := hk.cell (i := 0) (by decide)
  have k1 := hk.cell (i := 1) (by decide)
  have d0 := hd.cell (i := 0) (by decide)
  simp only [f0, f1] at k0 k1 d0
  have c8' : w6.cell? ⟨g, 8, none⟩ = some (.int .i64 1) := c8
  clear c8 hk hd hf hb B2 B3 B4 B5 HBA OC HB1 HB2 HB3 HB4 HO s1 s2 s3 s4 s5 f0 f1 f2
  go_wp2_with fail
  go_ret
  exact ⟨rfl, B6.out⟩
end Go.Proofs.Ytodnfchkkgoabaa
