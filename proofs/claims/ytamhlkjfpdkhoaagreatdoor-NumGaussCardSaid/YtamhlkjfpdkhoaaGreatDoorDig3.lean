/- WALKS of the numbers of one word at most, more: divideByWord, divide, exactly, shorten. -/
import Derived.Test.YtamhlkjfpdkhoaaGreatDoorDig2
namespace Go.Proofs.YtamhlkjfpdkhoaaGreatDoor
open Go.RowKit

theorem Drew.frozen {w w' : World} (h : Drew w w') (a : Addr) : w'.frozen? a = w.frozen? a := by
  obtain ⟨n, rfl⟩ := h
  induction n with
  | zero => rfl
  | succ n ih => exact ih

set_option maxRecDepth 1000000 in
set_option maxHeartbeats 400000 in
theorem copied_fresh (n b o : Nat) (w : World) (h0 : 0 < n) (hn : n < 18446744073709551616) (hc : w.cell? ⟨b, o, none⟩ = some (.int .u64 n)) :
    Calls Tryz.prog 91 #[.slice (some ⟨b, o, none⟩) 1 1] w fun e w' => e = .returned (.slice (some ⟨w.heap.size, 0, none⟩) 1 1) ∧ w'.cell? ⟨w.heap.size, 0, none⟩ = some (.int .u64 n) ∧ w'.frozen? ⟨w.heap.size, 0, none⟩ = false ∧ Below w.heap.size w w' := by
  have HN := Lib.hid hn
  clear hn
  have hmk : ∀ w, (Instr.makeSlice 28 (.int .i64 1) (.int .i64 1)).run Tryz.prog w = .ok (.slice (some ⟨w.heap.size, 0, none⟩) 1 1) (w.alloc (.cells #[.int .u64 0] 102)) := fun _ => by kernel_rfl
  have hlt : b < w.heap.size := by obtain ⟨ob, ho, _⟩ := cells_of_cell hc; exact (Array.getElem?_eq_some_iff.1 ho).1
  have hcx : (w.alloc (.cells #[.int .u64 0] 102)).cell? ⟨b, o, none⟩ = some (.int .u64 n) := (((Below.refl w.heap.size w).alloc (Nat.le_refl _) _).cell (p := ⟨b, o, none⟩) hlt).trans hc
  have hsrc : ∀ j v, [Value.int .u64 (n : Int)][j]? = some v → (w.alloc (.cells #[.int .u64 0] 102)).cell? ((⟨b, o, none⟩ : Addr).add j) = some v := by
    intro j v hj
    cases j with
    | zero => simp at hj; subst hj; simpa [Addr.add] using hcx
    | succ j => simp at hj
  have Hsrc := Lib.hid hsrc
  clear hsrc
  go_enter Tryz.func91, Tryz.ntmps91
  go_wp2_with (first | (with_reducible refine wpList_copy_splice rfl (.tmp 7) (.tmp 8) 28 29 rfl 102 Tryz.underlying28 (by kernel_rfl) _ _ 1 1 1 1 rfl rfl w.heap.size 0 [.int .u64 0] 102 (World.alloc_heap_new w _) [.int .u64 n] rfl (fun _ => ⟨rfl, _, rfl, Hsrc.out⟩) (by simp) (by simp [Value.oneCell']) w.heap.size w ((Below.refl _ _).alloc (Nat.le_refl _) _) (Nat.le_refl _) ?_; intro w2 hw2 hb2; have hc2 : w2.cell? ⟨w.heap.size, 0, none⟩ = some (.int .u64 n) := (by simp [World.cell?, hw2.out, splice]); have Hf2 : Hid (w2.frozen? ⟨w.heap.size, 0, none⟩ = false) := Lib.hid (by simp [World.frozen?, hw2.out]); have Hb2 := Lib.hid hb2; clear hb2) | (go_at_call 151; refine (cut_one n _ _ _ _ h0 HN.out (by omega) (by unfold maxLen; omega) (by assumption)).mono ?_; rintro e w1 ⟨rfl, hd⟩; have Hd := Lib.hid hd; clear hd))
  go_ret
  refine ⟨rfl, ?_, ?_, Hb2.out.trans (Hd.out.below _)⟩
  · rw [Hd.out.cell]; assumption
  · obtain ⟨k, hk⟩ := Hd.out
    have := (Drew.below ⟨k, hk⟩ (w.heap.size + 1)).frozen (p := ⟨w.heap.size, 0, none⟩) (by simp)
    rw [this]; exact Hf2.out

set_option maxRecDepth 100000 in
set_option maxHeartbeats 1000000 in
theorem divideByWord_any (n d b o : Nat) (w : World) (hn : n < 18446744073709551616) (hd0 : 0 < d) (hd : d < 18446744073709551616) (hc : w.cell? ⟨b, o, none⟩ = some (.int .u64 n)) (hf : w.frozen? ⟨b, o, none⟩ = false) :
    Calls Tryz.prog 163 #[.slice (some ⟨b, o, none⟩) 1 1, .int .u64 d] w fun e w' => e = .returned (.int .u64 (n % d : Nat)) ∧ w'.cell? ⟨b, o, none⟩ = some (.int .u64 (n / d : Nat)) ∧ Below b w w' := by
  have DV := fun W => Div64_any 0 n d W hd0 hn hd
  rw [Nat.zero_mul, Nat.zero_add] at DV
  obtain ⟨q, hq⟩ : ∃ q, n / d = q := ⟨_, rfl⟩
  obtain ⟨r, hr⟩ : ∃ r, n % d = r := ⟨_, rfl⟩
  rw [hq, hr] at DV ⊢
  have HDV := Lib.hid DV
  clear DV hn hd hq hr
  go_enter Tryz.func163, Tryz.ntmps163
  go_wp2
  refine wp_loop_rounds 2 ?_
  rw [rounds_succ]
  go_wp2_with fail
  refine (HDV.out _).mono ?_
  rintro e w1 ⟨rfl, hd1⟩
  have hc1 := (hd1.cell ⟨b, o, none⟩).trans hc
  have hf1 := (hd1.frozen ⟨b, o, none⟩).trans hf
  have Hd1 := Lib.hid hd1
  clear hd1 hc hf
  go_wp2
  rw [rounds_succ]
  go_wp2
  go_ret
  refine ⟨rfl, ?_, (Hd1.out.below _).trans ((Below.refl b w1).setCell (by simp) _)⟩
  exact World.cell?_setCell_same' _ _ _ (by rw [hc1]; rfl)

set_option maxRecDepth 100000 in
set_option maxHeartbeats 1000000 in
theorem divide_any (u v : Value) (a b : Nat) (w : World) (hu : Dig w u a) (hv : Dig w v b) (hb0 : 0 < b) :
    Calls Tryz.prog 120 #[u, v] w fun e w' => ∃ x y, e = .returned (.tuple #[x, y]) ∧ Dig w' x (a / b) ∧ Dig w' y (a % b) ∧ Below w.heap.size w w' := by
  have hcmp := compare_any u v a b w hu hv
  by_cases h : a < b
  · have h1 := cmpN_lt h
    have e1 : a / b = 0 := Nat.div_eq_of_lt h
    have e2 : a % b = a := Nat.mod_eq_of_lt h
    rw [e1, e2]
    generalize cmpN a b = cc at h1 hcmp
    have Hcmp := Lib.hid hcmp
    have Hu := Lib.hid hu
    clear hcmp hu hv h e1 e2
    go_enter Tryz.func120, Tryz.ntmps120
    go_wp2_with (first | (go_at_call 116; refine Hcmp.out.mono ?_; rintro e w1 ⟨rfl, hd⟩; have Hd := Lib.hid hd; clear hd) | (go_at_call 91; refine (copied_any _ _ _ (Hu.out.drew Hd.out)).mono ?_; rintro e w2 ⟨x, rfl, hx, hbl⟩; have Hx := Lib.hid hx; have Hbl := Lib.hid hbl; clear hx hbl))
    go_ret2
    exact ⟨_, x, rfl, ⟨by omega, .inl ⟨rfl, rfl⟩⟩, Hx.out, (Hd.out.below _).trans (Hbl.out.mono (Hd.out.below 0).size)⟩
  · have h1 := cmpN_ge (Nat.le_of_not_lt h)
    generalize cmpN a b = cc at h1 hcmp
    obtain ⟨hal, hu⟩ := hu
    obtain ⟨hbl, hv⟩ := hv
    obtain ⟨rfl, rfl⟩ | ⟨ha0, b1, o1, rfl, hc1⟩ := hu
    · omega
    obtain ⟨rfl, rfl⟩ | ⟨_, b2, o2, rfl, hc2⟩ := hv
    · omega
    have Hcmp := Lib.hid hcmp
    have HA := Lib.hid hal
    have HB := Lib.hid hbl
    have hlt2 : b2 < w.heap.size := by obtain ⟨ob, ho, _⟩ := cells_of_cell hc2; exact (Array.getElem?_eq_some_iff.1 ho).1
    have hq0 : 0 < a / b := Nat.div_pos (Nat.le_of_not_lt h) hb0
    have hql : a / b < 18446744073709551616 := Nat.lt_of_le_of_lt (Nat.div_le_self _ _) hal
    have hrl : a % b < 18446744073709551616 := Nat.lt_of_le_of_lt (Nat.mod_le _ _) hal
    have DW := fun W bb (hc) (hf) => divideByWord_any a b bb 0 W hal hb0 hbl hc hf
    have CF := fun W (hc) => copied_fresh a b1 o1 W ha0 hal hc
    obtain ⟨q, hq⟩ : ∃ q, a / b = q := ⟨_, rfl⟩
    obtain ⟨r, hr⟩ : ∃ r, a % b = r := ⟨_, rfl⟩
    rw [hq, hr] at DW
    rw [hq] at hq0 hql ⊢
    rw [hr] at hrl ⊢
    have HDW := Lib.hid DW
    have HCF := Lib.hid CF
    have HQ := Lib.hid hql
    have HRl := Lib.hid hrl
    have WR := Lib.hid (fun W => word_any r W hrl)
    clear hcmp h hal hbl hq hr DW CF hql hrl
    go_enter Tryz.func120, Tryz.ntmps120
    go_wp2_with (first | (go_at_call 116; refine Hcmp.out.mono ?_; rintro e w1 ⟨rfl, hd⟩; have k1 := (hd.cell ⟨b1, o1, none⟩).trans hc1; have k2 := (hd.cell ⟨b2, o2, none⟩).trans hc2; have Hs := Lib.hid ((hd.below 0).size); have Hd := Lib.hid hd; clear hd))
    refine (HCF.out _ k1).mono ?_
    rintro e w2 ⟨rfl, c2, f2, hb2⟩
    have k3 : w2.cell? ⟨b2, o2, none⟩ = some (.int .u64 b) := (hb2.cell (p := ⟨b2, o2, none⟩) (Nat.lt_of_lt_of_le hlt2 Hs.out)).trans k2
    have Hb2 := Lib.hid hb2
    have D2 := Lib.hid (HDW.out w2 _ c2 f2)
    clear hb2 k1 k2
    go_wp2_with fail
    refine D2.out.mono ?_
    rintro e w3 ⟨rfl, c3, hb3⟩
    have Hb3 := Lib.hid hb3
    clear hb3
    go_wp2_with fail
    refine (cut_one q w1.heap.size 0 1 w3 hq0 HQ.out (Nat.le_refl _) (by unfold maxLen; omega) c3).mono ?_
    rintro e w4 ⟨rfl, hd4⟩
    have c4 := (hd4.cell ⟨w1.heap.size, 0, none⟩).trans c3
    have Hd4 := Lib.hid hd4
    clear hd4 c3 c2 f2
    go_wp2_with fail
    refine (WR.out _).mono ?_
    rintro e w5 ⟨y, rfl, hy, hb5⟩
    have Hy := Lib.hid hy
    have Hb5 := Lib.hid hb5
    clear hy hb5
    go_wp2_with fail
    go_ret2
    have hDx : Dig w4 (.slice (some ⟨w1.heap.size, 0, none⟩) 1 1) q := ⟨HQ.out, .inr ⟨hq0, _, _, rfl, c4⟩⟩
    have hw1 := (Hd.out.below w.heap.size)
    have s1 := hw1.size
    have s2 := Hb2.out.size
    have s3 := Hb3.out.size
    have s4 := (Hd4.out.below 0).size
    exact ⟨_, y, rfl, hDx.below Hb5.out, Hy.out, (((hw1.trans (Hb2.out.mono s1)).trans (Hb3.out.mono s1)).trans (Hd4.out.below _)).trans (Hb5.out.mono (by omega))⟩

set_option maxRecDepth 100000 in
set_option maxHeartbeats 400000 in
theorem exactly_any (u v : Value) (a b : Nat) (w : World) (hu : Dig w u a) (hv : Dig w v b) (hb0 : 0 < b) :
    Calls Tryz.prog 171 #[u, v] w fun e w' => ∃ x, e = .returned x ∧ Dig w' x (a / b) ∧ Below w.heap.size w w' := by
  have ho := isOne_any v b w hv
  by_cases h1 : b = 1
  · subst h1
    have e1 : decide (1 = 1) = true := rfl
    rw [e1] at ho
    have Ho := Lib.hid ho
    have Hu := Lib.hid hu
    clear ho hu hv e1
    go_enter Tryz.func171, Tryz.ntmps171
    go_wp2_with fail
    refine Ho.out.mono ?_
    rintro e w1 ⟨rfl, hd⟩
    have Hd := Lib.hid hd
    clear hd
    go_wp2_with fail
    refine (copied_any _ _ _ (Hu.out.drew Hd.out)).mono ?_
    rintro e w2 ⟨x, rfl, hx, hbl⟩
    have Hx := Lib.hid hx
    have Hbl := Lib.hid hbl
    clear hx hbl
    go_wp2_with fail
    go_ret
    exact ⟨x, rfl, by rw [Nat.div_one]; exact Hx.out, (Hd.out.below _).trans (Hbl.out.mono (Hd.out.below 0).size)⟩
  · have e1 : decide (b = 1) = false := by simp [h1]
    rw [e1] at ho
    have Ho := Lib.hid ho
    have Hu := Lib.hid hu
    have Hv := Lib.hid hv
    clear ho hu hv e1
    go_enter Tryz.func171, Tryz.ntmps171
    go_wp2_with fail
    refine Ho.out.mono ?_
    rintro e w1 ⟨rfl, hd⟩
    have Hd := Lib.hid hd
    clear hd
    go_wp2_with fail
    refine (divide_any _ _ _ _ _ (Hu.out.drew Hd.out) (Hv.out.drew Hd.out) hb0).mono ?_
    rintro e w2 ⟨x, y, rfl, hx, _, hbl⟩
    have Hx := Lib.hid hx
    have Hbl := Lib.hid hbl
    clear hx hbl
    go_wp2_with fail
    go_ret
    exact ⟨x, rfl, Hx.out, (Hd.out.below _).trans (Hbl.out.mono (Hd.out.below 0).size)⟩

set_option maxRecDepth 100000 in
set_option maxHeartbeats 1000000 in
theorem shorten_any (u v : Value) (a b : Nat) (w : World) (hu : Dig w u a) (hv : Dig w v b) (hb0 : 0 < b) :
    Calls Tryz.prog 172 #[u, v] w fun e w' => ∃ x y, e = .returned (.tuple #[x, y]) ∧ Dig w' x (a / Nat.gcd a b) ∧ Dig w' y (b / Nat.gcd a b) ∧ Below w.heap.size w w' := by
  have hg0 : 0 < Nat.gcd a b := Nat.gcd_pos_of_pos_right _ hb0
  have G := gcd_any u v a b w hu hv
  obtain ⟨g, hg⟩ : ∃ g, Nat.gcd a b = g := ⟨_, rfl⟩
  rw [hg] at hg0 G ⊢
  have HG := Lib.hid G
  have Hu := Lib.hid hu
  have Hv := Lib.hid hv
  clear G hu hv hg
  go_enter Tryz.func172, Tryz.ntmps172
  go_wp2_with fail
  refine HG.out.mono ?_
  rintro e w1 ⟨x, rfl, hx, hb1⟩
  have Hx := Lib.hid hx
  have Hb1 := Lib.hid hb1
  clear hx hb1
  go_wp2_with fail
  refine (exactly_any _ _ _ _ _ (Hu.out.below Hb1.out) Hx.out hg0).mono ?_
  rintro e w2 ⟨y, rfl, hy, hb2⟩
  have Hy := Lib.hid hy
  have Hb2 := Lib.hid hb2
  clear hy hb2
  go_wp2_with fail
  have hv2 : Dig w2 v b := (Hv.out.below Hb1.out).below Hb2.out
  refine (exactly_any _ _ _ _ _ hv2 (Hx.out.below Hb2.out) hg0).mono ?_
  rintro e w3 ⟨z, rfl, hz, hb3⟩
  have Hz := Lib.hid hz
  have Hb3 := Lib.hid hb3
  clear hz hb3 hv2
  go_wp2_with fail
  go_ret2
  exact ⟨y, z, rfl, Hy.out.below Hb3.out, Hz.out, (Hb1.out.trans (Hb2.out.mono Hb1.out.size)).trans (Hb3.out.mono (Nat.le_trans Hb1.out.size Hb2.out.size))⟩
end Go.Proofs.YtamhlkjfpdkhoaaGreatDoor
