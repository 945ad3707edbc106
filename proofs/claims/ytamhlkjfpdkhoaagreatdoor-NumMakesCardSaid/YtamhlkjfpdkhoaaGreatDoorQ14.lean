import Derived.Test.YtamhlkjfpdkhoaaGreatDoorQ13
import Derived.Laws.Externs
/- WALKS of the numbers of one word at most, more: divideByWord, divide, exactly, shorten. -/
namespace Go.Proofs.YtamhlkjfpdkhoaaGreatDoor
open Go.RowKit

theorem Drew.frozen {w w' : World} (h : Drew w w') (a : Addr) : w'.frozen? a = w.frozen? a := by
  obtain ⟨n, rfl⟩ := h
  induction n with
  | zero => rfl
  | succ n ih => exact ih

set_option maxRecDepth 1000000 in
set_option maxHeartbeats 400000 in
theorem copied_fresh (n b o : Nat) (w : World) (h0 : 0 < n) (hn : n < 18446744073709551616) (hc : w.cell? ⟨b, o, none⟩ = some (.int .u64 n)) :
    Calls Tryz.prog 91 #[.slice (some ⟨b, o, none⟩) 1 1] w fun e w' => e = .returned (.slice (some ⟨w.heap.size, 0, none⟩) 1 1) ∧ w'.cell? ⟨w.heap.size, 0, none⟩ = some (.int .u64 n) ∧ w'.frozen? ⟨w.heap.size, 0, none⟩ = false ∧ Below w.heap.size w w' := by
  have HN := Lib.hid hn
  clear hn
  have hmk : ∀ w, (Instr.makeSlice 28 (.int .i64 1) (.int .i64 1)).run Tryz.prog w = .ok (.slice (some ⟨w.heap.size, 0, none⟩) 1 1) (w.alloc (.cells #[.int .u64 0] 102)) := fun _ => by kernel_rfl
  have hlt : b < w.heap.size := by obtain ⟨ob, ho, _⟩ := cells_of_cell hc; exact (Array.getElem?_eq_some_iff.1 ho).1
  have hcx : (w.alloc (.cells #[.int .u64 0] 102)).cell? ⟨b, o, none⟩ = some (.int .u64 n) := (((Below.refl w.heap.size w).alloc (Nat.le_refl _) _).cell (p := ⟨b, o, none⟩) hlt).trans hc
  have hsrc : ∀ j v, [Value.int .u64 (n : Int)][j]? = some v → (w.alloc (.cells #[.int .u64 0] 102)).cell? ((⟨b, o, none⟩ : Addr).add j) = some v := by
    intro j v hj
    cases j with
    | zero => simp at hj; subst hj; simpa [Addr.add] using hcx
    | succ j => simp at hj
  have Hsrc := Lib.hid hsrc
  clear hsrc
  go_enter Tryz.func91, Tryz.ntmps91
  go_wp2_with (first | (with_reducible refine wpList_copy_splice rfl (.tmp 7) (.tmp 8) 28 29 rfl 102 Tryz.underlying28 (by kernel_rfl) _ _ 1 1 1 1 rfl rfl w.heap.size 0 [.int .u64 0] 102 (World.alloc_heap_new w _) [.int .u64 n] rfl (fun _ => ⟨rfl, _, rfl, Hsrc.out⟩) (by simp) (by simp [Value.oneCell']) w.heap.size w ((Below.refl _ _).alloc (Nat.le_refl _) _) (Nat.le_refl _) ?_; intro w2 hw2 hb2; have hc2 : w2.cell? ⟨w.heap.size, 0, none⟩ = some (.int .u64 n) := (by simp [World.cell?, hw2.out, splice]); have Hf2 : Hid (w2.frozen? ⟨w.heap.size, 0, none⟩ = false) := Lib.hid (by simp [World.frozen?, hw2.out]); have Hb2 := Lib.hid hb2; clear hb2) | (go_at_call 151; refine (cut_one n _ _ _ _ h0 HN.out (by omega) (by unfold maxLen; omega) (by assumption)).mono ?_; rintro e w1 ⟨rfl, hd⟩; have Hd := Lib.hid hd; clear hd))
  go_ret
  refine ⟨rfl, ?_, ?_, Hb2.out.trans (Hd.out.below _)⟩
  · rw [Hd.out.cell]; assumption
  · obtain ⟨k, hk⟩ := Hd.out
    have := (Drew.below ⟨k, hk⟩ (w.heap.size + 1)).frozen (p := ⟨w.heap.size, 0, none⟩) (by simp)
    rw [this]; exact Hf2.out

set_option maxRecDepth 100000 in
set_option maxHeartbeats 1000000 in
theorem divideByWord_any (n d b o : Nat) (w : World) (hn : n < 18446744073709551616) (hd0 : 0 < d) (hd : d < 18446744073709551616) (hc : w.cell? ⟨b, o, none⟩ = some (.int .u64 n)) (hf : w.frozen? ⟨b, o, none⟩ = false) :
    Calls Tryz.prog 163 #[.slice (some ⟨b, o, none⟩) 1 1, .int .u64 d] w fun e w' => e = .returned (.int .u64 (n % d : Nat)) ∧ w'.cell? ⟨b, o, none⟩ = some (.int .u64 (n / d : Nat)) ∧ Below b w w' := by
  have DV := fun W => Div64_any 0 n d W hd0 hn hd
  rw [Nat.zero_mul, Nat.zero_add] at DV
  obtain ⟨q, hq⟩ : ∃ q, n / d = q := ⟨_, rfl⟩
  obtain ⟨r, hr⟩ : ∃ r, n % d = r := ⟨_, rfl⟩
  rw [hq, hr] at DV ⊢
  have HDV := Lib.hid DV
  clear DV hn hd hq hr
  go_enter Tryz.func163, Tryz.ntmps163
  go_wp2
  refine wp_loop_rounds 2 ?_
  rw [rounds_succ]
  go_wp2_with fail
  refine (HDV.out _).mono ?_
  rintro e w1 ⟨rfl, hd1⟩
  have hc1 := (hd1.cell ⟨b, o, none⟩).trans hc
  have hf1 := (hd1.frozen ⟨b, o, none⟩).trans hf
  have Hd1 := Lib.hid hd1
  clear hd1 hc hf
  go_wp2
  rw [rounds_succ]
  go_wp2
  go_ret
  refine ⟨rfl, ?_, (Hd1.out.below _).trans ((Below.refl b w1).setCell (by simp) _)⟩
  exact World.cell?_setCell_same' _ _ _ (by rw [hc1]; rfl)

set_option maxRecDepth 100000 in
set_option maxHeartbeats 1000000 in
theorem divide_any (u v : Value) (a b : Nat) (w : World) (hu : Dig w u a) (hv : Dig w v b) (hb0 : 0 < b) :
    Calls Tryz.prog 120 #[u, v] w fun e w' => ∃ x y, e = .returned (.tuple #[x, y]) ∧ Dig w' x (a / b) ∧ Dig w' y (a % b) ∧ Below w.heap.size w w' := by
  have hcmp := compare_any u v a b w hu hv
  by_cases h : a < b
  · have h1 := cmpN_lt h
    have e1 : a / b = 0 := Nat.div_eq_of_lt h
    have e2 : a % b = a := Nat.mod_eq_of_lt h
    rw [e1, e2]
    generalize cmpN a b = cc at h1 hcmp
    have Hcmp := Lib.hid hcmp
    have Hu := Lib.hid hu
    clear hcmp hu hv h e1 e2
    go_enter Tryz.func120, Tryz.ntmps120
    go_wp2_with (first | (go_at_call 116; refine Hcmp.out.mono ?_; rintro e w1 ⟨rfl, hd⟩; have Hd := Lib.hid hd; clear hd) | (go_at_call 91; refine (copied_any _ _ _ (Hu.out.drew Hd.out)).mono ?_; rintro e w2 ⟨x, rfl, hx, hbl⟩; have Hx := Lib.hid hx; have Hbl := Lib.hid hbl; clear hx hbl))
    go_ret2
    exact ⟨_, x, rfl, ⟨by omega, .inl ⟨rfl, rfl⟩⟩, Hx.out, (Hd.out.below _).trans (Hbl.out.mono (Hd.out.below 0).size)⟩
  · have h1 := cmpN_ge (Nat.le_of_not_lt h)
    generalize cmpN a b = cc at h1 hcmp
    obtain ⟨hal, hu⟩ := hu
    obtain ⟨hbl, hv⟩ := hv
    obtain ⟨rfl, rfl⟩ | ⟨ha0, b1, o1, rfl, hc1⟩ := hu
    · omega
    obtain ⟨rfl, rfl⟩ | ⟨_, b2, o2, rfl, hc2⟩ := hv
    · omega
    have Hcmp := Lib.hid hcmp
    have HA := Lib.hid hal
    have HB := Lib.hid hbl
    have hlt2 : b2 < w.heap.size := by obtain ⟨ob, ho, _⟩ := cells_of_cell hc2; exact (Array.getElem?_eq_some_iff.1 ho).1
    have hq0 : 0 < a / b := Nat.div_pos (Nat.le_of_not_lt h) hb0
    have hql : a / b < 18446744073709551616 := Nat.lt_of_le_of_lt (Nat.div_le_self _ _) hal
    have hrl : a % b < 18446744073709551616 := Nat.lt_of_le_of_lt (Nat.mod_le _ _) hal
    have DW := fun W bb (hc) (hf) => divideByWord_any a b bb 0 W hal hb0 hbl hc hf
    have CF := fun W (hc) => copied_fresh a b1 o1 W ha0 hal hc
    obtain ⟨q, hq⟩ : ∃ q, a / b = q := ⟨_, rfl⟩
    obtain ⟨r, hr⟩ : ∃ r, a % b = r := ⟨_, rfl⟩
    rw [hq, hr] at DW
    rw [hq] at hq0 hql ⊢
    rw [hr] at hrl ⊢
    have HDW := Lib.hid DW
    have HCF := Lib.hid CF
    have HQ := Lib.hid hql
    have HRl := Lib.hid hrl
    have WR := Lib.hid (fun W => word_any r W hrl)
    clear hcmp h hal hbl hq hr DW CF hql hrl
    go_enter Tryz.func120, Tryz.ntmps120
    go_wp2_with (first | (go_at_call 116; refine Hcmp.out.mono ?_; rintro e w1 ⟨rfl, hd⟩; have k1 := (hd.cell ⟨b1, o1, none⟩).trans hc1; have k2 := (hd.cell ⟨b2, o2, none⟩).trans hc2; have Hs := Lib.hid ((hd.below 0).size); have Hd := Lib.hid hd; clear hd))
    refine (HCF.out _ k1).mono ?_
    rintro e w2 ⟨rfl, c2, f2, hb2⟩
    have k3 : w2.cell? ⟨b2, o2, none⟩ = some (.int .u64 b) := (hb2.cell (p := ⟨b2, o2, none⟩) (Nat.lt_of_lt_of_le hlt2 Hs.out)).trans k2
    have Hb2 := Lib.hid hb2
    have D2 := Lib.hid (HDW.out w2 _ c2 f2)
    clear hb2 k1 k2
    go_wp2_with fail
    refine D2.out.mono ?_
    rintro e w3 ⟨rfl, c3, hb3⟩
    have Hb3 := Lib.hid hb3
    clear hb3
    go_wp2_with fail
    refine (cut_one q w1.heap.size 0 1 w3 hq0 HQ.out (Nat.le_refl _) (by unfold maxLen; omega) c3).mono ?_
    rintro e w4 ⟨rfl, hd4⟩
    have c4 := (hd4.cell ⟨w1.heap.size, 0, none⟩).trans c3
    have Hd4 := Lib.hid hd4
    clear hd4 c3 c2 f2
    go_wp2_with fail
    refine (WR.out _).mono ?_
    rintro e w5 ⟨y, rfl, hy, hb5⟩
    have Hy := Lib.hid hy
    have Hb5 := Lib.hid hb5
    clear hy hb5
    go_wp2_with fail
    go_ret2
    have hDx : Dig w4 (.slice (some ⟨w1.heap.size, 0, none⟩) 1 1) q := ⟨HQ.out, .inr ⟨hq0, _, _, rfl, c4⟩⟩
    have hw1 := (Hd.out.below w.heap.size)
    have s1 := hw1.size
    have s2 := Hb2.out.size
    have s3 := Hb3.out.size
    have s4 := (Hd4.out.below 0).size
    exact ⟨_, y, rfl, hDx.below Hb5.out, Hy.out, (((hw1.trans (Hb2.out.mono s1)).trans (Hb3.out.mono s1)).trans (Hd4.out.below _)).trans (Hb5.out.mono (by omega))⟩

set_option maxRecDepth 100000 in
set_option maxHeartbeats 400000 in
theorem exactly_any (u v : Value) (a b : Nat) (w : World) (hu : Dig w u a) (hv : Dig w v b) (hb0 : 0 < b) :
    Calls Tryz.prog 171 #[u, v] w fun e w' => ∃ x, e = .returned x ∧ Dig w' x (a / b) ∧ Below w.heap.size w w' := by
  have ho := isOne_any v b w hv
  by_cases h1 : b = 1
  · subst h1
    have e1 : decide (1 = 1) = true := rfl
    rw [e1] at ho
    have Ho := Lib.hid ho
    have Hu := Lib.hid hu
    clear ho hu hv e1
    go_enter Tryz.func171, Tryz.ntmps171
    go_wp2_with fail
    refine Ho.out.mono ?_
    rintro e w1 ⟨rfl, hd⟩
    have Hd := Lib.hid hd
    clear hd
    go_wp2_with fail
    refine (copied_any _ _ _ (Hu.out.drew Hd.out)).mono ?_
    rintro e w2 ⟨x, rfl, hx, hbl⟩
    have Hx := Lib.hid hx
    have Hbl := Lib.hid hbl
    clear hx hbl
    go_wp2_with fail
    go_ret
    exact ⟨x, rfl, by rw [Nat.div_one]; exact Hx.out, (Hd.out.below _).trans (Hbl.out.mono (Hd.out.below 0).size)⟩
  · have e1 : decide (b = 1) = false := by simp [h1]
    rw [e1] at ho
    have Ho := Lib.hid ho
    have Hu := Lib.hid hu
    have Hv := Lib.hid hv
    clear ho hu hv e1
    go_enter Tryz.func171, Tryz.ntmps171
    go_wp2_with fail
    refine Ho.out.mono ?_
    rintro e w1 ⟨rfl, hd⟩
    have Hd := Lib.hid hd
    clear hd
    go_wp2_with fail
    refine (divide_any _ _ _ _ _ (Hu.out.drew Hd.out) (Hv.out.drew Hd.out) hb0).mono ?_
    rintro e w2 ⟨x, y, rfl, hx, _, hbl⟩
    have Hx := Lib.hid hx
    have Hbl := Lib.hid hbl
    clear hx hbl
    go_wp2_with fail
    go_ret
    exact ⟨x, rfl, Hx.out, (Hd.out.below _).trans (Hbl.out.mono (Hd.out.below 0).size)⟩

set_option maxRecDepth 100000 in
set_option maxHeartbeats 1000000 in
theorem shorten_any (u v : Value) (a b : Nat) (w : World) (hu : Dig w u a) (hv : Dig w v b) (hb0 : 0 < b) :
    Calls Tryz.prog 172 #[u, v] w fun e w' => ∃ x y, e = .returned (.tuple #[x, y]) ∧ Dig w' x (a / Nat.gcd a b) ∧ Dig w' y (b / Nat.gcd a b) ∧ Below w.heap.size w w' := by
  have hg0 : 0 < Nat.gcd a b := Nat.gcd_pos_of_pos_right _ hb0
  have G := gcd_any u v a b w hu hv
  obtain ⟨g, hg⟩ : ∃ g, Nat.gcd a b = g := ⟨_, rfl⟩
  rw [hg] at hg0 G ⊢
  have HG := Lib.hid G
  have Hu := Lib.hid hu
  have Hv := Lib.hid hv
  clear G hu hv hg
  go_enter Tryz.func172, Tryz.ntmps172
  go_wp2_with fail
  refine HG.out.mono ?_
  rintro e w1 ⟨x, rfl, hx, hb1⟩
  have Hx := Lib.hid hx
  have Hb1 := Lib.hid hb1
  clear hx hb1
  go_wp2_with fail
  refine (exactly_any _ _ _ _ _ (Hu.out.below Hb1.out) Hx.out hg0).mono ?_
  rintro e w2 ⟨y, rfl, hy, hb2⟩
  have Hy := Lib.hid hy
  have Hb2 := Lib.hid hb2
  clear hy hb2
  go_wp2_with fail
  have hv2 : Dig w2 v b := (Hv.out.below Hb1.out).below Hb2.out
  refine (exactly_any _ _ _ _ _ hv2 (Hx.out.below Hb2.out) hg0).mono ?_
  rintro e w3 ⟨z, rfl, hz, hb3⟩
  have Hz := Lib.hid hz
  have Hb3 := Lib.hid hb3
  clear hz hb3 hv2
  go_wp2_with fail
  go_ret2
  exact ⟨y, z, rfl, Hy.out.below Hb3.out, Hz.out, (Hb1.out.trans (Hb2.out.mono Hb1.out.size)).trans (Hb3.out.mono (Nat.le_trans Hb1.out.size Hb2.out.size))⟩
end Go.Proofs.YtamhlkjfpdkhoaaGreatDoor

/- WALKS of the numbers of one word at most, more: multiplyAdd, addProduct, times. -/
set_option linter.unusedVariables false
namespace Go.Proofs.YtamhlkjfpdkhoaaGreatDoor
open Go.RowKit

theorem add64_run (x y c : Nat) (hc : c ≤ 1) (w : World) :
    (callFunc 199 #[.int .u64 x, .int .u64 y, .int .u64 c]).run Tryz.prog w =
      .ok (.value (.tuple #[.int .u64 (((x + y + c) % 18446744073709551616 : Nat) : Int), .int .u64 (((x + y + c) / 18446744073709551616 : Nat) : Int)])) w := by
  rw [run_callFunc_extern Tryz.func199 (by kernel_rfl) (by kernel_rfl) (by kernel_rfl) (e := add64Entry) (by kernel_rfl), run_add64 x y c (by omega) (by omega) (by omega) (by omega)]
  simp only [Result.andThen]
  congr 5 <;> omega

theorem add64_small (x y s : Nat) (hs : x + y = s) (h : s < 18446744073709551616) (w : World) :
    (callFunc 199 #[.int .u64 x, .int .u64 y, .int .u64 0]).run Tryz.prog w =
      .ok (.value (.tuple #[.int .u64 (s : Int), .int .u64 0])) w := by
  have := add64_run x y 0 (by omega) w
  have e1 : (x + y + 0) % 18446744073709551616 = s := by omega
  have e2 : (x + y + 0) / 18446744073709551616 = 0 := by omega
  rw [e1, e2] at this
  exact this

set_option maxHeartbeats 400000 in
theorem multiplyAdd_small (x y z s : Nat) (w : World) (hx : x < 18446744073709551616) (hy : y < 18446744073709551616) (hs : x * y + z = s) (h : s < 18446744073709551616) :
    Calls Tryz.prog 186 #[.int .u64 x, .int .u64 y, .int .u64 z] w fun e w' => e = .returned (.tuple #[.int .u64 0, .int .u64 s]) ∧ Drew w w' := by
  have M := fun W => Tryz.bits_Mul64 x y hx hy W
  obtain ⟨p, hp⟩ : ∃ p, x * y = p := ⟨_, rfl⟩
  rw [hp] at M hs
  have e1 : p / 18446744073709551616 = 0 := by omega
  have e2 : p % 18446744073709551616 = p := by omega
  simp only [e1, e2] at M
  have A1 := fun W => add64_small p z s hs h W
  have HM := Lib.hid M
  clear M hx hy hs h e1 e2 hp
  go_enter Tryz.func186, Tryz.ntmps186
  go_wp2_with fail
  refine (HM.out _).mono ?_
  rintro e w1 ⟨rfl, rfl⟩
  go_wp2_with fail
  go_ret2
  exact ⟨rfl, Drew.refl _⟩

set_option maxHeartbeats 400000 in
theorem cut_two (n b o c : Nat) (w : World) (h0 : 0 < n) (hn : n < 18446744073709551616) (hcap : 2 ≤ c) (hcm : c ≤ maxLen) (hc : w.cell? ⟨b, o, none⟩ = some (.int .u64 n)) (hc1 : w.cell? ⟨b, o + 1, none⟩ = some (.int .u64 0)) :
    Calls Tryz.prog 151 #[.slice (some ⟨b, o, none⟩) 2 c] w fun e w' => e = .returned (.slice (some ⟨b, o, none⟩) 1 1) ∧ Drew w w' := by
  have t1 : ((n : Int) == 0) = false := by rw [beq_eq_false_iff_ne]; omega
  unfold maxLen at hcm
  go_enter Tryz.func151, Tryz.ntmps151
  go_wp2
  refine wp_loop_rounds 2 ?_
  rw [rounds_succ]
  go_wp2
  rw [rounds_succ]
  go_wp2
  go_ret
  exact ⟨rfl, Drew.refl _⟩

set_option maxRecDepth 100000 in
set_option maxHeartbeats 1000000 in
theorem addProduct_one (x y p b o c d od : Nat) (w : World) (hx : x < 18446744073709551616) (hy : y < 18446744073709551616) (hp : x * y = p) (h : p < 18446744073709551616) (hcap : 1 ≤ c)
    (hc : w.cell? ⟨b, o, none⟩ = some (.int .u64 0)) (hf : w.frozen? ⟨b, o, none⟩ = false) (hd : w.cell? ⟨d, od, none⟩ = some (.int .u64 x)) :
    Calls Tryz.prog 192 #[.slice (some ⟨b, o, none⟩) 1 c, .slice (some ⟨d, od, none⟩) 1 1, .int .u64 y] w fun e w' => e = .returned (.int .u64 0) ∧ ∃ w0, Drew w w0 ∧ w' = w0.setCell ⟨b, o, none⟩ (.int .u64 p) := by
  have M := fun W => multiplyAdd_small x y 0 p W hx hy (by omega) h
  have A1 : ∀ W, (callFunc 199 #[.int .u64 0, .int .u64 p, .int .u64 0]).run Tryz.prog W = .ok (.value (.tuple #[.int .u64 (p : Int), .int .u64 0])) W := fun W => add64_small 0 p p (by omega) h W
  have HM := Lib.hid M
  clear M hx hy hp h
  go_enter Tryz.func192, Tryz.ntmps192
  go_wp2
  refine wp_loop_rounds 2 ?_
  rw [rounds_succ]
  go_wp2_with fail
  refine (HM.out _).mono ?_
  rintro e w1 ⟨rfl, hd1⟩
  have k1 := (hd1.cell ⟨b, o, none⟩).trans hc
  have k2 := (hd1.frozen ⟨b, o, none⟩).trans hf
  have Hd1 := Lib.hid hd1
  clear hd1 hc hf
  go_wp2
  rw [rounds_succ]
  go_wp2
  go_ret
  exact ⟨rfl, w1, Hd1.out, rfl⟩

set_option maxRecDepth 1000000 in
set_option maxHeartbeats 1000000 in
theorem times_pos (u v : Value) (a b p : Nat) (w : World) (hu : Dig w u a) (hv : Dig w v b) (ha0 : 0 < a) (hb0 : 0 < b) (hp : a * b = p) (hpl : p < 18446744073709551616) :
    Calls Tryz.prog 158 #[u, v] w fun e w' => ∃ x, e = .returned x ∧ Dig w' x p ∧ Below w.heap.size w w' := by
  have hp0 : 0 < p := by rw [← hp]; exact Nat.mul_pos ha0 hb0
  obtain ⟨hal, hu⟩ := hu
  obtain ⟨hbl, hv⟩ := hv
  obtain ⟨rfl, rfl⟩ | ⟨_, b1, o1, rfl, hc1⟩ := hu
  · omega
  obtain ⟨rfl, rfl⟩ | ⟨_, b2, o2, rfl, hc2⟩ := hv
  · omega
  have hlt1 : b1 < w.heap.size := by obtain ⟨ob, ho, _⟩ := cells_of_cell hc1; exact (Array.getElem?_eq_some_iff.1 ho).1
  have hlt2 : b2 < w.heap.size := by obtain ⟨ob, ho, _⟩ := cells_of_cell hc2; exact (Array.getElem?_eq_some_iff.1 ho).1
  have hmk : ∀ w, (Instr.makeSlice 28 (.int .i64 2) (.int .i64 2)).run Tryz.prog w = .ok (.slice (some ⟨w.heap.size, 0, none⟩) 2 2) (w.alloc (.cells #[.int .u64 0, .int .u64 0] 102)) := fun _ => by kernel_rfl
  have P := fun W (h1) (h2) (h3) => addProduct_one b a p w.heap.size 0 2 b2 o2 W hbl hal (by rw [Nat.mul_comm]; exact hp) hpl (by omega) h1 h2 h3
  have HP := Lib.hid P
  have HL := Lib.hid hpl
  clear P hal hbl hp hpl ha0 hb0
  go_enter Tryz.func158, Tryz.ntmps158
  go_wp2
  refine wp_loop_rounds 2 ?_
  rw [rounds_succ]
  go_wp2_with fail
  have h2' : (w.alloc (.cells #[.int .u64 0, .int .u64 0] 102)).cell? ⟨b2, o2, none⟩ = some (.int .u64 b) := (((Below.refl w.heap.size w).alloc (Nat.le_refl _) _).cell (p := ⟨b2, o2, none⟩) hlt2).trans hc2
  refine (HP.out _ (by simp) (by simp) h2').mono ?_
  rintro e w1 ⟨rfl, w0, hd0, hw1⟩
  have k0 : w0.cell? ⟨w.heap.size, 0, none⟩ = some (.int .u64 0) := (hd0.cell _).trans (by simp)
  have c0 : w1.cell? ⟨w.heap.size, 0, none⟩ = some (.int .u64 p) := by rw [hw1]; exact World.cell?_setCell_same' _ _ _ (by rw [k0]; rfl)
  have c1 : w1.cell? ⟨w.heap.size, 1, none⟩ = some (.int .u64 0) := by rw [hw1, World.cell?_setCell_other _ _ _ _ (by simp), hd0.cell]; simp
  have f1 : w1.frozen? ⟨w.heap.size, 1, none⟩ = false := by rw [hw1, World.frozen?_setCell, hd0.frozen]; simp
  have bl : Below w.heap.size w w1 := by rw [hw1]; exact (((Below.refl w.heap.size w).alloc (Nat.le_refl _) _).trans (hd0.below _)).setCell (by simp) _
  have Bl := Lib.hid bl
  clear hw1 k0 h2' bl hd0
  go_wp2_with fail
  have e0 : (w1.setCell ⟨w.heap.size, 1, none⟩ (.int .u64 0)).cell? ⟨w.heap.size, 0, none⟩ = some (.int .u64 p) := by rw [World.cell?_setCell_other _ _ _ _ (by simp)]; exact c0
  have e1 : (w1.setCell ⟨w.heap.size, 1, none⟩ (.int .u64 0)).cell? ⟨w.heap.size, 0 + 1, none⟩ = some (.int .u64 0) := World.cell?_setCell_same' _ _ _ (by rw [c1]; rfl)
  have bl : Below w.heap.size w (w1.setCell ⟨w.heap.size, 1, none⟩ (.int .u64 0)) := Bl.out.setCell (by simp) _
  clear Bl
  generalize w1.setCell ⟨w.heap.size, 1, none⟩ (.int .u64 0) = w2 at *
  have Bl := Lib.hid bl
  clear bl
  rw [rounds_succ]
  go_wp2_with fail
  refine (cut_two p _ _ _ _ hp0 HL.out (by omega) (by unfold maxLen; omega) e0 e1).mono ?_
  rintro e w3 ⟨rfl, hd3⟩
  have Hd3 := Lib.hid hd3
  clear hd3
  go_wp2_with fail
  go_ret
  exact ⟨_, rfl, ⟨HL.out, .inr ⟨hp0, _, _, rfl, (Hd3.out.cell _).trans e0⟩⟩, Bl.out.trans (Hd3.out.below _)⟩
end Go.Proofs.YtamhlkjfpdkhoaaGreatDoor
