import Derived.Test.YtamhlkjfpdkhoaaGreatDoorQ3
import Derived.Test.YtamhlkjfpdkhoaaGreatDoorQ4
import Derived.Test.YtamhlkjfpdkhoaaGreatDoorQ9
import Derived.Outline
import Derived.Lib.BitFns
/- WALKS of the program's numbers of any size: cut, word, copied. -/
namespace Go.Proofs.YtamhlkjfpdkhoaaGreatDoor
open Go.RowKit

set_option maxRecDepth 100000 in
set_option maxHeartbeats 1000000 in
theorem cut_all (p : Option Addr) (c : Nat) (l : List Nat) (w : World) (h : Wds w (.slice p l.length c) l) (hlow : Low B64 l) :
    Calls Tryz.prog 151 #[.slice p l.length c] w fun e w' => (∃ v', e = .returned v' ∧ DN w v' (val B64 l) l.length ∧ (v' = .slice none 0 0 ∨ ∃ k, v' = .slice p k k)) ∧ Drew w w' := by
  obtain ⟨p', c', e0, h1, h2, h4⟩ := h
  simp only [Value.slice.injEq, true_and] at e0
  obtain ⟨rfl, rfl⟩ := e0
  have HL : Hid (Wds w (.slice p l.length c) l) := Lib.hid ⟨p, c, rfl, h1, h2, h4⟩
  have HLow := Lib.hid hlow
  have HC := Lib.hid h4
  have HM := Lib.hid h2
  unfold maxLen at h2
  clear h4 hlow
  go_enter Tryz.func151, Tryz.ntmps151
  go_wp2
  go_loopw [3] (fun a wr => ∃ k : Nat, k ≤ l.length ∧ a = .int .i64 k ∧ Hid (∀ d ∈ l.drop k, d = 0) ∧ Hid (Drew w wr)) (fun a _ => (intOf a).toNat)
  case atStart => exact ⟨l.length, Nat.le_refl _, rfl, Lib.hid (by simp), Lib.hid (Drew.refl _)⟩
  case round =>
    obtain ⟨k, hk, rfl, hz, hd⟩ := hrel
    by_cases hk0 : 0 < k
    · obtain ⟨d, hdd⟩ : ∃ d, l[k - 1]? = some d := ⟨_, List.getElem?_eq_getElem (by omega)⟩
      obtain ⟨g, rfl, c0⟩ := HC.out _ _ hdd
      have c0' : wr.cell? ⟨g, k - 1, none⟩ = some (.int .u64 d) := (hd.out.cell _).trans c0
      clear c0
      by_cases hd0 : d = 0
      · subst hd0
        have HZ := Lib.hid (drop_zero_step hk0 hdd hz.out)
        clear hdd
        go_wp2
        go_roundw
        case rel => exact ⟨k - 1, by omega, by go_num, HZ, hd⟩
        case measure => simp [intOf]; omega
      · have t1 : ((d : Int) == 0) = false := by simp; omega
        have HN := Lib.hid (norm_take HLow.out hk hz.out (.inr ⟨d, hdd, hd0⟩))
        clear hdd hd0
        go_wp2
        go_ret
        exact ⟨⟨_, rfl, ⟨l.take k, HL.out.take hk (Nat.le_refl _) (by have := HM.out; omega), HN.out.1, HN.out.2, by simp; omega⟩, .inr ⟨k, rfl⟩⟩, hd.out⟩
    · obtain rfl : k = 0 := by omega
      have HN := Lib.hid (norm_take HLow.out hk hz.out (.inl rfl))
      go_wp2
      go_ret
      exact ⟨⟨_, rfl, DN.zero HN.out.2.symm, .inl rfl⟩, hd.out⟩

theorem young_of {B : Nat} {p : Option Addr} {v : Value} (hp : ∀ a, p = some a → B ≤ a.block) (h : v = .slice none 0 0 ∨ ∃ k, v = .slice p k k) : Young B v := by
  rcases h with rfl | ⟨k, rfl⟩
  · exact young_nil B
  · intro q n c e
    simp only [Value.slice.injEq] at e
    exact hp _ e.1

set_option maxRecDepth 100000 in
set_option maxHeartbeats 1000000 in
theorem word_all (n : Nat) (w : World) (hn : n < 18446744073709551616) :
    Calls Tryz.prog 95 #[.int .u64 n] w fun e w' => RetD w n 1 e w' := by
  have CT := Lib.hid cut_all
  have HN := Lib.hid hn
  clear hn
  unfold RetD
  go_enter Tryz.func95, Tryz.ntmps95
  go_wp2_with fail
  have R0 : Row (w.alloc (.cells #[.int .u64 (n : Int)] 102)) w.heap.size [n] := heap_alloc_new _ _
  refine (CT.out (some ⟨w.heap.size, 0, none⟩) 1 [n] _ (R0.cells.wds (Nat.le_refl _) (by decide)) (Low.cons HN.out (Low.nil _))).mono ?_
  rintro _ w2 ⟨⟨v', rfl, hv, hf⟩, hd⟩
  have HV := Lib.hid hv
  have HF := Lib.hid hf
  have HD := Lib.hid hd
  clear hv hf hd R0
  go_wp2_with fail
  go_ret
  exact ⟨_, rfl, (by have h := HV.out.below (HD.out.below _); simpa [val] using h), young_of (by rintro _ ⟨⟩; exact Nat.le_refl _) HF.out, ((Below.refl _ _).alloc (Nat.le_refl _) _).trans (HD.out.below _)⟩

set_option maxRecDepth 1000000 in
set_option maxHeartbeats 1000000 in
theorem copied_main (p : Option Addr) (c : Nat) (l : List Nat) (w : World) (h1 : Wds w (.slice p l.length c) l) (h2 : Norm B64 l) (h6 : c ≤ maxLen) (hk : l.length ≤ 1073741824) (hlc : l.length ≤ c) :
    Calls Tryz.prog 91 #[.slice p l.length c] w fun e w' => ∃ v', e = .returned v' ∧ DN w' v' (val B64 l) l.length ∧ (v' = .slice none 0 0 ∨ ∃ k, v' = .slice (some ⟨w.heap.size, 0, none⟩) k k) ∧ Cells w' w.heap.size l ∧ Below w.heap.size w w' := by
  obtain ⟨i0, hi, hz0, hz1, hz2⟩ := info_parts infoWord
  have CT := Lib.hid cut_all
  have H1 := Lib.hid h1
  have H2 := Lib.hid h2
  have HC := Lib.hid h6
  have SRC : Hid (∀ W, Below w.heap.size w W → 0 < (words l).length → ∃ ad, p = some ad ∧ ∀ j v, (words l)[j]? = some v → W.cell? (ad.add j) = some v) := Lib.hid fun W hb h0 => wds_src h1 hb h0
  clear h1 h2 h6
  go_enter Tryz.func91, Tryz.ntmps91
  go_wp2_with (first
    | (at_make; refine wpList_make_full _ rfl _ _ 28 rfl w.heap.size 102 i0 (.int .u64 0) 1 Tryz.underlying28 hi hz0 hz1 .i64 .i64 (l.length : Int) (l.length : Int) l.length rfl rfl rfl rfl (by rw [hz2]; omega) (by unfold maxLen; omega) (Nat.le_refl _) ?_; intro w1 hown1 hgrow1; have R1 := Lib.hid (row_made hown1); have B1 := Lib.hid ((Below.refl w.heap.size w).grown hgrow1 (Nat.le_refl _) (fun k hk => by cases hk)); clear hown1 hgrow1)
    | ((with_reducible refine wpList_copy_splice rfl (.tmp 7) (.tmp 8) 28 29 rfl 102 Tryz.underlying28 (by kernel_rfl) _ _ l.length l.length l.length c rfl rfl w.heap.size 0 (words (List.replicate l.length 0)) 102 R1.out (words l) (by simp) (fun h0 => ⟨rfl, SRC.out _ B1.out h0⟩) (by simp) (words_one l) w.heap.size w B1.out (Nat.le_refl _) ?_); intro w2 hw2 hb2; have R2 : Hid (Row w2 w.heap.size l) := Lib.hid (by unfold Row; rw [hw2.out, splice_all l _ rfl]); have B2 := Lib.hid hb2; clear hw2 hb2))
  refine (CT.out (some ⟨w.heap.size, 0, none⟩) l.length l _ (R2.out.cells.wds (Nat.le_refl _) (by have := HC.out; omega)) H2.out.1).mono ?_
  rintro _ w3 ⟨⟨v', rfl, hv, hf⟩, hd⟩
  have HV := Lib.hid hv
  have HF := Lib.hid hf
  have HD := Lib.hid hd
  clear hv hf hd
  go_wp2_with fail
  go_ret
  exact ⟨_, rfl, HV.out.below (HD.out.below _), HF.out, R2.out.cells.of_drew HD.out, B2.out.trans (HD.out.below _)⟩

theorem copied_all (v : Value) (n k : Nat) (w : World) (hd : DN w v n k) (hk : k ≤ 1073741824) :
    Calls Tryz.prog 91 #[v] w fun e w' => RetD w n k e w' := by
  obtain ⟨l, p, c, rfl, h1, h2, rfl, h4, h5, h6⟩ := hd.norm
  refine (copied_main p c l w h1 h2 h6 (by omega) h5).mono ?_
  rintro _ w' ⟨v', rfl, hv, hf, _, hb⟩
  exact ⟨_, rfl, hv.more h4, young_of (by rintro _ ⟨⟩; exact Nat.le_refl _) hf, hb⟩

/-- A copy of a number that is not 0: a row of its own. -/
theorem copied_row (p : Option Addr) (c : Nat) (l : List Nat) (w : World) (h1 : Wds w (.slice p l.length c) l) (h2 : Norm B64 l) (h6 : c ≤ maxLen) (hk : l.length ≤ 1073741824) (hlc : l.length ≤ c) (h0 : 0 < l.length) :
    Calls Tryz.prog 91 #[.slice p l.length c] w fun e w' => e = .returned (.slice (some ⟨w.heap.size, 0, none⟩) l.length l.length) ∧ Cells w' w.heap.size l ∧ Below w.heap.size w w' := by
  refine (copied_main p c l w h1 h2 h6 hk hlc).mono ?_
  rintro _ w' ⟨v', rfl, ⟨l', ⟨p', c', hv, _⟩, hn, he, _⟩, hf, hc, hb⟩
  have := norm_unique B64_pos hn h2 he
  subst this
  rcases hf with rfl | ⟨k, rfl⟩
  · simp only [Value.slice.injEq] at hv; omega
  · simp only [Value.slice.injEq] at hv
    obtain ⟨_, rfl, _⟩ := hv
    exact ⟨rfl, hc, hb⟩
end Go.Proofs.YtamhlkjfpdkhoaaGreatDoor

/- Plain arithmetic: rows that are changed in place; how often a row goes into another one. No program is spoken of. -/
namespace Go.Proofs.YtamhlkjfpdkhoaaGreatDoor

theorem set_add {b : Nat} {o : List Nat} {j z cc p d c' W T : Nat} (hz : o[j]? = some z) (h : val b o + b ^ j * cc = W) (e : z + cc + p = d + b * c') (hT : T = W + b ^ j * p) :
    val b (o.set j d) + b ^ (j + 1) * c' = T := by
  have hs := val_set (b := b) d hz
  have h2 : b ^ j * z + b ^ j * cc + b ^ j * p = b ^ j * d + b ^ j * b * c' := by rw [← Nat.mul_add, ← Nat.mul_add, e, Nat.mul_add, Nat.mul_assoc]
  rw [Nat.pow_succ, hT, ← h]
  omega

theorem set_sub {b : Nat} {o : List Nat} {j z cc p d c' S V : Nat} (hz : o[j]? = some z) (h : val b o + S = V + b ^ j * cc) (e : z + b * c' = d + cc + p) :
    val b (o.set j d) + (S + b ^ j * p) = V + b ^ (j + 1) * c' := by
  have hs := val_set (b := b) d hz
  have h2 : b ^ j * z + b ^ j * b * c' = b ^ j * d + b ^ j * cc + b ^ j * p := by rw [Nat.mul_assoc, ← Nat.mul_add, e]; simp only [Nat.mul_add]
  rw [Nat.pow_succ]
  omega

theorem drop_set_next (l : List Nat) (j x : Nat) : (l.set j x).drop (j + 1) = l.drop (j + 1) := List.drop_set_of_lt (by omega)

theorem get_of_drop {l m : List Nat} {j : Nat} (h : l.drop j = m.drop j) : l[j]? = m[j]? := by
  have := congrArg (fun x : List Nat => x[0]?) h
  simpa using this

theorem drop_more {l m : List Nat} {j : Nat} (h : l.drop j = m.drop j) (k : Nat) (hk : j ≤ k) : l.drop k = m.drop k := by
  obtain ⟨i, rfl⟩ : ∃ i, k = j + i := ⟨k - j, by omega⟩
  rw [← List.drop_drop, ← List.drop_drop, h]

/-- An estimate by the highest words is too great by less than c. -/
theorem knuth {U V W M q c t b : Nat} (h1 : t * (W * M) ≤ U) (h2 : U < (q + 1) * V) (h3 : V ≤ (W + 1) * M) (hq : q < b) (hc : b ≤ c * W) : t ≤ q + c := by
  rcases Nat.lt_or_ge (q + c) t with h | h
  · exfalso
    have a1 : (q + 1 + c) * (W * M) ≤ t * (W * M) := Nat.mul_le_mul_right _ (by omega)
    have a2 : (q + 1) * V ≤ (q + 1) * ((W + 1) * M) := Nat.mul_le_mul_left _ h3
    have a3 : (q + 1 + c) * W * M < (q + 1) * (W + 1) * M := by rw [Nat.mul_assoc, Nat.mul_assoc]; omega
    have a4 := Nat.lt_of_mul_lt_mul_right a3
    rw [Nat.add_mul, Nat.mul_add (q + 1)] at a4
    omega
  · exact h
end Go.Proofs.YtamhlkjfpdkhoaaGreatDoor

/- Plain facts: the length of a number in bits; a division by estimates. No program is spoken of. -/
namespace Go.Proofs.YtamhlkjfpdkhoaaGreatDoor

theorem bitLenAux_spec : ∀ (f x : Nat), x < 2 ^ f → Lib.bitLenAux f x ≤ f ∧ x < 2 ^ Lib.bitLenAux f x ∧ (0 < x → 1 ≤ Lib.bitLenAux f x ∧ 2 ^ (Lib.bitLenAux f x - 1) ≤ x) ∧ (x = 0 → Lib.bitLenAux f x = 0)
  | 0, x, h => by simp [Lib.bitLenAux]; omega
  | f + 1, x, h => by
    simp only [Lib.bitLenAux]
    by_cases h0 : x = 0
    · subst h0; simp
    · rw [if_neg h0]
      obtain ⟨h1, h2, h3, h6⟩ := bitLenAux_spec f (x / 2) (by rw [Nat.pow_succ] at h; omega)
      by_cases hx : 0 < x / 2
      · generalize Lib.bitLenAux f (x / 2) = b at *
        obtain ⟨h4, h5⟩ := h3 hx
        obtain ⟨c, rfl⟩ : ∃ c, b = c + 1 := ⟨b - 1, by omega⟩
        simp only [Nat.add_sub_cancel] at h5
        refine ⟨by omega, by rw [Nat.add_comm, Nat.pow_succ]; omega, fun _ => ⟨by omega, ?_⟩, fun h => absurd h h0⟩
        rw [show 1 + (c + 1) - 1 = c + 1 by omega, Nat.pow_succ]
        omega
      · rw [h6 (by omega)]
        refine ⟨by omega, by omega, fun _ => ⟨by omega, by simp; omega⟩, fun h => absurd h h0⟩

/-- The shift that sets the highest bit of a word. -/
theorem lead (y : Nat) (h0 : 0 < y) (h : y < 18446744073709551616) :
    ∃ s : Nat, (64 : Int) - (Lib.bitLen y : Int) = s ∧ s ≤ 63 ∧ 9223372036854775808 ≤ y * 2 ^ s ∧ y * 2 ^ s < 18446744073709551616 := by
  obtain ⟨h1, h2, h3, _⟩ := bitLenAux_spec 64 y h
  obtain ⟨h4, h5⟩ := h3 h0
  unfold Lib.bitLen
  generalize Lib.bitLenAux 64 y = b at *
  refine ⟨64 - b, by omega, by omega, ?_, ?_⟩
  · have : 2 ^ (b - 1) * 2 ^ (64 - b) ≤ y * 2 ^ (64 - b) := Nat.mul_le_mul_right _ h5
    rw [← Nat.pow_add, show b - 1 + (64 - b) = 63 by omega] at this
    exact this
  · have : y * 2 ^ (64 - b) < 2 ^ b * 2 ^ (64 - b) := Nat.mul_lt_mul_of_pos_right h2 (Nat.pow_pos (by omega))
    rw [← Nat.pow_add, show b + (64 - b) = 64 by omega] at this
    exact this

/-- An estimate q of the quotient of u 2^32 + d by v = v1 2^32 + v0, and what it leaves of u. -/
def Kn (u v1 v0 d q r : Nat) : Prop := q * v1 + r = u ∧ (u * 4294967296 + d) / (v1 * 4294967296 + v0) ≤ q

theorem Kn.start {u v1 v0 d : Nat} (hv : 0 < v1) (hd : d < 4294967296) : Kn u v1 v0 d (u / v1) (u - u / v1 * v1) := by
  constructor
  · have := Nat.div_mul_le_self u v1; omega
  · calc (u * 4294967296 + d) / (v1 * 4294967296 + v0) ≤ (u * 4294967296 + d) / (v1 * 4294967296) := Nat.div_le_div_left (by omega) (by omega)
      _ = u / v1 := by
        rw [Nat.mul_comm v1, ← Nat.div_div_eq_div_mul]
        congr 1; omega

theorem Kn.step {u v1 v0 d q r : Nat} (h : Kn u v1 v0 d q r) (hu : u < v1 * 4294967296 + v0) (hd : d < 4294967296) (hc : 4294967296 ≤ q ∨ 4294967296 * r + d < q * v0) (hq : 1 ≤ q) : Kn u v1 v0 d (q - 1) (r + v1) := by
  obtain ⟨h1, h2⟩ := h
  have hv : 0 < v1 * 4294967296 + v0 := by omega
  constructor
  · obtain ⟨c, rfl⟩ : ∃ c, q = c + 1 := ⟨q - 1, by omega⟩
    rw [Nat.add_mul] at h1; simp only [Nat.add_sub_cancel]; omega
  · have : (u * 4294967296 + d) / (v1 * 4294967296 + v0) < q := by
      rw [Nat.div_lt_iff_lt_mul hv]
      rcases hc with hc | hc
      · have : 4294967296 * (v1 * 4294967296 + v0) ≤ q * (v1 * 4294967296 + v0) := Nat.mul_le_mul_right _ hc
        omega
      · rw [Nat.mul_add, ← Nat.mul_assoc, ← h1, Nat.add_mul]; omega
    omega

theorem Kn.done {u v1 v0 d q r : Nat} (h : Kn u v1 v0 d q r) (hu : u < v1 * 4294967296 + v0) (hv0 : v0 < 4294967296) (hd : d < 4294967296) (hc : 4294967296 ≤ r ∨ q * v0 ≤ 4294967296 * r + d) : q = (u * 4294967296 + d) / (v1 * 4294967296 + v0) := by
  obtain ⟨h1, h2⟩ := h
  have hv : 0 < v1 * 4294967296 + v0 := by omega
  apply Nat.le_antisymm _ h2
  rw [Nat.le_div_iff_mul_le hv, Nat.mul_add, ← Nat.mul_assoc, ← h1, Nat.add_mul]
  rcases hc with hc | hc
  · have hq : q ≤ 4294967296 := by
      rcases Nat.lt_or_ge 4294967296 q with hlt | hge
      · have : 4294967296 * v1 < q * v1 := Nat.mul_lt_mul_of_pos_right hlt (by
          rcases Nat.eq_zero_or_pos v1 with h0 | h0
          · subst h0; omega
          · exact h0)
        omega
      · exact hge
    have : q * v0 ≤ 4294967296 * v0 := Nat.mul_le_mul_right _ hq
    have : 4294967296 * 4294967296 ≤ 4294967296 * r := Nat.mul_le_mul_left _ hc
    omega
  · omega

/-- The estimate is small where the divisor's highest bit is set. -/
theorem Kn.le {u v1 v0 d q r : Nat} (h : Kn u v1 v0 d q r) (hu : u < v1 * 4294967296 + v0) (hv0 : v0 < 4294967296) (hv1 : 2147483648 ≤ v1) : q ≤ 4294967297 := by
  obtain ⟨h1, _⟩ := h
  rcases Nat.lt_or_ge 4294967297 q with hlt | hge
  · have : 4294967298 * v1 ≤ q * v1 := Nat.mul_le_mul_right _ (by omega)
    omega
  · exact hge

theorem split_word {M u L d1 d0 : Nat} (hN : M = u*18446744073709551616 + L) (h1: L/4294967296 = d1) (h0 : L%4294967296 = d0) : M = (u*4294967296+d1)*4294967296+d0 := by
  have := Nat.div_add_mod L 4294967296
  rw [h1, h0] at this
  clear h1 h0
  rw [hN, ← this]
  clear hN this
  omega

/-- Both divisions by estimates, put together; N = hi 2^64 + lo, everything times 2^s. -/
theorem two_steps {N y s u L Y d1 d0 : Nat} (hy : 0 < y) (hY : y * 2 ^ s = Y) (hN : N * 2 ^ s = u * 18446744073709551616 + L) (hd1 : L / 4294967296 = d1) (hd0 : L % 4294967296 = d0) :
    N / y = (u * 4294967296 + d1) / Y * 4294967296 + ((u * 4294967296 + d1) % Y * 4294967296 + d0) / Y ∧ N % y = ((u * 4294967296 + d1) % Y * 4294967296 + d0) % Y / 2 ^ s := by
  have h2 : 0 < 2 ^ s := Nat.pow_pos (by omega)
  have hYp : 0 < Y := by rw [← hY]; exact Nat.mul_pos hy h2
  have e1 : N / y = N * 2 ^ s / Y := by rw [← hY, Nat.mul_div_mul_right _ _ h2]
  have e2 : N % y = N * 2 ^ s % Y / 2 ^ s := by rw [← hY, Nat.mul_mod_mul_right, Nat.mul_div_cancel _ h2]
  have e3 : N * 2 ^ s = (u * 4294967296 + d1) * 4294967296 + d0 := split_word hN hd1 hd0
  have e4 := Nat.div_add_mod (u * 4294967296 + d1) Y
  have e5 : N * 2 ^ s = Y * ((u * 4294967296 + d1) / Y * 4294967296) + ((u * 4294967296 + d1) % Y * 4294967296 + d0) := by
    rw [e3]
    conv => lhs; rw [← e4]
    rw [Nat.add_mul, ← Nat.mul_assoc]; omega
  rw [e1, e2, e5]
  constructor
  · rw [Nat.mul_add_div hYp]
  · rw [Nat.mul_add_mod]

theorem p64 : (18446744073709551616 : Nat) = 2 ^ 64 := by simp

theorem norm_eq {hi lo s : Nat} (hs : s ≤ 63) : (hi * 18446744073709551616 + lo) * 2 ^ s = (hi * 2 ^ s + lo / 2 ^ (64 - s)) * 18446744073709551616 + lo * 2 ^ s % 18446744073709551616 := by
  have h64 : (18446744073709551616 : Nat) = 2 ^ (64 - s) * 2 ^ s := p64.trans (by rw [← Nat.pow_add, show 64 - s + s = 64 by omega])
  have e : lo / 2 ^ (64 - s) = lo * 2 ^ s / 18446744073709551616 := by
    rw [h64, Nat.mul_div_mul_right _ _ (Nat.pow_pos (by omega))]
  have := Nat.div_add_mod (lo * 2 ^ s) 18446744073709551616
  rw [e, Nat.add_mul, Nat.add_mul, Nat.mul_right_comm]; omega

/-- A product of two half words. -/
theorem half_words {a b : Nat} (ha : a < 4294967296) (hb : b < 4294967296) : 0 ≤ (a : Int) * b ∧ (a : Int) * b < 18446744073709551616 := by
  have h : a * b ≤ 4294967295 * 4294967295 := Nat.mul_le_mul (by omega) (by omega)
  have e : ((a * b : Nat) : Int) = (a : Int) * b := Int.natCast_mul _ _
  rw [← e]; omega

/-- The ways of a round: it goes on (2), it leaves in its middle (2), or at its head. -/
theorem Kn.ways {u v1 v0 d q r Q : Nat} (h : Kn u v1 v0 d q r) (hu : u < v1 * 4294967296 + v0) (hv0 : v0 < 4294967296) (hd : d < 4294967296) (hQ : (u * 4294967296 + d) / (v1 * 4294967296 + v0) = Q) :
    (∃ c, q = c + 1 ∧ (4294967296 : Int) ≤ (c : Int) + 1 ∧ (r : Int) + v1 < 4294967296 ∧ Kn u v1 v0 d c (r + v1)) ∨
    (∃ c, q = c + 1 ∧ (c : Int) + 1 < 4294967296 ∧ 4294967296 * (r : Int) + d < ((c : Int) + 1) * v0 ∧ 0 ≤ ((c : Int) + 1) * v0 ∧ ((c : Int) + 1) * v0 < 18446744073709551616 ∧ (r : Int) + v1 < 4294967296 ∧ Kn u v1 v0 d c (r + v1)) ∨
    (q = Q + 1 ∧ (4294967296 : Int) ≤ (Q : Int) + 1 ∧ 4294967296 ≤ (r : Int) + v1) ∨
    (q = Q + 1 ∧ (Q : Int) + 1 < 4294967296 ∧ 4294967296 * (r : Int) + d < ((Q : Int) + 1) * v0 ∧ 0 ≤ ((Q : Int) + 1) * v0 ∧ ((Q : Int) + 1) * v0 < 18446744073709551616 ∧ 4294967296 ≤ (r : Int) + v1) ∨
    (q = Q ∧ (Q : Int) < 4294967296 ∧ (Q : Int) * v0 ≤ 4294967296 * (r : Int) + d ∧ 0 ≤ (Q : Int) * v0 ∧ (Q : Int) * v0 < 18446744073709551616) := by
  by_cases hA : 4294967296 ≤ q
  · obtain ⟨c, rfl⟩ : ∃ c, q = c + 1 := ⟨q - 1, by omega⟩
    have hs := h.step hu hd (.inl hA) (by omega)
    simp only [Nat.add_sub_cancel] at hs
    by_cases hC : 4294967296 ≤ r + v1
    · have := hs.done hu hv0 hd (.inl hC)
      rw [hQ] at this; subst this
      exact .inr (.inr (.inl ⟨rfl, by omega, by omega⟩))
    · exact .inl ⟨c, rfl, by omega, by omega, hs⟩
  · have hw := half_words (a := q) (b := v0) (by omega) hv0
    have cast : ((q * v0 : Nat) : Int) = (q : Int) * v0 := Int.natCast_mul _ _
    by_cases hB : 4294967296 * r + d < q * v0
    · obtain ⟨c, rfl⟩ : ∃ c, q = c + 1 := ⟨q - 1, by
        rcases Nat.eq_zero_or_pos q with h0 | h0
        · subst h0; simp at hB
        · omega⟩
      have hs := h.step hu hd (.inr hB) (by omega)
      simp only [Nat.add_sub_cancel] at hs
      have e1 : ((c + 1 : Nat) : Int) = (c : Int) + 1 := by omega
      rw [e1] at hw cast
      generalize (c + 1) * v0 = P at *
      by_cases hC : 4294967296 ≤ r + v1
      · have := hs.done hu hv0 hd (.inl hC)
        rw [hQ] at this; subst this
        exact .inr (.inr (.inr (.inl ⟨rfl, by omega, by omega, hw.1, hw.2, by omega⟩)))
      · exact .inr (.inl ⟨c, rfl, by omega, by omega, hw.1, hw.2, by omega, hs⟩)
    · have := h.done hu hv0 hd (.inr (by omega))
      rw [hQ] at this; subst this
      generalize q * v0 = P at *
      exact .inr (.inr (.inr (.inr ⟨rfl, by omega, by omega, hw.1, hw.2⟩)))

end Go.Proofs.YtamhlkjfpdkhoaaGreatDoor
