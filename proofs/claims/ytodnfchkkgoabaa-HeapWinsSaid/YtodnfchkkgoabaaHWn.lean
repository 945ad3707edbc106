/- Plain: a position has a move to value 0 just if its value is not 0. -/
import Derived.Test.YtodnfchkkgoabaaHPm
import Derived.Test.YtodnfchkkgoabaaHRw
set_option linter.unusedVariables false
namespace Go.Proofs.Ytodnfchkkgoabaa
open Go.RowKit

theorem eq_of_xor {a b : Nat} (h : a ^^^ b = 0) : a = b := by
  have h1 : (a ^^^ b) ^^^ b = 0 ^^^ b := by rw [h]
  rw [Nat.xor_assoc, Nat.xor_self, Nat.xor_zero, Nat.zero_xor] at h1
  exact h1
theorem mod_step (n k : Nat) : n % 2 ^ (k + 1) = n % 2 ^ k + 2 ^ k * (n.testBit k).toNat := by
  rw [Nat.testBit_eq_decide_div_mod_eq, Nat.pow_succ, Nat.mod_mul]
  congr 2
  have := Nat.mod_two_eq_zero_or_one (n / 2 ^ k)
  rcases this with h | h <;> simp [h]
/-- The top bit tells which number is less. -/
theorem lt_of_bit {a b : Nat} (k : Nat) (ha : a.testBit k = false) (hb : b.testBit k = true) (h : ∀ j, k < j → a.testBit j = b.testBit j) : a < b := by
  have h1 : a >>> (k + 1) = b >>> (k + 1) := Nat.eq_of_testBit_eq fun j => by
    rw [Nat.testBit_shiftRight, Nat.testBit_shiftRight]; exact h _ (by omega)
  rw [Nat.shiftRight_eq_div_pow, Nat.shiftRight_eq_div_pow] at h1
  have h2 := Nat.div_add_mod a (2 ^ (k + 1))
  have h3 := Nat.div_add_mod b (2 ^ (k + 1))
  rw [h1, mod_step, ha] at h2
  rw [mod_step, hb] at h3
  have h4 : a % 2 ^ k < 2 ^ k := Nat.mod_lt _ (Nat.two_pow_pos k)
  simp only [Bool.toNat_false, Bool.toNat_true, Nat.mul_zero, Nat.mul_one, Nat.add_zero] at h2 h3
  omega
theorem gx_acc (ds : List Nat) : ∀ (L : List Int) (s : Nat), L.foldl (fun s h => s ^^^ gv ds h.toNat) s = s ^^^ gx ds L := by
  intro L
  induction L with
  | nil => intro s; simp [gx]
  | cons a L ih =>
    intro s
    unfold gx
    rw [List.foldl_cons, List.foldl_cons, ih, ih, Nat.zero_xor, Nat.xor_assoc]
theorem gx_cons (ds : List Nat) (a : Int) (L : List Int) : gx ds (a :: L) = gv ds a.toNat ^^^ gx ds L := by
  show List.foldl _ (0 ^^^ gv ds a.toNat) L = _
  rw [gx_acc, Nat.zero_xor]
theorem gx_append (ds : List Nat) (A B : List Int) : gx ds (A ++ B) = gx ds A ^^^ gx ds B := by
  unfold gx
  rw [List.foldl_append, gx_acc]; rfl
theorem gx_perm (ds : List Nat) {A B : List Int} (h : A.Perm B) : gx ds A = gx ds B := by
  induction h with
  | nil => rfl
  | cons x _ ih => rw [gx_cons, gx_cons, ih]
  | swap x y l => rw [gx_cons, gx_cons, gx_cons, gx_cons, ← Nat.xor_assoc, Nat.xor_comm (gv ds y.toNat), Nat.xor_assoc]
  | trans _ _ h1 h2 => exact h1.trans h2
theorem gx_filter (ds : List Nat) (L : List Int) : gx ds (L.filter fun y => !decide (y = 0)) = gx ds L := by
  induction L with
  | nil => rfl
  | cons a L ih =>
    by_cases h : a = 0
    · subst h
      rw [List.filter_cons_of_neg (by simp), gx_cons, ih]
      simp [gv_zero]
    · rw [List.filter_cons_of_pos (by simp [h]), gx_cons, gx_cons, ih]
theorem gx_ord (ds : List Nat) (T : List Int) : gx ds (ord T) = gx ds T := by rw [gx_perm ds (ord_perm T), gx_filter]
theorem gx_pos (ds H : List Nat) (i : Nat) (R : List Nat) : gx ds (posOf H i R) = gx ds (oth H i H.length) ^^^ gx ds (ints R) := by
  unfold posOf; rw [gx_ord, gx_append]

/-- All heaps: the others and the i-th. -/
theorem gx_oth (ds H : List Nat) (i : Nat) : ∀ j, (gx ds ((List.range j).map fun k => ((H.getD k 0 : Nat) : Int))) = if i < j then gx ds (oth H i j) ^^^ gv ds (H.getD i 0) else gx ds (oth H i j) := by
  intro j
  induction j with
  | zero => simp [oth]
  | succ j ih =>
    rw [List.range_succ, List.map_append, gx_append, ih, oth_succ]
    rcases Nat.lt_trichotomy i j with h | h | h
    · rw [if_pos h, if_pos (by omega), if_neg (by omega), gx_append, Nat.xor_assoc, Nat.xor_assoc, Nat.xor_comm (gv ds _)]
      rfl
    · subst h
      rw [if_neg (by omega), if_pos (by omega), if_pos rfl, List.append_nil]
      congr 1
      show gx ds [_] = _
      rw [gx_cons]
      simp [gx]
    · rw [if_neg (by omega), if_neg (by omega), if_neg (by omega), gx_append]
      rfl
theorem ints_range (H : List Nat) : ints H = (List.range H.length).map fun k => ((H.getD k 0 : Nat) : Int) := by
  refine List.ext_getElem (by simp [ints]) fun i h1 h2 => ?_
  have h3 : i < H.length := by simpa [ints] using h1
  simp [ints, List.getD_eq_getElem?_getD, h3]
theorem gx_all (ds H : List Nat) (i : Nat) (h : i < H.length) : gx ds (ints H) = gx ds (oth H i H.length) ^^^ gv ds (H.getD i 0) := by
  rw [ints_range, gx_oth ds H i, if_pos h]

theorem gx_row (ds : List Nat) (n : Nat) (x : Nat × Nat) (hx : x ∈ mvs n 0 ds) : gx ds (ints (rowOf x)) = gv ds x.1 ^^^ gv ds x.2 := by
  have h0 := mvs_zero n ds 0 x hx
  unfold rowOf
  split
  · rename_i e
    rw [h0 e, e]
    simp [ints, gx]
  · split
    · rename_i e
      rw [e, gv_zero]
      simp [ints, gx]
    · simp [ints, gx]

theorem opts_gv (ds : List Nat) (n : Nat) : opts ds (vals ds n) = (mvs n 0 ds).map fun x => gv ds x.1 ^^^ gv ds x.2 := by
  unfold opts
  rw [vals_len]
  refine List.map_congr_left fun x hx => ?_
  have := mvs_lt n ds 0 x hx
  rw [xorl_two, vals_getD ds n x.1 (by omega), vals_getD ds n x.2 (by omega)]
theorem opt_ne (ds : List Nat) (n : Nat) (x : Nat × Nat) (hx : x ∈ mvs n 0 ds) : gv ds x.1 ^^^ gv ds x.2 ≠ gv ds n := by
  intro e
  have h1 := mex_not (opts ds (vals ds n))
  rw [← gv_mex, ← e, opts_gv] at h1
  exact h1 (List.mem_map.2 ⟨x, hx, rfl⟩)
theorem opt_ex (ds : List Nat) (n v : Nat) (h : v < gv ds n) : ∃ x ∈ mvs n 0 ds, gv ds x.1 ^^^ gv ds x.2 = v := by
  rw [gv_mex] at h
  have h1 := mex_below _ v h
  rw [opts_gv] at h1
  obtain ⟨x, hx, e⟩ := List.mem_map.1 h1
  exact ⟨x, hx, e⟩

theorem top_bit (s : Nat) : ∀ m, (∀ j, m ≤ j → s.testBit j = false) → s ≠ 0 → ∃ k, s.testBit k = true ∧ ∀ j, k < j → s.testBit j = false := by
  intro m
  induction m with
  | zero =>
    intro h hs
    exact absurd (Nat.eq_of_testBit_eq fun j => by rw [h j (by omega), Nat.zero_testBit]) hs
  | succ m ih =>
    intro h hs
    cases e : s.testBit m with
    | true => exact ⟨m, e, fun j hj => h j (by omega)⟩
    | false => exact ih (fun j hj => by
        by_cases e2 : j = m
        · rw [e2, e]
        · exact h j (by omega)) hs

theorem bit_some (ds : List Nat) (k : Nat) : ∀ L : List Int, (gx ds L).testBit k = true → ∃ h ∈ L, (gv ds h.toNat).testBit k = true := by
  intro L
  induction L with
  | nil => intro h; simp [gx] at h
  | cons a L ih =>
    intro h
    rw [gx_cons, Nat.testBit_xor] at h
    cases e : (gv ds a.toNat).testBit k with
    | true => exact ⟨a, by simp, e⟩
    | false =>
      rw [e] at h
      obtain ⟨b, hb, e2⟩ := ih (by simpa using h)
      exact ⟨b, by simp [hb], e2⟩

/-- Nim: one heap's value can fall so that the whole becomes 0. -/
theorem nim (ds : List Nat) (L : List Int) (hs : gx ds L ≠ 0) : ∃ h ∈ L, gv ds h.toNat ^^^ gx ds L < gv ds h.toNat := by
  obtain ⟨s, hS⟩ : ∃ s, gx ds L = s := ⟨_, rfl⟩
  obtain ⟨k, h1, h2⟩ := top_bit (gx ds L) (gx ds L) (fun j hj => Nat.testBit_lt_two_pow (Nat.lt_of_lt_of_le Nat.lt_two_pow_self (Nat.pow_le_pow_right (by decide) hj))) hs
  obtain ⟨h, hh, hb⟩ := bit_some ds k L h1
  refine ⟨h, hh, lt_of_bit k (by rw [Nat.testBit_xor, hb, h1]; rfl) hb fun j hj => by rw [Nat.testBit_xor, h2 j hj]; simp⟩

/-- Sprague and Grundy: there is a move to value 0 just if the value is not 0. -/
theorem wins_iff (ds H : List Nat) : mvl ds H H.length ≠ [] ↔ gx ds (ints H) ≠ 0 := by
  constructor
  · intro h
    obtain ⟨p, hp⟩ := List.exists_mem_of_ne_nil _ h
    unfold mvl at hp
    obtain ⟨i, hi, hpi⟩ := List.mem_flatMap.1 hp
    obtain ⟨hpc, hp0⟩ := List.mem_filter.1 hpi
    obtain ⟨R, hR, rfl⟩ := List.mem_map.1 hpc
    obtain ⟨x, hx, rfl⟩ := List.mem_map.1 hR
    have h0 : gx ds (posOf H i (rowOf x)) = 0 := by simpa using hp0
    rw [gx_pos, gx_row ds _ x hx] at h0
    have h1 := opt_ne ds _ x hx
    have h2 : gx ds (oth H i H.length) = gv ds x.1 ^^^ gv ds x.2 := eq_of_xor h0
    rw [gx_all ds H i (List.mem_range.1 hi), h2]
    intro h3
    exact h1 (eq_of_xor h3)
  · intro hs
    obtain ⟨h, hh, hlt⟩ := nim ds (ints H) hs
    rw [ints_range] at hh
    obtain ⟨i, hi, rfl⟩ := List.mem_map.1 hh
    rw [Int.toNat_natCast] at hlt
    have hil := List.mem_range.1 hi
    rw [gx_all ds H i hil, Nat.xor_comm (gx ds _), ← Nat.xor_assoc, Nat.xor_self, Nat.zero_xor] at hlt
    obtain ⟨x, hx, e⟩ := opt_ex ds _ _ hlt
    intro hn
    have hm : posOf H i (rowOf x) ∈ mvl ds H H.length := by
      unfold mvl
      refine List.mem_flatMap.2 ⟨i, hi, List.mem_filter.2 ⟨List.mem_map.2 ⟨_, List.mem_map.2 ⟨x, hx, rfl⟩, rfl⟩, ?_⟩⟩
      rw [gx_pos, gx_row ds _ x hx, e, Nat.xor_self]; rfl
    rw [hn] at hm
    cases hm

/-- What the members are. -/
theorem mvl_mem (ds H : List Nat) (n : Nat) (hH : ∀ k, H.getD k 0 ≤ n) (p : List Int) (hp : p ∈ mvl ds H H.length) : gx ds p = 0 ∧ ∀ z ∈ p, ∃ b : Nat, z = (b : Int) ∧ 1 ≤ b ∧ b ≤ n := by
  unfold mvl at hp
  obtain ⟨i, hi, hpi⟩ := List.mem_flatMap.1 hp
  obtain ⟨hpc, hp0⟩ := List.mem_filter.1 hpi
  obtain ⟨R, hR, rfl⟩ := List.mem_map.1 hpc
  obtain ⟨x, hx, rfl⟩ := List.mem_map.1 hR
  refine ⟨by simpa using hp0, fun z hz => ?_⟩
  rw [posOf, ord_mem] at hz
  obtain ⟨hz1, hz2⟩ := hz
  rcases List.mem_append.1 hz1 with h | h
  · unfold oth at h
    obtain ⟨j, _, rfl⟩ := List.mem_map.1 h
    exact ⟨_, rfl, by omega, hH j⟩
  · unfold ints at h
    obtain ⟨y, hy, rfl⟩ := List.mem_map.1 h
    refine ⟨y, rfl, by omega, ?_⟩
    have h1 := mvs_lt _ ds 0 x hx
    have h2 := hH i
    unfold rowOf at hy
    split at hy
    · simp at hy
    · split at hy <;> simp at hy <;> omega
end Go.Proofs.Ytodnfchkkgoabaa
