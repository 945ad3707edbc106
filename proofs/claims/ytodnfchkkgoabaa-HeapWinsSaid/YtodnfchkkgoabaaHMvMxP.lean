/- Moves from one heap, as pairs of what is left (plain lists). -/
import Derived.Test.YtodnfchkkgoabaaRows
import Derived.WalkKit
import Derived.WalkSpells
import Derived.WalkLawsBesides
import Derived.Lib.Hide
import Derived.LoopTactic
import Derived.BigQuiet
import Derived.Deep.QuietTactic
import Derived.Laws.BitsLemmas
import Derived.Below
namespace Go.Proofs.Ytodnfchkkgoabaa

/-- What is left by moves that part r into two. -/
def parts (r : Nat) : List (Nat × Nat) := (List.range (r / 2)).map fun k => (k + 1, r - (k + 1))

/-- What is left by the moves of one digit. -/
def mv1 (d n i : Nat) : List (Nat × Nat) :=
  (if d % 2 = 1 ∧ n = i + 1 then [(0, 0)] else []) ++ ((if d / 2 % 2 = 1 ∧ i + 1 < n then [(0, n - (i + 1))] else []) ++ (if d / 4 % 2 = 1 then parts (n - (i + 1)) else []))

/-- What is left by all moves of digits from number i on. -/
def mvs (n : Nat) : Nat → List Nat → List (Nat × Nat)
  | _, [] => []
  | i, d :: ds => mv1 d n i ++ mvs n (i + 1) ds

theorem drop_at {α : Type} (d : α) {L l : List α} {k : Nat} {x : α} (h : L.drop k = x :: l) : k < L.length ∧ L.getD k d = x ∧ L.drop (k + 1) = l := by
  have h1 : (L.drop k)[0]? = some x := by rw [h]; rfl
  rw [List.getElem?_drop, Nat.add_zero] at h1
  refine ⟨(List.getElem?_eq_some_iff.1 h1).1, by rw [List.getD_eq_getElem?_getD, h1]; rfl, ?_⟩
  have := congrArg (List.drop 1) h
  rw [List.drop_drop] at this
  simpa using this

theorem drop_end {α : Type} {L : List α} {k : Nat} (h : L.drop k = []) (hk : k ≤ L.length) : k = L.length := by
  have := congrArg List.length h
  simp at this
  omega

theorem parts_drop (r j : Nat) (h : j < r / 2) : (parts r).drop j = (j + 1, r - (j + 1)) :: (parts r).drop (j + 1) := by
  have hl : j < (parts r).length := by simp [parts, h]
  rw [List.drop_eq_getElem_cons hl]
  simp [parts]

theorem parts_end (r j : Nat) (h : r / 2 ≤ j) : (parts r).drop j = [] := by
  rw [List.drop_eq_nil_iff]; simp [parts, h]

theorem mvs_at (n i : Nat) (ds : List Nat) (h : i < ds.length) : mvs n i (ds.drop i) = mv1 (ds.getD i 0) n i ++ mvs n (i + 1) (ds.drop (i + 1)) := by
  rw [List.drop_eq_getElem_cons h, List.getD_eq_getElem?_getD, List.getElem?_eq_getElem h]; rfl

theorem mvs_end (n i : Nat) (ds : List Nat) (h : ds.length ≤ i) : mvs n i (ds.drop i) = [] := by
  rw [List.drop_eq_nil_iff.2 h]; rfl

theorem mv1_take {d n i : Nat} (h1 : d % 2 = 1) (h2 : n = i + 1) : mv1 d n i = [(0, 0)] := by
  unfold mv1
  rw [if_pos ⟨h1, h2⟩, if_neg (by omega), h2]
  simp [parts]
theorem mv1_none {d n i : Nat} (h2 : ¬ i + 1 < n) (h : ¬ (d % 2 = 1 ∧ n = i + 1)) : mv1 d n i = [] := by
  unfold mv1
  have : n - (i + 1) = 0 := by omega
  rw [if_neg h, if_neg (by omega), this]
  simp [parts]
theorem mv1_keep {d n i : Nat} (h2 : i + 1 < n) (h : d / 2 % 2 = 1) : mv1 d n i = (0, n - (i + 1)) :: (if d / 4 % 2 = 1 then parts (n - (i + 1)) else []) := by
  unfold mv1
  rw [if_neg (by omega), if_pos ⟨h, h2⟩]; rfl
theorem mv1_part {d n i : Nat} (h2 : i + 1 < n) (h : ¬ d / 2 % 2 = 1) : mv1 d n i = (if d / 4 % 2 = 1 then parts (n - (i + 1)) else []) := by
  unfold mv1
  rw [if_neg (by omega), if_neg (by omega)]; rfl

theorem parts_lt {r : Nat} {x : Nat × Nat} (h : x ∈ parts r) : 1 ≤ x.1 ∧ 1 ≤ x.2 ∧ x.1 + x.2 = r := by
  simp only [parts, List.mem_map, List.mem_range] at h
  obtain ⟨a, ha, rfl⟩ := h
  simp; omega

theorem mvs_lt (n : Nat) : ∀ (ds : List Nat) (i : Nat) (x : Nat × Nat), x ∈ mvs n i ds → x.1 + x.2 < n := by
  intro ds
  induction ds with
  | nil => intro i x h; simp [mvs] at h
  | cons d ds ih =>
    intro i x h
    simp only [mvs, mv1, List.mem_append] at h
    rcases h with (h | h | h) | h
    · split at h
      · simp only [List.mem_singleton] at h; subst h; simp; omega
      · simp at h
    · split at h
      · simp only [List.mem_singleton] at h; subst h; simp; omega
      · simp at h
    · split at h
      · have := parts_lt h; omega
      · simp at h
    · exact ih _ _ h
end Go.Proofs.Ytodnfchkkgoabaa

/- Values of heaps (plain numbers): sums without carry, and the least that is missing. -/
namespace Go.Proofs.Ytodnfchkkgoabaa

theorem xor_le (a : Nat) : ∀ b : Nat, a ^^^ b ≤ a + b := by
  induction a using Nat.strongRecOn with
  | _ a ih =>
    intro b
    by_cases h : a = 0
    · subst h; simp
    · have h1 := ih (a / 2) (by omega) (b / 2)
      have h2 : (a ^^^ b) / 2 = a / 2 ^^^ b / 2 := by have := Nat.xor_div_two_pow (a := a) (b := b) (n := 1); simpa using this
      have h3 : (a ^^^ b) % 2 = a % 2 ^^^ b % 2 := by have := Nat.xor_mod_two_pow (a := a) (b := b) (n := 1); simpa using this
      have h4 : a % 2 ^^^ b % 2 ≤ a % 2 + b % 2 := by
        have : ∀ x y : Fin 2, x.val ^^^ y.val ≤ x.val + y.val := by decide
        exact this ⟨a % 2, by omega⟩ ⟨b % 2, by omega⟩
      omega

/-- The values of some heaps, added without carry. -/
def xorl (V H : List Nat) : Nat := H.foldl (fun s h => s ^^^ V.getD h 0) 0
theorem xorl_snoc (V H : List Nat) (h : Nat) : xorl V (H ++ [h]) = xorl V H ^^^ V.getD h 0 := by
  unfold xorl; rw [List.foldl_append]; rfl
theorem xorl_two (V : List Nat) (p q : Nat) : xorl V [p, q] = V.getD p 0 ^^^ V.getD q 0 := by
  simp [xorl]
theorem xorl_lt (V : List Nat) (k : Nat) (hV : ∀ i, V.getD i 0 < 2 ^ k) : ∀ H : List Nat, xorl V H < 2 ^ k := by
  intro H
  unfold xorl
  suffices ∀ (H : List Nat) (s : Nat), s < 2 ^ k → H.foldl (fun s h => s ^^^ V.getD h 0) s < 2 ^ k from this H 0 (Nat.two_pow_pos k)
  intro H
  induction H with
  | nil => intro s hs; exact hs
  | cons h H ih => intro s hs; exact ih _ (Nat.xor_lt_two_pow hs (hV h))

theorem mvs_len (n : Nat) : ∀ (ds : List Nat) (i : Nat), (mvs n i ds).length ≤ ds.length * (n + 2) := by
  intro ds
  induction ds with
  | nil => intro i; simp [mvs]
  | cons d ds ih =>
    intro i
    have h1 := ih (i + 1)
    have h2 : (mv1 d n i).length ≤ n + 2 := by
      unfold mv1 parts
      simp only [List.length_append]
      have a : (if d % 2 = 1 ∧ n = i + 1 then [((0 : Nat), (0 : Nat))] else []).length ≤ 1 := by split <;> simp
      have b : (if d / 2 % 2 = 1 ∧ i + 1 < n then [((0 : Nat), n - (i + 1))] else []).length ≤ 1 := by split <;> simp
      have c : (if d / 4 % 2 = 1 then (List.range ((n - (i + 1)) / 2)).map fun k => (k + 1, (n - (i + 1)) - (k + 1)) else []).length ≤ n := by
        split
        · simp; omega
        · simp
      omega
    simp only [mvs, List.length_append, List.length_cons, Nat.succ_mul]
    omega

theorem all_below : ∀ (k : Nat) (l : List Nat), (∀ i, i < k → i ∈ l) → k ≤ l.length := by
  intro k
  induction k with
  | zero => intro l _; omega
  | succ k ih =>
    intro l h
    have hk := h k (by omega)
    have := ih (l.erase k) (fun i hi => (List.mem_erase_of_ne (by omega)).2 (h i (by omega)))
    rw [List.length_erase_of_mem hk] at this
    have := List.length_pos_of_mem hk
    omega

/-- The least number that is missing. -/
def mexF : Nat → Nat → List Nat → Nat
  | 0, k, _ => k
  | f + 1, k, l => if k ∈ l then mexF f (k + 1) l else k
def mex (l : List Nat) : Nat := mexF (l.length + 1) 0 l

theorem mexF_spec (l : List Nat) : ∀ f k : Nat, (∀ i, i < k → i ∈ l) → (∀ i, i < mexF f k l → i ∈ l) ∧ (mexF f k l ∉ l ∨ mexF f k l = k + f) := by
  intro f
  induction f with
  | zero => intro k h; exact ⟨h, .inr rfl⟩
  | succ f ih =>
    intro k h
    unfold mexF
    split
    · rename_i hk
      have := ih (k + 1) (fun i hi => by
        rcases Nat.lt_succ_iff_lt_or_eq.1 hi with h' | rfl
        · exact h i h'
        · exact hk)
      exact ⟨this.1, this.2.imp id (fun e => by omega)⟩
    · rename_i hk
      exact ⟨h, .inl hk⟩
theorem mex_below (l : List Nat) : ∀ i, i < mex l → i ∈ l := (mexF_spec l _ 0 (by omega)).1
theorem mex_not (l : List Nat) : mex l ∉ l := by
  have h := mexF_spec l (l.length + 1) 0 (by omega)
  rcases h.2 with h2 | h2
  · exact h2
  · exfalso
    have := all_below _ l h.1
    omega
theorem mex_eq (l : List Nat) (m : Nat) (h1 : m ∉ l) (h2 : ∀ i, i < m → i ∈ l) : m = mex l := by
  rcases Nat.lt_trichotomy m (mex l) with h | h | h
  · exact absurd (mex_below l m h) h1
  · exact h
  · exact absurd (h2 _ h) (mex_not l)
theorem mex_le (l : List Nat) (n : Nat) (h : ∀ x ∈ l, x < n) : mex l ≤ n := by
  rcases Nat.lt_or_ge n (mex l) with h1 | h1
  · have := h _ (mex_below l n h1); omega
  · exact h1

/-- The options' values of the next heap. -/
def opts (ds V : List Nat) : List Nat := (mvs V.length 0 ds).map fun x => xorl V [x.1, x.2]
/-- The values of the heaps before n. -/
def vals (ds : List Nat) : Nat → List Nat
  | 0 => []
  | n + 1 => vals ds n ++ [mex (opts ds (vals ds n))]
theorem vals_len (ds : List Nat) : ∀ n, (vals ds n).length = n := by
  intro n
  induction n with
  | zero => rfl
  | succ n ih => simp [vals, ih]
theorem vals_le (ds : List Nat) : ∀ n i, (vals ds n).getD i 0 ≤ i := by
  intro n
  induction n with
  | zero => intro i; simp [vals]
  | succ n ih =>
    intro i
    unfold vals
    by_cases hi : i < n
    · have := ih i
      rw [List.getD_eq_getElem?_getD, List.getElem?_append_left (by rw [vals_len]; exact hi), ← List.getD_eq_getElem?_getD]
      exact this
    · by_cases he : i = n
      · subst he
        rw [List.getD_eq_getElem?_getD, List.getElem?_append_right (by rw [vals_len]; omega), vals_len]
        simp
        refine mex_le _ _ fun x hx => ?_
        simp only [opts, List.mem_map] at hx
        obtain ⟨y, hy, rfl⟩ := hx
        have h1 := mvs_lt _ _ _ _ hy
        rw [vals_len] at h1
        rw [xorl_two]
        have h2 := xor_le ((vals ds i).getD y.1 0) ((vals ds i).getD y.2 0)
        have h3 := ih y.1
        have h4 := ih y.2
        omega
      · rw [List.getD_eq_getElem?_getD, List.getElem?_eq_none (by simp [vals_len]; omega)]
        simp
theorem vals_take (ds : List Nat) (n : Nat) : ∀ m, n ≤ m → (vals ds m).take n = vals ds n := by
  intro m hm
  induction m with
  | zero => obtain rfl : n = 0 := by omega
            rfl
  | succ m ih =>
    by_cases h : n ≤ m
    · rw [show vals ds (m + 1) = vals ds m ++ [mex (opts ds (vals ds m))] from rfl, List.take_append_of_le_length (by rw [vals_len]; exact h)]
      exact ih h
    · obtain rfl : n = m + 1 := by omega
      rw [List.take_of_length_le (by rw [vals_len]; omega)]
end Go.Proofs.Ytodnfchkkgoabaa

/- What the walks of this seat share: plain facts on bits, and the words for what becomes of the world. -/
namespace Go.Proofs.Ytodnfchkkgoabaa
open Go.RowKit

theorem ret_int {k : IntKind} {a b : Int} (h : a = b) : Ending.returned (.int k a) = .returned (.int k b) := by rw [h]

/-- The second world is the first one after some answers of the tape. -/
def Drew (w w' : World) : Prop := ∃ n, w' = w.drewN n
theorem Drew.refl (w : World) : Drew w w := ⟨0, rfl⟩
theorem Drew.trans {a b c : World} (h : Drew a b) (k : Drew b c) : Drew a c := by
  obtain ⟨n, rfl⟩ := h; obtain ⟨m, rfl⟩ := k; exact ⟨n + m, by rw [World.drewN_drewN]⟩
theorem Drew.drewN {a b : World} (h : Drew a b) (n : Nat) : Drew a (b.drewN n) := h.trans ⟨n, rfl⟩
theorem Drew.cell {a b : World} (h : Drew a b) (p : Addr) : b.cell? p = a.cell? p := by
  obtain ⟨n, rfl⟩ := h; simp
theorem Drew.below {a b : World} (h : Drew a b) (B : Nat) : Below B a b := by
  obtain ⟨n, rfl⟩ := h
  induction n with
  | zero => exact Below.refl _ _
  | succ n ih => exact ⟨ih.os, ih.tape, ih.output, ih.size, ih.block⟩

theorem wraps_i64 (n : Int) (h₀ : 0 ≤ n) (h₁ : n < 2 ^ 63) : IntKind.i64.wrap n = n := by rw [IntKind.wrap_i64]; omega

theorem xor_nat (a b : Nat) (ha : a < 2 ^ 63) (hb : b < 2 ^ 63) : bits .xor .i64 (a : Int) (b : Int) = ((a ^^^ b : Nat) : Int) := by
  have hp : 2 ^ 63 ≤ 2 ^ IntKind.i64.bits := by decide
  have ha' : a % 2 ^ IntKind.i64.bits = a := Nat.mod_eq_of_lt (Nat.lt_of_lt_of_le ha hp)
  have hb' : b % 2 ^ IntKind.i64.bits = b := Nat.mod_eq_of_lt (Nat.lt_of_lt_of_le hb hp)
  simp only [bits, BitVec.ofInt_natCast, BitVec.toNat_xor, BitVec.toNat_ofNat, ha', hb']
  exact wraps_i64 _ (Int.natCast_nonneg _) (by exact_mod_cast Nat.xor_lt_two_pow ha hb)
theorem and_nat (a b : Nat) (ha : a < 2 ^ 63) (hb : b < 2 ^ 63) : bits .and .i64 (a : Int) (b : Int) = ((a &&& b : Nat) : Int) :=
  (bits_nat .i64 63 (by decide) wraps_i64 a b ha hb).1
end Go.Proofs.Ytodnfchkkgoabaa
