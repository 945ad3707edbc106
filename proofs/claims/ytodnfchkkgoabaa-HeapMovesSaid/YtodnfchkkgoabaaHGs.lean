/- The theorem of Guy and Smith (plain numbers). -/
import Derived.Test.YtodnfchkkgoabaaHMvMxP
set_option linter.unusedVariables false
namespace Go.Proofs.Ytodnfchkkgoabaa

/-- The value of heap n of a code, whatever the limit. -/
def gv (ds : List Nat) (n : Nat) : Nat := (vals ds (n + 1)).getD n 0

theorem vals_getD (ds : List Nat) (N n : Nat) (h : n < N) : (vals ds N).getD n 0 = gv ds n := by
  induction N with
  | zero => omega
  | succ N ih =>
    by_cases e : n = N
    · subst e; rfl
    · have := ih (by omega)
      rw [← this]
      show (vals ds N ++ _).getD n 0 = _
      rw [List.getD_eq_getElem?_getD, List.getElem?_append_left (by rw [vals_len]; omega), ← List.getD_eq_getElem?_getD]

theorem gv_mex (ds : List Nat) (n : Nat) : gv ds n = mex (opts ds (vals ds n)) := by
  unfold gv
  show (vals ds n ++ [_]).getD n 0 = _
  rw [List.getD_eq_getElem?_getD, List.getElem?_append_right (by rw [vals_len]; omega), vals_len]
  simp

theorem mem_parts (r a b : Nat) : (a, b) ∈ parts r ↔ 1 ≤ a ∧ a ≤ b ∧ a + b = r := by
  simp only [parts, List.mem_map, List.mem_range, Prod.mk.injEq]
  constructor
  · rintro ⟨k, hk, rfl, rfl⟩; omega
  · rintro ⟨h1, h2, h3⟩; exact ⟨a - 1, by omega, by omega, by omega⟩

/-- The moves from a heap that is greater than all digits. -/
theorem mem_mvs (n : Nat) : ∀ (ds : List Nat) (i : Nat), i + ds.length < n → ∀ a b, (a, b) ∈ mvs n i ds ↔ ∃ k, k < ds.length ∧
    ((ds.getD k 0 / 2 % 2 = 1 ∧ a = 0 ∧ b = n - (i + k + 1)) ∨ (ds.getD k 0 / 4 % 2 = 1 ∧ 1 ≤ a ∧ a ≤ b ∧ a + b = n - (i + k + 1))) := by
  intro ds
  induction ds with
  | nil => intro i h a b; simp [mvs]
  | cons d ds ih =>
    intro i h a b
    rw [List.length_cons] at h
    rw [mvs, List.mem_append, ih (i + 1) (by omega)]
    have h1 : (a, b) ∈ mv1 d n i ↔ (d / 2 % 2 = 1 ∧ a = 0 ∧ b = n - (i + 0 + 1)) ∨ (d / 4 % 2 = 1 ∧ 1 ≤ a ∧ a ≤ b ∧ a + b = n - (i + 0 + 1)) := by
      unfold mv1
      rw [if_neg (by omega), List.nil_append, List.mem_append]
      constructor
      · rintro (h2 | h2)
        · split at h2
          · rename_i hc
            simp at h2
            exact .inl ⟨hc.1, h2.1, h2.2⟩
          · simp at h2
        · split at h2
          · rename_i hc
            exact .inr ⟨hc, (mem_parts _ _ _).1 h2⟩
          · simp at h2
      · rintro (⟨h2, rfl, rfl⟩ | ⟨h2, h3⟩)
        · exact .inl (by rw [if_pos ⟨h2, by omega⟩]; simp)
        · exact .inr (by rw [if_pos h2]; exact (mem_parts _ _ _).2 h3)
    rw [h1]
    constructor
    · rintro (h2 | ⟨k, hk, h2⟩)
      · exact ⟨0, by simp, by simpa using h2⟩
      · refine ⟨k + 1, by simpa using hk, ?_⟩
        rw [List.getD_cons_succ, show i + (k + 1) + 1 = i + 1 + k + 1 by omega]
        exact h2
    · rintro ⟨k, hk, h2⟩
      cases k with
      | zero => exact .inl (by simpa using h2)
      | succ k =>
        refine .inr ⟨k, by simpa using hk, ?_⟩
        rw [List.getD_cons_succ, show i + (k + 1) + 1 = i + 1 + k + 1 by omega] at h2
        exact h2

theorem gv_zero (ds : List Nat) : gv ds 0 = 0 := by
  exact Nat.le_zero.1 (vals_le ds 1 0)

/-- The values of the moves from a great heap. -/
theorem mem_opts (ds : List Nat) (n x : Nat) (h : ds.length < n) : x ∈ opts ds (vals ds n) ↔ ∃ k, k < ds.length ∧ ∃ a b,
    ((ds.getD k 0 / 2 % 2 = 1 ∧ a = 0 ∧ b = n - (k + 1)) ∨ (ds.getD k 0 / 4 % 2 = 1 ∧ 1 ≤ a ∧ a ≤ b ∧ a + b = n - (k + 1))) ∧ x = gv ds a ^^^ gv ds b := by
  unfold opts
  rw [List.mem_map, vals_len]
  constructor
  · rintro ⟨⟨a, b⟩, h1, rfl⟩
    obtain ⟨k, hk, h2⟩ := (mem_mvs n ds 0 (by omega) a b).1 h1
    rw [Nat.zero_add] at h2
    refine ⟨k, hk, a, b, h2, ?_⟩
    rw [xorl_two, vals_getD ds n a (by omega), vals_getD ds n b (by omega)]
  · rintro ⟨k, hk, a, b, h2, rfl⟩
    refine ⟨(a, b), (mem_mvs n ds 0 (by omega) a b).2 ⟨k, hk, by rw [Nat.zero_add]; exact h2⟩, ?_⟩
    rw [xorl_two, vals_getD ds n a (by omega), vals_getD ds n b (by omega)]

theorem mex_congr (l m : List Nat) (h : ∀ x, x ∈ l ↔ x ∈ m) : mex l = mex m :=
  mex_eq m (mex l) (fun hh => mex_not l ((h _).2 hh)) (fun i hi => (h i).1 (mex_below l i hi))

/-- A period that is found goes on. -/
theorem goes_on (ds : List Nat) (pre per : Nat) (hp : 1 ≤ per) (h : ∀ m, pre ≤ m → m + per ≤ 2 * pre + 3 * per + ds.length → gv ds m = gv ds (m + per)) : ∀ n, pre ≤ n → gv ds n = gv ds (n + per) := by
  intro n
  induction n using Nat.strongRecOn with
  | _ n ih =>
    intro hn
    by_cases hb : n + per ≤ 2 * pre + 3 * per + ds.length
    · exact h n hn hb
    · rw [gv_mex ds n, gv_mex ds (n + per)]
      apply mex_congr
      intro x
      rw [mem_opts ds n x (by omega), mem_opts ds (n + per) x (by omega)]
      constructor
      · rintro ⟨k, hk, a, b, h1, rfl⟩
        refine ⟨k, hk, ?_⟩
        rcases h1 with ⟨h2, rfl, rfl⟩ | ⟨h2, h3, h4, h5⟩
        · refine ⟨0, n - (k + 1) + per, .inl ⟨h2, rfl, by omega⟩, ?_⟩
          rw [← ih (n - (k + 1)) (by omega) (by omega)]
        · refine ⟨a, b + per, .inr ⟨h2, h3, by omega, by omega⟩, ?_⟩
          rw [← ih b (by omega) (by omega)]
      · rintro ⟨k, hk, a, b, h1, rfl⟩
        refine ⟨k, hk, ?_⟩
        rcases h1 with ⟨h2, rfl, rfl⟩ | ⟨h2, h3, h4, h5⟩
        · refine ⟨0, n - (k + 1), .inl ⟨h2, rfl, rfl⟩, ?_⟩
          rw [ih (n - (k + 1)) (by omega) (by omega), show n - (k + 1) + per = n + per - (k + 1) by omega]
        · have e := ih (b - per) (by omega) (by omega)
          rw [show b - per + per = b by omega] at e
          by_cases hab : a ≤ b - per
          · exact ⟨a, b - per, .inr ⟨h2, h3, hab, by omega⟩, by rw [e]⟩
          · exact ⟨b - per, a, .inr ⟨h2, by omega, by omega, by omega⟩, by rw [e, Nat.xor_comm]⟩
end Go.Proofs.Ytodnfchkkgoabaa
