/- Moves from one heap, as pairs of what is left (plain lists). -/
namespace Go.Proofs.Ytodnfchkkgoabaa

/-- What is left by moves that part r into two. -/
def parts (r : Nat) : List (Nat × Nat) := (List.range (r / 2)).map fun k => (k + 1, r - (k + 1))

/-- What is left by the moves of one digit. -/
def mv1 (d n i : Nat) : List (Nat × Nat) :=
  (if d % 2 = 1 ∧ n = i + 1 then [(0, 0)] else []) ++ ((if d / 2 % 2 = 1 ∧ i + 1 < n then [(0, n - (i + 1))] else []) ++ (if d / 4 % 2 = 1 then parts (n - (i + 1)) else []))

/-- What is left by all moves of digits from number i on. -/
def mvs (n : Nat) : Nat → List Nat → List (Nat × Nat)
  | _, [] => []
  | i, d :: ds => mv1 d n i ++ mvs n (i + 1) ds

theorem drop_at {α : Type} (d : α) {L l : List α} {k : Nat} {x : α} (h : L.drop k = x :: l) : k < L.length ∧ L.getD k d = x ∧ L.drop (k + 1) = l := by
  have h1 : (L.drop k)[0]? = some x := by rw [h]; rfl
  rw [List.getElem?_drop, Nat.add_zero] at h1
  refine ⟨(List.getElem?_eq_some_iff.1 h1).1, by rw [List.getD_eq_getElem?_getD, h1]; rfl, ?_⟩
  have := congrArg (List.drop 1) h
  rw [List.drop_drop] at this
  simpa using this

theorem drop_end {α : Type} {L : List α} {k : Nat} (h : L.drop k = []) (hk : k ≤ L.length) : k = L.length := by
  have := congrArg List.length h
  simp at this
  omega

theorem parts_drop (r j : Nat) (h : j < r / 2) : (parts r).drop j = (j + 1, r - (j + 1)) :: (parts r).drop (j + 1) := by
  have hl : j < (parts r).length := by simp [parts, h]
  rw [List.drop_eq_getElem_cons hl]
  simp [parts]

theorem parts_end (r j : Nat) (h : r / 2 ≤ j) : (parts r).drop j = [] := by
  rw [List.drop_eq_nil_iff]; simp [parts, h]

theorem mvs_at (n i : Nat) (ds : List Nat) (h : i < ds.length) : mvs n i (ds.drop i) = mv1 (ds.getD i 0) n i ++ mvs n (i + 1) (ds.drop (i + 1)) := by
  rw [List.drop_eq_getElem_cons h, List.getD_eq_getElem?_getD, List.getElem?_eq_getElem h]; rfl

theorem mvs_end (n i : Nat) (ds : List Nat) (h : ds.length ≤ i) : mvs n i (ds.drop i) = [] := by
  rw [List.drop_eq_nil_iff.2 h]; rfl

theorem mv1_take {d n i : Nat} (h1 : d % 2 = 1) (h2 : n = i + 1) : mv1 d n i = [(0, 0)] := by
  unfold mv1
  rw [if_pos ⟨h1, h2⟩, if_neg (by omega), h2]
  simp [parts]
theorem mv1_none {d n i : Nat} (h2 : ¬ i + 1 < n) (h : ¬ (d % 2 = 1 ∧ n = i + 1)) : mv1 d n i = [] := by
  unfold mv1
  have : n - (i + 1) = 0 := by omega
  rw [if_neg h, if_neg (by omega), this]
  simp [parts]
theorem mv1_keep {d n i : Nat} (h2 : i + 1 < n) (h : d / 2 % 2 = 1) : mv1 d n i = (0, n - (i + 1)) :: (if d / 4 % 2 = 1 then parts (n - (i + 1)) else []) := by
  unfold mv1
  rw [if_neg (by omega), if_pos ⟨h, h2⟩]; rfl
theorem mv1_part {d n i : Nat} (h2 : i + 1 < n) (h : ¬ d / 2 % 2 = 1) : mv1 d n i = (if d / 4 % 2 = 1 then parts (n - (i + 1)) else []) := by
  unfold mv1
  rw [if_neg (by omega), if_neg (by omega)]; rfl

theorem parts_lt {r : Nat} {x : Nat × Nat} (h : x ∈ parts r) : 1 ≤ x.1 ∧ 1 ≤ x.2 ∧ x.1 + x.2 = r := by
  simp only [parts, List.mem_map, List.mem_range] at h
  obtain ⟨a, ha, rfl⟩ := h
  simp; omega

theorem mvs_lt (n : Nat) : ∀ (ds : List Nat) (i : Nat) (x : Nat × Nat), x ∈ mvs n i ds → x.1 + x.2 < n := by
  intro ds
  induction ds with
  | nil => intro i x h; simp [mvs] at h
  | cons d ds ih =>
    intro i x h
    simp only [mvs, mv1, List.mem_append] at h
    rcases h with (h | h | h) | h
    · split at h
      · simp only [List.mem_singleton] at h; subst h; simp; omega
      · simp at h
    · split at h
      · simp only [List.mem_singleton] at h; subst h; simp; omega
      · simp at h
    · split at h
      · have := parts_lt h; omega
      · simp at h
    · exact ih _ _ h
end Go.Proofs.Ytodnfchkkgoabaa
