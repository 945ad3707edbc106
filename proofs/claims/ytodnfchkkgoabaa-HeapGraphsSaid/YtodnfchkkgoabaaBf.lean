/- The search from the ends of plays on (plain lists). -/
import Derived.Test.YtodnfchkkgoabaaMp
import Derived.Test.YtodnfchkkgoabaaRv
namespace Go.Proofs.Ytodnfchkkgoabaa

abbrev Pos := Nat × Nat
/-- The moves that are left, and what has been found, in its order. -/
abbrev St := List Int × List (Pos × Nat)

def put (k : Pos) (d : Nat) (M : List (Pos × Nat)) : List (Pos × Nat) := if (lk k M 0).isSome then M else M ++ [(k, d)]
def relax (t d : Nat) (s : St) (u : Nat) : St :=
  if t = 1 then
    (if 0 < s.1.getD u 0 - 1 then (s.1.set u (s.1.getD u 0 - 1), s.2) else (s.1.set u (s.1.getD u 0 - 1), put (u, 0) (d + 1) s.2))
  else (s.1, put (u, 1) (d + 1) s.2)
def relaxs (t d : Nat) : St → List Nat → St
  | s, [] => s
  | s, u :: us => relaxs t d (relax t d s u) us
def bfs (F : List (List Nat)) : Nat → Nat → St → St
  | 0, _, s => s
  | f + 1, p, s => match s.2[p]? with
    | none => s
    | some x => bfs F f (p + 1) (relaxs x.1.2 x.2 s (F.getD x.1.1 []))
def ini : Nat → St → List (List Nat) → St
  | _, s, [] => s
  | v, s, r :: rs => ini (v + 1) (s.1.set v (r.length : Int), if r.length = 0 then s.2 ++ [((v, 0), 0)] else s.2) rs
def start (G : List (List Nat)) : St := ini 0 (List.replicate G.length 0, []) G
def dec (G : List (List Nat)) : List (Pos × Nat) := (bfs (revs G) (2 * G.length + 1) 0 (start G)).2

/-- What the found positions always are. -/
structure KOk (n : Nat) (M : List (Pos × Nat)) : Prop where
  nodup : (M.map (·.1)).Nodup
  vert : ∀ x ∈ M, x.1.1 < n ∧ x.1.2 < 2
  dist : ∀ (i : Nat) (x : Pos × Nat), M[i]? = some x → x.2 ≤ i

theorem KOk.put' {n d p : Nat} {k : Pos} {M : List (Pos × Nat)} (h : KOk n M) (hk : k.1 < n ∧ k.2 < 2) (hd : d ≤ p + 1) (hp : p < M.length) : KOk n (put k d M) := by
  unfold put
  split
  · exact h
  · rename_i hn
    have hn2 : lk k M 0 = none := by
      cases hq : lk k M 0 with
      | none => rfl
      | some x => rw [hq] at hn; simp at hn
    have hne := lk_none.1 hn2
    refine ⟨?_, ?_, ?_⟩
    · rw [List.map_append, List.nodup_append]
      refine ⟨h.nodup, by simp, ?_⟩
      intro a ha b hb
      simp at hb
      subst hb
      simp only [List.mem_map] at ha
      obtain ⟨x, hx, rfl⟩ := ha
      exact hne x hx
    · intro x hx
      rcases List.mem_append.1 hx with hx | hx
      · exact h.vert x hx
      · simp at hx; subst hx; exact hk
    · intro i x hx
      rw [List.getElem?_append] at hx
      split at hx
      · exact h.dist i x hx
      · rename_i hi
        have : i = M.length := by
          rcases Nat.lt_or_ge (i - M.length) 1 with h' | h'
          · omega
          · rw [List.getElem?_eq_none (by simpa using h')] at hx; cases hx
        subst this
        simp at hx
        subst hx
        show d ≤ _
        omega

theorem put_len (k : Pos) (d : Nat) (M : List (Pos × Nat)) : M.length ≤ (put k d M).length ∧ (put k d M).take M.length = M := by
  unfold put
  split
  · exact ⟨Nat.le_refl _, List.take_length⟩
  · exact ⟨by simp, by simp⟩

theorem nodup_lt : ∀ (m : Nat) (l : List Nat), l.Nodup → (∀ x ∈ l, x < m) → l.length ≤ m := by
  intro m
  induction m with
  | zero =>
    intro l _ h
    cases l with
    | nil => simp
    | cons a l => have := h a (by simp); omega
  | succ m ih =>
    intro l hn h
    have h1 : (l.erase m).Nodup := hn.erase _
    have h2 := ih (l.erase m) h1 (fun x hx => by
      have h3 := List.mem_of_mem_erase hx
      have h4 := h x h3
      have h5 : x ≠ m := fun e => by
        subst e
        exact (List.Nodup.not_mem_erase hn) hx
      omega)
    by_cases hm : m ∈ l
    · rw [List.length_erase_of_mem hm] at h2; omega
    · rw [List.erase_of_not_mem hm] at h2; omega

theorem KOk.len {n : Nat} {M : List (Pos × Nat)} (h : KOk n M) : M.length ≤ 2 * n := by
  have h1 : (M.map fun x => 2 * x.1.1 + x.1.2).Nodup := by
    have h2 := h.nodup
    unfold List.Nodup at h2 ⊢
    rw [List.pairwise_map] at h2 ⊢
    refine List.Pairwise.imp_of_mem ?_ h2
    intro x y hx hy hne e
    have h3 := h.vert x hx
    have h4 := h.vert y hy
    exact hne (Prod.ext (by omega) (by omega))
  have := nodup_lt (2 * n) _ h1 (fun x hx => by
    simp only [List.mem_map] at hx
    obtain ⟨y, hy, rfl⟩ := hx
    have := h.vert y hy; omega)
  simpa using this

theorem revRow_get (v : Nat) : ∀ (r : List Nat) (F : List (List Nat)) (y : Nat), (∀ u ∈ (revRow v F r).getD y [], u ∈ F.getD y [] ∨ u = v) ∧ ((revRow v F r).getD y []).length ≤ (F.getD y []).length + r.length := by
  intro r
  induction r with
  | nil => intro F y; exact ⟨fun u h => .inl h, Nat.le_refl _⟩
  | cons x r ih =>
    intro F y
    have h := ih (F.set x (F.getD x [] ++ [v])) y
    have e : (F.set x (F.getD x [] ++ [v])).getD y [] = F.getD y [] ∨ (F.set x (F.getD x [] ++ [v])).getD y [] = F.getD y [] ++ [v] := by
      by_cases hx : x < F.length
      · rw [set_getD _ _ _ _ hx]
        split
        · rename_i e; subst e; exact .inr rfl
        · exact .inl rfl
      · rw [List.set_eq_of_length_le (by omega)]; exact .inl rfl
    rw [revRow, List.length_cons]
    rcases e with e | e
    · rw [e] at h
      exact ⟨h.1, by omega⟩
    · rw [e] at h
      refine ⟨fun u hu => ?_, by have h8 := h.2; rw [List.length_append, List.length_singleton] at h8; omega⟩
      rcases h.1 u hu with h1 | h1
      · rcases List.mem_append.1 h1 with h2 | h2
        · exact .inl h2
        · simp at h2; exact .inr h2
      · exact .inr h1
theorem revG_get : ∀ (rs : List (List Nat)) (v : Nat) (F : List (List Nat)) (y : Nat), (∀ r ∈ rs, r.length ≤ 200) → (∀ u ∈ (revG v F rs).getD y [], u ∈ F.getD y [] ∨ (v ≤ u ∧ u < v + rs.length)) ∧ ((revG v F rs).getD y []).length ≤ (F.getD y []).length + 200 * rs.length := by
  intro rs
  induction rs with
  | nil => intro v F y _; exact ⟨fun u h => .inl h, Nat.le_refl _⟩
  | cons r rs ih =>
    intro v F y hr
    have h := ih (v + 1) (revRow v F r) y (fun x hx => hr x (by simp [hx]))
    have k := revRow_get v r F y
    have hl := hr r (by simp)
    rw [revG, List.length_cons]
    refine ⟨fun u hu => ?_, by have := h.2; have := k.2; omega⟩
    rcases h.1 u hu with h1 | h1
    · rcases k.1 u h1 with h2 | h2
      · exact .inl h2
      · right; omega
    · right; omega
theorem revs_get (G : List (List Nat)) (y : Nat) (hr : ∀ v, (G.getD v []).length ≤ 200) : (∀ u ∈ (revs G).getD y [], u < G.length) ∧ ((revs G).getD y []).length ≤ 200 * G.length := by
  have e : (List.replicate G.length ([] : List Nat)).getD y [] = [] := by
    rw [List.getD_eq_getElem?_getD, List.getElem?_replicate]; split <;> rfl
  have h := revG_get G 0 (List.replicate G.length []) y (fun r h => by
    obtain ⟨i, hi, rfl⟩ := List.getElem_of_mem h
    have := hr i
    rw [List.getD_eq_getElem?_getD, List.getElem?_eq_getElem hi] at this
    exact this)
  rw [e] at h
  unfold revs
  refine ⟨fun u hu => ?_, by have := h.2; simpa using this⟩
  rcases h.1 u hu with h1 | h1
  · simp at h1
  · omega

theorem lk_get {k : Pos} {d : Nat} : ∀ {M : List (Pos × Nat)} {p i : Nat}, (M.map (·.1)).Nodup → M[p]? = some (k, d) → lk k M i = some (i + p, d) := by
  intro M
  induction M with
  | nil => intro p i _ h; simp at h
  | cons y M ih =>
    intro p i hn h
    rw [List.map_cons, List.nodup_cons] at hn
    cases p with
    | zero => simp only [List.getElem?_cons_zero, Option.some.injEq] at h; subst h; simp [lk]
    | succ p =>
      have h2 : M[p]? = some (k, d) := by simpa using h
      have hne : y.1 ≠ k := fun e => hn.1 (by
        rw [e]; exact List.mem_map.2 ⟨_, List.mem_of_getElem? h2, rfl⟩)
      unfold lk
      rw [if_neg hne, ih hn.2 h2]
      congr 2; omega
theorem put_get {k j : Pos} {d e p : Nat} {M : List (Pos × Nat)} (h : M[p]? = some (j, e)) : (put k d M)[p]? = some (j, e) := by
  unfold put
  split
  · exact h
  · rw [List.getElem?_append_left (List.getElem?_eq_some_iff.1 h).1]; exact h
end Go.Proofs.Ytodnfchkkgoabaa
