/- What the search finds (plain lists). -/
import Derived.Test.YtodnfchkkgoabaaHGa
import Derived.Test.YtodnfchkkgoabaaHOc
namespace Go.Proofs.Ytodnfchkkgoabaa

theorem put_mem {k : Pos} {d : Nat} {M : List (Pos × Nat)} {x : Pos × Nat} (h : x ∈ M) : x ∈ put k d M := by
  unfold put; split
  · exact h
  · exact List.mem_append_left _ h
theorem put_idx {k : Pos} {d i : Nat} {M : List (Pos × Nat)} {x : Pos × Nat} (h : (put k d M)[i]? = some x) : M[i]? = some x ∨ (i = M.length ∧ x = (k, d) ∧ ∀ y ∈ M, y.1 ≠ k) := by
  unfold put at h
  split at h
  · exact .inl h
  · rename_i hn
    rw [List.getElem?_append] at h
    split at h
    · exact .inl h
    · rename_i hi
      have : i = M.length := by
        rcases Nat.lt_or_ge (i - M.length) 1 with h' | h'
        · omega
        · rw [List.getElem?_eq_none (by simpa using h')] at h; cases h
      subst this
      simp at h
      refine .inr ⟨rfl, h.symm, ?_⟩
      have hn2 : lk k M 0 = none := by
        cases hq : lk k M 0 with
        | none => rfl
        | some x => rw [hq] at hn; simp at hn
      exact lk_none.1 hn2
theorem put_new {k : Pos} {d : Nat} {M : List (Pos × Nat)} {x : Pos × Nat} (h : x ∈ put k d M) : x ∈ M ∨ (x = (k, d) ∧ ∀ y ∈ M, y.1 ≠ k) := by
  obtain ⟨i, hi⟩ := List.getElem?_of_mem h
  rcases put_idx hi with h1 | ⟨_, h1, h2⟩
  · exact .inl (List.mem_of_getElem? h1)
  · exact .inr ⟨h1, h2⟩
theorem put_found (k : Pos) (d : Nat) (M : List (Pos × Nat)) : ∃ e, (k, e) ∈ put k d M ∧ (e = d ∨ (k, e) ∈ M) := by
  by_cases h : ∃ x ∈ M, x.1 = k
  · obtain ⟨⟨k', e⟩, hx, rfl⟩ := h
    exact ⟨e, put_mem hx, .inr hx⟩
  · refine ⟨d, ?_, .inl rfl⟩
    have : lk k M 0 = none := lk_none.2 (fun x hx e => h ⟨x, hx, e⟩)
    unfold put
    rw [this]
    simp

/-- What is known of the found ones, when all before p, and the edges from dn at p, have been looked at. -/
structure MI (G : List (List Nat)) (p : Nat) (dn : List Nat) (S : Nat → Nat → Bool) (M : List (Pos × Nat)) : Prop where
  kok : KOk G.length M
  s1 : ∀ u w, S u w = true → ∃ i d, M[i]? = some ((w, 1), d) ∧ (i < p ∨ (i = p ∧ u ∈ dn))
  s2 : ∀ i w d u, M[i]? = some ((w, 1), d) → w ∈ G.getD u [] → u < G.length → (i < p ∨ (i = p ∧ u ∈ dn)) → S u w = true
  l2 : ∀ i w d u, M[i]? = some ((w, 0), d) → w ∈ G.getD u [] → u < G.length → (i < p ∨ (i = p ∧ u ∈ dn)) → ∃ e, e ≤ d + 1 ∧ ((u, 1), e) ∈ M
  won : ∀ u e, ((u, 1), e) ∈ M → ∃ w ∈ G.getD u [], ∃ d, ((w, 0), d) ∈ M ∧ e = d + 1
  lost : ∀ u e, ((u, 0), e) ∈ M → (G.getD u [] = [] ∧ e = 0) ∨ ((∃ w ∈ G.getD u [], ∃ d, ((w, 1), d) ∈ M ∧ e = d + 1) ∧ ∀ w ∈ G.getD u [], ∃ d, ((w, 1), d) ∈ M ∧ d < e)
  srt : ∀ (i j : Nat) (x y : Pos × Nat), i ≤ j → M[i]? = some x → M[j]? = some y → x.2 ≤ y.2
  top : ∀ (x y : Pos × Nat), M[p]? = some x → y ∈ M → y.2 ≤ x.2 + 1

/-- The moves that are left. -/
structure CI (G : List (List Nat)) (S : Nat → Nat → Bool) (s : St) : Prop where
  len : s.1.length = G.length
  cnt : ∀ u, u < G.length → s.1.getD u 0 = (((G.getD u []).filter fun w => !S u w).length : Int)
  full : ∀ u, u < G.length → (∀ w ∈ G.getD u [], S u w = true) → ∃ e, ((u, 0), e) ∈ s.2

theorem MI.put {G : List (List Nat)} {p : Nat} {dn : List Nat} {S : Nat → Nat → Bool} {M : List (Pos × Nat)} (h : MI G p dn S M) {x0 : Pos} {D u t : Nat} (hp : M[p]? = some (x0, D)) (hu : u < G.length) (ht : t < 2)
    (j1 : t = 1 → ∃ w ∈ G.getD u [], ((w, 0), D) ∈ M)
    (j0 : t = 0 → (∃ w ∈ G.getD u [], ((w, 1), D) ∈ M) ∧ ∀ w ∈ G.getD u [], ∃ d, ((w, 1), d) ∈ M ∧ d < D + 1) :
    MI G p dn S (put (u, t) (D + 1) M) := by
  have hpl : p < M.length := (List.getElem?_eq_some_iff.1 hp).1
  have hD : D ≤ p := h.kok.dist p _ hp
  refine ⟨h.kok.put' ⟨hu, ht⟩ (by omega) hpl, ?_, ?_, ?_, ?_, ?_, ?_, ?_⟩
  · intro a w hs
    obtain ⟨i, d, h1, h2⟩ := h.s1 a w hs
    exact ⟨i, d, put_get h1, h2⟩
  · intro i w d a hi hw ha hip
    rcases put_idx hi with h1 | ⟨h1, _⟩
    · exact h.s2 i w d a h1 hw ha hip
    · omega
  · intro i w d a hi hw ha hip
    rcases put_idx hi with h1 | ⟨h1, _⟩
    · obtain ⟨e, h2, h3⟩ := h.l2 i w d a h1 hw ha hip
      exact ⟨e, h2, put_mem h3⟩
    · omega
  · intro a e ha
    rcases put_new ha with h1 | ⟨h1, _⟩
    · obtain ⟨w, h2, d, h3, h4⟩ := h.won a e h1
      exact ⟨w, h2, d, put_mem h3, h4⟩
    · simp only [Prod.mk.injEq] at h1
      obtain ⟨⟨rfl, rfl⟩, rfl⟩ := h1
      obtain ⟨w, h2, h3⟩ := j1 rfl
      exact ⟨w, h2, D, put_mem h3, rfl⟩
  · intro a e ha
    rcases put_new ha with h1 | ⟨h1, _⟩
    · rcases h.lost a e h1 with h2 | ⟨⟨w, h2, d, h3, h4⟩, h5⟩
      · exact .inl h2
      · refine .inr ⟨⟨w, h2, d, put_mem h3, h4⟩, fun w hw => ?_⟩
        obtain ⟨d, h6, h7⟩ := h5 w hw
        exact ⟨d, put_mem h6, h7⟩
    · simp only [Prod.mk.injEq] at h1
      obtain ⟨⟨rfl, rfl⟩, rfl⟩ := h1
      obtain ⟨⟨w, h2, h3⟩, h5⟩ := j0 rfl
      refine .inr ⟨⟨w, h2, D, put_mem h3, rfl⟩, fun w hw => ?_⟩
      obtain ⟨d, h6, h7⟩ := h5 w hw
      exact ⟨d, put_mem h6, h7⟩
  · intro i j x y hij hi hj
    rcases put_idx hi with h1 | ⟨h1, h2, _⟩
    · rcases put_idx hj with h3 | ⟨h3, h4, _⟩
      · exact h.srt i j x y hij h1 h3
      · subst h4
        have := h.top _ x hp (List.mem_of_getElem? h1)
        exact this
    · rcases put_idx hj with h3 | ⟨h3, h4, _⟩
      · have := (List.getElem?_eq_some_iff.1 h3).1; omega
      · subst h2 h4; exact Nat.le_refl _
  · intro x y hx hy
    rw [put_get hp] at hx
    cases hx
    rcases put_new hy with h1 | ⟨h1, _⟩
    · exact h.top _ y hp h1
    · subst h1; exact Nat.le_refl _

theorem filter_less {v : Nat} {f : Nat → Bool} (hf : f v = true) : ∀ l : List Nat, l.Nodup → v ∈ l → (l.filter fun w => f w && !(w == v)).length + 1 = (l.filter f).length := by
  intro l
  induction l with
  | nil => intro _ h; cases h
  | cons x l ih =>
    intro hn hv
    rw [List.nodup_cons] at hn
    by_cases e : x = v
    · subst e
      have h1 : (l.filter fun w => f w && !(w == x)) = l.filter f := List.filter_congr (fun y hy => by
        have : y ≠ x := fun e => hn.1 (e ▸ hy)
        simp [this])
      simp [hf, h1]
    · have hv2 : v ∈ l := by
        rcases List.mem_cons.1 hv with h | h
        · exact absurd h.symm e
        · exact h
      have h1 := ih hn.2 hv2
      have h2 : (f x && !(x == v)) = f x := by simp [e]
      rw [List.filter_cons, List.filter_cons, h2]
      split
      · simp only [List.length_cons]; omega
      · exact h1

/-- One edge more, to a vertex that is won. -/
theorem MI.edge1 {G : List (List Nat)} {p : Nat} {dn : List Nat} {S : Nat → Nat → Bool} {M : List (Pos × Nat)} (h : MI G p dn S M) {v D u : Nat} (hp : M[p]? = some ((v, 1), D)) :
    MI G p (dn ++ [u]) (fun a b => S a b || (a == u && b == v)) M := by
  refine ⟨h.kok, ?_, ?_, ?_, h.won, h.lost, h.srt, h.top⟩
  · intro a w hs
    simp only [Bool.or_eq_true, Bool.and_eq_true, beq_iff_eq] at hs
    rcases hs with hs | ⟨rfl, rfl⟩
    · obtain ⟨i, d, h1, h2⟩ := h.s1 a w hs
      exact ⟨i, d, h1, h2.imp id (fun h3 => ⟨h3.1, List.mem_append_left _ h3.2⟩)⟩
    · exact ⟨p, D, hp, .inr ⟨rfl, by simp⟩⟩
  · intro i w d a hi hw ha hip
    simp only [Bool.or_eq_true, Bool.and_eq_true, beq_iff_eq]
    rcases hip with hip | ⟨rfl, hip⟩
    · exact .inl (h.s2 i w d a hi hw ha (.inl hip))
    · rcases List.mem_append.1 hip with h1 | h1
      · exact .inl (h.s2 i w d a hi hw ha (.inr ⟨rfl, h1⟩))
      · simp at h1
        rw [hp] at hi
        simp at hi
        exact .inr ⟨h1, hi.1.symm⟩
  · intro i w d a hi hw ha hip
    rcases hip with hip | ⟨rfl, hip⟩
    · exact h.l2 i w d a hi hw ha (.inl hip)
    · rw [hp] at hi; simp at hi
/-- One edge more, to a vertex that is lost. -/
theorem MI.edge0 {G : List (List Nat)} {p : Nat} {dn : List Nat} {S : Nat → Nat → Bool} {M : List (Pos × Nat)} (h : MI G p dn S M) {v D u : Nat} (hp : M[p]? = some ((v, 0), D)) (hu : ∃ e, e ≤ D + 1 ∧ ((u, 1), e) ∈ M) :
    MI G p (dn ++ [u]) S M := by
  refine ⟨h.kok, ?_, ?_, ?_, h.won, h.lost, h.srt, h.top⟩
  · intro a w hs
    obtain ⟨i, d, h1, h2⟩ := h.s1 a w hs
    exact ⟨i, d, h1, h2.imp id (fun h3 => ⟨h3.1, List.mem_append_left _ h3.2⟩)⟩
  · intro i w d a hi hw ha hip
    rcases hip with hip | ⟨rfl, hip⟩
    · exact h.s2 i w d a hi hw ha (.inl hip)
    · rw [hp] at hi; simp at hi
  · intro i w d a hi hw ha hip
    rcases hip with hip | ⟨rfl, hip⟩
    · exact h.l2 i w d a hi hw ha (.inl hip)
    · rcases List.mem_append.1 hip with h1 | h1
      · exact h.l2 i w d a hi hw ha (.inr ⟨rfl, h1⟩)
      · simp at h1
        subst h1
        rw [hp] at hi
        simp at hi
        obtain ⟨_, rfl⟩ := hi
        exact hu

theorem get_inj {n i j : Nat} {k : Pos} {d e : Nat} {M : List (Pos × Nat)} (h : KOk n M) (hi : M[i]? = some (k, d)) (hj : M[j]? = some (k, e)) : i = j ∧ d = e := by
  have h1 := lk_get (i := 0) h.nodup hi
  have h2 := lk_get (i := 0) h.nodup hj
  rw [h1] at h2
  simp at h2
  omega

theorem relax_ok {G : List (List Nat)} {p : Nat} {dn : List Nat} {S : Nat → Nat → Bool} {s : St} (hm : MI G p dn S s.2) (hc : CI G S s) {v t D u : Nat} (hp : s.2[p]? = some ((v, t), D)) (hu : u < G.length) (hv : v ∈ G.getD u []) (hd : u ∉ dn)
    (hn : (G.getD u []).Nodup) : ∃ S', MI G p (dn ++ [u]) S' (relax t D s u).2 ∧ CI G S' (relax t D s u) ∧ (relax t D s u).2[p]? = some ((v, t), D) := by
  have ht : t < 2 := (hm.kok.vert _ (List.mem_of_getElem? hp)).2
  by_cases h1 : t = 1
  · subst h1
    have hS : S u v = false := by
      cases hq : S u v with
      | false => rfl
      | true =>
        obtain ⟨i, d, h2, h3⟩ := hm.s1 u v hq
        have := (get_inj hm.kok h2 hp).1
        rcases h3 with h3 | ⟨_, h3⟩
        · omega
        · exact absurd h3 hd
    have e1 := hm.edge1 (u := u) hp
    have hcu := hc.cnt u hu
    have hfl : ((G.getD u []).filter fun w => !(S u w || (u == u && w == v))).length + 1 = ((G.getD u []).filter fun w => !S u w).length := by
      have := filter_less (v := v) (f := fun w => !S u w) (by simp [hS]) _ hn hv
      rw [← this]
      congr 2
      refine List.filter_congr (fun w _ => ?_)
      simp
    have hcnt : ∀ a, a < G.length → (s.1.set u (s.1.getD u 0 - 1)).getD a 0 = (((G.getD a []).filter fun w => !(S a w || (a == u && w == v))).length : Int) := by
      intro a ha
      rw [getD_set _ _ _ _ (by rw [hc.len]; exact hu)]
      split
      · rename_i e
        subst e
        rw [hcu]; omega
      · rename_i e
        rw [hc.cnt a ha]
        congr 2
        refine List.filter_congr (fun w _ => ?_)
        simp [e]
    by_cases h2 : 0 < s.1.getD u 0 - 1
    · have hr : relax 1 D s u = (s.1.set u (s.1.getD u 0 - 1), s.2) := by
        unfold relax; rw [if_pos rfl, if_pos h2]
      rw [hr]
      refine ⟨_, e1, ⟨by simpa using hc.len, hcnt, ?_⟩, hp⟩
      intro a ha hall
      by_cases e : a = u
      · subst e
        exfalso
        have h3 : ((G.getD a []).filter fun w => !(S a w || (a == a && w == v))) = [] := List.filter_eq_nil_iff.2 (fun w hw => by rw [hall w hw]; simp)
        rw [h3] at hfl
        rw [← hfl] at hcu
        simp only [List.length_nil] at hcu
        omega
      · refine hc.full a ha (fun w hw => ?_)
        have := hall w hw
        simpa [e] using this
    · have hr : relax 1 D s u = (s.1.set u (s.1.getD u 0 - 1), put (u, 0) (D + 1) s.2) := by
        unfold relax; rw [if_pos rfl, if_neg h2]
      rw [hr]
      have hnil : ((G.getD u []).filter fun w => !(S u w || (u == u && w == v))) = [] := List.length_eq_zero_iff.1 (by omega)
      have hall : ∀ w ∈ G.getD u [], ∃ d, ((w, 1), d) ∈ s.2 ∧ d < D + 1 := by
        intro w hw
        have h3 := List.filter_eq_nil_iff.1 hnil w hw
        obtain ⟨i, d, h4, h5⟩ := e1.s1 u w (by
          cases hq : (S u w || (u == u && w == v)) with
          | true => rfl
          | false => rw [hq] at h3; exact absurd rfl h3)
        refine ⟨d, List.mem_of_getElem? h4, ?_⟩
        have := hm.srt i p _ _ (by omega) h4 hp
        exact Nat.lt_succ_of_le this
      refine ⟨_, e1.put hp hu (by decide) (fun h => by cases h) (fun _ => ⟨⟨v, hv, List.mem_of_getElem? hp⟩, hall⟩), ⟨by simpa using hc.len, hcnt, ?_⟩, put_get hp⟩
      intro a ha hal
      by_cases e : a = u
      · subst e
        obtain ⟨e, h3, _⟩ := put_found (a, 0) (D + 1) s.2
        exact ⟨e, h3⟩
      · obtain ⟨e', h3⟩ := hc.full a ha (fun w hw => by
          have := hal w hw
          simpa [e] using this)
        exact ⟨e', put_mem h3⟩
  · obtain rfl : t = 0 := by omega
    have hr : relax 0 D s u = (s.1, put (u, 1) (D + 1) s.2) := by unfold relax; rw [if_neg (by decide)]
    rw [hr]
    have m1 := hm.put hp hu (by decide : 1 < 2) (fun _ => ⟨v, hv, List.mem_of_getElem? hp⟩) (fun h => by cases h)
    refine ⟨S, m1.edge0 (put_get hp) ?_, ⟨hc.len, hc.cnt, fun a ha hal => ?_⟩, put_get hp⟩
    · obtain ⟨e, h3, h4⟩ := put_found (u, 1) (D + 1) s.2
      refine ⟨e, ?_, h3⟩
      rcases h4 with h4 | h4
      · omega
      · exact hm.top _ _ hp h4
    · obtain ⟨e, h3⟩ := hc.full a ha hal
      exact ⟨e, put_mem h3⟩

theorem relaxs_ok {G : List (List Nat)} {p v t D : Nat} (hn : ∀ v, (G.getD v []).Nodup) : ∀ (us dn : List Nat) (S : Nat → Nat → Bool) (s : St), MI G p dn S s.2 → CI G S s → s.2[p]? = some ((v, t), D) → (∀ u ∈ us, u < G.length ∧ v ∈ G.getD u []) → us.Nodup → (∀ u ∈ us, u ∉ dn) →
    ∃ S', MI G p (dn ++ us) S' (relaxs t D s us).2 ∧ CI G S' (relaxs t D s us) ∧ (relaxs t D s us).2[p]? = some ((v, t), D) := by
  intro us
  induction us with
  | nil => intro dn S s hm hc hp _ _ _; exact ⟨S, by rw [List.append_nil]; exact hm, hc, hp⟩
  | cons u us ih =>
    intro dn S s hm hc hp hus hnd hdn
    rw [List.nodup_cons] at hnd
    obtain ⟨S1, m1, c1, p1⟩ := relax_ok hm hc hp (hus u (by simp)).1 (hus u (by simp)).2 (hdn u (by simp)) (hn u)
    obtain ⟨S2, m2, c2, p2⟩ := ih (dn ++ [u]) S1 _ m1 c1 p1 (fun w hw => hus w (by simp [hw])) hnd.2 (fun w hw => by
      rw [List.mem_append, List.mem_singleton]
      rintro (h | h)
      · exact hdn w (by simp [hw]) h
      · exact hnd.1 (h ▸ hw))
    refine ⟨S2, ?_, c2, p2⟩
    rw [List.append_assoc] at m2
    exact m2

theorem MI.next {G : List (List Nat)} {p v t D : Nat} {S : Nat → Nat → Bool} {M : List (Pos × Nat)} (hx : ∀ v, ∀ x ∈ G.getD v [], x < G.length) (h : MI G p ((revs G).getD v []) S M) (hp : M[p]? = some ((v, t), D)) : MI G (p + 1) [] S M := by
  have hpl : p < M.length := (List.getElem?_eq_some_iff.1 hp).1
  refine ⟨h.kok, ?_, ?_, ?_, h.won, h.lost, h.srt, ?_⟩
  · intro u w hs
    obtain ⟨i, d, h1, h2⟩ := h.s1 u w hs
    exact ⟨i, d, h1, .inl (by omega)⟩
  · intro i w d u hi hw hu hip
    rcases hip with hip | ⟨_, hip⟩
    · refine h.s2 i w d u hi hw hu ?_
      by_cases e : i = p
      · subst e
        rw [hp] at hi
        simp at hi
        exact .inr ⟨rfl, (revs_mem G hx v u).2 ⟨hu, by rw [hi.1.1]; exact hw⟩⟩
      · exact .inl (by omega)
    · cases hip
  · intro i w d u hi hw hu hip
    rcases hip with hip | ⟨_, hip⟩
    · refine h.l2 i w d u hi hw hu ?_
      by_cases e : i = p
      · subst e
        rw [hp] at hi
        simp at hi
        exact .inr ⟨rfl, (revs_mem G hx v u).2 ⟨hu, by rw [hi.1.1]; exact hw⟩⟩
      · exact .inl (by omega)
    · cases hip
  · intro x y hx' hy
    have h1 := h.top _ y hp hy
    have h2 := h.srt p (p + 1) _ x (by omega) hp hx'
    simp at h1 h2
    omega

theorem bfs_ok {G : List (List Nat)} (hx : ∀ v, ∀ x ∈ G.getD v [], x < G.length) (hn : ∀ v, (G.getD v []).Nodup) : ∀ (f p : Nat) (S : Nat → Nat → Bool) (s : St), MI G p [] S s.2 → CI G S s → 2 * G.length + 1 ≤ p + f →
    ∃ p' S', MI G p' [] S' (bfs (revs G) f p s).2 ∧ CI G S' (bfs (revs G) f p s) ∧ (bfs (revs G) f p s).2.length ≤ p' := by
  intro f
  induction f with
  | zero =>
    intro p S s hm hc hf
    have := hm.kok.len
    exact ⟨p, S, hm, hc, by unfold bfs; omega⟩
  | succ f ih =>
    intro p S s hm hc hf
    unfold bfs
    split
    · rename_i h
      exact ⟨p, S, hm, hc, List.getElem?_eq_none_iff.1 h⟩
    · rename_i x h
      obtain ⟨⟨v, t⟩, D⟩ := x
      obtain ⟨S1, m1, c1, p1⟩ := relaxs_ok hn ((revs G).getD v []) [] S s hm hc h (fun u hu => (revs_mem G hx v u).1 hu) (revs_nodup G hx hn v) (fun u _ h => by cases h)
      rw [List.nil_append] at m1
      exact ih (p + 1) S1 _ (m1.next hx p1) c1 (by omega)

theorem ini_get : ∀ (rs : List (List Nat)) (v : Nat) (s : St), v + rs.length ≤ s.1.length → (ini v s rs).1.length = s.1.length ∧ (∀ u, (ini v s rs).1.getD u 0 = if v ≤ u ∧ u < v + rs.length then ((rs.getD (u - v) []).length : Int) else s.1.getD u 0) ∧
    (∀ x, x ∈ (ini v s rs).2 ↔ x ∈ s.2 ∨ ∃ u, v ≤ u ∧ u < v + rs.length ∧ rs.getD (u - v) [] = [] ∧ x = ((u, 0), 0)) := by
  intro rs
  induction rs with
  | nil =>
    intro v s _
    refine ⟨rfl, fun u => ?_, fun x => ?_⟩
    · rw [if_neg (by simp)]; rfl
    · simp only [ini, List.length_nil]
      exact ⟨.inl, fun h => h.elim id (fun ⟨u, h1, h2, _⟩ => by omega)⟩
  | cons r rs ih =>
    intro v s hl
    rw [List.length_cons] at hl
    obtain ⟨h1, h2, h3⟩ := ih (v + 1) (s.1.set v (r.length : Int), if r.length = 0 then s.2 ++ [((v, 0), 0)] else s.2) (by simp; omega)
    rw [ini]
    refine ⟨by rw [h1]; simp, fun u => ?_, fun x => ?_⟩
    · rw [h2, List.length_cons]
      by_cases e : u = v
      · subst e
        have q1 : ¬ (u + 1 ≤ u ∧ u < u + 1 + rs.length) := by omega
        have q2 : u ≤ u ∧ u < u + (rs.length + 1) := by omega
        rw [if_neg q1, if_pos q2]
        show (s.1.set u (r.length : Int)).getD u 0 = _
        rw [getD_set _ _ _ _ (by omega), if_pos rfl, Nat.sub_self]
        rfl
      · by_cases e2 : v + 1 ≤ u ∧ u < v + 1 + rs.length
        · have q2 : v ≤ u ∧ u < v + (rs.length + 1) := by omega
          rw [if_pos e2, if_pos q2, show u - v = (u - (v + 1)) + 1 by omega]
          rfl
        · have q2 : ¬ (v ≤ u ∧ u < v + (rs.length + 1)) := by omega
          rw [if_neg e2, if_neg q2]
          show (s.1.set v (r.length : Int)).getD u 0 = _
          rw [getD_set _ _ _ _ (by omega), if_neg e]
    · rw [h3, List.length_cons]
      constructor
      · rintro (h | ⟨u, h4, h5, h6, h7⟩)
        · have h : x ∈ if r.length = 0 then s.2 ++ [((v, 0), 0)] else s.2 := h
          split at h
          · rename_i h0
            rcases List.mem_append.1 h with h | h
            · exact .inl h
            · simp at h
              exact .inr ⟨v, Nat.le_refl _, by omega, by rw [Nat.sub_self]; exact List.length_eq_zero_iff.1 h0, h⟩
          · exact .inl h
        · exact .inr ⟨u, by omega, by omega, by rw [show u - v = (u - (v + 1)) + 1 by omega]; exact h6, h7⟩
      · rintro (h | ⟨u, h4, h5, h6, h7⟩)
        · refine .inl ?_
          show x ∈ if r.length = 0 then s.2 ++ [((v, 0), 0)] else s.2
          split
          · exact List.mem_append_left _ h
          · exact h
        · by_cases e : u = v
          · subst e
            rw [Nat.sub_self] at h6
            refine .inl ?_
            show x ∈ if r.length = 0 then s.2 ++ [((u, 0), 0)] else s.2
            have h6 : r = [] := h6
            rw [if_pos (by rw [h6]; rfl), h7]
            simp
          · rw [show u - v = (u - (v + 1)) + 1 by omega] at h6
            exact .inr ⟨u, by omega, by omega, h6, h7⟩

theorem ini_okI {n : Nat} : ∀ (rs : List (List Nat)) (v : Nat) (s : St), okI n v s → v + rs.length ≤ n → (∀ r ∈ rs, r.length ≤ 200) → okI n (v + rs.length) (ini v s rs) := by
  intro rs
  induction rs with
  | nil => intro v s h _ _; exact h
  | cons r rs ih =>
    intro v s h hl hr
    rw [List.length_cons] at hl ⊢
    rw [ini, show v + (rs.length + 1) = v + 1 + rs.length by omega]
    refine ih (v + 1) _ ?_ (by omega) (fun r' h' => hr r' (by simp [h']))
    by_cases e : r.length = 0
    · rw [if_pos e, e]; exact h.none (by omega)
    · rw [if_neg e]; exact h.some (by omega) (hr r (by simp))

theorem start_ok {G : List (List Nat)} (hr : ∀ v, (G.getD v []).length ≤ 200) : MI G 0 [] (fun _ _ => false) (start G).2 ∧ CI G (fun _ _ => false) (start G) := by
  have hk : KOk G.length (start G).2 := by
    have h := ini_okI (n := G.length) G 0 (List.replicate G.length 0, []) ⟨by simp, fun u => by
      have : (List.replicate G.length (0 : Int)).getD u 0 = 0 := by rw [List.getD_eq_getElem?_getD, List.getElem?_replicate]; split <;> rfl
      show 0 ≤ (List.replicate G.length (0 : Int)).getD u 0 ∧ _
      rw [this]; omega, by simp, fun x hx => by (cases hx), by simp⟩ (by omega) (fun r h => by obtain ⟨v, rfl⟩ := row_mem h; exact hr v)
    rw [Nat.zero_add] at h
    exact h.kok
  obtain ⟨h1, h2, h3⟩ := ini_get G 0 (List.replicate G.length 0, []) (by simp)
  have h3 : ∀ x, x ∈ (start G).2 ↔ ∃ u, u < G.length ∧ G.getD u [] = [] ∧ x = ((u, 0), 0) := fun x => by
    unfold start
    rw [h3]
    simp
  have h0 : ∀ x ∈ (start G).2, x.1.2 = 0 ∧ x.2 = 0 ∧ G.getD x.1.1 [] = [] := fun x hx => by
    obtain ⟨u, _, h4, rfl⟩ := (h3 x).1 hx
    exact ⟨rfl, rfl, h4⟩
  refine ⟨⟨hk, fun u w h => by (cases h), ?_, ?_, ?_, ?_, ?_, ?_⟩, ⟨by unfold start; rw [h1]; simp, ?_, ?_⟩⟩
  · intro i w d u hi _ _ _
    have := (h0 _ (List.mem_of_getElem? hi)).1
    simp at this
  · intro i w d u _ _ _ h
    rcases h with h | ⟨_, h⟩
    · omega
    · cases h
  · intro u e h
    have := (h0 _ h).1
    simp at this
  · intro u e h
    have := h0 _ h
    exact .inl ⟨this.2.2, this.2.1⟩
  · intro i j x y _ hi hj
    have := (h0 _ (List.mem_of_getElem? hi)).2.1
    omega
  · intro x y _ hy
    have := (h0 _ hy).2.1
    omega
  · intro u hu
    unfold start
    rw [h2, if_pos (by omega), Nat.sub_zero]
    have : ((G.getD u []).filter fun _ => !false) = G.getD u [] := List.filter_eq_self.2 (fun _ _ => rfl)
    rw [this]
  · intro u hu hall
    refine ⟨0, (h3 _).2 ⟨u, hu, ?_, rfl⟩⟩
    match hq : G.getD u [] with
    | [] => rfl
    | w :: l => have := hall w (by rw [hq]; simp); cases this

/-- What the search finds in the end. -/
structure DF (G : List (List Nat)) (M : List (Pos × Nat)) : Prop where
  vert : ∀ u t e, ((u, t), e) ∈ M → u < G.length ∧ t < 2
  far : ∀ k d, (k, d) ∈ M → d ≤ 2 * G.length
  uniq : ∀ k d e, (k, d) ∈ M → (k, e) ∈ M → d = e
  step : ∀ u w d, ((w, 0), d) ∈ M → w ∈ G.getD u [] → u < G.length → ∃ e, e ≤ d + 1 ∧ ((u, 1), e) ∈ M
  won : ∀ u e, ((u, 1), e) ∈ M → ∃ w ∈ G.getD u [], ∃ d, ((w, 0), d) ∈ M ∧ e = d + 1
  lost : ∀ u e, ((u, 0), e) ∈ M → (G.getD u [] = [] ∧ e = 0) ∨ ((∃ w ∈ G.getD u [], ∃ d, ((w, 1), d) ∈ M ∧ e = d + 1) ∧ ∀ w ∈ G.getD u [], ∃ d, ((w, 1), d) ∈ M ∧ d < e)
  full : ∀ u, u < G.length → (∀ w ∈ G.getD u [], ∃ d, ((w, 1), d) ∈ M) → ∃ e, ((u, 0), e) ∈ M

theorem dec_ok {G : List (List Nat)} (hx : ∀ v, ∀ x ∈ G.getD v [], x < G.length) (hn : ∀ v, (G.getD v []).Nodup) (hr : ∀ v, (G.getD v []).length ≤ 200) : DF G (dec G) := by
  obtain ⟨m0, c0⟩ := start_ok hr
  obtain ⟨p, S, m, c, hp⟩ := bfs_ok hx hn (2 * G.length + 1) 0 _ (start G) m0 c0 (by omega)
  refine ⟨fun u t e h => m.kok.vert _ h, fun k d h => ?_, fun k d e h1 h2 => ?_, ?_, m.won, m.lost, ?_⟩
  · obtain ⟨i, hi⟩ := List.getElem?_of_mem h
    have h1 := m.kok.dist i _ hi
    have h2 := (List.getElem?_eq_some_iff.1 hi).1
    have h3 : (dec G).length ≤ 2 * G.length := m.kok.len
    have h4 : d ≤ i := h1
    omega
  · obtain ⟨i, hi⟩ := List.getElem?_of_mem h1
    obtain ⟨j, hj⟩ := List.getElem?_of_mem h2
    exact (get_inj m.kok hi hj).2
  · intro u w d h hw hu
    obtain ⟨i, hi⟩ := List.getElem?_of_mem h
    exact m.l2 i w d u hi hw hu (.inl (Nat.lt_of_lt_of_le (List.getElem?_eq_some_iff.1 hi).1 hp))
  · intro u hu hall
    refine c.full u hu (fun w hw => ?_)
    obtain ⟨d, h⟩ := hall w hw
    obtain ⟨i, hi⟩ := List.getElem?_of_mem h
    exact m.s2 i w d u hi hw hu (.inl (Nat.lt_of_lt_of_le (List.getElem?_eq_some_iff.1 hi).1 hp))

theorem DF.one {G : List (List Nat)} {M : List (Pos × Nat)} (h : DF G M) : ∀ (k u d e : Nat), d + e ≤ k → ((u, 0), d) ∈ M → ((u, 1), e) ∈ M → False := by
  intro k
  induction k with
  | zero =>
    intro u d e hk h0 h1
    obtain ⟨w, _, d', _, h2⟩ := h.won u e h1
    omega
  | succ k ih =>
    intro u d e hk h0 h1
    obtain ⟨w, hw, d1, h2, h3⟩ := h.won u e h1
    rcases h.lost u d h0 with ⟨h4, _⟩ | ⟨_, h4⟩
    · rw [h4] at hw; cases hw
    · obtain ⟨d2, h5, h6⟩ := h4 w hw
      exact ih w d1 d2 (by omega) h2 h5

/-- What each vertex is. -/
theorem DF.out {G : List (List Nat)} {M : List (Pos × Nat)} {f : Nat → Nat × Nat} (h : DF G M) (ho : OutP M G.length f) {v t d : Nat} (hm : ((v, t), d) ∈ M) : f v = (t, d) := by
  obtain ⟨hv, ht⟩ := h.vert v t d hm
  rcases ho v hv with ⟨⟨⟨v', t'⟩, d'⟩, hx, rfl, hf⟩ | ⟨h1, _⟩
  · have ht' := (h.vert v' t' d' hx).2
    by_cases e : t = t'
    · subst e
      rw [hf, h.uniq _ _ _ hm hx]
    · exfalso
      rcases Nat.lt_or_ge t 1 with h2 | h2
      · obtain rfl : t = 0 := by omega
        obtain rfl : t' = 1 := by omega
        exact h.one _ _ _ _ (Nat.le_refl _) hm hx
      · obtain rfl : t = 1 := by omega
        obtain rfl : t' = 0 := by omega
        exact h.one _ _ _ _ (Nat.le_refl _) hx hm
  · exact absurd rfl (h1 _ hm)
theorem outp_mem {G : List (List Nat)} {M : List (Pos × Nat)} {f : Nat → Nat × Nat} (ho : OutP M G.length f) {v : Nat} (hv : v < G.length) (hf : (f v).1 ≠ 2) : ((v, (f v).1), (f v).2) ∈ M := by
  rcases ho v hv with ⟨⟨⟨v', t'⟩, d'⟩, hx, rfl, hf'⟩ | ⟨_, h2⟩
  · rw [hf']; exact hx
  · rw [h2] at hf; exact absurd rfl hf

/-- What all the plays are. -/
structure Plays (G : List (List Nat)) (f : Nat → Nat × Nat) : Prop where
  kind : ∀ v, v < G.length → (f v).1 ≤ 2
  far : ∀ v, v < G.length → (f v).2 ≤ 2 * G.length
  stop : ∀ v, v < G.length → G.getD v [] = [] → f v = (0, 0)
  won : ∀ v d, v < G.length → f v = (1, d) → ∃ w ∈ G.getD v [], ∃ e, f w = (0, e) ∧ d = e + 1
  least : ∀ v d, v < G.length → f v = (1, d) → ∀ w ∈ G.getD v [], (f w).1 = 0 → d ≤ (f w).2 + 1
  lost : ∀ v d, v < G.length → f v = (0, d) → (∀ w ∈ G.getD v [], (f w).1 = 1 ∧ (f w).2 < d) ∧ (G.getD v [] ≠ [] → ∃ w ∈ G.getD v [], ∃ e, f w = (1, e) ∧ d = e + 1)
  drawn : ∀ v, v < G.length → (f v).1 = 2 → (f v).2 = 0 ∧ (∀ w ∈ G.getD v [], (f w).1 ≠ 0) ∧ ∃ w ∈ G.getD v [], f w = (2, 0)

theorem plays {G : List (List Nat)} {f : Nat → Nat × Nat} (hx : ∀ v, ∀ x ∈ G.getD v [], x < G.length) (hn : ∀ v, (G.getD v []).Nodup) (hr : ∀ v, (G.getD v []).length ≤ 200) (ho : OutP (dec G) G.length f) : Plays G f := by
  have h := dec_ok hx hn hr
  have hk : ∀ v, v < G.length → (f v).1 ≤ 2 := fun v hv => by
    rcases ho v hv with ⟨⟨⟨v', t'⟩, d'⟩, hx, rfl, hf'⟩ | ⟨_, h2⟩
    · have := (h.vert _ _ _ hx).2; rw [hf']; show t' ≤ 2; omega
    · rw [h2]; exact Nat.le_refl _
  have hd : ∀ v, v < G.length → (f v).1 = 2 → f v = (2, 0) := fun v hv h2 => by
    rcases ho v hv with ⟨⟨⟨v', t'⟩, d'⟩, hx, rfl, hf'⟩ | ⟨_, h3⟩
    · have := (h.vert _ _ _ hx).2
      rw [hf'] at h2
      simp at h2
      omega
    · exact h3
  have hm : ∀ v t d, v < G.length → f v = (t, d) → t ≠ 2 → ((v, t), d) ∈ dec G := fun v t d hv hf ht => by
    have := outp_mem ho hv (by rw [hf]; exact ht)
    rw [hf] at this
    exact this
  refine ⟨hk, fun v hv => ?_, ?_, ?_, ?_, ?_, ?_⟩
  · rcases ho v hv with ⟨⟨⟨v', t'⟩, d'⟩, hx, rfl, hf'⟩ | ⟨_, h2⟩
    · rw [hf']; exact h.far _ _ hx
    · rw [h2]; exact Nat.zero_le _
  · intro v hv he
    obtain ⟨e, h1⟩ := h.full v hv (fun w hw => by rw [he] at hw; cases hw)
    rcases h.lost v e h1 with ⟨_, rfl⟩ | ⟨⟨w, hw, _⟩, _⟩
    · exact h.out ho h1
    · rw [he] at hw; cases hw
  · intro v d hv hf
    obtain ⟨w, hw, e, h1, h2⟩ := h.won v d (hm v 1 d hv hf (by decide))
    exact ⟨w, hw, e, h.out ho h1, h2⟩
  · intro v d hv hf w hw h0
    have hwl := hx v w hw
    have h1 := hm w 0 (f w).2 hwl (by rw [← h0]) (by decide)
    obtain ⟨e, h2, h3⟩ := h.step v w _ h1 hw hv
    have := h.uniq _ _ _ h3 (hm v 1 d hv hf (by decide))
    omega
  · intro v d hv hf
    rcases h.lost v d (hm v 0 d hv hf (by decide)) with ⟨h1, _⟩ | ⟨⟨w, hw, e, h1, h2⟩, h3⟩
    · rw [h1]; exact ⟨fun w hw => (by cases hw), fun h => absurd rfl h⟩
    · refine ⟨fun w hw => ?_, fun _ => ⟨w, hw, e, h.out ho h1, h2⟩⟩
      obtain ⟨e, h4, h5⟩ := h3 w hw
      rw [h.out ho h4]
      exact ⟨rfl, h5⟩
  · intro v hv h2
    have hv2 := hd v hv h2
    have hno : ∀ w ∈ G.getD v [], (f w).1 ≠ 0 := fun w hw h0 => by
      obtain ⟨e, _, h3⟩ := h.step v w _ (hm w 0 (f w).2 (hx v w hw) (by rw [← h0]) (by decide)) hw hv
      rw [h.out ho h3] at h2
      simp at h2
    refine ⟨by rw [hv2], hno, ?_⟩
    refine Classical.byContradiction fun hne => ?_
    obtain ⟨e, h3⟩ := h.full v hv (fun w hw => by
      have h4 := hk w (hx v w hw)
      have h5 := hno w hw
      have h6 : (f w).1 ≠ 2 := fun h6 => hne ⟨w, hw, hd w (hx v w hw) h6⟩
      exact ⟨(f w).2, hm w 1 _ (hx v w hw) (by rw [show f w = ((f w).1, (f w).2) from rfl, show (f w).1 = 1 by omega]) (by decide)⟩)
    rw [h.out ho h3] at h2
    simp at h2
end Go.Proofs.Ytodnfchkkgoabaa
