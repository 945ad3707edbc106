/- A queue of positions, as it lies in memory: append, and the queue without its first. -/
import Derived.Test.YtodnfchkkgoabaaHOwRvMp
import Derived.ArgAppend
set_option linter.unusedVariables false
namespace Go.Proofs.Ytodnfchkkgoabaa
open Go.RowKit

theorem infoPos : (Try.prog.info? 88).map (fun i => (i.zero, i.size, i.bytes)) = some (some (.agg #[.int .i64 0, .int .i64 0]), 2, 16) := by kernel_rfl

/-- The slice is a queue of these positions; its block may be written behind them. -/
def QP (w : World) (base : Nat) (v : Value) (L : List (Nat × Nat)) : Prop :=
  (v = .slice none 0 0 ∧ L = []) ∨ ∃ g o cap N f, v = .slice (some ⟨g, o, none⟩) L.length cap ∧ base ≤ g ∧ L.length ≤ cap ∧ Blk w g N f ∧ o + 2 * cap ≤ N ∧ ∀ i x, L[i]? = some x → f (o + 2 * i) = nv' x.1 ∧ f (o + 2 * i + 1) = nv' x.2

theorem QP.nil (w : World) (base : Nat) : QP w base (.slice none 0 0) [] := .inl ⟨rfl, rfl⟩
theorem QP.keep {w w' : World} {base : Nat} {v : Value} {L : List (Nat × Nat)} (h : QP w base v L) (hk : ∀ b, v.ownBlock = some b → w'.heap[b]? = w.heap[b]?) : QP w' base v L := by
  rcases h with h | ⟨g, o, cap, N, f, rfl, h1, h2, h3, h4⟩
  · exact .inl h
  · exact .inr ⟨g, o, cap, N, f, rfl, h1, h2, h3.keep (hk g rfl), h4⟩
theorem QP.block_lt {w : World} {base : Nat} {v : Value} {L : List (Nat × Nat)} (h : QP w base v L) {b : Nat} (hb : v.ownBlock = some b) : b < w.heap.size ∧ base ≤ b := by
  rcases h with ⟨rfl, _⟩ | ⟨g, o, cap, N, f, rfl, h1, h2, h3, h4⟩
  · cases hb
  · cases hb; exact ⟨h3.lt, h1⟩
theorem QP.slice {w : World} {base : Nat} {v : Value} {L : List (Nat × Nat)} (h : QP w base v L) : ∃ p c, v = .slice p L.length c := by
  rcases h with ⟨rfl, rfl⟩ | ⟨g, o, cap, N, f, rfl, _⟩
  · exact ⟨_, _, rfl⟩
  · exact ⟨_, _, rfl⟩

/-- The first, and the queue without it. -/
theorem QP.head {w : World} {base : Nat} {v : Value} {x : Nat × Nat} {L : List (Nat × Nat)} (h : QP w base v (x :: L)) :
    ∃ g o cap, v = .slice (some ⟨g, o, none⟩) (L.length + 1) cap ∧ L.length + 1 ≤ cap ∧ w.cell? ⟨g, o, none⟩ = some (nv' x.1) ∧ w.cell? ⟨g, o + 1, none⟩ = some (nv' x.2) ∧ base ≤ g ∧ g < w.heap.size ∧
      QP w base (.slice (some ⟨g, if cap = 1 then o else o + 2, none⟩) L.length (cap - 1)) L := by
  rcases h with ⟨_, h⟩ | ⟨g, o, cap, N, f, rfl, h1, h2, h3, h4, h5⟩
  · cases h
  · have h6 := h5 0 x rfl
    simp only [List.length_cons] at h2
    refine ⟨g, o, cap, rfl, h2, ?_, ?_, h1, h3.lt, .inr ⟨g, _, cap - 1, N, f, rfl, h1, by omega, h3, ?_, fun i y hy => ?_⟩⟩
    · rw [h3.cell (by omega), ← h6.1]; rfl
    · rw [h3.cell (by omega), ← h6.2]
    · split <;> omega
    · have h7 := h5 (i + 1) y (by simpa using hy)
      have : ¬ cap = 1 := by
        intro e
        have : L.length = 0 := by omega
        rw [List.eq_nil_of_length_eq_zero this] at hy; simp at hy
      rw [if_neg this]
      have e1 : o + 2 + 2 * i = o + 2 * (i + 1) := by omega
      rw [e1]; exact h7

/-- What an append of one position leaves. -/
structure QPushed (wr w1 : World) (base : Nat) (v v' : Value) (L : List (Nat × Nat)) (x : Nat × Nat) : Prop where
  own : QP w1 base v' (L ++ [x])
  os : w1.os = wr.os
  tape : w1.tape = wr.tape
  output : w1.output = wr.output
  size : wr.heap.size ≤ w1.heap.size
  block : ∀ b, b < wr.heap.size → v.ownBlock ≠ some b → w1.heap[b]? = wr.heap[b]?
  at_ : v'.ownBlock = v.ownBlock ∨ ∃ g, v'.ownBlock = some g ∧ wr.heap.size ≤ g

theorem flat_len : ∀ L : List (Nat × Nat), (L.flatMap fun x => [nv' x.1, nv' x.2]).length = 2 * L.length := by
  intro L
  induction L with
  | nil => rfl
  | cons x L ih => simp only [List.flatMap_cons, List.length_append, ih, List.length_cons, List.length_nil]; omega
theorem flat_get : ∀ (L : List (Nat × Nat)) (i : Nat) (x : Nat × Nat), L[i]? = some x → (L.flatMap fun x => [nv' x.1, nv' x.2])[2 * i]? = some (nv' x.1) ∧ (L.flatMap fun x => [nv' x.1, nv' x.2])[2 * i + 1]? = some (nv' x.2) := by
  intro L
  induction L with
  | nil => intro i x h; simp at h
  | cons y L ih =>
    intro i x h
    cases i with
    | zero => simp only [List.getElem?_cons_zero, Option.some.injEq] at h; subst h; exact ⟨rfl, rfl⟩
    | succ i =>
      have := ih i x (by simpa using h)
      have e1 : 2 * (i + 1) = (2 * i + 1) + 1 := by omega
      rw [e1]
      exact this

theorem QP.of_own {w : World} {base : Nat} {v : Value} {L : List (Nat × Nat)} (h : w.ownsRow base 88 2 v L.length (L.flatMap fun x => [nv' x.1, nv' x.2])) : QP w base v L := by
  rcases h.2 with ⟨h1, h2⟩ | ⟨g, cap, cur, h1, h2, h3, h4, h5, h6, h7⟩
  · exact .inl ⟨h1, List.eq_nil_of_length_eq_zero h2⟩
  · refine .inr ⟨g, 0, cap, cur.size, fun i => cur.getD i undef, h1, h2, h4, ⟨cur, 88, h3, Nat.le_refl _, fun i hi => ?_⟩, by omega, fun i x hx => ?_⟩
    · rw [Array.getElem?_eq_getElem hi]; simp [Array.getD, hi]
    · have hil : i < L.length := (List.getElem?_eq_some_iff.1 hx).1
      obtain ⟨a1, a2⟩ := flat_get L i x hx
      rw [← h7] at a1 a2
      rw [List.getElem?_take, if_pos (by omega)] at a1 a2
      have b1 : cur[2 * i]? = some (nv' x.1) := by rw [← a1]; simp
      have b2 : cur[2 * i + 1]? = some (nv' x.2) := by rw [← a2]; simp
      simp only [Nat.zero_add]
      constructor
      · obtain ⟨hlt, e⟩ := Array.getElem?_eq_some_iff.1 b1
        simp [Array.getD, hlt, e]
      · obtain ⟨hlt, e⟩ := Array.getElem?_eq_some_iff.1 b2
        simp [Array.getD, hlt, e]

theorem flat_snoc (L : List (Nat × Nat)) (x : Nat × Nat) : (L ++ [x]).flatMap (fun x => [nv' x.1, nv' x.2]) = L.flatMap (fun x => [nv' x.1, nv' x.2]) ++ [nv' x.1, nv' x.2] := by
  rw [List.flatMap_append]; simp

/-- Append of one position that lies in a block of its own. -/
theorem run_qpush {wr : World} {base : Nat} {v : Value} {L : List (Nat × Nat)} (h : QP wr base v L) (a b : Nat) (o : Obj) (ho : o = .cells #[nv' a, nv' b] 88) (hL : L.length ≤ 100000) (hB : base ≤ wr.heap.size) (ty : TypeId) :
    ∃ v' w1, (Builtin.append_ #[105, 105] ty #[v, .slice (some ⟨wr.heap.size, 0, none⟩) 1 1]).run Try.prog (wr.alloc o) = .ok v' w1 ∧ QPushed wr w1 base v v' L (a, b) := by
  subst ho
  obtain ⟨i0, hi, hz0, hz1, hz2⟩ := info_parts infoPos
  have hnew := cell_two_new wr (nv' a) (nv' b) 88
  have hone : ∀ u ∈ [nv' a, nv' b], u.oneCell' = true := fun u hu => by simp at hu; rcases hu with rfl | rfl <;> rfl
  have al : ∀ k, k < wr.heap.size → (wr.alloc (.cells #[nv' a, nv' b] 88)).heap[k]? = wr.heap[k]? := fun k hk => Below.heap_alloc wr _ k hk
  have asz : (wr.alloc (.cells #[nv' a, nv' b] 88)).heap.size = wr.heap.size + 1 := by simp
  rcases h with ⟨rfl, rfl⟩ | ⟨g, o, cap, N, f, rfl, h1, h2, h3, h4, h5⟩
  · obtain ⟨v', w1, hr, r1, r2, _, r3⟩ := run_append_own_at (P := Try.prog) (wr.alloc (.cells #[nv' a, nv' b] 88)) base 105 ty 88 i0 _ 2 16 Try.underlying105 hi hz0 hz1 hz2 rfl (by decide) (.slice none 0 0) 0 [] ⟨rfl, .inl ⟨rfl, rfl⟩⟩ ⟨wr.heap.size, 0, none⟩ 1 1 [nv' a, nv' b] rfl hnew hone (by unfold maxLen; omega) (by omega) (by rw [asz]; omega)
    refine ⟨v', w1, hr, QP.of_own (by simpa using r1), r2.os, r2.tape, r2.output, by have := r2.size; rw [asz] at this; omega, fun k hk hne => by rw [r2.block k (by rw [asz]; omega) (by simp [Value.ownBlock])]; exact al k hk, ?_⟩
    exact r3.imp id (fun h => ⟨_, h, by rw [asz]; omega⟩)
  · have hgl := h3.lt
    have hBk : Blk (wr.alloc (.cells #[nv' a, nv' b] 88)) g N f := h3.keep (al g hgl)
    by_cases hroom : L.length + 1 ≤ cap
    · have hr := run_append_room_cells (P := Try.prog) (wr.alloc (.cells #[nv' a, nv' b] 88)) 105 ty 88 i0 Try.underlying105 hi g o L.length cap ⟨wr.heap.size, 0, none⟩ 1 1 [nv' a, nv' b] (by rw [hz1]; rfl) hnew hone hroom
        (fun j hj => by rw [hz1]; simp at hj; rw [hBk.cell (by omega)]; rfl) (fun j hj => hBk.frozen _)
      rw [hz1] at hr
      refine ⟨_, _, hr, .inr ⟨g, o, cap, N, _, by rw [List.length_append]; rfl, h1, by rw [List.length_append]; exact hroom, (hBk.set _ _).set _ _, h4, fun i x hx => ?_⟩, rfl, rfl, rfl, ?_, fun k hk hne => ?_, .inl rfl⟩
      · rw [List.getElem?_append] at hx
        split at hx
        · rename_i hil
          have := h5 i x hx
          rw [if_neg (by omega), if_neg (by omega), if_neg (by omega), if_neg (by omega)]
          exact this
        · rename_i hil
          have hie : i = L.length := by
            rcases Nat.lt_or_ge (i - L.length) 1 with h | h
            · omega
            · rw [List.getElem?_eq_none (by simpa using h)] at hx; cases hx
          subst hie
          simp at hx
          subst hx
          rw [if_neg (by omega), if_pos (by omega), if_pos (by omega)]
          exact ⟨rfl, rfl⟩
      · simp [World.setCells, World.setCell]
      · have hkg : k ≠ g := fun e => hne (by rw [e]; rfl)
        show (((wr.alloc _).setCell _ _).setCell _ _).heap[k]? = _
        rw [Below.heap_setCell _ _ _ _ (by simpa using hkg), Below.heap_setCell _ _ _ _ (by simpa using hkg)]
        exact al k hk
    · have olds : ∀ j u, (L.flatMap fun x => [nv' x.1, nv' x.2])[j]? = some u → (wr.alloc (.cells #[nv' a, nv' b] 88)).cell? ((⟨g, o, none⟩ : Addr).add j) = some u := by
        intro j u hu
        have hj := (List.getElem?_eq_some_iff.1 hu).1
        rw [flat_len] at hj
        obtain ⟨x, hx⟩ : ∃ x, L[j / 2]? = some x := ⟨_, List.getElem?_eq_getElem (by omega)⟩
        obtain ⟨f1, f2⟩ := h5 _ _ hx
        obtain ⟨e1, e2⟩ := flat_get L _ _ hx
        rw [Addr.add_lit]
        rcases Nat.mod_two_eq_zero_or_one j with hm | hm
        · have ej : 2 * (j / 2) = j := by omega
          rw [ej] at f1 e1
          rw [hBk.cell (by omega), f1, ← e1, hu]
        · have ej : 2 * (j / 2) + 1 = j := by omega
          rw [Nat.add_assoc, ej] at f2
          rw [ej] at e2
          rw [hBk.cell (by omega), f2, ← e2, hu]
      have hll : (L.flatMap fun x => [nv' x.1, nv' x.2]).length = L.length * 2 := by
        rw [flat_len, Nat.mul_comm]
      obtain ⟨v', w1, hr, r1, r2⟩ := run_append_arg_grows (P := Try.prog) (wr.alloc (.cells #[nv' a, nv' b] 88)) 105 ty 88 i0 _ 2 16 Try.underlying105 hi hz0 hz1 hz2 rfl (by decide) ⟨g, o, none⟩ L.length cap _ hll olds ⟨wr.heap.size, 0, none⟩ 1 1 [nv' a, nv' b] rfl hnew (by omega) (by unfold maxLen; omega) (by omega)
      have r1' : w1.ownsRow base 88 2 v' (L ++ [(a, b)]).length ((L ++ [(a, b)]).flatMap fun x => [nv' x.1, nv' x.2]) := by
        rw [flat_snoc, List.length_append]
        refine ⟨r1.1, ?_⟩
        rcases r1.2 with h | ⟨g', cap', cur, e1, e2, e3⟩
        · exact .inl h
        · exact .inr ⟨g', cap', cur, e1, by rw [asz] at e2; omega, e3⟩
      refine ⟨v', w1, hr, QP.of_own r1', r2.os, r2.tape, r2.output, by have := r2.size; rw [asz] at this; omega, fun k hk hne => by rw [r2.block k (by rw [asz]; omega) (by simp)]; exact al k hk, ?_⟩
      rcases r1.2 with ⟨_, h⟩ | ⟨g', cap', cur, e1, e2, e3⟩
      · omega
      · right; refine ⟨g', by rw [e1]; rfl, by rw [asz] at e2; omega⟩
end Go.Proofs.Ytodnfchkkgoabaa

/- The search from the ends of plays on (plain lists). -/
namespace Go.Proofs.Ytodnfchkkgoabaa

abbrev Pos := Nat × Nat
/-- The moves that are left, and what has been found, in its order. -/
abbrev St := List Int × List (Pos × Nat)

def put (k : Pos) (d : Nat) (M : List (Pos × Nat)) : List (Pos × Nat) := if (lk k M 0).isSome then M else M ++ [(k, d)]
def relax (t d : Nat) (s : St) (u : Nat) : St :=
  if t = 1 then
    (if 0 < s.1.getD u 0 - 1 then (s.1.set u (s.1.getD u 0 - 1), s.2) else (s.1.set u (s.1.getD u 0 - 1), put (u, 0) (d + 1) s.2))
  else (s.1, put (u, 1) (d + 1) s.2)
def relaxs (t d : Nat) : St → List Nat → St
  | s, [] => s
  | s, u :: us => relaxs t d (relax t d s u) us
def bfs (F : List (List Nat)) : Nat → Nat → St → St
  | 0, _, s => s
  | f + 1, p, s => match s.2[p]? with
    | none => s
    | some x => bfs F f (p + 1) (relaxs x.1.2 x.2 s (F.getD x.1.1 []))
def ini : Nat → St → List (List Nat) → St
  | _, s, [] => s
  | v, s, r :: rs => ini (v + 1) (s.1.set v (r.length : Int), if r.length = 0 then s.2 ++ [((v, 0), 0)] else s.2) rs
def start (G : List (List Nat)) : St := ini 0 (List.replicate G.length 0, []) G
def dec (G : List (List Nat)) : List (Pos × Nat) := (bfs (revs G) (2 * G.length + 1) 0 (start G)).2

/-- What the found positions always are. -/
structure KOk (n : Nat) (M : List (Pos × Nat)) : Prop where
  nodup : (M.map (·.1)).Nodup
  vert : ∀ x ∈ M, x.1.1 < n ∧ x.1.2 < 2
  dist : ∀ (i : Nat) (x : Pos × Nat), M[i]? = some x → x.2 ≤ i

theorem KOk.put' {n d p : Nat} {k : Pos} {M : List (Pos × Nat)} (h : KOk n M) (hk : k.1 < n ∧ k.2 < 2) (hd : d ≤ p + 1) (hp : p < M.length) : KOk n (put k d M) := by
  unfold put
  split
  · exact h
  · rename_i hn
    have hn2 : lk k M 0 = none := by
      cases hq : lk k M 0 with
      | none => rfl
      | some x => rw [hq] at hn; simp at hn
    have hne := lk_none.1 hn2
    refine ⟨?_, ?_, ?_⟩
    · rw [List.map_append, List.nodup_append]
      refine ⟨h.nodup, by simp, ?_⟩
      intro a ha b hb
      simp at hb
      subst hb
      simp only [List.mem_map] at ha
      obtain ⟨x, hx, rfl⟩ := ha
      exact hne x hx
    · intro x hx
      rcases List.mem_append.1 hx with hx | hx
      · exact h.vert x hx
      · simp at hx; subst hx; exact hk
    · intro i x hx
      rw [List.getElem?_append] at hx
      split at hx
      · exact h.dist i x hx
      · rename_i hi
        have : i = M.length := by
          rcases Nat.lt_or_ge (i - M.length) 1 with h' | h'
          · omega
          · rw [List.getElem?_eq_none (by simpa using h')] at hx; cases hx
        subst this
        simp at hx
        subst hx
        show d ≤ _
        omega

theorem put_len (k : Pos) (d : Nat) (M : List (Pos × Nat)) : M.length ≤ (put k d M).length ∧ (put k d M).take M.length = M := by
  unfold put
  split
  · exact ⟨Nat.le_refl _, List.take_length⟩
  · exact ⟨by simp, by simp⟩

theorem nodup_lt : ∀ (m : Nat) (l : List Nat), l.Nodup → (∀ x ∈ l, x < m) → l.length ≤ m := by
  intro m
  induction m with
  | zero =>
    intro l _ h
    cases l with
    | nil => simp
    | cons a l => have := h a (by simp); omega
  | succ m ih =>
    intro l hn h
    have h1 : (l.erase m).Nodup := hn.erase _
    have h2 := ih (l.erase m) h1 (fun x hx => by
      have h3 := List.mem_of_mem_erase hx
      have h4 := h x h3
      have h5 : x ≠ m := fun e => by
        subst e
        exact (List.Nodup.not_mem_erase hn) hx
      omega)
    by_cases hm : m ∈ l
    · rw [List.length_erase_of_mem hm] at h2; omega
    · rw [List.erase_of_not_mem hm] at h2; omega

theorem KOk.len {n : Nat} {M : List (Pos × Nat)} (h : KOk n M) : M.length ≤ 2 * n := by
  have h1 : (M.map fun x => 2 * x.1.1 + x.1.2).Nodup := by
    have h2 := h.nodup
    unfold List.Nodup at h2 ⊢
    rw [List.pairwise_map] at h2 ⊢
    refine List.Pairwise.imp_of_mem ?_ h2
    intro x y hx hy hne e
    have h3 := h.vert x hx
    have h4 := h.vert y hy
    exact hne (Prod.ext (by omega) (by omega))
  have := nodup_lt (2 * n) _ h1 (fun x hx => by
    simp only [List.mem_map] at hx
    obtain ⟨y, hy, rfl⟩ := hx
    have := h.vert y hy; omega)
  simpa using this

theorem revRow_get (v : Nat) : ∀ (r : List Nat) (F : List (List Nat)) (y : Nat), (∀ u ∈ (revRow v F r).getD y [], u ∈ F.getD y [] ∨ u = v) ∧ ((revRow v F r).getD y []).length ≤ (F.getD y []).length + r.length := by
  intro r
  induction r with
  | nil => intro F y; exact ⟨fun u h => .inl h, Nat.le_refl _⟩
  | cons x r ih =>
    intro F y
    have h := ih (F.set x (F.getD x [] ++ [v])) y
    have e : (F.set x (F.getD x [] ++ [v])).getD y [] = F.getD y [] ∨ (F.set x (F.getD x [] ++ [v])).getD y [] = F.getD y [] ++ [v] := by
      by_cases hx : x < F.length
      · rw [set_getD _ _ _ _ hx]
        split
        · rename_i e; subst e; exact .inr rfl
        · exact .inl rfl
      · rw [List.set_eq_of_length_le (by omega)]; exact .inl rfl
    rw [revRow, List.length_cons]
    rcases e with e | e
    · rw [e] at h
      exact ⟨h.1, by omega⟩
    · rw [e] at h
      refine ⟨fun u hu => ?_, by have h8 := h.2; rw [List.length_append, List.length_singleton] at h8; omega⟩
      rcases h.1 u hu with h1 | h1
      · rcases List.mem_append.1 h1 with h2 | h2
        · exact .inl h2
        · simp at h2; exact .inr h2
      · exact .inr h1
theorem revG_get : ∀ (rs : List (List Nat)) (v : Nat) (F : List (List Nat)) (y : Nat), (∀ r ∈ rs, r.length ≤ 200) → (∀ u ∈ (revG v F rs).getD y [], u ∈ F.getD y [] ∨ (v ≤ u ∧ u < v + rs.length)) ∧ ((revG v F rs).getD y []).length ≤ (F.getD y []).length + 200 * rs.length := by
  intro rs
  induction rs with
  | nil => intro v F y _; exact ⟨fun u h => .inl h, Nat.le_refl _⟩
  | cons r rs ih =>
    intro v F y hr
    have h := ih (v + 1) (revRow v F r) y (fun x hx => hr x (by simp [hx]))
    have k := revRow_get v r F y
    have hl := hr r (by simp)
    rw [revG, List.length_cons]
    refine ⟨fun u hu => ?_, by have := h.2; have := k.2; omega⟩
    rcases h.1 u hu with h1 | h1
    · rcases k.1 u h1 with h2 | h2
      · exact .inl h2
      · right; omega
    · right; omega
theorem revs_get (G : List (List Nat)) (y : Nat) (hr : ∀ v, (G.getD v []).length ≤ 200) : (∀ u ∈ (revs G).getD y [], u < G.length) ∧ ((revs G).getD y []).length ≤ 200 * G.length := by
  have e : (List.replicate G.length ([] : List Nat)).getD y [] = [] := by
    rw [List.getD_eq_getElem?_getD, List.getElem?_replicate]; split <;> rfl
  have h := revG_get G 0 (List.replicate G.length []) y (fun r h => by
    obtain ⟨i, hi, rfl⟩ := List.getElem_of_mem h
    have := hr i
    rw [List.getD_eq_getElem?_getD, List.getElem?_eq_getElem hi] at this
    exact this)
  rw [e] at h
  unfold revs
  refine ⟨fun u hu => ?_, by have := h.2; simpa using this⟩
  rcases h.1 u hu with h1 | h1
  · simp at h1
  · omega

theorem lk_get {k : Pos} {d : Nat} : ∀ {M : List (Pos × Nat)} {p i : Nat}, (M.map (·.1)).Nodup → M[p]? = some (k, d) → lk k M i = some (i + p, d) := by
  intro M
  induction M with
  | nil => intro p i _ h; simp at h
  | cons y M ih =>
    intro p i hn h
    rw [List.map_cons, List.nodup_cons] at hn
    cases p with
    | zero => simp only [List.getElem?_cons_zero, Option.some.injEq] at h; subst h; simp [lk]
    | succ p =>
      have h2 : M[p]? = some (k, d) := by simpa using h
      have hne : y.1 ≠ k := fun e => hn.1 (by
        rw [e]; exact List.mem_map.2 ⟨_, List.mem_of_getElem? h2, rfl⟩)
      unfold lk
      rw [if_neg hne, ih hn.2 h2]
      congr 2; omega
theorem put_get {k j : Pos} {d e p : Nat} {M : List (Pos × Nat)} (h : M[p]? = some (j, e)) : (put k d M)[p]? = some (j, e) := by
  unfold put
  split
  · exact h
  · rw [List.getElem?_append_left (List.getElem?_eq_some_iff.1 h).1]; exact h
end Go.Proofs.Ytodnfchkkgoabaa
