/- Rows of numbers that a call owns and that grow by append. -/
import Derived.Test.YtodnfchkkgoabaaP
import Derived.Test.YtodnfchkkgoabaaVb
import Derived.Test.YtodnfchkkgoabaaRgo
import Derived.Maps.AppendAt
import Derived.OwnWalkIn
import Derived.RangeFuncBound
namespace Go.Proofs.Ytodnfchkkgoabaa
open Go.RowKit

theorem infoInt : (Try.prog.info? 3).map (fun i => (i.zero, i.size, i.bytes)) = some (some (.int .i64 0), 1, 8) := by kernel_rfl

abbrev nv (x : Nat) : Value := .int .i64 (x : Int)

/-- The slice owns these numbers. -/
def OwnN (w : World) (base : Nat) (v : Value) (L : List Nat) : Prop := w.ownsRow base 3 1 v L.length (L.map nv)

theorem OwnN.nil (w : World) (base : Nat) : OwnN w base (.slice none 0 0) [] := ⟨rfl, .inl ⟨rfl, rfl⟩⟩
theorem OwnN.slice {w : World} {base : Nat} {v : Value} {L : List Nat} (h : OwnN w base v L) : ∃ p c, v = .slice p L.length c ∧ L.length ≤ c := by
  rcases h.2 with ⟨h1, h2⟩ | ⟨g, cap, cur, h1, _, _, h3, _⟩
  · exact ⟨none, 0, by rw [h1, h2], by omega⟩
  · exact ⟨_, _, h1, h3⟩
theorem OwnN.block_lt {w : World} {base : Nat} {v : Value} {L : List Nat} (h : OwnN w base v L) {b : Nat} (hb : v.ownBlock = some b) : b < w.heap.size ∧ base ≤ b := by
  rcases h.2 with ⟨h1, h2⟩ | ⟨g, cap, cur, h1, h2, h3, _⟩
  · rw [h1] at hb; cases hb
  · rw [h1] at hb
    cases hb
    exact ⟨(Array.getElem?_eq_some_iff.1 h3).1, h2⟩
theorem OwnN.keep {w w' : World} {base : Nat} {v : Value} {L : List Nat} (h : OwnN w base v L) (hk : ∀ b, v.ownBlock = some b → w'.heap[b]? = w.heap[b]?) : OwnN w' base v L := by
  refine ⟨h.1, ?_⟩
  rcases h.2 with h1 | ⟨g, cap, cur, h1, h2, h3, h4⟩
  · exact .inl h1
  · exact .inr ⟨g, cap, cur, h1, h2, (hk g (by rw [h1]; rfl)).trans h3, h4⟩
theorem OwnN.ns {w : World} {base : Nat} {p : Option Addr} {n c : Nat} {L : List Nat} (h : OwnN w base (.slice p n c) L) : NS w p L := by
  intro i hi
  rcases h.2 with ⟨h1, h2⟩ | ⟨g, cap, cur, h1, _, hg, _, _, _, ht⟩
  · omega
  · simp only [Value.slice.injEq] at h1
    obtain ⟨rfl, rfl, rfl⟩ := h1
    refine ⟨g, rfl, ?_⟩
    have hj : cur.toList[i]? = some (nv (L.getD i 0)) := by
      have h5 : (L.map nv)[i]? = some (nv (L.getD i 0)) := by
        rw [List.getElem?_map, List.getElem?_eq_getElem hi]; simp [List.getD_eq_getElem?_getD, hi]
      rw [← ht, List.getElem?_take] at h5
      split at h5
      · exact h5
      · cases h5
    have hj2 : cur[i]? = some (nv (L.getD i 0)) := by rw [← hj]; simp
    simp [World.cell?, hg, hj2]
theorem OwnN.base_le {w : World} {base base' : Nat} {v : Value} {L : List Nat} (h : OwnN w base v L) (hb : base' ≤ base) : OwnN w base' v L := by
  refine ⟨h.1, ?_⟩
  rcases h.2 with h1 | ⟨g, cap, cur, h1, h2, h3⟩
  · exact .inl h1
  · exact .inr ⟨g, cap, cur, h1, by omega, h3⟩
theorem OwnN.len {w : World} {base : Nat} {p : Option Addr} {n c : Nat} {L : List Nat} (h : OwnN w base (.slice p n c) L) : n = L.length := by
  obtain ⟨p', c', h1, _⟩ := h.slice
  simp only [Value.slice.injEq] at h1
  exact h1.2.1

/-- What an append of one number leaves. -/
structure Pushed (wr w1 : World) (base : Nat) (v v' : Value) (L : List Nat) (x : Nat) : Prop where
  own : OwnN w1 base v' (L ++ [x])
  os : w1.os = wr.os
  tape : w1.tape = wr.tape
  output : w1.output = wr.output
  size : wr.heap.size ≤ w1.heap.size
  block : ∀ b, b < wr.heap.size → v.ownBlock ≠ some b → w1.heap[b]? = wr.heap[b]?
  at_ : v'.ownBlock = v.ownBlock ∨ ∃ g, v'.ownBlock = some g ∧ wr.heap.size ≤ g

theorem pushed {wr w1 : World} {base : Nat} {v v' : Value} {L : List Nat} {x : Nat} {o : Obj} (h1 : w1.ownsRow base 3 1 v' (L.length + 1) (L.map nv ++ [nv x])) (h2 : (wr.alloc o).grownBy w1 v.ownBlock) (h3 : v'.ownBlock = v.ownBlock ∨ v'.ownBlock = some (wr.alloc o).heap.size) : Pushed wr w1 base v v' L x := by
  refine ⟨?_, ?_, ?_, ?_, ?_, ?_, ?_⟩
  · unfold OwnN; rw [List.length_append, List.map_append]; exact h1
  · exact h2.os
  · exact h2.tape
  · exact h2.output
  · have := h2.size; simp at this; omega
  · intro b hb hne
    rw [h2.block b (by simp; omega) (fun e => hne e.symm)]; exact Below.heap_alloc wr o b hb
  · exact h3.imp id (fun h => ⟨_, h, by simp⟩)

theorem Pushed.aside {wr w1 : World} {base : Nat} {v v' : Value} {L : List Nat} {x : Nat} (h : Pushed wr w1 base v v' L x) {B : Nat} {O : List Nat} (hB : ∀ b, v.ownBlock = some b → B ≤ b ∧ b ∉ O) : AsideO B O wr w1 :=
  ⟨h.os, h.tape, h.output, h.size, fun b hb hr => h.block b hb (fun e => by have := hB b e; rcases hr with h | h; omega; exact this.2 h)⟩
theorem Pushed.below {wr w1 : World} {base : Nat} {v v' : Value} {L : List Nat} {x : Nat} (h : Pushed wr w1 base v v' L x) {B : Nat} (hB : ∀ b, v.ownBlock = some b → B ≤ b) (hs : B ≤ wr.heap.size) : Below B wr w1 :=
  ⟨h.os, h.tape, h.output, h.size, fun b hb => h.block b (by omega) (fun e => by have := hB b e; omega)⟩

theorem wpListIn_append_at {F : Fence} {n : Nat} {P : Program} (w : World) {ops : Array Oper} {rest : List Oper} {o : Oper} {a : Act} {Q : Exit → Act → World → Prop}
    (hg : o.guard = none) (s x : Operand) (t : TypeId) (hop : o.op = Op.call { callee := Callee.builtin Builtin.append, args := #[s, x], argTypes := #[t, t] })
    (base : Nat) (e : TypeId) (i : TypeInfo) (z : Value) (size bytes : Nat) (h1 : P.underlying t = some (.slice e)) (h2 : P.info? e = some i) (h3 : i.zero = some z) (h4 : i.size = size) (h5 : i.bytes = bytes) (h6 : z.cells.size = size) (h7 : 0 < size)
    (v : Value) (k : Nat) (xs : List Value) (hs : a.eval s = v) (hown : w.ownsRow base e size v k xs) (ad : Addr) (m c : Nat) (news : List Value) (hx : a.eval x = .slice (some ad) m c) (hn : news.length = m * size)
    (hc : ∀ j u, news[j]? = some u → w.cell? (ad.add j) = some u) (h1c : ∀ u ∈ news, u.oneCell' = true) (b1 : k + m ≤ maxLen) (b2 : (k + m) * bytes ≤ 140737488355328) (b3 : base ≤ w.heap.size)
    (hK : ∀ v' w', w'.ownsRow base e size v' (k + m) (xs ++ news) → w.grownBy w' v.ownBlock → (v'.ownBlock = v.ownBlock ∨ v'.ownBlock = some w.heap.size) → wpListIn F n P ops Q rest (a.put o.dst v') w') :
    wpListIn F n P ops Q (o :: rest) a w := by
  refine wpListIn_plain hg fun K hK' => ?_
  obtain ⟨v', w', hrun, r1, r2, _, r3⟩ := run_append_own_at (P := P) w base t o.type e i z size bytes h1 h2 h3 h4 h5 h6 h7 v k xs hown ad m c news hn hc h1c b1 b2 b3
  unfold Oper.wpIn
  refine ⟨?_, ?_⟩
  · simp [Oper.about, hop, resolve, Target.leads, Sem.run_pure]
  · rw [Oper.semAt_plain F _ _ (by rw [hop]; intro c hc'; cases hc')]
    simp [execOp, hop, resolve, invoke, builtin, hs, hx, hrun, Result.andThen]
    exact hK' _ _ (hK v' w' r1 r2 r3)
end Go.Proofs.Ytodnfchkkgoabaa
