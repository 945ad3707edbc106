/- Rows of numbers that a call owns and that grow by append. -/
import Derived.Test.YtodnfchkkgoabaaHMvMxP
import Derived.Test.YtodnfchkkgoabaaHVb
import Derived.Test.YtodnfchkkgoabaaHRngRgo
import Derived.Test.YtodnfchkkgoabaaHGr
import Derived.Maps.AppendAt
import Derived.OwnWalkIn
import Derived.RangeFuncBound
import Derived.Maps.RangeWalk
import Derived.Laws.StructEq
namespace Go.Proofs.Ytodnfchkkgoabaa
open Go.RowKit

theorem infoInt : (Try.prog.info? 3).map (fun i => (i.zero, i.size, i.bytes)) = some (some (.int .i64 0), 1, 8) := by kernel_rfl

abbrev nv (x : Nat) : Value := .int .i64 (x : Int)

/-- The slice owns these numbers. -/
def OwnN (w : World) (base : Nat) (v : Value) (L : List Nat) : Prop := w.ownsRow base 3 1 v L.length (L.map nv)

theorem OwnN.nil (w : World) (base : Nat) : OwnN w base (.slice none 0 0) [] := ⟨rfl, .inl ⟨rfl, rfl⟩⟩
theorem OwnN.slice {w : World} {base : Nat} {v : Value} {L : List Nat} (h : OwnN w base v L) : ∃ p c, v = .slice p L.length c ∧ L.length ≤ c := by
  rcases h.2 with ⟨h1, h2⟩ | ⟨g, cap, cur, h1, _, _, h3, _⟩
  · exact ⟨none, 0, by rw [h1, h2], by omega⟩
  · exact ⟨_, _, h1, h3⟩
theorem OwnN.block_lt {w : World} {base : Nat} {v : Value} {L : List Nat} (h : OwnN w base v L) {b : Nat} (hb : v.ownBlock = some b) : b < w.heap.size ∧ base ≤ b := by
  rcases h.2 with ⟨h1, h2⟩ | ⟨g, cap, cur, h1, h2, h3, _⟩
  · rw [h1] at hb; cases hb
  · rw [h1] at hb
    cases hb
    exact ⟨(Array.getElem?_eq_some_iff.1 h3).1, h2⟩
theorem OwnN.keep {w w' : World} {base : Nat} {v : Value} {L : List Nat} (h : OwnN w base v L) (hk : ∀ b, v.ownBlock = some b → w'.heap[b]? = w.heap[b]?) : OwnN w' base v L := by
  refine ⟨h.1, ?_⟩
  rcases h.2 with h1 | ⟨g, cap, cur, h1, h2, h3, h4⟩
  · exact .inl h1
  · exact .inr ⟨g, cap, cur, h1, h2, (hk g (by rw [h1]; rfl)).trans h3, h4⟩
theorem OwnN.ns {w : World} {base : Nat} {p : Option Addr} {n c : Nat} {L : List Nat} (h : OwnN w base (.slice p n c) L) : NS w p L := by
  intro i hi
  rcases h.2 with ⟨h1, h2⟩ | ⟨g, cap, cur, h1, _, hg, _, _, _, ht⟩
  · omega
  · simp only [Value.slice.injEq] at h1
    obtain ⟨rfl, rfl, rfl⟩ := h1
    refine ⟨g, rfl, ?_⟩
    have hj : cur.toList[i]? = some (nv (L.getD i 0)) := by
      have h5 : (L.map nv)[i]? = some (nv (L.getD i 0)) := by
        rw [List.getElem?_map, List.getElem?_eq_getElem hi]; simp [List.getD_eq_getElem?_getD, hi]
      rw [← ht, List.getElem?_take] at h5
      split at h5
      · exact h5
      · cases h5
    have hj2 : cur[i]? = some (nv (L.getD i 0)) := by rw [← hj]; simp
    simp [World.cell?, hg, hj2]
theorem OwnN.base_le {w : World} {base base' : Nat} {v : Value} {L : List Nat} (h : OwnN w base v L) (hb : base' ≤ base) : OwnN w base' v L := by
  refine ⟨h.1, ?_⟩
  rcases h.2 with h1 | ⟨g, cap, cur, h1, h2, h3⟩
  · exact .inl h1
  · exact .inr ⟨g, cap, cur, h1, by omega, h3⟩
theorem OwnN.len {w : World} {base : Nat} {p : Option Addr} {n c : Nat} {L : List Nat} (h : OwnN w base (.slice p n c) L) : n = L.length := by
  obtain ⟨p', c', h1, _⟩ := h.slice
  simp only [Value.slice.injEq] at h1
  exact h1.2.1

/-- What an append of one number leaves. -/
structure Pushed (wr w1 : World) (base : Nat) (v v' : Value) (L : List Nat) (x : Nat) : Prop where
  own : OwnN w1 base v' (L ++ [x])
  os : w1.os = wr.os
  tape : w1.tape = wr.tape
  output : w1.output = wr.output
  size : wr.heap.size ≤ w1.heap.size
  block : ∀ b, b < wr.heap.size → v.ownBlock ≠ some b → w1.heap[b]? = wr.heap[b]?
  at_ : v'.ownBlock = v.ownBlock ∨ ∃ g, v'.ownBlock = some g ∧ wr.heap.size ≤ g

theorem pushed {wr w1 : World} {base : Nat} {v v' : Value} {L : List Nat} {x : Nat} {o : Obj} (h1 : w1.ownsRow base 3 1 v' (L.length + 1) (L.map nv ++ [nv x])) (h2 : (wr.alloc o).grownBy w1 v.ownBlock) (h3 : v'.ownBlock = v.ownBlock ∨ v'.ownBlock = some (wr.alloc o).heap.size) : Pushed wr w1 base v v' L x := by
  refine ⟨?_, ?_, ?_, ?_, ?_, ?_, ?_⟩
  · unfold OwnN; rw [List.length_append, List.map_append]; exact h1
  · exact h2.os
  · exact h2.tape
  · exact h2.output
  · have := h2.size; simp at this; omega
  · intro b hb hne
    rw [h2.block b (by simp; omega) (fun e => hne e.symm)]; exact Below.heap_alloc wr o b hb
  · exact h3.imp id (fun h => ⟨_, h, by simp⟩)

theorem Pushed.aside {wr w1 : World} {base : Nat} {v v' : Value} {L : List Nat} {x : Nat} (h : Pushed wr w1 base v v' L x) {B : Nat} {O : List Nat} (hB : ∀ b, v.ownBlock = some b → B ≤ b ∧ b ∉ O) : AsideO B O wr w1 :=
  ⟨h.os, h.tape, h.output, h.size, fun b hb hr => h.block b hb (fun e => by have := hB b e; rcases hr with h | h; omega; exact this.2 h)⟩
theorem Pushed.below {wr w1 : World} {base : Nat} {v v' : Value} {L : List Nat} {x : Nat} (h : Pushed wr w1 base v v' L x) {B : Nat} (hB : ∀ b, v.ownBlock = some b → B ≤ b) (hs : B ≤ wr.heap.size) : Below B wr w1 :=
  ⟨h.os, h.tape, h.output, h.size, fun b hb => h.block b (by omega) (fun e => by have := hB b e; omega)⟩

theorem wpListIn_append_at {F : Fence} {n : Nat} {P : Program} (w : World) {ops : Array Oper} {rest : List Oper} {o : Oper} {a : Act} {Q : Exit → Act → World → Prop}
    (hg : o.guard = none) (s x : Operand) (t : TypeId) (hop : o.op = Op.call { callee := Callee.builtin Builtin.append, args := #[s, x], argTypes := #[t, t] })
    (base : Nat) (e : TypeId) (i : TypeInfo) (z : Value) (size bytes : Nat) (h1 : P.underlying t = some (.slice e)) (h2 : P.info? e = some i) (h3 : i.zero = some z) (h4 : i.size = size) (h5 : i.bytes = bytes) (h6 : z.cells.size = size) (h7 : 0 < size)
    (v : Value) (k : Nat) (xs : List Value) (hs : a.eval s = v) (hown : w.ownsRow base e size v k xs) (ad : Addr) (m c : Nat) (news : List Value) (hx : a.eval x = .slice (some ad) m c) (hn : news.length = m * size)
    (hc : ∀ j u, news[j]? = some u → w.cell? (ad.add j) = some u) (h1c : ∀ u ∈ news, u.oneCell' = true) (b1 : k + m ≤ maxLen) (b2 : (k + m) * bytes ≤ 140737488355328) (b3 : base ≤ w.heap.size)
    (hK : ∀ v' w', w'.ownsRow base e size v' (k + m) (xs ++ news) → w.grownBy w' v.ownBlock → (v'.ownBlock = v.ownBlock ∨ v'.ownBlock = some w.heap.size) → wpListIn F n P ops Q rest (a.put o.dst v') w') :
    wpListIn F n P ops Q (o :: rest) a w := by
  refine wpListIn_plain hg fun K hK' => ?_
  obtain ⟨v', w', hrun, r1, r2, _, r3⟩ := run_append_own_at (P := P) w base t o.type e i z size bytes h1 h2 h3 h4 h5 h6 h7 v k xs hown ad m c news hn hc h1c b1 b2 b3
  unfold Oper.wpIn
  refine ⟨?_, ?_⟩
  · simp [Oper.about, hop, resolve, Target.leads, Sem.run_pure]
  · rw [Oper.semAt_plain F _ _ (by rw [hop]; intro c hc'; cases hc')]
    simp [execOp, hop, resolve, invoke, builtin, hs, hx, hrun, Result.andThen]
    exact hK' _ _ (hK v' w' r1 r2 r3)
end Go.Proofs.Ytodnfchkkgoabaa

/- WALK of reversed: for each vertex those from which a move leads to it. -/
set_option linter.unusedVariables false
namespace Go.Proofs.Ytodnfchkkgoabaa
open Go.RowKit

/-- A block whose first n cells are known, and may be written. -/
def Blk (w : World) (g n : Nat) (f : Nat → Value) : Prop := ∃ (cur : Array Value) (e : TypeId), w.heap[g]? = some (.cells cur e (0, 0)) ∧ n ≤ cur.size ∧ ∀ i, i < n → cur[i]? = some (f i)

theorem Blk.lt {w : World} {g n : Nat} {f : Nat → Value} (h : Blk w g n f) : g < w.heap.size := by
  obtain ⟨cur, e, h1, _⟩ := h; exact (Array.getElem?_eq_some_iff.1 h1).1
theorem Blk.cell {w : World} {g n : Nat} {f : Nat → Value} (h : Blk w g n f) {i : Nat} (hi : i < n) : w.cell? ⟨g, i, none⟩ = some (f i) := by
  obtain ⟨cur, e, h1, h2, h3⟩ := h
  simp [World.cell?, h1, h3 i hi]
theorem Blk.frozen {w : World} {g n : Nat} {f : Nat → Value} (h : Blk w g n f) (i : Nat) : w.frozen? ⟨g, i, none⟩ = false := by
  obtain ⟨cur, e, h1, _⟩ := h; simp [World.frozen?, h1]
theorem Blk.keep {w w' : World} {g n : Nat} {f : Nat → Value} (h : Blk w g n f) (k : w'.heap[g]? = w.heap[g]?) : Blk w' g n f := by
  obtain ⟨cur, e, h1, h2⟩ := h; exact ⟨cur, e, k.trans h1, h2⟩
theorem Blk.set {w : World} {g n : Nat} {f : Nat → Value} (h : Blk w g n f) (j : Nat) (u : Value) : Blk (w.setCell ⟨g, j, none⟩ u) g n (fun i => if i = j then u else f i) := by
  obtain ⟨cur, e, h1, h2, h3⟩ := h
  obtain ⟨hlt, hk⟩ := Array.getElem?_eq_some_iff.1 h1
  refine ⟨cur.setIfInBounds j u, e, ?_, by simpa using h2, fun i hi => ?_⟩
  · show (w.heap.modify g _)[g]? = _
    rw [Array.getElem?_eq_getElem (by rw [Array.size_modify]; exact hlt), Array.getElem_modify_self, hk]; rfl
  · rw [Array.getElem?_setIfInBounds]
    by_cases e' : i = j
    · subst e'; simp; omega
    · rw [if_neg (fun h => e' h.symm)]; show _ = some (if i = j then u else f i); rw [if_neg e']; exact h3 i hi
theorem Blk.of_own {w : World} {base g n c : Nat} {e : TypeId} {xs : List Value} {d : Value} (h : w.ownsRow base e 1 (.slice (some ⟨g, 0, none⟩) n c) n xs) : Blk w g n (fun i => xs.getD i d) := by
  rcases h.2 with ⟨h1, _⟩ | ⟨g', cap, cur, h1, h2, h3, h4, h5, h6, h7⟩
  · cases h1
  · cases h1
    refine ⟨cur, e, h3, by omega, fun i hi => ?_⟩
    have : xs[i]? = cur[i]? := by
      rw [← h7, List.getElem?_take, if_pos (by omega)]; simp
    show _ = some (xs.getD i d)
    rw [← this, List.getD_eq_getElem?_getD]
    have hl : i < xs.length := by rw [h.1]; omega
    rw [List.getElem?_eq_getElem hl]; rfl
theorem Blk.congr {w : World} {g n : Nat} {f f' : Nat → Value} (h : Blk w g n f) (e : ∀ i, i < n → f i = f' i) : Blk w g n f' := by
  obtain ⟨cur, t, h1, h2, h3⟩ := h
  exact ⟨cur, t, h1, h2, fun i hi => by rw [h3 i hi, e i hi]⟩

/-- The lists behind one row, and behind all. -/
def revRow (v : Nat) (F : List (List Nat)) : List Nat → List (List Nat)
  | [] => F
  | x :: r => revRow v (F.set x (F.getD x [] ++ [v])) r
def revG : Nat → List (List Nat) → List (List Nat) → List (List Nat)
  | _, F, [] => F
  | v, F, r :: rs => revG (v + 1) (revRow v F r) rs
def revs (G : List (List Nat)) : List (List Nat) := revG 0 (List.replicate G.length []) G

/-- The slices that are made from the lists. -/
structure Frm (w : World) (h n : Nat) (F : List (List Nat)) (f : Nat → Value) : Prop where
  len : F.length = n
  head : Blk w h n f
  row : ∀ x, x < n → OwnN w (h + 1) (f x) (F.getD x [])
  apart : ∀ x y b, x < n → y < n → x ≠ y → (f x).ownBlock = some b → (f y).ownBlock ≠ some b

theorem set_getD (F : List (List Nat)) (x y : Nat) (l : List Nat) (hx : x < F.length) : (F.set x l).getD y [] = if y = x then l else F.getD y [] := by
  rw [List.getD_eq_getElem?_getD, List.getElem?_set]
  by_cases h : x = y
  · subst h; rw [if_pos rfl, if_pos hx, if_pos rfl]; rfl
  · rw [if_neg h, if_neg (fun e => h e.symm), List.getD_eq_getElem?_getD]

theorem Frm.step {w w4 : World} {h n x u : Nat} {F : List (List Nat)} {f : Nat → Value} {v' : Value} (H : Frm w h n F f) (hx : x < n) (P : Pushed w w4 (h + 1) (f x) v' (F.getD x []) u) :
    Frm (w4.setCell ⟨h, x, none⟩ v') h n (F.set x (F.getD x [] ++ [u])) (fun i => if i = x then v' else f i) := by
  have hl := H.len
  have kh : w4.heap[h]? = w.heap[h]? := P.block h H.head.lt (fun e => by have := ((H.row x hx).block_lt e).2; omega)
  have ks : ∀ b, b ≠ h → (w4.setCell ⟨h, x, none⟩ v').heap[b]? = w4.heap[b]? := fun b hb => Below.heap_setCell _ _ _ _ (by simpa using hb)
  refine ⟨by simpa using hl, (H.head.keep kh).set x v', fun y hy => ?_, fun y z b hy hz hne e => ?_⟩
  · rw [set_getD _ _ _ _ (by omega)]
    by_cases e : y = x
    · subst e
      simp only
      exact P.own.keep (fun b e => ks b (by have := (P.own.block_lt e).2; omega))
    · simp only [if_neg e]
      refine (H.row y hy).keep (fun b e' => ?_)
      have hb := (H.row y hy).block_lt e'
      rw [ks b (by omega)]
      exact P.block b hb.1 (fun e2 => H.apart y x b hy hx e e' e2)
  · have key : ∀ a b', a < n → a ≠ x → (f a).ownBlock = some b' → v'.ownBlock ≠ some b' := fun a b' ha hax e1 e2 => by
      rcases P.at_ with h1 | ⟨g', h1, h2⟩
      · rw [h1] at e2; exact H.apart a x b' ha hx hax e1 e2
      · rw [h1] at e2; cases e2
        have := ((H.row a ha).block_lt e1).1; omega
    show (if z = x then v' else f z).ownBlock ≠ some b
    have e : (if y = x then v' else f y).ownBlock = some b := e
    by_cases h1 : y = x
    · have h2 : z ≠ x := fun e' => hne (h1.trans e'.symm)
      rw [if_pos h1] at e
      rw [if_neg h2]
      intro e2
      exact key z b hz h2 e2 e
    · rw [if_neg h1] at e
      by_cases h2 : z = x
      · rw [if_pos h2]; exact key y b hy h1 e
      · rw [if_neg h2]; exact H.apart y z b hy hz hne e

theorem infoRow : (Try.prog.info? 22).map (fun i => (i.zero, i.size, i.bytes)) = some (some (.slice none 0 0), 1, 24) := by kernel_rfl

/-- Lists of numbers in a slice of slices. -/
def GN (w : World) (p : Option Addr) (G : List (List Nat)) : Prop := ∀ v, v < G.length → ∃ g pv cv, p = some ⟨g, 0, none⟩ ∧ w.cell? ⟨g, v, none⟩ = some (.slice pv (G.getD v []).length cv) ∧ NS w pv (G.getD v [])
theorem GN.row {w : World} {p : Option Addr} {G : List (List Nat)} (h : GN w p G) {v : Nat} (hv : v < G.length) {R : List Nat} (hR : G.getD v [] = R) : ∃ g pv cv, p = some ⟨g, 0, none⟩ ∧ w.cell? ⟨g, v, none⟩ = some (.slice pv R.length cv) ∧ NS w pv R := by
  rw [← hR]; exact h v hv
theorem cell_lt2 {W : World} {b i : Nat} {v : Value} (hc : W.cell? ⟨b, i, none⟩ = some v) : b < W.heap.size := by
  rcases Nat.lt_or_ge b W.heap.size with h | h
  · exact h
  · have : W.heap[b]? = none := Array.getElem?_eq_none h
    simp [World.cell?, this] at hc
theorem cellOf2 {B : Nat} {W X : World} (h : Below B W X) {b i : Nat} {v : Value} (hc : W.cell? ⟨b, i, none⟩ = some v) (hb : b < B) : X.cell? ⟨b, i, none⟩ = some v := (h.cell (p := ⟨b, i, none⟩) hb).trans hc
theorem NS.under {W X : World} {p : Option Addr} {L : List Nat} (h : NS W p L) (hb : Below W.heap.size W X) : NS X p L := by
  intro i hi
  obtain ⟨g, e, hc⟩ := h i hi
  exact ⟨g, e, cellOf2 hb hc (cell_lt2 hc)⟩
theorem GN.under {W X : World} {p : Option Addr} {G : List (List Nat)} (h : GN W p G) (hb : Below W.heap.size W X) : GN X p G := by
  intro v hv
  obtain ⟨g, pv, cv, e, hc, hn⟩ := h v hv
  exact ⟨g, pv, cv, e, cellOf2 hb hc (cell_lt2 hc), hn.under hb⟩

theorem revRow_len (v : Nat) : ∀ (r : List Nat) (F : List (List Nat)), (revRow v F r).length = F.length := by
  intro r
  induction r with
  | nil => intro F; rfl
  | cons x r ih => intro F; rw [revRow, ih]; simp

set_option maxRecDepth 100000 in
set_option maxHeartbeats 1000000 in
theorem reversed_any (G : List (List Nat)) (p : Option Addr) (c : Nat) (W : World) (hG : GN W p G) (hl : G.length ≤ 200) (hr : ∀ v, (G.getD v []).length ≤ 200) (hx : ∀ v, ∀ x ∈ G.getD v [], x < G.length) :
    Calls Try.prog 71 #[.slice p G.length c] W fun e w' => ∃ h f, e = .returned (.slice (some ⟨h, 0, none⟩) G.length G.length) ∧ W.heap.size ≤ h ∧ Frm w' h G.length (revs G) f ∧ Below W.heap.size W w' := by
  obtain ⟨n, hn⟩ : ∃ n, G.length = n := ⟨_, rfl⟩
  have HN := Lib.hid hn
  have HG := Lib.hid hG
  have HR := Lib.hid hr
  have HX := Lib.hid hx
  rw [hn] at hl ⊢
  clear hn hG hr hx
  obtain ⟨i0, hi, hz0, hz1, hz2⟩ := info_parts infoRow
  obtain ⟨i1, hj, hy0, hy1, hy2⟩ := info_parts infoInt
  go_enter Try.func71, Try.ntmps71
  go_wp2_with (at_make; refine wpList_make_full _ rfl _ _ 33 rfl W.heap.size 22 i0 (.slice none 0 0) 1 Try.underlying33 hi hz0 hz1 .i64 .i64 (n : Int) (n : Int) n rfl rfl rfl rfl (by rw [hz2]; omega) (by unfold maxLen; omega) (Nat.le_refl _) ?_; intro w1 hown1 hgrow1)
  have st : Frm w1 W.heap.size n (List.replicate n []) (fun _ => .slice none 0 0) := by
    rw [Nat.mul_one, show (Value.slice none 0 0).cells = #[Value.slice none 0 0] from rfl, toList_madeCells_one] at hown1
    refine ⟨by simp, (Blk.of_own (d := .slice none 0 0) hown1).congr (fun i hi => ?_), fun x hx => ?_, fun x y b _ _ _ e => by cases e⟩
    · rw [List.getD_eq_getElem?_getD, List.getElem?_replicate]; split <;> rfl
    · rw [List.getD_eq_getElem?_getD, List.getElem?_replicate, if_pos hx]; exact OwnN.nil _ _
  have hb1 : Below W.heap.size W w1 := ⟨hgrow1.os, hgrow1.tape, hgrow1.output, hgrow1.size, fun k hk => hgrow1.block k hk (by simp)⟩
  have ST := Lib.hid st
  have HB1 := Lib.hid hb1
  clear st hb1 hown1 hgrow1
  obtain ⟨h, hh⟩ : ∃ h, W.heap.size = h := ⟨_, rfl⟩
  rw [hh] at ST
  have HH := Lib.hid hh
  simp only [hh]
  clear hh
  go_loopw [4, 5, 7, 13, 18, 19, 20] (fun _ _ _ i _ _ _ wr => ∃ (v : Nat) (F : List (List Nat)) (f : Nat → Value), i = .int .i64 v ∧ v ≤ n ∧ Hid (revG v F (G.drop v) = revs G) ∧ Hid (Frm wr h n F f) ∧ Hid (Below W.heap.size W wr) ∧ Hid (∀ x, (F.getD x []).length ≤ 200 * v)) (fun _ _ _ i _ _ _ _ => n - (intOf i).toNat)
  case atStart => exact ⟨0, _, _, rfl, by omega, Lib.hid (by unfold revs; rw [HN.out]; rfl), ST, HB1, Lib.hid (fun x => by rw [List.getD_eq_getElem?_getD, List.getElem?_replicate]; split <;> simp)⟩
  case round =>
    obtain ⟨v, F, f, rfl, hv, hrev, hfrm, hb, hlen⟩ := hrel
    by_cases hlt : v < n
    · obtain ⟨R, hR⟩ : ∃ R, G.getD v [] = R := ⟨_, rfl⟩
      obtain ⟨g, pv, cv, rfl, hc, hrow⟩ := (HG.out.under hb.out).row (by rw [HN.out]; exact hlt) hR
      have hrl := HR.out v
      have hxs := HX.out v
      have hD : Hid (G.drop v = R :: G.drop (v + 1)) := Lib.hid (by
        have hl2 : v < G.length := by rw [HN.out]; exact hlt
        rw [List.drop_eq_getElem_cons hl2, ← hR, List.getD_eq_getElem?_getD, List.getElem?_eq_getElem hl2]; rfl)
      have hrev2 : Hid (revG (v + 1) (revRow v F R) (G.drop (v + 1)) = revs G) := Lib.hid (by rw [← hrev.out, hD.out]; rfl)
      rw [hR] at hrl hxs
      have HXS := Lib.hid hxs
      have HROW := Lib.hid (show NS W pv R by have := HG.out.row (by rw [HN.out]; exact hlt) hR; obtain ⟨g', pv', cv', e1, e2, e3⟩ := this; cases e1; have e4 := cellOf2 hb.out e2 (cell_lt2 e2); rw [hc] at e4; cases e4; exact e3)
      obtain ⟨m, hm⟩ : ∃ m, R.length = m := ⟨_, rfl⟩
      have HM := Lib.hid hm
      rw [hm] at hc hrl
      clear hR hrow hm hxs hrev hD
      go_wp2_with fail
      obtain ⟨wo, rfl⟩ : ∃ wo : World, wo = wr := ⟨_, rfl⟩
      go_loopw [7, 20] (fun _ i wr => ∃ (k : Nat) (F' : List (List Nat)) (f' : Nat → Value), i = .int .i64 k ∧ k ≤ m ∧ Hid (revRow v F' (R.drop k) = revRow v F R) ∧ Hid (Frm wr h n F' f') ∧ Hid (Below W.heap.size W wr) ∧ Hid (∀ x, (F'.getD x []).length ≤ 200 * v + k)) (fun _ i _ => m - (intOf i).toNat)
      case atStart => exact ⟨0, F, f, rfl, by omega, Lib.hid (by rw [List.drop_zero]), hfrm, hb, Lib.hid (fun x => by have := hlen.out x; omega)⟩
      case round =>
        clear hfrm hb hlen
        obtain ⟨k, F', f', rfl, hk, hrr, hfrm, hb, hlen⟩ := hrel
        by_cases hlt2 : k < m
        · have hk2 : k < R.length := by rw [HM.out]; exact hlt2
          obtain ⟨g2, rfl, hc2⟩ := (HROW.out.under hb.out) k hk2
          have hx : R.getD k 0 < n := by
            rw [← HN.out]; apply HXS.out
            rw [List.getD_eq_getElem?_getD, List.getElem?_eq_getElem hk2]; exact List.getElem_mem hk2
          have hD : Hid (R.drop k = R.getD k 0 :: R.drop (k + 1)) := Lib.hid (by
            rw [List.drop_eq_getElem_cons hk2, List.getD_eq_getElem?_getD, List.getElem?_eq_getElem hk2]; rfl)
          generalize R.getD k 0 = x at *
          have hrr2 : Hid (revRow v (F'.set x (F'.getD x [] ++ [v])) (R.drop (k + 1)) = revRow v F R) := Lib.hid (by rw [← hrr.out, hD.out]; rfl)
          clear hrr hD
          have hcx := hfrm.out.head.cell hx
          have hfx := hfrm.out.head.frozen x
          have hox := hfrm.out.row x hx
          have hlx := hlen.out x
          obtain ⟨px, cx, hfe, hcc⟩ := hox.slice
          rw [hfe] at hcx hox
          have HFE := Lib.hid hfe
          obtain ⟨q, hq⟩ : ∃ q, (F'.getD x []).length = q := ⟨_, rfl⟩
          rw [hq] at hcx hlx hcc
          have HQ := Lib.hid hq
          have HOX := Lib.hid hox
          have hhs := hfrm.out.head.lt
          clear hfe hq hox
          go_wp2_with (at_builtin; refine wpList_append_own_at _ rfl _ _ 22 rfl (h + 1) 3 i1 (.int .i64 0) 1 8 Try.underlying22 hj hy0 hy1 hy2 rfl (by decide) (.slice px q cx) q ((F'.getD x []).map nv) rfl (by have := HOX.out; unfold OwnN at this; rw [HQ.out] at this; exact this.alloc _) ⟨wr.heap.size, 0, none⟩ 1 1 [nv v] rfl rfl (cell_one_new _ _ _) (fun y hy => by simp at hy; subst hy; rfl) (by unfold maxLen; omega) (by omega) (by simp; omega) ?_; intro v' w4 hw1 hw2 _ hw3; have P := Lib.hid (pushed (L := F'.getD x []) (x := v) (by rw [HQ.out]; exact hw1) hw2 hw3); obtain ⟨p', c', rfl, hc'⟩ := P.out.own.slice; simp only [List.length_append, List.length_cons, List.length_nil, Nat.zero_add, HQ.out] at P hc' ⊢; clear hw1 hw2 hw3; have hb4 : Blk w4 h n f' := hfrm.out.head.keep (P.out.block h hhs (fun e => by have := (HOX.out.block_lt (by rw [HQ.out]; exact e)).2; omega)); have hc4 := hb4.cell hx; rw [HFE.out, HQ.out] at hc4; have hf4 := hb4.frozen x; clear hb4)
          have S := hfrm.out.step hx (by rw [HFE.out, HQ.out]; exact P.out)
          have hb5 : Below W.heap.size W (w4.setCell ⟨h, x, none⟩ (.slice p' (q + 1) c')) := (hb.out.trans (P.out.below (B := W.heap.size) (fun b e => by have := (HOX.out.block_lt (by rw [HQ.out]; exact e)).2; have := HH.out; omega) hb.out.size)).setCell (by have := HH.out; simp; omega) _
          go_roundw
          case rel => exact ⟨k + 1, _, _, by go_num, by omega, hrr2, Lib.hid S, Lib.hid hb5, Lib.hid (fun y => by
            rw [set_getD _ _ _ _ (by rw [hfrm.out.len]; exact hx)]
            split
            · rw [List.length_append]; show _ + 1 ≤ _; have := hlen.out x; omega
            · have := hlen.out y; omega)⟩
          case measure => simp [intOf]; omega
        · have hE : Hid (F' = revRow v F R) := Lib.hid (by rw [← hrr.out, List.drop_eq_nil_iff.2 (by rw [HM.out]; omega)]; rfl)
          go_wp2_with fail
          go_roundw
          case rel => exact ⟨v + 1, F', f', by go_num, by omega, by rw [hE.out]; exact hrev2, hfrm, hb, Lib.hid (fun y => by have := hlen.out y; omega)⟩
          case measure => simp [intOf]; omega
    · have hE : Hid (F = revs G) := Lib.hid (by rw [← hrev.out, List.drop_eq_nil_iff.2 (by rw [HN.out]; omega)]; rfl)
      go_wp2_with fail
      go_ret
      exact ⟨h, f, rfl, by rw [HH.out]; exact Nat.le_refl _, by rw [← hE.out]; exact hfrm.out, hb.out⟩
end Go.Proofs.Ytodnfchkkgoabaa

/- A map from positions to numbers, as it lies in memory: what look-ups, stores and ranges do. -/
namespace Go.Proofs.Ytodnfchkkgoabaa
open Go.RowKit

abbrev posV (v t : Nat) : Value := .agg #[.int .i64 (v : Int), .int .i64 (t : Int)]

theorem eq_pos (w : World) (a b c d : Nat) : (Op.equal 88 (posV a b) (posV c d)).run Try.prog w = .ok (a == c && b == d) w := by
  unfold Op.equal
  have ht : Try.prog.underlying 88 = some (.struct (Try.prog.fieldsOf 88)) := by kernel_rfl
  have hp : Try.prog.stoodInHeld 88 = false := by kernel_rfl
  have hf : (Try.prog.fieldsOf 88).toList = [⟨"vertex", 3, 0, false, "", "stadda/heap", 0⟩, ⟨"turn", 3, 1, false, "", "stadda/heap", 8⟩] := by kernel_rfl
  show (Op.equalIn (9999 + 1) _ _ _).run _ _ = _
  rw [run_equalIn_agg w _ _ _ _ ht hp, hf]
  simp [Op.eqFields, go_sem]
  by_cases h1 : a = c
  · by_cases h2 : b = d
    · subst h1 h2; simp
    · rw [if_pos (by exact_mod_cast h1), if_neg (by exact_mod_cast h2)]; simp [h2]
  · rw [if_neg (by exact_mod_cast h1)]; simp [h1]

theorem check_pos (w : World) (q : Bool) (a b : Nat) : (Instr.checkKey q 10000 88 (posV a b)).run Try.prog w = .ok () w := by kernel_rfl

/-- The first entry at a key, by its place. -/
def lk (k : Nat × Nat) : List ((Nat × Nat) × Nat) → Nat → Option (Nat × Nat)
  | [], _ => none
  | x :: M, i => if x.1 = k then some (i, x.2) else lk k M (i + 1)

abbrev nv' (x : Nat) : Value := .int .i64 (x : Int)
def entV (x : (Nat × Nat) × Nat) : Value × Value := (posV x.1.1 x.1.2, nv' x.2)

theorem find_asking (w : World) (a b : Nat) : ∀ (es : List MapEntry) (M : List ((Nat × Nat) × Nat)) (i : Nat), es.map (fun e => (e.key, e.val)) = M.map entV →
    (Instr.findAsking 88 (posV a b) es i).run Try.prog w = .ok ((lk (a, b) M i).map fun r => (r.1, nv' r.2)) w := by
  intro es
  induction es with
  | nil =>
    intro M i h
    cases M with
    | nil => simp [Instr.findAsking, lk, go_sem]
    | cons x M => simp at h
  | cons e es ih =>
    intro M i h
    cases M with
    | nil => simp at h
    | cons x M =>
      simp only [List.map_cons, List.cons.injEq] at h
      obtain ⟨h1, h2⟩ := h
      obtain ⟨⟨c, d⟩, v⟩ := x
      unfold entV at h1
      simp only [Prod.mk.injEq] at h1
      have := ih M (i + 1) h2
      simp only [Instr.findAsking, Sem.run_bind, h1.1, eq_pos, Result.andThen_ok]
      unfold lk
      by_cases hk : (c, d) = (a, b)
      · cases hk
        simp [go_sem, h1.2]
      · have hb : (a == c && b == d) = false := by
          rw [Bool.eq_false_iff]
          intro h3
          simp at h3
          exact hk (by rw [h3.1, h3.2])
        rw [if_neg hk, hb]
        simpa using this

/-- The map in a block. -/
def MapP (X : World) (b : Nat) (M : List ((Nat × Nat) × Nat)) : Prop :=
  ∃ es : Array MapEntry, X.heap[b]? = some (.map es es.size) ∧ es.toList.map (fun e => (e.key, e.val)) = M.map entV ∧ es.toList.map (·.born) = List.range es.size

theorem MapP.new (w : World) : MapP (w.alloc (.map #[] 0)) w.heap.size [] := ⟨#[], heap_alloc_new w _, rfl, rfl⟩
theorem MapP.lt {X : World} {b : Nat} {M : List ((Nat × Nat) × Nat)} (h : MapP X b M) : b < X.heap.size := by
  obtain ⟨es, h1, _⟩ := h; exact (Array.getElem?_eq_some_iff.1 h1).1
theorem MapP.keep {X Y : World} {b : Nat} {M : List ((Nat × Nat) × Nat)} (h : MapP X b M) (hk : Y.heap[b]? = X.heap[b]?) : MapP Y b M := by
  obtain ⟨es, h1, h2⟩ := h; exact ⟨es, hk.trans h1, h2⟩
theorem MapP.len {X : World} {b : Nat} {M : List ((Nat × Nat) × Nat)} (h : MapP X b M) : ∃ es : Array MapEntry, X.heap[b]? = some (.map es es.size) ∧ es.size = M.length := by
  obtain ⟨es, h1, h2, _⟩ := h
  refine ⟨es, h1, ?_⟩
  have := congrArg List.length h2
  simpa using this

theorem find_key (w : World) (a b : Nat) (es : List MapEntry) (M : List ((Nat × Nat) × Nat)) (h : es.map (fun e => (e.key, e.val)) = M.map entV) :
    (Instr.findKey 88 (posV a b) es).run Try.prog w = .ok ((lk (a, b) M 0).map fun r => (r.1, nv' r.2)) w := by
  unfold Instr.findKey
  simp only [Sem.run_bind, run_underlying Try.underlying88, Result.andThen_ok]
  cases es with
  | nil =>
    cases M with
    | nil => simp [Instr.findNow, lk, go_sem]
    | cons x M => simp at h
  | cons e es =>
    have := find_asking w a b (e :: es) M 0 h
    simp only [Instr.findNow, Instr.sameNow]
    exact this

theorem run_look_ok {X : World} {bm : Nat} {M : List ((Nat × Nat) × Nat)} (h : MapP X bm M) (a b : Nat) :
    (Instr.lookup 85 (.map (some bm)) (posV a b) true).run Try.prog X = .ok (.tuple #[nv' (((lk (a, b) M 0).map (·.2)).getD 0), .bool (lk (a, b) M 0).isSome]) X := by
  obtain ⟨es, h1, h2, h3⟩ := h
  unfold Instr.lookup
  have hz : (zeroValue 3).run Try.prog X = .ok (.int .i64 0) X := by kernel_rfl
  simp only [Sem.run_bind, run_underlying Try.underlying85, getObj, Sem.run, h1, Result.andThen, check_pos, Sem.run_pure]
  rw [find_key X a b es.toList M h2]
  cases lk (a, b) M 0 with
  | none => simp [hz, go_sem]
  | some r => simp [go_sem]
theorem run_look {X : World} {bm : Nat} {M : List ((Nat × Nat) × Nat)} (h : MapP X bm M) (a b : Nat) :
    (Instr.lookup 85 (.map (some bm)) (posV a b) false).run Try.prog X = .ok (nv' (((lk (a, b) M 0).map (·.2)).getD 0)) X := by
  obtain ⟨es, h1, h2, h3⟩ := h
  unfold Instr.lookup
  have hz : (zeroValue 3).run Try.prog X = .ok (.int .i64 0) X := by kernel_rfl
  simp only [Sem.run_bind, run_underlying Try.underlying85, getObj, Sem.run, h1, Result.andThen, check_pos, Sem.run_pure]
  rw [find_key X a b es.toList M h2]
  cases lk (a, b) M 0 with
  | none => simp [hz, go_sem]
  | some r => simp [go_sem]

theorem lk_none {k : Nat × Nat} : ∀ {M : List ((Nat × Nat) × Nat)} {i : Nat}, lk k M i = none ↔ ∀ x ∈ M, x.1 ≠ k := by
  intro M
  induction M with
  | nil => intro i; simp [lk]
  | cons y M ih =>
    intro i
    unfold lk
    by_cases h : y.1 = k
    · simp [h]
    · rw [if_neg h, ih]; simp [h]

theorem run_store {X : World} {bm : Nat} {M : List ((Nat × Nat) × Nat)} (h : MapP X bm M) (a b x : Nat) (hn : lk (a, b) M 0 = none) :
    ∃ Y, (Instr.mapUpdate 85 (.map (some bm)) (posV a b) (nv' x)).run Try.prog X = .ok () Y ∧ MapP Y bm (M ++ [((a, b), x)]) ∧ Y.os = X.os ∧ Y.tape = X.tape ∧ Y.output = X.output ∧ Y.heap.size = X.heap.size ∧ ∀ k, k ≠ bm → Y.heap[k]? = X.heap[k]? := by
  have hlt := h.lt
  obtain ⟨es, h1, h2, h3⟩ := h
  refine ⟨{ X with heap := X.heap.setIfInBounds bm (.map (es.push { key := posV a b, val := nv' x, born := es.size }) (es.size + 1)) }, ?_, ?_, rfl, rfl, rfl, by simp, fun k hk => ?_⟩
  · unfold Instr.mapUpdate
    simp only [Sem.run_bind, run_underlying Try.underlying85, getObj, Sem.run, h1, Result.andThen, check_pos]
    rw [find_key X a b es.toList M h2, hn]
    simp [setObj, Sem.run, h1]
  · refine ⟨es.push { key := posV a b, val := nv' x, born := es.size }, ?_, ?_, ?_⟩
    · simp [hlt]
    · rw [Array.toList_push, List.map_append, List.map_append, h2]; rfl
    · rw [Array.toList_push, List.map_append, h3, Array.size_push, List.range_succ]; rfl
  · simp [Ne.symm hk]
end Go.Proofs.Ytodnfchkkgoabaa
