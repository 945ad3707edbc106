import Derived.Test.YtamhlkjfpdkhoaaGreatDoorQ3
import Derived.WalkKit
import Derived.ArgAppend
import Derived.OwnWalkIn
import Derived.Laws.OwnMore
import Derived.RangeFuncOwn
import Derived.Maps.AppendAt
import Derived.Laws.AppendOwnNone
import Derived.Laws.CopyOwn
import Derived.Deep.LoopGhost
import Derived.Outline
/- A LAW for append to a slice that the call owns: what was owned before is owned still, in the world behind. It speaks of every program. -/
namespace Go.Proofs.YtamhlkjfpdkhoaaGreatDoor
open Go.RowKit

theorem owns_cells {w : World} {base : Nat} {e : TypeId} {size g n cap : Nat} {xs : List Value} (h : w.ownsRow base e size (.slice (some ⟨g, 0, none⟩) n cap) n xs) : ∀ j u, xs[j]? = some u → w.cell? ((⟨g, 0, none⟩ : Addr).add j) = some u := by
  intro j u hu
  rcases h.2 with ⟨h0, _⟩ | ⟨g', cap', cur, h0, _, hg, _, _, _, ht⟩
  · simp at h0
  · simp only [Value.slice.injEq, Option.some.injEq, Addr.mk.injEq, and_true, true_and] at h0
    obtain ⟨rfl, rfl⟩ := h0
    have hj : cur.toList[j]? = some u := by
      rw [← ht] at hu
      rw [List.getElem?_take] at hu
      split at hu
      · exact hu
      · cases hu
    have hj2 : cur[j]? = some u := by rw [← hj]; simp
    by_cases h0 : j = 0
    · subst h0; simp [World.cell?, Addr.add, hg, hj2]
    · simp [World.cell?, Addr.add, h0, hg, hj2]

section
variable {P : Program} (w : World)

theorem run_append_keeps (base : Nat) (t ty e : TypeId) (i : TypeInfo) (z : Value) (size bytes : Nat) (ht : P.underlying t = some (.slice e)) (hi : P.info? e = some i) (hz : i.zero = some z)
    (hsize : i.size = size) (hby : i.bytes = bytes) (hzs : z.cells.size = size) (hsz : 0 < size)
    (g n cap : Nat) (xs : List Value) (hown : w.ownsRow base e size (.slice (some ⟨g, 0, none⟩) n cap) n xs)
    (ad : Addr) (m c : Nat) (news : List Value) (hl : news.length = m * size) (hnews : ∀ j u, news[j]? = some u → w.cell? (ad.add j) = some u) (h1 : ∀ u ∈ news, u.oneCell' = true)
    (hm : 0 < m) (h63 : n + m ≤ maxLen) (hbytes : (n + m) * bytes ≤ 140737488355328) (hbase : base ≤ w.heap.size) :
    ∃ g' cap' w', (Builtin.append_ #[t, t] ty #[.slice (some ⟨g, 0, none⟩) n cap, .slice (some ad) m c]).run P w = .ok (.slice (some ⟨g', 0, none⟩) (n + m) cap') w' ∧
      w'.ownsRow base e size (.slice (some ⟨g', 0, none⟩) (n + m) cap') (n + m) (xs ++ news) ∧ w'.ownsRow base e size (.slice (some ⟨g, 0, none⟩) n cap) n xs ∧
      w.grownBy w' (some g) ∧ (g' = g ∨ w.heap.size ≤ g') := by
  by_cases hfit : n + m ≤ cap
  · obtain ⟨w', hr, h2, h3⟩ := run_append_fits (P := P) w base t ty e i size ht hi hsize g n cap xs hown ad m c news hl hnews h1 hfit
    refine ⟨g, cap, w', hr, h2, ?_, h3, .inl rfl⟩
    refine ⟨hown.1, .inr ?_⟩
    rcases h2.2 with ⟨h0, _⟩ | ⟨g', cap', cur, h0, hb, hg, hnc, hcm, hcs, htk⟩
    · simp at h0
    · simp only [Value.slice.injEq, Option.some.injEq, Addr.mk.injEq, and_true, true_and] at h0
      obtain ⟨rfl, rfl⟩ := h0
      refine ⟨g, cap, cur, rfl, hb, hg, by omega, hcm, hcs, ?_⟩
      have : cur.toList.take (n * size) = (cur.toList.take ((n + m) * size)).take (n * size) := by
        rw [List.take_take, Nat.min_eq_left (Nat.mul_le_mul_right _ (by omega))]
      rw [this, htk, ← hown.1, List.take_left]
  · obtain ⟨v', w', hr, h2, h3⟩ := run_append_arg_grows (P := P) w t ty e i z size bytes ht hi hz hsize hby hzs hsz ⟨g, 0, none⟩ n cap xs hown.1 (owns_cells hown) ad m c news hl hnews (by omega) h63 hbytes
    rcases h2.2 with ⟨h0, h00⟩ | ⟨g', cap', cur, h0, hb, hg, hnc, hcm, hcs, htk⟩
    · omega
    · subst h0
      refine ⟨g', cap', w', hr, ⟨h2.1, .inr ⟨g', cap', cur, rfl, by omega, hg, hnc, hcm, hcs, htk⟩⟩, ?_, ⟨h3.os, h3.tape, h3.output, h3.size, fun k hk _ => h3.block k hk (by simp)⟩, .inr hb⟩
      refine ⟨hown.1, .inr ?_⟩
      rcases hown.2 with ⟨k0, _⟩ | ⟨g2, cap2, cur2, k0, kb, kg, knc, kcm, kcs, ktk⟩
      · simp at k0
      · simp only [Value.slice.injEq, Option.some.injEq, Addr.mk.injEq, and_true, true_and] at k0
        obtain ⟨rfl, rfl⟩ := k0
        exact ⟨g, cap, cur2, rfl, kb, (h3.block g (Array.getElem?_eq_some_iff.1 kg).1 (by simp)).trans kg, knc, kcm, kcs, ktk⟩
end

theorem wpListIn_append_keeps {F : Fence} {n : Nat} {P : Program} (w : World) {ops : Array Oper} {rest : List Oper} {o : Oper} {a : Act} {Q : Exit → Act → World → Prop}
    (hg : o.guard = none) (s x : Operand) (t : TypeId) (hop : o.op = Op.call { callee := Callee.builtin Builtin.append, args := #[s, x], argTypes := #[t, t] })
    (base : Nat) (e : TypeId) (i : TypeInfo) (z : Value) (size bytes : Nat) (h1 : P.underlying t = some (.slice e)) (h2 : P.info? e = some i) (h3 : i.zero = some z) (h4 : i.size = size) (h5 : i.bytes = bytes) (h6 : z.cells.size = size) (h7 : 0 < size)
    (g k cap : Nat) (xs : List Value) (hs : a.eval s = .slice (some ⟨g, 0, none⟩) k cap) (hown : w.ownsRow base e size (.slice (some ⟨g, 0, none⟩) k cap) k xs) (ad : Addr) (m c : Nat) (news : List Value) (hx : a.eval x = .slice (some ad) m c) (hn : news.length = m * size)
    (hc : ∀ j u, news[j]? = some u → w.cell? (ad.add j) = some u) (h1c : ∀ u ∈ news, u.oneCell' = true) (hm : 0 < m) (b1 : k + m ≤ maxLen) (b2 : (k + m) * bytes ≤ 140737488355328) (b3 : base ≤ w.heap.size)
    (hK : ∀ g' cap' w', w'.ownsRow base e size (.slice (some ⟨g', 0, none⟩) (k + m) cap') (k + m) (xs ++ news) → w'.ownsRow base e size (.slice (some ⟨g, 0, none⟩) k cap) k xs → w.grownBy w' (some g) → (g' = g ∨ w.heap.size ≤ g') → wpListIn F n P ops Q rest (a.put o.dst (.slice (some ⟨g', 0, none⟩) (k + m) cap')) w') :
    wpListIn F n P ops Q (o :: rest) a w := by
  refine wpListIn_plain hg fun K hK' => ?_
  obtain ⟨g', cap', w', hrun, r1, r2, r3, r4⟩ := run_append_keeps (P := P) w base t o.type e i z size bytes h1 h2 h3 h4 h5 h6 h7 g k cap xs hown ad m c news hn hc h1c hm b1 b2 b3
  unfold Oper.wpIn
  refine ⟨?_, ?_⟩
  · simp [Oper.about, hop, resolve, Target.leads, Sem.run_pure]
  · rw [Oper.semAt_plain F _ _ (by rw [hop]; intro c hc'; cases hc')]
    simp [execOp, hop, resolve, invoke, builtin, hs, hx, hrun, Result.andThen]
    exact hK' _ _ (hK g' cap' w' r1 r2 r3 r4)

end Go.Proofs.YtamhlkjfpdkhoaaGreatDoor

/- Rows of limbs in memory: what is read, and what is made. -/
namespace Go.Proofs.YtamhlkjfpdkhoaaGreatDoor
open Go.RowKit

/-- The base of the reference's numbers. -/
def B9 : Nat := 1000000000
theorem B9_pos : 0 < B9 := by decide
theorem B9_one : 1 < B9 := by decide

theorem infoInt : (Tryz.prog.info? 3).map (fun i => (i.zero, i.size, i.bytes)) = some (some (.int .i64 0), 1, 8) := by kernel_rfl

abbrev ints (l : List Nat) : List Value := l.map fun (d : Nat) => Value.int .i64 (d : Int)

/-- Limbs that lie in a slice. -/
def Lims (w : World) (v : Value) (l : List Nat) : Prop :=
  ∃ p c, v = .slice p l.length c ∧ l.length ≤ c ∧ c ≤ maxLen ∧ (p = none → c = 0) ∧ ∀ i d, l[i]? = some d → ∃ g, p = some ⟨g, 0, none⟩ ∧ w.cell? ⟨g, i, none⟩ = some (.int .i64 (d : Nat))

/-- Limbs in a row of the call's own. -/
def Own (w : World) (B : Nat) (v : Value) (l : List Nat) : Prop := w.ownsRow B 3 1 v l.length (ints l)

theorem add_zero_off (g i : Nat) : ((⟨g, 0, none⟩ : Addr).add i) = ⟨g, i, none⟩ := by unfold Addr.add; split <;> simp_all

theorem own_form {w : World} {B : Nat} {v : Value} {l : List Nat} (h : Own w B v l) : (v = .slice none 0 0 ∧ l = []) ∨ ∃ g c, v = .slice (some ⟨g, 0, none⟩) l.length c ∧ l.length ≤ c ∧ c ≤ maxLen := by
  rcases h.2 with ⟨h0, h1⟩ | ⟨g, cap, cur, h0, _, _, h2, h3, _⟩
  · exact .inl ⟨h0, List.eq_nil_of_length_eq_zero h1⟩
  · exact .inr ⟨g, cap, h0, h2, h3⟩

theorem own_slice {w : World} {B : Nat} {v : Value} {l : List Nat} (h : Own w B v l) : ∃ p c, v = .slice p l.length c := by
  rcases own_form h with ⟨h0, h1⟩ | ⟨g, c, h0, _⟩
  · exact ⟨none, 0, by rw [h0, h1]; rfl⟩
  · exact ⟨_, c, h0⟩

theorem own_lims {w : World} {B : Nat} {v : Value} {l : List Nat} (h : Own w B v l) : Lims w v l := by
  rcases own_form h with ⟨rfl, rfl⟩ | ⟨g, c, rfl, h2, h3⟩
  · exact ⟨none, 0, rfl, Nat.le_refl _, by simp, fun _ => rfl, fun i d hi => by simp at hi⟩
  · refine ⟨_, c, rfl, h2, h3, (fun h => by cases h), fun i d hi => ⟨g, rfl, ?_⟩⟩
    have h1 := owns_cells h i (.int .i64 (d : Int)) (by rw [List.getElem?_map, hi]; rfl)
    rw [add_zero_off] at h1; exact h1

theorem own_nil (w : World) (B : Nat) : Own w B (.slice none 0 0) [] := ⟨rfl, .inl ⟨rfl, rfl⟩⟩

theorem own_snoc {w : World} {B : Nat} {v : Value} {l : List Nat} {x : Nat} (h : w.ownsRow B 3 1 v (l.length + 1) (ints l ++ [.int .i64 (x : Int)])) : Own w B v (l ++ [x]) := by
  unfold Own ints; rw [List.length_append, List.map_append]; exact h

theorem Lims.slice {w : World} {v : Value} {l : List Nat} (h : Lims w v l) : ∃ p c, v = .slice p l.length c := by
  obtain ⟨p, c, h1, _⟩ := h; exact ⟨p, c, h1⟩

theorem Lims.below {w w' : World} {v : Value} {l : List Nat} (h : Lims w v l) (hb : Below w.heap.size w w') : Lims w' v l := by
  obtain ⟨p, c, h1, h2, h3, h5, h4⟩ := h
  refine ⟨p, c, h1, h2, h3, h5, fun i d hi => ?_⟩
  obtain ⟨g, a, b⟩ := h4 i d hi
  obtain ⟨_, ho, _⟩ := cells_of_cell b
  have hg : g < w.heap.size := (Array.getElem?_eq_some_iff.1 ho).1
  exact ⟨g, a, (hb.cell (p := ⟨g, _, none⟩) hg).trans b⟩

/-- The cells of limbs that lay there before the call. -/
theorem Lims.at_ {w W : World} {p : Option Addr} {n c : Nat} {l : List Nat} (h : Lims w (.slice p n c) l) (hb : Below w.heap.size w W) {i d : Nat} (hi : l[i]? = some d) : ∃ g, p = some ⟨g, 0, none⟩ ∧ W.cell? ⟨g, i, none⟩ = some (.int .i64 (d : Nat)) := by
  obtain ⟨p', c', h1, _, _, _, h2⟩ := h.below hb
  simp only [Value.slice.injEq] at h1
  obtain ⟨rfl, _, _⟩ := h1
  exact h2 i d hi

theorem Lims.take {w : World} {p : Option Addr} {n c : Nat} {l : List Nat} (h : Lims w (.slice p n c) l) {k : Nat} (hk : k ≤ l.length) : Lims w (.slice p k c) (l.take k) := by
  obtain ⟨p', c', h1, h2, h3, h5, h4⟩ := h
  simp only [Value.slice.injEq] at h1
  obtain ⟨rfl, rfl, rfl⟩ := h1
  have hl : (l.take k).length = k := by rw [List.length_take, Nat.min_eq_left hk]
  refine ⟨p, c, by rw [hl], by omega, h3, h5, fun i d hi => h4 i d ?_⟩
  rw [List.getElem?_take] at hi
  split at hi
  · exact hi
  · cases hi

/-- A natural number of the reference's, of k limbs at most. -/
def NN (w : World) (v : Value) (n k : Nat) : Prop := ∃ l, Lims w v l ∧ Norm B9 l ∧ val B9 l = n ∧ l.length ≤ k

theorem NN.below {w w' : World} {v : Value} {n k : Nat} (h : NN w v n k) (hb : Below w.heap.size w w') : NN w' v n k := by
  obtain ⟨l, h1, h2⟩ := h; exact ⟨l, h1.below hb, h2⟩

theorem NN.more {w : World} {v : Value} {n k k' : Nat} (h : NN w v n k) (hk : k ≤ k') : NN w v n k' := by
  obtain ⟨l, h1, h2, h3, h4⟩ := h; exact ⟨l, h1, h2, h3, by omega⟩

theorem NN.nil (w : World) : NN w (.slice none 0 0) 0 0 := ⟨[], ⟨none, 0, rfl, Nat.le_refl _, by simp, fun _ => rfl, fun i d h => by simp at h⟩, Norm.nil _, rfl, Nat.le_refl _⟩

theorem NN.slice {w : World} {v : Value} {n k : Nat} (h : NN w v n k) : ∃ p m c, v = .slice p m c := by
  obtain ⟨l, ⟨p, c, h1, _⟩, _⟩ := h; exact ⟨p, _, c, h1⟩

theorem NN.fit {w : World} {v : Value} {n k j : Nat} (h : NN w v n k) (hn : n < B9 ^ j) : NN w v n j := by
  obtain ⟨l, h1, h2, h3, _⟩ := h
  exact ⟨l, h1, h2, h3, h2.len_le B9_one (by rw [h3]; exact hn)⟩

theorem NN.lt {w : World} {v : Value} {n k : Nat} (h : NN w v n k) : n < B9 ^ k := by
  obtain ⟨l, _, h2, h3, h4⟩ := h
  have := h2.1.lt
  have h5 : B9 ^ l.length ≤ B9 ^ k := Nat.pow_le_pow_right B9_pos h4
  omega

/-- A slice in blocks from B on. -/
def Young (B : Nat) (v : Value) : Prop := ∀ p n c, v = .slice (some p) n c → B ≤ p.block

theorem young_cut {B n m c c' : Nat} {p : Option Addr} (h : Young B (.slice p n c)) : Young B (.slice p m c') := by
  intro q a b e
  simp only [Value.slice.injEq] at e
  obtain ⟨rfl, _, _⟩ := e
  exact h q n c rfl

theorem Young.mono {B B' : Nat} {v : Value} (h : Young B v) (hb : B' ≤ B) : Young B' v := fun p n c e => Nat.le_trans hb (h p n c e)

theorem own_young {w : World} {B : Nat} {v : Value} {l : List Nat} (h : Own w B v l) : Young B v := by
  intro p n c e
  rcases h.2 with ⟨h0, _⟩ | ⟨g, cap, cur, h0, hb, _⟩
  · rw [h0] at e; simp at e
  · rw [h0] at e
    simp only [Value.slice.injEq, Option.some.injEq] at e
    obtain ⟨rfl, _, _⟩ := e
    exact hb

theorem block_off {g i : Nat} : (⟨g, i, none⟩ : Addr).block = g := rfl

/-- A store elsewhere changes nothing of it. -/
theorem NN.store {w : World} {v : Value} {n k B g j : Nat} {u : Value} (h : NN w v n k) (hy : Young B v) (hg : g < B) : NN (w.setCell ⟨g, j, none⟩ u) v n k := by
  obtain ⟨l, ⟨p, c, rfl, h2, h3, h5, h4⟩, h6⟩ := h
  refine ⟨l, ⟨p, c, rfl, h2, h3, h5, fun i d hi => ?_⟩, h6⟩
  obtain ⟨g', rfl, hc⟩ := h4 i d hi
  have : B ≤ g' := hy _ _ _ rfl
  exact ⟨g', rfl, (World.cell?_setCell_other w ⟨g, j, none⟩ ⟨g', i, none⟩ u (fun e => by have := congrArg Addr.block e; simp at this; omega)).trans hc⟩

theorem own_below {w w' : World} {B : Nat} {v : Value} {l : List Nat} (h : Own w B v l) (hb : Below w.heap.size w w') : Own w' B v l := by
  refine ⟨h.1, ?_⟩
  rcases h.2 with h0 | ⟨g, cap, cur, h0, h1, h2, h3⟩
  · exact .inl h0
  · exact .inr ⟨g, cap, cur, h0, h1, (hb.block g (Array.getElem?_eq_some_iff.1 h2).1).trans h2, h3⟩

/-- What a call that makes a natural number leaves. -/
def RetN (w : World) (n k : Nat) (e : Ending) (w' : World) : Prop := ∃ v, e = .returned v ∧ NN w' v n k ∧ Young w.heap.size v ∧ Below w.heap.size w w'
end Go.Proofs.YtamhlkjfpdkhoaaGreatDoor

/- WALKS of the reference's naturals: trim, CmpN, AddN. -/
namespace Go.Proofs.YtamhlkjfpdkhoaaGreatDoor
open Go.RowKit

theorem drop_zero_step {l : List Nat} {k : Nat} (hk : 0 < k) (hi : l[k - 1]? = some 0) (h : ∀ d ∈ l.drop k, d = 0) : ∀ d ∈ l.drop (k - 1), d = 0 := by
  intro d hd
  have hlt := (List.getElem?_eq_some_iff.1 hi).1
  have e : l[k - 1] = 0 := (List.getElem?_eq_some_iff.1 hi).2
  rw [List.drop_eq_getElem_cons hlt, e, show k - 1 + 1 = k by omega, List.mem_cons] at hd
  rcases hd with hd | hd
  · exact hd
  · exact h d hd

set_option maxRecDepth 100000 in
set_option maxHeartbeats 1000000 in
theorem trim_any (v : Value) (l : List Nat) (w : World) (h : Lims w v l) (hlow : Low B9 l) :
    Calls Tryz.prog 82 #[v] w fun e w' => (∃ v', e = .returned v' ∧ NN w v' (val B9 l) l.length ∧ ∀ B, Young B v → Young B v') ∧ w = w' := by
  obtain ⟨p, c, rfl, h1, h2, h3, h4⟩ := h
  have HL : Hid (Lims w (.slice p l.length c) l) := Lib.hid ⟨p, c, rfl, h1, h2, h3, h4⟩
  have HLow := Lib.hid hlow
  have HC := Lib.hid h4
  unfold maxLen at h2
  clear h3 h4 hlow
  go_enter Tryz.func82, Tryz.ntmps82
  go_wp2
  go_loop [0] (fun a => ∃ k : Nat, k ≤ l.length ∧ a = .slice p k c ∧ Hid (∀ d ∈ l.drop k, d = 0)) (fun a => match a with | .slice _ n _ => n | _ => 0)
  case atStart => exact ⟨l.length, Nat.le_refl _, rfl, Lib.hid (by simp)⟩
  case round =>
    obtain ⟨k, hk, rfl, hz⟩ := hrel
    by_cases hk0 : 0 < k
    · obtain ⟨d, hd⟩ : ∃ d, l[k - 1]? = some d := ⟨_, List.getElem?_eq_getElem (by omega)⟩
      obtain ⟨g, rfl, c0⟩ := HC.out _ _ hd
      by_cases hd0 : d = 0
      · subst hd0
        have HZ := Lib.hid (drop_zero_step hk0 hd hz.out)
        clear hd
        go_wp2
        go_round
        case rel => exact ⟨k - 1, by omega, by go_num, HZ⟩
        case measure => simp; omega
      · have t1 : ((d : Int) == 0) = false := by simp; omega
        have HN := Lib.hid (norm_take HLow.out hk hz.out (.inr ⟨d, hd, hd0⟩))
        clear hd hd0
        go_wp2
        go_ret
        exact ⟨⟨_, rfl, ⟨l.take k, HL.out.take hk, HN.out.1, HN.out.2, by simp; omega⟩, fun B h => young_cut h⟩, rfl⟩
    · obtain rfl : k = 0 := by omega
      have HN := Lib.hid (norm_take HLow.out hk hz.out (.inl rfl))
      go_wp2
      go_ret
      exact ⟨⟨_, rfl, ⟨l.take 0, HL.out.take hk, HN.out.1, HN.out.2, by simp⟩, fun B h => young_cut h⟩, rfl⟩

/-- The sign of a difference. -/
def cmpv (a b : Nat) : Int := if a < b then -1 else if a = b then 0 else 1
theorem cmpv_lt {a b : Nat} (h : a < b) : cmpv a b = -1 := by unfold cmpv; rw [if_pos h]
theorem cmpv_gt {a b : Nat} (h : b < a) : cmpv a b = 1 := by unfold cmpv; rw [if_neg (by omega), if_neg (by omega)]
theorem cmpv_eq {a b : Nat} (h : a = b) : cmpv a b = 0 := by unfold cmpv; rw [if_neg (by omega), if_pos h]

theorem drop_same {b : Nat} {l m : List Nat} {k x : Nat} (hk : 0 < k) (h1 : l[k - 1]? = some x) (h2 : m[k - 1]? = some x) (h : val b (l.drop k) = val b (m.drop k)) : val b (l.drop (k - 1)) = val b (m.drop (k - 1)) := by
  rw [val_drop_step b h1, val_drop_step b h2, show k - 1 + 1 = k by omega, h]

set_option maxRecDepth 100000 in
set_option maxHeartbeats 1000000 in
theorem CmpN_any (u v : Value) (a b ka kb : Nat) (w : World) (ha : NN w u a ka) (hb : NN w v b kb) :
    Calls Tryz.prog 113 #[u, v] w fun e w' => e = .returned (.int .i64 (cmpv a b)) ∧ Drew w w' := by
  obtain ⟨l, h1, h2, rfl, _⟩ := ha
  obtain ⟨m, h3, h4, rfl, _⟩ := hb
  obtain ⟨p, c, rfl, e1, e2, _, e3⟩ := h1
  obtain ⟨q, d, rfl, e4, e5, _, e6⟩ := h3
  have HA := Lib.hid e3
  have HB := Lib.hid e6
  have N1 := Lib.hid h2
  have N2 := Lib.hid h4
  unfold maxLen at e2 e5
  clear e3 e6 h2 h4
  by_cases hlen : l.length = m.length
  · have HL := Lib.hid hlen
    rw [← hlen]
    clear hlen
    go_enter Tryz.func113, Tryz.ntmps113
    go_wp2
    go_loopw [5] (fun i wr => ∃ k : Nat, k ≤ l.length ∧ i = .int .i64 ((k : Int) - 1) ∧ Hid (val B9 (l.drop k) = val B9 (m.drop k)) ∧ Hid (Drew w wr)) (fun i _ => (intOf i + 1).toNat)
    case atStart => exact ⟨l.length, Nat.le_refl _, rfl, Lib.hid (by rw [val_drop_end _ (Nat.le_refl _), val_drop_end _ (by rw [HL.out]; exact Nat.le_refl _)]), Lib.hid (Drew.refl _)⟩
    case round =>
      obtain ⟨k, hk, rfl, hv, hd⟩ := hrel
      by_cases hk0 : 0 < k
      · obtain ⟨x, hx⟩ : ∃ d, l[k - 1]? = some d := ⟨_, List.getElem?_eq_getElem (by omega)⟩
        obtain ⟨y, hy⟩ : ∃ d, m[k - 1]? = some d := ⟨_, List.getElem?_eq_getElem (by have := HL.out; omega)⟩
        obtain ⟨g, rfl, c0⟩ := HA.out _ _ hx
        obtain ⟨g', rfl, c1⟩ := HB.out _ _ hy
        obtain ⟨nd, hnd⟩ := hd.out
        have c0' : wr.cell? ⟨g, k - 1, none⟩ = some (.int .i64 x) := by rw [hnd]; exact c0
        have c1' : wr.cell? ⟨g', k - 1, none⟩ = some (.int .i64 y) := by rw [hnd]; exact c1
        have D1 : Hid (Drew w wr.drew) := Lib.hid (hd.out.trans ⟨1, rfl⟩)
        have D2 : Hid (Drew w wr.drew.drew) := Lib.hid (hd.out.trans ⟨2, rfl⟩)
        clear c0 c1 hnd
        rcases Nat.lt_trichotomy x y with hxy | hxy | hxy
        · have HR := Lib.hid (cmpv_lt (lt_of_limb N1.out.1 HL.out hx hy (by rw [show k - 1 + 1 = k by omega]; exact hv.out) hxy))
          clear hx hy
          go_wp2
          go_region
          go_wp2
          go_ret
          exact ⟨ret_int HR.out.symm, D1.out⟩
        · subst hxy
          have HV := Lib.hid (drop_same hk0 hx hy hv.out)
          clear hx hy
          go_wp2
          go_region
          go_wp2
          go_region
          go_wp2
          go_roundw
          case rel => exact ⟨k - 1, by omega, by go_num, HV, D2⟩
          case measure => simp [intOf]; omega
        · have HR := Lib.hid (cmpv_gt (lt_of_limb N2.out.1 HL.out.symm hy hx (by rw [show k - 1 + 1 = k by omega]; exact hv.out.symm) hxy))
          clear hx hy
          go_wp2
          go_region
          go_wp2
          go_region
          go_wp2
          go_ret
          exact ⟨ret_int HR.out.symm, D2.out⟩
      · obtain rfl : k = 0 := by omega
        have HR := Lib.hid (cmpv_eq (show val B9 l = val B9 m from hv.out))
        go_wp2
        go_ret
        exact ⟨ret_int HR.out.symm, hd.out⟩
  · rcases Nat.lt_or_gt_of_ne hlen with h | h
    · have HR := Lib.hid (cmpv_lt (N1.out.lt_of_len B9_pos N2.out h))
      have t1 : ((l.length : Int) != (m.length : Int)) = true := by simp; omega
      clear hlen
      go_enter Tryz.func113, Tryz.ntmps113
      go_wp2
      go_ret
      exact ⟨ret_int HR.out.symm, Drew.refl _⟩
    · have HR := Lib.hid (cmpv_gt (N2.out.lt_of_len B9_pos N1.out h))
      have t1 : ((l.length : Int) != (m.length : Int)) = true := by simp; omega
      clear hlen
      go_enter Tryz.func113, Tryz.ntmps113
      go_wp2
      go_ret
      exact ⟨ret_int HR.out.symm, Drew.refl _⟩
end Go.Proofs.YtamhlkjfpdkhoaaGreatDoor
