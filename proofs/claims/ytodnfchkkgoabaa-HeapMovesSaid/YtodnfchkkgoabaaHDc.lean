/- WALK of decided. -/
import Derived.Test.YtodnfchkkgoabaaHQuBf
import Derived.Outline
import Derived.Deep.LoopGhost
import Derived.StillTailTactics
set_option linter.unusedVariables false
namespace Go.Proofs.Ytodnfchkkgoabaa
open Go.RowKit

theorem wpList_qpush {wr w : World} {ops : Array Oper} {rest : List Oper} {o : Oper} {a : Act} {Q : Exit → Act → World → Prop} (hgd : o.guard = none) (s x : Operand)
    (ho : o.op = .call { callee := .builtin .append, args := #[s, x], argTypes := #[105, 105] }) {base : Nat} {v : Value} {L : List (Nat × Nat)} (h : QP wr base v L) (m n : Nat)
    (hw : w = wr.alloc (.cells #[nv' m, nv' n] 88)) (hs : a.eval s = v) (hx : a.eval x = .slice (some ⟨wr.heap.size, 0, none⟩) 1 1) (hL : L.length ≤ 100000) (hB : base ≤ wr.heap.size)
    (hK : ∀ v' w1, QPushed wr w1 base v v' L (m, n) → wpList Try.prog ops Q rest (a.put o.dst v') w1) : wpList Try.prog ops Q (o :: rest) a w := by
  subst hw
  refine wpList_plain hgd fun K hK' => ?_
  obtain ⟨v', w1, hr, hp⟩ := run_qpush h m n _ rfl hL hB o.type
  unfold Oper.wp execOp
  simp only [ho, resolve, invoke, builtin, Sem.run_bind, Sem.run_pure, Result.andThen_ok, List.map_toArray, List.map_cons, List.map_nil, hs, hx, hr]
  exact hK' _ _ (hK v' w1 hp)

/-- The search under way. -/
structure Ds (w1 wr : World) (gl bm n : Nat) (s : St) (q : Value) (Q : List Pos) : Prop where
  below : Below gl w1 wr
  left : Blk wr gl n (fun i => .int .i64 (s.1.getD i 0))
  map : MapP wr bm s.2
  queue : QP wr (bm + 1) q Q
  gt : gl < bm
  size : bm < wr.heap.size

theorem Ds.keep {w1 wr wr' : World} {gl bm n : Nat} {s : St} {q : Value} {Q : List Pos} (h : Ds w1 wr gl bm n s q Q) (hb : Below gl w1 wr') (hsz : wr.heap.size ≤ wr'.heap.size) (hk : ∀ b, b < wr.heap.size → gl ≤ b → wr'.heap[b]? = wr.heap[b]?) : Ds w1 wr' gl bm n s q Q :=
  ⟨hb, h.left.keep (hk _ h.left.lt (Nat.le_refl _)), h.map.keep (hk _ h.map.lt (by have := h.gt; omega)), h.queue.keep (fun b e => hk b (h.queue.block_lt e).1 (by have := (h.queue.block_lt e).2; have := h.gt; omega)), h.gt, Nat.lt_of_lt_of_le h.size hsz⟩

theorem Ds.pushed {w1 wr w4 : World} {gl bm n : Nat} {s : St} {q v' : Value} {Q : List Pos} {x : Pos} (h : Ds w1 wr gl bm n s q Q) (P : QPushed wr w4 (bm + 1) q v' Q x) : Ds w1 w4 gl bm n s v' (Q ++ [x]) := by
  have hne : ∀ b, q.ownBlock = some b → bm + 1 ≤ b := fun b e => (h.queue.block_lt e).2
  have hs := h.size
  have hg := h.gt
  refine ⟨h.below.trans ⟨P.os, P.tape, P.output, P.size, fun k hk => P.block k (by omega) (fun e => by have := hne _ e; omega)⟩, h.left.keep (P.block _ h.left.lt (fun e => by have := hne _ e; omega)), h.map.keep (P.block _ h.map.lt (fun e => by have := hne _ e; omega)), P.own, hg, by have := P.size; omega⟩

/-- What the first loop keeps. -/
def okI (n v : Nat) (s : St) : Prop := s.1.length = n ∧ (∀ u, 0 ≤ s.1.getD u 0 ∧ s.1.getD u 0 ≤ 200) ∧ s.2.length ≤ v ∧ (∀ x ∈ s.2, x.1.1 < v ∧ x.1.2 = 0 ∧ x.2 = 0) ∧ (s.2.map (·.1)).Nodup

theorem getD_set (l : List Int) (j i : Nat) (x : Int) (hj : j < l.length) : (l.set j x).getD i 0 = if i = j then x else l.getD i 0 := by
  rw [List.getD_eq_getElem?_getD, List.getElem?_set]
  by_cases h : j = i
  · subst h; rw [if_pos rfl, if_pos hj, if_pos rfl]; rfl
  · rw [if_neg h, if_neg (fun e => h e.symm), List.getD_eq_getElem?_getD]

theorem okI.some {n v m : Nat} {s : St} (h : okI n v s) (hv : v < n) (hm : m ≤ 200) : okI n (v + 1) (s.1.set v (m : Int), s.2) := by
  obtain ⟨h1, h2, h3, h4, h5⟩ := h
  refine ⟨by simpa using h1, fun u => ?_, by show s.2.length ≤ _; omega, fun x hx => ?_, h5⟩
  · show 0 ≤ (s.1.set v (m : Int)).getD u 0 ∧ _
    rw [getD_set _ _ _ _ (by omega)]
    split
    · omega
    · exact h2 u
  · have := h4 x hx; omega
theorem okI.none {n v : Nat} {s : St} (h : okI n v s) (hv : v < n) : okI n (v + 1) (s.1.set v 0, s.2 ++ [((v, 0), 0)]) := by
  obtain ⟨h1, h2, h3, h4, h5⟩ := okI.some h hv (show 0 ≤ 200 by omega)
  obtain ⟨_, _, k3, k4, _⟩ := h
  refine ⟨h1, h2, by show (s.2 ++ _).length ≤ _; rw [List.length_append]; simp; omega, fun x hx => ?_, ?_⟩
  · rcases List.mem_append.1 hx with hx | hx
    · exact h4 x hx
    · simp at hx; subst hx; simp
  · show ((s.2 ++ [((v, 0), 0)]).map (fun x : Pos × Nat => x.1)).Nodup
    rw [List.map_append, List.nodup_append]
    refine ⟨h5, by simp, fun a ha b hb => ?_⟩
    simp at hb
    subst hb
    simp only [List.mem_map] at ha
    obtain ⟨x, hx, rfl⟩ := ha
    intro e
    have := (k4 x hx).1
    rw [e] at this
    simp at this
theorem okI.kok {n : Nat} {s : St} (h : okI n n s) : KOk n s.2 := by
  obtain ⟨h1, h2, h3, h4, h5⟩ := h
  refine ⟨h5, fun x hx => ?_, fun i x hx => ?_⟩
  · have := h4 x hx; omega
  · have := h4 x (List.mem_of_getElem? hx); omega

theorem Frm.under {w w' : World} {h n : Nat} {F : List (List Nat)} {f : Nat → Value} (H : Frm w h n F f) (hb : Below w.heap.size w w') : Frm w' h n F f :=
  ⟨H.len, H.head.keep (hb.block _ H.head.lt), fun x hx => (H.row x hx).keep (fun b e => hb.block b ((H.row x hx).block_lt e).1), H.apart⟩

theorem slice_one (g o n c : Nat) (hc : n + 1 ≤ c) (W : World) :
    (Instr.sliceAt 105 (.slice (some ⟨g, o, none⟩) (n + 1) c) (some (.int .i64 1)) none none).run Try.prog W = .ok (.slice (some ⟨g, if c = 1 then o else o + 2, none⟩) n (c - 1)) W := by
  rw [run_sliceAt_slice W 105 _ _ _ _ (by kernel_rfl), run_slice_l W 105 (some ⟨g, o, none⟩) (n + 1) c (by kernel_rfl) .i64 1 (by omega) (by omega)]
  by_cases h : c = 1
  · subst h
    obtain rfl : n = 0 := by omega
    go_simp
  · rw [if_neg h]
    go_simp

/-- What the inner loop keeps: j moves back from position p have been looked at. -/
def okC (n p j : Nat) (x : Pos × Nat) (s : St) : Prop := KOk n s.2 ∧ s.1.length = n ∧ (∀ u, -(40000 * (p : Int)) - (j : Int) ≤ s.1.getD u 0 ∧ s.1.getD u 0 ≤ 200) ∧ s.2[p]? = some x

theorem okC.set {n p j u : Nat} {x : Pos × Nat} {s : St} (h : okC n p j x s) (hu : u < n) : okC n p (j + 1) x (s.1.set u (s.1.getD u 0 - 1), s.2) := by
  obtain ⟨h1, h2, h3, h4⟩ := h
  refine ⟨h1, by simpa using h2, fun w => ?_, h4⟩
  show _ ≤ (s.1.set u (s.1.getD u 0 - 1)).getD w 0 ∧ _
  rw [getD_set _ _ _ _ (by omega)]
  have := h3 u
  have := h3 w
  split
  · omega
  · omega
theorem okC.more {n p j : Nat} {x : Pos × Nat} {s : St} (h : okC n p j x s) : okC n p (j + 1) x s := by
  obtain ⟨h1, h2, h3, h4⟩ := h
  exact ⟨h1, h2, fun w => by have := h3 w; omega, h4⟩
theorem okC.put {n p j u t d : Nat} {v : Pos} {s : St} (h : okC n p j (v, d) s) (hu : u < n) (ht : t < 2) : okC n p j (v, d) (s.1, put (u, t) (d + 1) s.2) := by
  obtain ⟨h1, h2, h3, h4⟩ := h
  have hp := (List.getElem?_eq_some_iff.1 h4).1
  have hd := h1.dist p _ h4
  exact ⟨h1.put' ⟨hu, ht⟩ (by simp only at hd; omega) hp, h2, h3, put_get h4⟩

theorem okC.relax {n p j u xv xt xd : Nat} {s : St} (h : okC n p j ((xv, xt), xd) s) (hu : u < n) : okC n p (j + 1) ((xv, xt), xd) (relax xt xd s u) := by
  unfold Go.Proofs.Ytodnfchkkgoabaa.relax
  split
  · split
    · exact h.set hu
    · exact (h.set hu).put (s := (s.1.set u (s.1.getD u 0 - 1), s.2)) hu (by omega)
  · exact h.more.put hu (by omega)

theorem drop_snoc (M : List (Pos × Nat)) (x : Pos × Nat) (p : Nat) (hp : p < M.length) : ((M ++ [x]).drop (p + 1)).map (·.1) = (M.drop (p + 1)).map (·.1) ++ [x.1] := by
  rw [List.drop_append_of_le_length (by omega), List.map_append]; rfl

/-- What the second loop keeps: p positions have been done. -/
def okB (n p : Nat) (s : St) : Prop := KOk n s.2 ∧ s.1.length = n ∧ (∀ u, -(40000 * (p : Int)) ≤ s.1.getD u 0 ∧ s.1.getD u 0 ≤ 200) ∧ p ≤ s.2.length

set_option maxRecDepth 100000 in
set_option maxHeartbeats 2000000 in
theorem decided_any (G : List (List Nat)) (p : Option Addr) (c : Nat) (W : World) (hG : GN W p G) (hl : G.length ≤ 200) (hr : ∀ v, (G.getD v []).length ≤ 200) (hx : ∀ v, ∀ x ∈ G.getD v [], x < G.length) :
    Calls Try.prog 58 #[.slice p G.length c] W fun e w' => ∃ bm, e = .returned (.map (some bm)) ∧ W.heap.size ≤ bm ∧ MapP w' bm (dec G) ∧ KOk G.length (dec G) ∧ Below W.heap.size W w' := by
  have RV := Lib.hid (reversed_any G p c W hG hl hr hx)
  obtain ⟨n, hn⟩ : ∃ n, G.length = n := ⟨_, rfl⟩
  have HN := Lib.hid hn
  have HG := Lib.hid hG
  have HR := Lib.hid hr
  have HX := Lib.hid hx
  rw [hn] at hl RV ⊢
  clear hn hG hr hx
  obtain ⟨i1, hj, hy0, hy1, hy2⟩ := info_parts infoInt
  have hmm := @run_makeMap Try.prog
  go_enter Try.func58, Try.ntmps58
  go_wp2_with fail
  refine RV.out.mono ?_
  rintro e w1 ⟨h, f, rfl, hh, hfrm, hb1⟩
  have HF := Lib.hid hfrm
  have HB1 := Lib.hid hb1
  clear RV hfrm hb1
  go_wp2_with (at_make; refine wpList_make_full _ rfl _ _ 22 rfl w1.heap.size 3 i1 (.int .i64 0) 1 Try.underlying22 hj hy0 hy1 .i64 .i64 (n : Int) (n : Int) n rfl rfl rfl rfl (by rw [hy2]; omega) (by unfold maxLen; omega) (Nat.le_refl _) ?_; intro w2 hown2 hgrow2; have BL := Lib.hid (Blk.of_own (d := .int .i64 0) hown2); have B2 : Hid (Below w1.heap.size w1 w2) := Lib.hid ⟨hgrow2.os, hgrow2.tape, hgrow2.output, hgrow2.size, fun k hk => hgrow2.block k hk (by simp)⟩; clear hown2 hgrow2)
  obtain ⟨gl, hgl⟩ : ∃ gl, w1.heap.size = gl := ⟨_, rfl⟩
  rw [hgl] at BL B2
  have HGL := Lib.hid hgl
  simp only [hgl]
  have hs2 : gl < w2.heap.size := BL.out.lt
  have D0 : Hid (Ds w1 (w2.alloc (.map #[] 0)) gl w2.heap.size n (List.replicate n 0, []) (.slice none 0 0) []) := Lib.hid ⟨B2.out.alloc (by have := B2.out.size; omega) _, by
      refine (BL.out.keep (Below.heap_alloc _ _ _ BL.out.lt)).congr (fun i hi => ?_)
      rw [Nat.mul_one, show (Value.int IntKind.i64 0).cells = #[Value.int IntKind.i64 0] from rfl, toList_madeCells_one, List.getD_eq_getElem?_getD, List.getD_eq_getElem?_getD, List.getElem?_replicate, List.getElem?_replicate, if_pos hi, if_pos hi]; rfl,
    MapP.new w2, QP.nil _ _, hs2, by simp⟩
  clear hmm hgl BL B2
  generalize w2.alloc (.map #[] 0) = w3 at *
  obtain ⟨bm, hbm⟩ : ∃ bm, w2.heap.size = bm := ⟨_, rfl⟩
  rw [hbm] at D0 hs2
  simp only [hbm]
  clear hbm
  go_loopw [6, 7, 8, 23] (fun y _ _ i wr => ∃ (v : Nat) (s : St) (q : Value), q = y ∧ i = .int .i64 v ∧ v ≤ n ∧ Hid (ini v s (G.drop v) = start G) ∧ Hid (Ds w1 wr gl bm n s q (s.2.map (·.1))) ∧ Hid (okI n v s)) (fun _ _ _ i _ => n - (intOf i).toNat)
  case atStart => exact ⟨0, _, _, rfl, rfl, by omega, Lib.hid (by unfold start; rw [HN.out]; rfl), D0, Lib.hid ⟨by simp, fun u => by rw [List.getD_eq_getElem?_getD, List.getElem?_replicate]; split <;> simp, by simp, by simp, by simp⟩⟩
  case round =>
    obtain ⟨v, s, q, hq, rfl, hv, hini, hds, hok⟩ := hrel
    subst hq
    by_cases hlt : v < n
    · have hl2 : v < G.length := by rw [HN.out]; exact hlt
      obtain ⟨R, hR⟩ : ∃ R, G.getD v [] = R := ⟨_, rfl⟩
      have hw1s : W.heap.size ≤ gl := by rw [← HGL.out]; exact HB1.out.size
      have hbel : Below W.heap.size W wr := HB1.out.trans (hds.out.below.mono hw1s)
      obtain ⟨g, pv, cv, rfl, hc, hrow⟩ := (HG.out.under hbel).row hl2 hR
      have hrl := HR.out v
      have hD : Hid (G.drop v = R :: G.drop (v + 1)) := Lib.hid (by
        rw [List.drop_eq_getElem_cons hl2, ← hR, List.getD_eq_getElem?_getD, List.getElem?_eq_getElem hl2]; rfl)
      rw [hR] at hrl
      obtain ⟨m, hm⟩ : ∃ m, R.length = m := ⟨_, rfl⟩
      have HM := Lib.hid hm
      rw [hm] at hc hrl
      clear hR hrow hm hbel
      have hcl := hds.out.left.cell hlt
      have hfl := hds.out.left.frozen v
      obtain ⟨wl, hwl⟩ : ∃ wl, wr.setCell ⟨gl, v, none⟩ (.int .i64 m) = wl := ⟨_, rfl⟩
      have hbl : Blk wl gl n (fun i => .int .i64 ((s.1.set v (m : Int)).getD i 0)) := by
        rw [← hwl]
        refine (hds.out.left.set v _).congr (fun i hi => ?_)
        rw [getD_set _ _ _ _ (by rw [hok.out.1]; exact hlt)]
        split <;> rfl
      have hcl2 := hbl.cell hlt
      rw [getD_set _ _ _ _ (by rw [hok.out.1]; exact hlt), if_pos rfl] at hcl2
      have hszl : wl.heap.size = wr.heap.size := by rw [← hwl]; simp [World.setCell]
      have hkl : ∀ b, b ≠ gl → wl.heap[b]? = wr.heap[b]? := fun b hb => by rw [← hwl]; exact Below.heap_setCell _ _ _ _ (by simpa using hb)
      have HDL : Hid (Ds w1 wl gl bm n (s.1.set v (m : Int), s.2) q (s.2.map (·.1))) := Lib.hid ⟨by rw [← hwl]; exact hds.out.below.setCell (by simp) _, hbl, hds.out.map.keep (hkl _ (by have := hds.out.gt; omega)), hds.out.queue.keep (fun b e => hkl b (by have := (hds.out.queue.block_lt e).2; have := hds.out.gt; omega)), hds.out.gt, by have := hds.out.size; omega⟩
      have HKL := Lib.hid hkl
      have HSZL := Lib.hid hszl
      clear hbl hkl hszl
      by_cases hm0 : m = 0
      · subst hm0
        rw [show ((0 : Nat) : Int) = 0 from rfl] at hwl hcl2 HDL
        have hnk : lk (v, 0) s.2 0 = none := lk_none.2 (fun x hx e => by have := (hok.out.2.2.2.1 x hx).1; rw [e] at this; simp at this)
        obtain ⟨wm, hst, hmp, ho1, ho2, ho3, hsz, hkm⟩ := run_store HDL.out.map v 0 0 hnk
        have hst2 : (Instr.mapUpdate 85 (.map (some bm)) (.agg #[.int .i64 (v : Int), .int .i64 0]) (.int .i64 0)).run Try.prog wl = .ok () wm := hst
        have HDM : Hid (Ds w1 wm gl bm n (s.1.set v 0, s.2 ++ [((v, 0), 0)]) q (s.2.map (·.1))) := Lib.hid ⟨HDL.out.below.trans ⟨ho1, ho2, ho3, by omega, fun k hk => hkm k (by have := hs2; omega)⟩, HDL.out.left.keep (hkm _ (by omega)), hmp, HDL.out.queue.keep (fun b e => hkm b (by have := (HDL.out.queue.block_lt e).2; omega)), hs2, by have := HDL.out.size; omega⟩
        have HSZ := Lib.hid hsz
        clear hst hmp ho1 ho2 ho3 hkm hsz
        have hqb := HDM.out.queue
        have hmsz := HDM.out.size
        have HQB := Lib.hid hqb
        clear hqb
        go_wp2_with (at_builtin; refine wpList_qpush (wr := wm) rfl _ _ rfl HQB.out v 0 rfl rfl rfl (by simp; have := hok.out.2.2.1; omega) (by omega) ?_; intro v' w4 P)
        have D5 := HDM.out.pushed P
        refine ⟨⟨v + 1, (s.1.set v 0, s.2 ++ [((v, 0), 0)]), v', rfl, by go_num, by omega, Lib.hid (by rw [← hini.out, hD.out, ini, HM.out]; rfl), Lib.hid (by rw [List.map_append]; exact D5), Lib.hid (hok.out.none hlt)⟩, ?_⟩
        simp only [intOf]; omega
      · have hmI : ((m : Int) == 0) = false := by rw [beq_eq_false_iff_ne]; omega
        go_wp2_with fail
        refine ⟨⟨v + 1, (s.1.set v (m : Int), s.2), q, rfl, by go_num, by omega, Lib.hid (by rw [← hini.out, hD.out, ini, HM.out, if_neg hm0]), HDL, Lib.hid (hok.out.some hlt hrl)⟩, ?_⟩
        simp only [intOf]; omega
    · obtain rfl : v = n := by omega
      have hfin : s = start G := by rw [← hini.out, List.drop_eq_nil_iff.2 (by rw [HN.out]; omega)]; rfl
      have HB0 : Hid (bfs (revs G) (2 * v + 1) 0 s = bfs (revs G) (2 * v + 1) 0 (start G)) := Lib.hid (by rw [hfin])
      have HOK : Hid (okB v 0 s) := Lib.hid ⟨hok.out.kok, hok.out.1, fun u => by have := hok.out.2.1 u; omega, Nat.zero_le _⟩
      have HDS : Hid (Ds w1 wr gl bm v s q ((s.2.drop 0).map (·.1))) := Lib.hid (by rw [List.drop_zero]; exact hds.out)
      clear hfin hini hok hds
      go_wp2_with fail
      obtain ⟨wz, rfl⟩ : ∃ wz : World, wz = wr := ⟨_, rfl⟩
      go_loopg [6, 9, 11, 12, 13, 14] (2 * v + 1) (fun gk y _ _ _ _ _ wr => ∃ (p : Nat) (s : St) (q : Value), q = y ∧ gk + p = 2 * v + 1 ∧ Hid (bfs (revs G) gk p s = bfs (revs G) (2 * v + 1) 0 (start G)) ∧ Hid (Ds w1 wr gl bm v s q ((s.2.drop p).map (·.1))) ∧ Hid (okB v p s))
      case atStart => exact ⟨0, s, q, rfl, by omega, HB0, HDS, HOK⟩
      case round =>
        clear HB0 HDS HOK
        obtain ⟨p, s, q, hq, hgp, hbf, hds, hok⟩ := hrel
        subst hq
        by_cases hlt : p < s.2.length
        · obtain ⟨x, hx⟩ : ∃ x, s.2[p]? = some x := ⟨_, List.getElem?_eq_getElem hlt⟩
          have hdr : s.2.drop p = x :: s.2.drop (p + 1) := by
            obtain ⟨_, e⟩ := List.getElem?_eq_some_iff.1 hx
            rw [List.drop_eq_getElem_cons hlt, e]
          obtain ⟨⟨xv, xt⟩, xd⟩ := x
          have hqq := hds.out.queue
          rw [hdr, List.map_cons] at hqq
          obtain ⟨qg, qo, qc, rfl, hq1, hq2, hq3, hq4, hq5, hq6⟩ := hqq.head
          have HQ6 := Lib.hid hq6
          obtain ⟨hxv, hxt⟩ := hok.out.1.vert _ (List.mem_of_getElem? hx)
          have hxd := hok.out.1.dist p _ hx
          have hkl := hok.out.1.len
          clear hq6 hqq
          obtain ⟨ql, hql⟩ : ∃ ql, ((s.2.drop (p + 1)).map (·.1)).length = ql := ⟨_, rfl⟩
          rw [hql] at hq1 HQ6 ⊢
          have HQL := Lib.hid hql
          have HXX := Lib.hid hx
          have HDR := Lib.hid hdr
          clear hql hx hdr
          simp only at hq3 hq4 hxv hxt hxd
          obtain ⟨qo', hqo⟩ : ∃ o, (if qc = 1 then qo else qo + 2) = o := ⟨_, rfl⟩
          have hsl : ∀ W : World, (Instr.sliceAt 105 (.slice (some ⟨qg, qo, none⟩) (ql + 1) qc) (some (.int .i64 1)) none none).run Try.prog W = .ok (.slice (some ⟨qg, qo', none⟩) ql (qc - 1)) W := fun W => by rw [← hqo]; exact slice_one qg qo ql qc hq1 W
          rw [hqo] at HQ6
          clear hqo
          have HDS : Hid (Ds w1 wr gl bm v s (.slice (some ⟨qg, qo', none⟩) ql (qc - 1)) ((s.2.drop (p + 1)).map (·.1))) := Lib.hid ⟨hds.out.below, hds.out.left, hds.out.map, HQ6.out, hds.out.gt, hds.out.size⟩
          clear HQ6 hds
          obtain ⟨wn, hwn⟩ : ∃ wn, wr.alloc (.cells #[.int .i64 xv, .int .i64 xt] 88) = wn := ⟨_, rfl⟩
          obtain ⟨bn, hbn⟩ : ∃ bn, wr.heap.size = bn := ⟨_, rfl⟩
          have hbnm : bm + 1 ≤ bn := by have := HDS.out.size; omega
          have hkn : ∀ k, k < bn → wn.heap[k]? = wr.heap[k]? := fun k hk => by rw [← hwn]; exact Below.heap_alloc _ _ _ (by omega)
          have hszn : wn.heap.size = bn + 1 := by rw [← hwn, ← hbn]; simp
          have HBN : Hid (wn.heap[bn]? = some (.cells #[.int .i64 xv, .int .i64 xt] 88 (0, 0))) := Lib.hid (by rw [← hwn, ← hbn]; exact heap_alloc_new _ _)
          have HDN : Hid (Ds w1 wn gl bm v s (.slice (some ⟨qg, qo', none⟩) ql (qc - 1)) ((s.2.drop (p + 1)).map (·.1))) := Lib.hid (HDS.out.keep (by rw [← hwn]; exact HDS.out.below.alloc (by have := HDS.out.size; omega) _) (by omega) (fun b hb _ => hkn b (by omega)))
          have HFM : Hid (Frm wn h v (revs G) f) := Lib.hid (HF.out.under (by rw [HGL.out]; exact HDN.out.below))
          have HQB : Hid (qg ≠ bn) := Lib.hid (by omega)
          have hcx := HFM.out.head.cell hxv
          obtain ⟨px, cx, hfe, _⟩ := (HFM.out.row xv hxv).slice
          rw [hfe] at hcx
          have hrow := (HFM.out.row xv hxv)
          rw [hfe] at hrow
          have HROW : Hid (NS w1 px ((revs G).getD xv [])) := Lib.hid (by
            have h1 := HF.out.row xv hxv
            rw [hfe] at h1
            exact h1.ns)
          obtain ⟨us, hus⟩ : ∃ us, (revs G).getD xv [] = us := ⟨_, rfl⟩
          rw [hus] at hcx HROW
          obtain ⟨m, hm⟩ : ∃ m, us.length = m := ⟨_, rfl⟩
          rw [hm] at hcx
          have HUS := Lib.hid hus
          have HM := Lib.hid hm
          have hc0 : wn.cell? ⟨bn, 0, none⟩ = some (.int .i64 xv) := by simp [World.cell?, HBN.out]
          have hc1 : wn.cell? ⟨bn, 1, none⟩ = some (.int .i64 xt) := by simp [World.cell?, HBN.out]
          clear hfe hm hus hrow hkn hszn HDS
          go_wp2_with fail
          have hm4 : m ≤ 200 * v := by
            have := (revs_get G xv HR.out).2
            rw [HUS.out, HM.out, HN.out] at this
            exact this
          have HUL : Hid (∀ u ∈ us, u < v) := Lib.hid (by
            have := (revs_get G xv HR.out).1
            rw [HUS.out, HN.out] at this
            exact this)
          have HOC : Hid (okC v p 0 ((xv, xt), xd) s) := Lib.hid ⟨hok.out.1, hok.out.2.1, fun u => by have := hok.out.2.2.1 u; omega, HXX.out⟩
          have HBF : Hid (bfs (revs G) (gk - 1) (p + 1) (relaxs xt xd s us) = bfs (revs G) (2 * v + 1) 0 (start G)) := Lib.hid (by
            rw [← hbf.out]
            obtain ⟨k, rfl⟩ : ∃ k, gk = k + 1 := ⟨gk - 1, by omega⟩
            rw [show bfs (revs G) (k + 1) p s = bfs (revs G) k (p + 1) (relaxs xt xd s ((revs G).getD xv [])) by rw [bfs, HXX.out], HUS.out]; rfl)
          clear hcx hc0 hc1 hok hbf
          obtain ⟨s0, hs0⟩ : ∃ s0, s = s0 := ⟨_, rfl⟩
          have HQQ : Hid (∃ q', Value.slice (some ⟨qg, qo', none⟩) ql (qc - 1) = q' ∧ Ds w1 wn gl bm v s q' ((s.2.drop (p + 1)).map (·.1)) ∧ q'.ownBlock ≠ some bn) := Lib.hid ⟨_, rfl, HDN.out, fun e => by cases e; exact HQB.out rfl⟩
          clear HDN HQB
          obtain ⟨wz2, rfl⟩ : ∃ wz : World, wz = wn := ⟨_, rfl⟩
          go_loopw [6, 11, 12, 13, 14, 61] (fun y _ _ _ _ i wr => ∃ (j : Nat) (s' : St) (q : Value), q = y ∧ i = .int .i64 j ∧ j ≤ m ∧ Hid (relaxs xt xd s' (us.drop j) = relaxs xt xd s us) ∧ Hid (Ds w1 wr gl bm v s' q ((s'.2.drop (p + 1)).map (·.1))) ∧ Hid (q.ownBlock ≠ some bn) ∧ Hid (wr.heap[bn]? = some (.cells #[.int .i64 xv, .int .i64 xt] 88 (0, 0))) ∧ Hid (okC v p j ((xv, xt), xd) s')) (fun _ _ _ _ _ i _ => m - (intOf i).toNat)
          case atStart =>
            obtain ⟨q', e, a, b⟩ := HQQ.out
            exact ⟨0, s, q', e.symm, rfl, by omega, Lib.hid (by rw [List.drop_zero]), Lib.hid a, Lib.hid b, HBN, HOC⟩
          case round =>
            clear HQQ HBN HOC
            obtain ⟨j, s', q, hq, rfl, hj, hrx, hds, hqb, hbx, hoc⟩ := hrel
            subst hq
            by_cases hlt2 : j < m
            · have hju : j < us.length := by rw [HM.out]; exact hlt2
              have hbel : Below w1.heap.size w1 wr := by rw [HGL.out]; exact hds.out.below
              obtain ⟨gu, hpx, hcu⟩ := (HROW.out.under hbel) j hju
              subst hpx
              have hu : us.getD j 0 < v := HUL.out _ (by rw [List.getD_eq_getElem?_getD, List.getElem?_eq_getElem hju]; exact List.getElem_mem hju)
              have hD : Hid (us.drop j = us.getD j 0 :: us.drop (j + 1)) := Lib.hid (by
                rw [List.drop_eq_getElem_cons hju, List.getD_eq_getElem?_getD, List.getElem?_eq_getElem hju]; rfl)
              generalize us.getD j 0 = u at *
              have hrx2 : Hid (relaxs xt xd (relax xt xd s' u) (us.drop (j + 1)) = relaxs xt xd s us) := Lib.hid (by rw [← hrx.out, hD.out]; rfl)
              clear hrx hD hbel
              obtain ⟨wh, hwh⟩ : ∃ wh, wr.alloc (.cells #[.int .i64 u, .int .i64 1] 88) = wh := ⟨_, rfl⟩
              obtain ⟨bh, hbh⟩ : ∃ bh, wr.heap.size = bh := ⟨_, rfl⟩
              have hbnl : bn < bh := by have := (Array.getElem?_eq_some_iff.1 hbx.out).1; omega
              have hbml : bm < bh := by have := hds.out.size; omega
              have hkh : ∀ k, k < bh → wh.heap[k]? = wr.heap[k]? := fun k hk => by rw [← hwh]; exact Below.heap_alloc _ _ _ (by omega)
              have HSZ : Hid (wh.heap.size = bh + 1) := Lib.hid (by rw [← hwh, ← hbh]; simp)
              have HBH : Hid (wh.heap[bh]? = some (.cells #[.int .i64 u, .int .i64 1] 88 (0, 0))) := Lib.hid (by rw [← hwh, ← hbh]; exact heap_alloc_new _ _)
              have HDH : Hid (Ds w1 wh gl bm v s' q ((s'.2.drop (p + 1)).map (·.1))) := Lib.hid (hds.out.keep (by rw [← hwh]; exact hds.out.below.alloc (by have := hds.out.size; omega) _) (by have := HSZ.out; omega) (fun b hb _ => hkh b (by omega)))
              have HBX : Hid (wh.heap[bn]? = some (.cells #[.int .i64 xv, .int .i64 xt] 88 (0, 0))) := Lib.hid ((hkh _ hbnl).trans hbx.out)
              have HQH : Hid (q.ownBlock ≠ some bh) := Lib.hid (fun e => by have := (hds.out.queue.block_lt e).1; omega)
              clear hkh hds hbx
              obtain ⟨qp, qc2, hqs⟩ := HDH.out.queue.slice
              have hn0 : wh.cell? ⟨bn, 0, none⟩ = some (.int .i64 xv) := by simp [World.cell?, HBX.out]
              have hn1 : wh.cell? ⟨bn, 1, none⟩ = some (.int .i64 xt) := by simp [World.cell?, HBX.out]
              by_cases ht : xt = 1
              · have hb1 : ((xt : Int) == 1) = true := by rw [ht]; rfl
                obtain ⟨x, hx⟩ : ∃ x, s'.1.getD u 0 = x := ⟨_, rfl⟩
                have hxb := hoc.out.2.2.1 u
                have hcl := HDH.out.left.cell hu
                have hfl := HDH.out.left.frozen u
                rw [hx] at hxb hcl
                obtain ⟨hxb1, hxb2⟩ := hxb
                have hlen : u < s'.1.length := by rw [hoc.out.2.1]; exact hu
                obtain ⟨wl, hwl⟩ : ∃ wl, wh.setCell ⟨gl, u, none⟩ (.int .i64 (x - 1)) = wl := ⟨_, rfl⟩
                have hbl : Blk wl gl v (fun i => .int .i64 ((s'.1.set u (x - 1)).getD i 0)) := by
                  rw [← hwl]
                  refine (HDH.out.left.set u _).congr (fun i hi => ?_)
                  rw [getD_set _ _ _ _ hlen]
                  split <;> rfl
                have hcl2 := hbl.cell hu
                rw [getD_set _ _ _ _ hlen, if_pos rfl] at hcl2
                have HSZL : Hid (wl.heap.size = bh + 1) := Lib.hid (by rw [← hwl, ← HSZ.out]; simp [World.setCell])
                have hkl : ∀ b, b ≠ gl → wl.heap[b]? = wh.heap[b]? := fun b hb => by rw [← hwl]; exact Below.heap_setCell _ _ _ _ (by simpa using hb)
                have hgtl := HDH.out.gt
                have HDL : Hid (Ds w1 wl gl bm v (s'.1.set u (x - 1), s'.2) q ((s'.2.drop (p + 1)).map (·.1))) := Lib.hid ⟨by rw [← hwl]; exact HDH.out.below.setCell (by simp) _, hbl, HDH.out.map.keep (hkl _ (by omega)), HDH.out.queue.keep (fun b e => hkl b (by have := (HDH.out.queue.block_lt e).2; omega)), hgtl, by have := HSZL.out; omega⟩
                have HBXL : Hid (wl.heap[bn]? = some (.cells #[.int .i64 xv, .int .i64 xt] 88 (0, 0))) := Lib.hid ((hkl _ (by omega)).trans HBX.out)
                have HBHL : Hid (wl.heap[bh]? = some (.cells #[.int .i64 u, .int .i64 1] 88 (0, 0))) := Lib.hid ((hkl _ (by omega)).trans HBH.out)
                have HX := Lib.hid hx
                clear hkl hbl hx hqs
                by_cases hpos : 0 < x - 1
                · have HRK : Hid (relax xt xd s' u = (s'.1.set u (x - 1), s'.2)) := Lib.hid (by unfold relax; rw [if_pos ht, HX.out, if_pos hpos])
                  clear ht
                  go_wp2_with fail
                  refine ⟨⟨j + 1, relax xt xd s' u, q, rfl, by go_num, by omega, hrx2, Lib.hid (by rw [HRK.out]; exact HDL.out), hqb, HBXL, Lib.hid (hoc.out.relax hu)⟩, ?_⟩
                  simp only [intOf]; omega
                · have HRL : Hid (relax xt xd s' u = (s'.1.set u (x - 1), put (u, 0) (xd + 1) s'.2)) := Lib.hid (by unfold relax; rw [if_pos ht, HX.out, if_neg hpos])
                  clear ht
                  have hfh : wl.frozen? ⟨bh, 1, none⟩ = false := by simp [World.frozen?, HBHL.out]
                  have hch1 : wl.cell? ⟨bh, 1, none⟩ = some (.int .i64 1) := by simp [World.cell?, HBHL.out]
                  obtain ⟨wk, hwk⟩ : ∃ wk, wl.setCell ⟨bh, 1, none⟩ (.int .i64 0) = wk := ⟨_, rfl⟩
                  have hkk : ∀ b, b ≠ bh → wk.heap[b]? = wl.heap[b]? := fun b hb => by rw [← hwk]; exact Below.heap_setCell _ _ _ _ (by simpa using hb)
                  have HSZK : Hid (wk.heap.size = bh + 1) := Lib.hid (by rw [← hwk, ← HSZL.out]; simp [World.setCell])
                  have HD : Hid (Ds w1 wk gl bm v (s'.1.set u (x - 1), s'.2) q ((s'.2.drop (p + 1)).map (·.1))) := Lib.hid ⟨by rw [← hwk]; exact HDL.out.below.setCell (by simp; omega) _, HDL.out.left.keep (hkk _ (by omega)), HDL.out.map.keep (hkk _ (by omega)), HDL.out.queue.keep (fun b e => hkk b (fun e2 => HQH.out (by rw [e, e2]))), hgtl, by have := HSZK.out; omega⟩
                  have HBXK : Hid (wk.heap[bn]? = some (.cells #[.int .i64 xv, .int .i64 xt] 88 (0, 0))) := Lib.hid ((hkk _ (by omega)).trans HBXL.out)
                  have HBHK : Hid (wk.heap[bh]? = some (.cells #[.int .i64 u, .int .i64 0] 88 (0, 0))) := Lib.hid (by
                    rw [← hwk]
                    simp only [World.setCell, Array.getElem?_modify, HBHL.out, if_true, Option.map_some]
                    rfl)
                  have hh0 : wk.cell? ⟨bh, 0, none⟩ = some (.int .i64 u) := by simp [World.cell?, HBHK.out]
                  have hh1 : wk.cell? ⟨bh, 1, none⟩ = some (.int .i64 0) := by simp [World.cell?, HBHK.out]
                  have hn0l : wl.cell? ⟨bn, 0, none⟩ = some (.int .i64 xv) := by simp [World.cell?, HBXL.out]
                  have hn1l : wl.cell? ⟨bn, 1, none⟩ = some (.int .i64 xt) := by simp [World.cell?, HBXL.out]
                  clear hn0 hn1
                  have hn0 : wk.cell? ⟨bn, 0, none⟩ = some (.int .i64 xv) := by simp [World.cell?, HBXK.out]
                  have hn1 : wk.cell? ⟨bn, 1, none⟩ = some (.int .i64 xt) := by simp [World.cell?, HBXK.out]
                  have hn1h : wh.cell? ⟨bn, 1, none⟩ = some (.int .i64 xt) := by simp [World.cell?, HBX.out]
                  clear hkk
                  have hlk : (Instr.lookup 85 (.map (some bm)) (.agg #[.int .i64 (u : Int), .int .i64 0]) true).run Try.prog wk = .ok (.tuple #[nv' (((lk (u, 0) s'.2 0).map (·.2)).getD 0), .bool (lk (u, 0) s'.2 0).isSome]) wk := run_look_ok HD.out.map u 0
                  have hpl : p < s'.2.length := (List.getElem?_eq_some_iff.1 hoc.out.2.2.2).1
                  cases hkn : lk (u, 0) s'.2 0 with
                  | some y =>
                    rw [hkn] at hlk
                    simp only [Option.map_some, Option.getD_some, Option.isSome_some] at hlk
                    have HRK : Hid (relax xt xd s' u = (s'.1.set u (x - 1), s'.2)) := Lib.hid (by rw [HRL.out, put, if_pos (by rw [hkn]; rfl)])
                    clear hkn
                    go_wp2_with fail
                    refine ⟨⟨j + 1, relax xt xd s' u, q, rfl, by go_num, by omega, hrx2, Lib.hid (by rw [HRK.out]; exact HD.out), hqb, HBXK, Lib.hid (hoc.out.relax hu)⟩, ?_⟩
                    simp only [intOf]; omega
                  | none =>
                    rw [hkn] at hlk
                    simp only [Option.map_none, Option.getD_none, Option.isSome_none] at hlk
                    have HRK : Hid (relax xt xd s' u = (s'.1.set u (x - 1), s'.2 ++ [((u, 0), xd + 1)])) := Lib.hid (by rw [HRL.out, put, if_neg (by rw [hkn]; simp)])
                    have HKN := Lib.hid hkn
                    clear hkn
                    go_wp2_with fail
                    obtain ⟨wd, hwd⟩ : ∃ wd, wk.drew = wd := ⟨_, rfl⟩
                    have hbd : ∀ k : Nat, wd.heap[k]? = wk.heap[k]? := fun k => by rw [← hwd]; rfl
                    have hsd : wd.heap.size = wk.heap.size := by rw [← hwd]; rfl
                    have HDD : Hid (Ds w1 wd gl bm v (s'.1.set u (x - 1), s'.2) q ((s'.2.drop (p + 1)).map (·.1))) := Lib.hid (HD.out.keep (by rw [← hwd]; exact HD.out.below.drew) (by omega) (fun b _ _ => hbd b))
                    have HBXD : Hid (wd.heap[bn]? = some (.cells #[.int .i64 xv, .int .i64 xt] 88 (0, 0))) := Lib.hid ((hbd _).trans HBXK.out)
                    have hh0d : wd.cell? ⟨bh, 0, none⟩ = some (.int .i64 u) := (World.cell?_of_block (w := wk) (hbd _)).trans hh0
                    have hh1d : wd.cell? ⟨bh, 1, none⟩ = some (.int .i64 0) := (World.cell?_of_block (w := wk) (hbd _)).trans hh1
                    have hn0d : wd.cell? ⟨bn, 0, none⟩ = some (.int .i64 xv) := (World.cell?_of_block (w := wk) (hbd _)).trans hn0
                    have hn1d : wd.cell? ⟨bn, 1, none⟩ = some (.int .i64 xt) := (World.cell?_of_block (w := wk) (hbd _)).trans hn1
                    have hlx : (Instr.lookup 85 (.map (some bm)) (.agg #[.int .i64 (xv : Int), .int .i64 (xt : Int)]) false).run Try.prog wd = .ok (.int .i64 xd) wd := by
                      have h1 := run_look HDD.out.map xv xt
                      rw [lk_get hoc.out.1.nodup hoc.out.2.2.2] at h1
                      exact h1
                    have hxd1 : xd ≤ 1000 := by omega
                    obtain ⟨wm, hst, hmp, ho1, ho2, ho3, hsz, hkm⟩ := run_store HDD.out.map u 0 (xd + 1) HKN.out
                    have hst2 : (Instr.mapUpdate 85 (.map (some bm)) (.agg #[.int .i64 (u : Int), .int .i64 0]) (.int .i64 ((xd : Int) + 1))).run Try.prog wd = .ok () wm := by
                      have e : ((xd : Int) + 1) = ((xd + 1 : Nat) : Int) := by omega
                      rw [e]; exact hst
                    have HDM : Hid (Ds w1 wm gl bm v (s'.1.set u (x - 1), s'.2 ++ [((u, 0), xd + 1)]) q ((s'.2.drop (p + 1)).map (·.1))) := Lib.hid ⟨HDD.out.below.trans ⟨ho1, ho2, ho3, by omega, fun k hk => hkm k (by have := hs2; omega)⟩, HDD.out.left.keep (hkm _ (by omega)), hmp, HDD.out.queue.keep (fun b e => hkm b (by have := (HDD.out.queue.block_lt e).2; omega)), hs2, by have := HDD.out.size; omega⟩
                    have HBXM : Hid (wm.heap[bn]? = some (.cells #[.int .i64 xv, .int .i64 xt] 88 (0, 0))) := Lib.hid ((hkm _ (by omega)).trans HBXD.out)
                    have hh0m : wm.cell? ⟨bh, 0, none⟩ = some (.int .i64 u) := (World.cell?_of_block (w := wd) (hkm _ (show bh ≠ bm by omega))).trans hh0d
                    have hh1m : wm.cell? ⟨bh, 1, none⟩ = some (.int .i64 0) := (World.cell?_of_block (w := wd) (hkm _ (show bh ≠ bm by omega))).trans hh1d
                    have HSZM : Hid (wm.heap.size = bh + 1) := Lib.hid (by rw [hsz, hsd]; exact HSZK.out)
                    have HQB2 := HDM.out.queue
                    have HQB := Lib.hid HQB2
                    have hmsz := HDM.out.size
                    clear hst hmp ho1 ho2 ho3 hsz hkm hbd hsd hlk HQB2
                    refine wp_region_still_tail 6 (by kernel_rfl) (by kernel_rfl) ?_
                    change wpStill _ _ wk.drew _ _ _
                    rw [hwd]
                    have HWD := Lib.hid hwd
                    clear hwd
                    simp only [List.take_succ_cons, List.take_zero, List.drop_succ_cons, List.drop_zero]
                    repeat still_step
                    try refine wpStill_nil ?_
                    change wpList _ _ _ _ _ wk.drew
                    rw [HWD.out]
                    have hql2 : ((s'.2.drop (p + 1)).map (·.1)).length ≤ 1000 := by
                      have := hoc.out.1.len
                      rw [List.length_map, List.length_drop]; omega
                    have HQL2 := Lib.hid hql2
                    clear hql2 hh0d hh1d hn0d hn1d hlx hn0 hn1 hh0 hh1
                    go_wp2_with fail
                    rw [hst2]
                    clear hst2
                    go_wp2_with (at_builtin; refine wpList_qpush (wr := wm) rfl _ _ rfl HQB.out u 0 rfl rfl rfl (by have := HQL2.out; omega) (by omega) ?_; intro v' w4 P)
                    have D5 := HDM.out.pushed P
                    have hb5 : w4.heap[bn]? = some (.cells #[.int .i64 xv, .int .i64 xt] 88 (0, 0)) := (P.block _ (by have := HSZM.out; omega) hqb.out).trans HBXM.out
                    have hq5 : v'.ownBlock ≠ some bn := by
                      rcases P.at_ with h | ⟨g', h, hg⟩
                      · rw [h]; exact hqb.out
                      · rw [h]; intro e; cases e; have := HSZM.out; omega
                    refine ⟨⟨j + 1, relax xt xd s' u, v', rfl, by go_num, by omega, hrx2, Lib.hid (by rw [HRK.out, drop_snoc _ _ _ hpl]; exact D5), Lib.hid hq5, Lib.hid hb5, Lib.hid (hoc.out.relax hu)⟩, ?_⟩
                    simp only [intOf]; omega
              · have hb1 : ((xt : Int) == 1) = false := by rw [beq_eq_false_iff_ne]; omega
                have hh0 : wh.cell? ⟨bh, 0, none⟩ = some (.int .i64 u) := by simp [World.cell?, HBH.out]
                have hh1 : wh.cell? ⟨bh, 1, none⟩ = some (.int .i64 1) := by simp [World.cell?, HBH.out]
                have HD := HDH
                have HRL : Hid (relax xt xd s' u = (s'.1, put (u, 1) (xd + 1) s'.2)) := Lib.hid (by unfold relax; rw [if_neg ht])
                clear ht hqs

                have hlk : (Instr.lookup 85 (.map (some bm)) (.agg #[.int .i64 (u : Int), .int .i64 1]) true).run Try.prog wh = .ok (.tuple #[nv' (((lk (u, 1) s'.2 0).map (·.2)).getD 0), .bool (lk (u, 1) s'.2 0).isSome]) wh := run_look_ok HD.out.map u 1
                have hpl : p < s'.2.length := (List.getElem?_eq_some_iff.1 hoc.out.2.2.2).1
                cases hkn : lk (u, 1) s'.2 0 with
                | some y =>
                  rw [hkn] at hlk
                  simp only [Option.map_some, Option.getD_some, Option.isSome_some] at hlk
                  have HRK : Hid (relax xt xd s' u = (s'.1, s'.2)) := Lib.hid (by rw [HRL.out, put, if_pos (by rw [hkn]; rfl)])
                  clear hkn
                  go_wp2_with fail
                  refine ⟨⟨j + 1, relax xt xd s' u, q, rfl, by go_num, by omega, hrx2, Lib.hid (by rw [HRK.out]; exact HD.out), hqb, HBX, Lib.hid (hoc.out.relax hu)⟩, ?_⟩
                  simp only [intOf]; omega
                | none =>
                  rw [hkn] at hlk
                  simp only [Option.map_none, Option.getD_none, Option.isSome_none] at hlk
                  have HRK : Hid (relax xt xd s' u = (s'.1, s'.2 ++ [((u, 1), xd + 1)])) := Lib.hid (by rw [HRL.out, put, if_neg (by rw [hkn]; simp)])
                  have HKN := Lib.hid hkn
                  clear hkn
                  go_wp2_with fail
                  obtain ⟨wd, hwd⟩ : ∃ wd, wh.drew = wd := ⟨_, rfl⟩
                  have hbd : ∀ k : Nat, wd.heap[k]? = wh.heap[k]? := fun k => by rw [← hwd]; rfl
                  have hsd : wd.heap.size = wh.heap.size := by rw [← hwd]; rfl
                  have HDD : Hid (Ds w1 wd gl bm v (s'.1, s'.2) q ((s'.2.drop (p + 1)).map (·.1))) := Lib.hid (HD.out.keep (by rw [← hwd]; exact HD.out.below.drew) (by omega) (fun b _ _ => hbd b))
                  have HBXD : Hid (wd.heap[bn]? = some (.cells #[.int .i64 xv, .int .i64 xt] 88 (0, 0))) := Lib.hid ((hbd _).trans HBX.out)
                  have hh0d : wd.cell? ⟨bh, 0, none⟩ = some (.int .i64 u) := (World.cell?_of_block (w := wh) (hbd _)).trans hh0
                  have hh1d : wd.cell? ⟨bh, 1, none⟩ = some (.int .i64 1) := (World.cell?_of_block (w := wh) (hbd _)).trans hh1
                  have hn0d : wd.cell? ⟨bn, 0, none⟩ = some (.int .i64 xv) := (World.cell?_of_block (w := wh) (hbd _)).trans hn0
                  have hn1d : wd.cell? ⟨bn, 1, none⟩ = some (.int .i64 xt) := (World.cell?_of_block (w := wh) (hbd _)).trans hn1
                  have hlx : (Instr.lookup 85 (.map (some bm)) (.agg #[.int .i64 (xv : Int), .int .i64 (xt : Int)]) false).run Try.prog wd = .ok (.int .i64 xd) wd := by
                    have h1 := run_look HDD.out.map xv xt
                    rw [lk_get hoc.out.1.nodup hoc.out.2.2.2] at h1
                    exact h1
                  have hxd1 : xd ≤ 1000 := by omega
                  obtain ⟨wm, hst, hmp, ho1, ho2, ho3, hsz, hkm⟩ := run_store HDD.out.map u 1 (xd + 1) HKN.out
                  have hst2 : (Instr.mapUpdate 85 (.map (some bm)) (.agg #[.int .i64 (u : Int), .int .i64 1]) (.int .i64 ((xd : Int) + 1))).run Try.prog wd = .ok () wm := by
                    have e : ((xd : Int) + 1) = ((xd + 1 : Nat) : Int) := by omega
                    rw [e]; exact hst
                  have HDM : Hid (Ds w1 wm gl bm v (s'.1, s'.2 ++ [((u, 1), xd + 1)]) q ((s'.2.drop (p + 1)).map (·.1))) := Lib.hid ⟨HDD.out.below.trans ⟨ho1, ho2, ho3, by omega, fun k hk => hkm k (by have := hs2; omega)⟩, HDD.out.left.keep (hkm _ (by omega)), hmp, HDD.out.queue.keep (fun b e => hkm b (by have := (HDD.out.queue.block_lt e).2; omega)), hs2, by have := HDD.out.size; omega⟩
                  have HBXM : Hid (wm.heap[bn]? = some (.cells #[.int .i64 xv, .int .i64 xt] 88 (0, 0))) := Lib.hid ((hkm _ (by omega)).trans HBXD.out)
                  have hh0m : wm.cell? ⟨bh, 0, none⟩ = some (.int .i64 u) := (World.cell?_of_block (w := wd) (hkm _ (show bh ≠ bm by omega))).trans hh0d
                  have hh1m : wm.cell? ⟨bh, 1, none⟩ = some (.int .i64 1) := (World.cell?_of_block (w := wd) (hkm _ (show bh ≠ bm by omega))).trans hh1d
                  have HSZM : Hid (wm.heap.size = bh + 1) := Lib.hid (by rw [hsz, hsd]; exact HSZ.out)
                  have HQB2 := HDM.out.queue
                  have HQB := Lib.hid HQB2
                  have hmsz := HDM.out.size
                  clear hst hmp ho1 ho2 ho3 hsz hkm hbd hsd hlk HQB2
                  refine wp_region_still_tail 6 (by kernel_rfl) (by kernel_rfl) ?_
                  change wpStill _ _ wh.drew _ _ _
                  rw [hwd]
                  have HWD := Lib.hid hwd
                  clear hwd
                  simp only [List.take_succ_cons, List.take_zero, List.drop_succ_cons, List.drop_zero]
                  repeat still_step
                  try refine wpStill_nil ?_
                  change wpList _ _ _ _ _ wh.drew
                  rw [HWD.out]
                  have hql2 : ((s'.2.drop (p + 1)).map (·.1)).length ≤ 1000 := by
                    have := hoc.out.1.len
                    rw [List.length_map, List.length_drop]; omega
                  have HQL2 := Lib.hid hql2
                  clear hql2 hh0d hh1d hn0d hn1d hlx hn0 hn1 hh0 hh1
                  go_wp2_with fail
                  rw [hst2]
                  clear hst2
                  go_wp2_with (at_builtin; refine wpList_qpush (wr := wm) rfl _ _ rfl HQB.out u 1 rfl rfl rfl (by have := HQL2.out; omega) (by omega) ?_; intro v' w4 P)
                  have D5 := HDM.out.pushed P
                  have hb5 : w4.heap[bn]? = some (.cells #[.int .i64 xv, .int .i64 xt] 88 (0, 0)) := (P.block _ (by have := HSZM.out; omega) hqb.out).trans HBXM.out
                  have hq5 : v'.ownBlock ≠ some bn := by
                    rcases P.at_ with h | ⟨g', h, hg⟩
                    · rw [h]; exact hqb.out
                    · rw [h]; intro e; cases e; have := HSZM.out; omega
                  refine ⟨⟨j + 1, relax xt xd s' u, v', rfl, by go_num, by omega, hrx2, Lib.hid (by rw [HRK.out, drop_snoc _ _ _ hpl]; exact D5), Lib.hid hq5, Lib.hid hb5, Lib.hid (hoc.out.relax hu)⟩, ?_⟩
                  simp only [intOf]; omega
            · have hE : Hid (s' = relaxs xt xd s us) := Lib.hid (by rw [← hrx.out, List.drop_eq_nil_iff.2 (by rw [HM.out]; omega)]; rfl)
              clear hrx
              go_wp2_with fail
              go_roundg (gk - 1)
              case measure => omega
              case rel => exact ⟨p + 1, s', q, rfl, by omega, by rw [hE.out]; exact HBF, hds, Lib.hid ⟨hoc.out.1, hoc.out.2.1, fun u => by have := hoc.out.2.2.1 u; omega, by have := (List.getElem?_eq_some_iff.1 hoc.out.2.2.2).1; omega⟩⟩
        · have hpe : p = s.2.length := by have := hok.out.2.2.2; omega
          have hnil : s.2.drop p = [] := List.drop_eq_nil_iff.2 (by omega)
          have HE : Hid (s = bfs (revs G) (2 * v + 1) 0 (start G)) := Lib.hid (by
            rw [← hbf.out]
            cases gk with
            | zero => rfl
            | succ k => rw [bfs, List.getElem?_eq_none (by omega)])
          have hqq := hds.out.queue
          rw [hnil] at hqq
          obtain ⟨qp, qc, hqs⟩ := hqq.slice
          subst hqs
          clear hqq hnil hpe hbf
          go_wp2_with fail
          go_ret
          exact ⟨bm, rfl, by have := HB1.out.size; have := HGL.out; omega, by unfold dec; rw [HN.out, ← HE.out]; exact hds.out.map, by unfold dec; rw [HN.out, ← HE.out]; exact hok.out.1, HB1.out.trans (hds.out.below.mono (by have := HB1.out.size; have := HGL.out; omega))⟩
end Go.Proofs.Ytodnfchkkgoabaa
