/- Rows of the call's own, each in a block: put in order, each once. -/
import Derived.Test.YtodnfchkkgoabaaHWpMkRrSh
import Derived.Test.YtodnfchkkgoabaaHSf
import Derived.Test.YtodnfchkkgoabaaHArAz
import Derived.Test.YtodnfchkkgoabaaHGf
set_option linter.unusedVariables false
namespace Go.Proofs.Ytodnfchkkgoabaa
open Go.Shelf Go.RowKit Go.Lib Go.Sort

/-- As ARZ, each row in a block, and all blocks with a property. -/
def ARQ (Q : Nat → Prop) (w : World) (base : Nat) (v : Value) (F : List (List Int)) : Prop := (F = [] → v = .slice none 0 0) ∧ ∃ R : List Value, w.ownsRow base 22 1 v F.length R ∧ (∀ b, v.ownBlock = some b → Q b) ∧
  ∀ i, i < F.length → ∃ g c, R[i]? = some (.slice (some ⟨g, 0, none⟩) (F.getD i []).length c) ∧ NI w (some ⟨g, 0, none⟩) (F.getD i []) ∧ g < w.heap.size ∧ v.ownBlock ≠ some g ∧ (F.getD i []).length ≤ 1000 ∧ Q g
theorem ARQ.nil (Q : Nat → Prop) (w : World) (base : Nat) : ARQ Q w base (.slice none 0 0) [] := ⟨fun _ => rfl, [], ⟨rfl, .inl ⟨rfl, rfl⟩⟩, fun b e => by simp [Value.ownBlock] at e, fun i hi => by simp at hi⟩

theorem own_keepB {w w' : World} {base n : Nat} {t : TypeId} {v : Value} {R : List Value} (h : w.ownsRow base t 1 v n R) (hk : ∀ b, v.ownBlock = some b → b < w.heap.size → w'.heap[b]? = w.heap[b]?) : w'.ownsRow base t 1 v n R := by
  refine ⟨h.1, ?_⟩
  rcases h.2 with h1 | ⟨g, cap, cur, h1, h2, h3, h4⟩
  · exact .inl h1
  · refine .inr ⟨g, cap, cur, h1, h2, (hk g (by rw [h1]; rfl) ?_).trans h3, h4⟩
    exact (Array.getElem?_eq_some_iff.1 h3).1

theorem ARQ.imp {Q Q' : Nat → Prop} {w : World} {base : Nat} {v : Value} {F : List (List Int)} (h : ARQ Q w base v F) (hq : ∀ b, b < w.heap.size → Q b → Q' b) : ARQ Q' w base v F := by
  obtain ⟨h0, R, ho, hv, hr⟩ := h
  refine ⟨h0, R, ho, fun b e => hq b (own_lt ho b e) (hv b e), fun i hi => ?_⟩
  obtain ⟨g, c, e1, e2, e3, e4, e5, e6⟩ := hr i hi
  exact ⟨g, c, e1, e2, e3, e4, e5, hq g e3 e6⟩

theorem ARQ.keep {Q : Nat → Prop} {w w' : World} {base : Nat} {v : Value} {F : List (List Int)} (h : ARQ Q w base v F) (hs : w.heap.size ≤ w'.heap.size) (hk : ∀ b, b < w.heap.size → Q b → w'.heap[b]? = w.heap[b]?) : ARQ Q w' base v F := by
  obtain ⟨h0, R, ho, hv, hr⟩ := h
  refine ⟨h0, R, own_keepB ho (fun b e hb => hk b hb (hv b e)), hv, fun i hi => ?_⟩
  obtain ⟨g, c, e1, e2, e3, e4, e5, e6⟩ := hr i hi
  exact ⟨g, c, e1, e2.keepB (fun b e => by cases e; exact hk g e3 e6), by omega, e4, e5, e6⟩

theorem own_slice {w : World} {base n : Nat} {t : TypeId} {v : Value} {xs : List Value} (h : w.ownsRow base t 1 v n xs) : ∃ p c, v = .slice p n c := by
  rcases h.2 with ⟨h1, h2⟩ | ⟨g, cap, cur, h1, _⟩
  · have h3 := h.1
    rw [h2] at h3
    have : n = 0 := by simp at h3; omega
    exact ⟨none, 0, by rw [h1, this]⟩
  · exact ⟨_, _, h1⟩

/-- One row more. -/
theorem ARQ.push {Q : Nat → Prop} {wr wa w4 : World} {base g cap : Nat} {v : Value} {F : List (List Int)} {L : List Int} {b c : Nat} {R : List Value}
    (ho : wr.ownsRow base 22 1 v F.length R) (hv : ∀ b, v.ownBlock = some b → Q b) (hr : ∀ i, i < F.length → ∃ g c, R[i]? = some (.slice (some ⟨g, 0, none⟩) (F.getD i []).length c) ∧ NI wr (some ⟨g, 0, none⟩) (F.getD i []) ∧ g < wr.heap.size ∧ v.ownBlock ≠ some g ∧ (F.getD i []).length ≤ 1000 ∧ Q g)
    (hs : wr.heap.size ≤ wa.heap.size) (hk : ∀ b, b < wr.heap.size → wa.heap[b]? = wr.heap[b]?)
    (hn : NI wa (some ⟨b, 0, none⟩) L) (hp : wr.heap.size ≤ b ∧ b < wa.heap.size) (hL : L.length ≤ 1000) (hQ : ∀ b, wr.heap.size ≤ b → Q b)
    (h1 : w4.ownsRow base 22 1 (.slice (some ⟨g, 0, none⟩) (F.length + 1) cap) (F.length + 1) (R ++ [.slice (some ⟨b, 0, none⟩) L.length c])) (h2 : wa.grownBy w4 v.ownBlock) (h3 : v.ownBlock = some g ∨ g = wa.heap.size) :
    ARQ Q w4 base (.slice (some ⟨g, 0, none⟩) (F.length + 1) cap) (F ++ [L]) := by
  have hlenR : R.length = F.length := by have := ho.1; simpa using this
  have hown : ∀ b, v.ownBlock = some b → b < wr.heap.size := own_lt ho
  refine ⟨fun e => by simp at e, R ++ [.slice (some ⟨b, 0, none⟩) L.length c], by rw [List.length_append]; exact h1, fun b' e => ?_, fun i hi => ?_⟩
  · have e : some g = some b' := e
    cases e
    rcases h3 with h3 | h3
    · exact hv g h3
    · exact hQ g (by omega)
  rw [List.length_append] at hi
  by_cases hlt : i < F.length
  · obtain ⟨q, d, e1, e2, e3, e4, e5, e6⟩ := hr i hlt
    have hF : (F ++ [L]).getD i [] = F.getD i [] := by
      rw [List.getD_eq_getElem?_getD, List.getElem?_append_left hlt, ← List.getD_eq_getElem?_getD]
    rw [hF]
    refine ⟨q, d, by rw [List.getElem?_append_left (by omega)]; exact e1, e2.keepB (fun b' e => ?_), by have := h2.size; omega, ?_, e5, e6⟩
    · cases e
      rw [h2.block q (by omega) (fun h => e4 h.symm), hk q e3]
    · show some g ≠ some q
      intro h; cases h
      rcases h3 with h3 | h3
      · exact e4 h3
      · omega
  · obtain rfl : i = F.length := by simp at hi; omega
    have hF : (F ++ [L]).getD F.length [] = L := by
      rw [List.getD_eq_getElem?_getD, List.getElem?_append_right (Nat.le_refl _)]; simp
    rw [hF]
    refine ⟨b, c, by rw [List.getElem?_append_right (by omega), hlenR]; simp, hn.keepB (fun b' e => ?_), by have := h2.size; omega, ?_, hL, hQ b hp.1⟩
    · cases e
      exact h2.block b hp.2 (fun h => by have := hown b h.symm; omega)
    · show some g ≠ some b
      intro h; cases h
      rcases h3 with h3 | h3
      · have := hown _ h3; omega
      · omega

/-- What a slice is that owns at least one row. -/
theorem ARQ.form {Q : Nat → Prop} {w : World} {base : Nat} {v : Value} {F : List (List Int)} (h : ARQ Q w base v F) (h1 : 1 ≤ F.length) : ∃ blk cap, v = .slice (some ⟨blk, 0, none⟩) F.length cap ∧ base ≤ blk ∧ F.length ≤ cap ∧ cap ≤ 9223372036854775807 ∧ ∃ V, RowsV w blk F.length F V ∧ Blk w blk F.length V := by
  obtain ⟨_, R, ho, _, hr⟩ := h
  obtain ⟨blk, cap, e, hb, h3, h4⟩ : ∃ blk cap, v = .slice (some ⟨blk, 0, none⟩) F.length cap ∧ base ≤ blk ∧ F.length ≤ cap ∧ cap ≤ 9223372036854775807 := by
    rcases ho.2 with ⟨_, h2⟩ | ⟨g, cap, cur, e1, e2, _, h4, h5, _⟩
    · have := ho.1; rw [h2] at this; simp at this; omega
    · exact ⟨g, cap, e1, e2, h4, by unfold maxLen at h5; omega⟩
  subst e
  refine ⟨blk, cap, rfl, hb, h3, h4, fun i => R.getD i undef, fun j hj => ?_, Blk.of_own ho⟩
  obtain ⟨g, c, e1, e2, e3, e4, e5, _⟩ := hr j hj
  refine ⟨g, c, by show R.getD j undef = _; rw [List.getD_eq_getElem?_getD, e1]; rfl, e5, fun e => e4 (by rw [e]; rfl), fun i hi => ?_⟩
  obtain ⟨g', e, hc⟩ := e2 i hi
  cases e; exact hc

/-- Sorted: the rows that are kept are the rows placed. -/
def Srt (w : World) (blk n : Nat) (F : List (List Int)) : Prop := ∃ (G : List (List Int)) (V : Nat → Value), RowsV w blk n G V ∧ Blk w blk n V ∧ (kept G n).map (fun j => G.getD j []) = placed F

theorem sort_rows (F : List (List Int)) (V : Nat → Value) (blk n cap : Nat) (W : World) (hR : RowsV W blk n F V) (hB : Blk W blk n V) (hF : F.length = n) (h1 : 1 ≤ n) (hn : n ≤ 100000) :
    Calls Try.prog 66 #[.slice (some ⟨blk, 0, none⟩) n cap, .func (.func 67) #[] #[]] W fun e w' => e = .returned (.tuple #[]) ∧ Srt w' blk n F ∧ Ag W w' blk := by
  refine (Sort_any F V blk n cap W hR hB h1 hn).mono ?_
  rintro e w' ⟨he, σ, hl, hp, hs, hb, ha⟩
  refine ⟨he, ⟨σ.map fun i => F.getD i [], fun i => V (σ.getD i 0), fun j hj => ?_, hb, kept_placed F σ n hF hl hp hs⟩, ha⟩
  have hj' : σ.getD j 0 < n := by
    have : σ.getD j 0 ∈ List.range n := hp.subset (by
      rw [List.getD_eq_getElem?_getD, List.getElem?_eq_getElem (show j < σ.length by omega)]
      exact List.getElem_mem _)
    exact List.mem_range.1 this
  have hg : (σ.map fun i => F.getD i []).getD j [] = F.getD (σ.getD j 0) [] := by
    simp [List.getD_eq_getElem?_getD, List.getElem?_eq_getElem (show j < σ.length by omega)]
  obtain ⟨g, c, e1, e2, e3, e4⟩ := hR _ hj'
  rw [hg]
  refine ⟨g, c, e1, e2, e3, fun i hi => ?_⟩
  have := e4 i hi
  exact (World.cell?_of_block (w := W) (ha.block g e3 (cell_lt2 this))).trans this

theorem compact_rows (F : List (List Int)) (blk n cap : Nat) (W : World) (hS : Srt W blk n F) (h1 : 1 ≤ n) (hn : n ≤ 100000) (hcap : n ≤ cap) (hc9 : cap ≤ 9223372036854775807) :
    Calls Try.prog 68 #[.slice (some ⟨blk, 0, none⟩) n cap, .func (.func 69) #[] #[]] W fun e w' => ∃ v, e = .returned v ∧ Out w' v (placed F) ∧ Al W w' blk := by
  obtain ⟨G, V, hR, hB, hk⟩ := hS
  refine (Compact_any G V blk n cap W hR hB hn hcap hc9).mono ?_
  rintro e w' ⟨he, hb, ha⟩
  obtain ⟨K, hK⟩ : ∃ K, kept G n = K := ⟨_, rfl⟩
  rw [hK] at he hb hk
  have hKn : K.length ≤ n := by rw [← hK]; unfold kept; exact Nat.le_trans (List.length_filter_le _ _) (by simp)
  have hK1 : 1 ≤ K.length := by
    have : 0 ∈ K := by rw [← hK]; unfold kept; exact List.mem_filter.2 ⟨List.mem_range.2 h1, by simp [keeps]⟩
    exact List.length_pos_of_mem this
  have hKm : ∀ j, j < K.length → K.getD j 0 < n := fun j hj => by
    have : K.getD j 0 ∈ K := by rw [List.getD_eq_getElem?_getD, List.getElem?_eq_getElem hj]; exact List.getElem_mem _
    have h2 : K.getD j 0 ∈ kept G n := by rw [hK]; exact this
    unfold kept at h2
    exact List.mem_range.1 (List.mem_filter.1 h2).1
  have hpl : (placed F).length = K.length := by rw [← hk, List.length_map]
  have hpg : ∀ i, i < K.length → (placed F).getD i [] = G.getD (K.getD i 0) [] := fun i hi => by
    rw [← hk]; simp [List.getD_eq_getElem?_getD, List.getElem?_eq_getElem hi]
  refine ⟨_, he, .inr ⟨blk, cap, K.map V, by rw [hpl], by omega, by omega, hc9, hb.lt, by rw [List.length_map, hpl], fun j u hu => ?_, fun i hi => ?_⟩, ha⟩
  · have hj : j < K.length := by
      have := (List.getElem?_eq_some_iff.1 hu).1
      rwa [List.length_map] at this
    rw [hb.cell hj, ← hu, List.getElem?_map, List.getElem?_eq_getElem hj]
    simp [List.getD_eq_getElem?_getD, List.getElem?_eq_getElem hj]
  · rw [hpl] at hi
    rw [hpg i hi]
    obtain ⟨g, c, e1, e2, e3, e4⟩ := hR _ (hKm i hi)
    refine ⟨some ⟨g, 0, none⟩, c, ?_, fun k hk => ⟨g, rfl, ?_⟩⟩
    · rw [List.getElem?_map, List.getElem?_eq_getElem hi, Option.map_some, ← e1, List.getD_eq_getElem?_getD, List.getElem?_eq_getElem hi, Option.getD_some]
    · exact (World.cell?_of_block (w := W) (ha.block g e3)).trans (e4 k hk)

theorem sort_none (fv : Value) (W : World) : Calls Try.prog 66 #[.slice none 0 0, fv] W fun e w' => e = .returned (.tuple #[]) ∧ W = w' := by
  have h := AnyF.slices_SortFunc_none (P := Try.prog) (ρ := Try.laySort_ren) { Try.laySort with } none 0 fv W
  change Calls Try.prog 66 _ _ _ at h
  exact h.mono fun _ _ ⟨h1, h2⟩ => ⟨h1, h2.symm⟩

set_option maxRecDepth 100000 in
theorem compact_none (fv : Value) (W : World) : Calls Try.prog 68 #[.slice none 0 0, fv] W fun e w' => e = .returned (.slice none 0 0) ∧ W = w' := by
  go_enter Try.func68, Try.ntmps68
  go_wp2_with fail
  go_ret
  exact ⟨rfl, rfl⟩

theorem cell_put {Y : World} {r g j : Nat} {o : Obj} {u : Value} (hd : Y.heap[r]? = some (.deferred (some []))) (h : Y.cell? ⟨g, j, none⟩ = some u) : (Y.putObj r o).cell? ⟨g, j, none⟩ = some u := by
  by_cases e : g = r
  · subst e; simp [World.cell?, hd] at h
  · exact (World.cell?_of_block (w := Y) (World.putObj_heap_other (by omega))).trans h

theorem below_put {B : Nat} {X Y : World} (h : Below B X Y) (r : Nat) (o : Obj) (hr : B ≤ r) : Below B X (Y.putObj r o) :=
  h.trans ⟨rfl, rfl, rfl, by simp, fun b hb => World.putObj_heap_other (by omega)⟩

/-- A mark that is shut leaves the rows. -/
theorem Out.put {Y : World} {v : Value} {F : List (List Int)} {r : Nat} {o : Obj} (h : Out Y v F) (hd : Y.heap[r]? = some (.deferred (some []))) : Out (Y.putObj r o) v F := by
  rcases h with h | ⟨g, c, Rv, h1, h0, h2, h3, h4, h5, h6, h7⟩
  · exact .inl h
  · refine .inr ⟨g, c, Rv, h1, h0, h2, h3, by simpa using h4, h5, fun j u hu => cell_put hd (h6 j u hu), fun i hi => ?_⟩
    obtain ⟨p, d, e1, e2⟩ := h7 i hi
    refine ⟨p, d, e1, fun k hk => ?_⟩
    obtain ⟨g', e, hc⟩ := e2 k hk
    exact ⟨g', e, cell_put hd hc⟩

theorem winL_len (ds H : List Nat) (n : Nat) (hn : n ≤ 10) (l8 : ds.length ≤ 8) (hb : ∀ h ∈ H, h ≤ 200) : (winL ds H n).length ≤ 100000 := by
  have hP : ∀ i, (winP ds H i).length ≤ 1616 := fun i => by
    unfold winP
    rw [List.length_map]
    refine Nat.le_trans (List.length_filter_le _ _) ?_
    have h1 : H.getD i 0 ≤ 200 := by
      rw [List.getD_eq_getElem?_getD]
      by_cases hi : i < H.length
      · rw [List.getElem?_eq_getElem hi]; exact hb _ (List.getElem_mem _)
      · rw [List.getElem?_eq_none (by omega)]; simp
    have h2 := mvs_len (H.getD i 0) ds 0
    have h3 : ds.length * (H.getD i 0 + 2) ≤ 8 * 202 := Nat.mul_le_mul l8 (by omega)
    omega
  have : ∀ i, (winL ds H i).length ≤ 1616 * i := fun i => by
    induction i with
    | zero => exact Nat.le_refl _
    | succ i ih =>
      have e : winL ds H (i + 1) = winL ds H i ++ winP ds H i := by
        unfold winL; rw [List.range_succ, List.flatMap_append]; simp
      rw [e, List.length_append]
      have := hP i
      omega
  have := this n
  omega

theorem xorl_gx (ds : List Nat) : ∀ H : List Nat, (∀ h ∈ H, h ≤ 200) → xorl (vals ds 201) H = gx ds (ints H) := by
  intro H hH
  unfold xorl gx ints
  suffices ∀ (H : List Nat) (s : Nat), (∀ h ∈ H, h ≤ 200) → H.foldl (fun s h => s ^^^ (vals ds 201).getD h 0) s = (H.map fun n : Nat => (n : Int)).foldl (fun s h => s ^^^ gv ds h.toNat) s from this H 0 hH
  intro H
  induction H with
  | nil => intro s _; rfl
  | cons a H ih =>
    intro s h
    rw [List.map_cons, List.foldl_cons, List.foldl_cons, Int.toNat_natCast, vals_getD ds 201 a (by have := h a (by simp); omega)]
    exact ih _ fun x hx => h x (by simp [hx])

/-- The positions of the first k moves of the i-th heap. -/
def winK (ds H : List Nat) (i k : Nat) : List (List Int) := (((mvs (H.getD i 0) 0 ds).take k).filter fun x => decide (gv ds x.1 ^^^ gv ds x.2 = gx ds (ints H) ^^^ gv ds (H.getD i 0))).map (rowAt H i)

theorem winK_len (ds H : List Nat) (i k : Nat) (l8 : ds.length ≤ 8) (hb : ∀ h ∈ H, h ≤ 200) : (winK ds H i k).length ≤ 100000 := by
  unfold winK
  rw [List.length_map]
  refine Nat.le_trans (List.length_filter_le _ _) ?_
  rw [List.length_take]
  have h1 : H.getD i 0 ≤ 200 := by
    rw [List.getD_eq_getElem?_getD]
    by_cases hi : i < H.length
    · rw [List.getElem?_eq_getElem hi]; exact hb _ (List.getElem_mem _)
    · rw [List.getElem?_eq_none (by omega)]; simp
  have h2 := mvs_len (H.getD i 0) ds 0
  have h3 : ds.length * (H.getD i 0 + 2) ≤ 8 * 202 := Nat.mul_le_mul l8 (by omega)
  omega

theorem winK_succ (ds H : List Nat) (i k p q o : Nat) (hk : k < (mvs (H.getD i 0) 0 ds).length) (hx : (mvs (H.getD i 0) 0 ds).getD k (0, 0) = (p, q)) (ho : gx ds (ints H) ^^^ gv ds (H.getD i 0) = o) :
    winK ds H i (k + 1) = winK ds H i k ++ (if gv ds p ^^^ gv ds q = o then [rowAt H i (p, q)] else []) := by
  unfold winK
  have e : (mvs (H.getD i 0) 0 ds)[k] = (p, q) := by
    rw [List.getD_eq_getElem?_getD, List.getElem?_eq_getElem hk] at hx; exact hx
  rw [List.take_succ_eq_append_getElem hk, List.filter_append, List.map_append, e, ho]
  by_cases h : gv ds p ^^^ gv ds q = o <;> simp [h]

theorem xorl_pq (ds : List Nat) (p q : Nat) (hp : p ≤ 200) (hq : q ≤ 200) : xorl (vals ds 201) [p, q] = gv ds p ^^^ gv ds q := by
  rw [xorl_two, vals_getD ds 201 p (by omega), vals_getD ds 201 q (by omega)]

theorem rowAt_len (H : List Nat) (i : Nat) (x : Nat × Nat) (hl : H.length ≤ 10) : (rowAt H i x).length ≤ 1000 := by
  unfold rowAt
  refine Nat.le_trans (ord_len _) ?_
  simp [ints]
  omega
end Go.Proofs.Ytodnfchkkgoabaa
