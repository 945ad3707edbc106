/- WALKS of the reference's fractions: Ratio; Of. -/
import Derived.Test.YtamhlkjfpdkhoaaGreatDoorQ24
set_option linter.unusedVariables false
namespace Go.Proofs.YtamhlkjfpdkhoaaGreatDoor
open Go.RowKit

theorem res_q {fn : Func} {p : Tmp} (h : fn.results = #[.cell p 48]) (tmps : Array Value) (w : World) (g : Nat) (x y z u : Value) (t : TypeId)
    (hp : tmps.getD p undef = .pointer (some ⟨g, 0, none⟩)) (hg : w.heap[g]? = some (.cells #[x, y, z, u] t (0, 0))) :
    (results fn tmps).run Tryz.prog w = .ok (.agg #[x, y, z, u]) w :=
  results_cell_row h tmps w g t #[x, y, z, u] (0, 0) _ hp hg Tryz.underlying48 rfl (by kernel_rfl)

/-- The value is the reference's fraction with this sign, numerator and denominator, of K limbs at most. -/
def RQ (w : World) (v : Value) (s : Bool) (n d K : Nat) : Prop := ∃ x y, v = .agg #[.bool s, x, .bool false, y] ∧ NN w x n K ∧ NN w y d K

theorem cells4 {w : World} {g : Nat} {x y z u : Value} {t : TypeId} (h : w.heap[g]? = some (.cells #[x, y, z, u] t (0, 0))) :
    (w.cell? ⟨g, 0, none⟩ = some x ∧ w.cell? ⟨g, 1, none⟩ = some y ∧ w.cell? ⟨g, 2, none⟩ = some z ∧ w.cell? ⟨g, 3, none⟩ = some u) ∧ w.frozen? ⟨g, 0, none⟩ = false ∧ w.frozen? ⟨g, 1, none⟩ = false ∧ w.frozen? ⟨g, 2, none⟩ = false ∧ w.frozen? ⟨g, 3, none⟩ = false := by
  simp [World.cell?, World.frozen?, h]

theorem row_old {X : World} {g : Nat} {o o' : Obj} (h : X.heap[g]? = some o) : (X.alloc o').heap[g]? = some o := by
  rw [heap_alloc_old _ _ (lt_of_row h), h]

theorem row_at {V : World} {g : Nat} {o : Obj} (h : g = V.heap.size) : (V.alloc o).heap[g]? = some o := by subst h; exact heap_alloc_new _ _

theorem NN.alloc {w : World} {v : Value} {n k : Nat} {o : Obj} (h : NN w v n k) : NN (w.alloc o) v n k := h.below ((Below.refl _ _).alloc (Nat.le_refl _) _)

theorem set4 {w : World} {g : Nat} {x y z u : Value} {t : TypeId} (h : w.heap[g]? = some (.cells #[x, y, z, u] t (0, 0))) (a b c d : Value) :
    ((((w.setCell ⟨g, 0, none⟩ a).setCell ⟨g, 1, none⟩ b).setCell ⟨g, 2, none⟩ c).setCell ⟨g, 3, none⟩ d).heap[g]? = some (.cells #[a, b, c, d] t (0, 0)) := by
  simp only [World.setCell, Array.getElem?_modify, h, if_true, Option.map_some]
  rfl

theorem Below.set4 {B g : Nat} {a w : World} (h : Below B a w) (hp : B ≤ g) (x y z u : Value) : Below B a ((((w.setCell ⟨g, 0, none⟩ x).setCell ⟨g, 1, none⟩ y).setCell ⟨g, 2, none⟩ z).setCell ⟨g, 3, none⟩ u) :=
  (Below.set3 h hp x y z).setCell (p := ⟨g, 3, none⟩) hp _

theorem Lay.set4 {w W : World} {rows : List (Array Value × TypeId)} (h : Lay w rows W) (i g : Nat) (hg : g = w.heap.size + i) {x y z u : Value} {t : TypeId} (hr : rows[i]? = some (#[x, y, z, u], t)) (a b c d : Value) :
    Lay w (rows.set i (#[a, b, c, d], t)) ((((W.setCell ⟨g, 0, none⟩ a).setCell ⟨g, 1, none⟩ b).setCell ⟨g, 2, none⟩ c).setCell ⟨g, 3, none⟩ d) := by
  subst hg
  exact h.upon i _ _ (Go.Proofs.YtamhlkjfpdkhoaaGreatDoor.set4 (h.1 i _ _ hr) a b c d) (Below.set4 h.2 (by omega) _ _ _ _) fun k hk => by
    rw [Below.heap_setCell _ _ _ _ hk, Below.heap_setCell _ _ _ _ hk, Below.heap_setCell _ _ _ _ hk, Below.heap_setCell _ _ _ _ hk]

theorem Lay.away {w W : World} {rows : List (Array Value × TypeId)} (h : Lay w rows W) (g : Nat) (hg : w.heap.size + rows.length ≤ g) (x y : Value) : Lay w rows ((W.setCell ⟨g, 0, none⟩ x).setCell ⟨g, 1, none⟩ y) := by
  refine ⟨fun i c t hi => ?_, Below.set2 h.2 (by omega) _ _⟩
  have hl := (List.getElem?_eq_some_iff.1 hi).1
  rw [Below.heap_setCell _ _ _ _ (by simp; omega), Below.heap_setCell _ _ _ _ (by simp; omega)]
  exact h.1 i c t hi

theorem bel_da {B : Nat} {a Y : World} {o : Obj} (h : Below B a Y.drew) (hB : B ≤ Y.heap.size) : Below B a (Y.alloc o).drew := h.alloc hB o

theorem row_oneD {V u : World} {o : Array Value} {t : TypeId} (hl : Below (V.alloc (.cells o t)).drew.heap.size (V.alloc (.cells o t)).drew u) : u.heap[V.heap.size]? = some (.cells o t (0, 0)) :=
  Below.row hl (by show _ < (V.alloc _).heap.size; rw [size_alloc]; omega) (heap_alloc_new V _)

theorem row_twoD {V u : World} {o o' : Array Value} {t t' : TypeId} (hl : Below ((V.alloc (.cells o t)).alloc (.cells o' t')).drew.heap.size ((V.alloc (.cells o t)).alloc (.cells o' t')).drew u) : u.heap[V.heap.size]? = some (.cells o t (0, 0)) ∧ u.heap[V.heap.size + 1]? = some (.cells o' t' (0, 0)) := by
  have h2 := heap_alloc_new (V.alloc (.cells o t)) (.cells o' t')
  rw [size_alloc] at h2
  exact ⟨Below.row hl (by show _ < ((V.alloc _).alloc _).heap.size; rw [size_alloc, size_alloc]; omega) (row_old (heap_alloc_new V _)), Below.row hl (by show _ < ((V.alloc _).alloc _).heap.size; rw [size_alloc, size_alloc]; omega) h2⟩

theorem World.size_drew' (w : World) : w.drew.heap.size = w.heap.size := rfl

theorem bel_step {a X u : World} (hl : Below X.heap.size X u) (hX : Below a.heap.size a X) : Below a.heap.size a u := hX.trans (hl.mono hX.size)

theorem row_one {V u : World} {o : Array Value} {t : TypeId} (hl : Below (V.alloc (.cells o t)).heap.size (V.alloc (.cells o t)) u) : u.heap[V.heap.size]? = some (.cells o t (0, 0)) :=
  Below.row hl (by rw [size_alloc]; omega) (heap_alloc_new _ _)

theorem row_two {V u : World} {o o' : Array Value} {t t' : TypeId} (hl : Below ((V.alloc (.cells o t)).alloc (.cells o' t')).heap.size ((V.alloc (.cells o t)).alloc (.cells o' t')) u) : u.heap[V.heap.size]? = some (.cells o t (0, 0)) ∧ u.heap[V.heap.size + 1]? = some (.cells o' t' (0, 0)) := by
  have h2 := heap_alloc_new (V.alloc (.cells o t)) (.cells o' t')
  rw [size_alloc] at h2
  exact ⟨Below.row hl (by rw [size_alloc, size_alloc]; omega) (by rw [heap_alloc_old _ _ (by rw [size_alloc]; omega)]; exact heap_alloc_new _ _), Below.row hl (by rw [size_alloc, size_alloc]; omega) h2⟩

theorem keep_row {u X u' : World} {g : Nat} {o : Obj} (hl : Below X.heap.size X u') (h : u.heap[g]? = some o) (hX : Below u.heap.size u X) : u'.heap[g]? = some o :=
  Below.row (bel_step hl hX) (lt_of_row h) h

theorem row_far2 {X : World} {g k : Nat} {o : Obj} (h : X.heap[g]? = some o) (hne : g ≠ k) (p q : Value) : ((X.setCell ⟨k, 0, none⟩ p).setCell ⟨k, 1, none⟩ q).heap[g]? = some o := by
  rw [Below.heap_setCell _ _ _ _ (by simpa using hne), Below.heap_setCell _ _ _ _ (by simpa using hne), h]

theorem st_gen {u : World} {gA gB : Nat} {t t' : TypeId} {a b c d : Value} (hA : u.heap[gA]? = some (.cells #[a, b] t (0, 0))) (hB : u.heap[gB]? = some (.cells #[c, d] t' (0, 0))) (hne : gA ≠ gB) :
    (∀ x y, ((u.setCell ⟨gA, 0, none⟩ x).setCell ⟨gA, 1, none⟩ y).cell? ⟨gB, 0, none⟩ = some c ∧ ((u.setCell ⟨gA, 0, none⟩ x).setCell ⟨gA, 1, none⟩ y).cell? ⟨gB, 1, none⟩ = some d ∧ ((u.setCell ⟨gA, 0, none⟩ x).setCell ⟨gA, 1, none⟩ y).frozen? ⟨gB, 0, none⟩ = false ∧ ((u.setCell ⟨gA, 0, none⟩ x).setCell ⟨gA, 1, none⟩ y).frozen? ⟨gB, 1, none⟩ = false) ∧
    (∀ x y, ((u.setCell ⟨gB, 0, none⟩ x).setCell ⟨gB, 1, none⟩ y).cell? ⟨gA, 0, none⟩ = some a ∧ ((u.setCell ⟨gB, 0, none⟩ x).setCell ⟨gB, 1, none⟩ y).cell? ⟨gA, 1, none⟩ = some b ∧ ((u.setCell ⟨gB, 0, none⟩ x).setCell ⟨gB, 1, none⟩ y).frozen? ⟨gA, 0, none⟩ = false ∧ ((u.setCell ⟨gB, 0, none⟩ x).setCell ⟨gB, 1, none⟩ y).frozen? ⟨gA, 1, none⟩ = false) :=
  ⟨fun x y => cells2 (row_far2 hB (Ne.symm hne) x y), fun x y => cells2 (row_far2 hA hne x y)⟩

/-- What a store in a row of two finds, behind other stores. -/
theorem st_both {u : World} {gA gB : Nat} {t t' : TypeId} (hA : u.heap[gA]? = some (.cells #[.bool false, .slice none 0 0] t (0, 0))) (hB : u.heap[gB]? = some (.cells #[.bool false, .slice none 0 0] t' (0, 0))) (hne : gA ≠ gB) :
    (∀ x y, ((u.setCell ⟨gA, 0, none⟩ x).setCell ⟨gA, 1, none⟩ y).cell? ⟨gB, 0, none⟩ = some (.bool false) ∧ ((u.setCell ⟨gA, 0, none⟩ x).setCell ⟨gA, 1, none⟩ y).cell? ⟨gB, 1, none⟩ = some (.slice none 0 0) ∧ ((u.setCell ⟨gA, 0, none⟩ x).setCell ⟨gA, 1, none⟩ y).frozen? ⟨gB, 0, none⟩ = false ∧ ((u.setCell ⟨gA, 0, none⟩ x).setCell ⟨gA, 1, none⟩ y).frozen? ⟨gB, 1, none⟩ = false) ∧
    (∀ x y, ((u.setCell ⟨gB, 0, none⟩ x).setCell ⟨gB, 1, none⟩ y).cell? ⟨gA, 0, none⟩ = some (.bool false) ∧ ((u.setCell ⟨gB, 0, none⟩ x).setCell ⟨gB, 1, none⟩ y).cell? ⟨gA, 1, none⟩ = some (.slice none 0 0) ∧ ((u.setCell ⟨gB, 0, none⟩ x).setCell ⟨gB, 1, none⟩ y).frozen? ⟨gA, 0, none⟩ = false ∧ ((u.setCell ⟨gB, 0, none⟩ x).setCell ⟨gB, 1, none⟩ y).frozen? ⟨gA, 1, none⟩ = false) := by
  refine ⟨fun x y => ?_, fun x y => ?_⟩
  · have h := row_far2 hB (Ne.symm hne) x y
    exact cells2 h
  · have h := row_far2 hA hne x y
    exact cells2 h

theorem st_one {u : World} {gA : Nat} {t : TypeId} (hA : u.heap[gA]? = some (.cells #[.bool false, .slice none 0 0] t (0, 0))) :
    (∀ r t', (u.alloc (.cells r t')).cell? ⟨gA, 0, none⟩ = some (.bool false) ∧ (u.alloc (.cells r t')).cell? ⟨gA, 1, none⟩ = some (.slice none 0 0) ∧ (u.alloc (.cells r t')).frozen? ⟨gA, 0, none⟩ = false ∧ (u.alloc (.cells r t')).frozen? ⟨gA, 1, none⟩ = false) ∧
    (∀ t' x y, (((u.alloc (.cells #[.bool false, .slice none 0 0] t')).setCell ⟨gA, 0, none⟩ x).setCell ⟨gA, 1, none⟩ y).cell? ⟨u.heap.size, 0, none⟩ = some (.bool false) ∧ (((u.alloc (.cells #[.bool false, .slice none 0 0] t')).setCell ⟨gA, 0, none⟩ x).setCell ⟨gA, 1, none⟩ y).cell? ⟨u.heap.size, 1, none⟩ = some (.slice none 0 0) ∧ (((u.alloc (.cells #[.bool false, .slice none 0 0] t')).setCell ⟨gA, 0, none⟩ x).setCell ⟨gA, 1, none⟩ y).frozen? ⟨u.heap.size, 0, none⟩ = false ∧ (((u.alloc (.cells #[.bool false, .slice none 0 0] t')).setCell ⟨gA, 0, none⟩ x).setCell ⟨gA, 1, none⟩ y).frozen? ⟨u.heap.size, 1, none⟩ = false) := by
  refine ⟨fun r t' => cells2 (row_old hA), fun t' x y => ?_⟩
  exact cells2 (row_far2 (heap_alloc_new u _) (by have := lt_of_row hA; omega) x y)

theorem st_two (u : World) :
    (∀ r t t', ((u.alloc (.cells #[.bool false, .slice none 0 0] t)).alloc (.cells r t')).cell? ⟨u.heap.size, 0, none⟩ = some (.bool false) ∧ ((u.alloc (.cells #[.bool false, .slice none 0 0] t)).alloc (.cells r t')).cell? ⟨u.heap.size, 1, none⟩ = some (.slice none 0 0) ∧ ((u.alloc (.cells #[.bool false, .slice none 0 0] t)).alloc (.cells r t')).frozen? ⟨u.heap.size, 0, none⟩ = false ∧ ((u.alloc (.cells #[.bool false, .slice none 0 0] t)).alloc (.cells r t')).frozen? ⟨u.heap.size, 1, none⟩ = false) ∧
    (∀ t t' x y, ((((u.alloc (.cells #[.bool false, .slice none 0 0] t)).alloc (.cells #[.bool false, .slice none 0 0] t')).setCell ⟨u.heap.size, 0, none⟩ x).setCell ⟨u.heap.size, 1, none⟩ y).cell? ⟨u.heap.size + 1, 0, none⟩ = some (.bool false) ∧ ((((u.alloc (.cells #[.bool false, .slice none 0 0] t)).alloc (.cells #[.bool false, .slice none 0 0] t')).setCell ⟨u.heap.size, 0, none⟩ x).setCell ⟨u.heap.size, 1, none⟩ y).cell? ⟨u.heap.size + 1, 1, none⟩ = some (.slice none 0 0) ∧ ((((u.alloc (.cells #[.bool false, .slice none 0 0] t)).alloc (.cells #[.bool false, .slice none 0 0] t')).setCell ⟨u.heap.size, 0, none⟩ x).setCell ⟨u.heap.size, 1, none⟩ y).frozen? ⟨u.heap.size + 1, 0, none⟩ = false ∧ ((((u.alloc (.cells #[.bool false, .slice none 0 0] t)).alloc (.cells #[.bool false, .slice none 0 0] t')).setCell ⟨u.heap.size, 0, none⟩ x).setCell ⟨u.heap.size, 1, none⟩ y).frozen? ⟨u.heap.size + 1, 1, none⟩ = false) := by
  refine ⟨fun r t t' => cells2 (row_old (heap_alloc_new u _)), fun t t' x y => ?_⟩
  have h := heap_alloc_new (u.alloc (.cells #[.bool false, .slice none 0 0] t)) (.cells #[.bool false, .slice none 0 0] t')
  rw [size_alloc] at h
  exact cells2 (row_far2 h (by omega) x y)

theorem sOfY {w Y W : World} {x y x' y' z z' : Value} {t t' t'' : TypeId} {rest : List (Array Value × TypeId)} {gb : Nat} (hL : Lay w ((#[x, y], t) :: (#[x', y'], t') :: rest) Y) (hG : Y.heap[gb]? = some (.cells #[z, z'] t'' (0, 0))) (h : Below Y.heap.size Y W) :
    (W.cell? ⟨w.heap.size, 0, none⟩ = some x ∧ W.cell? ⟨w.heap.size, 1, none⟩ = some y ∧ W.cell? ⟨w.heap.size + 1, 0, none⟩ = some x' ∧ W.cell? ⟨w.heap.size + 1, 1, none⟩ = some y' ∧ W.cell? ⟨gb, 0, none⟩ = some z ∧ W.cell? ⟨gb, 1, none⟩ = some z') ∧ Hid (Below Y.heap.size Y W) := by
  have h1 := (hL.step h).row 0 w.heap.size rfl rfl
  have h2 := (hL.step h).row 1 (w.heap.size + 1) rfl rfl
  have h3 := Below.row h (lt_of_row hG) hG
  exact ⟨⟨(cells2 h1).1, (cells2 h1).2.1, (cells2 h2).1, (cells2 h2).2.1, (cells2 h3).1, (cells2 h3).2.1⟩, Lib.hid h⟩

set_option maxRecDepth 100000 in
set_option maxHeartbeats 16000000 in
theorem Ratio_ref (u v : Value) (s s' : Bool) (n n' g a b K : Nat) (w : World) (hu : RS w u s n K) (hv : RS w v s' n' K) (hn' : 0 < n') (hg : Nat.gcd n n' = g) (ha : n / g = a) (hb : n' / g = b) (hK : K ≤ 268435456) :
    Calls Tryz.prog 40 #[u, v] w fun e w' => ∃ r, e = .returned r ∧ RQ w' r ((s != s') && decide (0 < a)) a b K ∧ Below w.heap.size w w' := by
  have hg0 : 0 < g := by rw [← hg]; exact Nat.gcd_pos_of_pos_right _ hn'
  have hb0 : 0 < b := by rw [← hb]; exact Nat.div_pos (by rw [← hg]; exact Nat.gcd_le_right _ hn') hg0
  have GD := fun W (h : Below w.heap.size w W) => Gcd_z u v s s' n n' g K W (hu.below h) (hv.below h) hg hK
  have Q1 := fun W z (h : Below w.heap.size w W) (hz : RS W z false g K) => Quo_ref u z s false n g a K W (hu.below h) hz ha hg0 hK
  have Q2 := fun W z (h : Below w.heap.size w W) (hz : RS W z false g K) => Quo_ref v z s' false n' g b K W (hv.below h) hz hb hg0 hK
  obtain ⟨sa, hsa⟩ : ∃ x, (s != false && decide (0 < a)) = x := ⟨_, rfl⟩
  obtain ⟨sb, hsb⟩ : ∃ x, (s' != false && decide (0 < b)) = x := ⟨_, rfl⟩
  simp only [hsa] at Q1
  simp only [hsb] at Q2
  have HSA := Lib.hid hsa
  have HSB := Lib.hid hsb
  clear hsa hsb
  obtain ⟨du, rfl, hu⟩ := hu
  obtain ⟨dv, rfl, hv⟩ := hv
  obtain ⟨up, ul, uc, rfl⟩ := hu.slice
  obtain ⟨vp, vl, vc, rfl⟩ := hv.slice
  replace GD := Lib.hid GD
  replace Q1 := Lib.hid Q1
  replace Q2 := Lib.hid Q2
  have L0 := Lib.hid ((((LayX.nil w).push #[.bool s, .slice up ul uc] 25).push #[.bool s', .slice vp vl vc] 25).push #[.bool false, .slice none 0 0, .bool false, .slice none 0 0] 48)
  clear hu hv hg ha hb hn'
  go_enter Tryz.func40, Tryz.ntmps40
  go_wp2_with fail
  refine (GD.out _ L0.out.1.2).mono ?_
  rintro _ w1 ⟨gv, rfl, ⟨gs, rfl, hgs⟩, hb1⟩
  obtain ⟨gp, gl, gc, rfl⟩ := hgs.slice
  have L1 : Hid (Lay w [(#[.bool s, .slice up ul uc], 25), (#[.bool s', .slice vp vl vc], 25), (#[.bool false, .slice none 0 0, .bool false, .slice none 0 0], 48)] w1) := Lib.hid (L0.out.1.step hb1)
  have RG : Hid ((w1.alloc (.cells #[.bool false, .slice gp gl gc] 25)).drew.heap[w1.heap.size]? = some (.cells #[.bool false, .slice gp gl gc] 25 (0, 0))) := Lib.hid (heap_alloc_new w1 _)
  have HG := Lib.hid (hgs.below (((Below.refl w1.heap.size w1).alloc (Nat.le_refl _) (.cells #[.bool false, .slice gp gl gc] 25)).drew))
  have L2 := Lib.hid ((L1.out.step ((Below.refl w1.heap.size w1).alloc (Nat.le_refl _) (.cells #[.bool false, .slice gp gl gc] 25))).drew)
  have HS1 := Lib.hid (lt_of_row (L1.out.row 2 _ rfl rfl))
  have HS2 : Hid (w1.heap.size < (w1.alloc (.cells #[.bool false, .slice gp gl gc] 25)).drew.heap.size) := Lib.hid (lt_of_row RG.out)
  clear hgs hb1 L0 L1 GD
  go_wp2_with fail
  go_cut [6, 7] from 8 (fun s6 s7 W => ∃ g1 g2 xp xl xc yp yl yc, s6 = .pointer (some ⟨g1, 0, none⟩) ∧ s7 = .pointer (some ⟨g2, 0, none⟩) ∧ (g1 ≠ g2 ∧ w.heap.size + 3 ≤ g1 ∧ w.heap.size + 3 ≤ g2) ∧ Hid (Lay w [(#[.bool s, .slice up ul uc], 25), (#[.bool s', .slice vp vl vc], 25), (#[.bool false, .slice none 0 0, .bool false, .slice none 0 0], 48)] W) ∧ Hid (W.heap[g1]? = some (.cells #[.bool sa, .slice xp xl xc] 25 (0, 0))) ∧ Hid (W.heap[g2]? = some (.cells #[.bool sb, .slice yp yl yc] 25 (0, 0))) ∧ Hid (NN W (.slice xp xl xc) a K) ∧ Hid (NN W (.slice yp yl yc) b K))
  case first =>
    generalize w1.alloc (.cells #[.bool false, .slice gp gl gc] 25) = Y0 at *
    generalize w1.heap.size = gb at *
    go_region_held3 (fun W => (W.cell? ⟨w.heap.size, 0, none⟩ = some (.bool s) ∧ W.cell? ⟨w.heap.size, 1, none⟩ = some (.slice up ul uc) ∧ W.cell? ⟨w.heap.size + 1, 0, none⟩ = some (.bool s') ∧ W.cell? ⟨w.heap.size + 1, 1, none⟩ = some (.slice vp vl vc) ∧ W.cell? ⟨gb, 0, none⟩ = some (.bool false) ∧ W.cell? ⟨gb, 1, none⟩ = some (.slice gp gl gc)) ∧ Hid (Below Y0.drew.heap.size Y0.drew W)) (first | exact sOfY L2.out RG.out (by repeat' (first | with_reducible exact B2.out | with_reducible exact B1.out | with_reducible exact Below.refl _ _ | (with_reducible refine Below.setCell ?_ ?_ _) | (with_reducible refine bel_da ?_ ?_) | (with_reducible refine Below.alloc ?_ ?_ _) | ((try simp only [size_alloc, size_setCell, block_off, World.size_drew']); (try have z0 : Y0.heap.size ≤ u1.heap.size := B1.out.size); (try have z1 : Y0.heap.size ≤ u2.heap.size := B2.out.size); (try have z2 := HS1.out); (try have z3 : gb < Y0.heap.size := HS2.out); (try have z4 := lt_of_row RA.out); (try have z5 := lt_of_row RB.out); omega)))) (first
      | (go_at_call_of 106 (Value.slice up ul uc); refine (Q1.out _ _ ?_ ?_).mono ?_; exact (L2.out.2.trans (Below.mono (by repeat' (first | with_reducible exact B2.out | with_reducible exact B1.out | with_reducible exact Below.refl _ _ | (with_reducible refine Below.setCell ?_ ?_ _) | (with_reducible refine bel_da ?_ ?_) | (with_reducible refine Below.alloc ?_ ?_ _) | ((try simp only [size_alloc, size_setCell, block_off, World.size_drew']); (try have z0 : Y0.heap.size ≤ u1.heap.size := B1.out.size); (try have z1 : Y0.heap.size ≤ u2.heap.size := B2.out.size); (try have z2 := HS1.out); (try have z3 : gb < Y0.heap.size := HS2.out); (try have z4 := lt_of_row RA.out); (try have z5 := lt_of_row RB.out); omega))) L2.out.2.size)); exact ⟨_, rfl, HG.out.below (by repeat' (first | with_reducible exact B2.out | with_reducible exact B1.out | with_reducible exact Below.refl _ _ | (with_reducible refine Below.setCell ?_ ?_ _) | (with_reducible refine bel_da ?_ ?_) | (with_reducible refine Below.alloc ?_ ?_ _) | ((try simp only [size_alloc, size_setCell, block_off, World.size_drew']); (try have z0 : Y0.heap.size ≤ u1.heap.size := B1.out.size); (try have z1 : Y0.heap.size ≤ u2.heap.size := B2.out.size); (try have z2 := HS1.out); (try have z3 : gb < Y0.heap.size := HS2.out); (try have z4 := lt_of_row RA.out); (try have z5 := lt_of_row RB.out); omega)))⟩; rintro e u1 ⟨r, rfl, ⟨d, rfl, hd⟩, hl⟩; obtain ⟨ap, al, ac, rfl⟩ := hd.slice; have B1 : Hid (Below Y0.drew.heap.size Y0.drew u1) := Lib.hid (bel_step hl (by repeat' (first | with_reducible exact B2.out | with_reducible exact B1.out | with_reducible exact Below.refl _ _ | (with_reducible refine Below.setCell ?_ ?_ _) | (with_reducible refine bel_da ?_ ?_) | (with_reducible refine Below.alloc ?_ ?_ _) | ((try simp only [size_alloc, size_setCell, block_off, World.size_drew']); (try have z0 : Y0.heap.size ≤ u1.heap.size := B1.out.size); (try have z1 : Y0.heap.size ≤ u2.heap.size := B2.out.size); (try have z2 := HS1.out); (try have z3 : gb < Y0.heap.size := HS2.out); (try have z4 := lt_of_row RA.out); (try have z5 := lt_of_row RB.out); omega)))); have HN1 := Lib.hid hd; (first | (have RA : Hid (u1.heap[Y0.heap.size]? = some (.cells #[.bool false, .slice none 0 0] 25 (0, 0))) := Lib.hid (row_twoD (V := Y0) hl).1; have RB : Hid (u1.heap[Y0.heap.size + 1]? = some (.cells #[.bool false, .slice none 0 0] 25 (0, 0))) := Lib.hid (row_twoD (V := Y0) hl).2; have HAB : Hid (Y0.heap.size ≠ Y0.heap.size + 1) := Lib.hid (by omega)) | (have RA : Hid (u1.heap[Y0.heap.size]? = some (.cells #[.bool false, .slice none 0 0] 25 (0, 0))) := Lib.hid (row_oneD (V := Y0) hl)) | skip); (try (have qa := cells2 RA.out; obtain ⟨a0, a1, a2, a3⟩ := qa)); (try (have qb := cells2 RB.out; obtain ⟨b0, b1, b2, b3⟩ := qb)); clear hd hl)
      | (go_at_call_of 106 (Value.slice vp vl vc); refine (Q2.out _ _ ?_ ?_).mono ?_; exact (L2.out.2.trans (Below.mono (by repeat' (first | with_reducible exact B2.out | with_reducible exact B1.out | with_reducible exact Below.refl _ _ | (with_reducible refine Below.setCell ?_ ?_ _) | (with_reducible refine bel_da ?_ ?_) | (with_reducible refine Below.alloc ?_ ?_ _) | ((try simp only [size_alloc, size_setCell, block_off, World.size_drew']); (try have z0 : Y0.heap.size ≤ u1.heap.size := B1.out.size); (try have z1 : Y0.heap.size ≤ u2.heap.size := B2.out.size); (try have z2 := HS1.out); (try have z3 : gb < Y0.heap.size := HS2.out); (try have z4 := lt_of_row RA.out); (try have z5 := lt_of_row RB.out); omega))) L2.out.2.size)); exact ⟨_, rfl, HG.out.below (by repeat' (first | with_reducible exact B2.out | with_reducible exact B1.out | with_reducible exact Below.refl _ _ | (with_reducible refine Below.setCell ?_ ?_ _) | (with_reducible refine bel_da ?_ ?_) | (with_reducible refine Below.alloc ?_ ?_ _) | ((try simp only [size_alloc, size_setCell, block_off, World.size_drew']); (try have z0 : Y0.heap.size ≤ u1.heap.size := B1.out.size); (try have z1 : Y0.heap.size ≤ u2.heap.size := B2.out.size); (try have z2 := HS1.out); (try have z3 : gb < Y0.heap.size := HS2.out); (try have z4 := lt_of_row RA.out); (try have z5 := lt_of_row RB.out); omega)))⟩; rintro e u2 ⟨r, rfl, ⟨d, rfl, hd⟩, hl⟩; obtain ⟨bp, bl, bc, rfl⟩ := hd.slice; have B2 : Hid (Below Y0.drew.heap.size Y0.drew u2) := Lib.hid (bel_step hl (by repeat' (first | with_reducible exact B2.out | with_reducible exact B1.out | with_reducible exact Below.refl _ _ | (with_reducible refine Below.setCell ?_ ?_ _) | (with_reducible refine bel_da ?_ ?_) | (with_reducible refine Below.alloc ?_ ?_ _) | ((try simp only [size_alloc, size_setCell, block_off, World.size_drew']); (try have z0 : Y0.heap.size ≤ u1.heap.size := B1.out.size); (try have z1 : Y0.heap.size ≤ u2.heap.size := B2.out.size); (try have z2 := HS1.out); (try have z3 : gb < Y0.heap.size := HS2.out); (try have z4 := lt_of_row RA.out); (try have z5 := lt_of_row RB.out); omega)))); replace HN1 := Lib.hid (HN1.out.below (bel_step hl (by repeat' (first | with_reducible exact Below.refl _ _ | (with_reducible refine Below.setCell ?_ ?_ _) | (with_reducible refine bel_da ?_ ?_) | (with_reducible refine Below.alloc ?_ ?_ _) | ((try simp only [size_alloc, size_setCell, block_off]); (try have z4 := lt_of_row RA.out); (try have z5 := lt_of_row RB.out); omega))))); have HN2 := Lib.hid hd; (try clear a0 a1 a2 a3); (try clear b0 b1 b2 b3); (first | (replace RA := Lib.hid (keep_row hl RA.out (by repeat' (first | with_reducible exact Below.refl _ _ | (with_reducible refine Below.setCell ?_ ?_ _) | (with_reducible refine bel_da ?_ ?_) | (with_reducible refine Below.alloc ?_ ?_ _) | ((try simp only [size_alloc, size_setCell, block_off]); (try have z4 := lt_of_row RA.out); (try have z5 := lt_of_row RB.out); omega)))); replace RB := Lib.hid (keep_row hl RB.out (by repeat' (first | with_reducible exact Below.refl _ _ | (with_reducible refine Below.setCell ?_ ?_ _) | (with_reducible refine bel_da ?_ ?_) | (with_reducible refine Below.alloc ?_ ?_ _) | ((try simp only [size_alloc, size_setCell, block_off]); (try have z4 := lt_of_row RA.out); (try have z5 := lt_of_row RB.out); omega))))) | (have HAB := Lib.hid (Nat.ne_of_lt (lt_of_row RA.out)); replace RA := Lib.hid (keep_row hl RA.out (by repeat' (first | with_reducible exact Below.refl _ _ | (with_reducible refine Below.setCell ?_ ?_ _) | (with_reducible refine bel_da ?_ ?_) | (with_reducible refine Below.alloc ?_ ?_ _) | ((try simp only [size_alloc, size_setCell, block_off]); (try have z4 := lt_of_row RA.out); (try have z5 := lt_of_row RB.out); omega)))); (have RB : Hid (u2.heap[u1.heap.size]? = some (.cells #[.bool false, .slice none 0 0] 25 (0, 0))) := Lib.hid (row_one (V := u1) hl))) | (replace RA := Lib.hid (keep_row hl RA.out (by repeat' (first | with_reducible exact Below.refl _ _ | (with_reducible refine Below.setCell ?_ ?_ _) | (with_reducible refine bel_da ?_ ?_) | (with_reducible refine Below.alloc ?_ ?_ _) | ((try simp only [size_alloc, size_setCell, block_off]); (try have z4 := lt_of_row RA.out); (try have z5 := lt_of_row RB.out); omega))))) | (have RA : Hid (u2.heap[u1.heap.size]? = some (.cells #[.bool false, .slice none 0 0] 25 (0, 0))) := Lib.hid (row_two (V := u1) hl).1; have RB : Hid (u2.heap[u1.heap.size + 1]? = some (.cells #[.bool false, .slice none 0 0] 25 (0, 0))) := Lib.hid (row_two (V := u1) hl).2; have HAB : Hid (u1.heap.size ≠ u1.heap.size + 1) := Lib.hid (by omega)) | (have RA : Hid (u2.heap[u1.heap.size]? = some (.cells #[.bool false, .slice none 0 0] 25 (0, 0))) := Lib.hid (row_one (V := u1) hl)) | skip); (try (have qa := cells2 RA.out; obtain ⟨a0, a1, a2, a3⟩ := qa)); (try (have qb := cells2 RB.out; obtain ⟨b0, b1, b2, b3⟩ := qb)); (first | (have qs := st_both RA.out RB.out HAB.out; obtain ⟨q1, q2⟩ := qs) | (have qs := st_one RA.out; obtain ⟨q1, q2⟩ := qs) | (have qs := st_two u2; obtain ⟨q1, q2⟩ := qs)); clear hd hl))
    all_goals (go_wp2_with fail; go_meet)
    all_goals (case rel => exact ⟨_, _, ap, al, ac, bp, bl, bc, rfl, rfl, ⟨(by ((try simp only [size_alloc, size_setCell, block_off, World.size_drew']); (try have z0 : Y0.heap.size ≤ u1.heap.size := B1.out.size); (try have z1 : Y0.heap.size ≤ u2.heap.size := B2.out.size); (try have z2 := HS1.out); (try have z3 : gb < Y0.heap.size := HS2.out); (try have z4 := lt_of_row RA.out); (try have z5 := lt_of_row RB.out); (try have z6 := HAB.out); omega)), (by ((try simp only [size_alloc, size_setCell, block_off, World.size_drew']); (try have z0 : Y0.heap.size ≤ u1.heap.size := B1.out.size); (try have z1 : Y0.heap.size ≤ u2.heap.size := B2.out.size); (try have z2 := HS1.out); (try have z3 : gb < Y0.heap.size := HS2.out); (try have z4 := lt_of_row RA.out); (try have z5 := lt_of_row RB.out); (try have z6 := HAB.out); omega)), (by ((try simp only [size_alloc, size_setCell, block_off, World.size_drew']); (try have z0 : Y0.heap.size ≤ u1.heap.size := B1.out.size); (try have z1 : Y0.heap.size ≤ u2.heap.size := B2.out.size); (try have z2 := HS1.out); (try have z3 : gb < Y0.heap.size := HS2.out); (try have z4 := lt_of_row RA.out); (try have z5 := lt_of_row RB.out); (try have z6 := HAB.out); omega))⟩, Lib.hid (L2.out.step (by repeat' (first | with_reducible exact B2.out | with_reducible exact B1.out | with_reducible exact Below.refl _ _ | (with_reducible refine Below.setCell ?_ ?_ _) | (with_reducible refine bel_da ?_ ?_) | (with_reducible refine Below.alloc ?_ ?_ _) | ((try simp only [size_alloc, size_setCell, block_off, World.size_drew']); (try have z0 : Y0.heap.size ≤ u1.heap.size := B1.out.size); (try have z1 : Y0.heap.size ≤ u2.heap.size := B2.out.size); (try have z2 := HS1.out); (try have z3 : gb < Y0.heap.size := HS2.out); (try have z4 := lt_of_row RA.out); (try have z5 := lt_of_row RB.out); omega)))), Lib.hid (by repeat' (first | with_reducible exact RA.out | with_reducible exact RB.out | (with_reducible refine row_at (by first | with_reducible rfl | (simp only [size_alloc, size_setCell]; done))) | (with_reducible refine set2 (x := .bool false) (y := .slice none 0 0) ?_ _ _) | (with_reducible refine row_far2 ?_ ?_ _ _) | (with_reducible refine row_old ?_) | ((try simp only [size_alloc, size_setCell, block_off, World.size_drew']); (try have z0 : Y0.heap.size ≤ u1.heap.size := B1.out.size); (try have z1 : Y0.heap.size ≤ u2.heap.size := B2.out.size); (try have z2 := HS1.out); (try have z3 : gb < Y0.heap.size := HS2.out); (try have z4 := lt_of_row RA.out); (try have z5 := lt_of_row RB.out); (try have z6 := HAB.out); omega))), Lib.hid (by repeat' (first | with_reducible exact RA.out | with_reducible exact RB.out | (with_reducible refine row_at (by first | with_reducible rfl | (simp only [size_alloc, size_setCell]; done))) | (with_reducible refine set2 (x := .bool false) (y := .slice none 0 0) ?_ _ _) | (with_reducible refine row_far2 ?_ ?_ _ _) | (with_reducible refine row_old ?_) | ((try simp only [size_alloc, size_setCell, block_off, World.size_drew']); (try have z0 : Y0.heap.size ≤ u1.heap.size := B1.out.size); (try have z1 : Y0.heap.size ≤ u2.heap.size := B2.out.size); (try have z2 := HS1.out); (try have z3 : gb < Y0.heap.size := HS2.out); (try have z4 := lt_of_row RA.out); (try have z5 := lt_of_row RB.out); (try have z6 := HAB.out); omega))), Lib.hid (by repeat' (first | with_reducible exact HN1.out | (with_reducible refine NN.set2 ?_ ?_ _ _) | (with_reducible refine NN.alloc ?_) | (with_reducible apply offi2) | with_reducible exact RA.out | with_reducible exact RB.out | (with_reducible refine row_at (by first | with_reducible rfl | (simp only [size_alloc, size_setCell]; done))) | (with_reducible refine set2 (x := .bool false) (y := .slice none 0 0) ?_ _ _) | (with_reducible refine row_far2 ?_ ?_ _ _) | (with_reducible refine row_old ?_) | ((try simp only [size_alloc, size_setCell, block_off, World.size_drew']); (try have z0 : Y0.heap.size ≤ u1.heap.size := B1.out.size); (try have z1 : Y0.heap.size ≤ u2.heap.size := B2.out.size); (try have z2 := HS1.out); (try have z3 : gb < Y0.heap.size := HS2.out); (try have z4 := lt_of_row RA.out); (try have z5 := lt_of_row RB.out); (try have z6 := HAB.out); omega))), Lib.hid (by repeat' (first | with_reducible exact HN2.out | (with_reducible refine NN.set2 ?_ ?_ _ _) | (with_reducible refine NN.alloc ?_) | (with_reducible apply offi2) | with_reducible exact RA.out | with_reducible exact RB.out | (with_reducible refine row_at (by first | with_reducible rfl | (simp only [size_alloc, size_setCell]; done))) | (with_reducible refine set2 (x := .bool false) (y := .slice none 0 0) ?_ _ _) | (with_reducible refine row_far2 ?_ ?_ _ _) | (with_reducible refine row_old ?_) | ((try simp only [size_alloc, size_setCell, block_off, World.size_drew']); (try have z0 : Y0.heap.size ≤ u1.heap.size := B1.out.size); (try have z1 : Y0.heap.size ≤ u2.heap.size := B2.out.size); (try have z2 := HS1.out); (try have z3 : gb < Y0.heap.size := HS2.out); (try have z4 := lt_of_row RA.out); (try have z5 := lt_of_row RB.out); (try have z6 := HAB.out); omega)))⟩)
  case rest =>
    obtain ⟨g1, g2, xp, xl, xc, yp, yl, yc, rfl, rfl, ⟨hne, hg1, hg2⟩, L3, R1, R2, N1, N2⟩ := hcut
    have eb : sb = s' := by
      have h : decide (0 < b) = true := by simp [hb0]
      rw [← HSB.out, h]; cases s' <;> rfl
    have hsa : (s && decide (0 < a)) = sa := by rw [← HSA.out]; cases s <;> rfl
    subst eb
    clear HSA HSB
    clear Q1 Q2 L2 RG HG
    cases sb
    · have es : (s != false && decide (0 < a)) = sa := by rw [← hsa]; cases s <;> rfl
      have Es := Lib.hid es
      obtain ⟨a0, a1, a2, a3⟩ := cells2 R1.out
      obtain ⟨b0, b1, b2, b3⟩ := cells2 R2.out
      have C4 := cells4 (L3.out.row 2 (w.heap.size + 1 + 1) rfl rfl)
      obtain ⟨⟨c0, c1, c2, c3⟩, f0, f1, f2, f3⟩ := C4
      clear es hsa
      go_wp2_with fail
      refine bodyPost_ret (res_q rfl _ _ (w.heap.size + 1 + 1) _ _ _ _ _ (by rfl) ((L3.out.set4 2 _ rfl rfl _ _ _ _).row 2 _ rfl rfl)) rfl ?_
      exact ⟨_, rfl, (by rw [Es.out]; exact ⟨_, _, rfl, N1.out.set4 (offi4 (L3.out.row 2 _ rfl rfl)) _ _ _ _, N2.out.set4 (offi4 (L3.out.row 2 _ rfl rfl)) _ _ _ _⟩), (L3.out.set4 2 _ rfl rfl _ _ _ _).2⟩
    · have es : (s != true && decide (0 < a)) = (!sa && decide (0 < a)) := by rw [← hsa]; cases s <;> cases decide (0 < a) <;> rfl
      have Es := Lib.hid es
      obtain ⟨sn, hsn⟩ : ∃ sn, (!sa && decide (0 < a)) = sn := ⟨_, rfl⟩
      have NG1 := fun W (h : Below wc.heap.size wc W) => Neg_ref (.agg #[.bool sa, .slice xp xl xc]) sa a K W ⟨_, rfl, N1.out.below h⟩
      have NG2 := fun W (h : Below wc.heap.size wc W) => Neg_ref (.agg #[.bool true, .slice yp yl yc]) true b K W ⟨_, rfl, N2.out.below h⟩
      have e2 : (!true && decide (0 < b)) = false := rfl
      rw [e2] at NG2
      rw [hsn] at NG1 Es
      replace NG1 := Lib.hid NG1
      replace NG2 := Lib.hid NG2
      obtain ⟨a0, a1, a2, a3⟩ := cells2 R1.out
      obtain ⟨b0, b1, b2, b3⟩ := cells2 R2.out
      clear es hsa hsn e2
      go_wp2_with fail
      go_region_with (first
        | (go_at_call_of 21 (Value.slice xp xl xc); refine (NG1.out _ ((Below.refl _ _).drew)).mono ?_; rintro e u1 ⟨r, rfl, ⟨d, rfl, hd⟩, hl⟩; obtain ⟨p1, l1, c1, rfl⟩ := hd.slice; have M1 := Lib.hid hd; have B1 : Hid (Below wc.heap.size wc u1) := Lib.hid ((Below.refl wc.heap.size wc).drew.trans hl); have q1 := Below.row B1.out (lt_of_row R1.out) R1.out; have q2 := Below.row B1.out (lt_of_row R2.out) R2.out; have Q1 := Lib.hid q1; have Q2 := Lib.hid q2; obtain ⟨d0, d1, d2, d3⟩ := cells2 q1; obtain ⟨e0, e1, e2, e3⟩ := cells2 q2; clear q1 q2 hd hl)
        | (go_at_call_of 21 (Value.slice yp yl yc); refine (NG2.out _ B1.out).mono ?_; rintro e u2 ⟨r, rfl, ⟨d, rfl, hd⟩, hl⟩; obtain ⟨p2, l2, c2, rfl⟩ := hd.slice; replace M1 := Lib.hid (M1.out.below hl); have M2 := Lib.hid hd; replace Q1 := Lib.hid (Below.row hl (lt_of_row Q1.out) Q1.out); replace Q2 := Lib.hid (Below.row hl (lt_of_row Q2.out) Q2.out); have B2 : Hid (Below wc.heap.size wc u2) := Lib.hid (B1.out.trans (hl.mono B1.out.size)); clear d0 d1 d2 d3 e0 e1 e2 e3; have q1 := Q1.out; have q2 := Q2.out; obtain ⟨d0, d1, d2, d3⟩ := cells2 q1; obtain ⟨e0, e1, e2, e3⟩ := cells2 q2; obtain ⟨qs, qt⟩ := st_gen Q1.out Q2.out hne; clear q1 q2 hd hl))
      all_goals (
        have L4 := L3.out.step B2.out
        have r1 := row_far2 (set2 Q1.out (.bool sn) (.slice p1 l1 c1)) hne (.bool false) (.slice p2 l2 c2)
        have r2 := set2 (row_far2 Q2.out (Ne.symm hne) (.bool sn) (.slice p1 l1 c1)) (.bool false) (.slice p2 l2 c2)
        have L5 := (L4.away g1 (by simp only [List.length_cons, List.length_nil]; omega) (.bool sn) (.slice p1 l1 c1)).away g2 (by simp only [List.length_cons, List.length_nil]; omega) (.bool false) (.slice p2 l2 c2)
        have O2 := offi2 (row_far2 Q2.out (Ne.symm hne) (.bool sn) (.slice p1 l1 c1))
        have N4 := (M1.out.set2 (offi2 Q1.out) (.bool sn) (.slice p1 l1 c1)).set2 O2 (.bool false) (.slice p2 l2 c2)
        have N5 := (M2.out.set2 (offi2 Q1.out) (.bool sn) (.slice p1 l1 c1)).set2 O2 (.bool false) (.slice p2 l2 c2)
        clear d0 d1 d2 d3 e0 e1 e2 e3 qs qt O2 L4
        replace L5 := Lib.hid L5
        replace N4 := Lib.hid N4
        replace N5 := Lib.hid N5
        generalize ((((u2.setCell ⟨g1, 0, none⟩ (.bool sn)).setCell ⟨g1, 1, none⟩ (.slice p1 l1 c1)).setCell ⟨g2, 0, none⟩ (.bool false)).setCell ⟨g2, 1, none⟩ (.slice p2 l2 c2)) = X at *
        clear M1 M2 Q1 Q2 NG1 NG2
        obtain ⟨a0, a1, a2, a3⟩ := cells2 r1
        obtain ⟨b0, b1, b2, b3⟩ := cells2 r2
        have C4 := cells4 (L5.out.row 2 (w.heap.size + 1 + 1) rfl rfl)
        obtain ⟨⟨c0, c1', c2', c3⟩, f0, f1, f2, f3⟩ := C4
        clear r1 r2
        go_wp2_with fail
        refine bodyPost_ret (res_q rfl _ _ (w.heap.size + 1 + 1) _ _ _ _ _ (by rfl) ((L5.out.set4 2 _ rfl rfl _ _ _ _).row 2 _ rfl rfl)) rfl ?_
        exact ⟨_, rfl, (by rw [Es.out]; exact ⟨_, _, rfl, N4.out.set4 (offi4 (L5.out.row 2 _ rfl rfl)) _ _ _ _, N5.out.set4 (offi4 (L5.out.row 2 _ rfl rfl)) _ _ _ _⟩), (L5.out.set4 2 _ rfl rfl _ _ _ _).2⟩)
end Go.Proofs.YtamhlkjfpdkhoaaGreatDoor
