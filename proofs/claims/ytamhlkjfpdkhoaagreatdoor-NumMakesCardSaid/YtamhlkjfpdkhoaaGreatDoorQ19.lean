import Derived.Test.YtamhlkjfpdkhoaaGreatDoorQ15
import Derived.Laws.Rows
import Derived.Deep.RegionHeld3
/- WALKS of integers of one word at most: signed, Whole, Sign, times, plus. -/
namespace Go.Proofs.YtamhlkjfpdkhoaaGreatDoor
open Go.RowKit

theorem cells2 {w : World} {g : Nat} {x y : Value} {t : TypeId} (h : w.heap[g]? = some (.cells #[x, y] t (0, 0))) :
    w.cell? ⟨g, 0, none⟩ = some x ∧ w.cell? ⟨g, 1, none⟩ = some y ∧ w.frozen? ⟨g, 0, none⟩ = false ∧ w.frozen? ⟨g, 1, none⟩ = false := by
  simp [World.cell?, World.frozen?, h]

theorem set2 {w : World} {g : Nat} {x y : Value} {t : TypeId} (h : w.heap[g]? = some (.cells #[x, y] t (0, 0))) (a b : Value) :
    ((w.setCell ⟨g, 0, none⟩ a).setCell ⟨g, 1, none⟩ b).heap[g]? = some (.cells #[a, b] t (0, 0)) := by
  simp only [World.setCell, Array.getElem?_modify, h, if_true, Option.map_some]
  rfl

theorem cells3 {w : World} {g : Nat} {x y z : Value} {t : TypeId} (h : w.heap[g]? = some (.cells #[x, y, z] t (0, 0))) :
    w.cell? ⟨g, 0, none⟩ = some x ∧ w.cell? ⟨g, 1, none⟩ = some y ∧ w.cell? ⟨g, 2, none⟩ = some z ∧ w.frozen? ⟨g, 0, none⟩ = false ∧ w.frozen? ⟨g, 1, none⟩ = false ∧ w.frozen? ⟨g, 2, none⟩ = false := by
  simp [World.cell?, World.frozen?, h]

theorem set3 {w : World} {g : Nat} {x y z : Value} {t : TypeId} (h : w.heap[g]? = some (.cells #[x, y, z] t (0, 0))) (a b c : Value) :
    (((w.setCell ⟨g, 0, none⟩ a).setCell ⟨g, 1, none⟩ b).setCell ⟨g, 2, none⟩ c).heap[g]? = some (.cells #[a, b, c] t (0, 0)) := by
  simp only [World.setCell, Array.getElem?_modify, h, if_true, Option.map_some]
  rfl

theorem Dig.slice {w : World} {v : Value} {n : Nat} (h : Dig w v n) : ∃ p l c, v = .slice p l c := by
  obtain ⟨_, ⟨_, rfl⟩ | ⟨_, b, o, rfl, _⟩⟩ := h <;> exact ⟨_, _, _, rfl⟩

/-- No cell of the block is a word. -/
def Off (w : World) (g : Nat) : Prop := ∀ o m, w.cell? ⟨g, o, none⟩ ≠ some (.int .u64 m)

theorem off2 {w : World} {g : Nat} {x : Bool} {p : Option Addr} {l c : Nat} {t : TypeId} (h : w.heap[g]? = some (.cells #[.bool x, .slice p l c] t (0, 0))) : Off w g := by
  intro o m
  simp only [World.cell?, h]
  match o with
  | 0 => simp
  | 1 => simp
  | o + 2 => simp

theorem off3 {w : World} {g : Nat} {x : Bool} {p q : Option Addr} {l c l' c' : Nat} {t : TypeId} (h : w.heap[g]? = some (.cells #[.bool x, .slice p l c, .slice q l' c'] t (0, 0))) : Off w g := by
  intro o m
  simp only [World.cell?, h]
  match o with
  | 0 => simp
  | 1 => simp
  | 2 => simp
  | o + 3 => simp

theorem Dig.upon {w w' : World} {v : Value} {n g : Nat} (h : Dig w v n) (hg : Off w g) (hk : ∀ k, k ≠ g → w'.heap[k]? = w.heap[k]?) : Dig w' v n := by
  obtain ⟨h0, ⟨h1, h2⟩ | ⟨h1, b, o, h2, h3⟩⟩ := h
  · exact ⟨h0, .inl ⟨h1, h2⟩⟩
  · refine ⟨h0, .inr ⟨h1, b, o, h2, ?_⟩⟩
    have hne : b ≠ g := by rintro rfl; exact hg _ _ h3
    rw [World.cell?_of_block (w := w) (hk b hne)]; exact h3

theorem Dig.set2 {w : World} {v : Value} {n g : Nat} (h : Dig w v n) (hg : Off w g) (a b : Value) : Dig ((w.setCell ⟨g, 0, none⟩ a).setCell ⟨g, 1, none⟩ b) v n :=
  h.upon hg fun k hk => by rw [Below.heap_setCell _ _ _ _ hk, Below.heap_setCell _ _ _ _ hk]

theorem Dig.set3 {w : World} {v : Value} {n g : Nat} (h : Dig w v n) (hg : Off w g) (a b c : Value) : Dig (((w.setCell ⟨g, 0, none⟩ a).setCell ⟨g, 1, none⟩ b).setCell ⟨g, 2, none⟩ c) v n :=
  h.upon hg fun k hk => by rw [Below.heap_setCell _ _ _ _ hk, Below.heap_setCell _ _ _ _ hk, Below.heap_setCell _ _ _ _ hk]

theorem Below.set2 {B g : Nat} {a w : World} (h : Below B a w) (hp : B ≤ g) (x y : Value) : Below B a ((w.setCell ⟨g, 0, none⟩ x).setCell ⟨g, 1, none⟩ y) := (h.setCell (p := ⟨g, 0, none⟩) hp _).setCell (p := ⟨g, 1, none⟩) hp _

theorem Below.set3 {B g : Nat} {a w : World} (h : Below B a w) (hp : B ≤ g) (x y z : Value) : Below B a (((w.setCell ⟨g, 0, none⟩ x).setCell ⟨g, 1, none⟩ y).setCell ⟨g, 2, none⟩ z) := (Below.set2 h hp x y).setCell (p := ⟨g, 2, none⟩) hp _

theorem Below.row {w w' : World} {B g : Nat} {o : Obj} (h : Below B w w') (hg : g < B) (hr : w.heap[g]? = some o) : w'.heap[g]? = some o := (h.block g hg).trans hr

theorem res_int {fn : Func} {p : Tmp} (h : fn.results = #[.cell p 31]) (tmps : Array Value) (w : World) (g : Nat) (x y : Value) (t : TypeId)
    (hp : tmps.getD p undef = .pointer (some ⟨g, 0, none⟩)) (hg : w.heap[g]? = some (.cells #[x, y] t (0, 0))) :
    (results fn tmps).run Tryz.prog w = .ok (.agg #[x, y]) w :=
  results_cell_row h tmps w g t #[x, y] (0, 0) _ hp hg Tryz.underlying31 rfl (by kernel_rfl)

theorem res_rat {fn : Func} {p : Tmp} (h : fn.results = #[.cell p 45]) (tmps : Array Value) (w : World) (g : Nat) (x y z : Value) (t : TypeId)
    (hp : tmps.getD p undef = .pointer (some ⟨g, 0, none⟩)) (hg : w.heap[g]? = some (.cells #[x, y, z] t (0, 0))) :
    (results fn tmps).run Tryz.prog w = .ok (.agg #[x, y, z]) w :=
  results_cell_row h tmps w g t #[x, y, z] (0, 0) _ hp hg Tryz.underlying45 rfl (by kernel_rfl)

set_option maxRecDepth 100000 in
set_option maxHeartbeats 400000 in
theorem signed_any (b : Bool) (v : Value) (n : Nat) (w : World) (hd : Dig w v n) :
    Calls Tryz.prog 90 #[.bool b, v] w fun e w' => e = .returned (.agg #[.bool (b && decide (0 < n)), v]) ∧ Below w.heap.size w w' := by
  obtain ⟨hn, hd⟩ := hd
  clear hn
  obtain ⟨rfl, rfl⟩ | ⟨h0, bb, o, rfl, hc⟩ := hd
  · cases b <;>
    · go_enter Tryz.func90, Tryz.ntmps90
      go_wp2
      refine bodyPost_ret (res_int rfl _ _ w.heap.size _ _ _ (by rfl) (heap_alloc_new _ _)) rfl ?_
      exact ⟨rfl, (Below.refl _ _).alloc (Nat.le_refl _) _⟩
  · have e1 : decide (0 < n) = true := by simp [h0]
    rw [e1]
    cases b <;>
    · go_enter Tryz.func90, Tryz.ntmps90
      go_wp2
      refine bodyPost_ret (res_int rfl _ _ w.heap.size _ _ _ (by rfl) (heap_alloc_new _ _)) rfl ?_
      exact ⟨rfl, (Below.refl _ _).alloc (Nat.le_refl _) _⟩

/-- The value is the integer with this sign and this absolute value, of one word at most. -/
def WI (w : World) (v : Value) (s : Bool) (n : Nat) : Prop := ∃ d, v = .agg #[.bool s, d] ∧ Dig w d n

theorem WI.below {w w' : World} {v : Value} {s : Bool} {n : Nat} (h : WI w v s n) (hb : Below w.heap.size w w') : WI w' v s n := by
  obtain ⟨d, h1, h2⟩ := h; exact ⟨d, h1, h2.below hb⟩

set_option maxRecDepth 100000 in
set_option maxHeartbeats 400000 in
theorem Whole_pos (n : Nat) (w : World) (h0 : 0 < n) (hn : n < 9223372036854775808) :
    Calls Tryz.prog 35 #[.int .i64 n] w fun e w' => ∃ x, e = .returned x ∧ WI w' x false n ∧ Below w.heap.size w w' := by
  have W := fun W => word_any n W (by omega)
  have t1 : decide ((n : Int) < 0) = false := by simp
  have hc : IntKind.u64.wrap (n : Int) = n := by simp only [IntKind.wrap_u64]; omega
  have HW := Lib.hid W
  clear W hn
  go_enter Tryz.func35, Tryz.ntmps35
  go_wp2_with fail
  refine (HW.out _).mono ?_
  rintro e w1 ⟨d, rfl, hd, hb1⟩
  obtain ⟨dp, dl, dc, rfl⟩ := hd.slice
  have Hd := Lib.hid hd
  have Hb1 := Lib.hid hb1
  have r1 := Below.row hb1 (by simp) (heap_alloc_new _ _)
  have s1 : w.heap.size < w1.heap.size := Nat.lt_of_lt_of_le (by simp) hb1.size
  clear hd hb1
  go_wp2_with fail
  refine (signed_any false _ n _ Hd.out).mono ?_
  rintro e w2 ⟨rfl, hb2⟩
  have r2 := Below.row hb2 s1 r1
  obtain ⟨c0, c1, f0, f1⟩ := cells2 r2
  have Hb2 := Lib.hid hb2
  have S2 := Lib.hid (set2 r2)
  have Of := Lib.hid (off2 r2)
  clear r1 r2 hb2
  go_wp2_with fail
  refine bodyPost_ret (res_int rfl _ _ w.heap.size _ _ _ (by rfl) (S2.out _ _)) rfl ?_
  exact ⟨_, rfl, ⟨_, rfl, (Hd.out.below Hb2.out).set2 Of.out _ _⟩, Below.set2 ((((Below.refl w.heap.size w).alloc (Nat.le_refl _) _).trans (Hb1.out.mono (by simp))).trans (Hb2.out.mono (Nat.le_of_lt s1))) (Nat.le_refl _) _ _⟩

set_option maxRecDepth 100000 in
set_option maxHeartbeats 400000 in
theorem Whole_neg (n : Nat) (m : Int) (w : World) (h0 : 0 < n) (hn : n ≤ 9223372036854775808) (hm : m = -(n : Int)) :
    Calls Tryz.prog 35 #[.int .i64 m] w fun e w' => ∃ x, e = .returned x ∧ WI w' x true n ∧ Below w.heap.size w w' := by
  have W := fun W => word_any n W (by omega)
  have t1 : m < 0 := by omega
  have e1 : decide (0 < n) = true := by simp [h0]
  obtain ⟨k, hk⟩ : ∃ k : Int, IntKind.u64.wrap m = k := ⟨_, rfl⟩
  have hc : IntKind.u64.wrap (-k) = n := by rw [← hk]; simp only [IntKind.wrap_u64]; omega
  have HW := Lib.hid W
  clear W hn hm
  go_enter Tryz.func35, Tryz.ntmps35
  go_wp2_with fail
  refine (HW.out _).mono ?_
  rintro e w1 ⟨d, rfl, hd, hb1⟩
  obtain ⟨dp, dl, dc, rfl⟩ := hd.slice
  have Hd := Lib.hid hd
  have Hb1 := Lib.hid hb1
  have r1 := Below.row hb1 (by simp) (heap_alloc_new _ _)
  have s1 : w.heap.size < w1.heap.size := Nat.lt_of_lt_of_le (by simp) hb1.size
  have SG := Lib.hid (signed_any true _ n w1 Hd.out)
  rw [e1] at SG
  clear hd hb1
  go_wp2_with fail
  refine SG.out.mono ?_
  rintro e w2 ⟨rfl, hb2⟩
  have r2 := Below.row hb2 s1 r1
  obtain ⟨c0, c1, f0, f1⟩ := cells2 r2
  have Hb2 := Lib.hid hb2
  have S2 := Lib.hid (set2 r2)
  have Of := Lib.hid (off2 r2)
  clear r1 r2 hb2
  go_wp2_with fail
  refine bodyPost_ret (res_int rfl _ _ w.heap.size _ _ _ (by rfl) (S2.out _ _)) rfl ?_
  exact ⟨_, rfl, ⟨_, rfl, (Hd.out.below Hb2.out).set2 Of.out _ _⟩, Below.set2 ((((Below.refl w.heap.size w).alloc (Nat.le_refl _) _).trans (Hb1.out.mono (by simp))).trans (Hb2.out.mono (Nat.le_of_lt s1))) (Nat.le_refl _) _ _⟩
end Go.Proofs.YtamhlkjfpdkhoaaGreatDoor

/- WALKS of integers of one word at most, more: times, plus, Sign. -/
namespace Go.Proofs.YtamhlkjfpdkhoaaGreatDoor
open Go.RowKit

/-- Three new blocks lie at the top of the first world. -/
def Lay3 (w : World) (A B C : Array Value) (t1 t2 t3 : TypeId) (W : World) : Prop :=
  W.heap[w.heap.size]? = some (.cells A t1 (0, 0)) ∧ W.heap[w.heap.size + 1]? = some (.cells B t2 (0, 0)) ∧ W.heap[w.heap.size + 1 + 1]? = some (.cells C t3 (0, 0)) ∧ Below w.heap.size w W

theorem size_alloc (w : World) (o : Obj) : (w.alloc o).heap.size = w.heap.size + 1 := by
  show (w.heap.push o).size = _
  simp

theorem lay3_new (w : World) (A B C : Array Value) (t1 t2 t3 : TypeId) : Lay3 w A B C t1 t2 t3 (((w.alloc (.cells A t1)).alloc (.cells B t2)).alloc (.cells C t3)) := by
  have e2 := heap_alloc_new (w.alloc (.cells A t1)) (.cells B t2)
  rw [size_alloc] at e2
  have e3 := heap_alloc_new ((w.alloc (.cells A t1)).alloc (.cells B t2)) (.cells C t3)
  rw [size_alloc, size_alloc] at e3
  refine ⟨?_, ?_, e3, (((Below.refl _ _).alloc (Nat.le_refl _) _).alloc (by simp) _).alloc (by simp; omega) _⟩
  · rw [heap_alloc_old _ _ (by simp; omega), heap_alloc_old _ _ (by simp), heap_alloc_new]
  · rw [heap_alloc_old _ _ (by simp), e2]

theorem lt_of_row {w : World} {g : Nat} {o : Obj} (h : w.heap[g]? = some o) : g < w.heap.size := (Array.getElem?_eq_some_iff.1 h).1

theorem Lay3.step {w W W' : World} {A B C : Array Value} {t1 t2 t3 : TypeId} (h : Lay3 w A B C t1 t2 t3 W) (hb : Below W.heap.size W W') : Lay3 w A B C t1 t2 t3 W' := by
  obtain ⟨h1, h2, h3, h4⟩ := h
  exact ⟨Below.row hb (lt_of_row h1) h1, Below.row hb (lt_of_row h2) h2, Below.row hb (lt_of_row h3) h3, h4.trans (hb.mono h4.size)⟩

theorem Lay3.drewN {w W : World} {A B C : Array Value} {t1 t2 t3 : TypeId} (h : Lay3 w A B C t1 t2 t3 W) : Lay3 w A B C t1 t2 t3 W.drew := h.step ((Below.refl _ _).drew)

theorem Lay3.set {w W : World} {A B : Array Value} {z z' : Value} {t1 t2 t3 : TypeId} (h : Lay3 w A B #[z, z'] t1 t2 t3 W) (x y : Value) :
    Lay3 w A B #[x, y] t1 t2 t3 ((W.setCell ⟨w.heap.size + 1 + 1, 0, none⟩ x).setCell ⟨w.heap.size + 1 + 1, 1, none⟩ y) := by
  obtain ⟨h1, h2, h3, h4⟩ := h
  refine ⟨?_, ?_, set2 h3 _ _, Below.set2 h4 (by omega) _ _⟩
  · rw [Below.heap_setCell _ _ _ _ (by simp; omega), Below.heap_setCell _ _ _ _ (by simp; omega), h1]
  · rw [Below.heap_setCell _ _ _ _ (by simp), Below.heap_setCell _ _ _ _ (by simp), h2]

theorem sOf3 {w W : World} {x y x' y' : Value} {C : Array Value} {t1 t2 t3 : TypeId} (h : Lay3 w #[x, y] #[x', y'] C t1 t2 t3 W) :
    (W.cell? ⟨w.heap.size, 0, none⟩ = some x ∧ W.cell? ⟨w.heap.size, 1, none⟩ = some y ∧ W.cell? ⟨w.heap.size + 1, 0, none⟩ = some x' ∧ W.cell? ⟨w.heap.size + 1, 1, none⟩ = some y') ∧ Hid (∃ C, Lay3 w #[x, y] #[x', y'] C t1 t2 t3 W) := by
  obtain ⟨h1, h2, h3, h4⟩ := h
  exact ⟨⟨(cells2 h1).1, (cells2 h1).2.1, (cells2 h2).1, (cells2 h2).2.1⟩, Lib.hid ⟨_, h1, h2, h3, h4⟩⟩

theorem Lay3.res {w W : World} {A B : Array Value} {z z' : Value} {t1 t2 t3 : TypeId} (h : Lay3 w A B #[z, z'] t1 t2 t3 W) :
    W.cell? ⟨w.heap.size + 1 + 1, 0, none⟩ = some z ∧ W.cell? ⟨w.heap.size + 1 + 1, 1, none⟩ = some z' ∧ W.frozen? ⟨w.heap.size + 1 + 1, 0, none⟩ = false ∧ W.frozen? ⟨w.heap.size + 1 + 1, 1, none⟩ = false := cells2 h.2.2.1

set_option maxRecDepth 100000 in
set_option maxHeartbeats 1000000 in
theorem itimes_pos (u v : Value) (s s' : Bool) (a b p : Nat) (w : World) (hu : WI w u s a) (hv : WI w v s' b) (ha0 : 0 < a) (hb0 : 0 < b) (hp : a * b = p) (hpl : p < 18446744073709551616) :
    Calls Tryz.prog 111 #[u, v] w fun e w' => ∃ x, e = .returned x ∧ WI w' x (s != s') p ∧ Below w.heap.size w w' := by
  have hp0 : 0 < p := by rw [← hp]; exact Nat.mul_pos ha0 hb0
  obtain ⟨du, rfl, hu⟩ := hu
  obtain ⟨dv, rfl, hv⟩ := hv
  obtain ⟨up, ul, uc, rfl⟩ := hu.slice
  obtain ⟨vp, vl, vc, rfl⟩ := hv.slice
  have T := fun W (h : Below w.heap.size w W) => times_pos _ _ a b p W (hu.below h) (hv.below h) ha0 hb0 hp hpl
  have e1 : decide (0 < p) = true := by simp [hp0]
  have SG : ∀ W d, Dig W d p → _ := fun W d h => signed_any (s != s') d p W h
  simp only [e1, Bool.and_true] at SG
  have HT := Lib.hid T
  have HSG := Lib.hid SG
  clear T SG hp hpl ha0 hb0 hp0 e1 hu hv
  have L0 := Lib.hid (lay3_new w #[.bool s, .slice up ul uc] #[.bool s', .slice vp vl vc] #[.bool false, .slice none 0 0] 31 31 31)
  go_enter Tryz.func111, Tryz.ntmps111
  go_wp2_with fail
  generalize (((w.alloc (Obj.cells #[Value.bool s, Value.slice up ul uc] 31)).alloc (Obj.cells #[Value.bool s', Value.slice vp vl vc] 31)).alloc (Obj.cells #[Value.bool false, Value.slice none 0 0] 31)) = W0 at *
  have L1 := Lib.hid L0.out.drewN
  go_region_held3 (fun W => (W.cell? ⟨w.heap.size, 0, none⟩ = some (.bool s) ∧ W.cell? ⟨w.heap.size, 1, none⟩ = some (.slice up ul uc) ∧ W.cell? ⟨w.heap.size + 1, 0, none⟩ = some (.bool s') ∧ W.cell? ⟨w.heap.size + 1, 1, none⟩ = some (.slice vp vl vc)) ∧ Hid (∃ C, Lay3 w #[.bool s, .slice up ul uc] #[.bool s', .slice vp vl vc] C 31 31 31 W)) (first | exact sOf3 (T2.out.set _ _) | exact sOf3 T2.out | exact sOf3 T1.out | exact sOf3 L1.out) (first
    | (go_at_call 158; refine (HT.out _ ?_).mono ?_; exact L1.out.2.2.2; rintro e w1 ⟨d, rfl, hd, hb1⟩; obtain ⟨dp, dl, dc, rfl⟩ := hd.slice; have T1 := Lib.hid (L1.out.step hb1); have Hd := Lib.hid hd; clear hd hb1)
    | (go_at_call 90; refine (HSG.out _ _ Hd.out).mono ?_; rintro e w2 ⟨rfl, hb2⟩; have T2 := Lib.hid (T1.out.step hb2); have Hd2 := Lib.hid (Hd.out.below hb2); obtain ⟨c0, c1, f0, f1⟩ := T2.out.res; clear hb2))
  go_wp2
  refine bodyPost_ret (res_int rfl _ _ (w.heap.size + 1 + 1) _ _ _ (by rfl) (T2.out.set _ _).2.2.1) rfl ?_
  exact ⟨_, rfl, ⟨_, rfl, Hd2.out.set2 (off2 T2.out.2.2.1) _ _⟩, (T2.out.set _ _).2.2.2⟩
set_option maxRecDepth 100000 in
set_option maxHeartbeats 1000000 in
theorem iplus_pos (u v : Value) (s : Bool) (a b p : Nat) (w : World) (hu : WI w u s a) (hv : WI w v s b) (ha0 : 0 < a) (hb0 : 0 < b) (hp : a + b = p) (hpl : p < 18446744073709551616) :
    Calls Tryz.prog 108 #[u, v] w fun e w' => ∃ x, e = .returned x ∧ WI w' x s p ∧ Below w.heap.size w w' := by
  have hp0 : 0 < p := by omega
  obtain ⟨du, rfl, hu⟩ := hu
  obtain ⟨dv, rfl, hv⟩ := hv
  obtain ⟨up, ul, uc, rfl⟩ := hu.slice
  obtain ⟨vp, vl, vc, rfl⟩ := hv.slice
  have T := fun W (h : Below w.heap.size w W) => plus_pos _ _ a b p W (hu.below h) (hv.below h) ha0 hb0 hp hpl
  have e1 : decide (0 < p) = true := by simp [hp0]
  have SG : ∀ W d, Dig W d p → _ := fun W d h => signed_any s d p W h
  simp only [e1, Bool.and_true] at SG
  have HT := Lib.hid T
  have HSG := Lib.hid SG
  clear T SG hp hpl ha0 hb0 hp0 e1 hu hv
  have L0 := Lib.hid (lay3_new w #[.bool s, .slice up ul uc] #[.bool s, .slice vp vl vc] #[.bool false, .slice none 0 0] 31 31 31)
  go_enter Tryz.func108, Tryz.ntmps108
  go_wp2_with fail
  generalize (((w.alloc (Obj.cells #[Value.bool s, Value.slice up ul uc] 31)).alloc (Obj.cells #[Value.bool s, Value.slice vp vl vc] 31)).alloc (Obj.cells #[Value.bool false, Value.slice none 0 0] 31)) = W0 at *
  have L1 := Lib.hid L0.out.drewN
  go_region_held3 (fun W => (W.cell? ⟨w.heap.size, 0, none⟩ = some (.bool s) ∧ W.cell? ⟨w.heap.size, 1, none⟩ = some (.slice up ul uc) ∧ W.cell? ⟨w.heap.size + 1, 0, none⟩ = some (.bool s) ∧ W.cell? ⟨w.heap.size + 1, 1, none⟩ = some (.slice vp vl vc)) ∧ Hid (∃ C, Lay3 w #[.bool s, .slice up ul uc] #[.bool s, .slice vp vl vc] C 31 31 31 W)) (first | exact sOf3 (T2.out.set _ _) | exact sOf3 T2.out | exact sOf3 T1.out | exact sOf3 L1.out) (first
    | (go_at_call 121; refine (HT.out _ ?_).mono ?_; exact L1.out.2.2.2; rintro e w1 ⟨d, rfl, hd, hb1⟩; obtain ⟨dp, dl, dc, rfl⟩ := hd.slice; have T1 := Lib.hid (L1.out.step hb1); have Hd := Lib.hid hd; clear hd hb1)
    | (go_at_call 90; refine (HSG.out _ _ Hd.out).mono ?_; rintro e w2 ⟨rfl, hb2⟩; have T2 := Lib.hid (T1.out.step hb2); have Hd2 := Lib.hid (Hd.out.below hb2); obtain ⟨c0, c1, f0, f1⟩ := T2.out.res; clear hb2))
  go_wp2
  refine bodyPost_ret (res_int rfl _ _ (w.heap.size + 1 + 1) _ _ _ (by rfl) (T2.out.set _ _).2.2.1) rfl ?_
  exact ⟨_, rfl, ⟨_, rfl, Hd2.out.set2 (off2 T2.out.2.2.1) _ _⟩, (T2.out.set _ _).2.2.2⟩
end Go.Proofs.YtamhlkjfpdkhoaaGreatDoor
