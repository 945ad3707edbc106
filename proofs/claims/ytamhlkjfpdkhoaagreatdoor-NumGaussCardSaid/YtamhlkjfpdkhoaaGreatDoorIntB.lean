/- WALKS of integers of one word at most, more: times, plus, Sign. -/
import Derived.Test.YtamhlkjfpdkhoaaGreatDoorIntA
import Derived.Deep.RegionHeld3
namespace Go.Proofs.YtamhlkjfpdkhoaaGreatDoor
open Go.RowKit

/-- Three new blocks lie at the top of the first world. -/
def Lay3 (w : World) (A B C : Array Value) (t1 t2 t3 : TypeId) (W : World) : Prop :=
  W.heap[w.heap.size]? = some (.cells A t1 (0, 0)) ∧ W.heap[w.heap.size + 1]? = some (.cells B t2 (0, 0)) ∧ W.heap[w.heap.size + 1 + 1]? = some (.cells C t3 (0, 0)) ∧ Below w.heap.size w W

theorem size_alloc (w : World) (o : Obj) : (w.alloc o).heap.size = w.heap.size + 1 := by
  show (w.heap.push o).size = _
  simp

theorem lay3_new (w : World) (A B C : Array Value) (t1 t2 t3 : TypeId) : Lay3 w A B C t1 t2 t3 (((w.alloc (.cells A t1)).alloc (.cells B t2)).alloc (.cells C t3)) := by
  have e2 := heap_alloc_new (w.alloc (.cells A t1)) (.cells B t2)
  rw [size_alloc] at e2
  have e3 := heap_alloc_new ((w.alloc (.cells A t1)).alloc (.cells B t2)) (.cells C t3)
  rw [size_alloc, size_alloc] at e3
  refine ⟨?_, ?_, e3, (((Below.refl _ _).alloc (Nat.le_refl _) _).alloc (by simp) _).alloc (by simp; omega) _⟩
  · rw [heap_alloc_old _ _ (by simp; omega), heap_alloc_old _ _ (by simp), heap_alloc_new]
  · rw [heap_alloc_old _ _ (by simp), e2]

theorem lt_of_row {w : World} {g : Nat} {o : Obj} (h : w.heap[g]? = some o) : g < w.heap.size := (Array.getElem?_eq_some_iff.1 h).1

theorem Lay3.step {w W W' : World} {A B C : Array Value} {t1 t2 t3 : TypeId} (h : Lay3 w A B C t1 t2 t3 W) (hb : Below W.heap.size W W') : Lay3 w A B C t1 t2 t3 W' := by
  obtain ⟨h1, h2, h3, h4⟩ := h
  exact ⟨Below.row hb (lt_of_row h1) h1, Below.row hb (lt_of_row h2) h2, Below.row hb (lt_of_row h3) h3, h4.trans (hb.mono h4.size)⟩

theorem Lay3.drewN {w W : World} {A B C : Array Value} {t1 t2 t3 : TypeId} (h : Lay3 w A B C t1 t2 t3 W) : Lay3 w A B C t1 t2 t3 W.drew := h.step ((Below.refl _ _).drew)

theorem Lay3.set {w W : World} {A B : Array Value} {z z' : Value} {t1 t2 t3 : TypeId} (h : Lay3 w A B #[z, z'] t1 t2 t3 W) (x y : Value) :
    Lay3 w A B #[x, y] t1 t2 t3 ((W.setCell ⟨w.heap.size + 1 + 1, 0, none⟩ x).setCell ⟨w.heap.size + 1 + 1, 1, none⟩ y) := by
  obtain ⟨h1, h2, h3, h4⟩ := h
  refine ⟨?_, ?_, set2 h3 _ _, Below.set2 h4 (by omega) _ _⟩
  · rw [Below.heap_setCell _ _ _ _ (by simp; omega), Below.heap_setCell _ _ _ _ (by simp; omega), h1]
  · rw [Below.heap_setCell _ _ _ _ (by simp), Below.heap_setCell _ _ _ _ (by simp), h2]

theorem sOf3 {w W : World} {x y x' y' : Value} {C : Array Value} {t1 t2 t3 : TypeId} (h : Lay3 w #[x, y] #[x', y'] C t1 t2 t3 W) :
    (W.cell? ⟨w.heap.size, 0, none⟩ = some x ∧ W.cell? ⟨w.heap.size, 1, none⟩ = some y ∧ W.cell? ⟨w.heap.size + 1, 0, none⟩ = some x' ∧ W.cell? ⟨w.heap.size + 1, 1, none⟩ = some y') ∧ Hid (∃ C, Lay3 w #[x, y] #[x', y'] C t1 t2 t3 W) := by
  obtain ⟨h1, h2, h3, h4⟩ := h
  exact ⟨⟨(cells2 h1).1, (cells2 h1).2.1, (cells2 h2).1, (cells2 h2).2.1⟩, Lib.hid ⟨_, h1, h2, h3, h4⟩⟩

theorem Lay3.res {w W : World} {A B : Array Value} {z z' : Value} {t1 t2 t3 : TypeId} (h : Lay3 w A B #[z, z'] t1 t2 t3 W) :
    W.cell? ⟨w.heap.size + 1 + 1, 0, none⟩ = some z ∧ W.cell? ⟨w.heap.size + 1 + 1, 1, none⟩ = some z' ∧ W.frozen? ⟨w.heap.size + 1 + 1, 0, none⟩ = false ∧ W.frozen? ⟨w.heap.size + 1 + 1, 1, none⟩ = false := cells2 h.2.2.1

set_option maxRecDepth 100000 in
set_option maxHeartbeats 1000000 in
theorem itimes_pos (u v : Value) (s s' : Bool) (a b p : Nat) (w : World) (hu : WI w u s a) (hv : WI w v s' b) (ha0 : 0 < a) (hb0 : 0 < b) (hp : a * b = p) (hpl : p < 18446744073709551616) :
    Calls Tryz.prog 111 #[u, v] w fun e w' => ∃ x, e = .returned x ∧ WI w' x (s != s') p ∧ Below w.heap.size w w' := by
  have hp0 : 0 < p := by rw [← hp]; exact Nat.mul_pos ha0 hb0
  obtain ⟨du, rfl, hu⟩ := hu
  obtain ⟨dv, rfl, hv⟩ := hv
  obtain ⟨up, ul, uc, rfl⟩ := hu.slice
  obtain ⟨vp, vl, vc, rfl⟩ := hv.slice
  have T := fun W (h : Below w.heap.size w W) => times_pos _ _ a b p W (hu.below h) (hv.below h) ha0 hb0 hp hpl
  have e1 : decide (0 < p) = true := by simp [hp0]
  have SG : ∀ W d, Dig W d p → _ := fun W d h => signed_any (s != s') d p W h
  simp only [e1, Bool.and_true] at SG
  have HT := Lib.hid T
  have HSG := Lib.hid SG
  clear T SG hp hpl ha0 hb0 hp0 e1 hu hv
  have L0 := Lib.hid (lay3_new w #[.bool s, .slice up ul uc] #[.bool s', .slice vp vl vc] #[.bool false, .slice none 0 0] 31 31 31)
  go_enter Tryz.func111, Tryz.ntmps111
  go_wp2_with fail
  generalize (((w.alloc (Obj.cells #[Value.bool s, Value.slice up ul uc] 31)).alloc (Obj.cells #[Value.bool s', Value.slice vp vl vc] 31)).alloc (Obj.cells #[Value.bool false, Value.slice none 0 0] 31)) = W0 at *
  have L1 := Lib.hid L0.out.drewN
  go_region_held3 (fun W => (W.cell? ⟨w.heap.size, 0, none⟩ = some (.bool s) ∧ W.cell? ⟨w.heap.size, 1, none⟩ = some (.slice up ul uc) ∧ W.cell? ⟨w.heap.size + 1, 0, none⟩ = some (.bool s') ∧ W.cell? ⟨w.heap.size + 1, 1, none⟩ = some (.slice vp vl vc)) ∧ Hid (∃ C, Lay3 w #[.bool s, .slice up ul uc] #[.bool s', .slice vp vl vc] C 31 31 31 W)) (first | exact sOf3 (T2.out.set _ _) | exact sOf3 T2.out | exact sOf3 T1.out | exact sOf3 L1.out) (first
    | (go_at_call 158; refine (HT.out _ ?_).mono ?_; exact L1.out.2.2.2; rintro e w1 ⟨d, rfl, hd, hb1⟩; obtain ⟨dp, dl, dc, rfl⟩ := hd.slice; have T1 := Lib.hid (L1.out.step hb1); have Hd := Lib.hid hd; clear hd hb1)
    | (go_at_call 90; refine (HSG.out _ _ Hd.out).mono ?_; rintro e w2 ⟨rfl, hb2⟩; have T2 := Lib.hid (T1.out.step hb2); have Hd2 := Lib.hid (Hd.out.below hb2); obtain ⟨c0, c1, f0, f1⟩ := T2.out.res; clear hb2))
  go_wp2
  refine bodyPost_ret (res_int rfl _ _ (w.heap.size + 1 + 1) _ _ _ (by rfl) (T2.out.set _ _).2.2.1) rfl ?_
  exact ⟨_, rfl, ⟨_, rfl, Hd2.out.set2 (off2 T2.out.2.2.1) _ _⟩, (T2.out.set _ _).2.2.2⟩
set_option maxRecDepth 100000 in
set_option maxHeartbeats 1000000 in
theorem iplus_pos (u v : Value) (s : Bool) (a b p : Nat) (w : World) (hu : WI w u s a) (hv : WI w v s b) (ha0 : 0 < a) (hb0 : 0 < b) (hp : a + b = p) (hpl : p < 18446744073709551616) :
    Calls Tryz.prog 108 #[u, v] w fun e w' => ∃ x, e = .returned x ∧ WI w' x s p ∧ Below w.heap.size w w' := by
  have hp0 : 0 < p := by omega
  obtain ⟨du, rfl, hu⟩ := hu
  obtain ⟨dv, rfl, hv⟩ := hv
  obtain ⟨up, ul, uc, rfl⟩ := hu.slice
  obtain ⟨vp, vl, vc, rfl⟩ := hv.slice
  have T := fun W (h : Below w.heap.size w W) => plus_pos _ _ a b p W (hu.below h) (hv.below h) ha0 hb0 hp hpl
  have e1 : decide (0 < p) = true := by simp [hp0]
  have SG : ∀ W d, Dig W d p → _ := fun W d h => signed_any s d p W h
  simp only [e1, Bool.and_true] at SG
  have HT := Lib.hid T
  have HSG := Lib.hid SG
  clear T SG hp hpl ha0 hb0 hp0 e1 hu hv
  have L0 := Lib.hid (lay3_new w #[.bool s, .slice up ul uc] #[.bool s, .slice vp vl vc] #[.bool false, .slice none 0 0] 31 31 31)
  go_enter Tryz.func108, Tryz.ntmps108
  go_wp2_with fail
  generalize (((w.alloc (Obj.cells #[Value.bool s, Value.slice up ul uc] 31)).alloc (Obj.cells #[Value.bool s, Value.slice vp vl vc] 31)).alloc (Obj.cells #[Value.bool false, Value.slice none 0 0] 31)) = W0 at *
  have L1 := Lib.hid L0.out.drewN
  go_region_held3 (fun W => (W.cell? ⟨w.heap.size, 0, none⟩ = some (.bool s) ∧ W.cell? ⟨w.heap.size, 1, none⟩ = some (.slice up ul uc) ∧ W.cell? ⟨w.heap.size + 1, 0, none⟩ = some (.bool s) ∧ W.cell? ⟨w.heap.size + 1, 1, none⟩ = some (.slice vp vl vc)) ∧ Hid (∃ C, Lay3 w #[.bool s, .slice up ul uc] #[.bool s, .slice vp vl vc] C 31 31 31 W)) (first | exact sOf3 (T2.out.set _ _) | exact sOf3 T2.out | exact sOf3 T1.out | exact sOf3 L1.out) (first
    | (go_at_call 121; refine (HT.out _ ?_).mono ?_; exact L1.out.2.2.2; rintro e w1 ⟨d, rfl, hd, hb1⟩; obtain ⟨dp, dl, dc, rfl⟩ := hd.slice; have T1 := Lib.hid (L1.out.step hb1); have Hd := Lib.hid hd; clear hd hb1)
    | (go_at_call 90; refine (HSG.out _ _ Hd.out).mono ?_; rintro e w2 ⟨rfl, hb2⟩; have T2 := Lib.hid (T1.out.step hb2); have Hd2 := Lib.hid (Hd.out.below hb2); obtain ⟨c0, c1, f0, f1⟩ := T2.out.res; clear hb2))
  go_wp2
  refine bodyPost_ret (res_int rfl _ _ (w.heap.size + 1 + 1) _ _ _ (by rfl) (T2.out.set _ _).2.2.1) rfl ?_
  exact ⟨_, rfl, ⟨_, rfl, Hd2.out.set2 (off2 T2.out.2.2.1) _ _⟩, (T2.out.set _ _).2.2.2⟩
end Go.Proofs.YtamhlkjfpdkhoaaGreatDoor
