/- WALK of Factors: the primes of a number. -/
import Derived.Test.YtamhlkjfpdkhoaaGreatDoorDivs
import Derived.Test.YtamhlkjfpdkhoaaGreatDoorRefF
namespace Go.Proofs.YtamhlkjfpdkhoaaGreatDoor
open Go.RowKit Go.Shelf
attribute [local go_sem] Oper.semAt_some

theorem owns_same {w w' : World} {base : Nat} {e : TypeId} {size n : Nat} {v : Value} {xs : List Value} (h : w.ownsRow base e size v n xs) (hk : ∀ g, v.ownBlock = some g → w'.heap[g]? = w.heap[g]?) : w'.ownsRow base e size v n xs := by
  refine ⟨h.1, ?_⟩
  rcases h.2 with h0 | ⟨g, cap, cur, rfl, h1, h2, h3⟩
  · exact .inl h0
  · exact .inr ⟨g, cap, cur, rfl, h1, (hk g rfl).trans h2, h3⟩

theorem owns_base {w : World} {base base' : Nat} {e : TypeId} {size n : Nat} {v : Value} {xs : List Value} (h : w.ownsRow base e size v n xs) (hk : ∀ g, v.ownBlock = some g → base' ≤ g) : w.ownsRow base' e size v n xs := by
  refine ⟨h.1, ?_⟩
  rcases h.2 with h0 | ⟨g, cap, cur, rfl, h1, h2, h3⟩
  · exact .inl h0
  · exact .inr ⟨g, cap, cur, rfl, hk g rfl, h2, h3⟩

theorem owns_size {w : World} {base : Nat} {e : TypeId} {size n : Nat} {v : Value} {xs : List Value} (h : w.ownsRow base e size v n xs) {g : Nat} (hg : v.ownBlock = some g) : base ≤ g ∧ g < w.heap.size := h.lt g hg

theorem owns_slice {w : World} {base : Nat} {e : TypeId} {size n : Nat} {v : Value} {xs : List Value} (h : w.ownsRow base e size v n xs) : ∃ p c, v = .slice p n c := by
  rcases h.2 with ⟨h0, h1⟩ | ⟨g, cap, cur, h0, _⟩
  · exact ⟨none, 0, by rw [h0, h1]⟩
  · exact ⟨_, _, h0⟩

/-- The variable in the first block holds a slice that owns the first k pairs, in a block out of the iterator's way. -/
def FMid (L : List (Nat × Nat)) (W : World) (k : Nat) (X : World) : Prop :=
  ∃ v, Boxed X W.heap.size 106 v ∧ X.ownsRow (W.heap.size + 8) 114 2 v k (pairs (L.take k)) ∧ k ≤ L.length ∧ Below W.heap.size W X ∧ W.heap.size + 2 ≤ X.heap.size

theorem FMid.abides {L : List (Nat × Nat)} {W : World} : Ab (W.heap.size + 2) 6 (FMid L W) := by
  rintro k X Y ⟨v, h1, h2, h3, h4, h5⟩ hA
  refine ⟨v, (hA.block _ h1.lt (by omega)).trans h1, owns_same h2 fun g hg => hA.block g (owns_size h2 hg).2 (by have := (owns_size h2 hg).1; omega), h3, h4.trans ((hA.below h5).mono (by omega)), Nat.le_trans h5 hA.size⟩

theorem pairs_take {L : List (Nat × Nat)} {k p e : Nat} (hk : k < L.length) (h : L.getD k (0, 0) = (p, e)) : pairs (L.take (k + 1)) = pairs (L.take k) ++ [.int .i64 (p : Int), .int .i64 (e : Int)] := by
  have : L[k]? = some (p, e) := by rw [List.getD_eq_getElem?_getD] at h; rw [List.getElem?_eq_getElem hk] at h ⊢; simpa using h
  rw [List.take_add_one, this]; exact pairs_snoc _ _ _

set_option maxRecDepth 100000 in
set_option maxHeartbeats 1000000 in
theorem Factors_any (L : List (Nat × Nat)) (W : World) (hL : Rise 1 L) (hle : facs L ≤ 1000000000000) :
    Calls Tryz.prog 76 #[.int .i64 (facs L)] W fun e W' => ∃ v, e = .returned (.tuple #[v, .int .i64 0]) ∧ W'.ownsRow W.heap.size 114 2 v L.length (pairs L) ∧ Below W.heap.size W W' := by
  have hpos := facs_pos L 1 hL
  have H : isMod (facs L : Int) = true := isMod_yes (by omega) (by omega)
  refine (callsIn_wide (n := 3)).1 ?_
  refine callsIn_of_wp_marks Tryz.func76 rfl trivial ?_ rfl
  simp only [Tryz.ntmps76, List.size_toArray, List.length_cons, List.length_nil, Nat.reduceAdd, Nat.reduceSub, Array.replicate_succ, Array.replicate_zero, List.push_toArray, List.append_toArray, List.nil_append, List.cons_append]
  obtain ⟨m, hm⟩ : ∃ m, facs L = m := ⟨_, rfl⟩
  rw [hm] at H hle hpos ⊢
  have HM := Lib.hid hm
  clear hm
  gi_wp2_with (first | (refine ⟨trivial, ?_⟩; gi_at_call 133; refine (callsIn_wide.2 (isModulus_any _ _)).mono ?_; rintro e w' ⟨rfl, rfl⟩) | (refine ⟨trivial, ?_⟩; gi_at_call 140; refine (callsIn_wide.2 (primesOf_any _ _)).mono ?_; rintro e w' ⟨rfl, rfl⟩))
  obtain ⟨w3, hw3⟩ : ∃ w3, (W.alloc (Obj.cells #[Value.slice none 0 0] 106)).alloc (Obj.cells #[Value.int IntKind.i64 ↑m] 2) = w3 := ⟨_, rfl⟩
  rw [hw3]
  have hs3 : w3.heap.size = W.heap.size + 2 := by rw [← hw3]; simp
  have hbel : Below W.heap.size W w3 := by
    rw [← hw3]; exact ((Below.refl _ W).alloc (Nat.le_refl _) _).alloc (by simp) _
  have hx1 : Boxed w3 W.heap.size 106 (.slice none 0 0) := by
    rw [← hw3]; exact (Boxed.new W 106 (.slice none 0 0)).alloc _
  have hx2 : Boxed w3 (W.heap.size + 1) 2 (.int .i64 m) := by
    have := Boxed.new (W.alloc (Obj.cells #[Value.slice none 0 0] 106)) 2 (Value.int IntKind.i64 ↑m)
    rw [World.size_alloc] at this
    rw [← hw3]; exact this
  clear hw3
  have hL40 : L.length < 40 := rise_short hL (by rw [HM.out]; exact hle)
  refine range_law_at (D := W.heap.size + 2) (n := 3) (gf := 176) (lb := #[.pointer (some ⟨W.heap.size + 1, 0, none⟩)]) (c := 4) (N := L.length) (M := 1000) (enc := fun k => #[.int .i64 (L.getD k (0, 0)).1, .int .i64 (L.getD k (0, 0)).2]) (Rd := fun k => k < L.length) (Fin := fun k => k = L.length) hs3 rfl (enters_of Tryz.func176 (by kernel_rfl) rfl) (fun _ => rfl)
    (fun W1 hA hsz => primesOf1_iter 2 (W.heap.size + 1) L W1 hL (by rw [HM.out]; exact hle) (by omega) (by rw [HM.out]; exact (box_aside hx2 hA (by omega)).cell)) (by omega)
    (FMid L W) (fun _ _ _ => False) FMid.abides (fun _ _ _ _ h _ => h) ?start (fun k X h => by obtain ⟨_, _, _, h, _⟩ := h; exact h)
    (fun k => { tmps := #[Value.int IntKind.i64 ↑m, undef, Value.slice none 0 0, Value.int IntKind.i64 0, Value.pointer (some { block := W.heap.size, off := 0 }), .int .i64 (L.getD k (0, 0)).1, .int .i64 (L.getD k (0, 0)).2, Value.int IntKind.i64 ↑m, Value.bool true, Value.bool false, Value.int IntKind.i64 ↑m, Value.func (Fn.func 176) #[] #[Value.pointer (some { block := W.heap.size + 1, off := 0 })], .int .i64 (L.getD k (0, 0)).1, .int .i64 (L.getD k (0, 0)).2, undef, undef, undef, undef, undef, undef, undef], defers := [] })
    ?assign ?body ?done (fun _ _ _ h => h.elim)
  case start =>
    exact ⟨_, hx1, ⟨rfl, .inl ⟨rfl, rfl⟩⟩, Nat.zero_le _, hbel, by omega⟩
  case assign =>
    intro l' k X K hK
    generalize L.getD k (0, 0) = a at hK ⊢
    gi_wp2
    exact hK
  case body =>
    rintro l' k X hk ⟨v, hbx, hown, _, hbl, hsz⟩ hsz4
    obtain ⟨p, e, hpe⟩ : ∃ p e, L.getD k (0, 0) = (p, e) := ⟨_, _, rfl⟩
    have hnext := Lib.hid (pairs_take hk hpe)
    rw [hpe]
    dsimp only
    obtain ⟨i0, hi, hz0, hz1, hz2⟩ := info_parts infoPair
    have hc1 := hbx.cell
    have Hbx := Lib.hid hbx
    have Hown := Lib.hid hown
    have Hbl := Lib.hid hbl
    have Hsz := Lib.hid hsz4
    have Hk := Lib.hid hk
    have B1 : Hid (k + 1 ≤ maxLen) := Lib.hid (by unfold maxLen; omega)
    have B2 : Hid ((k + 1) * 16 ≤ 140737488355328) := Lib.hid (by omega)
    clear hbx hown hbl hsz hsz4 hk hpe hL hle hpos hL40
    gi_wp2_with (gi_at_builtin; (refine wpListIn_append_own _ rfl _ _ 106 rfl (W.heap.size + 8) 114 i0 (.agg #[.int .i64 0, .int .i64 0]) 2 16 Tryz.underlying106 hi hz0 hz1 hz2 rfl (by decide) v k (pairs (L.take k)) rfl (Hown.out.alloc _) ⟨X.heap.size, 0, none⟩ 1 1 [.int .i64 (p : Int), .int .i64 (e : Int)] rfl rfl (cell_two_new _ _ _ _) (fun x hx => by simp at hx; rcases hx with rfl | rfl <;> rfl) B1.out B2.out (by have := Hsz.out; simp; omega) ?_; intro v' w4 hown4 hgrow4 _; obtain ⟨vp, vc, rfl⟩ := owns_slice hown4; have HO4 := Lib.hid hown4; have HG4 := Lib.hid hgrow4; have hbx4 : Boxed w4 W.heap.size 106 v := (HG4.out.block W.heap.size (by have := Hsz.out; simp; omega) (fun hh => by have := (owns_size Hown.out hh.symm).1; omega)).trans ((Below.heap_alloc X _ _ (by have := Hsz.out; omega)).trans Hbx.out); have HB4 := Lib.hid hbx4; have hbc4 := hbx4.cell; have hbf4 := hbx4.frozen; clear hown4 hgrow4 hbx4))
    have hblk : ∀ b, b < X.heap.size → some b ≠ v.ownBlock → w4.heap[b]? = X.heap[b]? := fun b hb hne => (HG4.out.block b (by simp; omega) hne).trans (Below.heap_alloc X _ b hb)
    have hset : ∀ b, b ≠ W.heap.size → (w4.setCell ⟨W.heap.size, 0, none⟩ (.slice vp (k + 1) vc)).heap[b]? = w4.heap[b]? := fun b hb => Below.heap_setCell _ _ _ _ hb
    have hsz4 : X.heap.size ≤ w4.heap.size := by have := HG4.out.size; simp at this; omega
    have hS := Hsz.out
    refine ⟨⟨by simp [World.setCell]; exact hsz4, fun b h1 h2 h3 => (hset b (by omega)).trans (hblk b h3 fun hh => by have := (owns_size Hown.out hh.symm).1; omega)⟩, _, HB4.out.set _, ?_, Hk.out, ?_, by simp [World.setCell]; omega⟩
    · rw [hnext.out]
      exact owns_same HO4.out fun g hg => hset g (by have := (owns_size HO4.out hg).1; omega)
    · have b4 : Below W.heap.size X w4 := ((Below.refl _ X).alloc (by omega) _).grown HG4.out (by simp; omega) fun g hg => by have := (owns_size Hown.out hg).1; omega
      exact Hbl.out.trans (b4.setCell (p := ⟨W.heap.size, 0, none⟩) (Nat.le_refl _) _)
  case done =>
    rintro k X rfl ⟨v, hbx, hown, _, hbl, hsz⟩ hd
    have hc1 := hbx.cell
    have Hd := Lib.hid hd
    have Ho := Lib.hid hown
    have Hbl := Lib.hid hbl
    have Hs := Lib.hid hsz
    clear hd hown hbl hsz hbx
    gi_wp2
    have hlt := (Array.getElem?_eq_some_iff.1 Hd.out).1
    refine ⟨by simp, .inl ⟨_, _, rfl, run_takeDeferred Hd.out, ?_⟩⟩
    refine ⟨_, results_tmp2 rfl _ _ _, v, rfl, ?_, ?_⟩
    · have h1 := Ho.out
      rw [List.take_length] at h1
      exact owns_base (owns_same h1 fun g hg => World.putObj_heap_other (by have := (owns_size h1 hg).1; omega)) fun g hg => by have := (owns_size h1 hg).1; omega
    · exact Hbl.out.trans ((Aside.putObj (B := W.heap.size) (c := 4) X _ (by omega) (by omega)).below (by have := Hs.out; omega))
end Go.Proofs.YtamhlkjfpdkhoaaGreatDoor
