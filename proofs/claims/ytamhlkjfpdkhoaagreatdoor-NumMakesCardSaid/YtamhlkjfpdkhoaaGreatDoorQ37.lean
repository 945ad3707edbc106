/- WALK of Divisors: all divisors of a number. -/
import Derived.Test.YtamhlkjfpdkhoaaGreatDoorQ2
import Derived.Test.YtamhlkjfpdkhoaaGreatDoorQ4
import Derived.Test.YtamhlkjfpdkhoaaGreatDoorQ36
import Derived.Maps.AppendAt
set_option linter.unusedVariables false
namespace Go.Proofs.YtamhlkjfpdkhoaaGreatDoor
open Go.RowKit Go.Shelf
attribute [local go_sem] Oper.semAt_some

theorem info64 : (Tryz.prog.info? 2).map (fun i => (i.zero, i.size, i.bytes)) = some (some (.int .i64 0), 1, 8) := by kernel_rfl

/-- The variable in block S + 1 holds a slice that owns these numbers, in a block out of the iterator's way. -/
def Rows (S : Nat) (X : World) (ds : List Nat) (g cap : Nat) : Prop :=
  Boxed X (S + 1) 109 (.slice (some ⟨g, 0, none⟩) ds.length cap) ∧ X.ownsRow S 2 1 (.slice (some ⟨g, 0, none⟩) ds.length cap) ds.length (ds.map enc) ∧ (g = S ∨ S + 9 ≤ g)

theorem owns_aside {B c base n cap g : Nat} {e : TypeId} {size : Nat} {xs : List Value} {w w' : World} (h : w.ownsRow base e size (.slice (some ⟨g, 0, none⟩) n cap) n xs) (hA : Aside B c w w') (hg : g < B ∨ B + c ≤ g) : w'.ownsRow base e size (.slice (some ⟨g, 0, none⟩) n cap) n xs := by
  refine ⟨h.1, .inr ?_⟩
  rcases h.2 with ⟨h0, _⟩ | ⟨g', cap', cur, h0, h1, h2, h3⟩
  · simp at h0
  · have := h0
    simp only [Value.slice.injEq, Option.some.injEq, Addr.mk.injEq, and_true, true_and] at this
    obtain ⟨rfl, rfl⟩ := this
    exact ⟨g, cap, cur, rfl, h1, (hA.block g (Array.getElem?_eq_some_iff.1 h2).1 hg).trans h2, h3⟩

theorem owns_block {base n cap g : Nat} {e : TypeId} {size : Nat} {xs : List Value} {w w' : World} (h : w.ownsRow base e size (.slice (some ⟨g, 0, none⟩) n cap) n xs) (hA : w'.heap[g]? = w.heap[g]?) : w'.ownsRow base e size (.slice (some ⟨g, 0, none⟩) n cap) n xs := by
  refine ⟨h.1, .inr ?_⟩
  rcases h.2 with ⟨h0, _⟩ | ⟨g', cap', cur, h0, h1, h2, h3⟩
  · simp at h0
  · have := h0
    simp only [Value.slice.injEq, Option.some.injEq, Addr.mk.injEq, and_true, true_and] at this
    obtain ⟨rfl, rfl⟩ := this
    exact ⟨g, cap, cur, rfl, h1, hA.trans h2, h3⟩

theorem owns_lt {base n cap g : Nat} {e : TypeId} {size : Nat} {xs : List Value} {w : World} (h : w.ownsRow base e size (.slice (some ⟨g, 0, none⟩) n cap) n xs) : g < w.heap.size := by
  rcases h.2 with ⟨h0, _⟩ | ⟨g', cap', cur, h0, h1, h2, h3⟩
  · simp at h0
  · simp only [Value.slice.injEq, Option.some.injEq, Addr.mk.injEq, and_true, true_and] at h0
    obtain ⟨rfl, rfl⟩ := h0
    exact (Array.getElem?_eq_some_iff.1 h2).1

/-- One number more: behind the append and the store. -/
theorem step_rows {S g1 cap1 g' cap' g : Nat} {X wr w1 : World} {cur xs : List Nat} {x : Nat} {tmp : Obj} (h : Rows S wr cur g1 cap1) (hX : S + 9 ≤ wr.heap.size)
    (hown : w1.ownsRow S 2 1 (.slice (some ⟨g', 0, none⟩) (cur.length + 1) cap') (cur.length + 1) (cur.map enc ++ [enc x])) (hkeep : w1.ownsRow S 2 1 (.slice (some ⟨g1, 0, none⟩) cur.length cap1) cur.length (cur.map enc))
    (hgrow : (wr.alloc tmp).grownBy w1 (some g1)) (hg' : g' = g1 ∨ (wr.alloc tmp).heap.size ≤ g')
    (hpre : ∃ r, cur = xs ++ r) (hold : ∀ j u, (xs.map enc)[j]? = some u → wr.cell? ((⟨g, 0, none⟩ : Addr).add j) = some u) (hgl : g < wr.heap.size) (hgS : g ≠ S + 1) (hkp : Keep (S + 3) 6 X wr) (hXs : S + 9 ≤ X.heap.size) {W : World} (hW : W.heap.size = S) (hbw : Below S W wr) :
    Rows S (w1.setCell ⟨S + 1, 0, none⟩ (.slice (some ⟨g', 0, none⟩) (cur.length + 1 : Nat) cap')) (cur ++ [x]) g' cap' ∧
    (∀ j u, (xs.map enc)[j]? = some u → (w1.setCell ⟨S + 1, 0, none⟩ (.slice (some ⟨g', 0, none⟩) (cur.length + 1 : Nat) cap')).cell? ((⟨g, 0, none⟩ : Addr).add j) = some u) ∧
    Keep (S + 3) 6 X (w1.setCell ⟨S + 1, 0, none⟩ (.slice (some ⟨g', 0, none⟩) (cur.length + 1 : Nat) cap')) ∧
    Below S W (w1.setCell ⟨S + 1, 0, none⟩ (.slice (some ⟨g', 0, none⟩) (cur.length + 1 : Nat) cap')) := by
  obtain ⟨hb, ho, hg1⟩ := h
  have hsz : (wr.alloc tmp).heap.size = wr.heap.size + 1 := by simp
  have hs1 := hgrow.size
  have blk : ∀ i, i < wr.heap.size → i ≠ g1 → w1.heap[i]? = wr.heap[i]? := fun i h1 h2 => by
    rw [hgrow.block i (by omega) (fun e => h2 (by cases e; rfl))]; exact Below.heap_alloc wr tmp i h1
  have hb1 : Boxed w1 (S + 1) 109 (.slice (some ⟨g1, 0, none⟩) cur.length cap1) := (blk (S + 1) hb.lt (by omega)).trans hb
  have hgn : g' ≠ S + 1 := by omega
  have add0 : ∀ (g j : Nat), ((⟨g, 0, none⟩ : Addr).add j).block = g := fun g j => by
    by_cases hj : j = 0
    · subst hj; simp [Addr.add]
    · simp [Addr.add, hj]
  refine ⟨⟨?_, ?_, by omega⟩, ?_, ?_, ?_⟩
  · have := Boxed.set (.slice (some ⟨g', 0, none⟩) (cur.length + 1 : Nat) cap') hb1
    simpa using this
  · have := owns_block hown (Below.heap_setCell w1 ⟨S + 1, 0, none⟩ (.slice (some ⟨g', 0, none⟩) (cur.length + 1 : Nat) cap') g' hgn)
    simpa using this
  · intro j u hu
    rw [World.cell?_of_block (w := w1) (Below.heap_setCell _ _ _ _ (by rw [add0]; exact hgS))]
    by_cases hgg : g = g1
    · subst hgg
      refine owns_cells hkeep j u ?_
      obtain ⟨r, rfl⟩ := hpre
      rw [List.map_append, List.getElem?_append_left (by have := (List.getElem?_eq_some_iff.1 hu).1; exact this)]
      exact hu
    · rw [World.cell?_of_block (w := wr) (by rw [add0]; exact blk g hgl hgg)]
      exact hold j u hu
  · refine ⟨by have := hkp.size; simp [World.setCell]; omega, fun i h1 h2 h3 => ?_⟩
    rw [Below.heap_setCell _ _ _ _ (by simp; omega), blk i (by have := hkp.size; omega) (by omega)]
    exact hkp.block i h1 h2 h3
  · have a1 : Below S W (wr.alloc tmp) := hbw.alloc (by omega) _
    have a2 := a1.grown hgrow (by omega) (fun i e => by cases e; omega)
    exact a2.setCell (by simp) _

theorem box_behind {S g1 cap1 : Nat} {wr w1 : World} {cur : List Nat} {tmp : Obj} (h : Rows S wr cur g1 cap1) (hgrow : (wr.alloc tmp).grownBy w1 (some g1)) : Boxed w1 (S + 1) 109 (.slice (some ⟨g1, 0, none⟩) cur.length cap1) := by
  obtain ⟨hb, ho, hg1⟩ := h
  have := hb.lt
  refine (hgrow.block (S + 1) (by simp; omega) (fun e => ?_)).trans (hb.alloc tmp)
  cases e
  omega

/-- Between two primes. -/
def DMid (L : List (Nat × Nat)) (W : World) (k : Nat) (X : World) : Prop :=
  ∃ ds g cap, Rows W.heap.size X ds g cap ∧ k ≤ L.length ∧ Few (facs L) (L.drop k) ds ∧ dvs (L.drop k) ds = dvs L [1] ∧ Below W.heap.size W X ∧ W.heap.size + 3 ≤ X.heap.size

theorem DMid.abides {L : List (Nat × Nat)} {W : World} : Ab (W.heap.size + 3) 6 (DMid L W) := by
  rintro k X Y ⟨ds, g, cap, ⟨h1, h2, h3⟩, h4, h5, h6, h7, h8⟩ hA
  exact ⟨ds, g, cap, ⟨(hA.block _ h1.lt (by omega)).trans h1, owns_aside h2 hA (by omega), h3⟩, h4, h5, h6, h7.trans ((hA.below h8).mono (by omega)), Nat.le_trans h8 hA.size⟩

set_option maxHeartbeats 1000000 in
theorem Divisors_any (L : List (Nat × Nat)) (W : World) (hL : Rise 1 L) (hle : facs L ≤ 1000000000000) :
    Calls Tryz.prog 77 #[.int .i64 (facs L)] W fun e W' => ∃ (g cap : Nat) (ds : List Nat), e = .returned (.tuple #[.slice (some ⟨g, 0, none⟩) ds.length cap, .int .i64 0]) ∧ ds.Perm (dvs L [1]) ∧ ds.Pairwise (· ≤ ·) ∧ W'.ownsRow W.heap.size 2 1 (.slice (some ⟨g, 0, none⟩) ds.length cap) ds.length (ds.map enc) ∧ Below W.heap.size W W' := by
  have hpos := facs_pos L 1 hL
  have H : isMod (facs L : Int) = true := isMod_yes (by omega) (by omega)
  refine (callsIn_wide (n := 3)).1 ?_
  refine callsIn_of_wp_marks Tryz.func77 rfl trivial ?_ rfl
  simp only [Tryz.ntmps77, List.size_toArray, List.length_cons, List.length_nil, Nat.reduceAdd, Nat.reduceSub, Array.replicate_succ, Array.replicate_zero, List.push_toArray, List.append_toArray, List.nil_append, List.cons_append]
  obtain ⟨m, hm⟩ : ∃ m, facs L = m := ⟨_, rfl⟩
  rw [hm] at H hle hpos ⊢
  have HM := Lib.hid hm
  clear hm
  gi_wp2_with (first | (refine ⟨trivial, ?_⟩; gi_at_call 133; refine (callsIn_wide.2 (isModulus_any _ _)).mono ?_; rintro e w' ⟨rfl, rfl⟩) | (refine ⟨trivial, ?_⟩; gi_at_call 140; refine (callsIn_wide.2 (primesOf_any _ _)).mono ?_; rintro e w' ⟨rfl, rfl⟩))
  obtain ⟨w3, hw3⟩ : ∃ w3, ((W.alloc (Obj.cells #[Value.int IntKind.i64 1] 2)).alloc (Obj.cells #[Value.slice (some { block := W.heap.size, off := 0 }) 1 1] 109)).alloc (Obj.cells #[Value.int IntKind.i64 ↑m] 2) = w3 := ⟨_, rfl⟩
  rw [hw3]
  have hs3 : w3.heap.size = W.heap.size + 3 := by rw [← hw3]; simp
  have hbel : Below W.heap.size W w3 := by
    rw [← hw3]; exact (((Below.refl _ W).alloc (Nat.le_refl _) _).alloc (by simp) _).alloc (by simp; omega) _
  have hx0 : w3.heap[W.heap.size]? = some (.cells #[Value.int IntKind.i64 1] 2 (0, 0)) := by
    rw [← hw3, Below.heap_alloc _ _ _ (by simp; omega), Below.heap_alloc _ _ _ (by simp)]; exact World.alloc_heap_new _ _
  have hx1 : Boxed w3 (W.heap.size + 1) 109 (.slice (some ⟨W.heap.size, 0, none⟩) 1 1) := by
    have := Boxed.new (W.alloc (Obj.cells #[Value.int IntKind.i64 1] 2)) 109 (Value.slice (some { block := W.heap.size, off := 0 }) 1 1)
    rw [World.size_alloc] at this
    rw [← hw3]; exact this.alloc _
  have hx2 : Boxed w3 (W.heap.size + 2) 2 (.int .i64 m) := by
    have := Boxed.new ((W.alloc (Obj.cells #[Value.int IntKind.i64 1] 2)).alloc (Obj.cells #[Value.slice (some { block := W.heap.size, off := 0 }) 1 1] 109)) 2 (Value.int IntKind.i64 ↑m)
    rw [World.size_alloc, World.size_alloc] at this
    rw [← hw3]; exact this
  have hrow : w3.ownsRow W.heap.size 2 1 (.slice (some ⟨W.heap.size, 0, none⟩) 1 1) 1 ([1].map enc) :=
    ⟨rfl, .inr ⟨W.heap.size, 1, #[Value.int IntKind.i64 1], rfl, Nat.le_refl _, hx0, Nat.le_refl _, by simp [maxLen], rfl, rfl⟩⟩
  clear hw3
  refine range_law_at (D := W.heap.size + 3) (n := 3) (gf := 176) (lb := #[.pointer (some ⟨W.heap.size + 2, 0, none⟩)]) (c := 4) (N := L.length) (M := 1000) (enc := fun k => #[.int .i64 (L.getD k (0, 0)).1, .int .i64 (L.getD k (0, 0)).2]) (Rd := fun k => k < L.length) (Fin := fun k => k = L.length) hs3 rfl (enters_of Tryz.func176 (by kernel_rfl) rfl) (fun _ => rfl)
    (fun W1 hA hsz => primesOf1_iter 2 (W.heap.size + 2) L W1 hL (by rw [HM.out]; exact hle) (by omega) (by rw [HM.out]; exact (box_aside hx2 hA (by omega)).cell)) (by have := rise_short hL (by rw [HM.out]; exact hle); omega)
    (DMid L W) (fun _ _ _ => False) DMid.abides (fun _ _ _ _ h _ => h) ?start (fun k X h => by obtain ⟨_, _, _, _, h, _⟩ := h; exact h)
    (fun k => { tmps := #[Value.int IntKind.i64 ↑m, undef, Value.slice none 0 0, Value.int IntKind.i64 0, Value.pointer (some { block := W.heap.size + 1, off := 0 }), .int .i64 (L.getD k (0, 0)).1, .int .i64 (L.getD k (0, 0)).2, undef, undef, undef, undef, Value.int IntKind.i64 ↑m, Value.bool true, Value.bool false, Value.slice (some { block := W.heap.size, off := 0 }) 1 1, Value.int IntKind.i64 ↑m, Value.func (Fn.func 176) #[] #[Value.pointer (some { block := W.heap.size + 1 + 1, off := 0 })], .int .i64 (L.getD k (0, 0)).1, .int .i64 (L.getD k (0, 0)).2, undef, undef, undef, undef, undef, undef, undef, undef, undef, undef, undef, undef, undef, undef, undef, undef, undef, undef, undef, undef, undef, undef, undef, undef], defers := [] })
    ?assign ?body ?done (fun _ _ _ h => h.elim)
  case start =>
    refine ⟨[1], W.heap.size, 1, ⟨hx1, hrow, .inl rfl⟩, Nat.zero_le _, ?_, rfl, hbel, by omega⟩
    refine ⟨?_, ?_, ?_⟩ <;> simp
  case assign =>
    intro l' k X K hK
    generalize L.getD k (0, 0) = a at hK ⊢
    gi_wp2
    exact hK
  case body =>
    rintro l' k X hk ⟨ds, g, cap, ⟨hbx, hown, hg⟩, _, hfew, hdv, hbl, hsz⟩ hsz4
    obtain ⟨p, e, hpe⟩ : ∃ p e, L.getD k (0, 0) = (p, e) := ⟨_, _, rfl⟩
    have hdrop : L.drop k = (p, e) :: L.drop (k + 1) := by
      rw [List.drop_eq_getElem_cons hk, ← hpe]; simp [List.getD, hk]
    rw [hpe]
    dsimp only
    obtain ⟨b', hrise⟩ := rise_drop k hL
    rw [hdrop] at hfew hdv hrise
    obtain ⟨hsm, hln, hfew2⟩ := hfew.small hrise
    obtain ⟨_, hp, he, hrs⟩ := hrise
    rw [HM.out] at hsm hln hfew2
    have hp2 := hp.1
    have hold := owns_cells hown
    have hc1 := hbx.cell
    have hgl := owns_lt hown
    have hpe0 : p ^ e ≤ m := by
      have h1 : p ^ e ≤ p ^ e * facs (L.drop (k + 1)) := Nat.le_mul_of_pos_right _ (facs_pos _ _ hrs)
      have h2 := hfew.2.1
      rw [HM.out] at h2
      have h3 : 1 * (p ^ e * facs (L.drop (k + 1))) ≤ ds.length * facs ((p, e) :: L.drop (k + 1)) := Nat.mul_le_mul hfew.2.2 (Nat.le_refl _)
      omega
    have he40 : e < 40 := power_small (u := 1) hp2 (Nat.le_trans hpe0 hle) (Nat.pow_pos (by omega)) (Nat.mul_one _)
    have hlen0 := hfew.2.2
    obtain ⟨i0, hi, hz0, hz1, hz2⟩ := info_parts info64
    gi_wp2
    gi_loopw [8, 21] (fun f c wr => ∃ t g' cap', c = .int .i64 (t : Nat) ∧ f = .int .i64 (p ^ t : Nat) ∧ t ≤ e ∧ Rows W.heap.size wr (ext p ds t) g' cap' ∧ (∀ j u, (ds.map enc)[j]? = some u → wr.cell? ((⟨g, 0, none⟩ : Addr).add j) = some u) ∧ Keep (W.heap.size + 3) 6 X wr ∧ Below W.heap.size W wr) (fun _ c _ => e - (intOf c).toNat)
    case atStart => exact ⟨0, g, cap, rfl, by simp, Nat.zero_le _, ⟨hbx, hown, hg⟩, hold, ⟨Nat.le_refl _, fun _ _ _ _ => rfl⟩, hbl⟩
    case round =>
      obtain ⟨t, g1, cap1, rfl, rfl, ht, hrows, holdw, hkp, hbw⟩ := hrel
      obtain ⟨wo, rfl⟩ : ∃ wo : World, wo = wr := ⟨_, rfl⟩
      by_cases hte : t < e
      · obtain ⟨f, hf⟩ : ∃ f, p ^ t = f := ⟨_, rfl⟩
        rw [hf]
        obtain ⟨f2, hf2⟩ : ∃ f2, p ^ (t + 1) = f2 := ⟨_, rfl⟩
        have hff : f * p = f2 := by rw [← hf, ← hf2, Nat.pow_succ]
        have hf2le : f2 ≤ m := by rw [← hf2]; exact Nat.le_trans (Nat.pow_le_pow_right (by omega) hte) hpe0
        have E1 : (f : Int) * (p : Int) = (f2 : Int) := by rw [← hff]; exact (Int.natCast_mul _ _).symm
        have Hf := Lib.hid hf
        have Hf2 := Lib.hid hf2
        clear hf hf2 hff
        have hnle := hln e (Nat.le_refl _)
        gi_wp2
        gi_loopw [28] (fun c wr2 => ∃ j g2 cap2, c = .int .i64 (j : Nat) ∧ j ≤ ds.length ∧ Rows W.heap.size wr2 (ext p ds t ++ (ds.take j).map (· * f2)) g2 cap2 ∧ (∀ j u, (ds.map enc)[j]? = some u → wr2.cell? ((⟨g, 0, none⟩ : Addr).add j) = some u) ∧ Keep (W.heap.size + 3) 6 X wr2 ∧ Below W.heap.size W wr2) (fun c _ => ds.length - (intOf c).toNat)
        case atStart => exact ⟨0, g1, cap1, rfl, Nat.zero_le _, by simpa using hrows, holdw, hkp, hbw⟩
        case round =>
          clear hrows holdw hkp hbw
          obtain ⟨j, g2, cap2, rfl, hj, hrows, holdw, hkp, hbw⟩ := hrel
          by_cases hjl : j < ds.length
          · have hd0 : (ds.map enc)[j]? = some (enc (ds[j])) := by simp [hjl]
            have hcell := holdw j _ hd0
            have hadd : (⟨g, 0, none⟩ : Addr).add j = ⟨g, j, none⟩ := by
              by_cases h0 : j = 0
              · subst h0; simp [Addr.add]
              · simp [Addr.add, h0]
            rw [hadd] at hcell
            have hdm : ds[j] * f2 ≤ m := by rw [← Hf2.out]; exact hsm _ (List.getElem_mem hjl) _ hte
            have htake : (ds.take (j + 1)) = ds.take j ++ [ds[j]] := List.take_succ_eq_append_getElem hjl
            obtain ⟨d, hd⟩ : ∃ d, ds[j] = d := ⟨_, rfl⟩
            rw [hd] at hcell hdm htake
            clear hd0 hd hadd
            have E2 : (d : Int) * (f2 : Int) = ((d * f2 : Nat) : Int) := (Int.natCast_mul _ _).symm
            obtain ⟨x, hx⟩ : ∃ x, d * f2 = x := ⟨_, rfl⟩
            rw [hx] at E2 hdm
            obtain ⟨cur, hcur⟩ : ∃ cur, ext p ds t ++ (ds.take j).map (· * f2) = cur := ⟨_, rfl⟩
            rw [hcur] at hrows
            have hpre : ∃ r, cur = ds ++ r := by
              obtain ⟨r, hr⟩ := ext_prefix p ds t
              exact ⟨r ++ (ds.take j).map (· * f2), by rw [← hcur, hr, List.append_assoc]⟩
            have hcl : cur.length + 1 ≤ m := by
              have h1 := hln (t + 1) hte
              rw [← hcur, List.length_append, length_ext, List.length_map, List.length_take]
              rw [Nat.mul_succ] at h1
              omega
            have hnext : ext p ds t ++ (ds.take (j + 1)).map (· * f2) = cur ++ [x] := by
              rw [htake, List.map_append, ← List.append_assoc, hcur]; simp [hx]
            have HN := Lib.hid hnext
            have HT := Lib.hid htake
            have HC := Lib.hid hcur
            have HX := Lib.hid hx
            clear hnext htake hcur hx
            have hbx2 := hrows.1.cell
            have hbf2 := hrows.1.frozen
            have hown2 := hrows.2.1
            have hszw : W.heap.size + 9 ≤ wr.heap.size := by have := hkp.size; omega
            have hdl : (ds.length : Int) ≤ 1000000000000 := by
              have h1 := hln 0 (Nat.zero_le _)
              simp at h1; omega
            have hxI : (x : Int) ≤ 1000000000000 := by omega
            have hjI : (j : Int) < (ds.length : Int) := by omega
            have B1 : Hid (cur.length + 1 ≤ maxLen) := Lib.hid (by unfold maxLen; omega)
            have B2 : Hid ((cur.length + 1) * 8 ≤ 140737488355328) := Lib.hid (by omega)
            have B3 : Hid (W.heap.size ≤ wr.heap.size + 1) := Lib.hid (by omega)
            have Hrows := Lib.hid hrows
            have Hold := Lib.hid holdw
            have Hkp := Lib.hid hkp
            have Hbw := Lib.hid hbw
            have Hpre := Lib.hid hpre
            have Hown := Lib.hid hown2
            have Hz := Lib.hid hszw
            have Hall := Lib.hid (And.intro hsm (And.intro hln (And.intro hfew2 (And.intro hold (And.intro hfew hdv)))))
            have Hnum := Lib.hid (And.intro hle (And.intro hdm (And.intro hcl (And.intro hpe0 (And.intro hnle hf2le)))))
            have Hg := Lib.hid (And.intro hgl (And.intro hg hsz4))
            have Hi := Lib.hid (And.intro hi (And.intro hz0 (And.intro hz1 hz2)))
            clear hrows holdw hkp hbw hpre hown2 hszw hsm hln hfew2 hold hfew hdv hle hdm hcl hpe0 hnle hf2le hgl hg hsz4 hc1 hbx hown hbl hsz hi hz0 hz1 hz2
            gi_wp2_with (gi_at_builtin; (refine wpListIn_append_keeps _ rfl _ _ 109 rfl W.heap.size 2 i0 (.int .i64 0) 1 8 Tryz.underlying109 Hi.out.1 Hi.out.2.1 Hi.out.2.2.1 Hi.out.2.2.2 rfl (by decide) g2 cur.length cap2 (cur.map enc) rfl (Hown.out.alloc _) ⟨wr.heap.size, 0, none⟩ 1 1 [enc x] rfl rfl (cell_one_new _ _ _) (by simp [Value.oneCell']) (by decide) B1.out B2.out (by simp; exact B3.out) ?_; intro g3 cap3 w4 hown4 hkeep4 hgrow4 hg4; have hst := step_rows Hrows.out Hz.out hown4 hkeep4 hgrow4 hg4 Hpre.out Hold.out (Nat.lt_of_lt_of_le Hg.out.1 Hkp.out.size) (by have := Hg.out; omega) Hkp.out (by have := Hg.out; omega) rfl Hbw.out; have Hst := Lib.hid hst; have hbx4 : Boxed w4 (W.heap.size + 1) 109 (.slice (some ⟨g2, 0, none⟩) cur.length cap2) := box_behind Hrows.out hgrow4; have hbc4 := hbx4.cell; have hbf4 := hbx4.frozen; clear hst hown4 hkeep4 hgrow4 hg4))
            refine ⟨⟨j + 1, g3, cap3, by go_num, hjl, by rw [HN.out]; exact Hst.out.1, Hst.out.2.1, Hst.out.2.2.1, Hst.out.2.2.2⟩, ?_⟩
            simp only [intOf]; omega
          · obtain rfl : j = ds.length := by omega
            gi_wp2
            refine ⟨⟨t + 1, g2, cap2, by go_num, by rw [Hf2.out], hte, ?_, holdw, hkp, hbw⟩, ?_⟩
            · rw [List.take_length] at hrows
              show Rows _ _ (ext p ds t ++ ds.map (· * p ^ (t + 1))) _ _
              rw [Hf2.out]; exact hrows
            · simp only [intOf]; omega
      · obtain rfl : t = e := by omega
        gi_wp2
        refine ⟨hkp, _, g1, cap1, hrows, hk, ?_, ?_, hbw, ?_⟩
        · rw [HM.out]; exact hfew2
        · rw [← hdv]; rfl
        · have := hkp.size; omega
  case done =>
    rintro k X rfl ⟨ds, g, cap, ⟨hbx, hown, hg⟩, _, hfew, hdv, hbl, hsz⟩ hd
    rw [List.drop_length] at hdv
    have hc1 := hbx.cell
    have hpr : dvs L [1] = ds := hdv.symm
    have Hpr := Lib.hid hpr
    have Hd := Lib.hid hd
    have hdl : ds.length ≤ 1000000000000 := by
      have h1 := hfew.2.1
      rw [HM.out, List.drop_length] at h1
      simp [facs] at h1; omega
    clear hdv hpr hd hfew
    gi_wp2_with (refine ⟨trivial, ?_⟩; gi_at_call 141; refine (callsIn_wide.2 (Sort_any _ _ _ _ _ _ hown (by omega))).mono ?_; rintro e w' ⟨rfl, ds', hperm, hsort, hown', hA⟩; have hbx' := box_aside hbx hA (by omega); have hc2 := hbx'.cell; have HA := Lib.hid hA; have Ho := Lib.hid hown'; clear hA hown')
    have hgl := owns_lt hown
    have hd' : w'.heap[W.heap.size + 3]? = some (.deferred (some [])) := by
      rw [HA.out.block _ (Array.getElem?_eq_some_iff.1 Hd.out).1 (by omega)]; exact Hd.out
    have hlt := (Array.getElem?_eq_some_iff.1 hd').1
    refine ⟨by simp, .inl ⟨_, _, rfl, run_takeDeferred hd', ?_⟩⟩
    refine ⟨_, results_tmp2 rfl _ _ _, g, cap, ds', ?_, ?_, hsort, ?_, ?_⟩
    · rw [hperm.length_eq]; rfl
    · rw [Hpr.out]; exact hperm
    · rw [hperm.length_eq]; exact owns_block Ho.out (World.putObj_heap_other (by omega))
    · have b1 : Below W.heap.size X w' := (HA.out.below (Nat.le_of_lt hgl)).mono (by omega)
      exact (hbl.trans b1).trans ((Aside.putObj (B := W.heap.size) (c := 4) w' _ (by omega) (by omega)).below (by omega))
end Go.Proofs.YtamhlkjfpdkhoaaGreatDoor
