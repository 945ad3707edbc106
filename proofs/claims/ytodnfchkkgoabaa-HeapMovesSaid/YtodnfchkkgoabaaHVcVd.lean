/- WALK of next: the value of the next heap. -/
import Derived.Test.YtodnfchkkgoabaaHVa
import Derived.Test.YtodnfchkkgoabaaHVb
import Derived.Test.YtodnfchkkgoabaaHOwRvMp
set_option linter.unusedVariables false
namespace Go.Proofs.Ytodnfchkkgoabaa
open Go.RowKit Go.Shelf
attribute [local go_sem] Oper.semAt_some

theorem moves_any (p : Option Addr) (l c : Nat) (n : Int) (W : World) :
    Calls Try.prog 64 #[.slice p l c, .int .i64 n] W fun e w' => e = .returned (.func (.func 75) #[] #[.pointer (some ⟨W.heap.size, 0, none⟩), .pointer (some ⟨W.heap.size + 1, 0, none⟩)]) ∧ (W.alloc (.cells #[.slice p l c] 68)).alloc (.cells #[.int .i64 n] 3) = w' := by
  go_enter Try.func64, Try.ntmps64
  go_wp2
  go_ret
  exact ⟨rfl, rfl⟩

theorem box_aside' {B c b : Nat} {w w' : World} {t : TypeId} {v : Value} (hx : Boxed w b t v) (h : Aside B c w w') (hb : b < B ∨ B + c ≤ b) : Boxed w' b t v := (h.block b hx.lt hb).trans hx

/-- The array of marks, in a block of its own. -/
def Marks (X : World) (b : Nat) (F : Nat → Bool) : Prop := ∃ arr : Array Value, X.heap[b]? = some (.cells arr 112 (0, 0)) ∧ arr.size = 2048 ∧ ∀ i, i < 2048 → arr[i]? = some (.bool (F i))

theorem rep_size (N : Nat) (v : Value) : (List.replicate N v).toArray.size = N := by simp
theorem rep_get (N i : Nat) (v : Value) (h : i < N) : (List.replicate N v).toArray[i]? = some v := by simp [h]
theorem Marks.new (W : World) : Marks (W.alloc (.cells Try.zeroCells112 112)) W.heap.size (fun _ => false) := by
  refine ⟨_, World.alloc_heap_new W _, ?_, ?_⟩
  · rw [z112]; exact rep_size _ _
  · intro i hi
    rw [z112]
    exact rep_get _ _ _ hi
theorem Marks.cell {X : World} {b : Nat} {F : Nat → Bool} (h : Marks X b F) : Bools X b 2048 F := by
  obtain ⟨arr, h1, h2, h3⟩ := h
  intro i hi
  have := h3 i hi
  simp [World.cell?, h1, this]
theorem Marks.frozen {X : World} {b : Nat} {F : Nat → Bool} (h : Marks X b F) (i : Nat) : X.frozen? ⟨b, i, none⟩ = false := by
  obtain ⟨arr, h1, h2, h3⟩ := h
  simp [World.frozen?, h1]
theorem Marks.block {X Y : World} {b : Nat} {F : Nat → Bool} (h : Marks X b F) (k : Y.heap[b]? = X.heap[b]?) : Marks Y b F := by
  obtain ⟨arr, h1, h2, h3⟩ := h
  exact ⟨arr, k.trans h1, h2, h3⟩
theorem Marks.lt {X : World} {b : Nat} {F : Nat → Bool} (h : Marks X b F) : b < X.heap.size := by
  obtain ⟨arr, h1, _⟩ := h
  exact (Array.getElem?_eq_some_iff.1 h1).1
theorem Marks.set {X : World} {b : Nat} {F G : Nat → Bool} (h : Marks X b F) (j : Nat) (hG : ∀ i, i < 2048 → G i = if i = j then true else F i) : Marks (X.setCell ⟨b, j, none⟩ (.bool true)) b G := by
  obtain ⟨arr, h1, h2, h3⟩ := h
  obtain ⟨hlt, hk⟩ := Array.getElem?_eq_some_iff.1 h1
  refine ⟨arr.setIfInBounds j (.bool true), ?_, by simp [h2], ?_⟩
  · show (X.heap.modify b _)[b]? = _
    rw [Array.getElem?_eq_getElem (by rw [Array.size_modify]; exact hlt), Array.getElem_modify_self, hk]; rfl
  · intro i hi
    rw [Array.getElem?_setIfInBounds, hG i hi]
    by_cases e : i = j
    · subst e; simp; omega
    · rw [if_neg (fun e' => e e'.symm), if_neg e]; exact h3 i hi

theorem cellOf {B : Nat} {W X : World} (h : Below B W X) {b i : Nat} {v : Value} (hc : W.cell? ⟨b, i, none⟩ = some v) (hb : b < B) : X.cell? ⟨b, i, none⟩ = some v := (h.cell (p := ⟨b, i, none⟩) hb).trans hc
theorem cell_lt {W : World} {b i : Nat} {v : Value} (hc : W.cell? ⟨b, i, none⟩ = some v) : b < W.heap.size := by
  rcases Nat.lt_or_ge b W.heap.size with h | h
  · exact h
  · have : W.heap[b]? = none := Array.getElem?_eq_none h
    simp [World.cell?, this] at hc
theorem NS.below {W X : World} {p : Option Addr} {L : List Nat} (h : NS W p L) (hb : Below W.heap.size W X) : NS X p L := by
  intro i hi
  obtain ⟨g, e, hc⟩ := h i hi
  exact ⟨g, e, cellOf hb hc (cell_lt hc)⟩

/-- The marks behind k moves. -/
def mkd (ds V : List Nat) (k : Nat) (i : Nat) : Bool := ((opts ds V).take k).contains i

/-- Between two moves. -/
structure Nx (ds V : List Nat) (W : World) (pv : Option Addr) (g cv cap n m k : Nat) (X : World) : Prop where
  below : Below W.heap.size W X
  size : W.heap.size + 4 ≤ X.heap.size
  head : Boxed X W.heap.size 71 (.slice pv n cv)
  marks : Marks X (W.heap.size + 1) (mkd ds V k)
  code : Boxed X (W.heap.size + 2) 68 (.slice (some ⟨g, 0, none⟩) m cap)
  heap : Boxed X (W.heap.size + 3) 3 (.int .i64 n)
  le : k ≤ (mvs n 0 ds).length

theorem Nx.abides {ds V : List Nat} {W : World} {pv : Option Addr} {g cv cap n m : Nat} : Ab (W.heap.size + 4) 2 (Nx ds V W pv g cv cap n m) := by
  rintro k X Y h hA
  exact ⟨h.below.trans ((hA.below h.size).mono (by omega)), Nat.le_trans h.size hA.size, box_aside' h.head hA (by omega), h.marks.block (hA.block _ h.marks.lt (by omega)), box_aside' h.code hA (by omega), box_aside' h.heap hA (by omega), h.le⟩

set_option maxHeartbeats 1000000 in
theorem next_any (V ds : List Nat) (pv : Option Addr) (g cv cap : Nat) (W : World) (hV : NS W pv V) (lV : V.length ≤ 2000) (hd : NS W (some ⟨g, 0, none⟩) ds) (ld : ds.length ≤ 100) (hds : ∀ d ∈ ds, d < 8) (hle : ∀ i, V.getD i 0 ≤ i) :
    Calls Try.prog 74 #[.slice pv V.length cv, .slice (some ⟨g, 0, none⟩) ds.length cap] W fun e w' => e = .returned (.int .i64 (mex (opts ds V) : Nat)) ∧ Below W.heap.size W w' := by
  refine (callsIn_wide (n := 9)).1 ?_
  refine callsIn_of_wp_marks Try.func74 rfl trivial ?_ rfl
  simp only [Try.ntmps74, List.size_toArray, List.length_cons, List.length_nil, Nat.reduceAdd, Nat.reduceSub, Array.replicate_succ, Array.replicate_zero, List.push_toArray, List.append_toArray, List.nil_append, List.cons_append]
  obtain ⟨n, hn⟩ : ∃ n, V.length = n := ⟨_, rfl⟩
  obtain ⟨m, hm⟩ : ∃ n, ds.length = n := ⟨_, rfl⟩
  rw [hn] at lV ⊢
  rw [hm] at ld ⊢
  have HN := Lib.hid hn
  have HM := Lib.hid hm
  clear hn hm
  gi_wp2_with (refine ⟨trivial, ?_⟩; gi_at_call 64; refine (callsIn_wide.2 (moves_any _ _ _ _ _)).mono ?_; rintro e w' ⟨rfl, rfl⟩)
  obtain ⟨w1, hw1⟩ : ∃ w1, W.alloc (Obj.cells #[Value.slice pv n cv] 71) = w1 := ⟨_, rfl⟩
  obtain ⟨w2, hw2⟩ : ∃ w2, w1.alloc (Obj.cells Try.zeroCells112 112) = w2 := ⟨_, rfl⟩
  obtain ⟨w3, hw3⟩ : ∃ w3, w2.alloc (Obj.cells #[Value.slice (some { block := g, off := 0 }) m cap] 68) = w3 := ⟨_, rfl⟩
  obtain ⟨w4, hw4⟩ : ∃ w4, w3.alloc (Obj.cells #[Value.int IntKind.i64 ↑n] 3) = w4 := ⟨_, rfl⟩
  rw [hw1, hw2, hw3, hw4]
  have s1 : w1.heap.size = W.heap.size + 1 := by rw [← hw1]; simp
  have s2 : w2.heap.size = W.heap.size + 2 := by rw [← hw2]; simp [s1]
  have s3 : w3.heap.size = W.heap.size + 3 := by rw [← hw3]; simp [s2]
  have s4 : w4.heap.size = W.heap.size + 4 := by rw [← hw4]; simp [s3]
  have start : Nx ds V W pv g cv cap n m 0 w4 := by
    have b1 : Boxed w1 W.heap.size 71 (.slice pv n cv) := by rw [← hw1]; exact Boxed.new _ _ _
    have b2 : Marks w2 (W.heap.size + 1) (fun _ => false) := by rw [← hw2, ← s1]; exact Marks.new _
    have b3 : Boxed w3 (W.heap.size + 2) 68 (.slice (some ⟨g, 0, none⟩) m cap) := by rw [← hw3, ← s2]; exact Boxed.new _ _ _
    have b4 : Boxed w4 (W.heap.size + 3) 3 (.int .i64 n) := by rw [← hw4, ← s3]; exact Boxed.new _ _ _
    have a2 : ∀ k, k < W.heap.size + 1 → w2.heap[k]? = w1.heap[k]? := fun k hk => by rw [← hw2]; exact Below.heap_alloc _ _ _ (by omega)
    have a3 : ∀ k, k < W.heap.size + 2 → w3.heap[k]? = w2.heap[k]? := fun k hk => by rw [← hw3]; exact Below.heap_alloc _ _ _ (by omega)
    have a4 : ∀ k, k < W.heap.size + 3 → w4.heap[k]? = w3.heap[k]? := fun k hk => by rw [← hw4]; exact Below.heap_alloc _ _ _ (by omega)
    refine ⟨?_, by omega, ?_, ?_, ?_, b4, Nat.zero_le _⟩
    · rw [← hw4, ← hw3, ← hw2, ← hw1]
      exact ((((Below.refl _ W).alloc (Nat.le_refl _) _).alloc (by simp) _).alloc (by simp; omega) _).alloc (by simp; omega) _
    · exact ((a4 _ (by omega)).trans ((a3 _ (by omega)).trans (a2 _ (by omega)))).trans b1
    · have := (b2.block (a3 _ (by omega))).block (a4 _ (by omega))
      exact this
    · exact (a4 _ (by omega)).trans b3
  clear hw1 hw2 hw3 hw4 s1 s2 s3
  have HV := Lib.hid hV
  have HD := Lib.hid hd
  have HS := Lib.hid hds
  have HE := Lib.hid hle
  clear hV hd hds hle
  refine range_law_at (D := W.heap.size + 4) (n := 9) (gf := 75) (lb := #[.pointer (some ⟨W.heap.size + 2, 0, none⟩), .pointer (some ⟨W.heap.size + 3, 0, none⟩)]) (c := 0) (N := (mvs n 0 ds).length) (M := 100000000) (enc := encM (mvs n 0 ds)) (Rd := fun k => k < (mvs n 0 ds).length) (Fin := fun k => k = (mvs n 0 ds).length) (QQ := Mvd (W.heap.size + 2) (W.heap.size + 3) g m cap n ds) s4 rfl (enters_of Try.func75 (by kernel_rfl) rfl) (fun _ => rfl)
    (fun W1 hA hsz => moves1_iter 8 (W.heap.size + 2) (W.heap.size + 3) g m cap n ds W1 ld (by omega) HS.out) (by have h1 := mvs_len n ds 0; have h2 : ds.length * (n + 2) ≤ 100 * 2002 := Nat.mul_le_mul (by rw [HM.out]; exact ld) (by omega); omega)
    (Nx ds V W pv g cv cap n m) (fun _ _ _ => False) Nx.abides (fun _ _ _ _ h _ => h) start (fun k X h => h.le) (fun k X h => ⟨HM.out, h.code.cell, h.heap.cell, fun i hi => by
      obtain ⟨g', e, hc⟩ := HD.out i (by rw [HM.out]; exact hi)
      cases e
      exact cellOf h.below hc (cell_lt hc)⟩)
    (fun k => { tmps := #[Value.slice pv n cv, Value.slice (some { block := g, off := 0 }) m cap, Value.pointer (some { block := W.heap.size, off := 0 }), undef, Value.int IntKind.i64 0,
          Value.pointer (some { block := W.heap.size + 1, off := 0 }), .int .i64 ((mvs n 0 ds).getD k (0, 0)).1, .int .i64 ((mvs n 0 ds).getD k (0, 0)).2,
          Value.slice (some { block := g, off := 0 }) m cap, Value.slice pv n cv, Value.int IntKind.i64 ↑n,
          Value.func (Fn.func 75) #[]
            #[Value.pointer (some { block := W.heap.size + 1 + 1, off := 0 }),
              Value.pointer (some { block := W.heap.size + 1 + 1 + 1, off := 0 })],
          .int .i64 ((mvs n 0 ds).getD k (0, 0)).1, .int .i64 ((mvs n 0 ds).getD k (0, 0)).2, undef, undef, undef, undef, undef, undef, undef, undef], defers := [] })
    ?assign ?body ?done (fun _ _ _ h => h.elim)
  case assign =>
    intro l' k X K hK
    unfold encM
    generalize (mvs n 0 ds).getD k (0, 0) = a at hK ⊢
    gi_wp2
    exact hK
  case body =>
    rintro l' k X hk h hsz
    obtain ⟨p, q, hx⟩ : ∃ p q, (mvs n 0 ds).getD k (0, 0) = (p, q) := ⟨_, _, rfl⟩
    have hpq : p + q < n := by
      have hmem : ((mvs n 0 ds).getD k (0, 0)) ∈ mvs n 0 ds := by
        rw [List.getD_eq_getElem?_getD, List.getElem?_eq_getElem hk]; exact List.getElem_mem hk
      rw [hx] at hmem
      exact mvs_lt _ _ _ _ hmem
    have hV2 : ∀ i, V.getD i 0 < 2 ^ 11 := fun i => by
      have := HE.out i
      by_cases hi : i < n
      · omega
      · rw [List.getD_eq_getElem?_getD, List.getElem?_eq_none (by rw [HN.out]; omega)]; simp
    have hy := xorl_lt V 11 hV2 [p, q]
    have AT : Hid (Calls Try.prog 63 #[.slice pv n cv, .slice (some ⟨X.heap.size, 0, none⟩) 2 2] (X.alloc (.cells #[.int .i64 p, .int .i64 q] 3)) fun e w' => e = .returned (.int .i64 (xorl V [p, q] : Nat)) ∧ (X.alloc (.cells #[.int .i64 p, .int .i64 q] 3)) = w') := Lib.hid (by
      have hb : Below W.heap.size W (X.alloc (.cells #[.int .i64 p, .int .i64 q] 3)) := h.below.alloc (by have := h.size; omega) _
      have := at_any V [p, q] pv (some ⟨X.heap.size, 0, none⟩) cv 2 (X.alloc (.cells #[.int .i64 p, .int .i64 q] 3)) (HV.out.below hb) (by
        intro i hi
        refine ⟨_, rfl, ?_⟩
        have : i = 0 ∨ i = 1 := by simp at hi; omega
        rcases this with rfl | rfl <;> simp) (by rw [HN.out]; omega) (by simp) (by intro z hz; rw [HN.out]; simp at hz; omega) hV2
      rw [HN.out] at this
      exact this)
    obtain ⟨y, hye⟩ : ∃ y, xorl V [p, q] = y := ⟨_, rfl⟩
    rw [hye] at AT hy
    have HY : Hid (∀ i, mkd ds V (k + 1) i = if i = y then true else mkd ds V k i) := Lib.hid (fun i => by
      unfold mkd opts
      rw [HN.out]
      have hk' : k < ((mvs n 0 ds).map fun x => xorl V [x.1, x.2]).length := by simpa using hk
      rw [List.take_succ_eq_append_getElem hk', List.contains_append, List.getElem_map]
      have : (mvs n 0 ds)[k] = (p, q) := by
        have := hx; rw [List.getD_eq_getElem?_getD, List.getElem?_eq_getElem hk] at this; exact this
      rw [this, hye]
      by_cases e : i = y
      · subst e; simp
      · rw [if_neg e]; simp [e])
    rw [hx]
    dsimp only
    have hch := h.head.cell
    obtain ⟨X1, hX1⟩ : ∃ X1, X.alloc (.cells #[.int .i64 p, .int .i64 q] 3) = X1 := ⟨_, rfl⟩
    have kb : ∀ b, b < X.heap.size → X1.heap[b]? = X.heap[b]? := fun b hb => by rw [← hX1]; exact Below.heap_alloc _ _ _ hb
    have hs1 : X1.heap.size = X.heap.size + 1 := by rw [← hX1]; simp
    have hM1 : Marks X1 (W.heap.size + 1) (mkd ds V k) := h.marks.block (kb _ (by omega))
    have hcm := hM1.cell y hy
    have hfm := hM1.frozen y
    have HH := Lib.hid h
    have HX := Lib.hid hx
    clear h hye hx
    have AT1 : Hid (Calls Try.prog 63 #[.slice pv n cv, .slice (some ⟨X.heap.size, 0, none⟩) 2 2] X1 fun e w' => e = .returned (.int .i64 (y : Nat)) ∧ X1 = w') := Lib.hid (by rw [← hX1]; exact AT.out)
    clear AT
    gi_wp2
    refine ⟨trivial, ?_⟩
    gi_at_call 63
    refine (CallsIn.inRound l' (callsIn_wide.2 AT1.out)).mono ?_
    rintro e w' ⟨rfl, rfl⟩
    gi_wp2
    have h := HH.out
    have hsz2 := h.size
    have ks : ∀ b, b ≠ W.heap.size + 1 → b < X.heap.size → (X1.setCell ⟨W.heap.size + 1, y, none⟩ (Value.bool true)).heap[b]? = X.heap[b]? := fun b hb hlt => by
      rw [Below.heap_setCell _ _ _ _ (by simpa using hb)]; exact kb b hlt
    have sz : (X1.setCell ⟨W.heap.size + 1, y, none⟩ (Value.bool true)).heap.size = X.heap.size + 1 := by simp [World.setCell, hs1]
    refine ⟨⟨by omega, fun b h1 h2 h3 => ks b (by omega) h3⟩, ?_, by omega, (ks _ (by omega) h.head.lt).trans h.head, hM1.set y (fun i _ => HY.out i), (ks _ (by omega) h.code.lt).trans h.code, (ks _ (by omega) h.heap.lt).trans h.heap, hk⟩
    have hb1 : Below W.heap.size W X1 := by rw [← hX1]; exact h.below.alloc (by omega) _
    exact hb1.setCell (by simp) _
  case done =>
    rintro k X rfl h hdf
    have hM := h.marks.cell
    have hle2 : mex (opts ds V) ≤ n := mex_le _ _ fun x hx => by
      simp only [opts, List.mem_map] at hx
      obtain ⟨y, hy, rfl⟩ := hx
      have h1 := mvs_lt _ _ _ _ hy
      rw [HN.out] at h1
      rw [xorl_two]
      have h2 := xor_le (V.getD y.1 0) (V.getD y.2 0)
      have h3 := HE.out y.1
      have h4 := HE.out y.2
      omega
    have hall : ∀ i, mkd ds V (mvs n 0 ds).length i = (opts ds V).contains i := fun i => by
      unfold mkd
      rw [List.take_of_length_le (by simp [opts, HN.out])]
    have IX0 := Lib.hid (Index_any (W.heap.size + 1) 2048 2048 (mex (opts ds V)) (mkd ds V (mvs n 0 ds).length) X hM (by omega) (by omega) (by rw [hall]; simpa using mex_not (opts ds V)) (fun i hi => by rw [hall]; simpa using mex_below (opts ds V) i hi))
    have HB := Lib.hid h.below
    have hsz := h.size
    obtain ⟨r, hr⟩ : ∃ r, mex (opts ds V) = r := ⟨_, rfl⟩
    rw [hr] at hle2
    have IX : Hid (Calls Try.prog 42 #[.slice (some ⟨W.heap.size + 1, 0, none⟩) 2048 2048, .bool false] X fun e w' => e = .returned (.int .i64 (r : Nat)) ∧ X = w') := Lib.hid (by rw [← hr]; exact IX0.out)
    have HR := Lib.hid hr
    clear hall hM h IX0 hr
    gi_wp2
    refine ⟨trivial, ?_⟩
    gi_at_call 42
    refine (callsIn_wide.2 IX.out).mono ?_
    rintro e w' ⟨rfl, rfl⟩
    gi_wp2
    refine ⟨by simp, .inl ⟨_, _, rfl, run_takeDeferred hdf, ?_⟩⟩
    refine ⟨_, results_tmp rfl _ _ _, by rw [HR.out]; rfl, ?_⟩
    exact HB.out.trans ((Aside.putObj (B := W.heap.size) (c := 5) X _ (by omega) (by omega)).below (by omega))
end Go.Proofs.Ytodnfchkkgoabaa

/- WALK of the iterator over the values of all heaps. -/
set_option linter.unusedVariables false
namespace Go.Proofs.Ytodnfchkkgoabaa
open Go.RowKit Go.Shelf
attribute [local go_sem] Oper.semAt_some

/-- What the iterator reads: the digits. -/
structure Code1 (b1 g m cap : Nat) (ds : List Nat) (X : World) : Prop where
  len : ds.length = m
  code : X.cell? ⟨b1, 0, none⟩ = some (.slice (some ⟨g, 0, none⟩) m cap)
  digits : NS X (some ⟨g, 0, none⟩) ds

def encV (ds : List Nat) (k : Nat) : Array Value := #[.int .i64 ((vals ds (k + 1)).getD k 0 : Nat)]

theorem vals_last (ds : List Nat) (k : Nat) : (vals ds (k + 1)).getD k 0 = mex (opts ds (vals ds k)) := by
  rw [show vals ds (k + 1) = vals ds k ++ [mex (opts ds (vals ds k))] from rfl, List.getD_eq_getElem?_getD, List.getElem?_append_right (by rw [vals_len]; omega), vals_len]
  simp

def lenOf : Value → Nat
  | .slice _ n _ => n
  | _ => 0

set_option maxRecDepth 100000 in
set_option maxHeartbeats 1000000 in
theorem values1_iter (fn : Nat) (b1 g m cap : Nat) (ds : List Nat) (W : World) (hm : m ≤ 100) (hds : ∀ d ∈ ds, d < 8) :
    IterO fn Try.prog 73 #[.pointer (some ⟨b1, 0, none⟩)] (encV ds) 3000 (fun k => k ≤ 2000) (fun k => k = 2001) (Code1 b1 g m cap ds) W := by
  intro l N J Jx hNM hJ hJx hN hQ hO hY h0
  refine callsIn_of_wp Try.func73 rfl trivial ?_ rfl
  simp only [Try.ntmps73, List.size_toArray, List.length_cons, List.length_nil, Nat.reduceAdd, Nat.reduceSub, Array.replicate_succ, Array.replicate_zero, List.push_toArray, List.append_toArray, List.nil_append, List.cons_append]
  have HQ := Lib.hid hQ
  have HO := Lib.hid hO
  clear hQ hO
  obtain ⟨i0, hi, hz0, hz1, hz2⟩ := info_parts infoInt
  gi_wp2
  gi_loopw [3] (fun p wr => ∃ (k : Nat) (O : List Nat), J k O wr ∧ k ≤ 2001 ∧ Hid (OwnN wr W.heap.size p (vals ds k)) ∧ W.heap.size ≤ wr.heap.size ∧ Hid (∀ b, p.ownBlock = some b → b ∉ O)) (fun p _ => 2001 - lenOf p)
  case atStart => exact ⟨0, [], h0, by omega, Lib.hid (OwnN.nil _ _), by omega, Lib.hid (fun b hb => by cases hb)⟩
  case round =>
    clear h0
    rename_i p
    obtain ⟨k, O, hj, hk, hown, hs, hno⟩ := hrel
    obtain ⟨pv, cv, rfl, hcv⟩ := hown.out.slice
    rw [vals_len] at hown hno hcv ⊢
    by_cases hlt : k ≤ 2000
    · have q := HQ.out k O wr hj
      have hc1 := q.code
      have NX : Hid (Calls Try.prog 74 #[.slice pv k cv, .slice (some ⟨g, 0, none⟩) m cap] wr fun e w' => e = .returned (.int .i64 ((vals ds (k + 1)).getD k 0 : Nat)) ∧ Below wr.heap.size wr w') := Lib.hid (by
        rw [vals_last]
        have := next_any (vals ds k) ds pv g cv cap wr hown.out.ns (by rw [vals_len]; exact hlt) q.digits (by rw [q.len]; exact hm) hds (vals_le ds k)
        rw [vals_len, q.len] at this
        exact this)
      clear q
      gi_wp2
      refine ⟨trivial, fun h => (by simp [Fence.wide] at h), ?_⟩
      gi_at_call 74
      refine (callsIn_wide.2 NX.out).mono ?_
      rintro e w1 ⟨rfl, hb⟩
      have hj1 : J k O w1 := hJ _ _ _ _ hj (AsideO.of_below hb (Nat.le_refl _))
      have hown1 : Hid (OwnN w1 W.heap.size (.slice pv k cv) (vals ds k)) := Lib.hid (hown.out.keep (fun b e => hb.block b (hown.out.block_lt e).1))
      have hs1 := hb.size
      clear hj hb NX hc1
      obtain ⟨fn', tmps, assign, body, hy, hR⟩ := hY k O w1 hlt hj1 (by omega)
      unfold encV at hy
      have hx0 : (vals ds (k + 1)).getD k 0 ≤ k := vals_le ds (k + 1) k
      have HX : Hid (vals ds (k + 1) = vals ds k ++ [(vals ds (k + 1)).getD k 0]) := Lib.hid (by rw [vals_last]; rfl)
      generalize (vals ds (k + 1)).getD k 0 = x at *
      gi_wp2
      refine ⟨fun h => (by simp [Fence.wide] at h), hR.mono ?_⟩
      clear hy hR
      rintro e W3 ⟨O', ⟨rfl, hJ3⟩ | ⟨rfl, hx⟩, hk3⟩
      · have s3 := hk3.size
        have hnb : Hid (∀ b, (Value.slice pv k cv).ownBlock = some b → b ∉ O') := Lib.hid (fun b e hb => by
          rcases hk3.own b hb with h | h
          · exact hno.out b e h
          · have := (hown1.out.block_lt e).1; omega)
        have hown3 : Hid (OwnN W3 W.heap.size (.slice pv k cv) (vals ds k)) := Lib.hid (hown1.out.keep (fun b e => hk3.block b (hown1.out.block_lt e).2 (hown1.out.block_lt e).1 (hno.out b e)))
        have hO3 := Lib.hid (HO.out _ _ _ hJ3)
        clear hk3 hown1 hno hj1 hown
        have hW3 : W.heap.size ≤ W3.heap.size := by omega
        clear hs1 s3
        gi_wp2_with (gi_at_builtin; (refine wpListIn_append_at _ rfl _ _ 71 rfl W.heap.size 3 i0 (.int .i64 0) 1 8 Try.underlying71 hi hz0 hz1 hz2 rfl (by decide) (.slice pv k cv) k ((vals ds k).map nv) rfl (by have := hown3.out; unfold OwnN at this; rw [vals_len] at this; exact this.alloc _) ⟨W3.heap.size, 0, none⟩ 1 1 [nv x] rfl rfl (cell_one_new _ _ _) (fun y hy => by simp at hy; subst hy; rfl) (by unfold maxLen; omega) (by omega) (by simp; omega) ?_; intro v' w4 hw1 hw2 hw3))
        have P := pushed (L := vals ds k) (x := x) (by rw [vals_len]; exact hw1) hw2 hw3
        refine ⟨⟨k + 1, O', hJ _ _ _ _ hJ3 (P.aside fun b e => ⟨(hown3.out.block_lt e).2, hnb.out b e⟩), by omega, Lib.hid (by rw [HX.out]; exact P.own), by have := P.size; omega, Lib.hid ?_⟩, ?_⟩
        · intro b e
          rcases P.at_ with h | ⟨g', h, hg⟩
          · rw [h] at e; exact hnb.out b e
          · rw [h] at e; cases e
            intro hb; have := hO3.out _ hb; omega
        · obtain ⟨p', c', e, _⟩ := P.own.slice
          rw [e]; simp [lenOf, vals_len]; omega
      · gi_wp2
        refine bodyPost_ret (results_none rfl _ _ _) rfl ?_
        exact ⟨⟨_, rfl⟩, .inr ⟨_, _, hx⟩⟩
    · obtain rfl : k = 2001 := by omega
      gi_wp2
      go_end0
      exact ⟨⟨_, rfl⟩, .inl ⟨_, _, rfl, hj⟩⟩

theorem values_any (p : Option Addr) (l c : Nat) (W : World) :
    Calls Try.prog 62 #[.slice p l c] W fun e w' => e = .returned (.func (.func 73) #[] #[.pointer (some ⟨W.heap.size, 0, none⟩)]) ∧ W.alloc (.cells #[.slice p l c] 68) = w' := by
  go_enter Try.func62, Try.ntmps62
  go_wp2
  go_ret
  exact ⟨rfl, rfl⟩

end Go.Proofs.Ytodnfchkkgoabaa
