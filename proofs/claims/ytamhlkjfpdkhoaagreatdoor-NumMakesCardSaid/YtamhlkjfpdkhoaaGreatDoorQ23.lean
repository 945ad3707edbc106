import Derived.Test.YtamhlkjfpdkhoaaGreatDoorQ8
import Derived.Test.YtamhlkjfpdkhoaaGreatDoorQ22
/- WALKS of the reference's integers: Int, Neg, Sign, Mul. -/
set_option linter.unusedVariables false
namespace Go.Proofs.YtamhlkjfpdkhoaaGreatDoor
open Go.RowKit

/-- No cell of the block is a limb. -/
def OffI (w : World) (g : Nat) : Prop := ∀ o m, w.cell? ⟨g, o, none⟩ ≠ some (.int .i64 m)

theorem offi2 {w : World} {g : Nat} {x : Bool} {p : Option Addr} {l c : Nat} {t : TypeId} (h : w.heap[g]? = some (.cells #[.bool x, .slice p l c] t (0, 0))) : OffI w g := by
  intro o m
  simp only [World.cell?, h]
  match o with
  | 0 => simp
  | 1 => simp
  | o + 2 => simp

theorem offi4 {w : World} {g : Nat} {x y : Bool} {p q : Option Addr} {l c l' c' : Nat} {t : TypeId} (h : w.heap[g]? = some (.cells #[.bool x, .slice p l c, .bool y, .slice q l' c'] t (0, 0))) : OffI w g := by
  intro o m
  simp only [World.cell?, h]
  match o with
  | 0 => simp
  | 1 => simp
  | 2 => simp
  | 3 => simp
  | o + 4 => simp

theorem Lims.upon {w w' : World} {v : Value} {l : List Nat} {g : Nat} (h : Lims w v l) (hg : OffI w g) (hk : ∀ k, k ≠ g → w'.heap[k]? = w.heap[k]?) : Lims w' v l := by
  obtain ⟨p, c, h1, h2, h3, h5, h4⟩ := h
  refine ⟨p, c, h1, h2, h3, h5, fun i d hi => ?_⟩
  obtain ⟨b, a, e⟩ := h4 i d hi
  have hne : b ≠ g := by rintro rfl; exact hg _ _ e
  exact ⟨b, a, by rw [World.cell?_of_block (w := w) (hk b hne)]; exact e⟩

theorem NN.upon {w w' : World} {v : Value} {n k g : Nat} (h : NN w v n k) (hg : OffI w g) (hk : ∀ k, k ≠ g → w'.heap[k]? = w.heap[k]?) : NN w' v n k := by
  obtain ⟨l, h1, h2⟩ := h; exact ⟨l, h1.upon hg hk, h2⟩

theorem NN.set2 {w : World} {v : Value} {n k g : Nat} (h : NN w v n k) (hg : OffI w g) (a b : Value) : NN ((w.setCell ⟨g, 0, none⟩ a).setCell ⟨g, 1, none⟩ b) v n k :=
  h.upon hg fun k hk => by rw [Below.heap_setCell _ _ _ _ hk, Below.heap_setCell _ _ _ _ hk]

theorem NN.set4 {w : World} {v : Value} {n k g : Nat} (h : NN w v n k) (hg : OffI w g) (a b c d : Value) : NN ((((w.setCell ⟨g, 0, none⟩ a).setCell ⟨g, 1, none⟩ b).setCell ⟨g, 2, none⟩ c).setCell ⟨g, 3, none⟩ d) v n k :=
  h.upon hg fun k hk => by rw [Below.heap_setCell _ _ _ _ hk, Below.heap_setCell _ _ _ _ hk, Below.heap_setCell _ _ _ _ hk, Below.heap_setCell _ _ _ _ hk]

theorem NN.empty {w : World} {p : Option Addr} {l c n K : Nat} (h : NN w (.slice p l c) n K) : l = 0 ↔ n = 0 := by
  obtain ⟨m, ⟨p', c', h1, _⟩, h2, h3, _⟩ := h
  simp only [Value.slice.injEq] at h1
  obtain ⟨rfl, rfl, rfl⟩ := h1
  constructor
  · intro h; rw [← h3, List.eq_nil_of_length_eq_zero h]; rfl
  · intro h; rw [h2.zero B9_pos (by rw [h3]; exact h)]; rfl

theorem NN.zero {w : World} {n k : Nat} (h : n = 0) : NN w (.slice none 0 0) n k := by subst h; exact (NN.nil w).more (Nat.zero_le _)

theorem res_z {fn : Func} {p : Tmp} (h : fn.results = #[.cell p 25]) (tmps : Array Value) (w : World) (g : Nat) (x y : Value) (t : TypeId)
    (hp : tmps.getD p undef = .pointer (some ⟨g, 0, none⟩)) (hg : w.heap[g]? = some (.cells #[x, y] t (0, 0))) :
    (results fn tmps).run Tryz.prog w = .ok (.agg #[x, y]) w :=
  results_cell_row h tmps w g t #[x, y] (0, 0) _ hp hg Tryz.underlying25 rfl (by kernel_rfl)

/-- The value is the reference's integer with this sign and this absolute value, of K limbs at most. -/
def RS (w : World) (v : Value) (s : Bool) (n K : Nat) : Prop := ∃ d, v = .agg #[.bool s, d] ∧ NN w d n K

theorem RS.below {w w' : World} {v : Value} {s : Bool} {n K : Nat} (h : RS w v s n K) (hb : Below w.heap.size w w') : RS w' v s n K := by
  obtain ⟨d, h1, h2⟩ := h; exact ⟨d, h1, h2.below hb⟩

theorem RS.more {w : World} {v : Value} {s : Bool} {n K K' : Nat} (h : RS w v s n K) (hk : K ≤ K') : RS w v s n K' := by
  obtain ⟨d, h1, h2⟩ := h; exact ⟨d, h1, h2.more hk⟩

theorem RS.fit {w : World} {v : Value} {s : Bool} {n K K' : Nat} (h : RS w v s n K) (hn : n < B9 ^ K') : RS w v s n K' := by
  obtain ⟨d, h1, h2⟩ := h; exact ⟨d, h1, h2.fit hn⟩

set_option maxRecDepth 100000 in
set_option maxHeartbeats 400000 in
theorem Int_ref (b : Bool) (v : Value) (n k : Nat) (w : World) (hd : NN w v n k) :
    Calls Tryz.prog 81 #[.bool b, v] w fun e w' => e = .returned (.agg #[.bool (b && decide (0 < n)), v]) ∧ Below w.heap.size w w' := by
  obtain ⟨p, l, c, rfl⟩ := hd.slice
  have e0 : decide (0 < n) = decide (0 < l) := decide_eq_decide.2 (by have := hd.empty; omega)
  rw [e0]
  clear hd e0
  by_cases hl : 0 < l
  · have e1 : decide (0 < l) = true := by simp [hl]
    rw [e1]
    cases b <;>
    · go_enter Tryz.func81, Tryz.ntmps81
      go_wp2
      refine bodyPost_ret (res_z rfl _ _ w.heap.size _ _ _ (by rfl) (heap_alloc_new _ _)) rfl ?_
      exact ⟨rfl, (Below.refl _ _).alloc (Nat.le_refl _) _⟩
  · have e1 : decide (0 < l) = false := by simp [hl]
    rw [e1]
    cases b <;>
    · go_enter Tryz.func81, Tryz.ntmps81
      go_wp2
      refine bodyPost_ret (res_z rfl _ _ w.heap.size _ _ _ (by rfl) (heap_alloc_new _ _)) rfl ?_
      exact ⟨rfl, (Below.refl _ _).alloc (Nat.le_refl _) _⟩

set_option maxRecDepth 100000 in
set_option maxHeartbeats 1000000 in
theorem Mul_ref (u v : Value) (s s' : Bool) (a b p K K' : Nat) (w : World) (hu : RS w u s a K) (hv : RS w v s' b K') (hp : a * b = p) (hK : K ≤ 268435456) (hK' : K' ≤ 268435456) :
    Calls Tryz.prog 47 #[u, v] w fun e w' => ∃ x, e = .returned x ∧ RS w' x ((s != s') && decide (0 < p)) p (K + K') ∧ Below w.heap.size w w' := by
  obtain ⟨du, rfl, hu⟩ := hu
  obtain ⟨dv, rfl, hv⟩ := hv
  obtain ⟨up, ul, uc, rfl⟩ := hu.slice
  obtain ⟨vp, vl, vc, rfl⟩ := hv.slice
  have T := fun W (h : Below w.heap.size w W) => MulN_any _ _ a b K K' W (hu.below h) (hv.below h) (by omega) (by omega)
  rw [hp] at T
  obtain ⟨s0, hs0⟩ : ∃ s0, ((s != s') && decide (0 < p)) = s0 := ⟨_, rfl⟩
  have SG : ∀ W d, NN W d p (K + K') → _ := fun W d h => Int_ref (s != s') d p (K + K') W h
  rw [hs0]
  simp only [hs0] at SG
  have HT := Lib.hid T
  have HSG := Lib.hid SG
  clear T SG hp hs0 hu hv
  have L0 := Lib.hid (lay3_new w #[.bool s, .slice up ul uc] #[.bool s', .slice vp vl vc] #[.bool false, .slice none 0 0] 25 25 25)
  go_enter Tryz.func47, Tryz.ntmps47
  go_wp2_with fail
  generalize (((w.alloc (Obj.cells #[Value.bool s, Value.slice up ul uc] 25)).alloc (Obj.cells #[Value.bool s', Value.slice vp vl vc] 25)).alloc (Obj.cells #[Value.bool false, Value.slice none 0 0] 25)) = W0 at *
  have L1 := Lib.hid L0.out.drewN
  go_region_held3 (fun W => (W.cell? ⟨w.heap.size, 0, none⟩ = some (.bool s) ∧ W.cell? ⟨w.heap.size, 1, none⟩ = some (.slice up ul uc) ∧ W.cell? ⟨w.heap.size + 1, 0, none⟩ = some (.bool s') ∧ W.cell? ⟨w.heap.size + 1, 1, none⟩ = some (.slice vp vl vc)) ∧ Hid (∃ C, Lay3 w #[.bool s, .slice up ul uc] #[.bool s', .slice vp vl vc] C 25 25 25 W)) (first | exact sOf3 (T2.out.set _ _) | exact sOf3 T2.out | exact sOf3 T1.out | exact sOf3 L1.out) (first
    | (go_at_call 115; refine (HT.out _ ?_).mono ?_; exact L1.out.2.2.2; rintro e w1 ⟨d, rfl, hd, _, hb1⟩; obtain ⟨dp, dl, dc, rfl⟩ := hd.slice; have T1 := Lib.hid (L1.out.step hb1); have Hd := Lib.hid hd; clear hd hb1)
    | (go_at_call 81; refine (HSG.out _ _ Hd.out).mono ?_; rintro e w2 ⟨rfl, hb2⟩; have T2 := Lib.hid (T1.out.step hb2); have Hd2 := Lib.hid (Hd.out.below hb2); obtain ⟨c0, c1, f0, f1⟩ := T2.out.res; clear hb2))
  go_wp2
  refine bodyPost_ret (res_z rfl _ _ (w.heap.size + 1 + 1) _ _ _ (by rfl) (T2.out.set _ _).2.2.1) rfl ?_
  exact ⟨_, rfl, ⟨_, rfl, Hd2.out.set2 (offi2 T2.out.2.2.1) _ _⟩, (T2.out.set _ _).2.2.2⟩


theorem sOf2 {w W : World} {x y : Value} {t : TypeId} {rest : List (Array Value × TypeId)} (h : Lay w ((#[x, y], t) :: rest) W) :
    (W.cell? ⟨w.heap.size, 0, none⟩ = some x ∧ W.cell? ⟨w.heap.size, 1, none⟩ = some y) ∧ Hid (∃ rest, Lay w ((#[x, y], t) :: rest) W) := by
  have h1 := h.row 0 w.heap.size rfl rfl
  exact ⟨⟨(cells2 h1).1, (cells2 h1).2.1⟩, Lib.hid ⟨_, h⟩⟩

set_option maxRecDepth 100000 in
set_option maxHeartbeats 1000000 in
theorem Neg_ref (v : Value) (s : Bool) (n K : Nat) (w : World) (h : RS w v s n K) :
    Calls Tryz.prog 21 #[v] w fun e w' => ∃ x, e = .returned x ∧ RS w' x (!s && decide (0 < n)) n K ∧ Below w.heap.size w w' := by
  obtain ⟨d, rfl, hd⟩ := h
  obtain ⟨dp, dl, dc, rfl⟩ := hd.slice
  obtain ⟨s0, hs0⟩ : ∃ s0, (!s && decide (0 < n)) = s0 := ⟨_, rfl⟩
  have SG := fun W (hb : Below w.heap.size w W) => Int_ref (!s) (.slice dp dl dc) n K W (hd.below hb)
  rw [hs0]
  simp only [hs0] at SG
  have HD := Lib.hid hd
  replace SG := Lib.hid SG
  clear hd hs0
  have L0 := Lib.hid (((LayX.nil w).push #[.bool s, .slice dp dl dc] 25).push #[.bool false, .slice none 0 0] 25)
  go_enter Tryz.func21, Tryz.ntmps21
  go_wp2_with fail
  refine (SG.out _ L0.out.1.2).mono ?_
  rintro e w1 ⟨rfl, hb⟩
  have L1 : Hid (Lay w [(#[.bool s, .slice dp dl dc], 25), (#[.bool false, .slice none 0 0], 25)] w1) := Lib.hid (L0.out.1.step hb)
  obtain ⟨c0, c1, f0, f1⟩ := cells2 (L1.out.row 1 (w.heap.size + 1) rfl rfl)
  clear hb L0
  go_wp2_with fail
  refine bodyPost_ret (res_z rfl _ _ (w.heap.size + 1) _ _ _ (by rfl) ((L1.out.set2 1 _ rfl rfl _ _).row 1 _ rfl rfl)) rfl ?_
  exact ⟨_, rfl, ⟨_, rfl, (HD.out.below L1.out.2).set2 (offi2 (L1.out.row 1 _ rfl rfl)) _ _⟩, (L1.out.set2 1 _ rfl rfl _ _).2⟩

set_option maxRecDepth 100000 in
set_option maxHeartbeats 1000000 in
theorem Sign_ref (v : Value) (s : Bool) (n K : Nat) (w : World) (h : RS w v s n K) :
    Calls Tryz.prog 18 #[v] w fun e w' => e = .returned (.int .i64 (if n = 0 then 0 else if s then -1 else 1)) ∧ Below w.heap.size w w' := by
  obtain ⟨d, rfl, hd⟩ := h
  obtain ⟨dp, dl, dc, rfl⟩ := hd.slice
  have h0 := hd.empty
  clear hd
  by_cases hn : n = 0
  · have hl := h0.2 hn
    subst hl
    rw [if_pos hn]
    go_enter Tryz.func18, Tryz.ntmps18
    go_wp2
    go_ret
    exact ⟨rfl, by first | exact (Below.refl _ _).alloc (Nat.le_refl _) _ | exact ((Below.refl _ _).alloc (Nat.le_refl _) _).alloc (by simp) _⟩
  · have hl : dl ≠ 0 := fun h => hn (h0.1 h)
    have t1 : ((dl : Int) == 0) = false := by rw [beq_eq_false_iff_ne]; omega
    rw [if_neg hn]
    clear h0 hn
    cases s
    · go_enter Tryz.func18, Tryz.ntmps18
      go_wp2
      go_ret
      exact ⟨rfl, by first | exact (Below.refl _ _).alloc (Nat.le_refl _) _ | exact ((Below.refl _ _).alloc (Nat.le_refl _) _).alloc (by simp) _⟩
    · go_enter Tryz.func18, Tryz.ntmps18
      go_wp2
      go_ret
      exact ⟨rfl, by first | exact (Below.refl _ _).alloc (Nat.le_refl _) _ | exact ((Below.refl _ _).alloc (Nat.le_refl _) _).alloc (by simp) _⟩

set_option maxRecDepth 100000 in
set_option maxHeartbeats 1000000 in
theorem Add_same (u v : Value) (s : Bool) (a b p K : Nat) (w : World) (hu : RS w u s a K) (hv : RS w v s b K) (hp : a + b = p) (hK : K ≤ 268435456) :
    Calls Tryz.prog 45 #[u, v] w fun e w' => ∃ x, e = .returned x ∧ RS w' x (s && decide (0 < p)) p (K + 1) ∧ Below w.heap.size w w' := by
  obtain ⟨du, rfl, hu⟩ := hu
  obtain ⟨dv, rfl, hv⟩ := hv
  obtain ⟨up, ul, uc, rfl⟩ := hu.slice
  obtain ⟨vp, vl, vc, rfl⟩ := hv.slice
  have T := fun W (h : Below w.heap.size w W) => AddN_any _ _ a b K K W (hu.below h) (hv.below h) (by omega) (by omega)
  rw [hp, Nat.max_self] at T
  obtain ⟨s0, hs0⟩ : ∃ s0, (s && decide (0 < p)) = s0 := ⟨_, rfl⟩
  have SG : ∀ W d, NN W d p (K + 1) → _ := fun W d h => Int_ref s d p (K + 1) W h
  rw [hs0]
  simp only [hs0] at SG
  have HT := Lib.hid T
  have HSG := Lib.hid SG
  clear T SG hp hs0 hu hv
  have L0 := Lib.hid (lay3_new w #[.bool s, .slice up ul uc] #[.bool s, .slice vp vl vc] #[.bool false, .slice none 0 0] 25 25 25)
  go_enter Tryz.func45, Tryz.ntmps45
  go_wp2_with fail
  generalize (((w.alloc (Obj.cells #[Value.bool s, Value.slice up ul uc] 25)).alloc (Obj.cells #[Value.bool s, Value.slice vp vl vc] 25)).alloc (Obj.cells #[Value.bool false, Value.slice none 0 0] 25)) = W0 at *
  have L1 := Lib.hid L0.out.drewN
  go_region_held3 (fun W => (W.cell? ⟨w.heap.size, 0, none⟩ = some (.bool s) ∧ W.cell? ⟨w.heap.size, 1, none⟩ = some (.slice up ul uc) ∧ W.cell? ⟨w.heap.size + 1, 0, none⟩ = some (.bool s) ∧ W.cell? ⟨w.heap.size + 1, 1, none⟩ = some (.slice vp vl vc)) ∧ Hid (∃ C, Lay3 w #[.bool s, .slice up ul uc] #[.bool s, .slice vp vl vc] C 25 25 25 W)) (first | exact sOf3 (T2.out.set _ _) | exact sOf3 T2.out | exact sOf3 T1.out | exact sOf3 L1.out) (first
    | (go_at_call 112; refine (HT.out _ ?_).mono ?_; exact L1.out.2.2.2; rintro e w1 ⟨d, rfl, hd, _, hb1⟩; obtain ⟨dp, dl, dc, rfl⟩ := hd.slice; have T1 := Lib.hid (L1.out.step hb1); have Hd := Lib.hid hd; clear hd hb1)
    | (go_at_call 81; refine (HSG.out _ _ Hd.out).mono ?_; rintro e w2 ⟨rfl, hb2⟩; have T2 := Lib.hid (T1.out.step hb2); have Hd2 := Lib.hid (Hd.out.below hb2); obtain ⟨c0, c1, f0, f1⟩ := T2.out.res; clear hb2))
  go_wp2
  refine bodyPost_ret (res_z rfl _ _ (w.heap.size + 1 + 1) _ _ _ (by rfl) (T2.out.set _ _).2.2.1) rfl ?_
  exact ⟨_, rfl, ⟨_, rfl, Hd2.out.set2 (offi2 T2.out.2.2.1) _ _⟩, (T2.out.set _ _).2.2.2⟩


end Go.Proofs.YtamhlkjfpdkhoaaGreatDoor

/- WALKS of the reference's integers: Add of two signs, Sub, Cmp, Quo, Gcd. -/
set_option linter.unusedVariables false
namespace Go.Proofs.YtamhlkjfpdkhoaaGreatDoor
open Go.RowKit

theorem sOf22 {w W : World} {x y x' y' : Value} {t t' : TypeId} {rest : List (Array Value × TypeId)} (h : Lay w ((#[x, y], t) :: (#[x', y'], t') :: rest) W) :
    (W.cell? ⟨w.heap.size, 0, none⟩ = some x ∧ W.cell? ⟨w.heap.size, 1, none⟩ = some y ∧ W.cell? ⟨w.heap.size + 1, 0, none⟩ = some x' ∧ W.cell? ⟨w.heap.size + 1, 1, none⟩ = some y') ∧ Hid (∃ rest, Lay w ((#[x, y], t) :: (#[x', y'], t') :: rest) W) := by
  have h1 := h.row 0 w.heap.size rfl rfl
  have h2 := h.row 1 (w.heap.size + 1) rfl rfl
  exact ⟨⟨(cells2 h1).1, (cells2 h1).2.1, (cells2 h2).1, (cells2 h2).2.1⟩, Lib.hid ⟨_, h⟩⟩

set_option maxRecDepth 100000 in
set_option maxHeartbeats 1000000 in
theorem Add_ge (u v : Value) (s s' : Bool) (a b p K : Nat) (w : World) (hu : RS w u s a K) (hv : RS w v s' b K) (hss : s ≠ s') (hab : b ≤ a) (hp : a - b = p) (hK : K ≤ 268435456) :
    Calls Tryz.prog 45 #[u, v] w fun e w' => ∃ x, e = .returned x ∧ RS w' x (s && decide (0 < p)) p K ∧ Below w.heap.size w w' := by
  obtain ⟨du, rfl, hu⟩ := hu
  obtain ⟨dv, rfl, hv⟩ := hv
  obtain ⟨up, ul, uc, rfl⟩ := hu.slice
  obtain ⟨vp, vl, vc, rfl⟩ := hv.slice
  have CM := fun W (h : Below w.heap.size w W) => CmpN_any _ _ a b K K W (hu.below h) (hv.below h)
  obtain ⟨cc, hcc⟩ : ∃ cc, cmpv a b = cc := ⟨_, rfl⟩
  have t0 : 0 ≤ cmpv a b := by unfold cmpv; split <;> (try split) <;> omega
  rw [hcc] at CM t0
  have T := fun W (h : Below w.heap.size w W) => SubN_any _ _ a b K K W (hu.below h) (hv.below h) (by omega) hab
  rw [hp] at T
  obtain ⟨s0, hs0⟩ : ∃ s0, (s && decide (0 < p)) = s0 := ⟨_, rfl⟩
  have SG : ∀ W d, NN W d p K → _ := fun W d h => Int_ref s d p K W h
  rw [hs0]
  simp only [hs0] at SG
  have t1 : (s == s') = false := by simpa using hss
  have HCM := Lib.hid CM
  have HT := Lib.hid T
  have HSG := Lib.hid SG
  clear CM T SG hp hs0 hu hv hss hab hcc
  have L0 := Lib.hid ((((LayX.nil w).push #[.bool s, .slice up ul uc] 25).push #[.bool s', .slice vp vl vc] 25).push #[.bool false, .slice none 0 0] 25)
  go_enter Tryz.func45, Tryz.ntmps45
  go_wp2_with fail
  refine (HCM.out _ L0.out.1.2).mono ?_
  rintro _ w1 ⟨rfl, hd⟩
  have L1 : Hid (Lay w [(#[.bool s, .slice up ul uc], 25), (#[.bool s', .slice vp vl vc], 25), (#[.bool false, .slice none 0 0], 25)] w1) := Lib.hid (L0.out.1.step (hd.below _))
  obtain ⟨⟨c0, c1, c2, c3⟩, _⟩ := sOf22 L1.out
  clear hd L0
  go_wp2_with fail
  replace L1 := Lib.hid L1.out.drew
  clear c0 c1 c2 c3
  go_region_held3 (fun W => (W.cell? ⟨w.heap.size, 0, none⟩ = some (.bool s) ∧ W.cell? ⟨w.heap.size, 1, none⟩ = some (.slice up ul uc) ∧ W.cell? ⟨w.heap.size + 1, 0, none⟩ = some (.bool s') ∧ W.cell? ⟨w.heap.size + 1, 1, none⟩ = some (.slice vp vl vc)) ∧ Hid (∃ rest, Lay w ((#[.bool s, .slice up ul uc], 25) :: (#[.bool s', .slice vp vl vc], 25) :: rest) W)) (first | exact sOf22 (T2.out.set2 2 (w.heap.size + 1 + 1) rfl rfl _ _) | exact sOf22 T2.out | exact sOf22 T1.out | exact sOf22 L1.out) (first
    | (go_at_call 114; refine (HT.out _ ?_).mono ?_; exact L1.out.2; rintro e w2 ⟨d, rfl, hd, _, hb1⟩; obtain ⟨dp, dl, dc, rfl⟩ := hd.slice; have T1 := Lib.hid (L1.out.step hb1); have Hd := Lib.hid hd; clear hd hb1)
    | (go_at_call 81; refine (HSG.out _ _ Hd.out).mono ?_; rintro e w3 ⟨rfl, hb2⟩; have T2 := Lib.hid (T1.out.step hb2); have Hd2 := Lib.hid (Hd.out.below hb2); obtain ⟨c0, c1, f0, f1⟩ := cells2 (T2.out.row 2 (w.heap.size + 1 + 1) rfl rfl); clear hb2))
  go_wp2
  refine bodyPost_ret (res_z rfl _ _ (w.heap.size + 1 + 1) _ _ _ (by rfl) ((T2.out.set2 2 _ rfl rfl _ _).row 2 _ rfl rfl)) rfl ?_
  exact ⟨_, rfl, ⟨_, rfl, Hd2.out.set2 (offi2 (T2.out.row 2 _ rfl rfl)) _ _⟩, (T2.out.set2 2 _ rfl rfl _ _).2⟩

set_option maxRecDepth 100000 in
set_option maxHeartbeats 1000000 in
theorem Add_lt (u v : Value) (s s' : Bool) (a b p K : Nat) (w : World) (hu : RS w u s a K) (hv : RS w v s' b K) (hss : s ≠ s') (hab : a < b) (hp : b - a = p) (hK : K ≤ 268435456) :
    Calls Tryz.prog 45 #[u, v] w fun e w' => ∃ x, e = .returned x ∧ RS w' x (s' && decide (0 < p)) p K ∧ Below w.heap.size w w' := by
  obtain ⟨du, rfl, hu⟩ := hu
  obtain ⟨dv, rfl, hv⟩ := hv
  obtain ⟨up, ul, uc, rfl⟩ := hu.slice
  obtain ⟨vp, vl, vc, rfl⟩ := hv.slice
  have CM := fun W (h : Below w.heap.size w W) => CmpN_any _ _ a b K K W (hu.below h) (hv.below h)
  obtain ⟨cc, hcc⟩ : ∃ cc, cmpv a b = cc := ⟨_, rfl⟩
  have t0 : cmpv a b < 0 := cmpv_neg.2 hab
  rw [hcc] at CM t0
  have T := fun W (h : Below w.heap.size w W) => SubN_any _ _ b a K K W (hv.below h) (hu.below h) (by omega) (by omega)
  rw [hp] at T
  obtain ⟨s0, hs0⟩ : ∃ s0, (s' && decide (0 < p)) = s0 := ⟨_, rfl⟩
  have SG : ∀ W d, NN W d p K → _ := fun W d h => Int_ref s' d p K W h
  rw [hs0]
  simp only [hs0] at SG
  have t1 : (s == s') = false := by simpa using hss
  have HCM := Lib.hid CM
  have HT := Lib.hid T
  have HSG := Lib.hid SG
  clear CM T SG hp hs0 hu hv hss hab hcc
  have L0 := Lib.hid ((((LayX.nil w).push #[.bool s, .slice up ul uc] 25).push #[.bool s', .slice vp vl vc] 25).push #[.bool false, .slice none 0 0] 25)
  go_enter Tryz.func45, Tryz.ntmps45
  go_wp2_with fail
  refine (HCM.out _ L0.out.1.2).mono ?_
  rintro _ w1 ⟨rfl, hd⟩
  have L1 : Hid (Lay w [(#[.bool s, .slice up ul uc], 25), (#[.bool s', .slice vp vl vc], 25), (#[.bool false, .slice none 0 0], 25)] w1) := Lib.hid (L0.out.1.step (hd.below _))
  obtain ⟨⟨c0, c1, c2, c3⟩, _⟩ := sOf22 L1.out
  clear hd L0
  go_wp2_with fail
  replace L1 := Lib.hid L1.out.drew
  clear c0 c1 c2 c3
  go_region_held3 (fun W => (W.cell? ⟨w.heap.size, 0, none⟩ = some (.bool s) ∧ W.cell? ⟨w.heap.size, 1, none⟩ = some (.slice up ul uc) ∧ W.cell? ⟨w.heap.size + 1, 0, none⟩ = some (.bool s') ∧ W.cell? ⟨w.heap.size + 1, 1, none⟩ = some (.slice vp vl vc)) ∧ Hid (∃ rest, Lay w ((#[.bool s, .slice up ul uc], 25) :: (#[.bool s', .slice vp vl vc], 25) :: rest) W)) (first | exact sOf22 (T2.out.set2 2 (w.heap.size + 1 + 1) rfl rfl _ _) | exact sOf22 T2.out | exact sOf22 T1.out | exact sOf22 L1.out) (first
    | (go_at_call 114; refine (HT.out _ ?_).mono ?_; exact L1.out.2; rintro e w2 ⟨d, rfl, hd, _, hb1⟩; obtain ⟨dp, dl, dc, rfl⟩ := hd.slice; have T1 := Lib.hid (L1.out.step hb1); have Hd := Lib.hid hd; clear hd hb1)
    | (go_at_call 81; refine (HSG.out _ _ Hd.out).mono ?_; rintro e w3 ⟨rfl, hb2⟩; have T2 := Lib.hid (T1.out.step hb2); have Hd2 := Lib.hid (Hd.out.below hb2); obtain ⟨c0, c1, f0, f1⟩ := cells2 (T2.out.row 2 (w.heap.size + 1 + 1) rfl rfl); clear hb2))
  go_wp2
  refine bodyPost_ret (res_z rfl _ _ (w.heap.size + 1 + 1) _ _ _ (by rfl) ((T2.out.set2 2 _ rfl rfl _ _).row 2 _ rfl rfl)) rfl ?_
  exact ⟨_, rfl, ⟨_, rfl, Hd2.out.set2 (offi2 (T2.out.row 2 _ rfl rfl)) _ _⟩, (T2.out.set2 2 _ rfl rfl _ _).2⟩

/-- The sum of two integers. -/
def zsum (s : Bool) (a : Nat) (s' : Bool) (b : Nat) : Int := (if s then -(a : Int) else a) + (if s' then -(b : Int) else b)

theorem Add_ref (u v : Value) (s s' : Bool) (a b K : Nat) (w : World) (hu : RS w u s a K) (hv : RS w v s' b K) (hK : K ≤ 268435456) :
    Calls Tryz.prog 45 #[u, v] w fun e w' => ∃ x, e = .returned x ∧ RS w' x (decide (zsum s a s' b < 0)) (zsum s a s' b).natAbs (K + 1) ∧ Below w.heap.size w w' := by
  by_cases hs : s = s'
  · subst hs
    refine (Add_same u v s a b (a + b) K w hu hv rfl hK).mono ?_
    rintro _ w' ⟨x, rfl, hx, hb⟩
    refine ⟨_, rfl, ?_, hb⟩
    have e1 : (zsum s a s b).natAbs = a + b := by unfold zsum; cases s <;> simp <;> omega
    have e2 : decide (zsum s a s b < 0) = (s && decide (0 < a + b)) := by unfold zsum; cases s <;> simp <;> omega
    rw [e1, e2]; exact hx
  · rcases Nat.lt_or_ge a b with h | h
    · refine (Add_lt u v s s' a b (b - a) K w hu hv hs h rfl hK).mono ?_
      rintro _ w' ⟨x, rfl, hx, hb⟩
      refine ⟨_, rfl, ?_, hb⟩
      have e1 : (zsum s a s' b).natAbs = b - a := by unfold zsum; cases s <;> cases s' <;> simp_all <;> omega
      have e2 : decide (zsum s a s' b < 0) = (s' && decide (0 < b - a)) := by unfold zsum; cases s <;> cases s' <;> simp_all <;> omega
      rw [e1, e2]; exact hx.more (by omega)
    · refine (Add_ge u v s s' a b (a - b) K w hu hv hs h rfl hK).mono ?_
      rintro _ w' ⟨x, rfl, hx, hb⟩
      refine ⟨_, rfl, ?_, hb⟩
      have e1 : (zsum s a s' b).natAbs = a - b := by unfold zsum; cases s <;> cases s' <;> simp_all <;> omega
      have e2 : decide (zsum s a s' b < 0) = (s && decide (0 < a - b)) := by unfold zsum; cases s <;> cases s' <;> simp_all <;> omega
      rw [e1, e2]; exact hx.more (by omega)

end Go.Proofs.YtamhlkjfpdkhoaaGreatDoor
