import Derived.Test.YtamhlkjfpdkhoaaGreatDoorQ18
import Derived.Test.YtamhlkjfpdkhoaaGreatDoorQ19
/- WALKS of the program's integers of any size: signed, Whole, times, plus of one sign. -/
namespace Go.Proofs.YtamhlkjfpdkhoaaGreatDoor
open Go.RowKit

theorem Wds.upon {w w' : World} {v : Value} {l : List Nat} {g : Nat} (h : Wds w v l) (hg : Off w g) (hk : ∀ k, k ≠ g → w'.heap[k]? = w.heap[k]?) : Wds w' v l := by
  obtain ⟨p, c, h1, h2, h3, h4⟩ := h
  refine ⟨p, c, h1, h2, h3, fun i d hi => ?_⟩
  obtain ⟨b, a, e⟩ := h4 i d hi
  have hne : b ≠ g := by rintro rfl; exact hg _ _ e
  exact ⟨b, a, by rw [World.cell?_of_block (w := w) (hk b hne)]; exact e⟩

theorem DN.upon {w w' : World} {v : Value} {n k g : Nat} (h : DN w v n k) (hg : Off w g) (hk : ∀ k, k ≠ g → w'.heap[k]? = w.heap[k]?) : DN w' v n k := by
  obtain ⟨l, h1, h2⟩ := h; exact ⟨l, h1.upon hg hk, h2⟩

theorem DN.set2 {w : World} {v : Value} {n k g : Nat} (h : DN w v n k) (hg : Off w g) (a b : Value) : DN ((w.setCell ⟨g, 0, none⟩ a).setCell ⟨g, 1, none⟩ b) v n k :=
  h.upon hg fun k hk => by rw [Below.heap_setCell _ _ _ _ hk, Below.heap_setCell _ _ _ _ hk]

theorem DN.set3 {w : World} {v : Value} {n k g : Nat} (h : DN w v n k) (hg : Off w g) (a b c : Value) : DN (((w.setCell ⟨g, 0, none⟩ a).setCell ⟨g, 1, none⟩ b).setCell ⟨g, 2, none⟩ c) v n k :=
  h.upon hg fun k hk => by rw [Below.heap_setCell _ _ _ _ hk, Below.heap_setCell _ _ _ _ hk, Below.heap_setCell _ _ _ _ hk]

set_option maxRecDepth 100000 in
set_option maxHeartbeats 400000 in
theorem signed_all (b : Bool) (v : Value) (n k : Nat) (w : World) (hd : DN w v n k) :
    Calls Tryz.prog 90 #[.bool b, v] w fun e w' => e = .returned (.agg #[.bool (b && decide (0 < n)), v]) ∧ Below w.heap.size w w' := by
  obtain ⟨l, p, c, rfl, h1, h2, rfl, h4, h5, h6⟩ := hd.norm
  have e0 : decide (0 < val B64 l) = decide (0 < l.length) := by
    rw [decide_eq_decide]
    constructor
    · intro h
      rcases Nat.eq_zero_or_pos l.length with h0 | h0
      · rw [List.eq_nil_of_length_eq_zero h0] at h; simp [val] at h
      · exact h0
    · intro h
      rcases Nat.eq_zero_or_pos (val B64 l) with h0 | h0
      · have := h2.zero B64_pos h0; rw [this] at h; simp at h
      · exact h0
  rw [e0]
  clear hd h1 h2 h4 h5 h6 e0
  by_cases hl : 0 < l.length
  · have e1 : decide (0 < l.length) = true := by simp [hl]
    rw [e1]
    cases b <;>
    · go_enter Tryz.func90, Tryz.ntmps90
      go_wp2
      refine bodyPost_ret (res_int rfl _ _ w.heap.size _ _ _ (by rfl) (heap_alloc_new _ _)) rfl ?_
      exact ⟨rfl, (Below.refl _ _).alloc (Nat.le_refl _) _⟩
  · have e1 : decide (0 < l.length) = false := by simp [hl]
    rw [e1]
    cases b <;>
    · go_enter Tryz.func90, Tryz.ntmps90
      go_wp2
      refine bodyPost_ret (res_int rfl _ _ w.heap.size _ _ _ (by rfl) (heap_alloc_new _ _)) rfl ?_
      exact ⟨rfl, (Below.refl _ _).alloc (Nat.le_refl _) _⟩

/-- The value is this integer, of k words at most. -/
def WZ (w : World) (v : Value) (z : Int) (k : Nat) : Prop := ∃ d, v = .agg #[.bool (decide (z < 0)), d] ∧ DN w d z.natAbs k

theorem WZ.below {w w' : World} {v : Value} {z : Int} {k : Nat} (h : WZ w v z k) (hb : Below w.heap.size w w') : WZ w' v z k := by
  obtain ⟨d, h1, h2⟩ := h; exact ⟨d, h1, h2.below hb⟩

theorem WZ.more {w : World} {v : Value} {z : Int} {k k' : Nat} (h : WZ w v z k) (hk : k ≤ k') : WZ w v z k' := by
  obtain ⟨d, h1, h2⟩ := h; exact ⟨d, h1, h2.more hk⟩

theorem sign_mul (x y : Int) : ((decide (x < 0) != decide (y < 0)) && decide (0 < x.natAbs * y.natAbs)) = decide (x * y < 0) := by
  rw [← Int.natAbs_mul]
  rcases Int.lt_trichotomy x 0 with hx | hx | hx <;> rcases Int.lt_trichotomy y 0 with hy | hy | hy
  · have := Int.mul_pos_of_neg_of_neg hx hy
    have a : ¬ x * y < 0 := by omega
    simp [hx, hy, a]
  · subst hy; simp
  · have := Int.mul_neg_of_neg_of_pos hx hy
    have a : ¬ y < 0 := by omega
    have b : 0 < (x * y).natAbs := by omega
    simp [hx, a, this, b]
  · subst hx; simp
  · subst hx; simp
  · subst hx; simp
  · have := Int.mul_neg_of_pos_of_neg hx hy
    have a : ¬ x < 0 := by omega
    have b : 0 < (x * y).natAbs := by omega
    simp [hy, a, this, b]
  · subst hy; simp
  · have := Int.mul_pos hx hy
    have a : ¬ x * y < 0 := by omega
    have b : ¬ x < 0 := by omega
    have c : ¬ y < 0 := by omega
    simp [a, b, c]

set_option maxRecDepth 100000 in
set_option maxHeartbeats 400000 in
theorem Whole_all (m : Int) (w : World) (h1 : -9223372036854775808 ≤ m) (h2 : m < 9223372036854775808) :
    Calls Tryz.prog 35 #[.int .i64 m] w fun e w' => ∃ x, e = .returned x ∧ WZ w' x m 1 ∧ Below w.heap.size w w' := by
  have W := fun W => word_all m.natAbs W (by omega)
  obtain ⟨k, hk⟩ : ∃ k : Int, IntKind.u64.wrap m = k := ⟨_, rfl⟩
  have hneg : decide (m < 0) = true → IntKind.u64.wrap (-k) = m.natAbs := by intro h; simp at h; rw [← hk]; simp only [IntKind.wrap_u64]; omega
  have hpos : decide (m < 0) = false → k = m.natAbs := by intro h; simp at h; rw [← hk]; simp only [IntKind.wrap_u64]; omega
  obtain ⟨n, hn⟩ : ∃ n, m.natAbs = n := ⟨_, rfl⟩
  have HS : (decide (m < 0) && decide (0 < n)) = decide (m < 0) := by
    rw [← hn]
    by_cases h : m < 0
    · have : 0 < m.natAbs := by omega
      simp [h, this]
    · simp [h]
  unfold WZ
  rw [hn] at W hneg hpos
  simp only [hn]
  have HW := Lib.hid W
  by_cases hm : m < 0
  · have t1 : decide (m < 0) = true := by simp [hm]
    rw [t1] at HS ⊢
    have hc := hneg t1
    have HSS := Lib.hid HS
    clear W hn HS hneg hpos h1 h2
    go_enter Tryz.func35, Tryz.ntmps35
    go_wp2_with fail
    refine (HW.out _).mono ?_
    rintro e w1 ⟨d, rfl, hd, _, hb1⟩
    obtain ⟨dp, dl, dc, rfl⟩ := hd.slice
    have Hd := Lib.hid hd
    have Hb1 := Lib.hid hb1
    have r1 := Below.row hb1 (by simp) (heap_alloc_new _ _)
    have s1 : w.heap.size < w1.heap.size := Nat.lt_of_lt_of_le (by simp) hb1.size
    have SG := signed_all true _ n 1 w1 Hd.out
    rw [HSS.out] at SG
    replace SG := Lib.hid SG
    clear hd hb1
    go_wp2_with fail
    refine SG.out.mono ?_
    rintro e w2 ⟨rfl, hb2⟩
    have r2 := Below.row hb2 s1 r1
    obtain ⟨c0, c1, f0, f1⟩ := cells2 r2
    have Hb2 := Lib.hid hb2
    have S2 := Lib.hid (set2 r2)
    have Of := Lib.hid (off2 r2)
    clear r1 r2 hb2
    go_wp2_with fail
    refine bodyPost_ret (res_int rfl _ _ w.heap.size _ _ _ (by rfl) (S2.out _ _)) rfl ?_
    exact ⟨_, rfl, ⟨_, rfl, (Hd.out.below Hb2.out).set2 Of.out _ _⟩, Below.set2 ((((Below.refl w.heap.size w).alloc (Nat.le_refl _) _).trans (Hb1.out.mono (by simp))).trans (Hb2.out.mono (Nat.le_of_lt s1))) (Nat.le_refl _) _ _⟩
  · have t1 : decide (m < 0) = false := by simp [hm]
    rw [t1] at HS ⊢
    have hc := hpos t1
    subst hc
    have HSS := Lib.hid HS
    clear W hn HS hneg hpos h1 h2
    go_enter Tryz.func35, Tryz.ntmps35
    go_wp2_with fail
    refine (HW.out _).mono ?_
    rintro e w1 ⟨d, rfl, hd, _, hb1⟩
    obtain ⟨dp, dl, dc, rfl⟩ := hd.slice
    have Hd := Lib.hid hd
    have Hb1 := Lib.hid hb1
    have r1 := Below.row hb1 (by simp) (heap_alloc_new _ _)
    have s1 : w.heap.size < w1.heap.size := Nat.lt_of_lt_of_le (by simp) hb1.size
    have SG := signed_all false _ n 1 w1 Hd.out
    rw [HSS.out] at SG
    replace SG := Lib.hid SG
    clear hd hb1
    go_wp2_with fail
    refine SG.out.mono ?_
    rintro e w2 ⟨rfl, hb2⟩
    have r2 := Below.row hb2 s1 r1
    obtain ⟨c0, c1, f0, f1⟩ := cells2 r2
    have Hb2 := Lib.hid hb2
    have S2 := Lib.hid (set2 r2)
    have Of := Lib.hid (off2 r2)
    clear r1 r2 hb2
    go_wp2_with fail
    refine bodyPost_ret (res_int rfl _ _ w.heap.size _ _ _ (by rfl) (S2.out _ _)) rfl ?_
    exact ⟨_, rfl, ⟨_, rfl, (Hd.out.below Hb2.out).set2 Of.out _ _⟩, Below.set2 ((((Below.refl w.heap.size w).alloc (Nat.le_refl _) _).trans (Hb1.out.mono (by simp))).trans (Hb2.out.mono (Nat.le_of_lt s1))) (Nat.le_refl _) _ _⟩
end Go.Proofs.YtamhlkjfpdkhoaaGreatDoor

/- WALKS of fractions of one word at most: isWhole, below, lowest. -/
namespace Go.Proofs.YtamhlkjfpdkhoaaGreatDoor
open Go.RowKit

/-- The value is the fraction with this sign, numerator and denominator (0: nothing is written for 1), of one word at most. -/
def WR (w : World) (v : Value) (s : Bool) (n k : Nat) : Prop := ∃ d e, v = .agg #[.bool s, d, e] ∧ Dig w d n ∧ Dig w e k

theorem WR.below {w w' : World} {v : Value} {s : Bool} {n k : Nat} (h : WR w v s n k) (hb : Below w.heap.size w w') : WR w' v s n k := by
  obtain ⟨d, e, h1, h2, h3⟩ := h; exact ⟨d, e, h1, h2.below hb, h3.below hb⟩

def den (k : Nat) : Nat := if k = 0 then 1 else k

set_option maxRecDepth 100000 in
set_option maxHeartbeats 400000 in
theorem isWhole_any (v : Value) (s : Bool) (n k : Nat) (w : World) (h : WR w v s n k) :
    Calls Tryz.prog 92 #[v] w fun e w' => e = .returned (.bool (decide (k = 0))) ∧ Below w.heap.size w w' := by
  obtain ⟨d, e, rfl, hd, he⟩ := h
  obtain ⟨dp, dl, dc, rfl⟩ := hd.slice
  obtain ⟨_, he⟩ := he
  obtain ⟨rfl, rfl⟩ | ⟨h0, bb, o, rfl, hc⟩ := he
  · go_enter Tryz.func92, Tryz.ntmps92
    go_wp2
    go_ret
    exact ⟨rfl, (Below.refl _ _).alloc (Nat.le_refl _) _⟩
  · have e1 : decide (k = 0) = false := by simp; omega
    rw [e1]
    go_enter Tryz.func92, Tryz.ntmps92
    go_wp2
    go_ret
    exact ⟨rfl, (Below.refl _ _).alloc (Nat.le_refl _) _⟩

set_option maxRecDepth 100000 in
set_option maxHeartbeats 400000 in
theorem below_any (v : Value) (s : Bool) (n k : Nat) (w : World) (h : WR w v s n k) :
    Calls Tryz.prog 104 #[v] w fun e w' => ∃ x, e = .returned x ∧ Dig w' x (den k) ∧ Below w.heap.size w w' := by
  have W := fun W (hb : Below w.heap.size w W) => isWhole_any v s n k W (h.below hb)
  obtain ⟨d, e, rfl, hd, he⟩ := h
  obtain ⟨dp, dl, dc, rfl⟩ := hd.slice
  obtain ⟨ep, el, ec, rfl⟩ := he.slice
  have He := Lib.hid he
  have W1 := Lib.hid (fun W => word_any 1 W (by omega))
  unfold den
  by_cases h0 : k = 0
  · subst h0
    have e1 : decide (0 = 0) = true := rfl
    rw [e1] at W
    rw [if_pos rfl]
    have HW := Lib.hid W
    clear W hd he e1
    go_enter Tryz.func104, Tryz.ntmps104
    go_wp2_with fail
    refine (HW.out _ ?_).mono ?_
    · exact (Below.refl _ _).alloc (Nat.le_refl _) _
    rintro e w1 ⟨rfl, hb1⟩
    have Hb1 := Lib.hid (((Below.refl _ _).alloc (Nat.le_refl _) _).trans (hb1.mono (show w.heap.size ≤ _ by simp)))
    clear hb1
    go_wp2_with fail
    refine (W1.out _).mono ?_
    rintro e w2 ⟨x, rfl, hx, hb2⟩
    have Hx := Lib.hid hx
    have Hb2 := Lib.hid hb2
    clear hx hb2
    go_wp2_with fail
    go_ret
    exact ⟨_, rfl, Hx.out, Hb1.out.trans (Hb2.out.mono Hb1.out.size)⟩
  · have e1 : decide (k = 0) = false := by simp [h0]
    rw [e1] at W
    rw [if_neg h0]
    have HW := Lib.hid W
    clear W hd he e1
    go_enter Tryz.func104, Tryz.ntmps104
    go_wp2_with fail
    refine (HW.out _ ?_).mono ?_
    · exact (Below.refl _ _).alloc (Nat.le_refl _) _
    rintro e w1 ⟨rfl, hb1⟩
    have r1 := Below.row hb1 (by simp) (heap_alloc_new _ _)
    obtain ⟨c0, c1, c2, _⟩ := cells3 r1
    have Hb1 := Lib.hid (((Below.refl _ _).alloc (Nat.le_refl _) _).trans (hb1.mono (show w.heap.size ≤ _ by simp)))
    clear hb1 r1
    go_wp2_with fail
    go_ret
    exact ⟨_, rfl, He.out.below Hb1.out, Hb1.out⟩

def short (k : Nat) : Nat := if k = 1 then 0 else k

theorem Dig.zero (w : World) : Dig w (.slice none 0 0) 0 := ⟨by omega, .inl ⟨rfl, rfl⟩⟩

/-- New blocks with these cells lie at the top of the first world, one behind the other. -/
def Lay (w : World) (rows : List (Array Value × TypeId)) (W : World) : Prop :=
  (∀ i c t, rows[i]? = some (c, t) → W.heap[w.heap.size + i]? = some (.cells c t (0, 0))) ∧ Below w.heap.size w W

def LayX (w : World) (rows : List (Array Value × TypeId)) (W : World) : Prop := Lay w rows W ∧ W.heap.size = w.heap.size + rows.length

theorem LayX.nil (w : World) : LayX w [] w := ⟨⟨fun i c t h => by simp at h, Below.refl _ _⟩, rfl⟩

theorem LayX.push {w W : World} {rows : List (Array Value × TypeId)} (h : LayX w rows W) (c : Array Value) (t : TypeId) : LayX w (rows ++ [(c, t)]) (W.alloc (.cells c t)) := by
  obtain ⟨⟨h1, h2⟩, h3⟩ := h
  refine ⟨⟨fun i c' t' hi => ?_, h2.alloc (by omega) _⟩, by rw [size_alloc, h3]; simp; omega⟩
  rcases Nat.lt_trichotomy i rows.length with hl | rfl | hl
  · rw [List.getElem?_append_left hl] at hi
    rw [heap_alloc_old _ _ (by omega)]; exact h1 i c' t' hi
  · rw [List.getElem?_append_right (Nat.le_refl _)] at hi
    simp at hi
    obtain ⟨rfl, rfl⟩ := hi
    rw [← h3]; exact heap_alloc_new _ _
  · rw [List.getElem?_eq_none (by simp; omega)] at hi
    simp at hi

theorem Lay.step {w W W' : World} {rows : List (Array Value × TypeId)} (h : Lay w rows W) (hb : Below W.heap.size W W') : Lay w rows W' := by
  obtain ⟨h1, h2⟩ := h
  exact ⟨fun i c t hi => Below.row hb (lt_of_row (h1 i c t hi)) (h1 i c t hi), h2.trans (hb.mono h2.size)⟩

theorem Lay.row {w W : World} {rows : List (Array Value × TypeId)} (h : Lay w rows W) (i g : Nat) (hg : g = w.heap.size + i) {c : Array Value} {t : TypeId} (hr : rows[i]? = some (c, t)) : W.heap[g]? = some (.cells c t (0, 0)) := by
  subst hg; exact h.1 i c t hr

theorem Lay.drew {w W : World} {rows : List (Array Value × TypeId)} (h : Lay w rows W) : Lay w rows W.drew := h.step ((Below.refl _ _).drew)

theorem Lay.upon {w W W' : World} {rows : List (Array Value × TypeId)} (h : Lay w rows W) (i : Nat) (c : Array Value) (t : TypeId) (hr : W'.heap[w.heap.size + i]? = some (.cells c t (0, 0))) (hb : Below w.heap.size w W') (hk : ∀ k, k ≠ w.heap.size + i → W'.heap[k]? = W.heap[k]?) :
    Lay w (rows.set i (c, t)) W' := by
  obtain ⟨h1, h2⟩ := h
  refine ⟨fun j c' t' hj => ?_, hb⟩
  rw [List.getElem?_set] at hj
  by_cases e : i = j
  · subst e
    rw [if_pos rfl] at hj
    split at hj
    · simp at hj; obtain ⟨rfl, rfl⟩ := hj; exact hr
    · simp at hj
  · rw [if_neg e] at hj
    rw [hk _ (by omega)]; exact h1 j c' t' hj

theorem Lay.set2 {w W : World} {rows : List (Array Value × TypeId)} (h : Lay w rows W) (i g : Nat) (hg : g = w.heap.size + i) {x y : Value} {t : TypeId} (hr : rows[i]? = some (#[x, y], t)) (a b : Value) :
    Lay w (rows.set i (#[a, b], t)) ((W.setCell ⟨g, 0, none⟩ a).setCell ⟨g, 1, none⟩ b) := by
  subst hg
  exact h.upon i _ _ (Go.Proofs.YtamhlkjfpdkhoaaGreatDoor.set2 (h.1 i _ _ hr) a b) (Below.set2 h.2 (by omega) _ _) fun k hk => by
    rw [Below.heap_setCell _ _ _ _ hk, Below.heap_setCell _ _ _ _ hk]

theorem Lay.set3 {w W : World} {rows : List (Array Value × TypeId)} (h : Lay w rows W) (i g : Nat) (hg : g = w.heap.size + i) {x y z : Value} {t : TypeId} (hr : rows[i]? = some (#[x, y, z], t)) (a b c : Value) :
    Lay w (rows.set i (#[a, b, c], t)) (((W.setCell ⟨g, 0, none⟩ a).setCell ⟨g, 1, none⟩ b).setCell ⟨g, 2, none⟩ c) := by
  subst hg
  exact h.upon i _ _ (Go.Proofs.YtamhlkjfpdkhoaaGreatDoor.set3 (h.1 i _ _ hr) a b c) (Below.set3 h.2 (by omega) _ _ _) fun k hk => by
    rw [Below.heap_setCell _ _ _ _ hk, Below.heap_setCell _ _ _ _ hk, Below.heap_setCell _ _ _ _ hk]

set_option maxRecDepth 100000 in
set_option maxHeartbeats 400000 in
theorem lowest_any (u v : Value) (s : Bool) (n k : Nat) (w : World) (hu : WI w u s n) (hv : Dig w v k) :
    Calls Tryz.prog 103 #[u, v] w fun e w' => ∃ x, e = .returned x ∧ WR w' x s n (short k) ∧ Below w.heap.size w w' := by
  have W := fun W (hb : Below w.heap.size w W) => isOne_any v k W (hv.below hb)
  obtain ⟨d, rfl, hd⟩ := hu
  obtain ⟨dp, dl, dc, rfl⟩ := hd.slice
  obtain ⟨ep, el, ec, rfl⟩ := hv.slice
  have Hd := Lib.hid hd
  have He := Lib.hid hv
  unfold short
  by_cases h0 : k = 1
  · subst h0
    have e1 : decide (1 = 1) = true := rfl
    rw [e1] at W
    rw [if_pos rfl]
    have HW := Lib.hid W
    have L0 := Lib.hid (((LayX.nil w).push #[.bool s, .slice dp dl dc] 31).push #[.bool false, .slice none 0 0, .slice none 0 0] 45)
    clear W hd hv e1
    go_enter Tryz.func103, Tryz.ntmps103
    go_wp2_with fail
    refine (HW.out _ ?_).mono ?_
    · exact L0.out.1.2
    rintro e w1 ⟨rfl, hd1⟩
    have hL := L0.out.1.step (hd1.below _)
    have r1 := hL.row 1 (w.heap.size + 1) rfl rfl
    obtain ⟨q0, q1, _, _⟩ := cells2 (hL.row 0 w.heap.size rfl rfl)
    obtain ⟨c0, c1, c2, f0, f1, f2⟩ := cells3 r1
    have Hb1 := Lib.hid hL.2
    have S2 := Lib.hid (hL.set3 1 (w.heap.size + 1) rfl rfl)
    have Of := Lib.hid (off3 r1)
    have Hd1 := Lib.hid (Hd.out.below hL.2)
    clear hd1 r1 hL
    go_wp2_with fail
    refine bodyPost_ret (res_rat rfl _ _ (w.heap.size + 1) _ _ _ _ (by rfl) ((S2.out _ _ _).row 1 _ rfl rfl)) rfl ?_
    exact ⟨_, rfl, ⟨_, _, rfl, Hd1.out.set3 Of.out _ _ _, Dig.zero _⟩, (S2.out _ _ _).2⟩
  · have e1 : decide (k = 1) = false := by simp [h0]
    rw [e1] at W
    rw [if_neg h0]
    have HW := Lib.hid W
    have L0 := Lib.hid (((LayX.nil w).push #[.bool s, .slice dp dl dc] 31).push #[.bool false, .slice none 0 0, .slice none 0 0] 45)
    clear W hd hv e1
    go_enter Tryz.func103, Tryz.ntmps103
    go_wp2_with fail
    refine (HW.out _ ?_).mono ?_
    · exact L0.out.1.2
    rintro e w1 ⟨rfl, hd1⟩
    have hL := L0.out.1.step (hd1.below _)
    have r1 := hL.row 1 (w.heap.size + 1) rfl rfl
    obtain ⟨q0, q1, _, _⟩ := cells2 (hL.row 0 w.heap.size rfl rfl)
    obtain ⟨c0, c1, c2, f0, f1, f2⟩ := cells3 r1
    have S2 := Lib.hid (hL.set3 1 (w.heap.size + 1) rfl rfl)
    have Of := Lib.hid (off3 r1)
    have Hd1 := Lib.hid (Hd.out.below hL.2)
    have He1 := Lib.hid (He.out.below hL.2)
    clear hd1 r1 hL
    go_wp2_with fail
    refine bodyPost_ret (res_rat rfl _ _ (w.heap.size + 1) _ _ _ _ (by rfl) ((S2.out _ _ _).row 1 _ rfl rfl)) rfl ?_
    exact ⟨_, rfl, ⟨_, _, rfl, Hd1.out.set3 Of.out _ _ _, He1.out.set3 Of.out _ _ _⟩, (S2.out _ _ _).2⟩
end Go.Proofs.YtamhlkjfpdkhoaaGreatDoor
