/- WALK of row: the values of the heaps up to a number. -/
import Derived.Test.YtodnfchkkgoabaaHVcVd
import Derived.Test.YtodnfchkkgoabaaHRd
set_option linter.unusedVariables false
namespace Go.Proofs.Ytodnfchkkgoabaa
open Go.RowKit Go.Shelf
attribute [local go_sem] Oper.semAt_some

def ownL (v : Value) : List Nat := match v.ownBlock with | some b => [b] | none => []
theorem mem_ownL {v : Value} {b : Nat} : b ∈ ownL v ↔ v.ownBlock = some b := by
  unfold ownL
  cases h : v.ownBlock with
  | none => simp
  | some c => simp [eq_comm]

/-- Between two values that row collects. -/
structure Rw (ds : List Nat) (W : World) (g m cap most k : Nat) (O : List Nat) (X : World) : Prop where
  below : Below W.heap.size W X
  size : W.heap.size + 3 ≤ X.heap.size
  most : Boxed X W.heap.size 3 (.int .i64 most)
  own : ∃ v, Boxed X (W.heap.size + 1) 71 v ∧ OwnN X (W.heap.size + 3) v (vals ds k) ∧ O = ownL v
  code : Boxed X (W.heap.size + 2) 68 (.slice (some ⟨g, 0, none⟩) m cap)

theorem Rw.abides {ds : List Nat} {W : World} {g m cap most : Nat} : AbO (W.heap.size + 3) (Rw ds W g m cap most) := by
  rintro k O X Y h hA
  obtain ⟨v, h1, h2, rfl⟩ := h.own
  have kb : ∀ b, b < W.heap.size + 3 → Y.heap[b]? = X.heap[b]? := fun b hb => hA.block b (by have := h.size; omega) (.inl hb)
  exact ⟨h.below.trans ((hA.below h.size).mono (by omega)), Nat.le_trans h.size hA.size, (kb _ (by omega)).trans h.most, ⟨v, (kb _ (by omega)).trans h1, h2.keep (fun b e => hA.block b (h2.block_lt e).1 (.inr (mem_ownL.2 e))), rfl⟩, (kb _ (by omega)).trans h.code⟩

theorem rw_step {ds : List Nat} {W X w4 : World} {g m cap most k x : Nat} {v v' : Value} (h : Rw ds W g m cap most k (ownL v) X) (hbv : Boxed X (W.heap.size + 1) 71 v) (hown : OwnN X (W.heap.size + 3) v (vals ds k)) (hx : vals ds (k + 1) = vals ds k ++ [x]) (P : Pushed X w4 (W.heap.size + 3) v v' (vals ds k) x) :
    KeepO (W.heap.size + 3) (ownL v) (ownL v') X (w4.setCell ⟨W.heap.size + 1, 0, none⟩ v') ∧ Rw ds W g m cap most (k + 1) (ownL v') (w4.setCell ⟨W.heap.size + 1, 0, none⟩ v') := by
  have sz : (w4.setCell ⟨W.heap.size + 1, 0, none⟩ v').heap.size = w4.heap.size := by simp [World.setCell]
  have ks : ∀ b, b ≠ W.heap.size + 1 → (w4.setCell ⟨W.heap.size + 1, 0, none⟩ v').heap[b]? = w4.heap[b]? := fun b hb => Below.heap_setCell _ _ _ _ (by simpa using hb)
  have hne : ∀ b, b < W.heap.size + 3 → v.ownBlock ≠ some b := fun b hb e => by have := (hown.block_lt e).2; omega
  have hs := h.size
  have hb4 : Boxed w4 (W.heap.size + 1) 71 v := (P.block _ hbv.lt (hne _ (by omega))).trans hbv
  have hd : ∀ b, v'.ownBlock = some b → b ≠ W.heap.size + 1 := fun b e => by have := (P.own.block_lt e).2; omega
  refine ⟨⟨by rw [sz]; exact P.size, fun b h1 h2 h3 => ?_, fun b hb => ?_⟩, ?_, by rw [sz]; have := P.size; omega, ?_, ⟨v', Boxed.set _ hb4, ?_, rfl⟩, ?_⟩
  · rw [ks b (by omega)]; exact P.block b h2 (fun e => h3 (mem_ownL.2 e))
  · have e := mem_ownL.1 hb
    rcases P.at_ with h1 | ⟨g', h1, h2⟩
    · exact .inl (mem_ownL.2 (by rw [← h1]; exact e))
    · rw [h1] at e; cases e; exact .inr h2
  · exact (h.below.trans ((P.below (B := W.heap.size) (fun b e => by have := (hown.block_lt e).2; omega) (by omega)))).setCell (by simp) _
  · exact (ks _ (by omega)).trans ((P.block _ h.most.lt (hne _ (by omega))).trans h.most)
  · rw [hx]; exact P.own.keep (fun b e => ks b (hd b e))
  · exact (ks _ (by omega)).trans ((P.block _ h.code.lt (hne _ (by omega))).trans h.code)

set_option maxRecDepth 100000 in
set_option maxHeartbeats 1000000 in
theorem row_any (ds : List Nat) (g cap most : Nat) (W : World) (hd : NS W (some ⟨g, 0, none⟩) ds) (ld : ds.length ≤ 100) (hds : ∀ d ∈ ds, d < 8) (hmost : most ≤ 2000) :
    Calls Try.prog 44 #[.slice (some ⟨g, 0, none⟩) ds.length cap, .int .i64 most] W fun e w' => ∃ v, e = .returned v ∧ OwnN w' W.heap.size v (vals ds (most + 1)) ∧ Below W.heap.size W w' := by
  refine (callsIn_wide (n := 19)).1 ?_
  refine callsIn_of_wp_marks Try.func44 rfl trivial ?_ rfl
  simp only [Try.ntmps44, List.size_toArray, List.length_cons, List.length_nil, Nat.reduceAdd, Nat.reduceSub, Array.replicate_succ, Array.replicate_zero, List.push_toArray, List.append_toArray, List.nil_append, List.cons_append]
  obtain ⟨m, hm⟩ : ∃ n, ds.length = n := ⟨_, rfl⟩
  rw [hm] at ld ⊢
  have HM := Lib.hid hm
  clear hm
  obtain ⟨i0, hi, hz0, hz1, hz2⟩ := info_parts infoInt
  gi_wp2_with (refine ⟨trivial, ?_⟩; gi_at_call 62; refine (callsIn_wide.2 (values_any _ _ _ _)).mono ?_; rintro e w' ⟨rfl, rfl⟩)
  obtain ⟨w1, hw1⟩ : ∃ w1, W.alloc (Obj.cells #[Value.int IntKind.i64 ↑most] 3) = w1 := ⟨_, rfl⟩
  obtain ⟨w2, hw2⟩ : ∃ w2, w1.alloc (Obj.cells #[Value.slice none 0 0] 71) = w2 := ⟨_, rfl⟩
  obtain ⟨w3, hw3⟩ : ∃ w3, w2.alloc (Obj.cells #[Value.slice (some { block := g, off := 0 }) m cap] 68) = w3 := ⟨_, rfl⟩
  rw [hw1, hw2, hw3]
  have s1 : w1.heap.size = W.heap.size + 1 := by rw [← hw1]; simp
  have s2 : w2.heap.size = W.heap.size + 2 := by rw [← hw2]; simp [s1]
  have s3 : w3.heap.size = W.heap.size + 3 := by rw [← hw3]; simp [s2]
  have start : Rw ds W g m cap most 0 [] w3 := by
    have b1 : Boxed w1 W.heap.size 3 (.int .i64 most) := by rw [← hw1]; exact Boxed.new _ _ _
    have b2 : Boxed w2 (W.heap.size + 1) 71 (.slice none 0 0) := by rw [← hw2, ← s1]; exact Boxed.new _ _ _
    have b3 : Boxed w3 (W.heap.size + 2) 68 (.slice (some ⟨g, 0, none⟩) m cap) := by rw [← hw3, ← s2]; exact Boxed.new _ _ _
    have a2 : ∀ k, k < W.heap.size + 1 → w2.heap[k]? = w1.heap[k]? := fun k hk => by rw [← hw2]; exact Below.heap_alloc _ _ _ (by omega)
    have a3 : ∀ k, k < W.heap.size + 2 → w3.heap[k]? = w2.heap[k]? := fun k hk => by rw [← hw3]; exact Below.heap_alloc _ _ _ (by omega)
    refine ⟨?_, by omega, ((a3 _ (by omega)).trans (a2 _ (by omega))).trans b1, ⟨_, (a3 _ (by omega)).trans b2, OwnN.nil _ _, rfl⟩, b3⟩
    rw [← hw3, ← hw2, ← hw1]
    exact (((Below.refl _ W).alloc (Nat.le_refl _) _).alloc (by simp) _).alloc (by simp; omega) _
  clear hw1 hw2 hw3 s1 s2
  have HD := Lib.hid hd
  clear hd
  refine range_lawO (D := W.heap.size + 3) (n := 19) (gf := 73) (lb := #[.pointer (some ⟨W.heap.size + 2, 0, none⟩)]) (N := most) (M := 3000) (enc := encV ds) (Rd := fun k => k ≤ 2000) (Fin := fun k => k = 2001) (QQ := Code1 (W.heap.size + 2) g m cap ds) s3 rfl (enters_of Try.func73 (by kernel_rfl) rfl) (fun _ => rfl)
    (fun W1 hA hsz => values1_iter 18 (W.heap.size + 2) g m cap ds W1 ld hds) (by omega)
    (fun k O X => k ≤ most ∧ Rw ds W g m cap most k O X) (fun d k O X => d = .exit 0 ∧ k = most + 1 ∧ Rw ds W g m cap most k O X) (fun k O X Y h hA => ⟨h.1, Rw.abides k O X Y h.2 hA⟩) (fun d k O X Y h hA => ⟨h.1, h.2.1, Rw.abides k O X Y h.2.2 hA⟩) ⟨Nat.zero_le _, start⟩ (fun k O X h => h.1)
    (fun k O X h => ⟨HM.out, h.2.code.cell, HD.out.below h.2.below⟩) (fun k O X h b hb => by obtain ⟨v, _, h2, rfl⟩ := h.2.own; exact (h2.block_lt (mem_ownL.1 hb)).1)
    (fun k => { tmps := #[Value.slice (some { block := g, off := 0 }) m cap, Value.int IntKind.i64 ↑most, undef,
          Value.pointer (some { block := W.heap.size, off := 0 }), Value.slice none 0 0,
          Value.pointer (some { block := W.heap.size + 1, off := 0 }), .int .i64 ((vals ds (k + 1)).getD k 0 : Nat),
          Value.slice (some { block := g, off := 0 }) m cap,
          Value.func (Fn.func 73) #[] #[Value.pointer (some { block := W.heap.size + 1 + 1, off := 0 })], .int .i64 ((vals ds (k + 1)).getD k 0 : Nat), undef,
          undef, undef, undef, undef, undef, undef, undef, undef], defers := [] })
    ?assign ?body ?done ?stop
  case assign =>
    intro l' k X K hK
    unfold encV
    generalize (vals ds (k + 1)).getD k 0 = a at hK ⊢
    gi_wp2
    exact hK
  case body =>
    rintro l' k O X hk ⟨hkm, h⟩ hsz hOb
    obtain ⟨v, hbv, hown, rfl⟩ := h.own
    have HX : Hid (vals ds (k + 1) = vals ds k ++ [(vals ds (k + 1)).getD k 0]) := Lib.hid (by rw [vals_last]; rfl)
    generalize (vals ds (k + 1)).getD k 0 = x at *
    obtain ⟨pv, cv, rfl, hcv⟩ := hown.slice
    rw [vals_len] at hbv hown hcv hOb ⊢
    have HW := Lib.hid hown
    have HH := Lib.hid h
    have HOb := Lib.hid hOb
    have hcb := hbv.cell
    have HBV := Lib.hid hbv
    have sz := h.size
    clear h hbv hown hOb
    by_cases hlast : k < most
    all_goals
     gi_wp2_with (gi_at_builtin; (refine wpListIn_append_at _ rfl _ _ 71 rfl (W.heap.size + 3) 3 i0 (.int .i64 0) 1 8 Try.underlying71 hi hz0 hz1 hz2 rfl (by decide) (.slice pv k cv) k ((vals ds k).map nv) rfl (by have := HW.out; unfold OwnN at this; rw [vals_len] at this; exact this.alloc _) ⟨X.heap.size, 0, none⟩ 1 1 [nv x] rfl rfl (cell_one_new _ _ _) (fun y hy => by simp at hy; subst hy; rfl) (by unfold maxLen; omega) (by omega) (by simp; omega) ?_; intro v' w4 hw1 hw2 hw3; have P := Lib.hid (pushed (L := vals ds k) (x := x) (by rw [vals_len]; exact hw1) hw2 hw3); obtain ⟨p', c', rfl, hc'⟩ := P.out.own.slice; simp only [List.length_append, List.length_cons, List.length_nil, vals_len, Nat.zero_add] at P hc' ⊢; clear hw1 hw2 hw3; have hbx : Boxed w4 (W.heap.size + 1) 71 (.slice pv k cv) := (P.out.block _ HBV.out.lt (fun e => by have := (HW.out.block_lt e).2; omega)).trans HBV.out; have hcx := hbx.cell; have hfx := hbx.frozen; have HBX := Lib.hid hbx; have hmx : w4.cell? ⟨W.heap.size, 0, none⟩ = some (.int .i64 most) := Boxed.cell (t := 3) ((P.out.block _ HH.out.most.lt (fun e => by have := (HW.out.block_lt e).2; omega)).trans HH.out.most); clear hbx))
    · obtain ⟨a, b⟩ := rw_step (by have := HH.out; rw [vals_len] at this; exact this) HBV.out HW.out HX.out P.out
      exact ⟨_, a, by omega, b⟩
    · obtain ⟨a, b⟩ := rw_step (by have := HH.out; rw [vals_len] at this; exact this) HBV.out HW.out HX.out P.out
      exact ⟨_, a, rfl, by omega, b⟩
  case done =>
    rintro k O X rfl h hO hdf
    omega
  case stop =>
    rintro d k O X ⟨rfl, rfl, h⟩ hO hdf
    obtain ⟨v, hbv, hown, rfl⟩ := h.own
    have hcv := hbv.cell
    have HH := Lib.hid h
    have HW := Lib.hid hown
    clear h hown
    gi_wp2
    refine ⟨by simp, .inl ⟨_, _, rfl, run_takeDeferred hdf, ?_⟩⟩
    refine ⟨_, results_tmp rfl _ _ _, v, rfl, (HW.out.base_le (by omega)).keep (fun b e => ?_), ?_⟩
    · exact World.putObj_heap_other (by have := hO b (mem_ownL.2 e); omega)
    · exact HH.out.below.trans ((Aside.putObj (B := W.heap.size) (c := 4) X _ (by omega) (by omega)).below (by have := HH.out.size; omega))
end Go.Proofs.Ytodnfchkkgoabaa

/- WALKS of Check and Values. -/
set_option linter.unusedVariables false
namespace Go.Proofs.Ytodnfchkkgoabaa
open Go.RowKit

/-- The digits of a string that is a code. -/
def codeOf (s : ByteArray) : Option (List Nat) := if Lib.hasPrefix s.data.toList [48, 46] && okRest (s.data.toList.drop 2) then some (digs (s.data.toList.drop 2)) else none

theorem codeOf_some {s : ByteArray} {ds : List Nat} (h : codeOf s = some ds) : Lib.hasPrefix s.data.toList [48, 46] = true ∧ 1 ≤ (s.data.toList.drop 2).length ∧ (s.data.toList.drop 2).length ≤ 8 ∧ isDig (s.data.toList.drop 2) = true ∧ ds = digs (s.data.toList.drop 2) := by
  unfold codeOf at h
  split at h
  · rename_i hc
    simp only [okRest, Bool.and_eq_true, decide_eq_true_eq] at hc
    cases h
    exact ⟨hc.1, hc.2.1.1, hc.2.1.2, hc.2.2, rfl⟩
  · cases h
theorem codeOf_len {s : ByteArray} {ds : List Nat} (h : codeOf s = some ds) : 1 ≤ ds.length ∧ ds.length ≤ 8 ∧ ∀ d ∈ ds, d < 8 := by
  obtain ⟨_, h1, h2, h3, rfl⟩ := codeOf_some h
  refine ⟨by unfold digs; rw [List.length_map]; exact h1, by unfold digs; rw [List.length_map]; exact h2, digs_lt h3⟩

theorem read_some (s : ByteArray) (ds : List Nat) (w : World) (h : codeOf s = some ds) :
    Calls Try.prog 43 #[.string s] w fun e w' => ∃ v, e = .returned (.tuple #[v, .int .i64 0]) ∧ OwnN w' w.heap.size v ds ∧ Below w.heap.size w w' := by
  obtain ⟨hp, h1, h2, h3, rfl⟩ := codeOf_some h
  have hr : (⟨(Lib.trimPrefix s.data.toList [48, 46]).toArray⟩ : ByteArray) = ⟨(s.data.toList.drop 2).toArray⟩ := by rw [hp_take, hp]; rfl
  exact read_ok s _ w hp hr (by rw [Lib.size_eq]; exact h1) (by rw [Lib.size_eq]; exact h2) h3

theorem read_nocode (s : ByteArray) (w : World) (h : codeOf s = none) :
    Calls Try.prog 43 #[.string s] w fun e w' => e = .returned (.tuple #[.slice none 0 0, .int .i64 60]) ∧ Below w.heap.size w w' := by
  cases hp : Lib.hasPrefix s.data.toList [48, 46] with
  | false => exact read_none s w hp
  | true =>
    have hr : (⟨(Lib.trimPrefix s.data.toList [48, 46]).toArray⟩ : ByteArray) = ⟨(s.data.toList.drop 2).toArray⟩ := by rw [hp_take, hp]; rfl
    by_cases h18 : 1 ≤ (s.data.toList.drop 2).length ∧ (s.data.toList.drop 2).length ≤ 8
    · cases hd : isDig (s.data.toList.drop 2) with
      | false => exact read_bad s _ w hp hr (by rw [Lib.size_eq]; exact h18.1) (by rw [Lib.size_eq]; exact h18.2) hd
      | true =>
        exfalso
        unfold codeOf okRest at h
        rw [hp, hd] at h
        simp only [Bool.and_true, Bool.true_and, Bool.and_eq_true, decide_eq_true_eq] at h
        rw [if_pos h18] at h
        cases h
    · exact read_size s _ w hp hr (by rw [Lib.size_eq]; exact h18)

theorem Check_some (s : ByteArray) (ds : List Nat) (w : World) (h : codeOf s = some ds) :
    Calls Try.prog 16 #[.string s] w fun e w' => e = .returned (.int .i64 0) ∧ Below w.heap.size w w' := by
  have R := Lib.hid (read_some s ds w h)
  clear h
  go_enter Try.func16, Try.ntmps16
  go_wp2_with fail
  refine R.out.mono ?_
  rintro e w' ⟨v, rfl, _, hb⟩
  have HB := Lib.hid hb
  clear hb
  go_wp2_with fail
  go_ret
  exact ⟨rfl, HB.out⟩
theorem Check_none (s : ByteArray) (w : World) (h : codeOf s = none) :
    Calls Try.prog 16 #[.string s] w fun e w' => e = .returned (.int .i64 60) ∧ Below w.heap.size w w' := by
  have R := Lib.hid (read_nocode s w h)
  clear h
  go_enter Try.func16, Try.ntmps16
  go_wp2_with fail
  refine R.out.mono ?_
  rintro e w' ⟨rfl, hb⟩
  have HB := Lib.hid hb
  clear hb
  go_wp2_with fail
  go_ret
  exact ⟨rfl, HB.out⟩

theorem own_some {w : World} {base : Nat} {v : Value} {L : List Nat} (h : OwnN w base v L) (hl : 1 ≤ L.length) : ∃ g c, v = .slice (some ⟨g, 0, none⟩) L.length c ∧ NS w (some ⟨g, 0, none⟩) L := by
  obtain ⟨p, c, rfl, _⟩ := h.slice
  obtain ⟨g, rfl, _⟩ := h.ns 0 (by omega)
  exact ⟨g, c, rfl, h.ns⟩

theorem Values_ok (s : ByteArray) (ds : List Nat) (most : Nat) (w : World) (h : codeOf s = some ds) (hm : most ≤ 2000) :
    Calls Try.prog 17 #[.string s, .int .i64 most] w fun e w' => ∃ v, e = .returned (.tuple #[v, .int .i64 0]) ∧ OwnN w' w.heap.size v (vals ds (most + 1)) ∧ Below w.heap.size w w' := by
  obtain ⟨l1, l8, hds⟩ := codeOf_len h
  have R := Lib.hid (read_some s ds w h)
  have HD := Lib.hid hds
  clear h hds
  go_enter Try.func17, Try.ntmps17
  go_wp2_with fail
  refine R.out.mono ?_
  rintro e w1 ⟨v, rfl, ho, hb⟩
  obtain ⟨g, c, rfl, hns⟩ := own_some ho l1
  have RW := Lib.hid (row_any ds g c most w1 hns (by omega) HD.out hm)
  have HB := Lib.hid hb
  clear hb ho hns R
  obtain ⟨m, hml⟩ : ∃ m, ds.length = m := ⟨_, rfl⟩
  rw [hml] at RW l1 l8 ⊢
  clear hml
  go_wp2_with fail
  refine RW.out.mono ?_
  rintro e w2 ⟨v, rfl, ho, hb2⟩
  have HO := Lib.hid ho
  have HB2 := Lib.hid (HB.out.trans (hb2.mono HB.out.size))
  clear ho hb2
  go_wp2_with fail
  go_ret2
  exact ⟨v, rfl, HO.out.base_le HB.out.size, HB2.out⟩

theorem Values_none (s : ByteArray) (most : Int) (w : World) (h : codeOf s = none) :
    Calls Try.prog 17 #[.string s, .int .i64 most] w fun e w' => e = .returned (.tuple #[.slice none 0 0, .int .i64 60]) ∧ Below w.heap.size w w' := by
  have R := Lib.hid (read_nocode s w h)
  clear h
  go_enter Try.func17, Try.ntmps17
  go_wp2_with fail
  refine R.out.mono ?_
  rintro e w1 ⟨rfl, hb⟩
  have HB := Lib.hid hb
  clear hb
  go_wp2_with fail
  go_ret2
  exact ⟨rfl, HB.out⟩

theorem Values_arg (s : ByteArray) (ds : List Nat) (most : Int) (w : World) (h : codeOf s = some ds) (hm : ¬ (0 ≤ most ∧ most ≤ 2000)) :
    Calls Try.prog 17 #[.string s, .int .i64 most] w fun e w' => e = .returned (.tuple #[.slice none 0 0, .int .i64 1]) ∧ Below w.heap.size w w' := by
  have R := Lib.hid (read_some s ds w h)
  clear h
  by_cases h0 : most < 0
  · go_enter Try.func17, Try.ntmps17
    go_wp2_with fail
    refine R.out.mono ?_
    rintro e w1 ⟨v, rfl, ho, hb⟩
    have HB := Lib.hid hb
    clear hb ho
    go_wp2_with fail
    go_ret2
    exact ⟨rfl, HB.out⟩
  · have h2 : 2000 < most := by omega
    go_enter Try.func17, Try.ntmps17
    go_wp2_with fail
    refine R.out.mono ?_
    rintro e w1 ⟨v, rfl, ho, hb⟩
    have HB := Lib.hid hb
    clear hb ho
    go_wp2_with fail
    go_ret2
    exact ⟨rfl, HB.out⟩

theorem kayles : codeOf ⟨#[48, 46, 55, 55]⟩ = some [7, 7] := by decide
theorem kayles8 : vals [7, 7] 9 = [0, 1, 2, 3, 1, 4, 3, 2, 1] := by decide
end Go.Proofs.Ytodnfchkkgoabaa
