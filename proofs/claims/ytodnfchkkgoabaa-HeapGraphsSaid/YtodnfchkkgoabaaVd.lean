/- WALK of the iterator over the values of all heaps. -/
import Derived.Test.YtodnfchkkgoabaaVc
import Derived.Test.YtodnfchkkgoabaaOw
set_option linter.unusedVariables false
namespace Go.Proofs.Ytodnfchkkgoabaa
open Go.RowKit Go.Shelf
attribute [local go_sem] Oper.semAt_some

/-- What the iterator reads: the digits. -/
structure Code1 (b1 g m cap : Nat) (ds : List Nat) (X : World) : Prop where
  len : ds.length = m
  code : X.cell? ⟨b1, 0, none⟩ = some (.slice (some ⟨g, 0, none⟩) m cap)
  digits : NS X (some ⟨g, 0, none⟩) ds

def encV (ds : List Nat) (k : Nat) : Array Value := #[.int .i64 ((vals ds (k + 1)).getD k 0 : Nat)]

theorem vals_last (ds : List Nat) (k : Nat) : (vals ds (k + 1)).getD k 0 = mex (opts ds (vals ds k)) := by
  rw [show vals ds (k + 1) = vals ds k ++ [mex (opts ds (vals ds k))] from rfl, List.getD_eq_getElem?_getD, List.getElem?_append_right (by rw [vals_len]; omega), vals_len]
  simp

def lenOf : Value → Nat
  | .slice _ n _ => n
  | _ => 0

set_option maxRecDepth 100000 in
set_option maxHeartbeats 1000000 in
theorem values1_iter (fn : Nat) (b1 g m cap : Nat) (ds : List Nat) (W : World) (hm : m ≤ 100) (hds : ∀ d ∈ ds, d < 8) :
    IterO fn Try.prog 73 #[.pointer (some ⟨b1, 0, none⟩)] (encV ds) 3000 (fun k => k ≤ 2000) (fun k => k = 2001) (Code1 b1 g m cap ds) W := by
  intro l N J Jx hNM hJ hJx hN hQ hO hY h0
  refine callsIn_of_wp Try.func73 rfl trivial ?_ rfl
  simp only [Try.ntmps73, List.size_toArray, List.length_cons, List.length_nil, Nat.reduceAdd, Nat.reduceSub, Array.replicate_succ, Array.replicate_zero, List.push_toArray, List.append_toArray, List.nil_append, List.cons_append]
  have HQ := Lib.hid hQ
  have HO := Lib.hid hO
  clear hQ hO
  obtain ⟨i0, hi, hz0, hz1, hz2⟩ := info_parts infoInt
  gi_wp2
  gi_loopw [3] (fun p wr => ∃ (k : Nat) (O : List Nat), J k O wr ∧ k ≤ 2001 ∧ Hid (OwnN wr W.heap.size p (vals ds k)) ∧ W.heap.size ≤ wr.heap.size ∧ Hid (∀ b, p.ownBlock = some b → b ∉ O)) (fun p _ => 2001 - lenOf p)
  case atStart => exact ⟨0, [], h0, by omega, Lib.hid (OwnN.nil _ _), by omega, Lib.hid (fun b hb => by cases hb)⟩
  case round =>
    clear h0
    rename_i p
    obtain ⟨k, O, hj, hk, hown, hs, hno⟩ := hrel
    obtain ⟨pv, cv, rfl, hcv⟩ := hown.out.slice
    rw [vals_len] at hown hno hcv ⊢
    by_cases hlt : k ≤ 2000
    · have q := HQ.out k O wr hj
      have hc1 := q.code
      have NX : Hid (Calls Try.prog 74 #[.slice pv k cv, .slice (some ⟨g, 0, none⟩) m cap] wr fun e w' => e = .returned (.int .i64 ((vals ds (k + 1)).getD k 0 : Nat)) ∧ Below wr.heap.size wr w') := Lib.hid (by
        rw [vals_last]
        have := next_any (vals ds k) ds pv g cv cap wr hown.out.ns (by rw [vals_len]; exact hlt) q.digits (by rw [q.len]; exact hm) hds (vals_le ds k)
        rw [vals_len, q.len] at this
        exact this)
      clear q
      gi_wp2
      refine ⟨trivial, fun h => (by simp [Fence.wide] at h), ?_⟩
      gi_at_call 74
      refine (callsIn_wide.2 NX.out).mono ?_
      rintro e w1 ⟨rfl, hb⟩
      have hj1 : J k O w1 := hJ _ _ _ _ hj (AsideO.of_below hb (Nat.le_refl _))
      have hown1 : Hid (OwnN w1 W.heap.size (.slice pv k cv) (vals ds k)) := Lib.hid (hown.out.keep (fun b e => hb.block b (hown.out.block_lt e).1))
      have hs1 := hb.size
      clear hj hb NX hc1
      obtain ⟨fn', tmps, assign, body, hy, hR⟩ := hY k O w1 hlt hj1 (by omega)
      unfold encV at hy
      have hx0 : (vals ds (k + 1)).getD k 0 ≤ k := vals_le ds (k + 1) k
      have HX : Hid (vals ds (k + 1) = vals ds k ++ [(vals ds (k + 1)).getD k 0]) := Lib.hid (by rw [vals_last]; rfl)
      generalize (vals ds (k + 1)).getD k 0 = x at *
      gi_wp2
      refine ⟨fun h => (by simp [Fence.wide] at h), hR.mono ?_⟩
      clear hy hR
      rintro e W3 ⟨O', ⟨rfl, hJ3⟩ | ⟨rfl, hx⟩, hk3⟩
      · have s3 := hk3.size
        have hnb : Hid (∀ b, (Value.slice pv k cv).ownBlock = some b → b ∉ O') := Lib.hid (fun b e hb => by
          rcases hk3.own b hb with h | h
          · exact hno.out b e h
          · have := (hown1.out.block_lt e).1; omega)
        have hown3 : Hid (OwnN W3 W.heap.size (.slice pv k cv) (vals ds k)) := Lib.hid (hown1.out.keep (fun b e => hk3.block b (hown1.out.block_lt e).2 (hown1.out.block_lt e).1 (hno.out b e)))
        have hO3 := Lib.hid (HO.out _ _ _ hJ3)
        clear hk3 hown1 hno hj1 hown
        have hW3 : W.heap.size ≤ W3.heap.size := by omega
        clear hs1 s3
        gi_wp2_with (gi_at_builtin; (refine wpListIn_append_at _ rfl _ _ 71 rfl W.heap.size 3 i0 (.int .i64 0) 1 8 Try.underlying71 hi hz0 hz1 hz2 rfl (by decide) (.slice pv k cv) k ((vals ds k).map nv) rfl (by have := hown3.out; unfold OwnN at this; rw [vals_len] at this; exact this.alloc _) ⟨W3.heap.size, 0, none⟩ 1 1 [nv x] rfl rfl (cell_one_new _ _ _) (fun y hy => by simp at hy; subst hy; rfl) (by unfold maxLen; omega) (by omega) (by simp; omega) ?_; intro v' w4 hw1 hw2 hw3))
        have P := pushed (L := vals ds k) (x := x) (by rw [vals_len]; exact hw1) hw2 hw3
        refine ⟨⟨k + 1, O', hJ _ _ _ _ hJ3 (P.aside fun b e => ⟨(hown3.out.block_lt e).2, hnb.out b e⟩), by omega, Lib.hid (by rw [HX.out]; exact P.own), by have := P.size; omega, Lib.hid ?_⟩, ?_⟩
        · intro b e
          rcases P.at_ with h | ⟨g', h, hg⟩
          · rw [h] at e; exact hnb.out b e
          · rw [h] at e; cases e
            intro hb; have := hO3.out _ hb; omega
        · obtain ⟨p', c', e, _⟩ := P.own.slice
          rw [e]; simp [lenOf, vals_len]; omega
      · gi_wp2
        refine bodyPost_ret (results_none rfl _ _ _) rfl ?_
        exact ⟨⟨_, rfl⟩, .inr ⟨_, _, hx⟩⟩
    · obtain rfl : k = 2001 := by omega
      gi_wp2
      go_end0
      exact ⟨⟨_, rfl⟩, .inl ⟨_, _, rfl, hj⟩⟩

theorem values_any (p : Option Addr) (l c : Nat) (W : World) :
    Calls Try.prog 62 #[.slice p l c] W fun e w' => e = .returned (.func (.func 73) #[] #[.pointer (some ⟨W.heap.size, 0, none⟩)]) ∧ W.alloc (.cells #[.slice p l c] 68) = w' := by
  go_enter Try.func62, Try.ntmps62
  go_wp2
  go_ret
  exact ⟨rfl, rfl⟩

end Go.Proofs.Ytodnfchkkgoabaa
