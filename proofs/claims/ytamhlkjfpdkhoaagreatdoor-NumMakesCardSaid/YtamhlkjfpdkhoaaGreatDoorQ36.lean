import Derived.Test.YtamhlkjfpdkhoaaGreatDoorQ2
import Derived.Test.YtamhlkjfpdkhoaaGreatDoorQ3
import Derived.Test.YtamhlkjfpdkhoaaGreatDoorQ11
import Derived.Test.YtamhlkjfpdkhoaaGreatDoorQ35
import Derived.RangeFuncBound
import Derived.RangeFuncCalls
import Derived.Shelf.Abstract
import Derived.Shelf.RegionOpen
import Derived.OwnWalkIn
import Derived.TacticsInMore
import Derived.LoopNIn
import Derived.LoopIn
import Derived.Sort.OwnSortedInts
/- WALK of candidates: 2, 3 and the numbers from 5 on that neither divides are handed on, one after the other. -/
namespace Go.Proofs.YtamhlkjfpdkhoaaGreatDoor
open Go.RowKit Go.Shelf
attribute [local go_sem] Oper.semAt_some

set_option maxHeartbeats 1000000 in
theorem candidates_iter (n : Nat) (W : World) : Iter n Tryz.prog 177 #[] (fun k => #[.int .i64 (cand k)]) 0 2000000 (fun _ => True) (fun _ => False) W := by
  intro l N J Jx hNM hJ hJx hN hY h0
  refine callsIn_of_wp Tryz.func177 rfl trivial ?_ rfl
  simp only [Tryz.ntmps177, List.size_toArray, List.length_cons, List.length_nil, Nat.reduceAdd, Nat.reduceSub, Array.replicate_succ, Array.replicate_zero, List.push_toArray, List.append_toArray, List.nil_append, List.cons_append]
  obtain ⟨fn, tmps, assign, body, hy, hR⟩ := hY 0 W trivial h0 (by omega)
  change (Instr.yield l #[.int .i64 2]).run _ _ = _ at hy
  gi_wp2
  refine ⟨fun h => (by simp [Fence.wide] at h), hR.mono ?_⟩
  clear hy hR
  rintro e W1 ⟨⟨rfl, hJ1⟩ | ⟨rfl, hx⟩, hk1⟩
  · have s1 := hk1.size
    obtain ⟨fn, tmps, assign, body, hy, hR⟩ := hY 1 W1 trivial hJ1 (by omega)
    change (Instr.yield l #[.int .i64 3]).run _ _ = _ at hy
    gi_wp2
    refine ⟨fun h => (by simp [Fence.wide] at h), hR.mono ?_⟩
    clear hy hR
    rintro e W2 ⟨⟨rfl, hJ2⟩ | ⟨rfl, hx⟩, hk2⟩
    · have s2 := hk2.size
      gi_wp2
      gi_loopw [2] (fun p wr => ∃ j : Nat, p = .int .i64 (5 + 6 * j) ∧ J (2 + 2 * j) wr ∧ W.heap.size ≤ wr.heap.size) (fun p _ => 3 * N + 100 - (intOf p).toNat)
      case atStart => exact ⟨0, rfl, hJ2, by omega⟩
      case round =>
        clear hJ1 hJ2 hk1 hk2 s1 s2 h0
        obtain ⟨j, rfl, hj, hs⟩ := hrel
        have hb := hN _ _ hj
        have c0 : cand (2 + 2 * j) = 5 + 6 * j := by
          unfold cand; rw [if_neg (by omega), if_neg (by omega), if_pos (by omega), show (2 + 2 * j) / 2 - 1 = j by omega]
        have c1 : cand (2 + 2 * j + 1) = 7 + 6 * j := by
          unfold cand; rw [if_neg (by omega), if_neg (by omega), if_neg (by omega), show (2 + 2 * j + 1) / 2 - 1 = j by omega]
        obtain ⟨fn, tmps, assign, body, hy, hR⟩ := hY _ wr trivial hj (by omega)
        rw [c0] at hy
        have e0 : ((5 + 6 * j : Nat) : Int) = 5 + 6 * (j : Int) := by omega
        rw [e0] at hy
        gi_wp2
        refine ⟨fun h => (by simp [Fence.wide] at h), hR.mono ?_⟩
        clear hy hR
        rintro e W3 ⟨⟨rfl, hJ3⟩ | ⟨rfl, hx⟩, hk3⟩
        · have s3 := hk3.size
          have hb3 := hN _ _ hJ3
          obtain ⟨fn, tmps, assign, body, hy, hR⟩ := hY _ W3 trivial hJ3 (by omega)
          rw [c1] at hy
          have e1 : ((7 + 6 * j : Nat) : Int) = 5 + 6 * (j : Int) + 2 := by omega
          rw [e1] at hy
          gi_wp2
          refine ⟨fun h => (by simp [Fence.wide] at h), hR.mono ?_⟩
          clear hy hR
          rintro e W4 ⟨⟨rfl, hJ4⟩ | ⟨rfl, hx⟩, hk4⟩
          · have s4 := hk4.size
            gi_wp2
            refine ⟨⟨j + 1, ?_, hJ4, by omega⟩, ?_⟩
            · rw [show (5 + 6 * (j : Int) + 6) = 5 + 6 * ((j + 1 : Nat) : Int) by omega]
            · simp only [intOf]; omega
          · gi_wp2
            go_end0
            exact ⟨⟨_, rfl⟩, .inr ⟨_, hx⟩⟩
        · gi_wp2
          refine ⟨fun _ h => (by cases h), ?_⟩
          gi_wp2
          go_end0
          exact ⟨⟨_, rfl⟩, .inr ⟨_, hx⟩⟩
    · gi_wp2
      refine bodyPost_ret (results_none rfl _ _ _) rfl ?_
      exact ⟨⟨_, rfl⟩, .inr ⟨_, hx⟩⟩
  · gi_wp2
    refine ⟨fun _ h => (by cases h), ?_⟩
    gi_wp2
    refine bodyPost_ret (results_none rfl _ _ _) rfl ?_
    exact ⟨⟨_, rfl⟩, .inr ⟨_, hx⟩⟩
end Go.Proofs.YtamhlkjfpdkhoaaGreatDoor

/- WALK of primesOf: the primes that divide a number, rising, each with how often it does, are handed on. -/
namespace Go.Proofs.YtamhlkjfpdkhoaaGreatDoor
open Go.RowKit Go.Shelf
attribute [local go_sem] Oper.semAt_some

theorem primesOf_any (m : Int) (W : World) :
    Calls Tryz.prog 140 #[.int .i64 m] W fun e w' => e = .returned (.func (.func 176) #[] #[.pointer (some ⟨W.heap.size, 0, none⟩)]) ∧ w' = W.alloc (.cells #[.int .i64 m] 2) := by
  go_enter Tryz.func140, Tryz.ntmps140
  go_wp2
  go_ret
  exact ⟨rfl, rfl⟩

/-- A round for yield does not hang on the depth, nor on the round in which it is asked for. -/
theorem yield_any {P : Program} {m m' l l' : Nat} {args : Array Value} {W : World} {R : Ending → World → Prop} (h : YieldAt Fence.wide m P l args W R) : YieldAt (Fence.wide.inRound l') m' P l args W R := by
  obtain ⟨fn, tmps, assign, body, hy, hr⟩ := h
  exact ⟨fn, tmps, assign, body, hy, trivial, fun c cs _ => hr.2 c cs (room_wide _)⟩

theorem box_aside {B c b : Nat} {w w' : World} {t : TypeId} {v : Value} (hx : Boxed w b t v) (h : Aside B c w w') (hb : b < B ∨ B + c ≤ b) : Boxed w' b t v := (h.block b hx.lt hb).trans hx
theorem box_keep {B c b : Nat} {w w' : World} {t : TypeId} {v : Value} (hx : Boxed w b t v) (h : Keep B c w w') (h1 : B ≤ b) (h2 : b < B + c) : Boxed w' b t v := (h.block b h1 h2 hx.lt).trans hx

/-- Between two candidates: the primes from number i on are still to come. -/
def Mid (L : List (Nat × Nat)) (S : Nat) (y : Value) (J : Nat → World → Prop) (k : Nat) (X : World) : Prop :=
  ∃ i, i ≤ L.length ∧ J i X ∧ Boxed X S 65 y ∧ Boxed X (S + 1) 2 (.int .i64 (facs (L.drop i))) ∧ S + 2 ≤ X.heap.size ∧ Rise (cand k - 1) (L.drop i) ∧ facs (L.drop i) ≤ 1000000000000 ∧ k ≤ 400000

/-- The loop over the candidates has been left. -/
def Out (L : List (Nat × Nat)) (S : Nat) (y : Value) (J Jx : Nat → World → Prop) (d : Code) (_ : Nat) (X : World) : Prop :=
  S + 4 ≤ X.heap.size ∧ ((d = .ret ∧ ∃ k, Jx k X) ∨ (d = .exit 0 ∧ ∃ i, J i X ∧ Boxed X S 65 y ∧ Boxed X (S + 1) 2 (.int .i64 (facs (L.drop i))) ∧ (L.drop i = [] ∧ i = L.length ∨ ∃ q, L.drop i = [(q, 1)] ∧ 2 ≤ q ∧ i + 1 = L.length)))

theorem Mid.abides {L : List (Nat × Nat)} {S : Nat} {y : Value} {J : Nat → World → Prop} (hJ : Ab S 4 J) : Ab (S + 2) 2 (Mid L S y J) := by
  rintro k X Y ⟨i, h1, h2, h3, h4, h5, h6⟩ hA
  exact ⟨i, h1, hJ _ _ _ h2 (hA.mono (by omega) (by omega)), box_aside h3 hA (by omega), box_aside h4 hA (by omega), Nat.le_trans h5 hA.size, h6⟩

theorem Out.abides {L : List (Nat × Nat)} {S : Nat} {y : Value} {J Jx : Nat → World → Prop} (hJ : Ab S 4 J) (hJx : Ab S 4 Jx) (d : Code) : Ab (S + 2) 2 (Out L S y J Jx d) := by
  rintro k X Y ⟨h0, ⟨rfl, k', h1⟩ | ⟨rfl, i, h2, h3, h4, h5⟩⟩ hA
  · exact ⟨Nat.le_trans h0 hA.size, .inl ⟨rfl, k', hJx _ _ _ h1 (hA.mono (by omega) (by omega))⟩⟩
  · exact ⟨Nat.le_trans h0 hA.size, .inr ⟨rfl, i, hJ _ _ _ h2 (hA.mono (by omega) (by omega)), box_aside h3 hA (by omega), box_aside h4 hA (by omega), h5⟩⟩

set_option maxHeartbeats 1000000 in
theorem primesOf1_iter (n B : Nat) (L : List (Nat × Nat)) (W : World) (hL : Rise 1 L) (hle : facs L ≤ 1000000000000) (hB : B < W.heap.size) (hm : W.cell? ⟨B, 0, none⟩ = some (.int .i64 (facs L))) :
    Iter n Tryz.prog 176 #[.pointer (some ⟨B, 0, none⟩)] (fun k => #[.int .i64 (L.getD k (0, 0)).1, .int .i64 (L.getD k (0, 0)).2]) 4 1000 (fun k => k < L.length) (fun k => k = L.length) W := by
  intro l N J Jx hNM hJ hJx hN hY h0
  refine callsIn_of_wp_marks Tryz.func176 rfl trivial ?_ rfl
  simp only [Tryz.ntmps176, List.size_toArray, List.length_cons, List.length_nil, Nat.reduceAdd, Nat.reduceSub, Array.replicate_succ, Array.replicate_zero, List.push_toArray, List.append_toArray, List.nil_append, List.cons_append]
  gi_wp2
  obtain ⟨w2, hw2⟩ : ∃ w2, (W.alloc (Obj.cells #[Value.func (Fn.yield l) #[] #[]] 65)).alloc (Obj.cells #[Value.int IntKind.i64 ↑(facs L)] 2) = w2 := ⟨_, rfl⟩
  rw [hw2]
  have hs2 : w2.heap.size = W.heap.size + 2 := by rw [← hw2]; simp
  have b1 : Boxed w2 W.heap.size 65 (Value.func (Fn.yield l) #[] #[]) := by rw [← hw2]; exact (Boxed.new W _ _).alloc _
  have b2 : Boxed w2 (W.heap.size + 1) 2 (.int .i64 (facs L)) := by
    rw [← hw2]; have := Boxed.new (W.alloc (Obj.cells #[Value.func (Fn.yield l) #[] #[]] 65)) 2 (Value.int IntKind.i64 ↑(facs L)); simpa using this
  have j0 : J 0 w2 := hJ _ _ _ h0 (by rw [← hw2]; exact (Aside.alloc _ _ _ _).trans (Aside.alloc _ _ _ _))
  clear hw2
  refine range_law_at (D := W.heap.size + 2) (n := n) (gf := 177) (lb := #[]) (c := 0) (N := 400000) (M := 2000000) (enc := fun k => #[.int .i64 (cand k)]) (Rd := fun _ => True) (Fin := fun _ => False) hs2 rfl (enters_of Tryz.func177 (by kernel_rfl) rfl) (fun _ => rfl) (fun W1 _ _ => candidates_iter (n - 1) W1) (by omega)
    (Mid L W.heap.size (Value.func (Fn.yield l) #[] #[]) J) (Out L W.heap.size (Value.func (Fn.yield l) #[] #[]) J Jx) (Mid.abides hJ) (Out.abides hJ hJx) ?start (fun k X h => by obtain ⟨i, h⟩ := h; exact h.2.2.2.2.2.2.2)
    (fun k => { tmps := #[Value.func (Fn.yield l) #[] #[], Value.pointer (some { block := B, off := 0 }), Value.pointer (some { block := W.heap.size, off := 0 }), Value.pointer (some { block := W.heap.size + 1, off := 0 }), .int .i64 (cand k), undef, Value.int IntKind.i64 ↑(facs L), .int .i64 (cand k), undef, undef, undef, undef, undef, undef, undef, undef, undef, undef, undef, undef, undef, undef, undef, undef, undef, undef, undef, undef, undef, undef, undef, undef, undef, undef, undef, undef], defers := [] })
    ?assign ?body ?done ?stop
  case start => exact ⟨0, Nat.zero_le _, j0, b1, by simpa using b2, by omega, by simpa [cand] using hL, by simpa using hle, by omega⟩
  case assign =>
    intro l' k X K hK
    gi_wp2
    exact hK
  case body =>
    rintro l' k X - ⟨i, hi, hj, hb1, hb2, hsz, hrise, hfle, hk⟩ hsz4
    have hc1 := hb1.cell
    have hc2 := hb2.cell
    have hf2 := hb2.frozen
    have hp2 := cand_two k
    have hkb := cand_big k
    have hks := cand_small k
    have HR := Lib.hid hrise
    clear hrise
    obtain ⟨p, hpe⟩ : ∃ p, cand k = p := ⟨_, rfl⟩
    rw [hpe] at HR hp2 hkb hks ⊢
    have Hpe := Lib.hid hpe
    clear hpe
    obtain ⟨v, hv⟩ : ∃ v, facs (L.drop i) = v := ⟨_, rfl⟩
    rw [hv] at hc2 hfle
    have Hv := Lib.hid hv
    have v0 : 0 < v := by rw [← hv]; exact facs_pos _ _ HR.out
    rw [hv] at hb2
    clear hv
    have hPP : p * p ≤ 1300000 * 1300000 := Nat.mul_le_mul (by omega) (by omega)
    have eP : (p : Int) * (p : Int) = ((p * p : Nat) : Int) := (Int.natCast_mul _ _).symm
    obtain ⟨P, hP⟩ : ∃ P, p * p = P := ⟨_, rfl⟩
    rw [hP] at hPP eP
    have HP := Lib.hid hP
    clear hP
    by_cases hA : v < P
    · gi_wp2
      refine ⟨⟨Nat.le_refl _, fun _ _ _ _ => rfl⟩, hsz4, .inr ⟨rfl, i, hj, hb1, by rw [Hv.out]; exact hb2, ?_⟩⟩
      rcases HR.out.last hp2 (by rw [Hv.out, HP.out]; exact hA) with h | ⟨q, h, hq⟩
      · exact .inl ⟨h, by have := congrArg List.length h; simp at this; omega⟩
      · exact .inr ⟨q, h, hq, by have := congrArg List.length h; simp at this; omega⟩
    · have hA' : ¬ (v : Int) < (P : Int) := by omega
      have hpp := root_small (by rw [HP.out]; omega : p * p ≤ v) hfle
      gi_wp2
      gi_loopw [5] (fun q wr => ∃ j u : Nat, q = .int .i64 j ∧ p ^ j * u = v ∧ Aside (W.heap.size + 1) 1 X wr ∧ Boxed wr (W.heap.size + 1) 2 (.int .i64 u)) (fun q _ => 64 - (intOf q).toNat)
      case atStart => exact ⟨0, v, rfl, by simp, Aside.refl _ _ _, hb2⟩
      case round =>
        obtain ⟨j, u, rfl, hju, hA2, hbu⟩ := hrel
        have hj40 := power_small hp2 hfle v0 hju
        have hcu := hbu.cell
        have hfu := hbu.frozen
        have Hju := Lib.hid hju
        clear hju
        have hu : u ≤ v := by rw [← Hju.out]; exact Nat.le_mul_of_pos_left _ (Nat.pow_pos (by omega))
        by_cases hd : p ∣ u
        · obtain ⟨t, rfl⟩ := hd
          have e1 : ((p * t : Nat) : Int) % (p : Int) = 0 := by simp
          have e2 : ((p * t : Nat) : Int) / (p : Int) = (t : Int) := by
            have : p * t / p = t := Nat.mul_div_cancel_left _ (by omega)
            exact_mod_cast this
          obtain ⟨u, hue⟩ : ∃ u, p * t = u := ⟨_, rfl⟩
          rw [hue] at e1 e2 hcu hu
          have Hue := Lib.hid hue
          clear hue
          have ht : t ≤ u := by rw [← Hue.out]; exact Nat.le_mul_of_pos_left _ (by omega)
          gi_wp2
          refine ⟨⟨j + 1, t, by go_num, by rw [Nat.pow_succ, Nat.mul_assoc]; exact Hju.out, hA2.trans (Aside.setCell _ _ _ (Nat.le_refl _) (by simp)), Boxed.set _ hbu⟩, ?_⟩
          simp only [intOf]; omega
        · have e1 : ((u : Int) % (p : Int) == 0) = false := by
            rw [beq_eq_false_iff_ne]; intro h; apply hd
            exact Nat.dvd_of_mod_eq_zero (by exact_mod_cast h)
          have hcy : wr.cell? ⟨W.heap.size, 0, none⟩ = some (Value.func (Fn.yield l) #[] #[]) := (box_aside hb1 hA2 (by omega)).cell
          have hJw := hJ _ _ _ hj (hA2.mono (by omega) (by omega))
          have hbyw := box_aside hb1 hA2 (by omega)
          have hKw : Keep (W.heap.size + 2) 2 X wr := ⟨hA2.size, fun b h1 h2 h3 => hA2.block b h3 (by omega)⟩
          have hszw : W.heap.size + 4 ≤ wr.heap.size := by have := hA2.size; omega
          rcases Rise.divided hp2 HR.out hd (Hju.out.trans Hv.out.symm) with ⟨rfl, hu0, hrise⟩ | ⟨hj1, l2, hl2, hu0, hrise⟩
          · have Hu0 := Lib.hid hu0
            have Hr := Lib.hid hrise
            clear hu0 hrise
            gi_wp2
            refine ⟨fun _ h => (by cases h), ?_⟩
            gi_wp2
            refine ⟨hKw, i, hi, hJw, hbyw, by rw [← Hu0.out]; exact hbu, by omega, ?_, by rw [Hv.out]; exact hfle, by omega⟩
            exact Rise.next (by rw [Hpe.out]; exact Hr.out)
          · obtain ⟨d1, d2, d3⟩ := drop_cons hl2
            have hj1I : (0 : Int) < (j : Int) := by omega
            have Hu0 := Lib.hid hu0
            have Hr := Lib.hid hrise
            have Hd3 := Lib.hid d3
            have Hl2 := Lib.hid hl2
            obtain ⟨fn, tmps, assign, body, hy, hR⟩ := yield_any (l' := l') (m' := n - 1 - 1 - 1) (hY i wr d1 hJw hszw)
            rw [d2] at hy
            dsimp only at hy
            clear hu0 hrise d2 d3 hl2
            gi_wp2
            refine ⟨fun h => (by simp [Fence.wide] at h), hR.mono ?_⟩
            clear hy hR
            rintro e W1 ⟨⟨rfl, hJ1⟩ | ⟨rfl, hx⟩, hk1⟩
            · have hK1 : Keep (W.heap.size + 2) 2 X W1 := ⟨Nat.le_trans hKw.size hk1.size, fun b h1 h2 h3 => (hk1.block b (by omega) (by omega) (Nat.lt_of_lt_of_le h3 hKw.size)).trans (hKw.block b h1 h2 h3)⟩
              have hby1 := box_keep hbyw hk1 (Nat.le_refl _) (by omega)
              have hbu1 := box_keep hbu hk1 (by omega) (by omega)
              have hs1 := hk1.size
              gi_wp2
              refine ⟨hK1, i + 1, d1, hJ1, hby1, by rw [Hd3.out, ← Hu0.out]; exact hbu1, by omega, ?_, ?_, by omega⟩
              · rw [Hd3.out]; exact Rise.next (by rw [Hpe.out]; exact Hr.out)
              · rw [Hd3.out, ← Hu0.out]; omega
            · have hK1 : Keep (W.heap.size + 2) 2 X W1 := ⟨Nat.le_trans hKw.size hk1.size, fun b h1 h2 h3 => (hk1.block b (by omega) (by omega) (Nat.lt_of_lt_of_le h3 hKw.size)).trans (hKw.block b h1 h2 h3)⟩
              have hs1 := hk1.size
              gi_wp2
              exact ⟨hK1, by omega, .inl ⟨rfl, _, hx⟩⟩
  case done => exact fun k X h => h.elim
  case stop =>
    rintro d k X ⟨hsz, ⟨rfl, k', hx⟩ | ⟨rfl, i, hi, hb1, hb2, hlast⟩⟩ hd
    · gi_wp2
      refine ⟨by simp, .inl ⟨_, _, rfl, run_takeDeferred hd, ?_⟩⟩
      refine ⟨_, results_none rfl _ _ _, ⟨_, rfl⟩, .inr ⟨k', ?_⟩⟩
      exact hJx _ _ _ hx (Aside.putObj X _ (by omega) (by omega))
    · have hc1 := hb1.cell
      have hc2 := hb2.cell
      rcases hlast with ⟨hnil, hlen⟩ | ⟨q, hq, hq2, hlen⟩
      · rw [hnil] at hc2
        have e1 : ((facs [] : Nat) : Int) = 1 := rfl
        rw [e1] at hc2
        gi_wp2
        refine ⟨by simp, .inl ⟨_, _, rfl, run_takeDeferred hd, ?_⟩⟩
        refine ⟨_, results_none rfl _ _ _, ⟨_, rfl⟩, .inl ⟨i, hlen, ?_⟩⟩
        exact hJ _ _ _ hi (Aside.putObj X _ (by omega) (by omega))
      · rw [hq] at hc2
        have e1 : facs [(q, 1)] = q := by simp [facs]
        rw [e1] at hc2
        have e2 : (L.getD i (0, 0)) = (q, 1) := by
          have : (L.drop i)[0]? = some (q, 1) := by rw [hq]; rfl
          rw [List.getElem?_drop] at this
          simp only [Nat.add_zero] at this
          simp [List.getD, this]
        obtain ⟨fn, tmps, assign, body, hy, hR⟩ := hY i X (by omega) hi hsz
        rw [e2] at hy
        change (Instr.yield l #[.int .i64 q, .int .i64 1]).run _ _ = _ at hy
        have hq3 : (1 : Int) < (q : Int) := by omega
        gi_wp2
        refine ⟨fun h => (by simp [Fence.wide] at h), hR.mono ?_⟩
        clear hy hR
        rintro e W1 ⟨⟨rfl, hJ1⟩ | ⟨rfl, hx⟩, hk1⟩
        · have hd2 := (hk1.block (W.heap.size + 2) (by omega) (by omega) (by omega)).trans hd
          gi_wp2
          refine ⟨by simp, .inl ⟨_, _, rfl, run_takeDeferred hd2, ?_⟩⟩
          refine ⟨_, results_none rfl _ _ _, ⟨_, rfl⟩, .inl ⟨i + 1, hlen, ?_⟩⟩
          exact hJ _ _ _ hJ1 (Aside.putObj W1 _ (by omega) (by omega))
        · have hd2 := (hk1.block (W.heap.size + 2) (by omega) (by omega) (by omega)).trans hd
          gi_wp2
          refine ⟨by simp, .inl ⟨_, _, rfl, run_takeDeferred hd2, ?_⟩⟩
          refine ⟨_, results_none rfl _ _ _, ⟨_, rfl⟩, .inr ⟨i + 1, ?_⟩⟩
          exact hJx _ _ _ hx (Aside.putObj W1 _ (by omega) (by omega))
end Go.Proofs.YtamhlkjfpdkhoaaGreatDoor

/- WALK of slices.Sort at int64: a row is put in order. -/
namespace Go.Proofs.YtamhlkjfpdkhoaaGreatDoor
open Go.RowKit Go.Sort

abbrev enc (d : Nat) : Value := .int .i64 (d : Int)

theorem Sort_any (S g cap : Nat) (ds : List Nat) (n : Nat) (w : World) (hown : w.ownsRow S 2 1 (.slice (some ⟨g, 0, none⟩) n cap) n (ds.map enc)) (hsz : n < 4611686018427387904) :
    Calls Tryz.prog 141 #[.slice (some ⟨g, 0, none⟩) n cap] w fun e w' => e = .returned (.tuple #[]) ∧ ∃ ds' : List Nat, ds'.Perm ds ∧ ds'.Pairwise (· ≤ ·) ∧ w'.ownsRow S 2 1 (.slice (some ⟨g, 0, none⟩) n cap) n (ds'.map enc) ∧ Aside g 1 w w' := by
  rcases hown.2 with ⟨h0, _⟩ | ⟨g', cap', cur, h0, hb, hg, hnc, hcm, hcs, ht⟩
  · simp at h0
  simp only [Value.slice.injEq, Option.some.injEq, Addr.mk.injEq, and_true, true_and] at h0
  obtain ⟨rfl, rfl⟩ := h0
  have hlen : ds.length = n := by have := hown.1; simpa using this
  subst hlen
  obtain ⟨zs, hzs⟩ : ∃ zs : List Int, zs = ds.map fun (d : Nat) => (d : Int) := ⟨_, rfl⟩
  have hzl : zs.length = ds.length := by rw [hzs]; simp
  have hzm : zs.map (Value.int .i64) = ds.map enc := by rw [hzs]; simp [enc]
  have hH := holds_of_blockI (ss := zs) hg (by rw [hzl, hzm, ← ht, Nat.mul_one])
  have hlt := (Array.getElem?_eq_some_iff.1 hg).1
  have hc := Tryz.slices_Sort_int g 0 cap zs w hH hlt (by omega)
  rw [hzl] at hc
  refine hc.mono ?_
  rintro e w' ⟨rfl, q, os, rfl⟩
  obtain ⟨ys, hys⟩ : ∃ ys, zs.mergeSort (fun x y => decide (x ≤ y)) = ys := ⟨_, rfl⟩
  have hperm : ys.Perm zs := by rw [← hys]; exact List.mergeSort_perm _ _
  have hsort : ys.Pairwise (fun x y => decide (x ≤ y) = true) := by
    rw [← hys]
    exact List.pairwise_mergeSort (fun a b c h1 h2 => by simp at *; omega) (fun a b => by simp; omega) zs
  rw [hys]
  have hnn : ∀ y ∈ ys, 0 ≤ y := fun y hy => by
    have := hperm.mem_iff.1 hy
    rw [hzs, List.mem_map] at this
    obtain ⟨d, _, rfl⟩ := this
    omega
  have hback : (ys.map Int.toNat).map enc = ys.map (Value.int .i64) := by
    rw [List.map_map]
    refine List.map_congr_left fun y hy => ?_
    have := hnn y hy
    simp only [Function.comp, enc]
    rw [Int.toNat_of_nonneg this]
  refine ⟨rfl, ys.map Int.toNat, ?_, ?_, ?_, ?_⟩
  · have h1 := hperm.map Int.toNat
    have e : (ds.map fun (d : Nat) => (d : Int)).map Int.toNat = ds := by
      rw [List.map_map]
      conv => rhs; rw [← List.map_id ds]
      exact List.map_congr_left fun d _ => by simp
    rw [hzs, e] at h1
    exact h1
  · rw [List.pairwise_map]
    refine hsort.imp_of_mem fun {a b} ha hb h => ?_
    have := hnn a ha; have := hnn b hb
    simp at h; omega
  · rw [hback]
    have := ownsRow_sortedI (w := w) (base := S) (g := g) (cap := cap) (n := q) (os := os) (ss := zs) (ts := ys) hperm.length_eq hb hg (by omega) hcm hcs
    rw [hzl] at this
    exact this
  · have hgr := grownBy_sortedI (w := w) (g := g) (n := q) (os := os) ys.toArray
    exact ⟨hgr.os, hgr.tape, hgr.output, hgr.size, fun k hk hr => hgr.block k hk (fun e => by cases e; omega)⟩
end Go.Proofs.YtamhlkjfpdkhoaaGreatDoor
