/- Plain: the positions that the program finds are those of the reference, in the same order. -/
import Derived.Test.YtodnfchkkgoabaaHWn
import Derived.Test.YtodnfchkkgoabaaHRngRgo
import Derived.Test.YtodnfchkkgoabaaHGr
import Derived.RangeFuncNested
import Derived.RangeFuncCalls
import Derived.OrdersIn
import Derived.OrdersHeld
import Derived.Deep.RegionHeld
import Derived.BigQuiet
import Derived.Outline
set_option linter.unusedVariables false
namespace Go.Proofs.Ytodnfchkkgoabaa
open Go.RowKit

/-- A position as the program puts it together: the heaps before, those behind, what the move leaves. -/
def rowAt (H : List Nat) (i : Nat) (x : Nat × Nat) : List Int := ord ([ints (H.take i), ints (H.drop (i + 1)), [(x.1 : Int), (x.2 : Int)]]).flatten
/-- Those of the i-th heap's moves that lead to value 0. -/
def winP (ds H : List Nat) (i : Nat) : List (List Int) := ((mvs (H.getD i 0) 0 ds).filter fun x => decide (gv ds x.1 ^^^ gv ds x.2 = gx ds (ints H) ^^^ gv ds (H.getD i 0))).map (rowAt H i)
def winL (ds H : List Nat) (i : Nat) : List (List Int) := (List.range i).flatMap (winP ds H)

theorem oth_take (H : List Nat) (i : Nat) (hi : i < H.length) : ∀ j, j ≤ H.length → oth H i j = if j ≤ i then ints (H.take j) else ints (H.take i) ++ ints ((H.take j).drop (i + 1)) := by
  intro j
  induction j with
  | zero => intro _; simp [oth, ints]
  | succ j ih =>
    intro hj
    rw [oth_succ, ih (by omega)]
    have hx : ints (H.take (j + 1)) = ints (H.take j) ++ [((H.getD j 0 : Nat) : Int)] := by
      rw [List.take_succ_eq_append_getElem (by omega)]
      unfold ints
      rw [List.map_append, List.getD_eq_getElem?_getD, List.getElem?_eq_getElem (by omega)]; rfl
    rcases Nat.lt_trichotomy j i with h | h | h
    · rw [if_pos (by omega), if_neg (by omega), if_pos (by omega), hx]
    · subst h
      rw [if_pos (by omega), if_pos rfl, if_neg (by omega)]
      have : (H.take (j + 1)).drop (j + 1) = [] := List.drop_eq_nil_iff.2 (by rw [List.length_take]; omega)
      rw [this]; simp [ints]
    · rw [if_neg (by omega), if_neg (by omega), if_neg (by omega), List.append_assoc]
      congr 1
      rw [List.take_succ_eq_append_getElem (by omega), List.drop_append_of_le_length (by rw [List.length_take]; omega)]
      unfold ints
      rw [List.map_append, List.getD_eq_getElem?_getD, List.getElem?_eq_getElem (by omega)]; rfl

theorem oth_all (H : List Nat) (i : Nat) (hi : i < H.length) : oth H i H.length = ints (H.take i) ++ ints (H.drop (i + 1)) := by
  rw [oth_take H i hi H.length (Nat.le_refl _), if_neg (by omega), List.take_length]

theorem ord_zero (A B : List Int) (h : (A.filter fun x => !decide (x = 0)) = (B.filter fun x => !decide (x = 0))) : ord A = ord B := by unfold ord; rw [h]

theorem rowAt_eq (ds H : List Nat) (i n : Nat) (x : Nat × Nat) (hi : i < H.length) (hx : x ∈ mvs n 0 ds) : rowAt H i x = posOf H i (rowOf x) := by
  unfold rowAt posOf
  rw [oth_all H i hi]
  refine ord_zero _ _ ?_
  have h0 := mvs_zero n ds 0 x hx
  simp only [List.flatten_cons, List.flatten_nil, List.append_nil]
  rw [← List.append_assoc, List.filter_append, List.filter_append]
  congr 1
  unfold rowOf
  by_cases e2 : x.2 = 0
  · rw [if_pos e2, h0 e2, e2]; simp [ints]
  · rw [if_neg e2]
    by_cases e1 : x.1 = 0
    · rw [if_pos e1, e1]; simp [ints, e2]
    · rw [if_neg e1]; simp [ints]

theorem winP_eq (ds H : List Nat) (i : Nat) (hi : i < H.length) : winP ds H i = wins0 ds (cand ds H i) := by
  unfold winP wins0 cand
  rw [List.map_map, List.filter_map]
  have h1 : ((mvs (H.getD i 0) 0 ds).filter fun x => decide (gv ds x.1 ^^^ gv ds x.2 = gx ds (ints H) ^^^ gv ds (H.getD i 0))) = (mvs (H.getD i 0) 0 ds).filter ((fun p => decide (gx ds p = 0)) ∘ (posOf H i ∘ rowOf)) := by
    refine List.filter_congr fun x hx => ?_
    refine decide_eq_decide.2 ?_
    show _ ↔ gx ds (posOf H i (rowOf x)) = 0
    rw [gx_pos, gx_row ds _ x hx, gx_all ds H i hi, Nat.xor_assoc, Nat.xor_self, Nat.xor_zero]
    constructor
    · intro h; rw [← h, Nat.xor_self]
    · intro h; exact (eq_of_xor h).symm
  rw [h1]
  refine List.map_congr_left fun x hx => ?_
  exact rowAt_eq ds H i _ x hi (List.mem_filter.1 hx).1

theorem winL_eq (ds H : List Nat) (i : Nat) (hi : i ≤ H.length) : winL ds H i = mvl ds H i := by
  induction i with
  | zero => rfl
  | succ i ih =>
    rw [mvl_succ, ← ih (by omega), ← winP_eq ds H i (by omega)]
    unfold winL
    rw [List.range_succ, List.flatMap_append]; simp
end Go.Proofs.Ytodnfchkkgoabaa

/- A function that leaves with many marks: each round of a loop ranged over a function. -/
set_option linter.unusedVariables false
namespace Go.Proofs.Ytodnfchkkgoabaa
open Go.RowKit

/-- Marks of ranges over functions that are over: each in a record of its own. -/
def MarksIn (B : Nat) (w : World) : List Deferred → Prop
  | [] => True
  | d :: ds => (∃ r, d.target = .collected r ∧ B ≤ r ∧ w.heap[r]? = some (.deferred (some [])) ∧ ∀ d' ∈ ds, d'.target ≠ .collected r) ∧ MarksIn B w ds

theorem MarksIn.keep {B : Nat} {w w' : World} : ∀ {ds : List Deferred}, MarksIn B w ds → (∀ d ∈ ds, ∀ r, d.target = .collected r → B ≤ r → w.heap[r]? = some (.deferred (some [])) → w'.heap[r]? = w.heap[r]?) → MarksIn B w' ds := by
  intro ds
  induction ds with
  | nil => intro _ _; trivial
  | cons d ds ih =>
    rintro ⟨⟨r, h1, h2, h3, h4⟩, h5⟩ hk
    exact ⟨⟨r, h1, h2, (hk d (by simp) r h1 h2 h3).trans h3, h4⟩, ih h5 fun d' hd' => hk d' (by simp [hd'])⟩

theorem leaves_marks {F : Fence} {n : Nat} {P : Program} {fn : Func} {tmps : Array Value} {R : Ending → World → Prop} (B : Nat) (G : World → Prop) (hstep : ∀ X r, B ≤ r → X.heap[r]? = some (.deferred (some [])) → G X → G (X.putObj r (.deferred none)))
    (hfin : ∀ X, G X → LeavesIn F n P fn tmps R [] .returning X) : ∀ (ds : List Deferred) (w : World), MarksIn B w ds → G w → LeavesInM F n P fn tmps R ds .returning w := by
  intro ds
  induction ds with
  | nil => intro w _ hg; exact hfin w hg
  | cons d ds ih =>
    rintro w ⟨⟨r, h1, h2, h3, h4⟩, h5⟩ hg
    refine ⟨by simp, .inl ⟨r, _, h1, run_takeDeferred h3, ih _ (h5.keep fun d' hd' r' e1 _ _ => World.putObj_heap_other (fun e => h4 d' hd' (by rw [e1, e]))) (hstep w r h2 h3 hg)⟩⟩
end Go.Proofs.Ytodnfchkkgoabaa

/- A region that draws its order, in a round of a range over a function: by the laws of regions outside. It speaks of every program. -/
set_option linter.unusedVariables false
namespace Go.Proofs.Ytodnfchkkgoabaa
open Go.RowKit

/-- No operation is a defer statement. -/
def noDefer (ops : Array Oper) : Bool := ops.toList.all fun o => match o.op with | .defer _ => false | _ => true

theorem wpOp_round {P : Program} {ops : Array Oper} {Q : Exit → Act → World → Prop} {l n i : Nat} {a : Act} {w : World} (hd : noDefer ops = true) (hQ : ¬ LetsOut Q) {K : Act → World → Prop} (h : wpOp P ops Q i K a w) : wpOpIn (Fence.wide.inRound l) n P ops Q i K a w := by
  unfold wpOp at h
  unfold wpOpIn
  cases ho : ops[i]? with
  | none => rw [ho] at h; exact h
  | some o =>
    rw [ho] at h
    simp only at h ⊢
    have hnd : ∀ c, o.op ≠ .defer c := fun c e => by
      have hm : o ∈ ops.toList := by
        obtain ⟨hi, he⟩ := Array.getElem?_eq_some_iff.1 ho
        rw [← he]; exact Array.getElem_mem_toList hi
      have := List.all_eq_true.1 hd o hm
      rw [e] at this
      simp at this
    split
    · rename_i hw
      rw [if_pos hw] at h
      rcases h with h | ⟨_, h⟩
      · refine ⟨fun _ _ => trivial, ?_⟩
        rw [Oper.semAt_eq _ _ _ hnd]
        unfold Oper.wp at h
        generalize (execOp a.eval o).run P w = r at *
        cases r with
        | ok x w' =>
          cases x <;> simp only [Oper.upon, Oper.uponIn] at h ⊢ <;> first | exact h | exact h.elim | skip
          case enter f args => exact ⟨fun e => by simp [Fence.wide] at e, CallsIn.inRound l (callsIn_wide.2 h)⟩
          case row row args =>
            refine ⟨fun e => by simp [Fence.wide] at e, fun c cs _ => ?_⟩
            obtain ⟨v, w', r, s⟩ := h c cs
            exact ⟨v, w', r, stepsIn_wide.2 s⟩
        | halt x w' => cases x <;> simp only [Oper.upon, Oper.uponIn] at h ⊢ <;> exact h
      · exact absurd h hQ
    · rename_i hw
      rw [if_neg hw] at h
      exact ⟨fun _ _ => trivial, h⟩

theorem wpAny_round {P : Program} {ops : Array Oper} {Q : Exit → Act → World → Prop} {md : Region.Mode} {l n : Nat} (hd : noDefer ops = true) (hQ : ¬ LetsOut Q) : ∀ (fuel : Nat) (listed : Array Bool) (a : Act) (w : World), wpAny P md ops Q fuel listed a w → wpAnyIn (Fence.wide.inRound l) n P md ops Q fuel listed a w
  | 0, _, _, _, h => h
  | fuel + 1, _, _, _, h => ⟨h.1, fun i hi => wpOpIn_mono (fun a' w' h' => wpAny_round hd hQ fuel _ a' w' h') (wpOp_round hd hQ (h.2 i hi))⟩

/-- A region in a round. -/
theorem region_round {P : Program} {ops : Array Oper} {Q : Exit → Act → World → Prop} {S : World → Prop} {l n id : Nat} {a : Act} {w : World} (hm : P.follows .mixedOrders = true) (hd : noDefer ops = true) (hQ : ¬ LetsOut Q)
    (hS : S w.drew) (h : S w.drew → wpAnyH P .any ops Q S ops.size (Array.replicate ops.size false) a w.drew) : (Code.region id ops true).wpIn (Fence.wide.inRound l) n P Q a w :=
  wpIn_region_any hm (wpAny_round hd hQ _ _ _ _ (wpAny_of_held _ _ _ _ (h hS)))

/-- Take number i first. -/
theorem held_take {P : Program} {ops : Array Oper} {Q : Exit → Act → World → Prop} {S : World → Prop} {md : Region.Mode} (i : Nat) {oi : Oper} {v : Value} {fuel : Nat} {listed : Array Bool} {a : Act} {w : World} (hi : ops[i]? = some oi)
    (hs : Region.noSelect ops = true) (hf : Region.free md ops listed i = true) (hr : (Region.ready md ops listed).contains i = true)
    (hQ : ∀ c a w, Q (.panic c) (a.put oi.dst v) w → Q (.panic c) a w) (hw : Region.wanted oi (yielded ops a.tmps) = true) (hy : ∀ W, S W → (execOp a.eval oi).run P W = .ok (.value v) W) (hS : S w)
    (h : wpAnyH P md ops Q S fuel (listed.setIfInBounds i true) (a.put oi.dst v) w) : wpAnyH P md ops Q S (fuel + 1) listed a w :=
  wpAnyH_take hi hs hf hr hQ (.inl ⟨hw, hy⟩) hS h

theorem roundEnd_lets {B c k : Nat} {I : Nat → World → Prop} {Ix : Code → Nat → World → Prop} {W : World} : True := trivial
end Go.Proofs.Ytodnfchkkgoabaa

/- Slices of rows of integers, as run equations. -/
namespace Go.Proofs.Ytodnfchkkgoabaa
open Go.RowKit

theorem int_upto (g n c k : Nat) (hc : k ≤ c) (W : World) :
    (Instr.sliceAt 22 (.slice (some ⟨g, 0, none⟩) n c) none (some (.int .i64 (k : Int))) none).run Try.prog W = .ok (.slice (some ⟨g, 0, none⟩) k c) W := by
  rw [run_sliceAt_slice W 22 _ _ _ _ (by kernel_rfl), run_slice_h W 22 (some ⟨g, 0, none⟩) n c (by kernel_rfl) .i64 (k : Int) (by omega) (by omega)]
  go_simp

theorem int_from (g n c j : Nat) (hj : j ≤ n) (hc : n ≤ c) : ∃ (a : Addr) (c' : Nat), (∀ W, (Instr.sliceAt 22 (.slice (some ⟨g, 0, none⟩) n c) (some (.int .i64 (j : Int))) none none).run Try.prog W = .ok (.slice (some a) (n - j) c') W) ∧ ∀ k, k < n - j → a.add k = ⟨g, j + k, none⟩ := by
  by_cases hcj : c = j
  · have hnj : n = j := by omega
    subst hnj
    subst hcj
    refine ⟨⟨g, 0, none⟩, 0, fun W => ?_, fun k hk => by omega⟩
    rw [run_sliceAt_slice W 22 _ _ _ _ (by kernel_rfl), run_slice_l W 22 (some ⟨g, 0, none⟩) c c (by kernel_rfl) .i64 (c : Int) (by omega) (by omega)]
    go_simp
  · refine ⟨⟨g, j, none⟩, c - j, fun W => ?_, fun k hk => by unfold Addr.add; split <;> simp_all⟩
    rw [run_sliceAt_slice W 22 _ _ _ _ (by kernel_rfl), run_slice_l W 22 (some ⟨g, 0, none⟩) n c (by kernel_rfl) .i64 (j : Int) (by omega) (by omega)]
    go_simp
end Go.Proofs.Ytodnfchkkgoabaa
