/- A LAW for a range over a function whose rounds are numbered, where the function that is ranged over keeps variables of its own in memory, or would go on for ever. It speaks of every program. -/
import Derived.RangeFuncNested
import Derived.RangeFuncLeaves
import Derived.Below
import Derived.WalkKit
import Derived.BigQuiet
import Derived.Deep.QuietTactic
namespace Go.Proofs.Ytodnfchkkgoabaa
open Go.RowKit

/-- The second world is as the first one but for blocks from B to B + c - 1, and new ones. -/
structure Aside (B c : Nat) (w w' : World) : Prop where
  os : w'.os = w.os
  tape : w'.tape = w.tape
  output : w'.output = w.output
  size : w.heap.size ≤ w'.heap.size
  block : ∀ k, k < w.heap.size → (k < B ∨ B + c ≤ k) → w'.heap[k]? = w.heap[k]?

theorem Aside.refl (B c : Nat) (w : World) : Aside B c w w := ⟨rfl, rfl, rfl, Nat.le_refl _, fun _ _ _ => rfl⟩
theorem Aside.trans {B c : Nat} {x y z : World} (h : Aside B c x y) (k : Aside B c y z) : Aside B c x z :=
  ⟨k.os.trans h.os, k.tape.trans h.tape, k.output.trans h.output, Nat.le_trans h.size k.size, fun i hi hr => (k.block i (Nat.lt_of_lt_of_le hi h.size) hr).trans (h.block i hi hr)⟩
theorem Aside.alloc (B c : Nat) (w : World) (o : Obj) : Aside B c w (w.alloc o) :=
  ⟨rfl, rfl, rfl, by simp, fun k hk _ => Below.heap_alloc w o k hk⟩
theorem Aside.putObj {B c : Nat} (w : World) {l : Nat} (o : Obj) (h1 : B ≤ l) (h2 : l < B + c) : Aside B c w (w.putObj l o) :=
  ⟨rfl, rfl, rfl, by simp, fun k _ hr => World.putObj_heap_other (by omega)⟩
theorem Aside.setCell {B c : Nat} (w : World) (p : Addr) (v : Value) (h1 : B ≤ p.block) (h2 : p.block < B + c) : Aside B c w (w.setCell p v) :=
  ⟨rfl, rfl, rfl, by simp [World.setCell], fun k _ hr => Below.heap_setCell w p v k (by omega)⟩
theorem Aside.drew (B c : Nat) (w : World) : Aside B c w w.drew := ⟨rfl, rfl, rfl, Nat.le_refl _, fun _ _ _ => rfl⟩
theorem Aside.drewN (B c : Nat) (w : World) (n : Nat) : Aside B c w (w.drewN n) := by
  induction n with
  | zero => exact Aside.refl _ _ _
  | succ n ih => exact ⟨ih.os, ih.tape, ih.output, ih.size, ih.block⟩
theorem Aside.mono {B c B' c' : Nat} {w w' : World} (h : Aside B c w w') (h1 : B' ≤ B) (h2 : B + c ≤ B' + c') : Aside B' c' w w' :=
  ⟨h.os, h.tape, h.output, h.size, fun k hk hr => h.block k hk (by omega)⟩
theorem Aside.below {B c : Nat} {w w' : World} (h : Aside B c w w') (hB : B ≤ w.heap.size) : Below B w w' :=
  ⟨h.os, h.tape, h.output, h.size, fun k hk => h.block k (by omega) (.inl hk)⟩

/-- What abides every change of those blocks. -/
def Ab (B c : Nat) (J : Nat → World → Prop) : Prop := ∀ k w w', J k w → Aside B c w w' → J k w'

/-- Those blocks lie as they lay. -/
structure Keep (B c : Nat) (w w' : World) : Prop where
  size : w.heap.size ≤ w'.heap.size
  block : ∀ k, B ≤ k → k < B + c → k < w.heap.size → w'.heap[k]? = w.heap[k]?

/-- What a function that is ranged over does, called in the world W: round k (while Rd k) hands enc k to yield; it ends when yield says no, or behind a round Fin. -/
def Iter (n : Nat) (P : Program) (gf : Nat) (lb : Array Value) (enc : Nat → Array Value) (c M : Nat) (Rd Fin : Nat → Prop) (Q : World → Prop) (W : World) : Prop :=
  ∀ (l N : Nat) (J Jx : Nat → World → Prop), N ≤ M → Ab W.heap.size c J → Ab W.heap.size c Jx → (∀ k W1, J k W1 → k ≤ N) → (∀ k W1, J k W1 → Q W1) →
    (∀ k W1, Rd k → J k W1 → W.heap.size + c ≤ W1.heap.size → YieldAt Fence.wide (n - 1) P l (enc k) W1 fun e W' =>
      ((e = .returned (.bool true) ∧ J (k + 1) W') ∨ (e = .returned (.bool false) ∧ Jx (k + 1) W')) ∧ Keep W.heap.size c W1 W') →
    J 0 W →
    CallsIn Fence.wide n P gf (#[.func (.yield l) #[] #[]] ++ lb) W fun e W' => (∃ v, e = .returned v) ∧ ((∃ k, Fin k ∧ J k W') ∨ (∃ k, Jx k W'))

/-- How a round's body may be left. -/
def RoundEnd (B c : Nat) (I : Nat → World → Prop) (Ix : Code → Nat → World → Prop) (k : Nat) (W : World) : Exit → Act → World → Prop
  | .normal, _, W' => Keep B c W W' ∧ I (k + 1) W'
  | .ret, _, W' => Keep B c W W' ∧ Ix .ret (k + 1) W'
  | .exit id, _, W' => Keep B c W W' ∧ Ix (.exit id) (k + 1) W'
  | .goto t, _, W' => Keep B c W W' ∧ Ix (.goto t) (k + 1) W'
  | .panic _, _, _ => False
  | .outgrown, _, _ => False

theorem range_law {P : Program} {g : Operand} {ps : Array Tmp} {assign body : Code} {Q : Exit → Act → World → Prop} {a : Act} {w : World} {n gf c N M : Nat} {lb : Array Value} {enc : Nat → Array Value} {Rd Fin : Nat → Prop} {QQ : World → Prop}
    (hg : a.eval g = .func (.func gf) #[] lb) (eg : ∀ args w, (callFunc gf args).run P w = .ok (.enter gf args) w) (hps : ∀ k, (enc k).size = ps.size)
    (hit : ∀ W1, Aside w.heap.size 0 w W1 → W1.heap.size = w.heap.size + 2 → Iter (n - 1) P gf lb enc c M Rd Fin QQ W1) (hNM : N ≤ M)
    (I : Nat → World → Prop) (Ix : Code → Nat → World → Prop) (hI : Ab w.heap.size (2 + c) I) (hIx : ∀ d, Ab w.heap.size (2 + c) (Ix d)) (h0 : I 0 w) (hN : ∀ k W, I k W → k ≤ N) (hQ : ∀ k W, I k W → QQ W)
    (a₁ : Nat → Act)
    (hassign : ∀ (l k : Nat) (W : World) (K : Act → World → Prop), K (a₁ k) W →
      assign.wpIn (Fence.wide.inRound l) (n - 1 - 1) P (Exit.then K (fun _ _ _ => False)) { tmps := (ps.zip (enc k)).foldl (fun t (p, v) => t.setIfInBounds p v) a.tmps, defers := [] } W)
    (hbody : ∀ (l k : Nat) (W : World), Rd k → I k W → w.heap.size + 2 + c ≤ W.heap.size → body.wpIn (Fence.wide.inRound l) (n - 1 - 1) P (RoundEnd w.heap.size (2 + c) I Ix k W) (a₁ k) W)
    (hdone : ∀ k W, Fin k → I k W → W.heap[w.heap.size]? = some (.deferred (some [])) → Q .normal { a with defers := { target := .collected w.heap.size, args := #[] } :: a.defers } W)
    (hstop : ∀ d k W, Ix d k W → W.heap[w.heap.size]? = some (.deferred (some [])) → d.wpIn Fence.wide n P Q { a with defers := { target := .collected w.heap.size, args := #[] } :: a.defers } W) :
    (Code.rangeFunc g ps assign body).wpIn Fence.wide n P Q a w := by
  refine wpIn_rangeFunc ?_
  intro fn hfn
  obtain ⟨R, hR⟩ : ∃ R : LoopState → Option Code → Loop, R = fun st pe => { state := st, pending := pe, fn, tmps := a.tmps, params := ps, assign, body, defers := w.heap.size } := ⟨_, rfl⟩
  obtain ⟨W1, hW1⟩ : ∃ W1, (w.alloc (.deferred (some []))).alloc (.loop (R .ready none)) = W1 := ⟨_, rfl⟩
  have hs1 : W1.heap.size = w.heap.size + 2 := by rw [← hW1]; simp
  have hA1 : ∀ B c', Aside B c' w W1 := fun B c' => by rw [← hW1]; exact (Aside.alloc B c' w _).trans (Aside.alloc B c' _ _)
  have hl1 : W1.heap[w.heap.size + 1]? = some (.loop (R .ready none)) := by
    rw [← hW1]; have := World.alloc_heap_new (w.alloc (.deferred (some []))) (.loop (R .ready none)); simpa using this
  have hd1 : W1.heap[w.heap.size]? = some (.deferred (some [])) := by
    rw [← hW1, Below.heap_alloc _ _ _ (by simp)]; exact World.alloc_heap_new w _
  refine ⟨w.heap.size + 1, [{ target := .collected w.heap.size, args := #[] }], W1, { target := .fn (.func gf) lb, args := #[.func (.yield (w.heap.size + 1)) #[] #[]] }, W1, gf,
    #[.func (.yield (w.heap.size + 1)) #[] #[]] ++ lb, W1, ?_, ?_, fun _ _ => trivial, ?_, fun h => (by simp [Fence.wide] at h), ?_⟩
  · rw [← hW1, hR]; exact run_enterLoop_outer _ _ _ _ _
  · simp only [resolve, hg]
    simp [go_sem]
  · simp [invoke, go_sem, eg]
  have hIter := hit W1 (hA1 _ _) hs1 (w.heap.size + 1) N
    (fun k W => I k W ∧ W.heap[w.heap.size + 1]? = some (.loop (R .ready none)) ∧ W.heap[w.heap.size]? = some (.deferred (some [])))
    (fun k W => ∃ d, Ix d k W ∧ W.heap[w.heap.size + 1]? = some (.loop (R .done (some d))) ∧ W.heap[w.heap.size]? = some (.deferred (some [])))
  rw [hs1] at hIter
  have early : ∀ {X Y : World} {k : Nat} {o : Obj}, X.heap[k]? = some o → Aside (w.heap.size + 2) c X Y → k < w.heap.size + 2 → Y.heap[k]? = some o := fun hk hXY hlt => by
    rw [hXY.block _ (Array.getElem?_eq_some_iff.1 hk).1 (.inl hlt)]; exact hk
  refine (hIter hNM ?_ ?_ (fun k W h => hN k W h.1) (fun k W h => hQ k W h.1) ?_ ⟨hI _ _ _ h0 (hA1 _ _), hl1, hd1⟩).mono ?_
  · rintro k X Y ⟨h1, h2, h3⟩ hXY
    exact ⟨hI _ _ _ h1 (hXY.mono (by omega) (by omega)), early h2 hXY (by omega), early h3 hXY (by omega)⟩
  · rintro k X Y ⟨d, h1, h2, h3⟩ hXY
    exact ⟨d, hIx d _ _ _ h1 (hXY.mono (by omega) (by omega)), early h2 hXY (by omega), early h3 hXY (by omega)⟩
  · -- a round
    rintro k X hk ⟨hi, hl, hd⟩ hsz
    have hy := run_yield (P := P) (args := enc k) hl (by rw [hR]; exact hps k)
    rw [hR] at hy
    refine ⟨fn, _, assign, body, hy, roundIn_of_wpIn hfn (hassign _ k X _ ?_)⟩
    refine ⟨_, run_beginRound hl (by rw [hR]), ?_⟩
    have hlt : w.heap.size + 1 < X.heap.size := (Array.getElem?_eq_some_iff.1 hl).1
    have hl2 := World.putObj_heap_same (w := X) (o := .loop { R .ready none with state := .busy }) hlt
    have hd2 : (X.putObj (w.heap.size + 1) (.loop { R .ready none with state := .busy })).heap[w.heap.size]? = some (.deferred (some [])) := (World.putObj_heap_other (by omega)).trans hd
    obtain ⟨X2, hX2⟩ : ∃ X2, X.putObj (w.heap.size + 1) (.loop { R .ready none with state := .busy }) = X2 := ⟨_, rfl⟩
    have hAX : Aside w.heap.size (2 + c) X X2 := by rw [← hX2]; exact Aside.putObj X _ (by omega) (by omega)
    have hX2s : X2.heap.size = X.heap.size := by rw [← hX2]; simp
    have hKX : ∀ i, w.heap.size + 2 ≤ i → X2.heap[i]? = X.heap[i]? := fun i hi' => by rw [← hX2]; exact World.putObj_heap_other (by omega)
    rw [hX2] at hl2 hd2 ⊢
    refine wpIn_mono (hbody _ k X2 hk (hI _ _ _ hi hAX) (by omega)) ?_
    have fin : ∀ (jump : Option Code) (X3 : World), Keep w.heap.size (2 + c) X2 X3 →
        (Instr.endRound (w.heap.size + 1) jump).run P X3 = .ok (.bool jump.isNone) (X3.putObj (w.heap.size + 1) (.loop (R (if jump.isNone then .ready else .done) jump))) ∧
        Aside w.heap.size (2 + c) X3 (X3.putObj (w.heap.size + 1) (.loop (R (if jump.isNone then .ready else .done) jump))) ∧
        (X3.putObj (w.heap.size + 1) (.loop (R (if jump.isNone then .ready else .done) jump))).heap[w.heap.size + 1]? = some (.loop (R (if jump.isNone then .ready else .done) jump)) ∧
        (X3.putObj (w.heap.size + 1) (.loop (R (if jump.isNone then .ready else .done) jump))).heap[w.heap.size]? = some (.deferred (some [])) ∧
        Keep (w.heap.size + 2) c X (X3.putObj (w.heap.size + 1) (.loop (R (if jump.isNone then .ready else .done) jump))) := fun jump X3 hk3 => by
      have hl3 := (hk3.block (w.heap.size + 1) (by omega) (by omega) (by omega)).trans hl2
      have hd3 := (hk3.block w.heap.size (by omega) (by omega) (by omega)).trans hd2
      have hr := run_endRound (P := P) jump hl3
      have h3 := hk3.size
      rw [hR] at hr ⊢
      refine ⟨hr, Aside.putObj X3 _ (by omega) (by omega), World.putObj_heap_same (by omega), (World.putObj_heap_other (by omega)).trans hd3, ⟨by simp; omega, fun i h4 h5 h6 => ?_⟩⟩
      rw [World.putObj_heap_other (by omega), hk3.block i (by omega) (by omega) (by omega), hKX i h4]
    rintro e a3 X3 hp
    cases e with
    | normal =>
      obtain ⟨hk3, hi3⟩ := hp
      obtain ⟨hr, hA, hl4, hd4, hK4⟩ := fin none X3 hk3
      exact ⟨_, _, hr, .inl ⟨rfl, hI _ _ _ hi3 hA, hl4, hd4⟩, hK4⟩
    | ret =>
      obtain ⟨hk3, hi3⟩ := hp
      obtain ⟨hr, hA, hl4, hd4, hK4⟩ := fin (some .ret) X3 hk3
      exact ⟨_, _, hr, .inr ⟨rfl, .ret, hIx _ _ _ _ hi3 hA, hl4, hd4⟩, hK4⟩
    | exit id =>
      obtain ⟨hk3, hi3⟩ := hp
      obtain ⟨hr, hA, hl4, hd4, hK4⟩ := fin (some (.exit id)) X3 hk3
      exact ⟨_, _, hr, .inr ⟨rfl, .exit id, hIx _ _ _ _ hi3 hA, hl4, hd4⟩, hK4⟩
    | goto t =>
      obtain ⟨hk3, hi3⟩ := hp
      obtain ⟨hr, hA, hl4, hd4, hK4⟩ := fin (some (.goto t)) X3 hk3
      exact ⟨_, _, hr, .inr ⟨rfl, .goto t, hIx _ _ _ _ hi3 hA, hl4, hd4⟩, hK4⟩
    | panic ch => exact hp.elim
    | outgrown => exact hp.elim
  · -- behind the loop
    rintro e X ⟨⟨v, rfl⟩, (⟨k, hF, hi, hl, hd⟩ | ⟨k, d, hi, hl, hd⟩)⟩
    · have he := run_endLoop (P := P) hl (by rw [hR]; simp)
      rw [hR] at he
      exact ⟨none, _, he, hdone k _ hF (hI _ _ _ hi (Aside.putObj X _ (by omega) (by omega))) ((World.putObj_heap_other (by omega)).trans hd)⟩
    · have he := run_endLoop (P := P) hl (by rw [hR]; simp)
      rw [hR] at he
      exact ⟨some d, _, he, hstop d k _ (hIx _ _ _ _ hi (Aside.putObj X _ (by omega) (by omega))) ((World.putObj_heap_other (by omega)).trans hd)⟩

/-- The same, with a name for the heap's size. -/
theorem range_law_at {P : Program} {g : Operand} {ps : Array Tmp} {assign body : Code} {Q : Exit → Act → World → Prop} {a : Act} {w : World} {D n gf c N M : Nat} {lb : Array Value} {enc : Nat → Array Value} {Rd Fin : Nat → Prop} {QQ : World → Prop}
    (hD : w.heap.size = D) (hg : a.eval g = .func (.func gf) #[] lb) (eg : ∀ args w, (callFunc gf args).run P w = .ok (.enter gf args) w) (hps : ∀ k, (enc k).size = ps.size)
    (hit : ∀ W1, Aside D 0 w W1 → W1.heap.size = D + 2 → Iter (n - 1) P gf lb enc c M Rd Fin QQ W1) (hNM : N ≤ M)
    (I : Nat → World → Prop) (Ix : Code → Nat → World → Prop) (hI : Ab D (2 + c) I) (hIx : ∀ d, Ab D (2 + c) (Ix d)) (h0 : I 0 w) (hN : ∀ k W, I k W → k ≤ N) (hQ : ∀ k W, I k W → QQ W)
    (a₁ : Nat → Act)
    (hassign : ∀ (l k : Nat) (W : World) (K : Act → World → Prop), K (a₁ k) W →
      assign.wpIn (Fence.wide.inRound l) (n - 1 - 1) P (Exit.then K (fun _ _ _ => False)) { tmps := (ps.zip (enc k)).foldl (fun t (p, v) => t.setIfInBounds p v) a.tmps, defers := [] } W)
    (hbody : ∀ (l k : Nat) (W : World), Rd k → I k W → D + 2 + c ≤ W.heap.size → body.wpIn (Fence.wide.inRound l) (n - 1 - 1) P (RoundEnd D (2 + c) I Ix k W) (a₁ k) W)
    (hdone : ∀ k W, Fin k → I k W → W.heap[D]? = some (.deferred (some [])) → Q .normal { a with defers := { target := .collected D, args := #[] } :: a.defers } W)
    (hstop : ∀ d k W, Ix d k W → W.heap[D]? = some (.deferred (some [])) → d.wpIn Fence.wide n P Q { a with defers := { target := .collected D, args := #[] } :: a.defers } W) :
    (Code.rangeFunc g ps assign body).wpIn Fence.wide n P Q a w := by
  subst hD
  exact range_law hg eg hps hit hNM I Ix hI hIx h0 hN hQ a₁ hassign hbody hdone hstop

end Go.Proofs.Ytodnfchkkgoabaa

/- A LAW for a range over a function that makes memory of its own while it goes on (a row that grows, say), and so may its loop's body: each side leaves the blocks of the other as they are. The body's blocks are named by a list that grows. It speaks of every program. -/
namespace Go.Proofs.Ytodnfchkkgoabaa
open Go.RowKit

/-- Blocks below B, and those of the list, lie as they lay. -/
structure AsideO (B : Nat) (O : List Nat) (w w' : World) : Prop where
  os : w'.os = w.os
  tape : w'.tape = w.tape
  output : w'.output = w.output
  size : w.heap.size ≤ w'.heap.size
  block : ∀ b, b < w.heap.size → (b < B ∨ b ∈ O) → w'.heap[b]? = w.heap[b]?

theorem AsideO.refl (B : Nat) (O : List Nat) (w : World) : AsideO B O w w := ⟨rfl, rfl, rfl, Nat.le_refl _, fun _ _ _ => rfl⟩
theorem AsideO.trans {B : Nat} {O : List Nat} {x y z : World} (h : AsideO B O x y) (k : AsideO B O y z) : AsideO B O x z :=
  ⟨k.os.trans h.os, k.tape.trans h.tape, k.output.trans h.output, Nat.le_trans h.size k.size, fun i hi hr => (k.block i (Nat.lt_of_lt_of_le hi h.size) hr).trans (h.block i hi hr)⟩
theorem AsideO.alloc (B : Nat) (O : List Nat) (w : World) (o : Obj) : AsideO B O w (w.alloc o) := ⟨rfl, rfl, rfl, by simp, fun k hk _ => Below.heap_alloc w o k hk⟩
theorem AsideO.of_below {B C : Nat} {O : List Nat} {w w' : World} (h : Below C w w') (hC : w.heap.size ≤ C) : AsideO B O w w' :=
  ⟨h.os, h.tape, h.output, h.size, fun k hk _ => h.block k (by omega)⟩
theorem AsideO.putObj {B : Nat} {O : List Nat} (w : World) {l : Nat} (o : Obj) (h1 : B ≤ l) (h2 : l ∉ O) : AsideO B O w (w.putObj l o) :=
  ⟨rfl, rfl, rfl, by simp, fun k _ hr => World.putObj_heap_other (fun e => by subst e; rcases hr with h | h; omega; exact h2 h)⟩
theorem AsideO.mono {B C : Nat} {O : List Nat} {w w' : World} (h : AsideO B O w w') (hC : C ≤ B) : AsideO C O w w' := ⟨h.os, h.tape, h.output, h.size, fun k hk hr => h.block k hk (hr.imp (fun x => by omega) id)⟩
theorem AsideO.below {B : Nat} {O : List Nat} {w w' : World} (h : AsideO B O w w') (hB : B ≤ w.heap.size) : Below B w w' := ⟨h.os, h.tape, h.output, h.size, fun k hk => h.block k (by omega) (.inl hk)⟩

/-- What abides what the function that is ranged over does. -/
def AbO (B : Nat) (J : Nat → List Nat → World → Prop) : Prop := ∀ k O w w', J k O w → AsideO B O w w' → J k O w'

/-- A round leaves the blocks from B on as they lay, but for its own; those that it then has are old ones of its own, or new. -/
structure KeepO (B : Nat) (O O' : List Nat) (w w' : World) : Prop where
  size : w.heap.size ≤ w'.heap.size
  block : ∀ b, B ≤ b → b < w.heap.size → b ∉ O → w'.heap[b]? = w.heap[b]?
  own : ∀ b, b ∈ O' → b ∈ O ∨ w.heap.size ≤ b

/-- What a function that is ranged over does, called in the world W. -/
def IterO (n : Nat) (P : Program) (gf : Nat) (lb : Array Value) (enc : Nat → Array Value) (M : Nat) (Rd Fin : Nat → Prop) (Q : World → Prop) (W : World) : Prop :=
  ∀ (l N : Nat) (J Jx : Nat → List Nat → World → Prop), N ≤ M → AbO W.heap.size J → AbO W.heap.size Jx → (∀ k O W1, J k O W1 → k ≤ N) → (∀ k O W1, J k O W1 → Q W1) → (∀ k O W1, J k O W1 → ∀ b ∈ O, b < W1.heap.size) →
    (∀ k O W1, Rd k → J k O W1 → W.heap.size ≤ W1.heap.size → YieldAt Fence.wide (n - 1) P l (enc k) W1 fun e W' =>
      ∃ O', ((e = .returned (.bool true) ∧ J (k + 1) O' W') ∨ (e = .returned (.bool false) ∧ Jx (k + 1) O' W')) ∧ KeepO W.heap.size O O' W1 W') →
    J 0 [] W →
    CallsIn Fence.wide n P gf (#[.func (.yield l) #[] #[]] ++ lb) W fun e W' => (∃ v, e = .returned v) ∧ ((∃ k O, Fin k ∧ J k O W') ∨ (∃ k O, Jx k O W'))

/-- How a round's body may be left. -/
def RoundEndO (B : Nat) (I : Nat → List Nat → World → Prop) (Ix : Code → Nat → List Nat → World → Prop) (k : Nat) (O : List Nat) (W : World) : Exit → Act → World → Prop
  | .normal, _, W' => ∃ O', KeepO B O O' W W' ∧ I (k + 1) O' W'
  | .ret, _, W' => ∃ O', KeepO B O O' W W' ∧ Ix .ret (k + 1) O' W'
  | .exit id, _, W' => ∃ O', KeepO B O O' W W' ∧ Ix (.exit id) (k + 1) O' W'
  | .goto t, _, W' => ∃ O', KeepO B O O' W W' ∧ Ix (.goto t) (k + 1) O' W'
  | .panic _, _, _ => False
  | .outgrown, _, _ => False

theorem range_lawO {P : Program} {g : Operand} {ps : Array Tmp} {assign body : Code} {Q : Exit → Act → World → Prop} {a : Act} {w : World} {n gf N M D : Nat} {lb : Array Value} {enc : Nat → Array Value} {Rd Fin : Nat → Prop} {QQ : World → Prop}
    (hD : w.heap.size = D) (hg : a.eval g = .func (.func gf) #[] lb) (eg : ∀ args w, (callFunc gf args).run P w = .ok (.enter gf args) w) (hps : ∀ k, (enc k).size = ps.size)
    (hit : ∀ W1, Aside D 0 w W1 → W1.heap.size = D + 2 → IterO (n - 1) P gf lb enc M Rd Fin QQ W1) (hNM : N ≤ M)
    (I : Nat → List Nat → World → Prop) (Ix : Code → Nat → List Nat → World → Prop) (hI : AbO D I) (hIx : ∀ d, AbO D (Ix d)) (h0 : I 0 [] w) (hN : ∀ k O W, I k O W → k ≤ N) (hQ : ∀ k O W, I k O W → QQ W) (hO : ∀ k O W, I k O W → ∀ b ∈ O, b < W.heap.size)
    (a₁ : Nat → Act)
    (hassign : ∀ (l k : Nat) (W : World) (K : Act → World → Prop), K (a₁ k) W →
      assign.wpIn (Fence.wide.inRound l) (n - 1 - 1) P (Exit.then K (fun _ _ _ => False)) { tmps := (ps.zip (enc k)).foldl (fun t (p, v) => t.setIfInBounds p v) a.tmps, defers := [] } W)
    (hbody : ∀ (l k : Nat) (O : List Nat) (W : World), Rd k → I k O W → D + 2 ≤ W.heap.size → (∀ b ∈ O, D + 2 ≤ b) → body.wpIn (Fence.wide.inRound l) (n - 1 - 1) P (RoundEndO D I Ix k O W) (a₁ k) W)
    (hdone : ∀ k O W, Fin k → I k O W → (∀ b ∈ O, D + 2 ≤ b) → W.heap[D]? = some (.deferred (some [])) → Q .normal { a with defers := { target := .collected D, args := #[] } :: a.defers } W)
    (hstop : ∀ d k O W, Ix d k O W → (∀ b ∈ O, D + 2 ≤ b) → W.heap[D]? = some (.deferred (some [])) → d.wpIn Fence.wide n P Q { a with defers := { target := .collected D, args := #[] } :: a.defers } W) :
    (Code.rangeFunc g ps assign body).wpIn Fence.wide n P Q a w := by
  subst hD
  refine wpIn_rangeFunc ?_
  intro fn hfn
  obtain ⟨R, hR⟩ : ∃ R : LoopState → Option Code → Loop, R = fun st pe => { state := st, pending := pe, fn, tmps := a.tmps, params := ps, assign, body, defers := w.heap.size } := ⟨_, rfl⟩
  obtain ⟨W1, hW1⟩ : ∃ W1, (w.alloc (.deferred (some []))).alloc (.loop (R .ready none)) = W1 := ⟨_, rfl⟩
  have hs1 : W1.heap.size = w.heap.size + 2 := by rw [← hW1]; simp
  have hA1 : ∀ B O, AsideO B O w W1 := fun B O => by rw [← hW1]; exact (AsideO.alloc B O w _).trans (AsideO.alloc B O _ _)
  have hA0 : Aside w.heap.size 0 w W1 := by rw [← hW1]; exact (Aside.alloc _ _ w _).trans (Aside.alloc _ _ _ _)
  have hl1 : W1.heap[w.heap.size + 1]? = some (.loop (R .ready none)) := by
    rw [← hW1]; have := World.alloc_heap_new (w.alloc (.deferred (some []))) (.loop (R .ready none)); simpa using this
  have hd1 : W1.heap[w.heap.size]? = some (.deferred (some [])) := by
    rw [← hW1, Below.heap_alloc _ _ _ (by simp)]; exact World.alloc_heap_new w _
  refine ⟨w.heap.size + 1, [{ target := .collected w.heap.size, args := #[] }], W1, { target := .fn (.func gf) lb, args := #[.func (.yield (w.heap.size + 1)) #[] #[]] }, W1, gf,
    #[.func (.yield (w.heap.size + 1)) #[] #[]] ++ lb, W1, ?_, ?_, fun _ _ => trivial, ?_, fun h => (by simp [Fence.wide] at h), ?_⟩
  · rw [← hW1, hR]; exact run_enterLoop_outer _ _ _ _ _
  · simp only [resolve, hg]
    simp [go_sem]
  · simp [invoke, go_sem, eg]
  have hIter := hit W1 hA0 hs1 (w.heap.size + 1) N
    (fun k O W => I k O W ∧ W.heap[w.heap.size + 1]? = some (.loop (R .ready none)) ∧ W.heap[w.heap.size]? = some (.deferred (some [])) ∧ ∀ b ∈ O, w.heap.size + 2 ≤ b)
    (fun k O W => ∃ d, Ix d k O W ∧ W.heap[w.heap.size + 1]? = some (.loop (R .done (some d))) ∧ W.heap[w.heap.size]? = some (.deferred (some [])) ∧ ∀ b ∈ O, w.heap.size + 2 ≤ b)
  rw [hs1] at hIter
  have early : ∀ {X Y : World} {k : Nat} {o : Obj} {O : List Nat}, X.heap[k]? = some o → AsideO (w.heap.size + 2) O X Y → k < w.heap.size + 2 → Y.heap[k]? = some o := fun hk hXY hlt => by
    rw [hXY.block _ (Array.getElem?_eq_some_iff.1 hk).1 (.inl hlt)]; exact hk
  refine (hIter hNM ?_ ?_ (fun k O W h => hN k O W h.1) (fun k O W h => hQ k O W h.1) (fun k O W h => hO k O W h.1) ?_ ⟨hI _ _ _ _ h0 (hA1 _ _), hl1, hd1, fun b hb => by cases hb⟩).mono ?_
  · rintro k O X Y ⟨h1, h2, h3, h4⟩ hXY
    exact ⟨hI _ _ _ _ h1 (hXY.mono (by omega)), early h2 hXY (by omega), early h3 hXY (by omega), h4⟩
  · rintro k O X Y ⟨d, h1, h2, h3, h4⟩ hXY
    exact ⟨d, hIx d _ _ _ _ h1 (hXY.mono (by omega)), early h2 hXY (by omega), early h3 hXY (by omega), h4⟩
  · -- a round
    rintro k O X hk ⟨hi, hl, hd, ho⟩ hsz
    have hy := run_yield (P := P) (args := enc k) hl (by rw [hR]; exact hps k)
    rw [hR] at hy
    refine ⟨fn, _, assign, body, hy, roundIn_of_wpIn hfn (hassign _ k X _ ?_)⟩
    refine ⟨_, run_beginRound hl (by rw [hR]), ?_⟩
    have hlt : w.heap.size + 1 < X.heap.size := (Array.getElem?_eq_some_iff.1 hl).1
    have hl2 := World.putObj_heap_same (w := X) (o := .loop { R .ready none with state := .busy }) hlt
    have hd2 : (X.putObj (w.heap.size + 1) (.loop { R .ready none with state := .busy })).heap[w.heap.size]? = some (.deferred (some [])) := (World.putObj_heap_other (by omega)).trans hd
    obtain ⟨X2, hX2⟩ : ∃ X2, X.putObj (w.heap.size + 1) (.loop { R .ready none with state := .busy }) = X2 := ⟨_, rfl⟩
    have hno : w.heap.size + 1 ∉ O := fun h => by have := ho _ h; omega
    have hAX : AsideO w.heap.size O X X2 := by rw [← hX2]; exact AsideO.putObj X _ (by omega) hno
    have hX2s : X2.heap.size = X.heap.size := by rw [← hX2]; simp
    have hKX : ∀ i, i ≠ w.heap.size + 1 → X2.heap[i]? = X.heap[i]? := fun i hi' => by rw [← hX2]; exact World.putObj_heap_other (by omega)
    rw [hX2] at hl2 hd2 ⊢
    refine wpIn_mono (hbody _ k O X2 hk (hI _ _ _ _ hi hAX) (by omega) ho) ?_
    have fin : ∀ (jump : Option Code) (O' : List Nat) (X3 : World), KeepO w.heap.size O O' X2 X3 →
        (Instr.endRound (w.heap.size + 1) jump).run P X3 = .ok (.bool jump.isNone) (X3.putObj (w.heap.size + 1) (.loop (R (if jump.isNone then .ready else .done) jump))) ∧
        AsideO w.heap.size O' X3 (X3.putObj (w.heap.size + 1) (.loop (R (if jump.isNone then .ready else .done) jump))) ∧
        (X3.putObj (w.heap.size + 1) (.loop (R (if jump.isNone then .ready else .done) jump))).heap[w.heap.size + 1]? = some (.loop (R (if jump.isNone then .ready else .done) jump)) ∧
        (X3.putObj (w.heap.size + 1) (.loop (R (if jump.isNone then .ready else .done) jump))).heap[w.heap.size]? = some (.deferred (some [])) ∧
        (∀ b ∈ O', w.heap.size + 2 ≤ b) ∧
        KeepO (w.heap.size + 2) O O' X (X3.putObj (w.heap.size + 1) (.loop (R (if jump.isNone then .ready else .done) jump))) := fun jump O' X3 hk3 => by
      have hl3 := (hk3.block (w.heap.size + 1) (by omega) (by omega) hno).trans hl2
      have hno0 : w.heap.size ∉ O := fun h => by have := ho _ h; omega
      have hd3 := (hk3.block w.heap.size (by omega) (by omega) hno0).trans hd2
      have ho' : ∀ b ∈ O', w.heap.size + 2 ≤ b := fun b hb => by
        rcases hk3.own b hb with h | h
        · exact ho b h
        · omega
      have hno' : w.heap.size + 1 ∉ O' := fun h => by have := ho' _ h; omega
      have hr := run_endRound (P := P) jump hl3
      have h3 := hk3.size
      rw [hR] at hr ⊢
      refine ⟨hr, AsideO.putObj X3 _ (by omega) hno', World.putObj_heap_same (by omega), (World.putObj_heap_other (by omega)).trans hd3, ho', ⟨by simp; omega, fun i h4 h5 h6 => ?_, fun b hb => ?_⟩⟩
      · rw [World.putObj_heap_other (by omega), hk3.block i (by omega) (by omega) h6, hKX i (by omega)]
      · have := hk3.own b hb
        rw [hX2s] at this; exact this
    rintro e a3 X3 hp
    cases e with
    | normal =>
      obtain ⟨O', hk3, hi3⟩ := hp
      obtain ⟨hr, hA, hl4, hd4, ho4, hK4⟩ := fin none O' X3 hk3
      exact ⟨_, _, hr, O', .inl ⟨rfl, hI _ _ _ _ hi3 hA, hl4, hd4, ho4⟩, hK4⟩
    | ret =>
      obtain ⟨O', hk3, hi3⟩ := hp
      obtain ⟨hr, hA, hl4, hd4, ho4, hK4⟩ := fin (some .ret) O' X3 hk3
      exact ⟨_, _, hr, O', .inr ⟨rfl, .ret, hIx _ _ _ _ _ hi3 hA, hl4, hd4, ho4⟩, hK4⟩
    | exit id =>
      obtain ⟨O', hk3, hi3⟩ := hp
      obtain ⟨hr, hA, hl4, hd4, ho4, hK4⟩ := fin (some (.exit id)) O' X3 hk3
      exact ⟨_, _, hr, O', .inr ⟨rfl, .exit id, hIx _ _ _ _ _ hi3 hA, hl4, hd4, ho4⟩, hK4⟩
    | goto t =>
      obtain ⟨O', hk3, hi3⟩ := hp
      obtain ⟨hr, hA, hl4, hd4, ho4, hK4⟩ := fin (some (.goto t)) O' X3 hk3
      exact ⟨_, _, hr, O', .inr ⟨rfl, .goto t, hIx _ _ _ _ _ hi3 hA, hl4, hd4, ho4⟩, hK4⟩
    | panic ch => exact hp.elim
    | outgrown => exact hp.elim
  · -- behind the loop
    rintro e X ⟨⟨v, rfl⟩, (⟨k, O, hF, hi, hl, hd, ho⟩ | ⟨k, O, d, hi, hl, hd, ho⟩)⟩
    · have hno : w.heap.size + 1 ∉ O := fun h => by have := ho _ h; omega
      have he := run_endLoop (P := P) hl (by rw [hR]; simp)
      rw [hR] at he
      exact ⟨none, _, he, hdone k O _ hF (hI _ _ _ _ hi (AsideO.putObj X _ (by omega) hno)) ho ((World.putObj_heap_other (by omega)).trans hd)⟩
    · have hno : w.heap.size + 1 ∉ O := fun h => by have := ho _ h; omega
      have he := run_endLoop (P := P) hl (by rw [hR]; simp)
      rw [hR] at he
      exact ⟨some d, _, he, hstop d k O _ (hIx _ _ _ _ _ hi (AsideO.putObj X _ (by omega) hno)) ho ((World.putObj_heap_other (by omega)).trans hd)⟩
end Go.Proofs.Ytodnfchkkgoabaa
