/- A map from positions to numbers, as it lies in memory: what look-ups, stores and ranges do. -/
import Derived.Test.YtodnfchkkgoabaaP
import Derived.Maps.RangeWalk
import Derived.Laws.StructEq
namespace Go.Proofs.Ytodnfchkkgoabaa
open Go.RowKit

abbrev posV (v t : Nat) : Value := .agg #[.int .i64 (v : Int), .int .i64 (t : Int)]

theorem eq_pos (w : World) (a b c d : Nat) : (Op.equal 88 (posV a b) (posV c d)).run Try.prog w = .ok (a == c && b == d) w := by
  unfold Op.equal
  have ht : Try.prog.underlying 88 = some (.struct (Try.prog.fieldsOf 88)) := by kernel_rfl
  have hp : Try.prog.stoodInHeld 88 = false := by kernel_rfl
  have hf : (Try.prog.fieldsOf 88).toList = [⟨"vertex", 3, 0, false, "", "stadda/heap", 0⟩, ⟨"turn", 3, 1, false, "", "stadda/heap", 8⟩] := by kernel_rfl
  show (Op.equalIn (9999 + 1) _ _ _).run _ _ = _
  rw [run_equalIn_agg w _ _ _ _ ht hp, hf]
  simp [Op.eqFields, go_sem]
  by_cases h1 : a = c
  · by_cases h2 : b = d
    · subst h1 h2; simp
    · rw [if_pos (by exact_mod_cast h1), if_neg (by exact_mod_cast h2)]; simp [h2]
  · rw [if_neg (by exact_mod_cast h1)]; simp [h1]

theorem check_pos (w : World) (q : Bool) (a b : Nat) : (Instr.checkKey q 10000 88 (posV a b)).run Try.prog w = .ok () w := by kernel_rfl

/-- The first entry at a key, by its place. -/
def lk (k : Nat × Nat) : List ((Nat × Nat) × Nat) → Nat → Option (Nat × Nat)
  | [], _ => none
  | x :: M, i => if x.1 = k then some (i, x.2) else lk k M (i + 1)

abbrev nv' (x : Nat) : Value := .int .i64 (x : Int)
def entV (x : (Nat × Nat) × Nat) : Value × Value := (posV x.1.1 x.1.2, nv' x.2)

theorem find_asking (w : World) (a b : Nat) : ∀ (es : List MapEntry) (M : List ((Nat × Nat) × Nat)) (i : Nat), es.map (fun e => (e.key, e.val)) = M.map entV →
    (Instr.findAsking 88 (posV a b) es i).run Try.prog w = .ok ((lk (a, b) M i).map fun r => (r.1, nv' r.2)) w := by
  intro es
  induction es with
  | nil =>
    intro M i h
    cases M with
    | nil => simp [Instr.findAsking, lk, go_sem]
    | cons x M => simp at h
  | cons e es ih =>
    intro M i h
    cases M with
    | nil => simp at h
    | cons x M =>
      simp only [List.map_cons, List.cons.injEq] at h
      obtain ⟨h1, h2⟩ := h
      obtain ⟨⟨c, d⟩, v⟩ := x
      unfold entV at h1
      simp only [Prod.mk.injEq] at h1
      have := ih M (i + 1) h2
      simp only [Instr.findAsking, Sem.run_bind, h1.1, eq_pos, Result.andThen_ok]
      unfold lk
      by_cases hk : (c, d) = (a, b)
      · cases hk
        simp [go_sem, h1.2]
      · have hb : (a == c && b == d) = false := by
          rw [Bool.eq_false_iff]
          intro h3
          simp at h3
          exact hk (by rw [h3.1, h3.2])
        rw [if_neg hk, hb]
        simpa using this

/-- The map in a block. -/
def MapP (X : World) (b : Nat) (M : List ((Nat × Nat) × Nat)) : Prop :=
  ∃ es : Array MapEntry, X.heap[b]? = some (.map es es.size) ∧ es.toList.map (fun e => (e.key, e.val)) = M.map entV ∧ es.toList.map (·.born) = List.range es.size

theorem MapP.new (w : World) : MapP (w.alloc (.map #[] 0)) w.heap.size [] := ⟨#[], heap_alloc_new w _, rfl, rfl⟩
theorem MapP.lt {X : World} {b : Nat} {M : List ((Nat × Nat) × Nat)} (h : MapP X b M) : b < X.heap.size := by
  obtain ⟨es, h1, _⟩ := h; exact (Array.getElem?_eq_some_iff.1 h1).1
theorem MapP.keep {X Y : World} {b : Nat} {M : List ((Nat × Nat) × Nat)} (h : MapP X b M) (hk : Y.heap[b]? = X.heap[b]?) : MapP Y b M := by
  obtain ⟨es, h1, h2⟩ := h; exact ⟨es, hk.trans h1, h2⟩
theorem MapP.len {X : World} {b : Nat} {M : List ((Nat × Nat) × Nat)} (h : MapP X b M) : ∃ es : Array MapEntry, X.heap[b]? = some (.map es es.size) ∧ es.size = M.length := by
  obtain ⟨es, h1, h2, _⟩ := h
  refine ⟨es, h1, ?_⟩
  have := congrArg List.length h2
  simpa using this

theorem find_key (w : World) (a b : Nat) (es : List MapEntry) (M : List ((Nat × Nat) × Nat)) (h : es.map (fun e => (e.key, e.val)) = M.map entV) :
    (Instr.findKey 88 (posV a b) es).run Try.prog w = .ok ((lk (a, b) M 0).map fun r => (r.1, nv' r.2)) w := by
  unfold Instr.findKey
  simp only [Sem.run_bind, run_underlying Try.underlying88, Result.andThen_ok]
  cases es with
  | nil =>
    cases M with
    | nil => simp [Instr.findNow, lk, go_sem]
    | cons x M => simp at h
  | cons e es =>
    have := find_asking w a b (e :: es) M 0 h
    simp only [Instr.findNow, Instr.sameNow]
    exact this

theorem run_look_ok {X : World} {bm : Nat} {M : List ((Nat × Nat) × Nat)} (h : MapP X bm M) (a b : Nat) :
    (Instr.lookup 85 (.map (some bm)) (posV a b) true).run Try.prog X = .ok (.tuple #[nv' (((lk (a, b) M 0).map (·.2)).getD 0), .bool (lk (a, b) M 0).isSome]) X := by
  obtain ⟨es, h1, h2, h3⟩ := h
  unfold Instr.lookup
  have hz : (zeroValue 3).run Try.prog X = .ok (.int .i64 0) X := by kernel_rfl
  simp only [Sem.run_bind, run_underlying Try.underlying85, getObj, Sem.run, h1, Result.andThen, check_pos, Sem.run_pure]
  rw [find_key X a b es.toList M h2]
  cases lk (a, b) M 0 with
  | none => simp [hz, go_sem]
  | some r => simp [go_sem]
theorem run_look {X : World} {bm : Nat} {M : List ((Nat × Nat) × Nat)} (h : MapP X bm M) (a b : Nat) :
    (Instr.lookup 85 (.map (some bm)) (posV a b) false).run Try.prog X = .ok (nv' (((lk (a, b) M 0).map (·.2)).getD 0)) X := by
  obtain ⟨es, h1, h2, h3⟩ := h
  unfold Instr.lookup
  have hz : (zeroValue 3).run Try.prog X = .ok (.int .i64 0) X := by kernel_rfl
  simp only [Sem.run_bind, run_underlying Try.underlying85, getObj, Sem.run, h1, Result.andThen, check_pos, Sem.run_pure]
  rw [find_key X a b es.toList M h2]
  cases lk (a, b) M 0 with
  | none => simp [hz, go_sem]
  | some r => simp [go_sem]

theorem lk_none {k : Nat × Nat} : ∀ {M : List ((Nat × Nat) × Nat)} {i : Nat}, lk k M i = none ↔ ∀ x ∈ M, x.1 ≠ k := by
  intro M
  induction M with
  | nil => intro i; simp [lk]
  | cons y M ih =>
    intro i
    unfold lk
    by_cases h : y.1 = k
    · simp [h]
    · rw [if_neg h, ih]; simp [h]

theorem run_store {X : World} {bm : Nat} {M : List ((Nat × Nat) × Nat)} (h : MapP X bm M) (a b x : Nat) (hn : lk (a, b) M 0 = none) :
    ∃ Y, (Instr.mapUpdate 85 (.map (some bm)) (posV a b) (nv' x)).run Try.prog X = .ok () Y ∧ MapP Y bm (M ++ [((a, b), x)]) ∧ Y.os = X.os ∧ Y.tape = X.tape ∧ Y.output = X.output ∧ Y.heap.size = X.heap.size ∧ ∀ k, k ≠ bm → Y.heap[k]? = X.heap[k]? := by
  have hlt := h.lt
  obtain ⟨es, h1, h2, h3⟩ := h
  refine ⟨{ X with heap := X.heap.setIfInBounds bm (.map (es.push { key := posV a b, val := nv' x, born := es.size }) (es.size + 1)) }, ?_, ?_, rfl, rfl, rfl, by simp, fun k hk => ?_⟩
  · unfold Instr.mapUpdate
    simp only [Sem.run_bind, run_underlying Try.underlying85, getObj, Sem.run, h1, Result.andThen, check_pos]
    rw [find_key X a b es.toList M h2, hn]
    simp [setObj, Sem.run, h1]
  · refine ⟨es.push { key := posV a b, val := nv' x, born := es.size }, ?_, ?_, ?_⟩
    · simp [hlt]
    · rw [Array.toList_push, List.map_append, List.map_append, h2]; rfl
    · rw [Array.toList_push, List.map_append, h3, Array.size_push, List.range_succ]; rfl
  · simp [Ne.symm hk]
end Go.Proofs.Ytodnfchkkgoabaa
