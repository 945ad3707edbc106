/- HeapGraphs: for every list of lists of integers and every integer the law returns true and its arguments read as before. -/
import Derived.Test.YtodnfchkkgoabaaRows
import Derived.Test.YtodnfchkkgoabaaGh
import Derived.WalkKit
import Derived.ProofKit
import Derived.OpenShut
import Derived.ShutString
import Derived.ChangeOld
import Derived.Below
import Derived.Deep.Matrix
namespace Go.Proofs.Ytodnfchkkgoabaa.heapGraphs
open Go.ChangeShapes Go.WideShapes Go.ChangeAt Go.RowKit
open Go.Deep (open_int_rows)
set_option linter.unusedVariables false

theorem own : ownKnob Try.prog.godebug = none := by kernel_rfl
theorem laidOut : laidOutB Try.prog = true := by kernel_rfl

/-! ### THE ROW's STEP: WRITTEN OUT: LEAVE IT -/
set_option maxRecDepth 100000 in
theorem lifted (os : Os) (started : os.Started) (H : Type) (enc : TypeId × Value → H) :
    ReturnsInHanded {} Try.checked os 8 .any (Rows.heapGraphsSpec.pre6 enc Try.prog Try.f8 Rows.heapGraphsRow.domain false) (Rows.heapGraphsSpec.post enc Try.prog Try.f8 false true false false) := by
  refine returnsInHanded_of_change (C := Try.checked) own started (by kernel_rfl) Try.func8
    (ChangeSpec.witness6 (enc := enc) (C := Try.checked) false ⟨#[], #[.slice none 0 0, .int .i64 0], []⟩ 8 (by kernel_rfl) (by kernel_rfl) (by kernel_rfl) (by kernel_rfl)) ?_
  intro W base args ds gs before hval0 hW hcnd _
  have hval : ∀ (j : Nat) t v, Try.f8.params[j]? = some t → args[j]? = some v → Value.okWide Try.prog W .any base t v := hval0
  have hW' := hW
  obtain ⟨p, q, hA0, hV, rfl, hfz, hnd⟩ := hW
  have hA : DataW.TrodAll enc Try.prog W 0 (fun _ => true) true Try.f8.params.toList args.toList ds p := hA0
  rw [Try.params8] at hA hval
  obtain ⟨v0, vs0, d0, ds0, p0, q0, hargs, rfl, rfl, h0, r0⟩ := trodAll_cons hA
  obtain ⟨v1, vs1, d1, ds1, p1, q1, rfl, rfl, rfl, h1, r1⟩ := trodAll_cons r0
  obtain ⟨rfl, rfl, rfl⟩ := trodAll_nil r1
  obtain rfl : args = #[v0, v1] := by cases args; simp_all
  obtain ⟨rfl, rfl⟩ := trodVars_none hV
  obtain ⟨a0, len0, cap0, rfl⟩ := okWide_slice Try.underlying33 (hval 0 33 v0 rfl rfl)
  have k0 := h0
  have lt0 : ∀ x ∈ p0, x.block < W.heap.size := by obtain ⟨m, hm⟩ := k0; exact DataW.trod_lt m _ _ _ hm
  obtain ⟨a1, rfl, rfl, rfl, w1⟩ := open_int Try.underlying3 (hval 1 3 v1 rfl rfl) h1
  obtain ⟨L, e0, u0, u1⟩ : ∃ L : List (List Int), L.length = len0 ∧ GB W a0 L ∧ L.length ≤ 9223372036854775807 := by
    obtain ⟨fuel, hf⟩ := h0
    rcases open_int_rows Try.underlying33 Try.underlying22 Try.underlying3 (by kernel_rfl) (by kernel_rfl) hf with ⟨hcs, _⟩ | ⟨a, len, cap, A, Ls, C, Z, hcs, _, hl, hm, _, hrow⟩
    · simp [Value.cells] at hcs
      obtain ⟨rfl, rfl, rfl⟩ := hcs
      exact ⟨[], rfl, fun v hv => absurd hv (by simp), by simp⟩
    · simp [Value.cells] at hcs
      obtain ⟨rfl, rfl, rfl⟩ := hcs
      have hg : ∀ v, v < len0 → ((List.range len0).map fun r => (Z r).take (Ls r)).getD v [] = (Z v).take (Ls v) := fun v hv => by
        rw [List.getD_eq_getElem?_getD, List.getElem?_map, List.getElem?_range hv]; rfl
      have hlen : ∀ v, v < len0 → ((Z v).take (Ls v)).length = Ls v := fun v hv => by
        obtain ⟨_, q1, _, q2, _⟩ := hrow v (by omega)
        rw [List.length_take, q2]; omega
      refine ⟨(List.range len0).map fun r => (Z r).take (Ls r), by simp, fun v hv => ?_, by simp; unfold maxLen at hm; omega⟩
      have hv : v < len0 := by simpa using hv
      obtain ⟨q0, q1, q2, q3, q4, q5, q6⟩ := hrow v (by omega)
      rw [hg v hv]
      refine ⟨a, A v, C v, rfl, by rw [hlen v hv]; exact q0, fun i hi => ?_, by rw [hlen v hv]; exact q1, by unfold maxLen at q2; omega, q5⟩
      rw [hlen v hv] at hi
      cases hq : A v with
      | none => have := q5 hq; omega
      | some a' =>
        refine ⟨a', rfl, ?_⟩
        rw [(q6 a' hq).2 i (by omega), List.getD_eq_getElem?_getD, List.getD_eq_getElem?_getD, List.getElem?_take, if_pos hi]
  clear hA0 hval0
  subst e0
  refine (HeapGraphs_any L a0 cap0 a1 W (bounds_i64 w1) u0 u1).mono fun e W' ⟨he, bel⟩ => ?_
  subst he
  exact ⟨_, rfl, _, _, _, [], _, [], hW', trodAll_mk1 (shut_bool Try.underlying4 _), (trodAll_cons_mk (Below.trod laidOut (by kernel_rfl) (of_decide_eq_true (by kernel_rfl)) k0 bel lt0) (trodAll_cons_mk (shut_int Try.underlying3 w1) trodAll_mk0)), rfl, bel.frame _, fun h => by cases h⟩

theorem over : Rows.heapGraphsRow.holds Try.pinned (OpenSpec.ofChange Rows.heapGraphsSpec) :=
  OpenClaim.holds_of_wide 8 Try.f8 rfl rfl rfl rfl rfl rfl rfl ⟨rfl, rfl, rfl, rfl, rfl⟩ rfl rfl rfl rfl rfl (by kernel_rfl) Try.func8 (by kernel_rfl)
    (of_decide_eq_true (by kernel_rfl)) (by unfold Func.isWrapper; first | (rw [if_pos (by decide +kernel)]; kernel_rfl) | (rw [if_neg (by decide +kernel)]; exact ⟨rfl, rfl⟩))
    (fun os started H enc _ => lifted os started H enc)

/-- ████ THE STATEMENT ████ -/
theorem proved : Rows.HeapGraphsSaid := over
#print axioms proved
end Go.Proofs.Ytodnfchkkgoabaa.heapGraphs
