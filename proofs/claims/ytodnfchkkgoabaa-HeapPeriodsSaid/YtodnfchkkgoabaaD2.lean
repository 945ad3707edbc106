/- An array of two int64s by value, as data. -/
import Derived.Test.YtodnfchkkgoabaaRows
import Derived.WalkKit
import Derived.ProofKit
import Derived.OpenShut
namespace Go.Proofs.Ytodnfchkkgoabaa
open Go.ChangeShapes Go.WideShapes Go.ChangeAt Go.RowKit

section
variable {H : Type} {enc : TypeId × Value → H} {P : Program} {w : World} {base : Nat} {spare : Nat → Bool} {held : Bool}

/-- Two cells, taken apart. -/
theorem trod_pair {t e : TypeId} {fuel : Nat} {c0 c1 : Value} {x : DataW H × List MemPlace} (ht : P.underlying t = some (.array 2 e)) (hce : P.cellsOf e = 1)
    (h : DataW.trod enc P w base spare held fuel t [c0, c1] = some x) :
    ∃ y0 y1 n, x = (.agg [y0.1, y1.1], y0.2 ++ y1.2) ∧ DataW.trod enc P w base spare held n e [c0] = some y0 ∧ DataW.trod enc P w base spare held n e [c1] = some y1 := by
  rcases fuel with _ | n
  · simp [DataW.trod] at h
  · unfold DataW.trod at h
    rw [ht] at h
    simp [show List.range 2 = [0, 1] from rfl, hce] at h
    rcases h0 : DataW.trod enc P w base spare held n e [c0] with _ | y0
    · simp [h0] at h
    · rcases h1 : DataW.trod enc P w base spare held n e [c1] with _ | y1
      · simp [h0, h1] at h
      · simp [h0, h1] at h
        exact ⟨y0, y1, n, h.2.symm, h0, h1⟩

/-- An array of two int64s by value, opened. -/
theorem open_arr2 {r : Reach} {b0 : Nat} {t e : TypeId} {v : Value} {d : DataW H} {p : List MemPlace} (ht : P.underlying t = some (.array 2 e)) (hc : P.cellsOf t = 2) (hce : P.cellsOf e = 1) (he : P.underlying e = some (.int .i64))
    (hv : Value.okWide P w r b0 t v) (h : DataW.Trod enc P w base spare held t v d p) :
    ∃ x0 x1 : Int, v = .agg #[.int .i64 x0, .int .i64 x1] ∧ d = .agg [.lit (.int .i64 x0), .lit (.int .i64 x1)] ∧ p = [] ∧ (Lit.int .i64 x0).wf = true ∧ (Lit.int .i64 x1).wf = true := by
  simp only [Value.okWide, ht] at hv
  obtain ⟨cs, rfl, hcs, _⟩ := hv
  obtain ⟨l⟩ := cs
  rw [hc] at hcs
  obtain ⟨fuel, hf⟩ := h
  simp only [List.size_toArray] at hcs
  match l, hcs with
  | [c0, c1], _ =>
    simp only [Value.cells] at hf
    obtain ⟨y0, y1, n, hx, h20, h21⟩ := trod_pair ht hce hf
    obtain ⟨x0, e0, rfl, w0⟩ := DataW.trod_int he h20
    obtain ⟨x1, e1, rfl, w1⟩ := DataW.trod_int he h21
    simp at e0 e1
    subst e0 e1
    simp only [Prod.mk.injEq] at hx
    obtain ⟨rfl, rfl⟩ := hx
    exact ⟨x0, x1, rfl, rfl, rfl, w0, w1⟩

/-- .. and shut again. -/
theorem shut_arr2 {t e : TypeId} {x0 x1 : Int} (ht : P.underlying t = some (.array 2 e)) (hc : P.cellsOf t = 2) (hce : P.cellsOf e = 1) (he : P.underlying e = some (.int .i64))
    (w0 : (Lit.int .i64 x0).wf = true) (w1 : (Lit.int .i64 x1).wf = true) :
    DataW.Trod enc P w base spare held t (.agg #[.int .i64 x0, .int .i64 x1]) (.agg [.lit (.int .i64 x0), .lit (.int .i64 x1)]) [] := by
  refine ⟨2, ?_⟩
  have r2 : List.range 2 = [0, 1] := rfl
  simp [DataW.trod, ht, hc, hce, he, w0, w1, r2, Value.cells]
end

end Go.Proofs.Ytodnfchkkgoabaa
