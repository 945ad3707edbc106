/- The first period is one. -/
import Derived.Test.YtodnfchkkgoabaaPe
set_option linter.unusedVariables false
namespace Go.Proofs.Ytodnfchkkgoabaa

theorem FP.one {V : List Nat} {d lim pre per pre' per' : Nat} {b b' : Bool} (h : FP V d lim pre per b) (h' : FP V d lim pre' per' b') : b = b' ∧ pre = pre' ∧ per = per' := by
  cases b with
  | false =>
    obtain ⟨rfl, rfl, hn⟩ := h.2 rfl
    cases b' with
    | false =>
      obtain ⟨rfl, rfl, _⟩ := h'.2 rfl
      exact ⟨rfl, rfl, rfl⟩
    | true =>
      obtain ⟨k1, k2, k3, _⟩ := h'.1 rfl
      exact absurd k3 (hn _ _ k1 k2)
  | true =>
    obtain ⟨j1, j2, j3, j4⟩ := h.1 rfl
    cases b' with
    | false =>
      obtain ⟨_, _, hn⟩ := h'.2 rfl
      exact absurd j3 (hn _ _ j1 j2)
    | true =>
      obtain ⟨k1, k2, k3, k4⟩ := h'.1 rfl
      rcases Nat.lt_trichotomy per per' with h1 | h1 | h1
      · exact absurd j3 (k4 pre per j1 (.inl h1) j2)
      · subst h1
        rcases Nat.lt_trichotomy pre pre' with h2 | h2 | h2
        · exact absurd j3 (k4 pre per j1 (.inr ⟨rfl, h2⟩) j2)
        · exact ⟨rfl, h2, rfl⟩
        · exact absurd k3 (j4 pre' per k1 (.inr ⟨rfl, h2⟩) k2)
      · exact absurd k3 (j4 pre' per' k1 (.inl h1) k2)
end Go.Proofs.Ytodnfchkkgoabaa
