/- WALK of same of rows of ints: it only draws. Own rows of ints that are written in place. -/
import Derived.Test.YtodnfchkkgoabaaHMo
set_option linter.unusedVariables false
namespace Go.Proofs.Ytodnfchkkgoabaa
open Go.RowKit

set_option maxRecDepth 100000 in
set_option maxHeartbeats 2000000 in
theorem same_ints (L : List Int) (p q : Option Addr) (c d : Nat) (w : World) (h1 : NI w p L) (h2 : NI w q L) (hl : L.length ≤ 100000) :
    Calls Try.prog 18 #[.slice p L.length c, .slice q L.length d] w fun e w' => e = .returned (.bool true) ∧ ∃ m, w' = w.drewN m := by
  obtain ⟨m, hm⟩ : ∃ m, L.length = m := ⟨_, rfl⟩
  have HM := Lib.hid hm
  have H1 : Hid (∀ k, NI (w.drewN k) p L) := Lib.hid (fun k => h1)
  have H2 : Hid (∀ k, NI (w.drewN k) q L) := Lib.hid (fun k => h2)
  rw [hm] at hl ⊢
  clear hm h1 h2
  go_enter Try.func18, Try.ntmps18
  go_wp2_with fail
  go_loopw [5] (fun i wr => ∃ n : Nat, i = .int .i64 n ∧ n ≤ m ∧ Hid (∃ k, wr = w.drewN k)) (fun i _ => m - (intOf i).toNat)
  case atStart => exact ⟨0, rfl, by omega, Lib.hid ⟨0, rfl⟩⟩
  case round =>
    obtain ⟨n, rfl, hn, hb⟩ := hrel
    by_cases hlt : n < m
    · have h1 : NI wr p L := by obtain ⟨k, hk⟩ := hb.out; rw [hk]; exact H1.out k
      have h2 : NI wr q L := by obtain ⟨k, hk⟩ := hb.out; rw [hk]; exact H2.out k
      obtain ⟨g, rfl, c1⟩ := h1 n (by have := HM.out; omega)
      obtain ⟨g', rfl, c2⟩ := h2 n (by have := HM.out; omega)
      generalize L.getD n 0 = v at c1 c2
      have b1 : (n : Int) < (m : Int) := by omega
      clear h1 h2
      go_wp2_with fail
      go_quiet (fail)
      go_wp2_with fail
      go_roundw
      case rel => exact ⟨n + 1, by go_num, by omega, Lib.hid (by obtain ⟨k, hk⟩ := hb.out; exact ⟨k + nq, by rw [hk, World.drewN_drewN]⟩)⟩
      case measure => simp [intOf]; omega
    · go_wp2_with fail
      go_ret
      exact ⟨rfl, hb.out⟩

/-- A row of the call's own, or nil. -/
def OwnI (w : World) (B : Nat) (v : Value) (L : List Int) : Prop := (v = .slice none 0 0 ∧ L = []) ∨ ∃ g c, v = .slice (some ⟨g, 0, none⟩) L.length c ∧ L.length ≤ c ∧ c ≤ 9223372036854775807 ∧ B ≤ g ∧ Blk w g L.length (fun j => .int .i64 (L.getD j 0))
theorem OwnI.shape {w : World} {B : Nat} {v : Value} {L : List Int} (h : OwnI w B v L) : ∃ p c, v = .slice p L.length c ∧ NI w p L := by
  rcases h with ⟨rfl, rfl⟩ | ⟨g, c, rfl, _, _, _, h⟩
  · exact ⟨none, 0, rfl, fun i hi => by simp at hi⟩
  · exact ⟨_, c, rfl, fun i hi => ⟨g, rfl, h.cell hi⟩⟩
theorem OwnI.shape2 {w : World} {B : Nat} {v : Value} {L : List Int} (h : OwnI w B v L) : ∃ p c, v = .slice p L.length c ∧ NI w p L ∧ L.length ≤ c := by
  rcases h with ⟨rfl, rfl⟩ | ⟨g, c, rfl, h1, _, _, h⟩
  · exact ⟨none, 0, rfl, fun i hi => by simp at hi, by simp⟩
  · exact ⟨_, c, rfl, fun i hi => ⟨g, rfl, h.cell hi⟩, h1⟩
theorem OwnI.under {w X : World} {B : Nat} {v : Value} {L : List Int} (h : OwnI w B v L) (hb : Below w.heap.size w X) : OwnI X B v L := by
  rcases h with h | ⟨g, c, e, h1, h2, h3, h5⟩
  · exact .inl h
  · exact .inr ⟨g, c, e, h1, h2, h3, h5.keep (hb.block g h5.lt)⟩
theorem owni_of_own {w : World} {base n : Nat} {v : Value} {L : List Int} (h : w.ownsRow base 3 1 v n (L.map (Value.int .i64))) (hn : n = L.length) : OwnI w base v L := by
  subst hn
  rcases h.2 with ⟨h1, h2⟩ | ⟨g, cap, cur, h1, h2, hg, h4, h5, _, ht⟩
  · exact .inl ⟨h1, List.length_eq_zero_iff.1 h2⟩
  · subst h1
    refine .inr ⟨g, cap, rfl, h4, by unfold maxLen at h5; omega, h2, (Blk.of_own (d := .int .i64 0) h).congr fun i hi => ?_⟩
    simp [List.getD_eq_getElem?_getD, hi]
end Go.Proofs.Ytodnfchkkgoabaa
