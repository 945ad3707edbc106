/- IsPeriod, the program's and the reference's, at any two numbers. -/
import Derived.Test.YtodnfchkkgoabaaPh
import Derived.Test.YtodnfchkkgoabaaRx
import Derived.Test.YtodnfchkkgoabaaFq
set_option linter.unusedVariables false
namespace Go.Proofs.Ytodnfchkkgoabaa
open Go.RowKit

theorem IsPeriod_z (t : ByteArray) (ds : List Nat) (lim : Nat) (pre per : Int) (w : World) (h : codeOf t = some ds) (h1 : 1 ≤ lim) (h2 : lim ≤ 2000) :
    Calls Try.prog 22 #[.string t, .int .i64 lim, .int .i64 pre, .int .i64 per] w fun e w' => ∃ b, e = .returned (.bool b) ∧ (b = true ↔ Look lim pre per ds.length ∧ All (vals ds (lim + 1)) pre.toNat per.toNat ds.length) ∧ Below w.heap.size w w' := by
  by_cases hk : Look lim pre per ds.length
  · obtain ⟨k1, k2, k3⟩ := hk
    obtain ⟨p, rfl⟩ : ∃ m : Nat, pre = m := ⟨pre.toNat, by omega⟩
    obtain ⟨q, rfl⟩ : ∃ m : Nat, per = m := ⟨per.toNat, by omega⟩
    refine (IsPeriod_in t ds lim p q w h h1 h2 (by omega) (by omega)).mono ?_
    rintro e w' ⟨b, rfl, hb, hB⟩
    exact ⟨b, rfl, ⟨fun g => ⟨⟨k1, k2, k3⟩, hb.1 g⟩, fun g => hb.2 g.2⟩, hB⟩
  · refine (IsPeriod_out t ds lim pre per w h h1 h2 hk).mono ?_
    rintro e w' ⟨rfl, hB⟩
    exact ⟨false, rfl, ⟨fun g => (by cases g), fun g => absurd g.1 hk⟩, hB⟩
theorem RIsPeriod_z (t : ByteArray) (ds : List Nat) (lim : Nat) (pre per : Int) (w : World) (h : codeOf t = some ds) (h1 : 1 ≤ lim) (h2 : lim ≤ 2000) (b1 : -9223372036854775808 ≤ pre ∧ pre ≤ 9223372036854775807) (b2 : -9223372036854775808 ≤ per ∧ per ≤ 9223372036854775807) :
    Calls Try.prog 26 #[.string t, .int .i64 lim, .int .i64 pre, .int .i64 per] w fun e w' => ∃ b, e = .returned (.bool b) ∧ (b = true ↔ Look lim pre per ds.length ∧ All (vals ds (lim + 1)) pre.toNat per.toNat ds.length) ∧ Below w.heap.size w w' := by
  have l8 := (codeOf_len h).2.1
  by_cases hk : Look lim pre per ds.length
  · obtain ⟨k1, k2, k3⟩ := hk
    obtain ⟨p, rfl⟩ : ∃ m : Nat, pre = m := ⟨pre.toNat, by omega⟩
    obtain ⟨q, rfl⟩ : ∃ m : Nat, per = m := ⟨per.toNat, by omega⟩
    refine (RIsPeriod_in t ds lim p q w (fun X => RValues_any t ds lim X h h2) (code_size h) l8 h2 (by omega) (by omega)).mono ?_
    rintro e w' ⟨b, rfl, hb, hB⟩
    exact ⟨b, rfl, ⟨fun g => ⟨⟨k1, k2, k3⟩, hb.1 g⟩, fun g => hb.2 g.2⟩, hB⟩
  · refine (RIsPeriod_out t ds.length lim pre per w (code_size h) l8 (by omega) hk b1 b2).mono ?_
    rintro e w' ⟨rfl, rfl⟩
    exact ⟨false, rfl, ⟨fun g => (by cases g), fun g => absurd g.1 hk⟩, Below.refl _ _⟩
theorem RPeriod_z (t : ByteArray) (ds : List Nat) (lim : Nat) (w : World) (h : codeOf t = some ds) (h2 : lim ≤ 2000) :
    Calls Try.prog 25 #[.string t, .int .i64 lim] w fun e w' => ∃ pre per b, e = .returned (.tuple #[.int .i64 (pre : Nat), .int .i64 (per : Nat), .bool b]) ∧ FP (vals ds (lim + 1)) ds.length lim pre per b ∧ Below w.heap.size w w' :=
  RPeriod_any t ds lim w (fun X => RValues_any t ds lim X h h2) (code_size h) (codeOf_len h).2.1 h2
end Go.Proofs.Ytodnfchkkgoabaa
