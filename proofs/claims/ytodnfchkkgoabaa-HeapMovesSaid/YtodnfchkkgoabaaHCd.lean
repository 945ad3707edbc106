/- WALK of code of the law. -/
import Derived.Test.YtodnfchkkgoabaaHPdPeRp
import Derived.Laws.IdiomStrings
set_option linter.unusedVariables false
namespace Go.Proofs.Ytodnfchkkgoabaa
open Go.RowKit

/-- The code so far. -/
def Sof (t : ByteArray) (k : Nat) : Prop := ∃ l : List UInt8, t.data.toList = 48 :: 46 :: l ∧ l.length = k ∧ isDig l = true
theorem Sof.push {t u : ByteArray} {k : Nat} (h : Sof t k) (b : UInt8) (hb : 48 ≤ b.toNat ∧ b.toNat ≤ 55) (hu : u.data.toList = t.data.toList ++ [b]) : Sof u (k + 1) := by
  obtain ⟨l, h1, h2, h3⟩ := h
  refine ⟨l ++ [b], by rw [hu, h1]; rfl, by simp [h2], ?_⟩
  unfold isDig at *
  rw [List.all_append, h3]
  simp [hb.1, hb.2]
theorem Sof.size {t : ByteArray} {k : Nat} (h : Sof t k) : t.size = 2 + k := by
  obtain ⟨l, h1, h2, _⟩ := h
  rw [Lib.size_eq, h1]
  simp; omega
theorem Sof.code {t : ByteArray} {k : Nat} (h : Sof t k) (h1 : 1 ≤ k) (h8 : k ≤ 8) : ∃ ds, codeOf t = some ds := by
  obtain ⟨l, e1, e2, e3⟩ := h
  refine ⟨digs l, ?_⟩
  unfold codeOf
  rw [e1]
  have hp : Lib.hasPrefix (48 :: 46 :: l) [48, 46] = true := by simp [Lib.hasPrefix]
  rw [hp, if_pos]
  · rfl
  · unfold okRest
    show (true && _) = true
    rw [List.drop_succ_cons, List.drop_succ_cons, List.drop_zero, e3]
    simp; omega

set_option maxRecDepth 100000 in
set_option maxHeartbeats 1000000 in
theorem code_any (s : ByteArray) (w : World) :
    Calls Try.prog 23 #[.string s] w fun e w' => ∃ t ds, e = .returned (.string t) ∧ codeOf t = some ds ∧ Below w.heap.size w w' := by
  go_enter Try.func23, Try.ntmps23
  go_wp2_with fail
  go_loopw [3, 4] (fun o i wr => ∃ (t : ByteArray) (k : Nat), o = .string t ∧ i = .int .i64 k ∧ k ≤ 8 ∧ k ≤ s.size ∧ Hid (Sof t k) ∧ Hid (Below w.heap.size w wr)) (fun _ i _ => 8 - (intOf i).toNat)
  case atStart => exact ⟨_, 0, rfl, rfl, by omega, by omega, Lib.hid ⟨[], rfl, rfl, rfl⟩, Lib.hid (Below.refl _ _)⟩
  case round =>
    obtain ⟨t, k, rfl, rfl, h8, hk, hsf, hb⟩ := hrel
    have HEND : Hid (1 ≤ k → ∃ ds, codeOf t = some ds) := Lib.hid (fun h => hsf.out.code h h8)
    have hsz := hsf.out.size
    have q0 : k = 0 → ((t.size : Int) == 2) = true := fun h => by rw [hsz, h]; rfl
    have q1 : 1 ≤ k → ((t.size : Int) == 2) = false := fun h => by rw [hsz]; simp; omega
    have Q0 := Lib.hid q0
    have Q1 := Lib.hid q1
    have hle : t.size ≤ 20 := by omega
    clear hsz q0 q1
    by_cases h1 : k < s.size
    · by_cases h2 : k < 8
      · obtain ⟨b, hbv⟩ : ∃ b : UInt8, (b.toNat : Int) = 48 + (s[k].toNat : Int) % 8 ∧ 48 ≤ b.toNat ∧ b.toNat ≤ 55 := ⟨UInt8.ofNat (48 + s[k].toNat % 8), by
          have := Nat.mod_lt s[k].toNat (show 0 < 8 by decide)
          rw [UInt8.toNat_ofNat']
          omega⟩
        have hcv := run_convert_bytes_back (P := Try.prog) (wr.alloc (.cells #[.int .u8 (48 + (s[k].toNat : Int) % 8)] 5)) 79 9 5 ⟨wr.heap.size, 0, none⟩ 1 [b] Try.underlying79 Try.underlying5 Try.underlying9 (fun j hj => by
          have : j = 0 := by simp at hj; omega
          subst this
          simp [Addr.add, hbv.1])
        have HBV := Lib.hid hbv
        simp only [List.length_cons, List.length_nil, Nat.zero_add] at hcv
        clear hbv
        go_wp2_with fail
        go_roundw
        case rel => exact ⟨_, k + 1, rfl, by go_num, by omega, by omega, Lib.hid (hsf.out.push b HBV.out.2 (by simp [ByteArray.data_append])), Lib.hid (hb.out.alloc hb.out.size _)⟩
        case measure => simp [intOf]; omega
      · have hk8 : 1 ≤ k := by omega
        have q1 := Q1.out hk8
        obtain ⟨ds, hds⟩ := HEND.out hk8
        have HDS := Lib.hid hds
        clear hds
        go_wp2_with fail
        go_ret
        exact ⟨t, ds, rfl, HDS.out, hb.out⟩
    · by_cases hk1 : 1 ≤ k
      · have q1 := Q1.out hk1
        obtain ⟨ds, hds⟩ := HEND.out hk1
        have HDS := Lib.hid hds
        clear hds
        go_wp2_with fail
        go_ret
        exact ⟨t, ds, rfl, HDS.out, hb.out⟩
      · have hk0 : k = 0 := by omega
        have q0 := Q0.out hk0
        have HS7 : Hid (Sof (t ++ ⟨#[55]⟩) 1) := Lib.hid (by
          have := hsf.out
          rw [hk0] at this
          exact this.push 55 (by decide) (by simp [ByteArray.data_append]))
        clear hk0
        go_wp2_with fail
        go_ret
        obtain ⟨ds, hds⟩ := HS7.out.code (by omega) (by omega)
        exact ⟨_, ds, rfl, hds, hb.out⟩
end Go.Proofs.Ytodnfchkkgoabaa
