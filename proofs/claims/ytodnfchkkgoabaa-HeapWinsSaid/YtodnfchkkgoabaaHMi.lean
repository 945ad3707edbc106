/- WALKS of Missing, of same and Check of the verifier's, of Moves for a bad code. -/
import Derived.Test.YtodnfchkkgoabaaHRx
import Derived.Test.YtodnfchkkgoabaaHMs
set_option linter.unusedVariables false
namespace Go.Proofs.Ytodnfchkkgoabaa
open Go.RowKit

theorem miss_ex (L : List Int) : ∃ n : Nat, (∀ i : Nat, i < n → (i : Int) ∈ L) ∧ (n : Int) ∉ L := by
  have hm : ∀ i : Nat, i ∈ (L.filter fun x => decide (0 ≤ x)).map Int.toNat ↔ (i : Int) ∈ L := fun i => by
    simp only [List.mem_map, List.mem_filter, decide_eq_true_eq]
    constructor
    · rintro ⟨x, ⟨h1, h2⟩, rfl⟩
      rw [Int.toNat_of_nonneg h2]; exact h1
    · intro h
      exact ⟨i, ⟨h, by omega⟩, by simp⟩
  exact ⟨mex _, fun i hi => (hm i).1 (mex_below _ i hi), fun h => mex_not _ ((hm _).2 h)⟩
theorem miss_one {L : List Int} {n m : Nat} (h1 : ∀ i : Nat, i < n → (i : Int) ∈ L) (h2 : (n : Int) ∉ L) (h3 : ∀ i : Nat, i < m → (i : Int) ∈ L) (h4 : (m : Int) ∉ L) : n = m := by
  rcases Nat.lt_trichotomy n m with h | h | h
  · exact absurd (h3 n h) h2
  · exact h
  · exact absurd (h1 m h) h4
theorem zcon_snoc (l : List Int) (x j : Int) : (l ++ [x]).contains j = (l.contains j || (j == x)) := by
  rw [Bool.eq_iff_iff]; simp

set_option maxRecDepth 100000 in
set_option maxHeartbeats 1000000 in
theorem HMissing_any (L : List Int) (p : Option Addr) (c : Nat) (w : World) (hL : NI w p L) (hl : L.length ≤ 1000) :
    Calls Try.prog 13 #[.slice p L.length c] w fun e w' => (∃ n : Nat, e = .returned (.int .i64 n) ∧ (∀ i : Nat, i < n → (i : Int) ∈ L) ∧ (n : Int) ∉ L) ∧ Below w.heap.size w w' := by
  obtain ⟨M, hM1, hM2⟩ := miss_ex L
  have hML : M ≤ L.length := allZ L M hM1
  obtain ⟨i1, hj, hy0, hy1, hy2⟩ := info_parts infoBool
  obtain ⟨m, hm⟩ : ∃ m, L.length = m := ⟨_, rfl⟩
  have HL := Lib.hid hL
  have HM := Lib.hid hm
  have HM1 := Lib.hid hM1
  have HM2 := Lib.hid hM2
  rw [hm] at hl hML ⊢
  clear hm hL hM1 hM2
  obtain ⟨N, hN⟩ : ∃ N, m + 1 = N := ⟨_, rfl⟩
  have hq : (m : Int) + 1 = (N : Int) := by omega
  have hNm : m < N := by omega
  have hNl : N ≤ 1001 := by omega
  obtain ⟨zc, hzc⟩ : ∃ z, madeCells (Value.bool false).cells (N * 1) = z := ⟨_, rfl⟩
  have hmk : ∀ w : World, (Instr.makeSlice 66 (.int .i64 (N : Int)) (.int .i64 (N : Int))).run Try.prog w = .ok (.slice (some ⟨w.heap.size, 0, none⟩) N N) (w.alloc (.cells zc 4)) := fun w => by
    have hr := run_make (P := Try.prog) w 66 4 i1 (.bool false) Try.underlying66 hj hy0 .i64 .i64 N N (by omega) (Int.le_refl _) (by rw [hy2]; omega) (by omega)
    simp only [Int.toNat_natCast, hy1, hzc] at hr
    exact hr
  have HZ : Hid (∀ (w : World) (g : Nat), w.heap[g]? = some (.cells zc 4 (0, 0)) → Blk w g N (fun _ => .bool false)) := Lib.hid (fun w g h => by
    refine ⟨zc, _, h, by rw [← hzc, size_madeCells]; omega, fun i hi => ?_⟩
    have : zc.toList = List.replicate N (.bool false) := by rw [← hzc, Nat.mul_one]; exact toList_madeCells_one _ _
    have h2 : zc.toList[i]? = some (.bool false) := by rw [this, List.getElem?_replicate, if_pos hi]
    rw [← h2]; simp)
  clear hzc hN
  go_enter Try.func13, Try.ntmps13
  go_wp2_with fail
  obtain ⟨w1, hw1⟩ : ∃ w1, w.alloc (.cells zc 4) = w1 := ⟨_, rfl⟩
  obtain ⟨b, hbb⟩ : ∃ b, w.heap.size = b := ⟨_, rfl⟩
  have HBK : Hid (Blk w1 b N (fun _ => .bool false)) := Lib.hid (HZ.out _ _ (by rw [← hw1, ← hbb]; exact heap_alloc_new _ _))
  have HB1 : Hid (Below b w w1) := Lib.hid (by rw [← hw1, ← hbb]; exact (Below.refl _ w).alloc (Nat.le_refl _) _)
  have HBE := Lib.hid hbb
  simp only [hw1]
  simp only [hbb]
  clear hw1 hbb hmk HZ hq
  go_loopw [5, 12] (fun _ i wr => ∃ k : Nat, i = .int .i64 k ∧ k ≤ m ∧ Hid (Blk wr b N (fun j => .bool ((L.take k).contains (j : Int)))) ∧ Hid (Below b w wr)) (fun _ i _ => m - (intOf i).toNat)
  case atStart => exact ⟨0, rfl, by omega, Lib.hid (HBK.out.congr (fun j _ => by simp)), HB1⟩
  case round =>
    clear HBK HB1
    obtain ⟨k, rfl, hk, hbk, hb⟩ := hrel
    by_cases hlt : k < m
    · have h1 : k < L.length := by have := HM.out; omega
      have HT : Hid (∀ j : Int, (L.take (k + 1)).contains j = ((L.take k).contains j || (j == L.getD k 0))) := Lib.hid (fun j => by
        rw [List.take_succ_eq_append_getElem h1, zcon_snoc, List.getD_eq_getElem?_getD, List.getElem?_eq_getElem h1]; rfl)
      obtain ⟨g, rfl, hcell⟩ := HL.out k h1
      have hcell := cellOf2 hb.out hcell (by have := cell_lt2 hcell; have := HBE.out; omega)
      clear h1
      generalize L.getD k 0 = x at *
      by_cases h0 : 0 ≤ x
      · obtain ⟨z, rfl⟩ : ∃ z : Nat, x = z := ⟨x.toNat, by omega⟩
        by_cases h2 : z < N
        · have hcz := hbk.out.cell h2
          have hfz := hbk.out.frozen z
          have HBL := Lib.hid hbk.out.lt
          go_wp2_with fail
          go_roundw
          case rel => exact ⟨k + 1, by go_num, by omega, Lib.hid ((hbk.out.set z (.bool true)).congr (fun j _ => by
            rw [HT.out]
            by_cases e : j = z
            · subst e; rw [if_pos rfl]; simp
            · rw [if_neg e]
              have : ((j : Int) == (z : Int)) = false := by simp; omega
              rw [this, Bool.or_false])), Lib.hid (hb.out.setCell (by simp) _)⟩
          case measure => simp [intOf]; omega
        · have b2 : decide ((z : Int) < (N : Int)) = false := decide_eq_false (by omega)
          go_wp2_with fail
          go_roundw
          case rel => exact ⟨k + 1, by go_num, by omega, Lib.hid (hbk.out.congr (fun j hj => by
            rw [HT.out]
            have : ((j : Int) == (z : Int)) = false := by simp; omega
            rw [this, Bool.or_false])), hb⟩
          case measure => simp [intOf]; omega
      · have b2 : decide (0 ≤ x) = false := decide_eq_false h0
        go_wp2_with fail
        go_roundw
        case rel => exact ⟨k + 1, by go_num, by omega, Lib.hid (hbk.out.congr (fun j hj => by
          rw [HT.out]
          have : ((j : Int) == x) = false := by simp; omega
          rw [this, Bool.or_false])), hb⟩
        case measure => simp [intOf]; omega
    · have HBO : Hid (Bools wr b N (fun j => L.contains (j : Int))) := Lib.hid (fun i hi => by
        have := hbk.out.cell hi
        rw [List.take_of_length_le (by have := HM.out; omega)] at this
        exact this)
      have IX := Lib.hid (Index_any b N N M _ wr HBO.out (by omega) (by omega) (by have := HM2.out; simpa using this) (fun i hi => by have := HM1.out i hi; simpa using this))
      clear hbk HBO
      go_wp2_with fail
      refine IX.out.mono ?_
      rintro e w' ⟨rfl, rfl⟩
      go_wp2_with fail
      go_ret
      exact ⟨⟨M, rfl, HM1.out, HM2.out⟩, by have := HBE.out; rw [this]; exact hb.out⟩

theorem same_any (L : List Nat) (p q : Option Addr) (c d : Nat) (w : World) (h1 : NS w p L) (h2 : NS w q L) (hl : L.length ≤ 100000) :
    Calls Try.prog 18 #[.slice p L.length c, .slice q L.length d] w fun e w' => e = .returned (.bool true) ∧ Below w.heap.size w w' := by
  obtain ⟨m, hm⟩ : ∃ m, L.length = m := ⟨_, rfl⟩
  have HM := Lib.hid hm
  have H1 := Lib.hid h1
  have H2 := Lib.hid h2
  rw [hm] at hl ⊢
  clear hm h1 h2
  go_enter Try.func18, Try.ntmps18
  go_wp2_with fail
  go_loopw [5] (fun i wr => ∃ n : Nat, i = .int .i64 n ∧ n ≤ m ∧ Hid (Below w.heap.size w wr)) (fun i _ => m - (intOf i).toNat)
  case atStart => exact ⟨0, rfl, by omega, Lib.hid (Below.refl _ _)⟩
  case round =>
    obtain ⟨n, rfl, hn, hb⟩ := hrel
    by_cases hlt : n < m
    · obtain ⟨g, rfl, c1⟩ := (H1.out.under hb.out) n (by have := HM.out; omega)
      obtain ⟨g', rfl, c2⟩ := (H2.out.under hb.out) n (by have := HM.out; omega)
      generalize L.getD n 0 = v at c1 c2
      have b1 : (n : Int) < (m : Int) := by omega
      go_wp2_with fail
      go_quiet (fail)
      go_wp2_with fail
      go_roundw
      case rel => exact ⟨n + 1, by go_num, by omega, Lib.hid (below_drewN hb.out _)⟩
      case measure => simp [intOf]; omega
    · go_wp2_with fail
      go_ret
      exact ⟨rfl, hb.out⟩

theorem Moves_none (s : ByteArray) (v : Value) (w : World) (h : codeOf s = none) :
    Calls Try.prog 21 #[.string s, v] w fun e w' => e = .returned (.tuple #[.slice none 0 0, .int .i64 60]) ∧ Below w.heap.size w w' := by
  have R := Lib.hid (read_nocode s w h)
  clear h
  go_enter Try.func21, Try.ntmps21
  go_wp2_with fail
  refine R.out.mono ?_
  rintro e w1 ⟨rfl, hb⟩
  have HB := Lib.hid hb
  clear hb
  go_wp2_with fail
  go_ret2
  exact ⟨rfl, HB.out⟩
end Go.Proofs.Ytodnfchkkgoabaa
