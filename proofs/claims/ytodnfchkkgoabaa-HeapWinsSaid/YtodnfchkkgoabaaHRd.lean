/- WALK of read: which strings are codes, and their digits. -/
import Derived.Test.YtodnfchkkgoabaaHOwRvMp
import Derived.Test.YtodnfchkkgoabaaHShelfBShelfShelfC
import Derived.WalkSmall
import Derived.Lib.OthersKept
set_option linter.unusedVariables false
namespace Go.Proofs.Ytodnfchkkgoabaa
open Go.RowKit

/-- The digits of a code's rest. -/
def digs (l : List UInt8) : List Nat := l.map fun c => c.toNat - 48
def isDig (l : List UInt8) : Bool := l.all fun c => decide (48 ≤ c.toNat) && decide (c.toNat ≤ 55)
/-- Which rests are those of a code. -/
def okRest (l : List UInt8) : Bool := decide (1 ≤ l.length) && decide (l.length ≤ 8) && isDig l

theorem digs_lt {l : List UInt8} (h : isDig l = true) : ∀ d ∈ digs l, d < 8 := by
  intro d hd
  simp only [digs, List.mem_map] at hd
  obtain ⟨c, hc, rfl⟩ := hd
  unfold isDig at h
  rw [List.all_eq_true] at h
  have := h c hc
  simp at this
  omega

theorem isEmpty_no {r : ByteArray} (h : 1 ≤ r.size) : r.toList.isEmpty = false ∧ r.toList ≠ [] := by
  rw [Lib.toList_data]
  rw [Lib.size_eq] at h
  cases hl : r.data.toList with
  | nil => rw [hl] at h; simp at h
  | cons a l => exact ⟨rfl, by simp⟩

theorem OwnN.iterAt {w : World} {base : Nat} {v : Value} {L : List Nat} (h : OwnN w base v L) {k : Nat} (hk : k < base) (s : ByteArray) (p : Nat) : OwnN (w.iterAt k s p) base v L := ownsRow_iterAt h hk s p

theorem dig_at {l : List UInt8} (h : isDig l = true) {k : Nat} (hk : k < l.length) : 48 ≤ l[k].toNat ∧ l[k].toNat ≤ 55 := by
  unfold isDig at h
  rw [List.all_eq_true] at h
  have := h l[k] (List.getElem_mem hk)
  simp at this
  exact this

theorem byte_at (r : ByteArray) (k : Nat) (hk : k < r.size) (hl : k < r.data.toList.length) : r[k]'hk = r.data.toList[k] := by
  simp; rfl

set_option maxRecDepth 100000 in
set_option maxHeartbeats 1000000 in
theorem read_ok (s r : ByteArray) (w : World) (hp : Lib.hasPrefix s.data.toList [48, 46] = true) (hr : (⟨(Lib.trimPrefix s.data.toList [48, 46]).toArray⟩ : ByteArray) = r) (h1 : 1 ≤ r.size) (h8 : r.size ≤ 8) (hd : isDig r.data.toList = true) :
    Calls Try.prog 43 #[.string s] w fun e w' => ∃ v, e = .returned (.tuple #[v, .int .i64 0]) ∧ OwnN w' w.heap.size v (digs r.data.toList) ∧ Below w.heap.size w w' := by
  have CP := Try.strings_CutPrefix s ⟨#[48, 46]⟩ w
  rw [show (⟨#[48, 46]⟩ : ByteArray).data.toList = [48, 46] from rfl, hr, hp] at CP
  have HC := Lib.hid CP
  have HD := Lib.hid hd
  clear CP hr hp hd
  obtain ⟨i0, hi, hz0, hz1, hz2⟩ := info_parts infoInt
  obtain ⟨ne1, ne2⟩ := isEmpty_no h1
  go_enter Try.func43, Try.ntmps43
  go_wp2_with fail
  refine HC.out.mono ?_
  rintro e w' ⟨rfl, rfl⟩
  clear HC
  go_wp2_with fail
  clear ne1 ne2
  go_loopw [6] (fun y wr => ∃ (v : Value) (k : Nat), v = y ∧ k ≤ r.size ∧ wr.heap[w'.heap.size]? = some (.stringIter r k) ∧ Hid (OwnN wr (w'.heap.size + 1) v (digs (r.data.toList.take k))) ∧ Hid (Below w'.heap.size w' wr) ∧ w'.heap.size + 1 ≤ wr.heap.size) (fun _ wr => r.size - wr.iterPos w'.heap.size)
  case atStart => exact ⟨_, 0, rfl, by omega, World.iter_heap _ _ _, Lib.hid (OwnN.nil _ _), Lib.hid ((Below.refl _ _).alloc (Nat.le_refl _) _), by simp [World.iter]⟩
  case round =>
    obtain ⟨v, k, hv, hk, hit, hown, hb, hs⟩ := hrel
    subst hv
    have HI := Lib.hid hit
    have hpos := Lib.hid (iterPos_of hit)
    clear hit
    by_cases hlt : k < r.size
    · have hl : k < r.data.toList.length := by rw [← Lib.size_eq]; exact hlt
      obtain ⟨c1, c2⟩ := dig_at HD.out hl
      have hb8 := byte_at r k hlt hl
      have hnx : ∀ ty, (Instr.next (.pointer (some ⟨w'.heap.size, 0, none⟩)) true ty).run Try.prog wr = _ := fun ty => Lib.run_next_ascii_at wr w'.heap.size r k ty HI.out hlt (by rw [hb8]; omega)
      rw [hb8] at hnx
      have E : Hid (digs (r.data.toList.take (k + 1)) = digs (r.data.toList.take k) ++ [r.data.toList[k].toNat - 48]) := Lib.hid (by
        unfold digs; rw [List.take_succ_eq_append_getElem hl, List.map_append]; rfl)
      clear hb8
      generalize r.data.toList[k].toNat = c at *
      have hI2 : Hid ((wr.iterAt w'.heap.size r (k + 1)).heap[w'.heap.size]? = some (.stringIter r (k + 1))) := Lib.hid (Lib.iterAt_heap _ _ _ _ _ HI.out)
      have hO2 : Hid (OwnN (wr.iterAt w'.heap.size r (k + 1)) (w'.heap.size + 1) v (digs (r.data.toList.take k))) := Lib.hid (hown.out.iterAt (by omega) _ _)
      have hB2 : Hid (Below w'.heap.size w' (wr.iterAt w'.heap.size r (k + 1))) := Lib.hid (Lib.below_iterAt hb.out (Nat.le_refl _) _ _)
      have hS2 : w'.heap.size + 1 ≤ (wr.iterAt w'.heap.size r (k + 1)).heap.size := by rw [Lib.iterAt_size]; exact hs
      obtain ⟨wi, hwi⟩ : ∃ wi, wr.iterAt w'.heap.size r (k + 1) = wi := ⟨_, rfl⟩
      rw [hwi] at hnx hI2 hO2 hB2 hS2
      clear hwi hown hb HI hs
      have hlen : (digs (r.data.toList.take k)).length = k := by unfold digs; simp; omega
      have HL := Lib.hid hlen
      clear hlen
      have ec : (c : Int) - 48 = ((c - 48 : Nat) : Int) := by omega
      go_wp2_with (at_builtin; refine wpList_append_own_at _ rfl _ _ 68 rfl (w'.heap.size + 1) 3 i0 (.int .i64 0) 1 8 Try.underlying68 hi hz0 hz1 hz2 rfl (by decide) v (digs (r.data.toList.take k)).length ((digs (r.data.toList.take k)).map nv) rfl (hO2.out.alloc _) ⟨wi.heap.size, 0, none⟩ 1 1 [nv (c - 48)] rfl rfl (cell_one_new _ _ _) (fun y hy => by simp at hy; subst hy; rfl) (by rw [HL.out]; unfold maxLen; omega) (by rw [HL.out]; omega) (by simp; omega) ?_; intro v' w4 hw1 hw2 _ hw3)
      have P := pushed hw1 hw2 hw3
      have hne : ∀ b, v.ownBlock = some b → w'.heap.size + 1 ≤ b := fun b e => (hO2.out.block_lt e).2
      refine ⟨⟨v', k + 1, rfl, by omega, ?_, Lib.hid (by rw [E.out]; exact P.own), Lib.hid (hB2.out.trans (P.below (fun b e => by have := hne b e; omega) (by omega))), by have := P.size; omega⟩, ?_⟩
      · rw [P.block _ (by omega) (fun e => by have := hne _ e; omega)]; exact hI2.out
      · have h4 : w4.heap[w'.heap.size]? = some (.stringIter r (k + 1)) := by
          rw [P.block _ (by omega) (fun e => by have := hne _ e; omega)]; exact hI2.out
        rw [iterPos_of h4, hpos.out]; omega
    · have hnx : ∀ ty, (Instr.next (.pointer (some ⟨w'.heap.size, 0, none⟩)) true ty).run Try.prog wr = _ := fun ty => Lib.run_next_end_at wr w'.heap.size r k ty HI.out hlt
      have E : Hid (r.data.toList.take k = r.data.toList) := Lib.hid (List.take_of_length_le (by rw [← Lib.size_eq]; omega))
      clear HI
      go_wp2_with fail
      go_ret2
      exact ⟨v, rfl, by have := hown.out; rw [E.out] at this; exact this.base_le (by omega), hb.out⟩

theorem hp_take (s : ByteArray) : Lib.trimPrefix s.data.toList [48, 46] = if Lib.hasPrefix s.data.toList [48, 46] then s.data.toList.drop 2 else s.data.toList := rfl

set_option maxRecDepth 100000 in
set_option maxHeartbeats 1000000 in
theorem read_none (s : ByteArray) (w : World) (hp : Lib.hasPrefix s.data.toList [48, 46] = false) :
    Calls Try.prog 43 #[.string s] w fun e w' => e = .returned (.tuple #[.slice none 0 0, .int .i64 60]) ∧ Below w.heap.size w w' := by
  have CP := Try.strings_CutPrefix s ⟨#[48, 46]⟩ w
  rw [show (⟨#[48, 46]⟩ : ByteArray).data.toList = [48, 46] from rfl, hp] at CP
  have HC := Lib.hid CP
  clear CP hp
  go_enter Try.func43, Try.ntmps43
  go_wp2_with fail
  refine HC.out.mono ?_
  rintro e w' ⟨rfl, rfl⟩
  clear HC
  go_wp2_with fail
  go_ret2
  exact ⟨rfl, Below.refl _ _⟩

set_option maxRecDepth 100000 in
set_option maxHeartbeats 1000000 in
theorem read_size (s r : ByteArray) (w : World) (hp : Lib.hasPrefix s.data.toList [48, 46] = true) (hr : (⟨(Lib.trimPrefix s.data.toList [48, 46]).toArray⟩ : ByteArray) = r) (h : ¬ (1 ≤ r.size ∧ r.size ≤ 8)) :
    Calls Try.prog 43 #[.string s] w fun e w' => e = .returned (.tuple #[.slice none 0 0, .int .i64 60]) ∧ Below w.heap.size w w' := by
  have CP := Try.strings_CutPrefix s ⟨#[48, 46]⟩ w
  rw [show (⟨#[48, 46]⟩ : ByteArray).data.toList = [48, 46] from rfl, hr, hp] at CP
  have HC := Lib.hid CP
  clear CP hp hr
  by_cases h1 : 1 ≤ r.size
  · obtain ⟨ne1, ne2⟩ := isEmpty_no h1
    have h8 : 8 < r.size := by omega
    go_enter Try.func43, Try.ntmps43
    go_wp2_with fail
    refine HC.out.mono ?_
    rintro e w' ⟨rfl, rfl⟩
    clear HC
    go_wp2_with fail
    go_ret2
    exact ⟨rfl, Below.refl _ _⟩
  · have e0 : r.toList = [] := by
      rw [Lib.toList_data]
      rw [Lib.size_eq] at h1
      exact List.eq_nil_of_length_eq_zero (by omega)
    have e1 : r.toList.isEmpty = true := by rw [e0]; rfl
    go_enter Try.func43, Try.ntmps43
    go_wp2_with fail
    refine HC.out.mono ?_
    rintro e w' ⟨rfl, rfl⟩
    clear HC
    go_wp2_with fail
    go_ret2
    exact ⟨rfl, Below.refl _ _⟩

set_option maxRecDepth 100000 in
set_option maxHeartbeats 1000000 in
theorem read_bad (s r : ByteArray) (w : World) (hp : Lib.hasPrefix s.data.toList [48, 46] = true) (hr : (⟨(Lib.trimPrefix s.data.toList [48, 46]).toArray⟩ : ByteArray) = r) (h1 : 1 ≤ r.size) (h8 : r.size ≤ 8) (hd : isDig r.data.toList = false) :
    Calls Try.prog 43 #[.string s] w fun e w' => e = .returned (.tuple #[.slice none 0 0, .int .i64 60]) ∧ Below w.heap.size w w' := by
  have CP := Try.strings_CutPrefix s ⟨#[48, 46]⟩ w
  rw [show (⟨#[48, 46]⟩ : ByteArray).data.toList = [48, 46] from rfl, hr, hp] at CP
  have HC := Lib.hid CP
  have HD := Lib.hid hd
  clear CP hr hp hd
  obtain ⟨i0, hi, hz0, hz1, hz2⟩ := info_parts infoInt
  obtain ⟨ne1, ne2⟩ := isEmpty_no h1
  go_enter Try.func43, Try.ntmps43
  go_wp2_with fail
  refine HC.out.mono ?_
  rintro e w' ⟨rfl, rfl⟩
  clear HC
  go_wp2_with fail
  clear ne1 ne2
  go_loopw [6] (fun y wr => ∃ (v : Value) (k : Nat), v = y ∧ k ≤ r.size ∧ wr.heap[w'.heap.size]? = some (.stringIter r k) ∧ Hid (OwnN wr (w'.heap.size + 1) v (digs (r.data.toList.take k))) ∧ Hid (Below w'.heap.size w' wr) ∧ w'.heap.size + 1 ≤ wr.heap.size ∧ Hid (isDig (r.data.toList.take k) = true)) (fun _ wr => r.size - wr.iterPos w'.heap.size)
  case atStart => exact ⟨_, 0, rfl, by omega, World.iter_heap _ _ _, Lib.hid (OwnN.nil _ _), Lib.hid ((Below.refl _ _).alloc (Nat.le_refl _) _), by simp [World.iter], Lib.hid rfl⟩
  case round =>
    obtain ⟨v, k, hv, hk, hit, hown, hb, hs, hdk⟩ := hrel
    subst hv
    have HI := Lib.hid hit
    have hpos := Lib.hid (iterPos_of hit)
    clear hit
    have hlt : k < r.size := by
      rcases Nat.lt_or_ge k r.size with h | h
      · exact h
      · exfalso
        have := hdk.out
        rw [List.take_of_length_le (by rw [← Lib.size_eq]; omega), HD.out] at this
        cases this
    have hl : k < r.data.toList.length := by rw [← Lib.size_eq]; exact hlt
    have hb8 := byte_at r k hlt hl
    by_cases hdg : 48 ≤ r.data.toList[k].toNat ∧ r.data.toList[k].toNat ≤ 55
    · obtain ⟨c1, c2⟩ := hdg
      have hnx : ∀ ty, (Instr.next (.pointer (some ⟨w'.heap.size, 0, none⟩)) true ty).run Try.prog wr = _ := fun ty => Lib.run_next_ascii_at wr w'.heap.size r k ty HI.out hlt (by rw [hb8]; omega)
      rw [hb8] at hnx
      have E : Hid (digs (r.data.toList.take (k + 1)) = digs (r.data.toList.take k) ++ [r.data.toList[k].toNat - 48]) := Lib.hid (by
        unfold digs; rw [List.take_succ_eq_append_getElem hl, List.map_append]; rfl)
      have ED : Hid (isDig (r.data.toList.take (k + 1)) = true) := Lib.hid (by
        have h0 := hdk.out
        unfold isDig at h0 ⊢
        rw [List.take_succ_eq_append_getElem hl, List.all_append, h0]
        simp only [List.all_cons, List.all_nil, Bool.and_true, Bool.true_and, Bool.and_eq_true, decide_eq_true_eq]; exact ⟨c1, c2⟩)
      clear hb8
      generalize r.data.toList[k].toNat = c at *
      have hI2 : Hid ((wr.iterAt w'.heap.size r (k + 1)).heap[w'.heap.size]? = some (.stringIter r (k + 1))) := Lib.hid (Lib.iterAt_heap _ _ _ _ _ HI.out)
      have hO2 : Hid (OwnN (wr.iterAt w'.heap.size r (k + 1)) (w'.heap.size + 1) v (digs (r.data.toList.take k))) := Lib.hid (hown.out.iterAt (by omega) _ _)
      have hB2 : Hid (Below w'.heap.size w' (wr.iterAt w'.heap.size r (k + 1))) := Lib.hid (Lib.below_iterAt hb.out (Nat.le_refl _) _ _)
      have hS2 : w'.heap.size + 1 ≤ (wr.iterAt w'.heap.size r (k + 1)).heap.size := by rw [Lib.iterAt_size]; exact hs
      obtain ⟨wi, hwi⟩ : ∃ wi, wr.iterAt w'.heap.size r (k + 1) = wi := ⟨_, rfl⟩
      rw [hwi] at hnx hI2 hO2 hB2 hS2
      clear hwi hown hb HI hs
      have hlen : (digs (r.data.toList.take k)).length = k := by unfold digs; simp; omega
      have HL := Lib.hid hlen
      clear hlen
      have ec : (c : Int) - 48 = ((c - 48 : Nat) : Int) := by omega
      go_wp2_with (at_builtin; refine wpList_append_own_at _ rfl _ _ 68 rfl (w'.heap.size + 1) 3 i0 (.int .i64 0) 1 8 Try.underlying68 hi hz0 hz1 hz2 rfl (by decide) v (digs (r.data.toList.take k)).length ((digs (r.data.toList.take k)).map nv) rfl (hO2.out.alloc _) ⟨wi.heap.size, 0, none⟩ 1 1 [nv (c - 48)] rfl rfl (cell_one_new _ _ _) (fun y hy => by simp at hy; subst hy; rfl) (by rw [HL.out]; unfold maxLen; omega) (by rw [HL.out]; omega) (by simp; omega) ?_; intro v' w4 hw1 hw2 _ hw3)
      have P := pushed hw1 hw2 hw3
      have hne : ∀ b, v.ownBlock = some b → w'.heap.size + 1 ≤ b := fun b e => (hO2.out.block_lt e).2
      refine ⟨⟨v', k + 1, rfl, by omega, ?_, Lib.hid (by rw [E.out]; exact P.own), Lib.hid (hB2.out.trans (P.below (fun b e => by have := hne b e; omega) (by omega))), by have := P.size; omega, ED⟩, ?_⟩
      · rw [P.block _ (by omega) (fun e => by have := hne _ e; omega)]; exact hI2.out
      · have h4 : w4.heap[w'.heap.size]? = some (.stringIter r (k + 1)) := by
          rw [P.block _ (by omega) (fun e => by have := hne _ e; omega)]; exact hI2.out
        rw [iterPos_of h4, hpos.out]; omega
    · have hx : Hid ((Utf8.decode r k).1 < 48 ∨ 55 < (Utf8.decode r k).1) := Lib.hid (by
        by_cases ha : (r[k]'hlt).toNat < 128
        · rw [decode_ascii r k hlt ha, hb8]; show r.data.toList[k].toNat < 48 ∨ 55 < r.data.toList[k].toNat; omega
        · have := (decode_high r k hlt (by omega)).1; omega)
      have hnx : ∀ ty, (Instr.next (.pointer (some ⟨w'.heap.size, 0, none⟩)) true ty).run Try.prog wr = _ := fun ty => Lib.run_next_any_at wr w'.heap.size r k ty HI.out hlt
      have hB2 : Hid (Below w'.heap.size w' (wr.iterAt w'.heap.size r (k + (Utf8.decode r k).2))) := Lib.hid (Lib.below_iterAt hb.out (Nat.le_refl _) _ _)
      generalize wr.iterAt w'.heap.size r (k + (Utf8.decode r k).2) = wi at *
      generalize (Utf8.decode r k).1 = c at *
      clear hb8 hdg HI
      have hx := hx.out
      by_cases hc : c < 48
      · go_wp2_with fail
        go_ret2
        exact ⟨rfl, hB2.out⟩
      · have hc2 : 55 < c := by omega
        go_wp2_with fail
        go_ret2
        exact ⟨rfl, hB2.out⟩
end Go.Proofs.Ytodnfchkkgoabaa
