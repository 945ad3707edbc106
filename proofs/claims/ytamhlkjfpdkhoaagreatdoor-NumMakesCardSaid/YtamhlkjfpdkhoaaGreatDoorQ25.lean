/- Plain arithmetic: decimal digits of a row of limbs; rows turned round. WALK of the reference's String. -/
import Derived.Test.YtamhlkjfpdkhoaaGreatDoorQ24
import Derived.Lib.ItoaNum
import Derived.Outline
import Derived.Laws.IdiomStrings
set_option linter.unusedVariables false
namespace Go.Proofs.YtamhlkjfpdkhoaaGreatDoor
open Go.RowKit

/-- The lowest k decimal digits, the lowest first. -/
def rdig (n k : Nat) : List UInt8 := (List.range k).map fun j => Lib.dg n j

theorem rdig_succ (n k : Nat) : rdig n (k + 1) = rdig n k ++ [Lib.dg n k] := by
  unfold rdig; rw [List.range_succ, List.map_append]; rfl

theorem rdig_length (n k : Nat) : (rdig n k).length = k := by unfold rdig; simp

theorem rdig_reverse (n : Nat) : (rdig n (Lib.nDigits n)).reverse = Lib.decDigits n := by
  rw [Lib.decDigits_eq]
  unfold rdig
  apply List.ext_getElem
  · simp
  · intro i h1 h2
    simp only [List.length_map, List.length_range] at h2
    simp [List.getElem_reverse]

theorem rdig_take (n k : Nat) : (rdig n (k + 1)).take k = rdig n k := by
  rw [rdig_succ, List.take_left' (rdig_length n k)]

theorem B9_ten (i : Nat) : B9 ^ i = 10 ^ (9 * i) := by
  rw [Nat.pow_mul]; rfl

theorem limb_digit {l : List Nat} {i x k : Nat} (hl : Low B9 l) (hx : l[i]? = some x) (hk : k < 9) : val B9 l / 10 ^ (9 * i + k) % 10 = x / 10 ^ k % 10 := by
  have hi := (List.getElem?_eq_some_iff.1 hx).1
  have h1 := val_split B9 l i (Nat.le_of_lt hi)
  rw [val_drop_step B9 hx] at h1
  have h2 := hl.take_lt (Nat.le_of_lt hi)
  rw [Nat.pow_add, ← B9_ten, ← Nat.div_div_eq_div_mul, h1, Nat.add_comm, Nat.mul_add_div (Nat.pow_pos B9_pos), Nat.div_eq_of_lt h2, Nat.add_zero]
  have e : B9 = 10 ^ k * 10 ^ (9 - k) := by rw [← Nat.pow_add, show k + (9 - k) = 9 by omega]; rfl
  have e2 : 10 ^ (9 - k) = 10 * 10 ^ (8 - k) := by rw [show 9 - k = 8 - k + 1 by omega, Nat.pow_succ, Nat.mul_comm]
  conv => lhs; rw [e, Nat.mul_assoc, Nat.add_mul_div_left _ _ (Nat.pow_pos (by decide)), e2, Nat.mul_assoc, Nat.add_mul_mod_self_left]

theorem digits_end {n K : Nat} (h0 : 0 < n) (h1 : n < 10 ^ (K + 1)) (h2 : n / 10 ^ K % 10 ≠ 0) : Lib.nDigits n = K + 1 := by
  refine Lib.nDigits_unique K n ?_ h1
  rcases Nat.lt_or_ge n (10 ^ K) with h | h
  · rw [Nat.div_eq_of_lt h] at h2; simp at h2
  · exact h

theorem digits_less {n K : Nat} (h1 : n < 10 ^ (K + 1)) (h2 : n / 10 ^ K % 10 = 0) : n < 10 ^ K := by
  rw [Nat.pow_succ] at h1
  have h3 : n / 10 ^ K < 10 := (Nat.div_lt_iff_lt_mul (Nat.pow_pos (by decide))).2 (by rw [Nat.mul_comm]; exact h1)
  have h4 : n / 10 ^ K = 0 := by generalize n / 10 ^ K = q at h2 h3; omega
  rcases Nat.lt_or_ge n (10 ^ K) with h | h
  · exact h
  · have := Nat.div_pos h (Nat.pow_pos (n := K) (by decide : 0 < 10)); omega

theorem infoByte : (Tryz.prog.info? 5).map (fun i => (i.zero, i.size, i.bytes)) = some (some (.int .u8 0), 1, 1) := by kernel_rfl

abbrev bytesOf (l : List UInt8) : List Value := l.map fun (b : UInt8) => Value.int .u8 (b.toNat : Int)

/-- Bytes in a row of the call's own. -/
def OwnB (w : World) (B : Nat) (v : Value) (k : Nat) (l : List UInt8) : Prop := w.ownsRow B 5 1 v k (bytesOf l)

theorem ownB_form {w : World} {B k : Nat} {v : Value} {l : List UInt8} (h : OwnB w B v k l) : ∃ p c, v = .slice p k c := by
  rcases h.2 with ⟨h0, h1⟩ | ⟨g, cap, cur, h0, _⟩
  · exact ⟨none, 0, by rw [h0, h1]⟩
  · exact ⟨_, cap, h0⟩

theorem ownB_nil (w : World) (B : Nat) : OwnB w B (.slice none 0 0) 0 [] := ⟨rfl, .inl ⟨rfl, rfl⟩⟩

theorem ownB_snoc {w : World} {B k : Nat} {v : Value} {l : List UInt8} {x : UInt8} (h : w.ownsRow B 5 1 v (k + 1) (bytesOf l ++ [.int .u8 (x.toNat : Int)])) : OwnB w B v (k + 1) (l ++ [x]) := by
  unfold OwnB bytesOf; rw [List.map_append]; exact h

theorem ownB_cell {w : World} {B g n c : Nat} {o : List UInt8} (h : OwnB w B (.slice (some ⟨g, 0, none⟩) n c) n o) {j : Nat} {x : UInt8} (hj : o[j]? = some x) : w.cell? ⟨g, j, none⟩ = some (.int .u8 (x.toNat : Int)) ∧ w.frozen? ⟨g, j, none⟩ = false ∧ B ≤ g := by
  unfold OwnB at h
  rcases h.2 with ⟨h0, _⟩ | ⟨g', cap, cur, h0, hb, _⟩
  · simp at h0
  · have h1 := h0
    simp only [Value.slice.injEq, Option.some.injEq, Addr.mk.injEq, and_true] at h1
    obtain ⟨rfl, _, rfl⟩ := h1
    have hc := owns_cells h j (.int .u8 (x.toNat : Int)) (by rw [List.getElem?_map, hj]; rfl)
    rw [add_zero_off] at hc
    exact ⟨hc, World.ownsRow.frozenAt h j, hb⟩

theorem ownB_cap {w : World} {B n c : Nat} {p : Option Addr} {o : List UInt8} (h : OwnB w B (.slice p n c) n o) : n ≤ c ∧ c ≤ maxLen := by
  rcases h.2 with ⟨h0', h1⟩ | ⟨g', cap, cur, h0', hb, h2, h3, h4, _⟩
  · simp only [Value.slice.injEq] at h0'; unfold maxLen; omega
  · simp only [Value.slice.injEq] at h0'
    obtain ⟨_, _, rfl⟩ := h0'
    exact ⟨h3, h4⟩

theorem ownB_set {w : World} {B g n c : Nat} {o : List UInt8} (h : OwnB w B (.slice (some ⟨g, 0, none⟩) n c) n o) (j : Nat) (x : UInt8) : OwnB (w.setCell ⟨g, j, none⟩ (.int .u8 (x.toNat : Int))) B (.slice (some ⟨g, 0, none⟩) n c) n (o.set j x) := by
  unfold OwnB at h ⊢
  have := (h.stored j (.int .u8 (x.toNat : Int))).1
  unfold bytesOf at this ⊢
  rw [List.map_set]
  exact this

theorem ownB_len {w : World} {B n : Nat} {v : Value} {o : List UInt8} (h : OwnB w B v n o) : o.length = n := by
  have := h.1
  simpa [bytesOf] using this

/-- The outer parts, as far as i, are turned round. -/
def RevAt (L C : List UInt8) (i : Nat) : Prop := ∀ t, t < L.length → C[t]? = L[if t < i ∨ L.length - 1 - i < t then L.length - 1 - t else t]?

theorem rev_start (L : List UInt8) : RevAt L L 0 := by
  intro t ht
  rw [if_neg (by omega)]

theorem rev_get {L C : List UInt8} {i t : Nat} (h : RevAt L C i) (h1 : i ≤ t) (h2 : t ≤ L.length - 1 - i) (h3 : t < L.length) : C[t]? = L[t]? := by
  rw [h t h3, if_neg (by omega)]

theorem rev_step {L C : List UInt8} {i : Nat} {x y : UInt8} (h : RevAt L C i) (hC : C.length = L.length) (h2 : i < L.length - 1 - i) (hx : L[i]? = some x) (hy : L[L.length - 1 - i]? = some y) : RevAt L ((C.set i y).set (L.length - 1 - i) x) (i + 1) := by
  intro t ht
  rw [List.getElem?_set, List.getElem?_set]
  by_cases e1 : L.length - 1 - i = t
  · rw [if_pos e1, if_pos (by rw [List.length_set]; omega), if_pos (by omega)]
    rw [← hx]; congr 1; omega
  · rw [if_neg e1]
    by_cases e2 : i = t
    · rw [if_pos e2, if_pos (by omega), if_pos (by omega), ← hy]; congr 1; omega
    · rw [if_neg e2, h t ht]
      by_cases e3 : t < i ∨ L.length - 1 - i < t
      · rw [if_pos e3, if_pos (by omega)]
      · rw [if_neg e3, if_neg (by omega)]

theorem rev_end {L C : List UInt8} {i : Nat} (h : RevAt L C i) (hC : C.length = L.length) (h2 : ¬ i < L.length - 1 - i) : C = L.reverse := by
  apply List.ext_getElem?
  intro t
  by_cases ht : t < L.length
  · rw [h t ht, List.getElem?_reverse ht]
    by_cases e : t < i ∨ L.length - 1 - i < t
    · rw [if_pos e]
    · rw [if_neg e]; congr 1; omega
  · rw [List.getElem?_eq_none (by omega), List.getElem?_eq_none (by rw [List.length_reverse]; omega)]

theorem ownB_addr {w : World} {B n c : Nat} {p : Option Addr} {o : List UInt8} (h : OwnB w B (.slice p n c) n o) (h0 : 0 < n) : ∃ g, p = some ⟨g, 0, none⟩ := by
  rcases h.2 with ⟨h0', h1⟩ | ⟨g', cap, cur, h0', hb, _⟩
  · omega
  · simp only [Value.slice.injEq] at h0'
    exact ⟨g', h0'.1⟩

theorem ownB_take {w : World} {B n c k : Nat} {p : Option Addr} {o : List UInt8} (h : OwnB w B (.slice p n c) n o) (h0 : 0 < n) (hk : k ≤ n) : OwnB w B (.slice p k c) k (o.take k) := by
  have hl := h.1
  rcases h.2 with ⟨h0', h1⟩ | ⟨g', cap, cur, h0', hb, h2, h3, h4, h5, h6⟩
  · omega
  · simp only [Value.slice.injEq] at h0'
    obtain ⟨rfl, _, rfl⟩ := h0'
    refine ⟨?_, .inr ⟨g', c, cur, rfl, hb, h2, by omega, h4, h5, ?_⟩⟩
    · simp only [bytesOf, List.length_map, Nat.mul_one] at hl ⊢
      rw [List.length_take]; omega
    · rw [Nat.mul_one] at h6 ⊢
      unfold bytesOf at h6 ⊢
      rw [List.map_take, ← h6, List.take_take, Nat.min_eq_left hk]

theorem ret_s {a b : ByteArray} (h : a = b) : Ending.returned (.string a) = .returned (.string b) := by rw [h]

theorem dg_toNat (u j : Nat) : (Lib.dg u j).toNat = 48 + u / 10 ^ j % 10 := by
  unfold Lib.dg
  have : 48 + u / 10 ^ j % 10 < 256 := by have := Nat.mod_lt (u / 10 ^ j) (show 0 < 10 by decide); omega
  rw [UInt8.toNat_ofNat', Nat.mod_eq_of_lt this]

set_option maxRecDepth 100000 in
set_option maxHeartbeats 4000000 in
theorem String_ref (v : Value) (s : Bool) (n K : Nat) (w : World) (h : RS w v s n K) (h0 : 0 < n) (hK : K ≤ 1000000) :
    Calls Tryz.prog 38 #[v] w fun e w' => e = .returned (.string ⟨(if s then 45 :: Lib.decDigits n else Lib.decDigits n).toArray⟩) ∧ Below w.heap.size w w' := by
  obtain ⟨d, rfl, l, h1, h2, hn, h4⟩ := h
  obtain ⟨p, c, rfl⟩ := h1.slice
  obtain ⟨i0, hi, hz0, hz1, hz2⟩ := info_parts infoByte
  have hl0 : 0 < l.length := by
    rcases Nat.eq_zero_or_pos l.length with h | h
    · rw [List.eq_nil_of_length_eq_zero h] at hn; simp [val] at hn; omega
    · exact h
  have t1 : ((l.length : Int) == 0) = false := by rw [beq_eq_false_iff_ne]; omega
  have HW := Lib.hid h1
  have HN := Lib.hid h2
  have HV := Lib.hid hn
  have R0 : Hid ((w.alloc (.cells #[.bool s, .slice p l.length c] 25)).heap[w.heap.size]? = some (.cells #[.bool s, .slice p l.length c] 25 (0, 0))) := Lib.hid (heap_alloc_new w _)
  have B0 := Lib.hid ((Below.refl w.heap.size w).alloc (Nat.le_refl _) (.cells #[.bool s, .slice p l.length c] 25))
  have Z0 : Hid ((w.alloc (.cells #[.bool s, .slice p l.length c] 25)).heap.size = w.heap.size + 1) := Lib.hid (size_alloc _ _)
  clear h1 h2 hn
  go_enter Tryz.func38, Tryz.ntmps38
  go_wp2_with fail
  generalize w.alloc (.cells #[.bool s, .slice p l.length c] 25) = w0 at *
  go_loopw [3, 4] (fun bv iv wr => ∃ (bp : Option Addr) (bc i : Nat), bv = .slice bp (9 * i) bc ∧ iv = .int .i64 i ∧ i ≤ l.length ∧ Hid (OwnB wr w0.heap.size (.slice bp (9 * i) bc) (9 * i) (rdig n (9 * i))) ∧ Hid (Below w0.heap.size w0 wr)) (fun _ iv _ => l.length - (intOf iv).toNat)
  case atStart => exact ⟨none, 0, 0, rfl, rfl, by omega, Lib.hid (ownB_nil _ _), Lib.hid (Below.refl _ _)⟩
  case round =>
    obtain ⟨bp, bc, i, rfl, rfl, hil, hb, hB⟩ := hrel
    have q0 := Below.row hB.out (by rw [Z0.out]; omega) R0.out
    obtain ⟨a0, a1, a2, a3⟩ := cells2 q0
    by_cases h1 : i < l.length
    · obtain ⟨x, hx⟩ : ∃ d, l[i]? = some d := ⟨_, List.getElem?_eq_getElem h1⟩
      obtain ⟨g, rfl, d1⟩ := HW.out.at_ (B0.out.trans (hB.out.mono (by rw [Z0.out]; omega))) hx
      have bx : x < 1000000000 := HN.out.1.at_ hx
      have HD := Lib.hid (fun k (hk : k < 9) => by have h := limb_digit (k := k) HN.out.1 hx hk; rw [HV.out] at h; exact h)
      clear hx q0
      go_wp2_with fail
      go_loopw [3, 5, 6] (fun bv vv kv wr => ∃ (bp : Option Addr) (bc k v : Nat), bv = .slice bp (9 * i + k) bc ∧ vv = .int .i64 v ∧ kv = .int .i64 k ∧ (k ≤ 9 ∧ v < 1000000000) ∧ Hid (v = x / 10 ^ k) ∧ Hid (OwnB wr w0.heap.size (.slice bp (9 * i + k) bc) (9 * i + k) (rdig n (9 * i + k))) ∧ Hid (Below w0.heap.size w0 wr)) (fun _ _ kv _ => 9 - (intOf kv).toNat)
      case atStart => exact ⟨bp, bc, 0, x, rfl, rfl, rfl, ⟨by omega, bx⟩, Lib.hid (by simp), hb, hB⟩
      case round =>
        clear a0 a1 a2 a3 d1 hb hB
        obtain ⟨bp, bc, k, v, rfl, rfl, rfl, ⟨hk, hv⟩, hvx, hb, hB⟩ := hrel
        by_cases h2 : k < 9
        · obtain ⟨bt, hbt⟩ : ∃ b, Lib.dg n (9 * i + k) = b := ⟨_, rfl⟩
          have e1 : bt.toNat = 48 + v % 10 := by rw [← hbt, dg_toNat, HD.out k h2, ← hvx.out]
          have eW : IntKind.u8.wrap (48 + (v : Int) % 10) = (bt.toNat : Int) := by rw [IntKind.wrap_u8]; omega
          obtain ⟨q, hq⟩ : ∃ q, v / 10 = q := ⟨_, rfl⟩
          have eD : (v : Int) / 10 = (q : Int) := by omega
          have hqx : Hid (q = x / 10 ^ (k + 1)) := Lib.hid (by rw [← hq, hvx.out, Nat.pow_succ, Nat.div_div_eq_div_mul])
          have HR := Lib.hid (rdig_succ n (9 * i + k))
          rw [hbt] at HR
          have hq9 : q < 1000000000 := by omega
          clear hbt e1 hq hvx
          go_wp2_with (at_builtin; refine wpList_append_own_at _ rfl _ _ 88 rfl w0.heap.size 5 i0 (.int .u8 0) 1 1 Tryz.underlying88 hi hz0 hz1 hz2 rfl (by decide) (.slice bp (9 * i + k) bc) _ _ rfl (hb.out.alloc _) ⟨wr.heap.size, 0, none⟩ 1 1 [.int .u8 (bt.toNat : Int)] rfl rfl (cell_one_new _ _ _) (fun x hx => by simp at hx; subst hx; rfl) (by unfold maxLen; omega) (by omega) (by have := hB.out.size; simp; omega) ?_; intro v' w1 hown' hgrow _ _; have HO := Lib.hid (ownB_snoc hown'); have HG := Lib.hid (below_push hB.out hgrow fun k hk => (hb.out.lt k hk).1); obtain ⟨ap, ac, rfl⟩ := ownB_form HO.out; clear hown' hgrow)
          go_roundw
          case rel => exact ⟨ap, ac, k + 1, q, rfl, rfl, by go_num, ⟨by omega, hq9⟩, hqx, Lib.hid (by have h := HO.out; rw [← HR.out] at h; exact h), HG.out⟩
          case measure => simp [intOf]; omega
        · obtain rfl : k = 9 := by omega
          go_wp2_with fail
          go_roundw
          case rel => exact ⟨bp, bc, i + 1, by rw [Nat.mul_add], by go_num, by omega, Lib.hid (by rw [Nat.mul_add]; exact hb.out), hB⟩
          case measure => simp [intOf]; omega
    · obtain rfl : i = l.length := by omega
      have hN := HN.out.1.lt
      rw [HV.out, B9_ten] at hN
      have HNL := Lib.hid hN
      have hK0 : 0 < 9 * l.length := by omega
      clear hN q0
      go_wp2_with fail
      go_loopw [3] (fun bv wr => ∃ (bp : Option Addr) (bc k : Nat), bv = .slice bp k bc ∧ (0 < k ∧ k ≤ 9 * l.length) ∧ Hid (n < 10 ^ k) ∧ Hid (OwnB wr w0.heap.size (.slice bp k bc) k (rdig n k)) ∧ Hid (Below w0.heap.size w0 wr)) (fun bv _ => match bv with | .slice _ k _ => k | _ => 0)
      case atStart => exact ⟨bp, bc, 9 * l.length, rfl, ⟨hK0, Nat.le_refl _⟩, HNL, hb, hB⟩
      case round =>
        clear hb hB HNL hK0 a0 a1 a2 a3
        obtain ⟨bp, bc, k, rfl, ⟨hk0, hk⟩, hn, hb, hB⟩ := hrel
        obtain ⟨j, rfl⟩ : ∃ j, k = j + 1 := ⟨k - 1, by omega⟩
        obtain ⟨g, rfl⟩ := ownB_addr hb.out hk0
        obtain ⟨hcap, hcm⟩ := ownB_cap hb.out
        unfold maxLen at hcm
        obtain ⟨bt, hbt⟩ : ∃ b, Lib.dg n j = b := ⟨_, rfl⟩
        have hc := ownB_cell hb.out (j := j) (x := bt) (by rw [rdig_succ, hbt, List.getElem?_append_right (by rw [rdig_length]; exact Nat.le_refl _), rdig_length]; simp)
        obtain ⟨c1, c2, _⟩ := hc
        have e1 : bt.toNat = 48 + n / 10 ^ j % 10 := by rw [← hbt, dg_toNat]
        by_cases h2 : n / 10 ^ j % 10 = 0
        · have e2 : bt.toNat = 48 := by omega
          rw [e2] at c1
          have hlt := digits_less hn.out h2
          have hj0 : 0 < j := by
            rcases Nat.eq_zero_or_pos j with h | h
            · rw [h] at hlt; simp at hlt; omega
            · exact h
          have HLT := Lib.hid hlt
          have HO := Lib.hid (ownB_take hb.out hk0 (show j ≤ j + 1 by omega))
          rw [rdig_take] at HO
          clear hlt e1 e2 hbt h2
          go_wp2_with fail
          go_roundw
          case rel => exact ⟨some ⟨g, 0, none⟩, bc, j, by simp, ⟨hj0, by omega⟩, HLT, HO, hB⟩
          case measure => simp
        · have t2 : ((bt.toNat : Int) == 48) = false := by rw [beq_eq_false_iff_ne]; omega
          have HND := Lib.hid (digits_end h0 hn.out h2)
          have q0 := Below.row hB.out (by rw [Z0.out]; omega) R0.out
          obtain ⟨a0, a1, a2, a3⟩ := cells2 q0
          clear e1 hbt h2 q0
          cases s
          · go_wp2_with fail
            have HBB := hB
            obtain ⟨L, hL⟩ : ∃ L, L = rdig n (j + 1) := ⟨_, rfl⟩
            have HL : Hid (L.reverse = Lib.decDigits n) := Lib.hid (by rw [hL]; rw [← HND.out]; exact rdig_reverse n)
            have HO : Hid (OwnB wr w0.heap.size (.slice (some ⟨g, 0, none⟩) (j + 1) bc) (j + 1) L) := Lib.hid (by rw [hL]; exact hb.out)
            have HLen : Hid (L.length = j + 1) := Lib.hid (ownB_len HO.out)
            clear hL
            go_loopw [7, 8] (fun iv kv wr => ∃ (i : Nat) (C : List UInt8), iv = .int .i64 i ∧ kv = .int .i64 ((j : Int) - i) ∧ 2 * i ≤ j + 1 ∧ Hid (OwnB wr w0.heap.size (.slice (some ⟨g, 0, none⟩) (j + 1) bc) (j + 1) C) ∧ Hid (RevAt L C i) ∧ Hid (Below w0.heap.size w0 wr)) (fun iv _ _ => j + 1 - (intOf iv).toNat)
            case atStart => exact ⟨0, L, rfl, by go_num, by omega, HO, Lib.hid (rev_start L), HBB⟩
            case round =>
              clear HO HBB
              obtain ⟨i, C, rfl, rfl, hi2, hO, hR, hB⟩ := hrel
              have hCl := ownB_len hO.out
              have hLl := HLen.out
              by_cases h3 : i < j + 1 - 1 - i
              · obtain ⟨k, hk⟩ : ∃ k, j + 1 - 1 - i = k := ⟨_, rfl⟩
                have eK : (j : Int) - (i : Int) = (k : Int) := by omega
                obtain ⟨x, hx⟩ : ∃ x, L[i]? = some x := ⟨_, List.getElem?_eq_getElem (by omega)⟩
                obtain ⟨y, hy⟩ : ∃ y, L[k]? = some y := ⟨_, List.getElem?_eq_getElem (by omega)⟩
                have gx : C[i]? = some x := by rw [rev_get hR.out (Nat.le_refl _) (by omega) (by omega), hx]
                have gy : C[k]? = some y := by rw [rev_get hR.out (by omega) (by omega) (by omega), hy]
                obtain ⟨c1, c2, hge⟩ := ownB_cell hO.out gx
                obtain ⟨d1, d2, _⟩ := ownB_cell hO.out gy
                have hkk : L.length - 1 - i = k := by omega
                have HR := Lib.hid (rev_step hR.out (by omega) (by omega) hx (by rw [hkk]; exact hy))
                rw [hkk] at HR
                have HO := Lib.hid (ownB_set (ownB_set hO.out i y) k x)
                have HBn := Lib.hid ((hB.out.setCell (p := ⟨g, i, none⟩) hge (.int .u8 (y.toNat : Int))).setCell (p := ⟨g, k, none⟩) hge (.int .u8 (x.toNat : Int)))
                have hik : i ≠ k := by omega
                have ec : (wr.setCell ⟨g, i, none⟩ (.int .u8 (y.toNat : Int))).cell? ⟨g, k, none⟩ = some (.int .u8 (y.toNat : Int)) := by rw [World.cell?_setCell_other _ _ _ _ (by intro h; have h := congrArg Addr.off h; simp only at h; omega)]; exact d1
                have ef : (wr.setCell ⟨g, i, none⟩ (.int .u8 (y.toNat : Int))).frozen? ⟨g, k, none⟩ = false := by rw [World.frozen?_setCell]; exact d2
                clear hx hy gx gy hR hO hB hkk
                go_wp2_with fail
                go_roundw
                case rel => exact ⟨i + 1, (C.set i y).set k x, by go_num, by go_num, by omega, HO, HR, HBn⟩
                case measure => simp [intOf]; omega
              · have eC := rev_end hR.out (by omega) (by omega)
                have hcv : (convert 88 9 (.slice (some ⟨g, 0, none⟩) (j + 1) bc)).run Tryz.prog wr = .ok (.string ⟨C.toArray⟩) wr := by
                  have h := run_convert_bytes_back (P := Tryz.prog) wr 88 9 5 ⟨g, 0, none⟩ bc C Tryz.underlying88 Tryz.underlying5 Tryz.underlying9 (fun j hj => by rw [add_zero_off]; exact (ownB_cell hO.out (List.getElem?_eq_getElem hj)).1)
                  rw [hCl] at h
                  exact h
                have EC := Lib.hid (eC.trans HL.out)
                clear eC
                go_wp2_with fail
                go_ret
                exact ⟨ret_s (by rw [EC.out]), B0.out.trans (hB.out.mono B0.out.size)⟩
          · go_wp2_with (at_builtin; refine wpList_append_own_at _ rfl _ _ 88 rfl w0.heap.size 5 i0 (.int .u8 0) 1 1 Tryz.underlying88 hi hz0 hz1 hz2 rfl (by decide) (.slice (some ⟨g, 0, none⟩) (j + 1) bc) _ _ rfl (hb.out.alloc _) ⟨wr.heap.size, 0, none⟩ 1 1 [.int .u8 (((45 : UInt8).toNat : Nat) : Int)] rfl rfl (cell_one_new _ _ _) (fun x hx => by simp at hx; subst hx; rfl) (by unfold maxLen; omega) (by omega) (by have := hB.out.size; simp; omega) ?_; intro v' wa hown' hgrow _ _; have HA := Lib.hid (ownB_snoc hown'); have HBB := Lib.hid (below_push hB.out hgrow fun k hk => (hb.out.lt k hk).1).out; obtain ⟨ap, ac, rfl⟩ := ownB_form HA.out; obtain ⟨ga, rfl⟩ := ownB_addr HA.out (by omega); obtain ⟨hcapa, hcma⟩ := ownB_cap HA.out; unfold maxLen at hcma; clear hown' hgrow)
            obtain ⟨L, hL⟩ : ∃ L, L = rdig n (j + 1) ++ [45] := ⟨_, rfl⟩
            have HL : Hid (L.reverse = 45 :: Lib.decDigits n) := Lib.hid (by rw [hL]; rw [List.reverse_append, ← HND.out, rdig_reverse]; rfl)
            have HO : Hid (OwnB wa w0.heap.size (.slice (some ⟨ga, 0, none⟩) (j + 1 + 1) ac) (j + 1 + 1) L) := Lib.hid (by rw [hL]; exact HA.out)
            have HLen : Hid (L.length = j + 1 + 1) := Lib.hid (ownB_len HO.out)
            clear hL
            go_loopw [7, 8] (fun iv kv wr => ∃ (i : Nat) (C : List UInt8), iv = .int .i64 i ∧ kv = .int .i64 ((((j : Int) + 1) : Int) - i) ∧ 2 * i ≤ j + 1 + 1 ∧ Hid (OwnB wr w0.heap.size (.slice (some ⟨ga, 0, none⟩) (j + 1 + 1) ac) (j + 1 + 1) C) ∧ Hid (RevAt L C i) ∧ Hid (Below w0.heap.size w0 wr)) (fun iv _ _ => j + 1 + 1 - (intOf iv).toNat)
            case atStart => exact ⟨0, L, rfl, by go_num, by omega, HO, Lib.hid (rev_start L), HBB⟩
            case round =>
              clear HO HBB
              obtain ⟨i, C, rfl, rfl, hi2, hO, hR, hB⟩ := hrel
              have hCl := ownB_len hO.out
              have hLl := HLen.out
              by_cases h3 : i < j + 1 + 1 - 1 - i
              · obtain ⟨k, hk⟩ : ∃ k, j + 1 + 1 - 1 - i = k := ⟨_, rfl⟩
                have eK : (((j : Int) + 1) : Int) - (i : Int) = (k : Int) := by omega
                obtain ⟨x, hx⟩ : ∃ x, L[i]? = some x := ⟨_, List.getElem?_eq_getElem (by omega)⟩
                obtain ⟨y, hy⟩ : ∃ y, L[k]? = some y := ⟨_, List.getElem?_eq_getElem (by omega)⟩
                have gx : C[i]? = some x := by rw [rev_get hR.out (Nat.le_refl _) (by omega) (by omega), hx]
                have gy : C[k]? = some y := by rw [rev_get hR.out (by omega) (by omega) (by omega), hy]
                obtain ⟨c1, c2, hge⟩ := ownB_cell hO.out gx
                obtain ⟨d1, d2, _⟩ := ownB_cell hO.out gy
                have hkk : L.length - 1 - i = k := by omega
                have HR := Lib.hid (rev_step hR.out (by omega) (by omega) hx (by rw [hkk]; exact hy))
                rw [hkk] at HR
                have HO := Lib.hid (ownB_set (ownB_set hO.out i y) k x)
                have HBn := Lib.hid ((hB.out.setCell (p := ⟨ga, i, none⟩) hge (.int .u8 (y.toNat : Int))).setCell (p := ⟨ga, k, none⟩) hge (.int .u8 (x.toNat : Int)))
                have hik : i ≠ k := by omega
                have ec : (wr.setCell ⟨ga, i, none⟩ (.int .u8 (y.toNat : Int))).cell? ⟨ga, k, none⟩ = some (.int .u8 (y.toNat : Int)) := by rw [World.cell?_setCell_other _ _ _ _ (by intro h; have h := congrArg Addr.off h; simp only at h; omega)]; exact d1
                have ef : (wr.setCell ⟨ga, i, none⟩ (.int .u8 (y.toNat : Int))).frozen? ⟨ga, k, none⟩ = false := by rw [World.frozen?_setCell]; exact d2
                clear hx hy gx gy hR hO hB hkk
                go_wp2_with fail
                go_roundw
                case rel => exact ⟨i + 1, (C.set i y).set k x, by go_num, by go_num, by omega, HO, HR, HBn⟩
                case measure => simp [intOf]; omega
              · have eC := rev_end hR.out (by omega) (by omega)
                have hcv : (convert 88 9 (.slice (some ⟨ga, 0, none⟩) (j + 1 + 1) ac)).run Tryz.prog wr = .ok (.string ⟨C.toArray⟩) wr := by
                  have h := run_convert_bytes_back (P := Tryz.prog) wr 88 9 5 ⟨ga, 0, none⟩ ac C Tryz.underlying88 Tryz.underlying5 Tryz.underlying9 (fun j hj => by rw [add_zero_off]; exact (ownB_cell hO.out (List.getElem?_eq_getElem hj)).1)
                  rw [hCl] at h
                  exact h
                have EC := Lib.hid (eC.trans HL.out)
                clear eC
                go_wp2_with fail
                go_ret
                exact ⟨ret_s (by rw [EC.out]), B0.out.trans (hB.out.mono B0.out.size)⟩
end Go.Proofs.YtamhlkjfpdkhoaaGreatDoor
