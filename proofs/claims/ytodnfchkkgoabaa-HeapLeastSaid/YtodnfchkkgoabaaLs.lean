/- WALK of Least of the reference. -/
import Derived.Test.YtodnfchkkgoabaaLsa
import Derived.Test.YtodnfchkkgoabaaMs
import Derived.Test.YtodnfchkkgoabaaOw
import Derived.Test.YtodnfchkkgoabaaRv
import Derived.StillTailTactics
import Derived.Deep.CutBlock
import Derived.Deep.AppendLies
import Derived.Deep.RegionLaw
set_option linter.unusedVariables false
namespace Go.Proofs.Ytodnfchkkgoabaa
open Go.RowKit
open Nim

/-- The table so far. -/
def LT (w : World) (g x y b : Nat) : Prop := ∃ f : Nat → Value, Blk w g 256 f ∧ ∀ u v, u < 16 → v < 16 → (u < x ∧ v ≤ b ∨ u = x ∧ v < y) → f (u * 16 + v) = .int .i64 (nm 4 u v : Nat)
theorem LT.cell {w : World} {g x y b : Nat} (h : LT w g x y b) (u v : Nat) (hu : u < 16) (hv : v < 16) (hd : u < x ∧ v ≤ b ∨ u = x ∧ v < y) : w.cell? ⟨g, u * 16 + v, none⟩ = some (.int .i64 (nm 4 u v : Nat)) := by
  obtain ⟨f, hf, ht⟩ := h
  rw [← ht u v hu hv hd]; exact hf.cell (by omega)
theorem LT.row {w : World} {g x b : Nat} (h : LT w g x (b + 1) b) : LT w g (x + 1) 0 b := by
  obtain ⟨f, hf, ht⟩ := h
  exact ⟨f, hf, fun u v hu hv hd => ht u v hu hv (by omega)⟩
theorem LT.set {w : World} {g x y b : Nat} (h : LT w g x y b) (hx : x < 16) (hy : y < 16) : LT (w.setCell ⟨g, x * 16 + y, none⟩ (.int .i64 (nm 4 x y : Nat))) g x (y + 1) b := by
  obtain ⟨f, hf, ht⟩ := h
  refine ⟨_, hf.set (x * 16 + y) (.int .i64 (nm 4 x y : Nat)), fun u v hu hv hd => ?_⟩
  by_cases e : u = x ∧ v = y
  · obtain ⟨rfl, rfl⟩ := e; rw [if_pos rfl]
  · rw [if_neg (by omega)]; exact ht u v hu hv (by omega)
theorem LT.keep {w w' : World} {g x y b : Nat} (h : LT w g x y b) (k : w'.heap[g]? = w.heap[g]?) : LT w' g x y b := by
  obtain ⟨f, hf, ht⟩ := h; exact ⟨f, hf.keep k, ht⟩
theorem LT.lt {w : World} {g x y b : Nat} (h : LT w g x y b) : g < w.heap.size := by
  obtain ⟨f, hf, _⟩ := h; exact hf.lt
theorem LT.frozen {w : World} {g x y b : Nat} (h : LT w g x y b) (i : Nat) : w.frozen? ⟨g, i, none⟩ = false := by
  obtain ⟨f, hf, _⟩ := h; exact hf.frozen i

/-- The list so far. -/
def LD (x y i k : Nat) (L : List Nat) : Prop := L.length = i * y + k ∧ ∀ z, z ∈ L ↔ ∃ u v, v < y ∧ (u < i ∨ u = i ∧ v < k) ∧ z = nm 4 u y ^^^ nm 4 x v ^^^ nm 4 u v
theorem LD.nil (x y : Nat) : LD x y 0 0 [] := ⟨by simp, fun z => ⟨fun h => by simp at h, fun ⟨u, v, h⟩ => by omega⟩⟩
theorem LD.next {x y i k : Nat} {L : List Nat} (h : LD x y i k L) (hk : k < y) : LD x y i (k + 1) (L ++ [nm 4 i y ^^^ nm 4 x k ^^^ nm 4 i k]) := by
  refine ⟨by rw [List.length_append, h.1]; simp; omega, fun z => ?_⟩
  rw [List.mem_append, h.2, List.mem_singleton]
  constructor
  · rintro (⟨u, v, h1, h2, h3⟩ | rfl)
    · exact ⟨u, v, h1, by omega, h3⟩
    · exact ⟨i, k, hk, by omega, rfl⟩
  · rintro ⟨u, v, h1, h2, h3⟩
    by_cases e : u = i ∧ v = k
    · obtain ⟨rfl, rfl⟩ := e; exact .inr h3
    · exact .inl ⟨u, v, h1, by omega, h3⟩
theorem LD.row {x y i : Nat} {L : List Nat} (h : LD x y i y L) : LD x y (i + 1) 0 L := by
  refine ⟨by rw [h.1, Nat.succ_mul]; omega, fun z => ?_⟩
  rw [h.2]
  exact ⟨fun ⟨u, v, h1, h2, h3⟩ => ⟨u, v, h1, by omega, h3⟩, fun ⟨u, v, h1, h2, h3⟩ => ⟨u, v, h1, by omega, h3⟩⟩
theorem LD.len {x y i k : Nat} {L : List Nat} (h : LD x y i k L) (hi : i < 16) (hy : y < 16) (hk : k ≤ y) : L.length ≤ 300 := by
  rw [h.1]
  have : i * y ≤ 15 * 15 := Nat.mul_le_mul (by omega) (by omega)
  omega

def zs (L : List Nat) : List Int := L.map fun x : Nat => (x : Int)
theorem zs_getD (r : List Nat) (i : Nat) : (zs r).getD i 0 = ((r.getD i 0 : Nat) : Int) := by
  unfold zs
  rw [List.getD_eq_getElem?_getD, List.getElem?_map, List.getD_eq_getElem?_getD]
  cases r[i]? <;> rfl
theorem zs_mem (L : List Nat) (n : Nat) : (n : Int) ∈ zs L ↔ n ∈ L := by
  unfold zs
  rw [List.mem_map]
  exact ⟨fun ⟨a, h1, h2⟩ => by have : a = n := by omega
                               subst this; exact h1, fun h => ⟨n, h, rfl⟩⟩
theorem missing_is (x y : Nat) (L : List Nat) (p : Option Addr) (c : Nat) (w : World) (hx : x < 16) (hy : y < 16) (hL : NS w p L) (hd : LD x y x 0 L) :
    Calls Try.prog 14 #[.slice p L.length c] w fun e w' => e = .returned (.int .i64 (nm 4 x y : Nat)) ∧ w' = w := by
  have h1 : NI w p (zs L) := fun i hi => by
    obtain ⟨g, e, hc⟩ := hL i (by simpa [zs] using hi)
    exact ⟨g, e, by rw [zs_getD]; exact hc⟩
  have hl : (zs L).length = L.length := by simp [zs]
  have h2 := Missing_any (zs L) p c w h1 (by rw [hl]; have := hd.len hx hy (Nat.zero_le _); omega)
  rw [hl] at h2
  refine h2.mono ?_
  rintro e w' ⟨⟨n, rfl, h3, h4⟩, rfl⟩
  have := nm_is x y n (fun z => z ∈ L) hx hy (fun z => by
    rw [hd.2]
    exact ⟨fun ⟨u, v, h1, h2, h3⟩ => ⟨u, v, by omega, h1, h3⟩, fun ⟨u, v, h1, h2, h3⟩ => ⟨u, v, h2, .inl h1, h3⟩⟩) (fun j hj => (zs_mem L j).1 (h3 j hj)) (fun h => h4 ((zs_mem L n).2 h))
  exact ⟨by rw [this], rfl⟩

theorem zero_84 : Try.zeroCells84 = Array.replicate 256 (.int .i64 0) := by kernel_rfl

set_option maxRecDepth 100000 in
set_option maxHeartbeats 2000000 in
theorem Least_any (a b : Nat) (W : World) (ha : a < 16) (hb : b < 16) :
    Calls Try.prog 34 #[.int .i64 a, .int .i64 b] W fun e w' => e = .returned (.int .i64 (nm 4 a b : Nat)) ∧ Below W.heap.size W w' := by
  obtain ⟨i0, hi, hz0, hz1, hz2⟩ := info_parts infoInt
  go_enter Try.func34, Try.ntmps34
  go_wp2_with fail
  obtain ⟨w0, hw0⟩ : ∃ w0, W.alloc (.cells Try.zeroCells84 84) = w0 := ⟨_, rfl⟩
  obtain ⟨g, hg⟩ : ∃ g, W.heap.size = g := ⟨_, rfl⟩
  have H0 : Hid (LT w0 g 0 0 b) := Lib.hid ⟨fun _ => .int .i64 0, ⟨_, _, by rw [← hw0, ← hg]; exact heap_alloc_new _ _, by rw [zero_84]; simp, fun i hi => by rw [zero_84]; simp [hi]⟩, fun u v _ _ h => by omega⟩
  have HB0 : Hid (Below g W w0) := Lib.hid (by rw [← hw0]; exact (Below.refl _ W).alloc (by omega) _)
  rw [hw0]
  simp only [hg]
  have HG := Lib.hid hg
  clear hw0 hg
  go_loopw [6] (fun i wr => ∃ x : Nat, i = .int .i64 x ∧ x ≤ a + 1 ∧ Hid (LT wr g x 0 b) ∧ Hid (Below g W wr)) (fun i _ => a + 1 - (intOf i).toNat)
  case atStart => exact ⟨0, rfl, by omega, H0, HB0⟩
  case round =>
    clear H0 HB0
    obtain ⟨x, rfl, hx, ht, hbl⟩ := hrel
    by_cases hxa : x ≤ a
    · go_wp2_with fail
      go_loopw [7] (fun i wr => ∃ y : Nat, i = .int .i64 y ∧ y ≤ b + 1 ∧ Hid (LT wr g x y b) ∧ Hid (Below g W wr)) (fun i _ => b + 1 - (intOf i).toNat)
      case atStart => exact ⟨0, rfl, by omega, ht, hbl⟩
      case round =>
        clear ht hbl
        obtain ⟨y, rfl, hy, ht, hbl⟩ := hrel
        by_cases hyb : y ≤ b
        · go_wp2_with fail
          go_loopw [8, 9] (fun v j wr => ∃ (v' : Value) (i : Nat) (L : List Nat), v' = v ∧ j = .int .i64 i ∧ i ≤ x ∧ Hid (OwnN wr (g + 1) v' L) ∧ Hid (LD x y i 0 L) ∧ Hid (LT wr g x y b) ∧ Hid (Below g W wr)) (fun _ j _ => x - (intOf j).toNat)
          case atStart => exact ⟨_, 0, [], rfl, rfl, by omega, Lib.hid (OwnN.nil _ _), Lib.hid (LD.nil x y), ht, hbl⟩
          case round =>
            clear ht hbl
            obtain ⟨v, i, L, hv, rfl, hix, ho, hd, ht, hbl⟩ := hrel
            subst hv
            by_cases hi2 : i < x
            · go_wp2_with fail
              go_loopw [8, 10] (fun v j wr => ∃ (v' : Value) (k : Nat) (L : List Nat), v' = v ∧ j = .int .i64 k ∧ k ≤ y ∧ Hid (OwnN wr (g + 1) v' L) ∧ Hid (LD x y i k L) ∧ Hid (LT wr g x y b) ∧ Hid (Below g W wr)) (fun _ j _ => y - (intOf j).toNat)
              case atStart => exact ⟨_, 0, L, rfl, rfl, by omega, ho, hd, ht, hbl⟩
              case round =>
                clear ho hd ht hbl
                obtain ⟨v, k, L, hv, rfl, hky, ho, hd, ht, hbl⟩ := hrel
                subst hv
                by_cases hk2 : k < y
                · have c1 := ht.out.cell i y (by omega) (by omega) (by omega)
                  have c2 := ht.out.cell x k (by omega) (by omega) (by omega)
                  have c3 := ht.out.cell i k (by omega) (by omega) (by omega)
                  have l1 := field4.lt i y (by omega) (by omega)
                  have l2 := field4.lt x k (by omega) (by omega)
                  have l3 := field4.lt i k (by omega) (by omega)
                  have hdn := Lib.hid (hd.out.next hk2)
                  have hln := hd.out.len (by omega) (by omega) hky
                  have X1 := xor_nat (nm 4 i y) (nm 4 x k) (by omega) (by omega)
                  have X2 := xor_nat (nm 4 i y ^^^ nm 4 x k) (nm 4 i k) (Nat.lt_of_lt_of_le (Nat.xor_lt_two_pow l1 l2) (by decide)) (by omega)
                  generalize nm 4 i y = p1 at *
                  generalize nm 4 x k = p2 at *
                  generalize nm 4 i k = p3 at *
                  obtain ⟨z, hz⟩ : ∃ z, p1 ^^^ p2 ^^^ p3 = z := ⟨_, rfl⟩
                  rw [hz] at X2 hdn
                  obtain ⟨wd, hwd⟩ : ∃ wd, wr.drew = wd := ⟨_, rfl⟩
                  have d1 : wd.cell? ⟨g, i * 16 + y, none⟩ = some (.int .i64 p1) := by rw [← hwd]; exact c1
                  have d2 : wd.cell? ⟨g, x * 16 + k, none⟩ = some (.int .i64 p2) := by rw [← hwd]; exact c2
                  have d3 : wd.cell? ⟨g, i * 16 + k, none⟩ = some (.int .i64 p3) := by rw [← hwd]; exact c3
                  have hod : Hid (OwnN wd (g + 1) v L) := Lib.hid (by rw [← hwd]; exact ho.out)
                  have htd : Hid (LT wd g x y b) := Lib.hid (by rw [← hwd]; exact ht.out.keep rfl)
                  have hbd : Hid (Below g W wd) := Lib.hid (by rw [← hwd]; exact hbl.out.drew)
                  have hgd := htd.out.lt
                  have hlg := Lib.hid hln
                  clear hz c1 c2 c3 l1 l2 l3 hd ho ht hbl hln
                  have q1 : (i : Int) < 16 := by omega
                  have q2 : (x : Int) < 16 := by omega
                  have q3 : (k : Int) < 16 := by omega
                  have q4 : (y : Int) < 16 := by omega
                  rw [← hwd] at d1 d2 d3 hod htd hbd hgd
                  replace hgd : g < wr.heap.size := hgd
                  clear hwd
                  go_wp2_with fail
                  go_region_law (refine step_append_lies _ rfl _ _ 22 rfl (g + 1) 3 i0 (.int .i64 0) 1 8 Try.underlying22 hi hz0 hz1 hz2 rfl (by decide) v L.length (L.map nv) rfl (by have := hod.out; unfold OwnN at this; exact this.alloc _) ⟨wr.heap.size, 0, none⟩ 1 1 [nv z] rfl rfl (cell_one_new _ _ _) (fun y hy => by simp at hy; subst hy; rfl) (by decide) (by have := hlg.out; unfold maxLen; omega) (by have := hlg.out; omega) (by simp; omega) _ rfl ?_; intro g' cap w4 hw1 hw2 hw3 hw4)
                  all_goals
                    have P : Pushed wr.drew w4 (g + 1) v (.slice (some ⟨g', 0, none⟩) (L.length + 1) cap) L z := pushed hw1 hw2 (hw3.imp (fun h => by rw [h]; rfl) (fun h => by rw [h]; rfl))
                    have hne : ∀ e, v.ownBlock = some e → g + 1 ≤ e := fun e h => (hod.out.block_lt h).2
                    clear hw1 hw2 hw3 hw4 d1 d2 d3 X1 X2 q1 q2 q3 q4
                    go_wp2_with fail
                    go_roundw
                    case rel => exact ⟨_, k + 1, L ++ [z], rfl, by go_num, by omega, Lib.hid P.own, hdn, Lib.hid (htd.out.keep (P.block _ hgd (fun e => by have := hne _ e; omega))), Lib.hid (hbd.out.trans (P.below (fun e h => by have := hne e h; omega) (Nat.le_of_lt hgd)))⟩
                    case measure => simp [intOf]; omega
                · have hd2 : Hid (LD x y (i + 1) 0 L) := Lib.hid (by
                    obtain rfl : k = y := by omega
                    exact hd.out.row)
                  clear hd
                  go_wp2_with fail
                  go_roundw
                  case rel => exact ⟨v, i + 1, L, rfl, by go_num, by omega, ho, hd2, ht, hbl⟩
                  case measure => simp [intOf]; omega
            · have hd2 : Hid (LD x y x 0 L) := Lib.hid (by
                obtain rfl : i = x := by omega
                exact hd.out)
              obtain ⟨wd, hwd⟩ : ∃ wd, wr.drew = wd := ⟨_, rfl⟩
              have hod : OwnN wd (g + 1) v L := by rw [← hwd]; exact ho.out
              obtain ⟨p, c, rfl, _⟩ := hod.slice
              have MS := Lib.hid (missing_is x y L p c wd (by omega) (by omega) hod.ns hd2.out)
              have htd : Hid (LT wd g x y b) := Lib.hid (by rw [← hwd]; exact ht.out.keep rfl)
              have hbd : Hid (Below g W wd) := Lib.hid (by rw [← hwd]; exact hbl.out.drew)
              have hf := htd.out.frozen (x * 16 + y)
              obtain ⟨q, hq⟩ : ∃ q, L.length = q := ⟨_, rfl⟩
              rw [hq] at MS
              have HST := Lib.hid (htd.out.set (by omega) (by omega))
              generalize nm 4 x y = z at MS HST
              obtain ⟨old, hold⟩ : ∃ old, wd.cell? ⟨g, x * 16 + y, none⟩ = some old := by
                obtain ⟨f, hf, _⟩ := htd.out
                exact ⟨_, hf.cell (by omega)⟩
              have HGL := Lib.hid htd.out.lt
              clear hd hod ho ht hbl hd2
              rw [hq]
              clear hq
              go_wp2_with fail
              refine wp_region_still_tail 6 (by kernel_rfl) (by kernel_rfl) ?_
              change wpStill _ _ wr.drew _ _ _
              rw [hwd]
              have HWD := Lib.hid hwd
              clear hwd
              simp only [List.take_succ_cons, List.take_zero, List.drop_succ_cons, List.drop_zero]
              have q2 : (x : Int) < 16 := by omega
              have q4 : (y : Int) < 16 := by omega
              repeat (first | still_step | still_call MS.out)
              try refine wpStill_nil ?_
              change wpList _ _ _ _ _ wr.drew
              rw [HWD.out]
              go_wp2_with fail
              refine ⟨⟨y + 1, by go_num, by omega, Lib.hid HST.out, Lib.hid (hbd.out.setCell (by simp) _)⟩, ?_⟩
              simp only [intOf]; omega
        · have ht2 : Hid (LT wr g (x + 1) 0 b) := Lib.hid (by
            obtain rfl : y = b + 1 := by omega
            exact ht.out.row)
          clear ht
          go_wp2_with fail
          go_roundw
          case rel => exact ⟨x + 1, by go_num, by omega, ht2, hbl⟩
          case measure => simp [intOf]; omega
    · have hc := ht.out.cell a b ha hb (by omega)
      clear ht
      go_wp2_with fail
      go_ret
      exact ⟨rfl, by rw [HG.out]; exact hbl.out⟩
end Go.Proofs.Ytodnfchkkgoabaa
