/- WALK of the iterator over moves. -/
import Derived.Test.YtodnfchkkgoabaaHRngRgo
import Derived.Test.YtodnfchkkgoabaaHMvMxP
import Derived.RangeFuncBound
import Derived.RangeFuncCalls
import Derived.Shelf.Abstract
import Derived.Shelf.RegionOpen
import Derived.OwnWalkIn
import Derived.TacticsInMore
import Derived.LoopNIn
import Derived.LoopIn
import Derived.Outline
set_option linter.unusedVariables false
namespace Go.Proofs.Ytodnfchkkgoabaa
open Go.RowKit Go.Shelf
attribute [local go_sem] Oper.semAt_some

theorem and1 (d : Nat) (h : d < 8) : bits .and .i64 (d : Int) 1 = if d % 2 = 1 then 1 else 0 := by
  have : ∀ d : Fin 8, bits .and .i64 (d.val : Int) 1 = if d.val % 2 = 1 then 1 else 0 := by decide
  exact this ⟨d, h⟩
theorem and2 (d : Nat) (h : d < 8) : bits .and .i64 (d : Int) 2 = if d / 2 % 2 = 1 then 2 else 0 := by
  have : ∀ d : Fin 8, bits .and .i64 (d.val : Int) 2 = if d.val / 2 % 2 = 1 then 2 else 0 := by decide
  exact this ⟨d, h⟩
theorem and4 (d : Nat) (h : d < 8) : bits .and .i64 (d : Int) 4 = if d / 4 % 2 = 1 then 4 else 0 := by
  have : ∀ d : Fin 8, bits .and .i64 (d.val : Int) 4 = if d.val / 4 % 2 = 1 then 4 else 0 := by decide
  exact this ⟨d, h⟩

/-- What the iterator reads: the digits, and the heap. -/
structure Mvd (b1 b2 g m cap n : Nat) (ds : List Nat) (X : World) : Prop where
  len : ds.length = m
  code : X.cell? ⟨b1, 0, none⟩ = some (.slice (some ⟨g, 0, none⟩) m cap)
  heap : X.cell? ⟨b2, 0, none⟩ = some (.int .i64 n)
  digit : ∀ i, i < m → X.cell? ⟨g, i, none⟩ = some (.int .i64 (ds.getD i 0 : Nat))

def encM (L : List (Nat × Nat)) (k : Nat) : Array Value := #[.int .i64 ((L.getD k (0, 0)).1 : Nat), .int .i64 ((L.getD k (0, 0)).2 : Nat)]

set_option maxHeartbeats 1000000 in
theorem moves1_iter (fn : Nat) (b1 b2 g m cap n : Nat) (ds : List Nat) (W : World) (hm : m ≤ 100) (hn : n ≤ 100000) (hds : ∀ d ∈ ds, d < 8) :
    Iter fn Try.prog 75 #[.pointer (some ⟨b1, 0, none⟩), .pointer (some ⟨b2, 0, none⟩)] (encM (mvs n 0 ds)) 0 100000000 (fun k => k < (mvs n 0 ds).length) (fun k => k = (mvs n 0 ds).length) (Mvd b1 b2 g m cap n ds) W := by
  intro l N J Jx hNM hJ hJx hN hQ hY h0
  refine callsIn_of_wp Try.func75 rfl trivial ?_ rfl
  simp only [Try.ntmps75, List.size_toArray, List.length_cons, List.length_nil, Nat.reduceAdd, Nat.reduceSub, Array.replicate_succ, Array.replicate_zero, List.push_toArray, List.append_toArray, List.nil_append, List.cons_append]
  obtain ⟨L, hL⟩ : ∃ L, mvs n 0 ds = L := ⟨_, rfl⟩
  rw [hL] at hY ⊢
  have HL := Lib.hid hL
  clear hL
  have hq := hQ 0 W h0
  have HQ := Lib.hid hQ
  clear hQ
  have hc1 := hq.code
  gi_wp2
  gi_loopw [10] (fun p wr => ∃ i k : Nat, p = .int .i64 i ∧ i ≤ m ∧ J k wr ∧ k ≤ L.length ∧ Hid (L.drop k = mvs n i (ds.drop i)) ∧ W.heap.size ≤ wr.heap.size) (fun p _ => m - (intOf p).toNat)
  case atStart => exact ⟨0, 0, rfl, by omega, h0, by omega, by rw [List.drop_zero, List.drop_zero]; exact Lib.hid HL.out.symm, by omega⟩
  case round =>
    clear hc1 hq h0
    obtain ⟨i, k, rfl, hi, hj, hk, hd, hs⟩ := hrel
    have q := HQ.out k wr hj
    by_cases hlt : i < m
    · have hlen := Lib.hid q.len
      have hcd := q.digit i hlt
      have hch := q.heap
      have hdl : ds.getD i 0 < 8 := by
        have h1 : i < ds.length := by rw [hlen.out]; exact hlt
        rw [List.getD_eq_getElem?_getD, List.getElem?_eq_getElem h1]; exact hds _ (List.getElem_mem h1)
      have hd := Lib.hid (hd.out.trans (mvs_at n i ds (by rw [hlen.out]; exact hlt)))
      clear q
      generalize ds.getD i 0 = d at *
      have a1 := and1 d hdl
      have a2 := and2 d hdl
      have a4 := and4 d hdl
      by_cases hgt : i + 1 < n
      · have hr : (n : Int) - ((i : Int) + 1) = ((n - (i + 1) : Nat) : Int) := by omega
        obtain ⟨r, hr'⟩ : ∃ r, n - (i + 1) = r := ⟨_, rfl⟩
        rw [hr'] at hr
        have hr1 : 1 ≤ r ∧ r ≤ 100000 := by omega
        obtain ⟨hr1, hr2⟩ := hr1
        have hb0 : ((r : Int) == 0) = false := by rw [beq_eq_false_iff_ne]; omega
        by_cases hk2 : d / 2 % 2 = 1
        · rw [mv1_keep hgt hk2, hr'] at hd
          rw [if_pos hk2] at a2
          clear hr'
          have hk2' := Lib.hid hk2
          clear hk2
          have hd1 := hd.out
          rw [List.cons_append] at hd1
          obtain ⟨d1, d2, d3⟩ := drop_at (0, 0) hd1
          have hd := Lib.hid d3
          obtain ⟨fn', tmps, assign, body, hy, hR⟩ := hY k wr d1 hj (by omega)
          have ey : encM L k = #[.int .i64 0, .int .i64 r] := by unfold encM; rw [d2]; simp
          rw [ey] at hy
          clear ey d2 d3 hd1
          by_cases hk1 : d % 2 = 1
          all_goals
            first | rw [if_pos hk1] at a1 | rw [if_neg hk1] at a1
            clear hk1
            gi_wp2
            refine ⟨fun _ h => (by cases h), ?_⟩
            gi_wp2
            refine ⟨fun h => (by simp [Fence.wide] at h), hR.mono ?_⟩
            clear hy hR
            rintro e W1 ⟨⟨rfl, hJ1⟩ | ⟨rfl, hx⟩, hk1⟩
            · have s1 : W.heap.size ≤ W1.heap.size := by have := hk1.size; omega
              clear hj hs hch hcd
              gi_wp2
              gi_loopw [7] (fun p wr => ∃ j k' : Nat, p = .int .i64 (j + 1 : Nat) ∧ j ≤ r ∧ J k' wr ∧ k' ≤ L.length ∧ Hid (L.drop k' = (if d / 4 % 2 = 1 then (parts r).drop j else []) ++ mvs n (i + 1) (ds.drop (i + 1))) ∧ W.heap.size ≤ wr.heap.size) (fun p _ => r + 5 - (intOf p).toNat)
              case atStart => exact ⟨0, _, rfl, by omega, hJ1, (show k + 1 ≤ L.length by omega), Lib.hid (by rw [List.drop_zero]; exact hd.out), (show W.heap.size ≤ W1.heap.size by omega)⟩
              case round =>
                clear hd hJ1 hk1 s1
                obtain ⟨j, k', rfl, hjr, hj', hk', hd', hs'⟩ := hrel
                have ej : (((j + 1 : Nat) : Int)) = (j : Int) + 1 := by omega
                rw [ej]
                clear ej
                by_cases h4 : d / 4 % 2 = 1
                · rw [if_pos h4] at a4
                  by_cases h2 : 2 * (j + 1) ≤ r
                  · have hd2 := hd'.out
                    rw [if_pos h4, parts_drop r j (by omega)] at hd2
                    obtain ⟨d1, d2, d3⟩ := drop_at (0, 0) hd2
                    have D3 : Hid (L.drop (k' + 1) = (if d / 4 % 2 = 1 then (parts r).drop (j + 1) else []) ++ mvs n (i + 1) (ds.drop (i + 1))) := Lib.hid (by rw [if_pos h4]; exact d3)
                    clear hd2 d3 hd'
                    obtain ⟨fn', tmps, assign, body, hy, hR⟩ := hY k' _ d1 hj' (by omega)
                    have ey : encM L k' = #[.int .i64 ((j : Int) + 1), .int .i64 ((r : Int) - ((j : Int) + 1))] := by
                      unfold encM; rw [d2]; simp; omega
                    rw [ey] at hy
                    clear ey d2
                    have h4' := Lib.hid h4
                    clear h4
                    gi_wp2
                    refine ⟨fun h => (by simp [Fence.wide] at h), hR.mono ?_⟩
                    clear hy hR
                    rintro e W3 ⟨⟨rfl, hJ3⟩ | ⟨rfl, hx⟩, hk3⟩
                    · have s3 := hk3.size
                      gi_wp2
                      refine ⟨⟨j + 1, k' + 1, by go_num, by omega, hJ3, by omega, D3, by omega⟩, ?_⟩
                      simp only [intOf]; omega
                    · gi_wp2
                      refine bodyPost_ret (results_none rfl _ _ _) rfl ?_
                      exact ⟨⟨_, rfl⟩, .inr ⟨_, hx⟩⟩
                  · have hd2 := hd'.out
                    rw [if_pos h4, parts_end r j (by omega), List.nil_append] at hd2
                    have D3 := Lib.hid hd2
                    clear hd2 hd'
                    have h4' := Lib.hid h4
                    clear h4
                    gi_wp2
                    refine ⟨⟨i + 1, k', by go_num, by omega, hj', hk', D3, hs'⟩, ?_⟩
                    simp only [intOf]; omega
                · rw [if_neg h4] at a4
                  have hd2 := hd'.out
                  rw [if_neg h4, List.nil_append] at hd2
                  have D3 := Lib.hid hd2
                  clear hd2 hd'
                  gi_wp2
                  refine ⟨⟨i + 1, k', by go_num, by omega, hj', hk', D3, hs'⟩, ?_⟩
                  simp only [intOf]; omega
            · gi_wp2
              refine bodyPost_ret (results_none rfl _ _ _) rfl ?_
              exact ⟨⟨_, rfl⟩, .inr ⟨_, hx⟩⟩
        · rw [mv1_part hgt hk2, hr'] at hd
          rw [if_neg hk2] at a2
          clear hr'
          have hk2' := Lib.hid hk2
          clear hk2
          by_cases hk1 : d % 2 = 1
          all_goals
            first | rw [if_pos hk1] at a1 | rw [if_neg hk1] at a1
            clear hk1
            gi_wp2
            refine ⟨fun _ h => (by cases h), ?_⟩
            gi_wp2
            refine ⟨fun _ h => (by cases h), ?_⟩
            gi_wp2
            gi_loopw [7] (fun p wr => ∃ j k' : Nat, p = .int .i64 (j + 1 : Nat) ∧ j ≤ r ∧ J k' wr ∧ k' ≤ L.length ∧ Hid (L.drop k' = (if d / 4 % 2 = 1 then (parts r).drop j else []) ++ mvs n (i + 1) (ds.drop (i + 1))) ∧ W.heap.size ≤ wr.heap.size) (fun p _ => r + 5 - (intOf p).toNat)
            case atStart => exact ⟨0, _, rfl, by omega, hj, hk, Lib.hid (by rw [List.drop_zero]; exact hd.out), hs⟩
            case round =>
              clear hd hj hs
              obtain ⟨j, k', rfl, hjr, hj', hk', hd', hs'⟩ := hrel
              have ej : (((j + 1 : Nat) : Int)) = (j : Int) + 1 := by omega
              rw [ej]
              clear ej
              by_cases h4 : d / 4 % 2 = 1
              · rw [if_pos h4] at a4
                by_cases h2 : 2 * (j + 1) ≤ r
                · have hd2 := hd'.out
                  rw [if_pos h4, parts_drop r j (by omega)] at hd2
                  obtain ⟨d1, d2, d3⟩ := drop_at (0, 0) hd2
                  have D3 : Hid (L.drop (k' + 1) = (if d / 4 % 2 = 1 then (parts r).drop (j + 1) else []) ++ mvs n (i + 1) (ds.drop (i + 1))) := Lib.hid (by rw [if_pos h4]; exact d3)
                  clear hd2 d3 hd'
                  obtain ⟨fn', tmps, assign, body, hy, hR⟩ := hY k' _ d1 hj' (by omega)
                  have ey : encM L k' = #[.int .i64 ((j : Int) + 1), .int .i64 ((r : Int) - ((j : Int) + 1))] := by
                    unfold encM; rw [d2]; simp; omega
                  rw [ey] at hy
                  clear ey d2
                  have h4' := Lib.hid h4
                  clear h4
                  gi_wp2
                  refine ⟨fun h => (by simp [Fence.wide] at h), hR.mono ?_⟩
                  clear hy hR
                  rintro e W3 ⟨⟨rfl, hJ3⟩ | ⟨rfl, hx⟩, hk3⟩
                  · have s3 := hk3.size
                    gi_wp2
                    refine ⟨⟨j + 1, k' + 1, by go_num, by omega, hJ3, by omega, D3, by omega⟩, ?_⟩
                    simp only [intOf]; omega
                  · gi_wp2
                    refine bodyPost_ret (results_none rfl _ _ _) rfl ?_
                    exact ⟨⟨_, rfl⟩, .inr ⟨_, hx⟩⟩
                · have hd2 := hd'.out
                  rw [if_pos h4, parts_end r j (by omega), List.nil_append] at hd2
                  have D3 := Lib.hid hd2
                  clear hd2 hd'
                  have h4' := Lib.hid h4
                  clear h4
                  gi_wp2
                  refine ⟨⟨i + 1, k', by go_num, by omega, hj', hk', D3, hs'⟩, ?_⟩
                  simp only [intOf]; omega
              · rw [if_neg h4] at a4
                have hd2 := hd'.out
                rw [if_neg h4, List.nil_append] at hd2
                have D3 := Lib.hid hd2
                clear hd2 hd'
                gi_wp2
                refine ⟨⟨i + 1, k', by go_num, by omega, hj', hk', D3, hs'⟩, ?_⟩
                simp only [intOf]; omega
      · obtain ⟨ρ, hr⟩ : ∃ ρ, (n : Int) - ((i : Int) + 1) = ρ := ⟨_, rfl⟩
        have hρ : ρ ≤ 0 := by omega
        by_cases htake : d % 2 = 1 ∧ n = i + 1
        · rw [mv1_take htake.1 htake.2] at hd
          obtain rfl : ρ = 0 := by omega
          rw [if_pos htake.1] at a1
          clear htake
          have hd1 := hd.out
          rw [List.singleton_append] at hd1
          obtain ⟨d1, d2, d3⟩ := drop_at (0, 0) hd1
          have D3 := Lib.hid d3
          obtain ⟨fn', tmps, assign, body, hy, hR⟩ := hY k wr d1 hj (by omega)
          have ey : encM L k = #[.int .i64 0, .int .i64 0] := by unfold encM; rw [d2]; simp
          rw [ey] at hy
          clear ey d2 d3 hd1
          by_cases hk2 : d / 2 % 2 = 1
          all_goals
            first | rw [if_pos hk2] at a2 | rw [if_neg hk2] at a2
            clear hk2
            gi_wp2
            refine ⟨fun h => (by simp [Fence.wide] at h), hR.mono ?_⟩
            clear hy hR
            rintro e W1 ⟨⟨rfl, hJ1⟩ | ⟨rfl, hx⟩, hk1⟩
            · have s1 : W.heap.size ≤ W1.heap.size := by have := hk1.size; omega
              clear hj hs hch hcd
              gi_wp2
              refine ⟨fun _ h => (by cases h), ?_⟩
              gi_wp2
              gi_loopw [7] (fun p wr => p = .int .i64 1 ∧ J (k + 1) wr ∧ W.heap.size ≤ wr.heap.size) (fun _ _ => 0)
              case atStart => exact ⟨rfl, hJ1, by omega⟩
              case round =>
                clear hJ1 hk1 s1
                obtain ⟨rfl, hj', hs'⟩ := hrel
                by_cases hk4 : d / 4 % 2 = 1
                all_goals
                  first | rw [if_pos hk4] at a4 | rw [if_neg hk4] at a4
                  clear hk4
                  gi_wp2
                  refine ⟨⟨i + 1, k + 1, by go_num, by omega, hj', by omega, D3, hs'⟩, ?_⟩
                  simp only [intOf]; omega
            · gi_wp2
              refine bodyPost_ret (results_none rfl _ _ _) rfl ?_
              exact ⟨⟨_, rfl⟩, .inr ⟨_, hx⟩⟩
        · rw [mv1_none hgt htake, List.nil_append] at hd
          have D3 := Lib.hid hd.out
          clear hd
          by_cases hz : n = i + 1
          · have hk1 : ¬ d % 2 = 1 := fun h => htake ⟨h, hz⟩
            rw [if_neg hk1] at a1
            obtain rfl : ρ = 0 := by omega
            clear hk1 hz htake
            by_cases hk2 : d / 2 % 2 = 1
            all_goals
              first | rw [if_pos hk2] at a2 | rw [if_neg hk2] at a2
              clear hk2
              gi_wp2
              refine ⟨fun _ h => (by cases h), ?_⟩
              gi_wp2
              refine ⟨fun _ h => (by cases h), ?_⟩
              gi_wp2
              gi_loopw [7] (fun p wr => p = .int .i64 1 ∧ J k wr ∧ W.heap.size ≤ wr.heap.size) (fun _ _ => 0)
              case atStart => exact ⟨rfl, hj, by omega⟩
              case round =>
                clear hj hs
                obtain ⟨rfl, hj', hs'⟩ := hrel
                by_cases hk4 : d / 4 % 2 = 1
                all_goals
                  first | rw [if_pos hk4] at a4 | rw [if_neg hk4] at a4
                  clear hk4
                  gi_wp2
                  refine ⟨⟨i + 1, k, by go_num, by omega, hj', by omega, D3, hs'⟩, ?_⟩
                  simp only [intOf]; omega
          · have hb0 : (ρ == 0) = false := by rw [beq_eq_false_iff_ne]; omega
            clear hz htake
            by_cases hk1 : d % 2 = 1
            all_goals
              first | rw [if_pos hk1] at a1 | rw [if_neg hk1] at a1
              clear hk1
              by_cases hk2 : d / 2 % 2 = 1
              all_goals
                first | rw [if_pos hk2] at a2 | rw [if_neg hk2] at a2
                clear hk2
                gi_wp2
                refine ⟨fun _ h => (by cases h), ?_⟩
                gi_wp2
                refine ⟨fun _ h => (by cases h), ?_⟩
                gi_wp2
                gi_loopw [7] (fun p wr => p = .int .i64 1 ∧ J k wr ∧ W.heap.size ≤ wr.heap.size) (fun _ _ => 0)
                case atStart => exact ⟨rfl, hj, by omega⟩
                case round =>
                  clear hj hs
                  obtain ⟨rfl, hj', hs'⟩ := hrel
                  by_cases hk4 : d / 4 % 2 = 1
                  all_goals
                    first | rw [if_pos hk4] at a4 | rw [if_neg hk4] at a4
                    clear hk4
                    gi_wp2
                    refine ⟨⟨i + 1, k, by go_num, by omega, hj', by omega, D3, hs'⟩, ?_⟩
                    simp only [intOf]; omega
    · have hke : k = L.length := drop_end (by rw [hd.out, mvs_end _ _ _ (by rw [q.len]; omega)]) hk
      have HK := Lib.hid hke
      clear q hke
      gi_wp2
      go_end0
      exact ⟨⟨_, rfl⟩, .inl ⟨_, HK.out, hj⟩⟩
end Go.Proofs.Ytodnfchkkgoabaa
