/- WALK of slices.Sort at int64: a row is put in order. -/
import Derived.Test.YtamhlkjfpdkhoaaGreatDoorRange
import Derived.Test.YtamhlkjfpdkhoaaGreatDoorPure
import Derived.Test.YtamhlkjfpdkhoaaGreatDoorShelf
import Derived.Sort.OwnSortedInts
namespace Go.Proofs.YtamhlkjfpdkhoaaGreatDoor
open Go.RowKit Go.Sort

abbrev enc (d : Nat) : Value := .int .i64 (d : Int)

theorem Sort_any (S g cap : Nat) (ds : List Nat) (n : Nat) (w : World) (hown : w.ownsRow S 2 1 (.slice (some ⟨g, 0, none⟩) n cap) n (ds.map enc)) (hsz : n < 4611686018427387904) :
    Calls Tryz.prog 141 #[.slice (some ⟨g, 0, none⟩) n cap] w fun e w' => e = .returned (.tuple #[]) ∧ ∃ ds' : List Nat, ds'.Perm ds ∧ ds'.Pairwise (· ≤ ·) ∧ w'.ownsRow S 2 1 (.slice (some ⟨g, 0, none⟩) n cap) n (ds'.map enc) ∧ Aside g 1 w w' := by
  rcases hown.2 with ⟨h0, _⟩ | ⟨g', cap', cur, h0, hb, hg, hnc, hcm, hcs, ht⟩
  · simp at h0
  simp only [Value.slice.injEq, Option.some.injEq, Addr.mk.injEq, and_true, true_and] at h0
  obtain ⟨rfl, rfl⟩ := h0
  have hlen : ds.length = n := by have := hown.1; simpa using this
  subst hlen
  obtain ⟨zs, hzs⟩ : ∃ zs : List Int, zs = ds.map fun (d : Nat) => (d : Int) := ⟨_, rfl⟩
  have hzl : zs.length = ds.length := by rw [hzs]; simp
  have hzm : zs.map (Value.int .i64) = ds.map enc := by rw [hzs]; simp [enc]
  have hH := holds_of_blockI (ss := zs) hg (by rw [hzl, hzm, ← ht, Nat.mul_one])
  have hlt := (Array.getElem?_eq_some_iff.1 hg).1
  have hc := Tryz.slices_Sort_int g 0 cap zs w hH hlt (by omega)
  rw [hzl] at hc
  refine hc.mono ?_
  rintro e w' ⟨rfl, q, os, rfl⟩
  obtain ⟨ys, hys⟩ : ∃ ys, zs.mergeSort (fun x y => decide (x ≤ y)) = ys := ⟨_, rfl⟩
  have hperm : ys.Perm zs := by rw [← hys]; exact List.mergeSort_perm _ _
  have hsort : ys.Pairwise (fun x y => decide (x ≤ y) = true) := by
    rw [← hys]
    exact List.pairwise_mergeSort (fun a b c h1 h2 => by simp at *; omega) (fun a b => by simp; omega) zs
  rw [hys]
  have hnn : ∀ y ∈ ys, 0 ≤ y := fun y hy => by
    have := hperm.mem_iff.1 hy
    rw [hzs, List.mem_map] at this
    obtain ⟨d, _, rfl⟩ := this
    omega
  have hback : (ys.map Int.toNat).map enc = ys.map (Value.int .i64) := by
    rw [List.map_map]
    refine List.map_congr_left fun y hy => ?_
    have := hnn y hy
    simp only [Function.comp, enc]
    rw [Int.toNat_of_nonneg this]
  refine ⟨rfl, ys.map Int.toNat, ?_, ?_, ?_, ?_⟩
  · have h1 := hperm.map Int.toNat
    have e : (ds.map fun (d : Nat) => (d : Int)).map Int.toNat = ds := by
      rw [List.map_map]
      conv => rhs; rw [← List.map_id ds]
      exact List.map_congr_left fun d _ => by simp
    rw [hzs, e] at h1
    exact h1
  · rw [List.pairwise_map]
    refine hsort.imp_of_mem fun {a b} ha hb h => ?_
    have := hnn a ha; have := hnn b hb
    simp at h; omega
  · rw [hback]
    have := ownsRow_sortedI (w := w) (base := S) (g := g) (cap := cap) (n := q) (os := os) (ss := zs) (ts := ys) hperm.length_eq hb hg (by omega) hcm hcs
    rw [hzl] at this
    exact this
  · have hgr := grownBy_sortedI (w := w) (g := g) (n := q) (os := os) ys.toArray
    exact ⟨hgr.os, hgr.tape, hgr.output, hgr.size, fun k hk hr => hgr.block k hk (fun e => by cases e; omega)⟩
end Go.Proofs.YtamhlkjfpdkhoaaGreatDoor
