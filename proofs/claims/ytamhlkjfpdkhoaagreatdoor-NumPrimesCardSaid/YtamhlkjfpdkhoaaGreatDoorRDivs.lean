/- WALK of the reference's Divisors. -/
import Derived.Test.YtamhlkjfpdkhoaaGreatDoorArith
import Derived.Test.YtamhlkjfpdkhoaaGreatDoorRefF
import Derived.Maps.AppendAt
import Derived.Laws.AppendOwnNone
import Derived.Deep.DeepFit
import Derived.Outline
namespace Go.Proofs.YtamhlkjfpdkhoaaGreatDoor
open Go.RowKit

theorem infoI64 : (Tryz.prog.info? 2).map (fun i => (i.zero, i.size, i.bytes)) = some (some (.int .i64 0), 1, 8) := by kernel_rfl

/-- A row of numbers of the call's own. -/
def Nums (w : World) (B : Nat) (v : Value) (l : List Nat) : Prop := w.ownsRow B 2 1 v l.length (l.map fun (d : Nat) => Value.int .i64 (d : Int))

/-- Two rows in different blocks. -/
def Apart (u v : Value) : Prop := ∀ g, u.ownBlock = some g → v.ownBlock ≠ some g

theorem Apart.symm {u v : Value} (h : Apart u v) : Apart v u := fun g h1 h2 => h g h2 h1

theorem Nums.kept {w w' : World} {B : Nat} {v u : Value} {l : List Nat} (h : Nums w B v l) (hg : w.grownBy w' u.ownBlock) (ha : Apart v u) : Nums w' B v l :=
  World.ownsRow.kept h hg (by
    cases hv : v.ownBlock with
    | none => exact .inl rfl
    | some g => exact .inr fun e => ha g hv e.symm)

theorem Nums.alloc {w : World} {B : Nat} {v : Value} {l : List Nat} (h : Nums w B v l) (o : Obj) : Nums (w.alloc o) B v l := World.ownsRow.alloc h o

theorem Nums.lt {w : World} {B : Nat} {v : Value} {l : List Nat} (h : Nums w B v l) {g : Nat} (hg : v.ownBlock = some g) : B ≤ g ∧ g < w.heap.size := World.ownsRow.lt h g hg

theorem Nums.form {w : World} {B : Nat} {v : Value} {l : List Nat} (h : Nums w B v l) : (v = .slice none 0 0 ∧ l = []) ∨ ∃ g c, v = .slice (some ⟨g, 0, none⟩) l.length c := by
  rcases h.2 with ⟨h0, h1⟩ | ⟨g, cap, cur, h0, _⟩
  · exact .inl ⟨h0, List.eq_nil_of_length_eq_zero h1⟩
  · exact .inr ⟨g, cap, h0⟩

theorem Nums.slice {w : World} {B : Nat} {v : Value} {l : List Nat} (h : Nums w B v l) : ∃ p c, v = .slice p l.length c := by
  rcases h.form with ⟨h0, h1⟩ | ⟨g, c, h0⟩
  · exact ⟨none, 0, by rw [h0, h1]; rfl⟩
  · exact ⟨_, c, h0⟩

theorem nums_nil (w : World) (B : Nat) : Nums w B (.slice none 0 0) [] := ⟨rfl, .inl ⟨rfl, rfl⟩⟩

theorem nums_one {l : List Nat} : ∀ u ∈ (l.map fun (d : Nat) => Value.int .i64 (d : Int)), u.oneCell' = true := by
  intro u hu
  rw [List.mem_map] at hu
  obtain ⟨d, _, rfl⟩ := hu
  rfl

theorem Nums.snoc {w : World} {B : Nat} {v : Value} {l : List Nat} {x : Nat} (h : w.ownsRow B 2 1 v (l.length + 1) ((l.map fun (d : Nat) => Value.int .i64 (d : Int)) ++ [.int .i64 (x : Int)])) : Nums w B v (l ++ [x]) := by
  unfold Nums; rw [List.length_append, List.map_append]; exact h

theorem Nums.join {w : World} {B : Nat} {v : Value} {l m : List Nat} (h : w.ownsRow B 2 1 v (l.length + m.length) ((l.map fun (d : Nat) => Value.int .i64 (d : Int)) ++ (m.map fun (d : Nat) => Value.int .i64 (d : Int)))) : Nums w B v (l ++ m) := by
  unfold Nums; rw [List.length_append, List.map_append]; exact h

/-- One number more behind one of two rows. -/
theorem row_step {w wr w1 : World} {u v v1 : Value} {l m : List Nat} {x : Nat} {o : Obj} (hL : Nums wr w.heap.size u l) (hH : Nums wr w.heap.size v m) (hA : Apart u v) (hB : Below w.heap.size w wr)
    (hown : w1.ownsRow w.heap.size 2 1 v1 (l.length + 1) ((l.map fun (d : Nat) => Value.int .i64 (d : Int)) ++ [.int .i64 (x : Int)])) (hg : (wr.alloc o).grownBy w1 u.ownBlock)
    (hat : v1.ownBlock = u.ownBlock ∨ v1.ownBlock = some (wr.alloc o).heap.size) : Nums w1 w.heap.size v1 (l ++ [x]) ∧ Nums w1 w.heap.size v m ∧ Apart v1 v ∧ Below w.heap.size w w1 := by
  refine ⟨Nums.snoc hown, (hH.alloc o).kept hg hA.symm, fun g h1 h2 => ?_, ?_⟩
  · rcases hat with h | h
    · exact hA g (h ▸ h1) h2
    · have := (hH.lt h2).2
      rw [h] at h1
      simp at h1; omega
  · have := hB.size
    exact (hB.alloc this _).grown hg (by simp; omega) fun g h => (hL.lt h).1

/-- A new row of one number, beside two others. -/
theorem row_new {w w1 w2 : World} {u v v2 : Value} {l m : List Nat} {x : Nat} {o : Obj} (h : Nums w1 w.heap.size u l ∧ Nums w1 w.heap.size v m ∧ Apart u v ∧ Below w.heap.size w w1)
    (hown : w2.ownsRow w.heap.size 2 1 v2 (0 + 1) ([] ++ [.int .i64 (x : Int)])) (hg : (w1.alloc o).grownBy w2 (Value.slice none 0 0).ownBlock)
    (hat : v2.ownBlock = (Value.slice none 0 0).ownBlock ∨ v2.ownBlock = some (w1.alloc o).heap.size) :
    (Nums w2 w.heap.size v2 [x] ∧ Nums w2 w.heap.size u l ∧ Nums w2 w.heap.size v m ∧ Apart u v2 ∧ Below w.heap.size w w2) ∧ ∃ g c, v2 = .slice (some ⟨g, 0, none⟩) 1 c := by
  obtain ⟨h1, h2, h3, h4⟩ := h
  have hv : Nums w2 w.heap.size v2 [x] := hown
  have hsz := h4.size
  have na : ∀ y : Value, Apart y (.slice none 0 0) := fun y g _ hh => by simp [Value.ownBlock] at hh
  have hf : ∃ g c, v2 = .slice (some ⟨g, 0, none⟩) 1 c := by
    rcases hv.form with ⟨_, h⟩ | ⟨g, c, h⟩
    · simp at h
    · exact ⟨g, c, h⟩
  refine ⟨⟨hv, (h1.alloc o).kept hg (na u), (h2.alloc o).kept hg (na v), fun g k1 k2 => ?_, (h4.alloc hsz _).grown hg (by simp; omega) fun g hh => by simp [Value.ownBlock] at hh⟩, hf⟩
  obtain ⟨g2, c2, rfl⟩ := hf
  have := (h1.lt k1).2
  rcases hat with hh | hh
  · simp [Value.ownBlock] at hh
  · rw [hh] at k2; simp at k2; omega

/-- A row behind another one, beside a third. -/
theorem row_join {w w2 w3 : World} {u v v3 : Value} {l m k : List Nat} (hu : Nums w2 w.heap.size u l) (hv : Nums w2 w.heap.size v k) (hA : Apart v u) (hB : Below w.heap.size w w2)
    (hown : w3.ownsRow w.heap.size 2 1 v3 (l.length + m.length) ((l.map fun (d : Nat) => Value.int .i64 (d : Int)) ++ (m.map fun (d : Nat) => Value.int .i64 (d : Int)))) (hg : w2.grownBy w3 u.ownBlock)
    (hat : v3.ownBlock = u.ownBlock ∨ v3.ownBlock = some w2.heap.size) : Nums w3 w.heap.size v3 (l ++ m) ∧ Nums w3 w.heap.size v k ∧ Apart v v3 ∧ Below w.heap.size w w3 := by
  refine ⟨Nums.join hown, hv.kept hg hA, fun g h1 h2 => ?_, hB.grown hg hB.size fun g h => (hu.lt h).1⟩
  rcases hat with h | h
  · exact hA g h1 (h ▸ h2)
  · have := (hv.lt h1).2
    rw [h] at h2
    simp at h2; omega

theorem Nums.cells {w : World} {B g c n : Nat} {l : List Nat} (h : Nums w B (.slice (some ⟨g, 0, none⟩) n c) l) : ∀ j u, (l.map fun (d : Nat) => Value.int .i64 (d : Int))[j]? = some u → w.cell? ((⟨g, 0, none⟩ : Addr).add j) = some u := World.ownsRow.cells h rfl

set_option maxRecDepth 100000 in
set_option maxHeartbeats 2000000 in
theorem RDivisors_any (n : Nat) (w : World) (hn : 1 ≤ n) (hn2 : n ≤ 1000000000000) :
    Calls Tryz.prog 80 #[.int .i64 n] w fun e w' => ∃ l v, e = .returned v ∧ l.Pairwise (· < ·) ∧ (∀ x, x ∈ l ↔ x ∣ n) ∧ Nums w' w.heap.size v l ∧ l.length ≤ 3000000 ∧ Below w.heap.size w w' := by
  obtain ⟨i0, hi, hz0, hz1, hz2⟩ := info_parts infoI64
  go_enter Tryz.func80, Tryz.ntmps80
  go_wp2
  go_loopw [3, 4, 5] (fun lo hi d wr => ∃ k : Nat, d = .int .i64 (k + 1 : Nat) ∧ k ≤ 1000000 ∧ Hid (k * k ≤ n) ∧ Hid (Nums wr w.heap.size lo (lows n k)) ∧ Hid (Nums wr w.heap.size hi (highs n k)) ∧ Hid (Apart lo hi) ∧ Hid (Below w.heap.size w wr)) (fun _ _ d _ => 1000002 - (intOf d).toNat)
  case atStart => exact ⟨0, rfl, by omega, Lib.hid (by omega), Lib.hid (nums_nil _ _), Lib.hid (nums_nil _ _), Lib.hid (fun g h => by simp [Value.ownBlock] at h), Lib.hid (Below.refl _ _)⟩
  case round =>
    obtain ⟨k, rfl, hk, hkk, hL, hH, hA, hB⟩ := hrel
    obtain ⟨d, hd⟩ : ∃ d, k + 1 = d := ⟨_, rfl⟩
    rw [hd]
    have hbd : d * d ≤ 1000001 * 1000001 := Nat.mul_le_mul (by omega) (by omega)
    have eP : (d : Int) * (d : Int) = ((d * d : Nat) : Int) := (Int.natCast_mul _ _).symm
    obtain ⟨sq, hsq⟩ : ∃ sq, d * d = sq := ⟨_, rfl⟩
    rw [hsq] at eP hbd
    have Hsq := Lib.hid hsq
    have Hd := Lib.hid hd
    clear hsq
    have hd1 : 1 ≤ d := by omega
    have len1 := length_lows n k
    have len2 := length_highs n k
    clear hd
    by_cases hlt : sq ≤ n
    · have hd6 : d ≤ 1000000 := root_small (v := n) (by rw [Hsq.out]; exact hlt) hn2
      have eM : (n : Int) % (d : Int) = ((n % d : Nat) : Int) := by simp
      have eD : (n : Int) / (d : Int) = ((n / d : Nat) : Int) := by simp
      by_cases hm : n % d = 0
      · have hb : ((n : Int) % (d : Int) != 0) = false := by rw [eM, hm]; rfl
        obtain ⟨q, hq⟩ : ∃ q, n / d = q := ⟨_, rfl⟩
        rw [hq] at eD
        have hqn : q ≤ n := by rw [← hq]; exact Nat.div_le_self _ _
        have EL : Hid (lows n d = lows n k ++ [d]) := Lib.hid (by rw [← Hd.out]; simp only [lows]; rw [if_pos (by rw [Hd.out]; exact hm)])
        have EH : Hid (highs n d = if sq < n then q :: highs n k else highs n k) := Lib.hid (by rw [← Hd.out]; simp only [highs]; rw [if_pos (by rw [Hd.out]; exact hm), Hd.out, Hsq.out, hq])
        have HKK : Hid (d * d ≤ n) := Lib.hid (by rw [Hsq.out]; exact hlt)
        clear hm hq eM hkk
        obtain ⟨lp, lc, rfl⟩ := hL.out.slice
        rcases hH.out.form with ⟨rfl, he⟩ | ⟨gh, hc, rfl⟩
        · have HE := Lib.hid he
          clear he
          by_cases hsn : sq < n
          · go_wp2_with (first | (at_builtin; refine wpList_append_own_at _ rfl _ _ 109 rfl w.heap.size 2 i0 (.int .i64 0) 1 8 Tryz.underlying109 hi hz0 hz1 hz2 rfl (by decide) (.slice lp (lows n k).length lc) _ _ rfl (hL.out.alloc _) ⟨wr.heap.size, 0, none⟩ 1 1 [.int .i64 (d : Int)] rfl rfl (cell_one_new _ _ _) (fun x hx => by simp at hx; subst hx; rfl) (by unfold maxLen; omega) (by omega) (by have := hB.out.size; simp; omega) ?_; intro v1 w1 hown1 hgrow1 _ hat1; have S1 := Lib.hid (row_step hL.out hH.out hA.out hB.out hown1 hgrow1 hat1); obtain ⟨ap, ac, rfl⟩ := S1.out.1.slice; rw [show (lows n k ++ [d]).length = (lows n k).length + 1 by simp] at S1; clear hown1 hgrow1 hat1) | (at_builtin; refine wpList_append_own_at _ rfl _ _ 109 rfl w.heap.size 2 i0 (.int .i64 0) 1 8 Tryz.underlying109 hi hz0 hz1 hz2 rfl (by decide) (.slice none 0 0) 0 [] rfl (nums_nil _ _) ⟨w1.heap.size, 0, none⟩ 1 1 [.int .i64 (q : Int)] rfl rfl (cell_one_new _ _ _) (fun x hx => by simp at hx; subst hx; rfl) (by unfold maxLen; omega) (by omega) (by have := S1.out.2.2.2.size; simp; omega) ?_; intro v2 w2 hown2 hgrow2 _ hat2; have S2 := row_new S1.out hown2 hgrow2 hat2; obtain ⟨S2, g2, c2, rfl⟩ := S2; replace S2 := Lib.hid S2; clear hown2 hgrow2 hat2) | (at_builtin; refine wpList_append_own_none rfl _ _ 109 rfl w.heap.size 2 i0 1 Tryz.underlying109 hi (.slice (some ⟨g2, 0, none⟩) 1 c2) 1 [.int .i64 (q : Int)] rfl S2.out.1 rfl ?_))
            go_roundw
            case rel => exact ⟨d, by go_num, hd6, HKK, Lib.hid (by rw [EL.out]; exact S2.out.2.1), Lib.hid (by rw [EH.out, if_pos hsn, HE.out]; exact S2.out.1), Lib.hid S2.out.2.2.2.1, Lib.hid S2.out.2.2.2.2⟩
            case measure => simp [intOf]; omega
          · go_wp2_with (at_builtin; refine wpList_append_own_at _ rfl _ _ 109 rfl w.heap.size 2 i0 (.int .i64 0) 1 8 Tryz.underlying109 hi hz0 hz1 hz2 rfl (by decide) (.slice lp (lows n k).length lc) _ _ rfl (hL.out.alloc _) ⟨wr.heap.size, 0, none⟩ 1 1 [.int .i64 (d : Int)] rfl rfl (cell_one_new _ _ _) (fun x hx => by simp at hx; subst hx; rfl) (by unfold maxLen; omega) (by omega) (by have := hB.out.size; simp; omega) ?_; intro v1 w1 hown1 hgrow1 _ hat1; have S1 := Lib.hid (row_step hL.out hH.out hA.out hB.out hown1 hgrow1 hat1); obtain ⟨ap, ac, rfl⟩ := S1.out.1.slice; rw [show (lows n k ++ [d]).length = (lows n k).length + 1 by simp] at S1; clear hown1 hgrow1 hat1)
            go_roundw
            case rel => exact ⟨d, by go_num, hd6, HKK, Lib.hid (by rw [EL.out]; exact S1.out.1), Lib.hid (by rw [EH.out, if_neg hsn]; exact S1.out.2.1), Lib.hid S1.out.2.2.1, Lib.hid S1.out.2.2.2⟩
            case measure => simp [intOf]; omega
        · by_cases hsn : sq < n
          · go_wp2_with (first | (at_builtin; refine wpList_append_own_at _ rfl _ _ 109 rfl w.heap.size 2 i0 (.int .i64 0) 1 8 Tryz.underlying109 hi hz0 hz1 hz2 rfl (by decide) (.slice lp (lows n k).length lc) _ _ rfl (hL.out.alloc _) ⟨wr.heap.size, 0, none⟩ 1 1 [.int .i64 (d : Int)] rfl rfl (cell_one_new _ _ _) (fun x hx => by simp at hx; subst hx; rfl) (by unfold maxLen; omega) (by omega) (by have := hB.out.size; simp; omega) ?_; intro v1 w1 hown1 hgrow1 _ hat1; have S1 := Lib.hid (row_step hL.out hH.out hA.out hB.out hown1 hgrow1 hat1); obtain ⟨ap, ac, rfl⟩ := S1.out.1.slice; rw [show (lows n k ++ [d]).length = (lows n k).length + 1 by simp] at S1; clear hown1 hgrow1 hat1) | (at_builtin; refine wpList_append_own_at _ rfl _ _ 109 rfl w.heap.size 2 i0 (.int .i64 0) 1 8 Tryz.underlying109 hi hz0 hz1 hz2 rfl (by decide) (.slice none 0 0) 0 [] rfl (nums_nil _ _) ⟨w1.heap.size, 0, none⟩ 1 1 [.int .i64 (q : Int)] rfl rfl (cell_one_new _ _ _) (fun x hx => by simp at hx; subst hx; rfl) (by unfold maxLen; omega) (by omega) (by have := S1.out.2.2.2.size; simp; omega) ?_; intro v2 w2 hown2 hgrow2 _ hat2; have S2 := row_new S1.out hown2 hgrow2 hat2; obtain ⟨S2, g2, c2, rfl⟩ := S2; replace S2 := Lib.hid S2; clear hown2 hgrow2 hat2) | (at_builtin; refine wpList_append_own_at _ rfl _ _ 109 rfl w.heap.size 2 i0 (.int .i64 0) 1 8 Tryz.underlying109 hi hz0 hz1 hz2 rfl (by decide) (.slice (some ⟨g2, 0, none⟩) 1 c2) 1 [.int .i64 (q : Int)] rfl S2.out.1 ⟨gh, 0, none⟩ (highs n k).length hc ((highs n k).map fun (d : Nat) => Value.int .i64 (d : Int)) rfl (by simp) S2.out.2.2.1.cells nums_one (by unfold maxLen; omega) (by omega) (by have := S2.out.2.2.2.2.size; omega) ?_; intro v3 w3 hown3 hgrow3 _ hat3; have S3 := Lib.hid (row_join (l := [q]) S2.out.1 S2.out.2.1 S2.out.2.2.2.1 S2.out.2.2.2.2 hown3 hgrow3 hat3); obtain ⟨rp, rc, rfl⟩ := S3.out.1.slice; rw [show ([q] ++ highs n k).length = (highs n k).length + 1 by simp] at S3; clear hown3 hgrow3 hat3))
            go_roundw
            case rel => exact ⟨d, by go_num, hd6, HKK, Lib.hid (by rw [EL.out]; exact S3.out.2.1), Lib.hid (by rw [EH.out, if_pos hsn]; exact S3.out.1), Lib.hid S3.out.2.2.1, Lib.hid S3.out.2.2.2⟩
            case measure => simp [intOf]; omega
          · go_wp2_with (at_builtin; refine wpList_append_own_at _ rfl _ _ 109 rfl w.heap.size 2 i0 (.int .i64 0) 1 8 Tryz.underlying109 hi hz0 hz1 hz2 rfl (by decide) (.slice lp (lows n k).length lc) _ _ rfl (hL.out.alloc _) ⟨wr.heap.size, 0, none⟩ 1 1 [.int .i64 (d : Int)] rfl rfl (cell_one_new _ _ _) (fun x hx => by simp at hx; subst hx; rfl) (by unfold maxLen; omega) (by omega) (by have := hB.out.size; simp; omega) ?_; intro v1 w1 hown1 hgrow1 _ hat1; have S1 := Lib.hid (row_step hL.out hH.out hA.out hB.out hown1 hgrow1 hat1); obtain ⟨ap, ac, rfl⟩ := S1.out.1.slice; rw [show (lows n k ++ [d]).length = (lows n k).length + 1 by simp] at S1; clear hown1 hgrow1 hat1)
            go_roundw
            case rel => exact ⟨d, by go_num, hd6, HKK, Lib.hid (by rw [EL.out]; exact S1.out.1), Lib.hid (by rw [EH.out, if_neg hsn]; exact S1.out.2.1), Lib.hid S1.out.2.2.1, Lib.hid S1.out.2.2.2⟩
            case measure => simp [intOf]; omega
      · have hb : ((n : Int) % (d : Int) != 0) = true := by rw [eM]; simpa using (by omega : ¬ ((n % d : Nat) : Int) = 0)
        have EL : Hid (lows n d = lows n k) := Lib.hid (by rw [← Hd.out]; simp only [lows]; rw [if_neg (by rw [Hd.out]; exact hm)])
        have EH : Hid (highs n d = highs n k) := Lib.hid (by rw [← Hd.out]; simp only [highs]; rw [if_neg (by rw [Hd.out]; exact hm)])
        have HKK : Hid (d * d ≤ n) := Lib.hid (by rw [Hsq.out]; exact hlt)
        clear hm eM eD hkk
        go_wp2
        go_roundw
        case rel => exact ⟨d, by go_num, hd6, HKK, Lib.hid (by rw [EL.out]; exact hL.out), Lib.hid (by rw [EH.out]; exact hH.out), hA, hB⟩
        case measure => simp [intOf]; omega
    · have HT : Hid ((lows n k ++ highs n k).Pairwise (· < ·) ∧ ∀ x, x ∈ lows n k ++ highs n k ↔ x ∣ n) := Lib.hid (divs_two (by omega) hkk.out (by rw [Hd.out, Hsq.out]; omega))
      obtain ⟨lp, lc, rfl⟩ := hL.out.slice
      rcases hH.out.form with ⟨rfl, he⟩ | ⟨gh, hc, rfl⟩
      · have HE := Lib.hid he
        clear he
        go_wp2_with (at_builtin; refine wpList_append_own_none rfl _ _ 109 rfl w.heap.size 2 i0 1 Tryz.underlying109 hi (.slice lp (lows n k).length lc) _ _ rfl hL.out rfl ?_)
        go_ret
        have HT2 := HT.out
        rw [HE.out, List.append_nil] at HT2
        exact ⟨lows n k, _, rfl, HT2.1, HT2.2, hL.out, by omega, hB.out⟩
      · go_wp2_with (at_builtin; refine wpList_append_own_at _ rfl _ _ 109 rfl w.heap.size 2 i0 (.int .i64 0) 1 8 Tryz.underlying109 hi hz0 hz1 hz2 rfl (by decide) (.slice lp (lows n k).length lc) _ _ rfl hL.out ⟨gh, 0, none⟩ (highs n k).length hc ((highs n k).map fun (d : Nat) => Value.int .i64 (d : Int)) rfl (by simp) hH.out.cells nums_one (by unfold maxLen; omega) (by omega) (by have := hB.out.size; omega) ?_; intro v3 w3 hown3 hgrow3 _ hat3; have S3 := Lib.hid (row_join hL.out hH.out hA.out.symm hB.out hown3 hgrow3 hat3); clear hown3 hgrow3 hat3)
        go_ret
        exact ⟨lows n k ++ highs n k, _, rfl, HT.out.1, HT.out.2, S3.out.1, by rw [List.length_append]; omega, S3.out.2.2.2⟩
end Go.Proofs.YtamhlkjfpdkhoaaGreatDoor
