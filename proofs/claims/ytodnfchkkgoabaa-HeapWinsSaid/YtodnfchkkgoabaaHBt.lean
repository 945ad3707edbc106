/- WALK of Best, from a vertex of a graph. -/
import Derived.Test.YtodnfchkkgoabaaHBs
set_option linter.unusedVariables false
namespace Go.Proofs.Ytodnfchkkgoabaa
open Go.RowKit

/-- What Best gives: the first vertex that is as good as can be. -/
def BestOf (G : List (List Nat)) (v w : Nat) : Prop := ∀ f, OutP (dec G) G.length f → ∃ K, K < (G.getD v []).length ∧ w = (G.getD v []).getD K 0 ∧ good f (kindOf (f v).1) ((f v).2 - 1) w = true ∧ ∀ j, j < K → good f (kindOf (f v).1) ((f v).2 - 1) ((G.getD v []).getD j 0) = false

theorem row_lt {G : List (List Nat)} (hx : ∀ v, ∀ x ∈ G.getD v [], x < G.length) {v i : Nat} (hi : i < (G.getD v []).length) : (G.getD v []).getD i 0 < G.length := by
  refine hx v _ ?_
  generalize G.getD v [] = R at *
  rw [List.getD_eq_getElem?_getD, List.getElem?_eq_getElem hi]
  exact List.getElem_mem _

/-- Rows of a good graph rise. -/
theorem chkRow_nodup (n : Int) : ∀ (r : List Nat) (last : Int), chkRow n last (ints r) = true → r.Nodup ∧ ∀ x ∈ r, last < (x : Int) := by
  intro r
  induction r with
  | nil => intro last _; exact ⟨by simp, fun x h => by cases h⟩
  | cons a r ih =>
    intro last h
    unfold ints at h
    rw [List.map_cons] at h
    unfold chkRow at h
    simp only [Bool.and_eq_true, decide_eq_true_eq] at h
    obtain ⟨h1, h2⟩ := ih (a : Int) h.2
    refine ⟨List.nodup_cons.2 ⟨fun ha => by have := h2 a ha; omega, h1⟩, fun x hx => ?_⟩
    rcases List.mem_cons.1 hx with rfl | hx
    · exact h.1.1
    · have := h2 x hx; omega
theorem chk_nodup {G : List (List Nat)} (h : chk (intG G) = true) (v : Nat) : (G.getD v []).Nodup := by
  by_cases hv : v < G.length
  · unfold chk at h
    simp only [Bool.and_eq_true, List.all_eq_true] at h
    have := h.2 (ints (G.getD v [])) (by
      unfold intG
      rw [List.getD_eq_getElem?_getD, List.getElem?_eq_getElem hv]
      exact List.mem_map.2 ⟨_, List.getElem_mem hv, rfl⟩)
    exact (chkRow_nodup _ _ _ this).1
  · rw [List.getD_eq_getElem?_getD, List.getElem?_eq_none (by omega)]; simp
theorem chk_plays {G : List (List Nat)} (h : chk (intG G) = true) {f : Nat → Nat × Nat} (ho : OutP (dec G) G.length f) : Plays G f := by
  obtain ⟨_, _, hr, hx⟩ := chk_nat h
  exact plays hx (chk_nodup h) hr ho
theorem chk_DF {G : List (List Nat)} (h : chk (intG G) = true) : DF G (dec G) := by
  obtain ⟨_, _, hr, hx⟩ := chk_nat h
  exact dec_ok hx (chk_nodup h) hr

theorem BestOf.of {G : List (List Nat)} (hc : chk (intG G) = true) {f : Nat → Nat × Nat} (ho : OutP (dec G) G.length f) {v K : Nat} (hv : v < G.length) (h1 : K < (G.getD v []).length) (h2 : good f (kindOf (f v).1) ((f v).2 - 1) ((G.getD v []).getD K 0) = true)
    (h3 : ∀ j, j < K → good f (kindOf (f v).1) ((f v).2 - 1) ((G.getD v []).getD j 0) = false) : BestOf G v ((G.getD v []).getD K 0) := by
  intro f' ho'
  obtain ⟨_, _, hr, hx⟩ := chk_nat hc
  have hd := chk_DF hc
  have e : ∀ u, u < G.length → f' u = f u := fun u hu => outp_one hd ho' ho hu
  have eg : ∀ j kd ds, j < (G.getD v []).length → good f' kd ds ((G.getD v []).getD j 0) = good f kd ds ((G.getD v []).getD j 0) := fun j kd ds hj => by
    unfold good; rw [e _ (row_lt hx hj)]
  refine ⟨K, h1, rfl, ?_, fun j hj => ?_⟩
  · rw [e v hv, eg _ _ _ h1]; exact h2
  · rw [e v hv, eg _ _ _ (by omega)]; exact h3 j hj

theorem BV.make (w1 : World) (gk gd n kd ds : Nat) (f : Nat → Nat × Nat) (t u : TypeId) (hk : Blk w1 gk n (fun v => .int .i64 ((f v).1 : Nat))) (hd : Blk w1 gd n (fun v => .int .i64 ((f v).2 : Nat))) :
    BV ((((w1.alloc (.cells #[.slice (some ⟨gk, 0, none⟩) n n] t)).alloc (.cells #[.slice (some ⟨gd, 0, none⟩) n n] t)).alloc (.cells #[.int .i64 kd] u)).alloc (.cells #[.int .i64 ds] u)) w1.heap.size (w1.heap.size + 1 + 1) (w1.heap.size + 1) (w1.heap.size + 1 + 1 + 1) gk gd n f kd ds := by
  have e : ∀ (w : World) (o : Obj), (w.alloc o).heap.size = w.heap.size + 1 := fun w o => by simp
  have n1 : ∀ (w : World) (o : Obj) (a : Addr) (v : Value), w.cell? a = some v → a.block < w.heap.size → (w.alloc o).cell? a = some v := fun w o a v h hl => ((Below.refl _ w).alloc (Nat.le_refl _) o |>.cell (p := a) hl).trans h
  have n2 : ∀ (w : World) (v : Value) (t : TypeId) (k : Nat), w.heap.size = k → (w.alloc (.cells #[v] t)).cell? ⟨k, 0, none⟩ = some v := fun w v t k h => by
    subst h
    have := heap_alloc_new w (.cells #[v] t)
    unfold World.cell?
    rw [this]
    rfl
  have n3 : ∀ (w : World) (o : Obj) (g : Nat) (q : Nat → Value), Blk w g n q → Blk (w.alloc o) g n q := fun w o g q h => h.keep (Below.heap_alloc w o g h.lt)
  refine ⟨?_, ?_, ?_, ?_, n3 _ _ _ _ (n3 _ _ _ _ (n3 _ _ _ _ (n3 _ _ _ _ hk))), n3 _ _ _ _ (n3 _ _ _ _ (n3 _ _ _ _ (n3 _ _ _ _ hd)))⟩
  · exact n1 _ _ _ _ (n1 _ _ _ _ (n1 _ _ _ _ (n2 _ _ _ _ rfl) (by simp)) (by simp; omega)) (by simp; omega)
  · exact n1 _ _ _ _ (n2 _ _ _ _ (by rw [e, e])) (by simp)
  · exact n1 _ _ _ _ (n1 _ _ _ _ (n2 _ _ _ _ (by rw [e])) (by simp)) (by simp)
  · exact n2 _ _ _ _ (by rw [e, e, e])

set_option maxRecDepth 100000 in
set_option maxHeartbeats 2000000 in
theorem Best_in (G : List (List Nat)) (p : Option Addr) (c v : Nat) (W : World) (hG : GN W p G) (hc : chk (intG G) = true) (hv : v < G.length) (hne : G.getD v [] ≠ []) :
    Calls Try.prog 38 #[.slice p G.length c, .int .i64 v] W fun e w' => ∃ w, e = .returned (.tuple #[.int .i64 (w : Nat), .int .i64 0]) ∧ BestOf G v w ∧ Below W.heap.size W w' := by
  obtain ⟨l1, l200, hr, hx⟩ := chk_nat hc
  have HO := Lib.hid (Outcomes_any G p c W hG hc)
  obtain ⟨R, hR⟩ : ∃ R, G.getD v [] = R := ⟨_, rfl⟩
  have HPL := Lib.hid (fun f (ho : OutP (dec G) G.length f) => (chk_plays hc ho).good hv hne)
  have HKD := Lib.hid (fun f (ho : OutP (dec G) G.length f) => (chk_plays hc ho).kind v hv)
  have HFR := Lib.hid (fun f (ho : OutP (dec G) G.length f) => (chk_plays hc ho).far v hv)
  have HBO := Lib.hid (fun f (ho : OutP (dec G) G.length f) K h1 h2 h3 => BestOf.of hc ho (v := v) (K := K) hv h1 h2 h3)
  have HRL := Lib.hid (fun i hi => row_lt hx (v := v) (i := i) hi)
  have HRW := Lib.hid (fun X (hb : Below W.heap.size W X) => (hG.under hb).row hv hR)
  have hrr := hr v
  rw [hR] at HPL HBO HRL hrr hne
  have hne' : 0 < R.length := List.length_pos_iff.2 hne
  obtain ⟨n, hn⟩ : ∃ n, G.length = n := ⟨_, rfl⟩
  obtain ⟨m, hm⟩ : ∃ m, R.length = m := ⟨_, rfl⟩
  have HN := Lib.hid hn
  have HM := Lib.hid hm
  rw [hn] at HO hv HRL l1 l200 ⊢
  rw [hm] at hrr hne'
  have HGL : Hid (∀ f, OutP (dec G) n f = OutP (dec G) G.length f) := Lib.hid (fun f => by rw [hn])
  clear hG hc hr hx hR hne hn hm
  go_enter Try.func38, Try.ntmps38
  go_wp2_with fail
  refine HO.out.mono ?_
  rintro e w1 ⟨gk, gd, f, rfl, hk, hd, ho, hg1, hg2, hb1⟩
  have HK := Lib.hid hk
  have HD := Lib.hid hd
  have HOP := Lib.hid (Eq.mp (HGL.out f) ho)
  have HB1 := Lib.hid hb1
  have gl1 := hk.lt
  have gl2 := hd.lt
  clear hk hd ho hb1 HO hg1 hg2
  obtain ⟨t, ht⟩ : ∃ t, (f v).1 = t := ⟨_, rfl⟩
  obtain ⟨d, hd⟩ : ∃ d, (f v).2 = d := ⟨_, rfl⟩
  have ht2 : t ≤ 2 := by rw [← ht]; exact HKD.out f HOP.out
  have hd4 : d ≤ 400 := by have := HFR.out f HOP.out; have := HN.out; omega
  have ck := HK.out.cell hv
  have cd := HD.out.cell hv
  simp only [ht] at ck
  simp only [hd] at cd
  have HT := Lib.hid ht
  have HDD := Lib.hid hd
  clear ht hd
  obtain ⟨g, pv, cv, rfl, cG, hrow⟩ := HRW.out w1 HB1.out
  rw [HM.out] at cG
  have HROW := Lib.hid hrow
  have hgl := cell_lt2 cG
  clear hrow HRW
  have hmn : ¬ m = 0 := by omega
  obtain ⟨d1, hd1⟩ : ∃ d1, d - 1 = d1 := ⟨_, rfl⟩
  have HD1 := Lib.hid hd1
  have hix : ∀ w : World, (Instr.index 89 (.agg #[.int .i64 1, .int .i64 0, .int .i64 2]) (.int .i64 (t : Int))).run Try.prog w = .ok (.int .i64 (kindOf t : Nat)) w := fun w => by
    obtain rfl | rfl | rfl : t = 0 ∨ t = 1 ∨ t = 2 := by omega
    · rfl
    · rfl
    · rfl
  obtain ⟨kd, hkd⟩ : ∃ k, kindOf t = k := ⟨_, rfl⟩
  have HKK := Lib.hid hkd
  rw [hkd] at hix
  have HGD := Lib.hid (HPL.out f HOP.out)
  rw [HT.out, HDD.out, HKK.out, HD1.out] at HGD
  obtain ⟨K, k1, k2, k3⟩ := first_of (fun w => good f kd d1 w) 0 R HGD.out
  have HBE : Hid (BestOf G v (R.getD K 0)) := Lib.hid (HBO.out f HOP.out K k1 (by rw [HT.out, HDD.out, HKK.out, HD1.out]; exact k2) (fun j hj => by rw [HT.out, HDD.out, HKK.out, HD1.out]; exact k3 j hj))
  have b3 : ∀ o1 o2 o3, Below w1.heap.size w1 (((w1.alloc o1).alloc o2).alloc o3) := fun o1 o2 o3 => (((Below.refl _ w1).alloc (by omega) _).alloc (by simp) _).alloc (by simp; omega) _
  have cd3 : ∀ o1 o2 o3, (((w1.alloc o1).alloc o2).alloc o3).cell? ⟨gd, v, none⟩ = some (.int .i64 (d : Int)) := fun o1 o2 o3 => cellOf2 (b3 _ _ _) cd gl2
  have cG4 : ∀ o1 o2 o3 o4, ((((w1.alloc o1).alloc o2).alloc o3).alloc o4).cell? ⟨g, v, none⟩ = some (.slice pv m cv) := fun o1 o2 o3 o4 => cellOf2 ((b3 _ _ _).alloc (by simp; omega) _) cG hgl
  have IX : Hid (∀ X, Below w1.heap.size w1 X → BV X w1.heap.size (w1.heap.size + 1 + 1) (w1.heap.size + 1) (w1.heap.size + 1 + 1 + 1) gk gd n f kd d1 →
      Calls Try.prog 59 #[.slice pv m cv, .func (.func 60) #[] #[.pointer (some ⟨w1.heap.size, 0, none⟩), .pointer (some ⟨w1.heap.size + 1 + 1, 0, none⟩), .pointer (some ⟨w1.heap.size + 1, 0, none⟩), .pointer (some ⟨w1.heap.size + 1 + 1 + 1, 0, none⟩)]] X fun e X' => e = .returned (.int .i64 K) ∧ Below X.heap.size X X') := Lib.hid (fun X hb hv => by
    have := IndexFunc_any R pv cv K n gk gd _ _ _ _ kd d1 f X hv (HROW.out.under hb) (by rw [HM.out]; omega) HRL.out k1 k2 k3
    rw [HM.out] at this
    exact this)
  have BVM := Lib.hid (BV.make w1 gk gd n kd d1 f 22 3 HK.out HD.out)
  have HB3 := Lib.hid b3
  have hKm : K < m := by have := HM.out; omega
  have bK : (K : Int) < (m : Int) := by omega
  clear cd b3 hkd hd1 HGD k1 k2 k3
  by_cases hd0 : d ≤ 1
  · obtain rfl : d1 = 0 := by have := HD1.out; omega
    have hmx : (d : Int) - 1 ≤ 0 := by omega
    go_wp2_with fail
    refine (IX.out _ ((HB3.out _ _ _).alloc (by simp; omega) _) BVM.out).mono ?_
    rintro e w6 ⟨rfl, hb6⟩
    have B6 := Lib.hid (((HB3.out _ _ _).alloc (by simp; omega) _).trans (hb6.mono (by simp; omega)))
    have cG6 := cellOf2 B6.out cG hgl
    obtain ⟨g2, rfl, cR⟩ := HROW.out.under B6.out K (by rw [HM.out]; exact hKm)
    have B7 := Lib.hid (HB1.out.trans (B6.out.mono HB1.out.size))
    clear hb6 IX BVM HB3 B6 cd3 cG4
    go_wp2_with fail
    go_ret2
    exact ⟨_, rfl, HBE.out, B7.out⟩
  · have hq : (d : Int) - 1 = (d1 : Int) := by have := HD1.out; omega
    have hmx : ¬ (d : Int) - 1 ≤ 0 := by omega
    go_wp2_with fail
    refine (IX.out _ ((HB3.out _ _ _).alloc (by simp; omega) _) BVM.out).mono ?_
    rintro e w6 ⟨rfl, hb6⟩
    have B6 := Lib.hid (((HB3.out _ _ _).alloc (by simp; omega) _).trans (hb6.mono (by simp; omega)))
    have cG6 := cellOf2 B6.out cG hgl
    obtain ⟨g2, rfl, cR⟩ := HROW.out.under B6.out K (by rw [HM.out]; exact hKm)
    have B7 := Lib.hid (HB1.out.trans (B6.out.mono HB1.out.size))
    clear hb6 IX BVM HB3 B6 cd3 cG4
    go_wp2_with fail
    go_ret2
    exact ⟨_, rfl, HBE.out, B7.out⟩
end Go.Proofs.Ytodnfchkkgoabaa
