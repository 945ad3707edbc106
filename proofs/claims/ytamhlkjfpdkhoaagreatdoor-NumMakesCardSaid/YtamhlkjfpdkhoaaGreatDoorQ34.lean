/- WALKS of fractions of one word at most, more: plus. -/
import Derived.Test.YtamhlkjfpdkhoaaGreatDoorQ21
import Derived.Deep.Cut
namespace Go.Proofs.YtamhlkjfpdkhoaaGreatDoor
open Go.RowKit

theorem Lay.far {w W : World} {rows : List (Array Value × TypeId)} (h : Lay w rows W) (g : Nat) (hg : w.heap.size + rows.length ≤ g) (a b : Value) :
    Lay w rows ((W.setCell ⟨g, 0, none⟩ a).setCell ⟨g, 1, none⟩ b) := by
  refine ⟨fun i c t hi => ?_, Below.set2 h.2 (by omega) _ _⟩
  have hl : i < rows.length := (List.getElem?_eq_some_iff.1 hi).1
  rw [Below.heap_setCell _ _ _ _ (by simp; omega), Below.heap_setCell _ _ _ _ (by simp; omega)]; exact h.1 i c t hi

theorem sOfG {W : World} {g : Nat} {x y : Value} {t : TypeId} (h : W.heap[g]? = some (.cells #[x, y] t (0, 0))) :
    (W.cell? ⟨g, 0, none⟩ = some x ∧ W.cell? ⟨g, 1, none⟩ = some y) ∧ Hid (W.heap[g]? = some (.cells #[x, y] t (0, 0))) :=
  ⟨⟨(cells2 h).1, (cells2 h).2.1⟩, Lib.hid h⟩

theorem heap_set3 {W : World} {g k : Nat} (hk : g ≠ k) (a b c : Value) : (((W.setCell ⟨k, 0, none⟩ a).setCell ⟨k, 1, none⟩ b).setCell ⟨k, 2, none⟩ c).heap[g]? = W.heap[g]? := by
  rw [Below.heap_setCell _ _ _ _ hk, Below.heap_setCell _ _ _ _ hk, Below.heap_setCell _ _ _ _ hk]

theorem sOfGR {w W W' : World} {g : Nat} {x y : Value} {t : TypeId} {a b c d e f : Value} {t1 t2 : TypeId} {rest : List (Array Value × TypeId)} (h : W.heap[g]? = some (.cells #[x, y] t (0, 0))) (hL : Lay w ((#[a, b, c], t1) :: (#[d, e, f], t2) :: rest) W') (hW : W'.heap[g]? = W.heap[g]? := by rfl) :
    (W'.cell? ⟨g, 0, none⟩ = some x ∧ W'.cell? ⟨g, 1, none⟩ = some y ∧ W'.cell? ⟨w.heap.size + 1, 0, none⟩ = some d ∧ W'.cell? ⟨w.heap.size + 1, 1, none⟩ = some e ∧ W'.cell? ⟨w.heap.size + 1, 2, none⟩ = some f) ∧ Hid (Below w.heap.size w W') := by
  have h2 := hL.row 1 (w.heap.size + 1) rfl rfl
  have h1 := hW.trans h
  exact ⟨⟨(cells2 h1).1, (cells2 h1).2.1, (cells3 h2).1, (cells3 h2).2.1, (cells3 h2).2.2.1⟩, Lib.hid hL.2⟩

theorem rowFar {W : World} {g k : Nat} {c : Array Value} {t : TypeId} (h : W.heap[g]? = some (.cells c t (0, 0))) (hk : g ≠ k) (a b : Value) : ((W.setCell ⟨k, 0, none⟩ a).setCell ⟨k, 1, none⟩ b).heap[g]? = some (.cells c t (0, 0)) := by
  rw [Below.heap_setCell _ _ _ _ hk, Below.heap_setCell _ _ _ _ hk]; exact h

theorem rowAlloc {W : World} {g : Nat} {c : Array Value} {t : TypeId} {o : Obj} (h : W.heap[g]? = some (.cells c t (0, 0))) : (W.alloc o).heap[g]? = some (.cells c t (0, 0)) :=
  (heap_alloc_old _ _ (lt_of_row h)).trans h

set_option maxRecDepth 100000 in
set_option maxHeartbeats 2000000 in
theorem rplus_pos (u v : Value) (n k n' k' gg a b x y z h p c q : Nat) (w : World) (hu : WR w u false n k) (hv : WR w v false n' k') (hk : k ≠ 0) (hk' : k' ≠ 0)
    (hg : Nat.gcd k k' = gg) (ha : k / gg = a) (hb : k' / gg = b) (hx : n * b = x) (hy : n' * a = y) (hz : x + y = z) (hh : Nat.gcd z gg = h) (hp : z / h = p) (hc : k' / h = c) (hq : a * c = q)
    (hpos : 0 < gg ∧ 0 < n ∧ 0 < n' ∧ 0 < a ∧ 0 < b ∧ 0 < x ∧ 0 < y ∧ 0 < z ∧ 0 < h ∧ 0 < p ∧ 0 < c ∧ 0 < q) (hlt : x < 18446744073709551616 ∧ y < 18446744073709551616 ∧ z < 18446744073709551616 ∧ q < 18446744073709551616) :
    Calls Tryz.prog 126 #[u, v] w fun e w' => ∃ x, e = .returned x ∧ WR w' x false p (short q) ∧ Below w.heap.size w w' := by
  obtain ⟨g0, n0, n0', a0, b0, x0, y0, z0, h0, p0, c0, q0⟩ := hpos
  obtain ⟨lx, ly, lz, lq⟩ := hlt
  have BU : ∀ W (hb : Below w.heap.size w W), _ := fun W hb => below_any u false n k W (hu.below hb)
  have BV : ∀ W (hb : Below w.heap.size w W), _ := fun W hb => below_any v false n' k' W (hv.below hb)
  have WU : ∀ W (hb : Below w.heap.size w W), _ := fun W hb => isWhole_any u false n k W (hu.below hb)
  have e1 : decide (k = 0) = false := by simp [hk]
  have e3 : den k = k := if_neg hk
  have e4 : den k' = k' := if_neg hk'
  rw [e3] at BU
  rw [e4] at BV
  rw [e1] at WU
  obtain ⟨du, eu, rfl, hdu, heu⟩ := hu
  obtain ⟨up, ul, uc, rfl⟩ := hdu.slice
  obtain ⟨up', ul', uc', rfl⟩ := heu.slice
  obtain ⟨dv, ev, rfl, hdv, hev⟩ := hv
  obtain ⟨vp, vl, vc, rfl⟩ := hdv.slice
  obtain ⟨vp', vl', vc', rfl⟩ := hev.slice
  have GG : ∀ W s t (hs : Dig W s k) (ht : Dig W t k'), _ := fun W s t hs ht => gcd_any s t k k' W hs ht
  rw [hg] at GG
  have E1 : ∀ W s t (hs : Dig W s k) (ht : Dig W t gg), _ := fun W s t hs ht => exactly_any s t k gg W hs ht g0
  rw [ha] at E1
  have E2 : ∀ W s t (hs : Dig W s k') (ht : Dig W t gg), _ := fun W s t hs ht => exactly_any s t k' gg W hs ht g0
  rw [hb] at E2
  have SA : ∀ W d, Dig W d a → _ := fun W d h => signed_any false d a W h
  have SB : ∀ W d, Dig W d b → _ := fun W d h => signed_any false d b W h
  have SP : ∀ W d, Dig W d p → _ := fun W d h => signed_any false d p W h
  simp only [Bool.false_and] at SA SB SP
  have TX : ∀ W t (ht : WI W t false b) (hb : Below w.heap.size w W), _ := fun W t ht hb => itimes_pos (.agg #[.bool false, .slice up ul uc]) t false false n b x W ⟨_, rfl, hdu.below hb⟩ ht n0 b0 hx lx
  have TY : ∀ W t (ht : WI W t false a) (hb : Below w.heap.size w W), _ := fun W t ht hb => itimes_pos (.agg #[.bool false, .slice vp vl vc]) t false false n' a y W ⟨_, rfl, hdv.below hb⟩ ht n0' a0 hy ly
  have ef : (false != false) = false := rfl
  rw [ef] at TX TY
  have PZ : ∀ W s t (hs : WI W s false x) (ht : WI W t false y), _ := fun W s t hs ht => iplus_pos s t false x y z W hs ht x0 y0 hz lz
  have GH : ∀ W s t (hs : Dig W s z) (ht : Dig W t gg), _ := fun W s t hs ht => gcd_any s t z gg W hs ht
  rw [hh] at GH
  have E3 : ∀ W s t (hs : Dig W s z) (ht : Dig W t h), _ := fun W s t hs ht => exactly_any s t z h W hs ht h0
  rw [hp] at E3
  have E4 : ∀ W s t (hs : Dig W s k') (ht : Dig W t h), _ := fun W s t hs ht => exactly_any s t k' h W hs ht h0
  rw [hc] at E4
  have TQ : ∀ W s t (hs : Dig W s a) (ht : Dig W t c), _ := fun W s t hs ht => times_pos s t a c q W hs ht a0 c0 hq lq
  have LW := fun W s t (hu : WI W s false p) (hv : Dig W t q) => lowest_any s t false p q W hu hv
  replace BU := Lib.hid BU
  replace BV := Lib.hid BV
  replace WU := Lib.hid WU
  replace GG := Lib.hid GG
  replace E1 := Lib.hid E1
  replace E2 := Lib.hid E2
  replace E3 := Lib.hid E3
  replace E4 := Lib.hid E4
  replace SA := Lib.hid SA
  replace SB := Lib.hid SB
  replace SP := Lib.hid SP
  replace TX := Lib.hid TX
  replace TY := Lib.hid TY
  replace PZ := Lib.hid PZ
  replace GH := Lib.hid GH
  replace TQ := Lib.hid TQ
  replace LW := Lib.hid LW
  have L0 := Lib.hid ((((LayX.nil w).push #[.bool false, .slice up ul uc, .slice up' ul' uc'] 45).push #[.bool false, .slice vp vl vc, .slice vp' vl' vc'] 45).push #[.bool false, .slice none 0 0, .slice none 0 0] 45)
  clear g0 n0 n0' a0 b0 x0 y0 z0 h0 p0 c0 q0 lx ly lz lq hg ha hb hx hy hz hh hp hc hq e1 e3 e4 ef hdu hdv heu hev hk hk'
  go_enter Tryz.func126, Tryz.ntmps126
  go_wp2_with fail
  refine (WU.out _ L0.out.1.2).mono ?_
  rintro e w1 ⟨rfl, hb1⟩
  have L1 : Hid (Lay w [(#[.bool false, .slice up ul uc, .slice up' ul' uc'], 45), (#[.bool false, .slice vp vl vc, .slice vp' vl' vc'], 45), (#[.bool false, .slice none 0 0, .slice none 0 0], 45)] w1) := Lib.hid (L0.out.1.step hb1)
  obtain ⟨⟨c0, c1, c2, c3, c4, c5⟩, _⟩ := sOfRR L1.out
  clear hb1 L0 WU
  go_wp2_with fail
  replace L1 := Lib.hid L1.out.drew
  clear c0 c1 c2 c3 c4 c5
  go_region_held3 (fun W => (W.cell? ⟨w.heap.size, 0, none⟩ = some (.bool false) ∧ W.cell? ⟨w.heap.size, 1, none⟩ = some (.slice up ul uc) ∧ W.cell? ⟨w.heap.size, 2, none⟩ = some (.slice up' ul' uc') ∧ W.cell? ⟨w.heap.size + 1, 0, none⟩ = some (.bool false) ∧ W.cell? ⟨w.heap.size + 1, 1, none⟩ = some (.slice vp vl vc) ∧ W.cell? ⟨w.heap.size + 1, 2, none⟩ = some (.slice vp' vl' vc')) ∧ Hid (∃ rest, Lay w ((#[.bool false, .slice up ul uc, .slice up' ul' uc'], 45) :: (#[.bool false, .slice vp vl vc, .slice vp' vl' vc'], 45) :: rest) W)) (first | exact sOfRR L4.out | exact sOfRR L3.out | exact sOfRR L2.out | exact sOfRR L1.out) (first
    | (go_at_call_of 104 (Value.slice up ul uc); refine (BU.out _ L1.out.2).mono ?_; rintro e w2 ⟨y1, rfl, hy, hl⟩; have L2 := Lib.hid (L1.out.step hl); have Y1 := Lib.hid hy; clear hy hl)
    | (go_at_call_of 104 (Value.slice vp vl vc); refine (BV.out _ L2.out.2).mono ?_; rintro e w3 ⟨y2, rfl, hy, hl⟩; have L3 := Lib.hid (L2.out.step hl); have Y2 := Lib.hid hy; replace Y1 := Lib.hid (Y1.out.below hl); clear hy hl)
    | (go_at_call 98; refine (GG.out _ _ _ Y1.out Y2.out).mono ?_; rintro e w4 ⟨xg, rfl, hy, hl⟩; have L4 := Lib.hid (L3.out.step hl); have XG := Lib.hid hy; clear hy hl))
  obtain ⟨⟨c0, c1, c2, c3, c4, c5⟩, _⟩ := sOfRR L4.out
  clear GG Y1 Y2 L1 L2 L3
  go_wp2_with fail
  replace L4 := Lib.hid L4.out.drew
  replace XG := Lib.hid (XG.out.below ((Below.refl _ _).drew))
  clear c0 c1 c2 c3 c4 c5
  go_region_held3 (fun W => (W.cell? ⟨w.heap.size, 0, none⟩ = some (.bool false) ∧ W.cell? ⟨w.heap.size, 1, none⟩ = some (.slice up ul uc) ∧ W.cell? ⟨w.heap.size, 2, none⟩ = some (.slice up' ul' uc') ∧ W.cell? ⟨w.heap.size + 1, 0, none⟩ = some (.bool false) ∧ W.cell? ⟨w.heap.size + 1, 1, none⟩ = some (.slice vp vl vc) ∧ W.cell? ⟨w.heap.size + 1, 2, none⟩ = some (.slice vp' vl' vc')) ∧ Hid (∃ rest, Lay w ((#[.bool false, .slice up ul uc, .slice up' ul' uc'], 45) :: (#[.bool false, .slice vp vl vc, .slice vp' vl' vc'], 45) :: rest) W)) (first | exact sOfRR L8.out | exact sOfRR L7.out | exact sOfRR L6.out | exact sOfRR L5.out | exact sOfRR L4.out) (first
    | (go_at_call_of 104 (Value.slice up ul uc); refine (BU.out _ L4.out.2).mono ?_; rintro e w5 ⟨y1, rfl, hy, hl⟩; have L5 := Lib.hid (L4.out.step hl); have Y1 := Lib.hid hy; replace XG := Lib.hid (XG.out.below hl); clear hy hl)
    | (go_at_call_of 171 y1; refine (E1.out _ _ _ Y1.out XG.out).mono ?_; rintro e w6 ⟨xa, rfl, hy, hl⟩; have L6 := Lib.hid (L5.out.step hl); have XA := Lib.hid hy; replace XG := Lib.hid (XG.out.below hl); clear hy hl)
    | (go_at_call_of 104 (Value.slice vp vl vc); refine (BV.out _ L6.out.2).mono ?_; rintro e w7 ⟨y2, rfl, hy, hl⟩; have L7 := Lib.hid (L6.out.step hl); have Y2 := Lib.hid hy; replace XG := Lib.hid (XG.out.below hl); replace XA := Lib.hid (XA.out.below hl); clear hy hl)
    | (go_at_call_of 171 y2; refine (E2.out _ _ _ Y2.out XG.out).mono ?_; rintro e w8 ⟨xb, rfl, hy, hl⟩; have L8 := Lib.hid (L7.out.step hl); have XB := Lib.hid hy; replace XG := Lib.hid (XG.out.below hl); replace XA := Lib.hid (XA.out.below hl); clear hy hl))
  obtain ⟨⟨c0, c1, c2, c3, c4, c5⟩, _⟩ := sOfRR L8.out
  clear E1 E2 Y1 Y2 L4 L5 L6 L7
  have N8 := Lib.hid (lt_of_row (L8.out.row 2 _ rfl rfl))
  go_wp2_with fail
  go_cut [8] from 11 (fun s8 W => ∃ g zp zl zc, s8 = .pointer (some ⟨g, 0, none⟩) ∧ w.heap.size + 3 ≤ g ∧ Hid (Lay w [(#[.bool false, .slice up ul uc, .slice up' ul' uc'], 45), (#[.bool false, .slice vp vl vc, .slice vp' vl' vc'], 45), (#[.bool false, .slice none 0 0, .slice none 0 0], 45)] W) ∧ Hid (W.heap[g]? = some (.cells #[.bool false, .slice zp zl zc] 31 (0, 0))) ∧ Hid (Dig W (.slice zp zl zc) z) ∧ Hid (Dig W xg gg) ∧ Hid (Dig W xa a))
  case first =>
    replace L8 := Lib.hid L8.out.drew
    replace XG := Lib.hid (XG.out.below ((Below.refl _ _).drew))
    replace XA := Lib.hid (XA.out.below ((Below.refl _ _).drew))
    replace XB := Lib.hid (XB.out.below ((Below.refl _ _).drew))
    clear c0 c1 c2 c3 c4 c5
    go_region_held3 (fun W => (W.cell? ⟨w.heap.size, 0, none⟩ = some (.bool false) ∧ W.cell? ⟨w.heap.size, 1, none⟩ = some (.slice up ul uc) ∧ W.cell? ⟨w.heap.size, 2, none⟩ = some (.slice up' ul' uc') ∧ W.cell? ⟨w.heap.size + 1, 0, none⟩ = some (.bool false) ∧ W.cell? ⟨w.heap.size + 1, 1, none⟩ = some (.slice vp vl vc) ∧ W.cell? ⟨w.heap.size + 1, 2, none⟩ = some (.slice vp' vl' vc')) ∧ Hid (∃ rest, Lay w ((#[.bool false, .slice up ul uc, .slice up' ul' uc'], 45) :: (#[.bool false, .slice vp vl vc, .slice vp' vl' vc'], 45) :: rest) W)) (first | exact sOfRR Ld.out | exact sOfRR Lc.out | exact sOfRR Lb.out | exact sOfRR La.out | exact sOfRR L9.out | exact sOfRR L8.out | exact sOfRR (Ld.out.step ((Below.refl _ _).alloc (Nat.le_refl _) _)) | exact sOfRR (Lc.out.step ((Below.refl _ _).alloc (Nat.le_refl _) _)) | exact sOfRR (Lb.out.step ((Below.refl _ _).alloc (Nat.le_refl _) _)) | exact sOfRR (La.out.step ((Below.refl _ _).alloc (Nat.le_refl _) _)) | exact sOfRR (L9.out.step ((Below.refl _ _).alloc (Nat.le_refl _) _)) | exact sOfRR (L8.out.step ((Below.refl _ _).alloc (Nat.le_refl _) _)) | exact sOfRR (Ld.out.far _ (by simp only [List.length_cons, List.length_nil]; (try have := N8.out); (try have := N9.out); (try have := Na.out); (try have := Nb.out); (try have := Nc.out); (try have := Nd.out); omega) _ _)) (first
      | (go_at_call_of 90 xb; refine (SB.out _ _ ?_).mono ?_; (first | exact XB.out | exact (XB.out).below ((Below.refl _ _).alloc (Nat.le_refl _) _)); rintro e w9 ⟨rfl, hl⟩; have hL : Below w8.drew.heap.size w8.drew w9 := (by first | exact hl | exact ((Below.refl _ _).alloc (Nat.le_refl _) _).trans (hl.mono (by simp))); have L9 := Lib.hid (L8.out.step hL); have N9 := Lib.hid (lt_of_row (L9.out.row 2 _ rfl rfl)); replace XG := Lib.hid (XG.out.below hL); replace XA := Lib.hid (XA.out.below hL); replace XB := Lib.hid (XB.out.below hL); (first | (have A := Below.row hl (by simp) (heap_alloc_new _ _); obtain ⟨a0, a1, a2, a3⟩ := cells2 A; replace A := Lib.hid A) | (replace A := Below.row hl (lt_of_row A.out) A.out; obtain ⟨a0, a1, a2, a3⟩ := cells2 A; replace A := Lib.hid A) | skip); clear hl hL)
      | (go_at_call_of 111 xb; refine (TX.out _ _ ?_ ?_).mono ?_; (first | exact (⟨_, rfl, XB.out⟩ : WI _ _ _ _) | exact WI.below ⟨_, rfl, XB.out⟩ ((Below.refl _ _).alloc (Nat.le_refl _) _)); (first | exact L9.out.2 | exact L9.out.2.alloc L9.out.2.size _); rintro e wa ⟨tx, rfl, hy, hl⟩; have hL : Below w9.heap.size w9 wa := (by first | exact hl | exact ((Below.refl _ _).alloc (Nat.le_refl _) _).trans (hl.mono (by simp))); have La := Lib.hid (L9.out.step hL); have Na := Lib.hid (lt_of_row (La.out.row 2 _ rfl rfl)); replace XG := Lib.hid (XG.out.below hL); replace XA := Lib.hid (XA.out.below hL); have TXw := Lib.hid (hy); (first | (have A := Below.row hl (by simp) (heap_alloc_new _ _); obtain ⟨a0, a1, a2, a3⟩ := cells2 A; replace A := Lib.hid A) | (replace A := Below.row hl (lt_of_row A.out) A.out; obtain ⟨a0, a1, a2, a3⟩ := cells2 A; replace A := Lib.hid A) | skip); clear hl hL)
      | (go_at_call_of 90 xa; refine (SA.out _ _ ?_).mono ?_; (first | exact XA.out | exact (XA.out).below ((Below.refl _ _).alloc (Nat.le_refl _) _)); rintro e wb ⟨rfl, hl⟩; have hL : Below wa.heap.size wa wb := (by first | exact hl | exact ((Below.refl _ _).alloc (Nat.le_refl _) _).trans (hl.mono (by simp))); have Lb := Lib.hid (La.out.step hL); have Nb := Lib.hid (lt_of_row (Lb.out.row 2 _ rfl rfl)); replace XG := Lib.hid (XG.out.below hL); replace XA := Lib.hid (XA.out.below hL); replace TXw := Lib.hid (TXw.out.below hL); (first | (have A := Below.row hl (by simp) (heap_alloc_new _ _); obtain ⟨a0, a1, a2, a3⟩ := cells2 A; replace A := Lib.hid A) | (replace A := Below.row hl (lt_of_row A.out) A.out; obtain ⟨a0, a1, a2, a3⟩ := cells2 A; replace A := Lib.hid A) | skip); clear hl hL)
      | (go_at_call_of 108 tx; refine (PZ.out _ _ _ ?_ ?_).mono ?_; (first | exact TXw.out | exact (TXw.out).below ((Below.refl _ _).alloc (Nat.le_refl _) _)); (first | exact TYw.out | exact (TYw.out).below ((Below.refl _ _).alloc (Nat.le_refl _) _)); rintro e wd ⟨tz, rfl, ⟨dz, rfl, hz⟩, hl⟩; obtain ⟨zp, zl, zc, rfl⟩ := hz.slice; have hL : Below wc.heap.size wc wd := (by first | exact hl | exact ((Below.refl _ _).alloc (Nat.le_refl _) _).trans (hl.mono (by simp))); have Ld := Lib.hid (Lc.out.step hL); have Nd := Lib.hid (lt_of_row (Ld.out.row 2 _ rfl rfl)); replace XG := Lib.hid (XG.out.below hL); replace XA := Lib.hid (XA.out.below hL); have Z := Lib.hid (hz); (first | (have A := Below.row hl (by simp) (heap_alloc_new _ _); obtain ⟨a0, a1, a2, a3⟩ := cells2 A; replace A := Lib.hid A) | (replace A := Below.row hl (lt_of_row A.out) A.out; obtain ⟨a0, a1, a2, a3⟩ := cells2 A; replace A := Lib.hid A) | skip); clear hl hL)
      | (go_at_call_of 111 xa; refine (TY.out _ _ ?_ ?_).mono ?_; (first | exact (⟨_, rfl, XA.out⟩ : WI _ _ _ _) | exact WI.below ⟨_, rfl, XA.out⟩ ((Below.refl _ _).alloc (Nat.le_refl _) _)); (first | exact Lb.out.2 | exact Lb.out.2.alloc Lb.out.2.size _); rintro e wc ⟨ty, rfl, hy, hl⟩; have hL : Below wb.heap.size wb wc := (by first | exact hl | exact ((Below.refl _ _).alloc (Nat.le_refl _) _).trans (hl.mono (by simp))); have Lc := Lib.hid (Lb.out.step hL); have Nc := Lib.hid (lt_of_row (Lc.out.row 2 _ rfl rfl)); replace XG := Lib.hid (XG.out.below hL); replace XA := Lib.hid (XA.out.below hL); replace TXw := Lib.hid (TXw.out.below hL); have TYw := Lib.hid (hy); (first | (have A := Below.row hl (by simp) (heap_alloc_new _ _); obtain ⟨a0, a1, a2, a3⟩ := cells2 A; replace A := Lib.hid A) | (replace A := Below.row hl (lt_of_row A.out) A.out; obtain ⟨a0, a1, a2, a3⟩ := cells2 A; replace A := Lib.hid A) | skip); clear hl hL)
      )
    all_goals (go_wp2_with fail; go_meet)
    all_goals (case rel => first
      | exact ⟨_, _, _, _, rfl, (by (try have := N8.out); (try have := N9.out); (try have := Na.out); (try have := Nb.out); (try have := Nc.out); (try have := Nd.out); omega), Lib.hid (Ld.out.far _ (by simp only [List.length_cons, List.length_nil]; (try have := N8.out); (try have := N9.out); (try have := Na.out); (try have := Nb.out); (try have := Nc.out); (try have := Nd.out); omega) _ _), Lib.hid (set2 A.out _ _), Lib.hid (Z.out.set2 (off2 A.out) _ _), Lib.hid (XG.out.set2 (off2 A.out) _ _), Lib.hid (XA.out.set2 (off2 A.out) _ _)⟩
      | exact ⟨wd.heap.size, _, _, _, rfl, (by have := Nd.out; omega), Lib.hid (Ld.out.step ((Below.refl _ _).alloc (Nat.le_refl _) _)), Lib.hid (heap_alloc_new _ _), Lib.hid (Z.out.below ((Below.refl _ _).alloc (Nat.le_refl _) _)), Lib.hid (XG.out.below ((Below.refl _ _).alloc (Nat.le_refl _) _)), Lib.hid (XA.out.below ((Below.refl _ _).alloc (Nat.le_refl _) _))⟩)
  case rest =>
    obtain ⟨g, zp, zl, zc, rfl, hg3, L9, G9, Z9, XG9, XA9⟩ := hcut
    obtain ⟨g0, g1, gf0, gf1⟩ := cells2 G9.out
    clear N8 XB L8 XG XA SA SB TX TY PZ BU
    go_wp2_with fail
    refine (GH.out _ _ _ Z9.out XG9.out).mono ?_
    rintro e w10 ⟨xh, rfl, hh, hl⟩
    have XH := Lib.hid hh
    have L10 := Lib.hid (L9.out.step hl)
    have G10 := Lib.hid (Below.row hl (lt_of_row G9.out) G9.out)
    have Z10 := Lib.hid (Z9.out.below hl)
    have XA10 := Lib.hid (XA9.out.below hl)
    clear hh hl L9 G9 Z9 XG9 XA9 g0 g1 gf0 gf1 GH
    go_wp2_with fail
    go_cut [10] from 11 (fun s10 W => ∃ g2 qp ql qc, s10 = .pointer (some ⟨g2, 0, none⟩) ∧ w.heap.size + 3 ≤ g2 ∧ Hid (Lay w [(#[.bool false, .slice up ul uc, .slice up' ul' uc'], 45), (#[.bool false, .slice vp vl vc, .slice vp' vl' vc'], 45), (#[.bool false, .slice none 0 0, .slice none 0 0], 45)] W) ∧ Hid (W.heap[g2]? = some (.cells #[.bool false, .slice qp ql qc] 31 (0, 0))) ∧ Hid (Dig W (.slice qp ql qc) p) ∧ Hid (Dig W xh h) ∧ Hid (Dig W xa a))
    case first =>
      have N10 := Lib.hid (lt_of_row (L10.out.row 2 _ rfl rfl))
      have M10 := Lib.hid (lt_of_row G10.out)
      replace L10 := Lib.hid L10.out.drew
      replace XH := Lib.hid (XH.out.below ((Below.refl _ _).drew))
      replace XA10 := Lib.hid (XA10.out.below ((Below.refl _ _).drew))
      replace Z10 := Lib.hid (Z10.out.below ((Below.refl _ _).drew))
      go_region_held3 (fun W => (W.cell? ⟨g, 0, none⟩ = some (.bool false) ∧ W.cell? ⟨g, 1, none⟩ = some (.slice zp zl zc)) ∧ Hid (W.heap[g]? = some (.cells #[.bool false, .slice zp zl zc] 31 (0, 0)))) (first | exact sOfG (rowFar Gb.out (by have := lt_of_row Ga.out; omega) _ _) | exact sOfG (rowFar Gb.out (by have := M10.out; omega) _ _) | exact sOfG Gb.out | exact sOfG Ga.out | exact sOfG G10.out | exact sOfG (rowAlloc Gb.out) | exact sOfG (rowAlloc Ga.out) | exact sOfG (rowAlloc G10.out)) (first
        | (go_at_call 171; refine (E3.out _ _ _ ?_ ?_).mono ?_; (first | exact Z10.out | exact (Z10.out).below ((Below.refl _ _).alloc (Nat.le_refl _) _)); (first | exact XH.out | exact (XH.out).below ((Below.refl _ _).alloc (Nat.le_refl _) _)); rintro e wa ⟨xp, rfl, hy, hl⟩; have hL : Below w10.drew.heap.size w10.drew wa := (by first | exact hl | exact ((Below.refl _ _).alloc (Nat.le_refl _) _).trans (hl.mono (by simp))); have La := Lib.hid (L10.out.step hL); have Ga := Lib.hid (Below.row hL (lt_of_row G10.out) G10.out); have XP := Lib.hid hy; replace XH := Lib.hid (XH.out.below hL); replace XA10 := Lib.hid (XA10.out.below hL); have Na := Lib.hid (lt_of_row (La.out.row 2 _ rfl rfl)); (first | (have A := Below.row hl (by simp) (heap_alloc_new _ _); obtain ⟨a0, a1, a2, a3⟩ := cells2 A; replace A := Lib.hid A) | skip); clear hl hL)
        | (go_at_call 90; refine (SP.out _ _ ?_).mono ?_; (first | exact XP.out | exact (XP.out).below ((Below.refl _ _).alloc (Nat.le_refl _) _)); rintro e wb ⟨rfl, hl⟩; have hL : Below wa.heap.size wa wb := (by first | exact hl | exact ((Below.refl _ _).alloc (Nat.le_refl _) _).trans (hl.mono (by simp))); obtain ⟨qp, ql, qc, rfl⟩ := XP.out.slice; have Lb := Lib.hid (La.out.step hL); have Gb := Lib.hid (Below.row hL (lt_of_row Ga.out) Ga.out); replace XP := Lib.hid (XP.out.below hL); replace XH := Lib.hid (XH.out.below hL); replace XA10 := Lib.hid (XA10.out.below hL); have Nb := Lib.hid (lt_of_row (Lb.out.row 2 _ rfl rfl)); (first | (have A := Below.row hl (by simp) (heap_alloc_new _ _); obtain ⟨a0, a1, a2, a3⟩ := cells2 A; replace A := Lib.hid A) | (replace A := Below.row hl (lt_of_row A.out) A.out; obtain ⟨a0, a1, a2, a3⟩ := cells2 A; replace A := Lib.hid A) | skip); clear hl hL))
      all_goals (go_wp2_with fail; go_meet)
      all_goals (case rel => first
        | exact ⟨_, _, _, _, rfl, (by (try have := N10.out); (try have := Na.out); (try have := Nb.out); omega), Lib.hid (Lb.out.far _ (by simp only [List.length_cons, List.length_nil]; (try have := N10.out); (try have := Na.out); (try have := Nb.out); omega) _ _), Lib.hid (set2 A.out _ _), Lib.hid (XP.out.set2 (off2 A.out) _ _), Lib.hid (XH.out.set2 (off2 A.out) _ _), Lib.hid (XA10.out.set2 (off2 A.out) _ _)⟩
        | exact ⟨wb.heap.size, _, _, _, rfl, (by have := Nb.out; omega), Lib.hid (Lb.out.step ((Below.refl _ _).alloc (Nat.le_refl _) _)), Lib.hid (heap_alloc_new _ _), Lib.hid (XP.out.below ((Below.refl _ _).alloc (Nat.le_refl _) _)), Lib.hid (XH.out.below ((Below.refl _ _).alloc (Nat.le_refl _) _)), Lib.hid (XA10.out.below ((Below.refl _ _).alloc (Nat.le_refl _) _))⟩)
    case rest =>
      obtain ⟨g2, qp, ql, qc, rfl, hg4, L11, G11, P11, H11, A11⟩ := hcut
      clear L10 G10 Z10 XA10 XH SP E3
      obtain ⟨g0, g1, gf0, gf1⟩ := cells2 G11.out
      obtain ⟨⟨c0, c1, c2, c3, c4, c5⟩, _⟩ := sOfRR L11.out
      go_wp2_with fail
      replace L11 := Lib.hid L11.out.drew
      replace P11 := Lib.hid (P11.out.below ((Below.refl _ _).drew))
      replace H11 := Lib.hid (H11.out.below ((Below.refl _ _).drew))
      replace A11 := Lib.hid (A11.out.below ((Below.refl _ _).drew))
      go_region_held3 (fun W => (W.cell? ⟨g2, 0, none⟩ = some (.bool false) ∧ W.cell? ⟨g2, 1, none⟩ = some (.slice qp ql qc) ∧ W.cell? ⟨w.heap.size + 1, 0, none⟩ = some (.bool false) ∧ W.cell? ⟨w.heap.size + 1, 1, none⟩ = some (.slice vp vl vc) ∧ W.cell? ⟨w.heap.size + 1, 2, none⟩ = some (.slice vp' vl' vc')) ∧ Hid (Below w.heap.size w W)) (first | exact sOfGR G15.out (L15.out.set3 2 _ rfl rfl _ _ _) (heap_set3 (by omega) _ _ _) | exact sOfGR G15.out L15.out | exact sOfGR G14.out L14.out | exact sOfGR G13.out L13.out | exact sOfGR G12.out L12.out | exact sOfGR G11.out L11.out) (first
        | (go_at_call 104; refine (BV.out _ L11.out.2).mono ?_; rintro e w12 ⟨yb, rfl, hy, hl⟩; have L12 := Lib.hid (L11.out.step hl); have G12 := Lib.hid (Below.row hl (lt_of_row G11.out) G11.out); have Y12 := Lib.hid hy; have P12 := Lib.hid (P11.out.below hl); have H12 := Lib.hid (H11.out.below hl); have A12 := Lib.hid (A11.out.below hl); clear hy hl)
        | (go_at_call 171; refine (E4.out _ _ _ Y12.out H12.out).mono ?_; rintro e w13 ⟨xc, rfl, hy, hl⟩; have L13 := Lib.hid (L12.out.step hl); have G13 := Lib.hid (Below.row hl (lt_of_row G12.out) G12.out); have C13 := Lib.hid hy; have P13 := Lib.hid (P12.out.below hl); have A13 := Lib.hid (A12.out.below hl); clear hy hl)
        | (go_at_call 158; refine (TQ.out _ _ _ A13.out C13.out).mono ?_; rintro e w14 ⟨xq, rfl, hy, hl⟩; have L14 := Lib.hid (L13.out.step hl); have G14 := Lib.hid (Below.row hl (lt_of_row G13.out) G13.out); have Q14 := Lib.hid hy; have P14 := Lib.hid (P13.out.below hl); clear hy hl)
        | (go_at_call 103; refine (LW.out _ _ _ ⟨_, rfl, P14.out⟩ Q14.out).mono ?_; rintro e w15 ⟨x, rfl, ⟨x1, x2, rfl, hx1, hx2⟩, hl⟩; obtain ⟨xp, xl, xc, rfl⟩ := hx1.slice; obtain ⟨rp, rl, rc, rfl⟩ := hx2.slice; have L15 := Lib.hid (L14.out.step hl); have G15 := Lib.hid (Below.row hl (lt_of_row G14.out) G14.out); have Hx1 := Lib.hid hx1; have Hx2 := Lib.hid hx2; obtain ⟨b0, b1, b2, f0, f1, f2⟩ := cells3 (L15.out.row 2 (w.heap.size + 1 + 1) rfl rfl); clear hl hx1 hx2))
      go_wp2
      refine bodyPost_ret (res_rat rfl _ _ (w.heap.size + 1 + 1) _ _ _ _ (by rfl) ((L15.out.set3 2 _ rfl rfl _ _ _).row 2 _ rfl rfl)) rfl ?_
      exact ⟨_, rfl, ⟨_, _, rfl, Hx1.out.set3 (off3 (L15.out.row 2 _ rfl rfl)) _ _ _, Hx2.out.set3 (off3 (L15.out.row 2 _ rfl rfl)) _ _ _⟩, (L15.out.set3 2 _ rfl rfl _ _ _).2⟩
end Go.Proofs.YtamhlkjfpdkhoaaGreatDoor
