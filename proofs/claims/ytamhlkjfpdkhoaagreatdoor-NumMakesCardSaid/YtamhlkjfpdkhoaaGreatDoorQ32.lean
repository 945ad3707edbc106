/- WALKS: the strings of integers and fractions, of one word; Make by 0. -/
import Derived.Test.YtamhlkjfpdkhoaaGreatDoorQ30
import Derived.Test.YtamhlkjfpdkhoaaGreatDoorQ31
set_option linter.unusedVariables false
namespace Go.Proofs.YtamhlkjfpdkhoaaGreatDoor
open Go.RowKit

set_option maxRecDepth 100000 in
set_option maxHeartbeats 1000000 in
theorem chunks_word (v : Value) (n : Nat) (w : World) (hd : DN w v n 1) (h0 : 0 < n) (hn : n < 10000000000000000000) :
    Calls Tryz.prog 145 #[v] w fun e w' => ∃ g cap, e = .returned (.slice (some ⟨g, 0, none⟩) 1 cap) ∧ w'.cell? ⟨g, 0, none⟩ = some (.int .u64 n) ∧ g < w'.heap.size ∧ Below w.heap.size w w' := by
  obtain ⟨hz, _⟩ | ⟨_, hB, b, c', rfl, hc⟩ := one_word hd
  · omega
  have hcap : 1 ≤ c' ∧ c' ≤ maxLen := by
    obtain ⟨l, ⟨p', c'', h1, h2, h3, _⟩, _⟩ := hd
    simp only [Value.slice.injEq] at h1
    obtain ⟨_, h4, rfl⟩ := h1
    exact ⟨by omega, h3⟩
  have hwd : Wds w (.slice (some ⟨b, 0, none⟩) [n].length c') [n] := ⟨_, c', rfl, hcap.1, hcap.2, fun i d hi => by
    cases i with
    | zero => simp at hi; subst hi; exact ⟨b, rfl, hc⟩
    | succ i => simp at hi⟩
  have CF : Calls Tryz.prog 91 #[.slice (some ⟨b, 0, none⟩) 1 c'] w fun e w' => e = .returned (.slice (some ⟨w.heap.size, 0, none⟩) 1 1) ∧ w'.cell? ⟨w.heap.size, 0, none⟩ = some (.int .u64 n) ∧ w'.frozen? ⟨w.heap.size, 0, none⟩ = false ∧ Below w.heap.size w w' :=
    (copied_row (some ⟨b, 0, none⟩) c' [n] w hwd ⟨Low.cons hB (Low.nil _), .inr ⟨[], n, rfl, by omega⟩⟩ hcap.2 (by simp) hcap.1 (by simp)).mono fun e w' ⟨h1, h2, h3⟩ => ⟨h1, (h2 0 n rfl).1, (h2 0 n rfl).2, h3⟩
  have DW := fun g W hc hf => divideByWord_any n 10000000000000000000 g 0 W (by omega) (by omega) (by omega) hc hf
  have e1 : n % 10000000000000000000 = n := by omega
  have e2 : n / 10000000000000000000 = 0 := by omega
  rw [e1, e2] at DW
  replace CF := Lib.hid CF
  replace DW := Lib.hid DW
  obtain ⟨i0, hi, hz0, hz1, hz2⟩ := info_parts infoU64
  clear e1 e2 hc h0 hn hwd hcap hd hB
  go_enter Tryz.func145, Tryz.ntmps145
  go_wp2_with fail
  refine CF.out.mono ?_
  rintro e w1 ⟨rfl, hc, hf, hb⟩
  have Hb := Lib.hid hb
  clear hb
  go_wp2_with fail
  refine wp_loop_rounds 2 ?_
  rw [rounds_succ]
  go_wp2_with fail
  refine (DW.out _ _ hc hf).mono ?_
  rintro e w2 ⟨rfl, hc2, hb2⟩
  have Hb2 := Lib.hid (Hb.out.trans hb2)
  obtain ⟨q0, q1, _⟩ := cells_of_cell hc2
  have lt2 : w.heap.size < w2.heap.size := (Array.getElem?_eq_some_iff.1 q1).1
  have ho : Hid (w2.ownsRow w.heap.size 102 1 (.slice none 0 0) 0 []) := Lib.hid ⟨rfl, .inl ⟨rfl, rfl⟩⟩
  clear hb2 Hb hc hf CF DW
  go_wp2_with (at_builtin; refine wpList_append_own _ rfl _ _ 28 rfl w.heap.size 102 i0 (.int .u64 0) 1 8 Tryz.underlying28 hi hz0 hz1 hz2 rfl (by decide) _ _ _ rfl (ho.out.alloc _) ⟨w2.heap.size, 0, none⟩ 1 1 [.int .u64 n] rfl rfl (cell_one_new _ _ _) (fun x hx => by simp at hx; subst hx; rfl) (by decide) (by decide) (by have := Hb2.out.size; simp; omega) ?_; intro v' w3 hown' hgrow3 _; have HO := Lib.hid hown'; have B3 := Lib.hid (((Below.refl w2.heap.size w2).alloc (Nat.le_refl _) _).grown (row := none) hgrow3 (by simp) (fun k hk => by cases hk)); clear hown' hgrow3)
  have hc3 : w3.cell? ⟨w.heap.size, 0, none⟩ = some (.int .u64 0) := (B3.out.cell (p := ⟨w.heap.size, 0, none⟩) lt2).trans hc2
  have CZ := Lib.hid (cut_zero w.heap.size 0 1 w3 hc3)
  clear hc2 hc3
  refine CZ.out.mono ?_
  rintro e w4 ⟨rfl, hd4⟩
  have HD4 := Lib.hid hd4
  clear hd4
  go_wp2_with fail
  rw [rounds_succ]
  go_wp2_with fail
  obtain ⟨g, cap, cur, rfl, hcg⟩ : ∃ g cap cur, v' = .slice (some ⟨g, 0, none⟩) 1 cap ∧ Hid (w3.heap[g]? = some cur ∧ w3.cell? ⟨g, 0, none⟩ = some (.int .u64 n)) := by
    rcases HO.out.2 with ⟨_, hx⟩ | ⟨g, cap, cur, h0, h1, h2, h3⟩
    · simp at hx
    · subst h0
      exact ⟨g, cap, _, rfl, Lib.hid ⟨h2, by have := owns_cells HO.out 0 _ rfl; simpa [Addr.add] using this⟩⟩
  go_ret
  have hb4 : Below w.heap.size w w4 := (Hb2.out.trans (B3.out.mono (Nat.le_of_lt lt2))).trans (HD4.out.below _)
  exact ⟨g, cap, rfl, (HD4.out.cell _).trans hcg.out.2, Nat.lt_of_lt_of_le (lt_of_row hcg.out.1) (HD4.out.below 0).size, hb4⟩

set_option maxRecDepth 100000 in
set_option maxHeartbeats 1000000 in
theorem text_word (v : Value) (n : Nat) (w : World) (hd : DN w v n 1) (h0 : 0 < n) (hn : n < 10000000000000000000) (hlen : (Lib.decDigits n).length ≤ 20) (h1 : 0 < (Lib.decDigits n).length)
    (FU : ∀ W, Below w.heap.size w W → Calls Tryz.prog 146 #[.int .u64 n, .int .i64 10] W fun e w' => e = .returned (.string ⟨(Lib.decDigits n).toArray⟩) ∧ Below W.heap.size W w') :
    Calls Tryz.prog 89 #[v] w fun e w' => e = .returned (.string ⟨(Lib.decDigits n).toArray⟩) ∧ Below w.heap.size w w' := by
  have CH := Lib.hid (chunks_word v n w hd h0 hn)
  obtain ⟨p, l, c, rfl⟩ := hd.slice
  obtain ⟨ds, hds⟩ : ∃ ds, Lib.decDigits n = ds := ⟨_, rfl⟩
  rw [hds] at hlen h1 FU ⊢
  replace FU := Lib.hid FU
  clear hd h0 hn hds
  go_enter Tryz.func89, Tryz.ntmps89
  go_wp2_with fail
  refine CH.out.mono ?_
  rintro e w1 ⟨g, cap, rfl, hc, hg, hb⟩
  have Hb := Lib.hid hb
  have Hg := Lib.hid hg
  have hc' : (w1.alloc (.cells #[.pointer none, .slice none 0 0] 158)).cell? ⟨g, 0, none⟩ = some (.int .u64 n) := (((Below.refl w1.heap.size w1).alloc (Nat.le_refl _) _).cell (p := ⟨g, 0, none⟩) hg).trans hc
  have Ba := Lib.hid ((Below.refl w1.heap.size w1).alloc (Nat.le_refl _) (.cells #[.pointer none, .slice none 0 0] 158))
  have Rb : Hid ((w1.alloc (.cells #[.pointer none, .slice none 0 0] 158)).heap[w1.heap.size]? = some (.cells #[.pointer none, .slice none 0 0] 158 (0, 0))) := Lib.hid (heap_alloc_new _ _)
  clear hb hg CH hc
  go_wp2_with fail
  generalize (w1.alloc (.cells #[.pointer none, .slice none 0 0] 158)) = wa at *
  refine wp_loop_rounds 2 ?_
  rw [rounds_succ]
  go_wp2_with fail
  refine (FU.out _ ?_).mono ?_
  · exact Hb.out.trans (Ba.out.mono Hb.out.size)
  rintro e w2 ⟨rfl, hb2⟩
  have R2 := Lib.hid (Below.row hb2 (lt_of_row Rb.out) Rb.out)
  have B2 := Lib.hid (Ba.out.trans (hb2.mono Ba.out.size))
  have IB := Lib.hid (show Lib.IsBuilder 158 5 w1.heap.size w1.heap.size [] w2 from .inl ⟨Nat.le_refl _, .slice none 0 0, R2.out, ⟨rfl, .inl ⟨rfl, rfl⟩⟩, by simp [Value.ownBlock]⟩)
  clear hb2
  go_wp2_with fail
  refine (Tryz.Builder_Len _ _ _ _ IB.out).mono ?_
  rintro e w3 ⟨rfl, hw3⟩
  subst hw3
  go_wp2_with fail
  have WS := Lib.hid (Tryz.Builder_WriteString _ _ _ ⟨ds.toArray⟩ _ IB.out (by simp [ByteArray.size]; omega) B2.out.size)
  refine WS.out.mono ?_
  rintro e w4 ⟨rfl, hb4, hl4⟩
  have BA := Lib.hid hb4
  have L4 := Lib.hid hl4
  clear hb4 hl4
  go_wp2_with fail
  rw [rounds_succ]
  go_wp2_with fail
  refine (Tryz.Builder_String_any w1.heap.size w1.heap.size ds w4 (.inr BA.out) (Nat.le_trans B2.out.size L4.out.size)).mono ?_
  rintro e w5 ⟨rfl, hl5⟩
  have L5 := Lib.hid hl5
  clear hl5
  go_wp2_with fail
  go_ret
  exact ⟨rfl, (Hb.out.trans ((B2.out.trans (L4.out.trans L5.out)).mono Hb.out.size))⟩

set_option maxRecDepth 100000 in
set_option maxHeartbeats 1000000 in
theorem IString_all (v : Value) (s : Bool) (n K : Nat) (ds : List UInt8) (w : World) (hv : WS w v s n K) (hl : ds.length ≤ 100000)
    (TX : ∀ W d, Below w.heap.size w W → DN W d n K → Calls Tryz.prog 89 #[d] W fun e w' => e = .returned (.string ⟨ds.toArray⟩) ∧ Below W.heap.size W w') :
    Calls Tryz.prog 17 #[v] w fun e w' => e = .returned (.string ⟨(if s then 45 :: ds else ds).toArray⟩) ∧ Below w.heap.size w w' := by
  obtain ⟨d, rfl, hd⟩ := hv
  obtain ⟨p, l, c, rfl⟩ := hd.slice
  have T := Lib.hid (fun W (hb : Below w.heap.size w W) => TX W _ hb (hd.below hb))
  clear TX hd
  cases s
  · go_enter Tryz.func17, Tryz.ntmps17
    go_wp2_with fail
    refine (T.out _ ((Below.refl _ _).alloc (Nat.le_refl _) _)).mono ?_
    rintro e w1 ⟨rfl, hb⟩
    have Hb := Lib.hid (((Below.refl w.heap.size w).alloc (Nat.le_refl _) _).trans (hb.mono (by simp)))
    clear hb
    go_wp2_with fail
    go_ret
    exact ⟨rfl, Hb.out⟩
  · go_enter Tryz.func17, Tryz.ntmps17
    go_wp2_with fail
    refine (T.out _ ((Below.refl _ _).alloc (Nat.le_refl _) _)).mono ?_
    rintro e w1 ⟨rfl, hb⟩
    have Hb := Lib.hid (((Below.refl w.heap.size w).alloc (Nat.le_refl _) _).trans (hb.mono (by simp)))
    clear hb
    have hlim : ¬ 9223372036854775807 < 1 + ds.length := by omega
    go_wp2_with fail
    go_ret
    exact ⟨ret_str (bcat [45] ds), Hb.out⟩

set_option maxRecDepth 100000 in
set_option maxHeartbeats 1000000 in
theorem RString_all (v : Value) (s : Bool) (n k K : Nat) (ds es : List UInt8) (w : World) (hv : WQ w v s n k K) (hk : k ≠ 0) (hl : ds.length ≤ 100000) (hl' : es.length ≤ 100000)
    (TX : ∀ W d, Below w.heap.size w W → DN W d n K → Calls Tryz.prog 89 #[d] W fun e w' => e = .returned (.string ⟨ds.toArray⟩) ∧ Below W.heap.size W w')
    (TY : ∀ W d, Below w.heap.size w W → DN W d k K → Calls Tryz.prog 89 #[d] W fun e w' => e = .returned (.string ⟨es.toArray⟩) ∧ Below W.heap.size W w') :
    Calls Tryz.prog 23 #[v] w fun e w' => e = .returned (.string ⟨((if s then 45 :: ds else ds) ++ 47 :: es).toArray⟩) ∧ Below w.heap.size w w' := by
  have IW := fun W (hb : Below w.heap.size w W) => isWhole_all v s n k K W (hv.below hb)
  have e1 : decide (k = 0) = false := by simp [hk]
  rw [e1] at IW
  obtain ⟨d, e, rfl, hd, he⟩ := hv
  obtain ⟨p, l, c, rfl⟩ := hd.slice
  obtain ⟨p', l', c', rfl⟩ := he.slice
  have NS := Lib.hid (fun W (hb : Below w.heap.size w W) => IString_all (.agg #[.bool s, .slice p l c]) s n K ds W ⟨_, rfl, hd.below hb⟩ hl (fun W' d h hd => TX W' d (hb.trans (h.mono hb.size)) hd))
  obtain ⟨fs, hfs, hfl⟩ : ∃ fs, (if s then 45 :: ds else ds) = fs ∧ fs.length ≤ 100001 := ⟨_, rfl, by split <;> (try simp only [List.length_cons]) <;> omega⟩
  rw [hfs] at NS ⊢
  have T := Lib.hid (fun W (hb : Below w.heap.size w W) => TY W _ hb (he.below hb))
  replace IW := Lib.hid IW
  have L0 := Lib.hid ((LayX.nil w).push #[.bool s, .slice p l c, .slice p' l' c'] 45)
  clear TX TY hd he hfs e1 hk
  go_enter Tryz.func23, Tryz.ntmps23
  go_wp2_with fail
  refine (IW.out _ L0.out.1.2).mono ?_
  rintro e w1 ⟨rfl, hb⟩
  have L1 : Hid (Lay w [(#[.bool s, .slice p l c, .slice p' l' c'], 45)] w1) := Lib.hid (L0.out.1.step hb)
  obtain ⟨⟨c0, c1, c2⟩, _⟩ := sOfR L1.out
  clear hb L0
  go_wp2_with fail
  have l1 : ¬ 9223372036854775807 < fs.length + 1 := by omega
  have l2 : ¬ 9223372036854775807 < fs.length + 1 + es.length := by omega
  replace L1 := Lib.hid L1.out.drew
  clear c0 c1 c2
  go_region_held3 (fun W => (W.cell? ⟨w.heap.size, 0, none⟩ = some (.bool s) ∧ W.cell? ⟨w.heap.size, 1, none⟩ = some (.slice p l c) ∧ W.cell? ⟨w.heap.size, 2, none⟩ = some (.slice p' l' c')) ∧ Hid (∃ rest, Lay w ((#[.bool s, .slice p l c, .slice p' l' c'], 45) :: rest) W)) (first | exact sOfR T3.out | exact sOfR T2.out | exact sOfR L1.out) (first
    | (go_at_call 17; refine (NS.out _ ?_).mono ?_; exact L1.out.2; rintro e w2 ⟨rfl, hb2⟩; have T2 := Lib.hid (L1.out.step hb2); clear hb2)
    | (go_at_call 89; refine (T.out _ ?_).mono ?_; exact T2.out.2; rintro e w3 ⟨rfl, hb3⟩; have T3 := Lib.hid (T2.out.step hb3); clear hb3))
  go_wp2
  go_ret
  exact ⟨ret_str (by rw [show (⟨#[47]⟩ : ByteArray) = ⟨[47].toArray⟩ from rfl, bcat, bcat]; simp), T3.out.2⟩

set_option maxRecDepth 100000 in
set_option maxHeartbeats 1000000 in
theorem RString_whole (v : Value) (s : Bool) (n K : Nat) (ds : List UInt8) (w : World) (hv : WQ w v s n 0 K) (hl : ds.length ≤ 100000)
    (TX : ∀ W d, Below w.heap.size w W → DN W d n K → Calls Tryz.prog 89 #[d] W fun e w' => e = .returned (.string ⟨ds.toArray⟩) ∧ Below W.heap.size W w') :
    Calls Tryz.prog 23 #[v] w fun e w' => e = .returned (.string ⟨(if s then 45 :: ds else ds).toArray⟩) ∧ Below w.heap.size w w' := by
  have IW := fun W (hb : Below w.heap.size w W) => isWhole_all v s n 0 K W (hv.below hb)
  have e1 : decide ((0 : Nat) = 0) = true := rfl
  rw [e1] at IW
  obtain ⟨d, e, rfl, hd, he⟩ := hv
  obtain ⟨p, l, c, rfl⟩ := hd.slice
  obtain ⟨p', l', c', rfl⟩ := he.slice
  have NS := Lib.hid (fun W (hb : Below w.heap.size w W) => IString_all (.agg #[.bool s, .slice p l c]) s n K ds W ⟨_, rfl, hd.below hb⟩ hl (fun W' d h hd => TX W' d (hb.trans (h.mono hb.size)) hd))
  obtain ⟨fs, hfs⟩ : ∃ fs, (if s then 45 :: ds else ds) = fs := ⟨_, rfl⟩
  rw [hfs] at NS ⊢
  replace IW := Lib.hid IW
  have L0 := Lib.hid ((LayX.nil w).push #[.bool s, .slice p l c, .slice p' l' c'] 45)
  clear TX hd he hfs e1
  go_enter Tryz.func23, Tryz.ntmps23
  go_wp2_with fail
  refine (IW.out _ L0.out.1.2).mono ?_
  rintro e w1 ⟨rfl, hb⟩
  have L1 : Hid (Lay w [(#[.bool s, .slice p l c, .slice p' l' c'], 45)] w1) := Lib.hid (L0.out.1.step hb)
  obtain ⟨⟨c0, c1, c2⟩, _⟩ := sOfR L1.out
  clear hb L0
  go_wp2_with fail
  refine (NS.out _ L1.out.2).mono ?_
  rintro e w2 ⟨rfl, hb2⟩
  have T2 := Lib.hid (L1.out.step hb2)
  clear hb2 L1
  go_wp2_with fail
  go_ret
  exact ⟨rfl, T2.out.2⟩

set_option maxRecDepth 100000 in
set_option maxHeartbeats 1000000 in
theorem Quo_zero (u v : Value) (s : Bool) (n k K : Nat) (w : World) (hu : WQ w u s n k K) (hv : WQ w v false 0 0 K) :
    Calls Tryz.prog 60 #[u, v] w fun e w' => e = .returned (.tuple #[.agg #[.bool false, .slice none 0 0, .slice none 0 0], .int .i64 6]) ∧ Below w.heap.size w w' := by
  have SG := fun W (hb : Below w.heap.size w W) => RSign_all v false 0 0 K W (hv.below hb) (fun _ => rfl)
  obtain ⟨xd, xe, rfl, hd1, he1⟩ := hu
  obtain ⟨yd, ye, rfl, hd2, he2⟩ := hv
  obtain ⟨up, ul, uc, rfl⟩ := hd1.slice
  obtain ⟨up', ul', uc', rfl⟩ := he1.slice
  obtain ⟨vp, vl, vc, rfl⟩ := hd2.slice
  obtain ⟨vp', vl', vc', rfl⟩ := he2.slice
  have e0 : (if (0 : Nat) = 0 then (0 : Int) else if false then -1 else 1) = 0 := rfl
  simp only [e0] at SG
  replace SG := Lib.hid SG
  have L0 := Lib.hid ((((LayX.nil w).push #[.bool s, .slice up ul uc, .slice up' ul' uc'] 45).push #[.bool false, .slice vp vl vc, .slice vp' vl' vc'] 45).push #[.bool false, .slice none 0 0, .slice none 0 0] 45)
  clear hd1 he1 hd2 he2 e0
  go_enter Tryz.func60, Tryz.ntmps60
  go_wp2_with fail
  refine (SG.out _ L0.out.1.2).mono ?_
  rintro e w1 ⟨rfl, hb⟩
  have L1 : Hid (Lay w [(#[.bool s, .slice up ul uc, .slice up' ul' uc'], 45), (#[.bool false, .slice vp vl vc, .slice vp' vl' vc'], 45), (#[.bool false, .slice none 0 0, .slice none 0 0], 45)] w1) := Lib.hid (L0.out.1.step hb)
  obtain ⟨b0, b1, b2, f0, f1, f2⟩ := cells3 (L1.out.row 2 (w.heap.size + 1 + 1) rfl rfl)
  clear hb L0
  go_wp2_with fail
  refine bodyPost_ret (res_rat_err rfl _ _ (w.heap.size + 1 + 1) _ _ _ _ _ (by rfl) (by rfl) ((L1.out.set3 2 _ rfl rfl _ _ _).row 2 _ rfl rfl)) rfl ?_
  exact ⟨rfl, (L1.out.set3 2 _ rfl rfl _ _ _).2⟩

set_option maxRecDepth 100000 in
set_option maxHeartbeats 1000000 in
theorem Make_zero (x : Int) (s : Bool) (n : Nat) (w : World) (hx1 : -9223372036854775808 ≤ x) (hx2 : x < 9223372036854775808) (es : decide (x < 0) = s) (en : x.natAbs = n) :
    Calls Tryz.prog 39 #[.int .i64 x, .int .i64 0] w fun e w' => e = .returned (.tuple #[.agg #[.bool false, .slice none 0 0, .slice none 0 0], .int .i64 6]) ∧ Below w.heap.size w w' := by
  have OF := fun W => Of_all x s n 1 W (fun W => by have h := Whole_all x W hx1 hx2; unfold WZ at h; rw [es, en] at h; exact h)
  have OF' := fun W => Of_all 0 false 0 1 W (fun W => Whole_all 0 W (by omega) (by omega))
  have QU := fun u v W hu hv => Quo_zero u v s n 0 1 W hu hv
  replace OF := Lib.hid OF
  replace OF' := Lib.hid OF'
  replace QU := Lib.hid QU
  have L0 := Lib.hid ((LayX.nil w).push #[.bool false, .slice none 0 0, .slice none 0 0] 45)
  clear es en hx1 hx2
  go_enter Tryz.func39, Tryz.ntmps39
  go_wp2_with fail
  refine (OF.out _).mono ?_
  rintro e w1 ⟨vx, rfl, hx, hb⟩
  have L1 : Hid (Lay w [(#[.bool false, .slice none 0 0, .slice none 0 0], 45)] w1) := Lib.hid (L0.out.1.step hb)
  have Hx := Lib.hid hx
  clear hx hb L0
  go_wp2_with fail
  refine (OF'.out _).mono ?_
  rintro e w2 ⟨vy, rfl, hy, hb⟩
  have L2 := Lib.hid (L1.out.step hb)
  have Hy := Lib.hid hy
  replace Hx := Lib.hid (Hx.out.below hb)
  clear hy hb L1
  go_wp2_with fail
  refine (QU.out _ _ _ Hx.out Hy.out).mono ?_
  rintro e w3 ⟨rfl, hb⟩
  have L3 := Lib.hid (L2.out.step hb)
  obtain ⟨b0, b1, b2, f0, f1, f2⟩ := cells3 (L3.out.row 0 w.heap.size rfl rfl)
  clear hb L2
  go_wp2_with fail
  refine bodyPost_ret (res_rat_err rfl _ _ w.heap.size _ _ _ _ _ (by rfl) (by rfl) ((L3.out.set3 0 _ rfl rfl _ _ _).row 0 _ rfl rfl)) rfl ?_
  exact ⟨rfl, (L3.out.set3 0 _ rfl rfl _ _ _).2⟩
end Go.Proofs.YtamhlkjfpdkhoaaGreatDoor
