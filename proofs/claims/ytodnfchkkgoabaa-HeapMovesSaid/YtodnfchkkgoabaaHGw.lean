/- WALK of graph of the law. -/
import Derived.Test.YtodnfchkkgoabaaHBt
import Derived.Deep.CutBlock
set_option linter.unusedVariables false
namespace Go.Proofs.Ytodnfchkkgoabaa
open Go.RowKit

theorem cell_ltA {W : World} {a : Addr} {v : Value} (hc : W.cell? a = some v) : a.block < W.heap.size := by
  rcases Nat.lt_or_ge a.block W.heap.size with h | h
  · exact h
  · have : W.heap[a.block]? = none := Array.getElem?_eq_none h
    simp [World.cell?, this] at hc
theorem cellOfA {B : Nat} {W X : World} (h : Below B W X) {a : Addr} {v : Value} (hc : W.cell? a = some v) (hb : a.block < B) : X.cell? a = some v := (h.cell (p := a) hb).trans hc

/-- Integers in a slice that came in, wherever it lies. -/
def NA (w : World) (p : Option Addr) (L : List Int) : Prop := ∀ i, i < L.length → ∃ a : Addr, p = some a ∧ w.cell? (a.add i) = some (.int .i64 (L.getD i 0))
/-- Lists of integers in a slice of slices that came in. -/
def GA (w : World) (p : Option Addr) (G : List (List Int)) : Prop := ∀ v, v < G.length → ∃ (a : Addr) (pv : Option Addr) (cv : Nat), p = some a ∧ w.cell? (a.add v) = some (.slice pv (G.getD v []).length cv) ∧ NA w pv (G.getD v [])
theorem GA.row {w : World} {p : Option Addr} {G : List (List Int)} (h : GA w p G) {v : Nat} (hv : v < G.length) {R : List Int} (hR : G.getD v [] = R) : ∃ (a : Addr) (pv : Option Addr) (cv : Nat), p = some a ∧ w.cell? (a.add v) = some (.slice pv R.length cv) ∧ NA w pv R := by
  rw [← hR]; exact h v hv
theorem NA.under {W X : World} {p : Option Addr} {L : List Int} (h : NA W p L) (hb : Below W.heap.size W X) : NA X p L := by
  intro i hi
  obtain ⟨g, e, hc⟩ := h i hi
  exact ⟨g, e, cellOfA hb hc (cell_ltA hc)⟩
theorem GA.under {W X : World} {p : Option Addr} {G : List (List Int)} (h : GA W p G) (hb : Below W.heap.size W X) : GA X p G := by
  intro v hv
  obtain ⟨g, pv, cv, e, hc, hn⟩ := h v hv
  exact ⟨g, pv, cv, e, cellOfA hb hc (cell_ltA hc), hn.under hb⟩

/-- A row that rises, of numbers below b. -/
def RowOk (b : Nat) (R : List Nat) : Prop := R.Pairwise (· < ·) ∧ (∀ x ∈ R, x < b) ∧ R.length ≤ b
theorem RowOk.nil (b : Nat) : RowOk b [] := ⟨List.Pairwise.nil, fun x h => by (cases h), by simp⟩
theorem RowOk.more {b c : Nat} {R : List Nat} (h : RowOk b R) (hc : b ≤ c) : RowOk c R := ⟨h.1, fun x hx => Nat.lt_of_lt_of_le (h.2.1 x hx) hc, Nat.le_trans h.2.2 hc⟩
theorem RowOk.push {b : Nat} {R : List Nat} (h : RowOk b R) : RowOk (b + 1) (R ++ [b]) := by
  refine ⟨List.pairwise_append.2 ⟨h.1, by simp, fun a ha c hc => ?_⟩, fun x hx => ?_, ?_⟩
  · simp at hc; subst hc; exact h.2.1 a ha
  · rcases List.mem_append.1 hx with hx | hx
    · have := h.2.1 x hx; omega
    · simp at hx; omega
  · have := h.2.2; simp; omega
theorem RowOk.chk {n : Nat} : ∀ (R : List Nat) (last : Int), R.Pairwise (· < ·) → (∀ x ∈ R, last < (x : Int) ∧ x < n) → chkRow n last (ints R) = true := by
  intro R
  induction R with
  | nil => intro last _ _; rfl
  | cons a R ih =>
    intro last hp hx
    rw [List.pairwise_cons] at hp
    unfold ints
    rw [List.map_cons]
    unfold chkRow
    have h1 := hx a (by simp)
    have h2 := ih (a : Int) hp.2 (fun x hx' => ⟨by have := hp.1 x hx'; omega, (hx x (by simp [hx'])).2⟩)
    unfold ints at h2
    rw [h2]
    simp; omega
theorem chk_rows {n : Nat} {F : List (List Nat)} (h1 : 1 ≤ n) (h2 : n ≤ 200) (hl : F.length = n) (h : ∀ y, RowOk n (F.getD y [])) : Go.Proofs.Ytodnfchkkgoabaa.chk (intG F) = true := by
  unfold Go.Proofs.Ytodnfchkkgoabaa.chk
  have e : (intG F).length = n := by simp [intG, hl]
  rw [e]
  simp only [Bool.and_eq_true, decide_eq_true_eq, List.all_eq_true]
  refine ⟨⟨h1, h2⟩, fun r hr => ?_⟩
  unfold intG at hr
  obtain ⟨R, hR, rfl⟩ := List.mem_map.1 hr
  obtain ⟨v, rfl⟩ := row_mem hR
  exact RowOk.chk _ _ (h v).1 (fun x hx => ⟨by omega, (h v).2.1 x hx⟩)
theorem Frm.gn {w : World} {h n : Nat} {F : List (List Nat)} {f : Nat → Value} (H : Frm w h n F f) : GN w (some ⟨h, 0, none⟩) F := by
  intro v hv
  have hv : v < n := by rw [← H.len]; exact hv
  have ho := H.row v hv
  have hc := H.head.cell hv
  obtain ⟨p, c, e, _⟩ := ho.slice
  rw [e] at ho hc
  exact ⟨h, p, c, rfl, hc, ho.ns⟩

theorem infoBool2 : (Try.prog.info? 4).map (fun i => (i.zero, i.size, i.bytes)) = some (some (.bool false), 1, 1) := by kernel_rfl

set_option maxRecDepth 100000 in
set_option maxHeartbeats 4000000 in
theorem graph_any (L : List (List Int)) (p : Option Addr) (c most : Nat) (W : World) (hL : GA W p L) (hm1 : 1 ≤ most) (hm : most ≤ 200) (hll : L.length ≤ 9223372036854775807) (hrl : ∀ v, (L.getD v []).length ≤ 9223372036854775807) :
    Calls Try.prog 41 #[.slice p L.length c, .int .i64 most] W fun e w' => ∃ h G, e = .returned (.slice (some ⟨h, 0, none⟩) G.length G.length) ∧ GN w' (some ⟨h, 0, none⟩) G ∧ chk (intG G) = true ∧ G.length ≤ most ∧ Below W.heap.size W w' := by
  obtain ⟨ln, hln⟩ : ∃ m, L.length = m := ⟨_, rfl⟩
  have HLN := Lib.hid hln
  have HL := Lib.hid hL
  have HRL := Lib.hid hrl
  rw [hln] at hll ⊢
  clear hln hL hrl
  obtain ⟨i0, hi, hz0, hz1, hz2⟩ := info_parts infoRow
  obtain ⟨i1, hj, hy0, hy1, hy2⟩ := info_parts infoInt
  obtain ⟨i2, hk, hx0, hx1, hx2⟩ := info_parts infoBool2
  go_enter Try.func41, Try.ntmps41
  go_upto_region 1 with fail
  go_cut [5] from 12 to 16 (fun x wx => (∃ n : Nat, x = .int .i64 n ∧ 1 ≤ n ∧ n ≤ most) ∧ W = wx)
  case first =>
    go_wp2_with fail
    all_goals (
      go_meet
      case rel => exact ⟨by first | exact ⟨1, rfl, by omega, by omega⟩ | exact ⟨ln, rfl, by omega, by omega⟩ | exact ⟨most, rfl, by omega, by omega⟩, rfl⟩)
  case rest =>
    obtain ⟨⟨n, rfl, n1, n2⟩, rfl⟩ := hcut
    have n3 : n ≤ 200 := by omega
    obtain ⟨zc, hzc⟩ : ∃ z, madeCells (Value.bool false).cells (n * 1) = z := ⟨_, rfl⟩
    have hmk : ∀ w : World, (Instr.makeSlice 66 (.int .i64 (n : Int)) (.int .i64 (n : Int))).run Try.prog w = .ok (.slice (some ⟨w.heap.size, 0, none⟩) n n) (w.alloc (.cells zc 4)) := fun w => by
      have hr := run_make (P := Try.prog) w 66 4 i2 (.bool false) Try.underlying66 hk hx0 .i64 .i64 n n (by omega) (Int.le_refl _) (by rw [hx2]; omega) (by omega)
      simp only [Int.toNat_natCast, hx1, hzc] at hr
      exact hr
    have HZ : Hid (∀ (w : World) (g : Nat), w.heap[g]? = some (.cells zc 4 (0, 0)) → Blk w g n (fun _ => .bool false)) := Lib.hid (fun w g h => by
      refine ⟨zc, _, h, by rw [← hzc, size_madeCells]; omega, fun i hi => ?_⟩
      have : zc.toList = List.replicate n (.bool false) := by rw [← hzc, Nat.mul_one]; exact toList_madeCells_one _ _
      have h2 : zc.toList[i]? = some (.bool false) := by rw [this, List.getElem?_replicate, if_pos hi]
      rw [← h2]; simp)
    clear hzc
    go_wp2_with (at_make; refine wpList_make_full _ rfl _ _ 33 rfl W.heap.size 22 i0 (.slice none 0 0) 1 Try.underlying33 hi hz0 hz1 .i64 .i64 (n : Int) (n : Int) n rfl rfl rfl rfl (by rw [hz2]; omega) (by unfold maxLen; omega) (Nat.le_refl _) ?_; intro w1 hown1 hgrow1)
    have st : Frm w1 W.heap.size n (List.replicate n []) (fun _ => .slice none 0 0) := by
      rw [Nat.mul_one, show (Value.slice none 0 0).cells = #[Value.slice none 0 0] from rfl, toList_madeCells_one] at hown1
      refine ⟨by simp, (Blk.of_own (d := .slice none 0 0) hown1).congr (fun i hi => ?_), fun x hx => ?_, fun x y b _ _ _ e => by cases e⟩
      · rw [List.getD_eq_getElem?_getD, List.getElem?_replicate]; split <;> rfl
      · rw [List.getD_eq_getElem?_getD, List.getElem?_replicate, if_pos hx]; exact OwnN.nil _ _
    have hb1 : Below W.heap.size W w1 := ⟨hgrow1.os, hgrow1.tape, hgrow1.output, hgrow1.size, fun k hk => hgrow1.block k hk (by simp)⟩
    have ST := Lib.hid st
    have HB1 := Lib.hid hb1
    clear st hb1 hown1 hgrow1
    obtain ⟨h, hh⟩ : ∃ h, W.heap.size = h := ⟨_, rfl⟩
    rw [hh] at ST HB1
    have HH := Lib.hid hh
    simp only [hh]
    clear hh
    go_loopw [7] (fun x wr => ∃ (v : Nat) (F : List (List Nat)) (f : Nat → Value), x = .int .i64 v ∧ v ≤ n ∧ Hid (Frm wr h n F f) ∧ Hid (∀ y, RowOk n (F.getD y [])) ∧ Hid (∀ y, v ≤ y → F.getD y [] = []) ∧ Hid (Below h W wr)) (fun x _ => n - (intOf x).toNat)
    case atStart => exact ⟨0, _, _, rfl, by omega, ST, Lib.hid (fun y => by rw [nil_row]; exact RowOk.nil _), Lib.hid (fun y _ => by rw [nil_row]), HB1⟩
    case round =>
      clear ST HB1
      obtain ⟨v, F, f, rfl, hv, hfrm, hok, hnil, hb⟩ := hrel
      by_cases hlt : v < n
      · by_cases hlt2 : v < ln
        · obtain ⟨R, hR⟩ : ∃ R, L.getD v [] = R := ⟨_, rfl⟩
          obtain ⟨m, hm'⟩ : ∃ m, R.length = m := ⟨_, rfl⟩
          have HM := Lib.hid hm'
          have hml : m ≤ 9223372036854775807 := by have := HRL.out v; rw [hR, hm'] at this; exact this
          have HROW : Hid (∀ X, Below h W X → ∃ (g : Addr) (pv : Option Addr) (cv : Nat), p = some g ∧ X.cell? (g.add v) = some (.slice pv m cv) ∧ NA X pv R) := Lib.hid (fun X hX => by
            have := (HL.out.under (X := X) (by rw [HH.out]; exact hX)).row (by rw [HLN.out]; exact hlt2) hR
            rw [hm'] at this
            exact this)
          obtain ⟨b, hbb⟩ : ∃ b, wr.heap.size = b := ⟨_, rfl⟩
          obtain ⟨w2, hw2⟩ : ∃ w2, wr.alloc (.cells zc 4) = w2 := ⟨_, rfl⟩
          have HBK : Hid (Blk w2 b n (fun _ => .bool false)) := Lib.hid (HZ.out _ _ (by rw [← hw2, ← hbb]; exact heap_alloc_new _ _))
          have HB2 : Hid (Below b wr w2) := Lib.hid (by rw [← hw2, ← hbb]; exact (Below.refl _ wr).alloc (Nat.le_refl _) _)
          have hhb : h ≤ b := by have := hb.out.size; have := HH.out; omega
          have HBE := Lib.hid hbb
          clear hR hm'
          obtain ⟨g, pv, cv, rfl, cr, -⟩ := HROW.out wr hb.out
          clear cr
          go_wp2_with fail
          have HF2 : Hid (Frm w2 h n F f) := Lib.hid (hfrm.out.under (by rw [hbb]; exact HB2.out))
          have HFB : Hid (∀ x b', x < n → (f x).ownBlock = some b' → b' < b) := Lib.hid (fun x b' hx e => by have := ((hfrm.out.row x hx).block_lt e).1; omega)
          have hhl : h < b := by have := hfrm.out.head.lt; omega
          have HBW : Hid (Below h W w2) := Lib.hid (hb.out.trans (HB2.out.mono hhb))
          clear hmk hw2 hbb hfrm hb HB2 HBE
          go_loopw [9] (fun x wx => ∃ (k : Nat) (q : Nat → Bool), x = .int .i64 k ∧ k ≤ 8 ∧ k ≤ m ∧ Hid (Blk wx b n (fun j => .bool (q j))) ∧ Hid (Below b w2 wx)) (fun x _ => 8 - (intOf x).toNat)
          case atStart => exact ⟨0, _, rfl, by omega, by omega, HBK, Lib.hid (Below.refl _ _)⟩
          case round =>
            clear HBK
            obtain ⟨k, q, rfl, k8, km, hbk, hbx⟩ := hrel
            have HBX : Hid (Below h W wr) := Lib.hid (HBW.out.trans (hbx.out.mono hhb))
            obtain ⟨g', pv', cv', e, cr, hnr⟩ := HROW.out wr HBX.out
            cases e
            have HNR := Lib.hid hnr
            clear hnr
            by_cases hk8 : k < 8 ∧ k < m
            · obtain ⟨hk8, hkm⟩ := hk8
              obtain ⟨g2, rfl, cx⟩ := HNR.out k (by rw [HM.out]; exact hkm)
              generalize R.getD k 0 = x at cx
              obtain ⟨z, hz, hzn⟩ : ∃ z : Nat, (IntKind.u64.wrap x).tmod (n : Int) = (z : Int) ∧ z < n := by
                have h1 : 0 ≤ IntKind.u64.wrap x := by
                  have : IntKind.u64.wrap x = x % 2 ^ 64 := by rfl
                  omega
                have h2 : 0 ≤ (IntKind.u64.wrap x).tmod (n : Int) := Int.tmod_nonneg _ h1
                have h3 : (IntKind.u64.wrap x).tmod (n : Int) < n := Int.tmod_lt_of_pos _ (by omega)
                exact ⟨((IntKind.u64.wrap x).tmod (n : Int)).toNat, by omega, by omega⟩
              have hcz := hbk.out.cell hzn
              have hfz := hbk.out.frozen z
              have HBL := Lib.hid hbk.out.lt
              have bkm : (k : Int) < (m : Int) := by omega
              go_wp2_with fail
              go_roundw
              case rel => exact ⟨k + 1, fun j => if j = z then true else q j, by go_num, by omega, by omega, Lib.hid ((hbk.out.set z (.bool true)).congr (fun j _ => by
                show (if j = z then Value.bool true else Value.bool (q j)) = Value.bool (if j = z then true else q j)
                split <;> rfl)), Lib.hid (hbx.out.setCell (by simp) _)⟩
              case measure => simp [intOf]; omega
            · have HE : Hid (Frm wr h n F f) := Lib.hid ⟨HF2.out.len, HF2.out.head.keep (hbx.out.block h hhl), fun x hx => (HF2.out.row x hx).keep (fun b' e => hbx.out.block b' (HFB.out x b' hx e)), HF2.out.apart⟩
              have HFN : Hid (∀ x, x < n → (f x).ownBlock ≠ some b) := Lib.hid (fun x hx e => by have := HFB.out x b hx e; omega)
              have HBL := Lib.hid hbk.out.lt
              have hcond : Hid (¬ (k < 8 ∧ k < m)) := Lib.hid hk8
              clear HF2 HFB hbx HBW hk8
              by_cases hkm : k < m
              · have hk8' : ¬ k < 8 := by have := hcond.out; omega
                go_wp2_with fail
                go_loopw [10] (fun x wx => ∃ (u : Nat) (F' : List (List Nat)) (f' : Nat → Value), x = .int .i64 u ∧ u ≤ n ∧ Hid (Blk wx b n (fun j => .bool (q j))) ∧ Hid (Frm wx h n F' f') ∧ Hid (∀ y, y ≠ v → F'.getD y [] = F.getD y []) ∧ Hid (RowOk u (F'.getD v [])) ∧ Hid (∀ x, x < n → (f' x).ownBlock ≠ some b) ∧ Hid (Below h W wx)) (fun x _ => n - (intOf x).toNat)
                case atStart => exact ⟨0, F, f, rfl, by omega, hbk, HE, Lib.hid (fun _ _ => rfl), Lib.hid (by rw [hnil.out v (Nat.le_refl _)]; exact RowOk.nil 0), HFN, HBX⟩
                case round =>
                  clear hbk HE HFN HBX HBL cr HNR hcond
                  obtain ⟨u, F', f', rfl, hu, hbk, hfrm, hoth, hrow, hfn, hb⟩ := hrel
                  by_cases hlu : u < n
                  · have hcu := hbk.out.cell hlu
                    cases hqu : q u with
                    | false =>
                      simp only [hqu] at hcu
                      go_wp2_with fail
                      go_roundw
                      case rel => exact ⟨u + 1, F', f', by go_num, by omega, hbk, hfrm, hoth, Lib.hid (hrow.out.more (by omega)), hfn, hb⟩
                      case measure => simp [intOf]; omega
                    | true =>
                      simp only [hqu] at hcu
                      clear hqu
                      have hcx := hfrm.out.head.cell hlt
                      have hfx := hfrm.out.head.frozen v
                      have hox := hfrm.out.row v hlt
                      obtain ⟨px, cx, hfe, hcc⟩ := hox.slice
                      rw [hfe] at hcx hox
                      have HFE := Lib.hid hfe
                      obtain ⟨t, ht⟩ : ∃ t, (F'.getD v []).length = t := ⟨_, rfl⟩
                      have htl : t ≤ u := by rw [← ht]; exact hrow.out.2.2
                      rw [ht] at hcx hcc
                      have HQ := Lib.hid ht
                      have HOX := Lib.hid hox
                      have hhs := hfrm.out.head.lt
                      have HBL := Lib.hid hbk.out.lt
                      clear hfe ht hox
                      go_wp2_with (at_builtin; refine wpList_append_own_at _ rfl _ _ 22 rfl (h + 1) 3 i1 (.int .i64 0) 1 8 Try.underlying22 hj hy0 hy1 hy2 rfl (by decide) (.slice px t cx) t ((F'.getD v []).map nv) rfl (by have := HOX.out; unfold OwnN at this; rw [HQ.out] at this; exact this.alloc _) ⟨wr.heap.size, 0, none⟩ 1 1 [nv u] rfl rfl (cell_one_new _ _ _) (fun y hy => by simp at hy; subst hy; rfl) (by unfold maxLen; omega) (by omega) (by simp; omega) ?_; intro v' w4 hw1 hw2 _ hw3; have P := Lib.hid (pushed (L := F'.getD v []) (x := u) (by rw [HQ.out]; exact hw1) hw2 hw3); obtain ⟨p', c', rfl, hc'⟩ := P.out.own.slice; simp only [List.length_append, List.length_cons, List.length_nil, Nat.zero_add, HQ.out] at P hc' ⊢; clear hw1 hw2 hw3; have hb4 : Blk w4 h n f' := hfrm.out.head.keep (P.out.block h hhs (fun e => by have := (HOX.out.block_lt (by rw [HQ.out]; exact e)).2; omega)); have hc4 := hb4.cell hlt; rw [HFE.out, HQ.out] at hc4; have hf4 := hb4.frozen v; clear hb4)
                      have S := hfrm.out.step hlt (by rw [HFE.out, HQ.out]; exact P.out)
                      have hb5 : Below h W (w4.setCell ⟨h, v, none⟩ (.slice p' (t + 1) c')) := (hb.out.trans (P.out.below (B := h) (fun b e => by have := (HOX.out.block_lt (by rw [HQ.out]; exact e)).2; omega) (by omega))).setCell (by simp) _
                      have hbk5 : Blk (w4.setCell ⟨h, v, none⟩ (.slice p' (t + 1) c')) b n (fun j => .bool (q j)) := (hbk.out.keep (P.out.block b HBL.out (fun e => hfn.out v hlt (by rw [HFE.out, HQ.out]; exact e)))).keep (Below.heap_setCell _ _ _ _ (by simp; omega))
                      go_roundw
                      case rel => exact ⟨u + 1, _, _, by go_num, by omega, Lib.hid hbk5, Lib.hid S, Lib.hid (fun y hy => by
                        rw [set_getD _ _ _ _ (by rw [hfrm.out.len]; exact hlt), if_neg hy]; exact hoth.out y hy), Lib.hid (by
                        rw [set_getD _ _ _ _ (by rw [hfrm.out.len]; exact hlt), if_pos rfl]; exact hrow.out.push), Lib.hid (fun x hx => by
                        show (if x = v then _ else f' x).ownBlock ≠ some b
                        split
                        · intro e
                          rcases P.out.at_ with h1 | ⟨g', h1, h2⟩
                          · exact hfn.out v hlt (by rw [HFE.out, HQ.out, ← h1]; exact e)
                          · rw [h1] at e; cases e; have := HBL.out; omega
                        · exact hfn.out x hx), Lib.hid hb5⟩
                      case measure => simp [intOf]; omega
                  · go_wp2_with fail
                    go_roundw
                    case rel => exact ⟨v + 1, F', f', by go_num, by omega, hfrm, Lib.hid (fun y => by
                      by_cases e : y = v
                      · subst e; exact hrow.out.more hu
                      · rw [hoth.out y e]; exact hok.out y), Lib.hid (fun y hy => by rw [hoth.out y (by omega)]; exact hnil.out y (by omega)), hb⟩
                    case measure => simp [intOf]; omega
              · have hk9 : ¬ k < m := hkm
                go_wp2_with fail
                go_loopw [10] (fun x wx => ∃ (u : Nat) (F' : List (List Nat)) (f' : Nat → Value), x = .int .i64 u ∧ u ≤ n ∧ Hid (Blk wx b n (fun j => .bool (q j))) ∧ Hid (Frm wx h n F' f') ∧ Hid (∀ y, y ≠ v → F'.getD y [] = F.getD y []) ∧ Hid (RowOk u (F'.getD v [])) ∧ Hid (∀ x, x < n → (f' x).ownBlock ≠ some b) ∧ Hid (Below h W wx)) (fun x _ => n - (intOf x).toNat)
                case atStart => exact ⟨0, F, f, rfl, by omega, hbk, HE, Lib.hid (fun _ _ => rfl), Lib.hid (by rw [hnil.out v (Nat.le_refl _)]; exact RowOk.nil 0), HFN, HBX⟩
                case round =>
                  clear hbk HE HFN HBX HBL cr HNR hcond
                  obtain ⟨u, F', f', rfl, hu, hbk, hfrm, hoth, hrow, hfn, hb⟩ := hrel
                  by_cases hlu : u < n
                  · have hcu := hbk.out.cell hlu
                    cases hqu : q u with
                    | false =>
                      simp only [hqu] at hcu
                      go_wp2_with fail
                      go_roundw
                      case rel => exact ⟨u + 1, F', f', by go_num, by omega, hbk, hfrm, hoth, Lib.hid (hrow.out.more (by omega)), hfn, hb⟩
                      case measure => simp [intOf]; omega
                    | true =>
                      simp only [hqu] at hcu
                      clear hqu
                      have hcx := hfrm.out.head.cell hlt
                      have hfx := hfrm.out.head.frozen v
                      have hox := hfrm.out.row v hlt
                      obtain ⟨px, cx, hfe, hcc⟩ := hox.slice
                      rw [hfe] at hcx hox
                      have HFE := Lib.hid hfe
                      obtain ⟨t, ht⟩ : ∃ t, (F'.getD v []).length = t := ⟨_, rfl⟩
                      have htl : t ≤ u := by rw [← ht]; exact hrow.out.2.2
                      rw [ht] at hcx hcc
                      have HQ := Lib.hid ht
                      have HOX := Lib.hid hox
                      have hhs := hfrm.out.head.lt
                      have HBL := Lib.hid hbk.out.lt
                      clear hfe ht hox
                      go_wp2_with (at_builtin; refine wpList_append_own_at _ rfl _ _ 22 rfl (h + 1) 3 i1 (.int .i64 0) 1 8 Try.underlying22 hj hy0 hy1 hy2 rfl (by decide) (.slice px t cx) t ((F'.getD v []).map nv) rfl (by have := HOX.out; unfold OwnN at this; rw [HQ.out] at this; exact this.alloc _) ⟨wr.heap.size, 0, none⟩ 1 1 [nv u] rfl rfl (cell_one_new _ _ _) (fun y hy => by simp at hy; subst hy; rfl) (by unfold maxLen; omega) (by omega) (by simp; omega) ?_; intro v' w4 hw1 hw2 _ hw3; have P := Lib.hid (pushed (L := F'.getD v []) (x := u) (by rw [HQ.out]; exact hw1) hw2 hw3); obtain ⟨p', c', rfl, hc'⟩ := P.out.own.slice; simp only [List.length_append, List.length_cons, List.length_nil, Nat.zero_add, HQ.out] at P hc' ⊢; clear hw1 hw2 hw3; have hb4 : Blk w4 h n f' := hfrm.out.head.keep (P.out.block h hhs (fun e => by have := (HOX.out.block_lt (by rw [HQ.out]; exact e)).2; omega)); have hc4 := hb4.cell hlt; rw [HFE.out, HQ.out] at hc4; have hf4 := hb4.frozen v; clear hb4)
                      have S := hfrm.out.step hlt (by rw [HFE.out, HQ.out]; exact P.out)
                      have hb5 : Below h W (w4.setCell ⟨h, v, none⟩ (.slice p' (t + 1) c')) := (hb.out.trans (P.out.below (B := h) (fun b e => by have := (HOX.out.block_lt (by rw [HQ.out]; exact e)).2; omega) (by omega))).setCell (by simp) _
                      have hbk5 : Blk (w4.setCell ⟨h, v, none⟩ (.slice p' (t + 1) c')) b n (fun j => .bool (q j)) := (hbk.out.keep (P.out.block b HBL.out (fun e => hfn.out v hlt (by rw [HFE.out, HQ.out]; exact e)))).keep (Below.heap_setCell _ _ _ _ (by simp; omega))
                      go_roundw
                      case rel => exact ⟨u + 1, _, _, by go_num, by omega, Lib.hid hbk5, Lib.hid S, Lib.hid (fun y hy => by
                        rw [set_getD _ _ _ _ (by rw [hfrm.out.len]; exact hlt), if_neg hy]; exact hoth.out y hy), Lib.hid (by
                        rw [set_getD _ _ _ _ (by rw [hfrm.out.len]; exact hlt), if_pos rfl]; exact hrow.out.push), Lib.hid (fun x hx => by
                        show (if x = v then _ else f' x).ownBlock ≠ some b
                        split
                        · intro e
                          rcases P.out.at_ with h1 | ⟨g', h1, h2⟩
                          · exact hfn.out v hlt (by rw [HFE.out, HQ.out, ← h1]; exact e)
                          · rw [h1] at e; cases e; have := HBL.out; omega
                        · exact hfn.out x hx), Lib.hid hb5⟩
                      case measure => simp [intOf]; omega
                  · go_wp2_with fail
                    go_roundw
                    case rel => exact ⟨v + 1, F', f', by go_num, by omega, hfrm, Lib.hid (fun y => by
                      by_cases e : y = v
                      · subst e; exact hrow.out.more hu
                      · rw [hoth.out y e]; exact hok.out y), Lib.hid (fun y hy => by rw [hoth.out y (by omega)]; exact hnil.out y (by omega)), hb⟩
                    case measure => simp [intOf]; omega
        · go_wp2_with fail
          go_ret
          refine ⟨h, F, by rw [hfrm.out.len]; rfl, hfrm.out.gn, chk_rows n1 n3 hfrm.out.len hok.out, by rw [hfrm.out.len]; exact n2, by rw [HH.out]; exact hb.out⟩
      · go_wp2_with fail
        go_ret
        refine ⟨h, F, by rw [hfrm.out.len]; rfl, hfrm.out.gn, chk_rows n1 n3 hfrm.out.len hok.out, by rw [hfrm.out.len]; exact n2, by rw [HH.out]; exact hb.out⟩
end Go.Proofs.Ytodnfchkkgoabaa
