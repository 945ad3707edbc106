import Derived.Test.YtamhlkjfpdkhoaaGreatDoorQ25
import Derived.Test.YtamhlkjfpdkhoaaGreatDoorQ26
import Derived.Test.YtamhlkjfpdkhoaaGreatDoorQ27
import Derived.Test.YtamhlkjfpdkhoaaGreatDoorQ31
import Derived.Test.YtamhlkjfpdkhoaaGreatDoorQ32
import Derived.Lib.AppendIntMem
import Derived.WalkKit
/- WALKS of the reference's String of any number; Form. -/
set_option linter.unusedVariables false
namespace Go.Proofs.YtamhlkjfpdkhoaaGreatDoor
open Go.RowKit

/-- The decimal numeral of an integer, by sign and absolute value. -/
def sdec (s : Bool) (n : Nat) : List UInt8 := if s then 45 :: Lib.decDigits n else Lib.decDigits n

set_option maxRecDepth 100000 in
set_option maxHeartbeats 1000000 in
theorem String_any (v : Value) (s : Bool) (n K : Nat) (w : World) (h : RS w v s n K) (hs : n = 0 → s = false) (hK : K ≤ 1000000) :
    Calls Tryz.prog 38 #[v] w fun e w' => e = .returned (.string ⟨(sdec s n).toArray⟩) ∧ Below w.heap.size w w' := by
  by_cases h0 : n = 0
  · obtain rfl := hs h0
    subst h0
    have e : sdec false 0 = [48] := by unfold sdec; rw [if_neg (by decide), Lib.decDigits_one (by decide)]; rfl
    rw [e]
    obtain ⟨d, rfl, hd⟩ := h
    obtain ⟨dp, dl, dc, rfl⟩ := hd.slice
    obtain rfl := hd.empty.2 rfl
    clear hd
    go_enter Tryz.func38, Tryz.ntmps38
    go_wp2
    go_ret
    exact ⟨rfl, (Below.refl _ _).alloc (Nat.le_refl _) _⟩
  · exact String_ref v s n K w h (by omega) hK

theorem nDigits_le : ∀ (k n : Nat), n < 10 ^ (k + 1) → Lib.nDigits n ≤ k + 1
  | 0, n, h => by rw [Lib.nDigits_small (by simpa using h)]; exact Nat.le_refl _
  | k + 1, n, h => by
    by_cases h1 : n < 10
    · rw [Lib.nDigits_small h1]; omega
    · rw [Lib.nDigits_big h1]
      have := nDigits_le k (n / 10) (by rw [Nat.pow_succ] at h; omega)
      omega

theorem sdec_len (s : Bool) {n K : Nat} (h0 : 0 < K) (hK : K ≤ 1000) (h : n < B9 ^ K) : (sdec s n).length ≤ 9001 := by
  rw [B9_ten] at h
  have h2 := nDigits_le (9 * K - 1) n (by rw [show 9 * K - 1 + 1 = 9 * K by omega]; exact h)
  have h3 := Lib.decDigits_length n
  unfold sdec
  split
  · rw [List.length_cons]; omega
  · omega

theorem sOf4 {w W : World} {x y z u : Value} {t : TypeId} {rest : List (Array Value × TypeId)} (h : Lay w ((#[x, y, z, u], t) :: rest) W) :
    (W.cell? ⟨w.heap.size, 0, none⟩ = some x ∧ W.cell? ⟨w.heap.size, 1, none⟩ = some y ∧ W.cell? ⟨w.heap.size, 2, none⟩ = some z ∧ W.cell? ⟨w.heap.size, 3, none⟩ = some u) ∧ Hid (∃ rest, Lay w ((#[x, y, z, u], t) :: rest) W) := by
  have h1 := h.row 0 w.heap.size rfl rfl
  exact ⟨(cells4 h1).1, Lib.hid ⟨_, h⟩⟩

set_option maxRecDepth 100000 in
set_option maxHeartbeats 1000000 in
theorem Form_ref (v : Value) (s : Bool) (n d K : Nat) (w : World) (h : RQ w v s n d K) (hs : n = 0 → s = false) (hd0 : 0 < d) (hK : 3 ≤ K) (hK' : K ≤ 1000) :
    Calls Tryz.prog 105 #[v] w fun e w' => e = .returned (.string ⟨(if d = 1 then sdec s n else sdec s n ++ 47 :: Lib.decDigits d).toArray⟩) ∧ Below w.heap.size w w' := by
  obtain ⟨x, y, rfl, hx, hy⟩ := h
  obtain ⟨xp, xl, xc, rfl⟩ := hx.slice
  obtain ⟨yp, yl, yc, rfl⟩ := hy.slice
  have OF := Lib.hid (fun W => Of_ref 1 W (by omega) (by omega))
  have CM := fun W z (h : Below w.heap.size w W) (hz : RZ W z 1 3) => Cmp_z (.agg #[.bool false, .slice yp yl yc]) z (d : Int) 1 K W (by
    have e : decide ((d : Int) < 0) = false := by simp
    unfold RZ; rw [e]; exact ⟨_, rfl, hy.below h⟩) (hz.more hK) (by omega)
  have S1 := Lib.hid (fun W (h : Below w.heap.size w W) => String_any (.agg #[.bool s, .slice xp xl xc]) s n K W ⟨_, rfl, hx.below h⟩ hs (by omega))
  have S2 := Lib.hid (fun W (h : Below w.heap.size w W) => String_any (.agg #[.bool false, .slice yp yl yc]) false d K W ⟨_, rfl, hy.below h⟩ (fun _ => rfl) (by omega))
  obtain ⟨cc, hcc⟩ : ∃ cc, ((d : Int) - 1).sign = cc := ⟨_, rfl⟩
  rw [hcc] at CM
  replace CM := Lib.hid CM
  have L0 := Lib.hid ((LayX.nil w).push #[.bool s, .slice xp xl xc, .bool false, .slice yp yl yc] 48)
  have HL1 := Lib.hid (sdec_len s (by omega) hK' hx.lt)
  have HL2 := Lib.hid (sdec_len false (by omega) hK' hy.lt)
  clear hx hy
  go_enter Tryz.func105, Tryz.ntmps105
  go_wp2_with fail
  generalize w.alloc (.cells #[.bool s, .slice xp xl xc, .bool false, .slice yp yl yc] 48) = W0 at *
  have L1 : Hid (Lay w [(#[.bool s, .slice xp xl xc, .bool false, .slice yp yl yc], 48)] W0.drew) := Lib.hid L0.out.1.drew
  go_region_held3 (fun W => (W.cell? ⟨w.heap.size, 0, none⟩ = some (.bool s) ∧ W.cell? ⟨w.heap.size, 1, none⟩ = some (.slice xp xl xc) ∧ W.cell? ⟨w.heap.size, 2, none⟩ = some (.bool false) ∧ W.cell? ⟨w.heap.size, 3, none⟩ = some (.slice yp yl yc)) ∧ Hid (∃ rest, Lay w ((#[.bool s, .slice xp xl xc, .bool false, .slice yp yl yc], 48) :: rest) W)) (first | exact sOf4 T2.out | exact sOf4 T1.out | exact sOf4 L1.out) (first
    | (go_at_call 36; refine (OF.out _).mono ?_; rintro e w1 ⟨z, rfl, hz, hb1⟩; have T1 := Lib.hid (L1.out.step hb1); have Hz := Lib.hid hz; clear hz hb1)
    | (go_at_call 49; refine (CM.out _ _ ?_ Hz.out).mono ?_; exact T1.out.2; rintro e w2 ⟨rfl, hb2⟩; have T2 := Lib.hid (T1.out.step hb2); clear hb2))
  obtain ⟨⟨c0, c1, c2, c3⟩, _⟩ := sOf4 T2.out
  clear Hz T1 L1 L0
  by_cases h1 : d = 1
  · have e0 : cc = 0 := by rw [← hcc, h1]; rfl
    subst e0
    have HD := Lib.hid h1
    clear hcc h1
    go_wp2_with fail
    refine (S1.out _ T2.out.2).mono ?_
    rintro e w3 ⟨rfl, hb3⟩
    have T3 := Lib.hid (T2.out.step hb3)
    clear hb3
    go_wp2_with fail
    go_ret
    exact ⟨ret_s (by first | rfl | rw [if_pos HD.out]), T3.out.2⟩
  · have e0 : (cc == 0) = false := by
      rw [beq_eq_false_iff_ne, ← hcc]
      intro h
      have := Int.sign_eq_zero_iff_zero.1 h
      omega
    have HD := Lib.hid h1
    obtain ⟨ss, hss⟩ : ∃ ss, sdec s n = ss := ⟨_, rfl⟩
    have hl1 : ss.length ≤ 9001 := by rw [← hss]; exact HL1.out
    obtain ⟨sd, hsd⟩ : ∃ ss, sdec false d = ss := ⟨_, rfl⟩
    have hl2 : sd.length ≤ 9001 := by rw [← hsd]; exact HL2.out
    rw [hss] at S1
    rw [hsd] at S2
    have HSS := Lib.hid hss
    have HSD := Lib.hid hsd
    have l1 : ¬ 9223372036854775807 < ss.length + 1 := by omega
    have l2 : ¬ 9223372036854775807 < ss.length + 1 + sd.length := by omega
    clear hcc h1 hss hsd
    go_wp2_with fail
    replace T2 := Lib.hid T2.out.drew
    clear c0 c1 c2 c3
    go_region_held3 (fun W => (W.cell? ⟨w.heap.size, 0, none⟩ = some (.bool s) ∧ W.cell? ⟨w.heap.size, 1, none⟩ = some (.slice xp xl xc) ∧ W.cell? ⟨w.heap.size, 2, none⟩ = some (.bool false) ∧ W.cell? ⟨w.heap.size, 3, none⟩ = some (.slice yp yl yc)) ∧ Hid (∃ rest, Lay w ((#[.bool s, .slice xp xl xc, .bool false, .slice yp yl yc], 48) :: rest) W)) (first | exact sOf4 T4.out | exact sOf4 T3.out | exact sOf4 T2.out) (first
      | (go_at_call_of 38 (Value.slice xp xl xc); refine (S1.out _ ?_).mono ?_; exact T2.out.2; rintro e w3 ⟨rfl, hb3⟩; have T3 := Lib.hid (T2.out.step hb3); clear hb3)
      | (go_at_call_of 38 (Value.slice yp yl yc); refine (S2.out _ ?_).mono ?_; exact T3.out.2; rintro e w4 ⟨rfl, hb4⟩; have T4 := Lib.hid (T3.out.step hb4); clear hb4))
    go_wp2
    go_ret
    exact ⟨ret_s (by (try rw [if_neg HD.out]); rw [HSS.out, show Lib.decDigits d = sd from HSD.out, show (⟨#[47]⟩ : ByteArray) = ⟨[47].toArray⟩ from rfl, bcat, bcat]; simp), T4.out.2⟩
end Go.Proofs.YtamhlkjfpdkhoaaGreatDoor

/- WALKS: strconv.FormatUint at base 10, any number. -/
namespace Go.Proofs.YtamhlkjfpdkhoaaGreatDoor
open Go.RowKit Go.Lib Go.Sort

/-- The library's table of powers of ten lies in the world. -/
def Tab (w : World) : Prop := Lib.TabIs Tryz.prog w "internal/strconv.uint64pow10" .u64 Lib.pow10Tab

set_option maxRecDepth 100000 in
set_option maxHeartbeats 2000000 in
theorem FormatUintI_any (u : Nat) (w : World) (h1 : 100 ≤ u) (hu64 : u < 18446744073709551616) (htab : Tab w) :
    Calls Tryz.prog 181 #[.int .u64 u, .int .i64 10] w fun e w' => e = .returned (.string ⟨(Lib.decDigits u).toArray⟩) ∧ Below w.heap.size w w' := by
  have hu1 : 1 ≤ u := by omega
  have hnd20 : Lib.nDigits u ≤ 20 := by have := Lib.numDigits_eq u hu1 hu64; split at this <;> omega
  have hal : Tryz.prog.arrayLen 213 = 24 := by kernel_rfl
  obtain ⟨nd, hnd⟩ : ∃ nd, Lib.nDigits u = nd := ⟨_, rfl⟩
  rw [hnd] at hnd20
  have hsl : ∀ W, (Instr.sliceAt 213 (.pointer (some ⟨w.heap.size, 0, none⟩)) none (some (.int .i64 (nd : Int))) none).run Tryz.prog W = .ok (.slice (some ⟨w.heap.size, 0, none⟩) nd 24) W := fun W => by
    rw [run_sliceAt_array_h W 213 ⟨w.heap.size, 0, none⟩ (by kernel_rfl) .i64 (nd : Int) (by omega) (by rw [hal]; omega)]
    go_simp
    try omega
  have hH0 := Lib.holds_zero0 w 213 nd (by omega)
  have hfmt := Tryz.internal_strconv_formatBase10 w.heap.size 0 24 u (Array.replicate nd 0) (w.alloc (.cells Lib.zeros24 213)) hH0 (by rw [Array.size_replicate, ← hnd]; exact Lib.lt_pow_nDigits u) hu64 (by rw [Array.size_replicate]; omega)
  rw [Array.size_replicate] at hfmt
  have hdl := Lib.decDigits_length u
  rw [hnd] at hdl
  have hF0 : ∀ (v' : Nat) (dk : Array UInt8), FmtInv nd u 0 v' dk → dk.size = nd ∧ ∀ j (hj : j < (Lib.decDigits u).length), (Lib.decDigits u)[j] = dk[j]! := by
    intro v' dk h
    refine ⟨h.size, fun j hj => ?_⟩
    rw [← hnd] at h
    exact Lib.row_is_numeral h j hj
  have HH0 := Lib.hid hH0
  have HND := Lib.hid (fun W (h : Tab W) => by have h2 := Tryz.internal_strconv_numDigits u hu1 hu64 W h; rw [hnd] at h2; exact h2)
  have HF0 := Lib.hid hF0
  have HFM := Lib.hid hfmt
  have HT := Lib.hid (fun o => Lib.tabIs_alloc htab o)
  have t1 : ¬ u < 100 := by omega
  clear hH0 hal hF0 hfmt hnd htab
  go_enter Tryz.func181, Tryz.ntmps181
  go_wp2_with fail
  refine (HND.out _ (HT.out _)).mono ?_
  rintro e w' ⟨rfl, rfl⟩
  go_wp2_with fail
  refine HFM.out.mono ?_
  rintro e w' ⟨rfl, k, v', dk, rfl, hF⟩
  have hcv : (convert 88 9 (.slice (some ⟨w.heap.size, 0, none⟩) nd 24)).run Tryz.prog ((putRow (fun (b : UInt8) => Value.int .u8 (b.toNat : Int)) (w.alloc (.cells Lib.zeros24 213)) w.heap.size 0 dk).drewN k) = .ok (.string ⟨(Lib.decDigits u).toArray⟩) ((putRow (fun (b : UInt8) => Value.int .u8 (b.toNat : Int)) (w.alloc (.cells Lib.zeros24 213)) w.heap.size 0 dk).drewN k) := by
    have h := run_convert_bytes_back (P := Tryz.prog) ((putRow (fun (b : UInt8) => Value.int .u8 (b.toNat : Int)) (w.alloc (.cells Lib.zeros24 213)) w.heap.size 0 dk).drewN k) 88 9 5 ⟨w.heap.size, 0, none⟩ 24 (Lib.decDigits u) Tryz.underlying88 Tryz.underlying5 Tryz.underlying9 (fun j hj => by
      rw [(HF0.out _ _ hF).2 j hj, Lib.add_plain, World.cell?_drewN]
      exact cell?_putRow (fun (b : UInt8) => Value.int .u8 (b.toNat : Int)) _ w.heap.size 0 _ dk HH0.out (by rw [(HF0.out _ _ hF).1, Array.size_replicate]) j (by rw [(HF0.out _ _ hF).1]; omega))
    rw [hdl] at h
    exact h
  have HFF := Lib.hid hF
  clear hF
  go_wp2
  go_ret
  obtain ⟨os, eo⟩ := Lib.fin_at w (.cells Lib.zeros24 213) dk k 0
  exact ⟨rfl, by rw [eo]; exact Lib.below_grow _ _ (Nat.le_refl _) _ _⟩

set_option maxRecDepth 100000 in
set_option maxHeartbeats 1000000 in
theorem FormatUint_any (n : Nat) (w : World) (hn : n < 18446744073709551616) (htab : Tab w) :
    Calls Tryz.prog 146 #[.int .u64 n, .int .i64 10] w fun e w' => e = .returned (.string ⟨(Lib.decDigits n).toArray⟩) ∧ Below w.heap.size w w' := by
  by_cases h : n < 100
  · exact FormatUint_small n w h
  · have SM := Lib.hid (FormatUintI_any n w (by omega) hn htab)
    clear hn htab h
    go_enter Tryz.func146, Tryz.ntmps146
    go_wp2_with fail
    refine SM.out.mono ?_
    rintro e w1 ⟨rfl, hw⟩
    have HW := Lib.hid hw
    clear hw
    go_wp2_with fail
    go_ret
    exact ⟨rfl, HW.out⟩
end Go.Proofs.YtamhlkjfpdkhoaaGreatDoor

/- WALKS: the strings of what NumMakes makes; its helpers. -/
set_option linter.unusedVariables false
namespace Go.Proofs.YtamhlkjfpdkhoaaGreatDoor
open Go.RowKit

theorem Tab.below {w w' : World} (h : Tab w) (hb : Below w.heap.size w w') : Tab w' := by
  unfold Tab Lib.TabIs World.var? at h ⊢
  cases hg : Tryz.prog.globalNamed "internal/strconv.uint64pow10" with
  | none => simp [hg] at h
  | some g =>
    simp only [hg, Option.bind_some] at h ⊢
    have hlt : g < w.heap.size := by
      rcases Nat.lt_or_ge g w.heap.size with h' | h'
      · exact h'
      · rw [Array.getElem?_eq_none h'] at h; simp at h
    rw [hb.block g hlt]
    exact h

set_option maxRecDepth 100000 in
set_option maxHeartbeats 1000000 in
theorem chunks_zero (v : Value) (w : World) (hd : DN w v 0 1) :
    Calls Tryz.prog 145 #[v] w fun e w' => e = .returned (.slice none 0 0) ∧ Below w.heap.size w w' := by
  have CP := Lib.hid (copied_all v 0 1 w hd (by decide))
  obtain ⟨p, l, c, rfl⟩ := hd.slice
  clear hd
  go_enter Tryz.func145, Tryz.ntmps145
  go_wp2_with fail
  refine CP.out.mono ?_
  rintro _ w1 ⟨u, rfl, hu, _, hb⟩
  obtain ⟨q, l', c', rfl⟩ := hu.slice
  obtain rfl := hu.empty.2 rfl
  have HB := Lib.hid hb
  clear hu hb CP
  go_wp2_with fail
  refine wp_loop_rounds 1 ?_
  rw [rounds_succ]
  go_wp2
  go_ret
  exact ⟨rfl, HB.out⟩

set_option maxRecDepth 100000 in
set_option maxHeartbeats 1000000 in
theorem text_zero (v : Value) (w : World) (hd : DN w v 0 1) :
    Calls Tryz.prog 89 #[v] w fun e w' => e = .returned (.string ⟨[48].toArray⟩) ∧ Below w.heap.size w w' := by
  have CH := Lib.hid (chunks_zero v w hd)
  obtain ⟨p, l, c, rfl⟩ := hd.slice
  clear hd
  go_enter Tryz.func89, Tryz.ntmps89
  go_wp2_with fail
  refine CH.out.mono ?_
  rintro _ w1 ⟨rfl, hb⟩
  have HB := Lib.hid hb
  clear hb CH
  go_wp2_with fail
  go_ret
  exact ⟨rfl, HB.out⟩

theorem text_any (v : Value) (n : Nat) (w : World) (hd : DN w v n 1) (hn : n < 10000000000000000000) (ht : Tab w) :
    Calls Tryz.prog 89 #[v] w fun e w' => e = .returned (.string ⟨(Lib.decDigits n).toArray⟩) ∧ Below w.heap.size w w' := by
  by_cases h0 : n = 0
  · subst h0
    have e : Lib.decDigits 0 = [48] := by rw [Lib.decDigits_one (by decide)]; rfl
    rw [e]
    exact text_zero v w hd
  · have hl := Lib.decDigits_length n
    have h20 := nDigits_le 19 n (by omega)
    exact text_word v n w hd (by omega) hn (by omega) (by rw [hl]; exact Lib.nDigits_pos n) fun W hb => FormatUint_any n W (by omega) (ht.below hb)

theorem IString_any (v : Value) (s : Bool) (n : Nat) (w : World) (hv : WS w v s n 1) (hn : n < 10000000000000000000) (ht : Tab w) :
    Calls Tryz.prog 17 #[v] w fun e w' => e = .returned (.string ⟨(sdec s n).toArray⟩) ∧ Below w.heap.size w w' :=
  IString_all v s n 1 (Lib.decDigits n) w hv (by have hl := Lib.decDigits_length n; have h20 := nDigits_le 19 n (by omega); omega) fun W d hb hd => text_any d n W hd hn (ht.below hb)

theorem RString_any (v : Value) (s : Bool) (n k : Nat) (w : World) (hv : WQ w v s n k 1) (hn : n < 10000000000000000000) (hk : k < 10000000000000000000) (ht : Tab w) :
    Calls Tryz.prog 23 #[v] w fun e w' => e = .returned (.string ⟨(if k = 0 then sdec s n else sdec s n ++ 47 :: Lib.decDigits k).toArray⟩) ∧ Below w.heap.size w w' := by
  have hl := Lib.decDigits_length n
  have h20 := nDigits_le 19 n (by omega)
  by_cases h0 : k = 0
  · subst h0
    rw [if_pos rfl]
    exact RString_whole v s n 1 (Lib.decDigits n) w hv (by omega) fun W d hb hd => text_any d n W hd hn (ht.below hb)
  · rw [if_neg h0]
    have hl' := Lib.decDigits_length k
    have h20' := nDigits_le 19 k (by omega)
    exact RString_all v s n k 1 (Lib.decDigits n) (Lib.decDigits k) w hv h0 (by omega) (by omega) (fun W d hb hd => text_any d n W hd hn (ht.below hb)) fun W d hb hd => text_any d k W hd hk (ht.below hb)

set_option maxRecDepth 100000 in
set_option maxHeartbeats 1000000 in
theorem whole_law (u v : Value) (s : Bool) (n K : Nat) (w : World) (hu : WS w u s n 1) (hv : RS w v s n K) (hs : n = 0 → s = false) (hn : n < 10000000000000000000) (hK : K ≤ 1000) (ht : Tab w) :
    Calls Tryz.prog 19 #[u, v] w fun e w' => e = .returned (.bool true) ∧ Below w.heap.size w w' := by
  have S1 := Lib.hid (fun W (h : Below w.heap.size w W) => IString_any u s n W (hu.below h) hn (ht.below h))
  have S2 := Lib.hid (fun W (h : Below w.heap.size w W) => String_any v s n K W (hv.below h) hs (by omega))
  obtain ⟨du, rfl, hdu⟩ := hu
  obtain ⟨dv, rfl, hdv⟩ := hv
  obtain ⟨up, ul, uc, rfl⟩ := hdu.slice
  obtain ⟨vp, vl, vc, rfl⟩ := hdv.slice
  obtain ⟨ss, hss⟩ : ∃ ss, sdec s n = ss := ⟨_, rfl⟩
  rw [hss] at S1 S2
  have L0 := Lib.hid (((LayX.nil w).push #[.bool s, .slice up ul uc] 31).push #[.bool s, .slice vp vl vc] 25)
  clear hdu hdv hss
  go_enter Tryz.func19, Tryz.ntmps19
  go_wp2_with fail
  generalize (w.alloc (.cells #[.bool s, .slice up ul uc] 31)).alloc (.cells #[.bool s, .slice vp vl vc] 25) = W0 at *
  have L1 : Hid (Lay w [(#[.bool s, .slice up ul uc], 31), (#[.bool s, .slice vp vl vc], 25)] W0.drew) := Lib.hid L0.out.1.drew
  go_region_held3 (fun W => (W.cell? ⟨w.heap.size, 0, none⟩ = some (.bool s) ∧ W.cell? ⟨w.heap.size, 1, none⟩ = some (.slice up ul uc) ∧ W.cell? ⟨w.heap.size + 1, 0, none⟩ = some (.bool s) ∧ W.cell? ⟨w.heap.size + 1, 1, none⟩ = some (.slice vp vl vc)) ∧ Hid (∃ rest, Lay w ((#[.bool s, .slice up ul uc], 31) :: (#[.bool s, .slice vp vl vc], 25) :: rest) W)) (first | exact sOf22 T2.out | exact sOf22 T1.out | exact sOf22 L1.out) (first
    | (go_at_call 17; refine (S1.out _ ?_).mono ?_; exact L1.out.2; rintro e w1 ⟨rfl, hb1⟩; have T1 := Lib.hid (L1.out.step hb1); clear hb1)
    | (go_at_call 38; refine (S2.out _ ?_).mono ?_; exact T1.out.2; rintro e w2 ⟨rfl, hb2⟩; have T2 := Lib.hid (T1.out.step hb2); clear hb2))
  go_wp2
  go_ret
  exact ⟨by simp, T2.out.2⟩

theorem sOf34 {w W : World} {x y z x' y' z' u' : Value} {t t' : TypeId} {rest : List (Array Value × TypeId)} (h : Lay w ((#[x, y, z], t) :: (#[x', y', z', u'], t') :: rest) W) :
    (W.cell? ⟨w.heap.size, 0, none⟩ = some x ∧ W.cell? ⟨w.heap.size, 1, none⟩ = some y ∧ W.cell? ⟨w.heap.size, 2, none⟩ = some z ∧ W.cell? ⟨w.heap.size + 1, 0, none⟩ = some x' ∧ W.cell? ⟨w.heap.size + 1, 1, none⟩ = some y' ∧ W.cell? ⟨w.heap.size + 1, 2, none⟩ = some z' ∧ W.cell? ⟨w.heap.size + 1, 3, none⟩ = some u') ∧ Hid (∃ rest, Lay w ((#[x, y, z], t) :: (#[x', y', z', u'], t') :: rest) W) := by
  have h1 := cells3 (h.row 0 w.heap.size rfl rfl)
  have h2 := (cells4 (h.row 1 (w.heap.size + 1) rfl rfl)).1
  exact ⟨⟨h1.1, h1.2.1, h1.2.2.1, h2.1, h2.2.1, h2.2.2.1, h2.2.2.2⟩, Lib.hid ⟨_, h⟩⟩

set_option maxRecDepth 100000 in
set_option maxHeartbeats 1000000 in
theorem is_law (u v : Value) (s : Bool) (n d K : Nat) (w : World) (hu : WQ w u s n (short d) 1) (hv : RQ w v s n d K) (hs : n = 0 → s = false) (hn : n < 10000000000000000000) (hd0 : 0 < d) (hd : d < 10000000000000000000) (hK : 3 ≤ K) (hK' : K ≤ 1000) (ht : Tab w) :
    Calls Tryz.prog 31 #[u, v] w fun e w' => e = .returned (.bool true) ∧ Below w.heap.size w w' := by
  have S1 := fun W (h : Below w.heap.size w W) => RString_any u s n (short d) W (hu.below h) hn (by unfold short; split <;> omega) (ht.below h)
  have S2 := fun W (h : Below w.heap.size w W) => Form_ref v s n d K W (by obtain ⟨x, y, h1, h2, h3⟩ := hv; exact ⟨x, y, h1, h2.below h, h3.below h⟩) hs hd0 hK hK'
  have e0 : (if short d = 0 then sdec s n else sdec s n ++ 47 :: Lib.decDigits (short d)) = (if d = 1 then sdec s n else sdec s n ++ 47 :: Lib.decDigits d) := by
    unfold short
    by_cases h1 : d = 1
    · simp [h1]
    · rw [if_neg h1, if_neg h1, if_neg (by omega)]
  rw [e0] at S1
  obtain ⟨ss, hss⟩ : ∃ ss, (if d = 1 then sdec s n else sdec s n ++ 47 :: Lib.decDigits d) = ss := ⟨_, rfl⟩
  rw [hss] at S1 S2
  replace S1 := Lib.hid S1
  replace S2 := Lib.hid S2
  obtain ⟨du, du', rfl, hdu, hdu'⟩ := hu
  obtain ⟨dv, dv', rfl, hdv, hdv'⟩ := hv
  obtain ⟨up, ul, uc, rfl⟩ := hdu.slice
  obtain ⟨vp, vl, vc, rfl⟩ := hdv.slice
  obtain ⟨up', ul', uc', rfl⟩ := hdu'.slice
  obtain ⟨vp', vl', vc', rfl⟩ := hdv'.slice
  have L0 := Lib.hid (((LayX.nil w).push #[.bool s, .slice up ul uc, .slice up' ul' uc'] 45).push #[.bool s, .slice vp vl vc, .bool false, .slice vp' vl' vc'] 48)
  clear hdu hdv hdu' hdv' hss e0
  go_enter Tryz.func31, Tryz.ntmps31
  go_wp2_with fail
  generalize (w.alloc (.cells #[.bool s, .slice up ul uc, .slice up' ul' uc'] 45)).alloc (.cells #[.bool s, .slice vp vl vc, .bool false, .slice vp' vl' vc'] 48) = W0 at *
  have L1 : Hid (Lay w [(#[.bool s, .slice up ul uc, .slice up' ul' uc'], 45), (#[.bool s, .slice vp vl vc, .bool false, .slice vp' vl' vc'], 48)] W0.drew) := Lib.hid L0.out.1.drew
  go_region_held3 (fun W => (W.cell? ⟨w.heap.size, 0, none⟩ = some (.bool s) ∧ W.cell? ⟨w.heap.size, 1, none⟩ = some (.slice up ul uc) ∧ W.cell? ⟨w.heap.size, 2, none⟩ = some (.slice up' ul' uc') ∧ W.cell? ⟨w.heap.size + 1, 0, none⟩ = some (.bool s) ∧ W.cell? ⟨w.heap.size + 1, 1, none⟩ = some (.slice vp vl vc) ∧ W.cell? ⟨w.heap.size + 1, 2, none⟩ = some (.bool false) ∧ W.cell? ⟨w.heap.size + 1, 3, none⟩ = some (.slice vp' vl' vc')) ∧ Hid (∃ rest, Lay w ((#[.bool s, .slice up ul uc, .slice up' ul' uc'], 45) :: (#[.bool s, .slice vp vl vc, .bool false, .slice vp' vl' vc'], 48) :: rest) W)) (first | exact sOf34 T2.out | exact sOf34 T1.out | exact sOf34 L1.out) (first
    | (go_at_call 23; refine (S1.out _ ?_).mono ?_; exact L1.out.2; rintro e w1 ⟨rfl, hb1⟩; have T1 := Lib.hid (L1.out.step hb1); clear hb1)
    | (go_at_call 105; refine (S2.out _ ?_).mono ?_; exact T1.out.2; rintro e w2 ⟨rfl, hb2⟩; have T2 := Lib.hid (T1.out.step hb2); clear hb2))
  go_wp2
  go_ret
  exact ⟨by simp, T2.out.2⟩
end Go.Proofs.YtamhlkjfpdkhoaaGreatDoor
