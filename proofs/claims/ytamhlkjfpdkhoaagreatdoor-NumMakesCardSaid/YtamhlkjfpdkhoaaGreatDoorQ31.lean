import Derived.Test.YtamhlkjfpdkhoaaGreatDoorQ4
import Derived.Test.YtamhlkjfpdkhoaaGreatDoorQ11
import Derived.Test.YtamhlkjfpdkhoaaGreatDoorQ15
import Derived.Test.YtamhlkjfpdkhoaaGreatDoorQ19
import Derived.Test.YtamhlkjfpdkhoaaGreatDoorQ21
import Derived.Shelf.Strings.BuilderF
import Derived.Outline
import Derived.Lib.ItoaNum
/- The contracts of strings.Builder that the laying of the library passes over, laid by hand: copyCheck, WriteString. -/
namespace Go.Proofs
open Go.Shelf Go.RowKit

def Tryz.layc166_ren : Go.Shelf.Ren := ⟨fun | 166 => 148 | 240 => 182 | 276 => 215 | n => n, fun | 0 => 0 | 3 => 3 | 4 => 4 | 9 => 9 | 20 => 20 | 37 => 88 | 70 => 156 | 72 => 158 | 75 => 161 | 164 => 217 | 80 => 39 | 5 => 5 | n => n, fun | n => n⟩
theorem Tryz.layc166 : Go.Proofs.Lays.n166 Tryz.prog Tryz.layc166_ren := {
  mixed := by kernel_rfl
  f166 := Tryz.func148.trans (congrArg some (by kernel_rfl))
  f240 := Tryz.func182.trans (congrArg some (by kernel_rfl))
  f276 := Tryz.func215.trans (congrArg some (by kernel_rfl))
  t0 := Tryz.underlying0
  a0 := Tryz.isAgg0
  z0 := Tryz.sizeOf0
  v0 := Tryz.zeroValue0
  t3 := Tryz.underlying3
  a3 := Tryz.isAgg3
  z3 := Tryz.sizeOf3
  v3 := Tryz.zeroValue3
  t4 := Tryz.underlying4
  a4 := Tryz.isAgg4
  z4 := Tryz.sizeOf4
  v4 := Tryz.zeroValue4
  t9 := Tryz.underlying9
  a9 := Tryz.isAgg9
  z9 := Tryz.sizeOf9
  v9 := Tryz.zeroValue9
  t20 := Tryz.underlying20
  a20 := Tryz.isAgg20
  z20 := Tryz.sizeOf20
  v20 := Tryz.zeroValue20
  t37 := Tryz.underlying88
  a37 := Tryz.isAgg88
  z37 := Tryz.sizeOf88
  v37 := Tryz.zeroValue88
  t70 := Tryz.underlying156
  a70 := Tryz.isAgg156
  z70 := Tryz.sizeOf156
  v70 := Tryz.zeroValue156
  t72 := Tryz.underlying158
  a72 := Tryz.isAgg158
  z72 := Tryz.sizeOf158
  v72 := Tryz.zeroValue158
  t75 := Tryz.underlying161
  a75 := Tryz.isAgg161
  z75 := Tryz.sizeOf161
  v75 := Tryz.zeroValue161
  t164 := Tryz.underlying217
  a164 := Tryz.isAgg217
  z164 := Tryz.sizeOf217
  v164 := Tryz.zeroValue217 }
theorem Tryz.Builder_Extra_c166 : Builder.Extra Tryz.prog Tryz.layc166_ren := {
  sizeBuilder := by kernel_rfl
  liesBuilder := by kernel_rfl
  t5 := Tryz.underlying5
  a5 := Tryz.isAgg5
  z5 := Tryz.sizeOf5
  v5 := Tryz.zeroValue5
  infoByte := by kernel_rfl
  cellsByte := by kernel_rfl
  sizeByte := by kernel_rfl
  neB5 := by decide }
theorem Tryz.Builder_WriteString (B b : Nat) (bs : List Value) (s : ByteArray) (w : World) (h : Lib.IsBuilder 158 5 B b bs w) (hlen : bs.length + s.size ≤ 140737488355328) (hBw : B ≤ w.heap.size) :
    Calls Tryz.prog 148 #[.pointer (some ⟨b, 0, none⟩), .string s] w fun e w' => e = .returned (.tuple #[.int .i64 s.size, .nilIface]) ∧ (Lib.BuilderAt 158 5 B b (.pointer (some ⟨b, 0, none⟩)) (bs ++ Lib.strCells s) w' ∧ Below B w w') := Any.Builder_WriteString Tryz.layc166 Tryz.Builder_Extra_c166 B b bs s w h hlen hBw
end Go.Proofs

/- WALKS: the text of a number below 10. -/
namespace Go.Proofs.YtamhlkjfpdkhoaaGreatDoor
open Go.RowKit

theorem infoU64 : (Tryz.prog.info? 102).map (fun i => (i.zero, i.size, i.bytes)) = some (some (.int .u64 0), 1, 8) := by kernel_rfl

set_option maxRecDepth 100000 in
set_option maxHeartbeats 1000000 in
theorem chunks_one (v : Value) (n : Nat) (w : World) (hd : Dig w v n) (h0 : 0 < n) (hn : n < 10000000000000000000) :
    Calls Tryz.prog 145 #[v] w fun e w' => ∃ g cap, e = .returned (.slice (some ⟨g, 0, none⟩) 1 cap) ∧ w'.cell? ⟨g, 0, none⟩ = some (.int .u64 n) ∧ g < w'.heap.size ∧ Below w.heap.size w w' := by
  obtain ⟨_, ⟨hz, _⟩ | ⟨_, b, o, rfl, hc⟩⟩ := hd
  · omega
  have CF := copied_fresh n b o w h0 (by omega) hc
  have DW := fun g W hc hf => divideByWord_any n 10000000000000000000 g 0 W (by omega) (by omega) (by omega) hc hf
  have e1 : n % 10000000000000000000 = n := by omega
  have e2 : n / 10000000000000000000 = 0 := by omega
  rw [e1, e2] at DW
  replace CF := Lib.hid CF
  replace DW := Lib.hid DW
  obtain ⟨i0, hi, hz0, hz1, hz2⟩ := info_parts infoU64
  clear e1 e2 hc h0 hn
  go_enter Tryz.func145, Tryz.ntmps145
  go_wp2_with fail
  refine CF.out.mono ?_
  rintro e w1 ⟨rfl, hc, hf, hb⟩
  have Hb := Lib.hid hb
  clear hb
  go_wp2_with fail
  refine wp_loop_rounds 2 ?_
  rw [rounds_succ]
  go_wp2_with fail
  refine (DW.out _ _ hc hf).mono ?_
  rintro e w2 ⟨rfl, hc2, hb2⟩
  have Hb2 := Lib.hid (Hb.out.trans hb2)
  obtain ⟨q0, q1, _⟩ := cells_of_cell hc2
  have lt2 : w.heap.size < w2.heap.size := (Array.getElem?_eq_some_iff.1 q1).1
  have ho : Hid (w2.ownsRow w.heap.size 102 1 (.slice none 0 0) 0 []) := Lib.hid ⟨rfl, .inl ⟨rfl, rfl⟩⟩
  clear hb2 Hb hc hf CF DW
  go_wp2_with (at_builtin; refine wpList_append_own _ rfl _ _ 28 rfl w.heap.size 102 i0 (.int .u64 0) 1 8 Tryz.underlying28 hi hz0 hz1 hz2 rfl (by decide) _ _ _ rfl (ho.out.alloc _) ⟨w2.heap.size, 0, none⟩ 1 1 [.int .u64 n] rfl rfl (cell_one_new _ _ _) (fun x hx => by simp at hx; subst hx; rfl) (by decide) (by decide) (by have := Hb2.out.size; simp; omega) ?_; intro v' w3 hown' hgrow3 _; have HO := Lib.hid hown'; have B3 := Lib.hid (((Below.refl w2.heap.size w2).alloc (Nat.le_refl _) _).grown (row := none) hgrow3 (by simp) (fun k hk => by cases hk)); clear hown' hgrow3)
  have hc3 : w3.cell? ⟨w.heap.size, 0, none⟩ = some (.int .u64 0) := (B3.out.cell (p := ⟨w.heap.size, 0, none⟩) lt2).trans hc2
  have CZ := Lib.hid (cut_zero w.heap.size 0 1 w3 hc3)
  clear hc2 hc3
  refine CZ.out.mono ?_
  rintro e w4 ⟨rfl, hd4⟩
  have HD4 := Lib.hid hd4
  clear hd4
  go_wp2_with fail
  rw [rounds_succ]
  go_wp2_with fail
  obtain ⟨g, cap, cur, rfl, hcg⟩ : ∃ g cap cur, v' = .slice (some ⟨g, 0, none⟩) 1 cap ∧ Hid (w3.heap[g]? = some cur ∧ w3.cell? ⟨g, 0, none⟩ = some (.int .u64 n)) := by
    rcases HO.out.2 with ⟨_, hx⟩ | ⟨g, cap, cur, h0, h1, h2, h3⟩
    · simp at hx
    · subst h0
      exact ⟨g, cap, _, rfl, Lib.hid ⟨h2, by have := owns_cells HO.out 0 _ rfl; simpa [Addr.add] using this⟩⟩
  go_ret
  have hb4 : Below w.heap.size w w4 := (Hb2.out.trans (B3.out.mono (Nat.le_of_lt lt2))).trans (HD4.out.below _)
  exact ⟨g, cap, rfl, (HD4.out.cell _).trans hcg.out.2, Nat.lt_of_lt_of_le (lt_of_row hcg.out.1) (HD4.out.below 0).size, hb4⟩
end Go.Proofs.YtamhlkjfpdkhoaaGreatDoor

/- WALKS: the text of a number below 10^19. -/
namespace Go.Proofs.YtamhlkjfpdkhoaaGreatDoor
open Go.RowKit

set_option maxRecDepth 100000 in
set_option maxHeartbeats 1000000 in
theorem FormatUintI_small (n : Nat) (w : World) (hn : n < 100) :
    Calls Tryz.prog 181 #[.int .u64 n, .int .i64 10] w fun e w' => e = .returned (.string ⟨(Lib.decDigits n).toArray⟩) ∧ w' = w := by
  have SM := Lib.hid (fun W => Tryz.internal_strconv_small n hn W)
  have hc : IntKind.i64.wrap (n : Int) = n := by simp only [IntKind.wrap_i64]; omega
  go_enter Tryz.func181, Tryz.ntmps181
  go_wp2_with fail
  refine (SM.out _).mono ?_
  rintro e w1 ⟨rfl, hw⟩
  subst hw
  go_wp2_with fail
  go_ret
  exact ⟨rfl, rfl⟩

set_option maxRecDepth 100000 in
set_option maxHeartbeats 1000000 in
theorem FormatUint_small (n : Nat) (w : World) (hn : n < 100) :
    Calls Tryz.prog 146 #[.int .u64 n, .int .i64 10] w fun e w' => e = .returned (.string ⟨(Lib.decDigits n).toArray⟩) ∧ Below w.heap.size w w' := by
  have SM := Lib.hid (fun W => FormatUintI_small n W hn)
  clear hn
  go_enter Tryz.func146, Tryz.ntmps146
  go_wp2_with fail
  refine (SM.out _).mono ?_
  rintro e w1 ⟨rfl, hw⟩
  subst hw
  go_wp2_with fail
  go_ret
  exact ⟨rfl, Below.refl _ _⟩

set_option maxRecDepth 100000 in
set_option maxHeartbeats 1000000 in
theorem text_of (v : Value) (n : Nat) (w : World) (hd : Dig w v n) (h0 : 0 < n) (hn : n < 10000000000000000000) (hlen : (Lib.decDigits n).length ≤ 20) (h1 : 0 < (Lib.decDigits n).length)
    (FU : ∀ W, Below w.heap.size w W → Calls Tryz.prog 146 #[.int .u64 n, .int .i64 10] W fun e w' => e = .returned (.string ⟨(Lib.decDigits n).toArray⟩) ∧ Below W.heap.size W w') :
    Calls Tryz.prog 89 #[v] w fun e w' => e = .returned (.string ⟨(Lib.decDigits n).toArray⟩) ∧ Below w.heap.size w w' := by
  have CH := Lib.hid (chunks_one v n w hd h0 hn)
  obtain ⟨p, l, c, rfl⟩ := hd.slice
  obtain ⟨ds, hds⟩ : ∃ ds, Lib.decDigits n = ds := ⟨_, rfl⟩
  rw [hds] at hlen h1 FU ⊢
  replace FU := Lib.hid FU
  clear hd h0 hn hds
  go_enter Tryz.func89, Tryz.ntmps89
  go_wp2_with fail
  refine CH.out.mono ?_
  rintro e w1 ⟨g, cap, rfl, hc, hg, hb⟩
  have Hb := Lib.hid hb
  have Hg := Lib.hid hg
  have hc' : (w1.alloc (.cells #[.pointer none, .slice none 0 0] 158)).cell? ⟨g, 0, none⟩ = some (.int .u64 n) := (((Below.refl w1.heap.size w1).alloc (Nat.le_refl _) _).cell (p := ⟨g, 0, none⟩) hg).trans hc
  have Ba := Lib.hid ((Below.refl w1.heap.size w1).alloc (Nat.le_refl _) (.cells #[.pointer none, .slice none 0 0] 158))
  have Rb : Hid ((w1.alloc (.cells #[.pointer none, .slice none 0 0] 158)).heap[w1.heap.size]? = some (.cells #[.pointer none, .slice none 0 0] 158 (0, 0))) := Lib.hid (heap_alloc_new _ _)
  clear hb hg CH hc
  go_wp2_with fail
  generalize (w1.alloc (.cells #[.pointer none, .slice none 0 0] 158)) = wa at *
  refine wp_loop_rounds 2 ?_
  rw [rounds_succ]
  go_wp2_with fail
  refine (FU.out _ ?_).mono ?_
  · exact Hb.out.trans (Ba.out.mono Hb.out.size)
  rintro e w2 ⟨rfl, hb2⟩
  have R2 := Lib.hid (Below.row hb2 (lt_of_row Rb.out) Rb.out)
  have B2 := Lib.hid (Ba.out.trans (hb2.mono Ba.out.size))
  have IB := Lib.hid (show Lib.IsBuilder 158 5 w1.heap.size w1.heap.size [] w2 from .inl ⟨Nat.le_refl _, .slice none 0 0, R2.out, ⟨rfl, .inl ⟨rfl, rfl⟩⟩, by simp [Value.ownBlock]⟩)
  clear hb2
  go_wp2_with fail
  refine (Tryz.Builder_Len _ _ _ _ IB.out).mono ?_
  rintro e w3 ⟨rfl, hw3⟩
  subst hw3
  go_wp2_with fail
  have WS := Lib.hid (Tryz.Builder_WriteString _ _ _ ⟨ds.toArray⟩ _ IB.out (by simp [ByteArray.size]; omega) B2.out.size)
  refine WS.out.mono ?_
  rintro e w4 ⟨rfl, hb4, hl4⟩
  have BA := Lib.hid hb4
  have L4 := Lib.hid hl4
  clear hb4 hl4
  go_wp2_with fail
  rw [rounds_succ]
  go_wp2_with fail
  refine (Tryz.Builder_String_any w1.heap.size w1.heap.size ds w4 (.inr BA.out) (Nat.le_trans B2.out.size L4.out.size)).mono ?_
  rintro e w5 ⟨rfl, hl5⟩
  have L5 := Lib.hid hl5
  clear hl5
  go_wp2_with fail
  go_ret
  exact ⟨rfl, (Hb.out.trans ((B2.out.trans (L4.out.trans L5.out)).mono Hb.out.size))⟩
end Go.Proofs.YtamhlkjfpdkhoaaGreatDoor

/- WALKS: the strings of small integers and fractions. -/
namespace Go.Proofs.YtamhlkjfpdkhoaaGreatDoor
open Go.RowKit

theorem bcat (a b : List UInt8) : (⟨a.toArray⟩ : ByteArray) ++ ⟨b.toArray⟩ = ⟨(a ++ b).toArray⟩ := by
  apply ByteArray.ext; simp

theorem ret_str {a b : ByteArray} (h : a = b) : Ending.returned (.string a) = .returned (.string b) := by rw [h]

theorem text_small (v : Value) (n : Nat) (ds : List UInt8) (w : World) (hd : Dig w v n) (h0 : 0 < n) (hn : n < 100) (hds : Lib.decDigits n = ds) (h1 : 0 < ds.length) (h2 : ds.length ≤ 20) :
    Calls Tryz.prog 89 #[v] w fun e w' => e = .returned (.string ⟨ds.toArray⟩) ∧ Below w.heap.size w w' := by
  subst hds
  exact text_of v n w hd h0 (by omega) h2 h1 fun W _ => FormatUint_small n W hn

set_option maxRecDepth 100000 in
set_option maxHeartbeats 1000000 in
theorem IString_of (v : Value) (s : Bool) (n : Nat) (ds : List UInt8) (w : World) (hv : WI w v s n) (hl : ds.length ≤ 40)
    (TX : ∀ W d, Dig W d n → Calls Tryz.prog 89 #[d] W fun e w' => e = .returned (.string ⟨ds.toArray⟩) ∧ Below W.heap.size W w') :
    Calls Tryz.prog 17 #[v] w fun e w' => e = .returned (.string ⟨(if s then 45 :: ds else ds).toArray⟩) ∧ Below w.heap.size w w' := by
  obtain ⟨d, rfl, hd⟩ := hv
  obtain ⟨p, l, c, rfl⟩ := hd.slice
  have T := Lib.hid (fun W (hb : Below w.heap.size w W) => TX W _ (hd.below hb))
  clear TX hd
  cases s
  · go_enter Tryz.func17, Tryz.ntmps17
    go_wp2_with fail
    refine (T.out _ ((Below.refl _ _).alloc (Nat.le_refl _) _)).mono ?_
    rintro e w1 ⟨rfl, hb⟩
    have Hb := Lib.hid (((Below.refl w.heap.size w).alloc (Nat.le_refl _) _).trans (hb.mono (by simp)))
    clear hb
    go_wp2_with fail
    go_ret
    exact ⟨rfl, Hb.out⟩
  · go_enter Tryz.func17, Tryz.ntmps17
    go_wp2_with fail
    refine (T.out _ ((Below.refl _ _).alloc (Nat.le_refl _) _)).mono ?_
    rintro e w1 ⟨rfl, hb⟩
    have Hb := Lib.hid (((Below.refl w.heap.size w).alloc (Nat.le_refl _) _).trans (hb.mono (by simp)))
    clear hb
    have hlim : ¬ 9223372036854775807 < 1 + ds.length := by omega
    go_wp2_with fail
    go_ret
    exact ⟨ret_str (bcat [45] ds), Hb.out⟩

theorem cat_le (a b : Nat) (ha : a ≤ 100) (hb : b ≤ 100) : ¬ 9223372036854775807 < a + b := by omega

set_option maxRecDepth 100000 in
set_option maxHeartbeats 1000000 in
theorem RString_of (v : Value) (s : Bool) (n k : Nat) (ds es : List UInt8) (w : World) (hv : WR w v s n k) (hk : k ≠ 0) (hl : ds.length ≤ 40) (hl' : es.length ≤ 40)
    (TX : ∀ W d, Dig W d n → Calls Tryz.prog 89 #[d] W fun e w' => e = .returned (.string ⟨ds.toArray⟩) ∧ Below W.heap.size W w')
    (TY : ∀ W d, Dig W d k → Calls Tryz.prog 89 #[d] W fun e w' => e = .returned (.string ⟨es.toArray⟩) ∧ Below W.heap.size W w') :
    Calls Tryz.prog 23 #[v] w fun e w' => e = .returned (.string ⟨((if s then 45 :: ds else ds) ++ 47 :: es).toArray⟩) ∧ Below w.heap.size w w' := by
  have IW := fun W (hb : Below w.heap.size w W) => isWhole_any v s n k W (hv.below hb)
  have e1 : decide (k = 0) = false := by simp [hk]
  rw [e1] at IW
  obtain ⟨d, e, rfl, hd, he⟩ := hv
  obtain ⟨p, l, c, rfl⟩ := hd.slice
  obtain ⟨p', l', c', rfl⟩ := he.slice
  have NS := Lib.hid (fun W (hb : Below w.heap.size w W) => IString_of (.agg #[.bool s, .slice p l c]) s n ds W ⟨_, rfl, hd.below hb⟩ hl TX)
  obtain ⟨fs, hfs, hfl⟩ : ∃ fs, (if s then 45 :: ds else ds) = fs ∧ fs.length ≤ 41 := ⟨_, rfl, by split <;> (try simp only [List.length_cons]) <;> omega⟩
  rw [hfs] at NS ⊢
  have T := Lib.hid (fun W (hb : Below w.heap.size w W) => TY W _ (he.below hb))
  replace IW := Lib.hid IW
  have L0 := Lib.hid ((LayX.nil w).push #[.bool s, .slice p l c, .slice p' l' c'] 45)
  clear TX TY hd he hfs e1 hk
  go_enter Tryz.func23, Tryz.ntmps23
  go_wp2_with fail
  refine (IW.out _ L0.out.1.2).mono ?_
  rintro e w1 ⟨rfl, hb⟩
  have L1 : Hid (Lay w [(#[.bool s, .slice p l c, .slice p' l' c'], 45)] w1) := Lib.hid (L0.out.1.step hb)
  obtain ⟨⟨c0, c1, c2⟩, _⟩ := sOfR L1.out
  clear hb L0
  go_wp2_with fail
  have l1 : ¬ 9223372036854775807 < fs.length + 1 := by omega
  have l2 : ¬ 9223372036854775807 < fs.length + 1 + es.length := by omega
  replace L1 := Lib.hid L1.out.drew
  clear c0 c1 c2
  go_region_held3 (fun W => (W.cell? ⟨w.heap.size, 0, none⟩ = some (.bool s) ∧ W.cell? ⟨w.heap.size, 1, none⟩ = some (.slice p l c) ∧ W.cell? ⟨w.heap.size, 2, none⟩ = some (.slice p' l' c')) ∧ Hid (∃ rest, Lay w ((#[.bool s, .slice p l c, .slice p' l' c'], 45) :: rest) W)) (first | exact sOfR T3.out | exact sOfR T2.out | exact sOfR L1.out) (first
    | (go_at_call 17; refine (NS.out _ ?_).mono ?_; exact L1.out.2; rintro e w2 ⟨rfl, hb2⟩; have T2 := Lib.hid (L1.out.step hb2); clear hb2)
    | (go_at_call 89; refine (T.out _ ?_).mono ?_; exact T2.out.2; rintro e w3 ⟨rfl, hb3⟩; have T3 := Lib.hid (T2.out.step hb3); clear hb3))
  go_wp2
  go_ret
  exact ⟨ret_str (by rw [show (⟨#[47]⟩ : ByteArray) = ⟨[47].toArray⟩ from rfl, bcat, bcat]; simp), T3.out.2⟩
end Go.Proofs.YtamhlkjfpdkhoaaGreatDoor
