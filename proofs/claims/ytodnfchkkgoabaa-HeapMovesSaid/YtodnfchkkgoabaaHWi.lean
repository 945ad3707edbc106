/- WALK of winning. -/
import Derived.Test.YtodnfchkkgoabaaHMo
import Derived.Test.YtodnfchkkgoabaaHWpMkRrSh
import Derived.Test.YtodnfchkkgoabaaHSf
import Derived.Test.YtodnfchkkgoabaaHOe
import Derived.Test.YtodnfchkkgoabaaHWe
import Derived.Deep.AppendLies
import Derived.IntWalk
import Derived.ControlIn
set_option linter.unusedVariables false
namespace Go.Proofs.Ytodnfchkkgoabaa
open Go.RowKit Go.Shelf
attribute [local go_sem] Oper.semAt_some

theorem MarksIn.lt {B : Nat} {w : World} : ∀ {ds : List Deferred}, MarksIn B w ds → ∀ d ∈ ds, ∀ r, d.target = .collected r → r < w.heap.size := by
  intro ds
  induction ds with
  | nil => intro _ d hd; cases hd
  | cons d ds ih =>
    rintro ⟨⟨r, h1, h2, h3, h4⟩, h5⟩ d' hd' r' e
    rcases List.mem_cons.1 hd' with e2 | e2
    · rw [e2, h1] at e; cases e
      exact (Array.getElem?_eq_some_iff.1 h3).1
    · exact ih h5 d' e2 r' e

/-- Between two moves of the i-th heap; w is the world at the round's start, Z that before all rounds. -/
structure Mp (w : World) (df : List Deferred) (B b7 g cap m h o : Nat) (ds H : List Nat) (i k : Nat) (Y : World) : Prop where
  marks : MarksIn B Y df
  mlt : ∀ d ∈ df, ∀ r, d.target = .collected r → r < w.heap.size
  os : Y.os = w.os
  tape : Y.tape = w.tape
  output : Y.output = w.output
  size : w.heap.size + 5 ≤ Y.heap.size
  block : ∀ b, b < w.heap.size → B ≤ b ∨ b = b7 ∨ Y.heap[b]? = w.heap[b]?
  idx : Boxed Y w.heap.size 3 (.int .i64 (i : Int))
  others : Boxed Y (w.heap.size + 2) 3 (.int .i64 (o : Int))
  code : Boxed Y (w.heap.size + 3) 68 (.slice (some ⟨g, 0, none⟩) m cap)
  heap : Boxed Y (w.heap.size + 4) 3 (.int .i64 (h : Int))
  pos : ∃ v, Boxed Y b7 33 v ∧ ARQ (fun b => B ≤ b ∧ (b < w.heap.size ∨ w.heap.size + 5 + 2 ≤ b)) Y B v (winL ds H i ++ winK ds H i k)
  le : k ≤ (mvs h 0 ds).length

theorem Mp.abides {w : World} {df : List Deferred} {B b7 g cap m h o : Nat} {ds H : List Nat} {i : Nat} (hB : b7 < w.heap.size) : Ab (w.heap.size + 5) 2 (Mp w df B b7 g cap m h o ds H i) := by
  rintro k X Y hx hA
  have hs := hx.size
  obtain ⟨v, hp, hr⟩ := hx.pos
  refine ⟨hx.marks.keep fun d hd r e1 e2 e3 => hA.block r (by have := hx.mlt d hd r e1; omega) (by have := hx.mlt d hd r e1; omega), hx.mlt, hA.os.trans hx.os, hA.tape.trans hx.tape, hA.output.trans hx.output, Nat.le_trans hs hA.size, fun b hb => ?_, box_aside' hx.idx hA (by omega), box_aside' hx.others hA (by omega), box_aside' hx.code hA (by omega), box_aside' hx.heap hA (by omega), ⟨v, box_aside' hp hA (by omega), hr.keep hA.size fun b hb hq => hA.block b hb (by omega)⟩, hx.le⟩
  rcases hx.block b hb with h1 | h1 | h1
  · exact .inl h1
  · exact .inr (.inl h1)
  · exact .inr (.inr ((hA.block b (by omega) (by omega)).trans h1))

theorem Mp.next {w : World} {df : List Deferred} {B b7 g cap m h o : Nat} {ds H : List Nat} {i k : Nat} {Y : World} (hY : Mp w df B b7 g cap m h o ds H i k Y) (e : winK ds H i (k + 1) = winK ds H i k) (hk : k < (mvs h 0 ds).length) : Mp w df B b7 g cap m h o ds H i (k + 1) Y :=
  ⟨hY.marks, hY.mlt, hY.os, hY.tape, hY.output, hY.size, hY.block, hY.idx, hY.others, hY.code, hY.heap, by rw [e]; exact hY.pos, hk⟩

theorem cell_alloc {w : World} {a : Addr} {v : Value} (o : Obj) (h : w.cell? a = some v) : (w.alloc o).cell? a = some v := (World.cell?_alloc_some w a o (by rw [h]; rfl)).trans h
theorem cell_new0 (w : World) (u v : Value) : (w.alloc (.cells #[u, v] 3)).cell? ⟨w.heap.size, 0, none⟩ = some u := by simp
theorem cell_new1 (w : World) (u v : Value) : (w.alloc (.cells #[u, v] 3)).cell? ⟨w.heap.size, 1, none⟩ = some v := by simp

theorem Keep.trans {B c : Nat} {x y z : World} (h : Keep B c x y) (k : Keep B c y z) : Keep B c x z :=
  ⟨Nat.le_trans h.size k.size, fun b h1 h2 h3 => (k.block b h1 h2 (Nat.lt_of_lt_of_le h3 h.size)).trans (h.block b h1 h2 h3)⟩

/-- A position more. -/
theorem Mp.push {w : World} {df : List Deferred} {B b7 g cap m h o : Nat} {ds H : List Nat} {i k : Nat} {Y1 Z4 Z5 : World} (hY : Mp w df B b7 g cap m h o ds H i k Y1) (hb7 : b7 < B) (hB : B ≤ w.heap.size) (hsz : w.heap.size + 5 + 2 ≤ Y1.heap.size) (hk : k < (mvs h 0 ds).length)
    {vp : Value} {RR : List Value} {F : List (List Int)} {L : List Int} (hp1 : Boxed Y1 b7 33 vp) (hown : Y1.ownsRow B 22 1 vp F.length RR) (hv : ∀ b, vp.ownBlock = some b → B ≤ b ∧ (b < w.heap.size ∨ w.heap.size + 5 + 2 ≤ b))
    (hr : ∀ i, i < F.length → ∃ g c, RR[i]? = some (.slice (some ⟨g, 0, none⟩) (F.getD i []).length c) ∧ NI Y1 (some ⟨g, 0, none⟩) (F.getD i []) ∧ g < Y1.heap.size ∧ vp.ownBlock ≠ some g ∧ (F.getD i []).length ≤ 1000 ∧ (B ≤ g ∧ (g < w.heap.size ∨ w.heap.size + 5 + 2 ≤ g)))
    (hF : winL ds H i ++ winK ds H i (k + 1) = F ++ [L]) (hL : L.length ≤ 1000) (hb4 : Below Y1.heap.size Y1 Z4) {g' c' : Nat} (hn : NI Z4 (some ⟨g', 0, none⟩) L) (hg : Y1.heap.size ≤ g' ∧ g' < Z4.heap.size) {g5 cap5 : Nat}
    (h1 : Z5.ownsRow B 22 1 (.slice (some ⟨g5, 0, none⟩) (F.length + 1) cap5) (F.length + 1) (RR ++ [.slice (some ⟨g', 0, none⟩) L.length c'])) (h2 : Z4.grownBy Z5 vp.ownBlock) (h3 : vp.ownBlock = some g5 ∨ g5 = Z4.heap.size) :
    Keep (w.heap.size + 5) (2 + 0) Y1 (Z5.setCell ⟨b7, 0, none⟩ (.slice (some ⟨g5, 0, none⟩) (F.length + 1) cap5)) ∧ Mp w df B b7 g cap m h o ds H i (k + 1) (Z5.setCell ⟨b7, 0, none⟩ (.slice (some ⟨g5, 0, none⟩) (F.length + 1) cap5)) := by
  have z4 : Y1.heap.size ≤ Z4.heap.size := hb4.size
  have z5 := h2.size
  have k5 : ∀ b, b < Y1.heap.size → vp.ownBlock ≠ some b → Z5.heap[b]? = Y1.heap[b]? := fun b hb hne => (h2.block b (by omega) (fun e => hne e.symm)).trans (hb4.block b hb)
  have s6 : (Z5.setCell ⟨b7, 0, none⟩ (.slice (some ⟨g5, 0, none⟩) (F.length + 1) cap5)).heap.size = Z5.heap.size := by simp [World.setCell]
  have k6 : ∀ b, b < Y1.heap.size → vp.ownBlock ≠ some b → b ≠ b7 → (Z5.setCell ⟨b7, 0, none⟩ (.slice (some ⟨g5, 0, none⟩) (F.length + 1) cap5)).heap[b]? = Y1.heap[b]? := fun b hb hne h7 => by
    rw [Below.heap_setCell _ _ _ _ (by simpa using h7)]; exact k5 b hb hne
  have hb5 : Boxed Z5 b7 33 vp := (k5 b7 (by omega) (fun e => by have := hv b7 e; omega)).trans hp1
  have nb : ∀ b, b < B → vp.ownBlock ≠ some b := fun b hb e => by have := (hv b e).1; omega
  have nd : ∀ b, w.heap.size ≤ b → b < w.heap.size + 5 + 2 → vp.ownBlock ≠ some b := fun b h1 h2 e => by have := (hv b e).2; omega
  refine ⟨⟨by rw [s6]; omega, fun b e1 e2 e3 => k6 b e3 (nd b (by omega) (by omega)) (by omega)⟩, hY.marks.keep fun d hd r e1 e2 e3 => ?_, hY.mlt, ?_, ?_, ?_, by rw [s6]; omega, fun b hb => ?_, ?_, ?_, ?_, ?_, ⟨_, Boxed.set _ hb5, ?_⟩, hk⟩
  · have h9 := hY.mlt d hd r e1
    refine k6 r (by omega) (fun e => ?_) (by omega)
    rcases hown.2 with ⟨h8, _⟩ | ⟨g8, cap8, cur8, h8, _, h10, _⟩
    · rw [h8] at e; cases e
    · rw [h8] at e; cases e
      rw [h10] at e3; cases e3
  · exact h2.os.trans (hb4.os.trans hY.os)
  · exact h2.tape.trans (hb4.tape.trans hY.tape)
  · exact h2.output.trans (hb4.output.trans hY.output)
  · by_cases e1 : B ≤ b
    · exact .inl e1
    · by_cases e2 : b = b7
      · exact .inr (.inl e2)
      · rcases hY.block b hb with e3 | e3 | e3
        · exact absurd e3 e1
        · exact absurd e3 e2
        · exact .inr (.inr ((k6 b (by omega) (nb b (by omega)) e2).trans e3))
  · exact (k6 _ (by omega) (nd _ (by omega) (by omega)) (by omega)).trans hY.idx
  · exact (k6 _ (by omega) (nd _ (by omega) (by omega)) (by omega)).trans hY.others
  · exact (k6 _ (by omega) (nd _ (by omega) (by omega)) (by omega)).trans hY.code
  · exact (k6 _ (by omega) (nd _ (by omega) (by omega)) (by omega)).trans hY.heap
  · rw [hF]
    refine (ARQ.push (Q := fun b => B ≤ b ∧ (b < w.heap.size ∨ w.heap.size + 5 + 2 ≤ b)) hown hv hr z4 (fun b hb => hb4.block b hb) hn hg hL (fun b hb => by omega) h1 h2 h3).keep (by rw [s6]; exact Nat.le_refl _) (fun b hb hq => ?_)
    exact Below.heap_setCell _ _ _ _ (by show b ≠ b7; omega)

/-- Before the i-th heap: all old blocks lie as they lay but for the box of the positions, which holds those found. -/
structure Lp (X4 : World) (b7 : Nat) (ds H : List Nat) (i : Nat) (w : World) : Prop where
  os : w.os = X4.os
  tape : w.tape = X4.tape
  output : w.output = X4.output
  size : X4.heap.size ≤ w.heap.size
  block : ∀ b, b < X4.heap.size → b ≠ b7 → w.heap[b]? = X4.heap[b]?
  pos : ∃ v, Boxed w b7 33 v ∧ ARQ (fun b => X4.heap.size ≤ b) w X4.heap.size v (winL ds H i)

set_option maxRecDepth 100000 in
set_option maxHeartbeats 8000000 in
theorem win_any : WinC := by
  intro ds H g cap ph ch X hd l1 l8 hds hH hlc hl hb
  refine (callsIn_wide (n := 19)).1 ?_
  refine callsIn_of_wp_marks Try.func48 rfl trivial ?_ rfl
  simp only [Try.ntmps48, List.size_toArray, List.length_cons, List.length_nil, Nat.reduceAdd, Nat.reduceSub, Array.replicate_succ, Array.replicate_zero, List.push_toArray, List.append_toArray, List.nil_append, List.cons_append]
  obtain ⟨m, hm⟩ : ∃ n, ds.length = n := ⟨_, rfl⟩
  obtain ⟨n, hn⟩ : ∃ n, H.length = n := ⟨_, rfl⟩
  have ROW := Lib.hid (fun Y (hY : NS Y (some ⟨g, 0, none⟩) ds) => row_any ds g cap 200 Y hY (by omega) hds (by omega))
  have AT := Lib.hid (fun V pv cv Y h1 h2 h3 h4 h5 => at_any V H pv ph cv ch Y h1 h2 h3 (show H.length ≤ 100000 by omega) h4 h5)
  rw [hm] at ROW ⊢
  rw [hn] at AT ⊢
  obtain ⟨i0, hi0, hz0, hz1, hz2⟩ := info_parts infoRow
  have HN := Lib.hid hn
  have HM := Lib.hid hm
  have HD := Lib.hid hd
  have HH := Lib.hid hH
  rw [hn] at hl hlc
  rw [hm] at l1 l8
  have HB := Lib.hid hb
  have HS := Lib.hid hds
  clear hn hm hd hH hb hds
  obtain ⟨X1, hX1⟩ : ∃ X1, X.alloc (Obj.cells #[Value.slice ph n ch] 22) = X1 := ⟨_, rfl⟩
  have B1 : Hid (Below X.heap.size X X1) := Lib.hid (by rw [← hX1]; exact (Below.refl _ X).alloc (Nat.le_refl _) _)
  have ROW1 := Lib.hid (ROW.out X1 (HD.out.under B1.out))
  clear ROW
  gi_wp2
  refine ⟨trivial, ?_⟩
  gi_at_call 44
  refine (callsIn_wide.2 ROW1.out).mono ?_
  rintro e X2 ⟨vr, rfl, hown, hb2⟩
  have B2 : Hid (Below X.heap.size X X2) := Lib.hid (B1.out.trans (hb2.mono B1.out.size))
  obtain ⟨gv0, cv0, rfl, hns⟩ := own_some hown (by rw [vals_len]; omega)
  have HVX := Lib.hid hns
  have s1 : X1.heap.size = X.heap.size + 1 := by rw [← hX1]; simp
  have b3 : Hid (Boxed X2 X.heap.size 22 (.slice ph n ch)) := Lib.hid (by
    have h1 : Boxed X1 X.heap.size 22 (.slice ph n ch) := by rw [← hX1]; exact Boxed.new _ _ _
    exact (hb2.block _ (by omega)).trans h1)
  have z2 : X1.heap.size ≤ X2.heap.size := hb2.size
  rw [vals_len]
  clear hb2 hown hns ROW1 hX1
  obtain ⟨X3, hX3⟩ : ∃ X3, X2.alloc (Obj.cells #[Value.slice (some { block := gv0, off := 0 }) 201 cv0] 71) = X3 := ⟨_, rfl⟩
  have B3 : Hid (Below X.heap.size X X3) := Lib.hid (by rw [← hX3]; exact B2.out.alloc B2.out.size _)
  have c3 : Hid (Boxed X3 X2.heap.size 71 (.slice (some ⟨gv0, 0, none⟩) 201 cv0)) := Lib.hid (by rw [← hX3]; exact Boxed.new _ _ _)
  have b3' : Hid (Boxed X3 X.heap.size 22 (.slice ph n ch)) := Lib.hid (by rw [← hX3]; exact (Below.heap_alloc _ _ _ b3.out.lt).trans b3.out)
  have HV3 : Hid (NS X3 (some ⟨gv0, 0, none⟩) (vals ds 201)) := Lib.hid (by rw [← hX3]; exact HVX.out.under ((Below.refl _ X2).alloc (Nat.le_refl _) _))
  have s3 : X3.heap.size = X2.heap.size + 1 := by rw [← hX3]; simp
  have hbx := b3'.out.cell
  have hcx := c3.out.cell
  have hVl : ∀ i, (vals ds 201).getD i 0 < 2 ^ 11 := fun i => by
    by_cases e : i < 201
    · have := vals_le ds 201 i; omega
    · rw [List.getD_eq_getElem?_getD, List.getElem?_eq_none (by rw [vals_len]; omega)]; decide
  have AT3 := Lib.hid (AT.out (vals ds 201) (some ⟨gv0, 0, none⟩) cv0 X3 HV3.out (HH.out.under B3.out) (by rw [vals_len]; omega) (fun h hh => by rw [vals_len]; have := HB.out h hh; omega) hVl)
  rw [vals_len] at AT3
  have HVL := Lib.hid hVl
  clear hVl
  gi_wp2
  refine ⟨trivial, ?_⟩
  gi_at_call 63
  refine (callsIn_wide.2 AT3.out).mono ?_
  rintro e w' ⟨rfl, rfl⟩
  obtain ⟨S, hS⟩ : ∃ S, xorl (vals ds 201) H = S := ⟨_, rfl⟩
  rw [hS]
  have HSS := Lib.hid hS
  obtain ⟨X4, hX4⟩ : ∃ X4, X3.alloc (Obj.cells #[Value.slice none 0 0] 33) = X4 := ⟨_, rfl⟩
  have B4 : Hid (Below X.heap.size X X4) := Lib.hid (by rw [← hX4]; exact B3.out.alloc B3.out.size _)
  have p4 : Hid (Boxed X4 X3.heap.size 33 (.slice none 0 0)) := Lib.hid (by rw [← hX4]; exact Boxed.new _ _ _)
  have b4 : Hid (Boxed X4 X.heap.size 22 (.slice ph n ch)) := Lib.hid (by rw [← hX4]; exact (Below.heap_alloc _ _ _ b3'.out.lt).trans b3'.out)
  have c4 : Hid (Boxed X4 X2.heap.size 71 (.slice (some ⟨gv0, 0, none⟩) 201 cv0)) := Lib.hid (by rw [← hX4]; exact (Below.heap_alloc _ _ _ c3.out.lt).trans c3.out)
  have s4 : X4.heap.size = X3.heap.size + 1 := by rw [← hX4]; simp
  have hbx4 := b4.out.cell
  clear hS hbx hcx AT3
  gi_wp2
  have start : Lp X4 X3.heap.size ds H 0 X4 := ⟨rfl, rfl, rfl, Nat.le_refl _, fun _ _ _ => rfl, ⟨_, p4.out, ARQ.nil _ _ _⟩⟩
  refine wpIn_loop (fun a w => ∃ (i : Nat) (df : List Deferred) (p20 u8 u9 u10 u11 u12 u21 u22 u23 u24 u25 u26 u27 u28 u29 u30 u31 u32 u33 u34 u35 u36 u37 u38 u39 u40 u41 u42 u43 u44 u45 u46 u47 u48 u49 u50 u51 u52 u53 u54 u55 u56 u57 u58 : Value), a = { tmps := #[Value.slice (some { block := g, off := 0 }) m cap, Value.slice ph n ch, undef, Value.pointer (some { block := X.heap.size, off := 0 }), Value.slice none 0 0, Value.pointer (some { block := X2.heap.size, off := 0 }), Value.int IntKind.i64 ↑S, Value.pointer (some { block := X2.heap.size + 1, off := 0 }), u8, u9, u10, u11, u12, Value.slice (some { block := g, off := 0 }) m cap, Value.slice (some { block := gv0, off := 0 }) 201 cv0, Value.slice (some { block := gv0, off := 0 }) 201 cv0, Value.slice ph n ch, Value.int IntKind.i64 ↑S, Value.slice ph n ch, Value.int IntKind.i64 ↑n, p20, u21, u22, u23, u24, u25, u26, u27, u28, u29, u30, u31, u32, u33, u34, u35, u36, u37, u38, u39, u40, u41, u42, u43, u44, u45, u46, u47, u48, u49, u50, u51, u52, u53, u54, u55, u56, u57, u58, undef, undef, undef, undef], defers := df } ∧ p20 = Value.int .i64 (i : Int) ∧ i ≤ n ∧ Hid (MarksIn X4.heap.size w df) ∧ Hid (Lp X4 X3.heap.size ds H i w)) (fun a _ => n - (intOf (a.tmps.getD 20 undef)).toNat) ?h0 ?rd
  case h0 => exact ⟨0, [], _, undef, undef, undef, undef, undef, undef, undef, undef, undef, undef, undef, undef, undef, undef, undef, undef, undef, undef, undef, undef, undef, undef, undef, undef, undef, undef, undef, undef, undef, undef, undef, undef, undef, undef, undef, undef, undef, undef, undef, undef, undef, undef, undef, rfl, rfl, by omega, Lib.hid trivial, Lib.hid start⟩
  case rd =>
    rintro a w ⟨i, df, _, u8, u9, u10, u11, u12, u21, u22, u23, u24, u25, u26, u27, u28, u29, u30, u31, u32, u33, u34, u35, u36, u37, u38, u39, u40, u41, u42, u43, u44, u45, u46, u47, u48, u49, u50, u51, u52, u53, u54, u55, u56, u57, u58, rfl, rfl, hin, hmk, hlp⟩
    clear start hbx4
    by_cases hlt : i < n
    · have NSH : Hid (NS w ph H) := Lib.hid ((HH.out.under B4.out).keepB (fun g9 e => by
        have h9 : g9 < X.heap.size := by
          obtain ⟨g8, e8, hc8⟩ := HH.out i (by have := HN.out; omega)
          rw [e8] at e; cases e
          exact cell_lt2 hc8
        have := B2.out.size
        exact hlp.out.block g9 (by omega) (by omega)))
      have HVW : Hid (NS w (some ⟨gv0, 0, none⟩) (vals ds 201)) := Lib.hid (by
        have h8 : NS X4 (some ⟨gv0, 0, none⟩) (vals ds 201) := by rw [← hX4]; exact HV3.out.under ((Below.refl _ X3).alloc (Nat.le_refl _) _)
        refine h8.keepB (fun g9 e => ?_)
        have h9 : g9 < X2.heap.size := by
          obtain ⟨g8, e8, hc8⟩ := HVX.out 0 (by rw [vals_len]; omega)
          cases e8; cases e
          exact cell_lt2 hc8
        exact hlp.out.block g9 (by omega) (by omega))
      have bxw : Hid (Boxed w X2.heap.size 71 (.slice (some ⟨gv0, 0, none⟩) 201 cv0)) := Lib.hid ((hlp.out.block _ (by omega) (by omega)).trans c4.out)
      have bhw : Hid (Boxed w X.heap.size 22 (.slice ph n ch)) := Lib.hid ((hlp.out.block _ (by have := B2.out.size; omega) (by have := B2.out.size; omega)).trans b4.out)
      obtain ⟨h, hh⟩ : ∃ h, H.getD i 0 = h := ⟨_, rfl⟩
      have h200 : h ≤ 200 := by
        rw [← hh]; exact HB.out _ (by rw [List.getD_eq_getElem?_getD, List.getElem?_eq_getElem (show i < H.length by have := HN.out; omega)]; exact List.getElem_mem _)
      obtain ⟨gh, e, hc⟩ := NSH.out i (by have := HN.out; omega)
      rw [hh] at hc
      subst e
      have bi : (i : Int) < (n : Int) := by omega
      have HHI := Lib.hid hh
      have zw := hlp.out.size
      obtain ⟨w1, hw1⟩ : ∃ w1, w.alloc (Obj.cells #[Value.int IntKind.i64 (i : Int)] 3) = w1 := ⟨_, rfl⟩
      have t1 : w1.heap.size = w.heap.size + 1 := by rw [← hw1]; simp
      have k1 : ∀ b, b < w.heap.size → w1.heap[b]? = w.heap[b]? := fun b hb => by rw [← hw1]; exact Below.heap_alloc _ _ _ hb
      have bx1 : Hid (Boxed w1 X2.heap.size 71 (.slice (some ⟨gv0, 0, none⟩) 201 cv0)) := Lib.hid ((k1 _ (by omega)).trans bxw.out)
      have hbx1 := bx1.out.cell
      have b81 : Hid (Boxed w1 w.heap.size 3 (.int .i64 (i : Int))) := Lib.hid (by rw [← hw1]; exact Boxed.new _ _ _)
      have HV1 : Hid (NS w1 (some ⟨gv0, 0, none⟩) (vals ds 201)) := Lib.hid (by rw [← hw1]; exact HVW.out.under ((Below.refl _ w).alloc (Nat.le_refl _) _))
      have AT1 : Hid (Calls Try.prog 63 #[.slice (some ⟨gv0, 0, none⟩) 201 cv0, .slice (some ⟨w1.heap.size, 0, none⟩) 1 1] (w1.alloc (.cells #[.int .i64 (h : Int)] 3)) fun e w' => e = .returned (.int .i64 (gv ds h : Nat)) ∧ (w1.alloc (.cells #[.int .i64 (h : Int)] 3)) = w') := Lib.hid (by
        have := at_any (vals ds 201) [h] (some ⟨gv0, 0, none⟩) (some ⟨w1.heap.size, 0, none⟩) cv0 1 (w1.alloc (.cells #[.int .i64 (h : Int)] 3)) (HV1.out.under ((Below.refl _ w1).alloc (Nat.le_refl _) _)) (by
          intro j hj
          refine ⟨_, rfl, ?_⟩
          have : j = 0 := by simp at hj; omega
          subst this
          simp) (by rw [vals_len]; omega) (by simp) (by intro z hz; rw [vals_len]; simp at hz; omega) HVL.out
        rw [vals_len] at this
        have e9 : xorl (vals ds 201) [h] = gv ds h := by
          unfold xorl
          simp only [List.foldl_cons, List.foldl_nil, Nat.zero_xor]
          exact vals_getD ds 201 h (by omega)
        rw [e9] at this
        exact this)
      clear hh
      rw [t1] at AT1
      have hS11 : S < 2 ^ 11 := by rw [← HSS.out]; exact xorl_lt _ 11 HVL.out _
      have hg11 : gv ds h < 2 ^ 11 := by have : gv ds h ≤ h := vals_le ds (h + 1) h; omega
      have XO := xor_nat S (gv ds h) (by omega) (by omega)
      obtain ⟨o, ho⟩ : ∃ o, S ^^^ gv ds h = o := ⟨_, rfl⟩
      rw [ho] at XO
      have HOO := Lib.hid ho
      clear ho
      gi_wp2
      refine ⟨trivial, ?_⟩
      gi_at_call 63
      refine (callsIn_wide.2 AT1.out).mono ?_
      rintro e w' ⟨rfl, rfl⟩
      obtain ⟨w2, hw2⟩ : ∃ w2, w1.alloc (Obj.cells #[Value.int IntKind.i64 (h : Int)] 3) = w2 := ⟨_, rfl⟩
      rw [hw2]
      have t2 : w2.heap.size = w.heap.size + 2 := by rw [← hw2]; simp [t1]
      gi_wp2_with (refine ⟨trivial, ?_⟩; gi_at_call 64; refine (callsIn_wide.2 (moves_any _ _ _ _ _)).mono ?_; rintro e w' ⟨rfl, rfl⟩)
      obtain ⟨w3, hw3⟩ : ∃ w3, w2.alloc (Obj.cells #[Value.int IntKind.i64 (o : Int)] 3) = w3 := ⟨_, rfl⟩
      obtain ⟨w4, hw4⟩ : ∃ w4, w3.alloc (Obj.cells #[Value.slice (some { block := g, off := 0 }) m cap] 68) = w4 := ⟨_, rfl⟩
      obtain ⟨w5, hw5⟩ : ∃ w5, w4.alloc (Obj.cells #[Value.int IntKind.i64 (h : Int)] 3) = w5 := ⟨_, rfl⟩
      rw [hw3, hw4, hw5]
      have t3 : w3.heap.size = w.heap.size + 3 := by rw [← hw3]; simp [t2]
      have t4 : w4.heap.size = w.heap.size + 4 := by rw [← hw4]; simp [t3]
      have t5 : w5.heap.size = w.heap.size + 5 := by rw [← hw5]; simp [t4]
      have k2 : ∀ b, b < w1.heap.size → w2.heap[b]? = w1.heap[b]? := fun b hb => by rw [← hw2]; exact Below.heap_alloc _ _ _ hb
      have k3 : ∀ b, b < w2.heap.size → w3.heap[b]? = w2.heap[b]? := fun b hb => by rw [← hw3]; exact Below.heap_alloc _ _ _ hb
      have k4 : ∀ b, b < w3.heap.size → w4.heap[b]? = w3.heap[b]? := fun b hb => by rw [← hw4]; exact Below.heap_alloc _ _ _ hb
      have k5 : ∀ b, b < w4.heap.size → w5.heap[b]? = w4.heap[b]? := fun b hb => by rw [← hw5]; exact Below.heap_alloc _ _ _ hb
      have kk : ∀ b, b < w.heap.size → w5.heap[b]? = w.heap[b]? := fun b hb => (k5 b (by omega)).trans ((k4 b (by omega)).trans ((k3 b (by omega)).trans ((k2 b (by omega)).trans (k1 b hb))))
      have start : Mp w df X4.heap.size X3.heap.size g cap m h o ds H i 0 w5 := by
        obtain ⟨vp, hp1, hp2⟩ := hlp.out.pos
        refine ⟨hmk.out.keep fun d hd r e1 e2 e3 => kk r ((hmk.out.lt) d hd r e1), hmk.out.lt, ?_, ?_, ?_, by omega, fun b hb => .inr (.inr (kk b hb)), ?_, ?_, ?_, ?_, ⟨vp, (kk _ (by omega)).trans hp1, ?_⟩, Nat.zero_le _⟩
        · rw [← hw5, ← hw4, ← hw3, ← hw2, ← hw1]; rfl
        · rw [← hw5, ← hw4, ← hw3, ← hw2, ← hw1]; rfl
        · rw [← hw5, ← hw4, ← hw3, ← hw2, ← hw1]; rfl
        · exact (k5 _ (by omega)).trans ((k4 _ (by omega)).trans ((k3 _ (by omega)).trans ((k2 _ (by omega)).trans b81.out)))
        · have q1 : Boxed w3 (w.heap.size + 2) 3 (.int .i64 (o : Int)) := by rw [← hw3, ← t2]; exact Boxed.new _ _ _
          exact (k5 _ (by omega)).trans ((k4 _ (by omega)).trans q1)
        · have q1 : Boxed w4 (w.heap.size + 3) 68 (.slice (some ⟨g, 0, none⟩) m cap) := by rw [← hw4, ← t3]; exact Boxed.new _ _ _
          exact (k5 _ (by omega)).trans q1
        · rw [← hw5, ← t4]; exact Boxed.new _ _ _
        · have q0 : winK ds H i 0 = [] := rfl
          rw [q0, List.append_nil]
          exact (hp2.imp (fun b hb hq => by omega)).keep (by omega) fun b hb _ => kk b hb
      refine range_law_at (D := w.heap.size + 5) (n := 19) (gf := 75) (lb := #[.pointer (some ⟨w.heap.size + 3, 0, none⟩), .pointer (some ⟨w.heap.size + 4, 0, none⟩)]) (c := 0) (N := (mvs h 0 ds).length) (M := 100000000) (enc := encM (mvs h 0 ds)) (Rd := fun k => k < (mvs h 0 ds).length) (Fin := fun k => k = (mvs h 0 ds).length) (QQ := Mvd (w.heap.size + 3) (w.heap.size + 4) g m cap h ds) t5 rfl (enters_of Try.func75 (by kernel_rfl) rfl) (fun _ => rfl)
        (fun W1 hA hsz => moves1_iter 18 (w.heap.size + 3) (w.heap.size + 4) g m cap h ds W1 (by omega) (by omega) HS.out) (by have h1 := mvs_len h ds 0; have h2 : ds.length * (h + 2) ≤ 8 * 202 := Nat.mul_le_mul (by rw [HM.out]; exact l8) (by omega); omega)
        (Mp w df X4.heap.size X3.heap.size g cap m h o ds H i) (fun _ _ _ => False) (Mp.abides (by omega)) (fun _ _ _ _ h _ => h) start (fun k X h => h.le) (fun k Y hY => ⟨HM.out, hY.code.cell, hY.heap.cell, fun j hj => by
          obtain ⟨g', e, hcd⟩ := HD.out j (by rw [HM.out]; exact hj)
          cases e
          have hgX := cell_lt2 hcd
          have := B2.out.size
          have e1 : Y.heap[g]? = w.heap[g]? := by
            rcases hY.block g (by omega) with h9 | h9 | h9
            · omega
            · omega
            · exact h9
          have e2 : w.heap[g]? = X.heap[g]? := (hlp.out.block g (by omega) (by omega)).trans (B4.out.block g hgX)
          exact (World.cell?_of_block (e1.trans e2)).trans hcd⟩)
        (fun k => { tmps := #[Value.slice (some { block := g, off := 0 }) m cap, Value.slice (some { block := gh, off := 0 }) n ch, undef, Value.pointer (some { block := X.heap.size, off := 0 }), Value.slice none 0 0, Value.pointer (some { block := X2.heap.size, off := 0 }), Value.int IntKind.i64 ↑S, Value.pointer (some { block := X2.heap.size + 1, off := 0 }), Value.pointer (some { block := w.heap.size, off := 0 }), Value.int IntKind.i64 ↑h, Value.pointer (some { block := w.heap.size + 2, off := 0 }), Value.int .i64 ((mvs h 0 ds).getD k (0, 0)).1, Value.int .i64 ((mvs h 0 ds).getD k (0, 0)).2, Value.slice (some { block := g, off := 0 }) m cap, Value.slice (some { block := gv0, off := 0 }) 201 cv0, Value.slice (some { block := gv0, off := 0 }) 201 cv0, Value.slice (some { block := gh, off := 0 }) n ch, Value.int IntKind.i64 ↑S, Value.slice (some { block := gh, off := 0 }) n ch, Value.int IntKind.i64 ↑n, Value.int IntKind.i64 ↑i, Value.bool true, Value.int IntKind.i64 ↑i, Value.pointer (some { block := gh, off := i }), Value.int IntKind.i64 ↑h, Value.int IntKind.i64 ↑S, Value.slice (some { block := gv0, off := 0 }) 201 cv0, Value.int IntKind.i64 ↑h, Value.slice (some { block := w.heap.size + 1, off := 0 }) 1 1, Value.int IntKind.i64 ↑(gv ds h), Value.int IntKind.i64 ↑o, Value.slice (some { block := g, off := 0 }) m cap, Value.int IntKind.i64 ↑h, Value.func (Fn.func 75) #[] #[Value.pointer (some { block := w.heap.size + 2 + 1, off := 0 }), Value.pointer (some { block := w.heap.size + 2 + 1 + 1, off := 0 })], Value.int .i64 ((mvs h 0 ds).getD k (0, 0)).1, Value.int .i64 ((mvs h 0 ds).getD k (0, 0)).2, u36, u37, u38, u39, u40, u41, u42, u43, u44, u45, u46, u47, u48, u49, u50, u51, u52, u53, u54, u55, u56, u57, u58, undef, undef, undef, undef], defers := [] })
        ?assign ?body ?done (fun _ _ _ h => h.elim)
      case assign =>
        intro l' k Y K hK
        unfold encM
        generalize (mvs h 0 ds).getD k (0, 0) = a at hK ⊢
        gi_wp2
        exact hK
      case body =>
        rintro l' k Y hk hY hsz
        obtain ⟨p, q, hx⟩ : ∃ p q, (mvs h 0 ds).getD k (0, 0) = (p, q) := ⟨_, _, rfl⟩
        have hpq : p + q < h := by
          have hmem : ((mvs h 0 ds).getD k (0, 0)) ∈ mvs h 0 ds := by
            rw [List.getD_eq_getElem?_getD, List.getElem?_eq_getElem hk]; exact List.getElem_mem hk
          rw [hx] at hmem
          exact mvs_lt _ _ _ _ hmem
        have HWK : Hid (winK ds H i (k + 1) = winK ds H i k ++ (if gv ds p ^^^ gv ds q = o then [rowAt H i (p, q)] else [])) := Lib.hid (winK_succ ds H i k p q o (by rw [HHI.out]; exact hk) (by rw [HHI.out]; exact hx) (by rw [← xorl_gx ds H HB.out, HSS.out, HHI.out]; exact HOO.out))
        rw [hx]; dsimp only
        have gX : gh < X.heap.size := by
          obtain ⟨g8, e8, hc8⟩ := HH.out i (by have := HN.out; omega)
          cases e8; exact cell_lt2 hc8
        have gV : gv0 < X2.heap.size := by
          obtain ⟨g8, e8, hc8⟩ := HVX.out 0 (by rw [vals_len]; omega)
          cases e8; exact cell_lt2 hc8
        have zX : X.heap.size ≤ X2.heap.size := B2.out.size
        have kY : ∀ b, b < w.heap.size → b < X4.heap.size → b ≠ X3.heap.size → Y.heap[b]? = w.heap[b]? := fun b h1 h2 h3 => by
          rcases hY.block b h1 with h9 | h9 | h9
          · omega
          · exact absurd h9 h3
          · exact h9
        have ry : Boxed Y X2.heap.size 71 (.slice (some ⟨gv0, 0, none⟩) 201 cv0) := (kY _ (by omega) (by omega) (by omega)).trans bxw.out
        have hyb : Hid (Boxed Y X.heap.size 22 (.slice (some ⟨gh, 0, none⟩) n ch)) := Lib.hid ((kY _ (by omega) (by omega) (by omega)).trans bhw.out)
        have NSY : Hid (NS Y (some ⟨gh, 0, none⟩) H) := Lib.hid (NSH.out.keepB (fun g9 e => by cases e; exact kY _ (by omega) (by omega) (by omega)))
        have HVY : NS Y (some ⟨gv0, 0, none⟩) (vals ds 201) := HVW.out.keepB (fun g9 e => by cases e; exact kY _ (by omega) (by omega) (by omega))
        have ry1 := ry.cell
        have oy1 := hY.others.cell
        obtain ⟨Y1, hY1⟩ : ∃ Y1, Y.drew.alloc (.cells #[.int .i64 p, .int .i64 q] 3) = Y1 := ⟨_, rfl⟩
        obtain ⟨x, hxx⟩ : ∃ x, gv ds p ^^^ gv ds q = x := ⟨_, rfl⟩
        have AT2 : Hid (Calls Try.prog 63 #[.slice (some ⟨gv0, 0, none⟩) 201 cv0, .slice (some ⟨Y.heap.size, 0, none⟩) 2 2] Y1 fun e w' => e = .returned (.int .i64 (x : Nat)) ∧ Y1 = w') := Lib.hid (by
          have hbY : Below Y.heap.size Y Y1 := by rw [← hY1]; exact ((Below.refl _ Y).drew).alloc (Nat.le_refl _) _
          have := at_any (vals ds 201) [p, q] (some ⟨gv0, 0, none⟩) (some ⟨Y.heap.size, 0, none⟩) cv0 2 Y1 (HVY.under hbY) (by
            intro j hj
            refine ⟨_, rfl, ?_⟩
            rw [← hY1]
            have : j = 0 ∨ j = 1 := by simp at hj; omega
            rcases this with rfl | rfl
            · exact cell_new0 Y.drew _ _
            · exact cell_new1 Y.drew _ _) (by rw [vals_len]; omega) (by simp) (by intro z hz; rw [vals_len]; simp at hz; omega) HVL.out
          rw [vals_len, xorl_pq ds p q (by omega) (by omega), hxx] at this
          exact this)
        have HPR : Hid (rowAt H i (p, q) = ord [ints (H.take i), ints (H.drop (i + 1)), [(p : Int), (q : Int)]].flatten) := Lib.hid rfl
        have HLL : Hid ((rowAt H i (p, q)).length ≤ 1000) := Lib.hid (rowAt_len H i (p, q) (by have := HN.out; omega))
        have aY1 : Aside (w.heap.size + 5) (2 + 0) Y Y1 := by rw [← hY1]; exact (Aside.drew _ _ Y).trans (Aside.alloc _ _ _ _)
        have MY1 := Lib.hid (Mp.abides (by omega) k Y Y1 hY aY1)
        have KY1 : Hid (Keep (w.heap.size + 5) (2 + 0) Y Y1) := Lib.hid (by
          rw [← hY1]
          exact ⟨by show Y.heap.size ≤ (Y.alloc _).heap.size; simp, fun b _ _ h3 => Below.heap_alloc Y.drew _ b h3⟩)
        have z1 : Y.heap.size + 1 ≤ Y1.heap.size ∧ Y1.heap.size ≤ Y.heap.size + 1 := by rw [← hY1]; show _ ≤ (Y.alloc _).heap.size ∧ (Y.alloc _).heap.size ≤ _; simp
        have hyb1 : Hid (Boxed Y1 X.heap.size 22 (.slice (some ⟨gh, 0, none⟩) n ch)) := Lib.hid (box_aside' hyb.out aY1 (by omega))
        have NSY1 : Hid (NS Y1 (some ⟨gh, 0, none⟩) H) := Lib.hid (NSY.out.keepB (fun g9 e => by cases e; exact aY1.block _ (by have := hY.size; omega) (by omega)))
        rw [hxx] at HWK
        have HYS := hY.size
        clear hx hxx hpq aY1 ry HVY hY kY
        have finA : ∀ a, x ≠ o → RoundEnd (w.heap.size + 5) (2 + 0) (Mp w df X4.heap.size X3.heap.size g cap m h o ds H i) (fun _ _ _ => False) k Y .normal a Y1 := fun a hne => by
          refine ⟨KY1.out, MY1.out.next (by rw [HWK.out, if_neg hne, List.append_nil]) hk⟩
        by_cases hxo : x = o
        · have eb : ((x : Int) == (o : Int)) = true := by simp [hxo]
          refine wpIn_block (wpIn_seq ?_)
          refine region_round (S := fun W => W.cell? ⟨X2.heap.size, 0, none⟩ = some (.slice (some ⟨gv0, 0, none⟩) 201 cv0) ∧ W.cell? ⟨w.heap.size + 2, 0, none⟩ = some (.int .i64 (o : Int))) (by kernel_rfl) (by kernel_rfl) (fun ⟨_, _, h⟩ => h) ⟨ry1, oy1⟩ (fun hS => ?_)
          refine held_take (v := ?_) (oi := { dst := some 36, op := Op.load 71 (Operand.tmp 5), type := 71, pos := "move.go:40", after := #[], guard := none }) 0 rfl (by kernel_rfl) (by kernel_rfl) (by kernel_rfl) (fun _ _ _ h => h) (by rfl) ?_ hS ?_
          rotate_left
          · (intro W hW; obtain ⟨c1, c2⟩ := hW; go_simp; (try with_reducible rfl))
          (try simp only [Act.put, List.setIfInBounds_toArray, List.set_cons_zero, List.set_cons_succ])
          refine held_take (v := ?_) (oi := { dst := some 37, op := Op.move (Operand.tmp 11), type := 3, pos := "move.go:40", after := #[], guard := none }) 1 rfl (by kernel_rfl) (by kernel_rfl) (by kernel_rfl) (fun _ _ _ h => h) (by rfl) ?_ hS ?_
          rotate_left
          · (intro W hW; obtain ⟨c1, c2⟩ := hW; go_simp; (try with_reducible rfl))
          (try simp only [Act.put, List.setIfInBounds_toArray, List.set_cons_zero, List.set_cons_succ])
          refine held_take (v := ?_) (oi := { dst := some 38, op := Op.move (Operand.tmp 12), type := 3, pos := "move.go:40", after := #[], guard := none }) 2 rfl (by kernel_rfl) (by kernel_rfl) (by kernel_rfl) (fun _ _ _ h => h) (by rfl) ?_ hS ?_
          rotate_left
          · (intro W hW; obtain ⟨c1, c2⟩ := hW; go_simp; (try with_reducible rfl))
          (try simp only [Act.put, List.setIfInBounds_toArray, List.set_cons_zero, List.set_cons_succ])
          refine held_take (v := ?_) (oi := { dst := some 41, op := Op.load 3 (Operand.tmp 10), type := 3, pos := "move.go:40", after := #[], guard := none }) 5 rfl (by kernel_rfl) (by kernel_rfl) (by kernel_rfl) (fun _ _ _ h => h) (by rfl) ?_ hS ?_
          rotate_left
          · (intro W hW; obtain ⟨c1, c2⟩ := hW; go_simp; (try with_reducible rfl))
          (try simp only [Act.put, List.setIfInBounds_toArray, List.set_cons_zero, List.set_cons_succ])
          refine wpAnyH_ready (rs := [3]) (by kernel_rfl) (by simp) ?_
          refine AllReadyH.cons (o := { dst := some 39, op := Op.buildSlice 22 2 #[(0, Operand.tmp 37), (1, Operand.tmp 38)], type := 22, pos := "move.go:40", after := #[{ on := 1, ground := Ground.data }, { on := 2, ground := Ground.data }], guard := none }) rfl (fun K hK => ?_) AllReadyH.nil
          go_simp
          (try rw [hY1])
          refine hK.out _ _ ⟨by rw [← hY1]; exact cell_alloc _ hS.1, by rw [← hY1]; exact cell_alloc _ hS.2⟩ (fun hS => ?_)
          clear hK K
          (try simp only [Act.put, List.setIfInBounds_toArray, List.set_cons_zero, List.set_cons_succ])
          refine wpAnyH_ready (rs := [4]) (by kernel_rfl) (by simp) ?_
          refine AllReadyH.cons (o := { dst := some 40, op := Op.call { callee := Callee.value (Operand.func 63), args := #[Operand.tmp 36, Operand.tmp 39], argTypes := #[71, 22] }, type := 3, pos := "move.go:40", after := #[{ on := 0, ground := Ground.data }, { on := 3, ground := Ground.data }], guard := none }) rfl (fun K hK => ?_) AllReadyH.nil
          go_simp
          refine AT2.out.mono ?_
          rintro e w' ⟨rfl, rfl⟩
          refine hK.out _ _ hS (fun hS => ?_)
          clear hK K
          (try simp only [Act.put, List.setIfInBounds_toArray, List.set_cons_zero, List.set_cons_succ])
          refine held_take (v := ?_) (oi := { dst := some 42, op := Op.binOp BinOp.eql 3 (Operand.tmp 40) (Operand.tmp 41) 3, type := 4, pos := "move.go:40", after := #[{ on := 4, ground := Ground.data }, { on := 5, ground := Ground.data }], guard := none }) 6 rfl (by kernel_rfl) (by kernel_rfl) (by kernel_rfl) (fun _ _ _ h => h) (by rfl) ?_ hS ?_
          rotate_left
          · (intro W hW; obtain ⟨c1, c2⟩ := hW; go_simp; (try with_reducible rfl))
          (try simp only [Act.put, List.setIfInBounds_toArray, List.set_cons_zero, List.set_cons_succ])
          refine wpAnyH_done (by kernel_rfl) ?_ _
          clear hS
          change Code.wpIn _ _ _ (Code.cond _ _ _) _ _ _
          refine wpIn_cond_true rfl ?_
          obtain ⟨vp, hp1, hp2⟩ := MY1.out.pos
          obtain ⟨F, hF⟩ : ∃ F, winL ds H i ++ winK ds H i k = F := ⟨_, rfl⟩
          have HF1 : Hid (winL ds H i ++ winK ds H i (k + 1) = F ++ [rowAt H i (p, q)]) := Lib.hid (by rw [HWK.out, if_pos hxo, ← List.append_assoc, hF])
          rw [hF] at hp2
          have hFl : F.length ≤ 200000 := by
            rw [← hF, List.length_append]
            have h1 := winL_len ds H i (by omega) (by rw [HM.out]; exact l8) HB.out
            have h2 := winK_len ds H i k (by rw [HM.out]; exact l8) HB.out
            omega
          obtain ⟨hnil, RR, hown, hvQ, hrows⟩ := hp2
          obtain ⟨pv, cv, rfl⟩ := own_slice hown
          obtain ⟨L, hL⟩ : ∃ L, rowAt H i (p, q) = L := ⟨_, rfl⟩
          rw [hL] at HPR HLL HF1
          obtain ⟨f, hf⟩ : ∃ f, F.length = f := ⟨_, rfl⟩
          obtain ⟨l, hl2⟩ : ∃ l, L.length = l := ⟨_, rfl⟩
          have FIN1 := Lib.hid (fun Z4 (hb4 : Below Y1.heap.size Y1 Z4) g' c' (hn : NI Z4 (some ⟨g', 0, none⟩) L) (hg : Y1.heap.size ≤ g' ∧ g' < Z4.heap.size) Z5 g5 cap5 h1 (h2 : Z4.grownBy Z5 (Value.slice pv F.length cv).ownBlock) (h3 : (Value.slice pv F.length cv).ownBlock = some g5 ∨ g5 = Z4.heap.size) => Mp.push (g' := g') (c' := c') (g5 := g5) (cap5 := cap5) MY1.out (by omega) (by omega) (by omega) hk hp1 hown hvQ hrows HF1.out HLL.out hb4 hn hg h1 h2 h3)
          rw [hf] at hown hp1 hFl FIN1
          rw [hl2] at FIN1
          have HOWN := Lib.hid hown
          have HP1 := Lib.hid hp1
          have hob : Hid (∀ b, (Value.slice pv f cv).ownBlock = some b → X4.heap.size ≤ b ∧ (b < w.heap.size ∨ w.heap.size + 5 + 2 ≤ b)) := Lib.hid (by rw [← hf]; exact hvQ)
          obtain ⟨a50, eif, had⟩ : ∃ a50 : Addr, (if ch = i + 1 then some (⟨gh, 0, none⟩ : Addr) else some ⟨gh, i + 1, none⟩) = some a50 ∧ ∀ j, j < n - (i + 1) → a50.add j = ⟨gh, i + 1 + j, none⟩ := by
            by_cases hci : ch = i + 1
            · exact ⟨_, if_pos hci, fun j hj => by omega⟩
            · exact ⟨_, if_neg hci, fun j hj => by unfold Addr.add; split <;> simp_all⟩
          obtain ⟨c50, hc50⟩ : ∃ c50, ch - (i + 1) = c50 := ⟨_, rfl⟩
          have HAD := Lib.hid had
          have HL2 := Lib.hid hl2
          obtain ⟨Z1, hZ1⟩ : ∃ Z1, Y1.drew.alloc (.cells #[.int .i64 p, .int .i64 q] 3) = Z1 := ⟨_, rfl⟩
          obtain ⟨Z2, hZ2⟩ : ∃ Z2, Z1.alloc (.cells #[.slice (some ⟨gh, 0, none⟩) i ch, .slice (some a50) (n - (i + 1)) c50, .slice (some ⟨Y1.heap.size, 0, none⟩) 2 2] 22) = Z2 := ⟨_, rfl⟩
          have y1 : Z1.heap.size = Y1.heap.size + 1 := by rw [← hZ1]; show (Y1.alloc _).heap.size = _; simp
          have HY1E := Lib.hid y1
          have y2 : Z2.heap.size = Y1.heap.size + 2 := by rw [← hZ2]; simp [y1]
          have s0 : Y1.drew.cell? ⟨X.heap.size, 0, none⟩ = some (.slice (some ⟨gh, 0, none⟩) n ch) ∧ Y1.drew.cell? ⟨w.heap.size, 0, none⟩ = some (.int .i64 (i : Int)) := ⟨hyb1.out.cell, MY1.out.idx.cell⟩
          have s1 : Z1.cell? ⟨X.heap.size, 0, none⟩ = some (.slice (some ⟨gh, 0, none⟩) n ch) ∧ Z1.cell? ⟨w.heap.size, 0, none⟩ = some (.int .i64 (i : Int)) := by rw [← hZ1]; exact ⟨cell_alloc _ s0.1, cell_alloc _ s0.2⟩
          have s2 : Z2.cell? ⟨X.heap.size, 0, none⟩ = some (.slice (some ⟨gh, 0, none⟩) n ch) ∧ Z2.cell? ⟨w.heap.size, 0, none⟩ = some (.int .i64 (i : Int)) := by rw [← hZ2]; exact ⟨cell_alloc _ s1.1, cell_alloc _ s1.2⟩
          have cp0 : Y1.drew.cell? ⟨X2.heap.size + 1, 0, none⟩ = some (.slice pv f cv) := by rw [← s3]; exact HP1.out.cell
          have cp1 : Z1.cell? ⟨X2.heap.size + 1, 0, none⟩ = some (.slice pv f cv) := by rw [← hZ1]; exact cell_alloc _ cp0
          have cp2 : Z2.cell? ⟨X2.heap.size + 1, 0, none⟩ = some (.slice pv f cv) := by rw [← hZ2]; exact cell_alloc _ cp1
          have S3 : Hid (∀ Z, Below Z2.heap.size Z2 Z → Z.cell? ⟨X.heap.size, 0, none⟩ = some (.slice (some ⟨gh, 0, none⟩) n ch) ∧ Z.cell? ⟨w.heap.size, 0, none⟩ = some (.int .i64 (i : Int))) := Lib.hid (fun Z hZ => ⟨cellOf2 hZ s2.1 (cell_lt2 s2.1), cellOf2 hZ s2.2 (cell_lt2 s2.2)⟩)
          have CP3 : Hid (∀ Z, Below Z2.heap.size Z2 Z → Z.cell? ⟨X2.heap.size + 1, 0, none⟩ = some (.slice pv f cv)) := Lib.hid (fun Z hZ => cellOf2 hZ cp2 (cell_lt2 cp2))
          have bY2 : Below Y1.heap.size Y1 Z2 := by
            rw [← hZ2, ← hZ1]
            exact (((Below.refl _ Y1).drew).alloc (Nat.le_refl _) _).alloc (by show Y1.heap.size ≤ (Y1.alloc _).heap.size; simp) _
          have HGS : GS Z2 (some ⟨Y1.heap.size + 1, 0, none⟩) [ints (H.take i), ints (H.drop (i + 1)), [(p : Int), (q : Int)]] := by
            have NS2 : NS Z2 (some ⟨gh, 0, none⟩) H := NSY1.out.keepB (fun g9 e => by cases e; exact bY2.block _ (by omega))
            have l1' : (ints (H.take i)).length = i := by rw [ints_len, List.length_take, HN.out]; omega
            have l2' : (ints (H.drop (i + 1))).length = n - (i + 1) := by rw [ints_len, List.length_drop, HN.out]
            have hcl : ∀ v u, (#[Value.slice (some ⟨gh, 0, none⟩) i ch, .slice (some a50) (n - (i + 1)) c50, .slice (some ⟨Y1.heap.size, 0, none⟩) 2 2] : Array Value)[v]? = some u → Z2.cell? ⟨Y1.heap.size + 1, v, none⟩ = some u := fun v u hu => by
              rw [← hZ2, ← y1]; simpa using hu
            have had0 : ∀ b j, (⟨b, 0, none⟩ : Addr).add j = ⟨b, j, none⟩ := fun b j => by unfold Addr.add; split <;> simp_all
            intro v hv
            have : v = 0 ∨ v = 1 ∨ v = 2 := by simp at hv; omega
            rcases this with rfl | rfl | rfl
            · refine ⟨⟨Y1.heap.size + 1, 0, none⟩, ⟨gh, 0, none⟩, ch, rfl, ?_, fun j hj => ?_⟩
              · rw [had0]; exact hcl 0 _ (by rw [show ([ints (H.take i), ints (H.drop (i + 1)), [(p : Int), (q : Int)]].getD 0 []).length = i from l1']; rfl)
              · have hj : j < i := by have : j < (ints (H.take i)).length := hj; omega
                obtain ⟨g8, e8, hc8⟩ := NS2 j (by have := HN.out; omega)
                cases e8
                rw [had0, hc8]
                show _ = some (Value.int .i64 ((ints (H.take i)).getD j 0))
                simp [ints, List.getD_eq_getElem?_getD, List.getElem?_take, hj]
                rw [List.getElem?_eq_getElem (by have := HN.out; omega)]; simp
            · refine ⟨_, a50, c50, rfl, ?_, fun j hj => ?_⟩
              · rw [had0]; exact hcl 1 _ (by rw [show ([ints (H.take i), ints (H.drop (i + 1)), [(p : Int), (q : Int)]].getD 1 []).length = n - (i + 1) from l2']; rfl)
              · have hj : j < n - (i + 1) := by have : j < (ints (H.drop (i + 1))).length := hj; omega
                obtain ⟨g8, e8, hc8⟩ := NS2 (i + 1 + j) (by have := HN.out; omega)
                cases e8
                rw [HAD.out j hj, hc8]
                show _ = some (Value.int .i64 ((ints (H.drop (i + 1))).getD j 0))
                simp [ints, List.getD_eq_getElem?_getD, List.getElem?_drop]
                rw [List.getElem?_eq_getElem (by have := HN.out; omega)]; simp
            · refine ⟨_, ⟨Y1.heap.size, 0, none⟩, 2, rfl, ?_, fun j hj => ?_⟩
              · rw [had0]; exact hcl 2 _ rfl
              · have hj : j < 2 := hj
                rw [had0, ← hZ2]
                refine cell_alloc _ ?_
                rw [← hZ1]
                have : j = 0 ∨ j = 1 := by omega
                rcases this with rfl | rfl
                · exact cell_new0 Y1.drew _ _
                · exact cell_new1 Y1.drew _ _
          have ORD : Hid (Calls Try.prog 65 #[.slice (some ⟨Z1.heap.size, 0, none⟩) 3 3] Z2 fun e w' => ∃ g' c', e = .returned (.slice (some ⟨g', 0, none⟩) l c') ∧ NI w' (some ⟨g', 0, none⟩) L ∧ Z2.heap.size ≤ g' ∧ g' < w'.heap.size ∧ Below Z2.heap.size Z2 w') := Lib.hid (by
            have h9 := ordered_any [ints (H.take i), ints (H.drop (i + 1)), [(p : Int), (q : Int)]] (some ⟨Y1.heap.size + 1, 0, none⟩) 3 _ Z2 HGS (by simp) rfl (by simp only [List.flatten_cons, List.flatten_nil, List.append_nil, List.length_append, List.length_cons]; omega) (by simp only [List.flatten_cons, List.flatten_nil, List.append_nil, List.length_append, List.length_cons, List.length_nil, ints_len, List.length_take, List.length_drop]; have := HN.out; omega)
            rw [← HPR.out, HL2.out] at h9
            rw [HY1E.out]
            exact h9)
          have HY2 := Lib.hid bY2
          have KB4 : Hid (∀ Z3, Below Z2.heap.size Z2 Z3 → ∀ ob b, b < Y1.heap.size → (Z3.alloc ob).heap[b]? = Y1.heap[b]?) := Lib.hid (fun Z3 hZ ob b hb => (Below.heap_alloc _ _ _ (by have := hZ.size; omega)).trans ((hZ.block b (by omega)).trans (HY2.out.block b hb)))
          have ZS4 : Hid (∀ Z3, Below Z2.heap.size Z2 Z3 → Y1.heap.size ≤ Z3.heap.size) := Lib.hid (fun Z3 hZ => by have := hZ.size; omega)
          have FIN0 : Hid (∀ Z3, Below Z2.heap.size Z2 Z3 → ∀ g' c', NI Z3 (some ⟨g', 0, none⟩) L → Z2.heap.size ≤ g' ∧ g' < Z3.heap.size → ∀ Z5 g5 cap5, Z5.ownsRow X4.heap.size 22 1 (.slice (some ⟨g5, 0, none⟩) (f + 1) cap5) (f + 1) (RR ++ [.slice (some ⟨g', 0, none⟩) l c']) → (Z3.alloc (.cells #[.slice (some ⟨g', 0, none⟩) l c'] 22)).grownBy Z5 (Value.slice pv f cv).ownBlock → ((Value.slice pv f cv).ownBlock = some g5 ∨ g5 = (Z3.alloc (.cells #[.slice (some ⟨g', 0, none⟩) l c'] 22)).heap.size) →
              Keep (w.heap.size + 5) (2 + 0) Y1 (Z5.setCell ⟨X2.heap.size + 1, 0, none⟩ (.slice (some ⟨g5, 0, none⟩) (f + 1) cap5)) ∧ Mp w df X4.heap.size X3.heap.size g cap m h o ds H i (k + 1) (Z5.setCell ⟨X2.heap.size + 1, 0, none⟩ (.slice (some ⟨g5, 0, none⟩) (f + 1) cap5))) := Lib.hid (fun Z3 hZ g' c' hn hg Z5 g5 cap5 h1 h2 h3 => by
            rw [← s3]
            refine FIN1.out _ ((HY2.out.trans (hZ.mono (by omega))).alloc (by have := hZ.size; omega) _) g' c' (hn.keepB (fun b e => by cases e; exact Below.heap_alloc _ _ _ hg.2)) ⟨by omega, by simp; omega⟩ Z5 g5 cap5 h1 h2 h3)
          have C5 : Hid (∀ Z3, Below Z2.heap.size Z2 Z3 → ∀ ob Z5, (Z3.alloc ob).grownBy Z5 (Value.slice pv f cv).ownBlock → Z5.cell? ⟨X.heap.size, 0, none⟩ = some (.slice (some ⟨gh, 0, none⟩) n ch) ∧ Z5.cell? ⟨w.heap.size, 0, none⟩ = some (.int .i64 (i : Int)) ∧ Z5.cell? ⟨X2.heap.size + 1, 0, none⟩ = some (.slice pv f cv) ∧ Z5.frozen? ⟨X2.heap.size + 1, 0, none⟩ = false) := Lib.hid (fun Z3 hZ ob Z5 h2 => by
            rw [← s3]
            have kk5 : ∀ b, b < Y1.heap.size → (Value.slice pv f cv).ownBlock ≠ some b → Z5.heap[b]? = Y1.heap[b]? := fun b hb hne => (h2.block b (by have := ZS4.out Z3 hZ; simp; omega) (fun e => hne e.symm)).trans (KB4.out Z3 hZ ob b hb)
            have hp5 : Boxed Z5 X3.heap.size 33 (.slice pv f cv) := (kk5 _ (by omega) (fun e => by have := hob.out _ e; omega)).trans HP1.out
            have hy5 : Boxed Z5 X.heap.size 22 (.slice (some ⟨gh, 0, none⟩) n ch) := (kk5 _ (by omega) (fun e => by have := hob.out _ e; omega)).trans hyb1.out
            have hi5 : Boxed Z5 w.heap.size 3 (.int .i64 (i : Int)) := (kk5 _ (by omega) (fun e => by have := hob.out _ e; omega)).trans MY1.out.idx
            exact ⟨hy5.cell, hi5.cell, hp5.cell, hp5.frozen⟩)
          have wi : IntKind.i64.wrap ((i : Int) + 1) = (i : Int) + 1 := IntWalk.i64_in _ (by omega)
          have y2' : Y1.heap.size + 2 ≤ Z2.heap.size ∧ Z2.heap.size ≤ Y1.heap.size + 2 := by omega
          clear y1 y2
          clear hL HF1 HPR HLL hown hp1 hvQ hrows hnil FIN1 hF had HGS bY2 hf hl2
          refine region_round (S := fun W => W.cell? ⟨X.heap.size, 0, none⟩ = some (.slice (some ⟨gh, 0, none⟩) n ch) ∧ W.cell? ⟨w.heap.size, 0, none⟩ = some (.int .i64 (i : Int))) (by kernel_rfl) (by kernel_rfl) (fun ⟨_, _, h⟩ => h) s0 (fun hS => ?_)
          refine held_take (v := ?_) (oi := { dst := some 44, op := Op.load 22 (Operand.tmp 3), type := 22, pos := "move.go:41", after := #[], guard := none }) 1 rfl (by kernel_rfl) (by kernel_rfl) (by kernel_rfl) (fun _ _ _ h => h) (by rfl) ?_ hS ?_
          rotate_left
          · (intro W hW; obtain ⟨c1, c2⟩ := hW; go_simp; (try with_reducible rfl))
          (try simp only [Act.put, List.setIfInBounds_toArray, List.set_cons_zero, List.set_cons_succ])
          refine held_take (v := ?_) (oi := { dst := some 45, op := Op.load 3 (Operand.tmp 8), type := 3, pos := "move.go:41", after := #[], guard := none }) 2 rfl (by kernel_rfl) (by kernel_rfl) (by kernel_rfl) (fun _ _ _ h => h) (by rfl) ?_ hS ?_
          rotate_left
          · (intro W hW; obtain ⟨c1, c2⟩ := hW; go_simp; (try with_reducible rfl))
          (try simp only [Act.put, List.setIfInBounds_toArray, List.set_cons_zero, List.set_cons_succ])
          refine held_take (v := ?_) (oi := { dst := some 46, op := Op.slice 22 (Operand.tmp 44) none (some (Operand.tmp 45)) none, type := 22, pos := "move.go:41", after := #[{ on := 1, ground := Ground.data }, { on := 2, ground := Ground.data }], guard := none }) 3 rfl (by kernel_rfl) (by kernel_rfl) (by kernel_rfl) (fun _ _ _ h => h) (by rfl) ?_ hS ?_
          rotate_left
          · (intro W hW; obtain ⟨c1, c2⟩ := hW; go_simp; (try rw [if_pos (by omega)]); (try rfl))
          (try simp only [Act.put, List.setIfInBounds_toArray, List.set_cons_zero, List.set_cons_succ])
          refine held_take (v := ?_) (oi := { dst := some 47, op := Op.load 22 (Operand.tmp 3), type := 22, pos := "move.go:41", after := #[], guard := none }) 4 rfl (by kernel_rfl) (by kernel_rfl) (by kernel_rfl) (fun _ _ _ h => h) (by rfl) ?_ hS ?_
          rotate_left
          · (intro W hW; obtain ⟨c1, c2⟩ := hW; go_simp; (try with_reducible rfl))
          (try simp only [Act.put, List.setIfInBounds_toArray, List.set_cons_zero, List.set_cons_succ])
          refine held_take (v := ?_) (oi := { dst := some 48, op := Op.load 3 (Operand.tmp 8), type := 3, pos := "move.go:41", after := #[], guard := none }) 5 rfl (by kernel_rfl) (by kernel_rfl) (by kernel_rfl) (fun _ _ _ h => h) (by rfl) ?_ hS ?_
          rotate_left
          · (intro W hW; obtain ⟨c1, c2⟩ := hW; go_simp; (try with_reducible rfl))
          (try simp only [Act.put, List.setIfInBounds_toArray, List.set_cons_zero, List.set_cons_succ])
          refine held_take (v := ?_) (oi := { dst := some 49, op := Op.binOp BinOp.add 3 (Operand.tmp 48) (Operand.const (Value.int IntKind.i64 1)) 3, type := 3, pos := "move.go:41", after := #[{ on := 5, ground := Ground.data }], guard := none }) 6 rfl (by kernel_rfl) (by kernel_rfl) (by kernel_rfl) (fun _ _ _ h => h) (by rfl) ?_ hS ?_
          rotate_left
          · (intro W hW; obtain ⟨c1, c2⟩ := hW; go_simp; (try with_reducible rfl))
          (try simp only [Act.put, List.setIfInBounds_toArray, List.set_cons_zero, List.set_cons_succ])
          refine held_take (v := ?_) (oi := { dst := some 50, op := Op.slice 22 (Operand.tmp 47) (some (Operand.tmp 49)) none none, type := 22, pos := "move.go:41", after := #[{ on := 4, ground := Ground.data }, { on := 6, ground := Ground.data }], guard := none }) 7 rfl (by kernel_rfl) (by kernel_rfl) (by kernel_rfl) (fun _ _ _ h => h) (by rfl) ?_ hS ?_
          rotate_left
          · (intro W hW; obtain ⟨c1, c2⟩ := hW; go_simp; (try rw [if_pos ⟨by omega, by omega⟩]); (try rw [eif]); (try rw [hc50]); (try rfl))
          (try simp only [Act.put, List.setIfInBounds_toArray, List.set_cons_zero, List.set_cons_succ])
          refine held_take (v := ?_) (oi := { dst := some 51, op := Op.move (Operand.tmp 11), type := 3, pos := "move.go:41", after := #[], guard := none }) 8 rfl (by kernel_rfl) (by kernel_rfl) (by kernel_rfl) (fun _ _ _ h => h) (by rfl) ?_ hS ?_
          rotate_left
          · (intro W hW; obtain ⟨c1, c2⟩ := hW; go_simp; (try with_reducible rfl))
          (try simp only [Act.put, List.setIfInBounds_toArray, List.set_cons_zero, List.set_cons_succ])
          refine held_take (v := ?_) (oi := { dst := some 52, op := Op.move (Operand.tmp 12), type := 3, pos := "move.go:41", after := #[], guard := none }) 9 rfl (by kernel_rfl) (by kernel_rfl) (by kernel_rfl) (fun _ _ _ h => h) (by rfl) ?_ hS ?_
          rotate_left
          · (intro W hW; obtain ⟨c1, c2⟩ := hW; go_simp; (try with_reducible rfl))
          (try simp only [Act.put, List.setIfInBounds_toArray, List.set_cons_zero, List.set_cons_succ])
          refine wpAnyH_ready (rs := [0, 10]) (by kernel_rfl) (by simp) ?_
          refine AllReadyH.cons (o := { dst := some 43, op := Op.load 33 (Operand.tmp 7), type := 33, pos := "move.go:41", after := #[], guard := none }) rfl (fun K hK => ?_) (AllReadyH.cons (o := { dst := some 53, op := Op.buildSlice 22 2 #[(0, Operand.tmp 51), (1, Operand.tmp 52)], type := 22, pos := "move.go:41", after := #[{ on := 8, ground := Ground.data }, { on := 9, ground := Ground.data }], guard := none }) rfl (fun K hK => ?_) AllReadyH.nil)
          · go_simp
            refine hK.out _ _ hS (fun hS => ?_)
            clear hK K
            (try simp only [Act.put, List.setIfInBounds_toArray, List.set_cons_zero, List.set_cons_succ])
            refine wpAnyH_ready (rs := [10]) (by kernel_rfl) (by simp) ?_
            refine AllReadyH.cons (o := { dst := some 53, op := Op.buildSlice 22 2 #[(0, Operand.tmp 51), (1, Operand.tmp 52)], type := 22, pos := "move.go:41", after := #[{ on := 8, ground := Ground.data }, { on := 9, ground := Ground.data }], guard := none }) rfl (fun K hK => ?_) AllReadyH.nil
            go_simp
            (try rw [hZ1])
            refine hK.out _ _ s1 (fun hS => ?_)
            clear hK K
            (try simp only [Act.put, List.setIfInBounds_toArray, List.set_cons_zero, List.set_cons_succ])
            refine wpAnyH_ready (rs := [11]) (by kernel_rfl) (by simp) ?_
            refine AllReadyH.cons (o := { dst := some 54, op := Op.buildSlice 33 3 #[(0, Operand.tmp 46), (1, Operand.tmp 50), (2, Operand.tmp 53)], type := 33, pos := "move.go:41", after := #[{ on := 3, ground := Ground.data }, { on := 7, ground := Ground.data }, { on := 10, ground := Ground.data }], guard := none }) rfl (fun K hK => ?_) AllReadyH.nil
            go_simp
            (try rw [hZ2])
            refine hK.out _ _ s2 (fun hS => ?_)
            clear hK K
            (try simp only [Act.put, List.setIfInBounds_toArray, List.set_cons_zero, List.set_cons_succ])
            refine wpAnyH_ready (rs := [12]) (by kernel_rfl) (by simp) ?_
            refine AllReadyH.cons (o := { dst := some 55, op := Op.call { callee := Callee.value (Operand.func 65), args := #[Operand.tmp 54], argTypes := #[33] }, type := 22, pos := "move.go:41", after := #[{ on := 11, ground := Ground.data }], guard := none }) rfl (fun K hK => ?_) AllReadyH.nil
            go_simp
            refine ORD.out.mono ?_
            rintro e Z3 ⟨g', c', rfl, hN3, hg1, hg2, hB3⟩
            have t3 := S3.out Z3 hB3
            have cp3 := CP3.out Z3 hB3
            have HN3 := Lib.hid hN3
            have HB3 := Lib.hid hB3
            clear hN3 hB3
            refine hK.out _ _ t3 (fun hS => ?_)
            clear hK K
            (try simp only [Act.put, List.setIfInBounds_toArray, List.set_cons_zero, List.set_cons_succ])
            refine wpAnyH_ready (rs := [13]) (by kernel_rfl) (by simp) ?_
            refine AllReadyH.cons (o := { dst := some 56, op := Op.buildSlice 33 1 #[(0, Operand.tmp 55)], type := 33, pos := "move.go:41", after := #[{ on := 12, ground := Ground.data }], guard := none }) rfl (fun K hK => ?_) AllReadyH.nil
            go_simp
            have s4 : (Z3.alloc (.cells #[.slice (some ⟨g', 0, none⟩) l c'] 22)).cell? ⟨X.heap.size, 0, none⟩ = some (.slice (some ⟨gh, 0, none⟩) n ch) ∧ (Z3.alloc (.cells #[.slice (some ⟨g', 0, none⟩) l c'] 22)).cell? ⟨w.heap.size, 0, none⟩ = some (.int .i64 (i : Int)) := ⟨cell_alloc _ t3.1, cell_alloc _ t3.2⟩
            have cp4 : (Z3.alloc (.cells #[.slice (some ⟨g', 0, none⟩) l c'] 22)).cell? ⟨X2.heap.size + 1, 0, none⟩ = some (.slice pv f cv) := cell_alloc _ cp3
            refine hK.out _ _ s4 (fun hS => ?_)
            clear hK K
            (try simp only [Act.put, List.setIfInBounds_toArray, List.set_cons_zero, List.set_cons_succ])
            refine wpAnyH_ready (rs := [14]) (by kernel_rfl) (by simp) ?_
            refine AllReadyH.cons (o := { dst := some 57, op := Op.call { callee := Callee.builtin Builtin.append, args := #[Operand.tmp 43, Operand.tmp 56], argTypes := #[33, 33] }, type := 33, pos := "move.go:41", after := #[{ on := 0, ground := Ground.data }, { on := 13, ground := Ground.data }, { on := 12, ground := Ground.chain }], guard := none }) rfl (fun K hK => ?_) AllReadyH.nil
            refine step_append_lies _ rfl _ _ 33 rfl X4.heap.size 22 i0 (.slice none 0 0) 1 24 Try.underlying33 hi0 hz0 hz1 hz2 rfl (by decide) (.slice pv f cv) f RR rfl (own_keepB HOWN.out (fun b e hb => (KB4.out Z3 HB3.out _ b hb))) ⟨Z3.heap.size, 0, none⟩ 1 1 [.slice (some ⟨g', 0, none⟩) l c'] rfl rfl (cell_one_new _ _ _) (fun y hy => by simp at hy; subst hy; rfl) (by decide) (by unfold maxLen; omega) (by omega) (by have := ZS4.out Z3 HB3.out; simp; omega) _ rfl ?_
            intro g5 cap5 Z5 hw1 hw2 hw3 hw4
            have FIN := Lib.hid (FIN0.out Z3 HB3.out g' c' HN3.out ⟨by omega, hg2⟩ Z5 g5 cap5 hw1 hw2 hw3)
            have c5 := (C5.out Z3 HB3.out _ Z5 hw2)
            obtain ⟨s5a, s5b, s5c, s5d⟩ := c5
            clear hw1 hw2 hw3
            refine hK.out _ _ ⟨s5a, s5b⟩ (fun hS => ?_)
            clear hK K
            (try simp only [Act.put, List.setIfInBounds_toArray, List.set_cons_zero, List.set_cons_succ])
            refine wpAnyH_ready (rs := [15]) (by kernel_rfl) (by simp) ?_
            refine AllReadyH.cons (o := { dst := none, op := Op.store 33 (Operand.tmp 7) (Operand.tmp 57), type := 0, pos := "move.go:41", after := #[{ on := 14, ground := Ground.data }, { on := 14, ground := Ground.chain }, { on := 0, ground := Ground.phase }, { on := 1, ground := Ground.phase }, { on := 2, ground := Ground.phase }, { on := 3, ground := Ground.phase }, { on := 4, ground := Ground.phase }, { on := 5, ground := Ground.phase }, { on := 6, ground := Ground.phase }, { on := 7, ground := Ground.phase }, { on := 8, ground := Ground.phase }, { on := 9, ground := Ground.phase }, { on := 10, ground := Ground.phase }, { on := 11, ground := Ground.phase }, { on := 12, ground := Ground.phase }, { on := 13, ground := Ground.phase }, { on := 14, ground := Ground.phase }], guard := none }) rfl (fun K hK => ?_) AllReadyH.nil
            go_simp
            refine hK.out _ _ ⟨(World.cell?_setCell_far _ _ _ _ (by show X2.heap.size + 1 ≠ X.heap.size; omega)).trans s5a, (World.cell?_setCell_far _ _ _ _ (by show X2.heap.size + 1 ≠ w.heap.size; omega)).trans s5b⟩ (fun hS => ?_)
            clear hK K
            refine wpAnyH_done (by kernel_rfl) ?_ _
            exact ⟨KY1.out.trans FIN.out.1, FIN.out.2⟩
          · go_simp
            (try rw [hZ1])
            refine hK.out _ _ s1 (fun hS => ?_)
            clear hK K
            (try simp only [Act.put, List.setIfInBounds_toArray, List.set_cons_zero, List.set_cons_succ])
            refine wpAnyH_ready (rs := [0, 11]) (by kernel_rfl) (by simp) ?_
            refine AllReadyH.cons (o := { dst := some 43, op := Op.load 33 (Operand.tmp 7), type := 33, pos := "move.go:41", after := #[], guard := none }) rfl (fun K hK => ?_) (AllReadyH.cons (o := { dst := some 54, op := Op.buildSlice 33 3 #[(0, Operand.tmp 46), (1, Operand.tmp 50), (2, Operand.tmp 53)], type := 33, pos := "move.go:41", after := #[{ on := 3, ground := Ground.data }, { on := 7, ground := Ground.data }, { on := 10, ground := Ground.data }], guard := none }) rfl (fun K hK => ?_) AllReadyH.nil)
            · go_simp
              refine hK.out _ _ hS (fun hS => ?_)
              clear hK K
              (try simp only [Act.put, List.setIfInBounds_toArray, List.set_cons_zero, List.set_cons_succ])
              refine wpAnyH_ready (rs := [11]) (by kernel_rfl) (by simp) ?_
              refine AllReadyH.cons (o := { dst := some 54, op := Op.buildSlice 33 3 #[(0, Operand.tmp 46), (1, Operand.tmp 50), (2, Operand.tmp 53)], type := 33, pos := "move.go:41", after := #[{ on := 3, ground := Ground.data }, { on := 7, ground := Ground.data }, { on := 10, ground := Ground.data }], guard := none }) rfl (fun K hK => ?_) AllReadyH.nil
              go_simp
              (try rw [hZ2])
              refine hK.out _ _ s2 (fun hS => ?_)
              clear hK K
              (try simp only [Act.put, List.setIfInBounds_toArray, List.set_cons_zero, List.set_cons_succ])
              refine wpAnyH_ready (rs := [12]) (by kernel_rfl) (by simp) ?_
              refine AllReadyH.cons (o := { dst := some 55, op := Op.call { callee := Callee.value (Operand.func 65), args := #[Operand.tmp 54], argTypes := #[33] }, type := 22, pos := "move.go:41", after := #[{ on := 11, ground := Ground.data }], guard := none }) rfl (fun K hK => ?_) AllReadyH.nil
              go_simp
              refine ORD.out.mono ?_
              rintro e Z3 ⟨g', c', rfl, hN3, hg1, hg2, hB3⟩
              have t3 := S3.out Z3 hB3
              have cp3 := CP3.out Z3 hB3
              have HN3 := Lib.hid hN3
              have HB3 := Lib.hid hB3
              clear hN3 hB3
              refine hK.out _ _ t3 (fun hS => ?_)
              clear hK K
              (try simp only [Act.put, List.setIfInBounds_toArray, List.set_cons_zero, List.set_cons_succ])
              refine wpAnyH_ready (rs := [13]) (by kernel_rfl) (by simp) ?_
              refine AllReadyH.cons (o := { dst := some 56, op := Op.buildSlice 33 1 #[(0, Operand.tmp 55)], type := 33, pos := "move.go:41", after := #[{ on := 12, ground := Ground.data }], guard := none }) rfl (fun K hK => ?_) AllReadyH.nil
              go_simp
              have s4 : (Z3.alloc (.cells #[.slice (some ⟨g', 0, none⟩) l c'] 22)).cell? ⟨X.heap.size, 0, none⟩ = some (.slice (some ⟨gh, 0, none⟩) n ch) ∧ (Z3.alloc (.cells #[.slice (some ⟨g', 0, none⟩) l c'] 22)).cell? ⟨w.heap.size, 0, none⟩ = some (.int .i64 (i : Int)) := ⟨cell_alloc _ t3.1, cell_alloc _ t3.2⟩
              have cp4 : (Z3.alloc (.cells #[.slice (some ⟨g', 0, none⟩) l c'] 22)).cell? ⟨X2.heap.size + 1, 0, none⟩ = some (.slice pv f cv) := cell_alloc _ cp3
              refine hK.out _ _ s4 (fun hS => ?_)
              clear hK K
              (try simp only [Act.put, List.setIfInBounds_toArray, List.set_cons_zero, List.set_cons_succ])
              refine wpAnyH_ready (rs := [14]) (by kernel_rfl) (by simp) ?_
              refine AllReadyH.cons (o := { dst := some 57, op := Op.call { callee := Callee.builtin Builtin.append, args := #[Operand.tmp 43, Operand.tmp 56], argTypes := #[33, 33] }, type := 33, pos := "move.go:41", after := #[{ on := 0, ground := Ground.data }, { on := 13, ground := Ground.data }, { on := 12, ground := Ground.chain }], guard := none }) rfl (fun K hK => ?_) AllReadyH.nil
              refine step_append_lies _ rfl _ _ 33 rfl X4.heap.size 22 i0 (.slice none 0 0) 1 24 Try.underlying33 hi0 hz0 hz1 hz2 rfl (by decide) (.slice pv f cv) f RR rfl (own_keepB HOWN.out (fun b e hb => (KB4.out Z3 HB3.out _ b hb))) ⟨Z3.heap.size, 0, none⟩ 1 1 [.slice (some ⟨g', 0, none⟩) l c'] rfl rfl (cell_one_new _ _ _) (fun y hy => by simp at hy; subst hy; rfl) (by decide) (by unfold maxLen; omega) (by omega) (by have := ZS4.out Z3 HB3.out; simp; omega) _ rfl ?_
              intro g5 cap5 Z5 hw1 hw2 hw3 hw4
              have FIN := Lib.hid (FIN0.out Z3 HB3.out g' c' HN3.out ⟨by omega, hg2⟩ Z5 g5 cap5 hw1 hw2 hw3)
              have c5 := (C5.out Z3 HB3.out _ Z5 hw2)
              obtain ⟨s5a, s5b, s5c, s5d⟩ := c5
              clear hw1 hw2 hw3
              refine hK.out _ _ ⟨s5a, s5b⟩ (fun hS => ?_)
              clear hK K
              (try simp only [Act.put, List.setIfInBounds_toArray, List.set_cons_zero, List.set_cons_succ])
              refine wpAnyH_ready (rs := [15]) (by kernel_rfl) (by simp) ?_
              refine AllReadyH.cons (o := { dst := none, op := Op.store 33 (Operand.tmp 7) (Operand.tmp 57), type := 0, pos := "move.go:41", after := #[{ on := 14, ground := Ground.data }, { on := 14, ground := Ground.chain }, { on := 0, ground := Ground.phase }, { on := 1, ground := Ground.phase }, { on := 2, ground := Ground.phase }, { on := 3, ground := Ground.phase }, { on := 4, ground := Ground.phase }, { on := 5, ground := Ground.phase }, { on := 6, ground := Ground.phase }, { on := 7, ground := Ground.phase }, { on := 8, ground := Ground.phase }, { on := 9, ground := Ground.phase }, { on := 10, ground := Ground.phase }, { on := 11, ground := Ground.phase }, { on := 12, ground := Ground.phase }, { on := 13, ground := Ground.phase }, { on := 14, ground := Ground.phase }], guard := none }) rfl (fun K hK => ?_) AllReadyH.nil
              go_simp
              refine hK.out _ _ ⟨(World.cell?_setCell_far _ _ _ _ (by show X2.heap.size + 1 ≠ X.heap.size; omega)).trans s5a, (World.cell?_setCell_far _ _ _ _ (by show X2.heap.size + 1 ≠ w.heap.size; omega)).trans s5b⟩ (fun hS => ?_)
              clear hK K
              refine wpAnyH_done (by kernel_rfl) ?_ _
              exact ⟨KY1.out.trans FIN.out.1, FIN.out.2⟩
            · go_simp
              (try rw [hZ2])
              refine hK.out _ _ s2 (fun hS => ?_)
              clear hK K
              (try simp only [Act.put, List.setIfInBounds_toArray, List.set_cons_zero, List.set_cons_succ])
              refine wpAnyH_ready (rs := [0, 12]) (by kernel_rfl) (by simp) ?_
              refine AllReadyH.cons (o := { dst := some 43, op := Op.load 33 (Operand.tmp 7), type := 33, pos := "move.go:41", after := #[], guard := none }) rfl (fun K hK => ?_) (AllReadyH.cons (o := { dst := some 55, op := Op.call { callee := Callee.value (Operand.func 65), args := #[Operand.tmp 54], argTypes := #[33] }, type := 22, pos := "move.go:41", after := #[{ on := 11, ground := Ground.data }], guard := none }) rfl (fun K hK => ?_) AllReadyH.nil)
              · go_simp
                refine hK.out _ _ hS (fun hS => ?_)
                clear hK K
                (try simp only [Act.put, List.setIfInBounds_toArray, List.set_cons_zero, List.set_cons_succ])
                refine wpAnyH_ready (rs := [12]) (by kernel_rfl) (by simp) ?_
                refine AllReadyH.cons (o := { dst := some 55, op := Op.call { callee := Callee.value (Operand.func 65), args := #[Operand.tmp 54], argTypes := #[33] }, type := 22, pos := "move.go:41", after := #[{ on := 11, ground := Ground.data }], guard := none }) rfl (fun K hK => ?_) AllReadyH.nil
                go_simp
                refine ORD.out.mono ?_
                rintro e Z3 ⟨g', c', rfl, hN3, hg1, hg2, hB3⟩
                have t3 := S3.out Z3 hB3
                have cp3 := CP3.out Z3 hB3
                have HN3 := Lib.hid hN3
                have HB3 := Lib.hid hB3
                clear hN3 hB3
                refine hK.out _ _ t3 (fun hS => ?_)
                clear hK K
                (try simp only [Act.put, List.setIfInBounds_toArray, List.set_cons_zero, List.set_cons_succ])
                refine wpAnyH_ready (rs := [13]) (by kernel_rfl) (by simp) ?_
                refine AllReadyH.cons (o := { dst := some 56, op := Op.buildSlice 33 1 #[(0, Operand.tmp 55)], type := 33, pos := "move.go:41", after := #[{ on := 12, ground := Ground.data }], guard := none }) rfl (fun K hK => ?_) AllReadyH.nil
                go_simp
                have s4 : (Z3.alloc (.cells #[.slice (some ⟨g', 0, none⟩) l c'] 22)).cell? ⟨X.heap.size, 0, none⟩ = some (.slice (some ⟨gh, 0, none⟩) n ch) ∧ (Z3.alloc (.cells #[.slice (some ⟨g', 0, none⟩) l c'] 22)).cell? ⟨w.heap.size, 0, none⟩ = some (.int .i64 (i : Int)) := ⟨cell_alloc _ t3.1, cell_alloc _ t3.2⟩
                have cp4 : (Z3.alloc (.cells #[.slice (some ⟨g', 0, none⟩) l c'] 22)).cell? ⟨X2.heap.size + 1, 0, none⟩ = some (.slice pv f cv) := cell_alloc _ cp3
                refine hK.out _ _ s4 (fun hS => ?_)
                clear hK K
                (try simp only [Act.put, List.setIfInBounds_toArray, List.set_cons_zero, List.set_cons_succ])
                refine wpAnyH_ready (rs := [14]) (by kernel_rfl) (by simp) ?_
                refine AllReadyH.cons (o := { dst := some 57, op := Op.call { callee := Callee.builtin Builtin.append, args := #[Operand.tmp 43, Operand.tmp 56], argTypes := #[33, 33] }, type := 33, pos := "move.go:41", after := #[{ on := 0, ground := Ground.data }, { on := 13, ground := Ground.data }, { on := 12, ground := Ground.chain }], guard := none }) rfl (fun K hK => ?_) AllReadyH.nil
                refine step_append_lies _ rfl _ _ 33 rfl X4.heap.size 22 i0 (.slice none 0 0) 1 24 Try.underlying33 hi0 hz0 hz1 hz2 rfl (by decide) (.slice pv f cv) f RR rfl (own_keepB HOWN.out (fun b e hb => (KB4.out Z3 HB3.out _ b hb))) ⟨Z3.heap.size, 0, none⟩ 1 1 [.slice (some ⟨g', 0, none⟩) l c'] rfl rfl (cell_one_new _ _ _) (fun y hy => by simp at hy; subst hy; rfl) (by decide) (by unfold maxLen; omega) (by omega) (by have := ZS4.out Z3 HB3.out; simp; omega) _ rfl ?_
                intro g5 cap5 Z5 hw1 hw2 hw3 hw4
                have FIN := Lib.hid (FIN0.out Z3 HB3.out g' c' HN3.out ⟨by omega, hg2⟩ Z5 g5 cap5 hw1 hw2 hw3)
                have c5 := (C5.out Z3 HB3.out _ Z5 hw2)
                obtain ⟨s5a, s5b, s5c, s5d⟩ := c5
                clear hw1 hw2 hw3
                refine hK.out _ _ ⟨s5a, s5b⟩ (fun hS => ?_)
                clear hK K
                (try simp only [Act.put, List.setIfInBounds_toArray, List.set_cons_zero, List.set_cons_succ])
                refine wpAnyH_ready (rs := [15]) (by kernel_rfl) (by simp) ?_
                refine AllReadyH.cons (o := { dst := none, op := Op.store 33 (Operand.tmp 7) (Operand.tmp 57), type := 0, pos := "move.go:41", after := #[{ on := 14, ground := Ground.data }, { on := 14, ground := Ground.chain }, { on := 0, ground := Ground.phase }, { on := 1, ground := Ground.phase }, { on := 2, ground := Ground.phase }, { on := 3, ground := Ground.phase }, { on := 4, ground := Ground.phase }, { on := 5, ground := Ground.phase }, { on := 6, ground := Ground.phase }, { on := 7, ground := Ground.phase }, { on := 8, ground := Ground.phase }, { on := 9, ground := Ground.phase }, { on := 10, ground := Ground.phase }, { on := 11, ground := Ground.phase }, { on := 12, ground := Ground.phase }, { on := 13, ground := Ground.phase }, { on := 14, ground := Ground.phase }], guard := none }) rfl (fun K hK => ?_) AllReadyH.nil
                go_simp
                refine hK.out _ _ ⟨(World.cell?_setCell_far _ _ _ _ (by show X2.heap.size + 1 ≠ X.heap.size; omega)).trans s5a, (World.cell?_setCell_far _ _ _ _ (by show X2.heap.size + 1 ≠ w.heap.size; omega)).trans s5b⟩ (fun hS => ?_)
                clear hK K
                refine wpAnyH_done (by kernel_rfl) ?_ _
                exact ⟨KY1.out.trans FIN.out.1, FIN.out.2⟩
              · go_simp
                refine ORD.out.mono ?_
                rintro e Z3 ⟨g', c', rfl, hN3, hg1, hg2, hB3⟩
                have t3 := S3.out Z3 hB3
                have cp3 := CP3.out Z3 hB3
                have HN3 := Lib.hid hN3
                have HB3 := Lib.hid hB3
                clear hN3 hB3
                refine hK.out _ _ t3 (fun hS => ?_)
                clear hK K
                (try simp only [Act.put, List.setIfInBounds_toArray, List.set_cons_zero, List.set_cons_succ])
                refine wpAnyH_ready (rs := [0, 13]) (by kernel_rfl) (by simp) ?_
                refine AllReadyH.cons (o := { dst := some 43, op := Op.load 33 (Operand.tmp 7), type := 33, pos := "move.go:41", after := #[], guard := none }) rfl (fun K hK => ?_) (AllReadyH.cons (o := { dst := some 56, op := Op.buildSlice 33 1 #[(0, Operand.tmp 55)], type := 33, pos := "move.go:41", after := #[{ on := 12, ground := Ground.data }], guard := none }) rfl (fun K hK => ?_) AllReadyH.nil)
                · go_simp
                  refine hK.out _ _ hS (fun hS => ?_)
                  clear hK K
                  (try simp only [Act.put, List.setIfInBounds_toArray, List.set_cons_zero, List.set_cons_succ])
                  refine wpAnyH_ready (rs := [13]) (by kernel_rfl) (by simp) ?_
                  refine AllReadyH.cons (o := { dst := some 56, op := Op.buildSlice 33 1 #[(0, Operand.tmp 55)], type := 33, pos := "move.go:41", after := #[{ on := 12, ground := Ground.data }], guard := none }) rfl (fun K hK => ?_) AllReadyH.nil
                  go_simp
                  have s4 : (Z3.alloc (.cells #[.slice (some ⟨g', 0, none⟩) l c'] 22)).cell? ⟨X.heap.size, 0, none⟩ = some (.slice (some ⟨gh, 0, none⟩) n ch) ∧ (Z3.alloc (.cells #[.slice (some ⟨g', 0, none⟩) l c'] 22)).cell? ⟨w.heap.size, 0, none⟩ = some (.int .i64 (i : Int)) := ⟨cell_alloc _ t3.1, cell_alloc _ t3.2⟩
                  have cp4 : (Z3.alloc (.cells #[.slice (some ⟨g', 0, none⟩) l c'] 22)).cell? ⟨X2.heap.size + 1, 0, none⟩ = some (.slice pv f cv) := cell_alloc _ cp3
                  refine hK.out _ _ s4 (fun hS => ?_)
                  clear hK K
                  (try simp only [Act.put, List.setIfInBounds_toArray, List.set_cons_zero, List.set_cons_succ])
                  refine wpAnyH_ready (rs := [14]) (by kernel_rfl) (by simp) ?_
                  refine AllReadyH.cons (o := { dst := some 57, op := Op.call { callee := Callee.builtin Builtin.append, args := #[Operand.tmp 43, Operand.tmp 56], argTypes := #[33, 33] }, type := 33, pos := "move.go:41", after := #[{ on := 0, ground := Ground.data }, { on := 13, ground := Ground.data }, { on := 12, ground := Ground.chain }], guard := none }) rfl (fun K hK => ?_) AllReadyH.nil
                  refine step_append_lies _ rfl _ _ 33 rfl X4.heap.size 22 i0 (.slice none 0 0) 1 24 Try.underlying33 hi0 hz0 hz1 hz2 rfl (by decide) (.slice pv f cv) f RR rfl (own_keepB HOWN.out (fun b e hb => (KB4.out Z3 HB3.out _ b hb))) ⟨Z3.heap.size, 0, none⟩ 1 1 [.slice (some ⟨g', 0, none⟩) l c'] rfl rfl (cell_one_new _ _ _) (fun y hy => by simp at hy; subst hy; rfl) (by decide) (by unfold maxLen; omega) (by omega) (by have := ZS4.out Z3 HB3.out; simp; omega) _ rfl ?_
                  intro g5 cap5 Z5 hw1 hw2 hw3 hw4
                  have FIN := Lib.hid (FIN0.out Z3 HB3.out g' c' HN3.out ⟨by omega, hg2⟩ Z5 g5 cap5 hw1 hw2 hw3)
                  have c5 := (C5.out Z3 HB3.out _ Z5 hw2)
                  obtain ⟨s5a, s5b, s5c, s5d⟩ := c5
                  clear hw1 hw2 hw3
                  refine hK.out _ _ ⟨s5a, s5b⟩ (fun hS => ?_)
                  clear hK K
                  (try simp only [Act.put, List.setIfInBounds_toArray, List.set_cons_zero, List.set_cons_succ])
                  refine wpAnyH_ready (rs := [15]) (by kernel_rfl) (by simp) ?_
                  refine AllReadyH.cons (o := { dst := none, op := Op.store 33 (Operand.tmp 7) (Operand.tmp 57), type := 0, pos := "move.go:41", after := #[{ on := 14, ground := Ground.data }, { on := 14, ground := Ground.chain }, { on := 0, ground := Ground.phase }, { on := 1, ground := Ground.phase }, { on := 2, ground := Ground.phase }, { on := 3, ground := Ground.phase }, { on := 4, ground := Ground.phase }, { on := 5, ground := Ground.phase }, { on := 6, ground := Ground.phase }, { on := 7, ground := Ground.phase }, { on := 8, ground := Ground.phase }, { on := 9, ground := Ground.phase }, { on := 10, ground := Ground.phase }, { on := 11, ground := Ground.phase }, { on := 12, ground := Ground.phase }, { on := 13, ground := Ground.phase }, { on := 14, ground := Ground.phase }], guard := none }) rfl (fun K hK => ?_) AllReadyH.nil
                  go_simp
                  refine hK.out _ _ ⟨(World.cell?_setCell_far _ _ _ _ (by show X2.heap.size + 1 ≠ X.heap.size; omega)).trans s5a, (World.cell?_setCell_far _ _ _ _ (by show X2.heap.size + 1 ≠ w.heap.size; omega)).trans s5b⟩ (fun hS => ?_)
                  clear hK K
                  refine wpAnyH_done (by kernel_rfl) ?_ _
                  exact ⟨KY1.out.trans FIN.out.1, FIN.out.2⟩
                · go_simp
                  have s4 : (Z3.alloc (.cells #[.slice (some ⟨g', 0, none⟩) l c'] 22)).cell? ⟨X.heap.size, 0, none⟩ = some (.slice (some ⟨gh, 0, none⟩) n ch) ∧ (Z3.alloc (.cells #[.slice (some ⟨g', 0, none⟩) l c'] 22)).cell? ⟨w.heap.size, 0, none⟩ = some (.int .i64 (i : Int)) := ⟨cell_alloc _ t3.1, cell_alloc _ t3.2⟩
                  have cp4 : (Z3.alloc (.cells #[.slice (some ⟨g', 0, none⟩) l c'] 22)).cell? ⟨X2.heap.size + 1, 0, none⟩ = some (.slice pv f cv) := cell_alloc _ cp3
                  refine hK.out _ _ s4 (fun hS => ?_)
                  clear hK K
                  (try simp only [Act.put, List.setIfInBounds_toArray, List.set_cons_zero, List.set_cons_succ])
                  refine wpAnyH_ready (rs := [0]) (by kernel_rfl) (by simp) ?_
                  refine AllReadyH.cons (o := { dst := some 43, op := Op.load 33 (Operand.tmp 7), type := 33, pos := "move.go:41", after := #[], guard := none }) rfl (fun K hK => ?_) AllReadyH.nil
                  go_simp
                  refine hK.out _ _ hS (fun hS => ?_)
                  clear hK K
                  (try simp only [Act.put, List.setIfInBounds_toArray, List.set_cons_zero, List.set_cons_succ])
                  refine wpAnyH_ready (rs := [14]) (by kernel_rfl) (by simp) ?_
                  refine AllReadyH.cons (o := { dst := some 57, op := Op.call { callee := Callee.builtin Builtin.append, args := #[Operand.tmp 43, Operand.tmp 56], argTypes := #[33, 33] }, type := 33, pos := "move.go:41", after := #[{ on := 0, ground := Ground.data }, { on := 13, ground := Ground.data }, { on := 12, ground := Ground.chain }], guard := none }) rfl (fun K hK => ?_) AllReadyH.nil
                  refine step_append_lies _ rfl _ _ 33 rfl X4.heap.size 22 i0 (.slice none 0 0) 1 24 Try.underlying33 hi0 hz0 hz1 hz2 rfl (by decide) (.slice pv f cv) f RR rfl (own_keepB HOWN.out (fun b e hb => (KB4.out Z3 HB3.out _ b hb))) ⟨Z3.heap.size, 0, none⟩ 1 1 [.slice (some ⟨g', 0, none⟩) l c'] rfl rfl (cell_one_new _ _ _) (fun y hy => by simp at hy; subst hy; rfl) (by decide) (by unfold maxLen; omega) (by omega) (by have := ZS4.out Z3 HB3.out; simp; omega) _ rfl ?_
                  intro g5 cap5 Z5 hw1 hw2 hw3 hw4
                  have FIN := Lib.hid (FIN0.out Z3 HB3.out g' c' HN3.out ⟨by omega, hg2⟩ Z5 g5 cap5 hw1 hw2 hw3)
                  have c5 := (C5.out Z3 HB3.out _ Z5 hw2)
                  obtain ⟨s5a, s5b, s5c, s5d⟩ := c5
                  clear hw1 hw2 hw3
                  refine hK.out _ _ ⟨s5a, s5b⟩ (fun hS => ?_)
                  clear hK K
                  (try simp only [Act.put, List.setIfInBounds_toArray, List.set_cons_zero, List.set_cons_succ])
                  refine wpAnyH_ready (rs := [15]) (by kernel_rfl) (by simp) ?_
                  refine AllReadyH.cons (o := { dst := none, op := Op.store 33 (Operand.tmp 7) (Operand.tmp 57), type := 0, pos := "move.go:41", after := #[{ on := 14, ground := Ground.data }, { on := 14, ground := Ground.chain }, { on := 0, ground := Ground.phase }, { on := 1, ground := Ground.phase }, { on := 2, ground := Ground.phase }, { on := 3, ground := Ground.phase }, { on := 4, ground := Ground.phase }, { on := 5, ground := Ground.phase }, { on := 6, ground := Ground.phase }, { on := 7, ground := Ground.phase }, { on := 8, ground := Ground.phase }, { on := 9, ground := Ground.phase }, { on := 10, ground := Ground.phase }, { on := 11, ground := Ground.phase }, { on := 12, ground := Ground.phase }, { on := 13, ground := Ground.phase }, { on := 14, ground := Ground.phase }], guard := none }) rfl (fun K hK => ?_) AllReadyH.nil
                  go_simp
                  refine hK.out _ _ ⟨(World.cell?_setCell_far _ _ _ _ (by show X2.heap.size + 1 ≠ X.heap.size; omega)).trans s5a, (World.cell?_setCell_far _ _ _ _ (by show X2.heap.size + 1 ≠ w.heap.size; omega)).trans s5b⟩ (fun hS => ?_)
                  clear hK K
                  refine wpAnyH_done (by kernel_rfl) ?_ _
                  exact ⟨KY1.out.trans FIN.out.1, FIN.out.2⟩
        · have eb : ((x : Int) == (o : Int)) = false := by simp; omega
          refine wpIn_block (wpIn_seq ?_)
          refine region_round (S := fun W => W.cell? ⟨X2.heap.size, 0, none⟩ = some (.slice (some ⟨gv0, 0, none⟩) 201 cv0) ∧ W.cell? ⟨w.heap.size + 2, 0, none⟩ = some (.int .i64 (o : Int))) (by kernel_rfl) (by kernel_rfl) (fun ⟨_, _, h⟩ => h) ⟨ry1, oy1⟩ (fun hS => ?_)
          refine held_take (v := ?_) (oi := { dst := some 36, op := Op.load 71 (Operand.tmp 5), type := 71, pos := "move.go:40", after := #[], guard := none }) 0 rfl (by kernel_rfl) (by kernel_rfl) (by kernel_rfl) (fun _ _ _ h => h) (by rfl) ?_ hS ?_
          rotate_left
          · (intro W hW; obtain ⟨c1, c2⟩ := hW; go_simp; (try with_reducible rfl))
          (try simp only [Act.put, List.setIfInBounds_toArray, List.set_cons_zero, List.set_cons_succ])
          refine held_take (v := ?_) (oi := { dst := some 37, op := Op.move (Operand.tmp 11), type := 3, pos := "move.go:40", after := #[], guard := none }) 1 rfl (by kernel_rfl) (by kernel_rfl) (by kernel_rfl) (fun _ _ _ h => h) (by rfl) ?_ hS ?_
          rotate_left
          · (intro W hW; obtain ⟨c1, c2⟩ := hW; go_simp; (try with_reducible rfl))
          (try simp only [Act.put, List.setIfInBounds_toArray, List.set_cons_zero, List.set_cons_succ])
          refine held_take (v := ?_) (oi := { dst := some 38, op := Op.move (Operand.tmp 12), type := 3, pos := "move.go:40", after := #[], guard := none }) 2 rfl (by kernel_rfl) (by kernel_rfl) (by kernel_rfl) (fun _ _ _ h => h) (by rfl) ?_ hS ?_
          rotate_left
          · (intro W hW; obtain ⟨c1, c2⟩ := hW; go_simp; (try with_reducible rfl))
          (try simp only [Act.put, List.setIfInBounds_toArray, List.set_cons_zero, List.set_cons_succ])
          refine held_take (v := ?_) (oi := { dst := some 41, op := Op.load 3 (Operand.tmp 10), type := 3, pos := "move.go:40", after := #[], guard := none }) 5 rfl (by kernel_rfl) (by kernel_rfl) (by kernel_rfl) (fun _ _ _ h => h) (by rfl) ?_ hS ?_
          rotate_left
          · (intro W hW; obtain ⟨c1, c2⟩ := hW; go_simp; (try with_reducible rfl))
          (try simp only [Act.put, List.setIfInBounds_toArray, List.set_cons_zero, List.set_cons_succ])
          refine wpAnyH_ready (rs := [3]) (by kernel_rfl) (by simp) ?_
          refine AllReadyH.cons (o := { dst := some 39, op := Op.buildSlice 22 2 #[(0, Operand.tmp 37), (1, Operand.tmp 38)], type := 22, pos := "move.go:40", after := #[{ on := 1, ground := Ground.data }, { on := 2, ground := Ground.data }], guard := none }) rfl (fun K hK => ?_) AllReadyH.nil
          go_simp
          (try rw [hY1])
          refine hK.out _ _ ⟨by rw [← hY1]; exact cell_alloc _ hS.1, by rw [← hY1]; exact cell_alloc _ hS.2⟩ (fun hS => ?_)
          clear hK K
          (try simp only [Act.put, List.setIfInBounds_toArray, List.set_cons_zero, List.set_cons_succ])
          refine wpAnyH_ready (rs := [4]) (by kernel_rfl) (by simp) ?_
          refine AllReadyH.cons (o := { dst := some 40, op := Op.call { callee := Callee.value (Operand.func 63), args := #[Operand.tmp 36, Operand.tmp 39], argTypes := #[71, 22] }, type := 3, pos := "move.go:40", after := #[{ on := 0, ground := Ground.data }, { on := 3, ground := Ground.data }], guard := none }) rfl (fun K hK => ?_) AllReadyH.nil
          go_simp
          refine AT2.out.mono ?_
          rintro e w' ⟨rfl, rfl⟩
          refine hK.out _ _ hS (fun hS => ?_)
          clear hK K
          (try simp only [Act.put, List.setIfInBounds_toArray, List.set_cons_zero, List.set_cons_succ])
          refine held_take (v := ?_) (oi := { dst := some 42, op := Op.binOp BinOp.eql 3 (Operand.tmp 40) (Operand.tmp 41) 3, type := 4, pos := "move.go:40", after := #[{ on := 4, ground := Ground.data }, { on := 5, ground := Ground.data }], guard := none }) 6 rfl (by kernel_rfl) (by kernel_rfl) (by kernel_rfl) (fun _ _ _ h => h) (by rfl) ?_ hS ?_
          rotate_left
          · (intro W hW; obtain ⟨c1, c2⟩ := hW; go_simp; (try with_reducible rfl))
          (try simp only [Act.put, List.setIfInBounds_toArray, List.set_cons_zero, List.set_cons_succ])
          refine wpAnyH_done (by kernel_rfl) ?_ _
          clear hS
          change Code.wpIn _ _ _ (Code.cond _ _ _) _ _ _
          refine wpIn_cond_false rfl ?_
          refine wpIn_skip ?_
          exact finA { tmps := #[], defers := [] } hxo
      case done =>
        rintro k Y rfl hY hdf
        obtain ⟨vp, hp1, hp2⟩ := hY.pos
        have HLP : Hid (Lp X4 X3.heap.size ds H (i + 1) Y) := Lib.hid (by
          refine ⟨hY.os.trans hlp.out.os, hY.tape.trans hlp.out.tape, hY.output.trans hlp.out.output, by have := hY.size; omega, fun b hb h1 => ?_, ⟨vp, hp1, ?_⟩⟩
          · rcases hY.block b (by omega) with h9 | h9 | h9
            · omega
            · exact absurd h9 h1
            · exact h9.trans (hlp.out.block b hb h1)
          · have e1 : winL ds H (i + 1) = winL ds H i ++ winK ds H i (mvs h 0 ds).length := by
              unfold winL winK
              rw [List.range_succ, List.flatMap_append]
              simp only [List.flatMap_cons, List.flatMap_nil, List.append_nil]
              unfold winP
              rw [HHI.out, List.take_length]
            rw [e1]; exact hp2.imp fun b _ hq => hq.1)
        have HMK : Hid (MarksIn X4.heap.size Y ({ target := .collected (w.heap.size + 5), args := #[] } :: df)) := Lib.hid ⟨⟨_, rfl, by omega, hdf, fun d' hd' e => by have := hY.mlt d' hd' _ e; omega⟩, hY.marks⟩
        gi_wp2
        refine ⟨⟨i + 1, _, _, _, _, _, _, _, _, _, _, _, _, _, _, _, _, _, _, _, _, _, _, _, _, _, _, _, _, _, _, _, _, _, _, _, _, _, _, _, _, _, _, _, _, _, rfl, by go_num, by omega, HMK, HLP⟩, ?_⟩
        simp [intOf]
        omega
    · have hni : i = n := by omega
      subst hni
      obtain ⟨v, hp1, hp2⟩ := hlp.out.pos
      have hcv := hp1.cell
      rw [s3] at hcv
      have hBX : Hid (Below X.heap.size X w) := Lib.hid (B4.out.trans ⟨hlp.out.os, hlp.out.tape, hlp.out.output, hlp.out.size, fun b hb => hlp.out.block b (by have := B4.out.size; omega) (by have := B3.out.size; omega)⟩)
      have z4 : X.heap.size ≤ X4.heap.size := B4.out.size
      by_cases h0 : winL ds H i = []
      · have hv := hp2.1 h0
        subst hv
        have hpl : Hid (placed (mvl ds H i) = []) := Lib.hid (by rw [← winL_eq ds H i (by have := HN.out; omega), h0]; rfl)
        clear hp2 h0
        gi_wp2
        refine ⟨trivial, ?_⟩
        gi_at_call 66
        refine (callsIn_wide.2 (sort_none _ _)).mono ?_
        rintro e w' ⟨rfl, rfl⟩
        gi_wp2
        refine ⟨trivial, ?_⟩
        gi_at_call 68
        refine (callsIn_wide.2 (compact_none _ _)).mono ?_
        rintro e w' ⟨rfl, rfl⟩
        gi_wp2
        refine leaves_marks X4.heap.size (fun Y => Below X.heap.size X Y) (fun Y r h1 h2 h3 => below_put h3 r _ (by omega)) (fun Y hY => ⟨_, results_tmp rfl _ _ _, _, rfl, .inl ⟨rfl, hpl.out⟩, hY⟩) df w hmk.out hBX.out
      · obtain ⟨blk, cp, rfl, q1, q2, q3, V, q4, q5⟩ := hp2.form (by
          rcases hq : winL ds H i with _ | ⟨a, b⟩
          · exact absurd hq h0
          · simp)
        obtain ⟨k, hk⟩ : ∃ k, (winL ds H i).length = k := ⟨_, rfl⟩
        have hk1 : 1 ≤ k := by
          rw [← hk]
          rcases hq : winL ds H i with _ | ⟨a, b⟩
          · exact absurd hq h0
          · simp
        have hk2 : k ≤ 100000 := by rw [← hk]; exact winL_len ds H i (by omega) (by rw [HM.out]; exact l8) HB.out
        have SO := Lib.hid (sort_rows (winL ds H i) V blk k cp w (by rw [← hk]; exact q4) (by rw [← hk]; exact q5) hk hk1 hk2)
        have CO := Lib.hid (fun w1 h1 => compact_rows (winL ds H i) blk k cp w1 h1 hk1 hk2 (by omega) q3)
        have hpl : Hid (placed (mvl ds H i) = placed (winL ds H i)) := Lib.hid (by rw [← winL_eq ds H i (by have := HN.out; omega)])
        rw [hk] at hcv hp1
        have HP0 := Lib.hid hp1
        have hne : Hid (∀ r, w.heap[r]? = some (.deferred (some [])) → r ≠ blk) := Lib.hid (fun r e3 e => by
          subst e
          obtain ⟨cur, t, h9, _⟩ := q5
          rw [h9] at e3; cases e3)
        clear hp1 hp2 h0 hk q4 q5
        gi_wp2
        refine ⟨trivial, ?_⟩
        gi_at_call 66
        refine (callsIn_wide.2 SO.out).mono ?_
        rintro e w1 ⟨rfl, hs, hag⟩
        have HS1 := Lib.hid hs
        have HAG := Lib.hid hag
        have hp1 : Boxed w1 X3.heap.size 33 (.slice (some ⟨blk, 0, none⟩) k cp) := (hag.block _ (by omega) (by have := hlp.out.size; omega)).trans HP0.out
        have hcv1 := hp1.cell
        rw [s3] at hcv1
        clear hs hag SO
        gi_wp2
        refine ⟨trivial, ?_⟩
        gi_at_call 68
        refine (callsIn_wide.2 (CO.out w1 HS1.out)).mono ?_
        rintro e w2 ⟨v2, rfl, hout, hal⟩
        have HO := Lib.hid hout
        have HAL := Lib.hid hal
        clear hout hal
        gi_wp2
        have hmk2 : MarksIn X4.heap.size w2 df := hmk.out.keep fun d hd r e1 e2 e3 => by
          have h9 := hmk.out.lt d hd r e1
          have hne : r ≠ blk := hne.out r e3
          exact (HAL.out.block r hne).trans (HAG.out.block r hne h9)
        have hb2 : Below X.heap.size X w2 := by
          refine hBX.out.trans ⟨HAL.out.os.trans HAG.out.os, HAL.out.tape.trans HAG.out.tape, HAL.out.output.trans HAG.out.output, by have := HAG.out.size; have := HAL.out.size; omega, fun b hb => ?_⟩
          have := hBX.out.size
          exact (HAL.out.block b (by omega)).trans (HAG.out.block b (by omega) (by omega))
        refine leaves_marks X4.heap.size (fun Y => Below X.heap.size X Y ∧ Out Y v2 (placed (winL ds H i))) (fun Y r h1 h2 h3 => ⟨below_put h3.1 r _ (by omega), h3.2.put h2⟩) (fun Y hY => ⟨_, results_tmp rfl _ _ _, v2, rfl, by rw [hpl.out]; exact hY.2, hY.1⟩) df w2 hmk2 ⟨hb2, HO.out⟩
end Go.Proofs.Ytodnfchkkgoabaa
