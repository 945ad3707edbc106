/- WALKS of the function that Best hands on, and of IndexFunc. -/
import Derived.Test.YtodnfchkkgoabaaHGb
import Derived.Test.YtodnfchkkgoabaaHGr
set_option linter.unusedVariables false
namespace Go.Proofs.Ytodnfchkkgoabaa
open Go.RowKit

/-- A vertex to which the move is as good as can be. -/
def good (f : Nat → Nat × Nat) (kd ds x : Nat) : Bool := decide ((f x).1 = kd) && decide ((f x).2 = ds)

/-- The four variables of the function that is handed on. -/
structure BV (X : World) (b1 b2 b3 b4 gk gd n : Nat) (f : Nat → Nat × Nat) (kd ds : Nat) : Prop where
  k : X.cell? ⟨b1, 0, none⟩ = some (.slice (some ⟨gk, 0, none⟩) n n)
  kk : X.cell? ⟨b2, 0, none⟩ = some (.int .i64 kd)
  d : X.cell? ⟨b3, 0, none⟩ = some (.slice (some ⟨gd, 0, none⟩) n n)
  dd : X.cell? ⟨b4, 0, none⟩ = some (.int .i64 ds)
  bk : Blk X gk n (fun v => .int .i64 ((f v).1 : Nat))
  bd : Blk X gd n (fun v => .int .i64 ((f v).2 : Nat))
theorem BV.under {X Y : World} {b1 b2 b3 b4 gk gd n kd ds : Nat} {f : Nat → Nat × Nat} (h : BV X b1 b2 b3 b4 gk gd n f kd ds) (hb : Below X.heap.size X Y) : BV Y b1 b2 b3 b4 gk gd n f kd ds :=
  ⟨cellOf2 hb h.k (cell_lt2 h.k), cellOf2 hb h.kk (cell_lt2 h.kk), cellOf2 hb h.d (cell_lt2 h.d), cellOf2 hb h.dd (cell_lt2 h.dd), h.bk.keep (hb.block _ h.bk.lt), h.bd.keep (hb.block _ h.bd.lt)⟩

theorem F60_any (x n gk gd b1 b2 b3 b4 kd ds : Nat) (f : Nat → Nat × Nat) (X : World) (h : BV X b1 b2 b3 b4 gk gd n f kd ds) (hx : x < n) :
    Calls Try.prog 60 #[.int .i64 x, .pointer (some ⟨b1, 0, none⟩), .pointer (some ⟨b2, 0, none⟩), .pointer (some ⟨b3, 0, none⟩), .pointer (some ⟨b4, 0, none⟩)] X fun e X' => e = .returned (.bool (good f kd ds x)) ∧ Below X.heap.size X X' := by
  have c1 := h.k
  have c2 := h.kk
  have c3 := h.d
  have c4 := h.dd
  have cx := h.bk.cell hx
  have cd := h.bd.cell hx
  have bx : (x : Int) < (n : Int) := by omega
  have HG : Hid (good f kd ds x = (decide ((f x).1 = kd) && decide ((f x).2 = ds))) := Lib.hid rfl
  clear h
  generalize (f x).1 = fk at *
  generalize (f x).2 = fd at *
  by_cases e1 : fk = kd
  · subst e1
    by_cases e2 : fd = ds
    · subst e2
      have HT : Hid (good f fk fd x = true) := Lib.hid (by rw [HG.out]; simp)
      clear HG
      go_enter Try.func60, Try.ntmps60
      go_wp2_with fail
      go_quiet (fail)
      go_wp2_with fail
      go_ret
      exact ⟨by rw [HT.out]; rfl, below_drewN (Below.refl _ _) _⟩
    · have HT : Hid (good f fk ds x = false) := Lib.hid (by rw [HG.out]; simp [e2])
      have q2 : ((fd : Int) == (ds : Int)) = false := by simp; omega
      clear HG
      go_enter Try.func60, Try.ntmps60
      go_wp2_with fail
      go_quiet (fail)
      go_wp2_with fail
      go_ret
      exact ⟨by rw [HT.out]; rfl, below_drewN (Below.refl _ _) _⟩
  · have HT : Hid (good f kd ds x = false) := Lib.hid (by rw [HG.out]; simp [e1])
    have q2 : ((fk : Int) == (kd : Int)) = false := by simp; omega
    clear HG
    go_enter Try.func60, Try.ntmps60
    go_wp2_with fail
    go_quiet (fail)
    go_wp2_with fail
    go_ret
    exact ⟨by rw [HT.out]; rfl, below_drewN (Below.refl _ _) _⟩

theorem IndexFunc_any (L : List Nat) (p : Option Addr) (c K n gk gd b1 b2 b3 b4 kd ds : Nat) (f : Nat → Nat × Nat) (X : World) (h : BV X b1 b2 b3 b4 gk gd n f kd ds) (hL : NS X p L) (hl : L.length ≤ 200) (hx : ∀ i, i < L.length → L.getD i 0 < n)
    (hK : K < L.length) (h1 : good f kd ds (L.getD K 0) = true) (h2 : ∀ j, j < K → good f kd ds (L.getD j 0) = false) :
    Calls Try.prog 59 #[.slice p L.length c, .func (.func 60) #[] #[.pointer (some ⟨b1, 0, none⟩), .pointer (some ⟨b2, 0, none⟩), .pointer (some ⟨b3, 0, none⟩), .pointer (some ⟨b4, 0, none⟩)]] X fun e X' => e = .returned (.int .i64 K) ∧ Below X.heap.size X X' := by
  obtain ⟨m, hm⟩ : ∃ m, L.length = m := ⟨_, rfl⟩
  have HM := Lib.hid hm
  have HL := Lib.hid hL
  have HX := Lib.hid hx
  have H1 := Lib.hid h1
  have H2 := Lib.hid h2
  have HF := Lib.hid (fun x Y (hb : Below X.heap.size X Y) hx => F60_any x n gk gd b1 b2 b3 b4 kd ds f Y (h.under hb) hx)
  rw [hm] at hl hK ⊢
  clear hm hL hx h1 h2 h
  go_enter Try.func59, Try.ntmps59
  go_wp2_with fail
  go_loopw [5, 8] (fun _ i wr => ∃ j : Nat, i = .int .i64 j ∧ j ≤ K ∧ Hid (Below X.heap.size X wr)) (fun _ i _ => m - (intOf i).toNat)
  case atStart => exact ⟨0, rfl, by omega, Lib.hid (Below.refl _ _)⟩
  case round =>
    obtain ⟨j, rfl, hj, hb⟩ := hrel
    obtain ⟨g, rfl, hc⟩ := (HL.out.under hb.out) j (by have := HM.out; omega)
    have FF := Lib.hid (HF.out (L.getD j 0) wr hb.out (HX.out j (by have := HM.out; omega)))
    by_cases hlt : j < K
    · rw [H2.out j hlt] at FF
      generalize L.getD j 0 = x at *
      go_wp2_with fail
      refine FF.out.mono ?_
      rintro e w1 ⟨rfl, hb1⟩
      have B1 := Lib.hid (hb.out.trans (hb1.mono hb.out.size))
      clear hb1 FF
      go_wp2_with fail
      go_roundw
      case rel => exact ⟨j + 1, by go_num, by omega, B1⟩
      case measure => simp [intOf]; omega
    · obtain rfl : j = K := by omega
      rw [H1.out] at FF
      generalize L.getD j 0 = x at *
      go_wp2_with fail
      refine FF.out.mono ?_
      rintro e w1 ⟨rfl, hb1⟩
      have B1 := Lib.hid (hb.out.trans (hb1.mono hb.out.size))
      clear hb1 FF
      go_wp2_with fail
      go_ret
      exact ⟨rfl, B1.out⟩

theorem outp_one {G : List (List Nat)} {M : List (Pos × Nat)} {f f' : Nat → Nat × Nat} (h : DF G M) (ho : OutP M G.length f) (ho' : OutP M G.length f') {v : Nat} (hv : v < G.length) : f v = f' v := by
  rcases ho v hv with ⟨⟨⟨v', t⟩, d⟩, hx, rfl, hf⟩ | ⟨h1, h2⟩
  · rw [hf, h.out ho' hx]
  · rcases ho' v hv with ⟨x, hx, e, _⟩ | ⟨_, h3⟩
    · exact absurd e (h1 x hx)
    · rw [h2, h3]

/-- What the kind and the distance of the best move are. -/
def kindOf (t : Nat) : Nat := if t = 0 then 1 else if t = 1 then 0 else 2

theorem Plays.good {G : List (List Nat)} {f : Nat → Nat × Nat} (h : Plays G f) {v : Nat} (hv : v < G.length) (hne : G.getD v [] ≠ []) : ∃ w ∈ G.getD v [], good f (kindOf (f v).1) ((f v).2 - 1) w = true := by
  have hk := h.kind v hv
  have e : f v = ((f v).1, (f v).2) := rfl
  rcases Nat.lt_or_ge (f v).1 1 with h0 | h0
  · have h0 : (f v).1 = 0 := by omega
    rw [h0] at e
    obtain ⟨w, hw, d, h1, h2⟩ := (h.lost v _ hv e).2 hne
    refine ⟨w, hw, ?_⟩
    unfold Go.Proofs.Ytodnfchkkgoabaa.good kindOf
    rw [h0, h1, h2]; simp
  · rcases Nat.lt_or_ge (f v).1 2 with h1 | h1
    · have h1 : (f v).1 = 1 := by omega
      rw [h1] at e
      obtain ⟨w, hw, d, h2, h3⟩ := h.won v _ hv e
      refine ⟨w, hw, ?_⟩
      unfold Go.Proofs.Ytodnfchkkgoabaa.good kindOf
      rw [h1, h2, h3]; simp
    · have h2 : (f v).1 = 2 := by omega
      obtain ⟨h3, _, w, hw, h4⟩ := h.drawn v hv h2
      refine ⟨w, hw, ?_⟩
      unfold Go.Proofs.Ytodnfchkkgoabaa.good kindOf
      rw [h2, h3, h4]; simp

/-- The first element of a list that has a property. -/
theorem first_of {α : Type} (q : α → Bool) (d : α) : ∀ L : List α, (∃ x ∈ L, q x = true) → ∃ K, K < L.length ∧ q (L.getD K d) = true ∧ ∀ j, j < K → q (L.getD j d) = false := by
  intro L
  induction L with
  | nil => rintro ⟨x, hx, _⟩; cases hx
  | cons a L ih =>
    rintro ⟨x, hx, hq⟩
    by_cases h : q a = true
    · exact ⟨0, by simp, by simpa using h, fun j hj => by omega⟩
    · have : ∃ x ∈ L, q x = true := by
        rcases List.mem_cons.1 hx with rfl | hx
        · exact absurd hq h
        · exact ⟨x, hx, hq⟩
      obtain ⟨K, h1, h2, h3⟩ := ih this
      refine ⟨K + 1, by simp; omega, by simpa using h2, fun j hj => ?_⟩
      cases j with
      | zero => simpa using h
      | succ j => simpa using h3 j (by omega)
end Go.Proofs.Ytodnfchkkgoabaa
