/- WALK of NumGauss. -/
import Derived.Test.YtamhlkjfpdkhoaaGreatDoorGauA
import Derived.Test.YtamhlkjfpdkhoaaGreatDoorArithB
import Derived.Test.YtamhlkjfpdkhoaaGreatDoorSym
import Derived.Test.YtamhlkjfpdkhoaaGreatDoorRSym
import Derived.Test.YtamhlkjfpdkhoaaGreatDoorFac
import Derived.Test.YtamhlkjfpdkhoaaGreatDoorInvB
import Derived.Test.YtamhlkjfpdkhoaaGreatDoorAwake
import Derived.Deep.DeepCutAuto
import Derived.Outline
namespace Go.Proofs.YtamhlkjfpdkhoaaGreatDoor
open Go.RowKit

theorem odd_num (n : Int) : ∃ t : Nat, t < 5000 ∧ (IntKind.u64.wrap n).tmod 5000 = (t : Int) := by
  have h0 : 0 ≤ IntKind.u64.wrap n := Int.emod_nonneg _ (by decide)
  rw [Int.tmod_eq_emod_of_nonneg h0]
  exact ⟨(IntKind.u64.wrap n % 5000).toNat, by omega, by omega⟩

theorem w64 {z : Int} (h : -9223372036854775808 ≤ z ∧ z ≤ 9223372036854775807) : wrap64 z = z := by
  unfold wrap64; omega

theorem tmod_bd (a : Int) : -1000000 < a.tmod 1000000 ∧ a.tmod 1000000 < 1000000 := by
  rcases Int.le_total 0 a with h | h
  · rw [Int.tmod_eq_emod_of_nonneg h]; omega
  · have e : a.tmod 1000000 = -((-a).tmod 1000000) := by rw [Int.neg_tmod]; omega
    rw [e, Int.tmod_eq_emod_of_nonneg (by omega)]; omega

theorem tmod_zero (x : Int) (m r : Nat) (hr : x % m = (r : Int)) : x.tmod m = 0 ↔ r = 0 := by
  constructor
  · intro h
    have : (m : Int) ∣ x := Int.dvd_of_tmod_eq_zero h
    have := Int.emod_eq_zero_of_dvd this
    omega
  · intro h
    exact Int.tmod_eq_zero_of_dvd (Int.dvd_of_emod_eq_zero (by omega))

theorem mul_bd {x y : Int} (hx : -1000000 < x ∧ x < 1000000) (hy : -1000000 < y ∧ y < 1000000) : wrap64 (x * y) = x * y := by
  have h : (x * y).natAbs ≤ 999999 * 999999 := by rw [Int.natAbs_mul]; exact Nat.mul_le_mul (by omega) (by omega)
  generalize x * y = z at *
  unfold wrap64; omega

theorem Tri.wrap {x : Int} (h : Tri x) : wrap64 x = x := by unfold Tri at h; unfold wrap64; omega

/-- What Symbol answers. -/
def SymSays (x n A : Int) : Prop := ∀ W, Calls Tryz.prog 75 #[.int .i64 x, .int .i64 n] W fun e w' => e = .returned (.tuple #[.int .i64 A, .int .i64 0]) ∧ Drew W w'

theorem sym_at (x : Int) (n : Nat) (hn : n % 2 = 1) (hn2 : n ≤ 1000000000000) : SymSays x n (J (x % n).toNat n) := fun W =>
  Symbol_any x (x % n).toNat n W (by omega) hn2 hn (by have := Int.emod_nonneg x (show (n : Int) ≠ 0 by omega); omega)

theorem gauss_says (x y : Int) (m k : Nat) (hm : m % 2 = 1) (hk : k % 2 = 1) (hm1 : m ≤ 9999) (hk1 : k ≤ 9999) : ∃ A B D : Int, (Tri A ∧ Tri B ∧ Tri D) ∧ A = J (x % m).toNat m ∧ SymSays x m A ∧ SymSays y m B ∧ SymSays (x * y) m (A * B) ∧ SymSays x k D ∧ SymSays x (m * k : Nat) (A * D) := by
  have hmk : m * k ≤ 9999 * 9999 := Nat.mul_le_mul hm1 hk1
  have hmk2 : (m * k) % 2 = 1 := by rw [Nat.mul_mod, hm, hk]
  refine ⟨_, _, _, ⟨J_tri _ _, J_tri _ _, J_tri _ _⟩, rfl, sym_at x m hm (by omega), sym_at y m hm (by omega), ?_, sym_at x k hk (by omega), ?_⟩
  · have h := sym_at (x * y) m hm (by omega)
    have e : J ((x * y) % m).toNat m = J (x % m).toNat m * J (y % m).toNat m := by
      rw [← J_mul hm, ← J_mod (a := (x % m).toNat * (y % m).toNat) (by omega)]
      congr 1
      have a1 := Int.emod_nonneg x (show (m : Int) ≠ 0 by omega)
      have a2 := Int.emod_nonneg y (show (m : Int) ≠ 0 by omega)
      have a3 := Int.emod_nonneg (x * y) (show (m : Int) ≠ 0 by omega)
      apply Int.ofNat_inj.1
      rw [Int.natCast_emod, Int.natCast_mul, Int.toNat_of_nonneg a1, Int.toNat_of_nonneg a2, Int.toNat_of_nonneg a3, ← Int.mul_emod]
    rw [e] at h; exact h
  · have h := sym_at x (m * k) hmk2 (by omega)
    have part : ∀ d : Nat, 0 < d → d ∣ m * k → J (x % (m * k : Nat)).toNat d = J (x % d).toNat d := by
      intro d hd hdv
      rw [← J_mod (a := (x % (m * k : Nat)).toNat) hd]
      congr 1
      have a1 := Int.emod_nonneg x (show (d : Int) ≠ 0 by omega)
      have a2 := Int.emod_nonneg x (show ((m * k : Nat) : Int) ≠ 0 by omega)
      apply Int.ofNat_inj.1
      rw [Int.natCast_emod, Int.toNat_of_nonneg a1, Int.toNat_of_nonneg a2]
      exact Int.emod_emod_of_dvd x (Int.ofNat_dvd.2 hdv)
    rw [J_lower (by omega) (by omega), part m (by omega) ⟨k, rfl⟩, part k (by omega) ⟨m, Nat.mul_comm _ _⟩] at h
    exact h

/-- Euler's power, as the law asks for it. -/
theorem euler_says (x : Int) (m t q : Nat) (L : List (Nat × Nat)) (hm : m = 1 + 2 * t) (hm1 : m ≤ 9999) (hL : Rise 1 L) (hf : facs L = m) (h1 : L = [(q, 1)]) (hx : x.tmod m ≠ 0) :
    ∀ W, Calls Tryz.prog 69 #[.int .i64 x, .int .i64 t, .int .i64 m] W fun e w' => e = .returned (.tuple #[.int .i64 ((J (x % m).toNat m + m).tmod m), .int .i64 0]) ∧ Drew W w' := by
  subst h1
  have hq : q = m := by simpa [facs] using hf
  subst hq
  have hp : Pr q := hL.2.1
  intro W
  obtain ⟨r, hr⟩ : ∃ r : Nat, x % q = (r : Int) := ⟨(x % q).toNat, by have := Int.emod_nonneg x (show (q : Int) ≠ 0 by omega); omega⟩
  have hrq : r < q := by have := Int.emod_lt_of_pos x (show (0 : Int) < q by omega); omega
  have hr0 : ¬ r % q = 0 := by rw [Nat.mod_eq_of_lt hrq]; intro h; exact hx ((tmod_zero x q r hr).2 h)
  have h := Power_any x r t q W hr (by omega) (by omega) (by omega)
  have e := (J_euler hp (by omega) hr0).2
  have ht : (q - 1) / 2 = t := by omega
  rw [ht] at e
  have hj : (0 : Int) ≤ J r q + q := by have := J_tri r q; unfold Tri at this; omega
  rw [hr, Int.toNat_natCast, Int.tmod_eq_emod_of_nonneg hj, ← e]
  exact h

/-- Both symbols of two numbers. -/
theorem both_say (m k : Nat) (hm : m % 2 = 1) (hk : k % 2 = 1) (hm1 : m ≤ 9999) (hk1 : k ≤ 9999) : ∃ U V : Int, (Tri U ∧ Tri V) ∧ SymSays m k U ∧ SymSays k m V ∧
    ((Nat.gcd m k ≠ 1 ∧ U = 0 ∧ V = 0) ∨ (Nat.gcd m k = 1 ∧ U * V = rc m k)) := by
  have e1 : ((m : Int) % (k : Nat)).toNat = m % k := by rw [← Int.natCast_emod]; exact Int.toNat_natCast _
  have e2 : ((k : Int) % (m : Nat)).toNat = k % m := by rw [← Int.natCast_emod]; exact Int.toNat_natCast _
  have s1 := sym_at (m : Int) k hk (by omega)
  have s2 := sym_at (k : Int) m hm (by omega)
  rw [e1] at s1
  rw [e2] at s2
  refine ⟨_, _, ⟨J_tri _ _, J_tri _ _⟩, s1, s2, ?_⟩
  by_cases hg : Nat.gcd m k = 1
  · exact .inr ⟨hg, J_both hm hk hg⟩
  · refine .inl ⟨hg, ?_, ?_⟩
    · rw [J_mod (by omega)]; exact J_common (by omega) hg
    · rw [J_mod (by omega)]; exact J_common (by omega) (by rw [Nat.gcd_comm]; exact hg)

set_option maxRecDepth 1000000 in
set_option maxHeartbeats 4000000 in
theorem gauss_any (a b n0 n1 : Int) (w : World) :
    Calls Tryz.prog 11 #[.int .i64 a, .int .i64 b, .agg #[.int .i64 n0, .int .i64 n1]] w fun e w' => e = .returned (.bool true) ∧ Below w.heap.size w w' := by
  have L0 := Lib.hid (show (w.alloc (.cells #[.int .i64 n0, .int .i64 n1] 114)).heap[w.heap.size]? = some (.cells #[.int .i64 n0, .int .i64 n1] 114 (0, 0)) ∧ Below w.heap.size w (w.alloc (.cells #[.int .i64 n0, .int .i64 n1] 114)) from ⟨heap_alloc_new _ _, (Below.refl _ _).alloc (Nat.le_refl _) _⟩)
  obtain ⟨t0, ht0, e0⟩ := odd_num n0
  obtain ⟨t1, ht1, e1⟩ := odd_num n1
  have hx := tmod_bd a
  have hy := tmod_bd b
  go_enter Tryz.func11, Tryz.ntmps11
  go_wp2_with fail
  generalize (w.alloc (.cells #[.int .i64 n0, .int .i64 n1] 114)) = w0 at *
  obtain ⟨c0, c1, f0, f1⟩ := cells2 L0.out.1
  go_region
  have LB : Hid (Below w.heap.size w w0.drew) := Lib.hid (L0.out.2.trans ((show Drew w0 w0.drew from ⟨1, rfl⟩).below _))
  clear c0 c1 f0 f1 L0
  generalize w0.drew = w1 at *
  obtain ⟨m, hm⟩ : ∃ m : Nat, m = 1 + 2 * t0 := ⟨_, rfl⟩
  obtain ⟨k, hk⟩ : ∃ k : Nat, k = 1 + 2 * t1 := ⟨_, rfl⟩
  have em : 1 + 2 * (t0 : Int) = m := by omega
  have ek : 1 + 2 * (t1 : Int) = k := by omega
  simp only [em, ek]
  clear e0 e1 em ek
  generalize a.tmod 1000000 = x at *
  generalize b.tmod 1000000 = y at *
  obtain ⟨A, B, D, ⟨hA, hB, hD⟩, hJ, s1, s2, s3, s4, s5⟩ := gauss_says x y m k (by omega) (by omega) (by omega) (by omega)
  rw [← mul_bd hx hy, ← (hA.mul hB).wrap] at s3
  rw [← (hA.mul hD).wrap, Int.natCast_mul, ← mul_bd (x := (m : Int)) (y := (k : Int)) (by omega) (by omega)] at s5
  obtain ⟨z, exy⟩ : ∃ z, wrap64 (x * y) = z := ⟨_, rfl⟩
  obtain ⟨AB, eab⟩ : ∃ z, wrap64 (A * B) = z := ⟨_, rfl⟩
  obtain ⟨AD, ead⟩ : ∃ z, wrap64 (A * D) = z := ⟨_, rfl⟩
  obtain ⟨N, emk⟩ : ∃ z, wrap64 ((m : Int) * (k : Int)) = z := ⟨_, rfl⟩
  rw [exy, eab] at s3
  rw [ead, emk] at s5
  have S1 := Lib.hid s1
  have S2 := Lib.hid s2
  have S3 := Lib.hid s3
  have S4 := Lib.hid s4
  have S5 := Lib.hid s5
  clear s1 s2 s3 s4 s5
  obtain ⟨L, hL⟩ : ∃ L, L = fl m := ⟨_, rfl⟩
  have hfl := fl_spec (n := m) (by omega)
  rw [← hL] at hfl
  have HL := Lib.hid hfl
  have FA : Hid (∀ W, Calls Tryz.prog 76 #[.int .i64 m] W fun e W' => ∃ v, e = .returned (.tuple #[v, .int .i64 0]) ∧ W'.ownsRow W.heap.size 114 2 v L.length (pairs L) ∧ Below W.heap.size W W') := Lib.hid (fun W => by have h := Factors_any L W hfl.1 (by rw [hfl.2]; omega); rw [hfl.2] at h; exact h)
  clear hfl hL
  have H1 := Lib.hid (And.intro hm (And.intro hk (And.intro ht0 ht1)))
  have H2 := Lib.hid (And.intro hA hJ)
  clear hx hy hm hk ht0 ht1 hA hB hD hJ
  go_upto_region 4 with (go_at_call 75; refine (S1.out _).mono ?_; rintro _ w9 ⟨rfl, hd⟩; replace LB := Lib.hid (LB.out.trans (hd.below _)); clear hd S1)
  go_upto_region 5 with (go_at_call 75; refine (S2.out _).mono ?_; rintro _ w9 ⟨rfl, hd⟩; replace LB := Lib.hid (LB.out.trans (hd.below _)); clear hd S2)
  go_upto_region 6 with (go_at_call 75; refine (S3.out _).mono ?_; rintro _ w9 ⟨rfl, hd⟩; replace LB := Lib.hid (LB.out.trans (hd.below _)); clear hd S3)
  go_upto_region 7 with (go_at_call 75; refine (S4.out _).mono ?_; rintro _ w9 ⟨rfl, hd⟩; replace LB := Lib.hid (LB.out.trans (hd.below _)); clear hd S4)
  go_upto_region 8 with (go_at_call 75; refine (S5.out _).mono ?_; rintro _ w9 ⟨rfl, hd⟩; replace LB := Lib.hid (LB.out.trans (hd.below _)); clear hd S5)
  go_upto_region 10 with fail
  clear exy eab ead emk
  go_upto_region 13 with (go_at_call 76; refine (FA.out _).mono ?_; rintro _ w10 ⟨v, rfl, ho, hb⟩; have HP := Lib.hid (prs_of ho); replace LB := Lib.hid (LB.out.trans (hb.mono LB.out.size)); obtain ⟨p0, c0, hv, hcells⟩ := HP.out; subst hv; have HC := Lib.hid hcells; clear ho hb HP hcells)
  clear FA
  have UV := both_say m k (by have := H1.out; omega) (by have := H1.out; omega) (by have := H1.out; omega) (by have := H1.out; omega)
  go_cut [136] (fun s wx => ∃ bb : Bool, s = .bool bb ∧ Hid (bb = true → (∃ q, L = [(q, 1)]) ∧ x.tmod m ≠ 0) ∧ wx = w10)
  case first => as_aux_lemma =>
    have hm0 : 1 ≤ m ∧ m ≤ 9999 := by have := H1.out; omega
    obtain ⟨hm1, hm2⟩ := hm0
    by_cases hl : L.length = 1
    · obtain ⟨⟨q, e⟩, hqe⟩ : ∃ x, L = [x] := by
        cases L with
        | nil => simp at hl
        | cons a l => cases l with
          | nil => exact ⟨a, rfl⟩
          | cons b l => simp at hl
      subst hqe
      obtain ⟨g, rfl, d0, d1⟩ := HC.out 0 q e rfl
      simp only [Nat.mul_zero, Nat.zero_add] at d0 d1
      clear hl
      by_cases he : e = 1
      · subst he
        by_cases hx : x.tmod m = 0
        · have HX := Lib.hid hx
          have t1 : (x.tmod m != 0) = false := by rw [hx]; rfl
          clear hx
          go_wp2_with fail
          go_meet
          case rel => exact ⟨_, rfl, Lib.hid (fun h => by simp at h), rfl⟩
        · have t1 : (x.tmod m != 0) = true := by simpa using hx
          have HX := Lib.hid hx
          clear hx
          go_wp2_with fail
          go_meet
          case rel => exact ⟨_, rfl, Lib.hid (fun _ => ⟨⟨q, rfl⟩, HX.out⟩), rfl⟩
      · have t1 : ((e : Int) == 1) = false := by simp; omega
        clear he
        go_wp2_with fail
        go_meet
        case rel => exact ⟨_, rfl, Lib.hid (fun h => by simp at h), rfl⟩
    · have t1 : ((L.length : Int) == 1) = false := by simp; omega
      clear hl
      go_wp2_with fail
      go_meet
      case rel => exact ⟨_, rfl, Lib.hid (fun h => by simp at h), rfl⟩
  case rest => as_aux_lemma =>
    obtain ⟨bb, rfl, hbb, rfl⟩ := hcut
    go_upto_if 136 with fail
    go_cut [29] (fun _ wx => Hid (Below w.heap.size w wx))
    case first => as_aux_lemma =>
      cases bb with
      | false =>
        go_wp2_with fail
        go_meet
        case rel => exact LB
      | true =>
        obtain ⟨⟨q, hq⟩, hx⟩ := hbb.out rfl
        have PW := euler_says x m t0 q L H1.out.1 (by have := H1.out; omega) HL.out.1 HL.out.2 hq hx
        rw [← H2.out.2] at PW
        have eT : ((m : Int) - 1) / 2 = (t0 : Int) := by have := H1.out; omega
        have hA := H2.out.1.bd
        have hm0 : 1 ≤ m ∧ m ≤ 9999 := by have := H1.out; omega
        obtain ⟨hA1, hA2⟩ := hA
        obtain ⟨hm1, hm2⟩ := hm0
        rw [Int.tmod_eq_emod_of_nonneg (by omega)] at PW
        have PO := Lib.hid PW
        clear PW hq hx hbb
        go_wp2_with (go_at_call 69; refine (PO.out _).mono ?_; rintro _ w11 ⟨rfl, hd⟩; have LC := Lib.hid (LB.out.trans (hd.below _)); clear hd)
        go_meet
        case rel => exact LC
    case rest => as_aux_lemma =>
      clear LB hbb HC HL H2
      have LB := hcut
      clear hcut
      obtain ⟨U, V, ⟨hU, hV⟩, u1, v1, huv⟩ := UV
      have SU := Lib.hid u1
      have SV := Lib.hid v1
      have HUV := Lib.hid huv
      have HT := Lib.hid (And.intro hU hV)
      clear u1 v1 huv hU hV
      go_upto_region 21 with (first | (go_at_call 75; refine (SU.out _).mono ?_; rintro _ w12 ⟨rfl, hd⟩; have LD := Lib.hid (LB.out.trans (hd.below _)); clear hd SU) | (go_at_call 75; refine (SV.out _).mono ?_; rintro _ w13 ⟨rfl, hd⟩; have LE := Lib.hid (LD.out.trans (hd.below _)); clear hd SV))
      clear LB LD
      have hm0 : 1 ≤ m ∧ m ≤ 9999 ∧ 1 ≤ k ∧ k ≤ 9999 := by have := H1.out; omega
      obtain ⟨hm1, hm2, hk1, hk2⟩ := hm0
      have W1 := Lib.hid (fun W => Whole_pos m W (by omega) (by omega))
      have W2 := Lib.hid (fun W => Whole_pos k W (by omega) (by omega))
      have W3 : Hid (∀ W, Calls Tryz.prog 35 #[.int .i64 1] W fun e w' => ∃ x, e = .returned x ∧ WI w' x false 1 ∧ Below W.heap.size W w') := Lib.hid (fun W => Whole_pos 1 W (by omega) (by omega))
      have GC := Lib.hid IGcd_any
      have CM := Lib.hid ICmp_pos
      have hc : (Nat.gcd m k ≠ 1 ∧ cmpN (Nat.gcd m k) 1 = 1) ∨ (Nat.gcd m k = 1 ∧ cmpN (Nat.gcd m k) 1 = 0) := by
        have hg0 : 0 < Nat.gcd m k := Nat.gcd_pos_of_pos_left _ hm1
        unfold cmpN
        by_cases h : Nat.gcd m k = 1
        · exact .inr ⟨h, by rw [h]; rfl⟩
        · exact .inl ⟨h, by rw [if_neg (by omega), if_neg h]⟩
      have HC := Lib.hid hc
      clear hc
      go_wp2_with fail
      refine (W1.out _).mono ?_
      rintro _ w14 ⟨x1, rfl, hx, hb⟩
      have LF := Lib.hid (LE.out.trans (hb.mono LE.out.size))
      have X1 := Lib.hid hx
      clear hx hb LE
      go_wp2_with fail
      refine (W2.out _).mono ?_
      rintro _ w15 ⟨x2, rfl, hx, hb⟩
      have LG := Lib.hid (LF.out.trans (hb.mono LF.out.size))
      have X2 := Lib.hid hx
      replace X1 := Lib.hid (X1.out.below hb)
      clear hx hb LF
      go_wp2_with fail
      refine (GC.out _ _ _ _ _ _ _ X1.out X2.out).mono ?_
      rintro _ w16 ⟨x3, rfl, hx, hb⟩
      have LH := Lib.hid (LG.out.trans (hb.mono LG.out.size))
      have X3 := Lib.hid hx
      clear hx hb LG X1 X2
      go_wp2_with fail
      refine (W3.out _).mono ?_
      rintro _ w17 ⟨x4, rfl, hx, hb⟩
      have LI := Lib.hid (LH.out.trans (hb.mono LH.out.size))
      have X4 := Lib.hid hx
      replace X3 := Lib.hid (X3.out.below hb)
      clear hx hb LH
      go_wp2_with fail
      refine (CM.out _ _ _ _ _ X3.out X4.out).mono ?_
      rintro _ w18 ⟨rfl, hb⟩
      have LJ := Lib.hid (LI.out.trans (hb.mono LI.out.size))
      clear hb LI X3 X4 W1 W2 W3 GC CM
      have AW := Lib.hid awake_any
      rcases HC.out with ⟨hg, hz⟩ | ⟨hg, hz⟩
      · have hUV : U = 0 ∧ V = 0 := by
          rcases HUV.out with ⟨_, h⟩ | ⟨h, _⟩
          · exact h
          · exact absurd h hg
        obtain ⟨rfl, rfl⟩ := hUV
        rw [hz]
        clear hg hz HC HUV HT
        go_wp2_with (go_at_call 27; refine (AW.out _).mono ?_; rintro _ w19 ⟨rfl, hb⟩; have LK := Lib.hid (LJ.out.trans (hb.mono LJ.out.size)); clear hb)
        go_ret
        exact ⟨rfl, LK.out⟩
      · have hUV : U * V = rc m k := by
          rcases HUV.out with ⟨h, _⟩ | ⟨_, h⟩
          · exact absurd hg h
          · exact h
        have hw : wrap64 (U * V) = rc m k := by rw [(HT.out.1.mul HT.out.2).wrap]; exact hUV
        have m4 : (m : Int) % 4 = ((m % 4 : Nat) : Int) := by omega
        have k4 : (k : Int) % 4 = ((k % 4 : Nat) : Int) := by omega
        rw [hz]
        unfold rc at hw
        clear hg hz HC HUV HT hUV
        by_cases h1 : m % 4 = 3
        · have b1 : ((m : Int) % 4 == 3) = true := by rw [m4, h1]; rfl
          by_cases h2 : k % 4 = 3
          · have b2 : ((k : Int) % 4 == 3) = true := by rw [k4, h2]; rfl
            rw [if_pos ⟨h1, h2⟩] at hw
            have t1 : (wrap64 (U * V) == -1) = true := by rw [hw]; rfl
            clear m4 k4 h1 h2 hw
            go_wp2_with (go_at_call 27; refine (AW.out _).mono ?_; rintro _ w19 ⟨rfl, hb⟩; have LK := Lib.hid (LJ.out.trans (hb.mono LJ.out.size)); clear hb)
            go_ret
            exact ⟨rfl, LK.out⟩
          · have b2 : ((k : Int) % 4 == 3) = false := by rw [k4]; simp; omega
            rw [if_neg (by omega)] at hw
            have t1 : (wrap64 (U * V) == 1) = true := by rw [hw]; rfl
            clear m4 k4 h1 h2 hw
            go_wp2_with (go_at_call 27; refine (AW.out _).mono ?_; rintro _ w19 ⟨rfl, hb⟩; have LK := Lib.hid (LJ.out.trans (hb.mono LJ.out.size)); clear hb)
            go_ret
            exact ⟨rfl, LK.out⟩
        · have b1 : ((m : Int) % 4 == 3) = false := by rw [m4]; simp; omega
          rw [if_neg (by omega)] at hw
          have t1 : (wrap64 (U * V) == 1) = true := by rw [hw]; rfl
          clear m4 k4 h1 hw
          go_wp2_with (go_at_call 27; refine (AW.out _).mono ?_; rintro _ w19 ⟨rfl, hb⟩; have LK := Lib.hid (LJ.out.trans (hb.mono LJ.out.size)); clear hb)
          go_ret
          exact ⟨rfl, LK.out⟩
end Go.Proofs.YtamhlkjfpdkhoaaGreatDoor
