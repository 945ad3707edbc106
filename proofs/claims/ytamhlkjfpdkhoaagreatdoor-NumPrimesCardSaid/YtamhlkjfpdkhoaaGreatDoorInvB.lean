/- WALK of the reference's Inverse. -/
import Derived.Test.YtamhlkjfpdkhoaaGreatDoorArith
import Derived.Test.YtamhlkjfpdkhoaaGreatDoorRefF
import Derived.Test.YtamhlkjfpdkhoaaGreatDoorMod
import Derived.Test.YtamhlkjfpdkhoaaGreatDoorAppend
import Derived.Test.YtamhlkjfpdkhoaaGreatDoorRatA
import Derived.Outline
namespace Go.Proofs.YtamhlkjfpdkhoaaGreatDoor
open Go.RowKit

/-- The slice holds these pairs. -/
def Prs (w : World) (v : Value) (L : List (Nat × Nat)) : Prop :=
  ∃ p c, v = .slice p L.length c ∧ ∀ i q e, L[i]? = some (q, e) → ∃ g, p = some ⟨g, 0, none⟩ ∧ w.cell? ⟨g, 2 * i, none⟩ = some (.int .i64 (q : Nat)) ∧ w.cell? ⟨g, 2 * i + 1, none⟩ = some (.int .i64 (e : Nat))

theorem pairs_at : ∀ {L : List (Nat × Nat)} {i q e : Nat}, L[i]? = some (q, e) → (pairs L)[2 * i]? = some (.int .i64 (q : Int)) ∧ (pairs L)[2 * i + 1]? = some (.int .i64 (e : Int))
  | [], i, q, e, h => by simp at h
  | (q', e') :: L, 0, q, e, h => by
    simp at h; obtain ⟨rfl, rfl⟩ := h
    simp [pairs]
  | (q', e') :: L, i + 1, q, e, h => by
    have h' : L[i]? = some (q, e) := by simpa using h
    have := pairs_at h'
    have e1 : pairs ((q', e') :: L) = .int .i64 (q' : Int) :: .int .i64 (e' : Int) :: pairs L := by simp [pairs]
    rw [e1, show 2 * (i + 1) = 2 * i + 1 + 1 by omega]
    simpa using this

theorem prs_of {w : World} {base : Nat} {v : Value} {L : List (Nat × Nat)} {t : TypeId} (h : w.ownsRow base t 2 v L.length (pairs L)) : Prs w v L := by
  rcases h.2 with ⟨rfl, hx⟩ | ⟨g, cap, cur, rfl, h1, h2, h3⟩
  · have : L = [] := List.eq_nil_of_length_eq_zero hx
    subst this
    exact ⟨none, 0, rfl, fun i q e hi => by simp at hi⟩
  · refine ⟨_, cap, rfl, fun i q e hi => ?_⟩
    obtain ⟨a, b⟩ := pairs_at hi
    have A := owns_cells h _ _ a
    have B := owns_cells h _ _ b
    refine ⟨g, rfl, ?_, ?_⟩
    · have ea : ((⟨g, 0, none⟩ : Addr).add (2 * i)) = ⟨g, 2 * i, none⟩ := by unfold Addr.add; split <;> simp_all
      rw [ea] at A; exact A
    · have ea : ((⟨g, 0, none⟩ : Addr).add (2 * i + 1)) = ⟨g, 2 * i + 1, none⟩ := by unfold Addr.add; split <;> simp_all
      rw [ea] at B; exact B

theorem Prs.below {w w' : World} {v : Value} {L : List (Nat × Nat)} (h : Prs w v L) (hb : Below w.heap.size w w') : Prs w' v L := by
  obtain ⟨p, c, h1, h2⟩ := h
  refine ⟨p, c, h1, fun i q e hi => ?_⟩
  obtain ⟨g, a, b, d⟩ := h2 i q e hi
  obtain ⟨_, ho, _⟩ := cells_of_cell b
  have hg : g < w.heap.size := (Array.getElem?_eq_some_iff.1 ho).1
  exact ⟨g, a, (hb.cell (p := ⟨g, _, none⟩) hg).trans b, (hb.cell (p := ⟨g, _, none⟩) hg).trans d⟩

/-- What the reference's Inverse answers. -/
def RInv (r m : Nat) (e : Ending) : Prop :=
  (Nat.gcd r m ≠ 1 ∧ e = .returned (.tuple #[.int .i64 0, .bool false])) ∨ (Nat.gcd r m = 1 ∧ ∃ x : Nat, e = .returned (.tuple #[.int .i64 x, .bool true]) ∧ x < m ∧ r * x % m = 1 % m)

set_option maxRecDepth 100000 in
set_option maxHeartbeats 1000000 in
theorem RInverse_any (a : Int) (r m : Nat) (w : World) (hm : 1 ≤ m) (hm2 : m ≤ 1000000000000) (hr : a % m = (r : Int)) :
    Calls Tryz.prog 73 #[.int .i64 a, .int .i64 m] w fun e w' => RInv r m e ∧ Below w.heap.size w w' := by
  have hrm : r < m := by have := Int.emod_lt_of_pos a (b := (m : Int)) (by omega); omega
  have GC := fun W => GcdInt_any m r W (by omega) (by omega)
  rw [Nat.gcd_comm m r] at GC
  unfold RInv
  obtain ⟨g, hg⟩ : ∃ g, Nat.gcd r m = g := ⟨_, rfl⟩
  rw [hg] at GC ⊢
  replace GC := Lib.hid GC
  have RE := Lib.hid (fun W => Rest_any a m W (by omega) (by omega))
  by_cases h1 : g = 1
  · subst h1
    have FA := Lib.hid (fun W => RFactors_any m W (by omega) hm2)
    have PM := Lib.hid (fun W n (hn : n ≤ 9223372036854775807) => PowerMod_any (r : Int) r n m W (by rw [← hr]; exact Int.emod_emod_of_dvd _ (Int.dvd_refl _)) hm hm2 hn)
    have HG := Lib.hid hg
    rw [hr] at RE
    clear hg
    go_enter Tryz.func73, Tryz.ntmps73
    go_wp2_with fail
    refine (RE.out _).mono ?_
    rintro e w1 ⟨rfl, rfl⟩
    go_wp2_with fail
    refine (GC.out _).mono ?_
    rintro e w2 ⟨rfl, hd⟩
    have HD := Lib.hid hd
    clear hd RE GC
    go_wp2_with fail
    refine (FA.out _).mono ?_
    rintro e w3 ⟨L, v, hL, hf, rfl, hown, hb⟩
    have HP := Lib.hid (prs_of hown)
    have HB := Lib.hid ((HD.out.below w.heap.size).trans (hb.mono (HD.out.below w.heap.size).size))
    have HL := Lib.hid hL
    have HF := Lib.hid hf
    clear hL hf hown hb FA HD
    obtain ⟨p, c, hv, hcells⟩ := HP.out
    subst hv
    have HC := Lib.hid hcells
    clear hcells HP
    have hLlen : L.length < 40 := rise_short HL.out (by rw [HF.out]; exact hm2)
    go_wp2_with fail
    go_loop [6, 8] (fun f i => ∃ k : Nat, k ≤ L.length ∧ i = .int .i64 k ∧ f = .int .i64 (phi (L.take k) : Nat)) (fun _ i => L.length - (intOf i).toNat)
    case atStart => exact ⟨0, by omega, rfl, rfl⟩
    case round =>
      obtain ⟨k, hk, rfl, rfl⟩ := hrel
      by_cases hlt : k < L.length
      · obtain ⟨⟨q, e⟩, hqe⟩ : ∃ x, L[k]? = some x := ⟨_, List.getElem?_eq_getElem hlt⟩
        have hb0 := phi_bound (t := 0) HL.out hqe (by have := (rise_mem HL.out (List.mem_of_getElem? hqe)).2; omega)
        rw [HF.out] at hb0
        have PT := Lib.hid (phi_take hqe)
        have PB := Lib.hid (fun t ht => phi_bound (t := t) HL.out hqe ht)
        have he1 : 1 ≤ e := (rise_mem HL.out (List.mem_of_getElem? hqe)).2
        obtain ⟨f, hf⟩ : ∃ f, phi (L.take k) = f := ⟨_, rfl⟩
        rw [hf] at PT PB hb0 ⊢
        obtain ⟨h1, h2, h3, h4⟩ := hb0
        obtain ⟨g, rfl, c0, c1⟩ := HC.out k q e hqe
        have c0' : w3.cell? ⟨g, k * 2, none⟩ = some (.int .i64 q) := by rw [Nat.mul_comm]; exact c0
        have c1' : w3.cell? ⟨g, k * 2 + 1, none⟩ = some (.int .i64 e) := by rw [Nat.mul_comm]; exact c1
        have hq1 : (1 : Int) ≤ q := by omega
        have eF : (f : Int) * ((q : Int) - 1) = ((f * (q - 1) : Nat) : Int) := by rw [Int.natCast_mul, Int.natCast_sub (by omega)]; rfl
        obtain ⟨f1, hf1⟩ : ∃ f1, f * (q - 1) = f1 := ⟨_, rfl⟩
        rw [hf1] at eF
        have hf1m : f1 ≤ m := by simpa [hf1] using h1
        have HF1 := Lib.hid hf1
        clear hqe hf hf1 h1
        go_wp2_with fail
        have FB : Hid (∀ s, s < e → f1 * q ^ s ≤ m) := Lib.hid fun s hs => by have := (PB.out s hs).1; rw [← Nat.mul_assoc, HF1.out, HF.out] at this; exact this
        clear PB
        go_loop [6, 9] (fun f k => ∃ s x : Nat, s < e ∧ k = .int .i64 (s + 1 : Nat) ∧ f = .int .i64 (x : Nat) ∧ Hid (x = f1 * q ^ s) ∧ x ≤ m) (fun _ k => e - (intOf k).toNat)
        case atStart => exact ⟨0, f1, by omega, rfl, rfl, Lib.hid (by simp), hf1m⟩
        case round =>
          obtain ⟨s, x, hs, rfl, rfl, hx, hxm⟩ := hrel
          have es : ((s + 1 : Nat) : Int) = (s : Int) + 1 := by omega
          rw [es]
          by_cases hse : s + 1 < e
          · have hnext := FB.out (s + 1) hse
            rw [Nat.pow_succ, ← Nat.mul_assoc, ← hx.out] at hnext
            have eX : (x : Int) * (q : Int) = ((x * q : Nat) : Int) := (Int.natCast_mul _ _).symm
            obtain ⟨x1, hx1⟩ : ∃ x1, x * q = x1 := ⟨_, rfl⟩
            rw [hx1] at eX hnext
            have HX1 : Hid (x1 = f1 * q ^ (s + 1)) := Lib.hid (by rw [← hx1, hx.out, Nat.pow_succ, Nat.mul_assoc])
            clear hx1
            go_wp2
            go_round
            case rel => exact ⟨s + 1, x1, hse, by go_num, rfl, HX1, hnext⟩
            case measure => simp [intOf]; omega
          · have hres : Hid (x = phi (L.take (k + 1))) := Lib.hid (by
              rw [PT.out, hx.out, show s = e - 1 by omega, ← HF1.out, Nat.mul_assoc])
            go_wp2
            go_round
            case rel => exact ⟨k + 1, by omega, by go_num, by rw [← hres.out]⟩
            case measure => simp [intOf]; omega
      · have hkL : k = L.length := by omega
        subst hkL
        have ePhi : L.take L.length = L := List.take_length
        rw [ePhi]
        have hp := phi_le L fun p e hm => rise_mem HL.out hm
        rw [HF.out] at hp
        obtain ⟨f, hf⟩ : ∃ f, phi L = f := ⟨_, rfl⟩
        rw [hf] at hp ⊢
        have HFi := Lib.hid hf
        obtain ⟨hp1, hp2⟩ := hp
        have eS : (f : Int) - 1 + f = ((f - 1 + f : Nat) : Int) := by omega
        have P1 := Lib.hid (fun W => PM.out W (f - 1 + f) (by omega))
        clear hf ePhi
        obtain ⟨N, hN⟩ : ∃ N, f - 1 + f = N := ⟨_, rfl⟩
        rw [hN] at eS P1
        have HN := Lib.hid hN
        clear hN PM
        go_wp2_with fail
        refine (P1.out _).mono ?_
        rintro e w4 ⟨rfl, rfl⟩
        go_wp2_with fail
        go_ret2
        refine ⟨.inr ⟨trivial, r ^ N % m, rfl, Nat.mod_lt _ (by omega), ?_⟩, HB.out⟩
        have E := euler_inv (L := L) (r := r) HL.out (by rw [HF.out]; unfold Nat.Coprime; rw [Nat.gcd_comm]; exact HG.out)
        rw [HF.out, HFi.out, HN.out] at E
        exact E
  · have t1 : ((g : Int) != 1) = true := by simp; omega
    rw [hr] at RE
    clear hg hrm
    go_enter Tryz.func73, Tryz.ntmps73
    go_wp2_with fail
    refine (RE.out _).mono ?_
    rintro e w1 ⟨rfl, rfl⟩
    go_wp2_with fail
    refine (GC.out _).mono ?_
    rintro e w2 ⟨rfl, hd⟩
    have HD := Lib.hid hd
    clear hd
    go_wp2_with fail
    go_ret2
    exact ⟨.inl ⟨h1, rfl⟩, HD.out.below _⟩
end Go.Proofs.YtamhlkjfpdkhoaaGreatDoor
