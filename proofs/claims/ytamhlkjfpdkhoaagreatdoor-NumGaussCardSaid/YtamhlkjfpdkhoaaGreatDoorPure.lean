/- WALKS of the functions of remainders: what each call returns. -/
import Derived.Test.YtamhlkjfpdkhoaaGreatDoorRows
import Derived.Test.YtamhlkjfpdkhoaaGreatDoorArith
import Derived.WalkKit
import Derived.WalkSpells
import Derived.WalkLawsBesides
import Derived.Lib.Hide
import Derived.LoopTactic
import Derived.BigQuiet
import Derived.Deep.QuietTactic
namespace Go.Proofs.YtamhlkjfpdkhoaaGreatDoor
open Go.RowKit

theorem ret_int {k : IntKind} {a b : Int} (h : a = b) : Ending.returned (.int k a) = .returned (.int k b) := by rw [h]

/-- The second world is the first one after some answers of the tape. -/
def Drew (w w' : World) : Prop := ∃ n, w' = w.drewN n
theorem Drew.refl (w : World) : Drew w w := ⟨0, rfl⟩
theorem Drew.trans {a b c : World} (h : Drew a b) (k : Drew b c) : Drew a c := by
  obtain ⟨n, rfl⟩ := h; obtain ⟨m, rfl⟩ := k; exact ⟨n + m, by rw [World.drewN_drewN]⟩
theorem Drew.drewN {a b : World} (h : Drew a b) (n : Nat) : Drew a (b.drewN n) := h.trans ⟨n, rfl⟩

def isMod (m : Int) : Bool := decide (1 ≤ m ∧ m ≤ 1000000000000)

theorem isMod_yes {m : Int} (h1 : 1 ≤ m) (h2 : m ≤ 1000000000000) : isMod m = true := by simp [isMod]; omega
theorem isMod_no {m : Int} (h : ¬ (1 ≤ m ∧ m ≤ 1000000000000)) : isMod m = false := by simp [isMod]; omega

theorem isModulus_any (m : Int) (w : World) :
    Calls Tryz.prog 133 #[.int .i64 m] w fun e w' => e = .returned (.bool (isMod m)) ∧ w = w' := by
  by_cases h1 : 1 ≤ m
  · by_cases h2 : m ≤ 1000000000000
    · rw [isMod_yes h1 h2]
      go_enter Tryz.func133, Tryz.ntmps133
      go_wp2
      go_ret
      exact ⟨rfl, rfl⟩
    · rw [isMod_no (by omega)]
      go_enter Tryz.func133, Tryz.ntmps133
      go_wp2
      go_ret
      exact ⟨rfl, rfl⟩
  · rw [isMod_no (by omega)]
    go_enter Tryz.func133, Tryz.ntmps133
    go_wp2
    go_ret
    exact ⟨rfl, rfl⟩

theorem modulo_any (a m : Int) (w : World) (h1 : 1 ≤ m) (h2 : m ≤ 1000000000000) :
    Calls Tryz.prog 134 #[.int .i64 a, .int .i64 m] w fun e w' => e = .returned (.int .i64 (a % m)) ∧ w = w' := by
  go_enter Tryz.func134, Tryz.ntmps134
  have := emod_of_tmod (a := a) (m := m) (by omega)
  go_wp2
  · have h : a.tmod m < 0 := by assumption
    go_ret
    exact ⟨ret_int (this.1 h).symm, rfl⟩
  · have h : 0 ≤ a.tmod m := by assumption
    go_ret
    exact ⟨ret_int (this.2.1 h).symm, rfl⟩

theorem Rest_any (a m : Int) (w : World) (h1 : 1 ≤ m) (h2 : m ≤ 1000000000000) :
    Calls Tryz.prog 137 #[.int .i64 a, .int .i64 m] w fun e w' => e = .returned (.int .i64 (a % m)) ∧ w = w' := by
  go_enter Tryz.func137, Tryz.ntmps137
  have := emod_of_tmod (a := a) (m := m) (by omega)
  go_wp2
  go_ret
  refine ⟨ret_int ?_, rfl⟩
  rw [Int.add_emod_right]
  have e := Int.mul_tdiv_add_tmod a m
  conv => rhs; rw [← e]
  rw [Int.mul_add_emod_self_left]

/-- Common divisors. -/
theorem GcdInt_any (a b : Nat) (w : World) (ha : a ≤ 1000000000000) (hb : b ≤ 1000000000000) :
    Calls Tryz.prog 139 #[.int .i64 a, .int .i64 b] w fun e w' => e = .returned (.int .i64 (Nat.gcd a b : Nat)) ∧ Drew w w' := by
  go_enter Tryz.func139, Tryz.ntmps139
  go_wp2
  go_loopw [0, 1] (fun x y wr => ∃ a' b' : Nat, x = .int .i64 a' ∧ y = .int .i64 b' ∧ a' ≤ 1000000000000 ∧ b' ≤ 1000000000000 ∧ Nat.gcd a' b' = Nat.gcd a b ∧ Drew w wr) (fun _ y _ => (intOf y).toNat)
  case atStart => exact ⟨a, b, rfl, rfl, ha, hb, rfl, Drew.refl _⟩
  case round =>
    obtain ⟨a', b', rfl, rfl, ha', hb', hg, hd⟩ := hrel
    have Hg := Lib.hid hg
    have Hd := Lib.hid hd
    clear hg hd
    by_cases h0 : b' = 0
    · subst h0
      go_wp2
      go_ret
      have := Hg.out
      exact ⟨ret_int (by rw [← this]; simp), Hd.out⟩
    · have hp : 0 < b' := by omega
      have hm : a' % b' < b' := Nat.mod_lt _ hp
      go_wp2
      go_quiet (fail)
      go_wp2
      refine ⟨⟨b', a' % b', rfl, by simp, hb', by omega, ?_, Hd.out.drewN _⟩, ?_⟩
      · rw [← Hg.out, Nat.gcd_comm a' b', Nat.gcd_rec b' a', Nat.gcd_comm]
      · simp only [intOf]; omega

/-- Products of rests, bit by bit. -/
theorem product_any (a b m : Nat) (w : World) (hm : 1 ≤ m) (hm2 : m ≤ 1000000000000) (ha : a < m) (hb : b ≤ 1000000000000) :
    Calls Tryz.prog 138 #[.int .i64 a, .int .i64 b, .int .i64 m] w fun e w' => e = .returned (.int .i64 (a * b % m : Nat)) ∧ w = w' := by
  go_enter Tryz.func138, Tryz.ntmps138
  go_wp2
  go_loop [0, 1, 7] (fun x y z => ∃ a' b' o : Nat, x = .int .i64 a' ∧ y = .int .i64 b' ∧ z = .int .i64 o ∧ a' < m ∧ b' ≤ 1000000000000 ∧ o < m ∧ (o + a' * b') % m = a * b % m) (fun _ y _ => (intOf y).toNat)
  case atStart => exact ⟨a, b, 0, rfl, rfl, rfl, ha, hb, by omega, by simp⟩
  case round =>
    obtain ⟨a', b', o, rfl, rfl, rfl, ha', hb', ho, hg⟩ := hrel
    have Hg := Lib.hid hg
    clear hg
    have l1 : (o + a') % m < m := Nat.mod_lt _ (by omega)
    have l2 : (a' + a') % m < m := Nat.mod_lt _ (by omega)
    by_cases h0 : b' = 0
    · subst h0
      go_wp2
      go_ret
      have h : o = a * b % m := by rw [← Hg.out, Nat.mul_zero, Nat.add_zero, Nat.mod_eq_of_lt ho]
      exact ⟨ret_int (by exact_mod_cast h), rfl⟩
    · have hp : 0 < b' := by omega
      by_cases hodd : b' % 2 = 1
      · go_wp2
        refine ⟨⟨(a' + a') % m, b' / 2, (o + a') % m, by simp, by simp, by simp, l2, by omega, l1, ?_⟩, ?_⟩
        · rw [← Hg.out, prod_odd hodd]
        · simp only [intOf]; omega
      · go_wp2
        refine ⟨⟨(a' + a') % m, b' / 2, o, by simp, by simp, by simp, l2, by omega, ho, ?_⟩, ?_⟩
        · rw [← Hg.out, prod_even (by omega)]
        · simp only [intOf]; omega

/-- Powers, by the reference. -/
theorem PowerMod_any (a : Int) (r n m : Nat) (w : World) (hr : a % m = (r : Int)) (hm : 1 ≤ m) (hm2 : m ≤ 1000000000000) (hn : n ≤ 9223372036854775807) :
    Calls Tryz.prog 72 #[.int .i64 a, .int .i64 n, .int .i64 m] w fun e w' => e = .returned (.int .i64 (r ^ n % m : Nat)) ∧ w = w' := by
  have hr0 : 0 ≤ a % m := Int.emod_nonneg _ (by omega)
  have hr1 : a % m < m := Int.emod_lt_of_pos _ (by omega)
  go_enter Tryz.func72, Tryz.ntmps72
  go_wp2_with (go_at_call 137; refine (Rest_any _ _ _ (by omega) (by omega)).mono ?_; rintro e w' ⟨rfl, rfl⟩)
  rw [hr] at hr0 hr1
  clear hr
  have hr2 : r < m := by omega
  have e1 : (1 : Int) % (m : Int) = ((1 % m : Nat) : Int) := by simp
  have l0 : 1 % m < m := Nat.mod_lt _ (by omega)
  go_loop [0, 1, 7] (fun x y z => ∃ a' n' o : Nat, x = .int .i64 a' ∧ y = .int .i64 n' ∧ z = .int .i64 o ∧ a' < m ∧ n' ≤ 9223372036854775807 ∧ o < m ∧ (o * a' ^ n') % m = r ^ n % m) (fun _ y _ => (intOf y).toNat)
  case atStart => exact ⟨r, n, 1 % m, rfl, rfl, by simp, hr2, hn, l0, by rw [Nat.mul_mod, Nat.mod_mod, ← Nat.mul_mod, Nat.one_mul]⟩
  case round =>
    clear e1 l0 hr0 hr1
    obtain ⟨a', n', o, rfl, rfl, rfl, ha', hn', ho, hg⟩ := hrel
    have Hg := Lib.hid hg
    clear hg
    by_cases h0 : n' = 0
    · subst h0
      go_wp2
      go_ret
      have h : o = r ^ n % m := by rw [← Hg.out, Nat.pow_zero, Nat.mul_one, Nat.mod_eq_of_lt ho]
      exact ⟨ret_int (by exact_mod_cast h), rfl⟩
    · have hp : 0 < n' := by omega
      by_cases hodd : n' % 2 = 1
      · have l1 : o * a' % m < m := Nat.mod_lt _ (by omega)
        have l2 : a' * a' % m < m := Nat.mod_lt _ (by omega)
        go_wp2_with (go_at_call 138; refine (product_any _ _ _ _ (by omega) (by omega) (by omega) (by omega)).mono ?_; rintro e w' ⟨rfl, rfl⟩)
        refine ⟨⟨a' * a' % m, n' / 2, o * a' % m, by simp, by simp, by simp, l2, by omega, l1, ?_⟩, ?_⟩
        · rw [← Hg.out, pow_odd hodd]
        · simp only [intOf]; omega
      · have l2 : a' * a' % m < m := Nat.mod_lt _ (by omega)
        go_wp2_with (go_at_call 138; refine (product_any _ _ _ _ (by omega) (by omega) (by omega) (by omega)).mono ?_; rintro e w' ⟨rfl, rfl⟩)
        refine ⟨⟨a' * a' % m, n' / 2, o, by simp, by simp, by simp, l2, by omega, ho, ?_⟩, ?_⟩
        · rw [← Hg.out, pow_even (by omega)]
        · simp only [intOf]; omega

/-- Common divisors, and a factor. -/
theorem euclid_any (a m : Nat) (w : World) (hm : 1 ≤ m) (hm2 : m ≤ 1000000000000) (ha : a < m) :
    Calls Tryz.prog 136 #[.int .i64 a, .int .i64 m] w fun e w' => ∃ x : Nat, e = .returned (.tuple #[.int .i64 (Nat.gcd a m : Nat), .int .i64 x]) ∧ x < m ∧ a * x % m = Nat.gcd a m % m ∧ Drew w w' := by
  have hstart := Eu.start a m
  have HS := Lib.hid hstart
  clear hstart
  go_enter Tryz.func136, Tryz.ntmps136
  go_wp2
  go_loopw [6, 7, 8, 9, 10] (fun c n x y _ wr => ∃ (c' n' : Nat) (x' y' : Int), c = .int .i64 c' ∧ n = .int .i64 n' ∧ x = .int .i64 x' ∧ y = .int .i64 y' ∧ c' ≤ 1000000000000 ∧ n' ≤ 1000000000000 ∧ Eu a m c' n' x' y' ∧ Drew w wr) (fun _ n _ _ _ _ => (intOf n).toNat)
  case atStart => exact ⟨a, m, 1, 0, rfl, rfl, rfl, rfl, by omega, hm2, HS.out, Drew.refl _⟩
  case round =>
    obtain ⟨c', n', x', y', rfl, rfl, rfl, rfl, hc', hn', he, hd⟩ := hrel
    have He := Lib.hid he
    have Hd := Lib.hid hd
    clear he hd HS
    by_cases h0 : n' = 0
    · subst h0
      obtain ⟨hf, z, hz, hz2, hz3⟩ := Eu.finish (by omega) He.out
      have Hf := Lib.hid hf
      have Hz3 := Lib.hid hz3
      clear hf hz3
      go_wp2_with (go_at_call 134; refine (modulo_any _ _ _ (by omega) (by omega)).mono ?_; rintro e w' ⟨rfl, rfl⟩)
      go_ret2
      exact ⟨z, by rw [← Hf.out]; simp, hz2, Hz3.out, Hd.out⟩
    · have hp : 0 < n' := by omega
      have hm : c' % n' < n' := Nat.mod_lt _ hp
      have hbd := Eu.bound He.out hp
      obtain ⟨b1, b2, b3, b4, b5, b6⟩ := hbd
      have ed : ((c' / n' : Nat) : Int) = (c' : Int) / (n' : Int) := by simp
      rw [ed] at b3 b4 b5 b6
      have ec : (c' : Int) - (c' : Int) / (n' : Int) * (n' : Int) = ((c' % n' : Nat) : Int) := by
        have := Nat.div_add_mod c' n'
        have h : (n' : Int) * ((c' / n' : Nat) : Int) + ((c' % n' : Nat) : Int) = c' := by exact_mod_cast this
        rw [ed] at h
        rw [Int.mul_comm]; omega
      have Ec := Lib.hid ec
      have f1 : 0 ≤ (c' : Int) / (n' : Int) * (n' : Int) ∧ (c' : Int) / (n' : Int) * (n' : Int) ≤ c' := by
        have := Int.emod_nonneg (c' : Int) (b := (n' : Int)) (by omega)
        have h2 : ((c' % n' : Nat) : Int) ≥ 0 := Int.natCast_nonneg _
        have h3 : 0 ≤ (c' : Int) / (n' : Int) * (n' : Int) := Int.mul_nonneg (Int.ediv_nonneg (by omega) (by omega)) (by omega)
        omega
      obtain ⟨f1, f2⟩ := f1
      have f3 : 0 ≤ (c' : Int) / (n' : Int) := Int.ediv_nonneg (by omega) (by omega)
      have f4 : (c' : Int) / (n' : Int) ≤ c' := by
        rw [← ed]; have := Nat.div_le_self c' n'; omega
      clear ec ed
      go_wp2
      refine ⟨⟨n', c' % n', y', x' - (c' / n' : Nat) * y', rfl, ?_, rfl, ?_, hn', by omega, Eu.step He.out hp, Hd.out⟩, ?_⟩
      · rw [Ec.out]
      · simp
      · rw [Ec.out]; simp only [intOf]; omega

/-- The reference's inverse asks for the list of factors; the program's inverse. -/
theorem Inverse_arg (a m : Int) (w : World) (h : ¬ (1 ≤ m ∧ m ≤ 1000000000000)) :
    Calls Tryz.prog 70 #[.int .i64 a, .int .i64 m] w fun e w' => e = .returned (.tuple #[.int .i64 0, .int .i64 1]) ∧ Drew w w' := by
  have H := isMod_no h
  go_enter Tryz.func70, Tryz.ntmps70
  go_wp2_with (go_at_call 133; refine (isModulus_any _ _).mono ?_; rintro e w' ⟨rfl, rfl⟩)
  go_ret2
  exact ⟨rfl, Drew.refl _⟩

theorem Inverse_any (a : Int) (r m : Nat) (w : World) (hm : 1 ≤ m) (hm2 : m ≤ 1000000000000) (hr : a % m = (r : Int)) :
    Calls Tryz.prog 70 #[.int .i64 a, .int .i64 m] w fun e w' => ((1 < Nat.gcd r m ∧ e = .returned (.tuple #[.int .i64 0, .int .i64 4])) ∨ (Nat.gcd r m = 1 ∧ ∃ x : Nat, e = .returned (.tuple #[.int .i64 x, .int .i64 0]) ∧ x < m ∧ r * x % m = 1 % m)) ∧ Drew w w' := by
  have H : isMod (m : Int) = true := isMod_yes (by omega) (by omega)
  have hr1 : a % m < m := Int.emod_lt_of_pos _ (by omega)
  have hr2 : r < m := by omega
  clear hr1
  go_enter Tryz.func70, Tryz.ntmps70
  go_wp2_with (first | (go_at_call 133; refine (isModulus_any _ _).mono ?_; rintro e w' ⟨rfl, rfl⟩) | (go_at_call 134; refine (modulo_any _ _ _ (by omega) (by omega)).mono ?_; rintro e w' ⟨rfl, rfl⟩))
  refine (euclid_any _ _ _ (by omega) (by omega) (by omega)).mono ?_
  rintro e w1 ⟨x, rfl, hx, hx2, hd⟩
  have Hd := Lib.hid hd
  have Hx2 := Lib.hid hx2
  clear hd hx2
  by_cases hg : 1 < Nat.gcd r m
  · have hg' : (1 : Int) < ((Nat.gcd r m : Nat) : Int) := by omega
    go_wp2_with fail
    go_ret2
    exact ⟨.inl ⟨hg, rfl⟩, Hd.out⟩
  · have hg' : ¬ (1 : Int) < ((Nat.gcd r m : Nat) : Int) := by omega
    have h1 : Nat.gcd r m = 1 := by have := Nat.gcd_pos_of_pos_right r (n := m) (by omega); omega
    have H1 := Lib.hid h1
    clear h1
    go_wp2_with fail
    go_ret2
    exact ⟨.inr ⟨H1.out, x, rfl, hx, by rw [Hx2.out, H1.out]⟩, Hd.out⟩

end Go.Proofs.YtamhlkjfpdkhoaaGreatDoor
