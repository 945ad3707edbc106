import Derived.Test.YtamhlkjfpdkhoaaGreatDoorQ9
import Derived.Test.YtamhlkjfpdkhoaaGreatDoorQ12
import Derived.Deep.RegionWith
/- WALKS of the functions of remainders that multiply: Rem64, timesModulo, Power, Meet. -/
namespace Go.Proofs.YtamhlkjfpdkhoaaGreatDoor
open Go.RowKit

theorem rem_hi (hi lo y : Nat) : (hi % y * 18446744073709551616 + lo) % y = (hi * 18446744073709551616 + lo) % y := by
  rw [Nat.add_mod, Nat.mul_mod, Nat.mod_mod, ← Nat.mul_mod, ← Nat.add_mod]

set_option maxHeartbeats 400000 in
theorem Rem64_any (hi lo y : Nat) (w : World) (h : hi < 18446744073709551616) (hl : lo < 18446744073709551616) (hy0 : 0 < y) (hy : y < 18446744073709551616) :
    Calls Tryz.prog 175 #[.int .u64 hi, .int .u64 lo, .int .u64 y] w fun e w' => e = .returned (.int .u64 ((hi * 18446744073709551616 + lo) % y : Nat)) ∧ Drew w w' := by
  have e1 : (hi : Int) % (y : Int) = ((hi % y : Nat) : Int) := by simp
  have b1 : hi % y < y := Nat.mod_lt _ hy0
  have H := Lib.hid (rem_hi hi lo y)
  generalize hi % y = r at *
  have hyn : ¬ y = 0 := by omega
  obtain ⟨Q, hQ⟩ : ∃ Q, (r * 18446744073709551616 + lo) / y = Q := ⟨_, rfl⟩
  obtain ⟨R, hR⟩ : ∃ R, (r * 18446744073709551616 + lo) % y = R := ⟨_, rfl⟩
  have D := Div64_any r lo y w b1 hl hy
  rw [hQ, hR] at D
  have HR : Hid ((hi * 18446744073709551616 + lo) % y = R) := Lib.hid (by rw [← H.out, hR])
  rw [HR.out]
  clear hQ hR H
  go_enter Tryz.func175, Tryz.ntmps175
  go_wp2_with fail
  refine D.mono ?_
  rintro e w1 ⟨rfl, hd⟩
  have Hd := Lib.hid hd
  clear hd D
  go_wp2_with fail
  go_ret
  exact ⟨rfl, Hd.out⟩

set_option maxHeartbeats 400000 in
theorem timesModulo_any (a b m : Nat) (w : World) (hm : 1 ≤ m) (hm2 : m ≤ 1000000000000) (ha : a < m) (hb : b < m) :
    Calls Tryz.prog 135 #[.int .i64 a, .int .i64 b, .int .i64 m] w fun e w' => e = .returned (.int .i64 (a * b % m : Nat)) ∧ Drew w w' := by
  have hR : a * b % m < m := Nat.mod_lt _ (by omega)
  have hN : a * b / 18446744073709551616 * 18446744073709551616 + a * b % 18446744073709551616 = a * b := by
    have := Nat.div_add_mod (a * b) 18446744073709551616; omega
  have h1 : a * b / 18446744073709551616 < 18446744073709551616 := by
    have : a * b ≤ 1000000000000 * 1000000000000 := Nat.mul_le_mul (by omega) (by omega)
    omega
  have h2 : a * b % 18446744073709551616 < 18446744073709551616 := Nat.mod_lt _ (by omega)
  have M := Tryz.bits_Mul64 a b (by omega) (by omega) w
  obtain ⟨x, hx⟩ : ∃ x, a * b / 18446744073709551616 = x := ⟨_, rfl⟩
  obtain ⟨y, hy⟩ : ∃ y, a * b % 18446744073709551616 = y := ⟨_, rfl⟩
  rw [hx, hy] at M hN
  rw [hx] at h1; rw [hy] at h2
  clear hx hy
  have D := fun w' => Rem64_any x y m w' h1 h2 (by omega) (by omega)
  rw [hN] at D
  generalize a * b % m = R at *
  clear hN h1 h2
  have HM := Lib.hid M
  have HD := Lib.hid D
  clear M D
  go_enter Tryz.func135, Tryz.ntmps135
  go_wp2_with fail
  refine HM.out.mono ?_
  rintro e w1 ⟨rfl, rfl⟩
  go_wp2_with fail
  refine (HD.out _).mono ?_
  rintro e w2 ⟨rfl, hd⟩
  have Hd := Lib.hid hd
  clear hd HD
  go_wp2_with fail
  go_ret
  exact ⟨rfl, Hd.out⟩

end Go.Proofs.YtamhlkjfpdkhoaaGreatDoor

/- WALKS of the numbers of one word at most, more: isOne, compare, gcd, divide. -/
namespace Go.Proofs.YtamhlkjfpdkhoaaGreatDoor
open Go.RowKit

set_option maxHeartbeats 400000 in
theorem isOne_any (v : Value) (n : Nat) (w : World) (hd : Dig w v n) :
    Calls Tryz.prog 99 #[v] w fun e w' => e = .returned (.bool (decide (n = 1))) ∧ Drew w w' := by
  obtain ⟨hn, hd⟩ := hd
  clear hn
  obtain ⟨rfl, rfl⟩ | ⟨h0, b, o, rfl, hc⟩ := hd
  · go_enter Tryz.func99, Tryz.ntmps99
    go_wp2
    go_ret
    exact ⟨rfl, Drew.refl _⟩
  · by_cases h1 : n = 1
    · subst h1
      go_enter Tryz.func99, Tryz.ntmps99
      go_wp2
      go_ret
      exact ⟨rfl, Drew.refl _⟩
    · have t1 : ((n : Int) == 1) = false := by rw [beq_eq_false_iff_ne]; omega
      have e1 : decide (n = 1) = false := by simp [h1]
      rw [e1]
      go_enter Tryz.func99, Tryz.ntmps99
      go_wp2
      go_ret
      exact ⟨rfl, Drew.refl _⟩

/-- The sign of a difference. -/
def cmpN (a b : Nat) : Int := if a < b then -1 else if a = b then 0 else 1

set_option maxHeartbeats 400000 in
theorem gcdOfWords_any (a b : Nat) (w : World) (ha : a < 18446744073709551616) (hb : b < 18446744073709551616) :
    Calls Tryz.prog 155 #[.int .u64 a, .int .u64 b] w fun e w' => e = .returned (.int .u64 (Nat.gcd a b : Nat)) ∧ Drew w w' := by
  go_enter Tryz.func155, Tryz.ntmps155
  go_wp2
  go_loopw [0, 1] (fun x y wr => ∃ a' b' : Nat, x = .int .u64 a' ∧ y = .int .u64 b' ∧ Hid (a' < 18446744073709551616 ∧ b' < 18446744073709551616) ∧ Nat.gcd a' b' = Nat.gcd a b ∧ Drew w wr) (fun _ y _ => (intOf y).toNat)
  case atStart => exact ⟨a, b, rfl, rfl, Lib.hid ⟨ha, hb⟩, rfl, Drew.refl _⟩
  case round =>
    obtain ⟨a', b', rfl, rfl, hab, hg, hd⟩ := hrel
    have Hg := Lib.hid hg
    have Hd := Lib.hid hd
    clear hg hd ha hb
    by_cases h0 : b' = 0
    · subst h0
      go_wp2
      go_ret
      have := Hg.out
      exact ⟨ret_int (by rw [← this]; simp), Hd.out⟩
    · have hp : 0 < b' := by omega
      have hm : a' % b' < b' := Nat.mod_lt _ hp
      have E1 : (a' : Int) % (b' : Int) = ((a' % b' : Nat) : Int) := by simp
      obtain ⟨r, hr⟩ : ∃ r, a' % b' = r := ⟨_, rfl⟩
      rw [hr] at E1 hm
      have Hr := Lib.hid hr
      clear hr
      go_wp2
      go_quiet (fail)
      go_wp2
      refine ⟨⟨b', r, rfl, by rw [E1], Lib.hid ⟨hab.out.2, by have := hab.out.2; omega⟩, ?_, Hd.out.drewN _⟩, ?_⟩
      · rw [← Hg.out, Nat.gcd_comm a' b', Nat.gcd_rec b' a', Nat.gcd_comm, Hr.out]
      · simp only [intOf]; omega

set_option maxHeartbeats 400000 in
theorem restByWord_any (v : Value) (n d : Nat) (w : World) (hd : Dig w v n) (h0 : 0 < d) (hdl : d < 18446744073709551616) :
    Calls Tryz.prog 156 #[v, .int .u64 d] w fun e w' => e = .returned (.int .u64 (n % d : Nat)) ∧ Drew w w' := by
  obtain ⟨hn, hd⟩ := hd
  have HR := Lib.hid (fun w' => Rem64_any 0 n d w' (by omega) hn h0 hdl)
  have Hn := Lib.hid (And.intro hn hdl)
  clear hn hdl
  obtain ⟨rfl, rfl⟩ | ⟨hn0, b, o, rfl, hc⟩ := hd
  · go_enter Tryz.func156, Tryz.ntmps156
    go_wp2
    refine wp_loop_rounds 1 ?_
    rw [rounds_succ]
    go_wp2
    go_ret
    exact ⟨by simp, Drew.refl _⟩
  · go_enter Tryz.func156, Tryz.ntmps156
    go_wp2
    refine wp_loop_rounds 2 ?_
    rw [rounds_succ]
    go_wp2_with (go_at_call 175; refine (HR.out _).mono ?_; rintro e w1 ⟨rfl, hdr⟩; have Hdr := Lib.hid hdr; clear hdr)
    rw [rounds_succ]
    go_wp2
    go_ret
    exact ⟨by simp, Hdr.out⟩

set_option maxHeartbeats 400000 in
theorem Compare64_any (a b : Nat) (w : World) :
    Calls Tryz.prog 160 #[.int .u64 a, .int .u64 b] w fun e w' => e = .returned (.int .i64 (cmpN a b)) ∧ w' = w := by
  rcases Nat.lt_trichotomy a b with h | h | h
  · have e : cmpN a b = -1 := by unfold cmpN; rw [if_pos h]
    rw [e]
    go_enter Tryz.func160, Tryz.ntmps160
    go_wp2
    go_ret
    exact ⟨rfl, rfl⟩
  · subst h
    have e : cmpN a a = 0 := by unfold cmpN; rw [if_neg (by omega), if_pos rfl]
    rw [e]
    go_enter Tryz.func160, Tryz.ntmps160
    go_wp2
    go_ret
    exact ⟨rfl, rfl⟩
  · have e : cmpN a b = 1 := by unfold cmpN; rw [if_neg (by omega), if_neg (by omega)]
    have h2 : ¬ a < b := by omega
    rw [e]
    go_enter Tryz.func160, Tryz.ntmps160
    go_wp2
    go_ret
    exact ⟨rfl, rfl⟩

set_option maxHeartbeats 400000 in
theorem compare_any (u v : Value) (a b : Nat) (w : World) (hu : Dig w u a) (hv : Dig w v b) :
    Calls Tryz.prog 116 #[u, v] w fun e w' => e = .returned (.int .i64 (cmpN a b)) ∧ Drew w w' := by
  obtain ⟨ha, hu⟩ := hu
  obtain ⟨hb, hv⟩ := hv
  have Hab := Lib.hid (And.intro ha hb)
  clear ha hb
  obtain ⟨rfl, rfl⟩ | ⟨ha0, b1, o1, rfl, hc1⟩ := hu
  · obtain ⟨rfl, rfl⟩ | ⟨hb0, b2, o2, rfl, hc2⟩ := hv
    · go_enter Tryz.func116, Tryz.ntmps116
      go_wp2
      refine wp_loop_rounds 1 ?_
      rw [rounds_succ]
      go_wp2
      go_ret
      exact ⟨rfl, Drew.refl _⟩
    · have e : cmpN 0 b = -1 := by unfold cmpN; rw [if_pos hb0]
      rw [e]
      go_enter Tryz.func116, Tryz.ntmps116
      go_wp2_with (go_at_call 159; refine (Tryz.cmp_Compare_int _ _ _).mono ?_; rintro e w1 ⟨rfl, rfl⟩)
      go_ret
      exact ⟨rfl, Drew.refl _⟩
  · obtain ⟨rfl, rfl⟩ | ⟨hb0, b2, o2, rfl, hc2⟩ := hv
    · have e : cmpN a 0 = 1 := by unfold cmpN; rw [if_neg (by omega), if_neg (by omega)]
      rw [e]
      go_enter Tryz.func116, Tryz.ntmps116
      go_wp2_with (go_at_call 159; refine (Tryz.cmp_Compare_int _ _ _).mono ?_; rintro e w1 ⟨rfl, rfl⟩)
      go_ret
      exact ⟨rfl, Drew.refl _⟩
    · by_cases hab : a = b
      · subst hab
        have e : cmpN a a = 0 := by unfold cmpN; rw [if_neg (by omega), if_pos rfl]
        rw [e]
        go_enter Tryz.func116, Tryz.ntmps116
        go_wp2
        refine wp_loop_rounds 2 ?_
        rw [rounds_succ]
        go_wp2
        go_quiet (fail)
        go_wp2
        rw [rounds_succ]
        go_wp2
        go_ret
        exact ⟨rfl, (Drew.refl _).drewN _⟩
      · have t1 : ((a : Int) != (b : Int)) = true := by rw [bne_iff_ne]; omega
        have t2 : ((a : Int) == (b : Int)) = false := by rw [beq_eq_false_iff_ne]; omega
        go_enter Tryz.func116, Tryz.ntmps116
        go_wp2
        refine wp_loop_rounds 1 ?_
        rw [rounds_succ]
        go_wp2
        go_quiet (fail)
        go_wp2
        have hdn : Drew w (w.drewN nq) := (Drew.refl _).drewN _
        have k1 := (hdn.cell ⟨b1, o1, none⟩).trans hc1
        have k2 := (hdn.cell ⟨b2, o2, none⟩).trans hc2
        have Hdn := Lib.hid hdn
        clear hdn hc1 hc2
        generalize w.drewN nq = w2 at *
        go_quiet ((go_at_call 160; exact Calls.quiet_of_same (Compare64_any _ _ _)))
        go_wp2
        go_ret
        exact ⟨rfl, Hdn.out.drewN _⟩

theorem cmpN_lt {a b : Nat} (h : a < b) : cmpN a b < 0 := by unfold cmpN; rw [if_pos h]; omega
theorem cmpN_ge {a b : Nat} (h : b ≤ a) : ¬ cmpN a b < 0 := by unfold cmpN; rw [if_neg (by omega)]; split <;> omega

theorem Dig.drew {w w' : World} {v : Value} {n : Nat} (h : Dig w v n) (hd : Drew w w') : Dig w' v n := h.below (hd.below _)

set_option maxRecDepth 100000 in
set_option maxHeartbeats 1000000 in
theorem gcd_any (u v : Value) (a b : Nat) (w : World) (hu : Dig w u a) (hv : Dig w v b) :
    Calls Tryz.prog 98 #[u, v] w fun e w' => ∃ x, e = .returned x ∧ Dig w' x (Nat.gcd a b) ∧ Below w.heap.size w w' := by
  have hcmp := compare_any u v a b w hu hv
  by_cases h : a < b
  · have h1 := cmpN_lt h
    generalize cmpN a b = cc at h1 hcmp
    have Hcmp := Lib.hid hcmp
    have Hu := Lib.hid hu
    have Hv := Lib.hid hv
    clear hcmp hu hv h
    obtain ⟨hb, hv⟩ := Hu.out
    have HB := Lib.hid hb
    clear hb
    obtain ⟨rfl, rfl⟩ | ⟨hb0, b2, o2, rfl, hc2⟩ := hv
    · go_enter Tryz.func98, Tryz.ntmps98
      go_wp2_with (first | (go_at_call 116; refine Hcmp.out.mono ?_; rintro e w1 ⟨rfl, hd⟩; have Hd := Lib.hid hd; clear hd) | (go_at_call 91; refine (copied_any _ _ _ (Hv.out.drew Hd.out)).mono ?_; rintro e w2 ⟨x, rfl, hx, hbl⟩; have Hx := Lib.hid hx; have Hbl := Lib.hid hbl; clear hx hbl))
      go_ret
      exact ⟨x, rfl, by rw [Nat.gcd_zero_left]; exact Hx.out, (Hd.out.below _).trans (Hbl.out.mono (Hd.out.below 0).size)⟩
    · go_enter Tryz.func98, Tryz.ntmps98
      go_wp2_with (first | (go_at_call 116; refine Hcmp.out.mono ?_; rintro e w1 ⟨rfl, hd⟩; have Hd := Lib.hid hd; have hc3 := (Hd.out.cell ⟨b2, o2, none⟩).trans hc2; clear hd))
      have hu1 := Hv.out.drew Hd.out
      have Hu1 := Lib.hid hu1
      clear hu1
      have hdall : ∀ W, Drew w1 W → Calls Tryz.prog 156 #[v, .int .u64 a] W fun e w' => e = .returned (.int .u64 (b % a : Nat)) ∧ Drew w1 w' ∧ w'.cell? ⟨b2, o2, none⟩ = some (.int .u64 a) := fun W hW =>
        (restByWord_any v b a W (Hu1.out.drew hW) hb0 HB.out).mono fun e w' ⟨h1, h2⟩ => ⟨h1, hW.trans h2, (h2.cell _).trans ((hW.cell _).trans hc3)⟩
      have hrl : b % a < a := Nat.mod_lt _ hb0
      have hgl : Nat.gcd a (b % a) < 18446744073709551616 := Nat.lt_of_le_of_lt (Nat.gcd_le_left _ hb0) HB.out
      have hg : Nat.gcd a (b % a) = Nat.gcd b a := by rw [Nat.gcd_comm b a, Nat.gcd_rec a b, Nat.gcd_comm]
      have GW := fun W => gcdOfWords_any a (b % a) W HB.out (by have := HB.out; omega)
      have WW := fun W => word_any (Nat.gcd a (b % a)) W hgl
      rw [hg] at GW WW
      obtain ⟨r, hr⟩ : ∃ r, b % a = r := ⟨_, rfl⟩
      rw [hr] at hdall GW
      obtain ⟨g, hgg⟩ : ∃ g, Nat.gcd b a = g := ⟨_, rfl⟩
      rw [hgg] at GW WW
      have Hgg := Lib.hid hgg
      have Hall := Lib.hid hdall
      have HGW := Lib.hid GW
      have HWW := Lib.hid WW
      clear hdall GW WW hrl hgl hg hr hgg
      go_region_with (first | (go_at_call 156; refine (Hall.out _ ((Drew.refl w1).trans ⟨1, rfl⟩)).mono ?_; rintro e w2 ⟨rfl, hd2, hc4⟩; have Hd2 := Lib.hid hd2; clear hd2) | (go_at_call 155; refine (HGW.out _).mono ?_; rintro e w3 ⟨rfl, hd3⟩; have Hd3 := Lib.hid hd3; clear hd3) | (go_at_call 95; refine (HWW.out _).mono ?_; rintro e w4 ⟨x, rfl, hx, hb4⟩; have Hx := Lib.hid hx; have Hb4 := Lib.hid hb4; clear hx hb4))
      go_wp2
      all_goals go_ret
      all_goals exact ⟨x, rfl, by rw [Nat.gcd_comm, Hgg.out]; exact Hx.out, ((Hd.out.trans Hd2.out).trans Hd3.out |>.below _).trans (Hb4.out.mono (((Hd.out.trans Hd2.out).trans Hd3.out).below 0).size)⟩
  · have h1 := cmpN_ge (Nat.le_of_not_lt h)
    generalize cmpN a b = cc at h1 hcmp
    have Hcmp := Lib.hid hcmp
    have Hu := Lib.hid hu
    have Hv := Lib.hid hv
    clear hcmp hu hv h
    obtain ⟨hb, hv⟩ := Hv.out
    have HB := Lib.hid hb
    clear hb
    obtain ⟨rfl, rfl⟩ | ⟨hb0, b2, o2, rfl, hc2⟩ := hv
    · go_enter Tryz.func98, Tryz.ntmps98
      go_wp2_with (first | (go_at_call 116; refine Hcmp.out.mono ?_; rintro e w1 ⟨rfl, hd⟩; have Hd := Lib.hid hd; clear hd) | (go_at_call 91; refine (copied_any _ _ _ (Hu.out.drew Hd.out)).mono ?_; rintro e w2 ⟨x, rfl, hx, hbl⟩; have Hx := Lib.hid hx; have Hbl := Lib.hid hbl; clear hx hbl))
      go_ret
      exact ⟨x, rfl, by rw [Nat.gcd_zero_right]; exact Hx.out, (Hd.out.below _).trans (Hbl.out.mono (Hd.out.below 0).size)⟩
    · go_enter Tryz.func98, Tryz.ntmps98
      go_wp2_with (first | (go_at_call 116; refine Hcmp.out.mono ?_; rintro e w1 ⟨rfl, hd⟩; have Hd := Lib.hid hd; have hc3 := (Hd.out.cell ⟨b2, o2, none⟩).trans hc2; clear hd))
      have hu1 := Hu.out.drew Hd.out
      have Hu1 := Lib.hid hu1
      clear hu1
      have hdall : ∀ W, Drew w1 W → Calls Tryz.prog 156 #[u, .int .u64 b] W fun e w' => e = .returned (.int .u64 (a % b : Nat)) ∧ Drew w1 w' ∧ w'.cell? ⟨b2, o2, none⟩ = some (.int .u64 b) := fun W hW =>
        (restByWord_any u a b W (Hu1.out.drew hW) hb0 HB.out).mono fun e w' ⟨h1, h2⟩ => ⟨h1, hW.trans h2, (h2.cell _).trans ((hW.cell _).trans hc3)⟩
      have hrl : a % b < b := Nat.mod_lt _ hb0
      have hgl : Nat.gcd b (a % b) < 18446744073709551616 := Nat.lt_of_le_of_lt (Nat.gcd_le_left _ hb0) HB.out
      have hg : Nat.gcd b (a % b) = Nat.gcd a b := by rw [Nat.gcd_comm a b, Nat.gcd_rec b a, Nat.gcd_comm]
      have GW := fun W => gcdOfWords_any b (a % b) W HB.out (by have := HB.out; omega)
      have WW := fun W => word_any (Nat.gcd b (a % b)) W hgl
      rw [hg] at GW WW
      obtain ⟨r, hr⟩ : ∃ r, a % b = r := ⟨_, rfl⟩
      rw [hr] at hdall GW
      obtain ⟨g, hgg⟩ : ∃ g, Nat.gcd a b = g := ⟨_, rfl⟩
      rw [hgg] at GW WW
      have Hgg := Lib.hid hgg
      have Hall := Lib.hid hdall
      have HGW := Lib.hid GW
      have HWW := Lib.hid WW
      clear hdall GW WW hrl hgl hg hr hgg
      go_region_with (first | (go_at_call 156; refine (Hall.out _ ((Drew.refl w1).trans ⟨1, rfl⟩)).mono ?_; rintro e w2 ⟨rfl, hd2, hc4⟩; have Hd2 := Lib.hid hd2; clear hd2) | (go_at_call 155; refine (HGW.out _).mono ?_; rintro e w3 ⟨rfl, hd3⟩; have Hd3 := Lib.hid hd3; clear hd3) | (go_at_call 95; refine (HWW.out _).mono ?_; rintro e w4 ⟨x, rfl, hx, hb4⟩; have Hx := Lib.hid hx; have Hb4 := Lib.hid hb4; clear hx hb4))
      go_wp2
      all_goals go_ret
      all_goals exact ⟨x, rfl, by rw [Hgg.out]; exact Hx.out, ((Hd.out.trans Hd2.out).trans Hd3.out |>.below _).trans (Hb4.out.mono (((Hd.out.trans Hd2.out).trans Hd3.out).below 0).size)⟩
end Go.Proofs.YtamhlkjfpdkhoaaGreatDoor
