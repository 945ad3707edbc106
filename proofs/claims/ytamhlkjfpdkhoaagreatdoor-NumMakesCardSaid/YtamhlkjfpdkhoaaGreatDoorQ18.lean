import Derived.Test.YtamhlkjfpdkhoaaGreatDoorQ7
import Derived.Test.YtamhlkjfpdkhoaaGreatDoorQ17
import Derived.Deep.DeepCutAuto
import Derived.Deep.Cut
/- WALKS of the program's numbers of any size: divideByWord, restByWord; divide and gcd by one word. -/
namespace Go.Proofs.YtamhlkjfpdkhoaaGreatDoor
open Go.RowKit

theorem divw_step {b : Nat} {l o : List Nat} {k n x r q r' : Nat} (hk : 0 < k) (hx : l[k - 1]? = some x) (hko : k ≤ o.length) (h : val b (l.drop k) = n * val b (o.drop k) + r)
    (hq : (r * b + x) / n = q) (hr' : (r * b + x) % n = r') : val b (l.drop (k - 1)) = n * val b ((o.set (k - 1) q).drop (k - 1)) + r' := by
  rw [drop_set hk hko, val_drop_step b hx, show k - 1 + 1 = k by omega, h]
  have e := Nat.div_add_mod (r * b + x) n
  rw [hq, hr'] at e
  simp only [val]
  have e2 : b * r = r * b := Nat.mul_comm _ _
  rw [Nat.mul_add b, e2, Nat.mul_add n, Nat.mul_left_comm n b]
  omega

theorem take_set_prev {l R : List Nat} {k q : Nat} (hk : 0 < k) (h : R.take k = l.take k) : (R.set (k - 1) q).take (k - 1) = l.take (k - 1) := by
  rw [List.take_set_of_le (by omega)]
  have := congrArg (List.take (k - 1)) h
  rwa [List.take_take, List.take_take, Nat.min_eq_left (by omega)] at this

theorem get_of_take {l R : List Nat} {k : Nat} (hk : 0 < k) (h : R.take k = l.take k) : R[k - 1]? = l[k - 1]? := by
  have := congrArg (fun x : List Nat => x[k - 1]?) h
  simpa [List.getElem?_take, show k - 1 < k by omega] using this

theorem quot_low {r x d q : Nat} (hr : r < d) (hx : x < 18446744073709551616) (hq : (r * 18446744073709551616 + x) / d = q) : q < 18446744073709551616 := by
  rw [← hq]
  refine (Nat.div_lt_iff_lt_mul (by omega)).2 ?_
  have : (r + 1) * 18446744073709551616 ≤ d * 18446744073709551616 := Nat.mul_le_mul_right _ hr
  rw [Nat.mul_comm 18446744073709551616 d]; omega

theorem B64_eq : (18446744073709551616 : Nat) = B64 := rfl

set_option maxRecDepth 100000 in
set_option maxHeartbeats 2000000 in
theorem divideByWord_all (g n d : Nat) (L : List Nat) (w : World) (hL : Cells w g L) (hn : n = L.length) (hLow : Low B64 L) (hl : L.length ≤ 1073741824) (hd0 : 0 < d) (hd : d < 18446744073709551616) :
    Calls Tryz.prog 163 #[.slice (some ⟨g, 0, none⟩) n n, .int .u64 d] w fun e w' => ∃ L', e = .returned (.int .u64 (val B64 L % d : Nat)) ∧ L'.length = L.length ∧ Low B64 L' ∧ val B64 L' = val B64 L / d ∧ Cells w' g L' ∧ Only g w w' := by
  subst hn
  have DV := Lib.hid Div64_any
  have HL := Lib.hid hL
  have HLow := Lib.hid hLow
  clear hL hLow
  go_enter Tryz.func163, Tryz.ntmps163
  go_wp2
  go_loopw [5, 6] (fun rv iv wr => ∃ (R : List Nat) (r k : Nat), rv = .int .u64 r ∧ iv = .int .i64 ((k : Int) - 1) ∧ (k ≤ L.length ∧ r < d) ∧ Hid (R.length = L.length) ∧ Hid (Low B64 (R.drop k)) ∧ Hid (R.take k = L.take k) ∧ Hid (val B64 (L.drop k) = d * val B64 (R.drop k) + r) ∧ Hid (Cells wr g R) ∧ Hid (Only g w wr)) (fun _ iv _ => (intOf iv + 1).toNat)
  case atStart => exact ⟨L, 0, L.length, rfl, rfl, ⟨Nat.le_refl _, hd0⟩, Lib.hid rfl, Lib.hid (by rw [List.drop_eq_nil_of_le (Nat.le_refl _)]; exact Low.nil _), Lib.hid rfl, Lib.hid (by rw [val_drop_end _ (Nat.le_refl _)]; simp), HL, Lib.hid (Only.refl _ _)⟩
  case round =>
    obtain ⟨R, r, k, rfl, rfl, ⟨hkm, hrd⟩, hRl, hRL, hT, hV, hC, hOn⟩ := hrel
    by_cases hk0 : 0 < k
    · obtain ⟨x, hx⟩ : ∃ d, L[k - 1]? = some d := ⟨_, List.getElem?_eq_getElem (by omega)⟩
      have hx' : R[k - 1]? = some x := by rw [get_of_take hk0 hT.out]; exact hx
      have bx : x < 18446744073709551616 := HLow.out.at_ hx
      obtain ⟨c1, f1⟩ := hC.out _ _ hx'
      have D1 := fun W => DV.out r x d W hrd bx hd
      obtain ⟨q, hq⟩ : ∃ q, (r * 18446744073709551616 + x) / d = q := ⟨_, rfl⟩
      obtain ⟨r', hr'⟩ : ∃ q, (r * 18446744073709551616 + x) % d = q := ⟨_, rfl⟩
      simp only [hq, hr'] at D1
      have D2 := Lib.hid D1
      have hrd' : r' < d := by rw [← hr']; exact Nat.mod_lt _ hd0
      have hqB := quot_low hrd bx hq
      have hkR : k ≤ R.length := by rw [hRl.out]; exact hkm
      have HV := Lib.hid (divw_step (b := B64) hk0 hx hkR hV.out hq hr')
      have HT := Lib.hid (take_set_prev (q := q) hk0 hT.out)
      have HRl : Hid ((R.set (k - 1) q).length = L.length) := Lib.hid (by rw [List.length_set]; exact hRl.out)
      have HRL : Hid (Low B64 ((R.set (k - 1) q).drop (k - 1))) := Lib.hid (by rw [drop_set hk0 hkR]; exact Low.cons hqB hRL.out)
      have HC := Lib.hid (fun W (h : Drew wr W) => (hC.out.of_drew h).set (k - 1) q)
      have HOn := Lib.hid (fun W (h : Drew wr W) => (hOn.out.trans (Only.of_drew h)).set (k - 1) (.int .u64 (q : Int)))
      clear hx hx' hq hr' hqB hkR hV hT hRl hRL hC hOn bx D1
      go_wp2_with fail
      refine (D2.out _).mono ?_
      rintro _ w2 ⟨rfl, hd2⟩
      have k1 := (hd2.cell ⟨g, k - 1, none⟩).trans c1
      have k2 := (hd2.frozen ⟨g, k - 1, none⟩).trans f1
      have HC2 := Lib.hid (HC.out _ hd2)
      have HOn2 := Lib.hid (HOn.out _ hd2)
      clear hd2 c1 f1 HC HOn D2
      go_wp2
      go_roundw
      case rel => exact ⟨R.set (k - 1) q, r', k - 1, rfl, by go_num, ⟨by omega, hrd'⟩, HRl, HRL, HT, HV, HC2, HOn2⟩
      case measure => simp [intOf]; omega
    · obtain rfl : k = 0 := by omega
      have h : val B64 L = d * val B64 R + r := hV.out
      have e1 : r = val B64 L % d := by rw [h, Nat.mul_add_mod, Nat.mod_eq_of_lt hrd]
      have e2 : val B64 R = val B64 L / d := by rw [h, Nat.mul_add_div hd0, Nat.div_eq_of_lt hrd, Nat.add_zero]
      have E1 := Lib.hid e1
      have E2 := Lib.hid e2
      have HRL : Hid (Low B64 R) := hRL
      clear h e1 e2 hV hT hRL
      go_wp2
      go_ret
      exact ⟨R, ret_int (by rw [← E1.out]), hRl.out, HRL.out, E2.out, hC.out, hOn.out⟩

set_option maxRecDepth 100000 in
set_option maxHeartbeats 2000000 in
theorem restByWord_all (v : Value) (a k d : Nat) (w : World) (ha : DN w v a k) (hk : k ≤ 1073741824) (hd0 : 0 < d) (hd : d < 18446744073709551616) :
    Calls Tryz.prog 156 #[v, .int .u64 d] w fun e w' => e = .returned (.int .u64 (a % d : Nat)) ∧ Drew w w' := by
  obtain ⟨l, p, c, rfl, h1, h2, rfl, h4, h5, h6⟩ := ha.norm
  have RM := Lib.hid Rem64_any
  have HW := Lib.hid h1
  have HN := Lib.hid h2
  clear ha h1 h2
  go_enter Tryz.func156, Tryz.ntmps156
  go_wp2
  go_loopw [5, 6] (fun rv iv wr => ∃ (r k : Nat), rv = .int .u64 r ∧ iv = .int .i64 ((k : Int) - 1) ∧ (k ≤ l.length ∧ r < d) ∧ Hid (val B64 (l.drop k) % d = r) ∧ Hid (Drew w wr)) (fun _ iv _ => (intOf iv + 1).toNat)
  case atStart => exact ⟨0, l.length, rfl, rfl, ⟨Nat.le_refl _, hd0⟩, Lib.hid (by rw [val_drop_end _ (Nat.le_refl _)]; simp), Lib.hid (Drew.refl _)⟩
  case round =>
    obtain ⟨r, k, rfl, rfl, ⟨hkm, hrd⟩, hV, hD⟩ := hrel
    by_cases hk0 : 0 < k
    · obtain ⟨x, hx⟩ : ∃ d, l[k - 1]? = some d := ⟨_, List.getElem?_eq_getElem (by omega)⟩
      have bx : x < 18446744073709551616 := HN.out.1.at_ hx
      obtain ⟨g, rfl, c1⟩ := HW.out.at_ (hD.out.below _) hx
      have D1 := fun W => RM.out r x d W (by omega) bx hd0 hd
      obtain ⟨r', hr'⟩ : ∃ q, (r * 18446744073709551616 + x) % d = q := ⟨_, rfl⟩
      simp only [hr'] at D1
      have D2 := Lib.hid D1
      have hrd' : r' < d := by rw [← hr']; exact Nat.mod_lt _ hd0
      have HV : Hid (val B64 (l.drop (k - 1)) % d = r') := Lib.hid (by
        rw [val_drop_step B64 hx, show k - 1 + 1 = k by omega, ← hr', ← hV.out, B64_eq, Nat.add_comm, Nat.add_mod, Nat.mul_comm B64, Nat.mul_mod, ← Nat.add_mod]
        conv => rhs; rw [Nat.add_mod, Nat.mul_mod, Nat.mod_mod, ← Nat.add_mod]
        )
      clear hx hr' hV bx D1
      go_wp2_with fail
      refine (D2.out _).mono ?_
      rintro _ w2 ⟨rfl, hd2⟩
      have HD := Lib.hid (hD.out.trans hd2)
      clear hd2 hD D2
      go_wp2
      go_roundw
      case rel => exact ⟨r', k - 1, rfl, by go_num, ⟨by omega, hrd'⟩, HV, HD⟩
      case measure => simp [intOf]; omega
    · obtain rfl : k = 0 := by omega
      have E1 := Lib.hid (show val B64 l % d = r from hV.out)
      clear hV
      go_wp2
      go_ret
      exact ⟨ret_int (by rw [E1.out]), hD.out⟩
end Go.Proofs.YtamhlkjfpdkhoaaGreatDoor

/- WALKS of the program's numbers of any size: gcd, over what reduce leaves. -/
namespace Go.Proofs.YtamhlkjfpdkhoaaGreatDoor
open Go.RowKit

/-- What the program's gcd does at numbers of K words. -/
def GcdC (K : Nat) : Prop := ∀ (u v : Value) (a b : Nat) (w : World), DN w u a K → DN w v b K →
  Calls Tryz.prog 98 #[u, v] w fun e w' => ∃ x, e = .returned x ∧ DN w' x (Nat.gcd a b) K ∧ Below w.heap.size w w'

/-- What reduce leaves. -/
def RedC (K : Nat) : Prop := ∀ (u v : Value) (a b : Nat) (w : World), DN w u a K → DN w v b K → b ≤ a → B64 ≤ b →
  Calls Tryz.prog 154 #[u, v] w fun e w' => ∃ x y a' b', e = .returned (.tuple #[x, y]) ∧ DN w' x a' K ∧ DN w' y b' 1 ∧ Nat.gcd a' b' = Nat.gcd a b ∧ Below w.heap.size w w'

theorem cmpv_neg {a b : Nat} : cmpv a b < 0 ↔ a < b := by
  unfold cmpv; split <;> (try split) <;> omega

theorem one_word {w : World} {v : Value} {n : Nat} (h : DN w v n 1) : (n = 0 ∧ ∃ p c, v = .slice p 0 c) ∨ (0 < n ∧ n < 18446744073709551616 ∧ ∃ g c, v = .slice (some ⟨g, 0, none⟩) 1 c ∧ w.cell? ⟨g, 0, none⟩ = some (.int .u64 n)) := by
  obtain ⟨l, p, c, rfl, h1, h2, rfl, h4, h5, h6⟩ := h.norm
  match l, h1, h2, h4 with
  | [], _, _, _ => exact .inl ⟨rfl, p, c, rfl⟩
  | [d], h1, h2, _ =>
    obtain ⟨g, rfl, hc⟩ := h1.at_ (Below.refl _ _) (i := 0) (d := d) rfl
    have hd : d < 18446744073709551616 := h2.1 d (by simp)
    have e : val B64 [d] = d := by simp [val]
    rcases h2.2 with h | ⟨m, x, h, hx⟩
    · cases h
    · have : m = [] := by
        have := congrArg List.length h
        simp at this
        exact this
      subst this
      simp at h
      subst h
      rw [e]
      exact .inr ⟨by omega, hd, g, c, rfl, hc⟩
  | _ :: _ :: _, _, _, h4 => simp at h4

theorem DN.fit' {w : World} {p : Option Addr} {m c n k : Nat} (h : DN w (.slice p m c) n k) {j : Nat} (hm : m ≤ j) : DN w (.slice p m c) n j := by
  obtain ⟨l, ⟨p', c', h1, h1'⟩, h2, h3, _⟩ := h
  simp only [Value.slice.injEq] at h1
  obtain ⟨rfl, rfl, rfl⟩ := h1
  exact ⟨l, ⟨_, _, rfl, h1'⟩, h2, h3, hm⟩

theorem DN.big {w : World} {p : Option Addr} {m c n k : Nat} (h : DN w (.slice p m c) n k) (hm : 1 < m) : B64 ≤ n := by
  obtain ⟨l, ⟨p', c', h1, h1'⟩, h2, h3, _⟩ := h
  simp only [Value.slice.injEq] at h1
  obtain ⟨rfl, rfl, rfl⟩ := h1
  rcases h2.2.low B64_pos with rfl | h4
  · simp at hm
  · rw [h3] at h4
    have : B64 ^ 1 ≤ B64 ^ (l.length - 1) := Nat.pow_le_pow_right B64_pos (by omega)
    rw [Nat.pow_one] at this
    omega

set_option maxRecDepth 100000 in
set_option maxHeartbeats 4000000 in
theorem gcd_of {K : Nat} (hK1 : 1 ≤ K) (hK : K ≤ 1073741824) (RED : RedC K) : GcdC K := by
  intro u v a b w hu hv
  obtain ⟨p, lu, c, hu'⟩ := hu.slice
  obtain ⟨q, lv, cm, hv'⟩ := hv.slice
  subst hu' hv'
  have CM := Lib.hid (compare_all _ _ a b K K w hu hv)
  have HU := Lib.hid hu
  have HV := Lib.hid hv
  have RD := Lib.hid RED
  have CP := Lib.hid copied_all
  have RW := Lib.hid restByWord_all
  have GW := Lib.hid gcdOfWords_any
  have WD := Lib.hid word_all
  clear hu hv RED
  go_enter Tryz.func98, Tryz.ntmps98
  go_wp2_with fail
  refine CM.out.mono ?_
  rintro _ w1 ⟨rfl, hd⟩
  have HD := Lib.hid (hd.below w.heap.size)
  clear hd CM
  obtain ⟨cc, hcc⟩ : ∃ cc, cmpv a b = cc := ⟨_, rfl⟩
  have HCC := Lib.hid hcc
  rw [hcc]
  clear hcc
  go_upto_if 8 with fail
  go_cut [0, 1] from 5 (fun x y W => ∃ A B, Hid (DN W x A K) ∧ Hid (DN W y B K) ∧ Hid (B ≤ A) ∧ Hid (Nat.gcd A B = Nat.gcd a b) ∧ Hid (Below w.heap.size w W))
  case first => as_aux_lemma =>
    by_cases hab : a < b
    · have t1 : cc < 0 := by rw [← HCC.out]; exact cmpv_neg.2 hab
      have HAB := Lib.hid (Nat.le_of_lt hab)
      clear hab
      go_wp2_with fail
      go_meet
      case rel => exact ⟨b, a, Lib.hid (HV.out.below HD.out), Lib.hid (HU.out.below HD.out), HAB, Lib.hid (Nat.gcd_comm b a), HD⟩
    · have t1 : ¬ cc < 0 := by rw [← HCC.out]; exact fun h => hab (cmpv_neg.1 h)
      have HAB := Lib.hid (Nat.le_of_not_lt hab)
      clear hab
      go_wp2_with fail
      go_meet
      case rel => exact ⟨a, b, Lib.hid (HU.out.below HD.out), Lib.hid (HV.out.below HD.out), HAB, Lib.hid rfl, HD⟩
  case rest => as_aux_lemma =>
  obtain ⟨A, B, hA, hB, hBA, hG, hb⟩ := hcut
  clear HU HV HD HCC
  obtain ⟨px, lx, cx, ex⟩ := hA.out.slice
  obtain ⟨py, ly, cy, ey⟩ := hB.out.slice
  subst ex ey
  go_upto_if 13 with fail
  go_cut [0, 1] from 5 (fun x y W => ∃ a' b', Hid (DN W x a' K) ∧ Hid (DN W y b' 1) ∧ Hid (Nat.gcd a' b' = Nat.gcd a b) ∧ Hid (Below w.heap.size w W))
  case first => as_aux_lemma =>
    by_cases hl : ly ≤ 1
    · have HB1 := Lib.hid (hB.out.fit' hl)
      go_wp2_with fail
      go_meet
      case rel => exact ⟨A, B, hA, HB1, hG, hb⟩
    · have R1 := Lib.hid (RD.out _ _ A B wc hA.out hB.out hBA.out (hB.out.big (by omega)))
      go_wp2_with fail
      refine R1.out.mono ?_
      rintro _ w2 ⟨x, y, a', b', rfl, hx, hy, hg, hb'⟩
      have HX := Lib.hid hx
      have HY := Lib.hid hy
      have HG := Lib.hid (hg.trans hG.out)
      have HB := Lib.hid (hb.out.trans (hb'.mono hb.out.size))
      clear hx hy hg hb' R1
      go_wp2_with fail
      go_meet
      case rel => exact ⟨a', b', HX, HY, HG, HB⟩
  case rest => as_aux_lemma =>
    clear hA hB hBA hG hb
    obtain ⟨a', b', hx, hy, hg, hb⟩ := hcut
    obtain ⟨pa, la, ca, ea⟩ := hx.out.slice
    subst ea
    rcases one_word hy.out with ⟨rfl, p', c', rfl⟩ | ⟨h0, hB, g, c', rfl, hc⟩
    · have C1 := Lib.hid (CP.out _ a' K wc hx.out hK)
      have HG := Lib.hid (show a' = Nat.gcd a b by rw [← hg.out]; simp)
      clear hg hx hy
      go_wp2_with fail
      refine C1.out.mono ?_
      rintro _ w2 ⟨v', rfl, hv, _, hb2⟩
      have HV := Lib.hid hv
      have HB := Lib.hid (hb.out.trans (hb2.mono hb.out.size))
      clear hv hb2 C1
      go_wp2_with fail
      go_ret
      exact ⟨_, rfl, (by rw [← HG.out]; exact HV.out), HB.out⟩
    · have hdall : ∀ W, Drew wc W → Calls Tryz.prog 156 #[.slice pa la ca, .int .u64 b'] W fun e w' => e = .returned (.int .u64 (a' % b' : Nat)) ∧ Drew wc w' ∧ w'.cell? ⟨g, 0, none⟩ = some (.int .u64 b') := fun W hW =>
        (RW.out _ a' K b' W (hx.out.below (hW.below _)) hK h0 hB).mono fun e w' ⟨h1, h2⟩ => ⟨h1, hW.trans h2, (h2.cell _).trans ((hW.cell _).trans hc)⟩
      have hrl : a' % b' < b' := Nat.mod_lt _ h0
      have hgl : Nat.gcd b' (a' % b') < 18446744073709551616 := Nat.lt_of_le_of_lt (Nat.gcd_le_left _ h0) hB
      have hg2 : Nat.gcd b' (a' % b') = Nat.gcd a b := by rw [← hg.out, Nat.gcd_comm a' b', Nat.gcd_rec b' a', Nat.gcd_comm]
      have GW2 := fun W => GW.out b' (a' % b') W hB (by omega)
      have WW := fun W => WD.out (Nat.gcd b' (a' % b')) W hgl
      rw [hg2] at GW2 WW
      obtain ⟨r, hr⟩ : ∃ r, a' % b' = r := ⟨_, rfl⟩
      rw [hr] at hdall GW2
      obtain ⟨gg, hgg⟩ : ∃ g, Nat.gcd a b = g := ⟨_, rfl⟩
      rw [hgg] at GW2 WW
      have Hgg := Lib.hid hgg
      have Hall := Lib.hid hdall
      have HGW := Lib.hid GW2
      have HWW := Lib.hid WW
      clear hdall GW2 WW hrl hgl hg2 hr hgg hx hy hg
      go_wp2_with fail
      go_region_with (first | (go_at_call 156; refine (Hall.out _ ((Drew.refl wc).trans ⟨1, rfl⟩)).mono ?_; rintro e w2 ⟨rfl, hd2, hc4⟩; have Hd2 := Lib.hid hd2; clear hd2) | (go_at_call 155; refine (HGW.out _).mono ?_; rintro e w3 ⟨rfl, hd3⟩; have Hd3 := Lib.hid hd3; clear hd3) | (go_at_call 95; refine (HWW.out _).mono ?_; rintro e w4 ⟨x, rfl, hx, _, hb4⟩; have Hx := Lib.hid hx; have Hb4 := Lib.hid hb4; clear hx hb4))
      go_wp2
      all_goals go_ret
      all_goals exact ⟨x, rfl, (by rw [Hgg.out]; exact Hx.out.more hK1), hb.out.trans (((Hd2.out.trans Hd3.out).below _).trans (Hb4.out.mono (Nat.le_trans hb.out.size ((Hd2.out.trans Hd3.out).below 0).size)))⟩

theorem red_one : RedC 1 := by
  intro u v a b w _ hv _ hb
  have := hv.lt
  rw [Nat.pow_one] at this
  omega

theorem gcd_one : GcdC 1 := gcd_of (Nat.le_refl _) (by decide) red_one
end Go.Proofs.YtamhlkjfpdkhoaaGreatDoor

/- WALKS of the program's numbers of any size: divide by one word, exactly. -/
namespace Go.Proofs.YtamhlkjfpdkhoaaGreatDoor
open Go.RowKit

/-- What the program's divide does at numbers of K words. -/
def DivC (K : Nat) : Prop := ∀ (u v : Value) (a b : Nat) (w : World), DN w u a K → DN w v b K → 0 < b →
  Calls Tryz.prog 120 #[u, v] w fun e w' => ∃ q r, e = .returned (.tuple #[q, r]) ∧ DN w' q (a / b) K ∧ DN w' r (a % b) K ∧ Below w.heap.size w w'

set_option maxRecDepth 100000 in
set_option maxHeartbeats 4000000 in
theorem divide_less (u v : Value) (a b K : Nat) (w : World) (hu : DN w u a K) (hv : DN w v b K) (hK : K ≤ 1073741824) (hab : a < b) :
    Calls Tryz.prog 120 #[u, v] w fun e w' => ∃ q r, e = .returned (.tuple #[q, r]) ∧ DN w' q (a / b) K ∧ DN w' r (a % b) K ∧ Below w.heap.size w w' := by
  have CM := Lib.hid (compare_all _ _ a b K K w hu hv)
  have C1 := Lib.hid (fun W (h : Below w.heap.size w W) => copied_all u a K W (hu.below h) hK)
  have t1 : cmpv a b < 0 := cmpv_neg.2 hab
  have E1 := Lib.hid (Nat.div_eq_of_lt hab)
  have E2 := Lib.hid (Nat.mod_eq_of_lt hab)
  obtain ⟨p, lu, c, rfl⟩ := hu.slice
  obtain ⟨q, lv, cm, rfl⟩ := hv.slice
  obtain ⟨cc, hcc⟩ : ∃ cc, cmpv a b = cc := ⟨_, rfl⟩
  rw [hcc] at t1 CM
  clear hu hv hab hcc
  go_enter Tryz.func120, Tryz.ntmps120
  go_wp2_with fail
  refine CM.out.mono ?_
  rintro _ w1 ⟨rfl, hd⟩
  have HD := Lib.hid (hd.below w.heap.size)
  clear hd CM
  go_wp2_with fail
  refine (C1.out _ HD.out).mono ?_
  rintro _ w2 ⟨x, rfl, hx, _, hb⟩
  have HX := Lib.hid hx
  have HB := Lib.hid (HD.out.trans (hb.mono HD.out.size))
  clear hx hb C1
  go_wp2_with fail
  go_ret2
  exact ⟨_, _, rfl, DN.zero E1.out, (by rw [E2.out]; exact HX.out), HB.out⟩

set_option maxRecDepth 100000 in
set_option maxHeartbeats 4000000 in
theorem divide_word (u v : Value) (a b K : Nat) (w : World) (hu : DN w u a K) (hv : DN w v b 1) (hK : K ≤ 1073741824) (hb0 : 0 < b) (hba : b ≤ a) :
    Calls Tryz.prog 120 #[u, v] w fun e w' => ∃ q r, e = .returned (.tuple #[q, r]) ∧ DN w' q (a / b) K ∧ DN w' r (a % b) 1 ∧ Below w.heap.size w w' := by
  have CM := Lib.hid (compare_all _ _ a b K 1 w hu hv)
  have t1 : ¬ cmpv a b < 0 := fun h => by have := cmpv_neg.1 h; omega
  obtain ⟨cc, hcc⟩ : ∃ cc, cmpv a b = cc := ⟨_, rfl⟩
  rw [hcc] at t1 CM
  rcases one_word hv with ⟨h, _⟩ | ⟨h0, hB, g, c', rfl, hc⟩
  · omega
  obtain ⟨l, p, c, rfl, h1, h2, rfl, h4, h5, h6⟩ := hu.norm
  have hl0 : 0 < l.length := by
    rcases Nat.eq_zero_or_pos l.length with h | h
    · rw [List.eq_nil_of_length_eq_zero h] at hba; simp [val] at hba; omega
    · exact h
  have C1 := Lib.hid (fun W (h : Below w.heap.size w W) => copied_row p c l W (h1.below h) h2 h6 (by omega) h5 hl0)
  have DW := Lib.hid (fun g W (hL : Cells W g l) => divideByWord_all g l.length b l W hL rfl h2.1 (by omega) h0 hB)
  have CT := Lib.hid cut_all
  have WD := Lib.hid word_all
  have HLB := Lib.hid (Nat.mod_lt (val B64 l) h0)
  have hbB := hB
  have HH := Lib.hid (And.intro hK (And.intro h4 hB))
  have hll : l.length ≤ 1073741824 := by omega
  clear hu hv hcc h1 h2 hB hba hbB
  go_enter Tryz.func120, Tryz.ntmps120
  go_wp2_with fail
  refine CM.out.mono ?_
  rintro _ w1 ⟨rfl, hd⟩
  have HD := Lib.hid (hd.below w.heap.size)
  have hc1 := (hd.cell ⟨g, 0, none⟩).trans hc
  have hglt : g < w1.heap.size := by
    obtain ⟨_, ho, _⟩ := cells_of_cell hc1
    exact (Array.getElem?_eq_some_iff.1 ho).1
  clear hd CM hc
  go_wp2_with fail
  refine (C1.out _ HD.out).mono ?_
  rintro _ w2 ⟨rfl, hcl, hb⟩
  have hc2 : w2.cell? ⟨g, 0, none⟩ = some (.int .u64 b) := (hb.cell (p := ⟨g, 0, none⟩) hglt).trans hc1
  have D1 := Lib.hid (DW.out _ w2 hcl)
  have HB2 := Lib.hid (HD.out.trans (hb.mono HD.out.size))
  clear hc1 hcl hb C1 DW hglt
  go_wp2_with fail
  refine D1.out.mono ?_
  rintro _ w3 ⟨L', rfl, hl, hlow, hv, hcl, hon⟩
  have HV := Lib.hid hv
  have C2 := CT.out (some ⟨w1.heap.size, 0, none⟩) l.length L' w3 (hcl.wds (Nat.le_of_eq hl) (by unfold maxLen; omega)) hlow
  rw [hl, hv] at C2
  replace C2 := Lib.hid C2
  have HB3 := Lib.hid (HB2.out.trans (hon.below (B := w.heap.size) HD.out.size))
  have W1 := Lib.hid (fun W => WD.out (val B64 l % b) W (by have := HLB.out; have := HH.out; omega))
  clear hv hlow hcl hon D1 hc2 hl
  go_wp2_with fail
  refine C2.out.mono ?_
  rintro _ w4 ⟨⟨q, rfl, hq, _⟩, hd⟩
  have HQ := Lib.hid (hq.below (hd.below _))
  have HB4 := Lib.hid (HB3.out.trans (hd.below _))
  clear hq hd C2
  go_wp2_with fail
  refine (W1.out _).mono ?_
  rintro _ w5 ⟨r, rfl, hr, _, hb⟩
  have HR := Lib.hid hr
  have HQ5 := Lib.hid (HQ.out.below hb)
  have HB5 := Lib.hid (HB4.out.trans (hb.mono HB4.out.size))
  clear hr hb W1
  go_wp2_with fail
  go_ret2
  exact ⟨_, _, rfl, HQ5.out.more (by have := HH.out; omega), HR.out, HB5.out⟩

theorem div_one : DivC 1 := by
  intro u v a b w hu hv hb
  by_cases hab : a < b
  · exact divide_less u v a b 1 w hu hv (by decide) hab
  · exact divide_word u v a b 1 w hu hv (by decide) hb (by omega)

set_option maxRecDepth 100000 in
set_option maxHeartbeats 4000000 in
theorem exactly_all {K : Nat} (hK : K ≤ 1073741824) (DV : DivC K) (u v : Value) (a b : Nat) (w : World) (hu : DN w u a K) (hv : DN w v b K) (hb0 : 0 < b) :
    Calls Tryz.prog 171 #[u, v] w fun e w' => ∃ x, e = .returned x ∧ DN w' x (a / b) K ∧ Below w.heap.size w w' := by
  have IO := Lib.hid (isOne_all v b K w hv)
  by_cases hb1 : b = 1
  · subst hb1
    have e1 : decide ((1 : Nat) = 1) = true := rfl
    rw [e1] at IO
    have C1 := Lib.hid (fun W (h : Below w.heap.size w W) => copied_all u a K W (hu.below h) hK)
    obtain ⟨p, lu, c, rfl⟩ := hu.slice
    obtain ⟨q, lv, cm, rfl⟩ := hv.slice
    clear hu hv e1
    go_enter Tryz.func171, Tryz.ntmps171
    go_wp2_with fail
    refine IO.out.mono ?_
    rintro _ w1 ⟨rfl, hd⟩
    have HD := Lib.hid (hd.below w.heap.size)
    clear hd IO
    go_wp2_with fail
    refine (C1.out _ HD.out).mono ?_
    rintro _ w2 ⟨x, rfl, hx, _, hb⟩
    have HX := Lib.hid hx
    have HB := Lib.hid (HD.out.trans (hb.mono HD.out.size))
    clear hx hb C1
    go_wp2_with fail
    go_ret
    exact ⟨_, rfl, (by rw [Nat.div_one]; exact HX.out), HB.out⟩
  · have e1 : decide (b = 1) = false := by simp [hb1]
    rw [e1] at IO
    have D1 := Lib.hid (fun W (h : Below w.heap.size w W) => DV u v a b W (hu.below h) (hv.below h) hb0)
    obtain ⟨p, lu, c, rfl⟩ := hu.slice
    obtain ⟨q, lv, cm, rfl⟩ := hv.slice
    clear hu hv e1 DV
    go_enter Tryz.func171, Tryz.ntmps171
    go_wp2_with fail
    refine IO.out.mono ?_
    rintro _ w1 ⟨rfl, hd⟩
    have HD := Lib.hid (hd.below w.heap.size)
    clear hd IO
    go_wp2_with fail
    refine (D1.out _ HD.out).mono ?_
    rintro _ w2 ⟨x, y, rfl, hx, _, hb⟩
    have HX := Lib.hid hx
    have HB := Lib.hid (HD.out.trans (hb.mono HD.out.size))
    clear hx hb D1
    go_wp2_with fail
    go_ret
    exact ⟨_, rfl, HX.out, HB.out⟩
end Go.Proofs.YtamhlkjfpdkhoaaGreatDoor
