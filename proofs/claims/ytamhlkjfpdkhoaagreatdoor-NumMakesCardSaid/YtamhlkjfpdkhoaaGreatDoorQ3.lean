import Derived.Test.YtamhlkjfpdkhoaaGreatDoorQ2
import Derived.Test.YtamhlkjfpdkhoaaGreatDoorRows
import Derived.WalkKit
import Derived.WalkSpells
import Derived.WalkLawsBesides
import Derived.Lib.Hide
import Derived.LoopTactic
import Derived.BigQuiet
import Derived.Deep.QuietTactic
/- Plain arithmetic: numbers as rows of limbs to any base, the lowest limb first. No program is spoken of. -/
namespace Go.Proofs.YtamhlkjfpdkhoaaGreatDoor

/-- The number that the limbs mean. -/
def val (b : Nat) : List Nat → Nat
  | [] => 0
  | d :: l => d + b * val b l

theorem val_append (b : Nat) : ∀ l m : List Nat, val b (l ++ m) = val b l + b ^ l.length * val b m
  | [], m => by simp [val]
  | d :: l, m => by
    simp only [List.cons_append, val, val_append b l m, List.length_cons, Nat.pow_succ]
    rw [Nat.mul_add, ← Nat.mul_assoc, Nat.mul_comm b (b ^ l.length), Nat.add_assoc]

theorem val_snoc (b d : Nat) (l : List Nat) : val b (l ++ [d]) = val b l + b ^ l.length * d := by
  rw [val_append]; simp [val]

theorem val_split (b : Nat) (l : List Nat) (i : Nat) (h : i ≤ l.length) : val b l = val b (l.take i) + b ^ i * val b (l.drop i) := by
  have := val_append b (l.take i) (l.drop i)
  rw [List.take_append_drop, List.length_take, Nat.min_eq_left h] at this
  exact this

theorem val_take_succ (b : Nat) {l : List Nat} {i d : Nat} (h : l[i]? = some d) : val b (l.take (i + 1)) = val b (l.take i) + b ^ i * d := by
  have hi := (List.getElem?_eq_some_iff.1 h).1
  rw [List.take_add_one, h]
  show val b (l.take i ++ [d]) = _
  rw [val_snoc, List.length_take, Nat.min_eq_left (Nat.le_of_lt hi)]

theorem val_drop_step (b : Nat) {l : List Nat} {i d : Nat} (h : l[i]? = some d) : val b (l.drop i) = d + b * val b (l.drop (i + 1)) := by
  have hi := (List.getElem?_eq_some_iff.1 h).1
  have e : l[i] = d := (List.getElem?_eq_some_iff.1 h).2
  rw [List.drop_eq_getElem_cons hi, e]; rfl

theorem val_drop_end (b : Nat) {l : List Nat} {i : Nat} (h : l.length ≤ i) : val b (l.drop i) = 0 := by
  rw [List.drop_eq_nil_of_le h]; rfl

/-- All limbs are below the base. -/
def Low (b : Nat) (l : List Nat) : Prop := ∀ d ∈ l, d < b

theorem Low.take {b : Nat} {l : List Nat} (h : Low b l) (i : Nat) : Low b (l.take i) := fun d hd => h d (List.mem_of_mem_take hd)
theorem Low.drop {b : Nat} {l : List Nat} (h : Low b l) (i : Nat) : Low b (l.drop i) := fun d hd => h d (List.mem_of_mem_drop hd)
theorem Low.at_ {b : Nat} {l : List Nat} (h : Low b l) {i d : Nat} (hi : l[i]? = some d) : d < b := h d (List.mem_of_getElem? hi)
theorem Low.snoc {b : Nat} {l : List Nat} (h : Low b l) {d : Nat} (hd : d < b) : Low b (l ++ [d]) := fun x hx => by
  rw [List.mem_append, List.mem_singleton] at hx
  rcases hx with hx | rfl
  · exact h x hx
  · exact hd
theorem Low.nil (b : Nat) : Low b [] := fun _ h => by simp at h
theorem Low.cons {b d : Nat} {l : List Nat} (hd : d < b) (h : Low b l) : Low b (d :: l) := fun x hx => by
  rw [List.mem_cons] at hx
  rcases hx with rfl | hx
  · exact hd
  · exact h x hx
theorem Low.set {b : Nat} {l : List Nat} (h : Low b l) (i : Nat) {d : Nat} (hd : d < b) : Low b (l.set i d) := fun x hx => by
  rcases List.mem_or_eq_of_mem_set hx with hx | rfl
  · exact h x hx
  · exact hd

theorem Low.lt {b : Nat} : ∀ {l : List Nat}, Low b l → val b l < b ^ l.length
  | [], _ => by simp [val]
  | d :: l, h => by
    have hd := h d (by simp)
    have ih := Low.lt (b := b) (l := l) fun x hx => h x (by simp [hx])
    simp only [val, List.length_cons, Nat.pow_succ]
    have : b * (val b l + 1) ≤ b * b ^ l.length := Nat.mul_le_mul_left _ ih
    rw [Nat.mul_comm (b ^ l.length)]
    rw [Nat.mul_add, Nat.mul_one] at this
    omega

theorem Low.take_lt {b : Nat} {l : List Nat} (h : Low b l) {i : Nat} (hi : i ≤ l.length) : val b (l.take i) < b ^ i := by
  have := (h.take i).lt
  rw [List.length_take, Nat.min_eq_left hi] at this
  exact this

/-- Without zeros above. -/
def Top (l : List Nat) : Prop := l = [] ∨ ∃ m d, l = m ++ [d] ∧ d ≠ 0

theorem Top.low {b : Nat} (hb : 0 < b) {l : List Nat} (h : Top l) : l = [] ∨ b ^ (l.length - 1) ≤ val b l := by
  rcases h with h | ⟨m, d, rfl, hd⟩
  · exact .inl h
  · right
    rw [val_snoc, List.length_append]
    simp only [List.length_singleton, Nat.add_sub_cancel]
    have : b ^ m.length * 1 ≤ b ^ m.length * d := Nat.mul_le_mul_left _ (by omega)
    omega

theorem Top.of_val {b : Nat} (hb : 0 < b) {l : List Nat} (h : Low b l) (hv : l = [] ∨ b ^ (l.length - 1) ≤ val b l) : Top l := by
  rcases hv with hv | hv
  · exact .inl hv
  · rcases List.eq_nil_or_concat l with rfl | ⟨m, d, rfl⟩
    · exact .inl rfl
    · right
      refine ⟨m, d, by simp, ?_⟩
      rintro rfl
      have hm : Low b m := fun x hx => h x (by simp [hx])
      have := hm.lt
      simp only [List.concat_eq_append] at hv
      rw [val_snoc, List.length_append] at hv
      simp only [List.length_singleton, Nat.add_sub_cancel, Nat.mul_zero, Nat.add_zero] at hv
      omega

/-- A number's own row. -/
def Norm (b : Nat) (l : List Nat) : Prop := Low b l ∧ Top l

theorem Norm.nil (b : Nat) : Norm b [] := ⟨Low.nil b, .inl rfl⟩

theorem Norm.len_le {b k : Nat} (hb : 1 < b) {l : List Nat} (h : Norm b l) (hk : val b l < b ^ k) : l.length ≤ k := by
  rcases h.2.low (by omega : 0 < b) with rfl | h2
  · simp
  · rcases Nat.lt_or_ge k l.length with h3 | h3
    · have h4 : b ^ k ≤ b ^ (l.length - 1) := Nat.pow_le_pow_right (by omega) (by omega)
      omega
    · exact h3

theorem Norm.zero {b : Nat} (hb : 0 < b) {l : List Nat} (h : Norm b l) (hv : val b l = 0) : l = [] := by
  rcases h.2.low hb with h2 | h2
  · exact h2
  · have := Nat.pow_pos (n := l.length - 1) hb; omega

theorem Norm.lt_of_len {b : Nat} (hb : 0 < b) {l m : List Nat} (h1 : Norm b l) (h2 : Norm b m) (h : l.length < m.length) : val b l < val b m := by
  have a := h1.1.lt
  rcases h2.2.low hb with rfl | c
  · simp at h
  · have : b ^ l.length ≤ b ^ (m.length - 1) := Nat.pow_le_pow_right hb (by omega)
    omega

/-- The highest limb in which two rows differ decides. -/
theorem lt_of_limb {b : Nat} {l m : List Nat} (h1 : Low b l) (hl : l.length = m.length) {i x y : Nat} (hx : l[i]? = some x) (hy : m[i]? = some y) (hd : val b (l.drop (i + 1)) = val b (m.drop (i + 1))) (hxy : x < y) : val b l < val b m := by
  have hi := (List.getElem?_eq_some_iff.1 hx).1
  rw [val_split b l i (by omega), val_split b m i (by omega), val_drop_step b hx, val_drop_step b hy, hd]
  have := h1.take_lt (i := i) (by omega)
  have h3 : b ^ i * (x + 1 + b * val b (m.drop (i + 1))) ≤ b ^ i * (y + b * val b (m.drop (i + 1))) := Nat.mul_le_mul_left _ (by omega)
  rw [Nat.mul_add, Nat.mul_add, Nat.mul_one] at h3
  rw [Nat.mul_add]
  omega

theorem norm_unique {b : Nat} (hb : 0 < b) : ∀ {l m : List Nat}, Norm b l → Norm b m → val b l = val b m → l = m := by
  intro l m h1 h2 h
  have hlen : l.length = m.length := by
    rcases Nat.lt_trichotomy l.length m.length with h3 | h3 | h3
    · have := h1.lt_of_len hb h2 h3; omega
    · exact h3
    · have := h2.lt_of_len hb h1 h3; omega
  have key : ∀ (l m : List Nat), l.length = m.length → Low b l → Low b m → val b l = val b m → l = m := by
    intro l
    induction l with
    | nil => intro m hl _ _ _; exact (List.eq_nil_of_length_eq_zero hl.symm).symm
    | cons d l ih =>
      intro m hl a1 a2 hv
      cases m with
      | nil => simp at hl
      | cons e m =>
        simp only [val] at hv
        have d1 := a1 d (by simp)
        have d2 := a2 e (by simp)
        have m1 := congrArg (· % b) hv
        simp only [Nat.add_mul_mod_self_left, Nat.mod_eq_of_lt d1, Nat.mod_eq_of_lt d2] at m1
        subst m1
        have := ih m (by simpa using hl) (fun x hx => a1 x (by simp [hx])) (fun x hx => a2 x (by simp [hx])) (Nat.eq_of_mul_eq_mul_left hb (by omega))
        rw [this]
  exact key l m hlen h1.1 h2.1 h

theorem val_set {b : Nat} : ∀ {l : List Nat} {i d : Nat} (e : Nat), l[i]? = some d → val b (l.set i e) + b ^ i * d = val b l + b ^ i * e
  | [], i, d, e, h => by simp at h
  | c :: l, 0, d, e, h => by
    simp at h; subst h
    simp [val]; omega
  | c :: l, i + 1, d, e, h => by
    have ih := val_set (b := b) e (show l[i]? = some d by simpa using h)
    simp only [List.set_cons_succ, val, Nat.pow_succ]
    have := congrArg (b * ·) ih
    simp only [Nat.mul_add] at this
    rw [← Nat.mul_assoc, ← Nat.mul_assoc] at this
    rw [Nat.mul_comm (b ^ i) b]
    omega

theorem val_zeros (b : Nat) : ∀ n, val b (List.replicate n 0) = 0
  | 0 => rfl
  | n + 1 => by simp [List.replicate_succ, val, val_zeros b n]

/-- A row whose limbs from k on are 0. -/
theorem val_take_of_zeros {b : Nat} {l : List Nat} {k : Nat} (hk : k ≤ l.length) (h : ∀ d ∈ l.drop k, d = 0) : val b (l.take k) = val b l := by
  have : ∀ m : List Nat, (∀ d ∈ m, d = 0) → val b m = 0 := by
    intro m
    induction m with
    | nil => intro _; rfl
    | cons d m ih => intro hm; rw [val, hm d (by simp), ih fun x hx => hm x (by simp [hx])]; simp
  rw [val_split b l k hk, this _ h]; simp

/-- What is left of a row when the zeros above are cut away. -/
theorem norm_take {b : Nat} {l : List Nat} {k : Nat} (hl : Low b l) (hk : k ≤ l.length) (h0 : ∀ d ∈ l.drop k, d = 0) (ht : k = 0 ∨ ∃ d, l[k - 1]? = some d ∧ d ≠ 0) : Norm b (l.take k) ∧ val b (l.take k) = val b l := by
  refine ⟨⟨hl.take k, ?_⟩, val_take_of_zeros hk h0⟩
  rcases ht with rfl | ⟨d, hd, h⟩
  · exact .inl (by simp)
  · rcases Nat.eq_zero_or_pos k with rfl | hk0
    · exact .inl (by simp)
    · right
      refine ⟨l.take (k - 1), d, ?_, h⟩
      have e : k = k - 1 + 1 := by omega
      rw [e, List.take_add_one]
      simp only [Nat.add_sub_cancel]
      rw [hd]; rfl

/-- The step of a sum, a product with a carry: what is done and what is still to come. -/
theorem step_carry {b i done c x rest c' d total : Nat} (h : done + b ^ i * (c + (x + b * rest)) = total) (e : c + x = d + b * c') : done + b ^ i * d + b ^ (i + 1) * (c' + rest) = total := by
  rw [← h, Nat.pow_succ]
  have : c + (x + b * rest) = d + b * (c' + rest) := by rw [← Nat.add_assoc, e, Nat.mul_add]; omega
  rw [this]
  simp only [Nat.mul_add, Nat.mul_assoc, Nat.add_assoc]
end Go.Proofs.YtamhlkjfpdkhoaaGreatDoor

/- WALKS of the functions of remainders: what each call returns. -/
namespace Go.Proofs.YtamhlkjfpdkhoaaGreatDoor
open Go.RowKit

theorem ret_int {k : IntKind} {a b : Int} (h : a = b) : Ending.returned (.int k a) = .returned (.int k b) := by rw [h]

/-- The second world is the first one after some answers of the tape. -/
def Drew (w w' : World) : Prop := ∃ n, w' = w.drewN n
theorem Drew.refl (w : World) : Drew w w := ⟨0, rfl⟩
theorem Drew.trans {a b c : World} (h : Drew a b) (k : Drew b c) : Drew a c := by
  obtain ⟨n, rfl⟩ := h; obtain ⟨m, rfl⟩ := k; exact ⟨n + m, by rw [World.drewN_drewN]⟩
theorem Drew.drewN {a b : World} (h : Drew a b) (n : Nat) : Drew a (b.drewN n) := h.trans ⟨n, rfl⟩

def isMod (m : Int) : Bool := decide (1 ≤ m ∧ m ≤ 1000000000000)

theorem isMod_yes {m : Int} (h1 : 1 ≤ m) (h2 : m ≤ 1000000000000) : isMod m = true := by simp [isMod]; omega
theorem isMod_no {m : Int} (h : ¬ (1 ≤ m ∧ m ≤ 1000000000000)) : isMod m = false := by simp [isMod]; omega

theorem isModulus_any (m : Int) (w : World) :
    Calls Tryz.prog 133 #[.int .i64 m] w fun e w' => e = .returned (.bool (isMod m)) ∧ w = w' := by
  by_cases h1 : 1 ≤ m
  · by_cases h2 : m ≤ 1000000000000
    · rw [isMod_yes h1 h2]
      go_enter Tryz.func133, Tryz.ntmps133
      go_wp2
      go_ret
      exact ⟨rfl, rfl⟩
    · rw [isMod_no (by omega)]
      go_enter Tryz.func133, Tryz.ntmps133
      go_wp2
      go_ret
      exact ⟨rfl, rfl⟩
  · rw [isMod_no (by omega)]
    go_enter Tryz.func133, Tryz.ntmps133
    go_wp2
    go_ret
    exact ⟨rfl, rfl⟩

theorem modulo_any (a m : Int) (w : World) (h1 : 1 ≤ m) (h2 : m ≤ 1000000000000) :
    Calls Tryz.prog 134 #[.int .i64 a, .int .i64 m] w fun e w' => e = .returned (.int .i64 (a % m)) ∧ w = w' := by
  go_enter Tryz.func134, Tryz.ntmps134
  have := emod_of_tmod (a := a) (m := m) (by omega)
  go_wp2
  · have h : a.tmod m < 0 := by assumption
    go_ret
    exact ⟨ret_int (this.1 h).symm, rfl⟩
  · have h : 0 ≤ a.tmod m := by assumption
    go_ret
    exact ⟨ret_int (this.2.1 h).symm, rfl⟩

theorem Rest_any (a m : Int) (w : World) (h1 : 1 ≤ m) (h2 : m ≤ 1000000000000) :
    Calls Tryz.prog 137 #[.int .i64 a, .int .i64 m] w fun e w' => e = .returned (.int .i64 (a % m)) ∧ w = w' := by
  go_enter Tryz.func137, Tryz.ntmps137
  have := emod_of_tmod (a := a) (m := m) (by omega)
  go_wp2
  go_ret
  refine ⟨ret_int ?_, rfl⟩
  rw [Int.add_emod_right]
  have e := Int.mul_tdiv_add_tmod a m
  conv => rhs; rw [← e]
  rw [Int.mul_add_emod_self_left]

/-- Common divisors. -/
theorem GcdInt_any (a b : Nat) (w : World) (ha : a ≤ 1000000000000) (hb : b ≤ 1000000000000) :
    Calls Tryz.prog 139 #[.int .i64 a, .int .i64 b] w fun e w' => e = .returned (.int .i64 (Nat.gcd a b : Nat)) ∧ Drew w w' := by
  go_enter Tryz.func139, Tryz.ntmps139
  go_wp2
  go_loopw [0, 1] (fun x y wr => ∃ a' b' : Nat, x = .int .i64 a' ∧ y = .int .i64 b' ∧ a' ≤ 1000000000000 ∧ b' ≤ 1000000000000 ∧ Nat.gcd a' b' = Nat.gcd a b ∧ Drew w wr) (fun _ y _ => (intOf y).toNat)
  case atStart => exact ⟨a, b, rfl, rfl, ha, hb, rfl, Drew.refl _⟩
  case round =>
    obtain ⟨a', b', rfl, rfl, ha', hb', hg, hd⟩ := hrel
    have Hg := Lib.hid hg
    have Hd := Lib.hid hd
    clear hg hd
    by_cases h0 : b' = 0
    · subst h0
      go_wp2
      go_ret
      have := Hg.out
      exact ⟨ret_int (by rw [← this]; simp), Hd.out⟩
    · have hp : 0 < b' := by omega
      have hm : a' % b' < b' := Nat.mod_lt _ hp
      go_wp2
      go_quiet (fail)
      go_wp2
      refine ⟨⟨b', a' % b', rfl, by simp, hb', by omega, ?_, Hd.out.drewN _⟩, ?_⟩
      · rw [← Hg.out, Nat.gcd_comm a' b', Nat.gcd_rec b' a', Nat.gcd_comm]
      · simp only [intOf]; omega

/-- Products of rests, bit by bit. -/
theorem product_any (a b m : Nat) (w : World) (hm : 1 ≤ m) (hm2 : m ≤ 1000000000000) (ha : a < m) (hb : b ≤ 1000000000000) :
    Calls Tryz.prog 138 #[.int .i64 a, .int .i64 b, .int .i64 m] w fun e w' => e = .returned (.int .i64 (a * b % m : Nat)) ∧ w = w' := by
  go_enter Tryz.func138, Tryz.ntmps138
  go_wp2
  go_loop [0, 1, 7] (fun x y z => ∃ a' b' o : Nat, x = .int .i64 a' ∧ y = .int .i64 b' ∧ z = .int .i64 o ∧ a' < m ∧ b' ≤ 1000000000000 ∧ o < m ∧ (o + a' * b') % m = a * b % m) (fun _ y _ => (intOf y).toNat)
  case atStart => exact ⟨a, b, 0, rfl, rfl, rfl, ha, hb, by omega, by simp⟩
  case round =>
    obtain ⟨a', b', o, rfl, rfl, rfl, ha', hb', ho, hg⟩ := hrel
    have Hg := Lib.hid hg
    clear hg
    have l1 : (o + a') % m < m := Nat.mod_lt _ (by omega)
    have l2 : (a' + a') % m < m := Nat.mod_lt _ (by omega)
    by_cases h0 : b' = 0
    · subst h0
      go_wp2
      go_ret
      have h : o = a * b % m := by rw [← Hg.out, Nat.mul_zero, Nat.add_zero, Nat.mod_eq_of_lt ho]
      exact ⟨ret_int (by exact_mod_cast h), rfl⟩
    · have hp : 0 < b' := by omega
      by_cases hodd : b' % 2 = 1
      · go_wp2
        refine ⟨⟨(a' + a') % m, b' / 2, (o + a') % m, by simp, by simp, by simp, l2, by omega, l1, ?_⟩, ?_⟩
        · rw [← Hg.out, prod_odd hodd]
        · simp only [intOf]; omega
      · go_wp2
        refine ⟨⟨(a' + a') % m, b' / 2, o, by simp, by simp, by simp, l2, by omega, ho, ?_⟩, ?_⟩
        · rw [← Hg.out, prod_even (by omega)]
        · simp only [intOf]; omega

/-- Powers, by the reference. -/
theorem PowerMod_any (a : Int) (r n m : Nat) (w : World) (hr : a % m = (r : Int)) (hm : 1 ≤ m) (hm2 : m ≤ 1000000000000) (hn : n ≤ 9223372036854775807) :
    Calls Tryz.prog 72 #[.int .i64 a, .int .i64 n, .int .i64 m] w fun e w' => e = .returned (.int .i64 (r ^ n % m : Nat)) ∧ w = w' := by
  have hr0 : 0 ≤ a % m := Int.emod_nonneg _ (by omega)
  have hr1 : a % m < m := Int.emod_lt_of_pos _ (by omega)
  go_enter Tryz.func72, Tryz.ntmps72
  go_wp2_with (go_at_call 137; refine (Rest_any _ _ _ (by omega) (by omega)).mono ?_; rintro e w' ⟨rfl, rfl⟩)
  rw [hr] at hr0 hr1
  clear hr
  have hr2 : r < m := by omega
  have e1 : (1 : Int) % (m : Int) = ((1 % m : Nat) : Int) := by simp
  have l0 : 1 % m < m := Nat.mod_lt _ (by omega)
  go_loop [0, 1, 7] (fun x y z => ∃ a' n' o : Nat, x = .int .i64 a' ∧ y = .int .i64 n' ∧ z = .int .i64 o ∧ a' < m ∧ n' ≤ 9223372036854775807 ∧ o < m ∧ (o * a' ^ n') % m = r ^ n % m) (fun _ y _ => (intOf y).toNat)
  case atStart => exact ⟨r, n, 1 % m, rfl, rfl, by simp, hr2, hn, l0, by rw [Nat.mul_mod, Nat.mod_mod, ← Nat.mul_mod, Nat.one_mul]⟩
  case round =>
    clear e1 l0 hr0 hr1
    obtain ⟨a', n', o, rfl, rfl, rfl, ha', hn', ho, hg⟩ := hrel
    have Hg := Lib.hid hg
    clear hg
    by_cases h0 : n' = 0
    · subst h0
      go_wp2
      go_ret
      have h : o = r ^ n % m := by rw [← Hg.out, Nat.pow_zero, Nat.mul_one, Nat.mod_eq_of_lt ho]
      exact ⟨ret_int (by exact_mod_cast h), rfl⟩
    · have hp : 0 < n' := by omega
      by_cases hodd : n' % 2 = 1
      · have l1 : o * a' % m < m := Nat.mod_lt _ (by omega)
        have l2 : a' * a' % m < m := Nat.mod_lt _ (by omega)
        go_wp2_with (go_at_call 138; refine (product_any _ _ _ _ (by omega) (by omega) (by omega) (by omega)).mono ?_; rintro e w' ⟨rfl, rfl⟩)
        refine ⟨⟨a' * a' % m, n' / 2, o * a' % m, by simp, by simp, by simp, l2, by omega, l1, ?_⟩, ?_⟩
        · rw [← Hg.out, pow_odd hodd]
        · simp only [intOf]; omega
      · have l2 : a' * a' % m < m := Nat.mod_lt _ (by omega)
        go_wp2_with (go_at_call 138; refine (product_any _ _ _ _ (by omega) (by omega) (by omega) (by omega)).mono ?_; rintro e w' ⟨rfl, rfl⟩)
        refine ⟨⟨a' * a' % m, n' / 2, o, by simp, by simp, by simp, l2, by omega, ho, ?_⟩, ?_⟩
        · rw [← Hg.out, pow_even (by omega)]
        · simp only [intOf]; omega

/-- Common divisors, and a factor. -/
theorem euclid_any (a m : Nat) (w : World) (hm : 1 ≤ m) (hm2 : m ≤ 1000000000000) (ha : a < m) :
    Calls Tryz.prog 136 #[.int .i64 a, .int .i64 m] w fun e w' => ∃ x : Nat, e = .returned (.tuple #[.int .i64 (Nat.gcd a m : Nat), .int .i64 x]) ∧ x < m ∧ a * x % m = Nat.gcd a m % m ∧ Drew w w' := by
  have hstart := Eu.start a m
  have HS := Lib.hid hstart
  clear hstart
  go_enter Tryz.func136, Tryz.ntmps136
  go_wp2
  go_loopw [6, 7, 8, 9, 10] (fun c n x y _ wr => ∃ (c' n' : Nat) (x' y' : Int), c = .int .i64 c' ∧ n = .int .i64 n' ∧ x = .int .i64 x' ∧ y = .int .i64 y' ∧ c' ≤ 1000000000000 ∧ n' ≤ 1000000000000 ∧ Eu a m c' n' x' y' ∧ Drew w wr) (fun _ n _ _ _ _ => (intOf n).toNat)
  case atStart => exact ⟨a, m, 1, 0, rfl, rfl, rfl, rfl, by omega, hm2, HS.out, Drew.refl _⟩
  case round =>
    obtain ⟨c', n', x', y', rfl, rfl, rfl, rfl, hc', hn', he, hd⟩ := hrel
    have He := Lib.hid he
    have Hd := Lib.hid hd
    clear he hd HS
    by_cases h0 : n' = 0
    · subst h0
      obtain ⟨hf, z, hz, hz2, hz3⟩ := Eu.finish (by omega) He.out
      have Hf := Lib.hid hf
      have Hz3 := Lib.hid hz3
      clear hf hz3
      go_wp2_with (go_at_call 134; refine (modulo_any _ _ _ (by omega) (by omega)).mono ?_; rintro e w' ⟨rfl, rfl⟩)
      go_ret2
      exact ⟨z, by rw [← Hf.out]; simp, hz2, Hz3.out, Hd.out⟩
    · have hp : 0 < n' := by omega
      have hm : c' % n' < n' := Nat.mod_lt _ hp
      have hbd := Eu.bound He.out hp
      obtain ⟨b1, b2, b3, b4, b5, b6⟩ := hbd
      have ed : ((c' / n' : Nat) : Int) = (c' : Int) / (n' : Int) := by simp
      rw [ed] at b3 b4 b5 b6
      have ec : (c' : Int) - (c' : Int) / (n' : Int) * (n' : Int) = ((c' % n' : Nat) : Int) := by
        have := Nat.div_add_mod c' n'
        have h : (n' : Int) * ((c' / n' : Nat) : Int) + ((c' % n' : Nat) : Int) = c' := by exact_mod_cast this
        rw [ed] at h
        rw [Int.mul_comm]; omega
      have Ec := Lib.hid ec
      have f1 : 0 ≤ (c' : Int) / (n' : Int) * (n' : Int) ∧ (c' : Int) / (n' : Int) * (n' : Int) ≤ c' := by
        have := Int.emod_nonneg (c' : Int) (b := (n' : Int)) (by omega)
        have h2 : ((c' % n' : Nat) : Int) ≥ 0 := Int.natCast_nonneg _
        have h3 : 0 ≤ (c' : Int) / (n' : Int) * (n' : Int) := Int.mul_nonneg (Int.ediv_nonneg (by omega) (by omega)) (by omega)
        omega
      obtain ⟨f1, f2⟩ := f1
      have f3 : 0 ≤ (c' : Int) / (n' : Int) := Int.ediv_nonneg (by omega) (by omega)
      have f4 : (c' : Int) / (n' : Int) ≤ c' := by
        rw [← ed]; have := Nat.div_le_self c' n'; omega
      clear ec ed
      go_wp2
      refine ⟨⟨n', c' % n', y', x' - (c' / n' : Nat) * y', rfl, ?_, rfl, ?_, hn', by omega, Eu.step He.out hp, Hd.out⟩, ?_⟩
      · rw [Ec.out]
      · simp
      · rw [Ec.out]; simp only [intOf]; omega

/-- The reference's inverse asks for the list of factors; the program's inverse. -/
theorem Inverse_arg (a m : Int) (w : World) (h : ¬ (1 ≤ m ∧ m ≤ 1000000000000)) :
    Calls Tryz.prog 70 #[.int .i64 a, .int .i64 m] w fun e w' => e = .returned (.tuple #[.int .i64 0, .int .i64 1]) ∧ Drew w w' := by
  have H := isMod_no h
  go_enter Tryz.func70, Tryz.ntmps70
  go_wp2_with (go_at_call 133; refine (isModulus_any _ _).mono ?_; rintro e w' ⟨rfl, rfl⟩)
  go_ret2
  exact ⟨rfl, Drew.refl _⟩

theorem Inverse_any (a : Int) (r m : Nat) (w : World) (hm : 1 ≤ m) (hm2 : m ≤ 1000000000000) (hr : a % m = (r : Int)) :
    Calls Tryz.prog 70 #[.int .i64 a, .int .i64 m] w fun e w' => ((1 < Nat.gcd r m ∧ e = .returned (.tuple #[.int .i64 0, .int .i64 4])) ∨ (Nat.gcd r m = 1 ∧ ∃ x : Nat, e = .returned (.tuple #[.int .i64 x, .int .i64 0]) ∧ x < m ∧ r * x % m = 1 % m)) ∧ Drew w w' := by
  have H : isMod (m : Int) = true := isMod_yes (by omega) (by omega)
  have hr1 : a % m < m := Int.emod_lt_of_pos _ (by omega)
  have hr2 : r < m := by omega
  clear hr1
  go_enter Tryz.func70, Tryz.ntmps70
  go_wp2_with (first | (go_at_call 133; refine (isModulus_any _ _).mono ?_; rintro e w' ⟨rfl, rfl⟩) | (go_at_call 134; refine (modulo_any _ _ _ (by omega) (by omega)).mono ?_; rintro e w' ⟨rfl, rfl⟩))
  refine (euclid_any _ _ _ (by omega) (by omega) (by omega)).mono ?_
  rintro e w1 ⟨x, rfl, hx, hx2, hd⟩
  have Hd := Lib.hid hd
  have Hx2 := Lib.hid hx2
  clear hd hx2
  by_cases hg : 1 < Nat.gcd r m
  · have hg' : (1 : Int) < ((Nat.gcd r m : Nat) : Int) := by omega
    go_wp2_with fail
    go_ret2
    exact ⟨.inl ⟨hg, rfl⟩, Hd.out⟩
  · have hg' : ¬ (1 : Int) < ((Nat.gcd r m : Nat) : Int) := by omega
    have h1 : Nat.gcd r m = 1 := by have := Nat.gcd_pos_of_pos_right r (n := m) (by omega); omega
    have H1 := Lib.hid h1
    clear h1
    go_wp2_with fail
    go_ret2
    exact ⟨.inr ⟨H1.out, x, rfl, hx, by rw [Hx2.out, H1.out]⟩, Hd.out⟩

end Go.Proofs.YtamhlkjfpdkhoaaGreatDoor
