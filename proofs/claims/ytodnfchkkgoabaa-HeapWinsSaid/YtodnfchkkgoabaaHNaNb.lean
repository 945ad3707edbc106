/- Fields of characteristic 2 by pairs (plain mathematics). -/
namespace Go.Proofs.Ytodnfchkkgoabaa.Nim
/-- A commutative ring of characteristic 2, as plain data. -/
structure R2 (α : Type) where
  add : α → α → α
  mul : α → α → α
  zero : α
  one : α
  d : α

/-- Pairs. -/
def R2.ext {α : Type} (r : R2 α) : R2 (α × α) where
  add x y := (r.add x.1 y.1, r.add x.2 y.2)
  mul x y := (r.add (r.mul x.1 y.1) (r.add (r.mul x.1 y.2) (r.mul x.2 y.1)), r.add (r.mul x.2 y.2) (r.mul (r.mul x.1 y.1) r.d))
  zero := (r.zero, r.zero)
  one := (r.zero, r.one)
  d := (r.d, r.zero)

structure R2.Ok {α : Type} (r : R2 α) : Prop where
  ac : ∀ a b, r.add a b = r.add b a
  aa : ∀ a b c, r.add (r.add a b) c = r.add a (r.add b c)
  az : ∀ a, r.add a r.zero = a
  a2 : ∀ a, r.add a a = r.zero
  mc : ∀ a b, r.mul a b = r.mul b a
  ma : ∀ a b c, r.mul (r.mul a b) c = r.mul a (r.mul b c)
  m1 : ∀ a, r.mul a r.one = a
  ds : ∀ a b c, r.mul a (r.add b c) = r.add (r.mul a b) (r.mul a c)

theorem R2.Ok.ext {α : Type} {r : R2 α} (h : r.Ok) : r.ext.Ok := by
  have mz : ∀ a, r.mul a r.zero = r.zero := fun a => by
    have := h.ds a r.zero r.zero
    rw [h.a2] at this; rw [h.a2] at this; exact this
  have alc : ∀ a b c, r.add a (r.add b c) = r.add b (r.add a c) := fun a b c => by rw [← h.aa, h.ac a b, h.aa]
  have mlc : ∀ a b c, r.mul a (r.mul b c) = r.mul b (r.mul a c) := fun a b c => by rw [← h.ma, h.mc a b, h.ma]
  have ds' : ∀ a b c, r.mul (r.add b c) a = r.add (r.mul b a) (r.mul c a) := fun a b c => by rw [h.mc, h.ds, h.mc a b, h.mc a c]
  have za : ∀ a, r.add r.zero a = a := fun a => by rw [h.ac, h.az]
  have zm : ∀ a, r.mul r.zero a = r.zero := fun a => by rw [h.mc, mz]
  constructor
  · intro a b; simp only [R2.ext, Prod.mk.injEq]; exact ⟨h.ac _ _, h.ac _ _⟩
  · intro a b c; simp only [R2.ext, Prod.mk.injEq]; exact ⟨h.aa _ _ _, h.aa _ _ _⟩
  · intro a; simp only [R2.ext, h.az]
  · intro a; simp only [R2.ext, h.a2]
  · intro a b; simp only [R2.ext, Prod.mk.injEq]
    refine ⟨?_, ?_⟩
    · simp only [h.mc, h.ac]
    · simp only [h.mc]
  · intro a b c; simp only [R2.ext, Prod.mk.injEq]
    refine ⟨?_, ?_⟩
    · simp only [h.ds, ds', h.ma, h.mc, mlc, h.aa, h.ac, alc]
    · simp only [h.ds, ds', h.ma, h.mc, mlc, h.aa, h.ac, alc]
  · intro a; simp only [R2.ext, h.m1, mz, zm, za, h.az]
  · intro a b c; simp only [R2.ext, Prod.mk.injEq]
    refine ⟨?_, ?_⟩
    · simp only [h.ds, h.aa, alc]
    · simp only [h.ds, ds', h.ma, h.aa, h.ac, alc]

/-- Squares, again and again. -/
def R2.sqn {α : Type} (r : R2 α) : Nat → α → α
  | 0, a => a
  | n + 1, a => r.mul (r.sqn n a) (r.sqn n a)
/-- The sum of such squares. -/
def R2.tr {α : Type} (r : R2 α) : Nat → α → α
  | 0, _ => r.zero
  | n + 1, a => r.add (r.mul (r.tr n a) (r.tr n a)) a

/-- A field of 2^n elements. -/
structure R2.Fld {α : Type} (r : R2 α) (n : Nat) : Prop where
  ok : r.Ok
  fr : ∀ a, r.sqn n a = a
  td : r.tr n r.d = r.one
  iv : ∀ a, a ≠ r.zero → ∃ b, r.mul a b = r.one
  ne : r.one ≠ r.zero

theorem R2.sqn_sqn {α : Type} {r : R2 α} (m n : Nat) (a : α) : r.sqn m (r.sqn n a) = r.sqn (n + m) a := by
  induction m with
  | zero => rfl
  | succ m ih => rw [← Nat.add_assoc]; simp only [R2.sqn, ih]

section
variable {α : Type} {r : R2 α} (h : r.Ok)
include h
theorem R2.Ok.mz (a : α) : r.mul a r.zero = r.zero := by
  have := h.ds a r.zero r.zero
  rw [h.a2] at this; rw [h.a2] at this; exact this
theorem R2.Ok.zm (a : α) : r.mul r.zero a = r.zero := by rw [h.mc, h.mz]
theorem R2.Ok.za (a : α) : r.add r.zero a = a := by rw [h.ac, h.az]
theorem R2.Ok.m1' (a : α) : r.mul r.one a = a := by rw [h.mc, h.m1]
theorem R2.Ok.alc (a b c : α) : r.add a (r.add b c) = r.add b (r.add a c) := by rw [← h.aa, h.ac a b, h.aa]
theorem R2.Ok.mlc (a b c : α) : r.mul a (r.mul b c) = r.mul b (r.mul a c) := by rw [← h.ma, h.mc a b, h.ma]
theorem R2.Ok.ds' (a b c : α) : r.mul (r.add b c) a = r.add (r.mul b a) (r.mul c a) := by rw [h.mc, h.ds, h.mc a b, h.mc a c]
theorem R2.Ok.a2' (a b : α) : r.add a (r.add a b) = b := by rw [← h.aa, h.a2, h.za]
theorem R2.Ok.sq_add (a b : α) : r.mul (r.add a b) (r.add a b) = r.add (r.mul a a) (r.mul b b) := by
  rw [h.ds, h.ds', h.ds', h.mc b a, h.aa, h.a2']
theorem R2.Ok.sq_mul (a b : α) : r.mul (r.mul a b) (r.mul a b) = r.mul (r.mul a a) (r.mul b b) := by
  simp only [h.ma, h.mlc]
theorem R2.Ok.sqn_add (n : Nat) (a b : α) : r.sqn n (r.add a b) = r.add (r.sqn n a) (r.sqn n b) := by
  induction n with
  | zero => rfl
  | succ n ih => simp only [R2.sqn, ih, h.sq_add]
theorem R2.Ok.sqn_mul (n : Nat) (a b : α) : r.sqn n (r.mul a b) = r.mul (r.sqn n a) (r.sqn n b) := by
  induction n with
  | zero => rfl
  | succ n ih => simp only [R2.sqn, ih, h.sq_mul]
theorem R2.Ok.tr_add (n : Nat) (a b : α) : r.tr n (r.add a b) = r.add (r.tr n a) (r.tr n b) := by
  induction n with
  | zero => simp only [R2.tr, h.az]
  | succ n ih => simp only [R2.tr, ih, h.sq_add, h.aa, h.alc]
theorem R2.Ok.sqn_zero (n : Nat) : r.sqn n r.zero = r.zero := by
  induction n with
  | zero => rfl
  | succ n ih => simp only [R2.sqn, ih, h.mz]
theorem R2.Ok.sqn_tr (m n : Nat) (a : α) : r.sqn m (r.tr n a) = r.tr n (r.sqn m a) := by
  induction n with
  | zero => simp only [R2.tr, h.sqn_zero]
  | succ n ih => simp only [R2.tr, h.sqn_add, h.sqn_mul, ih]
theorem R2.Ok.tr_tr (m n : Nat) (a : α) : r.tr (n + m) a = r.add (r.sqn m (r.tr n a)) (r.tr m a) := by
  induction m with
  | zero => simp only [R2.tr, R2.sqn, h.az, Nat.add_zero]
  | succ m ih => rw [← Nat.add_assoc]; simp only [R2.tr, R2.sqn, ih, h.sq_add, h.aa]
theorem R2.Ok.tr_sq (n : Nat) (t : α) : r.tr n (r.add (r.mul t t) t) = r.add (r.sqn n t) t := by
  induction n with
  | zero => simp only [R2.tr, R2.sqn, h.a2]
  | succ n ih => simp only [R2.tr, R2.sqn, ih, h.sq_add, h.aa, h.a2']
theorem R2.Ok.ext_sqn (j : Nat) (x : α × α) : r.ext.sqn j x = (r.sqn j x.1, r.add (r.sqn j x.2) (r.mul (r.sqn j x.1) (r.tr j r.d))) := by
  induction j with
  | zero => simp only [R2.sqn, R2.tr, h.mz, h.az]
  | succ j ih =>
    simp only [R2.sqn, ih, R2.tr]
    simp only [R2.ext, Prod.mk.injEq]
    refine ⟨?_, ?_⟩
    · rw [h.mc (r.add (r.sqn j x.2) _) (r.sqn j x.1), h.a2, h.az]
    · rw [h.sq_add, h.aa, h.sq_mul, h.ds]
theorem R2.Ok.ext_tr (j : Nat) (b : α) : r.ext.tr j (r.zero, b) = (r.zero, r.tr j b) := by
  induction j with
  | zero => rfl
  | succ j ih => simp only [R2.tr, ih]; simp only [R2.ext, h.mz, h.zm, h.az]
end

theorem R2.Fld.ext {α : Type} {r : R2 α} {n : Nat} (h : r.Fld n) : r.ext.Fld (n + n) := by
  have k := h.ok
  have e := k.ext
  have conj : ∀ x, r.ext.sqn n x = (x.1, r.add x.2 x.1) := fun x => by rw [k.ext_sqn, h.td, k.m1, h.fr, h.fr]
  refine ⟨e, ?_, ?_, ?_, ?_⟩
  · intro a
    rw [← R2.sqn_sqn, conj, conj]
    simp only [k.aa, k.a2, k.az]
  · rw [e.tr_tr, e.sqn_tr, ← e.tr_add, conj]
    have : r.ext.add (r.ext.d.1, r.add r.ext.d.2 r.ext.d.1) r.ext.d = (r.zero, r.d) := by
      simp only [R2.ext, k.a2, k.za, k.az]
    rw [this, k.ext_tr, h.td]; rfl
  · rintro ⟨A, a⟩ hx
    by_cases hA : A = r.zero
    · subst hA
      have ha : a ≠ r.zero := fun hz => hx (by rw [hz]; rfl)
      obtain ⟨b, hb⟩ := h.iv a ha
      exact ⟨(r.zero, b), by simp only [R2.ext, k.mz, k.zm, k.az, hb]⟩
    · obtain ⟨B, hB⟩ := h.iv A hA
      have hN : r.add (r.mul a (r.add a A)) (r.mul (r.mul A A) r.d) ≠ r.zero := by
        intro hz
        have h2 : r.mul (r.mul B B) (r.add (r.mul a (r.add a A)) (r.mul (r.mul A A) r.d)) = r.zero := by rw [hz, k.mz]
        have h3 : r.mul (r.mul B B) (r.mul (r.mul A A) r.d) = r.d := by
          rw [← k.ma, ← k.sq_mul, k.mc B A, hB, k.m1, k.m1']
        have h4 : r.mul (r.mul B B) (r.mul a (r.add a A)) = r.add (r.mul (r.mul a B) (r.mul a B)) (r.mul a B) := by
          rw [k.ds, k.ds, k.sq_mul]
          have : r.mul (r.mul B B) (r.mul a A) = r.mul a B := by
            rw [k.ma, k.mlc B a A, k.mc B A, hB, k.m1, k.mc]
          rw [this, k.mc (r.mul B B)]
        rw [k.ds, h3, h4] at h2
        have h5 : r.d = r.add (r.mul (r.mul a B) (r.mul a B)) (r.mul a B) := by
          have := congrArg (r.add (r.add (r.mul (r.mul a B) (r.mul a B)) (r.mul a B))) h2
          rw [k.a2', k.az] at this; exact this
        have h6 := k.tr_sq n (r.mul a B)
        rw [← h5, h.td, h.fr, k.a2] at h6
        exact h.ne h6
      obtain ⟨M, hM⟩ := h.iv _ hN
      refine ⟨(r.mul A M, r.mul (r.add a A) M), ?_⟩
      simp only [R2.ext, Prod.mk.injEq]
      refine ⟨?_, ?_⟩
      · rw [← k.ma, ← k.ma, ← k.ma, ← k.ds', ← k.ds', k.ds, k.mc a A]
        rw [show r.add (r.add (r.mul A a) (r.mul A A)) (r.mul A a) = r.mul A A by rw [k.ac, k.a2'], k.a2, k.zm]
      · rw [← hM, ← k.ma, ← k.ma, k.ds' M, k.ma (r.mul A A) M, k.mc M r.d, ← k.ma]
  · intro hz
    exact h.ne (congrArg Prod.snd hz)

/-- The field of two elements. -/
def two : R2 Bool := ⟨xor, and, false, true, true⟩
theorem two_fld : two.Fld 1 := by
  refine ⟨⟨?_, ?_, ?_, ?_, ?_, ?_, ?_, ?_⟩, ?_, ?_, ?_, ?_⟩ <;> decide
end Go.Proofs.Ytodnfchkkgoabaa.Nim

/- The products of numbers below 2^16 are a field (plain mathematics). -/
namespace Go.Proofs.Ytodnfchkkgoabaa.Nim
def R2.pw {α : Type} (r : R2 α) (a : α) : Nat → α
  | 0 => r.one
  | n + 1 => r.mul (r.pw a n) a
theorem R2.Ok.pw_add {α : Type} {r : R2 α} (h : r.Ok) (a : α) (m n : Nat) : r.pw a (m + n) = r.mul (r.pw a m) (r.pw a n) := by
  induction n with
  | zero => simp only [R2.pw, h.m1, Nat.add_zero]
  | succ n ih => rw [← Nat.add_assoc]; simp only [R2.pw, ih, h.ma]
theorem R2.Ok.pw_sqn {α : Type} {r : R2 α} (h : r.Ok) (a : α) (n : Nat) : r.pw a (2 ^ n) = r.sqn n a := by
  induction n with
  | zero => show r.mul r.one a = a; rw [h.mc, h.m1]
  | succ n ih => rw [Nat.pow_succ, Nat.mul_two, h.pw_add, ih]; rfl
theorem R2.Ok.pw_one {α : Type} {r : R2 α} (h : r.Ok) (n : Nat) : r.pw r.one n = r.one := by
  induction n with
  | zero => rfl
  | succ n ih => simp only [R2.pw, ih, h.m1]
theorem R2.Fld.pw_all {α : Type} {r : R2 α} {n : Nat} (h : r.Fld n) (a : α) : r.pw a (2 ^ n) = a := by
  rw [h.ok.pw_sqn, h.fr]
theorem R2.Fld.pw_less {α : Type} {r : R2 α} {n : Nat} (h : r.Fld n) (a : α) (ha : a ≠ r.zero) : r.pw a (2 ^ n - 1) = r.one := by
  obtain ⟨b, hb⟩ := h.iv a ha
  have h1 := h.pw_all a
  have h2 : 2 ^ n = (2 ^ n - 1) + 1 := by have := Nat.two_pow_pos n; omega
  rw [h2, h.ok.pw_add] at h1
  have h3 : r.pw a 1 = a := by show r.mul r.one a = a; rw [h.ok.mc, h.ok.m1]
  rw [h3] at h1
  have h4 := congrArg (fun x => r.mul x b) h1
  simp only [h.ok.ma, hb, h.ok.m1] at h4
  exact h4

/-- The product of numbers below 2^(2^k). -/
def nm : Nat → Nat → Nat → Nat
  | 0, a, b => a * b
  | k + 1, a, b =>
    (((nm k (a / 2 ^ 2 ^ k ^^^ a % 2 ^ 2 ^ k) (b / 2 ^ 2 ^ k ^^^ b % 2 ^ 2 ^ k) ^^^ nm k (a % 2 ^ 2 ^ k) (b % 2 ^ 2 ^ k)) * 2 ^ 2 ^ k) ^^^ nm k (a % 2 ^ 2 ^ k) (b % 2 ^ 2 ^ k))
      ^^^ nm k (nm k (a / 2 ^ 2 ^ k) (b / 2 ^ 2 ^ k)) (2 ^ (2 ^ k - 1))

theorem xor_pair (n A a B b : Nat) (ha : a < 2 ^ n) (hb : b < 2 ^ n) : (A * 2 ^ n + a) ^^^ (B * 2 ^ n + b) = (A ^^^ B) * 2 ^ n + (a ^^^ b) := by
  have hp := Nat.two_pow_pos n
  have d : ∀ X x, x < 2 ^ n → (X * 2 ^ n + x) / 2 ^ n = X := fun X x hx => by
    rw [Nat.mul_comm, Nat.mul_add_div hp, Nat.div_eq_of_lt hx, Nat.add_zero]
  have m : ∀ X x, x < 2 ^ n → (X * 2 ^ n + x) % 2 ^ n = x := fun X x hx => by
    rw [Nat.mul_comm, Nat.mul_add_mod, Nat.mod_eq_of_lt hx]
  have e := Nat.div_add_mod ((A * 2 ^ n + a) ^^^ (B * 2 ^ n + b)) (2 ^ n)
  rw [Nat.xor_div_two_pow, Nat.xor_mod_two_pow, d A a ha, d B b hb, m A a ha, m B b hb] at e
  rw [← e, Nat.mul_comm]

/-- A field's elements are the numbers below 2^n. -/
structure R2.Rep {α : Type} (r : R2 α) (k n : Nat) (v : α → Nat) : Prop where
  lt : ∀ a, v a < 2 ^ n
  inj : ∀ a b, v a = v b → a = b
  sur : ∀ x, x < 2 ^ n → ∃ a, v a = x
  add : ∀ a b, v (r.add a b) = v a ^^^ v b
  mul : ∀ a b, v (r.mul a b) = nm k (v a) (v b)
  zero : v r.zero = 0
  one : v r.one = 1
  d : v r.d = 2 ^ (n - 1)
  n0 : 0 < n

def pair {α : Type} (v : α → Nat) (n : Nat) (x : α × α) : Nat := v x.1 * 2 ^ n + v x.2

theorem R2.Rep.ext {α : Type} {r : R2 α} {k n : Nat} {v : α → Nat} (h : r.Rep k n v) (o : r.Ok) (hn : n = 2 ^ k) : r.ext.Rep (k + 1) (n + n) (pair v n) := by
  have hp := Nat.two_pow_pos n
  have dv : ∀ x : α × α, pair v n x / 2 ^ n = v x.1 := fun x => by
    unfold pair; rw [Nat.mul_comm, Nat.mul_add_div hp, Nat.div_eq_of_lt (h.lt _), Nat.add_zero]
  have md : ∀ x : α × α, pair v n x % 2 ^ n = v x.2 := fun x => by
    unfold pair; rw [Nat.mul_comm, Nat.mul_add_mod, Nat.mod_eq_of_lt (h.lt _)]
  refine ⟨?_, ?_, ?_, ?_, ?_, ?_, ?_, ?_, by have := h.n0; omega⟩
  · intro x
    have h1 := h.lt x.1; have h2 := h.lt x.2
    unfold pair
    rw [Nat.pow_add]
    have : (v x.1 + 1) * 2 ^ n ≤ 2 ^ n * 2 ^ n := Nat.mul_le_mul_right _ h1
    rw [Nat.succ_mul] at this
    omega
  · intro x y e
    have h1 := congrArg (· / 2 ^ n) e
    have h2 := congrArg (· % 2 ^ n) e
    simp only [dv] at h1
    simp only [md] at h2
    exact Prod.ext (h.inj _ _ h1) (h.inj _ _ h2)
  · intro x hx
    rw [Nat.pow_add] at hx
    obtain ⟨A, hA⟩ := h.sur (x / 2 ^ n) (Nat.div_lt_of_lt_mul hx)
    obtain ⟨a, ha⟩ := h.sur (x % 2 ^ n) (Nat.mod_lt _ hp)
    refine ⟨(A, a), ?_⟩
    unfold pair
    rw [hA, ha, Nat.mul_comm]; exact Nat.div_add_mod x _
  · intro x y
    show v (r.add x.1 y.1) * 2 ^ n + v (r.add x.2 y.2) = (v x.1 * 2 ^ n + v x.2) ^^^ (v y.1 * 2 ^ n + v y.2)
    rw [xor_pair _ _ _ _ _ (h.lt _) (h.lt _), h.add, h.add]
  · intro x y
    unfold nm
    rw [← hn, dv, dv, md, md]
    rw [← h.add, ← h.add, ← h.d, ← h.mul, ← h.mul, ← h.mul, ← h.mul, ← h.add]
    show v (r.add (r.mul x.1 y.1) (r.add (r.mul x.1 y.2) (r.mul x.2 y.1))) * 2 ^ n + v (r.add (r.mul x.2 y.2) (r.mul (r.mul x.1 y.1) r.d)) = _
    have h0 : ∀ X, v X = 0 * 2 ^ n + v X := fun X => by rw [Nat.zero_mul, Nat.zero_add]
    have h1 : ∀ X, X * 2 ^ n = X * 2 ^ n + v r.zero := fun X => by rw [h.zero, Nat.add_zero]
    rw [h0 (r.mul x.2 y.2), h0 (r.mul (r.mul x.1 y.1) r.d), h1 (v (r.add _ (r.mul x.2 y.2)))]
    rw [xor_pair _ _ _ _ _ (h.lt _) (h.lt _), Nat.xor_zero, ← h.add]
    rw [xor_pair _ _ _ _ _ (h.lt _) (h.lt _), Nat.xor_zero, ← h.add, o.za]
    congr 1
    congr 2
    rw [o.ds, o.ds', o.ds']
    rw [o.aa, o.aa, o.aa, o.ac (r.mul x.2 y.1), o.aa, o.aa, o.a2']
  · show v r.zero * 2 ^ n + v r.zero = 0
    rw [h.zero]; simp
  · show v r.zero * 2 ^ n + v r.one = 1
    rw [h.zero, h.one]; simp
  · show v r.d * 2 ^ n + v r.zero = 2 ^ (n + n - 1)
    rw [h.zero, h.d, ← Nat.pow_add]
    have := h.n0
    rw [Nat.add_zero]; congr 1; omega

theorem two_rep : two.Rep 0 1 Bool.toNat := by
  refine ⟨by decide, by decide, ?_, by decide, by decide, by decide, by decide, by decide, by decide⟩
  intro x hx
  have : x = 0 ∨ x = 1 := by omega
  rcases this with rfl | rfl
  · exact ⟨false, rfl⟩
  · exact ⟨true, rfl⟩

/-- The fields up to 2^16 elements. -/
structure NField (k n : Nat) : Prop where
  lt : ∀ a b, a < 2 ^ n → b < 2 ^ n → nm k a b < 2 ^ n
  comm : ∀ a b, a < 2 ^ n → b < 2 ^ n → nm k a b = nm k b a
  assoc : ∀ a b c, a < 2 ^ n → b < 2 ^ n → c < 2 ^ n → nm k (nm k a b) c = nm k a (nm k b c)
  dist : ∀ a b c, a < 2 ^ n → b < 2 ^ n → c < 2 ^ n → nm k a (b ^^^ c) = nm k a b ^^^ nm k a c
  one : ∀ a, a < 2 ^ n → nm k a 1 = a
  one' : ∀ a, a < 2 ^ n → nm k 1 a = a
  zero : ∀ a, a < 2 ^ n → nm k a 0 = 0
  zero' : ∀ a, a < 2 ^ n → nm k 0 a = 0
  none : ∀ a b, a < 2 ^ n → b < 2 ^ n → nm k a b = 0 → a = 0 ∨ b = 0

def npw (k a : Nat) : Nat → Nat
  | 0 => 1
  | n + 1 => nm k (npw k a n) a

theorem R2.Rep.pw {α : Type} {r : R2 α} {k n : Nat} {v : α → Nat} (h : r.Rep k n v) (a : α) (m : Nat) : v (r.pw a m) = npw k (v a) m := by
  induction m with
  | zero => exact h.one
  | succ m ih => simp only [R2.pw, npw, h.mul, ih]

theorem field_of {α : Type} {r : R2 α} {k n : Nat} {v : α → Nat} (h : r.Rep k n v) (f : r.Fld n) : NField k n := by
  have o := f.ok
  refine ⟨?_, ?_, ?_, ?_, ?_, ?_, ?_, ?_, ?_⟩
  · intro a b ha hb
    obtain ⟨a, rfl⟩ := h.sur a ha; obtain ⟨b, rfl⟩ := h.sur b hb
    rw [← h.mul]; exact h.lt _
  · intro a b ha hb
    obtain ⟨a, rfl⟩ := h.sur a ha; obtain ⟨b, rfl⟩ := h.sur b hb
    rw [← h.mul, ← h.mul, o.mc]
  · intro a b c ha hb hc
    obtain ⟨a, rfl⟩ := h.sur a ha; obtain ⟨b, rfl⟩ := h.sur b hb; obtain ⟨c, rfl⟩ := h.sur c hc
    rw [← h.mul, ← h.mul, ← h.mul, ← h.mul, o.ma]
  · intro a b c ha hb hc
    obtain ⟨a, rfl⟩ := h.sur a ha; obtain ⟨b, rfl⟩ := h.sur b hb; obtain ⟨c, rfl⟩ := h.sur c hc
    rw [← h.add, ← h.mul, ← h.mul, ← h.mul, ← h.add, o.ds]
  · intro a ha
    obtain ⟨a, rfl⟩ := h.sur a ha
    rw [← h.one, ← h.mul, o.m1]
  · intro a ha
    obtain ⟨a, rfl⟩ := h.sur a ha
    rw [← h.one, ← h.mul, o.m1']
  · intro a ha
    obtain ⟨a, rfl⟩ := h.sur a ha
    rw [← h.zero, ← h.mul, o.mz]
  · intro a ha
    obtain ⟨a, rfl⟩ := h.sur a ha
    rw [← h.zero, ← h.mul, o.zm]
  · intro a b ha hb e
    obtain ⟨a, rfl⟩ := h.sur a ha; obtain ⟨b, rfl⟩ := h.sur b hb
    rw [← h.mul, ← h.zero] at e
    have e := h.inj _ _ e
    by_cases hz : a = r.zero
    · exact .inl (by rw [hz, h.zero])
    · right
      obtain ⟨c, hc⟩ := f.iv a hz
      have : r.mul c (r.mul a b) = b := by rw [← o.ma, o.mc c a, hc, o.m1']
      rw [← this, e, o.mz, h.zero]

abbrev r1 := two.ext
abbrev r2 := r1.ext
abbrev r3 := r2.ext
abbrev r4 := r3.ext
theorem f1 : r1.Fld 2 := two_fld.ext
theorem f2 : r2.Fld 4 := f1.ext
theorem f3 : r3.Fld 8 := f2.ext
theorem f4 : r4.Fld 16 := f3.ext
theorem v1 : r1.Rep 1 2 (pair Bool.toNat 1) := two_rep.ext two_fld.ok rfl
theorem v2 : r2.Rep 2 4 (pair (pair Bool.toNat 1) 2) := v1.ext f1.ok rfl
theorem v3 : r3.Rep 3 8 (pair (pair (pair Bool.toNat 1) 2) 4) := v2.ext f2.ok rfl
theorem v4 : r4.Rep 4 16 (pair (pair (pair (pair Bool.toNat 1) 2) 4) 8) := v3.ext f3.ok rfl
theorem field0 : NField 0 1 := field_of two_rep two_fld
theorem field1 : NField 1 2 := field_of v1 f1
theorem field2 : NField 2 4 := field_of v2 f2
theorem field3 : NField 3 8 := field_of v3 f3
theorem field4 : NField 4 16 := field_of v4 f4
theorem npw_add (a m n : Nat) (ha : a < 2 ^ 16) : npw 4 a (m + n) = nm 4 (npw 4 a m) (npw 4 a n) := by
  obtain ⟨a, rfl⟩ := v4.sur a ha
  rw [← v4.pw, ← v4.pw, ← v4.pw, ← v4.mul, f4.ok.pw_add]
theorem npw_lt (a m : Nat) (ha : a < 2 ^ 16) : npw 4 a m < 2 ^ 16 := by
  obtain ⟨a, rfl⟩ := v4.sur a ha
  rw [← v4.pw]; exact v4.lt _
theorem npw_all (a : Nat) (ha : a < 2 ^ 16) : npw 4 a 65536 = a := by
  obtain ⟨a, rfl⟩ := v4.sur a ha
  rw [← v4.pw]; exact congrArg _ (f4.pw_all a)
theorem npw_less (a : Nat) (ha : a < 2 ^ 16) (h0 : a ≠ 0) : npw 4 a 65535 = 1 := by
  obtain ⟨a, rfl⟩ := v4.sur a ha
  rw [← v4.pw, ← v4.one]; exact congrArg _ (f4.pw_less a (fun h => h0 (by rw [h]; exact v4.zero)))
theorem npw_root (a : Nat) (ha : a < 2 ^ 16) : nm 4 (npw 4 a 32768) (npw 4 a 32768) = a := by
  rw [← npw_add a _ _ ha]; exact npw_all a ha
theorem npw_inv (a : Nat) (ha : a < 2 ^ 16) (h0 : a ≠ 0) : nm 4 a (npw 4 a 65534) = 1 := by
  rw [field4.comm _ _ ha (npw_lt _ _ ha)]
  exact npw_less a ha h0
end Go.Proofs.Ytodnfchkkgoabaa.Nim
