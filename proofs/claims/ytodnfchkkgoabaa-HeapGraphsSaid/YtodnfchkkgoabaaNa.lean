/- Fields of characteristic 2 by pairs (plain mathematics). -/
namespace Go.Proofs.Ytodnfchkkgoabaa.Nim
/-- A commutative ring of characteristic 2, as plain data. -/
structure R2 (α : Type) where
  add : α → α → α
  mul : α → α → α
  zero : α
  one : α
  d : α

/-- Pairs. -/
def R2.ext {α : Type} (r : R2 α) : R2 (α × α) where
  add x y := (r.add x.1 y.1, r.add x.2 y.2)
  mul x y := (r.add (r.mul x.1 y.1) (r.add (r.mul x.1 y.2) (r.mul x.2 y.1)), r.add (r.mul x.2 y.2) (r.mul (r.mul x.1 y.1) r.d))
  zero := (r.zero, r.zero)
  one := (r.zero, r.one)
  d := (r.d, r.zero)

structure R2.Ok {α : Type} (r : R2 α) : Prop where
  ac : ∀ a b, r.add a b = r.add b a
  aa : ∀ a b c, r.add (r.add a b) c = r.add a (r.add b c)
  az : ∀ a, r.add a r.zero = a
  a2 : ∀ a, r.add a a = r.zero
  mc : ∀ a b, r.mul a b = r.mul b a
  ma : ∀ a b c, r.mul (r.mul a b) c = r.mul a (r.mul b c)
  m1 : ∀ a, r.mul a r.one = a
  ds : ∀ a b c, r.mul a (r.add b c) = r.add (r.mul a b) (r.mul a c)

theorem R2.Ok.ext {α : Type} {r : R2 α} (h : r.Ok) : r.ext.Ok := by
  have mz : ∀ a, r.mul a r.zero = r.zero := fun a => by
    have := h.ds a r.zero r.zero
    rw [h.a2] at this; rw [h.a2] at this; exact this
  have alc : ∀ a b c, r.add a (r.add b c) = r.add b (r.add a c) := fun a b c => by rw [← h.aa, h.ac a b, h.aa]
  have mlc : ∀ a b c, r.mul a (r.mul b c) = r.mul b (r.mul a c) := fun a b c => by rw [← h.ma, h.mc a b, h.ma]
  have ds' : ∀ a b c, r.mul (r.add b c) a = r.add (r.mul b a) (r.mul c a) := fun a b c => by rw [h.mc, h.ds, h.mc a b, h.mc a c]
  have za : ∀ a, r.add r.zero a = a := fun a => by rw [h.ac, h.az]
  have zm : ∀ a, r.mul r.zero a = r.zero := fun a => by rw [h.mc, mz]
  constructor
  · intro a b; simp only [R2.ext, Prod.mk.injEq]; exact ⟨h.ac _ _, h.ac _ _⟩
  · intro a b c; simp only [R2.ext, Prod.mk.injEq]; exact ⟨h.aa _ _ _, h.aa _ _ _⟩
  · intro a; simp only [R2.ext, h.az]
  · intro a; simp only [R2.ext, h.a2]
  · intro a b; simp only [R2.ext, Prod.mk.injEq]
    refine ⟨?_, ?_⟩
    · simp only [h.mc, h.ac]
    · simp only [h.mc]
  · intro a b c; simp only [R2.ext, Prod.mk.injEq]
    refine ⟨?_, ?_⟩
    · simp only [h.ds, ds', h.ma, h.mc, mlc, h.aa, h.ac, alc]
    · simp only [h.ds, ds', h.ma, h.mc, mlc, h.aa, h.ac, alc]
  · intro a; simp only [R2.ext, h.m1, mz, zm, za, h.az]
  · intro a b c; simp only [R2.ext, Prod.mk.injEq]
    refine ⟨?_, ?_⟩
    · simp only [h.ds, h.aa, alc]
    · simp only [h.ds, ds', h.ma, h.aa, h.ac, alc]

/-- Squares, again and again. -/
def R2.sqn {α : Type} (r : R2 α) : Nat → α → α
  | 0, a => a
  | n + 1, a => r.mul (r.sqn n a) (r.sqn n a)
/-- The sum of such squares. -/
def R2.tr {α : Type} (r : R2 α) : Nat → α → α
  | 0, _ => r.zero
  | n + 1, a => r.add (r.mul (r.tr n a) (r.tr n a)) a

/-- A field of 2^n elements. -/
structure R2.Fld {α : Type} (r : R2 α) (n : Nat) : Prop where
  ok : r.Ok
  fr : ∀ a, r.sqn n a = a
  td : r.tr n r.d = r.one
  iv : ∀ a, a ≠ r.zero → ∃ b, r.mul a b = r.one
  ne : r.one ≠ r.zero

theorem R2.sqn_sqn {α : Type} {r : R2 α} (m n : Nat) (a : α) : r.sqn m (r.sqn n a) = r.sqn (n + m) a := by
  induction m with
  | zero => rfl
  | succ m ih => rw [← Nat.add_assoc]; simp only [R2.sqn, ih]

section
variable {α : Type} {r : R2 α} (h : r.Ok)
include h
theorem R2.Ok.mz (a : α) : r.mul a r.zero = r.zero := by
  have := h.ds a r.zero r.zero
  rw [h.a2] at this; rw [h.a2] at this; exact this
theorem R2.Ok.zm (a : α) : r.mul r.zero a = r.zero := by rw [h.mc, h.mz]
theorem R2.Ok.za (a : α) : r.add r.zero a = a := by rw [h.ac, h.az]
theorem R2.Ok.m1' (a : α) : r.mul r.one a = a := by rw [h.mc, h.m1]
theorem R2.Ok.alc (a b c : α) : r.add a (r.add b c) = r.add b (r.add a c) := by rw [← h.aa, h.ac a b, h.aa]
theorem R2.Ok.mlc (a b c : α) : r.mul a (r.mul b c) = r.mul b (r.mul a c) := by rw [← h.ma, h.mc a b, h.ma]
theorem R2.Ok.ds' (a b c : α) : r.mul (r.add b c) a = r.add (r.mul b a) (r.mul c a) := by rw [h.mc, h.ds, h.mc a b, h.mc a c]
theorem R2.Ok.a2' (a b : α) : r.add a (r.add a b) = b := by rw [← h.aa, h.a2, h.za]
theorem R2.Ok.sq_add (a b : α) : r.mul (r.add a b) (r.add a b) = r.add (r.mul a a) (r.mul b b) := by
  rw [h.ds, h.ds', h.ds', h.mc b a, h.aa, h.a2']
theorem R2.Ok.sq_mul (a b : α) : r.mul (r.mul a b) (r.mul a b) = r.mul (r.mul a a) (r.mul b b) := by
  simp only [h.ma, h.mlc]
theorem R2.Ok.sqn_add (n : Nat) (a b : α) : r.sqn n (r.add a b) = r.add (r.sqn n a) (r.sqn n b) := by
  induction n with
  | zero => rfl
  | succ n ih => simp only [R2.sqn, ih, h.sq_add]
theorem R2.Ok.sqn_mul (n : Nat) (a b : α) : r.sqn n (r.mul a b) = r.mul (r.sqn n a) (r.sqn n b) := by
  induction n with
  | zero => rfl
  | succ n ih => simp only [R2.sqn, ih, h.sq_mul]
theorem R2.Ok.tr_add (n : Nat) (a b : α) : r.tr n (r.add a b) = r.add (r.tr n a) (r.tr n b) := by
  induction n with
  | zero => simp only [R2.tr, h.az]
  | succ n ih => simp only [R2.tr, ih, h.sq_add, h.aa, h.alc]
theorem R2.Ok.sqn_zero (n : Nat) : r.sqn n r.zero = r.zero := by
  induction n with
  | zero => rfl
  | succ n ih => simp only [R2.sqn, ih, h.mz]
theorem R2.Ok.sqn_tr (m n : Nat) (a : α) : r.sqn m (r.tr n a) = r.tr n (r.sqn m a) := by
  induction n with
  | zero => simp only [R2.tr, h.sqn_zero]
  | succ n ih => simp only [R2.tr, h.sqn_add, h.sqn_mul, ih]
theorem R2.Ok.tr_tr (m n : Nat) (a : α) : r.tr (n + m) a = r.add (r.sqn m (r.tr n a)) (r.tr m a) := by
  induction m with
  | zero => simp only [R2.tr, R2.sqn, h.az, Nat.add_zero]
  | succ m ih => rw [← Nat.add_assoc]; simp only [R2.tr, R2.sqn, ih, h.sq_add, h.aa]
theorem R2.Ok.tr_sq (n : Nat) (t : α) : r.tr n (r.add (r.mul t t) t) = r.add (r.sqn n t) t := by
  induction n with
  | zero => simp only [R2.tr, R2.sqn, h.a2]
  | succ n ih => simp only [R2.tr, R2.sqn, ih, h.sq_add, h.aa, h.a2']
theorem R2.Ok.ext_sqn (j : Nat) (x : α × α) : r.ext.sqn j x = (r.sqn j x.1, r.add (r.sqn j x.2) (r.mul (r.sqn j x.1) (r.tr j r.d))) := by
  induction j with
  | zero => simp only [R2.sqn, R2.tr, h.mz, h.az]
  | succ j ih =>
    simp only [R2.sqn, ih, R2.tr]
    simp only [R2.ext, Prod.mk.injEq]
    refine ⟨?_, ?_⟩
    · rw [h.mc (r.add (r.sqn j x.2) _) (r.sqn j x.1), h.a2, h.az]
    · rw [h.sq_add, h.aa, h.sq_mul, h.ds]
theorem R2.Ok.ext_tr (j : Nat) (b : α) : r.ext.tr j (r.zero, b) = (r.zero, r.tr j b) := by
  induction j with
  | zero => rfl
  | succ j ih => simp only [R2.tr, ih]; simp only [R2.ext, h.mz, h.zm, h.az]
end

theorem R2.Fld.ext {α : Type} {r : R2 α} {n : Nat} (h : r.Fld n) : r.ext.Fld (n + n) := by
  have k := h.ok
  have e := k.ext
  have conj : ∀ x, r.ext.sqn n x = (x.1, r.add x.2 x.1) := fun x => by rw [k.ext_sqn, h.td, k.m1, h.fr, h.fr]
  refine ⟨e, ?_, ?_, ?_, ?_⟩
  · intro a
    rw [← R2.sqn_sqn, conj, conj]
    simp only [k.aa, k.a2, k.az]
  · rw [e.tr_tr, e.sqn_tr, ← e.tr_add, conj]
    have : r.ext.add (r.ext.d.1, r.add r.ext.d.2 r.ext.d.1) r.ext.d = (r.zero, r.d) := by
      simp only [R2.ext, k.a2, k.za, k.az]
    rw [this, k.ext_tr, h.td]; rfl
  · rintro ⟨A, a⟩ hx
    by_cases hA : A = r.zero
    · subst hA
      have ha : a ≠ r.zero := fun hz => hx (by rw [hz]; rfl)
      obtain ⟨b, hb⟩ := h.iv a ha
      exact ⟨(r.zero, b), by simp only [R2.ext, k.mz, k.zm, k.az, hb]⟩
    · obtain ⟨B, hB⟩ := h.iv A hA
      have hN : r.add (r.mul a (r.add a A)) (r.mul (r.mul A A) r.d) ≠ r.zero := by
        intro hz
        have h2 : r.mul (r.mul B B) (r.add (r.mul a (r.add a A)) (r.mul (r.mul A A) r.d)) = r.zero := by rw [hz, k.mz]
        have h3 : r.mul (r.mul B B) (r.mul (r.mul A A) r.d) = r.d := by
          rw [← k.ma, ← k.sq_mul, k.mc B A, hB, k.m1, k.m1']
        have h4 : r.mul (r.mul B B) (r.mul a (r.add a A)) = r.add (r.mul (r.mul a B) (r.mul a B)) (r.mul a B) := by
          rw [k.ds, k.ds, k.sq_mul]
          have : r.mul (r.mul B B) (r.mul a A) = r.mul a B := by
            rw [k.ma, k.mlc B a A, k.mc B A, hB, k.m1, k.mc]
          rw [this, k.mc (r.mul B B)]
        rw [k.ds, h3, h4] at h2
        have h5 : r.d = r.add (r.mul (r.mul a B) (r.mul a B)) (r.mul a B) := by
          have := congrArg (r.add (r.add (r.mul (r.mul a B) (r.mul a B)) (r.mul a B))) h2
          rw [k.a2', k.az] at this; exact this
        have h6 := k.tr_sq n (r.mul a B)
        rw [← h5, h.td, h.fr, k.a2] at h6
        exact h.ne h6
      obtain ⟨M, hM⟩ := h.iv _ hN
      refine ⟨(r.mul A M, r.mul (r.add a A) M), ?_⟩
      simp only [R2.ext, Prod.mk.injEq]
      refine ⟨?_, ?_⟩
      · rw [← k.ma, ← k.ma, ← k.ma, ← k.ds', ← k.ds', k.ds, k.mc a A]
        rw [show r.add (r.add (r.mul A a) (r.mul A A)) (r.mul A a) = r.mul A A by rw [k.ac, k.a2'], k.a2, k.zm]
      · rw [← hM, ← k.ma, ← k.ma, k.ds' M, k.ma (r.mul A A) M, k.mc M r.d, ← k.ma]
  · intro hz
    exact h.ne (congrArg Prod.snd hz)

/-- The field of two elements. -/
def two : R2 Bool := ⟨xor, and, false, true, true⟩
theorem two_fld : two.Fld 1 := by
  refine ⟨⟨?_, ?_, ?_, ?_, ?_, ?_, ?_, ?_⟩, ?_, ?_, ?_, ?_⟩ <;> decide
end Go.Proofs.Ytodnfchkkgoabaa.Nim
