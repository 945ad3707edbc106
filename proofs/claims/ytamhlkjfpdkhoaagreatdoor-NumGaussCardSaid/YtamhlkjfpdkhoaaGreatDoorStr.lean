/- WALKS: the strings of small integers and fractions. -/
import Derived.Test.YtamhlkjfpdkhoaaGreatDoorText2
import Derived.Test.YtamhlkjfpdkhoaaGreatDoorRatB
import Derived.Outline
namespace Go.Proofs.YtamhlkjfpdkhoaaGreatDoor
open Go.RowKit

theorem bcat (a b : List UInt8) : (⟨a.toArray⟩ : ByteArray) ++ ⟨b.toArray⟩ = ⟨(a ++ b).toArray⟩ := by
  apply ByteArray.ext; simp

theorem ret_str {a b : ByteArray} (h : a = b) : Ending.returned (.string a) = .returned (.string b) := by rw [h]

theorem text_small (v : Value) (n : Nat) (ds : List UInt8) (w : World) (hd : Dig w v n) (h0 : 0 < n) (hn : n < 100) (hds : Lib.decDigits n = ds) (h1 : 0 < ds.length) (h2 : ds.length ≤ 20) :
    Calls Tryz.prog 89 #[v] w fun e w' => e = .returned (.string ⟨ds.toArray⟩) ∧ Below w.heap.size w w' := by
  subst hds
  exact text_of v n w hd h0 (by omega) h2 h1 fun W _ => FormatUint_small n W hn

set_option maxRecDepth 100000 in
set_option maxHeartbeats 1000000 in
theorem IString_of (v : Value) (s : Bool) (n : Nat) (ds : List UInt8) (w : World) (hv : WI w v s n) (hl : ds.length ≤ 40)
    (TX : ∀ W d, Dig W d n → Calls Tryz.prog 89 #[d] W fun e w' => e = .returned (.string ⟨ds.toArray⟩) ∧ Below W.heap.size W w') :
    Calls Tryz.prog 17 #[v] w fun e w' => e = .returned (.string ⟨(if s then 45 :: ds else ds).toArray⟩) ∧ Below w.heap.size w w' := by
  obtain ⟨d, rfl, hd⟩ := hv
  obtain ⟨p, l, c, rfl⟩ := hd.slice
  have T := Lib.hid (fun W (hb : Below w.heap.size w W) => TX W _ (hd.below hb))
  clear TX hd
  cases s
  · go_enter Tryz.func17, Tryz.ntmps17
    go_wp2_with fail
    refine (T.out _ ((Below.refl _ _).alloc (Nat.le_refl _) _)).mono ?_
    rintro e w1 ⟨rfl, hb⟩
    have Hb := Lib.hid (((Below.refl w.heap.size w).alloc (Nat.le_refl _) _).trans (hb.mono (by simp)))
    clear hb
    go_wp2_with fail
    go_ret
    exact ⟨rfl, Hb.out⟩
  · go_enter Tryz.func17, Tryz.ntmps17
    go_wp2_with fail
    refine (T.out _ ((Below.refl _ _).alloc (Nat.le_refl _) _)).mono ?_
    rintro e w1 ⟨rfl, hb⟩
    have Hb := Lib.hid (((Below.refl w.heap.size w).alloc (Nat.le_refl _) _).trans (hb.mono (by simp)))
    clear hb
    have hlim : ¬ 9223372036854775807 < 1 + ds.length := by omega
    go_wp2_with fail
    go_ret
    exact ⟨ret_str (bcat [45] ds), Hb.out⟩

theorem cat_le (a b : Nat) (ha : a ≤ 100) (hb : b ≤ 100) : ¬ 9223372036854775807 < a + b := by omega

set_option maxRecDepth 100000 in
set_option maxHeartbeats 1000000 in
theorem RString_of (v : Value) (s : Bool) (n k : Nat) (ds es : List UInt8) (w : World) (hv : WR w v s n k) (hk : k ≠ 0) (hl : ds.length ≤ 40) (hl' : es.length ≤ 40)
    (TX : ∀ W d, Dig W d n → Calls Tryz.prog 89 #[d] W fun e w' => e = .returned (.string ⟨ds.toArray⟩) ∧ Below W.heap.size W w')
    (TY : ∀ W d, Dig W d k → Calls Tryz.prog 89 #[d] W fun e w' => e = .returned (.string ⟨es.toArray⟩) ∧ Below W.heap.size W w') :
    Calls Tryz.prog 23 #[v] w fun e w' => e = .returned (.string ⟨((if s then 45 :: ds else ds) ++ 47 :: es).toArray⟩) ∧ Below w.heap.size w w' := by
  have IW := fun W (hb : Below w.heap.size w W) => isWhole_any v s n k W (hv.below hb)
  have e1 : decide (k = 0) = false := by simp [hk]
  rw [e1] at IW
  obtain ⟨d, e, rfl, hd, he⟩ := hv
  obtain ⟨p, l, c, rfl⟩ := hd.slice
  obtain ⟨p', l', c', rfl⟩ := he.slice
  have NS := Lib.hid (fun W (hb : Below w.heap.size w W) => IString_of (.agg #[.bool s, .slice p l c]) s n ds W ⟨_, rfl, hd.below hb⟩ hl TX)
  obtain ⟨fs, hfs, hfl⟩ : ∃ fs, (if s then 45 :: ds else ds) = fs ∧ fs.length ≤ 41 := ⟨_, rfl, by split <;> (try simp only [List.length_cons]) <;> omega⟩
  rw [hfs] at NS ⊢
  have T := Lib.hid (fun W (hb : Below w.heap.size w W) => TY W _ (he.below hb))
  replace IW := Lib.hid IW
  have L0 := Lib.hid ((LayX.nil w).push #[.bool s, .slice p l c, .slice p' l' c'] 45)
  clear TX TY hd he hfs e1 hk
  go_enter Tryz.func23, Tryz.ntmps23
  go_wp2_with fail
  refine (IW.out _ L0.out.1.2).mono ?_
  rintro e w1 ⟨rfl, hb⟩
  have L1 : Hid (Lay w [(#[.bool s, .slice p l c, .slice p' l' c'], 45)] w1) := Lib.hid (L0.out.1.step hb)
  obtain ⟨⟨c0, c1, c2⟩, _⟩ := sOfR L1.out
  clear hb L0
  go_wp2_with fail
  have l1 : ¬ 9223372036854775807 < fs.length + 1 := by omega
  have l2 : ¬ 9223372036854775807 < fs.length + 1 + es.length := by omega
  replace L1 := Lib.hid L1.out.drew
  clear c0 c1 c2
  go_region_held3 (fun W => (W.cell? ⟨w.heap.size, 0, none⟩ = some (.bool s) ∧ W.cell? ⟨w.heap.size, 1, none⟩ = some (.slice p l c) ∧ W.cell? ⟨w.heap.size, 2, none⟩ = some (.slice p' l' c')) ∧ Hid (∃ rest, Lay w ((#[.bool s, .slice p l c, .slice p' l' c'], 45) :: rest) W)) (first | exact sOfR T3.out | exact sOfR T2.out | exact sOfR L1.out) (first
    | (go_at_call 17; refine (NS.out _ ?_).mono ?_; exact L1.out.2; rintro e w2 ⟨rfl, hb2⟩; have T2 := Lib.hid (L1.out.step hb2); clear hb2)
    | (go_at_call 89; refine (T.out _ ?_).mono ?_; exact T2.out.2; rintro e w3 ⟨rfl, hb3⟩; have T3 := Lib.hid (T2.out.step hb3); clear hb3))
  go_wp2
  go_ret
  exact ⟨ret_str (by rw [show (⟨#[47]⟩ : ByteArray) = ⟨[47].toArray⟩ from rfl, bcat, bcat]; simp), T3.out.2⟩
end Go.Proofs.YtamhlkjfpdkhoaaGreatDoor
