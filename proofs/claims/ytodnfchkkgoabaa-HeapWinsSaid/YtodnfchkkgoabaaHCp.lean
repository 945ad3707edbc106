/- WALK of slices.CompactFunc with slices.Equal, over rows of integers. -/
import Derived.Test.YtodnfchkkgoabaaHCm
set_option linter.unusedVariables false
namespace Go.Proofs.Ytodnfchkkgoabaa
open Go.Shelf Go.RowKit Go.Lib Go.Sort

/-- The places that are kept of the first n: those of rows that are not the one before. -/
def keeps (F : List (List Int)) (j : Nat) : Bool := decide (j = 0) || !(F.getD j [] == F.getD (j - 1) [])
def kept (F : List (List Int)) (n : Nat) : List Nat := (List.range n).filter (keeps F)
theorem kept_succ (F : List (List Int)) (j : Nat) : kept F (j + 1) = kept F j ++ (if keeps F j then [j] else []) := by
  unfold kept
  rw [List.range_succ, List.filter_append]
  congr 1
  cases h : keeps F j <;> simp [h]
theorem kept_all (F : List (List Int)) : ∀ n, (∀ j, j < n → keeps F j = true) → kept F n = List.range n := by
  intro n h
  unfold kept
  exact List.filter_eq_self.2 (fun j hj => h j (List.mem_range.1 hj))

/-- The world but for one block. -/
structure Al (W w : World) (blk : Nat) : Prop where
  os : w.os = W.os
  tape : w.tape = W.tape
  output : w.output = W.output
  size : w.heap.size = W.heap.size
  block : ∀ k, k ≠ blk → w.heap[k]? = W.heap[k]?
theorem Al.refl (W : World) (blk : Nat) : Al W W blk := ⟨rfl, rfl, rfl, rfl, fun _ _ => rfl⟩
theorem Al.drewN {W w : World} {blk : Nat} (h : Al W w blk) (n : Nat) : Al W (w.drewN n) blk := ⟨h.os, h.tape, h.output, h.size, h.block⟩
theorem Al.setCell {W w : World} {blk : Nat} (h : Al W w blk) (j : Nat) (v : Value) : Al W (w.setCell ⟨blk, j, none⟩ v) blk :=
  ⟨h.os, h.tape, h.output, by simp [World.setCell]; exact h.size, fun k hk => (Below.heap_setCell _ _ _ _ (by simpa using hk)).trans (h.block k hk)⟩

theorem Al.setCells {W : World} {blk : Nat} : ∀ (vs : List Value) (o : Nat) (w : World), Al W w blk → Al W (w.setCells blk o vs) blk
  | [], _, _, h => h
  | v :: r, o, w, h => Al.setCells r (o + 1) (w.setCell ⟨blk, o, none⟩ v) (h.setCell o v)
theorem Blk.cut {w : World} {g n m : Nat} {f : Nat → Value} (h : Blk w g n f) (hm : m ≤ n) : Blk w g m f := by
  obtain ⟨cur, t, h1, h2, h3⟩ := h
  exact ⟨cur, t, h1, by omega, fun i hi => h3 i (by omega)⟩
theorem Blk.setCells {g n : Nat} {f : Nat → Value} : ∀ (vs : List Value) (o : Nat) (w : World), n ≤ o → Blk w g n f → Blk (w.setCells g o vs) g n f
  | [], _, _, _, h => h
  | v :: r, o, w, ho, h => Blk.setCells r (o + 1) (w.setCell ⟨g, o, none⟩ v) (by omega) ((h.set o v).congr (fun i hi => by rw [if_neg (by omega)]))

/-- The values are slices that hold these rows. -/
def RowsV (W : World) (blk n : Nat) (F : List (List Int)) (V : Nat → Value) : Prop := ∀ j, j < n → ∃ g c, V j = .slice (some ⟨g, 0, none⟩) (F.getD j []).length c ∧ (F.getD j []).length ≤ 1000 ∧ g ≠ blk ∧ ∀ i, i < (F.getD j []).length → W.cell? ⟨g, i, none⟩ = some (.int .i64 ((F.getD j []).getD i 0))

theorem Equal_rows {W X : World} {blk n : Nat} {F : List (List Int)} {V : Nat → Value} (h : RowsV W blk n F V) (ha : Al W X blk) {j k : Nat} (hj : j < n) (hk : k < n) :
    Calls Try.prog 69 #[V j, V k] X fun e w' => e = .returned (.bool (F.getD j [] == F.getD k [])) ∧ Drew X w' := by
  obtain ⟨g1, c1, e1, l1, n1, r1⟩ := h j hj
  obtain ⟨g2, c2, e2, l2, n2, r2⟩ := h k hk
  rw [e1, e2]
  refine (Try.slices_Equal_int g1 0 (F.getD j []).length c1 g2 0 (F.getD k []).length c2 (F.getD j []) (F.getD k []) X (Nat.le_refl _) (Nat.le_refl _) (by omega) (by omega) (fun i hi => ?_) (fun i hi => ?_)).mono ?_
  · rw [Nat.zero_add]; exact (World.cell?_of_block (w := W) (ha.block g1 n1)).trans (r1 i hi)
  · rw [Nat.zero_add]; exact (World.cell?_of_block (w := W) (ha.block g2 n2)).trans (r2 i hi)
  · rintro e w' ⟨rfl, q, hq⟩
    rw [List.take_length, List.take_length]
    exact ⟨rfl, q, hq⟩

set_option maxRecDepth 100000 in
set_option maxHeartbeats 2000000 in
theorem Compact_any (F : List (List Int)) (V : Nat → Value) (blk n cap : Nat) (W : World) (hR : RowsV W blk n F V) (hB : Blk W blk n V) (hn : n ≤ 100000) (hcap : n ≤ cap) (hc9 : cap ≤ 9223372036854775807) :
    Calls Try.prog 68 #[.slice (some ⟨blk, 0, none⟩) n cap, .func (.func 69) #[] #[]] W fun e w' =>
      e = .returned (.slice (some ⟨blk, 0, none⟩) (kept F n).length cap) ∧ Blk w' blk (kept F n).length (fun i => V ((kept F n).getD i 0)) ∧ Al W w' blk := by
  have EQ := Lib.hid (fun X (ha : Al W X blk) j k (hj : j < n) (hk : k < n) => Equal_rows hR ha hj hk)
  have HB := Lib.hid hB
  have HRV := Lib.hid hR
  clear hR hB
  by_cases hn2 : n < 2
  · have HK : Hid ((kept F n).length = n ∧ ∀ i, i < n → (kept F n).getD i 0 = i) := Lib.hid (by
      have : kept F n = List.range n := kept_all F n (fun j hj => by
        obtain rfl : j = 0 := by omega
        rfl)
      rw [this]
      exact ⟨by simp, fun i hi => by rw [List.getD_eq_getElem?_getD, List.getElem?_range hi]; rfl⟩)
    go_enter Try.func68, Try.ntmps68
    go_wp2_with fail
    go_ret
    exact ⟨by rw [HK.out.1]; rfl, by rw [HK.out.1]; exact HB.out.congr (fun i hi => by rw [HK.out.2 i hi]), Al.refl _ _⟩
  · go_enter Try.func68, Try.ntmps68
    go_wp2_with fail
    go_loopw [5] (fun x wr => ∃ i : Nat, x = .int .i64 ((i : Int) + 1) ∧ i + 1 ≤ n ∧ Hid (∀ j, j < i + 1 → keeps F j = true) ∧ Hid (∃ q, wr = W.drewN q)) (fun x _ => n - (intOf x).toNat)
    case atStart => exact ⟨0, rfl, by omega, Lib.hid (fun j (hj : j < 0 + 1) => by have h0 : j = 0 := (by omega); subst h0; rfl), Lib.hid ⟨0, rfl⟩⟩
    case round =>
      obtain ⟨i, rfl, hi, hall, hw⟩ := hrel
      have hal : Al W wr blk := by obtain ⟨q, rfl⟩ := hw.out; exact (Al.refl W blk).drewN q
      have hbk : Blk wr blk n V := by obtain ⟨q, rfl⟩ := hw.out; exact HB.out
      by_cases hlt : i + 1 < n
      · have ca := hbk.cell (i := i + 1) hlt
        have cb := hbk.cell (i := i) (by omega)
        have EE := Lib.hid (fun m : Nat => EQ.out (wr.drewN m) (hal.drewN m) (i + 1) i hlt (by omega))
        have HKP : Hid (keeps F (i + 1) = !(F.getD (i + 1) [] == F.getD i [])) := Lib.hid (by unfold keeps; simp)
        obtain ⟨r, hr⟩ : ∃ r, (F.getD (i + 1) [] == F.getD i []) = r := ⟨_, rfl⟩
        rw [hr] at EE HKP
        have HAL := Lib.hid hal
        have HBK := Lib.hid hbk
        generalize hva : V (i + 1) = va at ca EE
        generalize hvb : V i = vb at cb EE
        have q1 : ((i : Int) + 1) - 1 = (i : Int) := by omega
        have bi : (i : Int) + 1 < (n : Int) := by omega
        clear hr hal hbk
        cases r with
        | false =>
          have HA2 : Hid (∀ j, j < i + 1 + 1 → keeps F j = true) := Lib.hid (fun j hj => by
            by_cases e : j = i + 1
            · subst e; rw [HKP.out]; rfl
            · exact hall.out j (by omega))
          clear hva hvb
          go_wp2_with fail
          go_quiet ((go_at_call 69; exact Calls.quiet_of (EE.out _)))
          have HW2 : Hid (∃ q, wr.drewN nq = W.drewN q) := Lib.hid (by obtain ⟨q, hq⟩ := hw.out; exact ⟨q + nq, by rw [hq, World.drewN_drewN]⟩)
          go_wp2_with fail
          go_roundw
          case rel => exact ⟨i + 1, by go_num, by omega, HA2, HW2⟩
          case measure => simp [intOf]; omega
        | true =>
          have hci : ¬ cap = i + 1 := by omega
          have HK0 : Hid (kept F (i + 1) = List.range (i + 1)) := Lib.hid (kept_all F (i + 1) hall.out)
          have HK1 : Hid (kept F (i + 1 + 1) = List.range (i + 1)) := Lib.hid (by rw [kept_succ, HK0.out, HKP.out]; simp)
          have HVA := Lib.hid hva
          clear hva hvb
          go_wp2_with fail
          go_quiet ((go_at_call 69; exact Calls.quiet_of (EE.out _)))
          obtain ⟨t, hta, htb⟩ : ∃ t, n ≤ i + 1 + t ∧ i + 1 + t ≤ n := ⟨n - (i + 1), by omega, by omega⟩
          have e1 : n - (i + 1) = t := by omega
          obtain ⟨tc, htc⟩ : ∃ tc, cap - (i + 1) = tc := ⟨_, rfl⟩
          have HTC := Lib.hid htc
          have HA0 := Lib.hid (HAL.out.drewN nq)
          have HB0 : Hid (Blk (wr.drewN nq) blk n V) := Lib.hid HBK.out
          have ht1 : 1 ≤ t := by omega
          go_wp2_with fail
          clear e1 htc hci
          obtain ⟨wq, rfl⟩ : ∃ wq : World, wq = wr := ⟨_, rfl⟩
          go_loopw [5, 7] (fun x y wx => ∃ (a k : Nat) (f : Nat → Value), x = .int .i64 a ∧ y = .int .i64 ((k : Int) + 1) ∧ k + 1 ≤ t ∧ a ≤ i + 1 + k ∧ Hid ((kept F (i + 1 + (k + 1))).length = a) ∧ Hid (Blk wx blk n f) ∧ Hid (∀ j, j < a → f j = V ((kept F (i + 1 + (k + 1))).getD j 0)) ∧ Hid (∀ j, i + 1 + k ≤ j → j < n → f j = V j) ∧ Hid (Al W wx blk)) (fun _ y _ => t - (intOf y).toNat)
          case atStart => exact ⟨i + 1, 0, V, by go_num, rfl, by omega, by omega, Lib.hid (by rw [HK1.out, List.length_range]), HB0, Lib.hid (fun j hj => by rw [HK1.out, List.getD_eq_getElem?_getD, List.getElem?_range hj]; rfl), Lib.hid (fun _ _ _ => rfl), HA0⟩
          case round =>
            clear HA0 HB0 HAL HBK HK0 HK1 EE ca cb HVA HKP
            obtain ⟨a, k, f, rfl, rfl, hkt, hak, hlen, hbk, hfa, hfv, hal⟩ := hrel
            by_cases hlt2 : k + 1 < t
            · have ca : wr.cell? ⟨blk, i + 1 + (k + 1), none⟩ = some (V (i + 1 + (k + 1))) := by rw [hbk.out.cell (by omega), hfv.out _ (by omega) (by omega)]
              have cb : wr.cell? ⟨blk, i + 1 + k, none⟩ = some (V (i + 1 + k)) := by rw [hbk.out.cell (by omega), hfv.out _ (by omega) (by omega)]
              have EE := Lib.hid (fun m : Nat => EQ.out (wr.drewN m) (hal.out.drewN m) (i + 1 + (k + 1)) (i + 1 + k) (by omega) (by omega))
              have HKP : Hid (keeps F (i + 1 + (k + 1)) = !(F.getD (i + 1 + (k + 1)) [] == F.getD (i + 1 + k) [])) := Lib.hid (by
                unfold keeps
                rw [show i + 1 + (k + 1) - 1 = i + 1 + k by omega, decide_eq_false (show ¬ i + 1 + (k + 1) = 0 by omega), Bool.false_or])
              obtain ⟨r, hr⟩ : ∃ r, (F.getD (i + 1 + (k + 1)) [] == F.getD (i + 1 + k) []) = r := ⟨_, rfl⟩
              rw [hr] at EE HKP
              have HKS := Lib.hid (kept_succ F (i + 1 + (k + 1)))
              obtain ⟨ga, cva, hva, -⟩ := HRV.out (i + 1 + (k + 1)) (by omega)
              obtain ⟨la, hla⟩ : ∃ la, (F.getD (i + 1 + (k + 1)) []).length = la := ⟨_, rfl⟩
              rw [hla] at hva
              obtain ⟨vb, hvb⟩ : ∃ vb, V (i + 1 + k) = vb := ⟨_, rfl⟩
              rw [hva] at ca EE
              rw [hvb] at cb EE
              have HVA := Lib.hid hva
              have q1 : ((k : Int) + 1) - 1 = (k : Int) := by omega
              have bk : (k : Int) + 1 < (t : Int) := by omega
              have hfz := hbk.out.frozen a
              have han : a < n := by omega
              have hca := hbk.out.cell han
              clear hr hva hvb hla
              cases r with
              | false =>
                go_wp2_with fail
                go_quiet ((go_at_call 69; exact Calls.quiet_of (EE.out _)))
                have HL2 : Hid (kept F (i + 1 + (k + 1) + 1) = kept F (i + 1 + (k + 1)) ++ [i + 1 + (k + 1)]) := Lib.hid (by rw [HKS.out, HKP.out]; simp)
                go_wp2_with fail
                go_roundw
                case rel => exact ⟨a + 1, k + 1, _, by go_num, by go_num, by omega, by omega, Lib.hid (by rw [← Nat.add_assoc (i + 1), HL2.out, List.length_append, hlen.out]; rfl), Lib.hid ((show Blk (wr.drewN nq) blk n f from hbk.out).set a _), Lib.hid (fun j hj => by
                  rw [← Nat.add_assoc (i + 1), HL2.out]
                  by_cases e : j = a
                  · subst e
                    rw [if_pos rfl, ← HVA.out, List.getD_eq_getElem?_getD, List.getElem?_append_right (by rw [hlen.out]; exact Nat.le_refl _), hlen.out, Nat.sub_self]; rfl
                  · rw [if_neg e, hfa.out j (by omega), List.getD_eq_getElem?_getD, List.getD_eq_getElem?_getD, List.getElem?_append_left (by rw [hlen.out]; omega)]), Lib.hid (fun j h1 h2 => by rw [if_neg (by omega)]; exact hfv.out j (by omega) h2), Lib.hid ((hal.out.drewN _).setCell _ _)⟩
                case measure => simp [intOf]; omega
              | true =>
                have HL2 : Hid (kept F (i + 1 + (k + 1) + 1) = kept F (i + 1 + (k + 1))) := Lib.hid (by rw [HKS.out, HKP.out]; simp)
                go_wp2_with fail
                go_quiet ((go_at_call 69; exact Calls.quiet_of (EE.out _)))
                go_wp2_with fail
                go_roundw
                case rel => exact ⟨a, k + 1, f, rfl, by go_num, by omega, by omega, Lib.hid (by rw [← Nat.add_assoc (i + 1), HL2.out]; exact hlen.out), Lib.hid hbk.out, Lib.hid (fun j hj => by rw [← Nat.add_assoc (i + 1), HL2.out]; exact hfa.out j hj), Lib.hid (fun j h1 h2 => hfv.out j (by omega) h2), Lib.hid (hal.out.drewN _)⟩
                case measure => simp [intOf]; omega
            · have hca : ¬ cap = a := by omega
              have hkn : Hid (i + 1 + (k + 1) = n) := Lib.hid (by omega)
              have hcl : ∀ ty, (Builtin.clear_ #[33] ty #[.slice (some ⟨blk, a, none⟩) (n - a) (cap - a)]).run Try.prog wr = .ok (.tuple #[]) (wr.setCells blk a (List.replicate (n - a) (.slice none 0 0))) := fun ty =>
                Lib.run_clear_slice wr 33 22 ty (.slice none 0 0) Try.underlying33 Try.zeroValue22 rfl rfl blk a (n - a) (cap - a) (by omega) (fun j hj => by rw [hbk.out.cell (by omega)]; rfl) (fun j hj => hbk.out.frozen _)
              have HBF := Lib.hid (Blk.setCells (List.replicate (n - a) (.slice none 0 0)) a wr (Nat.le_refl _) (hbk.out.cut (m := a) (by omega)))
              have HAF := Lib.hid (Al.setCells (List.replicate (n - a) (.slice none 0 0)) a wr hal.out)
              obtain ⟨wz, hwz⟩ : ∃ wz, wr.setCells blk a (List.replicate (n - a) (.slice none 0 0)) = wz := ⟨_, rfl⟩
              rw [hwz] at HBF HAF
              simp only [hwz] at hcl
              have HKN : Hid (kept F (i + 1 + (k + 1)) = kept F n) := Lib.hid (by rw [hkn.out])
              clear hwz hbk hal
              go_wp2_with fail
              go_ret
              have hl9 := hlen.out
              rw [HKN.out] at hl9
              refine ⟨by rw [hl9]; rfl, ?_, HAF.out⟩
              rw [hl9]
              exact HBF.out.congr (fun j hj => by rw [hfa.out j hj, HKN.out])
      · have HK0 : Hid (kept F n = List.range n) := Lib.hid (kept_all F n (fun j hj => hall.out j (by omega)))
        have HBK := Lib.hid hbk
        have HAL := Lib.hid hal
        have hin : n = i + 1 := by omega
        clear hbk hal
        go_wp2_with fail
        go_ret
        refine ⟨by rw [HK0.out, List.length_range]; rfl, ?_, HAL.out⟩
        rw [HK0.out, List.length_range]
        exact HBK.out.congr (fun j hj => by rw [List.getD_eq_getElem?_getD, List.getElem?_range hj]; rfl)
end Go.Proofs.Ytodnfchkkgoabaa
