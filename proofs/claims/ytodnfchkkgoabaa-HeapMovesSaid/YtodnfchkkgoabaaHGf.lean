/- WALK of Outcomes of the reference. -/
import Derived.Test.YtodnfchkkgoabaaHGe
set_option linter.unusedVariables false
namespace Go.Proofs.Ytodnfchkkgoabaa
open Go.RowKit

theorem own_int_row {w : World} {base n : Nat} {v : Value} {xs : List Value} (h : w.ownsRow base 3 1 v n xs) (hn : 1 ≤ n) : ∃ g c, v = .slice (some ⟨g, 0, none⟩) n c ∧ Blk w g n (fun i => xs.getD i (.int .i64 0)) ∧ v.ownBlock = some g := by
  have h' := h
  rcases h.2 with ⟨h1, h2⟩ | ⟨g, cap, cur, h1, _⟩
  · omega
  · subst h1
    exact ⟨g, cap, rfl, Blk.of_own h', rfl⟩

theorem rst_zero (f : Nat → Nat × Nat) (u : Nat) : rst f 0 u = 2 ∧ rfa f 0 u = 0 := by
  unfold rst rfa
  rw [if_neg (by omega), if_neg (by omega)]
  exact ⟨rfl, rfl⟩
theorem rst_stay {f : Nat → Nat × Nat} {d v : Nat} (h : rst f d v ≠ 2) : rst f (d + 1) v = rst f d v ∧ rfa f (d + 1) v = rfa f d v := by
  obtain ⟨h1, h2, h3⟩ := rst_ne h
  unfold rst rfa
  have p1 : (f v).1 ≠ 2 ∧ (f v).2 < d + 1 := ⟨h2, by omega⟩
  have p2 : (f v).1 ≠ 2 ∧ (f v).2 < d := ⟨h2, h3⟩
  simp only [if_pos p1, if_pos p2, and_self]
theorem rst_new {f : Nat → Nat × Nat} {d v t : Nat} (h : f v = (t, d)) (ht : t ≠ 2) : rst f (d + 1) v = t ∧ rfa f (d + 1) v = d := by
  unfold rst rfa
  rw [h, if_pos ⟨ht, Nat.lt_succ_self d⟩, if_pos ⟨ht, Nat.lt_succ_self d⟩]
  exact ⟨rfl, rfl⟩
theorem rfa_two {f : Nat → Nat × Nat} {d v : Nat} (h : rst f d v = 2) : rfa f d v = 0 := by
  unfold rfa
  by_cases h1 : (f v).1 ≠ 2 ∧ (f v).2 < d
  · unfold rst at h; rw [if_pos h1] at h; exact absurd h h1.1
  · rw [if_neg h1]
theorem rst_le {f : Nat → Nat × Nat} {d v : Nat} (h : (f v).1 ≤ 2) : rst f d v ≤ 2 := by
  unfold rst; split <;> omega

theorem if_next (A B : Nat → Nat) (v u : Nat) : (if u < v + 1 then A u else B u) = if u = v then A v else (if u < v then A u else B u) := by
  by_cases e : u = v
  · subst e; rw [if_pos (Nat.lt_succ_self u), if_pos rfl]
  · rw [if_neg e]
    by_cases h : u < v
    · rw [if_pos h, if_pos (by omega)]
    · rw [if_neg h, if_neg (by omega)]
theorem Blk.put_next {w : World} {g n v : Nat} {A B : Nat → Nat} {x : Int} (h : Blk w g n (fun u => .int .i64 ((if u < v then A u else B u : Nat) : Int))) (hx : x = (A v : Int)) : Blk (w.setCell ⟨g, v, none⟩ (.int .i64 x)) g n (fun u => .int .i64 ((if u < v + 1 then A u else B u : Nat) : Int)) :=
  (h.set v _).congr (fun u _ => by
    rw [if_next]
    by_cases e : u = v
    · rw [if_pos e, if_pos e, hx]
    · rw [if_neg e, if_neg e])
theorem Blk.same_next {w : World} {g n v : Nat} {A B : Nat → Nat} (h : Blk w g n (fun u => .int .i64 ((if u < v then A u else B u : Nat) : Int))) (hx : A v = B v) : Blk w g n (fun u => .int .i64 ((if u < v + 1 then A u else B u : Nat) : Int)) :=
  h.congr (fun u _ => by
    rw [if_next]
    by_cases e : u = v
    · subst e; rw [if_pos rfl, if_neg (Nat.lt_irrefl u), hx]
    · rw [if_neg e])

set_option maxRecDepth 100000 in
set_option maxHeartbeats 4000000 in
theorem ROutcomes_any (G : List (List Nat)) (p : Option Addr) (c : Nat) (W : World) (hG : GN W p G) (hc : chk (intG G) = true) (f : Nat → Nat × Nat) (ho : OutP (dec G) G.length f) :
    Calls Try.prog 39 #[.slice p G.length c] W fun e w' => ∃ go co gd, e = .returned (.tuple #[.slice (some ⟨go, 0, none⟩) G.length co, .slice (some ⟨gd, 0, none⟩) G.length G.length]) ∧
      Blk w' go G.length (fun v => .int .i64 ((f v).1 : Nat)) ∧ Blk w' gd G.length (fun v => .int .i64 ((f v).2 : Nat)) ∧ Below W.heap.size W w' := by
  obtain ⟨l1, l200, hr, hx⟩ := chk_nat hc
  have HP := Lib.hid (chk_plays hc ho)
  have HXX := Lib.hid hx
  have HRR := Lib.hid hr
  have HG := Lib.hid hG
  obtain ⟨n, hn⟩ : ∃ n, G.length = n := ⟨_, rfl⟩
  have HN := Lib.hid hn
  rw [hn] at l1 l200 ⊢
  clear hn hr hx hc hG ho
  obtain ⟨i1, hj, hy0, hy1, hy2⟩ := info_parts infoInt
  obtain ⟨zc, hzc⟩ : ∃ z, madeCells (Value.int .i64 0).cells (n * 1) = z := ⟨_, rfl⟩
  have hmk : ∀ w : World, (Instr.makeSlice 22 (.int .i64 (n : Int)) (.int .i64 (n : Int))).run Try.prog w = .ok (.slice (some ⟨w.heap.size, 0, none⟩) n n) (w.alloc (.cells zc 3)) := fun w => by
    have hr := run_make (P := Try.prog) w 22 3 i1 (.int .i64 0) Try.underlying22 hj hy0 .i64 .i64 n n (by omega) (Int.le_refl _) (by rw [hy2]; omega) (by omega)
    simp only [Int.toNat_natCast, hy1, hzc] at hr
    exact hr
  have HZ : Hid (∀ (w : World) (g : Nat), w.heap[g]? = some (.cells zc 3 (0, 0)) → Blk w g n (fun _ => .int .i64 0)) := Lib.hid (fun w g h => by
    refine ⟨zc, _, h, by rw [← hzc, size_madeCells]; omega, fun i hi => ?_⟩
    have : zc.toList = List.replicate n (.int .i64 0) := by rw [← hzc, Nat.mul_one]; exact toList_madeCells_one _ _
    have h2 : zc.toList[i]? = some (.int .i64 0) := by rw [this, List.getElem?_replicate, if_pos hi]
    rw [← h2]; simp)
  clear hzc
  go_enter Try.func39, Try.ntmps39
  go_wp2_with fail
  go_region
  · obtain ⟨w0, hw0⟩ : ∃ w0, ((W.alloc (.cells zc 3)).alloc (.cells zc 3)).drew = w0 := ⟨_, rfl⟩
    obtain ⟨S, hS⟩ : ∃ S, W.heap.size = S := ⟨_, rfl⟩
    obtain ⟨gk, hgk⟩ : ∃ g, S = g := ⟨_, rfl⟩
    obtain ⟨gd, hgd⟩ : ∃ g, S + 1 = g := ⟨_, rfl⟩
    have hb0 : Below S W w0 := by rw [← hw0]; exact (((Below.refl _ W).alloc (by omega) _).alloc (by simp; omega) _).drew
    have hx0 : w0.heap[S]? = some (.cells zc 3 (0, 0)) := by
      rw [← hw0, ← hS]
      show ((W.alloc _).alloc _).heap[W.heap.size]? = _
      rw [Below.heap_alloc _ _ _ (by simp)]; exact heap_alloc_new _ _
    have hx1 : w0.heap[S + 1]? = some (.cells zc 3 (0, 0)) := by
      rw [← hw0, ← hS]
      show ((W.alloc _).alloc _).heap[W.heap.size + 1]? = _
      have := heap_alloc_new (W.alloc (.cells zc 3)) (.cells zc 3)
      simpa using this
    have HK0 : Hid (Blk w0 gk n (fun _ => .int .i64 0)) := Lib.hid (HZ.out _ _ (by rw [← hgk]; exact hx0))
    have HD0 : Hid (Blk w0 gd n (fun _ => .int .i64 0)) := Lib.hid (HZ.out _ _ (by rw [← hgd]; exact hx1))
    have HB0 := Lib.hid hb0
    have hgl : S ≤ gk ∧ S ≤ gd ∧ gk ≠ gd := by omega
    obtain ⟨hg1, hg2, hg5⟩ := hgl
    rw [hw0]
    simp only [hS]
    simp only [hgd]
    simp only [hgk]
    have HS := Lib.hid hS
    clear hw0 hb0 hx0 hx1 hgk hgd hmk hS HZ
    go_wp2_with fail
    go_loopw [6] (fun i wr => ∃ v : Nat, i = .int .i64 v ∧ v ≤ n ∧ Hid (Blk wr gk n (fun u => if u < v then .int .i64 2 else .int .i64 0)) ∧ Hid (Blk wr gd n (fun _ => .int .i64 0)) ∧ Hid (Below S W wr)) (fun i _ => n - (intOf i).toNat)
    case atStart => exact ⟨0, rfl, by omega, Lib.hid (HK0.out.congr (fun i _ => by simp)), HD0, HB0⟩
    case round =>
      clear HK0 HD0 HB0
      obtain ⟨v, rfl, hv, hk, hd, hb⟩ := hrel
      by_cases hlt : v < n
      · have hck := hk.out.cell hlt
        have hfk := hk.out.frozen v
        simp only [Nat.lt_irrefl, if_false] at hck
        go_wp2_with fail
        go_roundw
        case rel => exact ⟨v + 1, by go_num, by omega, Lib.hid ((hk.out.set v _).congr (fun u _ => by
          by_cases e : u = v
          · subst e; rw [if_pos rfl, if_pos (by omega)]
          · rw [if_neg e]
            by_cases h2 : u < v
            · rw [if_pos h2, if_pos (by omega)]
            · rw [if_neg h2, if_neg (by omega)])), Lib.hid (hd.out.keep (Below.heap_setCell _ _ _ _ (by simp; omega))), Lib.hid (hb.out.setCell (by simp; omega) _)⟩
        case measure => simp [intOf]; omega
      · have HK1 : Hid (Blk wr gk n (fun u => .int .i64 (rst f 0 u : Nat))) := Lib.hid (hk.out.congr (fun u hu => by rw [if_pos (by omega), (rst_zero f u).1]; rfl))
        have HD1 : Hid (Blk wr gd n (fun u => .int .i64 (rfa f 0 u : Nat))) := Lib.hid (hd.out.congr (fun u hu => by rw [(rst_zero f u).2]; rfl))
        clear hk hd
        go_wp2_with fail
        obtain ⟨wq, rfl⟩ : ∃ wq : World, wq = wr := ⟨_, rfl⟩
        go_loopw [4, 7] (fun x y wx => ∃ (go co d : Nat), x = .slice (some ⟨go, 0, none⟩) n co ∧ y = .int .i64 d ∧ d ≤ n + 1 ∧ S ≤ go ∧ go ≠ gd ∧ Hid (Blk wx go n (fun u => .int .i64 (rst f d u : Nat))) ∧ Hid (Blk wx gd n (fun u => .int .i64 (rfa f d u : Nat))) ∧ Hid (Below S W wx)) (fun _ y _ => n + 1 - (intOf y).toNat)
        case atStart => exact ⟨gk, n, 0, rfl, rfl, by omega, hg1, hg5, HK1, HD1, hb⟩
        case round =>
          clear HK1 HD1 hb
          obtain ⟨go, co, d, rfl, rfl, hdn, hgo1, hgo2, hk, hd, hb⟩ := hrel
          by_cases hdl : d ≤ n
          · have hnews : ∀ j u, ((List.range n).map fun u => Value.int .i64 (rst f d u : Nat))[j]? = some u → wr.cell? ((⟨go, 0, none⟩ : Addr).add j) = some u := fun j u hu => by
              have hj2 : j < n := by
                have := (List.getElem?_eq_some_iff.1 hu).1
                simpa using this
              rw [List.getElem?_map, List.getElem?_range hj2] at hu
              simp only [Option.map_some, Option.some.injEq] at hu
              have := hk.out.cell hj2
              have hadd : (⟨go, 0, none⟩ : Addr).add j = ⟨go, j, none⟩ := by unfold Addr.add; split <;> simp_all
              rw [hadd, this, hu]
            have HNW := Lib.hid hnews
            have hgol := hk.out.lt
            have hgdl := hd.out.lt
            have hbs := hb.out.size
            clear hnews
            go_wp2_with (at_builtin; refine wpList_append_own_at _ rfl _ _ 22 rfl S 3 i1 (.int .i64 0) 1 8 Try.underlying22 hj hy0 hy1 hy2 rfl (by decide) (.slice none 0 0) 0 [] rfl (World.ownsRow_nil wr S 3 1) ⟨go, 0, none⟩ n co ((List.range n).map fun u => Value.int .i64 (rst f d u : Nat)) rfl (by simp) HNW.out (fun y hy => by obtain ⟨u, _, rfl⟩ := List.mem_map.1 hy; rfl) (by unfold maxLen; omega) (by omega) (by have := HS.out; omega) ?_; intro v' w4 hw1 hw2 _ hw3; rw [List.nil_append, Nat.zero_add] at hw1; obtain ⟨gn, cn, rfl, hbn, hob⟩ := own_int_row hw1 l1; have hgn : gn = wr.heap.size := (by rcases hw3 with h9 | h9 <;> rw [hob] at h9 <;> cases h9; rfl); have HBN : Hid (Blk w4 gn n (fun u => .int .i64 (rst f d u : Nat))) := Lib.hid (hbn.congr (fun i hi => by rw [List.getD_eq_getElem?_getD, List.getElem?_map, List.getElem?_range hi]; rfl)); have HKK : Hid (Blk w4 go n (fun u => .int .i64 (rst f d u : Nat))) := Lib.hid (hk.out.keep (hw2.block go hgol (by simp [Value.ownBlock]))); have HDD : Hid (Blk w4 gd n (fun u => .int .i64 (rfa f d u : Nat))) := Lib.hid (hd.out.keep (hw2.block gd hgdl (by simp [Value.ownBlock]))); have HBB : Hid (Below S W w4) := Lib.hid (hb.out.trans ⟨hw2.os, hw2.tape, hw2.output, hw2.size, fun b hb' => hw2.block b (by have := HS.out; omega) (by simp [Value.ownBlock])⟩); have hgn1 : gn ≠ go ∧ gn ≠ gd ∧ S ≤ gn := (by have := HS.out; omega); clear hw1 hw2 hw3 hbn hob hgn)
            obtain ⟨hgn1, hgn2, hgn3⟩ := hgn1
            clear hk hd hb HNW hgol hgdl hbs
            go_wp2_with fail
            go_loopw [9] (fun x wx => ∃ v : Nat, x = .int .i64 v ∧ v ≤ n ∧ Hid (Blk wx gn n (fun u => .int .i64 ((if u < v then rst f (d + 1) u else rst f d u : Nat) : Int))) ∧ Hid (Blk wx gd n (fun u => .int .i64 ((if u < v then rfa f (d + 1) u else rfa f d u : Nat) : Int))) ∧ Hid (Blk wx go n (fun u => .int .i64 (rst f d u : Nat))) ∧ Hid (Below S W wx)) (fun x _ => n - (intOf x).toNat)
            case atStart => exact ⟨0, rfl, by omega, Lib.hid (HBN.out.congr (fun u _ => by rw [if_neg (by omega)])), Lib.hid (HDD.out.congr (fun u _ => by rw [if_neg (by omega)])), HKK, HBB⟩
            case round =>
              clear HBN HDD HKK HBB
              obtain ⟨v, rfl, hv, hk, hd, ho, hb⟩ := hrel
              by_cases hlt : v < n
              · have hvG : v < G.length := by rw [HN.out]; exact hlt
                by_cases ha : rst f d v = 2
                · have cO : wr.cell? ⟨go, v, none⟩ = some (.int .i64 2) := by rw [ho.out.cell hlt, ha]; rfl
                  obtain ⟨R, hR⟩ : ∃ R, G.getD v [] = R := ⟨_, rfl⟩
                  obtain ⟨m, hm⟩ : ∃ m, R.length = m := ⟨_, rfl⟩
                  have hm2 : m ≤ 200 := by have := HRR.out v; rw [hR, hm] at this; exact this
                  obtain ⟨g, pv, cv, rfl, cG, hns⟩ := (HG.out.under (X := wr) (by rw [HS.out]; exact hb.out)).row hvG hR
                  rw [hm] at cG
                  have HNS := Lib.hid hns
                  have HM := Lib.hid hm
                  have HRE := Lib.hid hR
                  have HRX : Hid (∀ k, k < m → R.getD k 0 < n ∧ R.getD k 0 ∈ R) := Lib.hid (fun k hk => by
                    have h1 := row_lt HXX.out (v := v) (i := k) (by rw [hR, hm]; exact hk)
                    rw [hR, HN.out] at h1
                    refine ⟨h1, ?_⟩
                    rw [List.getD_eq_getElem?_getD, List.getElem?_eq_getElem (by rw [hm]; exact hk)]
                    exact List.getElem_mem _)
                  have HMEM : Hid (∀ x ∈ R, ∃ k, k < m ∧ R.getD k 0 = x) := Lib.hid (fun x hx => by
                    obtain ⟨k, hk, e⟩ := List.getElem_of_mem hx
                    exact ⟨k, by rw [← hm]; exact hk, by rw [List.getD_eq_getElem?_getD, List.getElem?_eq_getElem hk]; exact e⟩)
                  clear hns hR hm
                  go_wp2_with fail
                  go_loop [10, 11, 12] (fun x y z => ∃ (wo lo : Bool) (k : Nat), x = .bool wo ∧ y = .bool lo ∧ z = .int .i64 k ∧ k ≤ m ∧ Hid (wo = true ↔ ∃ j, j < k ∧ rst f d (R.getD j 0) = 0) ∧ Hid (lo = true ↔ ∀ j, j < k → rst f d (R.getD j 0) = 1)) (fun _ _ z => m - (intOf z).toNat)
                  case atStart => exact ⟨false, true, 0, rfl, rfl, rfl, by omega, Lib.hid (by simp), Lib.hid (by simp)⟩
                  case round =>
                    obtain ⟨wo, lo, k, rfl, rfl, rfl, hkm', hwo, hlo⟩ := hrel
                    by_cases hkm : k < m
                    · have hxn := (HRX.out k hkm).1
                      have cX := ho.out.cell hxn
                      obtain ⟨g2, rfl, cR⟩ := HNS.out k (by rw [HM.out]; exact hkm)
                      have HI0 : Hid ((∃ j, j < k + 1 ∧ rst f d (R.getD j 0) = 0) ↔ (∃ j, j < k ∧ rst f d (R.getD j 0) = 0) ∨ rst f d (R.getD k 0) = 0) := Lib.hid ⟨fun ⟨j, h1, h2⟩ => by
                        by_cases e : j = k
                        · subst e; exact .inr h2
                        · exact .inl ⟨j, by omega, h2⟩, fun h => by
                        rcases h with ⟨j, h1, h2⟩ | h
                        · exact ⟨j, by omega, h2⟩
                        · exact ⟨k, by omega, h⟩⟩
                      have HI1 : Hid ((∀ j, j < k + 1 → rst f d (R.getD j 0) = 1) ↔ (∀ j, j < k → rst f d (R.getD j 0) = 1) ∧ rst f d (R.getD k 0) = 1) := Lib.hid ⟨fun h => ⟨fun j hj => h j (by omega), h k (by omega)⟩, fun h j hj => by
                        by_cases e : j = k
                        · subst e; exact h.2
                        · exact h.1 j (by omega)⟩
                      generalize rst f d (R.getD k 0) = b at cX HI0 HI1
                      generalize R.getD k 0 = x at cX cR hxn
                      have bx : (x : Int) < (n : Int) := by omega
                      have bk : (k : Int) < (m : Int) := by omega
                      cases wo with
                      | true =>
                        cases lo with
                        | true =>
                          go_wp2_with fail
                          go_round
                          case rel => exact ⟨_, _, k + 1, rfl, rfl, by go_num, by omega, Lib.hid (by rw [HI0.out]; exact ⟨fun _ => .inl (hwo.out.1 (by trivial)), fun _ => rfl⟩), Lib.hid (by rw [HI1.out]; exact ⟨fun h => ⟨hlo.out.1 (by trivial), by have h' : ((b : Int) == 1) = true := h; simp at h'; omega⟩, fun h => by have := h.2; simp; omega⟩)⟩
                          case measure => simp [intOf]; omega
                        | false =>
                          go_wp2_with fail
                          go_round
                          case rel => exact ⟨_, _, k + 1, rfl, rfl, by go_num, by omega, Lib.hid (by rw [HI0.out]; exact ⟨fun _ => .inl (hwo.out.1 (by trivial)), fun _ => rfl⟩), Lib.hid (by rw [HI1.out]; exact ⟨fun h => (by cases h), fun h => by have := hlo.out.2 h.1; cases this⟩)⟩
                          case measure => simp [intOf]; omega
                      | false =>
                        cases lo with
                        | true =>
                          go_wp2_with fail
                          go_round
                          case rel => exact ⟨_, _, k + 1, rfl, rfl, by go_num, by omega, Lib.hid (by rw [HI0.out]; exact ⟨fun h => .inr (by have h' : ((b : Int) == 0) = true := h; simp at h'; omega), fun h => by
                              rcases h with h | h
                              · have := hwo.out.2 h; cases this
                              · simp; omega⟩), Lib.hid (by rw [HI1.out]; exact ⟨fun h => ⟨hlo.out.1 (by trivial), by have h' : ((b : Int) == 1) = true := h; simp at h'; omega⟩, fun h => by have := h.2; simp; omega⟩)⟩
                          case measure => simp [intOf]; omega
                        | false =>
                          go_wp2_with fail
                          go_round
                          case rel => exact ⟨_, _, k + 1, rfl, rfl, by go_num, by omega, Lib.hid (by rw [HI0.out]; exact ⟨fun h => .inr (by have h' : ((b : Int) == 0) = true := h; simp at h'; omega), fun h => by
                              rcases h with h | h
                              · have := hwo.out.2 h; cases this
                              · simp; omega⟩), Lib.hid (by rw [HI1.out]; exact ⟨fun h => (by cases h), fun h => by have := hlo.out.2 h.1; cases this⟩)⟩
                          case measure => simp [intOf]; omega
                    · have HWO : Hid (wo = true ↔ ∃ w ∈ G.getD v [], rst f d w = 0) := Lib.hid (by
                        rw [hwo.out, HRE.out]
                        exact ⟨fun ⟨j, h1, h2⟩ => ⟨_, (HRX.out j (by omega)).2, h2⟩, fun ⟨w, h1, h2⟩ => by
                          obtain ⟨j, h3, rfl⟩ := HMEM.out w h1
                          exact ⟨j, by omega, h2⟩⟩)
                      have HLO : Hid (lo = true ↔ ∀ w ∈ G.getD v [], rst f d w = 1) := Lib.hid (by
                        rw [hlo.out, HRE.out]
                        exact ⟨fun h w hw => by
                          obtain ⟨j, h3, rfl⟩ := HMEM.out w hw
                          exact h j (by omega), fun h j hj => h _ (HRX.out j (by omega)).2⟩)
                      clear hwo hlo
                      cases wo with
                      | true =>
                        have hfv := HP.out.r_won hvG ha (HWO.out.1 rfl)
                        clear HWO HLO
                        have hcn := hk.out.cell hlt
                        have hfn := hk.out.frozen v
                        have hcd := hd.out.cell hlt
                        have hfd := hd.out.frozen v
                        have HNW := Lib.hid (rst_new hfv (by decide))
                        have l1n := Lib.hid hk.out.lt
                        have l2n := Lib.hid hd.out.lt
                        clear hfv
                        go_wp2_with fail
                        go_roundw
                        case rel => exact ⟨v + 1, by go_num, by omega, Lib.hid ((hk.out.put_next (by rw [HNW.out.1]; rfl)).keep (Below.heap_setCell _ _ _ _ (by simpa using hgn2))), Lib.hid ((hd.out.keep (Below.heap_setCell _ _ _ _ (by simpa using fun e => hgn2 e.symm))).put_next (by rw [HNW.out.2])), Lib.hid ((ho.out.keep (Below.heap_setCell _ _ _ _ (by simpa using fun e => hgn1 e.symm))).keep (Below.heap_setCell _ _ _ _ (by simpa using hgo2))), Lib.hid ((hb.out.setCell (by simp; omega) _).setCell (by simp; omega) _)⟩
                        case measure => simp [intOf]; omega
                      | false =>
                        cases lo with
                        | true =>
                          have hfv := HP.out.r_lost hvG ha (HLO.out.1 rfl)
                          clear HWO HLO
                          have hcn := hk.out.cell hlt
                          have hfn := hk.out.frozen v
                          have hcd := hd.out.cell hlt
                          have hfd := hd.out.frozen v
                          have HNW := Lib.hid (rst_new hfv (by decide))
                          have l1n := Lib.hid hk.out.lt
                          have l2n := Lib.hid hd.out.lt
                          clear hfv
                          go_wp2_with fail
                          go_roundw
                          case rel => exact ⟨v + 1, by go_num, by omega, Lib.hid ((hk.out.put_next (by rw [HNW.out.1]; rfl)).keep (Below.heap_setCell _ _ _ _ (by simpa using hgn2))), Lib.hid ((hd.out.keep (Below.heap_setCell _ _ _ _ (by simpa using fun e => hgn2 e.symm))).put_next (by rw [HNW.out.2])), Lib.hid ((ho.out.keep (Below.heap_setCell _ _ _ _ (by simpa using fun e => hgn1 e.symm))).keep (Below.heap_setCell _ _ _ _ (by simpa using hgo2))), Lib.hid ((hb.out.setCell (by simp; omega) _).setCell (by simp; omega) _)⟩
                          case measure => simp [intOf]; omega
                        | false =>
                          have hnx := HP.out.r_not hvG ha (fun h => by have := HWO.out.2 h; cases this) (fun h => by have := HLO.out.2 h; cases this)
                          have HNX : Hid (rst f (d + 1) v = rst f d v ∧ rfa f (d + 1) v = rfa f d v) := Lib.hid ⟨by rw [hnx, ha], by rw [rfa_two hnx, rfa_two ha]⟩
                          clear HWO HLO hnx
                          go_wp2_with fail
                          go_roundw
                          case rel => exact ⟨v + 1, by go_num, by omega, Lib.hid (hk.out.same_next HNX.out.1), Lib.hid (hd.out.same_next HNX.out.2), ho, hb⟩
                          case measure => simp [intOf]; omega
                · have cO := ho.out.cell hlt
                  have HNX := Lib.hid (rst_stay ha)
                  generalize rst f d v = a at cO ha
                  have qa : ((a : Int) != 2) = true := by simp; omega
                  go_wp2_with fail
                  go_roundw
                  case rel => exact ⟨v + 1, by go_num, by omega, Lib.hid (hk.out.same_next HNX.out.1), Lib.hid (hd.out.same_next HNX.out.2), ho, hb⟩
                  case measure => simp [intOf]; omega
              · have HKE : Hid (Blk wr gn n (fun u => .int .i64 (rst f (d + 1) u : Nat))) := Lib.hid (hk.out.congr (fun u hu => by rw [if_pos (by omega)]))
                have HDE : Hid (Blk wr gd n (fun u => .int .i64 (rfa f (d + 1) u : Nat))) := Lib.hid (hd.out.congr (fun u hu => by rw [if_pos (by omega)]))
                clear hk hd ho
                go_wp2_with fail
                go_roundw
                case rel => exact ⟨gn, cn, d + 1, rfl, by go_num, by omega, hgn3, hgn2, HKE, HDE, hb⟩
                case measure => simp [intOf]; omega
          · obtain rfl : d = n + 1 := by omega
            have HE : Hid (∀ u, u < n → rst f (n + 1) u = (f u).1 ∧ rfa f (n + 1) u = (f u).2) := Lib.hid (fun u hu => HP.out.r_end HXX.out (by rw [HN.out]; exact hu) (by rw [HN.out]; omega))
            go_wp2_with fail
            go_ret2
            exact ⟨go, co, gd, rfl, hk.out.congr (fun u hu => by rw [(HE.out u hu).1]), hd.out.congr (fun u hu => by rw [(HE.out u hu).2]), by rw [HS.out]; exact hb.out⟩
  · obtain ⟨w0, hw0⟩ : ∃ w0, ((W.alloc (.cells zc 3)).alloc (.cells zc 3)).drew = w0 := ⟨_, rfl⟩
    obtain ⟨S, hS⟩ : ∃ S, W.heap.size = S := ⟨_, rfl⟩
    obtain ⟨gk, hgk⟩ : ∃ g, S + 1 = g := ⟨_, rfl⟩
    obtain ⟨gd, hgd⟩ : ∃ g, S = g := ⟨_, rfl⟩
    have hb0 : Below S W w0 := by rw [← hw0]; exact (((Below.refl _ W).alloc (by omega) _).alloc (by simp; omega) _).drew
    have hx0 : w0.heap[S]? = some (.cells zc 3 (0, 0)) := by
      rw [← hw0, ← hS]
      show ((W.alloc _).alloc _).heap[W.heap.size]? = _
      rw [Below.heap_alloc _ _ _ (by simp)]; exact heap_alloc_new _ _
    have hx1 : w0.heap[S + 1]? = some (.cells zc 3 (0, 0)) := by
      rw [← hw0, ← hS]
      show ((W.alloc _).alloc _).heap[W.heap.size + 1]? = _
      have := heap_alloc_new (W.alloc (.cells zc 3)) (.cells zc 3)
      simpa using this
    have HK0 : Hid (Blk w0 gk n (fun _ => .int .i64 0)) := Lib.hid (HZ.out _ _ (by rw [← hgk]; exact hx1))
    have HD0 : Hid (Blk w0 gd n (fun _ => .int .i64 0)) := Lib.hid (HZ.out _ _ (by rw [← hgd]; exact hx0))
    have HB0 := Lib.hid hb0
    have hgl : S ≤ gk ∧ S ≤ gd ∧ gk ≠ gd := by omega
    obtain ⟨hg1, hg2, hg5⟩ := hgl
    rw [hw0]
    simp only [hS]
    simp only [hgk]
    simp only [hgd]
    have HS := Lib.hid hS
    clear hw0 hb0 hx0 hx1 hgk hgd hmk hS HZ
    go_wp2_with fail
    go_loopw [6] (fun i wr => ∃ v : Nat, i = .int .i64 v ∧ v ≤ n ∧ Hid (Blk wr gk n (fun u => if u < v then .int .i64 2 else .int .i64 0)) ∧ Hid (Blk wr gd n (fun _ => .int .i64 0)) ∧ Hid (Below S W wr)) (fun i _ => n - (intOf i).toNat)
    case atStart => exact ⟨0, rfl, by omega, Lib.hid (HK0.out.congr (fun i _ => by simp)), HD0, HB0⟩
    case round =>
      clear HK0 HD0 HB0
      obtain ⟨v, rfl, hv, hk, hd, hb⟩ := hrel
      by_cases hlt : v < n
      · have hck := hk.out.cell hlt
        have hfk := hk.out.frozen v
        simp only [Nat.lt_irrefl, if_false] at hck
        go_wp2_with fail
        go_roundw
        case rel => exact ⟨v + 1, by go_num, by omega, Lib.hid ((hk.out.set v _).congr (fun u _ => by
          by_cases e : u = v
          · subst e; rw [if_pos rfl, if_pos (by omega)]
          · rw [if_neg e]
            by_cases h2 : u < v
            · rw [if_pos h2, if_pos (by omega)]
            · rw [if_neg h2, if_neg (by omega)])), Lib.hid (hd.out.keep (Below.heap_setCell _ _ _ _ (by simp; omega))), Lib.hid (hb.out.setCell (by simp; omega) _)⟩
        case measure => simp [intOf]; omega
      · have HK1 : Hid (Blk wr gk n (fun u => .int .i64 (rst f 0 u : Nat))) := Lib.hid (hk.out.congr (fun u hu => by rw [if_pos (by omega), (rst_zero f u).1]; rfl))
        have HD1 : Hid (Blk wr gd n (fun u => .int .i64 (rfa f 0 u : Nat))) := Lib.hid (hd.out.congr (fun u hu => by rw [(rst_zero f u).2]; rfl))
        clear hk hd
        go_wp2_with fail
        obtain ⟨wq, rfl⟩ : ∃ wq : World, wq = wr := ⟨_, rfl⟩
        go_loopw [4, 7] (fun x y wx => ∃ (go co d : Nat), x = .slice (some ⟨go, 0, none⟩) n co ∧ y = .int .i64 d ∧ d ≤ n + 1 ∧ S ≤ go ∧ go ≠ gd ∧ Hid (Blk wx go n (fun u => .int .i64 (rst f d u : Nat))) ∧ Hid (Blk wx gd n (fun u => .int .i64 (rfa f d u : Nat))) ∧ Hid (Below S W wx)) (fun _ y _ => n + 1 - (intOf y).toNat)
        case atStart => exact ⟨gk, n, 0, rfl, rfl, by omega, hg1, hg5, HK1, HD1, hb⟩
        case round =>
          clear HK1 HD1 hb
          obtain ⟨go, co, d, rfl, rfl, hdn, hgo1, hgo2, hk, hd, hb⟩ := hrel
          by_cases hdl : d ≤ n
          · have hnews : ∀ j u, ((List.range n).map fun u => Value.int .i64 (rst f d u : Nat))[j]? = some u → wr.cell? ((⟨go, 0, none⟩ : Addr).add j) = some u := fun j u hu => by
              have hj2 : j < n := by
                have := (List.getElem?_eq_some_iff.1 hu).1
                simpa using this
              rw [List.getElem?_map, List.getElem?_range hj2] at hu
              simp only [Option.map_some, Option.some.injEq] at hu
              have := hk.out.cell hj2
              have hadd : (⟨go, 0, none⟩ : Addr).add j = ⟨go, j, none⟩ := by unfold Addr.add; split <;> simp_all
              rw [hadd, this, hu]
            have HNW := Lib.hid hnews
            have hgol := hk.out.lt
            have hgdl := hd.out.lt
            have hbs := hb.out.size
            clear hnews
            go_wp2_with (at_builtin; refine wpList_append_own_at _ rfl _ _ 22 rfl S 3 i1 (.int .i64 0) 1 8 Try.underlying22 hj hy0 hy1 hy2 rfl (by decide) (.slice none 0 0) 0 [] rfl (World.ownsRow_nil wr S 3 1) ⟨go, 0, none⟩ n co ((List.range n).map fun u => Value.int .i64 (rst f d u : Nat)) rfl (by simp) HNW.out (fun y hy => by obtain ⟨u, _, rfl⟩ := List.mem_map.1 hy; rfl) (by unfold maxLen; omega) (by omega) (by have := HS.out; omega) ?_; intro v' w4 hw1 hw2 _ hw3; rw [List.nil_append, Nat.zero_add] at hw1; obtain ⟨gn, cn, rfl, hbn, hob⟩ := own_int_row hw1 l1; have hgn : gn = wr.heap.size := (by rcases hw3 with h9 | h9 <;> rw [hob] at h9 <;> cases h9; rfl); have HBN : Hid (Blk w4 gn n (fun u => .int .i64 (rst f d u : Nat))) := Lib.hid (hbn.congr (fun i hi => by rw [List.getD_eq_getElem?_getD, List.getElem?_map, List.getElem?_range hi]; rfl)); have HKK : Hid (Blk w4 go n (fun u => .int .i64 (rst f d u : Nat))) := Lib.hid (hk.out.keep (hw2.block go hgol (by simp [Value.ownBlock]))); have HDD : Hid (Blk w4 gd n (fun u => .int .i64 (rfa f d u : Nat))) := Lib.hid (hd.out.keep (hw2.block gd hgdl (by simp [Value.ownBlock]))); have HBB : Hid (Below S W w4) := Lib.hid (hb.out.trans ⟨hw2.os, hw2.tape, hw2.output, hw2.size, fun b hb' => hw2.block b (by have := HS.out; omega) (by simp [Value.ownBlock])⟩); have hgn1 : gn ≠ go ∧ gn ≠ gd ∧ S ≤ gn := (by have := HS.out; omega); clear hw1 hw2 hw3 hbn hob hgn)
            obtain ⟨hgn1, hgn2, hgn3⟩ := hgn1
            clear hk hd hb HNW hgol hgdl hbs
            go_wp2_with fail
            go_loopw [9] (fun x wx => ∃ v : Nat, x = .int .i64 v ∧ v ≤ n ∧ Hid (Blk wx gn n (fun u => .int .i64 ((if u < v then rst f (d + 1) u else rst f d u : Nat) : Int))) ∧ Hid (Blk wx gd n (fun u => .int .i64 ((if u < v then rfa f (d + 1) u else rfa f d u : Nat) : Int))) ∧ Hid (Blk wx go n (fun u => .int .i64 (rst f d u : Nat))) ∧ Hid (Below S W wx)) (fun x _ => n - (intOf x).toNat)
            case atStart => exact ⟨0, rfl, by omega, Lib.hid (HBN.out.congr (fun u _ => by rw [if_neg (by omega)])), Lib.hid (HDD.out.congr (fun u _ => by rw [if_neg (by omega)])), HKK, HBB⟩
            case round =>
              clear HBN HDD HKK HBB
              obtain ⟨v, rfl, hv, hk, hd, ho, hb⟩ := hrel
              by_cases hlt : v < n
              · have hvG : v < G.length := by rw [HN.out]; exact hlt
                by_cases ha : rst f d v = 2
                · have cO : wr.cell? ⟨go, v, none⟩ = some (.int .i64 2) := by rw [ho.out.cell hlt, ha]; rfl
                  obtain ⟨R, hR⟩ : ∃ R, G.getD v [] = R := ⟨_, rfl⟩
                  obtain ⟨m, hm⟩ : ∃ m, R.length = m := ⟨_, rfl⟩
                  have hm2 : m ≤ 200 := by have := HRR.out v; rw [hR, hm] at this; exact this
                  obtain ⟨g, pv, cv, rfl, cG, hns⟩ := (HG.out.under (X := wr) (by rw [HS.out]; exact hb.out)).row hvG hR
                  rw [hm] at cG
                  have HNS := Lib.hid hns
                  have HM := Lib.hid hm
                  have HRE := Lib.hid hR
                  have HRX : Hid (∀ k, k < m → R.getD k 0 < n ∧ R.getD k 0 ∈ R) := Lib.hid (fun k hk => by
                    have h1 := row_lt HXX.out (v := v) (i := k) (by rw [hR, hm]; exact hk)
                    rw [hR, HN.out] at h1
                    refine ⟨h1, ?_⟩
                    rw [List.getD_eq_getElem?_getD, List.getElem?_eq_getElem (by rw [hm]; exact hk)]
                    exact List.getElem_mem _)
                  have HMEM : Hid (∀ x ∈ R, ∃ k, k < m ∧ R.getD k 0 = x) := Lib.hid (fun x hx => by
                    obtain ⟨k, hk, e⟩ := List.getElem_of_mem hx
                    exact ⟨k, by rw [← hm]; exact hk, by rw [List.getD_eq_getElem?_getD, List.getElem?_eq_getElem hk]; exact e⟩)
                  clear hns hR hm
                  go_wp2_with fail
                  go_loop [10, 11, 12] (fun x y z => ∃ (wo lo : Bool) (k : Nat), x = .bool wo ∧ y = .bool lo ∧ z = .int .i64 k ∧ k ≤ m ∧ Hid (wo = true ↔ ∃ j, j < k ∧ rst f d (R.getD j 0) = 0) ∧ Hid (lo = true ↔ ∀ j, j < k → rst f d (R.getD j 0) = 1)) (fun _ _ z => m - (intOf z).toNat)
                  case atStart => exact ⟨false, true, 0, rfl, rfl, rfl, by omega, Lib.hid (by simp), Lib.hid (by simp)⟩
                  case round =>
                    obtain ⟨wo, lo, k, rfl, rfl, rfl, hkm', hwo, hlo⟩ := hrel
                    by_cases hkm : k < m
                    · have hxn := (HRX.out k hkm).1
                      have cX := ho.out.cell hxn
                      obtain ⟨g2, rfl, cR⟩ := HNS.out k (by rw [HM.out]; exact hkm)
                      have HI0 : Hid ((∃ j, j < k + 1 ∧ rst f d (R.getD j 0) = 0) ↔ (∃ j, j < k ∧ rst f d (R.getD j 0) = 0) ∨ rst f d (R.getD k 0) = 0) := Lib.hid ⟨fun ⟨j, h1, h2⟩ => by
                        by_cases e : j = k
                        · subst e; exact .inr h2
                        · exact .inl ⟨j, by omega, h2⟩, fun h => by
                        rcases h with ⟨j, h1, h2⟩ | h
                        · exact ⟨j, by omega, h2⟩
                        · exact ⟨k, by omega, h⟩⟩
                      have HI1 : Hid ((∀ j, j < k + 1 → rst f d (R.getD j 0) = 1) ↔ (∀ j, j < k → rst f d (R.getD j 0) = 1) ∧ rst f d (R.getD k 0) = 1) := Lib.hid ⟨fun h => ⟨fun j hj => h j (by omega), h k (by omega)⟩, fun h j hj => by
                        by_cases e : j = k
                        · subst e; exact h.2
                        · exact h.1 j (by omega)⟩
                      generalize rst f d (R.getD k 0) = b at cX HI0 HI1
                      generalize R.getD k 0 = x at cX cR hxn
                      have bx : (x : Int) < (n : Int) := by omega
                      have bk : (k : Int) < (m : Int) := by omega
                      cases wo with
                      | true =>
                        cases lo with
                        | true =>
                          go_wp2_with fail
                          go_round
                          case rel => exact ⟨_, _, k + 1, rfl, rfl, by go_num, by omega, Lib.hid (by rw [HI0.out]; exact ⟨fun _ => .inl (hwo.out.1 (by trivial)), fun _ => rfl⟩), Lib.hid (by rw [HI1.out]; exact ⟨fun h => ⟨hlo.out.1 (by trivial), by have h' : ((b : Int) == 1) = true := h; simp at h'; omega⟩, fun h => by have := h.2; simp; omega⟩)⟩
                          case measure => simp [intOf]; omega
                        | false =>
                          go_wp2_with fail
                          go_round
                          case rel => exact ⟨_, _, k + 1, rfl, rfl, by go_num, by omega, Lib.hid (by rw [HI0.out]; exact ⟨fun _ => .inl (hwo.out.1 (by trivial)), fun _ => rfl⟩), Lib.hid (by rw [HI1.out]; exact ⟨fun h => (by cases h), fun h => by have := hlo.out.2 h.1; cases this⟩)⟩
                          case measure => simp [intOf]; omega
                      | false =>
                        cases lo with
                        | true =>
                          go_wp2_with fail
                          go_round
                          case rel => exact ⟨_, _, k + 1, rfl, rfl, by go_num, by omega, Lib.hid (by rw [HI0.out]; exact ⟨fun h => .inr (by have h' : ((b : Int) == 0) = true := h; simp at h'; omega), fun h => by
                              rcases h with h | h
                              · have := hwo.out.2 h; cases this
                              · simp; omega⟩), Lib.hid (by rw [HI1.out]; exact ⟨fun h => ⟨hlo.out.1 (by trivial), by have h' : ((b : Int) == 1) = true := h; simp at h'; omega⟩, fun h => by have := h.2; simp; omega⟩)⟩
                          case measure => simp [intOf]; omega
                        | false =>
                          go_wp2_with fail
                          go_round
                          case rel => exact ⟨_, _, k + 1, rfl, rfl, by go_num, by omega, Lib.hid (by rw [HI0.out]; exact ⟨fun h => .inr (by have h' : ((b : Int) == 0) = true := h; simp at h'; omega), fun h => by
                              rcases h with h | h
                              · have := hwo.out.2 h; cases this
                              · simp; omega⟩), Lib.hid (by rw [HI1.out]; exact ⟨fun h => (by cases h), fun h => by have := hlo.out.2 h.1; cases this⟩)⟩
                          case measure => simp [intOf]; omega
                    · have HWO : Hid (wo = true ↔ ∃ w ∈ G.getD v [], rst f d w = 0) := Lib.hid (by
                        rw [hwo.out, HRE.out]
                        exact ⟨fun ⟨j, h1, h2⟩ => ⟨_, (HRX.out j (by omega)).2, h2⟩, fun ⟨w, h1, h2⟩ => by
                          obtain ⟨j, h3, rfl⟩ := HMEM.out w h1
                          exact ⟨j, by omega, h2⟩⟩)
                      have HLO : Hid (lo = true ↔ ∀ w ∈ G.getD v [], rst f d w = 1) := Lib.hid (by
                        rw [hlo.out, HRE.out]
                        exact ⟨fun h w hw => by
                          obtain ⟨j, h3, rfl⟩ := HMEM.out w hw
                          exact h j (by omega), fun h j hj => h _ (HRX.out j (by omega)).2⟩)
                      clear hwo hlo
                      cases wo with
                      | true =>
                        have hfv := HP.out.r_won hvG ha (HWO.out.1 rfl)
                        clear HWO HLO
                        have hcn := hk.out.cell hlt
                        have hfn := hk.out.frozen v
                        have hcd := hd.out.cell hlt
                        have hfd := hd.out.frozen v
                        have HNW := Lib.hid (rst_new hfv (by decide))
                        have l1n := Lib.hid hk.out.lt
                        have l2n := Lib.hid hd.out.lt
                        clear hfv
                        go_wp2_with fail
                        go_roundw
                        case rel => exact ⟨v + 1, by go_num, by omega, Lib.hid ((hk.out.put_next (by rw [HNW.out.1]; rfl)).keep (Below.heap_setCell _ _ _ _ (by simpa using hgn2))), Lib.hid ((hd.out.keep (Below.heap_setCell _ _ _ _ (by simpa using fun e => hgn2 e.symm))).put_next (by rw [HNW.out.2])), Lib.hid ((ho.out.keep (Below.heap_setCell _ _ _ _ (by simpa using fun e => hgn1 e.symm))).keep (Below.heap_setCell _ _ _ _ (by simpa using hgo2))), Lib.hid ((hb.out.setCell (by simp; omega) _).setCell (by simp; omega) _)⟩
                        case measure => simp [intOf]; omega
                      | false =>
                        cases lo with
                        | true =>
                          have hfv := HP.out.r_lost hvG ha (HLO.out.1 rfl)
                          clear HWO HLO
                          have hcn := hk.out.cell hlt
                          have hfn := hk.out.frozen v
                          have hcd := hd.out.cell hlt
                          have hfd := hd.out.frozen v
                          have HNW := Lib.hid (rst_new hfv (by decide))
                          have l1n := Lib.hid hk.out.lt
                          have l2n := Lib.hid hd.out.lt
                          clear hfv
                          go_wp2_with fail
                          go_roundw
                          case rel => exact ⟨v + 1, by go_num, by omega, Lib.hid ((hk.out.put_next (by rw [HNW.out.1]; rfl)).keep (Below.heap_setCell _ _ _ _ (by simpa using hgn2))), Lib.hid ((hd.out.keep (Below.heap_setCell _ _ _ _ (by simpa using fun e => hgn2 e.symm))).put_next (by rw [HNW.out.2])), Lib.hid ((ho.out.keep (Below.heap_setCell _ _ _ _ (by simpa using fun e => hgn1 e.symm))).keep (Below.heap_setCell _ _ _ _ (by simpa using hgo2))), Lib.hid ((hb.out.setCell (by simp; omega) _).setCell (by simp; omega) _)⟩
                          case measure => simp [intOf]; omega
                        | false =>
                          have hnx := HP.out.r_not hvG ha (fun h => by have := HWO.out.2 h; cases this) (fun h => by have := HLO.out.2 h; cases this)
                          have HNX : Hid (rst f (d + 1) v = rst f d v ∧ rfa f (d + 1) v = rfa f d v) := Lib.hid ⟨by rw [hnx, ha], by rw [rfa_two hnx, rfa_two ha]⟩
                          clear HWO HLO hnx
                          go_wp2_with fail
                          go_roundw
                          case rel => exact ⟨v + 1, by go_num, by omega, Lib.hid (hk.out.same_next HNX.out.1), Lib.hid (hd.out.same_next HNX.out.2), ho, hb⟩
                          case measure => simp [intOf]; omega
                · have cO := ho.out.cell hlt
                  have HNX := Lib.hid (rst_stay ha)
                  generalize rst f d v = a at cO ha
                  have qa : ((a : Int) != 2) = true := by simp; omega
                  go_wp2_with fail
                  go_roundw
                  case rel => exact ⟨v + 1, by go_num, by omega, Lib.hid (hk.out.same_next HNX.out.1), Lib.hid (hd.out.same_next HNX.out.2), ho, hb⟩
                  case measure => simp [intOf]; omega
              · have HKE : Hid (Blk wr gn n (fun u => .int .i64 (rst f (d + 1) u : Nat))) := Lib.hid (hk.out.congr (fun u hu => by rw [if_pos (by omega)]))
                have HDE : Hid (Blk wr gd n (fun u => .int .i64 (rfa f (d + 1) u : Nat))) := Lib.hid (hd.out.congr (fun u hu => by rw [if_pos (by omega)]))
                clear hk hd ho
                go_wp2_with fail
                go_roundw
                case rel => exact ⟨gn, cn, d + 1, rfl, by go_num, by omega, hgn3, hgn2, HKE, HDE, hb⟩
                case measure => simp [intOf]; omega
          · obtain rfl : d = n + 1 := by omega
            have HE : Hid (∀ u, u < n → rst f (n + 1) u = (f u).1 ∧ rfa f (n + 1) u = (f u).2) := Lib.hid (fun u hu => HP.out.r_end HXX.out (by rw [HN.out]; exact hu) (by rw [HN.out]; omega))
            go_wp2_with fail
            go_ret2
            exact ⟨go, co, gd, rfl, hk.out.congr (fun u hu => by rw [(HE.out u hu).1]), hd.out.congr (fun u hu => by rw [(HE.out u hu).2]), by rw [HS.out]; exact hb.out⟩
end Go.Proofs.Ytodnfchkkgoabaa
