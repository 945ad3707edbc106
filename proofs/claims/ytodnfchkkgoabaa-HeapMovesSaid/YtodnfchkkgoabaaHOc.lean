/- WALK of Outcomes. -/
import Derived.Test.YtodnfchkkgoabaaHDc
import Derived.BigRegion
set_option linter.unusedVariables false
namespace Go.Proofs.Ytodnfchkkgoabaa
open Go.RowKit

/-- A list of naturals as integers. -/
def ints (r : List Nat) : List Int := r.map fun x : Nat => (x : Int)
def intG (G : List (List Nat)) : List (List Int) := G.map ints

theorem ints_getD (r : List Nat) (i : Nat) : (ints r).getD i 0 = ((r.getD i 0 : Nat) : Int) := by
  unfold ints
  rw [List.getD_eq_getElem?_getD, List.getElem?_map, List.getD_eq_getElem?_getD]
  cases r[i]? <;> rfl
theorem intG_row (G : List (List Nat)) (v : Nat) : (intG G).getD v [] = ints (G.getD v []) := by
  unfold intG
  rw [List.getD_eq_getElem?_getD, List.getElem?_map, List.getD_eq_getElem?_getD]
  cases G[v]? <;> rfl
theorem GN.gi {w : World} {p : Option Addr} {G : List (List Nat)} (h : GN w p G) : GI w p (intG G) := by
  intro v hv
  obtain ⟨g, pv, cv, e, hc, hn⟩ := h v (by simpa [intG] using hv)
  refine ⟨g, pv, cv, e, by rw [intG_row]; unfold ints; rw [List.length_map]; exact hc, ?_⟩
  rw [intG_row]
  intro i hi
  obtain ⟨g', e', hc'⟩ := hn i (by simpa [ints] using hi)
  refine ⟨g', e', ?_⟩
  rw [hc', ints_getD]

theorem chkRow_all (n : Int) : ∀ (r : List Nat) (last : Int), -1 ≤ last → last < n → chkRow n last (ints r) = true → (∀ x ∈ r, last < (x : Int) ∧ (x : Int) < n) ∧ (r.length : Int) ≤ n - 1 - last := by
  intro r
  induction r with
  | nil => intro last h1 h2 _; exact ⟨by simp, by simp; omega⟩
  | cons y r ih =>
    intro last h1 h2 h
    simp only [ints, List.map_cons, chkRow, Bool.and_eq_true, decide_eq_true_eq] at h
    have := ih (y : Int) (by omega) h.1.2 h.2
    refine ⟨fun x hx => ?_, by rw [List.length_cons]; omega⟩
    rcases List.mem_cons.1 hx with rfl | hx
    · exact h.1
    · have := this.1 x hx; omega

theorem chk_nat {G : List (List Nat)} (h : chk (intG G) = true) : 1 ≤ G.length ∧ G.length ≤ 200 ∧ (∀ v, (G.getD v []).length ≤ 200) ∧ ∀ v, ∀ x ∈ G.getD v [], x < G.length := by
  unfold chk at h
  simp only [Bool.and_eq_true, decide_eq_true_eq, List.all_eq_true] at h
  have hl : (intG G).length = G.length := by simp [intG]
  rw [hl] at h
  obtain ⟨⟨h1, h2⟩, h3⟩ := h
  have key : ∀ v, (∀ x ∈ G.getD v [], (x : Int) < G.length) ∧ ((G.getD v []).length : Int) ≤ G.length := fun v => by
    by_cases hv : v < G.length
    · have := h3 ((intG G).getD v []) (by rw [List.getD_eq_getElem?_getD, List.getElem?_eq_getElem (by rw [hl]; exact hv)]; exact List.getElem_mem _)
      rw [intG_row] at this
      have := chkRow_all _ _ _ (by omega) (by omega) this
      exact ⟨fun x hx => (this.1 x hx).2, by omega⟩
    · rw [List.getD_eq_getElem?_getD, List.getElem?_eq_none (by omega)]
      exact ⟨by simp, by simp⟩
  exact ⟨h1, h2, fun v => by have := (key v).2; omega, fun v x hx => by have := (key v).1 x hx; omega⟩

/-- What the vertices are, and their distances. -/
def OutP (M : List (Pos × Nat)) (n : Nat) (f : Nat → Nat × Nat) : Prop := ∀ v, v < n → (∃ x ∈ M, x.1.1 = v ∧ f v = (x.1.2, x.2)) ∨ ((∀ x ∈ M, x.1.1 ≠ v) ∧ f v = (2, 0))

/-- So far: those positions have been seen. -/
def Sofar (M : List (Pos × Nat)) (n : Nat) (seen : Array Nat) (f : Nat → Nat × Nat) : Prop := ∀ v, v < n → (∃ i x, M[i]? = some x ∧ x.1.1 = v ∧ seen.contains i = true ∧ f v = (x.1.2, x.2)) ∨ ((∀ i x, M[i]? = some x → x.1.1 = v → seen.contains i = false) ∧ f v = (2, 0))

theorem Sofar.next {M : List (Pos × Nat)} {n : Nat} {seen : Array Nat} {f : Nat → Nat × Nat} (h : Sofar M n seen f) {i v t d : Nat} (hi : M[i]? = some ((v, t), d)) : Sofar M n (seen.push i) (fun u => if u = v then (t, d) else f u) := by
  intro u hu
  by_cases e : u = v
  · subst e
    exact .inl ⟨i, _, hi, rfl, by simp, by simp⟩
  · rcases h u hu with ⟨j, x, h1, h2, h3, h4⟩ | ⟨h1, h2⟩
    · exact .inl ⟨j, x, h1, h2, by simp at h3 ⊢; exact .inl h3, by simp [e]; exact h4⟩
    · refine .inr ⟨fun j x h3 h4 => ?_, by simp [e]; exact h2⟩
      have h5 := h1 j x h3 h4
      have h6 : j ≠ i := fun e2 => by subst e2; rw [hi] at h3; cases h3; exact e h4.symm
      simp at h5 ⊢
      exact ⟨h5, h6⟩
theorem Sofar.all {M : List (Pos × Nat)} {n : Nat} {seen : Array Nat} {f : Nat → Nat × Nat} (h : Sofar M n seen f) (ha : ∀ i, i < M.length → seen.contains i = true) : OutP M n f := by
  intro u hu
  rcases h u hu with ⟨j, x, h1, h2, h3, h4⟩ | ⟨h1, h2⟩
  · exact .inl ⟨x, List.mem_of_getElem? h1, h2, h4⟩
  · refine .inr ⟨fun x hx e => ?_, h2⟩
    obtain ⟨j, hj, rfl⟩ := List.getElem_of_mem hx
    have := h1 j _ (List.getElem?_eq_getElem hj) e
    rw [ha j hj] at this; cases this

/-- An entry's stamp is its place. -/
theorem es_at {es : Array MapEntry} {M : List (Pos × Nat)} (h2 : es.toList.map (fun e => (e.key, e.val)) = M.map entV) (h3 : es.toList.map (·.born) = List.range es.size) {e : MapEntry} (he : e ∈ es.toList) :
    ∃ v t d, M[e.born]? = some ((v, t), d) ∧ e.key = posV v t ∧ e.val = nv' d := by
  obtain ⟨i, hi, rfl⟩ := List.getElem_of_mem he
  have hb : es.toList[i].born = i := by
    have h4 : (es.toList.map (·.born))[i]? = (List.range es.size)[i]? := by rw [h3]
    rw [List.getElem?_map, List.getElem?_eq_getElem hi, List.getElem?_range (by simpa using hi)] at h4
    simpa using h4
  have hm : (es.toList.map (fun e => (e.key, e.val)))[i]? = (M.map entV)[i]? := by rw [h2]
  rw [List.getElem?_map, List.getElem?_eq_getElem hi, List.getElem?_map] at hm
  cases hq : M[i]? with
  | none => rw [hq] at hm; simp at hm
  | some x =>
    obtain ⟨⟨v, t⟩, d⟩ := x
    rw [hq] at hm
    simp only [Option.map_some, Option.some.injEq, entV, Prod.mk.injEq] at hm
    exact ⟨v, t, d, by rw [hb]; exact hq, hm.1, hm.2⟩

set_option maxRecDepth 100000 in
set_option maxHeartbeats 2000000 in
theorem Outcomes_any (G : List (List Nat)) (p : Option Addr) (c : Nat) (W : World) (hG : GN W p G) (hc : chk (intG G) = true) :
    Calls Try.prog 37 #[.slice p G.length c] W fun e w' => ∃ gk gd f, e = .returned (.tuple #[.slice (some ⟨gk, 0, none⟩) G.length G.length, .slice (some ⟨gd, 0, none⟩) G.length G.length, .int .i64 0]) ∧
      Blk w' gk G.length (fun v => .int .i64 ((f v).1 : Nat)) ∧ Blk w' gd G.length (fun v => .int .i64 ((f v).2 : Nat)) ∧ OutP (dec G) G.length f ∧ W.heap.size ≤ gk ∧ W.heap.size ≤ gd ∧ Below W.heap.size W w' := by
  obtain ⟨l1, l200, hr, hx⟩ := chk_nat hc
  have CG := CheckGraph_any (intG G) p c W hG.gi (by simp [intG]; omega) (fun v => by rw [intG_row]; unfold ints; rw [List.length_map]; have := hr v; omega)
  rw [hc, show errG true = 0 from rfl, show (intG G).length = G.length by simp [intG]] at CG
  have HCG := Lib.hid CG
  have DC := Lib.hid (fun X (hb : Below W.heap.size W X) => decided_any G p c X (hG.under hb) l200 hr hx)
  obtain ⟨n, hn⟩ : ∃ n, G.length = n := ⟨_, rfl⟩
  have HN := Lib.hid hn
  rw [hn] at HCG DC l1 l200 ⊢
  clear hn CG hr hx hc hG
  obtain ⟨i1, hj, hy0, hy1, hy2⟩ := info_parts infoInt
  obtain ⟨zc, hzc⟩ : ∃ z, madeCells (Value.int .i64 0).cells (n * 1) = z := ⟨_, rfl⟩
  have hmk : ∀ w : World, (Instr.makeSlice 22 (.int .i64 (n : Int)) (.int .i64 (n : Int))).run Try.prog w = .ok (.slice (some ⟨w.heap.size, 0, none⟩) n n) (w.alloc (.cells zc 3)) := fun w => by
    have hr := run_make (P := Try.prog) w 22 3 i1 (.int .i64 0) Try.underlying22 hj hy0 .i64 .i64 n n (by omega) (Int.le_refl _) (by rw [hy2]; omega) (by omega)
    simp only [Int.toNat_natCast, hy1, hzc] at hr
    exact hr
  have HZ : Hid (∀ (w : World) (g : Nat), w.heap[g]? = some (.cells zc 3 (0, 0)) → Blk w g n (fun _ => .int .i64 0)) := Lib.hid (fun w g h => by
    refine ⟨zc, _, h, by rw [← hzc, size_madeCells]; omega, fun i hi => ?_⟩
    have : zc.toList = List.replicate n (.int .i64 0) := by rw [← hzc, Nat.mul_one]; exact toList_madeCells_one _ _
    have h2 : zc.toList[i]? = some (.int .i64 0) := by rw [this, List.getElem?_replicate, if_pos hi]
    rw [← h2]; simp)
  clear hzc
  go_enter Try.func37, Try.ntmps37
  go_wp2_with fail
  refine HCG.out.mono ?_
  rintro e w' ⟨rfl, rfl⟩
  clear HCG
  go_wp2_with fail
  go_region
  · obtain ⟨w0, hw0⟩ : ∃ w0, ((W.alloc (.cells zc 3)).alloc (.cells zc 3)).drew = w0 := ⟨_, rfl⟩
    obtain ⟨S, hS⟩ : ∃ S, W.heap.size = S := ⟨_, rfl⟩
    obtain ⟨gk, hgk⟩ : ∃ g, S = g := ⟨_, rfl⟩
    obtain ⟨gd, hgd⟩ : ∃ g, S + 1 = g := ⟨_, rfl⟩
    have hb0 : Below S W w0 := by rw [← hw0]; exact (((Below.refl _ W).alloc (by omega) _).alloc (by simp; omega) _).drew
    have hsz0 : w0.heap.size = S + 2 := by rw [← hw0]; show ((W.alloc _).alloc _).heap.size = _; simp; omega
    have hx0 : w0.heap[S]? = some (.cells zc 3 (0, 0)) := by
      rw [← hw0, ← hS]
      show ((W.alloc _).alloc _).heap[W.heap.size]? = _
      rw [Below.heap_alloc _ _ _ (by simp)]; exact heap_alloc_new _ _
    have hx1 : w0.heap[S + 1]? = some (.cells zc 3 (0, 0)) := by
      rw [← hw0, ← hS]
      show ((W.alloc _).alloc _).heap[W.heap.size + 1]? = _
      have := heap_alloc_new (W.alloc (.cells zc 3)) (.cells zc 3)
      simpa using this
    have HK0 : Hid (Blk w0 gk n (fun _ => .int .i64 0)) := Lib.hid (HZ.out _ _ (by rw [← hgk]; exact hx0))
    have HD0 : Hid (Blk w0 gd n (fun _ => .int .i64 0)) := Lib.hid (HZ.out _ _ (by rw [← hgd]; exact hx1))
    have HB0 := Lib.hid hb0
    have hgl : S ≤ gk ∧ S ≤ gd ∧ gk < S + 2 ∧ gd < S + 2 ∧ gk ≠ gd := by omega
    obtain ⟨hg1, hg2, hg3, hg4, hg5⟩ := hgl
    have HSZ0 := Lib.hid hsz0
    rw [hw0]
    simp only [hS]
    simp only [hgd]
    simp only [hgk]
    have HS := Lib.hid hS
    rw [hS] at DC
    clear hw0 hb0 hsz0 hx0 hx1 hgk hgd hmk hS HZ
    go_wp2_with fail
    go_loopw [8, 24] (fun _ i wr => ∃ v : Nat, i = .int .i64 v ∧ v ≤ n ∧ Hid (Blk wr gk n (fun u => if u < v then .int .i64 2 else .int .i64 0)) ∧ Hid (Blk wr gd n (fun _ => .int .i64 0)) ∧ Hid (Below S W wr) ∧ Hid (wr.heap.size = S + 2)) (fun _ i _ => n - (intOf i).toNat)
    case atStart => exact ⟨0, rfl, by omega, Lib.hid (HK0.out.congr (fun i _ => by simp)), HD0, HB0, HSZ0⟩
    case round =>
      clear HK0 HD0 HB0 HSZ0
      obtain ⟨v, rfl, hv, hk, hd, hb, hsz⟩ := hrel
      by_cases hlt : v < n
      · have hck := hk.out.cell hlt
        have hfk := hk.out.frozen v
        simp only [Nat.lt_irrefl, if_false] at hck
        go_wp2_with fail
        go_roundw
        case rel => exact ⟨v + 1, by go_num, by omega, Lib.hid ((hk.out.set v _).congr (fun u _ => by
          by_cases e : u = v
          · subst e; rw [if_pos rfl, if_pos (by omega)]
          · rw [if_neg e]
            by_cases h2 : u < v
            · rw [if_pos h2, if_pos (by omega)]
            · rw [if_neg h2, if_neg (by omega)])), Lib.hid (hd.out.keep (Below.heap_setCell _ _ _ _ (by simp; omega))), Lib.hid (hb.out.setCell (by simp; omega) _), Lib.hid (by have := hsz.out; simp [World.setCell]; omega)⟩
        case measure => simp [intOf]; omega
      · have HK1 : Hid (Blk wr gk n (fun u => .int .i64 2)) := Lib.hid (hk.out.congr (fun u hu => by rw [if_pos (by omega)]))
        clear hk
        go_wp2_with fail
        refine (DC.out wr hb.out).mono ?_
        rintro e w5 ⟨bm, rfl, hbm, hmp, hko, hb5⟩
        have HKO := Lib.hid hko
        have HM := Lib.hid hmp
        have HB5 := Lib.hid hb5
        clear hmp hb5 hko
        obtain ⟨es, he1, he2, he3⟩ := HM.out
        have hrg := run_range_map (P := Try.prog) w5 85 88 3 bm es es.size Try.underlying85 he1
        have hs5 := HB5.out.size
        go_wp2_with fail
        obtain ⟨wi, hwi⟩ : ∃ wi, w5.alloc (.mapIter (some bm) es.size #[] es.size) = wi := ⟨_, rfl⟩
        obtain ⟨r, hr⟩ : ∃ r, w5.heap.size = r := ⟨_, rfl⟩
        rw [hwi]
        simp only [hr]
        have hM5 := HM.out.lt
        have hki : ∀ k, k < r → wi.heap[k]? = w5.heap[k]? := fun k hk => by rw [← hwi]; exact Below.heap_alloc _ _ _ (by omega)
        have HIT : Hid (wi.heap[r]? = some (.mapIter (some bm) es.size #[] es.size)) := Lib.hid (by rw [← hwi, ← hr]; exact heap_alloc_new _ _)
        have HES : Hid (wi.heap[bm]? = some (.map es es.size)) := Lib.hid ((hki _ (by omega)).trans he1)
        have hgs : gk < wr.heap.size ∧ gd < wr.heap.size := ⟨HK1.out.lt, hd.out.lt⟩
        have HKI : Hid (Blk wi gk n (fun u => .int .i64 2)) := Lib.hid (HK1.out.keep ((hki _ (by omega)).trans (HB5.out.block _ (by omega))))
        have HDI : Hid (Blk wi gd n (fun u => .int .i64 0)) := Lib.hid (hd.out.keep ((hki _ (by omega)).trans (HB5.out.block _ (by omega))))
        have HBI : Hid (Below S W wi) := Lib.hid (by rw [← hwi]; exact (hb.out.trans (HB5.out.mono (by have := hb.out.size; have := HS.out; omega))).alloc (by have := hb.out.size; have := HS.out; omega) _)
        have hrl : bm < r ∧ gk < r ∧ gd < r ∧ S ≤ r := by have := hb.out.size; have := HS.out; omega
        obtain ⟨hr1, hr2, hr3, hr4⟩ := hrl
        have hbk : gk < bm ∧ gd < bm := by omega
        obtain ⟨hr5, hr6⟩ := hbk
        have HE := Lib.hid (And.intro he2 he3)
        clear hki hwi hr he1 he2 he3 hrg HK1 hd hb hsz
        obtain ⟨wz, rfl⟩ : ∃ wz : World, wz = wi := ⟨_, rfl⟩
        go_loopw [9, 10] (fun _ _ wr => ∃ (seen : Array Nat) (f : Nat → Nat × Nat), Hid (wr.heap[r]? = some (.mapIter (some bm) es.size seen es.size)) ∧ Hid (wr.heap[bm]? = some (.map es es.size)) ∧ Hid (Blk wr gk n (fun v => .int .i64 ((f v).1 : Nat))) ∧ Hid (Blk wr gd n (fun v => .int .i64 ((f v).2 : Nat))) ∧ Hid (Sofar (dec G) n seen f) ∧ Hid (Below S W wr) ∧ Hid (r < wr.heap.size)) (fun _ _ wr => wr.rangeLeft bm r)
        case atStart => exact ⟨#[], fun _ => (2, 0), HIT, HES, HKI, HDI, Lib.hid (fun v _ => .inr ⟨fun i x _ _ => by simp, rfl⟩), HBI, Lib.hid (Array.getElem?_eq_some_iff.1 HIT.out).1⟩
        case round =>
          clear HIT HES HKI HDI HBI
          obtain ⟨seen, f, hit, hes, hk, hd, hsf, hb, hsz⟩ := hrel
          have hold : ∀ x ∈ es.toList, x.born < es.size := fun x hx => by
            have : x.born ∈ es.toList.map (·.born) := List.mem_map.2 ⟨x, hx, rfl⟩
            rw [HE.out.2] at this
            exact List.mem_range.1 this
          rcases run_next_at (P := Try.prog) wr 0 r bm es.size es.size seen es es.size hit.out hes.out hold (Nat.le_refl _) with ⟨h0, hnx⟩ | ⟨e, he, w1, hw1, hnx⟩
          · have hall : Hid (OutP (dec G) n f) := Lib.hid (hsf.out.all (fun i hi => by
              have hes2 : es.size = (dec G).length := by
                have := congrArg List.length HE.out.1
                simpa using this
              obtain ⟨e, he⟩ : ∃ e, es.toList[i]? = some e := ⟨_, List.getElem?_eq_getElem (by simp; omega)⟩
              have hmem := List.mem_of_getElem? he
              have hb : e.born = i := by
                have h4 : (es.toList.map (·.born))[i]? = (List.range es.size)[i]? := by rw [HE.out.2]
                rw [List.getElem?_map, he, List.getElem?_range (by omega)] at h4
                simpa using h4
              cases hq : seen.contains i with
              | true => rfl
              | false =>
                exfalso
                have h5 : leftOf es seen = #[] := Array.eq_empty_of_size_eq_zero h0
                unfold leftOf at h5
                rw [Array.filter_eq_empty_iff] at h5
                have := h5 e (by simpa using hmem)
                rw [hb, hq] at this
                exact this rfl))
            clear hold h0
            go_wp2_with fail
            go_ret3
            exact ⟨gk, gd, f, rfl, hk.out, hd.out, hall.out, by rw [HS.out]; omega, by rw [HS.out]; omega, by rw [HS.out]; exact hb.out⟩
          · have hel : e ∈ es.toList ∧ seen.contains e.born = false := by
              unfold leftOf at he
              rw [Array.toList_filter, List.mem_filter] at he
              exact ⟨he.1, by simpa using he.2⟩
            obtain ⟨v0, t0, d0, hm0, hkey, hval⟩ := es_at HE.out.1 HE.out.2 hel.1
            have hv0 : v0 < n := (HKO.out.vert _ (List.mem_of_getElem? hm0)).1
            rw [hkey, hval] at hnx
            have hlt2 : (leftOf es (seen.push e.born)).size < (leftOf es seen).size := left_shrinks es seen e he
            have HLT := Lib.hid hlt2
            obtain ⟨wx, hwx⟩ : ∃ wx, Go.ChangeMaps.setBlock w1 r (.mapIter (some bm) es.size (seen.push e.born) es.size) = wx := ⟨_, rfl⟩
            rw [hwx] at hnx
            have hw1h : ∀ k : Nat, w1.heap[k]? = wr.heap[k]? := fun k => by rcases hw1 with rfl | rfl <;> rfl
            have hw1s : w1.heap.size = wr.heap.size := by rcases hw1 with rfl | rfl <;> rfl
            have hbw1 : Below S W w1 := by
              rcases hw1 with rfl | rfl
              · exact hb.out
              · exact hb.out.drew
            have hkx : ∀ k : Nat, k ≠ r → wx.heap[k]? = wr.heap[k]? := fun k hk => by
              rw [← hwx, ← hw1h k]
              unfold Go.ChangeMaps.setBlock
              simp [Ne.symm hk]
            have hszx : wx.heap.size = wr.heap.size := by rw [← hwx, ← hw1s]; unfold Go.ChangeMaps.setBlock; simp
            have hitx : wx.heap[r]? = some (.mapIter (some bm) es.size (seen.push e.born) es.size) := by
              rw [← hwx]; unfold Go.ChangeMaps.setBlock
              have h9 : r < w1.heap.size := by rw [hw1s]; exact hsz.out
              simp [h9]
            have hesx : wx.heap[bm]? = some (.map es es.size) := (hkx _ (by omega)).trans hes.out
            have hen := run_entry_at (P := Try.prog) wx r bm es.size seen es es.size e hitx hesx hel.1 (by rw [HE.out.2]; exact List.nodup_range)
            rw [hkey, hval] at hen
            obtain ⟨wp, hwp⟩ : ∃ wp, wx.alloc (.cells #[.int .i64 v0, .int .i64 t0] 88) = wp := ⟨_, rfl⟩
            obtain ⟨bp, hbp⟩ : ∃ bp, wx.heap.size = bp := ⟨_, rfl⟩
            have hbpl : r < bp := by have := hsz.out; omega
            have hkp : ∀ k : Nat, k < bp → wp.heap[k]? = wx.heap[k]? := fun k hk => by rw [← hwp]; exact Below.heap_alloc _ _ _ (by omega)
            have hbpc : wp.heap[bp]? = some (.cells #[.int .i64 v0, .int .i64 t0] 88 (0, 0)) := by rw [← hwp, ← hbp]; exact heap_alloc_new _ _
            have hp0 : wp.cell? ⟨bp, 0, none⟩ = some (.int .i64 v0) := by simp [World.cell?, hbpc]
            have hp1 : wp.cell? ⟨bp, 1, none⟩ = some (.int .i64 t0) := by simp [World.cell?, hbpc]
            have HITP : Hid (wp.heap[r]? = some (.mapIter (some bm) es.size (seen.push e.born) es.size)) := Lib.hid ((hkp _ hbpl).trans hitx)
            have HESP : Hid (wp.heap[bm]? = some (.map es es.size)) := Lib.hid ((hkp _ (by omega)).trans hesx)
            have HKP : Hid (Blk wp gk n (fun v => .int .i64 ((f v).1 : Nat))) := Lib.hid (hk.out.keep ((hkp _ (by omega)).trans (hkx _ (by omega))))
            have HDP : Hid (Blk wp gd n (fun v => .int .i64 ((f v).2 : Nat))) := Lib.hid (hd.out.keep ((hkp _ (by omega)).trans (hkx _ (by omega))))
            have hbx : Below S W wx := by
              refine ⟨by rw [← hwx]; exact hbw1.os, by rw [← hwx]; exact hbw1.tape, by rw [← hwx]; exact hbw1.output, by have := hbw1.size; omega, fun k hk => ?_⟩
              rw [hkx k (by omega), ← hw1h k]; exact hbw1.block k hk
            have HBP : Hid (Below S W wp) := Lib.hid (by rw [← hwp]; exact hbx.alloc (by omega) _)
            have HSZP : Hid (wp.heap.size = bp + 1) := Lib.hid (by rw [← hwp, ← hbp]; simp)
            have hck := HKP.out.cell hv0
            have hcd := HDP.out.cell hv0
            have hfk := HKP.out.frozen v0
            have hfd := HDP.out.frozen v0
            have HSF : Hid (Sofar (dec G) n (seen.push e.born) (fun u => if u = v0 then (t0, d0) else f u)) := Lib.hid (hsf.out.next hm0)
            have HRL : Hid (wr.rangeLeft bm r = (leftOf es seen).size) := Lib.hid (by simp [World.rangeLeft, hit.out, hes.out])
            clear hold he hw1 hel hm0 hlt2 hw1h hw1s hbw1 hkx hszx hitx hesx hkp hbpc hwx hk hd hit hes hb hsz hsf
            clear hbx
            go_wp2_with fail
            go_region
            have HWR : Hid (Blk ((wp.setCell ⟨gk, v0, none⟩ (.int .i64 t0)).setCell ⟨gd, v0, none⟩ (.int .i64 d0)) gk n (fun u => .int .i64 ((if u = v0 then (t0, d0) else f u).1 : Nat)) ∧ Blk ((wp.setCell ⟨gk, v0, none⟩ (.int .i64 t0)).setCell ⟨gd, v0, none⟩ (.int .i64 d0)) gd n (fun u => .int .i64 ((if u = v0 then (t0, d0) else f u).2 : Nat))) := Lib.hid (by
              constructor
              · refine ((HKP.out.set v0 (.int .i64 t0)).keep (Below.heap_setCell _ _ _ _ (by simpa using hg5))).congr (fun u _ => ?_)
                by_cases e : u = v0
                · rw [if_pos e, if_pos e]
                · rw [if_neg e, if_neg e]
              · refine ((HDP.out.keep (Below.heap_setCell _ _ _ _ (by simpa using fun e => hg5 e.symm))).set v0 (.int .i64 d0)).congr (fun u _ => ?_)
                by_cases e : u = v0
                · rw [if_pos e, if_pos e]
                · rw [if_neg e, if_neg e])
            have hkw : ∀ k : Nat, k ≠ gk → k ≠ gd → ((wp.setCell ⟨gk, v0, none⟩ (.int .i64 t0)).setCell ⟨gd, v0, none⟩ (.int .i64 d0)).heap[k]? = wp.heap[k]? := fun k h1 h2 => by
              rw [Below.heap_setCell _ _ _ _ (by simpa using h2), Below.heap_setCell _ _ _ _ (by simpa using h1)]
            have HBW : Hid (Below S W ((wp.setCell ⟨gk, v0, none⟩ (.int .i64 t0)).setCell ⟨gd, v0, none⟩ (.int .i64 d0)).drew) := Lib.hid ((HBP.out.setCell (by simp; omega) _).setCell (by simp; omega) _).drew
            have HSW : Hid (((wp.setCell ⟨gk, v0, none⟩ (.int .i64 t0)).setCell ⟨gd, v0, none⟩ (.int .i64 d0)).heap.size = bp + 1) := Lib.hid (by have := HSZP.out; simp [World.setCell]; omega)
            have HIW := Lib.hid ((hkw r (by omega) (by omega)).trans HITP.out)
            have HEW := Lib.hid ((hkw bm (by omega) (by omega)).trans HESP.out)
            clear hkw
            go_wp2_with fail
            refine ⟨⟨seen.push e.born, (fun u => if u = v0 then (t0, d0) else f u), Lib.hid HIW.out, Lib.hid HEW.out, Lib.hid HWR.out.1, Lib.hid HWR.out.2, HSF, HBW, Lib.hid (by show r < Array.size _; have h9 := HSW.out; show r < ((wp.setCell _ _).setCell _ _).heap.size; omega)⟩, ?_⟩
            rw [HRL.out]
            refine Nat.lt_of_le_of_lt (Nat.le_of_eq ?_) HLT.out
            show World.rangeLeft _ bm r = _
            unfold World.rangeLeft
            have e1 : ((wp.setCell ⟨gk, v0, none⟩ (.int .i64 t0)).setCell ⟨gd, v0, none⟩ (.int .i64 d0)).drew.heap[r]? = some (.mapIter (some bm) es.size (seen.push e.born) es.size) := HIW.out
            have e2 : ((wp.setCell ⟨gk, v0, none⟩ (.int .i64 t0)).setCell ⟨gd, v0, none⟩ (.int .i64 d0)).drew.heap[bm]? = some (.map es es.size) := HEW.out
            rw [e1, e2]
  · obtain ⟨w0, hw0⟩ : ∃ w0, ((W.alloc (.cells zc 3)).alloc (.cells zc 3)).drew = w0 := ⟨_, rfl⟩
    obtain ⟨S, hS⟩ : ∃ S, W.heap.size = S := ⟨_, rfl⟩
    obtain ⟨gk, hgk⟩ : ∃ g, S + 1 = g := ⟨_, rfl⟩
    obtain ⟨gd, hgd⟩ : ∃ g, S = g := ⟨_, rfl⟩
    have hb0 : Below S W w0 := by rw [← hw0]; exact (((Below.refl _ W).alloc (by omega) _).alloc (by simp; omega) _).drew
    have hsz0 : w0.heap.size = S + 2 := by rw [← hw0]; show ((W.alloc _).alloc _).heap.size = _; simp; omega
    have hx0 : w0.heap[S]? = some (.cells zc 3 (0, 0)) := by
      rw [← hw0, ← hS]
      show ((W.alloc _).alloc _).heap[W.heap.size]? = _
      rw [Below.heap_alloc _ _ _ (by simp)]; exact heap_alloc_new _ _
    have hx1 : w0.heap[S + 1]? = some (.cells zc 3 (0, 0)) := by
      rw [← hw0, ← hS]
      show ((W.alloc _).alloc _).heap[W.heap.size + 1]? = _
      have := heap_alloc_new (W.alloc (.cells zc 3)) (.cells zc 3)
      simpa using this
    have HK0 : Hid (Blk w0 gk n (fun _ => .int .i64 0)) := Lib.hid (HZ.out _ _ (by rw [← hgk]; exact hx1))
    have HD0 : Hid (Blk w0 gd n (fun _ => .int .i64 0)) := Lib.hid (HZ.out _ _ (by rw [← hgd]; exact hx0))
    have HB0 := Lib.hid hb0
    have hgl : S ≤ gk ∧ S ≤ gd ∧ gk < S + 2 ∧ gd < S + 2 ∧ gk ≠ gd := by omega
    obtain ⟨hg1, hg2, hg3, hg4, hg5⟩ := hgl
    have HSZ0 := Lib.hid hsz0
    rw [hw0]
    simp only [hS]
    simp only [hgk]
    simp only [hgd]
    have HS := Lib.hid hS
    rw [hS] at DC
    clear hw0 hb0 hsz0 hx0 hx1 hgk hgd hmk hS HZ
    go_wp2_with fail
    go_loopw [8, 24] (fun _ i wr => ∃ v : Nat, i = .int .i64 v ∧ v ≤ n ∧ Hid (Blk wr gk n (fun u => if u < v then .int .i64 2 else .int .i64 0)) ∧ Hid (Blk wr gd n (fun _ => .int .i64 0)) ∧ Hid (Below S W wr) ∧ Hid (wr.heap.size = S + 2)) (fun _ i _ => n - (intOf i).toNat)
    case atStart => exact ⟨0, rfl, by omega, Lib.hid (HK0.out.congr (fun i _ => by simp)), HD0, HB0, HSZ0⟩
    case round =>
      clear HK0 HD0 HB0 HSZ0
      obtain ⟨v, rfl, hv, hk, hd, hb, hsz⟩ := hrel
      by_cases hlt : v < n
      · have hck := hk.out.cell hlt
        have hfk := hk.out.frozen v
        simp only [Nat.lt_irrefl, if_false] at hck
        go_wp2_with fail
        go_roundw
        case rel => exact ⟨v + 1, by go_num, by omega, Lib.hid ((hk.out.set v _).congr (fun u _ => by
          by_cases e : u = v
          · subst e; rw [if_pos rfl, if_pos (by omega)]
          · rw [if_neg e]
            by_cases h2 : u < v
            · rw [if_pos h2, if_pos (by omega)]
            · rw [if_neg h2, if_neg (by omega)])), Lib.hid (hd.out.keep (Below.heap_setCell _ _ _ _ (by simp; omega))), Lib.hid (hb.out.setCell (by simp; omega) _), Lib.hid (by have := hsz.out; simp [World.setCell]; omega)⟩
        case measure => simp [intOf]; omega
      · have HK1 : Hid (Blk wr gk n (fun u => .int .i64 2)) := Lib.hid (hk.out.congr (fun u hu => by rw [if_pos (by omega)]))
        clear hk
        go_wp2_with fail
        refine (DC.out wr hb.out).mono ?_
        rintro e w5 ⟨bm, rfl, hbm, hmp, hko, hb5⟩
        have HKO := Lib.hid hko
        have HM := Lib.hid hmp
        have HB5 := Lib.hid hb5
        clear hmp hb5 hko
        obtain ⟨es, he1, he2, he3⟩ := HM.out
        have hrg := run_range_map (P := Try.prog) w5 85 88 3 bm es es.size Try.underlying85 he1
        have hs5 := HB5.out.size
        go_wp2_with fail
        obtain ⟨wi, hwi⟩ : ∃ wi, w5.alloc (.mapIter (some bm) es.size #[] es.size) = wi := ⟨_, rfl⟩
        obtain ⟨r, hr⟩ : ∃ r, w5.heap.size = r := ⟨_, rfl⟩
        rw [hwi]
        simp only [hr]
        have hM5 := HM.out.lt
        have hki : ∀ k, k < r → wi.heap[k]? = w5.heap[k]? := fun k hk => by rw [← hwi]; exact Below.heap_alloc _ _ _ (by omega)
        have HIT : Hid (wi.heap[r]? = some (.mapIter (some bm) es.size #[] es.size)) := Lib.hid (by rw [← hwi, ← hr]; exact heap_alloc_new _ _)
        have HES : Hid (wi.heap[bm]? = some (.map es es.size)) := Lib.hid ((hki _ (by omega)).trans he1)
        have hgs : gk < wr.heap.size ∧ gd < wr.heap.size := ⟨HK1.out.lt, hd.out.lt⟩
        have HKI : Hid (Blk wi gk n (fun u => .int .i64 2)) := Lib.hid (HK1.out.keep ((hki _ (by omega)).trans (HB5.out.block _ (by omega))))
        have HDI : Hid (Blk wi gd n (fun u => .int .i64 0)) := Lib.hid (hd.out.keep ((hki _ (by omega)).trans (HB5.out.block _ (by omega))))
        have HBI : Hid (Below S W wi) := Lib.hid (by rw [← hwi]; exact (hb.out.trans (HB5.out.mono (by have := hb.out.size; have := HS.out; omega))).alloc (by have := hb.out.size; have := HS.out; omega) _)
        have hrl : bm < r ∧ gk < r ∧ gd < r ∧ S ≤ r := by have := hb.out.size; have := HS.out; omega
        obtain ⟨hr1, hr2, hr3, hr4⟩ := hrl
        have hbk : gk < bm ∧ gd < bm := by omega
        obtain ⟨hr5, hr6⟩ := hbk
        have HE := Lib.hid (And.intro he2 he3)
        clear hki hwi hr he1 he2 he3 hrg HK1 hd hb hsz
        obtain ⟨wz, rfl⟩ : ∃ wz : World, wz = wi := ⟨_, rfl⟩
        go_loopw [9, 10] (fun _ _ wr => ∃ (seen : Array Nat) (f : Nat → Nat × Nat), Hid (wr.heap[r]? = some (.mapIter (some bm) es.size seen es.size)) ∧ Hid (wr.heap[bm]? = some (.map es es.size)) ∧ Hid (Blk wr gk n (fun v => .int .i64 ((f v).1 : Nat))) ∧ Hid (Blk wr gd n (fun v => .int .i64 ((f v).2 : Nat))) ∧ Hid (Sofar (dec G) n seen f) ∧ Hid (Below S W wr) ∧ Hid (r < wr.heap.size)) (fun _ _ wr => wr.rangeLeft bm r)
        case atStart => exact ⟨#[], fun _ => (2, 0), HIT, HES, HKI, HDI, Lib.hid (fun v _ => .inr ⟨fun i x _ _ => by simp, rfl⟩), HBI, Lib.hid (Array.getElem?_eq_some_iff.1 HIT.out).1⟩
        case round =>
          clear HIT HES HKI HDI HBI
          obtain ⟨seen, f, hit, hes, hk, hd, hsf, hb, hsz⟩ := hrel
          have hold : ∀ x ∈ es.toList, x.born < es.size := fun x hx => by
            have : x.born ∈ es.toList.map (·.born) := List.mem_map.2 ⟨x, hx, rfl⟩
            rw [HE.out.2] at this
            exact List.mem_range.1 this
          rcases run_next_at (P := Try.prog) wr 0 r bm es.size es.size seen es es.size hit.out hes.out hold (Nat.le_refl _) with ⟨h0, hnx⟩ | ⟨e, he, w1, hw1, hnx⟩
          · have hall : Hid (OutP (dec G) n f) := Lib.hid (hsf.out.all (fun i hi => by
              have hes2 : es.size = (dec G).length := by
                have := congrArg List.length HE.out.1
                simpa using this
              obtain ⟨e, he⟩ : ∃ e, es.toList[i]? = some e := ⟨_, List.getElem?_eq_getElem (by simp; omega)⟩
              have hmem := List.mem_of_getElem? he
              have hb : e.born = i := by
                have h4 : (es.toList.map (·.born))[i]? = (List.range es.size)[i]? := by rw [HE.out.2]
                rw [List.getElem?_map, he, List.getElem?_range (by omega)] at h4
                simpa using h4
              cases hq : seen.contains i with
              | true => rfl
              | false =>
                exfalso
                have h5 : leftOf es seen = #[] := Array.eq_empty_of_size_eq_zero h0
                unfold leftOf at h5
                rw [Array.filter_eq_empty_iff] at h5
                have := h5 e (by simpa using hmem)
                rw [hb, hq] at this
                exact this rfl))
            clear hold h0
            go_wp2_with fail
            go_ret3
            exact ⟨gk, gd, f, rfl, hk.out, hd.out, hall.out, by rw [HS.out]; omega, by rw [HS.out]; omega, by rw [HS.out]; exact hb.out⟩
          · have hel : e ∈ es.toList ∧ seen.contains e.born = false := by
              unfold leftOf at he
              rw [Array.toList_filter, List.mem_filter] at he
              exact ⟨he.1, by simpa using he.2⟩
            obtain ⟨v0, t0, d0, hm0, hkey, hval⟩ := es_at HE.out.1 HE.out.2 hel.1
            have hv0 : v0 < n := (HKO.out.vert _ (List.mem_of_getElem? hm0)).1
            rw [hkey, hval] at hnx
            have hlt2 : (leftOf es (seen.push e.born)).size < (leftOf es seen).size := left_shrinks es seen e he
            have HLT := Lib.hid hlt2
            obtain ⟨wx, hwx⟩ : ∃ wx, Go.ChangeMaps.setBlock w1 r (.mapIter (some bm) es.size (seen.push e.born) es.size) = wx := ⟨_, rfl⟩
            rw [hwx] at hnx
            have hw1h : ∀ k : Nat, w1.heap[k]? = wr.heap[k]? := fun k => by rcases hw1 with rfl | rfl <;> rfl
            have hw1s : w1.heap.size = wr.heap.size := by rcases hw1 with rfl | rfl <;> rfl
            have hbw1 : Below S W w1 := by
              rcases hw1 with rfl | rfl
              · exact hb.out
              · exact hb.out.drew
            have hkx : ∀ k : Nat, k ≠ r → wx.heap[k]? = wr.heap[k]? := fun k hk => by
              rw [← hwx, ← hw1h k]
              unfold Go.ChangeMaps.setBlock
              simp [Ne.symm hk]
            have hszx : wx.heap.size = wr.heap.size := by rw [← hwx, ← hw1s]; unfold Go.ChangeMaps.setBlock; simp
            have hitx : wx.heap[r]? = some (.mapIter (some bm) es.size (seen.push e.born) es.size) := by
              rw [← hwx]; unfold Go.ChangeMaps.setBlock
              have h9 : r < w1.heap.size := by rw [hw1s]; exact hsz.out
              simp [h9]
            have hesx : wx.heap[bm]? = some (.map es es.size) := (hkx _ (by omega)).trans hes.out
            have hen := run_entry_at (P := Try.prog) wx r bm es.size seen es es.size e hitx hesx hel.1 (by rw [HE.out.2]; exact List.nodup_range)
            rw [hkey, hval] at hen
            obtain ⟨wp, hwp⟩ : ∃ wp, wx.alloc (.cells #[.int .i64 v0, .int .i64 t0] 88) = wp := ⟨_, rfl⟩
            obtain ⟨bp, hbp⟩ : ∃ bp, wx.heap.size = bp := ⟨_, rfl⟩
            have hbpl : r < bp := by have := hsz.out; omega
            have hkp : ∀ k : Nat, k < bp → wp.heap[k]? = wx.heap[k]? := fun k hk => by rw [← hwp]; exact Below.heap_alloc _ _ _ (by omega)
            have hbpc : wp.heap[bp]? = some (.cells #[.int .i64 v0, .int .i64 t0] 88 (0, 0)) := by rw [← hwp, ← hbp]; exact heap_alloc_new _ _
            have hp0 : wp.cell? ⟨bp, 0, none⟩ = some (.int .i64 v0) := by simp [World.cell?, hbpc]
            have hp1 : wp.cell? ⟨bp, 1, none⟩ = some (.int .i64 t0) := by simp [World.cell?, hbpc]
            have HITP : Hid (wp.heap[r]? = some (.mapIter (some bm) es.size (seen.push e.born) es.size)) := Lib.hid ((hkp _ hbpl).trans hitx)
            have HESP : Hid (wp.heap[bm]? = some (.map es es.size)) := Lib.hid ((hkp _ (by omega)).trans hesx)
            have HKP : Hid (Blk wp gk n (fun v => .int .i64 ((f v).1 : Nat))) := Lib.hid (hk.out.keep ((hkp _ (by omega)).trans (hkx _ (by omega))))
            have HDP : Hid (Blk wp gd n (fun v => .int .i64 ((f v).2 : Nat))) := Lib.hid (hd.out.keep ((hkp _ (by omega)).trans (hkx _ (by omega))))
            have hbx : Below S W wx := by
              refine ⟨by rw [← hwx]; exact hbw1.os, by rw [← hwx]; exact hbw1.tape, by rw [← hwx]; exact hbw1.output, by have := hbw1.size; omega, fun k hk => ?_⟩
              rw [hkx k (by omega), ← hw1h k]; exact hbw1.block k hk
            have HBP : Hid (Below S W wp) := Lib.hid (by rw [← hwp]; exact hbx.alloc (by omega) _)
            have HSZP : Hid (wp.heap.size = bp + 1) := Lib.hid (by rw [← hwp, ← hbp]; simp)
            have hck := HKP.out.cell hv0
            have hcd := HDP.out.cell hv0
            have hfk := HKP.out.frozen v0
            have hfd := HDP.out.frozen v0
            have HSF : Hid (Sofar (dec G) n (seen.push e.born) (fun u => if u = v0 then (t0, d0) else f u)) := Lib.hid (hsf.out.next hm0)
            have HRL : Hid (wr.rangeLeft bm r = (leftOf es seen).size) := Lib.hid (by simp [World.rangeLeft, hit.out, hes.out])
            clear hold he hw1 hel hm0 hlt2 hw1h hw1s hbw1 hkx hszx hitx hesx hkp hbpc hwx hk hd hit hes hb hsz hsf
            clear hbx
            go_wp2_with fail
            go_region
            have HWR : Hid (Blk ((wp.setCell ⟨gk, v0, none⟩ (.int .i64 t0)).setCell ⟨gd, v0, none⟩ (.int .i64 d0)) gk n (fun u => .int .i64 ((if u = v0 then (t0, d0) else f u).1 : Nat)) ∧ Blk ((wp.setCell ⟨gk, v0, none⟩ (.int .i64 t0)).setCell ⟨gd, v0, none⟩ (.int .i64 d0)) gd n (fun u => .int .i64 ((if u = v0 then (t0, d0) else f u).2 : Nat))) := Lib.hid (by
              constructor
              · refine ((HKP.out.set v0 (.int .i64 t0)).keep (Below.heap_setCell _ _ _ _ (by simpa using hg5))).congr (fun u _ => ?_)
                by_cases e : u = v0
                · rw [if_pos e, if_pos e]
                · rw [if_neg e, if_neg e]
              · refine ((HDP.out.keep (Below.heap_setCell _ _ _ _ (by simpa using fun e => hg5 e.symm))).set v0 (.int .i64 d0)).congr (fun u _ => ?_)
                by_cases e : u = v0
                · rw [if_pos e, if_pos e]
                · rw [if_neg e, if_neg e])
            have hkw : ∀ k : Nat, k ≠ gk → k ≠ gd → ((wp.setCell ⟨gk, v0, none⟩ (.int .i64 t0)).setCell ⟨gd, v0, none⟩ (.int .i64 d0)).heap[k]? = wp.heap[k]? := fun k h1 h2 => by
              rw [Below.heap_setCell _ _ _ _ (by simpa using h2), Below.heap_setCell _ _ _ _ (by simpa using h1)]
            have HBW : Hid (Below S W ((wp.setCell ⟨gk, v0, none⟩ (.int .i64 t0)).setCell ⟨gd, v0, none⟩ (.int .i64 d0)).drew) := Lib.hid ((HBP.out.setCell (by simp; omega) _).setCell (by simp; omega) _).drew
            have HSW : Hid (((wp.setCell ⟨gk, v0, none⟩ (.int .i64 t0)).setCell ⟨gd, v0, none⟩ (.int .i64 d0)).heap.size = bp + 1) := Lib.hid (by have := HSZP.out; simp [World.setCell]; omega)
            have HIW := Lib.hid ((hkw r (by omega) (by omega)).trans HITP.out)
            have HEW := Lib.hid ((hkw bm (by omega) (by omega)).trans HESP.out)
            clear hkw
            go_wp2_with fail
            refine ⟨⟨seen.push e.born, (fun u => if u = v0 then (t0, d0) else f u), Lib.hid HIW.out, Lib.hid HEW.out, Lib.hid HWR.out.1, Lib.hid HWR.out.2, HSF, HBW, Lib.hid (by show r < Array.size _; have h9 := HSW.out; show r < ((wp.setCell _ _).setCell _ _).heap.size; omega)⟩, ?_⟩
            rw [HRL.out]
            refine Nat.lt_of_le_of_lt (Nat.le_of_eq ?_) HLT.out
            show World.rangeLeft _ bm r = _
            unfold World.rangeLeft
            have e1 : ((wp.setCell ⟨gk, v0, none⟩ (.int .i64 t0)).setCell ⟨gd, v0, none⟩ (.int .i64 d0)).drew.heap[r]? = some (.mapIter (some bm) es.size (seen.push e.born) es.size) := HIW.out
            have e2 : ((wp.setCell ⟨gk, v0, none⟩ (.int .i64 t0)).setCell ⟨gd, v0, none⟩ (.int .i64 d0)).drew.heap[bm]? = some (.map es es.size) := HEW.out
            rw [e1, e2]
end Go.Proofs.Ytodnfchkkgoabaa
