/- WALK of the law HeapMoves, but for what winning gives. -/
import Derived.Test.YtodnfchkkgoabaaHSq
import Derived.Test.YtodnfchkkgoabaaHRm
import Derived.Test.YtodnfchkkgoabaaHFbFcAw
import Derived.Test.YtodnfchkkgoabaaHCd
import Derived.Test.YtodnfchkkgoabaaHGw
set_option linter.unusedVariables false
set_option linter.unusedSimpArgs false
namespace Go.Proofs.Ytodnfchkkgoabaa
open Go.RowKit

def badH (L : List Int) : Bool := L.any fun x => decide (x < 0) || decide (200 < x)
def wantN (L : List Int) : Nat := if 10 < L.length then 2 else if badH L then 1 else 0
theorem ns_of_ni {w : World} {p : Option Addr} {H : List Nat} (h : NI w p (ints H)) : NS w p H := fun i hi => by
  obtain ⟨g', e', hc'⟩ := h i (by rw [ints_len]; exact hi)
  rw [ints_getD] at hc'
  exact ⟨g', e', hc'⟩
theorem good_ints {L : List Int} (h : badH L = false) : L = ints (L.map Int.toNat) ∧ ∀ x ∈ L.map Int.toNat, x ≤ 200 := by
  have h1 : ∀ x ∈ L, 0 ≤ x ∧ x ≤ 200 := fun x hx => by
    have := List.any_eq_false.1 h x hx
    simp at this
    omega
  constructor
  · unfold ints
    rw [List.map_map]
    refine (List.map_id L).symm.trans (List.map_congr_left fun x hx => ?_)
    have := h1 x hx
    simp only [id, Function.comp]
    omega
  · intro x hx
    obtain ⟨y, hy, rfl⟩ := List.mem_map.1 hx
    have := h1 y hy
    omega

theorem Moves_all (WIN : WinC) (t : ByteArray) (ds : List Nat) (L : List Int) (c : Nat) (p : Option Addr) (X : World) (hc : codeOf t = some ds) (hL : NI X p L) (hlc : L.length ≤ c) (hl : L.length ≤ 12) :
    Calls Try.prog 21 #[.string t, .slice p L.length c] X fun e w' => ∃ v, e = .returned (.tuple #[v, .int .i64 (wantN L : Nat)]) ∧ (wantN L = 0 → ∃ H : List Nat, L = ints H ∧ (∀ h ∈ H, h ≤ 200) ∧ H.length ≤ 10 ∧ Out w' v (placed (mvl ds H H.length))) ∧ (wantN L ≠ 0 → v = .slice none 0 0) ∧ Below X.heap.size X w' := by
  by_cases h1 : 10 < L.length
  · have hw : wantN L = 2 := by unfold wantN; rw [if_pos h1]
    rw [hw]
    refine (Moves_long t ds L.length c p X hc h1 (by omega)).mono ?_
    rintro e w' ⟨rfl, hb⟩
    exact ⟨_, rfl, fun h => absurd h (by decide), fun _ => rfl, hb⟩
  · cases h2 : badH L with
    | true =>
      have hw : wantN L = 1 := by unfold wantN; rw [if_neg h1, h2]; rfl
      rw [hw]
      refine (Moves_arg t ds L c p X hc hL (by omega) ?_).mono ?_
      · obtain ⟨x, hx, h3⟩ := List.any_eq_true.1 h2
        exact ⟨x, hx, by simpa using h3⟩
      · rintro e w' ⟨rfl, hb⟩
        exact ⟨_, rfl, fun h => absurd h (by decide), fun _ => rfl, hb⟩
    | false =>
      have hw : wantN L = 0 := by unfold wantN; rw [if_neg h1, h2]; rfl
      rw [hw]
      obtain ⟨e1, e2⟩ := good_ints h2
      generalize L.map Int.toNat = H at e1 e2
      subst e1
      rw [ints_len] at h1 hl hlc ⊢
      refine (Moves_good WIN t ds H c p X hc (ns_of_ni hL) hlc (by omega) e2).mono ?_
      rintro e w' ⟨v, rfl, ho, hb⟩
      exact ⟨v, rfl, fun _ => ⟨H, rfl, e2, by omega, ho⟩, fun h => absurd rfl h, hb⟩

theorem bad_succ (L : List Int) (i : Nat) (h : i < L.length) : badH (L.take (i + 1)) = (badH (L.take i) || (decide (L.getD i 0 < 0) || decide (200 < L.getD i 0))) := by
  rw [List.take_succ_eq_append_getElem h]
  unfold badH
  rw [List.any_append, List.getD_eq_getElem?_getD, List.getElem?_eq_getElem h]
  simp

theorem blk_int_set {w : World} {g n : Nat} (h : ∃ f : Nat → Int, Blk w g n (fun j => .int .i64 (f j))) (i : Nat) (e : Int) : ∃ f : Nat → Int, Blk (w.setCell ⟨g, i, none⟩ (.int .i64 e)) g n (fun j => .int .i64 (f j)) := by
  obtain ⟨f, hf⟩ := h
  refine ⟨fun j => if j = i then e else f j, (hf.set i (.int .i64 e)).congr fun j _ => ?_⟩
  by_cases e : j = i <;> simp [e]

theorem mvl_len3 (ds H : List Nat) (i : Nat) (p : List Int) (h : p ∈ placed (mvl ds H i)) : p.length ≤ H.length + 2 := mvl_lens ds H i p ((placed_mem _ _).1 h)

set_option maxRecDepth 100000 in
set_option maxHeartbeats 8000000 in
theorem HeapMoves_any (WIN : WinC) (s : ByteArray) (L : List Int) (p : Option Addr) (cap : Nat) (W : World) (hL : NA W p L) (hlc : L.length ≤ cap) (hcap : cap ≤ 9223372036854775807) (hnil : p = none → cap = 0) :
    Calls Try.prog 5 #[.string s, .slice p L.length cap] W fun e w' => e = .returned (.bool true) ∧ Below W.heap.size W w' := by
  have AW := Lib.hid awake_any
  have C := Lib.hid (code_any s W)
  obtain ⟨i1, hj, hy0, hy1, hy2⟩ := info_parts infoInt
  have hap : ∀ w : World, (Builtin.append_ #[22, 22] 22 #[.slice none 0 0, .slice none 0 0]).run Try.prog w = .ok (.slice none 0 0) w := fun w => by
    simp [Builtin.append_, run_underlying Try.underlying22, sizeOf, typeInfo, hj, Builtin.lenOf, Builtin.firstCells, loadCells, loadCellsFrom]
  have MA := Lib.hid (fun t ds L c p X h1 h2 h4 h3 => Moves_all WIN t ds L c p X h1 h2 h4 h3)
  obtain ⟨ln, hln⟩ : ∃ m, L.length = m := ⟨_, rfl⟩
  have HL := Lib.hid hL
  have HLN := Lib.hid hln
  rw [hln] at hlc ⊢
  clear hL hln WIN
  go_enter Try.func5, Try.ntmps5
  go_wp2_with fail
  refine C.out.mono ?_
  rintro e w1 ⟨t, ds, rfl, hds, hb1⟩
  have B1 := Lib.hid hb1
  have HDS := Lib.hid hds
  have HL1 := Lib.hid (HL.out.under hb1)
  clear hb1 hds C HL
  go_upto_region 3 with fail
  go_cut [6] from 17 to 23 (fun x wx => ∃ M : List Int, M.length ≤ 12 ∧ Hid (OwnI wx W.heap.size x M) ∧ Hid (Below W.heap.size W wx))
  case first =>
    cases p with
    | none =>
      obtain rfl : cap = 0 := hnil rfl
      obtain rfl : ln = 0 := by omega
      have hmin : (min 0 12 : Int) = 0 := rfl
      go_wp2_with fail
      go_meet
      case rel => exact ⟨[], by simp, Lib.hid (.inl ⟨rfl, rfl⟩), B1⟩
    | some ad =>
      obtain ⟨k, hk⟩ : ∃ k, min ln 12 = k := ⟨_, rfl⟩
      have hmin : min (ln : Int) 12 = (k : Int) := by omega
      have hkl : k ≤ ln := by omega
      have hk40 : k ≤ 12 := by omega
      have hlk : ((L.take k).map (Value.int .i64)).length = k * 1 := by
        rw [List.length_map, List.length_take, HLN.out]; omega
      have hnews : ∀ j u, ((L.take k).map (Value.int .i64))[j]? = some u → w1.cell? (ad.add j) = some u := fun j u hu => by
        have hj : j < ((L.take k).map (Value.int .i64)).length := (List.getElem?_eq_some_iff.1 hu).1
        obtain ⟨a', e, hc⟩ := HL1.out j (by have := HLN.out; omega)
        cases e
        rw [hc, ← hu, List.getElem?_map, List.getElem?_take, if_pos (by omega), List.getElem?_eq_getElem (by have := HLN.out; omega)]
        simp [List.getD_eq_getElem?_getD, List.getElem?_eq_getElem (show j < L.length by have := HLN.out; omega)]
      have HNW := Lib.hid hnews
      have HLK := Lib.hid hlk
      clear hk hnews hlk
      go_wp2_with (at_builtin; refine wpList_append_own_at _ rfl _ _ 22 rfl W.heap.size 3 i1 (.int .i64 0) 1 8 Try.underlying22 hj hy0 hy1 hy2 rfl (by decide) (.slice none 0 0) 0 [] rfl (World.ownsRow_nil w1 W.heap.size 3 1) ad k cap ((L.take k).map (Value.int .i64)) rfl HLK.out HNW.out (ints_oneCell .i64 _) (by unfold maxLen; omega) (by omega) B1.out.size ?_; intro v' w4 hw1 hw2 _ hw3)
      go_meet
      case rel =>
        rw [List.nil_append, Nat.zero_add] at hw1
        exact ⟨L.take k, by rw [List.length_take, HLN.out]; omega, Lib.hid (owni_of_own hw1 (by rw [List.length_take, HLN.out]; omega)), Lib.hid (B1.out.trans ⟨hw2.os, hw2.tape, hw2.output, hw2.size, fun b hb => hw2.block b (by have := B1.out.size; omega) (by simp [Value.ownBlock])⟩)⟩
  case rest =>
    obtain ⟨M, hm12, ho, hbc⟩ := hcut
    clear HL1 hlc HLN hcap hnil
    go_wp2_with fail
    go_loopw [6, 7] (fun x y wr => ∃ (v : Value) (M : List Int) (k : Nat), v = x ∧ y = .int .i64 k ∧ k ≤ 2 ∧ M.length ≤ 12 ∧ Hid (OwnI wr W.heap.size v M) ∧ Hid (Below W.heap.size W wr)) (fun _ y _ => 2 - (intOf y).toNat)
    case atStart => exact ⟨_, M, 0, rfl, rfl, by omega, hm12, ho, hbc⟩
    case round =>
      clear ho hbc hm12
      obtain ⟨v, M, k, hv, rfl, hk, hm12, ho, hb⟩ := hrel
      subst hv
      obtain ⟨wk, rfl⟩ : ∃ w, w = wr := ⟨_, rfl⟩
      by_cases hlt : k < 2
      · obtain ⟨p, c, hv, hni, hcp⟩ := ho.out.shape2
        subst hv
        have MV := Lib.hid (MA.out t ds M c p wk HDS.out hni hcp hm12)
        clear hcp
        obtain ⟨E, hE⟩ : ∃ E, wantN M = E := ⟨_, rfl⟩
        rw [hE] at MV
        have HE := Lib.hid hE
        have hE2 : E ≤ 2 := by rw [← hE]; unfold wantN; split <;> (try split) <;> omega
        obtain ⟨n, hn⟩ : ∃ n, M.length = n := ⟨_, rfl⟩
        have HN := Lib.hid hn
        have HO := Lib.hid ho.out
        have HNI := Lib.hid hni
        rw [hn] at MV hm12 HO ⊢
        clear hE hn hni ho
        go_wp2_with fail
        refine MV.out.mono ?_
        rintro e w2 ⟨v2, rfl, hg, hz, hb2⟩
        have B2 := Lib.hid (hb.out.trans (hb2.mono hb.out.size))
        have HO2 := Lib.hid (HO.out.under hb2)
        have HNI2 := Lib.hid (HNI.out.lower hb2)
        have HG := Lib.hid hg
        have HZ := Lib.hid hz
        clear hb2 hg hz MV HO HNI hb
        go_wp2_with fail
        go_loop [10, 11] (fun x y => ∃ u i : Nat, x = .int .i64 u ∧ y = .int .i64 i ∧ i ≤ n ∧ Hid (u = if badH (M.take i) then 1 else 0)) (fun _ y => n - (intOf y).toNat)
        case atStart => exact ⟨0, 0, rfl, rfl, by omega, Lib.hid rfl⟩
        case round =>
          obtain ⟨u, i, rfl, rfl, hin, hu⟩ := hrel
          by_cases hlt2 : i < n
          · obtain ⟨g, e, hc⟩ := HNI2.out i (by have := HN.out; omega)
            subst e
            have HBS := Lib.hid (bad_succ M i (by have := HN.out; omega))
            have bi : (i : Int) < (n : Int) := by omega
            generalize M.getD i 0 = x at *
            by_cases h1 : x < 0
            · have HU2 : Hid (1 = if badH (M.take (i + 1)) then 1 else 0) := Lib.hid (by rw [HBS.out, decide_eq_true h1]; simp)
              clear hu HBS
              go_wp2_with fail
              go_round
              case rel => exact ⟨1, i + 1, rfl, by go_num, by omega, HU2⟩
              case measure => simp [intOf]; omega
            · by_cases h2 : 200 < x
              · have HU2 : Hid (1 = if badH (M.take (i + 1)) then 1 else 0) := Lib.hid (by rw [HBS.out, decide_eq_true h2]; simp)
                clear hu HBS
                go_wp2_with fail
                go_round
                case rel => exact ⟨1, i + 1, rfl, by go_num, by omega, HU2⟩
                case measure => simp [intOf]; omega
              · have HU2 : Hid (u = if badH (M.take (i + 1)) then 1 else 0) := Lib.hid (by rw [HBS.out, decide_eq_false h1, decide_eq_false h2]; simp [hu.out])
                clear hu HBS
                go_wp2_with fail
                go_round
                case rel => exact ⟨u, i + 1, rfl, by go_num, by omega, HU2⟩
                case measure => simp [intOf]; omega
          · have HU : Hid (u = if badH M then 1 else 0) := Lib.hid (by rw [hu.out, List.take_of_length_le (by have := HN.out; omega)])
            clear hu
            go_upto_if 54 with fail
            go_cut [10] from 52 to 54 (fun x wx => x = .int .i64 E ∧ w2 = wx)
            case first =>
              by_cases h10 : 10 < n
              · have e2 : E = 2 := by rw [← HE.out]; unfold wantN; rw [if_pos (by have := HN.out; omega)]
                have HE2 := Lib.hid e2
                clear e2
                go_wp2_with fail
                go_meet
                case rel => exact ⟨by rw [HE2.out]; rfl, rfl⟩
              · have e2 : E = u := by rw [← HE.out, HU.out]; unfold wantN; rw [if_neg (by have := HN.out; omega)]
                have HE2 := Lib.hid e2
                clear e2
                go_wp2_with fail
                go_meet
                case rel => exact ⟨by rw [HE2.out], rfl⟩
            case rest =>
              obtain ⟨rfl, rfl⟩ := hcut
              go_upto_if 56 with fail
              go_cut [12, 13] from 55 to 92 (fun a b wx => Hid (Below w2.heap.size w2 wx))
              case first =>
                by_cases hE0 : E = 0
                · obtain ⟨H, hMH, hH2, hH10, hout⟩ := HG.out hE0
                  have qz1 : ((E : Int) == 0) = true := by simp [hE0]
                  have qz2 : ((E : Int) != 0) = false := by simp [hE0]
                  have hnn : H.length = n := by have := HN.out; rw [hMH, ints_len] at this; exact this
                  have RM := Lib.hid (RMoves_any t ds H p c w2 HDS.out (ns_of_ni (by rw [← hMH]; exact HNI2.out)) hH10 hH2)
                  have HOUT := Lib.hid hout
                  have HLN9 : Hid (∀ A ∈ placed (mvl ds H H.length), A.length ≤ 12) := Lib.hid (fun A hA => by have := mvl_len3 ds H _ A hA; omega)
                  obtain ⟨F, hF⟩ : ∃ F, placed (mvl ds H H.length) = F := ⟨_, rfl⟩
                  rw [hF] at RM HOUT HLN9
                  rw [hnn] at RM
                  clear hE0 hout hMH hF hnn hH2 hH10
                  go_wp2_with fail
                  refine RM.out.mono ?_
                  rintro e w3 ⟨v3, rfl, hout3, hb3⟩
                  have HB3 := Lib.hid hb3
                  have HO3 := Lib.hid hout3
                  have HOA := Lib.hid (HOUT.out.under hb3)
                  clear hout3 hb3 HOUT RM
                  rcases HOA.out with ⟨hv0, hF0⟩ | ⟨g1, c1, R1, hv1, f1, hf1, hc1, hg1, hR1, hce1, hro1⟩
                  · rcases HO3.out with ⟨hv3, _⟩ | ⟨_, _, _, _, f9, _⟩
                    · subst hv0 hv3
                      clear hF0
                      go_wp2_with fail
                      go_loop [13] (fun y => y = .int .i64 0) (fun _ => 0)
                      case atStart => rfl
                      case round =>
                        subst hrel
                        go_wp2_with fail
                        go_meet
                        case rel => exact HB3
                    · rw [hF0] at f9; simp at f9
                  · rcases HO3.out with ⟨hv3, hF3⟩ | ⟨g2, c2, R2, hv2, f2, hf2, hc2, hg2, hR2, hce2, hro2⟩
                    · rw [hF3] at f1; simp at f1
                    · subst hv1 hv2
                      have HCE1 := Lib.hid hce1
                      have HCE2 := Lib.hid hce2
                      have HRO1 := Lib.hid hro1
                      have HRO2 := Lib.hid hro2
                      clear hce1 hce2 hro1 hro2 hR1 hR2 hg1 hg2 f2
                      go_wp2_with fail
                      go_loopw [13] (fun x wr => ∃ j : Nat, x = .int .i64 j ∧ j ≤ F.length ∧ Hid (∃ q, wr = w3.drewN q)) (fun x _ => F.length - (intOf x).toNat)
                      case atStart => exact ⟨0, rfl, by omega, Lib.hid ⟨0, rfl⟩⟩
                      case round =>
                        obtain ⟨j, rfl, hjf, hw⟩ := hrel
                        by_cases hlt2 : j < F.length
                        · obtain ⟨pa, da, ea, na⟩ := HRO1.out j hlt2
                          obtain ⟨pb, db, eb, nb⟩ := HRO2.out j hlt2
                          have hAl : (F.getD j []).length ≤ 12 := HLN9.out _ (by
                            rw [List.getD_eq_getElem?_getD, List.getElem?_eq_getElem hlt2]; exact List.getElem_mem _)
                          have ca : wr.cell? ⟨g1, j, none⟩ = some (.slice pa (F.getD j []).length da) := by
                            obtain ⟨q, hq⟩ := hw.out; rw [hq]; exact HCE1.out j _ ea
                          have cb : wr.cell? ⟨g2, j, none⟩ = some (.slice pb (F.getD j []).length db) := by
                            obtain ⟨q, hq⟩ := hw.out; rw [hq]; exact HCE2.out j _ eb
                          have HSM : Hid (∀ m, Calls Try.prog 18 #[.slice pa (F.getD j []).length da, .slice pb (F.getD j []).length db] (wr.drewN m) fun e w' => e = .returned (.bool true) ∧ ∃ q, w' = (wr.drewN m).drewN q) := Lib.hid (fun m => by
                            obtain ⟨q, hq⟩ := hw.out
                            exact same_ints _ pa pb da db (wr.drewN m) (by rw [hq]; exact na) (by rw [hq]; exact nb) (by omega))
                          have bj : (j : Int) < (F.length : Int) := by omega
                          generalize (F.getD j []).length = la at *
                          clear ea eb na nb
                          go_wp2_with fail
                          go_quiet ((go_at_call 18; exact Calls.quiet_of (HSM.out _)))
                          go_wp2_with fail
                          go_roundw
                          case rel => exact ⟨j + 1, by go_num, by omega, Lib.hid (by obtain ⟨q, hq⟩ := hw.out; exact ⟨q + nq, by rw [hq, World.drewN_drewN]⟩)⟩
                          case measure => simp [intOf]; omega
                        · have HBE : Hid (Below w2.heap.size w2 wr) := Lib.hid (by obtain ⟨q, hq⟩ := hw.out; rw [hq]; exact below_drewN HB3.out _)
                          go_wp2_with fail
                          go_meet
                          case rel => exact HBE
                · have hv := HZ.out hE0
                  subst hv
                  have qz1 : ((E : Int) == 0) = false := by simp; omega
                  have qz2 : ((E : Int) != 0) = true := by simp; omega
                  clear hE0
                  go_wp2_with fail
                  go_meet
                  case rel => exact Lib.hid (Below.refl _ _)
              case rest =>
                have HO3 := Lib.hid (HO2.out.under hcut.out)
                have HBC := Lib.hid (B2.out.trans (hcut.out.mono B2.out.size))
                rcases HO3.out with ⟨hv, hM⟩ | ⟨g, c', hv, h2, h3, h4, hblk⟩
                · have HM9 := Lib.hid hM
                  clear hM HO3 HO2 HNI2
                  cases hv
                  have hmin : (min 0 4 : Int) = 0 := rfl
                  go_wp2_with fail
                  go_loop [14] (fun y => y = .int .i64 0) (fun _ => 0)
                  case atStart => rfl
                  case round =>
                    subst hrel
                    go_wp2_with fail
                    go_roundw
                    case rel => exact ⟨_, [], k + 1, rfl, by go_num, by omega, by simp, Lib.hid (.inl ⟨rfl, rfl⟩), HBC⟩
                    case measure => simp [intOf]; omega
                · have HBK : Hid (∃ f : Nat → Int, Blk wc g n (fun j => .int .i64 (f j))) := Lib.hid ⟨fun j => M.getD j 0, by rw [← HN.out]; exact hblk⟩
                  rw [HN.out] at hv h2
                  clear hblk HO3 HO2 HNI2
                  cases hv
                  go_wp2_with fail
                  go_loopw [14] (fun x wr => ∃ i : Nat, x = .int .i64 i ∧ i ≤ n ∧ Hid (∃ f : Nat → Int, Blk wr g n (fun j => .int .i64 (f j))) ∧ Hid (Below W.heap.size W wr)) (fun x _ => n - (intOf x).toNat)
                  case atStart => exact ⟨0, rfl, by omega, HBK, HBC⟩
                  case round =>
                    clear HBK HBC hcut
                    obtain ⟨i, rfl, hin, hbk, hbw⟩ := hrel
                    by_cases hlt3 : i < n
                    · obtain ⟨f, hf⟩ := hbk.out
                      have hci := hf.cell hlt3
                      have hfz := hf.frozen i
                      obtain ⟨x, hx⟩ : ∃ x, f i = x := ⟨_, rfl⟩
                      rw [hx] at hci
                      have bi : (i : Int) < (n : Int) := by omega
                      clear hf hx
                      go_wp2_with fail
                      go_roundw
                      case rel => exact ⟨i + 1, by go_num, by omega, Lib.hid (blk_int_set hbk.out i _), Lib.hid (hbw.out.setCell (by simpa using h4) _)⟩
                      case measure => simp [intOf]; omega
                    · obtain ⟨f, hf⟩ := hbk.out
                      obtain ⟨r, hr⟩ : ∃ r, min n 4 = r := ⟨_, rfl⟩
                      have hmin : min (n : Int) 4 = (r : Int) := by omega
                      have hrn : r ≤ n := by omega
                      have hr4 : r ≤ 4 := by omega
                      have HOE : Hid (OwnI wr W.heap.size (.slice (some ⟨g, 0, none⟩) r c) ((List.range r).map f)) := Lib.hid (.inr ⟨g, c, by simp, by simp; omega, h3, h4, ((Blk.cut hf (m := r) hrn).congr (fun j hj => by simp [List.getD_eq_getElem?_getD, hj])).cut (by simp)⟩)
                      clear hr hf
                      go_wp2_with fail
                      go_roundw
                      case rel => exact ⟨_, (List.range r).map f, k + 1, rfl, by go_num, by omega, by simp; omega, HOE, hbw⟩
                      case measure => simp [intOf]; omega
      · go_wp2_with fail
        refine (AW.out wk).mono ?_
        rintro e w3 ⟨rfl, hb3⟩
        have B3 := Lib.hid (hb.out.trans (hb3.mono hb.out.size))
        clear hb3
        go_wp2_with fail
        go_ret
        exact ⟨rfl, B3.out⟩
end Go.Proofs.Ytodnfchkkgoabaa
