/-
  WALKS. container/heap over the components: down, Push, Pop.
-/
import Derived.Test.YtijohaeiiidcpaaGbL
namespace Go.Proofs.Ytijohaeiiidcpaa
open Go.RowKit Go.Maps
theorem downF_stop {f i n : Nat} {l : List Nat} (h : n ≤ 2 * i + 1) : downF f l i n = l := by
  cases f with
  | zero => rfl
  | succ f => unfold downF; rw [if_pos h]
theorem downF_rest {f i n : Nat} {l : List Nat} (h : ¬ n ≤ 2 * i + 1) (h2 : ¬ gt l (kidF l i n) < gt l i) : downF (f + 1) l i n = l := by unfold downF; rw [if_neg h, if_neg h2]
theorem downF_go {f i n : Nat} {l : List Nat} (h : ¬ n ≤ 2 * i + 1) (h2 : gt l (kidF l i n) < gt l i) : downF (f + 1) l i n = downF f (swL l i (kidF l i n)) (kidF l i n) n := by
  conv => lhs; unfold downF
  rw [if_neg h, if_pos h2]
section
variable {w w' : World} {B b : Nat} {v : Value} {l : List Nat}
set_option maxRecDepth 100000 in
set_option maxHeartbeats 16000000 in
theorem down_p (h : HB w B b v l) {i0 n F : Nat} (hi0 : i0 < l.length) (hnl : n ≤ l.length) (hF0 : n ≤ F + i0) (hn : l.length ≤ 100000000) : Calls Try.prog 58 #[hpV b, iV i0, iV n] w fun e w' => (∃ x, e = .returned (.bool x)) ∧ HBx w B b (downF F l i0 n) w' := by
  go_enter Try.func58, Try.ntmps58
  go_wp2
  go_loopw [7] (fun q wr => ∃ (i f : Nat) (v1 : Value) (l1 : List Nat), q = iV i ∧ HB wr B b v1 l1 ∧ i < l1.length ∧ l1.length = l.length ∧ n ≤ f + i ∧ Hid (downF f l1 i n = downF F l i0 n) ∧ FG B b w wr) (fun q _ => l.length - (intOf q).toNat)
  case atStart => exact ⟨i0, F, v, l, rfl, h, hi0, rfl, hF0, Lib.hid rfl, Only.refl _ _⟩
  case round =>
    obtain ⟨i, f, v1, l1, rfl, hS, hi, hln, hif, HR, hF⟩ := hrel
    have hc0 := hS.c0
    have mL := fun k => m_less k wr b v1 hc0
    have hw1 : IntKind.i64.wrap (2 * (i : Int)) = 2 * (i : Int) := IntWalk.i64_in _ (by omega)
    have hw2 : IntKind.i64.wrap (2 * (i : Int) + 1) = 2 * (i : Int) + 1 := IntWalk.i64_in _ (by omega)
    have hw3 : IntKind.i64.wrap (2 * (i : Int) + 1 + 1) = 2 * (i : Int) + 1 + 1 := IntWalk.i64_in _ (by omega)
    by_cases hz : n ≤ 2 * i + 1
    · have hd1 : decide ((n : Int) ≤ 2 * (i : Int) + 1) = true := decide_eq_true (by omega)
      have hd2 : (n : Int) ≤ 2 * (i : Int) + 1 := by omega
      have HE : Hid (downF F l i0 n = l1) := Lib.hid (by rw [← HR.out, downF_stop hz])
      go_wp2
      all_goals
        go_ret
        rw [HE.out]
        exact ⟨⟨_, rfl⟩, _, hS, hF⟩
    · have hd1 : decide ((n : Int) ≤ 2 * (i : Int) + 1) = false := decide_eq_false (by omega)
      have hd2 : ¬ (n : Int) ≤ 2 * (i : Int) + 1 := by omega
      have hd3 : ¬ (2 * (i : Int) + 1 < 0) := by omega
      have hd4 : decide (2 * (i : Int) + 1 < 0) = false := decide_eq_false (by omega)
      obtain ⟨f', rfl⟩ : ∃ f', f = f' + 1 := ⟨f - 1, by omega⟩
      have hj1 : 2 * i + 1 < l1.length := by omega
      obtain ⟨j1, hj1e⟩ : ∃ j, 2 * i + 1 = j := ⟨_, rfl⟩
      have hjI : 2 * (i : Int) + 1 = (j1 : Int) := by omega
      rw [hjI] at hw2 hw3 hd1 hd2 hd3 hd4
      have hw2' : IntKind.i64.wrap (2 * (i : Int) + 1) = (j1 : Int) := by rw [hjI]; exact hw2
      rw [hj1e] at hj1
      have hwI : 2 * (i : Int) + 1 = (j1 : Int) := hjI
      by_cases h2 : j1 + 1 < n
      · have he1 : decide ((j1 : Int) + 1 < (n : Int)) = true := decide_eq_true (by omega)
        have he2 : (j1 : Int) + 1 < (n : Int) := by omega
        have hj2 : j1 + 1 < l1.length := by omega
        obtain ⟨j2, hj2e⟩ : ∃ j, j1 + 1 = j := ⟨_, rfl⟩
        have hjJ : (j1 : Int) + 1 = (j2 : Int) := by omega
        rw [hjJ] at he1 he2 hw3
        rw [hj2e] at hj2
        by_cases hs : gt l1 j2 < gt l1 j1
        · have hy : decide (gt l1 j2 < gt l1 j1) = true := decide_eq_true hs
          have hk : kidF l1 i n = j2 := by unfold kidF; rw [hj1e, hj2e, if_pos ⟨by omega, hs⟩]
          have hcl := hj2
          have HJ2 := Lib.hid hj2e
          have hii : j2 > i := by omega
          by_cases hlt : gt l1 j2 < gt l1 i
          · have hx : decide (gt l1 j2 < gt l1 i) = true := decide_eq_true hlt
            have HN : Hid (downF f' (swL l1 i j2) j2 n = downF F l i0 n) := Lib.hid (by rw [← HR.out, downF_go hz (by rw [hk]; exact hlt), hk])
            have HK := Lib.hid hk
            have HJE := Lib.hid hj1e
            clear hk hj1e hj2e
            go_wp2_with (first | (go_at_call 76; (with_reducible refine (Less_p hS hj2 hj1 true hy).mono ?_); rintro e w4 ⟨rfl, hO4⟩; have hS4 := hS.same hO4; have mL4 := fun k => m_less k w4 b v1 hS4.c0) | (go_at_call 76; (with_reducible refine (Less_p hS4 hcl hi true hx).mono ?_); rintro e w5 ⟨rfl, hO5⟩; have hS5 := hS4.same hO5; have mS := fun k => m_swap k w5 b v1 hS5.c0) | (go_at_call 77; (refine (Swap_p hS5 hi hcl).mono ?_); rintro e w6 ⟨rfl, hS6, hF6⟩))
            go_roundw
            case rel => exact ⟨j2, f', v1, swL l1 i j2, rfl, hS6, by rw [swL_len]; exact hcl, by rw [swL_len]; exact hln, by have := HJE.out; omega, HN, hF.trans (((FG.keep hO4).trans (FG.keep hO5)).trans hF6)⟩
            case measure => have := HJE.out; simp [intOf]; omega
          · have hx : decide (gt l1 j2 < gt l1 i) = false := decide_eq_false hlt
            have HE : Hid (downF F l i0 n = l1) := Lib.hid (by rw [← HR.out, downF_rest hz (by rw [hk]; exact hlt)])
            have HK := Lib.hid hk
            have HJE := Lib.hid hj1e
            clear hk hj1e hj2e
            go_wp2_with (first | (go_at_call 76; (with_reducible refine (Less_p hS hj2 hj1 true hy).mono ?_); rintro e w4 ⟨rfl, hO4⟩; have hS4 := hS.same hO4; have mL4 := fun k => m_less k w4 b v1 hS4.c0) | (go_at_call 76; (with_reducible refine (Less_p hS4 hcl hi false hx).mono ?_); rintro e w5 ⟨rfl, hO5⟩; have hS5 := hS4.same hO5; have mS := fun k => m_swap k w5 b v1 hS5.c0))
            go_ret
            rw [HE.out]
            exact ⟨⟨_, rfl⟩, _, hS5, hF.trans ((FG.keep hO4).trans (FG.keep hO5))⟩
        · have hy : decide (gt l1 j2 < gt l1 j1) = false := decide_eq_false hs
          have hk : kidF l1 i n = j1 := by unfold kidF; rw [hj1e, hj2e, if_neg (fun hc => hs hc.2)]
          have hcl := hj1
          have hii : j1 > i := by omega
          by_cases hlt : gt l1 j1 < gt l1 i
          · have hx : decide (gt l1 j1 < gt l1 i) = true := decide_eq_true hlt
            have HN : Hid (downF f' (swL l1 i j1) j1 n = downF F l i0 n) := Lib.hid (by rw [← HR.out, downF_go hz (by rw [hk]; exact hlt), hk])
            have HK := Lib.hid hk
            have HJE := Lib.hid hj1e
            clear hk hj1e hj2e
            go_wp2_with (first | (go_at_call 76; (with_reducible refine (Less_p hS hj2 hj1 false hy).mono ?_); rintro e w4 ⟨rfl, hO4⟩; have hS4 := hS.same hO4; have mL4 := fun k => m_less k w4 b v1 hS4.c0) | (go_at_call 76; (with_reducible refine (Less_p hS4 hcl hi true hx).mono ?_); rintro e w5 ⟨rfl, hO5⟩; have hS5 := hS4.same hO5; have mS := fun k => m_swap k w5 b v1 hS5.c0) | (go_at_call 77; (refine (Swap_p hS5 hi hcl).mono ?_); rintro e w6 ⟨rfl, hS6, hF6⟩))
            go_roundw
            case rel => exact ⟨j1, f', v1, swL l1 i j1, rfl, hS6, by rw [swL_len]; exact hcl, by rw [swL_len]; exact hln, by have := HJE.out; omega, HN, hF.trans (((FG.keep hO4).trans (FG.keep hO5)).trans hF6)⟩
            case measure => have := HJE.out; simp [intOf]; omega
          · have hx : decide (gt l1 j1 < gt l1 i) = false := decide_eq_false hlt
            have HE : Hid (downF F l i0 n = l1) := Lib.hid (by rw [← HR.out, downF_rest hz (by rw [hk]; exact hlt)])
            have HK := Lib.hid hk
            have HJE := Lib.hid hj1e
            clear hk hj1e hj2e
            go_wp2_with (first | (go_at_call 76; (with_reducible refine (Less_p hS hj2 hj1 false hy).mono ?_); rintro e w4 ⟨rfl, hO4⟩; have hS4 := hS.same hO4; have mL4 := fun k => m_less k w4 b v1 hS4.c0) | (go_at_call 76; (with_reducible refine (Less_p hS4 hcl hi false hx).mono ?_); rintro e w5 ⟨rfl, hO5⟩; have hS5 := hS4.same hO5; have mS := fun k => m_swap k w5 b v1 hS5.c0))
            go_ret
            rw [HE.out]
            exact ⟨⟨_, rfl⟩, _, hS5, hF.trans ((FG.keep hO4).trans (FG.keep hO5))⟩
      · have he1 : decide ((j1 : Int) + 1 < (n : Int)) = false := decide_eq_false (by omega)
        have he2 : ¬ (j1 : Int) + 1 < (n : Int) := by omega
        have hk : kidF l1 i n = j1 := by unfold kidF; rw [hj1e, if_neg (fun hc => h2 hc.1)]
        have hcl := hj1
        have hii : j1 > i := by omega
        by_cases hlt : gt l1 j1 < gt l1 i
        · have hx : decide (gt l1 j1 < gt l1 i) = true := decide_eq_true hlt
          have HN : Hid (downF f' (swL l1 i j1) j1 n = downF F l i0 n) := Lib.hid (by rw [← HR.out, downF_go hz (by rw [hk]; exact hlt), hk])
          have HK := Lib.hid hk
          have HJE := Lib.hid hj1e
          clear hk hj1e
          go_wp2_with (first | (go_at_call 76; (with_reducible refine (Less_p hS hcl hi true hx).mono ?_); rintro e w5 ⟨rfl, hO5⟩; have hS5 := hS.same hO5; have mS := fun k => m_swap k w5 b v1 hS5.c0) | (go_at_call 77; (refine (Swap_p hS5 hi hcl).mono ?_); rintro e w6 ⟨rfl, hS6, hF6⟩))
          go_roundw
          case rel => exact ⟨j1, f', v1, swL l1 i j1, rfl, hS6, by rw [swL_len]; exact hcl, by rw [swL_len]; exact hln, by have := HJE.out; omega, HN, hF.trans ((FG.keep hO5).trans hF6)⟩
          case measure => have := HJE.out; simp [intOf]; omega
        · have hx : decide (gt l1 j1 < gt l1 i) = false := decide_eq_false hlt
          have HE : Hid (downF F l i0 n = l1) := Lib.hid (by rw [← HR.out, downF_rest hz (by rw [hk]; exact hlt)])
          have HK := Lib.hid hk
          have HJE := Lib.hid hj1e
          clear hk hj1e
          go_wp2_with ((go_at_call 76; (with_reducible refine (Less_p hS hcl hi false hx).mono ?_); rintro e w5 ⟨rfl, hO5⟩; have hS5 := hS.same hO5; have mS := fun k => m_swap k w5 b v1 hS5.c0))
          go_ret
          rw [HE.out]
          exact ⟨⟨_, rfl⟩, _, hS5, hF.trans (FG.keep hO5)⟩
set_option maxRecDepth 100000 in
set_option maxHeartbeats 4000000 in
theorem hPush_p (h : HB w B b v l) (x : Nat) (hn : l.length + 1 ≤ 100000000) : Calls Try.prog 44 #[hpV b, .iface 3 (iV x)] w fun e w' => e = .returned (.tuple #[]) ∧ HBx w B b (pushL l x) w' := by
  have mP := fun k => m_push k w b
  have hln : (l ++ [x]).length = l.length + 1 := by simp
  have hwl : IntKind.i64.wrap (l.length : Int) = (l.length : Int) := IntWalk.i64_in _ (by omega)
  go_enter Try.func44, Try.ntmps44
  go_wp2_with (first | (go_at_call 79; (refine (RPush_p h x (by omega)).mono ?_); rintro e w2 ⟨rfl, v2, hS2, hF2⟩; have mL := fun k => m_len k w2 b v2 hS2.c0; obtain ⟨oa, ca, hv2⟩ := rowForm hS2.row; rw [hln] at hv2; subst hv2) | (go_at_call 45; (refine (Len_p w2 oa (l.length + 1) ca).mono ?_); rintro e w3 ⟨rfl, hw3⟩; subst hw3) | (go_at_call 57; (refine (up_p hS2 (j0 := l.length) (F := l.length + 1) (by omega) (by omega) (by omega)).mono ?_); rintro e w4 ⟨rfl, v4, hS4, hF4⟩))
  go_end0
  exact ⟨rfl, _, hS4, hF2.trans hF4⟩
set_option maxRecDepth 100000 in
set_option maxHeartbeats 4000000 in
theorem hPop_p (h : HB w B b v l) (hl : l ≠ []) (hn : l.length ≤ 100000000) : Calls Try.prog 46 #[hpV b] w fun e w' => e = .returned (.iface 3 (iV (popL l).1)) ∧ HBx w B b (popL l).2 w' := by
  have mL := fun k => m_len k w b v h.c0
  have mS := fun k => m_swap k w b v h.c0
  have hS0 := h
  obtain ⟨oa, ca, hv⟩ := rowForm h.row
  have hpos : 0 < l.length := List.length_pos_iff.2 hl
  obtain ⟨m, hm⟩ : ∃ m, l.length = m + 1 := ⟨l.length - 1, by omega⟩
  rw [hm] at hv
  have hwl : IntKind.i64.wrap (m : Int) = (m : Int) := IntWalk.i64_in _ (by omega)
  have hdl : (downF l.length (swL l 0 (l.length - 1)) 0 (l.length - 1)).length = l.length := by rw [downF_len, swL_len]
  obtain ⟨l', x, hpx⟩ : ∃ l' x, popD l = l' ++ [x] := by
    rcases path_cases (popD l) with h0 | ⟨l', x, h0⟩
    · unfold popD at h0
      rw [h0] at hdl
      simp at hdl
      omega
    · exact ⟨l', x, h0⟩
  have hll : l'.length = m := by
    have := congrArg List.length hpx
    unfold popD at this
    rw [hdl, List.length_append, List.length_singleton] at this
    omega
  have HQ : Hid (popL l = (x, l')) := Lib.hid (by
    unfold popL
    rw [hpx, List.dropLast_concat, hm, show m + 1 - 1 = m by omega, gt_at (by simp; omega)]
    congr 1
    have : m = l'.length := hll.symm
    subst this
    simp)
  have hpx2 : downF l.length (swL l 0 m) 0 m = l' ++ [x] := by rw [← hpx]; unfold popD; rw [hm]; rfl
  have HPX := Lib.hid hpx2
  subst hv
  clear hpx hpx2 hdl hl
  go_enter Try.func46, Try.ntmps46
  go_wp2_with (first | (go_at_call 45; (refine (Len_p w oa (m + 1) ca).mono ?_); rintro e w3 ⟨rfl, hw3⟩; subst hw3) | (go_at_call 77; (refine (Swap_p hS0 (i := 0) (j := m) (by omega) (by omega)).mono ?_); rintro e w4 ⟨rfl, hS4, hF4⟩) | (go_at_call 58; (refine (down_p hS4 (i0 := 0) (n := m) (F := l.length) (by rw [swL_len]; omega) (by rw [swL_len]; omega) (by omega) (by rw [swL_len]; omega)).mono ?_); rintro e w5 ⟨⟨x5, rfl⟩, v5, hS5, hF5⟩; rw [HPX.out] at hS5; have mP := fun k => m_pop k w5 b) | (go_at_call 78; (refine (RPop_p hS5 (by omega)).mono ?_); rintro e w6 ⟨rfl, v6, hS6, hF6⟩))
  go_ret
  rw [HQ.out]
  exact ⟨rfl, _, hS6, hF4.trans (hF5.trans hF6)⟩
end
end Go.Proofs.Ytijohaeiiidcpaa
