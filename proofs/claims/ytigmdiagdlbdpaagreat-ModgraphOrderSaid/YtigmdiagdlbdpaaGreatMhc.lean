/-
  WALKS. The laws' names compared; the reference's Has, Insert, Imports.
-/
import Derived.Test.YtigmdiagdlbdpaaGreatMha
namespace Go.Proofs.YtigmdiagdlbdpaaGreat
open Go.RowKit Go.Maps
set_option maxRecDepth 100000 in
set_option maxHeartbeats 4000000 in
theorem mSame_p (w : World) (oa ob : Option Addr) (n m ca cb : Nat) (l l' : List Nm) (h : Strz w oa n l) (h' : Strz w ob m l') (hn : n ≤ 1000000) (x : Bool) (hx : decide (l = l') = x) : Calls Tryz.prog 14 #[.slice oa n ca, .slice ob m cb] w fun e w' => e = .returned (.bool x) ∧ Only (fun _ => False) w w' := by
  have hl := h.len
  have hl' := h'.len
  have HX := Lib.hid hx
  clear hx
  by_cases hnm : n = m
  · subst hnm
    have HL := Lib.hid (show l.length = l'.length by omega)
    go_enter Tryz.func14, Tryz.ntmps14
    go_wp2
    go_loopw [5] (fun q wr => ∃ k : Nat, k ≤ n ∧ q = .int .i64 k ∧ Hid (∀ i, i < k → nAt l i = nAt l' i) ∧ Only (fun _ => False) w wr) (fun q _ => n - (intOf q).toNat)
    case atStart => exact ⟨0, by omega, rfl, Lib.hid (fun i hi => absurd hi (Nat.not_lt_zero _)), Only.refl _ _⟩
    case round =>
      obtain ⟨k, hk, rfl, HK, hO⟩ := hrel
      by_cases hlt : k < n
      · obtain ⟨b1, o1, e1, c1⟩ := (h.old hO (fun _ _ hc => hc)).cell k (by omega)
        obtain ⟨b2, o2, e2, c2⟩ := (h'.old hO (fun _ _ hc => hc)).cell k (by omega)
        subst e1
        subst e2
        have h01 : (0 : Int) ≤ (k : Int) := Int.natCast_nonneg k
        have h02 : (k : Int) < (n : Int) := by omega
        have h03 : (k : Int).toNat = k := Int.toNat_natCast k
        obtain ⟨y, hy⟩ : ∃ y, nAt l k = y := ⟨_, rfl⟩
        obtain ⟨z, hz⟩ : ∃ z, nAt l' k = z := ⟨_, rfl⟩
        rw [hy] at c1
        rw [hz] at c2
        have HY := Lib.hid hy
        have HZ := Lib.hid hz
        clear hy hz
        by_cases e : y = z
        · subst e
          have HN := Lib.hid (show ∀ i, i < k + 1 → nAt l i = nAt l' i from fun i hi => by
            by_cases e : i = k
            · rw [e, HY.out, HZ.out]
            · exact HK.out i (by omega))
          go_wp2
          go_region
          go_wp2
          go_roundw
          case rel => exact ⟨k + 1, by omega, by go_num, HN, hO.drew⟩
          case measure => simp [intOf]; omega
        · have e1 : (y == z) = false := beq_eq_false_iff_ne.2 e
          have HF : Hid (x = false) := Lib.hid (by rw [← HX.out]; exact decide_eq_false (fun hc => e (by rw [← HY.out, ← HZ.out, hc])))
          go_wp2
          go_region
          go_wp2
          go_ret
          rw [HF.out]
          exact ⟨rfl, hO.drew⟩
      · have HT : Hid (x = true) := Lib.hid (by
          rw [← HX.out]
          exact decide_eq_true (nAt_ext HL.out (fun i hi => HK.out i (by omega))))
        go_wp2
        go_ret
        rw [HT.out]
        exact ⟨rfl, hO⟩
  · have e1 : ((n : Int) != (m : Int)) = true := by simp; omega
    have e2 : ¬ (n : Int) = (m : Int) := by omega
    have HF : Hid (x = false) := Lib.hid (by rw [← HX.out]; exact decide_eq_false (fun hc => hnm (by rw [← hl, ← hl', hc])))
    go_enter Tryz.func14, Tryz.ntmps14
    go_wp2
    go_ret
    rw [HF.out]
    exact ⟨rfl, Only.refl _ _⟩
set_option maxRecDepth 100000 in
set_option maxHeartbeats 4000000 in
theorem rHas_p (w : World) (oa : Option Addr) (n ca : Nat) (l : List Nm) (h : Strz w oa n l) (hn : n ≤ 1000000) (s : Nm) (x : Bool) (hx : decide (s ∈ l) = x) : Calls Tryz.prog 21 #[.slice oa n ca, encStr s] w fun e w' => e = .returned (.bool x) ∧ w' = w := by
  have hl := h.len
  have HX := Lib.hid hx
  clear hx
  go_enter Tryz.func21, Tryz.ntmps21
  go_wp2
  go_loopw [5] (fun q wr => ∃ k : Nat, k ≤ n ∧ q = .int .i64 k ∧ Hid (∀ i, i < k → nAt l i ≠ s) ∧ wr = w) (fun q _ => n - (intOf q).toNat)
  case atStart => exact ⟨0, by omega, rfl, Lib.hid (fun i hi => absurd hi (Nat.not_lt_zero _)), rfl⟩
  case round =>
    obtain ⟨k, hk, rfl, HK, rfl⟩ := hrel
    by_cases hlt : k < n
    · have hkl : k < l.length := by omega
      obtain ⟨b1, o1, e1, c1⟩ := h.cell k hkl
      subst e1
      have h01 : (0 : Int) ≤ (k : Int) := Int.natCast_nonneg k
      have h02 : (k : Int) < (n : Int) := by omega
      have h03 : (k : Int).toNat = k := Int.toNat_natCast k
      obtain ⟨y, hy⟩ : ∃ y, nAt l k = y := ⟨_, rfl⟩
      rw [hy] at c1
      have HY := Lib.hid hy
      clear hy
      by_cases e : y = s
      · subst e
        have HF : Hid (x = true) := Lib.hid (by
          rw [← HX.out]
          exact decide_eq_true (by rw [← HY.out, nAt_get hkl]; exact List.getElem_mem hkl))
        go_wp2
        go_ret
        rw [HF.out]
        exact ⟨rfl, rfl⟩
      · have e1 : (y == s) = false := beq_eq_false_iff_ne.2 e
        have HN := Lib.hid (show ∀ i, i < k + 1 → nAt l i ≠ s from fun i hi => by
          by_cases e2 : i = k
          · rw [e2, HY.out]; exact e
          · exact HK.out i (by omega))
        clear e
        go_wp2
        go_roundw
        case rel => exact ⟨k + 1, by omega, by go_num, HN, trivial⟩
        case measure => simp [intOf]; omega
    · have HT : Hid (x = false) := Lib.hid (by
        rw [← HX.out]
        refine decide_eq_false (fun hc => ?_)
        obtain ⟨i, hi, e⟩ := List.getElem_of_mem hc
        exact HK.out i (by omega) (by rw [nAt_get hi]; exact e))
      go_wp2
      go_ret
      rw [HT.out]
      exact ⟨rfl, rfl⟩
set_option maxRecDepth 100000 in
set_option maxHeartbeats 8000000 in
theorem rInsert_p (w : World) (oa : Option Addr) (n ca : Nat) (l : List Nm) (h : Strz w oa n l) (hn : n ≤ 1000000) (s : Nm) : Calls Tryz.prog 42 #[.slice oa n ca, encStr s] w fun e w' => ∃ oo co, e = .returned (.slice oo (insP l s).length co) ∧ SR w' w.heap.size (.slice oo (insP l s).length co) (insP l s) ∧ Only (fun _ => False) w w' := by
  have hl := h.len
  have HL := Lib.hid h
  clear h
  go_enter Tryz.func42, Tryz.ntmps42
  go_wp2
  go_loopw [5, 6, 7] (fun v dv q wr => ∃ (k : Nat) (o : List Nm) (d : Bool), k ≤ n ∧ q = .int .i64 k ∧ dv = .bool d ∧ SR wr w.heap.size v o ∧ Hid (o ++ insF s (l.drop k) d = insP l s) ∧ o.length ≤ k + d.toNat ∧ Only (w.heap.size ≤ ·) w wr) (fun _ _ q _ => n - (intOf q).toNat)
  case atStart => exact ⟨0, [], false, by omega, rfl, rfl, SR.nil _ _, Lib.hid rfl, by simp, Only.refl _ _⟩
  case round =>
    obtain ⟨k, o, d, hk, rfl, rfl, hR, HI, hol, hO⟩ := hrel
    obtain ⟨oR, cR, hv⟩ := rowForm hR
    subst hv
    obtain ⟨m, hm⟩ : ∃ m, o.length = m := ⟨_, rfl⟩
    rw [hm] at hR hol
    rw [hm]
    have HR := Lib.hid hR
    have HM := Lib.hid hm
    have HO := Lib.hid hO
    have HSZ : Hid (w.heap.size ≤ wr.heap.size) := Lib.hid hO.size
    by_cases hlt : k < n
    · have hkl : k < l.length := by omega
      obtain ⟨b1, o1, e1, c1⟩ := (HL.out.up hO).cell k hkl
      subst e1
      have hdk := drop_nm hkl
      have h01 : (0 : Int) ≤ (k : Int) := Int.natCast_nonneg k
      have h02 : (k : Int) < (n : Int) := by omega
      have h03 : (k : Int).toNat = k := Int.toNat_natCast k
      obtain ⟨y, hy⟩ : ∃ y, nAt l k = y := ⟨_, rfl⟩
      rw [hy] at c1 hdk
      have HD := Lib.hid hdk
      clear hy hdk hR hm hO
      have HC : Hid (∀ wx, Only (w.heap.size ≤ ·) w wx → wx.cell? ⟨b1, o1 + k, none⟩ = some (encStr y)) := Lib.hid (fun wx hox => by
        obtain ⟨b2, o2, e2, c2⟩ := (HL.out.up hox).cell k hkl
        obtain ⟨b3, o3, e3, c3⟩ := HL.out.cell k hkl
        cases e2
        rw [c2]
        have h8 := HD.out
        rw [drop_nm hkl] at h8
        rw [(List.cons.inj h8).1])
      cases d with
      | true =>
        have hol2 : m ≤ k + 1 := hol
        have HN : Hid ((o ++ [y]) ++ insF s (l.drop (k + 1)) true = insP l s) := Lib.hid (by
          have h8 := HI.out
          rw [HD.out, insF_true] at h8
          rw [insF_true, List.append_assoc]
          exact h8)
        go_wp2_with (at_builtin; refine wpList_append_nm rfl _ _ rfl w.heap.size (.slice oR m cR) o rfl (SR.al (HR.out) _) _ 1 1 [y] rfl (strz_one wr y _) (by rw [HM.out]; clear hol; omega) (al_le (HSZ.out) _) ?_; intro oq cq w11 hq; have HA1 := Lib.hid hq.1; have HO1 := Lib.hid ((HO.out.alloc _).trans hq.2); have HZ1 : Hid (w.heap.size ≤ w11.heap.size) := Lib.hid (Nat.le_trans (HSZ.out) (Nat.le_trans (Nat.le_of_lt (by show _ < (Array.push _ _).size; rw [Array.size_push]; omega)) hq.2.size)); clear hq)
        go_roundw
        case rel => exact ⟨k + 1, o ++ [y], true, by omega, by go_num, rfl, HA1.out, HN, by rw [List.length_append, HM.out]; show m + 1 ≤ k + 1 + 1; omega, HO1.out⟩
        case measure => simp [intOf]; omega
      | false =>
        have hol2 : m ≤ k := hol
        by_cases hsy : s ≤ y
        · by_cases hsl : s < y
          · have hb : Op.bytesLess s y = true := by rw [bytesLess_eq]; exact decide_eq_true hsl
            have HN : Hid ((o ++ [s] ++ [y]) ++ insF s (l.drop (k + 1)) true = insP l s) := Lib.hid (by
              have h8 := HI.out
              rw [HD.out, insF, if_pos ⟨rfl, hsy⟩, if_pos hsl] at h8
              rw [← h8]
              simp)
            clear hsy hsl
            go_wp2_with (first | (at_builtin; refine wpList_append_nm rfl _ _ rfl w.heap.size (.slice oR m cR) o rfl (SR.al (HR.out) _) _ 1 1 [s] rfl (strz_one wr s _) (by rw [HM.out]; clear hol; omega) (al_le (HSZ.out) _) ?_; intro oq2 cq2 w12 hq; have HA2 := Lib.hid hq.1; have HO2 := Lib.hid ((HO.out.alloc _).trans hq.2); have HZ2 : Hid (w.heap.size ≤ w12.heap.size) := Lib.hid (Nat.le_trans (HSZ.out) (Nat.le_trans (Nat.le_of_lt (by show _ < (Array.push _ _).size; rw [Array.size_push]; omega)) hq.2.size)); clear hq; have c3 := HC.out w12 HO2.out) | (at_builtin; refine wpList_append_nm rfl _ _ rfl w.heap.size (.slice oq2 (o.length + 1) cq2) (o ++ [s]) rfl (SR.al (HA2.out) _) _ 1 1 [y] rfl (strz_one w12 y _) (by rw [List.length_append, HM.out]; show m + 1 + 1 ≤ _; clear hol; omega) (al_le (HZ2.out) _) ?_; intro oq3 cq3 w13 hq; have HA3 := Lib.hid hq.1; have HO3 := Lib.hid ((HO2.out.alloc _).trans hq.2); have HZ3 : Hid (w.heap.size ≤ w13.heap.size) := Lib.hid (Nat.le_trans (HZ2.out) (Nat.le_trans (Nat.le_of_lt (by show _ < (Array.push _ _).size; rw [Array.size_push]; omega)) hq.2.size)); clear hq))
            go_roundw
            case rel => exact ⟨k + 1, o ++ [s] ++ [y], true, by omega, by go_num, rfl, by have h8 := HA3.out; rw [show (o ++ [s]).length = o.length + 1 by simp] at h8; exact h8, HN, by rw [List.length_append, List.length_append, HM.out]; show m + 1 + 1 ≤ k + 1 + 1; omega, HO3.out⟩
            case measure => simp [intOf]; omega
          · have hye : s = y := List.le_antisymm hsy (List.not_lt.1 hsl)
            subst hye
            have hb : Op.bytesLess s s = false := by rw [bytesLess_eq]; exact decide_eq_false hsl
            have hbe : (s == s) = true := by simp
            have HN : Hid ((o ++ [s]) ++ insF s (l.drop (k + 1)) true = insP l s) := Lib.hid (by
              have h8 := HI.out
              rw [HD.out, insF, if_pos ⟨rfl, hsy⟩, if_neg hsl] at h8
              rw [← h8]
              simp)
            clear hsy hsl
            go_wp2_with (at_builtin; refine wpList_append_nm rfl _ _ rfl w.heap.size (.slice oR m cR) o rfl (SR.al (HR.out) _) _ 1 1 [s] rfl (strz_one wr s _) (by rw [HM.out]; clear hol; omega) (al_le (HSZ.out) _) ?_; intro oq cq w11 hq; have HA1 := Lib.hid hq.1; have HO1 := Lib.hid ((HO.out.alloc _).trans hq.2); have HZ1 : Hid (w.heap.size ≤ w11.heap.size) := Lib.hid (Nat.le_trans (HSZ.out) (Nat.le_trans (Nat.le_of_lt (by show _ < (Array.push _ _).size; rw [Array.size_push]; omega)) hq.2.size)); clear hq)
            go_roundw
            case rel => exact ⟨k + 1, o ++ [s], true, by omega, by go_num, rfl, HA1.out, HN, by rw [List.length_append, HM.out]; show m + 1 ≤ k + 1 + 1; omega, HO1.out⟩
            case measure => simp [intOf]; omega
        · have hb : Op.bytesLess s y = false := by rw [bytesLess_eq]; exact decide_eq_false (fun hc => hsy (List.le_of_lt hc))
          have hbe : (s == y) = false := beq_eq_false_iff_ne.2 (fun hc => hsy (by rw [hc]; exact List.le_refl _))
          have HN : Hid ((o ++ [y]) ++ insF s (l.drop (k + 1)) false = insP l s) := Lib.hid (by
            have h8 := HI.out
            rw [HD.out, insF, if_neg (fun hc => hsy hc.2)] at h8
            rw [← h8]
            simp)
          clear hsy
          go_wp2_with (at_builtin; refine wpList_append_nm rfl _ _ rfl w.heap.size (.slice oR m cR) o rfl (SR.al (HR.out) _) _ 1 1 [y] rfl (strz_one wr y _) (by rw [HM.out]; clear hol; omega) (al_le (HSZ.out) _) ?_; intro oq cq w11 hq; have HA1 := Lib.hid hq.1; have HO1 := Lib.hid ((HO.out.alloc _).trans hq.2); have HZ1 : Hid (w.heap.size ≤ w11.heap.size) := Lib.hid (Nat.le_trans (HSZ.out) (Nat.le_trans (Nat.le_of_lt (by show _ < (Array.push _ _).size; rw [Array.size_push]; omega)) hq.2.size)); clear hq)
          go_roundw
          case rel => exact ⟨k + 1, o ++ [y], false, by omega, by go_num, rfl, HA1.out, HN, by rw [List.length_append, HM.out]; show m + 1 ≤ k + 1; omega, HO1.out⟩
          case measure => simp [intOf]; omega
    · have hkn : k = l.length := by omega
      have HE : Hid (insF s (l.drop k) d = if d then [] else [s]) := Lib.hid (by rw [hkn, List.drop_length]; rfl)
      clear hR hm hO
      have hol3 : m ≤ k + 1 := by cases d <;> simp at hol <;> omega
      cases d with
      | true =>
        have HN : Hid (insP l s = o) := Lib.hid (by rw [← HI.out, HE.out]; simp)
        go_wp2
        go_ret
        rw [HN.out, HM.out]
        exact ⟨oR, cR, rfl, HR.out, HO.out.new⟩
      | false =>
        have HN : Hid (insP l s = o ++ [s]) := Lib.hid (by rw [← HI.out, HE.out]; simp)
        go_wp2_with (at_builtin; refine wpList_append_nm rfl _ _ rfl w.heap.size (.slice oR m cR) o rfl (SR.al (HR.out) _) _ 1 1 [s] rfl (strz_one wr s _) (by rw [HM.out]; clear hol; omega) (al_le (HSZ.out) _) ?_; intro oq cq w11 hq; have HA1 := Lib.hid hq.1; have HO1 := Lib.hid ((HO.out.alloc _).trans hq.2); have HZ1 : Hid (w.heap.size ≤ w11.heap.size) := Lib.hid (Nat.le_trans (HSZ.out) (Nat.le_trans (Nat.le_of_lt (by show _ < (Array.push _ _).size; rw [Array.size_push]; omega)) hq.2.size)); clear hq)
        go_ret
        rw [HN.out]
        have h9 : (o ++ [s]).length = o.length + 1 := by simp
        rw [h9]
        exact ⟨oq, cq, rfl, HA1.out, HO1.out.new⟩
end Go.Proofs.YtigmdiagdlbdpaaGreat
