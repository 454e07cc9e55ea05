/-
  WALKS. ModgraphDual: lists without a fault; the law.
-/
import Derived.Test.YtigmdiagdlbdpaaGreatMhn
namespace Go.Proofs.YtigmdiagdlbdpaaGreat
open Go.RowKit Go.Maps
theorem relF_good {l : List Md} (h : accF l = none) (nm : Nm) : relF l nm = if nm ∈ nsP l then none else some (16, nm) := by unfold relF; rw [h]
theorem relM_len {E : List (List Nat)} {l : List Md} (hE : E.length ≤ 32) (nm : Nm) : (relM E l nm).length ≤ 1000000 := by
  unfold relM relN
  rw [List.length_map]
  refine Nat.le_trans (List.length_filter_le _ _) ?_
  unfold reachL
  split
  · refine Nat.le_trans (reachTo_len _ _) ?_
    rw [intE_len]
    omega
  · exact Nat.zero_le _
set_option maxRecDepth 100000 in
set_option maxHeartbeats 8000000 in
theorem Dual_lack (w : World) (oa : Option Addr) (n ca : Nat) (l : List Md) (a b : Nm) (h : Mdz w oa n l) (hn : n ≤ maxLen) (hsz : ∀ m ∈ l, SzM m) (hs : smallM l = true) (h12 : n ≤ 12) (hF : accF l = none) (hab : ¬ (a ∈ nsP l ∧ b ∈ nsP l)) : Calls Tryz.prog 7 #[.slice oa n ca, encStr a, encStr b] w fun e w' => e = .returned (.bool true) ∧ Only (fun _ => False) w w' := by
  have hn' := hn
  unfold maxLen at hn'
  have hl := h.len
  have HSM := Lib.hid (mSmall_p w oa n ca l h hn true hs)
  have hok := okL_small hs hsz
  obtain ⟨hl32, hgood⟩ := accF_none hF
  have hcy : cycM l = [] := by
    unfold cycM
    have hC : conA l = none := by
      unfold accF at hF
      cases hC : conA l with
      | some x => rw [hC] at hF; cases hF
      | none => rfl
    rw [hC]
    simp only
    rw [hgood.ac]
    rfl
  have HP1 : Hid (Calls Tryz.prog 10 #[.slice oa n ca] w fun e w' => ∃ ol nl cl, e = .returned (.tuple #[.slice ol nl cl, faV 0 []]) ∧ Only (fun _ => False) w w') := Lib.hid ((Order_p w oa n ca l h (fun _ => hok)).mono (by
    intro e w' hq
    unfold nmQ at hq
    rw [hF] at hq
    obtain ⟨⟨ol, cl, h1, -⟩, h3⟩ := hq
    exact ⟨ol, _, cl, h1, h3⟩))
  have HP2 : Hid (∀ wx, Only (fun _ => False) w wx → Calls Tryz.prog 19 #[.slice oa n ca] wx fun e w' => ∃ oc cc, e = .returned (.slice oc 0 cc) ∧ Only (fun _ => False) wx w') := Lib.hid (fun wx ho => (Cycle_p wx oa n ca l (h.old ho (fun _ _ hc => hc)) (fun _ => hok)).mono (by
    rw [hcy]
    rintro e w' ⟨oc, cc, h1, -, h3⟩
    exact ⟨oc, cc, h1, h3⟩))
  have h32 : ¬ (32 : Int) < (n : Int) := by omega
  have HND : Hid (∀ wx, Only (fun _ => False) w wx → Calls Tryz.prog 15 #[.slice oa n ca, encStr a] wx fun e w' => ∃ v c s, e = .returned (.tuple #[v, faV c s]) ∧ (a ∉ nsP l → c = 16) ∧ (a ∈ nsP l → c = 0) ∧ Only (fun _ => False) wx w') := Lib.hid (fun wx ho => (Needs_p wx oa n ca l a (h.old ho (fun _ _ hc => hc)) (fun _ => hok)).mono (by
    intro e w' hq
    unfold nmQ at hq
    rw [relF_good hF] at hq
    by_cases ha : a ∈ nsP l
    · rw [if_pos ha] at hq
      obtain ⟨⟨o1, c1, h1, -⟩, h3⟩ := hq
      exact ⟨_, 0, [], h1, fun hc => absurd ha hc, fun _ => rfl, h3⟩
    · rw [if_neg ha] at hq
      exact ⟨_, 16, a, hq.1, fun _ => rfl, fun hc => absurd hc ha, hq.2⟩))
  have HUS : Hid (∀ wx, Only (fun _ => False) w wx → Calls Tryz.prog 17 #[.slice oa n ca, encStr b] wx fun e w' => ∃ v c s, e = .returned (.tuple #[v, faV c s]) ∧ (b ∉ nsP l → c = 16) ∧ Only (fun _ => False) wx w') := Lib.hid (fun wx ho => (Users_p wx oa n ca l b (h.old ho (fun _ _ hc => hc)) (fun _ => hok)).mono (by
    intro e w' hq
    unfold nmQ at hq
    rw [relF_good hF] at hq
    by_cases hb : b ∈ nsP l
    · rw [if_pos hb] at hq
      obtain ⟨⟨o1, c1, h1, -⟩, h3⟩ := hq
      exact ⟨_, 0, [], h1, fun hc => absurd hb hc, h3⟩
    · rw [if_neg hb] at hq
      exact ⟨_, 16, b, hq.1, fun _ => rfl, hq.2⟩))
  have HAB := Lib.hid hab
  clear h hn hsz hs hF hok hgood hcy hab
  go_enter Tryz.func7, Tryz.ntmps7
  go_wp2_with (first | (go_at_call 8; (refine HSM.out.mono ?_); rintro e w4 ⟨rfl, rfl⟩) | (go_at_call 10; (with_reducible refine HP1.out.mono ?_); rintro e w5 ⟨ol, nl, cl, rfl, hO5⟩; have HO5 := Lib.hid hO5; clear hO5) | (go_at_call 19; (with_reducible refine (HP2.out _ (HO5.out.alloc _)).mono ?_); rintro e w6 ⟨oc, cc, rfl, hO6⟩; have HB6 := Lib.hid ((Bx.new w5).on hO6); have q6 := HB6.out.cells.1; have HO6 := Lib.hid ((HO5.out.alloc (.cells #[.int .i64 0, .string ⟨#[]⟩, .int .i64 0, .int .i64 0] 28)).trans hO6); clear hO6))
  go_loopw [10] (fun q wr => q = .int .i64 0 ∧ wr = w6) (fun _ _ => 0)
  case atStart => exact ⟨rfl, rfl⟩
  case round =>
    obtain ⟨rfl, rfl⟩ := hrel
    by_cases ha : a ∈ nsP l
    · have hb : b ∉ nsP l := fun hc => HAB.out ⟨ha, hc⟩
      go_wp2_with (first | (go_at_call 15; (with_reducible refine (HND.out _ HO6.out).mono ?_); rintro e w7 ⟨v7, c7, s7, rfl, -, hc7, hO7⟩; have hc7' := hc7 ha; subst hc7'; have HO7 := Lib.hid (HO6.out.trans hO7); clear hc7 hO7) | (go_at_call 17; (with_reducible refine (HUS.out _ (HO7.out.alloc _)).mono ?_); rintro e w8 ⟨v8, c8, s8, rfl, hc8, hO8⟩; have hc8' := hc8 hb; subst hc8'; have hk8 := (hO8.block w7.heap.size (by show _ < (Array.push _ _).size; rw [Array.size_push]; omega) (fun hc => hc)).trans (new_block w7 (.cells #[.int .i64 (0 : Nat), encStr s7, .int .i64 0, .int .i64 0] 28)); have hk8b := (((Only.refl (fun _ => False) w8).alloc (.cells #[.int .i64 16, encStr s8, .int .i64 0, .int .i64 0] 28)).block w7.heap.size (lt_of_block hk8) (fun hc => hc)).trans hk8; have q8 := (blk_c (k := 0) hk8b rfl).1; simp only [show ((0 : Nat) : Int) = 0 from rfl, List.getElem_toArray, List.getElem_cons_zero] at q8; have HO8 := Lib.hid ((HO7.out.alloc (.cells #[.int .i64 (0 : Nat), encStr s7, .int .i64 0, .int .i64 0] 28)).trans hO8); clear hc8 hO8 hk8 hk8b) | (go_at_call 9; (refine (awake_p _).mono ?_); rintro e w9 ⟨rfl, hO9⟩))
      go_ret
      exact ⟨rfl, (HO8.out.alloc _).trans hO9⟩
    · go_wp2_with (first | (go_at_call 15; (with_reducible refine (HND.out _ HO6.out).mono ?_); rintro e w7 ⟨v7, c7, s7, rfl, hc7, -, hO7⟩; have hc7' := hc7 ha; subst hc7'; have HO7 := Lib.hid (HO6.out.trans hO7); clear hc7 hO7) | (go_at_call 17; (with_reducible refine (HUS.out _ (HO7.out.alloc _)).mono ?_); rintro e w8 ⟨v8, c8, s8, rfl, -, hO8⟩; have hk8 := (hO8.block w7.heap.size (by show _ < (Array.push _ _).size; rw [Array.size_push]; omega) (fun hc => hc)).trans (new_block w7 (.cells #[.int .i64 (16 : Nat), encStr s7, .int .i64 0, .int .i64 0] 28)); have hk8b := (((Only.refl (fun _ => False) w8).alloc (.cells #[.int .i64 (c8 : Int), encStr s8, .int .i64 0, .int .i64 0] 28)).block w7.heap.size (lt_of_block hk8) (fun hc => hc)).trans hk8; have q8 := (blk_c (k := 0) hk8b rfl).1; have HO8 := Lib.hid ((HO7.out.alloc (.cells #[.int .i64 (16 : Nat), encStr s7, .int .i64 0, .int .i64 0] 28)).trans hO8); clear hO8 hk8 hk8b) | (go_at_call 9; (refine (awake_p _).mono ?_); rintro e w9 ⟨rfl, hO9⟩))
      go_ret
      exact ⟨rfl, (HO8.out.alloc _).trans hO9⟩

set_option maxRecDepth 100000 in
set_option maxHeartbeats 8000000 in
theorem Dual_good (w : World) (oa : Option Addr) (n ca : Nat) (l : List Md) (a b : Nm) (h : Mdz w oa n l) (hn : n ≤ maxLen) (hsz : ∀ m ∈ l, SzM m) (hs : smallM l = true) (h12 : n ≤ 12) (hF : accF l = none) (ha : a ∈ nsP l) (hb : b ∈ nsP l) : Calls Tryz.prog 7 #[.slice oa n ca, encStr a, encStr b] w fun e w' => e = .returned (.bool true) ∧ Only (fun _ => False) w w' := by
  have hn' := hn
  unfold maxLen at hn'
  have hl := h.len
  have HSM := Lib.hid (mSmall_p w oa n ca l h hn true hs)
  have hok := okL_small hs hsz
  obtain ⟨hl32, hgood⟩ := accF_none hF
  have hcy : cycM l = [] := by
    unfold cycM
    have hC : conA l = none := by
      unfold accF at hF
      cases hC : conA l with
      | some x => rw [hC] at hF; cases hF
      | none => rfl
    rw [hC]
    simp only
    rw [hgood.ac]
    rfl
  have HP1 : Hid (Calls Tryz.prog 10 #[.slice oa n ca] w fun e w' => ∃ ol nl cl, e = .returned (.tuple #[.slice ol nl cl, faV 0 []]) ∧ Only (fun _ => False) w w') := Lib.hid ((Order_p w oa n ca l h (fun _ => hok)).mono (by
    intro e w' hq
    unfold nmQ at hq
    rw [hF] at hq
    obtain ⟨⟨ol, cl, h1, -⟩, h3⟩ := hq
    exact ⟨ol, _, cl, h1, h3⟩))
  have HP2 : Hid (∀ wx, Only (fun _ => False) w wx → Calls Tryz.prog 19 #[.slice oa n ca] wx fun e w' => ∃ oc cc, e = .returned (.slice oc 0 cc) ∧ Only (fun _ => False) wx w') := Lib.hid (fun wx ho => (Cycle_p wx oa n ca l (h.old ho (fun _ _ hc => hc)) (fun _ => hok)).mono (by
    rw [hcy]
    rintro e w' ⟨oc, cc, h1, -, h3⟩
    exact ⟨oc, cc, h1, h3⟩))
  have h32 : ¬ (32 : Int) < (n : Int) := by omega
  have hDN := dualN_of hgood ha hb
  have hGl := grP_len l
  have hND : ∀ nm ∈ nsP l, Hid (∀ wx, Only (fun _ => False) w wx → Calls Tryz.prog 15 #[.slice oa n ca, encStr nm] wx fun e w' => ∃ o1 c1, e = .returned (.tuple #[.slice o1 (relM (grP l) l nm).length c1, faV 0 []]) ∧ Strz w' o1 (relM (grP l) l nm).length (relM (grP l) l nm) ∧ Only (fun _ => False) wx w') := fun nm hm => Lib.hid (fun wx ho => (Needs_p wx oa n ca l nm (h.old ho (fun _ _ hc => hc)) (fun _ => hok)).mono (by
    intro e w' hq
    unfold nmQ at hq
    rw [relF_good hF, if_pos hm] at hq
    obtain ⟨⟨o1, c1, h1, h2⟩, h3⟩ := hq
    exact ⟨o1, c1, h1, h2.strz, h3⟩))
  have HUS : Hid (∀ wx, Only (fun _ => False) w wx → Calls Tryz.prog 17 #[.slice oa n ca, encStr b] wx fun e w' => ∃ o1 c1, e = .returned (.tuple #[.slice o1 (relM (rvG (grP l)) l b).length c1, faV 0 []]) ∧ Strz w' o1 (relM (rvG (grP l)) l b).length (relM (rvG (grP l)) l b) ∧ Only (fun _ => False) wx w') := Lib.hid (fun wx ho => (Users_p wx oa n ca l b (h.old ho (fun _ _ hc => hc)) (fun _ => hok)).mono (by
    intro e w' hq
    unfold nmQ at hq
    rw [relF_good hF, if_pos hb] at hq
    obtain ⟨⟨o1, c1, h1, h2⟩, h3⟩ := hq
    exact ⟨o1, c1, h1, h2.strz, h3⟩))
  have HND := hND a ha
  have HNT := Lib.hid hND
  have HIP : Hid (∀ wx, Only (fun _ => False) w wx → Calls Tryz.prog 22 #[.slice oa n ca, encStr a] wx fun e w' => ∃ oo co, e = .returned (.slice oo (impP l a).length co) ∧ Strz w' oo (impP l a).length (impP l a) ∧ Only (fun _ => False) wx w') := Lib.hid (fun wx ho => (rImports_p wx oa n ca l a (h.old ho (fun _ _ hc => hc)) (by omega) (fun m' hm' => by have := smallM_im hs m' hm'; omega)).mono (by
    rintro e w' ⟨oo, co, h1, h2, h3⟩
    exact ⟨oo, co, h1, h2.strz, h3⟩))
  have hIL : (impP l a).length ≤ 1000000 := by
    have := impP_len (nm := a) (smallM_im hs)
    have h9 : l.length * 12 ≤ 12 * 12 := Nat.mul_le_mul_right _ (by omega)
    omega
  have HRL : Hid (∀ nm, (relM (grP l) l nm).length ≤ 1000000) := Lib.hid (fun nm => relM_len (by rw [hGl]; exact hl32) nm)
  have hrl := HRL.out a
  have hul : (relM (rvG (grP l)) l b).length ≤ 1000000 := relM_len (by rw [rvG_len, hGl]; exact hl32) b
  obtain ⟨x, hx⟩ : ∃ x, decide (b ∈ relM (grP l) l a) = x := ⟨_, rfl⟩
  have hx2 : decide (a ∈ relM (rvG (grP l)) l b) = x := by rw [← hDN.inv]; exact hx
  have HX := Lib.hid hx
  have HX2 := Lib.hid hx2
  have HDN := Lib.hid hDN
  have HUL := Lib.hid hul
  have hany := hDN.any
  obtain ⟨nd, hnd⟩ : ∃ k, (relM (grP l) l a).length = k := ⟨_, rfl⟩
  obtain ⟨nu, hnu⟩ : ∃ k, (relM (rvG (grP l)) l b).length = k := ⟨_, rfl⟩
  obtain ⟨ni, hni⟩ : ∃ k, (impP l a).length = k := ⟨_, rfl⟩
  rw [hnd] at HND hrl
  rw [hnu] at HUS hul
  rw [hni] at HIP hIL
  rw [hni, hnd] at hany
  have HANY := Lib.hid hany
  have HNL := Lib.hid hni
  clear h hn hsz hs hF hok hgood hcy hx hx2 hDN hND hGl hany hnd hnu hni
  go_enter Tryz.func7, Tryz.ntmps7
  go_wp2_with (first | (go_at_call 8; (refine HSM.out.mono ?_); rintro e w4 ⟨rfl, rfl⟩) | (go_at_call 10; (with_reducible refine HP1.out.mono ?_); rintro e w5 ⟨ol, nl, cl, rfl, hO5⟩; have HO5 := Lib.hid hO5; clear hO5) | (go_at_call 19; (with_reducible refine (HP2.out _ (HO5.out.alloc _)).mono ?_); rintro e w6 ⟨oc, cc, rfl, hO6⟩; have HB6 := Lib.hid ((Bx.new w5).on hO6); have q6 := HB6.out.cells.1; have HO6 := Lib.hid ((HO5.out.alloc (.cells #[.int .i64 0, .string ⟨#[]⟩, .int .i64 0, .int .i64 0] 28)).trans hO6); clear hO6))
  go_loopw [10] (fun q wr => q = .int .i64 0 ∧ wr = w6) (fun _ _ => 0)
  case atStart => exact ⟨rfl, rfl⟩
  case round =>
    obtain ⟨rfl, rfl⟩ := hrel
    have hxx : (x != x) = false := by cases x <;> rfl
    go_wp2_with (first | (go_at_call 15; (with_reducible refine (HND.out _ HO6.out).mono ?_); rintro e w7 ⟨o7, c7, rfl, hS7, hO7⟩; have HS7 := Lib.hid hS7; have HO7 := Lib.hid (HO6.out.trans hO7); clear hO7 hS7) | (go_at_call 17; (with_reducible refine (HUS.out _ (HO7.out.alloc _)).mono ?_); rintro e w8 ⟨o8, c8, rfl, hS8, hO8⟩; have HS8 := Lib.hid hS8; have hk8 := (Bx.new w7).on hO8; have q8 := (hk8.on ((Only.refl (fun _ => False) w8).alloc (.cells #[.int .i64 0, .string ⟨#[]⟩, .int .i64 0, .int .i64 0] 28))).cells.1; have HO78 := Lib.hid ((((Only.refl (fun _ => False) w7).alloc (.cells #[.int .i64 0, .string ⟨#[]⟩, .int .i64 0, .int .i64 0] 28)).trans hO8).alloc (.cells #[.int .i64 0, .string ⟨#[]⟩, .int .i64 0, .int .i64 0] 28)); have HO88 := Lib.hid ((Only.refl (fun _ => False) w8).alloc (.cells #[.int .i64 0, .string ⟨#[]⟩, .int .i64 0, .int .i64 0] 28)); clear hO8 hk8 hS8) | (go_at_call 21; (with_reducible refine (rHas_p _ o7 nd c7 (relM (grP l) l a) (HS7.out.old HO78.out (fun _ _ hc => hc)) hrl b x HX.out).mono ?_); rintro e w9 ⟨rfl, hw9⟩; subst hw9) | (go_at_call 21; (with_reducible refine (rHas_p _ o8 nu c8 (relM (rvG (grP l)) l b) (HS8.out.old HO88.out (fun _ _ hc => hc)) hul a x HX2.out).mono ?_); rintro e w9 ⟨rfl, hw9⟩; subst hw9) | (go_at_call 22; (with_reducible refine (HIP.out _ (HO7.out.trans HO78.out)).mono ?_); rintro e w10 ⟨oi, ci, rfl, hS10, hO10⟩; have HS10 := Lib.hid hS10; have HO10 := Lib.hid (HO7.out.trans (HO78.out.trans hO10)); have HN10 := Lib.hid (HS7.out.old (HO78.out.trans hO10) (fun _ _ hc => hc)); clear hS10 hO10))
    go_loopw [16, 17, 18, 19] (fun iv _ _ _ wr => ∃ i : Nat, i ≤ ni ∧ iv = .int .i64 i ∧ Only (fun _ => False) w10 wr) (fun iv _ _ _ _ => ni - (intOf iv).toNat)
    case atStart => exact ⟨0, by omega, rfl, Only.refl _ _⟩
    case round =>
      obtain ⟨i, hi, rfl, hO⟩ := hrel
      have HO := Lib.hid hO
      by_cases hin : i < ni
      · have hil : i < (impP l a).length := by have := HNL.out; omega
        obtain ⟨b1, o1, e1, c1⟩ := (HS10.out.old hO (fun _ _ hc => hc)).cell i hil
        subst e1
        obtain ⟨t, ht⟩ : ∃ t, nAt (impP l a) i = t := ⟨_, rfl⟩
        rw [ht] at c1
        have htm : t ∈ impP l a := by rw [← ht, nAt_get hil]; exact List.getElem_mem hil
        obtain ⟨d1, d2, d3⟩ := HDN.out.dir t htm
        have HT1 := Lib.hid (HNT.out t d1)
        have HX3 : Hid (decide (t ∈ relM (grP l) l a) = true) := Lib.hid (decide_eq_true d2)
        have HD3 := Lib.hid d3
        have hol := HRL.out t
        have HCT : Hid (∀ wx, Only (fun _ => False) w10 wx → wx.cell? ⟨b1, o1 + i, none⟩ = some (encStr t)) := Lib.hid (fun wx ho => by
          obtain ⟨b2, o2, e2, c2⟩ := (HS10.out.old ho (fun _ _ hc => hc)).cell i hil
          cases e2
          rw [ht] at c2
          exact c2)
        have h01 : (0 : Int) ≤ (i : Int) := Int.natCast_nonneg i
        have h02 : (i : Int) < (ni : Int) := by omega
        have h03 : (i : Int).toNat = i := Int.toNat_natCast i
        obtain ⟨no, hno⟩ : ∃ k, (relM (grP l) l t).length = k := ⟨_, rfl⟩
        have HNO := Lib.hid hno
        have HT2 := HT1.out.out
        rw [hno] at HT2 hol
        have HT3 := Lib.hid HT2
        clear ht htm d1 d2 d3 hO HT1 HT2 hno
        go_wp2_with (go_at_call 15; (with_reducible refine (HT3.out _ (HO10.out.trans HO.out)).mono ?_); rintro e w11 ⟨o11, c11, rfl, hS11, hO11⟩; have HS11 := Lib.hid (hS11.old ((Only.refl (fun _ => False) w11).alloc (.cells #[.int .i64 0, .string ⟨#[]⟩, .int .i64 0, .int .i64 0] 28)) (fun _ _ hc => hc)); have HO11 := Lib.hid ((HO.out.trans hO11).alloc (.cells #[.int .i64 0, .string ⟨#[]⟩, .int .i64 0, .int .i64 0] 28)); clear hS11 hO11)
        obtain ⟨W, hW⟩ : ∃ W, w11.alloc (.cells #[.int .i64 0, .string ⟨#[]⟩, .int .i64 0, .int .i64 0] 28) = W := ⟨_, rfl⟩
        rw [hW] at HS11 HO11 ⊢
        clear hW c1
        go_loopw [19] (fun kv wr => ∃ k : Nat, k ≤ no ∧ kv = .int .i64 k ∧ Only (fun _ => False) W wr) (fun kv _ => no - (intOf kv).toNat)
        case atStart => exact ⟨0, by omega, rfl, Only.refl _ _⟩
        case round =>
          obtain ⟨k, hk, rfl, hO2⟩ := hrel
          have HO2 := Lib.hid hO2
          by_cases hkn : k < no
          · have hkl : k < (relM (grP l) l t).length := by have := HNO.out; omega
            obtain ⟨b2, o2, e2, c2⟩ := (HS11.out.old hO2 (fun _ _ hc => hc)).cell k hkl
            subst e2
            obtain ⟨y, hy⟩ : ∃ y, nAt (relM (grP l) l t) k = y := ⟨_, rfl⟩
            rw [hy] at c2
            have HX4 : Hid (decide (y ∈ relM (grP l) l a) = true) := Lib.hid (decide_eq_true (HD3.out y (by rw [← hy, nAt_get hkl]; exact List.getElem_mem hkl)))
            have h04 : (0 : Int) ≤ (k : Int) := Int.natCast_nonneg k
            have h05 : (k : Int) < (no : Int) := by omega
            have h06 : (k : Int).toNat = k := Int.toNat_natCast k
            clear hy hO2
            go_wp2_with (go_at_call 21; (with_reducible refine (rHas_p _ o7 nd c7 (relM (grP l) l a) (HN10.out.old (HO11.out.trans HO2.out) (fun _ _ hc => hc)) hrl y true HX4.out).mono ?_); rintro e w12 ⟨rfl, hw12⟩; subst hw12)
            go_roundw
            case rel => exact ⟨k + 1, by omega, by go_num, HO2.out⟩
            case measure => simp [intOf]; omega
          · have h05 : ¬ (k : Int) < (no : Int) := by omega
            have c3 := HCT.out _ (HO11.out.trans HO2.out)
            clear hO2
            go_wp2_with (go_at_call 21; (with_reducible refine (rHas_p _ o7 nd c7 (relM (grP l) l a) (HN10.out.old (HO11.out.trans HO2.out) (fun _ _ hc => hc)) hrl t true HX3.out).mono ?_); rintro e w12 ⟨rfl, hw12⟩; subst hw12)
            go_roundw
            case rel => exact ⟨i + 1, by omega, by go_num, HO11.out.trans HO2.out⟩
            case measure => simp [intOf]; omega
      · have h02 : ¬ (i : Int) < (ni : Int) := by omega
        clear hO
        by_cases h0 : 0 < ni
        · have h1 : (0 : Int) < (ni : Int) := by omega
          have h2 : (0 : Int) < (nd : Int) := by have := HANY.out.1 h0; omega
          go_wp2_with (go_at_call 9; (refine (awake_p _).mono ?_); rintro e w9 ⟨rfl, hO9⟩)
          go_ret
          exact ⟨rfl, HO10.out.trans (HO.out.trans hO9)⟩
        · have h1 : ¬ (0 : Int) < (ni : Int) := by omega
          have h2 : ¬ (0 : Int) < (nd : Int) := by
            intro hc
            exact h0 (HANY.out.2 (by omega))
          go_wp2_with (go_at_call 9; (refine (awake_p _).mono ?_); rintro e w9 ⟨rfl, hO9⟩)
          go_ret
          exact ⟨rfl, HO10.out.trans (HO.out.trans hO9)⟩

theorem ModgraphDual_walk (w : World) (oa : Option Addr) (n ca : Nat) (l : List Md) (sa sb : ByteArray) (h : Mdz w oa n l) (hn : n ≤ maxLen) (hsz : ∀ m ∈ l, SzM m) : Calls Tryz.prog 7 #[.slice oa n ca, .string sa, .string sb] w fun e w' => e = .returned (.bool true) ∧ Only (fun _ => False) w w' := by
  have hl := h.len
  cases hs : smallM l with
  | false => exact Dual_out w oa n ca l sa sb h hn hsz (.inl hs)
  | true =>
    by_cases h32 : 32 < n
    · exact Dual_out w oa n ca l sa sb h hn hsz (.inr h32)
    · have h12 : n ≤ 12 := by rcases smallM_len hs with h1 | h1 <;> omega
      cases hC : conA l with
      | some x => exact Dual_con w oa n ca l sa sb h hn hsz hs h12 x.1 x.2 (by rw [hC])
      | none =>
        by_cases hY : cyP (grP l) = []
        · have hF : accF l = none := by unfold accF; rw [hC]; simp only; rw [if_pos hY]
          obtain ⟨a, rfl⟩ : ∃ a : Nm, sa = ⟨a.toArray⟩ := ⟨sa.data.toList, by simp⟩
          obtain ⟨b, rfl⟩ : ∃ b : Nm, sb = ⟨b.toArray⟩ := ⟨sb.data.toList, by simp⟩
          by_cases hab : a ∈ nsP l ∧ b ∈ nsP l
          · exact Dual_good w oa n ca l a b h hn hsz hs h12 hF hab.1 hab.2
          · exact Dual_lack w oa n ca l a b h hn hsz hs h12 hF hab
        · exact Dual_cyc w oa n ca l sa sb h hn hsz hs h12 hC hY
end Go.Proofs.YtigmdiagdlbdpaaGreat
