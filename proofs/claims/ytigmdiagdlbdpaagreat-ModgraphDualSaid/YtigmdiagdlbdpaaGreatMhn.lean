/-
  WALKS. ModgraphDual: lists with a cycle.
-/
import Derived.Test.YtigmdiagdlbdpaaGreatMhm
import Derived.Deep.RegionHeld
namespace Go.Proofs.YtigmdiagdlbdpaaGreat
open Go.RowKit Go.Maps
theorem rHas_o (w : World) (oa : Option Addr) (n ca : Nat) (l : List Nm) (h : Strz w oa n l) (hn : n ≤ 1000000) (s : Nm) (x : Bool) (hx : decide (s ∈ l) = x) : Calls Tryz.prog 21 #[.slice oa n ca, encStr s] w fun e w' => e = .returned (.bool x) ∧ Only (fun _ => False) w w' := (rHas_p w oa n ca l h hn s x hx).mono (by
  rintro e w' ⟨h1, rfl⟩
  exact ⟨h1, Only.refl _ _⟩)
set_option maxRecDepth 100000 in
set_option maxHeartbeats 8000000 in
theorem Dual_cyc (w : World) (oa : Option Addr) (n ca : Nat) (l : List Md) (sa sb : ByteArray) (h : Mdz w oa n l) (hn : n ≤ maxLen) (hsz : ∀ m ∈ l, SzM m) (hs : smallM l = true) (h12 : n ≤ 12) (hC : conA l = none) (hY : cyP (grP l) ≠ []) : Calls Tryz.prog 7 #[.slice oa n ca, .string sa, .string sb] w fun e w' => e = .returned (.bool true) ∧ Only (fun _ => False) w w' := by
  have hn' := hn
  unfold maxLen at hn'
  have hl := h.len
  have HSM := Lib.hid (mSmall_p w oa n ca l h hn true hs)
  have hok := okL_small hs hsz
  have hF : accF l = some (18, nAt (nsP l) (gt (cyP (grP l)) 0)) := by unfold accF; rw [hC]; simp only; rw [if_neg hY]
  have hcy : cycM l = (cyP (grP l)).map (nAt (nsP l)) := by unfold cycM; rw [hC]
  obtain ⟨-, hnd, him⟩ := conA_small hC
  have hcyc := cyP_cyc (grP_valid l) hY
  have hCN := cycN_of hnd hcyc
  have hshort : (cyP (grP l)).length ≤ 1000 := by
    have h3 : (cyP (grP l)).length ≤ (grP l).length := cycS_len (grP_valid l) (P := cyB (grP l)) (fun k hk => cyB_iff (grP_valid l) hk) (grP l).length (Nat.le_refl _)
    rw [grP_len] at h3
    omega
  have hne := hcyc.ne
  have hhd : nAt (nsP l) (gt (cyP (grP l)) 0) = nAt ((cyP (grP l)).map (nAt (nsP l))) 0 := (nAt_map hne).symm
  obtain ⟨C, hCe⟩ : ∃ C, (cyP (grP l)).map (nAt (nsP l)) = C := ⟨_, rfl⟩
  have hCl : C.length = (cyP (grP l)).length := by rw [← hCe, List.length_map]
  rw [hCe] at hcy hCN hhd
  rw [hhd] at hF
  rw [← hCl] at hshort hne
  obtain ⟨s, hse⟩ : ∃ s, nAt C 0 = s := ⟨_, rfl⟩
  rw [hse] at hF
  obtain ⟨m, hm⟩ : ∃ m, C.length = m := ⟨_, rfl⟩
  have HON : Hid (∀ i, i < m → nAt C ((i + 1) % m) ∈ impP l (nAt C i)) := Lib.hid (fun i hi => by have := hCN.on i (by omega); rwa [hm] at this)
  have HDF : Hid (∀ i, i < m → nAt C i ∉ C.take i) := Lib.hid (fun i hi => hCN.dif i (by omega))
  rw [hm] at hshort hne
  have HP1 : Hid (Calls Tryz.prog 10 #[.slice oa n ca] w fun e w' => e = .returned (.tuple #[.slice none 0 0, faV 18 s]) ∧ Only (fun _ => False) w w') := Lib.hid (by have h8 := Order_p w oa n ca l h (fun _ => hok); unfold nmQ at h8; rw [hF] at h8; exact h8)
  have HP2 : Hid (∀ wx, Only (fun _ => False) w wx → Calls Tryz.prog 19 #[.slice oa n ca] wx fun e w' => ∃ oc cc, e = .returned (.slice oc m cc) ∧ (Strz w' oc m C ∧ m ≤ cc) ∧ Only (fun _ => False) wx w') := Lib.hid (fun wx ho => (Cycle_p wx oa n ca l (h.old ho (fun _ _ hc => hc)) (fun _ => hok)).mono (by
    rw [hcy, hm]
    rintro e w' ⟨oc, cc, h1, h2, h3⟩
    exact ⟨oc, cc, h1, ⟨h2.strz, h2.cap⟩, h3⟩))
  have HIP : Hid (∀ wx nm, Only (fun _ => False) w wx → Calls Tryz.prog 22 #[.slice oa n ca, encStr nm] wx fun e w' => ∃ oo co, e = .returned (.slice oo (impP l nm).length co) ∧ Strz w' oo (impP l nm).length (impP l nm) ∧ Only (fun _ => False) wx w') := Lib.hid (fun wx nm ho => (rImports_p wx oa n ca l nm (h.old ho (fun _ _ hc => hc)) (by omega) (fun m' hm' => by have := smallM_im hs m' hm'; omega)).mono (by
    rintro e w' ⟨oo, co, h1, h2, h3⟩
    exact ⟨oo, co, h1, h2.strz, h3⟩))
  have HIL : Hid (∀ nm, (impP l nm).length ≤ 1000000) := Lib.hid (fun nm => by
    have := impP_len (nm := nm) (smallM_im hs)
    have h9 : l.length * 12 ≤ 12 * 12 := Nat.mul_le_mul_right _ (by omega)
    omega)
  have h32 : ¬ (32 : Int) < (n : Int) := by omega
  have hm0 : (0 : Int) < (m : Int) := by omega
  have HSE := Lib.hid hse
  have HME := Lib.hid hm
  clear h hn hsz hs hC hok hF hcy hY hnd him hcyc hCN hhd hCe hCl hse hm
  go_enter Tryz.func7, Tryz.ntmps7
  go_wp2_with (first | (go_at_call 8; (refine HSM.out.mono ?_); rintro e w4 ⟨rfl, rfl⟩) | (go_at_call 10; (with_reducible refine HP1.out.mono ?_); rintro e w5 ⟨rfl, hO5⟩; have HO5 := Lib.hid hO5; clear hO5) | (go_at_call 19; (with_reducible refine (HP2.out _ (HO5.out.alloc _)).mono ?_); rintro e w6 ⟨oc, cc, rfl, ⟨hS6, hcc⟩, hO6⟩; have HS6 := Lib.hid hS6; have HCC := Lib.hid hcc; have hb6 := (hO6.block w5.heap.size (by show _ < (Array.push _ _).size; rw [Array.size_push]; omega) (fun hc => hc)).trans (new_block w5 _); have HB6 := Lib.hid hb6; have q6 := (blk_c (k := 0) hb6 rfl).1; have HO6 := Lib.hid ((HO5.out.alloc (.cells #[.int .i64 18, encStr s, .int .i64 0, .int .i64 0] 28)).trans hO6); clear hO6 hb6 hS6 hcc))
  go_loopw [10] (fun q wr => ∃ i : Nat, i ≤ m ∧ q = .int .i64 i ∧ Only (fun _ => False) w6 wr) (fun q _ => m - (intOf q).toNat)
  case atStart => exact ⟨0, by omega, rfl, Only.refl _ _⟩
  case round =>
    obtain ⟨i, him, rfl, hO⟩ := hrel
    have HO := Lib.hid hO
    have hml := HME.out
    by_cases hlt : i < m
    · have hon := HON.out i hlt
      have hdf := HDF.out i hlt
      obtain ⟨j, hj⟩ : ∃ j, (i + 1) % m = j := ⟨_, rfl⟩
      have hjm : j < m := by rw [← hj]; exact Nat.mod_lt _ (by omega)
      have hji : ((i : Int) + 1) % (m : Int) = (j : Int) := by rw [← hj]; norm_cast
      have hjt : Int.tmod ((i : Int) + 1) (m : Int) = (j : Int) := by rw [Int.tmod_eq_emod_of_nonneg (by omega)]; exact hji
      obtain ⟨b1, o1, e1, c1⟩ := (HS6.out.old hO (fun _ _ hc => hc)).cell i (by omega)
      subst e1
      obtain ⟨b2, o2, e2, d1⟩ := (HS6.out.old hO (fun _ _ hc => hc)).cell j (by omega)
      cases e2
      rw [hj] at hon
      obtain ⟨y, hy⟩ : ∃ y, nAt C i = y := ⟨_, rfl⟩
      obtain ⟨z, hz⟩ : ∃ z, nAt C j = z := ⟨_, rfl⟩
      rw [hy] at c1 hon hdf
      rw [hz] at d1 hon
      have c2 : wr.drew.cell? ⟨b1, o1 + i, none⟩ = some (encStr y) := c1
      have d2 : wr.drew.cell? ⟨b1, o1 + j, none⟩ = some (encStr z) := d1
      have HX1 : Hid (decide (z ∈ impP l y) = true) := Lib.hid (decide_eq_true hon)
      have HX2 : Hid (decide (y ∈ C.take i) = false) := Lib.hid (decide_eq_false hdf)
      have HT : Hid (∀ wx, Only (fun _ => False) w6 wx → Strz wx (some ⟨b1, o1, none⟩) i (C.take i)) := Lib.hid (fun wx ho => strz_take (HS6.out.old ho (fun _ _ hc => hc)) (by omega))
      have HCI : Hid (∀ wx, Only (fun _ => False) w6 wx → wx.cell? ⟨b1, o1 + i, none⟩ = some (encStr y) ∧ wx.cell? ⟨b1, o1 + j, none⟩ = some (encStr z)) := Lib.hid (fun wx ho => by
        obtain ⟨b3, o3, e3, f3⟩ := (HS6.out.old ho (fun _ _ hc => hc)).cell i (by omega)
        cases e3
        obtain ⟨b4, o4, e4, f4⟩ := (HS6.out.old ho (fun _ _ hc => hc)).cell j (by omega)
        cases e4
        rw [hy] at f3
        rw [hz] at f4
        exact ⟨f3, f4⟩)
      have h01 : (0 : Int) ≤ (i : Int) := Int.natCast_nonneg i
      have h02 : (i : Int) < (m : Int) := by omega
      have h03 : (i : Int).toNat = i := Int.toNat_natCast i
      have h04 : (0 : Int) ≤ (j : Int) := Int.natCast_nonneg j
      have h05 : (j : Int) < (m : Int) := by omega
      have h06 : (j : Int).toNat = j := Int.toNat_natCast j
      have h07 : (i : Int) ≤ (cc : Int) := by have := HCC.out; omega
      have h08 : ¬ (m : Int) = 0 := by omega
      have h09 : ((m : Int) == 0) = false := by simp; omega
      have HK : Hid (∀ a, Only (fun _ => False) w6 a → (Only (fun _ => False) w6 a ∧ a.cell? ⟨b1, o1 + i, none⟩ = some (encStr y) ∧ a.cell? ⟨b1, o1 + j, none⟩ = some (encStr z))) := Lib.hid (fun a ho => ⟨ho, HCI.out a ho⟩)
      have hs0 := HK.out wr.drew hO.drew
      clear hon hdf hy hz hO c1 d1 c2 d2
      go_wp2
      go_region_held (fun a => Only (fun _ => False) w6 a ∧ a.cell? ⟨b1, o1 + i, none⟩ = some (encStr y) ∧ a.cell? ⟨b1, o1 + j, none⟩ = some (encStr z)) (assumption)
        (first | (go_at_call 22; (with_reducible refine (HIP.out _ y (HO6.out.trans hs0.1)).mono ?_); rintro e w7 ⟨oo, co, rfl, hS7, hO7⟩; have HS7 := Lib.hid hS7; have hs7 := HK.out w7 (hs0.1.trans hO7); clear hS7 hO7) | (go_at_call 21; (with_reducible refine (rHas_o w7 oo (impP l y).length co (impP l y) HS7.out (HIL.out y) z true HX1.out).mono ?_); rintro e w8 ⟨rfl, hO8⟩; have hs8 := HK.out w8 (hs7.1.trans hO8)) | (go_at_call 21; (with_reducible refine (rHas_o w8 (some ⟨b1, o1, none⟩) i cc (C.take i) (HT.out w8 hs8.1) (by omega) y false HX2.out).mono ?_); rintro e w9 ⟨rfl, hO9⟩; have hs9 := HK.out w9 (hs8.1.trans hO9)))
      all_goals
        go_wp2
        go_roundw
        case rel => exact ⟨i + 1, by omega, by go_num, hs9.1⟩
        case measure => simp [intOf]; omega
    · have hie : i = m := by omega
      have h02 : ¬ (i : Int) < (m : Int) := by omega
      have hbx := (hO.block w5.heap.size (lt_of_block HB6.out) (fun hc => hc)).trans HB6.out
      obtain ⟨q0, z0⟩ := blk_c (k := 0) hbx rfl
      obtain ⟨q1, z1⟩ := blk_c (k := 1) hbx rfl
      obtain ⟨b1, o1, e1, c1⟩ := (HS6.out.old hO (fun _ _ hc => hc)).cell 0 (by omega)
      subst e1
      rw [HSE.out, Nat.add_zero] at c1
      have c2 : wr.drew.cell? ⟨b1, o1, none⟩ = some (encStr s) := c1
      have q2 : wr.drew.cell? ⟨w5.heap.size, 1, none⟩ = some (encStr s) := q1
      have hss : (s == s) = true := by simp
      have h08 : ¬ (m : Int) = 0 := by omega
      have h09 : ((m : Int) == 0) = false := by simp; omega
      have h10 : ¬ m = 0 := by omega
      clear hbx hO q6
      go_wp2
      go_region_with (go_at_call 9; (refine (awake_p _).mono ?_); rintro e w9 ⟨rfl, hO9⟩)
      all_goals
        go_wp2
        go_ret
        exact ⟨rfl, HO6.out.trans (HO.out.drew.trans hO9)⟩
end Go.Proofs.YtigmdiagdlbdpaaGreat
