/-
  WALKS. small; ModgraphCycle.
-/
import Derived.Test.YtigmdiagdlbdpaaGreatMhr
import Derived.Test.YtigmdiagdlbdpaaGreatMhi
namespace Go.Proofs.YtigmdiagdlbdpaaGreat
open Go.RowKit Go.Maps
/-- What the laws call small. -/
def smallM (l : List Md) : Bool := l.all (fun m => decide (m.im.length ≤ 12)) && (decide (l.length ≤ 12) || (decide (32 < l.length) && decide (l.length ≤ 100)))
theorem smallM_im {l : List Md} (h : smallM l = true) : ∀ m ∈ l, m.im.length ≤ 12 := fun m hm => by
  unfold smallM at h
  rw [Bool.and_eq_true] at h
  exact of_decide_eq_true (List.all_eq_true.1 h.1 m hm)
theorem smallM_len {l : List Md} (h : smallM l = true) : l.length ≤ 12 ∨ (32 < l.length ∧ l.length ≤ 100) := by
  unfold smallM at h
  rw [Bool.and_eq_true, Bool.or_eq_true, Bool.and_eq_true] at h
  rcases h.2 with h | h
  · exact .inl (of_decide_eq_true h)
  · exact .inr ⟨of_decide_eq_true h.1, of_decide_eq_true h.2⟩
theorem okL_small {l : List Md} (h : smallM l = true) (hz : ∀ m ∈ l, SzM m) : OkL l := ⟨hz, fun m hm => by have := smallM_im h m hm; omega⟩
set_option maxRecDepth 100000 in
set_option maxHeartbeats 4000000 in
theorem mSmall_p (w : World) (oa : Option Addr) (n ca : Nat) (l : List Md) (h : Mdz w oa n l) (hn : n ≤ maxLen) (x : Bool) (hx : smallM l = x) : Calls Tryz.prog 8 #[.slice oa n ca] w fun e w' => e = .returned (.bool x) ∧ w' = w := by
  have hl := h.len
  have HX := Lib.hid hx
  unfold maxLen at hn
  clear hx
  go_enter Tryz.func8, Tryz.ntmps8
  go_wp2
  go_loopw [3] (fun q wr => ∃ k : Nat, k ≤ n ∧ q = .int .i64 k ∧ Hid (∀ j, j < k → (mdAt l j).im.length ≤ 12) ∧ wr = w) (fun q _ => n - (intOf q).toNat)
  case atStart => exact ⟨0, by omega, rfl, Lib.hid (fun i hi => absurd hi (Nat.not_lt_zero _)), rfl⟩
  case round =>
    obtain ⟨k, hk, rfl, HK, rfl⟩ := hrel
    by_cases hlt : k < n
    · have hkl : k < l.length := by omega
      obtain ⟨b1, o1, e1, c1⟩ := h.cell k hkl
      subst e1
      obtain ⟨al, ox, oi, od, nx, cx, ni, ci, nd, cd, p0, p1, p2, p3, p4, hIz⟩ := c1
      have hni := hIz.len
      have h01 : (0 : Int) ≤ (k : Int) := Int.natCast_nonneg k
      have h02 : (k : Int) < (n : Int) := by omega
      have h03 : (k : Int).toNat = k := Int.toNat_natCast k
      by_cases h12 : 12 < ni
      · have h04 : (12 : Int) < (ni : Int) := by omega
        have HF : Hid (x = false) := Lib.hid (by
          cases x with
          | false => rfl
          | true =>
            have h5 := smallM_im HX.out (mdAt l k) (by rw [mdAt_get hkl]; exact List.getElem_mem hkl)
            omega)
        clear hni hIz p0 p1 p2 p4
        go_wp2
        go_ret
        rw [HF.out]
        exact ⟨rfl, rfl⟩
      · have h04 : ¬ (12 : Int) < (ni : Int) := by omega
        have HN := Lib.hid (show ∀ j, j < k + 1 → (mdAt l j).im.length ≤ 12 from fun j hj => by
          by_cases e : j = k
          · rw [e, hni]; omega
          · exact HK.out j (by omega))
        clear hni hIz p0 p1 p2 p4
        go_wp2
        go_roundw
        case rel => exact ⟨k + 1, by omega, by go_num, HN, trivial⟩
        case measure => simp [intOf]; omega
    · have hall : l.all (fun m => decide (m.im.length ≤ 12)) = true := List.all_eq_true.2 (fun m hm => by
        obtain ⟨j, hj, e⟩ := List.getElem_of_mem hm
        have := HK.out j (by omega)
        rw [mdAt_get hj, e] at this
        exact decide_eq_true this)
      have h02 : ¬ (k : Int) < (n : Int) := by omega
      by_cases h12 : n ≤ 12
      · have h04 : (n : Int) ≤ 12 := by omega
        have HT : Hid (x = true) := Lib.hid (by rw [← HX.out]; unfold smallM; rw [hall, hl, decide_eq_true h12]; rfl)
        clear hall
        go_wp2
        go_ret
        rw [HT.out]
        exact ⟨rfl, rfl⟩
      · have h04 : ¬ (n : Int) ≤ 12 := by omega
        by_cases h32 : 32 < n
        · have h05 : (32 : Int) < (n : Int) := by omega
          by_cases h100 : n ≤ 100
          · have h06 : (n : Int) ≤ 100 := by omega
            have HT : Hid (x = true) := Lib.hid (by rw [← HX.out]; unfold smallM; rw [hall, hl, decide_eq_true h32, decide_eq_true h100]; simp)
            clear hall
            go_wp2
            go_ret
            rw [HT.out]
            exact ⟨rfl, rfl⟩
          · have h06 : ¬ (n : Int) ≤ 100 := by omega
            have HT : Hid (x = false) := Lib.hid (by rw [← HX.out]; unfold smallM; rw [hall, hl, decide_eq_false h12, decide_eq_false h100]; simp)
            clear hall
            go_wp2
            go_ret
            rw [HT.out]
            exact ⟨rfl, rfl⟩
        · have h05 : ¬ (32 : Int) < (n : Int) := by omega
          have HT : Hid (x = false) := Lib.hid (by rw [← HX.out]; unfold smallM; rw [hall, hl, decide_eq_false h12, decide_eq_false h32]; simp)
          clear hall
          go_wp2
          go_ret
          rw [HT.out]
          exact ⟨rfl, rfl⟩
set_option maxRecDepth 100000 in
set_option maxHeartbeats 4000000 in
theorem ModgraphCycle_walk (w : World) (oa : Option Addr) (n ca : Nat) (l : List Md) (h : Mdz w oa n l) (hn : n ≤ maxLen) (hsz : ∀ m ∈ l, SzM m) : Calls Tryz.prog 5 #[.slice oa n ca] w fun e w' => e = .returned (.bool true) ∧ Only (fun _ => False) w w' := by
  have hl := h.len
  have hn' := hn
  unfold maxLen at hn'
  obtain ⟨x, hx⟩ : ∃ x, smallM l = x := ⟨_, rfl⟩
  have HSM := Lib.hid (mSmall_p w oa n ca l h hn x hx)
  cases x with
  | false =>
    clear h hsz hx
    go_enter Tryz.func5, Tryz.ntmps5
    go_wp2_with (first | (go_at_call 8; (refine HSM.out.mono ?_); rintro e w4 ⟨rfl, rfl⟩) | (go_at_call 9; (refine (awake_p _).mono ?_); rintro e w9 ⟨rfl, hO9⟩))
    go_ret
    exact ⟨rfl, hO9⟩
  | true =>
    by_cases h8 : 8 < n ∧ n ≤ 32
    · have h1 : (8 : Int) < (n : Int) := by omega
      have h2 : (n : Int) ≤ 32 := by omega
      clear h hsz hx
      go_enter Tryz.func5, Tryz.ntmps5
      go_wp2_with (first | (go_at_call 8; (refine HSM.out.mono ?_); rintro e w4 ⟨rfl, rfl⟩) | (go_at_call 9; (refine (awake_p _).mono ?_); rintro e w9 ⟨rfl, hO9⟩))
      go_ret
      exact ⟨rfl, hO9⟩
    · have hok := okL_small hx hsz
      have hcl : (cycM l).length ≤ 1000000 := by
        unfold cycM
        split
        · exact Nat.zero_le _
        · rename_i hC
          have hl32 := (conA_small hC).1
          rw [List.length_map]
          have h3 : (cyP (grP l)).length ≤ (grP l).length := cycS_len (grP_valid l) (P := cyB (grP l)) (fun k hk => cyB_iff (grP_valid l) hk) (grP l).length (Nat.le_refl _)
          rw [grP_len] at h3
          omega
      have HP1 : Hid (Calls Tryz.prog 19 #[.slice oa n ca] w fun e w' => ∃ oc cc, e = .returned (.slice oc (cycM l).length cc) ∧ Strz w' oc (cycM l).length (cycM l) ∧ Only (fun _ => False) w w') := Lib.hid ((Cycle_p w oa n ca l h (fun _ => hok)).mono (by
        rintro e w' ⟨oc, cc, h1, h2, h3⟩
        exact ⟨oc, cc, h1, h2.strz, h3⟩))
      have HP2 : Hid (∀ wx, Only (fun _ => False) w wx → Calls Tryz.prog 20 #[.slice oa n ca] wx fun e w' => ∃ oc cc, e = .returned (.slice oc (cycM l).length cc) ∧ Strz w' oc (cycM l).length (cycM l) ∧ Only (fun _ => False) wx w') := Lib.hid (fun wx ho => rCycle_p wx oa n ca l (h.old ho (fun _ _ hc => hc)) (fun _ m hm => by have := smallM_im hx m hm; omega))
      obtain ⟨C, hC⟩ : ∃ C, cycM l = C := ⟨_, rfl⟩
      rw [hC] at hcl HP1 HP2
      obtain ⟨c, hc⟩ : ∃ c, C.length = c := ⟨_, rfl⟩
      rw [hc] at hcl HP1 HP2
      have hx' := hx
      clear h hsz hok hC hc hx hx'
      by_cases h9 : 8 < n
      · have h1 : (8 : Int) < (n : Int) := by omega
        have h2 : ¬ (n : Int) ≤ 32 := by omega
        go_enter Tryz.func5, Tryz.ntmps5
        go_wp2_with (first | (go_at_call 8; (refine HSM.out.mono ?_); rintro e w4 ⟨rfl, rfl⟩) | (go_at_call 19; (with_reducible refine HP1.out.mono ?_); rintro e w5 ⟨oc, cc, rfl, hS5, hO5⟩; have HS5 := Lib.hid hS5; have HO5 := Lib.hid hO5; clear hS5 hO5) | (go_at_call 20; (with_reducible refine (HP2.out _ HO5.out).mono ?_); rintro e w6 ⟨od, cd, rfl, hS6, hO6⟩; have HS6 := Lib.hid hS6; have HO6 := Lib.hid hO6; clear hS6 hO6) | (go_at_call 14; (with_reducible refine (sameT w6 oc od c cc cd C (HS5.out.old HO6.out (fun _ _ hc => hc)) HS6.out hcl).mono ?_); rintro e w7 ⟨rfl, hO7⟩; have HO7 := Lib.hid hO7; clear hO7) | (go_at_call 9; (refine (awake_p _).mono ?_); rintro e w9 ⟨rfl, hO9⟩))
        go_ret
        exact ⟨rfl, HO5.out.trans (HO6.out.trans (HO7.out.trans hO9))⟩
      · have h1 : ¬ (8 : Int) < (n : Int) := by omega
        go_enter Tryz.func5, Tryz.ntmps5
        go_wp2_with (first | (go_at_call 8; (refine HSM.out.mono ?_); rintro e w4 ⟨rfl, rfl⟩) | (go_at_call 19; (with_reducible refine HP1.out.mono ?_); rintro e w5 ⟨oc, cc, rfl, hS5, hO5⟩; have HS5 := Lib.hid hS5; have HO5 := Lib.hid hO5; clear hS5 hO5) | (go_at_call 20; (with_reducible refine (HP2.out _ HO5.out).mono ?_); rintro e w6 ⟨od, cd, rfl, hS6, hO6⟩; have HS6 := Lib.hid hS6; have HO6 := Lib.hid hO6; clear hS6 hO6) | (go_at_call 14; (with_reducible refine (sameT w6 oc od c cc cd C (HS5.out.old HO6.out (fun _ _ hc => hc)) HS6.out hcl).mono ?_); rintro e w7 ⟨rfl, hO7⟩; have HO7 := Lib.hid hO7; clear hO7) | (go_at_call 9; (refine (awake_p _).mono ?_); rintro e w9 ⟨rfl, hO9⟩))
        go_ret
        exact ⟨rfl, HO5.out.trans (HO6.out.trans (HO7.out.trans hO9))⟩
end Go.Proofs.YtigmdiagdlbdpaaGreat
