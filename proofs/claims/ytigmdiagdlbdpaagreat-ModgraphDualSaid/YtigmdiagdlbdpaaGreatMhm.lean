/-
  WALKS. ModgraphDual: small; lists with faults.
-/
import Derived.Test.YtigmdiagdlbdpaaGreatMhl
namespace Go.Proofs.YtigmdiagdlbdpaaGreat
open Go.RowKit Go.Maps
/-- What the laws call small. -/
def smallM (l : List Md) : Bool := l.all (fun m => decide (m.im.length ≤ 12)) && (decide (l.length ≤ 12) || (decide (32 < l.length) && decide (l.length ≤ 100)))
theorem smallM_im {l : List Md} (h : smallM l = true) : ∀ m ∈ l, m.im.length ≤ 12 := fun m hm => by
  unfold smallM at h
  rw [Bool.and_eq_true] at h
  exact of_decide_eq_true (List.all_eq_true.1 h.1 m hm)
theorem smallM_len {l : List Md} (h : smallM l = true) : l.length ≤ 12 ∨ (32 < l.length ∧ l.length ≤ 100) := by
  unfold smallM at h
  rw [Bool.and_eq_true, Bool.or_eq_true, Bool.and_eq_true] at h
  rcases h.2 with h | h
  · exact .inl (of_decide_eq_true h)
  · exact .inr ⟨of_decide_eq_true h.1, of_decide_eq_true h.2⟩
theorem okL_small {l : List Md} (h : smallM l = true) (hz : ∀ m ∈ l, SzM m) : OkL l := ⟨hz, fun m hm => by have := smallM_im h m hm; omega⟩
set_option maxRecDepth 100000 in
set_option maxHeartbeats 4000000 in
theorem mSmall_p (w : World) (oa : Option Addr) (n ca : Nat) (l : List Md) (h : Mdz w oa n l) (hn : n ≤ maxLen) (x : Bool) (hx : smallM l = x) : Calls Tryz.prog 8 #[.slice oa n ca] w fun e w' => e = .returned (.bool x) ∧ w' = w := by
  have hl := h.len
  have HX := Lib.hid hx
  unfold maxLen at hn
  clear hx
  go_enter Tryz.func8, Tryz.ntmps8
  go_wp2
  go_loopw [3] (fun q wr => ∃ k : Nat, k ≤ n ∧ q = .int .i64 k ∧ Hid (∀ j, j < k → (mdAt l j).im.length ≤ 12) ∧ wr = w) (fun q _ => n - (intOf q).toNat)
  case atStart => exact ⟨0, by omega, rfl, Lib.hid (fun i hi => absurd hi (Nat.not_lt_zero _)), rfl⟩
  case round =>
    obtain ⟨k, hk, rfl, HK, rfl⟩ := hrel
    by_cases hlt : k < n
    · have hkl : k < l.length := by omega
      obtain ⟨b1, o1, e1, c1⟩ := h.cell k hkl
      subst e1
      obtain ⟨al, ox, oi, od, nx, cx, ni, ci, nd, cd, p0, p1, p2, p3, p4, hIz⟩ := c1
      have hni := hIz.len
      have h01 : (0 : Int) ≤ (k : Int) := Int.natCast_nonneg k
      have h02 : (k : Int) < (n : Int) := by omega
      have h03 : (k : Int).toNat = k := Int.toNat_natCast k
      by_cases h12 : 12 < ni
      · have h04 : (12 : Int) < (ni : Int) := by omega
        have HF : Hid (x = false) := Lib.hid (by
          cases x with
          | false => rfl
          | true =>
            have h5 := smallM_im HX.out (mdAt l k) (by rw [mdAt_get hkl]; exact List.getElem_mem hkl)
            omega)
        clear hni hIz p0 p1 p2 p4
        go_wp2
        go_ret
        rw [HF.out]
        exact ⟨rfl, rfl⟩
      · have h04 : ¬ (12 : Int) < (ni : Int) := by omega
        have HN := Lib.hid (show ∀ j, j < k + 1 → (mdAt l j).im.length ≤ 12 from fun j hj => by
          by_cases e : j = k
          · rw [e, hni]; omega
          · exact HK.out j (by omega))
        clear hni hIz p0 p1 p2 p4
        go_wp2
        go_roundw
        case rel => exact ⟨k + 1, by omega, by go_num, HN, trivial⟩
        case measure => simp [intOf]; omega
    · have hall : l.all (fun m => decide (m.im.length ≤ 12)) = true := List.all_eq_true.2 (fun m hm => by
        obtain ⟨j, hj, e⟩ := List.getElem_of_mem hm
        have := HK.out j (by omega)
        rw [mdAt_get hj, e] at this
        exact decide_eq_true this)
      have h02 : ¬ (k : Int) < (n : Int) := by omega
      by_cases h12 : n ≤ 12
      · have h04 : (n : Int) ≤ 12 := by omega
        have HT : Hid (x = true) := Lib.hid (by rw [← HX.out]; unfold smallM; rw [hall, hl, decide_eq_true h12]; rfl)
        clear hall
        go_wp2
        go_ret
        rw [HT.out]
        exact ⟨rfl, rfl⟩
      · have h04 : ¬ (n : Int) ≤ 12 := by omega
        by_cases h32 : 32 < n
        · have h05 : (32 : Int) < (n : Int) := by omega
          by_cases h100 : n ≤ 100
          · have h06 : (n : Int) ≤ 100 := by omega
            have HT : Hid (x = true) := Lib.hid (by rw [← HX.out]; unfold smallM; rw [hall, hl, decide_eq_true h32, decide_eq_true h100]; simp)
            clear hall
            go_wp2
            go_ret
            rw [HT.out]
            exact ⟨rfl, rfl⟩
          · have h06 : ¬ (n : Int) ≤ 100 := by omega
            have HT : Hid (x = false) := Lib.hid (by rw [← HX.out]; unfold smallM; rw [hall, hl, decide_eq_false h12, decide_eq_false h100]; simp)
            clear hall
            go_wp2
            go_ret
            rw [HT.out]
            exact ⟨rfl, rfl⟩
        · have h05 : ¬ (32 : Int) < (n : Int) := by omega
          have HT : Hid (x = false) := Lib.hid (by rw [← HX.out]; unfold smallM; rw [hall, hl, decide_eq_false h12, decide_eq_false h32]; simp)
          clear hall
          go_wp2
          go_ret
          rw [HT.out]
          exact ⟨rfl, rfl⟩
set_option maxRecDepth 100000 in
set_option maxHeartbeats 4000000 in
theorem Dual_out (w : World) (oa : Option Addr) (n ca : Nat) (l : List Md) (sa sb : ByteArray) (h : Mdz w oa n l) (hn : n ≤ maxLen) (hsz : ∀ m ∈ l, SzM m) (hs : smallM l = false ∨ 32 < n) : Calls Tryz.prog 7 #[.slice oa n ca, .string sa, .string sb] w fun e w' => e = .returned (.bool true) ∧ Only (fun _ => False) w w' := by
  have hn' := hn
  unfold maxLen at hn'
  obtain ⟨x, hx⟩ : ∃ x, smallM l = x := ⟨_, rfl⟩
  have HSM := Lib.hid (mSmall_p w oa n ca l h hn x hx)
  cases x with
  | false =>
    clear h hsz hs hx
    go_enter Tryz.func7, Tryz.ntmps7
    go_wp2_with (first | (go_at_call 8; (refine HSM.out.mono ?_); rintro e w4 ⟨rfl, rfl⟩) | (go_at_call 9; (refine (awake_p _).mono ?_); rintro e w9 ⟨rfl, hO9⟩))
    go_ret
    exact ⟨rfl, hO9⟩
  | true =>
    have h32 : (32 : Int) < (n : Int) := by
      rcases hs with hs | hs
      · rw [hs] at hx; cases hx
      · omega
    clear h hsz hs hx
    go_enter Tryz.func7, Tryz.ntmps7
    go_wp2_with (first | (go_at_call 8; (refine HSM.out.mono ?_); rintro e w4 ⟨rfl, rfl⟩) | (go_at_call 9; (refine (awake_p _).mono ?_); rintro e w9 ⟨rfl, hO9⟩))
    go_ret
    exact ⟨rfl, hO9⟩
set_option maxRecDepth 100000 in
set_option maxHeartbeats 4000000 in
theorem Dual_con (w : World) (oa : Option Addr) (n ca : Nat) (l : List Md) (sa sb : ByteArray) (h : Mdz w oa n l) (hn : n ≤ maxLen) (hsz : ∀ m ∈ l, SzM m) (hs : smallM l = true) (h12 : n ≤ 12) (c : Nat) (s : Nm) (hC : conA l = some (c, s)) : Calls Tryz.prog 7 #[.slice oa n ca, .string sa, .string sb] w fun e w' => e = .returned (.bool true) ∧ Only (fun _ => False) w w' := by
  have hn' := hn
  unfold maxLen at hn'
  have HSM := Lib.hid (mSmall_p w oa n ca l h hn true hs)
  have hok := okL_small hs hsz
  have hF : accF l = some (c, s) := by unfold accF; rw [hC]
  have hcy : cycM l = [] := by unfold cycM; rw [hC]
  have HP1 : Hid (Calls Tryz.prog 10 #[.slice oa n ca] w fun e w' => e = .returned (.tuple #[.slice none 0 0, faV c s]) ∧ Only (fun _ => False) w w') := Lib.hid (by have h8 := Order_p w oa n ca l h (fun _ => hok); unfold nmQ at h8; rw [hF] at h8; exact h8)
  have HP2 : Hid (∀ wx, Only (fun _ => False) w wx → Calls Tryz.prog 19 #[.slice oa n ca] wx fun e w' => ∃ oc cc, e = .returned (.slice oc 0 cc) ∧ Only (fun _ => False) wx w') := Lib.hid (fun wx ho => (Cycle_p wx oa n ca l (h.old ho (fun _ _ hc => hc)) (fun _ => hok)).mono (by
    rw [hcy]
    rintro e w' ⟨oc, cc, h1, -, h3⟩
    exact ⟨oc, cc, h1, h3⟩))
  have hc0 := conA_pos hC
  have hc18 := conA_code hC
  have e1 : ¬ (c : Int) = 0 := by omega
  have e2 : ¬ (c : Int) = 18 := by omega
  have e3 : ((c : Int) == 18) = false := by simp; omega
  have e4 : ((c : Int) == 0) = false := by simp; omega
  have h32 : ¬ (32 : Int) < (n : Int) := by omega
  clear h hn hsz hs hC hok hF hcy hc0 hc18
  go_enter Tryz.func7, Tryz.ntmps7
  go_wp2_with (first | (go_at_call 8; (refine HSM.out.mono ?_); rintro e w4 ⟨rfl, rfl⟩) | (go_at_call 10; (with_reducible refine HP1.out.mono ?_); rintro e w5 ⟨rfl, hO5⟩; have HO5 := Lib.hid hO5; clear hO5) | (go_at_call 19; (with_reducible refine (HP2.out _ (HO5.out.alloc _)).mono ?_); rintro e w6 ⟨oc, cc, rfl, hO6⟩; have hb6 := (hO6.block w5.heap.size (by show _ < (Array.push _ _).size; rw [Array.size_push]; omega) (fun hc => hc)).trans (new_block w5 _); have HB6 := Lib.hid hb6; have q6 := (blk_c (k := 0) hb6 rfl).1; have HO6 := Lib.hid ((HO5.out.alloc (.cells #[.int .i64 (c : Int), encStr s, .int .i64 0, .int .i64 0] 28)).trans hO6); clear hO6 hb6))
  go_loopw [10] (fun q wr => q = .int .i64 0 ∧ wr = w6) (fun _ _ => 0)
  case atStart => exact ⟨rfl, rfl⟩
  case round =>
    obtain ⟨rfl, rfl⟩ := hrel
    go_wp2
    first | go_region_with (go_at_call 9; (refine (awake_p _).mono ?_); rintro e w9 ⟨rfl, hO9⟩) | fail "no"
    all_goals
      go_wp2
      go_ret
      exact ⟨rfl, HO6.out.drew.trans hO9⟩
end Go.Proofs.YtigmdiagdlbdpaaGreat
