/-
  WALKS. LayoutBalanced.
-/
import Derived.Test.YtkdogaomlocijaaLyV
namespace Go.Proofs.Ytkdogaomlocijaa
open Go.RowKit Go.Maps
theorem insF_bad (l : List Tok) : ∀ {last : Option Tok} {s : St} {c : Int} {nm : ByteArray} {li co : Int}, (l = [] → last ≠ none ∨ endS s ≠ none) → insF l last s = .bad c nm li co → c ≠ 0 := by
  induction l with
  | nil =>
    intro last s c nm li co h0 h
    rw [insF_end] at h
    cases he : endS s with
    | none =>
      rw [he] at h
      rcases h0 rfl with h1 | h1
      · cases last with
        | none => exact absurd rfl h1
        | some p => cases h; decide
      · exact absurd he h1
    | some r =>
      rw [he] at h
      simp only at h
      split at h
      · cases h; decide
      · cases h
  | cons t ts ih =>
    intro last s c nm li co _ h
    rw [insF_step t ts last s _ rfl] at h
    cases ht : tokenS s t (firstOf last t) with
    | none => rw [ht] at h; cases h; decide
    | some s' =>
      rw [ht] at h
      exact ih (fun _ => .inl (fun e => by cases e)) h
theorem insP_bad {l : List Tok} {c : Int} {nm : ByteArray} {li co : Int} (h : insP l = .bad c nm li co) : c ≠ 0 := by
  unfold insP at h
  split at h
  · cases h; decide
  · exact insF_bad l (fun _ => .inr (fun e => by cases e)) h
theorem insF_len (l : List Tok) : ∀ {last : Option Tok} {s : St} {r : List Tok}, insF l last s = .ok r → r.length ≤ 16384 := by
  induction l with
  | nil =>
    intro last s r h
    rw [insF_end] at h
    cases he : endS s with
    | none => rw [he] at h; cases last <;> cases h
    | some r' =>
      rw [he] at h
      simp only at h
      split at h
      · cases h
      · cases h; omega
  | cons t ts ih =>
    intro last s r h
    rw [insF_step t ts last s _ rfl] at h
    cases ht : tokenS s t (firstOf last t) with
    | none => rw [ht] at h; cases h
    | some s' => rw [ht] at h; exact ih h
theorem insP_len {l r : List Tok} (h : insP l = .ok r) : r.length ≤ 16384 := by
  unfold insP at h
  split at h
  · cases h
  · exact insF_len l h
/-- Insert, at any list of tokens that is not too long. -/
theorem Insert_any (w : World) (oa : Option Addr) (n ca : Nat) (ts : List Tok) (hn : n ≤ 100000000000) (hT : Tks w oa n ts) : Calls Try.prog 10 #[.slice oa n ca] w (InR w (insP ts)) := by
  cases ha : ts.any (·.auto)
  · exact Insert_ok w oa n ca ts hn hT ha
  · exact Insert_bad w oa n ca ts hn hT ha
theorem balL_bd (l : List Tok) : -(l.length : Int) ≤ balL l ∧ balL l ≤ l.length := by
  induction l with
  | nil => exact ⟨Int.le_refl _, Int.le_refl _⟩
  | cons t l ih =>
    have h : balL (t :: l) = bal1 t + balL l := by unfold balL; simp
    have hb : -1 ≤ bal1 t ∧ bal1 t ≤ 1 := by
      unfold bal1
      split
      · omega
      · split <;> omega
    rw [h, List.length_cons]
    omega
theorem balL_step (l : List Tok) {k : Nat} (hk : k < l.length) : balL (l.take (k + 1)) = balL (l.take k) + bal1 l[k] := by
  rw [List.take_succ_eq_append_getElem hk, bal_app, bal_one]
set_option maxRecDepth 100000 in
set_option maxHeartbeats 8000000 in
theorem BalL_bad (w : World) (oa : Option Addr) (n ca : Nat) (ts : List Tok) (hn : n ≤ 100000000000) (hT : Tks w oa n ts) {c : Int} {nm : ByteArray} {li co : Int} (hR : insP ts = .bad c nm li co) :
    Calls Try.prog 5 #[.slice oa n ca] w fun e w' => e = .returned (.bool true) ∧ Only (fun _ => False) w w' := by
  have hc := insP_bad hR
  have hc1 : (c != 0) = true := by simpa [bne] using hc
  have HX := Lib.hid hR
  clear hR hc
  cases hf : decide (n ≤ 3000)
  all_goals
    have HF := Lib.hid hf
    clear hf
    go_enter Try.func5, Try.ntmps5
    go_wp2_with (first | (go_at_call 10; refine (Insert_any w oa n ca ts hn hT).mono ?_; rw [HX.out]; rintro r w1 ⟨hO1, rfl⟩) | (go_at_call 8; refine (few_p oa n ca _ _ HF.out).mono ?_; rintro r w9 ⟨rfl, rfl⟩) | (go_at_call 9; refine (example_p _).mono ?_; rintro r w2 ⟨rfl, hO2⟩))
    go_ret
    exact ⟨rfl, (Only.alloc hO1 _).trans hO2⟩
set_option maxRecDepth 100000 in
set_option maxHeartbeats 8000000 in
theorem BalL_far (w : World) (oa : Option Addr) (n ca : Nat) (ts : List Tok) (hn : n ≤ 100000000000) (hT : Tks w oa n ts) {rs : List Tok} (hR : insP ts = .ok rs) (hf : decide (n ≤ 3000) = false) :
    Calls Try.prog 5 #[.slice oa n ca] w fun e w' => e = .returned (.bool true) ∧ Only (fun _ => False) w w' := by
  have HX := Lib.hid hR
  have HF := Lib.hid hf
  clear hR hf
  go_enter Try.func5, Try.ntmps5
  go_wp2_with (first | (go_at_call 10; refine (Insert_any w oa n ca ts hn hT).mono ?_; rw [HX.out]; rintro r w1 ⟨hO1, vo, rfl, hRo⟩) | (go_at_call 8; refine (few_p oa n ca _ _ HF.out).mono ?_; rintro r w9 ⟨rfl, rfl⟩) | (go_at_call 9; refine (example_p _).mono ?_; rintro r w2 ⟨rfl, hO2⟩))
  go_ret
  exact ⟨rfl, (Only.alloc hO1 _).trans hO2⟩
set_option maxRecDepth 100000 in
set_option maxHeartbeats 8000000 in
theorem BalL_ok (w : World) (oa : Option Addr) (n ca : Nat) (ts : List Tok) (hT : Tks w oa n ts) {rs : List Tok} (hR : insP ts = .ok rs) (hf : n ≤ 3000) :
    Calls Try.prog 5 #[.slice oa n ca] w fun e w' => e = .returned (.bool true) ∧ Only (fun _ => False) w w' := by
  have hres := insP_res hR
  have hdep := insP_dep hR
  have hlen := insP_len hR
  have HOK : Hid (OkP rs) := Lib.hid hres.ok
  have HBAL : Hid (balL rs = 0) := Lib.hid hres.bal
  have hge : decide (depL ts ≤ depL rs) = true := decide_eq_true hdep
  have HX := Lib.hid hR
  have hfd : decide (n ≤ 3000) = true := decide_eq_true hf
  have HF := Lib.hid hfd
  clear hR hfd hres hdep
  obtain ⟨L, hL⟩ : ∃ L, rs.length = L := ⟨_, rfl⟩
  rw [hL] at hlen
  have HL := Lib.hid hL
  clear hL
  obtain ⟨D1, hD1⟩ : ∃ D, depL ts = D := ⟨_, rfl⟩
  obtain ⟨D2, hD2⟩ : ∃ D, depL rs = D := ⟨_, rfl⟩
  rw [hD1, hD2] at hge
  have HD1 := Lib.hid hD1
  have HD2 := Lib.hid hD2
  clear hD1 hD2
  go_enter Try.func5, Try.ntmps5
  go_wp2_with (first | (go_at_call 10; refine (Insert_any w oa n ca ts (by omega) hT).mono ?_; rw [HX.out]; rintro r w1 ⟨hO1, vo, rfl, hRo⟩; obtain ⟨os, cs, hvo⟩ := rowForm hRo; rw [HL.out] at hvo; subst hvo) | (go_at_call 8; refine (few_p oa n ca _ _ HF.out).mono ?_; rintro r w9 ⟨rfl, rfl⟩))
  go_loopw [6, 5] (fun i m wr => ∃ (k : Nat) (M : Int), k ≤ L ∧ i = .int .i64 k ∧ m = .int .i64 M ∧ Hid (M = balL (rs.take k)) ∧ TR wr w.heap.size (.slice os L cs) rs ∧ Only (fun _ => False) w wr) (fun i _ _ => L - (intOf i).toNat)
  case atStart => exact ⟨0, 0, by omega, rfl, rfl, Lib.hid rfl, hRo.only (Only.alloc (Only.refl (fun _ => False) _) _) (fun _ _ hc => hc), Only.alloc hO1 _⟩
  case round =>
    obtain ⟨k, M, hk, rfl, rfl, HM, hRr, hO⟩ := hrel
    have hb1 := balL_bd (rs.take k)
    rw [← HM.out, List.length_take] at hb1
    obtain ⟨hb2, hb3⟩ := hb1
    have hM1 : -16384 ≤ M := by omega
    have hM2 : M ≤ 16384 := by omega
    clear hb2 hb3
    by_cases hlt : k < L
    · have hkt : k < rs.length := by rw [HL.out]; exact hlt
      have hst := balL_step rs hkt
      rw [← HM.out] at hst
      have hok1 := HOK.out (k + 1)
      rw [hst] at hok1
      obtain ⟨g, hoa, -, -, hca, hc⟩ := TR.at hRr hkt
      subst hoa
      obtain ⟨x, hx⟩ : ∃ x, rs[k] = x := ⟨_, rfl⟩
      rw [hx] at hc hst hok1
      have hbx : bal1 x = if x.auto && (x.text.toList == [123]) then 1 else if x.auto && (x.text.toList == [125]) then -1 else 0 := by
        unfold bal1 tx
        rw [Lib.toList_data]
      rw [hbx] at hst hok1
      have HST := Lib.hid hst
      clear hst hx hkt hbx
      obtain ⟨p0, p1, p2, p3, p4, p5, p6⟩ := hc
      cases hau : x.auto
      · have HN : Hid (M = balL (rs.take (k + 1))) := Lib.hid (by rw [HST.out, hau]; simp)
        rw [hau] at p4 hok1
        have hnn : decide (M < 0) = false := decide_eq_false (by simp at hok1; omega)
        clear hau hok1
        go_wp2
        go_roundw
        case rel => exact ⟨k + 1, M, by omega, by go_num, rfl, HN, hRr, hO⟩
        case measure => simp [intOf]; omega
      · rw [hau] at p4 hok1
        cases h1 : (x.text.toList == [123])
        · cases h2 : (x.text.toList == [125])
          · have HN : Hid (M = balL (rs.take (k + 1))) := Lib.hid (by rw [HST.out, hau, h1, h2]; simp)
            rw [h1, h2] at hok1
            have hnn : decide (M < 0) = false := decide_eq_false (by simp at hok1; omega)
            clear hau hok1
            go_wp2
            go_roundw
            case rel => exact ⟨k + 1, M, by omega, by go_num, rfl, HN, hRr, hO⟩
            case measure => simp [intOf]; omega
          · have HN : Hid (M - 1 = balL (rs.take (k + 1))) := Lib.hid (by rw [HST.out, hau, h1, h2]; simp; omega)
            rw [h1, h2] at hok1
            have hnn : decide (M - 1 < 0) = false := decide_eq_false (by simp at hok1; omega)
            have hnm : 0 ≤ M - 1 := by simp at hok1; omega
            have hnm2 : 1 ≤ M := by omega
            have hnn2 : decide (M < 1) = false := decide_eq_false (by omega)
            clear hau hok1
            go_wp2
            go_roundw
            case rel => exact ⟨k + 1, M - 1, by omega, by go_num, rfl, HN, hRr, hO⟩
            case measure => simp [intOf]; omega
        · have h2 : (x.text.toList == [125]) = false := by rw [eq_of_beq h1]; rfl
          have HN : Hid (M + 1 = balL (rs.take (k + 1))) := Lib.hid (by rw [HST.out, hau, h1]; simp)
          rw [h1] at hok1
          have hnm : 0 ≤ M + 1 := by simp at hok1; omega
          have hnn : decide (M + 1 < 0) = false := decide_eq_false (by omega)
          clear hau hok1
          go_wp2
          go_roundw
          case rel => exact ⟨k + 1, M + 1, by omega, by go_num, rfl, HN, hRr, hO⟩
          case measure => simp [intOf]; omega
    · have hM0 : M = 0 := by rw [HM.out, List.take_of_length_le (by rw [HL.out]; omega)]; exact HBAL.out
      subst hM0
      have hTr := hT.keep hO
      go_wp2_with (first | (go_at_call 17; ((with_reducible refine (Depth_v _ os L cs rs _ (by omega) (TR.tks' hRr) HD2.out).mono ?_); rintro r w3 ⟨rfl, hO3⟩; have hT3 := hTr.keep hO3)) | (go_at_call 17; ((with_reducible refine (Depth_v _ oa n ca ts _ (by omega) hT3 HD1.out).mono ?_); rintro r w4 ⟨rfl, hO4⟩)) | (go_at_call 9; refine (example_p _).mono ?_; rintro r w5 ⟨rfl, hO5⟩))
      go_ret
      exact ⟨rfl, ((hO.trans hO3).trans hO4).trans hO5⟩
end Go.Proofs.Ytkdogaomlocijaa
