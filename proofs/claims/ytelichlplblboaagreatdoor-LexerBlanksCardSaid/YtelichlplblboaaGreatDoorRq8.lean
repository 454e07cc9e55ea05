/-
  WALKS. The reference: Render, given tokens that are printable or not; in one walk's cases.
-/
import Derived.Test.YtelichlplblboaaGreatDoorRqb
import Derived.Test.YtelichlplblboaaGreatDoorTxt
namespace Go.Proofs.YtelichlplblboaaGreatDoor
open Go.RowKit Go.Maps
theorem rspread_v (c : UInt8) (m : Nat) (A : ByteArray) (n : Int) (w : World) (hn : n = (m : Int)) (hm : m ≤ 1000000) (hA : (⟨(rp c m).toArray⟩ : ByteArray) = A) :
    Calls Tryz.prog 32 #[.string ⟨#[c]⟩, .int .i64 n] w fun e w' => e = .returned (.string A) ∧ Only (fun _ => False) w w' := by
  subst hn hA; exact rspread_p c m w hm
theorem rText_v (x : Tok) (X : ByteArray) (w : World) (hx : txB x = X) (hn0 : x.op = 5 → 0 ≤ x.n) (hn1 : x.n ≤ 9223372036854775807) (hz1 : x.qual.size ≤ 65536) (hz2 : x.text.size ≤ 65536) :
    Calls Tryz.prog 33 #[tokV x] w fun e w' => e = .returned (.string X) ∧ Only (fun _ => False) w w' := by
  subst hx; exact rText_p x w hn0 hn1 hz1 hz2
theorem prT_int {x : Tok} (h : prT x = true) (h5 : x.op = 5) : 0 ≤ x.n := by
  unfold prT at h
  rw [if_pos h5] at h
  simp at h
  exact h.2
set_option maxRecDepth 100000 in
set_option maxHeartbeats 4000000 in
theorem rRender_no (W w : World) (hq : Q W w) (oa : Option Addr) (n ca : Nat) (ts : List Tok) (hn : n ≤ 1000) (hts : Tks w oa n ts) (hok : ∀ t ∈ ts, TokOk t) (ha : ts.all prT = false) :
    Calls Tryz.prog 16 #[.slice oa n ca] w fun e w' => e = .returned (.tuple #[.string ⟨#[]⟩, .int .i64 1]) ∧ Only (fun _ => False) w w' := by
  have HL := Lib.hid hts.len
  have HA := Lib.hid ha
  have HOK := Lib.hid hok
  clear ha hok
  go_enter Tryz.func16, Tryz.ntmps16
  go_wp2
  go_loopw [4] (fun i wr => ∃ k : Nat, k ≤ n ∧ i = .int .i64 k ∧ Hid ((ts.take k).all prT = true) ∧ Only (fun _ => False) w wr) (fun i _ => n - (intOf i).toNat)
  case atStart => exact ⟨0, by omega, rfl, Lib.hid rfl, Only.refl _ _⟩
  case round =>
    obtain ⟨k, hk, rfl, HK, hO⟩ := hrel
    by_cases hlt : k < n
    · have hka : k < ts.length := by rw [HL.out]; exact hlt
      obtain ⟨b, o, rfl, hc0⟩ := hts.cell k hka
      have hc := hc0.only hO (fun h => h)
      obtain ⟨x, hx⟩ : ∃ x, ts[k] = x := ⟨_, rfl⟩
      obtain ⟨v, hv⟩ : ∃ v, prT x = v := ⟨_, rfl⟩
      rw [hx] at hc
      have HX := Lib.hid hx
      have HPV := Lib.hid hv
      have hTO := HOK.out x (by rw [← hx]; exact List.getElem_mem hka)
      have hQr : Q W wr := hq.only hO (fun _ h => h.elim)
      have HPX : Hid (Calls Tryz.prog 31 #[tokV x] wr fun e w'' => e = .returned (.bool v) ∧ Only (fun _ => False) wr w'') := Lib.hid (hv ▸ rPrintable_p x W wr hQr hTO.x hTO.q)
      obtain ⟨p0, p1, p2, p3, p4, p5, p6⟩ := hc
      clear hx hv hc0 hTO
      cases v
      · go_wp2_with (go_loud (first | (go_at_call 31; ((with_reducible refine HPX.out.mono ?_); rintro e w1 ⟨rfl, hO1⟩))))
        exact bodyPost_ret (v := .tuple #[.string ⟨#[]⟩, .int .i64 1]) (by simp [results, Tryz.results16, go_sem]) rfl ⟨rfl, hO.trans hO1⟩
      · go_wp2_with (go_loud (first | (go_at_call 31; ((with_reducible refine HPX.out.mono ?_); rintro e w1 ⟨rfl, hO1⟩))))
        go_roundw
        case rel => exact ⟨k + 1, by omega, by go_num, Lib.hid (all_take HK.out hka (by rw [HX.out]; exact HPV.out)), hO.trans hO1⟩
        case measure => simp [intOf]; omega
    · exfalso
      have := HK.out
      rw [List.take_of_length_le (by rw [HL.out]; omega), HA.out] at this
      cases this
theorem renR_some {ts : List Tok} {s : WS} (ha : ts.all prT = true) (hl : ts.length ≤ 16384) (h : renL ⟨[], 1, 1, true⟩ ts = some s) : renR ts = (⟨s.out.toArray⟩, 0) := by
  unfold renR; rw [if_pos ha, if_neg (by omega), h]
theorem renR_none {ts : List Tok} (ha : ts.all prT = true) (hl : ts.length ≤ 16384) (h : renL ⟨[], 1, 1, true⟩ ts = none) : renR ts = (⟨#[]⟩, 3) := by
  unfold renR; rw [if_pos ha, if_neg (by omega), h]
/-- What is left of the rendering. -/
def RI (ts : List Tok) (k : Nat) (s : WS) : Prop := (65536 < s.out.length → renL ⟨[], 1, 1, true⟩ ts = none) ∧ (s.out.length ≤ 65536 → renL ⟨[], 1, 1, true⟩ ts = renL s (ts.drop k))
theorem RI.next {ts : List Tok} {k : Nat} {s s' : WS} {x : Tok} (h : RI ts k s) (hk : k < ts.length) (hx : ts[k] = x) (hs : s.out.length ≤ 65536) (he : tokS s x = s') : RI ts (k + 1) s' := by
  subst he
  have h1 := h.2 hs
  rw [renL_step s hk x hx] at h1
  refine ⟨fun hl => ?_, fun hl => ?_⟩
  · rw [h1, if_pos hl]
  · rw [h1, if_neg (by omega)]
set_option maxRecDepth 100000 in
set_option maxHeartbeats 8000000 in
theorem rRender_yes (W w : World) (hq : Q W w) (oa : Option Addr) (n ca : Nat) (ts : List Tok) (hn : n ≤ 1000) (hts : Tks w oa n ts) (hok : ∀ t ∈ ts, TokOk t) (ha : ts.all prT = true) :
    Calls Tryz.prog 16 #[.slice oa n ca] w fun e w' => e = .returned (.tuple #[.string (renR ts).1, .int .i64 (renR ts).2]) ∧ Only (fun _ => False) w w' := by
  have HL := Lib.hid hts.len
  have HAL := Lib.hid ha
  have HOK := Lib.hid hok
  have HLZ : Hid (ts.length ≤ 16384) := Lib.hid (by rw [HL.out]; omega)
  obtain ⟨R, hR⟩ : ∃ R, renR ts = R := ⟨_, rfl⟩
  rw [hR]
  have HR := Lib.hid hR
  clear ha hok hR
  go_enter Tryz.func16, Tryz.ntmps16
  go_wp2
  go_loopw [4] (fun i wr => ∃ k : Nat, k ≤ n ∧ i = .int .i64 k ∧ Only (fun _ => False) w wr) (fun i _ => n - (intOf i).toNat)
  case atStart => exact ⟨0, by omega, rfl, Only.refl _ _⟩
  case round =>
    obtain ⟨k, hk, rfl, hO⟩ := hrel
    by_cases hlt : k < n
    · have hka : k < ts.length := by rw [HL.out]; exact hlt
      obtain ⟨b, o, rfl, hc0⟩ := hts.cell k hka
      have hc := hc0.only hO (fun h => h)
      obtain ⟨x, hx⟩ : ∃ x, ts[k] = x := ⟨_, rfl⟩
      rw [hx] at hc
      have hTO := HOK.out x (by rw [← hx]; exact List.getElem_mem hka)
      have hv : prT x = true := by rw [← hx]; exact List.all_eq_true.1 HAL.out _ (List.getElem_mem hka)
      have hQr : Q W wr := hq.only hO (fun _ h => h.elim)
      have HPX : Hid (Calls Tryz.prog 31 #[tokV x] wr fun e w'' => e = .returned (.bool true) ∧ Only (fun _ => False) wr w'') := Lib.hid (hv ▸ rPrintable_p x W wr hQr hTO.x hTO.q)
      obtain ⟨p0, p1, p2, p3, p4, p5, p6⟩ := hc
      clear hx hv hc0 hTO
      go_wp2_with (go_loud (first | (go_at_call 31; ((with_reducible refine HPX.out.mono ?_); rintro e w1 ⟨rfl, hO1⟩))))
      go_roundw
      case rel => exact ⟨k + 1, by omega, by go_num, hO.trans hO1⟩
      case measure => simp [intOf]; omega
    · have hOs := hO
      clear hO
      go_wp2
      go_loopw [5, 6, 7, 8] (fun o l c i wr => ∃ (k : Nat) (s : WS) (S : ByteArray), k ≤ n ∧ o = .string S ∧ l = .int .i64 s.line ∧ c = .int .i64 s.col ∧ i = .int .i64 k ∧ Hid (S.data.toList = s.out) ∧ S.size ≤ 20000000 ∧ Hid (Fit s) ∧ Hid (s.first = decide (k = 0)) ∧ Hid (RI ts k s) ∧ Only (fun _ => False) w wr) (fun _ _ _ i _ => n - (intOf i).toNat)
      case atStart => exact ⟨0, ⟨[], 1, 1, true⟩, ⟨#[]⟩, by omega, rfl, rfl, rfl, rfl, Lib.hid rfl, by show 0 ≤ _; omega, Lib.hid ⟨by decide, by decide, by decide, by decide⟩, Lib.hid rfl, Lib.hid ⟨fun h => absurd h (by decide), fun _ => rfl⟩, hOs⟩
      case round =>
        obtain ⟨k, s, S, hk, rfl, rfl, rfl, rfl, HS, hSz, HF, HFI, HRI, hO⟩ := hrel
        have HSE : Hid (S.size = s.out.length) := Lib.hid (by rw [← HS.out]; exact Lib.size_eq S)
        by_cases hlt : k < n
        · by_cases hsz : S.size ≤ 65536
          · have hka : k < ts.length := by rw [HL.out]; exact hlt
            obtain ⟨b, o, rfl, hc0⟩ := hts.cell k hka
            have hc := hc0.only hO (fun h => h)
            obtain ⟨x, hx⟩ : ∃ x, ts[k] = x := ⟨_, rfl⟩
            rw [hx] at hc
            have HX := Lib.hid hx
            have hTO := HOK.out x (by rw [← hx]; exact List.getElem_mem hka)
            have hv : prT x = true := by rw [← hx]; exact List.all_eq_true.1 HAL.out _ (List.getElem_mem hka)
            obtain ⟨X, hXe⟩ : ∃ X, txB x = X := ⟨_, rfl⟩
            have hXz : X.size ≤ 10000000 := by rw [← hXe]; exact txB_size hTO
            have HTX : Hid (∀ w, Calls Tryz.prog 33 #[tokV x] w fun e w' => e = .returned (.string X) ∧ Only (fun _ => False) w w') := Lib.hid (fun w => rText_v x X w hXe (prT_int hv) hTO.n1 hTO.q hTO.x)
            have HFT : Hid (Fit (tokS s x)) := Lib.hid (HF.out.tok x)
            have HSL : Hid (s.out.length ≤ 65536) := Lib.hid (by rw [← HSE.out]; exact hsz)
            obtain ⟨f1, f2, f3, f4⟩ := HF.out
            have f2' : s.col ≤ 65537 := by have := HSL.out; omega
            have f4' : s.line ≤ 65537 := by have := HSL.out; omega
            have tl0 := hTO.l0
            have tl1 := hTO.l1
            obtain ⟨q0, q1, q2, q3, q4, q5, q6⟩ := tokA_tc wr x
            obtain ⟨p0, p1, p2, p3, p4, p5, p6⟩ := hc
            have hfk : (s.first = true ∧ ((k : Int) == 0) = true) ∨ (s.first = false ∧ ((k : Int) == 0) = false) := by
              rw [HFI.out]
              by_cases e : k = 0
              · subst e; exact .inl ⟨rfl, rfl⟩
              · exact .inr ⟨by simpa using e, by simp; omega⟩
            have hcases : (s.line < x.line ∧ 1 < x.col ∧ x.col ≤ 1000) ∨ (s.line < x.line ∧ x.col ≤ 1) ∨ (s.line < x.line ∧ 1 < x.col ∧ 1000 < x.col) ∨ (x.line ≤ s.line ∧ s.col < x.col ∧ x.col ≤ 1000) ∨ (x.line ≤ s.line ∧ x.col ≤ s.col ∧ s.first = true ∧ ((k : Int) == 0) = true) ∨ (x.line ≤ s.line ∧ (s.col < x.col ∧ 1000 < x.col) ∧ s.first = true ∧ ((k : Int) == 0) = true) ∨ (x.line ≤ s.line ∧ x.col ≤ s.col ∧ s.first = false ∧ ((k : Int) == 0) = false) ∨ (x.line ≤ s.line ∧ (s.col < x.col ∧ 1000 < x.col) ∧ s.first = false ∧ ((k : Int) == 0) = false) := by
              rcases hfk with ⟨h1, h2⟩ | ⟨h1, h2⟩ <;> simp only [h1, h2, and_true, and_false, or_false, false_or, reduceCtorEq] <;> omega
            clear hx hv hc0 hTO f2 f4 hfk
            rcases hcases with ⟨hl, hc1, hc2⟩ | ⟨hl, hc1⟩ | ⟨hl, hc1, hc2⟩ | ⟨hl, hc1, hc2⟩ | ⟨hl, hc1, hfi, hk0⟩ | ⟨hl, ⟨hc1, hc2⟩, hfi, hk0⟩ | ⟨hl, hc1, hfi, hk0⟩ | ⟨hl, ⟨hc1, hc2⟩, hfi, hk0⟩
            · obtain ⟨m1, hm1e⟩ : ∃ m1 : Nat, min (x.line - s.line) 200 = (m1 : Int) := ⟨(min (x.line - s.line) 200).toNat, by omega⟩
              have hm1 : m1 ≤ 1000000 := by omega
              have hm1b : (m1 : Int) ≤ 200 := by omega
              obtain ⟨A, hA⟩ : ∃ A : ByteArray, (⟨(rp 10 m1).toArray⟩ : ByteArray) = A := ⟨_, rfl⟩
              have hAz : A.size = m1 := by rw [← hA, Lib.size_eq]; exact rp_len 10 m1
              obtain ⟨m2, hm2e⟩ : ∃ m2 : Nat, x.col - 1 = (m2 : Int) := ⟨(x.col - 1).toNat, by omega⟩
              have hm2 : m2 ≤ 1000000 := by omega
              have hm2b : (m2 : Int) ≤ 1000 := by omega
              obtain ⟨B, hB⟩ : ∃ B : ByteArray, (⟨(rp 32 m2).toArray⟩ : ByteArray) = B := ⟨_, rfl⟩
              have hBz : B.size = m2 := by rw [← hB, Lib.size_eq]; exact rp_len 32 m2
              have HTS : Hid (tokS s x = ⟨s.out ++ rp 10 m1 ++ rp 32 m2 ++ X.data.toList, s.line + (m1 : Int), x.col + (X.size : Int), false⟩) := Lib.hid (by
                have h1 : feedS s x.line = ⟨s.out ++ rp 10 m1, s.line + (m1 : Int), 1, true⟩ := by unfold feedS; rw [if_pos hl, hm1e, Int.toNat_natCast]
                have h2 : colS ⟨s.out ++ rp 10 m1, s.line + (m1 : Int), 1, true⟩ x.col = ⟨s.out ++ rp 10 m1 ++ rp 32 m2, s.line + (m1 : Int), x.col, true⟩ := by
                  unfold colS
                  try dsimp only
                  rw [if_pos ⟨hc1, hc2⟩]
                  try dsimp only
                  rw [hm2e, Int.toNat_natCast]
                  congr 1; omega
                unfold tokS
                rw [h1, h2]
                simp only
                rw [hXe])
              have HD : Hid ((S ++ A ++ B ++ X).data.toList = s.out ++ rp 10 m1 ++ rp 32 m2 ++ X.data.toList) := Lib.hid (by rw [app_data, app_data, app_data, HS.out, ← hA, ← hB])
              have HM1 := Lib.hid hm1e
              have HA := Lib.hid hA
              have HM2 := Lib.hid hm2e
              have HB := Lib.hid hB
              clear hXe hm1e hA hm2e hB
              go_wp2_with (go_loud (first | (go_at_call 32; ((with_reducible refine (rspread_v 10 m1 A _ _ (by have := HM1.out; omega) hm1 HA.out).mono ?_); rintro e w1 ⟨rfl, hO1⟩; have hN1 : Only (fun _ => False) (tokA wr x) w1 := hO1; obtain ⟨a0, a1, a2, a3, a4, a5, a6⟩ := tokA_tc' hN1)) | (go_at_call 32; ((with_reducible refine (rspread_v 32 m2 B _ _ (by have := HM2.out; omega) hm2 HB.out).mono ?_); rintro e w2 ⟨rfl, hO2⟩; have hN2 : Only (fun _ => False) (tokA wr x) w2 := hN1.trans hO2; obtain ⟨b0, b1, b2, b3, b4, b5, b6⟩ := tokA_tc' hN2)) | (go_at_call 33; ((with_reducible refine (HTX.out _).mono ?_); rintro e w3 ⟨rfl, hO3⟩; have hN3 : Only (fun _ => False) (tokA wr x) w3 := hN2.trans hO3; obtain ⟨d0, d1, d2, d3, d4, d5, d6⟩ := tokA_tc' hN3)) | (go_at_call 33; ((with_reducible refine (HTX.out _).mono ?_); rintro e w4 ⟨rfl, hO4⟩; have hN4 : Only (fun _ => False) (tokA wr x) w4 := hN3.trans hO4))))
              go_roundw
              case rel => exact ⟨k + 1, ⟨s.out ++ rp 10 m1 ++ rp 32 m2 ++ X.data.toList, s.line + (m1 : Int), x.col + (X.size : Int), false⟩, S ++ A ++ B ++ X, by omega, rfl, by rw [HM1.out], by go_num, by go_num, HD, by simp only [ByteArray.size_append]; omega, Lib.hid (HTS.out ▸ HFT.out), Lib.hid (by simp), Lib.hid (HRI.out.next hka HX.out HSL.out HTS.out), (hO.trans (tokA_only wr x)).trans hN4⟩
              case measure => simp [intOf]; omega
            · obtain ⟨m1, hm1e⟩ : ∃ m1 : Nat, min (x.line - s.line) 200 = (m1 : Int) := ⟨(min (x.line - s.line) 200).toNat, by omega⟩
              have hm1 : m1 ≤ 1000000 := by omega
              have hm1b : (m1 : Int) ≤ 200 := by omega
              obtain ⟨A, hA⟩ : ∃ A : ByteArray, (⟨(rp 10 m1).toArray⟩ : ByteArray) = A := ⟨_, rfl⟩
              have hAz : A.size = m1 := by rw [← hA, Lib.size_eq]; exact rp_len 10 m1
              have HTS : Hid (tokS s x = ⟨s.out ++ rp 10 m1 ++ X.data.toList, s.line + (m1 : Int), 1 + (X.size : Int), false⟩) := Lib.hid (by
                have h1 : feedS s x.line = ⟨s.out ++ rp 10 m1, s.line + (m1 : Int), 1, true⟩ := by unfold feedS; rw [if_pos hl, hm1e, Int.toNat_natCast]
                have h2 : colS ⟨s.out ++ rp 10 m1, s.line + (m1 : Int), 1, true⟩ x.col = ⟨s.out ++ rp 10 m1, s.line + (m1 : Int), 1, true⟩ := by
                  unfold colS
                  try dsimp only
                  rw [if_neg (by omega)]
                  rw [if_pos rfl]
                unfold tokS
                rw [h1, h2]
                simp only
                rw [hXe])
              have HD : Hid ((S ++ A ++ X).data.toList = s.out ++ rp 10 m1 ++ X.data.toList) := Lib.hid (by rw [app_data, app_data, HS.out, ← hA])
              have HM1 := Lib.hid hm1e
              have HA := Lib.hid hA
              clear hXe hm1e hA
              go_wp2_with (go_loud (first | (go_at_call 32; ((with_reducible refine (rspread_v 10 m1 A _ _ (by have := HM1.out; omega) hm1 HA.out).mono ?_); rintro e w1 ⟨rfl, hO1⟩; have hN1 : Only (fun _ => False) (tokA wr x) w1 := hO1; obtain ⟨a0, a1, a2, a3, a4, a5, a6⟩ := tokA_tc' hN1)) | (go_at_call 33; ((with_reducible refine (HTX.out _).mono ?_); rintro e w3 ⟨rfl, hO3⟩; have hN3 : Only (fun _ => False) (tokA wr x) w3 := hN1.trans hO3; obtain ⟨d0, d1, d2, d3, d4, d5, d6⟩ := tokA_tc' hN3)) | (go_at_call 33; ((with_reducible refine (HTX.out _).mono ?_); rintro e w4 ⟨rfl, hO4⟩; have hN4 : Only (fun _ => False) (tokA wr x) w4 := hN3.trans hO4))))
              go_roundw
              case rel => exact ⟨k + 1, ⟨s.out ++ rp 10 m1 ++ X.data.toList, s.line + (m1 : Int), 1 + (X.size : Int), false⟩, S ++ A ++ X, by omega, rfl, by rw [HM1.out], by go_num, by go_num, HD, by simp only [ByteArray.size_append]; omega, Lib.hid (HTS.out ▸ HFT.out), Lib.hid (by simp), Lib.hid (HRI.out.next hka HX.out HSL.out HTS.out), (hO.trans (tokA_only wr x)).trans hN4⟩
              case measure => simp [intOf]; omega
            · obtain ⟨m1, hm1e⟩ : ∃ m1 : Nat, min (x.line - s.line) 200 = (m1 : Int) := ⟨(min (x.line - s.line) 200).toNat, by omega⟩
              have hm1 : m1 ≤ 1000000 := by omega
              have hm1b : (m1 : Int) ≤ 200 := by omega
              obtain ⟨A, hA⟩ : ∃ A : ByteArray, (⟨(rp 10 m1).toArray⟩ : ByteArray) = A := ⟨_, rfl⟩
              have hAz : A.size = m1 := by rw [← hA, Lib.size_eq]; exact rp_len 10 m1
              have HTS : Hid (tokS s x = ⟨s.out ++ rp 10 m1 ++ X.data.toList, s.line + (m1 : Int), 1 + (X.size : Int), false⟩) := Lib.hid (by
                have h1 : feedS s x.line = ⟨s.out ++ rp 10 m1, s.line + (m1 : Int), 1, true⟩ := by unfold feedS; rw [if_pos hl, hm1e, Int.toNat_natCast]
                have h2 : colS ⟨s.out ++ rp 10 m1, s.line + (m1 : Int), 1, true⟩ x.col = ⟨s.out ++ rp 10 m1, s.line + (m1 : Int), 1, true⟩ := by
                  unfold colS
                  try dsimp only
                  rw [if_neg (by omega)]
                  rw [if_pos rfl]
                unfold tokS
                rw [h1, h2]
                simp only
                rw [hXe])
              have HD : Hid ((S ++ A ++ X).data.toList = s.out ++ rp 10 m1 ++ X.data.toList) := Lib.hid (by rw [app_data, app_data, HS.out, ← hA])
              have HM1 := Lib.hid hm1e
              have HA := Lib.hid hA
              clear hXe hm1e hA
              go_wp2_with (go_loud (first | (go_at_call 32; ((with_reducible refine (rspread_v 10 m1 A _ _ (by have := HM1.out; omega) hm1 HA.out).mono ?_); rintro e w1 ⟨rfl, hO1⟩; have hN1 : Only (fun _ => False) (tokA wr x) w1 := hO1; obtain ⟨a0, a1, a2, a3, a4, a5, a6⟩ := tokA_tc' hN1)) | (go_at_call 33; ((with_reducible refine (HTX.out _).mono ?_); rintro e w3 ⟨rfl, hO3⟩; have hN3 : Only (fun _ => False) (tokA wr x) w3 := hN1.trans hO3; obtain ⟨d0, d1, d2, d3, d4, d5, d6⟩ := tokA_tc' hN3)) | (go_at_call 33; ((with_reducible refine (HTX.out _).mono ?_); rintro e w4 ⟨rfl, hO4⟩; have hN4 : Only (fun _ => False) (tokA wr x) w4 := hN3.trans hO4))))
              go_roundw
              case rel => exact ⟨k + 1, ⟨s.out ++ rp 10 m1 ++ X.data.toList, s.line + (m1 : Int), 1 + (X.size : Int), false⟩, S ++ A ++ X, by omega, rfl, by rw [HM1.out], by go_num, by go_num, HD, by simp only [ByteArray.size_append]; omega, Lib.hid (HTS.out ▸ HFT.out), Lib.hid (by simp), Lib.hid (HRI.out.next hka HX.out HSL.out HTS.out), (hO.trans (tokA_only wr x)).trans hN4⟩
              case measure => simp [intOf]; omega
            · obtain ⟨m2, hm2e⟩ : ∃ m2 : Nat, x.col - s.col = (m2 : Int) := ⟨(x.col - s.col).toNat, by omega⟩
              have hm2 : m2 ≤ 1000000 := by omega
              have hm2b : (m2 : Int) ≤ 1000 := by omega
              obtain ⟨B, hB⟩ : ∃ B : ByteArray, (⟨(rp 32 m2).toArray⟩ : ByteArray) = B := ⟨_, rfl⟩
              have hBz : B.size = m2 := by rw [← hB, Lib.size_eq]; exact rp_len 32 m2
              have HTS : Hid (tokS s x = ⟨s.out ++ rp 32 m2 ++ X.data.toList, s.line, x.col + (X.size : Int), false⟩) := Lib.hid (by
                have h1 : feedS s x.line = s := by unfold feedS; rw [if_neg (by omega)]
                have h2 : colS s x.col = ⟨s.out ++ rp 32 m2, s.line, x.col, s.first⟩ := by
                  unfold colS
                  try dsimp only
                  rw [if_pos ⟨hc1, hc2⟩]
                  try dsimp only
                  rw [hm2e, Int.toNat_natCast]
                  congr 1; omega
                unfold tokS
                rw [h1, h2]
                simp only
                rw [hXe])
              have HD : Hid ((S ++ B ++ X).data.toList = s.out ++ rp 32 m2 ++ X.data.toList) := Lib.hid (by rw [app_data, app_data, HS.out, ← hB])
              have HM2 := Lib.hid hm2e
              have HB := Lib.hid hB
              clear hXe hm2e hB
              go_wp2_with (go_loud (first | (go_at_call 32; ((with_reducible refine (rspread_v 32 m2 B _ _ (by have := HM2.out; omega) hm2 HB.out).mono ?_); rintro e w2 ⟨rfl, hO2⟩; have hN2 : Only (fun _ => False) (tokA wr x) w2 := hO2; obtain ⟨b0, b1, b2, b3, b4, b5, b6⟩ := tokA_tc' hN2)) | (go_at_call 33; ((with_reducible refine (HTX.out _).mono ?_); rintro e w3 ⟨rfl, hO3⟩; have hN3 : Only (fun _ => False) (tokA wr x) w3 := hN2.trans hO3; obtain ⟨d0, d1, d2, d3, d4, d5, d6⟩ := tokA_tc' hN3)) | (go_at_call 33; ((with_reducible refine (HTX.out _).mono ?_); rintro e w4 ⟨rfl, hO4⟩; have hN4 : Only (fun _ => False) (tokA wr x) w4 := hN3.trans hO4))))
              go_roundw
              case rel => exact ⟨k + 1, ⟨s.out ++ rp 32 m2 ++ X.data.toList, s.line, x.col + (X.size : Int), false⟩, S ++ B ++ X, by omega, rfl, rfl, by go_num, by go_num, HD, by simp only [ByteArray.size_append]; omega, Lib.hid (HTS.out ▸ HFT.out), Lib.hid (by simp), Lib.hid (HRI.out.next hka HX.out HSL.out HTS.out), (hO.trans (tokA_only wr x)).trans hN4⟩
              case measure => simp [intOf]; omega
            · have HTS : Hid (tokS s x = ⟨s.out ++ X.data.toList, s.line, s.col + (X.size : Int), false⟩) := Lib.hid (by
                have h1 : feedS s x.line = s := by unfold feedS; rw [if_neg (by omega)]
                have h2 : colS s x.col = ⟨s.out, s.line, s.col, s.first⟩ := by
                  unfold colS
                  try dsimp only
                  rw [if_neg (by omega)]
                  rw [if_pos hfi]
                unfold tokS
                rw [h1, h2]
                simp only
                rw [hXe])
              have HD : Hid ((S ++ X).data.toList = s.out ++ X.data.toList) := Lib.hid (by rw [app_data, HS.out])
              clear hXe hfi
              go_wp2_with (go_loud (first | (go_at_call 33; ((with_reducible refine (HTX.out _).mono ?_); rintro e w3 ⟨rfl, hO3⟩; have hN3 : Only (fun _ => False) (tokA wr x) w3 := hO3; obtain ⟨d0, d1, d2, d3, d4, d5, d6⟩ := tokA_tc' hN3)) | (go_at_call 33; ((with_reducible refine (HTX.out _).mono ?_); rintro e w4 ⟨rfl, hO4⟩; have hN4 : Only (fun _ => False) (tokA wr x) w4 := hN3.trans hO4))))
              go_roundw
              case rel => exact ⟨k + 1, ⟨s.out ++ X.data.toList, s.line, s.col + (X.size : Int), false⟩, S ++ X, by omega, rfl, rfl, by go_num, by go_num, HD, by simp only [ByteArray.size_append]; omega, Lib.hid (HTS.out ▸ HFT.out), Lib.hid (by simp), Lib.hid (HRI.out.next hka HX.out HSL.out HTS.out), (hO.trans (tokA_only wr x)).trans hN4⟩
              case measure => simp [intOf]; omega
            · have HTS : Hid (tokS s x = ⟨s.out ++ X.data.toList, s.line, s.col + (X.size : Int), false⟩) := Lib.hid (by
                have h1 : feedS s x.line = s := by unfold feedS; rw [if_neg (by omega)]
                have h2 : colS s x.col = ⟨s.out, s.line, s.col, s.first⟩ := by
                  unfold colS
                  try dsimp only
                  rw [if_neg (by omega)]
                  rw [if_pos hfi]
                unfold tokS
                rw [h1, h2]
                simp only
                rw [hXe])
              have HD : Hid ((S ++ X).data.toList = s.out ++ X.data.toList) := Lib.hid (by rw [app_data, HS.out])
              clear hXe hfi
              go_wp2_with (go_loud (first | (go_at_call 33; ((with_reducible refine (HTX.out _).mono ?_); rintro e w3 ⟨rfl, hO3⟩; have hN3 : Only (fun _ => False) (tokA wr x) w3 := hO3; obtain ⟨d0, d1, d2, d3, d4, d5, d6⟩ := tokA_tc' hN3)) | (go_at_call 33; ((with_reducible refine (HTX.out _).mono ?_); rintro e w4 ⟨rfl, hO4⟩; have hN4 : Only (fun _ => False) (tokA wr x) w4 := hN3.trans hO4))))
              go_roundw
              case rel => exact ⟨k + 1, ⟨s.out ++ X.data.toList, s.line, s.col + (X.size : Int), false⟩, S ++ X, by omega, rfl, rfl, by go_num, by go_num, HD, by simp only [ByteArray.size_append]; omega, Lib.hid (HTS.out ▸ HFT.out), Lib.hid (by simp), Lib.hid (HRI.out.next hka HX.out HSL.out HTS.out), (hO.trans (tokA_only wr x)).trans hN4⟩
              case measure => simp [intOf]; omega
            · have HTS : Hid (tokS s x = ⟨s.out ++ [32] ++ X.data.toList, s.line, s.col + 1 + (X.size : Int), false⟩) := Lib.hid (by
                have h1 : feedS s x.line = s := by unfold feedS; rw [if_neg (by omega)]
                have h2 : colS s x.col = ⟨s.out ++ [32], s.line, s.col + 1, s.first⟩ := by
                  unfold colS
                  try dsimp only
                  rw [if_neg (by omega), if_neg (by rw [hfi]; decide)]
                unfold tokS
                rw [h1, h2]
                simp only
                rw [hXe])
              have HD : Hid ((S ++ ⟨#[32]⟩ ++ X).data.toList = s.out ++ [32] ++ X.data.toList) := Lib.hid (by rw [app_data, app_data, HS.out])
              clear hXe hfi
              go_wp2_with (go_loud (first | (go_at_call 33; ((with_reducible refine (HTX.out _).mono ?_); rintro e w3 ⟨rfl, hO3⟩; have hN3 : Only (fun _ => False) (tokA wr x) w3 := hO3; obtain ⟨d0, d1, d2, d3, d4, d5, d6⟩ := tokA_tc' hN3)) | (go_at_call 33; ((with_reducible refine (HTX.out _).mono ?_); rintro e w4 ⟨rfl, hO4⟩; have hN4 : Only (fun _ => False) (tokA wr x) w4 := hN3.trans hO4))))
              go_roundw
              case rel => exact ⟨k + 1, ⟨s.out ++ [32] ++ X.data.toList, s.line, s.col + 1 + (X.size : Int), false⟩, S ++ ⟨#[32]⟩ ++ X, by omega, rfl, rfl, by go_num, by go_num, HD, by simp only [ByteArray.size_append]; have h32 : (⟨#[32]⟩ : ByteArray).size = 1 := rfl; rw [h32]; omega, Lib.hid (HTS.out ▸ HFT.out), Lib.hid (by simp), Lib.hid (HRI.out.next hka HX.out HSL.out HTS.out), (hO.trans (tokA_only wr x)).trans hN4⟩
              case measure => simp [intOf]; omega
            · have HTS : Hid (tokS s x = ⟨s.out ++ [32] ++ X.data.toList, s.line, s.col + 1 + (X.size : Int), false⟩) := Lib.hid (by
                have h1 : feedS s x.line = s := by unfold feedS; rw [if_neg (by omega)]
                have h2 : colS s x.col = ⟨s.out ++ [32], s.line, s.col + 1, s.first⟩ := by
                  unfold colS
                  try dsimp only
                  rw [if_neg (by omega), if_neg (by rw [hfi]; decide)]
                unfold tokS
                rw [h1, h2]
                simp only
                rw [hXe])
              have HD : Hid ((S ++ ⟨#[32]⟩ ++ X).data.toList = s.out ++ [32] ++ X.data.toList) := Lib.hid (by rw [app_data, app_data, HS.out])
              clear hXe hfi
              go_wp2_with (go_loud (first | (go_at_call 33; ((with_reducible refine (HTX.out _).mono ?_); rintro e w3 ⟨rfl, hO3⟩; have hN3 : Only (fun _ => False) (tokA wr x) w3 := hO3; obtain ⟨d0, d1, d2, d3, d4, d5, d6⟩ := tokA_tc' hN3)) | (go_at_call 33; ((with_reducible refine (HTX.out _).mono ?_); rintro e w4 ⟨rfl, hO4⟩; have hN4 : Only (fun _ => False) (tokA wr x) w4 := hN3.trans hO4))))
              go_roundw
              case rel => exact ⟨k + 1, ⟨s.out ++ [32] ++ X.data.toList, s.line, s.col + 1 + (X.size : Int), false⟩, S ++ ⟨#[32]⟩ ++ X, by omega, rfl, rfl, by go_num, by go_num, HD, by simp only [ByteArray.size_append]; have h32 : (⟨#[32]⟩ : ByteArray).size = 1 := rfl; rw [h32]; omega, Lib.hid (HTS.out ▸ HFT.out), Lib.hid (by simp), Lib.hid (HRI.out.next hka HX.out HSL.out HTS.out), (hO.trans (tokA_only wr x)).trans hN4⟩
              case measure => simp [intOf]; omega
          · have HRN : Hid (R = (⟨#[]⟩, 3)) := Lib.hid (by rw [← HR.out]; exact renR_none HAL.out HLZ.out (HRI.out.1 (by rw [← HSE.out]; omega)))
            have hsz1 : decide ((S.size : Int) ≤ 65536) = false := by simp; omega
            have hsz2 : decide (65536 < (S.size : Int)) = true := by simp; omega
            go_wp2
            exact bodyPost_ret (v := .tuple #[.string ⟨#[]⟩, .int .i64 3]) (by simp [results, Tryz.results16, go_sem]) rfl ⟨by rw [HRN.out], hO⟩
        · by_cases hsz : S.size ≤ 65536
          · have HRN : Hid (R = (S, 0)) := Lib.hid (by
              have h := HRI.out.2 (by rw [← HSE.out]; exact hsz)
              rw [List.drop_of_length_le (by rw [HL.out]; omega)] at h
              rw [← HR.out, renR_some HAL.out HLZ.out h, ← HS.out, mk_self])
            have hsz2 : decide (65536 < (S.size : Int)) = false := by simp; omega
            have hsz3 : decide (16384 < (n : Int)) = false := by simp; omega
            go_wp2
            exact bodyPost_ret (v := .tuple #[.string S, .int .i64 0]) (by simp [results, Tryz.results16, go_sem]) rfl ⟨by rw [HRN.out], hO⟩
          · have HRN : Hid (R = (⟨#[]⟩, 3)) := Lib.hid (by rw [← HR.out]; exact renR_none HAL.out HLZ.out (HRI.out.1 (by rw [← HSE.out]; omega)))
            have hsz2 : decide (65536 < (S.size : Int)) = true := by simp; omega
            go_wp2
            exact bodyPost_ret (v := .tuple #[.string ⟨#[]⟩, .int .i64 3]) (by simp [results, Tryz.results16, go_sem]) rfl ⟨by rw [HRN.out], hO⟩
/-- The reference's Render, at every list. -/
theorem rRender_p (W w : World) (hq : Q W w) (oa : Option Addr) (n ca : Nat) (ts : List Tok) (hn : n ≤ 1000) (hts : Tks w oa n ts) (hok : ∀ t ∈ ts, TokOk t) :
    Calls Tryz.prog 16 #[.slice oa n ca] w fun e w' => e = .returned (.tuple #[.string (renR ts).1, .int .i64 (renR ts).2]) ∧ Only (fun _ => False) w w' := by
  cases ha : ts.all prT
  · have e : renR ts = (⟨#[]⟩, 1) := by unfold renR; rw [ha]; rfl
    rw [e]
    exact rRender_no W w hq oa n ca ts hn hts hok ha
  · exact rRender_yes W w hq oa n ca ts hn hts hok ha
end Go.Proofs.YtelichlplblboaaGreatDoor
