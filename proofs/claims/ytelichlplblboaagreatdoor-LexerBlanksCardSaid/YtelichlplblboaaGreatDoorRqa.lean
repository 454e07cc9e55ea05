/-
  WALKS. The reference: escaped, Quote, QuoteChar, decimal, spread.
  WALKS. The reference: Quote, QuoteChar, decimal, spread, in, special.
  WALKS. The reference: Text; Printable.
-/
import Derived.Test.YtelichlplblboaaGreatDoorQu
import Derived.Test.YtelichlplblboaaGreatDoorNmb
import Derived.Test.YtelichlplblboaaGreatDoorWn
import Derived.Test.YtelichlplblboaaGreatDoorRf
namespace Go.Proofs.YtelichlplblboaaGreatDoor
open Go.RowKit Go.Maps
theorem str_of {S : ByteArray} {l : List UInt8} (h : S.data.toList = l) : (Value.string S) = .string ⟨l.toArray⟩ := by
  rw [← h]
theorem hex_ext : ∀ d : _root_.Fin 16, hexBA.extract d.val (d.val + 1) = ⟨#[hxD d.val]⟩ := by decide +kernel
set_option maxHeartbeats 2000000 in
set_option maxRecDepth 100000 in
theorem rescaped_p (c q : UInt8) (w : World) :
    Calls Tryz.prog 36 #[.int .u8 (c.toNat : Int), .int .u8 (q.toNat : Int)] w fun e w' => e = .returned (.string ⟨(esc1 q c).toArray⟩) ∧ Only (fun _ => False) w w' := by
  obtain ⟨y, hy⟩ : ∃ y, (c.toNat : Int) = y := ⟨_, rfl⟩
  obtain ⟨Q, hQ⟩ : ∃ Q, (q.toNat : Int) = Q := ⟨_, rfl⟩
  have hyb : 0 ≤ y ∧ y ≤ 255 := by have := c.toNat_lt; omega
  have hye : y.toNat.toUInt8 = c := by rw [← hy]; simp
  have hQE : Q.toNat.toUInt8 = q := by rw [← hQ]; simp
  rw [hy, hQ]
  have HYE := Lib.hid hye
  have HQE := Lib.hid hQE
  have HY := Lib.hid hy
  have HQ := Lib.hid hQ
  clear hye hy hQE hQ
  by_cases h10 : c = 10
  · have hy10 : y = 10 := by rw [← HY.out, h10]; rfl
    have HE : Hid (esc1 q c = [92, 110]) := Lib.hid (by unfold esc1; rw [if_pos h10])
    have e10 : (y == 10) = true := by simp [hy10]
    clear h10 hy10
    go_enter Tryz.func36, Tryz.ntmps36
    go_wp2
    go_ret
    exact ⟨by rw [HE.out]; rfl, Only.refl _ _⟩
  by_cases h9 : c = 9
  · have hy9 : y = 9 := by rw [← HY.out, h9]; rfl
    have HE : Hid (esc1 q c = [92, 116]) := Lib.hid (by unfold esc1; rw [if_neg h10, if_pos h9])
    have e10 : (y == 10) = false := by simp [hy9]
    have e9 : (y == 9) = true := by simp [hy9]
    clear h10 h9 hy9
    go_enter Tryz.func36, Tryz.ntmps36
    go_wp2
    go_ret
    exact ⟨by rw [HE.out]; rfl, Only.refl _ _⟩
  have e10 : (y == 10) = false := by simp; intro h; apply h10; rw [← HYE.out, h]; rfl
  have e9 : (y == 9) = false := by simp; intro h; apply h9; rw [← HYE.out, h]; rfl
  have hcv := conv_bytes (row_one w y hyb.1 hyb.2)
  have HCV : Hid ((⟨[y.toNat.toUInt8].toArray⟩ : ByteArray) = ⟨#[c]⟩) := Lib.hid (by rw [HYE.out])
  rw [HCV.out] at hcv
  by_cases hbq : c = 92 ∨ c = q
  · have HE : Hid (esc1 q c = [92, c]) := Lib.hid (by unfold esc1; rw [if_neg h10, if_neg h9, if_pos hbq])
    have e92 : (y == 92) = true ∨ ((y == 92) = false ∧ (y == Q) = true) := by
      by_cases e : y = 92
      · exact .inl (by simp [e])
      · refine .inr ⟨by simp [e], ?_⟩
        rcases hbq with h | h
        · exact absurd (by rw [← HY.out, h]; rfl) e
        · simp; rw [← HY.out, h]; exact HQ.out
    clear hbq h10 h9
    rcases e92 with e92 | ⟨e92, eq⟩
    all_goals
      go_enter Tryz.func36, Tryz.ntmps36
      go_wp2
      go_ret
      exact ⟨by rw [HE.out]; rfl, Only.of_below ((Below.refl _ _).alloc (Nat.le_refl _) _)⟩
  have e92 : (y == 92) = false := by simp; intro h; apply hbq; left; rw [← HYE.out, h]; rfl
  have eq : (y == Q) = false := by simp; intro h; apply hbq; right; rw [← HYE.out, h]; exact HQE.out
  cases hpr : prn y
  · have HE : Hid (esc1 q c = [92, 120, hxD (c.toNat / 16), hxD (c.toNat % 16)]) := Lib.hid (by unfold esc1; rw [if_neg h10, if_neg h9, if_neg hbq, HY.out, hpr]; rfl)
    have hr : y < 32 ∨ (32 ≤ y ∧ 126 < y) := by unfold prn at hpr; simp at hpr; omega
    obtain ⟨d1, hd1⟩ : ∃ d : Nat, d = c.toNat / 16 := ⟨_, rfl⟩
    obtain ⟨d2, hd2⟩ : ∃ d : Nat, d = c.toNat % 16 := ⟨_, rfl⟩
    have hcl := c.toNat_lt
    have h1 : d1 < 16 := by omega
    have h2 : d2 < 16 := by omega
    have q1 : y / 16 = (d1 : Int) := by rw [hd1]; have := HY.out; omega
    have q2 : y % 16 = (d2 : Int) := by rw [hd2]; have := HY.out; omega
    have x1 : hexBA.extract d1 (d1 + 1) = ⟨#[hxD d1]⟩ := hex_ext ⟨d1, h1⟩
    have x2 : hexBA.extract d2 (d2 + 1) = ⟨#[hxD d2]⟩ := hex_ext ⟨d2, h2⟩
    have HE2 : Hid (esc1 q c = [92, 120, hxD d1, hxD d2]) := Lib.hid (by rw [HE.out, ← hd1, ← hd2])
    clear hd1 hd2 hcl HE h10 h9 hbq hpr hcv
    rcases hr with hr | ⟨hr, hr2⟩
    all_goals
      go_enter Tryz.func36, Tryz.ntmps36
      go_wp2
      go_region
      all_goals
        go_wp2
        go_ret
        exact ⟨by rw [HE2.out]; rfl, Only.of_below (Below.refl _ _).drew⟩
  · have HE : Hid (esc1 q c = [c]) := Lib.hid (by unfold esc1; rw [if_neg h10, if_neg h9, if_neg hbq, HY.out, hpr]; rfl)
    have hr : 32 ≤ y ∧ y ≤ 126 := by unfold prn at hpr; simp at hpr; exact hpr
    obtain ⟨hr1, hr2⟩ := hr
    clear h10 h9 hbq hpr
    go_enter Tryz.func36, Tryz.ntmps36
    go_wp2
    go_ret
    exact ⟨by rw [HE.out]; rfl, Only.of_below ((Below.refl _ _).alloc (Nat.le_refl _) _)⟩
end Go.Proofs.YtelichlplblboaaGreatDoor
namespace Go.Proofs.YtelichlplblboaaGreatDoor
open Go.RowKit Go.Maps
theorem resc_v (c q : UInt8) (y Q : Int) (E : ByteArray) (w : World) (hy : (c.toNat : Int) = y) (hQ : (q.toNat : Int) = Q) (hE : (⟨(esc1 q c).toArray⟩ : ByteArray) = E) :
    Calls Tryz.prog 36 #[.int .u8 y, .int .u8 Q] w fun e w' => e = .returned (.string E) ∧ Only (fun _ => False) w w' := by
  subst hy hQ hE; exact rescaped_p c q w
set_option maxHeartbeats 2000000 in
set_option maxRecDepth 100000 in
theorem rQuote_p (s : ByteArray) (w : World) (hs : s.size ≤ 100000) :
    Calls Tryz.prog 21 #[.string s] w fun e w' => e = .returned (.string ⟨(qtL 34 s.data.toList).toArray⟩) ∧ Only (fun _ => False) w w' := by
  go_enter Tryz.func21, Tryz.ntmps21
  go_wp2
  go_loopw [3, 4] (fun o i wr => ∃ (k : Nat) (S : ByteArray), k ≤ s.size ∧ o = .string S ∧ i = .int .i64 k ∧ Hid (S.data.toList = qtB 34 (s.data.toList.take k)) ∧ S.size ≤ 4 * k + 1 ∧ Only (fun _ => False) w wr) (fun _ i _ => s.size - (intOf i).toNat)
  case atStart => exact ⟨0, ⟨#[34]⟩, by omega, rfl, rfl, Lib.hid rfl, by show 1 ≤ _; omega, Only.refl _ _⟩
  case round =>
    obtain ⟨k, S, hk, rfl, rfl, HS, hz, hO⟩ := hrel
    by_cases hlt : k < s.size
    · obtain ⟨c, hc⟩ : ∃ c, s[k] = c := ⟨_, rfl⟩
      obtain ⟨y, hy⟩ : ∃ y, (c.toNat : Int) = y := ⟨_, rfl⟩
      have hSy : (((s[k]'hlt).toNat : Nat) : Int) = y := by rw [hc]; exact hy
      obtain ⟨E, hE⟩ : ∃ E : ByteArray, (⟨(esc1 34 c).toArray⟩ : ByteArray) = E := ⟨_, rfl⟩
      have hEz : E.size ≤ 4 := by rw [← hE, Lib.size_eq]; exact esc1_len 34 c
      have HT : Hid ((S ++ E).data.toList = qtB 34 (s.data.toList.take (k + 1))) := Lib.hid (by rw [take_snoc s k hlt, hc, qtB_snoc, app_data, HS.out, ← hE])
      have HE := Lib.hid hE
      have HY := Lib.hid hy
      clear hE hy hc
      go_wp2_with (go_loud (first | (go_at_call 36; ((with_reducible refine (resc_v c 34 y 34 E _ HY.out rfl HE.out).mono ?_); rintro e w1 ⟨rfl, hO1⟩))))
      go_roundw
      case rel => exact ⟨k + 1, S ++ E, by omega, rfl, by go_num, HT, by rw [ByteArray.size_append]; omega, hO.trans hO1⟩
      case measure => simp [intOf]; omega
    · have HT : Hid ((S ++ ⟨#[34]⟩).data.toList = qtL 34 s.data.toList) := Lib.hid (by rw [app_data, HS.out, take_end (by omega)]; rfl)
      go_wp2
      go_ret
      exact ⟨by rw [← str_of HT.out]; rfl, hO⟩
theorem char_end (c : UInt8) (E : ByteArray) (hE : (⟨(esc1 39 c).toArray⟩ : ByteArray) = E) : (⟨#[39]⟩ ++ E ++ ⟨#[39]⟩ : ByteArray).data.toList = qtL 39 [c] := by
  rw [app_data, app_data, ← hE]
  unfold qtL qtB
  simp
set_option maxHeartbeats 1000000 in
set_option maxRecDepth 100000 in
theorem rQuoteChar_p (n : Int) (w : World) :
    Calls Tryz.prog 22 #[.int .i64 n] w fun e w' => e = .returned (.string (qcB n)) ∧ Only (fun _ => False) w w' := by
  by_cases h : 0 ≤ n ∧ n ≤ 255
  · obtain ⟨E, hE⟩ : ∃ E : ByteArray, (⟨(esc1 39 n.toNat.toUInt8).toArray⟩ : ByteArray) = E := ⟨_, rfl⟩
    have hEz : E.size ≤ 4 := by rw [← hE, Lib.size_eq]; exact esc1_len 39 _
    have HQ : Hid (Value.string (qcB n) = .string (⟨#[39]⟩ ++ E ++ ⟨#[39]⟩)) := Lib.hid (by unfold qcB; rw [if_pos h, str_of (char_end _ E hE)])
    have hnn : ((n.toNat.toUInt8.toNat : Nat) : Int) = n := by
      have : n.toNat.toUInt8.toNat = n.toNat % 256 := by simp [Nat.toUInt8]
      omega
    have HN := Lib.hid hnn
    have HE := Lib.hid hE
    clear hnn hE
    obtain ⟨h0, h1⟩ := h
    go_enter Tryz.func22, Tryz.ntmps22
    go_wp2_with (go_loud (first | (go_at_call 36; ((with_reducible refine (resc_v n.toNat.toUInt8 39 n 39 E _ HN.out rfl HE.out).mono ?_); rintro e w1 ⟨rfl, hO1⟩))))
    go_ret
    exact ⟨by rw [HQ.out]; rfl, hO1⟩
  · have HQ : Hid (qcB n = ⟨#[]⟩) := Lib.hid (by unfold qcB; rw [if_neg h])
    have hc : n < 0 ∨ (0 ≤ n ∧ 255 < n) := by omega
    clear h
    rcases hc with h | ⟨h, h2⟩
    all_goals
      go_enter Tryz.func22, Tryz.ntmps22
      go_wp2
      go_ret
      exact ⟨by rw [HQ.out]; rfl, Only.refl _ _⟩
theorem rp_succ (c : UInt8) (k : Nat) : rp c (k + 1) = rp c k ++ [c] := by unfold rp; rw [Lib.repeatL_add, Lib.repeatL_one]
set_option maxHeartbeats 1000000 in
set_option maxRecDepth 100000 in
theorem rspread_p (c : UInt8) (n : Nat) (w : World) (hn : n ≤ 1000000) :
    Calls Tryz.prog 32 #[.string ⟨#[c]⟩, .int .i64 n] w fun e w' => e = .returned (.string ⟨(rp c n).toArray⟩) ∧ Only (fun _ => False) w w' := by
  obtain ⟨T, hT⟩ : ∃ T : ByteArray, (⟨#[c]⟩ : ByteArray) = T := ⟨_, rfl⟩
  have hTz : T.size = 1 := by rw [← hT]; rfl
  have HT := Lib.hid hT
  rw [hT]
  clear hT
  go_enter Tryz.func32, Tryz.ntmps32
  go_wp2
  go_loopw [5, 6] (fun o i wr => ∃ (k : Nat) (S : ByteArray), k ≤ n ∧ o = .string S ∧ i = .int .i64 k ∧ Hid (S.data.toList = rp c k) ∧ S.size = k ∧ Only (fun _ => False) w wr) (fun _ i _ => n - (intOf i).toNat)
  case atStart => exact ⟨0, ⟨#[]⟩, by omega, rfl, rfl, Lib.hid rfl, rfl, Only.refl _ _⟩
  case round =>
    obtain ⟨k, S, hk, rfl, rfl, HS, hz, hO⟩ := hrel
    by_cases hlt : k < n
    · have HR : Hid ((S ++ T).data.toList = rp c (k + 1)) := Lib.hid (by rw [app_data, HS.out, rp_succ, ← HT.out])
      go_wp2
      go_roundw
      case rel => exact ⟨k + 1, S ++ T, by omega, rfl, by go_num, HR, by rw [ByteArray.size_append]; omega, hO⟩
      case measure => simp [intOf]; omega
    · have e : k = n := by omega
      have HR : Hid (S.data.toList = rp c n) := Lib.hid (by rw [HS.out, e])
      clear e
      go_wp2
      go_ret
      exact ⟨by rw [← str_of HR.out]; rfl, hO⟩
/-- Does the byte occur? -/
def anyB (s : ByteArray) (c : Int) : Bool := s.data.toList.any (fun d => ((d.toNat : Int) == c))
set_option maxHeartbeats 1000000 in
theorem rin_any (c : Int) (s : ByteArray) (w : World) (hs : s.size ≤ 1000000) :
    Calls Tryz.prog 97 #[.int .u8 c, .string s] w fun e w' => e = .returned (.bool (anyB s c)) ∧ w = w' := by
  go_enter Tryz.func97, Tryz.ntmps97
  go_wp2
  go_loop [5] (fun i => ∃ k : Nat, k ≤ s.size ∧ i = .int .i64 k ∧ Hid ((s.data.toList.take k).any (fun d => ((d.toNat : Int) == c)) = false)) (fun i => s.size - (intOf i).toNat)
  case atStart => exact ⟨0, by omega, rfl, Lib.hid rfl⟩
  case round =>
    obtain ⟨k, hk, rfl, HN⟩ := hrel
    by_cases hlt : k < s.size
    · cases hm : ((s[k].toNat : Int) == c)
      · have HK : Hid ((s.data.toList.take (k + 1)).any (fun d => ((d.toNat : Int) == c)) = false) := Lib.hid (by rw [take_snoc s k hlt, List.any_append, HN.out]; simp [hm])
        go_wp2
        exact ⟨⟨k + 1, by omega, by go_num, HK⟩, by simp [intOf]; omega⟩
      · have HK : Hid (anyB s c = true) := Lib.hid (by rw [anyB, List.any_eq_true]; exact ⟨s[k], by rw [show s[k] = s.data.toList[k]'(by simpa using hlt) from rfl]; exact List.getElem_mem _, hm⟩)
        go_wp2
        go_ret
        exact ⟨ret_bool HK.out.symm, rfl⟩
    · have HK : Hid (anyB s c = false) := Lib.hid (by rw [anyB, ← take_end (show s.size ≤ k by omega)]; exact HN.out)
      go_wp2
      go_ret
      exact ⟨ret_bool HK.out.symm, rfl⟩
theorem spc_any (c : UInt8) : spB.any (fun d => ((d.toNat : Int) == (c.toNat : Int))) = Lib.contains spB [c] := by
  have key : ∀ c : _root_.Fin 256, spB.any (fun d => ((d.toNat : Int) == (c.val : Int))) = Lib.contains spB [c.val.toUInt8] := by decide +kernel
  have e : c.toNat.toUInt8 = c := by simp
  have := key ⟨c.toNat, c.toNat_lt⟩
  simp only [e] at this
  exact this
theorem rspecial_v (c : UInt8) (y : Int) (v : Bool) (w : World) (hy : (c.toNat : Int) = y) (hv : Lib.contains spB [c] = v) :
    Calls Tryz.prog 69 #[.int .u8 y] w fun e w' => e = .returned (.bool v) ∧ w = w' := by
  have HV : Hid (anyB ⟨#[40, 41, 91, 93, 123, 125, 44, 59, 96]⟩ y = v) := Lib.hid (by rw [← hv, ← hy]; exact spc_any c)
  go_enter Tryz.func69, Tryz.ntmps69
  go_wp2_with (first | (go_at_call 97; refine (rin_any _ _ _ (by show 9 ≤ _; omega)).mono ?_; rw [HV.out]; rintro e w' ⟨rfl, rfl⟩))
  go_ret
  exact ⟨rfl, rfl⟩
/-- decimal. -/
theorem dec_step {u : Nat} (h : ¬ u < 10) : Lib.decDigits u = Lib.decDigits (u / 10) ++ Lib.decDigits (u % 10) := by
  rw [Lib.decDigits_one (show u % 10 < 10 by omega), Lib.decDigits, dif_neg h]
theorem dec_len (u : Nat) (h : u ≤ 9223372036854775807) : (Lib.decDigits u).length ≤ 21 := by
  have := Lib.itoa_length_le (u : Int) (by omega) (by omega)
  rwa [Lib.itoa_nonneg] at this
set_option maxHeartbeats 1000000 in
set_option maxRecDepth 100000 in
theorem rdecimal_p (u : Nat) : ∀ (w : World) (n : Int), n = (u : Int) → u ≤ 9223372036854775807 →
    Calls Tryz.prog 79 #[.int .i64 n] w fun e w' => e = .returned (.string ⟨(Lib.decDigits u).toArray⟩) ∧ Only (fun _ => False) w w' := by
  induction u using Nat.strongRecOn with
  | ind u ih =>
    intro w n hn hu
    subst hn
    by_cases h : u < 10
    · have hcv := conv_bytes (row_one w (48 + (u : Int)) (by omega) (by omega))
      have HE : Hid ((⟨[(48 + (u : Int)).toNat.toUInt8].toArray⟩ : ByteArray) = ⟨(Lib.decDigits u).toArray⟩) := Lib.hid (by
        rw [Lib.decDigits_one h]
        have e : (48 + (u : Int)).toNat = 48 + u := by omega
        rw [e])
      rw [HE.out] at hcv
      clear ih
      go_enter Tryz.func79, Tryz.ntmps79
      go_wp2
      go_ret
      exact ⟨rfl, Only.of_below ((Below.refl _ _).alloc (Nat.le_refl _) _)⟩
    · obtain ⟨A, hA⟩ : ∃ A : ByteArray, (⟨(Lib.decDigits (u / 10)).toArray⟩ : ByteArray) = A := ⟨_, rfl⟩
      obtain ⟨B, hB⟩ : ∃ B : ByteArray, (⟨(Lib.decDigits (u % 10)).toArray⟩ : ByteArray) = B := ⟨_, rfl⟩
      have hAz : A.size ≤ 21 := by rw [← hA, Lib.size_eq]; exact dec_len _ (by omega)
      have hBz : B.size ≤ 21 := by rw [← hB, Lib.size_eq]; exact dec_len _ (by omega)
      have HE : Hid ((A ++ B).data.toList = Lib.decDigits u) := Lib.hid (by rw [app_data, ← hA, ← hB, dec_step h])
      have H1 : Hid (∀ (w : World) (n : Int), n = ((u / 10 : Nat) : Int) → Calls Tryz.prog 79 #[.int .i64 n] w fun e w' => e = .returned (.string A) ∧ Only (fun _ => False) w w') := Lib.hid (fun w n hn => hA ▸ ih (u / 10) (by omega) w n hn (by omega))
      have H2 : Hid (∀ (w : World) (n : Int), n = ((u % 10 : Nat) : Int) → Calls Tryz.prog 79 #[.int .i64 n] w fun e w' => e = .returned (.string B) ∧ Only (fun _ => False) w w') := Lib.hid (fun w n hn => hB ▸ ih (u % 10) (by omega) w n hn (by omega))
      clear ih hA hB
      go_enter Tryz.func79, Tryz.ntmps79
      go_wp2_with (go_loud (first | (go_at_call 79; ((with_reducible refine (H1.out _ _ (by omega)).mono ?_); rintro e w1 ⟨rfl, hO1⟩)) | (go_at_call 79; ((with_reducible refine (H2.out _ _ (by omega)).mono ?_); rintro e w2 ⟨rfl, hO2⟩))))
      go_ret
      exact ⟨by rw [← str_of HE.out]; rfl, hO1.trans hO2⟩
end Go.Proofs.YtelichlplblboaaGreatDoor
namespace Go.Proofs.YtelichlplblboaaGreatDoor
open Go.RowKit Go.Maps
set_option maxRecDepth 100000 in
set_option maxHeartbeats 2000000 in
theorem rText_plain (t : Tok) (w : World) (h5 : t.op ≠ 5) (h6 : t.op ≠ 6) (h7 : t.op ≠ 7) (hqu : t.qual.data.toList = []) :
    Calls Tryz.prog 33 #[tokV t] w fun e w' => e = .returned (.string (txB t)) ∧ Only (fun _ => False) w w' := by
  have e5 : (t.op == 5) = false := by simp [h5]
  have e6 : (t.op == 6) = false := by simp [h6]
  have e7 : (t.op == 7) = false := by simp [h7]
  have HA := tokA_only w t
  obtain ⟨e1, e2, e3⟩ := empty_facts hqu
  have HX : Hid (txB t = t.text) := Lib.hid (by unfold txB; rw [if_neg h5, if_neg h6, if_neg h7, if_pos hqu])
  clear hqu h5 h6 h7
  go_enter Tryz.func33, Tryz.ntmps33
  go_wp2_with (first | fail)
  go_ret
  exact ⟨by rw [HX.out]; rfl, HA⟩
set_option maxRecDepth 100000 in
set_option maxHeartbeats 2000000 in
theorem rText_qual (t : Tok) (w : World) (h5 : t.op ≠ 5) (h6 : t.op ≠ 6) (h7 : t.op ≠ 7) (hqu : t.qual.data.toList ≠ []) (hz1 : t.qual.size ≤ 1000000) (hz2 : t.text.size ≤ 1000000) :
    Calls Tryz.prog 33 #[tokV t] w fun e w' => e = .returned (.string (txB t)) ∧ Only (fun _ => False) w w' := by
  have e5 : (t.op == 5) = false := by simp [h5]
  have e6 : (t.op == 6) = false := by simp [h6]
  have e7 : (t.op == 7) = false := by simp [h7]
  have HA := tokA_only w t
  obtain ⟨e1, e2, e3⟩ := full_facts hqu
  have HX : Hid (txB t = t.qual ++ ⟨#[46]⟩ ++ t.text) := Lib.hid (by unfold txB; rw [if_neg h5, if_neg h6, if_neg h7, if_neg hqu])
  clear hqu h5 h6 h7
  go_enter Tryz.func33, Tryz.ntmps33
  go_wp2_with (first | fail)
  go_ret
  exact ⟨by rw [HX.out]; rfl, HA⟩
set_option maxRecDepth 100000 in
set_option maxHeartbeats 2000000 in
theorem rText_int (t : Tok) (w : World) (h5 : t.op = 5) (hn0 : 0 ≤ t.n) (hn1 : t.n ≤ 9223372036854775807) :
    Calls Tryz.prog 33 #[tokV t] w fun e w' => e = .returned (.string (txB t)) ∧ Only (fun _ => False) w w' := by
  have HA := tokA_only w t
  have e5 : (t.op == 5) = true := by simp [h5]
  obtain ⟨u, hu⟩ : ∃ u : Nat, t.n = (u : Int) := ⟨t.n.toNat, by omega⟩
  have HX : Hid (txB t = ⟨(Lib.decDigits u).toArray⟩) := Lib.hid (by unfold txB; rw [if_pos h5, hu, Lib.itoa_nonneg])
  have HU := Lib.hid hu
  have hub : u ≤ 9223372036854775807 := by omega
  clear h5 hu
  go_enter Tryz.func33, Tryz.ntmps33
  go_wp2_with (first | (go_at_call 79; refine (rdecimal_p u _ _ HU.out hub).mono ?_; rintro e w1 ⟨rfl, hO1⟩))
  go_ret
  exact ⟨by rw [HX.out]; rfl, HA.trans hO1⟩
set_option maxRecDepth 100000 in
set_option maxHeartbeats 2000000 in
theorem rText_char (t : Tok) (w : World) (h6 : t.op = 6) :
    Calls Tryz.prog 33 #[tokV t] w fun e w' => e = .returned (.string (txB t)) ∧ Only (fun _ => False) w w' := by
  have HA := tokA_only w t
  have e5 : (t.op == 5) = false := by simp [h6]
  have e6 : (t.op == 6) = true := by simp [h6]
  have HX : Hid (txB t = qcB t.n) := Lib.hid (by unfold txB; rw [if_neg (by rw [h6]; decide), if_pos h6])
  clear h6
  go_enter Tryz.func33, Tryz.ntmps33
  go_wp2_with (first | (go_at_call 22; refine (rQuoteChar_p _ _).mono ?_; rintro e w1 ⟨rfl, hb⟩))
  go_ret
  exact ⟨by rw [HX.out]; rfl, HA.trans hb⟩
set_option maxRecDepth 100000 in
set_option maxHeartbeats 2000000 in
theorem rText_str (t : Tok) (w : World) (h7 : t.op = 7) (hz : t.text.size ≤ 100000) :
    Calls Tryz.prog 33 #[tokV t] w fun e w' => e = .returned (.string (txB t)) ∧ Only (fun _ => False) w w' := by
  have HA := tokA_only w t
  have e5 : (t.op == 5) = false := by simp [h7]
  have e6 : (t.op == 6) = false := by simp [h7]
  have e7 : (t.op == 7) = true := by simp [h7]
  have HX : Hid (txB t = ⟨(qtL 34 t.text.data.toList).toArray⟩) := Lib.hid (by unfold txB; rw [if_neg (by rw [h7]; decide), if_neg (by rw [h7]; decide), if_pos h7])
  clear h7
  go_enter Tryz.func33, Tryz.ntmps33
  go_wp2_with (first | (go_at_call 21; refine (rQuote_p _ _ hz).mono ?_; rintro e w1 ⟨rfl, hb⟩))
  go_ret
  exact ⟨by rw [HX.out]; rfl, HA.trans hb⟩
theorem rText_p (t : Tok) (w : World) (hn0 : t.op = 5 → 0 ≤ t.n) (hn1 : t.n ≤ 9223372036854775807) (hz1 : t.qual.size ≤ 65536) (hz2 : t.text.size ≤ 65536) :
    Calls Tryz.prog 33 #[tokV t] w fun e w' => e = .returned (.string (txB t)) ∧ Only (fun _ => False) w w' := by
  by_cases h5 : t.op = 5
  · exact rText_int t w h5 (hn0 h5) hn1
  by_cases h6 : t.op = 6
  · exact rText_char t w h6
  by_cases h7 : t.op = 7
  · exact rText_str t w h7 (by omega)
  by_cases hqu : t.qual.data.toList = []
  · exact rText_plain t w h5 h6 h7 hqu
  · exact rText_qual t w h5 h6 h7 hqu (by omega) (by omega)
theorem rClassify_v (s : ByteArray) (v : Int) (W w : World) (hs : s.size ≤ 65536) (hv : cls s = v) (hq : Q W w) :
    Calls Tryz.prog 78 #[.string s] w fun e w' => e = .returned (.int .i64 v) ∧ Q W w' ∧ Only (fun _ => False) w w' :=
  (rClassify_any s w w (by omega) hq.self).mono fun _ _ ⟨he, h⟩ => ⟨by rw [he, hv], hq.step h, Only.of_below h.bel⟩
theorem opo_eq {c k : Int} (hk : 1 ≤ k ∧ k ≤ 4) (hc : 0 ≤ c ∧ c ≤ 7) : (opo c == k) = (c == k) := by
  rw [Bool.eq_iff_iff]
  simp only [beq_iff_eq]
  unfold opo
  split
  · omega
  split
  · omega
  split <;> omega
theorem opo_9 {c : Int} (hc : 0 ≤ c ∧ c ≤ 7) : (opo c == 9) = (c == 5) := by
  rw [Bool.eq_iff_iff]
  simp only [beq_iff_eq]
  unfold opo
  split
  · omega
  split
  · omega
  split <;> omega
theorem opo_10 {c : Int} (hc : 0 ≤ c ∧ c ≤ 7) : (opo c == 10) = (c == 6) := by
  rw [Bool.eq_iff_iff]
  simp only [beq_iff_eq]
  unfold opo
  split
  · omega
  split
  · omega
  split <;> omega
theorem prT_badq {t : Tok} (h1 : t.qual.data.toList ≠ []) (h2 : cls t.qual ≠ 2) : prT t = false := by
  have i1 : t.qual.data.toList.isEmpty = false := by simpa using h1
  have i2 : isq t.qual = false := by unfold isq; rw [i1]; simpa using h2
  unfold prT
  rw [i1, i2]
  simp
theorem prT_noq {t : Tok} (h1 : t.qual.data.toList ≠ []) (ho : t.op < 1 ∨ 4 < t.op) : prT t = false := by
  have i1 : t.qual.data.toList.isEmpty = false := by simpa using h1
  unfold prT
  rw [i1, if_neg (show ¬ (t.op = 1 ∨ t.op = 2 ∨ t.op = 3 ∨ t.op = 4) by omega)]
  simp
theorem prT_not {t : Tok} (ho : t.op < 1 ∨ 10 < t.op) : prT t = false := by
  unfold prT
  rw [if_neg (by omega), if_neg (by omega), if_neg (by omega), if_neg (by omega), if_neg (by omega), if_neg (by omega)]
end Go.Proofs.YtelichlplblboaaGreatDoor
