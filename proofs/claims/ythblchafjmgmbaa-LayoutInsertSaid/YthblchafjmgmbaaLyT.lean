/-
  WALKS. Depth, the program's and the reference's.
-/
import Derived.Test.YthblchafjmgmbaaLySa
namespace Go.Proofs.Ythblchafjmgmbaa
open Go.RowKit Go.Maps
set_option maxRecDepth 100000 in
theorem rspecial_p (t : Tok) (l : List UInt8) (w : World) : Calls Try.prog 47 #[tokV t, .string ⟨l.toArray⟩] w fun e w' => e = .returned (.bool (spT t l)) ∧ Only (fun _ => False) w w' := by
  have HT := Lib.hid (Lib.toList_data t.text)
  have HS : Hid (spT t l = ((t.op == 8) && (t.text.data.toList == l))) := Lib.hid rfl
  go_enter Try.func47, Try.ntmps47
  go_wp2
  all_goals (go_ret; exact ⟨ret_bool (by rw [HS.out]; simp [HT.out, *]), (Only.refl _ _).alloc _⟩)
theorem rspecial_v (t : Tok) (l : List UInt8) (v : Bool) (w : World) (hv : spT t l = v) : Calls Try.prog 47 #[tokV t, .string ⟨l.toArray⟩] w fun e w' => e = .returned (.bool v) ∧ Only (fun _ => False) w w' := hv ▸ rspecial_p t l w
def depK (ts : List Tok) (k : Nat) : Int × Int := (ts.take k).foldl dep1 (0, 0)
theorem depK_succ (ts : List Tok) {k : Nat} (hk : k < ts.length) : depK ts (k + 1) = dep1 (depK ts k) ts[k] := by
  unfold depK
  rw [List.take_succ_eq_append_getElem hk, List.foldl_append]
  rfl
theorem depK_end (ts : List Tok) {k : Nat} (hk : ts.length ≤ k) : (depK ts k).1 = depL ts := by
  unfold depK depL
  rw [List.take_of_length_le hk]
theorem depK_bd (ts : List Tok) (k : Nat) : -(k : Int) ≤ (depK ts k).2 ∧ (depK ts k).2 ≤ k ∧ 0 ≤ (depK ts k).1 ∧ (depK ts k).1 ≤ k := by
  induction k with
  | zero => simp [depK]
  | succ k ih =>
    by_cases hk : k < ts.length
    · rw [depK_succ ts hk]
      unfold dep1
      obtain ⟨h1, h2, h3, h4⟩ := ih
      simp only
      split
      · omega
      · split <;> omega
    · have e : depK ts (k + 1) = depK ts k := by
        unfold depK
        rw [List.take_of_length_le (by omega), List.take_of_length_le (by omega)]
      rw [e]; omega
set_option maxRecDepth 100000 in
set_option maxHeartbeats 8000000 in
theorem Depth_p (w : World) (oa : Option Addr) (n ca : Nat) (ts : List Tok) (hn : n ≤ 100000000000) (hT : Tks w oa n ts) :
    Calls Try.prog 9 #[.slice oa n ca] w fun r w' => r = .returned (.int .i64 (depL ts)) ∧ Only (fun _ => False) w w' := by
  have HL := Lib.hid hT.len
  go_enter Try.func9, Try.ntmps9
  go_wp2
  go_loopw [9, 3, 4] (fun i g o wr => ∃ (k : Nat) (G O : Int), k ≤ n ∧ i = .int .i64 k ∧ g = .int .i64 G ∧ o = .int .i64 O ∧ Hid (depK ts k = (G, O)) ∧ Only (fun _ => False) w wr) (fun i _ _ _ => n - (intOf i).toNat)
  case atStart => exact ⟨0, 0, 0, by omega, rfl, rfl, rfl, Lib.hid rfl, Only.refl _ _⟩
  case round =>
    obtain ⟨k, G, O, hk, rfl, rfl, rfl, HK, hO⟩ := hrel
    have hbd := depK_bd ts k
    rw [HK.out] at hbd
    obtain ⟨b1, b2, b3, b4⟩ := hbd
    by_cases hlt : k < n
    · have hkt : k < ts.length := by rw [HL.out]; exact hlt
      obtain ⟨b, o, rfl, hc⟩ := (hT.keep hO).cell k hkt
      have hst := depK_succ ts hkt
      rw [HK.out] at hst
      obtain ⟨x, hx⟩ : ∃ x, ts[k] = x := ⟨_, rfl⟩
      rw [hx] at hc hst
      have HST := Lib.hid hst
      clear hx hst hkt
      have hA : Only (fun _ => False) wr (wr.alloc (.cells (tokA x) 33)) := (Only.refl _ _).alloc _
      have t0 : TB (wr.alloc (.cells (tokA x) 33)) wr.heap.size x := new_block _ _
      obtain ⟨p0, p1, p2, p3, p4, p5, p6⟩ := hc
      cases h1 : spT x [123]
      · have H1 := Lib.hid h1
        cases h2 : spT x [125]
        · have H2 := Lib.hid h2
          have HN : Hid (depK ts (k + 1) = (max G O, O)) := Lib.hid (by rw [HST.out]; unfold dep1; rw [h1, h2]; rfl)
          clear h1 h2
          go_wp2_with (first | (go_at_call 19; ((with_reducible refine (isSpecial_v x [123] _ _ H1.out).mono ?_); rintro r w1 ⟨rfl, hO1⟩; obtain ⟨q0, q1, q2, q3, q4, q5, q6⟩ := (t0.same hO1).all)) | (go_at_call 19; ((with_reducible refine (isSpecial_v x [125] _ _ H2.out).mono ?_); rintro r w2 ⟨rfl, hO2⟩)))
          go_roundw
          case rel => exact ⟨k + 1, max G O, O, by omega, by go_num, by first | rfl | (congr 1; omega), rfl, HN, ((hO.trans hA).trans hO1).trans hO2⟩
          case measure => simp [intOf]; omega
        · have H2 := Lib.hid h2
          have HN : Hid (depK ts (k + 1) = (max G (O - 1), O - 1)) := Lib.hid (by rw [HST.out]; unfold dep1; rw [h1, h2]; rfl)
          clear h1 h2
          go_wp2_with (first | (go_at_call 19; ((with_reducible refine (isSpecial_v x [123] _ _ H1.out).mono ?_); rintro r w1 ⟨rfl, hO1⟩; obtain ⟨q0, q1, q2, q3, q4, q5, q6⟩ := (t0.same hO1).all)) | (go_at_call 19; ((with_reducible refine (isSpecial_v x [125] _ _ H2.out).mono ?_); rintro r w2 ⟨rfl, hO2⟩)))
          go_roundw
          case rel => exact ⟨k + 1, max G (O - 1), O - 1, by omega, by go_num, by first | rfl | (congr 1; omega), rfl, HN, ((hO.trans hA).trans hO1).trans hO2⟩
          case measure => simp [intOf]; omega
      · have H1 := Lib.hid h1
        have HN : Hid (depK ts (k + 1) = (max G (O + 1), O + 1)) := Lib.hid (by rw [HST.out]; unfold dep1; rw [h1]; rfl)
        clear h1
        go_wp2_with (go_at_call 19; ((with_reducible refine (isSpecial_v x [123] _ _ H1.out).mono ?_); rintro r w1 ⟨rfl, hO1⟩))
        go_roundw
        case rel => exact ⟨k + 1, max G (O + 1), O + 1, by omega, by go_num, by first | rfl | (congr 1; omega), rfl, HN, (hO.trans hA).trans hO1⟩
        case measure => simp [intOf]; omega
    · have HR : Hid (depL ts = G) := Lib.hid (by rw [← depK_end ts (k := k) (by rw [HL.out]; omega), HK.out])
      go_wp2
      go_ret
      exact ⟨ret_int HR.out.symm, hO⟩
end Go.Proofs.Ythblchafjmgmbaa
