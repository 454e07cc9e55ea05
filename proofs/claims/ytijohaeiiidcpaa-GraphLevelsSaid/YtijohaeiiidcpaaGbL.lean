/-
  WALKS. container/heap over the components: up.
-/
import Derived.Test.YtijohaeiiidcpaaGbK
namespace Go.Proofs.Ytijohaeiiidcpaa
open Go.RowKit Go.Maps
abbrev hpV (b : Nat) : Value := .iface 64 (.pointer (some ⟨b, 0, none⟩))
theorem upF_zero {f : Nat} {l : List Nat} : upF (f + 1) l 0 = l := by unfold upF; rw [if_pos rfl]
theorem upF_stop {f j : Nat} {l : List Nat} (hj : j ≠ 0) (h : ¬ gt l j < gt l ((j - 1) / 2)) : upF (f + 1) l j = l := by unfold upF; rw [if_neg hj, if_neg h]
theorem upF_go {f j : Nat} {l : List Nat} (hj : j ≠ 0) (h : gt l j < gt l ((j - 1) / 2)) : upF (f + 1) l j = upF f (swL l ((j - 1) / 2) j) ((j - 1) / 2) := by
  conv => lhs; unfold upF
  rw [if_neg hj, if_pos h]
section
variable {w w' : World} {B b : Nat} {v : Value} {l : List Nat}
set_option maxRecDepth 100000 in
set_option maxHeartbeats 8000000 in
theorem up_p (h : HB w B b v l) {j0 F : Nat} (hj0 : j0 < l.length) (hF0 : j0 < F) (hn : l.length ≤ 1000000000) : Calls Try.prog 57 #[hpV b, iV j0] w fun e w' => e = .returned (.tuple #[]) ∧ HBx w B b (upF F l j0) w' := by
  go_enter Try.func57, Try.ntmps57
  go_wp2
  go_loopw [1] (fun i wr => ∃ (j f : Nat) (v1 : Value) (l1 : List Nat), i = iV j ∧ HB wr B b v1 l1 ∧ j < l1.length ∧ l1.length = l.length ∧ j < f ∧ Hid (upF f l1 j = upF F l j0) ∧ FG B b w wr) (fun i _ => (intOf i).toNat)
  case atStart => exact ⟨j0, F, v, l, rfl, h, hj0, rfl, hF0, Lib.hid rfl, Only.refl _ _⟩
  case round =>
    obtain ⟨j, f, v1, l1, rfl, hS, hj, hln, hjf, HR, hF⟩ := hrel
    obtain ⟨f', rfl⟩ : ∃ f', f = f' + 1 := ⟨f - 1, by omega⟩
    have hc0 := hS.c0
    have mL := fun k => m_less k wr b v1 hc0
    have hwj : IntKind.i64.wrap ((j : Int) - 1) = (j : Int) - 1 := IntWalk.i64_in _ (by omega)
    by_cases hz : j = 0
    · subst hz
      have HE : Hid (upF F l j0 = l1) := Lib.hid (by rw [← HR.out, upF_zero])
      have hq : Int.tdiv ((0 : Int) - 1) 2 = 0 := by decide
      have hq2 : IntKind.i64.wrap 0 = 0 := rfl
      go_wp2
      all_goals
        go_end0
        rw [HE.out]
        exact ⟨rfl, _, hS, hF⟩
    · obtain ⟨i, hi⟩ : ∃ i, (j - 1) / 2 = i := ⟨_, rfl⟩
      have hij : i < j := by omega
      have hq : Int.tdiv ((j : Int) - 1) 2 = (i : Int) := by
        rw [Int.tdiv_eq_ediv_of_nonneg (by omega)]
        omega
      have hwq : IntKind.i64.wrap (i : Int) = (i : Int) := IntWalk.i64_in _ (by omega)
      have hne : ((i : Int) == (j : Int)) = false := by simp; omega
      have hne2 : ¬ (i : Int) = (j : Int) := by omega
      have hil : i < l1.length := by omega
      by_cases hlt : gt l1 j < gt l1 i
      · have hx : decide (gt l1 j < gt l1 i) = true := decide_eq_true hlt
        have HN : Hid (upF f' (swL l1 i j) i = upF F l j0) := Lib.hid (by rw [← HR.out, upF_go hz (by rw [hi]; exact hlt), hi])
        have HI := Lib.hid hi
        clear hi
        go_wp2_with (first | (go_at_call 76; (refine (Less_p hS hj hil true hx).mono ?_); rintro e w2 ⟨rfl, hO2⟩; have hS2 := hS.same hO2; have mS := fun k => m_swap k w2 b v1 hS2.c0) | (go_at_call 77; (refine (Swap_p hS2 hil hj).mono ?_); rintro e w3 ⟨rfl, hS3, hF3⟩))
        go_roundw
        case rel => exact ⟨i, f', v1, swL l1 i j, rfl, hS3, by rw [swL_len]; exact hil, by rw [swL_len]; exact hln, by omega, HN, hF.trans ((FG.keep hO2).trans hF3)⟩
        case measure => simp [intOf]; omega
      · have hx : decide (gt l1 j < gt l1 i) = false := decide_eq_false hlt
        have HE : Hid (upF F l j0 = l1) := Lib.hid (by rw [← HR.out, upF_stop hz (by rw [hi]; exact hlt)])
        clear hi
        go_wp2_with (go_at_call 76; (refine (Less_p hS hj hil false hx).mono ?_); rintro e w2 ⟨rfl, hO2⟩; have hS2 := hS.same hO2)
        go_end0
        rw [HE.out]
        exact ⟨rfl, _, hS2, hF.trans (FG.keep hO2)⟩
end
end Go.Proofs.Ytijohaeiiidcpaa
