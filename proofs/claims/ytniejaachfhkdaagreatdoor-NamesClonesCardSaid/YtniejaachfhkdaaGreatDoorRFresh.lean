/-
  WALKS. The reference's supply: Fresh.
-/
import Derived.Test.YtniejaachfhkdaaGreatDoorRTake
import Derived.Test.YtniejaachfhkdaaGreatDoorRef2
import Derived.Test.YtniejaachfhkdaaGreatDoorFresh2
namespace Go.Proofs.YtniejaachfhkdaaGreatDoor
open Go.RowKit Go.Maps
theorem mkB_made {B : ByteArray} (h : stem B.data.toList = true) (i : Nat) : mkB B (i : Int) = madeB B (i : Int) := by
  have : ¬ ((i : Int) < 0) := by omega
  simp [mkB, h, this]
theorem rMade_v (s : ByteArray) (n : Int) (m : ByteArray) (W w : World) (hs : s.size ≤ 1000000) (h1 : n ≤ 9223372036854775807) (h : mkB s n = m) (hq : Q W w) :
    Calls Tryz.prog 17 #[.string s, .int .i64 n] w fun e w' => e = .returned (.string m) ∧ Q W w' := h ▸ rMade_any s n W w hs h1 hq
theorem rBase_v (s : ByteArray) (v : Value) (W w : World) (hs : s.size ≤ 1000000) (h : basR (basO s) = v) (hq : Q W w) :
    Calls Tryz.prog 15 #[.string s] w fun e w' => e = .returned v ∧ Q W w' := h ▸ rBase_any s W w hs hq
set_option maxRecDepth 100000 in
set_option maxHeartbeats 4000000 in
theorem rFresh_yes (W w : World) (r : Nat) (v : Value) (ns : List ByteArray) (s B : ByteArray) (hs : s.size ≤ 1000000) (hn : ns.length ≤ 1000000) (hS : RS W r v ns w) (hB : fb s = B) (hBz : B.size ≤ 1000000) (hst : stem B.data.toList = true)
    (J : Nat) (hJ0 : 1 ≤ J) (hJN : J ≤ 1000000) (hJ : hasL ns (madeB B (J : Int)) = false) (hlt : ∀ i : Nat, 1 ≤ i → i < J → hasL ns (madeB B (i : Int)) = true) :
    Calls Tryz.prog 50 #[.pointer (some ⟨r, 0, none⟩), .string s] w fun e w' => e = .returned (.string (madeB B (J : Int))) ∧ ∃ v', RS W r v' (ns ++ [madeB B (J : Int)]) w' ∧ Only (rK r v) w w' ∧ (v'.ownBlock = v.ownBlock ∨ ∃ g, v'.ownBlock = some g ∧ w.heap.size ≤ g) := by
  obtain ⟨oa, ca, rfl⟩ := hS.form
  have HJ := Lib.hid hJ
  have HL := Lib.hid hlt
  have HST := Lib.hid hst
  have HM := Lib.hid (mkB_made hst)
  clear hJ hlt hst
  have c0 := hS.cell0
  have hq := hS.q.self
  obtain ⟨i0, hi, hz0, hz1, hz2⟩ := info_parts infoStr
  cases hb : basO s with
  | none =>
    have HB : basR (basO s) = .tuple #[.string ⟨#[]⟩, .int .i64 0, .bool false] := by rw [hb]; rfl
    obtain rfl : s = B := by rw [← hB, fb, hb]
    have HB' := Lib.hid HB
    clear HB hb hB
    go_enter Tryz.func50, Tryz.ntmps50
    go_wp2_with (first | (go_at_call 15; refine (rBase_v _ _ _ _ hs HB'.out hq).mono ?_; rintro e w1 ⟨rfl, hq1⟩) | (go_at_call 43; refine (rStem_v _ true _ _ hBz HST.out hq1).mono ?_; rintro e w2 ⟨rfl, hq2⟩))
    have hS0 := hS.below hq2.bel
    have hB0 := hq2.bel
    go_loopw [8] (fun i wr => ∃ k : Nat, 1 ≤ k ∧ k ≤ J ∧ i = .int .i64 k ∧ RS W r (.slice oa ns.length ca) ns wr ∧ Below w.heap.size w wr) (fun i _ => J - (intOf i).toNat)
    case atStart => exact ⟨1, Nat.le_refl _, hJ0, rfl, hS0, hB0⟩
    case round =>
      obtain ⟨k, hk1, hkJ, rfl, hS1, hB1⟩ := hrel
      have d1 := hS1.cell1
      have hSd : RS W r (.slice oa ns.length ca) ns wr.drew := hS1.below (Below.refl _ _).drew
      have hqd := hSd.q.self
      have e1 := hSd.cell1
      have HZ := Lib.hid (madeB_size s (k : Int) (by omega) (by omega))
      by_cases hlast : k = J
      · have hu : hasL ns (madeB s (k : Int)) = false := by rw [hlast]; exact HJ.out
        have HU := Lib.hid hu
        have HLA := Lib.hid hlast
        clear hu hlast
        go_wp2_with fail
        go_region_with (first | (go_at_call 17; (with_reducible refine (rMade_v _ _ _ _ _ hBz (by omega) (HM.out k) hqd).mono ?_); rintro e w5 ⟨rfl, hq5⟩; have hS5 := hSd.below hq5.bel; have g1 := hS5.cell1; have hst5 := hS5.strs) | (go_at_call 88; (with_reducible refine (Has_q _ _ _ _ _ _ (by omega) hst5).mono ?_); rw [HU.out]; rintro e w6 ⟨rfl, rfl⟩))
        all_goals
          have hB5 : Below w.heap.size w w5 := hB1.drew.trans (hq5.bel.mono (Nat.le_trans hB1.size (Nat.le_refl _)))
          clear hSd hqd e1 d1 hB1 hS1
          go_wp2_with (first | (go_at_call 17; (with_reducible refine (rMade_v _ _ _ _ _ hBz (by omega) (HM.out k) hS5.q.self).mono ?_); rintro e w7 ⟨rfl, hq7⟩; have hS7 := hS5.below hq7.bel; have g7 := hS7.cell1) | (at_builtin; refine wpList_append_own_at _ rfl _ _ 30 rfl W.heap.size 9 i0 (.string ⟨#[]⟩) 1 16 Tryz.underlying30 hi hz0 hz1 hz2 rfl (by decide) (.slice oa ns.length ca) _ _ rfl (hS7.own.alloc _) ⟨w7.heap.size, 0, none⟩ 1 1 [.string (madeB s (k : Int))] rfl rfl (cell_one_new _ _ _) (one_str _) (by unfold maxLen; omega) (by omega) (by have := hS7.q.bel.size; simp; omega) ?_; intro v' w' hown' hgrow hnn hob; clear hnn; obtain ⟨og, cg, rfl⟩ := row_form hown'; have HOB := Lib.hid hob; clear hob; have HST' := hS7.stored ((Below.refl _ w7).alloc (Nat.le_refl _) _) hown' hgrow HOB.out; obtain ⟨f0, f1⟩ := hS7.after hgrow))
          have hB7 := hB5.trans (hq7.bel.mono hB5.size)
          go_ret
          refine ⟨by rw [← HLA.out]; rfl, _, by rw [← HLA.out]; exact HST'.1, (Only.of_below hB7).trans HST'.2, ?_⟩
          rcases HOB.out with h | h
          · exact .inl h
          · refine .inr ⟨_, h, ?_⟩
            have := hB7.size
            show _ ≤ (w7.heap.push _).size
            rw [Array.size_push]; omega
      · have hu : hasL ns (madeB s (k : Int)) = true := HL.out k hk1 (by omega)
        have HU := Lib.hid hu
        clear hu
        go_wp2_with fail
        go_region_with (first | (go_at_call 17; (with_reducible refine (rMade_v _ _ _ _ _ hBz (by omega) (HM.out k) hqd).mono ?_); rintro e w5 ⟨rfl, hq5⟩; have hS5 := hSd.below hq5.bel; have g1 := hS5.cell1; have hst5 := hS5.strs) | (go_at_call 88; (with_reducible refine (Has_q _ _ _ _ _ _ (by omega) hst5).mono ?_); rw [HU.out]; rintro e w6 ⟨rfl, rfl⟩))
        all_goals
          have hB5 : Below w.heap.size w w5 := hB1.drew.trans (hq5.bel.mono (Nat.le_trans hB1.size (Nat.le_refl _)))
          clear hSd hqd e1 d1 hB1 hS1
          go_wp2
          go_roundw
          case rel => exact ⟨k + 1, by omega, by omega, by go_num, hS5, hB5⟩
          case measure => simp [intOf]; omega
  | some bn =>
    obtain ⟨b, n⟩ := bn
    have HB : basR (basO s) = .tuple #[.string b, .int .i64 n, .bool true] := by rw [hb]; rfl
    obtain rfl : b = B := by rw [← hB, fb, hb]
    have HB' := Lib.hid HB
    clear HB hb hB
    go_enter Tryz.func50, Tryz.ntmps50
    go_wp2_with (first | (go_at_call 15; refine (rBase_v _ _ _ _ hs HB'.out hq).mono ?_; rintro e w1 ⟨rfl, hq1⟩) | (go_at_call 43; refine (rStem_v _ true _ _ hBz HST.out hq1).mono ?_; rintro e w2 ⟨rfl, hq2⟩))
    have hS0 := hS.below hq2.bel
    have hB0 := hq2.bel
    go_loopw [8] (fun i wr => ∃ k : Nat, 1 ≤ k ∧ k ≤ J ∧ i = .int .i64 k ∧ RS W r (.slice oa ns.length ca) ns wr ∧ Below w.heap.size w wr) (fun i _ => J - (intOf i).toNat)
    case atStart => exact ⟨1, Nat.le_refl _, hJ0, rfl, hS0, hB0⟩
    case round =>
      obtain ⟨k, hk1, hkJ, rfl, hS1, hB1⟩ := hrel
      have d1 := hS1.cell1
      have hSd : RS W r (.slice oa ns.length ca) ns wr.drew := hS1.below (Below.refl _ _).drew
      have hqd := hSd.q.self
      have e1 := hSd.cell1
      have HZ := Lib.hid (madeB_size b (k : Int) (by omega) (by omega))
      by_cases hlast : k = J
      · have hu : hasL ns (madeB b (k : Int)) = false := by rw [hlast]; exact HJ.out
        have HU := Lib.hid hu
        have HLA := Lib.hid hlast
        clear hu hlast
        go_wp2_with fail
        go_region_with (first | (go_at_call 17; (with_reducible refine (rMade_v _ _ _ _ _ hBz (by omega) (HM.out k) hqd).mono ?_); rintro e w5 ⟨rfl, hq5⟩; have hS5 := hSd.below hq5.bel; have g1 := hS5.cell1; have hst5 := hS5.strs) | (go_at_call 88; (with_reducible refine (Has_q _ _ _ _ _ _ (by omega) hst5).mono ?_); rw [HU.out]; rintro e w6 ⟨rfl, rfl⟩))
        all_goals
          have hB5 : Below w.heap.size w w5 := hB1.drew.trans (hq5.bel.mono (Nat.le_trans hB1.size (Nat.le_refl _)))
          clear hSd hqd e1 d1 hB1 hS1
          go_wp2_with (first | (go_at_call 17; (with_reducible refine (rMade_v _ _ _ _ _ hBz (by omega) (HM.out k) hS5.q.self).mono ?_); rintro e w7 ⟨rfl, hq7⟩; have hS7 := hS5.below hq7.bel; have g7 := hS7.cell1) | (at_builtin; refine wpList_append_own_at _ rfl _ _ 30 rfl W.heap.size 9 i0 (.string ⟨#[]⟩) 1 16 Tryz.underlying30 hi hz0 hz1 hz2 rfl (by decide) (.slice oa ns.length ca) _ _ rfl (hS7.own.alloc _) ⟨w7.heap.size, 0, none⟩ 1 1 [.string (madeB b (k : Int))] rfl rfl (cell_one_new _ _ _) (one_str _) (by unfold maxLen; omega) (by omega) (by have := hS7.q.bel.size; simp; omega) ?_; intro v' w' hown' hgrow hnn hob; clear hnn; obtain ⟨og, cg, rfl⟩ := row_form hown'; have HOB := Lib.hid hob; clear hob; have HST' := hS7.stored ((Below.refl _ w7).alloc (Nat.le_refl _) _) hown' hgrow HOB.out; obtain ⟨f0, f1⟩ := hS7.after hgrow))
          have hB7 := hB5.trans (hq7.bel.mono hB5.size)
          go_ret
          refine ⟨by rw [← HLA.out]; rfl, _, by rw [← HLA.out]; exact HST'.1, (Only.of_below hB7).trans HST'.2, ?_⟩
          rcases HOB.out with h | h
          · exact .inl h
          · refine .inr ⟨_, h, ?_⟩
            have := hB7.size
            show _ ≤ (w7.heap.push _).size
            rw [Array.size_push]; omega
      · have hu : hasL ns (madeB b (k : Int)) = true := HL.out k hk1 (by omega)
        have HU := Lib.hid hu
        clear hu
        go_wp2_with fail
        go_region_with (first | (go_at_call 17; (with_reducible refine (rMade_v _ _ _ _ _ hBz (by omega) (HM.out k) hqd).mono ?_); rintro e w5 ⟨rfl, hq5⟩; have hS5 := hSd.below hq5.bel; have g1 := hS5.cell1; have hst5 := hS5.strs) | (go_at_call 88; (with_reducible refine (Has_q _ _ _ _ _ _ (by omega) hst5).mono ?_); rw [HU.out]; rintro e w6 ⟨rfl, rfl⟩))
        all_goals
          have hB5 : Below w.heap.size w w5 := hB1.drew.trans (hq5.bel.mono (Nat.le_trans hB1.size (Nat.le_refl _)))
          clear hSd hqd e1 d1 hB1 hS1
          go_wp2
          go_roundw
          case rel => exact ⟨k + 1, by omega, by omega, by go_num, hS5, hB5⟩
          case measure => simp [intOf]; omega
set_option maxRecDepth 100000 in
set_option maxHeartbeats 1000000 in
theorem rFresh_no (W w : World) (r : Nat) (v : Value) (ns : List ByteArray) (s : ByteArray) (hs : s.size ≤ 1000000) (hS : RS W r v ns w) (hst : stem (fb s).data.toList = false) :
    Calls Tryz.prog 50 #[.pointer (some ⟨r, 0, none⟩), .string s] w fun e w' => e = .returned (.string ⟨#[]⟩) ∧ Q w w' := by
  obtain ⟨hb, hst'⟩ := fb_stem hst
  have c0 := hS.cell0
  have hq := hS.q.self
  have HB' : Hid (basR (basO s) = .tuple #[.string ⟨#[]⟩, .int .i64 0, .bool false]) := Lib.hid (by rw [hb]; rfl)
  have HST := Lib.hid hst'
  clear hb hst hst'
  go_enter Tryz.func50, Tryz.ntmps50
  go_wp2_with (first | (go_at_call 15; refine (rBase_v _ _ _ _ hs HB'.out hq).mono ?_; rintro e w1 ⟨rfl, hq1⟩) | (go_at_call 43; refine (rStem_v _ false _ _ hs HST.out hq1).mono ?_; rintro e w2 ⟨rfl, hq2⟩))
  go_ret
  exact ⟨rfl, hq2⟩
end Go.Proofs.YtniejaachfhkdaaGreatDoor
