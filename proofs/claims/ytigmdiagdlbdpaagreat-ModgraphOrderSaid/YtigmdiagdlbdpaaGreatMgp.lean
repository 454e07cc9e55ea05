/-
  WALKS. slices.Grow of nothing, slices.Concat, both at []int.
-/
import Derived.Test.YtigmdiagdlbdpaaGreatGbAp
import Derived.Test.YtigmdiagdlbdpaaGreatGbR
import Derived.Lib.AppendZeros
namespace Go.Proofs.YtigmdiagdlbdpaaGreat
open Go.RowKit Go.Maps
theorem zero_size (z : Value) (n : Nat) : (Builtin.zeroCells #[z] n).size = n := by
  simp [Builtin.zeroCells]
set_option maxRecDepth 100000 in
set_option maxHeartbeats 1000000 in
theorem Grow_p (w : World) (n : Nat) (hn : n ≤ 1000000) : Calls Tryz.prog 43 #[.slice none 0 0, iV n] w fun e w' => ∃ oa ca, e = .returned (.slice oa 0 ca) ∧ IR w' w.heap.size (.slice oa 0 ca) [] ∧ Only (fun _ => False) w w' := by
  have h1 : ¬ (n : Int) < 0 := by omega
  have h2 : decide ((n : Int) < 0) = false := decide_eq_false h1
  obtain ⟨i0', hi, hz0, hz1, hz2⟩ := info_parts infoInt
  by_cases hn0 : n = 0
  · subst hn0
    go_enter Tryz.func43, Tryz.ntmps43
    go_wp2
    go_ret
    exact ⟨none, 0, rfl, World.ownsRow_nil _ _ _ _, Only.refl _ _⟩
  · have h3 : (0 : Int) < (n : Int) := by omega
    have h4 : decide ((0 : Int) < (n : Int)) = true := decide_eq_true h3
    have hrun := fun ty => Lib.run_append_nil_zeros (P := Tryz.prog) w 55 3 ty 3 i0' (.int .i64 0) .i64 .i64 Tryz.underlying55 Tryz.underlying3 hi hz0 n (by omega) (by rw [hz1]; decide) (by omega) (by rw [hz2]; omega)
    go_enter Tryz.func43, Tryz.ntmps43
    go_wp2_with (at_builtin; refine Lib.wpList_append_run _ rfl _ _ _ _ rfl _ _ rfl rfl _ _ (hrun _) ?_)
    go_ret
    have hge := grownCap_ge w n 0 3
    have hsz : (Builtin.zeroCells #[Value.int .i64 0] n ++ Builtin.zeroCells #[Value.int .i64 0] (grownCap w n 0 3 - n)).size = grownCap w n 0 3 * 1 := by
      rw [Array.size_append, zero_size, zero_size]
      omega
    refine ⟨some ⟨w.heap.size, 0, none⟩, grownCap w n 0 3, rfl, ⟨rfl, .inr ⟨w.heap.size, grownCap w n 0 3, _, rfl, Nat.le_refl _, new_block w _, Nat.zero_le _, grownCap_le_maxLen w n 0 3 (by unfold maxLen; omega), hsz, rfl⟩⟩, ((Only.refl _ _).alloc _).drew⟩
def flK (C : List (List Nat)) (k : Nat) : List Nat := (C.take k).flatten
theorem flK_succ {C : List (List Nat)} {k : Nat} (hk : k < C.length) : flK C (k + 1) = flK C k ++ C[k] := by
  unfold flK
  rw [List.take_succ_eq_append_getElem hk, List.flatten_append]
  simp
theorem flK_all (C : List (List Nat)) : flK C C.length = C.flatten := by unfold flK; rw [List.take_length]
theorem flK_le {C : List (List Nat)} {T : Nat} (hT : C.flatten.length ≤ T) (k : Nat) : (flK C k).length ≤ T := by
  have h : (C.take k).flatten ++ (C.drop k).flatten = C.flatten := by rw [← List.flatten_append, List.take_append_drop]
  have := congrArg List.length h
  rw [List.length_append] at this
  unfold flK
  omega
set_option maxRecDepth 100000 in
set_option maxHeartbeats 2000000 in
theorem Concat_p (w : World) (oC : Option Addr) (nC cC : Nat) (C : List (List Nat)) (h : Edg w oC nC C) (hT : C.flatten.length ≤ 1000000) (hn : nC ≤ 1000000) : Calls Tryz.prog 26 #[.slice oC nC cC] w fun e w' => ∃ oa ca, e = .returned (.slice oa C.flatten.length ca) ∧ IR w' w.heap.size (.slice oa C.flatten.length ca) C.flatten ∧ Only (fun _ => False) w w' := by
  have hlen := h.len
  have HE := Lib.hid h
  have HT := Lib.hid (flK_le hT)
  have HFA : Hid (flK C nC = C.flatten) := Lib.hid (by rw [← hlen]; exact flK_all C)
  have HL0 : Hid ((flK C 0).length = 0) := Lib.hid rfl
  clear h hT
  go_enter Tryz.func26, Tryz.ntmps26
  go_wp2
  go_loopw [3, 11] (fun p q wr => ∃ k s : Nat, k ≤ nC ∧ q = .int .i64 k ∧ p = .int .i64 s ∧ Hid ((flK C k).length = s) ∧ wr = w) (fun _ q _ => nC - (intOf q).toNat)
  case atStart => exact ⟨0, 0, by omega, rfl, rfl, HL0, rfl⟩
  case round =>
    obtain ⟨k, s, hk, rfl, rfl, HS, rfl⟩ := hrel
    have hsb := HT.out k
    rw [HS.out] at hsb
    by_cases hkn : k < nC
    · have hkl : k < C.length := by omega
      obtain ⟨b1, o1, ra, rn, rc, e1, c1, hi1⟩ := HE.out.cell k hkl
      subst e1
      have h01 : (0 : Int) ≤ (k : Int) := Int.natCast_nonneg k
      have h02 : (k : Int) < (nC : Int) := by omega
      have h03 : (k : Int).toNat = k := Int.toNat_natCast k
      have hrl := hi1.len
      have hs2 := HT.out (k + 1)
      have hs3 : (flK C (k + 1)).length = s + rn := by rw [flK_succ hkl, List.length_append, HS.out, hrl]
      rw [hs3] at hs2
      have HS3 := Lib.hid hs3
      have hw1 : IntKind.i64.wrap ((s : Int) + (rn : Int)) = (s : Int) + (rn : Int) := IntWalk.i64_in _ (by omega)
      have hd1 : ¬ (s : Int) + (rn : Int) < 0 := by omega
      have hd2 : decide ((s : Int) + (rn : Int) < 0) = false := decide_eq_false hd1
      clear hi1 hrl hs3
      go_wp2
      go_roundw
      case rel => exact ⟨k + 1, s + rn, by omega, by go_num, by go_num, HS3, trivial⟩
      case measure => simp [intOf]; omega
    · have hkn2 : nC = k := by omega
      subst hkn2
      have HG := Lib.hid (Grow_p wr s hsb)
      go_wp2_with (go_at_call 43; (refine HG.out.mono ?_); rintro e w5 ⟨og, cg, rfl, hI5, hO5⟩)
      have HI5 : Hid (IR w5 wr.heap.size (.slice og 0 cg) (flK C 0)) := Lib.hid hI5
      have HO5 := Lib.hid hO5
      have HEW : Hid (∀ wx, Only (wr.heap.size ≤ ·) wr wx → Edg wx oC nC C) := Lib.hid (fun wx ho => HE.out.old ho (fun i hi hc => by have hc' : wr.heap.size ≤ i := hc; omega))
      obtain ⟨W, hW⟩ : ∃ W : World, W = wr := ⟨_, rfl⟩
      subst hW
      clear hI5 hO5
      go_loopw [6, 27] (fun v q wr => ∃ k : Nat, k ≤ nC ∧ q = .int .i64 k ∧ IR wr W.heap.size v (flK C k) ∧ Only (W.heap.size ≤ ·) W wr) (fun _ q _ => nC - (intOf q).toNat)
      case atStart => exact ⟨0, by omega, rfl, HI5.out, HO5.out.lift⟩
      case round =>
        obtain ⟨k, hk, rfl, hI, hO⟩ := hrel
        obtain ⟨ov, cv, hv⟩ := rowForm hI
        subst hv
        have hlk := HT.out k
        obtain ⟨q, hq⟩ : ∃ q, (flK C k).length = q := ⟨_, rfl⟩
        have hI' : IR wr W.heap.size (.slice ov q cv) (flK C k) := by rw [← hq]; exact hI
        have HI := Lib.hid hI'
        have HQ := Lib.hid hq
        have HO := Lib.hid hO
        have HSZ : Hid (W.heap.size ≤ wr.heap.size) := Lib.hid hO.size
        rw [hq] at hlk ⊢
        clear hI hI' hq
        by_cases hkn : k < nC
        · have hkl : k < C.length := by omega
          obtain ⟨b1, o1, ra, rn, rc, e1, c1, hi1⟩ := (HEW.out wr hO).cell k hkl
          subst e1
          have h01 : (0 : Int) ≤ (k : Int) := Int.natCast_nonneg k
          have h02 : (k : Int) < (nC : Int) := by omega
          have h03 : (k : Int).toNat = k := Int.toNat_natCast k
          have hrl := hi1.len
          have hs2 := HT.out (k + 1)
          have hfs := flK_succ hkl
          have hs3 : (flK C (k + 1)).length = q + rn := by rw [hfs, List.length_append, HQ.out, hrl]
          rw [hs3] at hs2
          have HFS := Lib.hid hfs
          have HI1 := Lib.hid hi1
          have hqr : q + rn ≤ 10000000000000 := by omega
          clear hi1 hrl hs3 hfs hO
          go_wp2_with (at_builtin; refine wpList_append_ints rfl _ _ rfl W.heap.size q (.slice ov q cv) ((flK C k).map iV) rfl (by have hh := HI.out; unfold IR at hh; rw [HQ.out] at hh; exact hh) ra rn rc _ rfl HI1.out hqr HSZ.out ?_; intro v' w8 hown8 hg8 hat8)
          have HN8 : Hid (IR w8 W.heap.size v' (flK C (k + 1))) := Lib.hid (by
            unfold IR
            rw [HFS.out, List.map_append, List.length_append, HQ.out, HI1.out.len]
            exact hown8)
          have HO8 := Lib.hid (HO.out.trans (Only.grown (K := (W.heap.size ≤ ·)) hg8 (fun g hg => (World.ownsRow.lt HI.out g hg).1)))
          clear hown8 hg8 hat8
          go_wp2
          go_roundw
          case rel => exact ⟨k + 1, by omega, by go_num, HN8.out, HO8.out⟩
          case measure => simp [intOf]; omega
        · have hkn2 : nC = k := by omega
          subst hkn2
          have HFI := Lib.hid (show Only (fun _ => False) W wr from ⟨hO.os, hO.tape, hO.output, hO.size, fun i hi _ => hO.block i hi (fun hc => by have hc' : W.heap.size ≤ i := hc; omega)⟩)
          clear hO
          go_wp2
          go_ret
          have h5 := HI.out
          have h6 := HQ.out
          rw [HFA.out] at h5 h6
          rw [h6]
          exact ⟨ov, cv, rfl, h5, HFI.out⟩
end Go.Proofs.YtigmdiagdlbdpaaGreat
