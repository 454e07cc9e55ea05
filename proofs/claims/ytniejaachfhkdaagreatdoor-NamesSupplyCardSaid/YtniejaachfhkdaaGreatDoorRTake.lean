/-
  WALKS. The reference's supply: Take, NewSupply.
-/
import Derived.Test.YtniejaachfhkdaaGreatDoorRSup
import Derived.Deep.LoopGhost
import Derived.Deep.AppendLies
import Derived.Deep.RegionLaw
namespace Go.Proofs.YtniejaachfhkdaaGreatDoor
open Go.RowKit Go.Maps
set_option maxRecDepth 100000 in
set_option maxHeartbeats 1000000 in
theorem rTake_no (W w : World) (r : Nat) (v : Value) (ns : List ByteArray) (s : ByteArray) (hn : ns.length ≤ 1000000) (hS : RS W r v ns w) (hh : hasL ns s = true) :
    Calls Tryz.prog 51 #[.pointer (some ⟨r, 0, none⟩), .string s] w fun e w' => e = .returned (.bool false) ∧ w = w' := by
  obtain ⟨oa, ca, rfl⟩ := hS.form
  have HH := Lib.hid hh
  clear hh
  have c0 := hS.cell0
  have c1 := hS.cell1
  have hst := hS.strs
  go_enter Tryz.func51, Tryz.ntmps51
  go_wp2_with (first | (go_at_call 88; refine (Has_q _ _ _ _ _ _ (by omega) hst).mono ?_; rw [HH.out]; rintro e w1 ⟨rfl, rfl⟩))
  go_ret
  exact ⟨rfl, rfl⟩
set_option maxRecDepth 100000 in
set_option maxHeartbeats 1000000 in
theorem rTake_yes (W w : World) (r : Nat) (v : Value) (ns : List ByteArray) (s : ByteArray) (hn : ns.length ≤ 1000000) (hS : RS W r v ns w) (hh : hasL ns s = false) :
    Calls Tryz.prog 51 #[.pointer (some ⟨r, 0, none⟩), .string s] w fun e w' => e = .returned (.bool true) ∧ ∃ v', RS W r v' (ns ++ [s]) w' ∧ Only (rK r v) w w' ∧ (v'.ownBlock = v.ownBlock ∨ v'.ownBlock = some (w.heap.size + 1)) := by
  obtain ⟨oa, ca, rfl⟩ := hS.form
  have HH := Lib.hid hh
  clear hh
  have c0 := hS.cell0
  have c1 := hS.cell1
  have hst := hS.strs
  have hbz := hS.q.bel.size
  obtain ⟨i0, hi, hz0, hz1, hz2⟩ := info_parts infoStr
  go_enter Tryz.func51, Tryz.ntmps51
  go_wp2_with (first | (go_at_call 88; refine (Has_q _ _ _ _ _ _ (by omega) hst).mono ?_; rw [HH.out]; rintro e w1 ⟨rfl, rfl⟩) | (at_builtin; refine wpList_append_own_at _ rfl _ _ 30 rfl W.heap.size 9 i0 (.string ⟨#[]⟩) 1 16 Tryz.underlying30 hi hz0 hz1 hz2 rfl (by decide) (.slice oa ns.length ca) _ _ rfl (hS.own.alloc _) ⟨w.heap.size, 0, none⟩ 1 1 [.string s] rfl rfl (cell_one_new _ _ _) (one_str s) (by unfold maxLen; omega) (by omega) (by simp; omega) ?_; intro v' w' hown' hgrow hnn hob; clear hnn; obtain ⟨ob, cb, rfl⟩ := row_form hown'; have HOB := Lib.hid hob; clear hob; have HST := hS.stored ((Below.refl _ w).alloc (Nat.le_refl _) _) hown' hgrow HOB.out; obtain ⟨d0, d1⟩ := hS.after hgrow))
  go_ret
  exact ⟨rfl, _, HST.1, HST.2, by simpa using HOB.out⟩
def rStartW (w : World) : World := w.alloc (.cells #[.bool true, .slice none 0 0] 69)
theorem RS.start {W w : World} (hq : Q W w) : RS W w.heap.size (.slice none 0 0) [] (rStartW w) :=
  ⟨hq.below ((Below.refl _ _).alloc (Nat.le_refl _) _), hq.bel.size, heap_new _ _, World.ownsRow_nil _ _ _ _, by simp [Value.ownBlock]⟩
set_option maxRecDepth 100000 in
set_option maxHeartbeats 2000000 in
theorem rNewSupply_q (W w : World) (n : Nat) (ob : Option Addr) (c : Nat) (ss : List ByteArray) (hq : Q W w) (hn : n ≤ 1000000) (hr : Strs w ob n ss) :
    Calls Tryz.prog 20 #[.slice ob n c] w fun e w' => ∃ r v, e = .returned (.pointer (some ⟨r, 0, none⟩)) ∧ RS W r v ss w' ∧ Below w.heap.size w w' ∧ (∀ i, rK r v i → w.heap.size ≤ i) := by
  have HLEN := Lib.hid hr.len
  have HS0 := RS.start hq
  have HB0 : Below w.heap.size w (rStartW w) := (Below.refl _ _).alloc (Nat.le_refl _) _
  have hbz := hq.bel.size
  obtain ⟨i0, hi, hz0, hz1, hz2⟩ := info_parts infoStr
  go_enter Tryz.func20, Tryz.ntmps20
  go_wp2
  go_loopw [4] (fun i wr => ∃ (k : Nat) (oa : Option Addr) (ca : Nat), k ≤ n ∧ i = .int .i64 k ∧ RS W w.heap.size (.slice oa (ss.take k).length ca) (ss.take k) wr ∧ Below w.heap.size w wr ∧ (∀ i, rK w.heap.size (.slice oa (ss.take k).length ca) i → w.heap.size ≤ i)) (fun i _ => n - (intOf i).toNat)
  case atStart => exact ⟨0, none, 0, Nat.zero_le _, rfl, HS0, HB0, by rintro i (rfl | h); exact Nat.le_refl _; cases h⟩
  case round =>
    obtain ⟨k, oa, ca, hk, rfl, hS, hB, hK⟩ := hrel
    by_cases hlt : k < n
    · have hkl : k < ss.length := by rw [HLEN.out]; exact hlt
      obtain ⟨b, o, rfl, hc, hbl⟩ := hr.cell k hkl
      obtain ⟨x, hx⟩ : ∃ x, x = ss[k] := ⟨_, rfl⟩
      have hcw : wr.cell? ⟨b, o + k, none⟩ = some (.string x) := by rw [hx]; exact (hB.cell hbl).trans hc
      have HX := Lib.hid hx
      clear hx hc
      have HTK : Hid (ss.take (k + 1) = ss.take k ++ [x]) := Lib.hid (by rw [List.take_succ_eq_append_getElem hkl, ← HX.out])
      generalize hns : ss.take k = ns at hS hK HTK
      have hnl : ns.length = k := by rw [← hns, List.length_take]; omega
      clear hns
      subst hnl
      have c0 := hS.cell0
      have c1 := hS.cell1
      go_wp2_with fail
      have hSd : RS W w.heap.size (.slice oa ns.length ca) ns wr.drew := hS.below (Below.refl _ _).drew
      have d1 := hSd.cell1
      have d2 := (hS.below ((Below.refl _ wr).alloc (Nat.le_refl _) (.cells #[.string x] 9))).cell1
      have hdw : wr.drew.cell? ⟨b, o + ns.length, none⟩ = some (.string x) := hcw
      have hrz : W.heap.size ≤ wr.heap.size := hS.q.bel.size
      go_region_law (refine step_append_lies _ rfl (.tmp 17) (.tmp 22) 30 rfl W.heap.size 9 i0 (.string ⟨#[]⟩) 1 16 Tryz.underlying30 hi hz0 hz1 hz2 rfl (by decide) (.slice oa ns.length ca) ns.length (ns.map Value.string) (by simp [Act.eval]) (hSd.own.alloc _) ⟨wr.heap.size, 0, none⟩ 1 1 [.string x] (by simp [Act.eval]) rfl (cell_one_new _ _ _) (one_str x) (by omega) (by unfold maxLen; omega) (by omega) (by show W.heap.size ≤ (wr.heap.push _).size; rw [Array.size_push]; omega) _ rfl ?_; intro g cg w' hown' hgrow hat hlt'; obtain ⟨f0, f1⟩ := hSd.after hgrow)
      all_goals
        have HST := hS.stored (((Below.refl _ wr).alloc (Nat.le_refl _) _).drew) hown' hgrow (by rcases hat with h | h; exact .inl (by rw [h]; rfl); exact .inr (by rw [h]; rfl))
        have hg0 : w.heap.size ≤ g := by
          rcases hat with h | h
          · exact hK g (.inr h)
          · have h1 := hB.size
            have h2 : g = (wr.heap.push (Obj.cells #[.string x] 9)).size := h
            rw [Array.size_push] at h2
            omega
        have hB' := hB.trans (HST.2.below hB.size (fun i hi => hK i hi))
        have HR := Lib.hid HST.1
        clear HST hat hgrow hown' hlt' f0 f1 hdw d1 d2 hSd
        go_wp2
        go_roundw
        case rel => exact ⟨ns.length + 1, some ⟨g, 0, none⟩, cg, by omega, by go_num, by rw [HTK.out, List.length_append]; exact HR.out, hB', by rintro i (rfl | h); exact Nat.le_refl _; cases h; exact hg0⟩
        case measure => simp [intOf]; omega
    · go_wp2
      go_ret
      have e : k = n := by omega
      subst e
      rw [List.take_of_length_le (by rw [HLEN.out]; exact Nat.le_refl _)] at hS hK
      exact ⟨_, _, rfl, hS, hB, hK⟩
end Go.Proofs.YtniejaachfhkdaaGreatDoor
