/-
  WALKS. The program's Cycle.
-/
import Derived.Test.YtigmdiagdlbdpaaGreatMgq
namespace Go.Proofs.YtigmdiagdlbdpaaGreat
open Go.RowKit Go.Maps
/-- The names of the smallest of the shortest cycles, if the list has no other fault. -/
def cycM (l : List Md) : List Nm := match conA l with
  | some _ => []
  | none => (cyP (grP l)).map (nAt (nsP l))
theorem boxes2 {w5 w6 : World} {v0 v1 : Value} {o : Obj} (ho : Only (fun _ => False) ((w5.alloc (.cells #[v0, v1] 51)).alloc o) w6) : w6.cell? ⟨w5.heap.size, 0, none⟩ = some v0 ∧ w6.cell? ⟨w5.heap.size, 1, none⟩ = some v1 :=
  ⟨(blk_c (k := 0) (box5 ho) rfl).1, (blk_c (k := 1) (box5 ho) rfl).1⟩
set_option maxRecDepth 100000 in
set_option maxHeartbeats 4000000 in
theorem Cycle_p (w : World) (oa : Option Addr) (n ca : Nat) (l : List Md) (h : Mdz w oa n l) (hok : n ≤ 32 → OkL l) : Calls Tryz.prog 19 #[.slice oa n ca] w fun e w' => ∃ oc cc, e = .returned (.slice oc (cycM l).length cc) ∧ SR w' w.heap.size (.slice oc (cycM l).length cc) (cycM l) ∧ Only (fun _ => False) w w' := by
  have hln := h.len
  have HCA := consistent_any w oa n ca l h hok
  cases hF : conA l with
  | some x =>
    obtain ⟨c, s⟩ := x
    have hc0 := conA_pos hF
    have HC : Hid (Calls Tryz.prog 38 #[.slice oa n ca] w fun e w' => e = .returned (.tuple #[prN, faV c s]) ∧ Only (fun _ => False) w w') := Lib.hid (HCA.mono (by
      intro e w' hq
      unfold prQ at hq
      rw [hF] at hq
      exact hq))
    have HM : Hid (cycM l = []) := Lib.hid (by unfold cycM; rw [hF])
    have hci : ((c : Int) == 0) = false := by simp; omega
    have hcn : ¬ (c : Int) = 0 := by omega
    clear h hok HCA hF
    go_enter Tryz.func19, Tryz.ntmps19
    go_wp2_with (go_at_call 38; (refine HC.out.mono ?_); rintro e w5 ⟨rfl, hO5⟩)
    go_ret
    rw [HM.out]
    exact ⟨none, 0, rfl, World.ownsRow_nil _ _ _ _, (hO5.alloc _).alloc _⟩
  | none =>
    obtain ⟨hl32, hnd, him⟩ := conA_small hF
    have hGV := grP_valid l
    have hGD := grP_deg l hl32
    have hGL := grP_len l
    have hCY : ∀ x ∈ cyP (grP l), x < n := fun x hx => by
      have hne : cyP (grP l) ≠ [] := fun e => by rw [e] at hx; cases hx
      obtain ⟨i, hi, e⟩ := List.getElem_of_mem hx
      have h5 := (cyP_cyc hGV hne).lt i hi
      rw [gt_at hi, e] at h5
      omega
    have hcs : (cyP (grP l)).length ≤ 1000000 := by
      have := cycS_len hGV (P := cyB (grP l)) (fun k hk => cyB_iff hGV hk) (grP l).length (Nat.le_refl _)
      show (cycS _ _ _).length ≤ _
      omega
    have hcm : cycM l = (cyP (grP l)).map (nAt (nsP l)) := by unfold cycM; rw [hF]
    obtain ⟨C, hC⟩ : ∃ C, cyP (grP l) = C := ⟨_, rfl⟩
    have HC : Hid (Calls Tryz.prog 38 #[.slice oa n ca] w fun e w' => ∃ oN cN oE cE, (e = .returned (.tuple #[prV oN n cN oE n cE, faV 0 []]) ∧ SR w' w.heap.size (.slice oN n cN) (nsP l) ∧ EdgB w' w.heap.size oE n (grP l)) ∧ Only (fun _ => False) w w') := Lib.hid (HCA.mono (by
      intro e w' hq
      unfold prQ at hq
      rw [hF] at hq
      obtain ⟨⟨oN, cN, oE, cE, h1, h2, h3⟩, h4⟩ := hq
      exact ⟨oN, cN, oE, cE, ⟨h1, h2, h3⟩, h4⟩))
    have HSC : Hid (∀ wx oE cE, Edg wx oE n (grP l) → Calls Tryz.prog 39 #[.agg #[.slice oE n cE]] wx fun e w' => ∃ oa ca, e = .returned (.slice oa C.length ca) ∧ Ints w' oa C.length C ∧ Only (fun _ => False) wx w') := Lib.hid (fun wx oE cE he => by
      rw [← hC]
      refine (smallestCycle_p wx oE n cE (grP l) he hGV (by omega) hGD).mono ?_
      rintro e w' ⟨oa, ca, h4, h5, h6⟩
      exact ⟨oa, ca, h4, h5.ints, h6⟩)
    have HLI : Hid (∀ wx oN cN oE cE on ck, Strz wx oN n (nsP l) → Ints wx on C.length C → Calls Tryz.prog 25 #[prV oN n cN oE n cE, .slice on C.length ck] wx fun e w' => ∃ oa ca, e = .returned (.slice oa C.length ca) ∧ SR w' wx.heap.size (.slice oa C.length ca) (cycM l) ∧ Only (fun _ => False) wx w') := Lib.hid (fun wx oN cN oE cE on ck hs hi => by
      rw [hcm, hC]
      exact list_p wx oN n cN oE n cE (nsP l) hs on C.length ck C hi (fun x hx => hCY x (by rw [hC]; exact hx)) (by omega) (by rw [← hC]; exact hcs))
    have HCL : Hid ((cycM l).length = C.length) := Lib.hid (by rw [hcm, hC, List.length_map])
    clear h hok HCA hF hGV hGD hGL hCY hcm hC hcs
    go_enter Tryz.func19, Tryz.ntmps19
    go_wp2_with (go_at_call 38; (refine HC.out.mono ?_); rintro e w5 ⟨oN, cN, oE, cE, ⟨rfl, hS5, hE5⟩, hO5⟩; have HO5 := Lib.hid hO5; have HS5 := Lib.hid hS5; have HE5 := Lib.hid hE5; clear hO5 hS5 hE5)
    obtain ⟨Z, hZ⟩ : ∃ Z, (w5.alloc (.cells #[.slice oN n cN, .slice oE n cE] 51)).alloc (.cells #[.int .i64 0, .string ⟨#[]⟩, .int .i64 0, .int .i64 0] 28) = Z := ⟨_, rfl⟩
    have hOZ : Only (fun _ => False) w5 Z := by rw [← hZ]; exact ((Only.refl _ _).alloc _).alloc _
    have HBX : Hid (∀ x, Only (fun _ => False) Z x → x.cell? ⟨w5.heap.size, 0, none⟩ = some (.slice oN n cN) ∧ x.cell? ⟨w5.heap.size, 1, none⟩ = some (.slice oE n cE)) := Lib.hid (fun x hx => boxes2 (hZ ▸ hx))
    have hx1 : Only (fun _ => False) Z Z.drew := (Only.refl _ _).drew
    have HX1 := Lib.hid hx1
    obtain ⟨m0, m1⟩ := HBX.out Z (Only.refl _ _)
    have HEZ : Hid (∀ x, Only (fun _ => False) Z x → Edg x oE n (grP l)) := Lib.hid (fun x hx => HE5.out.edg.old (hOZ.trans hx) (fun _ _ hc => hc))
    have HSZ : Hid (∀ x, Only (fun _ => False) Z x → Strz x oN n (nsP l)) := Lib.hid (fun x hx => HS5.out.strz.old (hOZ.trans hx) (fun _ _ hc => hc))
    have HOW : Hid (∀ x, Only (fun _ => False) Z x → Only (fun _ => False) w x ∧ w.heap.size ≤ x.heap.size) := Lib.hid (fun x hx => ⟨HO5.out.trans (hOZ.trans hx), (HO5.out.trans (hOZ.trans hx)).size⟩)
    rw [hZ]
    clear hZ hOZ hx1
    go_wp2
    go_region_with
      (first | (go_at_call 39; (refine (HSC.out _ oE cE (HEZ.out _ HX1.out)).mono ?_); rintro e w6 ⟨oC, cC, rfl, hC6, hO6⟩; have hx6 := HX1.out.trans hO6; obtain ⟨m60, m61⟩ := HBX.out _ hx6) | (go_at_call 25; (refine (HLI.out w6 oN cN oE cE oC cC (HSZ.out _ hx6) hC6).mono ?_); rintro e w8 ⟨oL, cL, rfl, hL8, hO8⟩; have hx8 := hx6.trans hO8; obtain ⟨m80, m81⟩ := HBX.out _ hx8))
    all_goals
      have HL8 := Lib.hid hL8
      have HX8 := Lib.hid (HOW.out _ hx8)
      have HX6 := Lib.hid (HOW.out _ hx6)
      clear hL8 hx8 hx6 hO8 hO6 hC6 m0 m1 m60 m61 m80 m81
      go_wp2
      go_ret
      rw [HCL.out]
      exact ⟨oL, cL, rfl, rowMono HL8.out HX6.out.2, HX8.out.1⟩
end Go.Proofs.YtigmdiagdlbdpaaGreat
