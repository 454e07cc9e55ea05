/-
  WALKS. The graph: Components.
-/
import Derived.Test.YtigmdiagdlbdpaaGreatGbT
import Derived.Test.YtigmdiagdlbdpaaGreatGbP
import Derived.Test.YtigmdiagdlbdpaaGreatGor
namespace Go.Proofs.YtigmdiagdlbdpaaGreat
open Go.RowKit Go.Maps
def compsE (E : List (List Int)) : List (List Nat) := if validE E then compsG (natE E) else []
theorem Edg.nil (w : World) : Edg w .none 0 [] := ⟨rfl, fun _k hk => absurd hk (Nat.not_lt_zero _)⟩
set_option maxRecDepth 100000 in
set_option maxHeartbeats 8000000 in
theorem Components_p (w : World) (oE : Option Addr) (n cE : Nat) (E : List (List Int)) (h : Edz w oE n E) (hn : n ≤ 1000000) (hr : ∀ l ∈ E, l.length ≤ 1000000) : Calls Tryz.prog 27 #[.agg #[.slice oE n cE]] w fun e w' => ∃ oc nc cc, e = .returned (.slice oc nc cc) ∧ EdgB w' w.heap.size oc nc (compsE E) ∧ Only (fun _ => False) w w' := by
  have hlen := h.len
  have hn9 : n ≤ 1000000000 := by omega
  have hr9 : ∀ l ∈ E, l.length ≤ 1000000000 := fun l hl => by have := hr l hl; omega
  have hA : Only (fun _ => False) w (w.alloc (.cells #[.slice oE n cE] 49)) := (Only.refl _ _).alloc _
  have hEA := h.keep hA
  have HB : Hid (∀ w', Only (fun _ => False) (w.alloc (.cells #[.slice oE n cE] 49)) w' → w'.cell? ⟨w.heap.size, 0, none⟩ = some (.slice oE n cE)) := Lib.hid (fun w' ho => (blk_c ((ho.block w.heap.size (by show _ < (Array.push _ _).size; rw [Array.size_push]; omega) (fun hc => hc)).trans (new_block w _)) rfl).1)
  cases hv : validE E
  · have HR : Hid (compsE E = []) := Lib.hid (by unfold compsE; rw [hv]; rfl)
    have HV := Lib.hid hv
    clear hv
    go_enter Tryz.func27, Tryz.ntmps27
    go_wp2_with (go_at_call 44; (refine (isValid_p _ oE n cE E hEA hn9 hr9).mono ?_); rintro e w5 ⟨rfl, hO5⟩; have q5 := HB.out _ hO5; have hv := HV.out)
    go_ret
    rw [HR.out]
    exact ⟨none, 0, 0, rfl, EdgB.nil _ _, hA.trans hO5⟩
  · have hG1 := hEA.edg hv
    have hG2 := valid_G hv
    have hG3 := natE_len E
    have hG4 := nat_deg hr
    have hGn : (natE E).length = n := by rw [hG3, hlen]
    have hRR : compsE E = compsG (natE E) := by unfold compsE; rw [hv]; rfl
    obtain ⟨G, hG⟩ : ∃ G, natE E = G := ⟨_, rfl⟩
    rw [hG] at hG1 hG2 hG4 hGn hRR
    have hno := nums_ok hG2 (List.range n) (fun v hv => by rw [hGn]; exact List.mem_range.1 hv)
    unfold compsG at hRR
    rw [hGn] at hRR
    obtain ⟨N, hN⟩ : ∃ N, numbersS G (List.range n) = N := ⟨_, rfl⟩
    rw [hN] at hno hRR
    have hNl : N.length = n := by rw [hno.len, hGn]
    have HNB := Lib.hid (show ∀ x, gt N x ≤ N.length from fun x => by rw [hno.len]; exact hno.bnd x)
    have HNG := Lib.hid hno.len
    have HR := Lib.hid hRR
    have HV := Lib.hid hv
    have HG1 := Lib.hid hG1
    have HG2 := Lib.hid hG2
    have HG4 := Lib.hid hG4
    have HGn := Lib.hid hGn
    have HN := Lib.hid hN
    have HNL := Lib.hid hNl
    clear hv hRR hG3 hG hG1 hG2 hG4 hGn hN hNl hno
    have HNO : Hid (∀ wx, Calls Tryz.prog 47 #[.agg #[.slice oE n cE]] wx fun e w' => ∃ oS cS, e = .returned (.slice oS n cS) ∧ Ints w' oS n (List.range n) ∧ Only (fun _ => False) wx w') := Lib.hid (fun wx => (nodes_p wx oE n cE hn9).mono (by
      rintro e w7 ⟨v7, rfl, hI, hO⟩
      obtain ⟨oS, cS, hv⟩ := rowForm hI
      rw [List.length_range] at hv
      subst hv
      exact ⟨oS, cS, rfl, hI.ints, hO⟩))
    have HNP : Hid (∀ wx oS cS, Only (fun _ => False) (w.alloc (.cells #[.slice oE n cE] 49)) wx → Ints wx oS n (List.range n) → Calls Tryz.prog 46 #[.agg #[.slice oE n cE], .slice oS n cS] wx fun e w' => ∃ oN cN, e = .returned (.slice oN n cN) ∧ Ints w' oN n N ∧ Only (fun _ => False) wx w') := Lib.hid (fun wx oS cS ho hS => by
      have h1 : Edg wx oE G.length G := by rw [HGn.out]; exact HG1.out.old ho (fun _ _ hc => hc)
      have h3 := numbers_p wx oE cE G oS n cS (List.range n) h1 HG2.out (by rw [HGn.out]; exact hn) (fun u => by have := HG4.out u; omega) hS hn9 (fun v hv => by rw [HGn.out]; exact List.mem_range.1 hv)
      rw [HGn.out, HN.out] at h3
      refine h3.mono ?_
      rintro e w7 ⟨v7, rfl, hI, hO⟩
      obtain ⟨oN, cN, hv⟩ := rowForm hI
      rw [HNL.out] at hv
      subst hv
      exact ⟨oN, cN, rfl, hI.ints, hO⟩)
    have HOP : Hid (∀ wx oN cN, Only (fun _ => False) (w.alloc (.cells #[.slice oE n cE] 49)) wx → Ints wx oN n N → Calls Tryz.prog 45 #[.agg #[.slice oE n cE], .slice oN n cN] wx fun e w' => ∃ oc nc cc, e = .returned (.slice oc nc cc) ∧ EdgB w' w.heap.size oc nc (ordN N G) ∧ Only (fun _ => False) wx w') := Lib.hid (fun wx oN cN ho hS =>
      (ordered_p wx oE n cE G oN cN N (HG1.out.old ho (fun _ _ hc => hc)) HG2.out hn HG4.out HNG.out hS HNB.out).mono (by
        rintro e w' ⟨oc, nc, cc, h1, h2, h3⟩
        have hs : (w.alloc (.cells #[.slice oE n cE] 49)).heap.size = w.heap.size + 1 := by show (Array.push _ _).size = _; rw [Array.size_push]
        exact ⟨oc, nc, cc, h1, h2.mono (by have := ho.size; omega), h3⟩))
    go_enter Tryz.func27, Tryz.ntmps27
    go_wp2_with (go_at_call 44; (refine (isValid_p _ oE n cE E hEA hn9 hr9).mono ?_); rintro e w5 ⟨rfl, hO5⟩; have q5 := HB.out _ hO5; have hv := HV.out)
    go_region_with (first | (go_at_call 47; (refine (HNO.out _).mono ?_); rintro e w6 ⟨oS, cS, rfl, hS6, hO6⟩; have hO6' := hO5.drew.trans hO6; have q6 := HB.out _ hO6') | (go_at_call 46; (refine (HNP.out w6 oS cS hO6' hS6).mono ?_); rintro e w7 ⟨oN, cN, rfl, hI7, hO7⟩; have hO7' := hO6'.trans hO7; have q7 := HB.out _ hO7') | (go_at_call 45; (refine (HOP.out w7 oN cN hO7' hI7).mono ?_); rintro e w8 ⟨oc, nc, cc, rfl, hC8, hO8⟩))
    all_goals
      go_wp2
      go_ret
      rw [HR.out]
      exact ⟨oc, nc, cc, rfl, hC8, hA.trans (hO7'.trans hO8)⟩
end Go.Proofs.YtigmdiagdlbdpaaGreat
