/-
  WALKS. GraphComponents.
-/
import Derived.Test.YtijohaeiiidcpaaGbRc
import Derived.Test.YtijohaeiiidcpaaGbLw
namespace Go.Proofs.Ytijohaeiiidcpaa
open Go.RowKit Go.Maps
theorem comps_len (E : List (List Int)) : (compsE E).length ≤ E.length ∧ ∀ k, (lat (compsE E) k).length ≤ E.length := by
  unfold compsE
  cases hv : validE E
  · exact ⟨Nat.zero_le _, fun k => Nat.zero_le _⟩
  · simp only [if_true]
    have hP := comps_parts (valid_G hv)
    have h1 := parts_len hP
    rw [natE_len] at h1
    refine ⟨h1, fun k => ?_⟩
    have h2 := parts_row hP k
    rw [natE_len] at h2
    exact h2
set_option maxRecDepth 100000 in
set_option maxHeartbeats 16000000 in
theorem GraphComponents_walk (w : World) (oE : Option Addr) (n cE : Nat) (E : List (List Int)) (h : Edz w oE n E) (hn : n ≤ 140737488355328) (hr : ∀ l ∈ E, l.length ≤ 140737488355328) : Calls Try.prog 3 #[.agg #[.slice oE n cE]] w fun e w' => e = .returned (.bool true) ∧ Only (fun _ => False) w w' := by
  have hlen := h.len
  have hA : Only (fun _ => False) w (w.alloc (.cells #[.slice oE n cE] 24)) := (Only.refl _ _).alloc _
  have hEA := h.keep hA
  have HB : Hid (∀ w', Only (fun _ => False) (w.alloc (.cells #[.slice oE n cE] 24)) w' → w'.cell? ⟨w.heap.size, 0, none⟩ = some (.slice oE n cE)) := Lib.hid (fun w' ho => (blk_c ((ho.block w.heap.size (by show _ < (Array.push _ _).size; rw [Array.size_push]; omega) (fun hc => hc)).trans (new_block w _)) rfl).1)
  cases hs : smallE E
  · have HS := Lib.hid hs
    clear hs
    go_enter Try.func3, Try.ntmps3
    go_wp2_with (first | (go_at_call 9; (refine (small_p _ oE n cE E hEA hn hr false HS.out).mono ?_); rintro e w5 ⟨rfl, hO5⟩; have q5 := HB.out _ hO5) | (go_at_call 10; (refine (example_p _).mono ?_); rintro e w6 ⟨rfl, hO6⟩))
    go_ret
    exact ⟨rfl, hA.trans (hO5.trans hO6)⟩
  · obtain ⟨hb1, hb2⟩ := small_bound hs
    have hn6 : n ≤ 1000000 := by omega
    have hr6 : ∀ l ∈ E, l.length ≤ 1000000 := fun l hl => by have := hb2 l hl; omega
    have HS := Lib.hid hs
    obtain ⟨hcl, hcr⟩ := comps_len E
    obtain ⟨C, hC⟩ : ∃ C, compsE E = C := ⟨_, rfl⟩
    have HR1 : Hid (∀ wx, Only (fun _ => False) (w.alloc (.cells #[.slice oE n cE] 24)) wx → Calls Try.prog 12 #[.agg #[.slice oE n cE]] wx fun e w' => ∃ oa na ca, e = .returned (.slice oa na ca) ∧ Edg w' oa na C ∧ Only (fun _ => False) wx w') := Lib.hid (fun wx ho => (Components_p wx oE n cE E (hEA.keep ho) hn6 hr6).mono (by
      rw [hC]
      rintro e w' ⟨oa, na, ca, rfl, h2, h3⟩
      exact ⟨oa, na, ca, rfl, h2.edg, h3⟩))
    have HR2 : Hid (∀ wx, Only (fun _ => False) (w.alloc (.cells #[.slice oE n cE] 24)) wx → Calls Try.prog 13 #[.agg #[.slice oE n cE]] wx fun e w' => ∃ oa na ca, e = .returned (.slice oa na ca) ∧ Edg w' oa na C ∧ Only (fun _ => False) wx w') := Lib.hid (fun wx ho => (rComponents_p wx oE n cE E (hEA.keep ho) hn6 hr6).mono (by
      rw [hC]
      rintro e w' ⟨oa, na, ca, rfl, h2, h3⟩
      exact ⟨oa, na, ca, rfl, h2.edg, h3⟩))
    rw [hC] at hcl hcr
    have HCR : Hid (∀ k, (lat C k).length ≤ 1000000000) := Lib.hid (fun k => by have := hcr k; omega)
    have HCC : Hid ((C == C) = true) := Lib.hid (by simp)
    have HK : Hid (∀ a b, (Only (fun _ => False) (w.alloc (.cells #[.slice oE n cE] 24)) a ∧ a.cell? ⟨w.heap.size, 0, none⟩ = some (.slice oE n cE)) → Only (fun _ => False) a b → (Only (fun _ => False) (w.alloc (.cells #[.slice oE n cE] 24)) b ∧ b.cell? ⟨w.heap.size, 0, none⟩ = some (.slice oE n cE))) := Lib.hid (fun a b h1 h2 => ⟨h1.1.trans h2, HB.out _ (h1.1.trans h2)⟩)
    clear hs hC hcr
    go_enter Try.func3, Try.ntmps3
    go_wp2_with (go_at_call 9; (refine (small_p _ oE n cE E hEA hn hr true HS.out).mono ?_); rintro e w5 ⟨rfl, hO5⟩; have q5 := HB.out _ hO5)
    have hs0 : Only (fun _ => False) (w.alloc (.cells #[.slice oE n cE] 24)) w5.drew ∧ w5.drew.cell? ⟨w.heap.size, 0, none⟩ = some (.slice oE n cE) := ⟨hO5.drew, HB.out _ hO5.drew⟩
    go_region_held (fun wx => Only (fun _ => False) (w.alloc (.cells #[.slice oE n cE] 24)) wx ∧ wx.cell? ⟨w.heap.size, 0, none⟩ = some (.slice oE n cE)) (assumption)
      (first | (go_at_call 12; (refine (HR1.out _ (And.left (by assumption))).mono ?_); rintro e w6 ⟨oa, na, ca, rfl, hI6, hO6⟩; have hs6 := HK.out _ _ (by assumption) hO6) | (go_at_call 13; (refine (HR2.out _ (And.left (by assumption))).mono ?_); rintro e w7 ⟨ob, nb, cb, rfl, hI7, hO7⟩; have hs7 := HK.out _ _ (by assumption) hO7) | (go_at_call 11; (refine (Same_p _ oa ob na nb ca cb C C (by first | exact hI6 | exact hI6.old hO7 (fun _ _ hc => hc)) (by first | exact hI7 | exact hI7.old hO6 (fun _ _ hc => hc)) (by first | (have := hI6.len; omega)) HCR.out true HCC.out).mono ?_); rintro e w8 ⟨rfl, hO8⟩; have hs8 := HK.out _ _ (by assumption) hO8) | (go_at_call 10; (refine (example_p _).mono ?_); rintro e w11 ⟨rfl, hO11⟩; have hs11 := HK.out _ _ (by assumption) hO11))
    all_goals
      go_wp2
      go_ret
      exact ⟨rfl, hA.trans hs11.1⟩
end Go.Proofs.Ytijohaeiiidcpaa
