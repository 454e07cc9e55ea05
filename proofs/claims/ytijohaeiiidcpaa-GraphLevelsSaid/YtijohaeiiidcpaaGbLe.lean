/-
  WALKS. GraphLevels.
-/
import Derived.Test.YtijohaeiiidcpaaGbLv
import Derived.Test.YtijohaeiiidcpaaGbZ
import Derived.Test.YtijohaeiiidcpaaGbLw
namespace Go.Proofs.Ytijohaeiiidcpaa
open Go.RowKit Go.Maps
theorem levels_len {E : List (List Int)} (hn : E.length ≤ 60) (hr : ∀ l ∈ E, l.length ≤ 2000) : (levelsE E).1.length ≤ 1000000 ∧ ∀ k, (lat (levelsE E).1 k).length ≤ 1000000 := by
  unfold levelsE
  cases hv : validE E
  · exact ⟨Nat.zero_le _, fun k => Nat.zero_le _⟩
  · simp only [if_true]
    unfold levelsG
    split
    · exact ⟨Nat.zero_le _, fun k => Nat.zero_le _⟩
    · have h1 := fun x => lonK_le (G := natE E) (C := compsG (natE E)) (n := E.length) (nat_deg hr) _ (Nat.le_refl _) x
      have h2 := parts_len (comps_parts (valid_G hv))
      rw [natE_len] at h2
      have h3 : (compsG (natE E)).length * 2000 ≤ 60 * 2000 := Nat.mul_le_mul_right _ (by omega)
      constructor
      · have h4 := levK_len (b := 120000) (fun x => Nat.le_trans (h1 x) h3) E.length
        show (levK _ _).length ≤ _
        omega
      · intro k
        have h4 : (lat (levK (lonK (natE E) (compsG (natE E)) E.length (compsG (natE E)).length) E.length) k).length ≤ E.length := levK_row _ _
        show (lat (levK _ _) k).length ≤ _
        omega
set_option maxRecDepth 100000 in
set_option maxHeartbeats 16000000 in
theorem GraphLevels_walk (w : World) (oE : Option Addr) (n cE : Nat) (E : List (List Int)) (h : Edz w oE n E) (hn : n ≤ 140737488355328) (hr : ∀ l ∈ E, l.length ≤ 140737488355328) : Calls Try.prog 5 #[.agg #[.slice oE n cE]] w fun e w' => e = .returned (.bool true) ∧ Only (fun _ => False) w w' := by
  have hlen := h.len
  have hA : Only (fun _ => False) w (w.alloc (.cells #[.slice oE n cE] 24)) := (Only.refl _ _).alloc _
  have hEA := h.keep hA
  have HB : Hid (∀ w', Only (fun _ => False) (w.alloc (.cells #[.slice oE n cE] 24)) w' → w'.cell? ⟨w.heap.size, 0, none⟩ = some (.slice oE n cE)) := Lib.hid (fun w' ho => (blk_c ((ho.block w.heap.size (by show _ < (Array.push _ _).size; rw [Array.size_push]; omega) (fun hc => hc)).trans (new_block w _)) rfl).1)
  cases hs : smallE E
  · have HS := Lib.hid hs
    clear hs
    go_enter Try.func5, Try.ntmps5
    go_wp2_with (first | (go_at_call 9; (refine (small_p _ oE n cE E hEA hn hr false HS.out).mono ?_); rintro e w5 ⟨rfl, hO5⟩; have q5 := HB.out _ hO5) | (go_at_call 10; (refine (example_p _).mono ?_); rintro e w6 ⟨rfl, hO6⟩))
    go_ret
    exact ⟨rfl, hA.trans (hO5.trans hO6)⟩
  · obtain ⟨hb1, hb2⟩ := small_bound hs
    have hn6 : n ≤ 1000000 := by omega
    have hr6 : ∀ l ∈ E, l.length ≤ 1000000 := fun l hl => by have := hb2 l hl; omega
    have HS := Lib.hid hs
    obtain ⟨hll, hlr⟩ := levels_len hb1 hb2
    obtain ⟨C, hC⟩ : ∃ C, levelsE E = C := ⟨_, rfl⟩
    have HR1 : Hid (∀ wx, Only (fun _ => False) (w.alloc (.cells #[.slice oE n cE] 24)) wx → Calls Try.prog 19 #[.agg #[.slice oE n cE]] wx fun e w' => ∃ oa na ca, e = .returned (.tuple #[.slice oa na ca, .int .i64 (C.2 : Int)]) ∧ Edg w' oa na C.1 ∧ Only (fun _ => False) wx w') := Lib.hid (fun wx ho => (Levels_p wx oE n cE E (hEA.keep ho) hn6 hr6).mono (by
      rw [hC]
      rintro e w' ⟨oa, na, ca, rfl, h2, h3⟩
      exact ⟨oa, na, ca, rfl, h2, h3⟩))
    have HR2 : Hid (∀ wx, Only (fun _ => False) (w.alloc (.cells #[.slice oE n cE] 24)) wx → Calls Try.prog 20 #[.agg #[.slice oE n cE]] wx fun e w' => ∃ oa na ca, e = .returned (.tuple #[.slice oa na ca, .int .i64 (C.2 : Int)]) ∧ Edg w' oa na C.1 ∧ Only (fun _ => False) wx w') := Lib.hid (fun wx ho => (rLevels_p wx oE n cE E (hEA.keep ho) hn6 hr6).mono (by
      rw [hC]
      rintro e w' ⟨oa, na, ca, rfl, h2, h3⟩
      exact ⟨oa, na, ca, rfl, h2, h3⟩))
    rw [hC] at hll hlr
    have HLL := Lib.hid hll
    have HCR : Hid (∀ k, (lat C.1 k).length ≤ 1000000000) := Lib.hid (fun k => by have := hlr k; omega)
    have HCC : Hid ((C.1 == C.1) = true) := Lib.hid (by simp)
    obtain ⟨c2, hc2⟩ : ∃ c : Int, ((C.2 : Nat) : Int) = c := ⟨_, rfl⟩
    rw [hc2] at HR1 HR2
    clear hs hC hlr hll hc2
    go_enter Try.func5, Try.ntmps5
    go_wp2_with (first | (go_at_call 9; (refine (small_p _ oE n cE E hEA hn hr true HS.out).mono ?_); rintro e w5 ⟨rfl, hO5⟩; have q5 := HB.out _ hO5) | (go_at_call 19; (refine (HR1.out _ hO5).mono ?_); rintro e w6 ⟨oa, na, ca, rfl, hI6, hO6⟩; have q6 := HB.out _ (hO5.trans hO6)) | (go_at_call 20; (refine (HR2.out _ (hO5.trans hO6)).mono ?_); rintro e w7 ⟨ob, nb, cb, rfl, hI7, hO7⟩) | (go_at_call 11; (refine (Same_p _ oa ob na nb ca cb C.1 C.1 (hI6.old hO7 (fun _ _ hc => hc)) hI7 (by have := hI6.len; have := HLL.out; omega) HCR.out true HCC.out).mono ?_); rintro e w8 ⟨rfl, hO8⟩) | (go_at_call 10; (refine (example_p _).mono ?_); rintro e w11 ⟨rfl, hO11⟩))
    go_ret
    exact ⟨rfl, hA.trans (hO5.trans (hO6.trans (hO7.trans (hO8.trans hO11))))⟩
end Go.Proofs.Ytijohaeiiidcpaa
