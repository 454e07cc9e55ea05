/-
  WALKS. GraphMutual where it does not ask: the example alone.
-/
import Derived.Test.YtijohaeiiidcpaaGbLw
namespace Go.Proofs.Ytijohaeiiidcpaa
open Go.RowKit Go.Maps
def okM (E : List (List Int)) (i k : Int) : Bool := smallE E && (validE E && (okN E.length i && okN E.length k))
set_option maxRecDepth 100000 in
set_option maxHeartbeats 8000000 in
theorem Mutual_out (w : World) (oE : Option Addr) (n cE : Nat) (E : List (List Int)) (i k : Int) (h : Edz w oE n E) (hn : n ≤ 140737488355328) (hr : ∀ l ∈ E, l.length ≤ 140737488355328) (hok : okM E i k = false) : Calls Try.prog 8 #[.agg #[.slice oE n cE], .int .i64 i, .int .i64 k] w fun e w' => e = .returned (.bool true) ∧ Only (fun _ => False) w w' := by
  have hlen := h.len
  have hA : Only (fun _ => False) w (w.alloc (.cells #[.slice oE n cE] 24)) := (Only.refl _ _).alloc _
  have hEA := h.keep hA
  have HB : Hid (∀ w', Only (fun _ => False) (w.alloc (.cells #[.slice oE n cE] 24)) w' → w'.cell? ⟨w.heap.size, 0, none⟩ = some (.slice oE n cE)) := Lib.hid (fun w' ho => (blk_c ((ho.block w.heap.size (by show _ < (Array.push _ _).size; rw [Array.size_push]; omega) (fun hc => hc)).trans (new_block w _)) rfl).1)
  cases hs : smallE E
  · have HS := Lib.hid hs
    clear hs hok
    go_enter Try.func8, Try.ntmps8
    go_wp2_with (first | (go_at_call 9; (refine (small_p _ oE n cE E hEA hn hr false HS.out).mono ?_); rintro e w5 ⟨rfl, hO5⟩; have q5 := HB.out _ hO5) | (go_at_call 10; (refine (example_p _).mono ?_); rintro e w6 ⟨rfl, hO6⟩))
    go_ret
    exact ⟨rfl, hA.trans (hO5.trans hO6)⟩
  · obtain ⟨hb1, hb2⟩ := small_bound hs
    have hn9 : n ≤ 1000000000 := by omega
    have hr9 : ∀ l ∈ E, l.length ≤ 1000000000 := fun l hl => by have := hb2 l hl; omega
    have HS := Lib.hid hs
    cases hv : validE E
    · have HV := Lib.hid hv
      clear hs hv hok
      go_enter Try.func8, Try.ntmps8
      go_wp2_with (first | (go_at_call 9; (refine (small_p _ oE n cE E hEA hn hr true HS.out).mono ?_); rintro e w5 ⟨rfl, hO5⟩; have q5 := HB.out _ hO5) | (go_at_call 25; (refine (Valid_p _ oE n cE E (hEA.keep hO5) hn9 hr9).mono ?_); rintro e w7 ⟨rfl, hO7⟩; have q7 := HB.out _ (hO5.trans hO7); have hv := HV.out) | (go_at_call 10; (refine (example_p _).mono ?_); rintro e w6 ⟨rfl, hO6⟩))
      go_ret
      exact ⟨rfl, hA.trans (hO5.trans (hO7.trans hO6))⟩
    · have HV := Lib.hid hv
      unfold okM at hok
      rw [hs, hv, hlen] at hok
      clear hs hv
      by_cases i0 : i < 0
      · have d0 : decide (i < 0) = true := decide_eq_true i0
        clear hok
        go_enter Try.func8, Try.ntmps8
        go_wp2_with (first | (go_at_call 9; (refine (small_p _ oE n cE E hEA hn hr true HS.out).mono ?_); rintro e w5 ⟨rfl, hO5⟩; have q5 := HB.out _ hO5) | (go_at_call 25; (refine (Valid_p _ oE n cE E (hEA.keep hO5) hn9 hr9).mono ?_); rintro e w7 ⟨rfl, hO7⟩; have q7 := HB.out _ (hO5.trans hO7); have hv := HV.out) | (go_at_call 10; (refine (example_p _).mono ?_); rintro e w6 ⟨rfl, hO6⟩))
        go_ret
        exact ⟨rfl, hA.trans (hO5.trans (hO7.trans hO6))⟩
      · have d0 : decide (i < 0) = false := decide_eq_false i0
        by_cases i1 : (n : Int) ≤ i
        · have d1 : decide ((n : Int) ≤ i) = true := decide_eq_true i1
          clear hok
          go_enter Try.func8, Try.ntmps8
          go_wp2_with (first | (go_at_call 9; (refine (small_p _ oE n cE E hEA hn hr true HS.out).mono ?_); rintro e w5 ⟨rfl, hO5⟩; have q5 := HB.out _ hO5) | (go_at_call 25; (refine (Valid_p _ oE n cE E (hEA.keep hO5) hn9 hr9).mono ?_); rintro e w7 ⟨rfl, hO7⟩; have q7 := HB.out _ (hO5.trans hO7); have hv := HV.out) | (go_at_call 10; (refine (example_p _).mono ?_); rintro e w6 ⟨rfl, hO6⟩))
          go_ret
          exact ⟨rfl, hA.trans (hO5.trans (hO7.trans hO6))⟩
        · have d1 : decide ((n : Int) ≤ i) = false := decide_eq_false i1
          by_cases k0 : k < 0
          · have d2 : decide (k < 0) = true := decide_eq_true k0
            clear hok
            go_enter Try.func8, Try.ntmps8
            go_wp2_with (first | (go_at_call 9; (refine (small_p _ oE n cE E hEA hn hr true HS.out).mono ?_); rintro e w5 ⟨rfl, hO5⟩; have q5 := HB.out _ hO5) | (go_at_call 25; (refine (Valid_p _ oE n cE E (hEA.keep hO5) hn9 hr9).mono ?_); rintro e w7 ⟨rfl, hO7⟩; have q7 := HB.out _ (hO5.trans hO7); have hv := HV.out) | (go_at_call 10; (refine (example_p _).mono ?_); rintro e w6 ⟨rfl, hO6⟩))
            go_ret
            exact ⟨rfl, hA.trans (hO5.trans (hO7.trans hO6))⟩
          · have d2 : decide (k < 0) = false := decide_eq_false k0
            have k1 : (n : Int) ≤ k := by
              unfold okN at hok
              rw [decide_eq_true (show (0 : Int) ≤ i by omega), decide_eq_true (show i < (n : Int) by omega), decide_eq_true (show (0 : Int) ≤ k by omega)] at hok
              simp at hok
              exact hok
            have d3 : decide ((n : Int) ≤ k) = true := decide_eq_true k1
            clear hok
            go_enter Try.func8, Try.ntmps8
            go_wp2_with (first | (go_at_call 9; (refine (small_p _ oE n cE E hEA hn hr true HS.out).mono ?_); rintro e w5 ⟨rfl, hO5⟩; have q5 := HB.out _ hO5) | (go_at_call 25; (refine (Valid_p _ oE n cE E (hEA.keep hO5) hn9 hr9).mono ?_); rintro e w7 ⟨rfl, hO7⟩; have q7 := HB.out _ (hO5.trans hO7); have hv := HV.out) | (go_at_call 10; (refine (example_p _).mono ?_); rintro e w6 ⟨rfl, hO6⟩))
            go_ret
            exact ⟨rfl, hA.trans (hO5.trans (hO7.trans hO6))⟩
end Go.Proofs.Ytijohaeiiidcpaa
