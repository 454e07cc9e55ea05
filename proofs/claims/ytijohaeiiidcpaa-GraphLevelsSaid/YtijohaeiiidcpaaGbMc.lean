/-
  WALKS. The reference: Cyclic.
-/
import Derived.Test.YtijohaeiiidcpaaGbMk
namespace Go.Proofs.Ytijohaeiiidcpaa
open Go.RowKit Go.Maps
set_option maxRecDepth 100000 in
set_option maxHeartbeats 16000000 in
theorem rCyclic_p (w : World) (oE : Option Addr) (n cE : Nat) (E : List (List Int)) (i : Int) (h : Edz w oE n E) (hn : n ≤ 1000000) (hr : ∀ l ∈ E, l.length ≤ 1000000) : Calls Try.prog 18 #[.agg #[.slice oE n cE], .int .i64 i] w fun e w' => e = .returned (.bool (rCyclicE E i)) ∧ Only (fun _ => False) w w' := by
  have hlen := h.len
  have hn9 : n ≤ 1000000000 := by omega
  have hr9 : ∀ l ∈ E, l.length ≤ 1000000000 := fun l hl => by have := hr l hl; omega
  have hA : Only (fun _ => False) w (w.alloc (.cells #[.slice oE n cE] 24)) := (Only.refl _ _).alloc _
  have hEA := h.keep hA
  have HB : Hid (∀ w', Only (fun _ => False) (w.alloc (.cells #[.slice oE n cE] 24)) w' → w'.cell? ⟨w.heap.size, 0, none⟩ = some (.slice oE n cE)) := Lib.hid (fun w' ho => (blk_c ((ho.block w.heap.size (by show _ < (Array.push _ _).size; rw [Array.size_push]; omega) (fun hc => hc)).trans (new_block w _)) rfl).1)
  have HVP : ∀ b, validE E = b → Hid (∀ wx, Only (fun _ => False) (w.alloc (.cells #[.slice oE n cE] 24)) wx → Calls Try.prog 25 #[.agg #[.slice oE n cE]] wx fun e w' => e = .returned (.bool b) ∧ Only (fun _ => False) wx w') := fun b hb => Lib.hid (fun wx ho => by
    have := Valid_p wx oE n cE E (hEA.keep ho) hn9 hr9
    rw [hb] at this
    exact this)
  have hD0 : Only (fun _ => False) (w.alloc (.cells #[.slice oE n cE] 24)) (w.alloc (.cells #[.slice oE n cE] 24)).drew := (Only.refl _ _).drew
  cases hv : validE E
  · have HR : Hid (rCyclicE E i = false) := Lib.hid (by unfold rCyclicE; rw [hv]; rfl)
    have HP := HVP false hv
    clear hv HVP
    go_enter Try.func18, Try.ntmps18
    go_wp2
    refine wp_region_any (by kernel_rfl) ?_
    try (change wpAny _ _ _ _ _ _ _ (World.drew _))
    refine wpAny_ready (rs := [0]) (by kernel_rfl) (by simp) ?_
    refine AllReady.cons rfl (fun K hK => ?_) AllReady.nil
    go_simp
    refine hK _ _ ?_
    clear hK K
    refine wpAny_ready (rs := [1]) (by kernel_rfl) (by simp) ?_
    refine AllReady.cons rfl (fun K hK => ?_) AllReady.nil
    go_simp
    go_wp2_with (go_at_call 25; (refine (HP.out _ hD0).mono ?_); rintro e w5 ⟨rfl, hO5⟩; have q5 := HB.out _ (hD0.trans hO5))
    refine any_put (i := 2) (v := (.bool false)) rfl (by kernel_rfl) (by kernel_rfl) (by kernel_rfl) (fun _ _ _ h => h) (Or.inl ⟨by rfl, fun w => by go_simp⟩) (fun a' ha => ?_); simp [go_sem] at ha; subst ha
    refine any_put (i := 3) (v := undef) rfl (by kernel_rfl) (by kernel_rfl) (by kernel_rfl) (fun _ _ _ h => h) (Or.inr ⟨by rfl, rfl⟩) (fun a' ha => ?_); simp [go_sem] at ha; subst ha
    refine any_put (i := 4) (v := undef) rfl (by kernel_rfl) (by kernel_rfl) (by kernel_rfl) (fun _ _ _ h => h) (Or.inr ⟨by rfl, rfl⟩) (fun a' ha => ?_); simp [go_sem] at ha; subst ha
    refine any_put (i := 5) (v := (.bool false)) rfl (by kernel_rfl) (by kernel_rfl) (by kernel_rfl) (fun _ _ _ h => h) (Or.inl ⟨by rfl, fun w => by go_simp⟩) (fun a' ha => ?_); simp [go_sem] at ha; subst ha
    refine any_put (i := 6) (v := (.bool false)) rfl (by kernel_rfl) (by kernel_rfl) (by kernel_rfl) (fun _ _ _ h => h) (Or.inl ⟨by rfl, fun w => by go_simp⟩) (fun a' ha => ?_); simp [go_sem] at ha; subst ha
    refine any_put (i := 7) (v := undef) rfl (by kernel_rfl) (by kernel_rfl) (by kernel_rfl) (fun _ _ _ h => h) (Or.inr ⟨by rfl, rfl⟩) (fun a' ha => ?_); simp [go_sem] at ha; subst ha
    refine any_put (i := 8) (v := undef) rfl (by kernel_rfl) (by kernel_rfl) (by kernel_rfl) (fun _ _ _ h => h) (Or.inr ⟨by rfl, rfl⟩) (fun a' ha => ?_); simp [go_sem] at ha; subst ha
    refine any_put (i := 9) (v := undef) rfl (by kernel_rfl) (by kernel_rfl) (by kernel_rfl) (fun _ _ _ h => h) (Or.inr ⟨by rfl, rfl⟩) (fun a' ha => ?_); simp [go_sem] at ha; subst ha
    refine any_put (i := 10) (v := undef) rfl (by kernel_rfl) (by kernel_rfl) (by kernel_rfl) (fun _ _ _ h => h) (Or.inr ⟨by rfl, rfl⟩) (fun a' ha => ?_); simp [go_sem] at ha; subst ha
    refine any_put (i := 11) (v := undef) rfl (by kernel_rfl) (by kernel_rfl) (by kernel_rfl) (fun _ _ _ h => h) (Or.inr ⟨by rfl, rfl⟩) (fun a' ha => ?_); simp [go_sem] at ha; subst ha
    refine any_put (i := 12) (v := (.bool false)) rfl (by kernel_rfl) (by kernel_rfl) (by kernel_rfl) (fun _ _ _ h => h) (Or.inl ⟨by rfl, fun w => by go_simp⟩) (fun a' ha => ?_); simp [go_sem] at ha; subst ha
    refine any_put (i := 13) (v := (.bool false)) rfl (by kernel_rfl) (by kernel_rfl) (by kernel_rfl) (fun _ _ _ h => h) (Or.inl ⟨by rfl, fun w => by go_simp⟩) (fun a' ha => ?_); simp [go_sem] at ha; subst ha
    refine any_put (i := 14) (v := undef) rfl (by kernel_rfl) (by kernel_rfl) (by kernel_rfl) (fun _ _ _ h => h) (Or.inr ⟨by rfl, rfl⟩) (fun a' ha => ?_); simp [go_sem] at ha; subst ha
    refine any_put (i := 15) (v := undef) rfl (by kernel_rfl) (by kernel_rfl) (by kernel_rfl) (fun _ _ _ h => h) (Or.inr ⟨by rfl, rfl⟩) (fun a' ha => ?_); simp [go_sem] at ha; subst ha
    refine any_put (i := 16) (v := undef) rfl (by kernel_rfl) (by kernel_rfl) (by kernel_rfl) (fun _ _ _ h => h) (Or.inr ⟨by rfl, rfl⟩) (fun a' ha => ?_); simp [go_sem] at ha; subst ha
    refine any_put (i := 17) (v := undef) rfl (by kernel_rfl) (by kernel_rfl) (by kernel_rfl) (fun _ _ _ h => h) (Or.inr ⟨by rfl, rfl⟩) (fun a' ha => ?_); simp [go_sem] at ha; subst ha
    refine any_put (i := 18) (v := undef) rfl (by kernel_rfl) (by kernel_rfl) (by kernel_rfl) (fun _ _ _ h => h) (Or.inr ⟨by rfl, rfl⟩) (fun a' ha => ?_); simp [go_sem] at ha; subst ha
    refine any_put (i := 19) (v := undef) rfl (by kernel_rfl) (by kernel_rfl) (by kernel_rfl) (fun _ _ _ h => h) (Or.inr ⟨by rfl, rfl⟩) (fun a' ha => ?_); simp [go_sem] at ha; subst ha
    refine any_put (i := 20) (v := undef) rfl (by kernel_rfl) (by kernel_rfl) (by kernel_rfl) (fun _ _ _ h => h) (Or.inr ⟨by rfl, rfl⟩) (fun a' ha => ?_); simp [go_sem] at ha; subst ha
    refine any_put (i := 21) (v := undef) rfl (by kernel_rfl) (by kernel_rfl) (by kernel_rfl) (fun _ _ _ h => h) (Or.inr ⟨by rfl, rfl⟩) (fun a' ha => ?_); simp [go_sem] at ha; subst ha
    refine any_put (i := 22) (v := undef) rfl (by kernel_rfl) (by kernel_rfl) (by kernel_rfl) (fun _ _ _ h => h) (Or.inr ⟨by rfl, rfl⟩) (fun a' ha => ?_); simp [go_sem] at ha; subst ha
    refine any_put (i := 23) (v := undef) rfl (by kernel_rfl) (by kernel_rfl) (by kernel_rfl) (fun _ _ _ h => h) (Or.inr ⟨by rfl, rfl⟩) (fun a' ha => ?_); simp [go_sem] at ha; subst ha
    refine any_put (i := 24) (v := (.bool false)) rfl (by kernel_rfl) (by kernel_rfl) (by kernel_rfl) (fun _ _ _ h => h) (Or.inl ⟨by rfl, fun w => by go_simp⟩) (fun a' ha => ?_); simp [go_sem] at ha; subst ha
    refine any_put (i := 25) (v := (.bool false)) rfl (by kernel_rfl) (by kernel_rfl) (by kernel_rfl) (fun _ _ _ h => h) (Or.inl ⟨by rfl, fun w => by go_simp⟩) (fun a' ha => ?_); simp [go_sem] at ha; subst ha
    refine wpAny_done (by kernel_rfl) ?_ _
    go_wp2
    go_ret
    rw [HR.out]
    exact ⟨rfl, hA.trans (hD0.trans hO5)⟩
  · have HP := HVP true hv
    cases hok : okN n i
    · have HR : Hid (rCyclicE E i = false) := Lib.hid (by unfold rCyclicE; rw [hlen, hok, hv]; rfl)
      rcases okN_cases hok with h0 | h0
      · have d0 : decide (0 ≤ i) = false := decide_eq_false (by omega)
        have d1 : ¬ 0 ≤ i := by omega
        clear hv HVP hok
        go_enter Try.func18, Try.ntmps18
        go_wp2
        refine wp_region_any (by kernel_rfl) ?_
        try (change wpAny _ _ _ _ _ _ _ (World.drew _))
        refine wpAny_ready (rs := [0]) (by kernel_rfl) (by simp) ?_
        refine AllReady.cons rfl (fun K hK => ?_) AllReady.nil
        go_simp
        refine hK _ _ ?_
        clear hK K
        refine wpAny_ready (rs := [1]) (by kernel_rfl) (by simp) ?_
        refine AllReady.cons rfl (fun K hK => ?_) AllReady.nil
        go_simp
        go_wp2_with (go_at_call 25; (refine (HP.out _ hD0).mono ?_); rintro e w5 ⟨rfl, hO5⟩; have q5 := HB.out _ (hD0.trans hO5))
        refine any_put (i := 2) (v := (.bool true)) rfl (by kernel_rfl) (by kernel_rfl) (by kernel_rfl) (fun _ _ _ h => h) (Or.inl ⟨by rfl, fun w => by go_simp⟩) (fun a' ha => ?_); simp [go_sem] at ha; subst ha
        refine any_put (i := 3) (v := (.int .i64 i)) rfl (by kernel_rfl) (by kernel_rfl) (by kernel_rfl) (fun _ _ _ h => h) (Or.inl ⟨by rfl, fun w => by go_simp⟩) (fun a' ha => ?_); simp [go_sem] at ha; subst ha
        refine any_put (i := 4) (v := (.bool false)) rfl (by kernel_rfl) (by kernel_rfl) (by kernel_rfl) (fun _ _ _ h => h) (Or.inl ⟨by rfl, fun w => by go_simp⟩) (fun a' ha => ?_); simp [go_sem] at ha; subst ha
        refine any_put (i := 5) (v := (.bool false)) rfl (by kernel_rfl) (by kernel_rfl) (by kernel_rfl) (fun _ _ _ h => h) (Or.inl ⟨by rfl, fun w => by go_simp⟩) (fun a' ha => ?_); simp [go_sem] at ha; subst ha
        refine any_put (i := 6) (v := (.bool false)) rfl (by kernel_rfl) (by kernel_rfl) (by kernel_rfl) (fun _ _ _ h => h) (Or.inl ⟨by rfl, fun w => by go_simp⟩) (fun a' ha => ?_); simp [go_sem] at ha; subst ha
        refine any_put (i := 7) (v := undef) rfl (by kernel_rfl) (by kernel_rfl) (by kernel_rfl) (fun _ _ _ h => h) (Or.inr ⟨by rfl, rfl⟩) (fun a' ha => ?_); simp [go_sem] at ha; subst ha
        refine any_put (i := 8) (v := undef) rfl (by kernel_rfl) (by kernel_rfl) (by kernel_rfl) (fun _ _ _ h => h) (Or.inr ⟨by rfl, rfl⟩) (fun a' ha => ?_); simp [go_sem] at ha; subst ha
        refine any_put (i := 9) (v := undef) rfl (by kernel_rfl) (by kernel_rfl) (by kernel_rfl) (fun _ _ _ h => h) (Or.inr ⟨by rfl, rfl⟩) (fun a' ha => ?_); simp [go_sem] at ha; subst ha
        refine any_put (i := 10) (v := undef) rfl (by kernel_rfl) (by kernel_rfl) (by kernel_rfl) (fun _ _ _ h => h) (Or.inr ⟨by rfl, rfl⟩) (fun a' ha => ?_); simp [go_sem] at ha; subst ha
        refine any_put (i := 11) (v := undef) rfl (by kernel_rfl) (by kernel_rfl) (by kernel_rfl) (fun _ _ _ h => h) (Or.inr ⟨by rfl, rfl⟩) (fun a' ha => ?_); simp [go_sem] at ha; subst ha
        refine any_put (i := 12) (v := (.bool false)) rfl (by kernel_rfl) (by kernel_rfl) (by kernel_rfl) (fun _ _ _ h => h) (Or.inl ⟨by rfl, fun w => by go_simp⟩) (fun a' ha => ?_); simp [go_sem] at ha; subst ha
        refine any_put (i := 13) (v := (.bool false)) rfl (by kernel_rfl) (by kernel_rfl) (by kernel_rfl) (fun _ _ _ h => h) (Or.inl ⟨by rfl, fun w => by go_simp⟩) (fun a' ha => ?_); simp [go_sem] at ha; subst ha
        refine any_put (i := 14) (v := undef) rfl (by kernel_rfl) (by kernel_rfl) (by kernel_rfl) (fun _ _ _ h => h) (Or.inr ⟨by rfl, rfl⟩) (fun a' ha => ?_); simp [go_sem] at ha; subst ha
        refine any_put (i := 15) (v := undef) rfl (by kernel_rfl) (by kernel_rfl) (by kernel_rfl) (fun _ _ _ h => h) (Or.inr ⟨by rfl, rfl⟩) (fun a' ha => ?_); simp [go_sem] at ha; subst ha
        refine any_put (i := 16) (v := undef) rfl (by kernel_rfl) (by kernel_rfl) (by kernel_rfl) (fun _ _ _ h => h) (Or.inr ⟨by rfl, rfl⟩) (fun a' ha => ?_); simp [go_sem] at ha; subst ha
        refine any_put (i := 17) (v := undef) rfl (by kernel_rfl) (by kernel_rfl) (by kernel_rfl) (fun _ _ _ h => h) (Or.inr ⟨by rfl, rfl⟩) (fun a' ha => ?_); simp [go_sem] at ha; subst ha
        refine any_put (i := 18) (v := undef) rfl (by kernel_rfl) (by kernel_rfl) (by kernel_rfl) (fun _ _ _ h => h) (Or.inr ⟨by rfl, rfl⟩) (fun a' ha => ?_); simp [go_sem] at ha; subst ha
        refine any_put (i := 19) (v := undef) rfl (by kernel_rfl) (by kernel_rfl) (by kernel_rfl) (fun _ _ _ h => h) (Or.inr ⟨by rfl, rfl⟩) (fun a' ha => ?_); simp [go_sem] at ha; subst ha
        refine any_put (i := 20) (v := undef) rfl (by kernel_rfl) (by kernel_rfl) (by kernel_rfl) (fun _ _ _ h => h) (Or.inr ⟨by rfl, rfl⟩) (fun a' ha => ?_); simp [go_sem] at ha; subst ha
        refine any_put (i := 21) (v := undef) rfl (by kernel_rfl) (by kernel_rfl) (by kernel_rfl) (fun _ _ _ h => h) (Or.inr ⟨by rfl, rfl⟩) (fun a' ha => ?_); simp [go_sem] at ha; subst ha
        refine any_put (i := 22) (v := undef) rfl (by kernel_rfl) (by kernel_rfl) (by kernel_rfl) (fun _ _ _ h => h) (Or.inr ⟨by rfl, rfl⟩) (fun a' ha => ?_); simp [go_sem] at ha; subst ha
        refine any_put (i := 23) (v := undef) rfl (by kernel_rfl) (by kernel_rfl) (by kernel_rfl) (fun _ _ _ h => h) (Or.inr ⟨by rfl, rfl⟩) (fun a' ha => ?_); simp [go_sem] at ha; subst ha
        refine any_put (i := 24) (v := (.bool false)) rfl (by kernel_rfl) (by kernel_rfl) (by kernel_rfl) (fun _ _ _ h => h) (Or.inl ⟨by rfl, fun w => by go_simp⟩) (fun a' ha => ?_); simp [go_sem] at ha; subst ha
        refine any_put (i := 25) (v := (.bool false)) rfl (by kernel_rfl) (by kernel_rfl) (by kernel_rfl) (fun _ _ _ h => h) (Or.inl ⟨by rfl, fun w => by go_simp⟩) (fun a' ha => ?_); simp [go_sem] at ha; subst ha
        refine wpAny_done (by kernel_rfl) ?_ _
        go_wp2
        go_ret
        rw [HR.out]
        exact ⟨rfl, hA.trans (hD0.trans hO5)⟩
      · have d1 : 0 ≤ i := by omega
        have d0 : decide (0 ≤ i) = true := decide_eq_true d1
        have d3 : ¬ i < (n : Int) := by omega
        have d2 : decide (i < (n : Int)) = false := decide_eq_false d3
        clear hv HVP hok
        go_enter Try.func18, Try.ntmps18
        go_wp2
        refine wp_region_any (by kernel_rfl) ?_
        try (change wpAny _ _ _ _ _ _ _ (World.drew _))
        refine wpAny_ready (rs := [0]) (by kernel_rfl) (by simp) ?_
        refine AllReady.cons rfl (fun K hK => ?_) AllReady.nil
        go_simp
        refine hK _ _ ?_
        clear hK K
        refine wpAny_ready (rs := [1]) (by kernel_rfl) (by simp) ?_
        refine AllReady.cons rfl (fun K hK => ?_) AllReady.nil
        go_simp
        go_wp2_with (go_at_call 25; (refine (HP.out _ hD0).mono ?_); rintro e w5 ⟨rfl, hO5⟩; have q5 := HB.out _ (hD0.trans hO5))
        refine any_put (i := 2) (v := (.bool true)) rfl (by kernel_rfl) (by kernel_rfl) (by kernel_rfl) (fun _ _ _ h => h) (Or.inl ⟨by rfl, fun w => by go_simp⟩) (fun a' ha => ?_); simp [go_sem] at ha; subst ha
        refine any_put (i := 3) (v := (.int .i64 i)) rfl (by kernel_rfl) (by kernel_rfl) (by kernel_rfl) (fun _ _ _ h => h) (Or.inl ⟨by rfl, fun w => by go_simp⟩) (fun a' ha => ?_); simp [go_sem] at ha; subst ha
        refine any_put (i := 4) (v := (.bool true)) rfl (by kernel_rfl) (by kernel_rfl) (by kernel_rfl) (fun _ _ _ h => h) (Or.inl ⟨by rfl, fun w => by go_simp⟩) (fun a' ha => ?_); simp [go_sem] at ha; subst ha
        refine any_put (i := 5) (v := (.bool true)) rfl (by kernel_rfl) (by kernel_rfl) (by kernel_rfl) (fun _ _ _ h => h) (Or.inl ⟨by rfl, fun w => by go_simp⟩) (fun a' ha => ?_); simp [go_sem] at ha; subst ha
        refine any_put (i := 6) (v := (.bool true)) rfl (by kernel_rfl) (by kernel_rfl) (by kernel_rfl) (fun _ _ _ h => h) (Or.inl ⟨by rfl, fun w => by go_simp⟩) (fun a' ha => ?_); simp [go_sem] at ha; subst ha
        refine any_put (i := 7) (v := (.int .i64 i)) rfl (by kernel_rfl) (by kernel_rfl) (by kernel_rfl) (fun _ _ _ h => h) (Or.inl ⟨by rfl, fun w => by go_simp⟩) (fun a' ha => ?_); simp [go_sem] at ha; subst ha
        refine any_put (i := 8) (v := (.pointer (some ⟨w.heap.size, 0, none⟩))) rfl (by kernel_rfl) (by kernel_rfl) (by kernel_rfl) (fun _ _ _ h => h) (Or.inl ⟨by rfl, fun w => by go_simp⟩) (fun a' ha => ?_); simp [go_sem] at ha; subst ha
        refine wpAny_ready (rs := [9]) (by kernel_rfl) (by simp) ?_
        refine AllReady.cons rfl (fun K hK => ?_) AllReady.nil
        go_simp
        refine hK _ _ ?_
        clear hK K
        refine any_put (i := 10) (v := (.int .i64 n)) rfl (by kernel_rfl) (by kernel_rfl) (by kernel_rfl) (fun _ _ _ h => h) (Or.inl ⟨by rfl, fun w => by go_simp⟩) (fun a' ha => ?_); simp [go_sem] at ha; subst ha
        refine any_put (i := 11) (v := (.bool false)) rfl (by kernel_rfl) (by kernel_rfl) (by kernel_rfl) (fun _ _ _ h => h) (Or.inl ⟨by rfl, fun w => by go_simp⟩) (fun a' ha => ?_); simp [go_sem] at ha; subst ha
        refine any_put (i := 12) (v := (.bool false)) rfl (by kernel_rfl) (by kernel_rfl) (by kernel_rfl) (fun _ _ _ h => h) (Or.inl ⟨by rfl, fun w => by go_simp⟩) (fun a' ha => ?_); simp [go_sem] at ha; subst ha
        refine any_put (i := 13) (v := (.bool false)) rfl (by kernel_rfl) (by kernel_rfl) (by kernel_rfl) (fun _ _ _ h => h) (Or.inl ⟨by rfl, fun w => by go_simp⟩) (fun a' ha => ?_); simp [go_sem] at ha; subst ha
        refine any_put (i := 14) (v := undef) rfl (by kernel_rfl) (by kernel_rfl) (by kernel_rfl) (fun _ _ _ h => h) (Or.inr ⟨by rfl, rfl⟩) (fun a' ha => ?_); simp [go_sem] at ha; subst ha
        refine any_put (i := 15) (v := undef) rfl (by kernel_rfl) (by kernel_rfl) (by kernel_rfl) (fun _ _ _ h => h) (Or.inr ⟨by rfl, rfl⟩) (fun a' ha => ?_); simp [go_sem] at ha; subst ha
        refine any_put (i := 16) (v := undef) rfl (by kernel_rfl) (by kernel_rfl) (by kernel_rfl) (fun _ _ _ h => h) (Or.inr ⟨by rfl, rfl⟩) (fun a' ha => ?_); simp [go_sem] at ha; subst ha
        refine any_put (i := 17) (v := undef) rfl (by kernel_rfl) (by kernel_rfl) (by kernel_rfl) (fun _ _ _ h => h) (Or.inr ⟨by rfl, rfl⟩) (fun a' ha => ?_); simp [go_sem] at ha; subst ha
        refine any_put (i := 18) (v := undef) rfl (by kernel_rfl) (by kernel_rfl) (by kernel_rfl) (fun _ _ _ h => h) (Or.inr ⟨by rfl, rfl⟩) (fun a' ha => ?_); simp [go_sem] at ha; subst ha
        refine any_put (i := 19) (v := undef) rfl (by kernel_rfl) (by kernel_rfl) (by kernel_rfl) (fun _ _ _ h => h) (Or.inr ⟨by rfl, rfl⟩) (fun a' ha => ?_); simp [go_sem] at ha; subst ha
        refine any_put (i := 20) (v := undef) rfl (by kernel_rfl) (by kernel_rfl) (by kernel_rfl) (fun _ _ _ h => h) (Or.inr ⟨by rfl, rfl⟩) (fun a' ha => ?_); simp [go_sem] at ha; subst ha
        refine any_put (i := 21) (v := undef) rfl (by kernel_rfl) (by kernel_rfl) (by kernel_rfl) (fun _ _ _ h => h) (Or.inr ⟨by rfl, rfl⟩) (fun a' ha => ?_); simp [go_sem] at ha; subst ha
        refine any_put (i := 22) (v := undef) rfl (by kernel_rfl) (by kernel_rfl) (by kernel_rfl) (fun _ _ _ h => h) (Or.inr ⟨by rfl, rfl⟩) (fun a' ha => ?_); simp [go_sem] at ha; subst ha
        refine any_put (i := 23) (v := undef) rfl (by kernel_rfl) (by kernel_rfl) (by kernel_rfl) (fun _ _ _ h => h) (Or.inr ⟨by rfl, rfl⟩) (fun a' ha => ?_); simp [go_sem] at ha; subst ha
        refine any_put (i := 24) (v := (.bool false)) rfl (by kernel_rfl) (by kernel_rfl) (by kernel_rfl) (fun _ _ _ h => h) (Or.inl ⟨by rfl, fun w => by go_simp⟩) (fun a' ha => ?_); simp [go_sem] at ha; subst ha
        refine any_put (i := 25) (v := (.bool false)) rfl (by kernel_rfl) (by kernel_rfl) (by kernel_rfl) (fun _ _ _ h => h) (Or.inl ⟨by rfl, fun w => by go_simp⟩) (fun a' ha => ?_); simp [go_sem] at ha; subst ha
        refine wpAny_done (by kernel_rfl) ?_ _
        go_wp2
        go_ret
        rw [HR.out]
        exact ⟨rfl, hA.trans (hD0.trans hO5)⟩
    · obtain ⟨u, rfl, hun⟩ := okN_yes hok
      have HR : Hid (rCyclicE E (u : Int) = gb (seenR (natE E) (lat (natE E) u)) u) := Lib.hid (by unfold rCyclicE; rw [hlen, hok, hv, Int.toNat_natCast]; rfl)
      have hGn : (natE E).length = n := by rw [natE_len, hlen]
      have hG2 := valid_G hv
      have hG4 := nat_deg hr
      obtain ⟨bG, oG, ra, rn, rc, hoE, hcG, hiG⟩ := (hEA.edg hv).at (k := u) (by rw [hGn]; exact hun)
      have hmem : ∀ x ∈ lat (natE E) u, x < n := fun x hx => by
        obtain ⟨k, hk, e⟩ := List.getElem_of_mem hx
        have := hG2 u k x (by unfold nx; exact List.getElem?_eq_some_iff.2 ⟨hk, e⟩)
        rw [hGn] at this; exact this
      have hul : u < (seenR (natE E) (lat (natE E) u)).length := by rw [seenR_len hG2 (fun x hx => by rw [hGn]; exact hmem x hx), hGn]; exact hun
      have hrn : rn ≤ 1000000 := by have h1 := hG4 u; unfold degG at h1; have h2 := hiG.len; unfold lat at h2; omega
      have HFP : Hid (∀ wx, Only (fun _ => False) (w.alloc (.cells #[.slice oE n cE] 24)) wx → Calls Try.prog 35 #[.agg #[.slice oE n cE], .slice ra rn rc] wx fun e w' => ∃ g ca, e = .returned (.slice (some ⟨g, 0, none⟩) n ca) ∧ BW w' 0 (.slice (some ⟨g, 0, none⟩) n ca) (seenR (natE E) (lat (natE E) u)) ∧ Only (fun _ => False) wx w') := Lib.hid (fun wx ho => by
        refine (from_p _ oE n cE (natE E) _ rn rc (lat (natE E) u) ((hEA.keep ho).edg hv) hG2 hn hG4 (hiG.old ho (fun _ _ hc => hc)) hrn hmem).mono ?_
        rintro e w' ⟨⟨b, o, s⟩, ca, h3, h4, h5, h6, h7⟩
        cases h5
        cases h6
        exact ⟨b, ca, h3, rowMono h4 (Nat.zero_le _), h7⟩)
      have HCG : Hid (∀ wx, Only (fun _ => False) (w.alloc (.cells #[.slice oE n cE] 24)) wx → wx.cell? ⟨bG, oG + u, none⟩ = some (.slice ra rn rc)) := Lib.hid (fun wx ho => (World.cell?_of_block (ho.block bG (cell_lt hcG) (fun hc => hc))).trans hcG)
      subst hoE
      have d1 : (0 : Int) ≤ (u : Int) := Int.natCast_nonneg u
      have d0 : decide ((0 : Int) ≤ (u : Int)) = true := decide_eq_true d1
      have d3 : (u : Int) < (n : Int) := by omega
      have d2 : decide ((u : Int) < (n : Int)) = true := decide_eq_true d3
      have d4 : (u : Int).toNat = u := Int.toNat_natCast u
      clear hv HVP hok hG2 hG4 hmem hiG hcG hGn
      go_enter Try.func18, Try.ntmps18
      go_wp2
      refine wp_region_any (by kernel_rfl) ?_
      try (change wpAny _ _ _ _ _ _ _ (World.drew _))
      refine wpAny_ready (rs := [0]) (by kernel_rfl) (by simp) ?_
      refine AllReady.cons rfl (fun K hK => ?_) AllReady.nil
      go_simp
      refine hK _ _ ?_
      clear hK K
      refine wpAny_ready (rs := [1]) (by kernel_rfl) (by simp) ?_
      refine AllReady.cons rfl (fun K hK => ?_) AllReady.nil
      go_simp
      go_wp2_with (go_at_call 25; (refine (HP.out _ hD0).mono ?_); rintro e w5 ⟨rfl, hO5⟩; have q5 := HB.out _ (hD0.trans hO5); have g5 := HCG.out _ (hD0.trans hO5))
      refine any_put (i := 2) (v := (.bool true)) rfl (by kernel_rfl) (by kernel_rfl) (by kernel_rfl) (fun _ _ _ h => h) (Or.inl ⟨by rfl, fun w => by go_simp⟩) (fun a' ha => ?_); simp [go_sem] at ha; subst ha
      refine any_put (i := 3) (v := (iV u)) rfl (by kernel_rfl) (by kernel_rfl) (by kernel_rfl) (fun _ _ _ h => h) (Or.inl ⟨by rfl, fun w => by go_simp⟩) (fun a' ha => ?_); simp [go_sem] at ha; subst ha
      refine any_put (i := 4) (v := (.bool true)) rfl (by kernel_rfl) (by kernel_rfl) (by kernel_rfl) (fun _ _ _ h => h) (Or.inl ⟨by rfl, fun w => by go_simp⟩) (fun a' ha => ?_); simp [go_sem] at ha; subst ha
      refine any_put (i := 5) (v := (.bool true)) rfl (by kernel_rfl) (by kernel_rfl) (by kernel_rfl) (fun _ _ _ h => h) (Or.inl ⟨by rfl, fun w => by go_simp⟩) (fun a' ha => ?_); simp [go_sem] at ha; subst ha
      refine any_put (i := 6) (v := (.bool true)) rfl (by kernel_rfl) (by kernel_rfl) (by kernel_rfl) (fun _ _ _ h => h) (Or.inl ⟨by rfl, fun w => by go_simp⟩) (fun a' ha => ?_); simp [go_sem] at ha; subst ha
      refine any_put (i := 7) (v := (iV u)) rfl (by kernel_rfl) (by kernel_rfl) (by kernel_rfl) (fun _ _ _ h => h) (Or.inl ⟨by rfl, fun w => by go_simp⟩) (fun a' ha => ?_); simp [go_sem] at ha; subst ha
      refine any_put (i := 8) (v := (.pointer (some ⟨w.heap.size, 0, none⟩))) rfl (by kernel_rfl) (by kernel_rfl) (by kernel_rfl) (fun _ _ _ h => h) (Or.inl ⟨by rfl, fun w => by go_simp⟩) (fun a' ha => ?_); simp [go_sem] at ha; subst ha
      refine wpAny_ready (rs := [9]) (by kernel_rfl) (by simp) ?_
      refine AllReady.cons rfl (fun K hK => ?_) AllReady.nil
      go_simp
      refine hK _ _ ?_
      clear hK K
      refine any_put (i := 10) (v := (.int .i64 n)) rfl (by kernel_rfl) (by kernel_rfl) (by kernel_rfl) (fun _ _ _ h => h) (Or.inl ⟨by rfl, fun w => by go_simp⟩) (fun a' ha => ?_); simp [go_sem] at ha; subst ha
      refine any_put (i := 11) (v := (.bool true)) rfl (by kernel_rfl) (by kernel_rfl) (by kernel_rfl) (fun _ _ _ h => h) (Or.inl ⟨by rfl, fun w => by go_simp⟩) (fun a' ha => ?_); simp [go_sem] at ha; subst ha
      refine any_put (i := 12) (v := (.bool true)) rfl (by kernel_rfl) (by kernel_rfl) (by kernel_rfl) (fun _ _ _ h => h) (Or.inl ⟨by rfl, fun w => by go_simp⟩) (fun a' ha => ?_); simp [go_sem] at ha; subst ha
      refine any_put (i := 13) (v := (.bool true)) rfl (by kernel_rfl) (by kernel_rfl) (by kernel_rfl) (fun _ _ _ h => h) (Or.inl ⟨by rfl, fun w => by go_simp⟩) (fun a' ha => ?_); simp [go_sem] at ha; subst ha
      refine any_put (i := 15) (v := (.pointer (some ⟨w.heap.size, 0, none⟩))) rfl (by kernel_rfl) (by kernel_rfl) (by kernel_rfl) (fun _ _ _ h => h) (Or.inl ⟨by rfl, fun w => by go_simp⟩) (fun a' ha => ?_); simp [go_sem] at ha; subst ha
      refine any_put (i := 17) (v := (iV u)) rfl (by kernel_rfl) (by kernel_rfl) (by kernel_rfl) (fun _ _ _ h => h) (Or.inl ⟨by rfl, fun w => by go_simp⟩) (fun a' ha => ?_); simp [go_sem] at ha; subst ha
      refine any_put (i := 21) (v := (iV u)) rfl (by kernel_rfl) (by kernel_rfl) (by kernel_rfl) (fun _ _ _ h => h) (Or.inl ⟨by rfl, fun w => by go_simp⟩) (fun a' ha => ?_); simp [go_sem] at ha; subst ha
      refine wpAny_ready (rs := [14, 16]) (by kernel_rfl) (by simp) ?_
      refine AllReady.cons rfl (fun K hK => ?_) (AllReady.cons rfl (fun K hK => ?_) AllReady.nil)
      · go_simp
        refine hK _ _ ?_
        clear hK K
        refine wpAny_ready (rs := [16]) (by kernel_rfl) (by simp) ?_
        refine AllReady.cons rfl (fun K hK => ?_) AllReady.nil
        go_simp
        refine hK _ _ ?_
        clear hK K
        refine any_put (i := 18) (v := (.pointer (some ⟨bG, oG + u, none⟩))) rfl (by kernel_rfl) (by kernel_rfl) (by kernel_rfl) (fun _ _ _ h => h) (Or.inl ⟨by rfl, fun w => by go_simp⟩) (fun a' ha => ?_); simp [go_sem] at ha; subst ha
        refine wpAny_ready (rs := [19]) (by kernel_rfl) (by simp) ?_
        refine AllReady.cons rfl (fun K hK => ?_) AllReady.nil
        go_simp
        refine hK _ _ ?_
        clear hK K
        refine wpAny_ready (rs := [20]) (by kernel_rfl) (by simp) ?_
        refine AllReady.cons rfl (fun K hK => ?_) AllReady.nil
        go_simp
        go_wp2_with (go_at_call 35; (refine (HFP.out w5 (hD0.trans hO5)).mono ?_); rintro e w6 ⟨g6, c6, rfl, hB6, hO6⟩; have hc6 := (hB6.at (k := u) hul).1)
        refine any_put (i := 22) (v := (.pointer (some ⟨g6, u, none⟩))) rfl (by kernel_rfl) (by kernel_rfl) (by kernel_rfl) (fun _ _ _ h => h) (Or.inl ⟨by rfl, fun w => by go_simp⟩) (fun a' ha => ?_); simp [go_sem] at ha; subst ha
        refine wpAny_ready (rs := [23]) (by kernel_rfl) (by simp) ?_
        refine AllReady.cons rfl (fun K hK => ?_) AllReady.nil
        go_simp
        refine hK _ _ ?_
        clear hK K
        refine any_put (i := 24) (v := (.bool (gb (seenR (natE E) (lat (natE E) u)) u))) rfl (by kernel_rfl) (by kernel_rfl) (by kernel_rfl) (fun _ _ _ h => h) (Or.inl ⟨by rfl, fun w => by go_simp⟩) (fun a' ha => ?_); simp [go_sem] at ha; subst ha
        refine any_put (i := 25) (v := (.bool (gb (seenR (natE E) (lat (natE E) u)) u))) rfl (by kernel_rfl) (by kernel_rfl) (by kernel_rfl) (fun _ _ _ h => h) (Or.inl ⟨by rfl, fun w => by go_simp⟩) (fun a' ha => ?_); simp [go_sem] at ha; subst ha
        refine wpAny_done (by kernel_rfl) ?_ _
        go_wp2
        go_ret
        rw [HR.out]
        exact ⟨rfl, hA.trans (hD0.trans (hO5.trans hO6))⟩
      · go_simp
        refine hK _ _ ?_
        clear hK K
        refine any_put (i := 18) (v := (.pointer (some ⟨bG, oG + u, none⟩))) rfl (by kernel_rfl) (by kernel_rfl) (by kernel_rfl) (fun _ _ _ h => h) (Or.inl ⟨by rfl, fun w => by go_simp⟩) (fun a' ha => ?_); simp [go_sem] at ha; subst ha
        refine wpAny_ready (rs := [14, 19]) (by kernel_rfl) (by simp) ?_
        refine AllReady.cons rfl (fun K hK => ?_) (AllReady.cons rfl (fun K hK => ?_) AllReady.nil)
        · go_simp
          refine hK _ _ ?_
          clear hK K
          refine wpAny_ready (rs := [19]) (by kernel_rfl) (by simp) ?_
          refine AllReady.cons rfl (fun K hK => ?_) AllReady.nil
          go_simp
          refine hK _ _ ?_
          clear hK K
          refine wpAny_ready (rs := [20]) (by kernel_rfl) (by simp) ?_
          refine AllReady.cons rfl (fun K hK => ?_) AllReady.nil
          go_simp
          go_wp2_with (go_at_call 35; (refine (HFP.out w5 (hD0.trans hO5)).mono ?_); rintro e w6 ⟨g6, c6, rfl, hB6, hO6⟩; have hc6 := (hB6.at (k := u) hul).1)
          refine any_put (i := 22) (v := (.pointer (some ⟨g6, u, none⟩))) rfl (by kernel_rfl) (by kernel_rfl) (by kernel_rfl) (fun _ _ _ h => h) (Or.inl ⟨by rfl, fun w => by go_simp⟩) (fun a' ha => ?_); simp [go_sem] at ha; subst ha
          refine wpAny_ready (rs := [23]) (by kernel_rfl) (by simp) ?_
          refine AllReady.cons rfl (fun K hK => ?_) AllReady.nil
          go_simp
          refine hK _ _ ?_
          clear hK K
          refine any_put (i := 24) (v := (.bool (gb (seenR (natE E) (lat (natE E) u)) u))) rfl (by kernel_rfl) (by kernel_rfl) (by kernel_rfl) (fun _ _ _ h => h) (Or.inl ⟨by rfl, fun w => by go_simp⟩) (fun a' ha => ?_); simp [go_sem] at ha; subst ha
          refine any_put (i := 25) (v := (.bool (gb (seenR (natE E) (lat (natE E) u)) u))) rfl (by kernel_rfl) (by kernel_rfl) (by kernel_rfl) (fun _ _ _ h => h) (Or.inl ⟨by rfl, fun w => by go_simp⟩) (fun a' ha => ?_); simp [go_sem] at ha; subst ha
          refine wpAny_done (by kernel_rfl) ?_ _
          go_wp2
          go_ret
          rw [HR.out]
          exact ⟨rfl, hA.trans (hD0.trans (hO5.trans hO6))⟩
        · go_simp
          refine hK _ _ ?_
          clear hK K
          refine wpAny_ready (rs := [14]) (by kernel_rfl) (by simp) ?_
          refine AllReady.cons rfl (fun K hK => ?_) AllReady.nil
          go_simp
          refine hK _ _ ?_
          clear hK K
          refine wpAny_ready (rs := [20]) (by kernel_rfl) (by simp) ?_
          refine AllReady.cons rfl (fun K hK => ?_) AllReady.nil
          go_simp
          go_wp2_with (go_at_call 35; (refine (HFP.out w5 (hD0.trans hO5)).mono ?_); rintro e w6 ⟨g6, c6, rfl, hB6, hO6⟩; have hc6 := (hB6.at (k := u) hul).1)
          refine any_put (i := 22) (v := (.pointer (some ⟨g6, u, none⟩))) rfl (by kernel_rfl) (by kernel_rfl) (by kernel_rfl) (fun _ _ _ h => h) (Or.inl ⟨by rfl, fun w => by go_simp⟩) (fun a' ha => ?_); simp [go_sem] at ha; subst ha
          refine wpAny_ready (rs := [23]) (by kernel_rfl) (by simp) ?_
          refine AllReady.cons rfl (fun K hK => ?_) AllReady.nil
          go_simp
          refine hK _ _ ?_
          clear hK K
          refine any_put (i := 24) (v := (.bool (gb (seenR (natE E) (lat (natE E) u)) u))) rfl (by kernel_rfl) (by kernel_rfl) (by kernel_rfl) (fun _ _ _ h => h) (Or.inl ⟨by rfl, fun w => by go_simp⟩) (fun a' ha => ?_); simp [go_sem] at ha; subst ha
          refine any_put (i := 25) (v := (.bool (gb (seenR (natE E) (lat (natE E) u)) u))) rfl (by kernel_rfl) (by kernel_rfl) (by kernel_rfl) (fun _ _ _ h => h) (Or.inl ⟨by rfl, fun w => by go_simp⟩) (fun a' ha => ?_); simp [go_sem] at ha; subst ha
          refine wpAny_done (by kernel_rfl) ?_ _
          go_wp2
          go_ret
          rw [HR.out]
          exact ⟨rfl, hA.trans (hD0.trans (hO5.trans hO6))⟩
end Go.Proofs.Ytijohaeiiidcpaa
