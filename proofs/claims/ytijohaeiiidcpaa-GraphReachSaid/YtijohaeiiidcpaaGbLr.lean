/-
  WALKS. GraphReach.
-/
import Derived.Test.YtijohaeiiidcpaaGbMc
import Derived.Test.YtijohaeiiidcpaaGbLw
import Derived.Deep.RegionHeld
namespace Go.Proofs.Ytijohaeiiidcpaa
open Go.RowKit Go.Maps
theorem reach_same (E : List (List Int)) (i : Int) : reachL E i = rReachL E i := by
  unfold reachL rReachL
  cases hv : validE E
  · rfl
  · cases hok : okN E.length i
    · rfl
    · obtain ⟨u, rfl, hu⟩ := okN_yes hok
      simp only [Bool.and_self, if_true, Int.toNat_natCast]
      have hG := valid_G hv
      have hl : ∀ v ∈ [u], v < (natE E).length := fun v h => by rw [List.mem_singleton.1 h, natE_len]; exact hu
      have hN := nums_ok hG [u] hl
      unfold reachTo markedTo
      apply List.filter_congr
      intro x _
      rw [Bool.eq_iff_iff, seenR_iff hG hl, ← hN.reach x]
      simp
theorem cyclic_same (E : List (List Int)) (i : Int) : cyclicE E i = rCyclicE E i := by
  unfold cyclicE rCyclicE
  cases hv : validE E
  · rfl
  · cases hok : okN E.length i
    · rfl
    · obtain ⟨u, rfl, hu⟩ := okN_yes hok
      simp only [Bool.true_and, Int.toNat_natCast]
      have hG := valid_G hv
      obtain ⟨G, hGe⟩ : ∃ G, natE E = G := ⟨_, rfl⟩
      have hGn : G.length = E.length := by rw [← hGe]; exact natE_len E
      rw [hGe] at hG ⊢
      have hl : ∀ v ∈ [u], v < G.length := fun v h => by rw [List.mem_singleton.1 h, hGn]; exact hu
      have hN := nums_ok hG [u] hl
      have hsucc : ∀ y, y ∈ lat G u → ∃ k, nx G u k = some y := fun y hy => by
        obtain ⟨k, hk, ek⟩ := List.getElem_of_mem hy
        exact ⟨k, List.getElem?_eq_some_iff.2 ⟨hk, ek⟩⟩
      have hm : ∀ y ∈ lat G u, y < G.length := fun y hy => by obtain ⟨k, hk⟩ := hsucc y hy; exact hG u k y hk
      have hz : gt (numbersS G [u]) u ≠ 0 := hN.all u (List.mem_singleton.2 rfl)
      rw [Bool.eq_iff_iff, seenR_iff hG hm, List.any_eq_true]
      constructor
      · rintro ⟨v, hv, h⟩
        have h' : gt (numbersS G [u]) v = gt (numbersS G [u]) u := by simpa using h
        exact ⟨v, hv, ((hN.iff hz).1 h'.symm).2⟩
      · rintro ⟨v, hv, h⟩
        obtain ⟨k, hk⟩ := hsucc v hv
        have h' := (hN.iff (y := v) hz).2 ⟨(Re.refl u).step hk, h⟩
        exact ⟨v, hv, by simp [h']⟩
set_option maxRecDepth 100000 in
set_option maxHeartbeats 16000000 in
theorem GraphReach_walk (w : World) (oE : Option Addr) (n cE : Nat) (E : List (List Int)) (i : Int) (h : Edz w oE n E) (hn : n ≤ 140737488355328) (hr : ∀ l ∈ E, l.length ≤ 140737488355328) : Calls Try.prog 4 #[.agg #[.slice oE n cE], .int .i64 i] w fun e w' => e = .returned (.bool true) ∧ Only (fun _ => False) w w' := by
  have hlen := h.len
  have hA : Only (fun _ => False) w (w.alloc (.cells #[.slice oE n cE] 24)) := (Only.refl _ _).alloc _
  have hEA := h.keep hA
  have HB : Hid (∀ w', Only (fun _ => False) (w.alloc (.cells #[.slice oE n cE] 24)) w' → w'.cell? ⟨w.heap.size, 0, none⟩ = some (.slice oE n cE)) := Lib.hid (fun w' ho => (blk_c ((ho.block w.heap.size (by show _ < (Array.push _ _).size; rw [Array.size_push]; omega) (fun hc => hc)).trans (new_block w _)) rfl).1)
  cases hs : smallE E
  · have HS := Lib.hid hs
    clear hs
    go_enter Try.func4, Try.ntmps4
    go_wp2_with (first | (go_at_call 9; (refine (small_p _ oE n cE E hEA hn hr false HS.out).mono ?_); rintro e w5 ⟨rfl, hO5⟩; have q5 := HB.out _ hO5) | (go_at_call 10; (refine (example_p _).mono ?_); rintro e w6 ⟨rfl, hO6⟩))
    go_ret
    exact ⟨rfl, hA.trans (hO5.trans hO6)⟩
  · obtain ⟨hb1, hb2⟩ := small_bound hs
    have hn6 : n ≤ 1000000 := by omega
    have hr6 : ∀ l ∈ E, l.length ≤ 1000000 := fun l hl => by have := hb2 l hl; omega
    have hr8 : ∀ l ∈ E, l.length ≤ 100000000 := fun l hl => by have := hb2 l hl; omega
    have HS := Lib.hid hs
    obtain ⟨l, hl⟩ : ∃ l, reachL E i = l := ⟨_, rfl⟩
    obtain ⟨cy, hcy⟩ : ∃ c, cyclicE E i = c := ⟨_, rfl⟩
    have hll : l.length ≤ 60 := by have := reach_len E i; rw [hl] at this; omega
    have HR1 : Hid (∀ wx, Only (fun _ => False) (w.alloc (.cells #[.slice oE n cE] 24)) wx → Calls Try.prog 15 #[.agg #[.slice oE n cE], .int .i64 i] wx fun e w' => ∃ oa na ca, e = .returned (.slice oa na ca) ∧ Ints w' oa na l ∧ Only (fun _ => False) wx w') := Lib.hid (fun wx ho => (Reach_p wx oE n cE E i (hEA.keep ho) hn6 hr8).mono (by
      rw [hl]
      rintro e w' ⟨v, rfl, h2, h3⟩
      obtain ⟨oa, ca, hv⟩ := rowForm h2
      subst hv
      exact ⟨oa, _, ca, rfl, h2.ints, h3⟩))
    have HR2 : Hid (∀ wx, Only (fun _ => False) (w.alloc (.cells #[.slice oE n cE] 24)) wx → Calls Try.prog 16 #[.agg #[.slice oE n cE], .int .i64 i] wx fun e w' => ∃ oa na ca, e = .returned (.slice oa na ca) ∧ Ints w' oa na l ∧ Only (fun _ => False) wx w') := Lib.hid (fun wx ho => (rReach_p wx oE n cE E i (hEA.keep ho) hn6 hr6).mono (by
      rw [← reach_same, hl]
      rintro e w' ⟨v, rfl, h2, h3⟩
      obtain ⟨oa, ca, hv⟩ := rowForm h2
      subst hv
      exact ⟨oa, _, ca, rfl, h2.ints, h3⟩))
    have HC1 : Hid (∀ wx, Only (fun _ => False) (w.alloc (.cells #[.slice oE n cE] 24)) wx → Calls Try.prog 17 #[.agg #[.slice oE n cE], .int .i64 i] wx fun e w' => e = .returned (.bool cy) ∧ Only (fun _ => False) wx w') := Lib.hid (fun wx ho => by
      have := Cyclic_p wx oE n cE E i (hEA.keep ho) hn6 hr6
      rw [hcy] at this
      exact this)
    have HC2 : Hid (∀ wx, Only (fun _ => False) (w.alloc (.cells #[.slice oE n cE] 24)) wx → Calls Try.prog 18 #[.agg #[.slice oE n cE], .int .i64 i] wx fun e w' => e = .returned (.bool cy) ∧ Only (fun _ => False) wx w') := Lib.hid (fun wx ho => by
      have := rCyclic_p wx oE n cE E i (hEA.keep ho) hn6 hr6
      rw [← cyclic_same, hcy] at this
      exact this)
    have HLL : Hid ((l == l) = true) := Lib.hid (by simp)
    have HK : Hid (∀ a b, (Only (fun _ => False) (w.alloc (.cells #[.slice oE n cE] 24)) a ∧ a.cell? ⟨w.heap.size, 0, none⟩ = some (.slice oE n cE)) → Only (fun _ => False) a b → (Only (fun _ => False) (w.alloc (.cells #[.slice oE n cE] 24)) b ∧ b.cell? ⟨w.heap.size, 0, none⟩ = some (.slice oE n cE))) := Lib.hid (fun a b h1 h2 => ⟨h1.1.trans h2, HB.out _ (h1.1.trans h2)⟩)
    clear hs hl hcy
    go_enter Try.func4, Try.ntmps4
    go_wp2_with (go_at_call 9; (refine (small_p _ oE n cE E hEA hn hr true HS.out).mono ?_); rintro e w5 ⟨rfl, hO5⟩; have q5 := HB.out _ hO5)
    have hs0 : Only (fun _ => False) (w.alloc (.cells #[.slice oE n cE] 24)) w5.drew ∧ w5.drew.cell? ⟨w.heap.size, 0, none⟩ = some (.slice oE n cE) := ⟨hO5.drew, HB.out _ hO5.drew⟩
    go_region_held (fun wx => Only (fun _ => False) (w.alloc (.cells #[.slice oE n cE] 24)) wx ∧ wx.cell? ⟨w.heap.size, 0, none⟩ = some (.slice oE n cE)) (assumption)
      (first | (go_at_call 15; (refine (HR1.out _ (And.left (by assumption))).mono ?_); rintro e w6 ⟨oa, na, ca, rfl, hI6, hO6⟩; have hs6 := HK.out _ _ (by assumption) hO6) | (go_at_call 16; (refine (HR2.out _ (And.left (by assumption))).mono ?_); rintro e w7 ⟨ob, nb, cb, rfl, hI7, hO7⟩; have hs7 := HK.out _ _ (by assumption) hO7) | (go_at_call 14; (refine (SameInts_p _ oa ob na nb ca cb l l (by first | exact hI6 | exact hI6.old hO7 (fun _ _ hc => hc)) (by first | exact hI7 | exact hI7.old hO6 (fun _ _ hc => hc)) (by first | (have := hI6.len; omega)) true HLL.out).mono ?_); rintro e w8 ⟨rfl, hO8⟩; have hs8 := HK.out _ _ (by assumption) hO8) | (go_at_call 17; (refine (HC1.out _ (And.left (by assumption))).mono ?_); rintro e w9 ⟨rfl, hO9⟩; have hs9 := HK.out _ _ (by assumption) hO9) | (go_at_call 18; (refine (HC2.out _ (And.left (by assumption))).mono ?_); rintro e w10 ⟨rfl, hO10⟩; have hs10 := HK.out _ _ (by assumption) hO10) | (go_at_call 10; (refine (example_p _).mono ?_); rintro e w11 ⟨rfl, hO11⟩; have hs11 := HK.out _ _ (by assumption) hO11))
    all_goals
      go_wp2
      go_ret
      exact ⟨rfl, hA.trans hs11.1⟩
end Go.Proofs.Ytijohaeiiidcpaa
