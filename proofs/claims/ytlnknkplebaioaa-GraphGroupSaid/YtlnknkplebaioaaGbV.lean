/-
  WALKS. The reference's check: Valid.
-/
import Derived.Test.YtlnknkplebaioaaGbN
namespace Go.Proofs.Ytlnknkplebaioaa
open Go.RowKit Go.Maps
set_option maxRecDepth 100000 in
set_option maxHeartbeats 8000000 in
theorem Valid_p (w : World) (oE : Option Addr) (n cE : Nat) (E : List (List Int)) (h : Edz w oE n E) (hn : n ≤ 1000000000) (hr : ∀ l ∈ E, l.length ≤ 1000000000) : Calls Try.prog 25 #[.agg #[.slice oE n cE]] w fun e w' => e = .returned (.bool (validE E)) ∧ Only (fun _ => False) w w' := by
  have hlen := h.len
  have hA : Only (fun _ => False) w (w.alloc (.cells #[.slice oE n cE] 24)) := (Only.refl _ _).alloc _
  have HB : Hid (∀ w', Only (fun _ => False) (w.alloc (.cells #[.slice oE n cE] 24)) w' → w'.cell? ⟨w.heap.size, 0, none⟩ = some (.slice oE n cE)) := Lib.hid (fun w' ho => (blk_c ((ho.block w.heap.size (by show _ < (Array.push _ _).size; rw [Array.size_push]; omega) (fun hc => hc)).trans (new_block w _)) rfl).1)
  go_enter Try.func25, Try.ntmps25
  go_wp2
  go_loopw [3] (fun q wr => ∃ k : Nat, k ≤ n ∧ q = .int .i64 k ∧ Hid (vK E k = true) ∧ Only (fun _ => False) (w.alloc (.cells #[.slice oE n cE] 24)) wr) (fun q _ => n - (intOf q).toNat)
  case atStart => exact ⟨0, by omega, rfl, Lib.hid rfl, Only.refl _ _⟩
  case round =>
    obtain ⟨k, hk, rfl, HK, hO⟩ := hrel
    have q0 := HB.out _ hO
    by_cases hlt : k < n
    · have hkl : k < E.length := by omega
      obtain ⟨b, o, ra, rn, rc, hoE, hc, hi⟩ := ((h.keep hA).keep hO).cell k hkl
      subst hoE
      have hvs := vK_step hkl
      rw [HK.out, Bool.true_and] at hvs
      have HVS := Lib.hid hvs
      have hrl := hi.len
      obtain ⟨l, hl⟩ : ∃ l, E[k] = l := ⟨_, rfl⟩
      have HE := Lib.hid hl
      rw [hl] at hi hrl
      have hrb : rn ≤ 1000000000 := by rw [← hrl, ← hl]; exact hr _ (List.getElem_mem hkl)
      have HRL := Lib.hid hrl
      have HI := Lib.hid hi
      have HC := Lib.hid hc
      clear hvs hl hrl hi hc
      have h01 : (0 : Int) ≤ (k : Int) := Int.natCast_nonneg k
      have h02 : (k : Int) < (n : Int) := by omega
      have h03 : (k : Int).toNat = k := Int.toNat_natCast k
      obtain ⟨wo, hwo⟩ : ∃ wo : World, wo = wr := ⟨_, rfl⟩
      subst hwo
      go_wp2
      go_loopw [4] (fun q wr => ∃ j : Nat, j ≤ rn ∧ q = .int .i64 j ∧ Hid ((l.take j).all (okN E.length) = true) ∧ Only (fun _ => False) wo wr) (fun q _ => rn - (intOf q).toNat)
      case atStart => exact ⟨0, by omega, rfl, Lib.hid rfl, Only.refl _ _⟩
      case round =>
        clear q0
        obtain ⟨j, hj, rfl, HJ, hO2⟩ := hrel
        have q0 := HB.out _ (hO.trans hO2)
        have c0 := (World.cell?_of_block (hO2.block b (cell_lt HC.out) (fun hc => hc))).trans HC.out
        by_cases hjl : j < rn
        · have hjl2 : j < l.length := by have := HRL.out; omega
          obtain ⟨b2, o2, hra, hc2⟩ := (HI.out.old hO2 (fun _ _ hc => hc)).cell j hjl2
          subst hra
          have hst := all_step (n := E.length) hjl2
          rw [HJ.out, Bool.true_and] at hst
          obtain ⟨x, hx⟩ : ∃ x, l[j] = x := ⟨_, rfl⟩
          rw [hx] at hc2 hst
          have h11 : (0 : Int) ≤ (j : Int) := Int.natCast_nonneg j
          have h12 : (j : Int) < (rn : Int) := by omega
          have h13 : (j : Int).toNat = j := Int.toNat_natCast j
          have HF : okN E.length x = false → Hid (validE E = false) := fun hok => Lib.hid (by
            have h1 : (E[k].all (okN E.length)) = false := by
              rw [HE.out, List.all_eq_false]
              exact ⟨x, hx ▸ List.getElem_mem hjl2, by rw [hok]; exact Bool.false_ne_true⟩
            unfold validE
            rw [List.all_eq_false]
            exact ⟨E[k], List.getElem_mem hkl, by rw [h1]; exact Bool.false_ne_true⟩)
          by_cases hx0 : x < 0
          · have HV := HF (by unfold okN; simp; omega)
            have d1 : decide (x < 0) = true := decide_eq_true hx0
            clear hx hst HF
            go_wp2
            go_quiet (fail)
            go_wp2
            go_ret
            rw [HV.out]
            exact ⟨rfl, hA.trans (hO.trans (hO2.trans (only_drewN _ _)))⟩
          · have d1 : decide (x < 0) = false := decide_eq_false hx0
            by_cases hxn : (n : Int) ≤ x
            · have HV := HF (by unfold okN; simp; omega)
              have d2 : decide ((n : Int) ≤ x) = true := decide_eq_true hxn
              clear hx hst HF
              go_wp2
              go_quiet (fail)
              go_wp2
              go_ret
              rw [HV.out]
              exact ⟨rfl, hA.trans (hO.trans (hO2.trans (only_drewN _ _)))⟩
            · have d2 : decide ((n : Int) ≤ x) = false := decide_eq_false hxn
              have HN : Hid ((l.take (j + 1)).all (okN E.length) = true) := Lib.hid (by rw [hst]; unfold okN; simp; omega)
              clear hx hst HF
              go_wp2
              go_quiet (fail)
              go_wp2
              go_roundw
              case rel => exact ⟨j + 1, by omega, by go_num, HN, hO2.trans (only_drewN _ _)⟩
              case measure => simp [intOf]; omega
        · have HN : Hid (vK E (k + 1) = true) := Lib.hid (by rw [HVS.out, HE.out, ← HJ.out, List.take_of_length_le (by have := HRL.out; omega)])
          go_wp2
          go_roundw
          case rel => exact ⟨k + 1, by omega, by go_num, HN, hO.trans hO2⟩
          case measure => simp [intOf]; omega
    · have HV : Hid (validE E = true) := Lib.hid (by
        have := HK.out
        unfold vK at this
        rwa [List.take_of_length_le (by omega)] at this)
      go_wp2
      go_ret
      rw [HV.out]
      exact ⟨rfl, hA.trans hO⟩
end Go.Proofs.Ytlnknkplebaioaa
