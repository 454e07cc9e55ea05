/-
  WALKS. The law's own: small.
-/
import Derived.Test.YtijohaeiiidcpaaGbN
namespace Go.Proofs.Ytijohaeiiidcpaa
open Go.RowKit Go.Maps
/-- How many edges the first k nodes have. -/
def edgeN (E : List (List Int)) : Nat → Nat
  | 0 => 0
  | k + 1 => edgeN E k + (E.getD k []).length
def smallE (E : List (List Int)) : Bool := decide (E.length ≤ 60) && decide (edgeN E (min E.length 61) ≤ 2000)
theorem edgeN_le {E : List (List Int)} {m : Nat} (hr : ∀ l ∈ E, l.length ≤ m) : ∀ k, edgeN E k ≤ k * m
  | 0 => Nat.zero_le _
  | k + 1 => by
    have h1 := edgeN_le hr k
    have h2 : (E.getD k []).length ≤ m := by
      rw [List.getD_eq_getElem?_getD]
      cases h : E[k]? with
      | none => exact Nat.zero_le _
      | some l => exact hr l (List.mem_of_getElem? h)
    show edgeN E k + _ ≤ _
    rw [Nat.succ_mul]
    omega
set_option maxRecDepth 100000 in
set_option maxHeartbeats 8000000 in
theorem small_p (w : World) (oE : Option Addr) (n cE : Nat) (E : List (List Int)) (h : Edz w oE n E) (hn : n ≤ 140737488355328) (hr : ∀ l ∈ E, l.length ≤ 140737488355328) (x : Bool) (hx : smallE E = x) : Calls Try.prog 9 #[.agg #[.slice oE n cE]] w fun e w' => e = .returned (.bool x) ∧ Only (fun _ => False) w w' := by
  have hlen := h.len
  have hA : Only (fun _ => False) w (w.alloc (.cells #[.slice oE n cE] 24)) := (Only.refl _ _).alloc _
  have HB : Hid (∀ w', Only (fun _ => False) (w.alloc (.cells #[.slice oE n cE] 24)) w' → w'.cell? ⟨w.heap.size, 0, none⟩ = some (.slice oE n cE)) := Lib.hid (fun w' ho => (blk_c ((ho.block w.heap.size (by show _ < (Array.push _ _).size; rw [Array.size_push]; omega) (fun hc => hc)).trans (new_block w _)) rfl).1)
  have HX := Lib.hid hx
  have HR := Lib.hid (edgeN_le hr)
  clear hx
  go_enter Try.func9, Try.ntmps9
  go_wp2
  go_loopw [3, 4] (fun t q wr => ∃ k : Nat, k ≤ n ∧ k ≤ 61 ∧ q = .int .i64 k ∧ t = .int .i64 (edgeN E k : Nat) ∧ Only (fun _ => False) (w.alloc (.cells #[.slice oE n cE] 24)) wr) (fun _ q _ => n - (intOf q).toNat)
  case atStart => exact ⟨0, by omega, by omega, rfl, rfl, Only.refl _ _⟩
  case round =>
    obtain ⟨k, hk, hk6, rfl, rfl, hO⟩ := hrel
    have q0 := HB.out _ hO
    have hs := HR.out k
    obtain ⟨t, ht⟩ : ∃ t, edgeN E k = t := ⟨_, rfl⟩
    rw [ht] at hs ⊢
    have HT := Lib.hid ht
    clear ht
    by_cases hlt : k < n ∧ k ≤ 60
    · obtain ⟨hlt, hk60⟩ := hlt
      have hkl : k < E.length := by omega
      obtain ⟨b, o, ra, rn, rc, hoE, hc, hi⟩ := ((h.keep hA).keep hO).cell k hkl
      subst hoE
      have hrl := hi.len
      have hrb : rn ≤ 140737488355328 := by rw [← hrl]; exact hr _ (List.getElem_mem hkl)
      have hN : edgeN E (k + 1) = t + rn := by
        show edgeN E k + (E.getD k []).length = _
        rw [HT.out, List.getD_eq_getElem?_getD, List.getElem?_eq_getElem hkl]
        show t + E[k].length = _
        rw [hrl]
      have HN := Lib.hid hN
      have d1 : decide ((k : Int) < (n : Int)) = true := decide_eq_true (by omega)
      have d2 : decide ((k : Int) ≤ 60) = true := decide_eq_true (by omega)
      have h01 : (0 : Int) ≤ (k : Int) := Int.natCast_nonneg k
      have h02 : (k : Int) < (n : Int) := by omega
      have h03 : (k : Int).toNat = k := Int.toNat_natCast k
      clear hN hrl hi
      go_wp2
      go_roundw
      case rel => exact ⟨k + 1, by omega, by omega, by go_num, by rw [HN.out]; go_num, hO⟩
      case measure => simp [intOf]; omega
    · have hm : k = min E.length 61 := by omega
      have HM := Lib.hid (show edgeN E (min E.length 61) = t by rw [← hm]; exact HT.out)
      clear hm
      by_cases hn6 : n ≤ 60
      · have hkn : k = n := by omega
        have HKN := Lib.hid hkn
        have d1 : decide ((k : Int) < (n : Int)) = false := decide_eq_false (by omega)
        have d3 : decide ((n : Int) ≤ 60) = true := decide_eq_true (by omega)
        have hv : x = decide ((t : Int) ≤ 2000) := by
          rw [← HX.out]
          unfold smallE
          rw [HM.out, hlen, decide_eq_true hn6, Bool.true_and]
          exact decide_eq_decide.2 ⟨fun h => by omega, fun h => by omega⟩
        have HV := Lib.hid hv
        have hl1 : ¬ k < n := by omega
        clear hv hkn hlt
        by_cases ht2 : t ≤ 2000
        · have d4 : decide ((t : Int) ≤ 2000) = true := decide_eq_true (by omega)
          have HV2 := Lib.hid (HV.out.trans d4)
          go_wp2
          go_ret
          rw [HV2.out]
          exact ⟨rfl, hA.trans hO⟩
        · have d4 : decide ((t : Int) ≤ 2000) = false := decide_eq_false (by omega)
          have HV2 := Lib.hid (HV.out.trans d4)
          go_wp2
          go_ret
          rw [HV2.out]
          exact ⟨rfl, hA.trans hO⟩
      · have hk61 : k = 61 := by omega
        subst hk61
        have d2 : decide ((n : Int) ≤ 60) = false := decide_eq_false (by omega)
        have hv : x = false := by
          rw [← HX.out]
          unfold smallE
          rw [hlen, decide_eq_false hn6, Bool.false_and]
        have HV := Lib.hid hv
        clear hv hlt
        by_cases h61 : 61 < n
        · have d1 : decide ((61 : Int) < (n : Int)) = true := decide_eq_true (by omega)
          go_wp2
          go_ret
          rw [HV.out]
          exact ⟨rfl, hA.trans hO⟩
        · have d1 : decide ((61 : Int) < (n : Int)) = false := decide_eq_false (by omega)
          go_wp2
          go_ret
          rw [HV.out]
          exact ⟨rfl, hA.trans hO⟩
end Go.Proofs.Ytijohaeiiidcpaa
