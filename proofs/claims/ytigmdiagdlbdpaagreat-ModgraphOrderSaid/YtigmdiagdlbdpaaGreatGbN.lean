/-
  WALKS. The graph's check: isNode, isValid; nodes.
-/
import Derived.Test.YtigmdiagdlbdpaaGreatGbJ
namespace Go.Proofs.YtigmdiagdlbdpaaGreat
open Go.RowKit Go.Maps
/-- A slice of whole numbers, read; a graph of them. -/
structure Inz (w : World) (oa : Option Addr) (n : Nat) (l : List Int) : Prop where
  len : l.length = n
  cell : ∀ k (hk : k < l.length), ∃ b o, oa = some ⟨b, o, none⟩ ∧ w.cell? ⟨b, o + k, none⟩ = some (.int .i64 l[k])
structure Edz (w : World) (oa : Option Addr) (n : Nat) (E : List (List Int)) : Prop where
  len : E.length = n
  cell : ∀ k (hk : k < E.length), ∃ b o ra rn rc, oa = some ⟨b, o, none⟩ ∧ w.cell? ⟨b, o + k, none⟩ = some (.slice ra rn rc) ∧ Inz w ra rn E[k]
theorem Inz.old {w w' : World} {oa : Option Addr} {n : Nat} {l : List Int} {K : Nat → Prop} (h : Inz w oa n l) (ho : Only K w w') (hk : ∀ i, i < w.heap.size → ¬ K i) : Inz w' oa n l :=
  ⟨h.len, fun k hl => by
    obtain ⟨b, o, e, hc⟩ := h.cell k hl
    have hb := cell_lt hc
    exact ⟨b, o, e, (World.cell?_of_block (ho.block b hb (hk b hb))).trans hc⟩⟩
theorem Edz.old {w w' : World} {oa : Option Addr} {n : Nat} {E : List (List Int)} {K : Nat → Prop} (h : Edz w oa n E) (ho : Only K w w') (hk : ∀ i, i < w.heap.size → ¬ K i) : Edz w' oa n E :=
  ⟨h.len, fun k hl => by
    obtain ⟨b, o, ra, rn, rc, e, hc, hi⟩ := h.cell k hl
    have hb := cell_lt hc
    exact ⟨b, o, ra, rn, rc, e, (World.cell?_of_block (ho.block b hb (hk b hb))).trans hc, hi.old ho hk⟩⟩
theorem Edz.keep {w w' : World} {oa : Option Addr} {n : Nat} {E : List (List Int)} (h : Edz w oa n E) (ho : Only (fun _ => False) w w') : Edz w' oa n E := h.old ho (fun _ _ hc => hc)
def okN (n : Nat) (x : Int) : Bool := decide (0 ≤ x) && decide (x < n)
def validE (E : List (List Int)) : Bool := E.all (fun l => l.all (okN E.length))
def natE (E : List (List Int)) : List (List Nat) := E.map (fun l => l.map Int.toNat)
theorem natE_len (E : List (List Int)) : (natE E).length = E.length := List.length_map _
/-- A valid graph is one of natural numbers. -/
theorem Edz.edg {w : World} {oa : Option Addr} {n : Nat} {E : List (List Int)} (h : Edz w oa n E) (hv : validE E = true) : Edg w oa n (natE E) := by
  refine ⟨(natE_len E).trans h.len, fun k hk => ?_⟩
  have hk' : k < E.length := by rw [← natE_len E]; exact hk
  obtain ⟨b, o, ra, rn, rc, e, hc, hi⟩ := h.cell k hk'
  have hg : (natE E)[k] = E[k].map Int.toNat := by simp [natE]
  refine ⟨b, o, ra, rn, rc, e, hc, ?_⟩
  rw [hg]
  refine ⟨by rw [List.length_map]; exact hi.len, fun j hj => ?_⟩
  have hj' : j < E[k].length := by rw [List.length_map] at hj; exact hj
  obtain ⟨b', o', e', hc'⟩ := hi.cell j hj'
  refine ⟨b', o', e', ?_⟩
  have hpos : 0 ≤ E[k][j] := by
    have h1 := List.all_eq_true.1 (List.all_eq_true.1 hv E[k] (List.getElem_mem hk')) E[k][j] (List.getElem_mem hj')
    unfold okN at h1
    simp only [Bool.and_eq_true, decide_eq_true_eq] at h1
    exact h1.1
  rw [hc', gt_at (by rw [List.length_map]; exact hj'), List.getElem_map]
  show some (Value.int .i64 _) = some (Value.int .i64 ((E[k][j].toNat : Nat) : Int))
  rw [Int.toNat_of_nonneg hpos]
theorem valid_G {E : List (List Int)} (hv : validE E = true) : ValidG (natE E) := by
  intro u k v hx
  rw [natE_len]
  have hu := nx_lt hx
  rw [natE_len] at hu
  unfold nx at hx
  rw [show (natE E).getD u [] = E[u].map Int.toNat by rw [List.getD_eq_getElem?_getD, List.getElem?_eq_getElem (by rw [natE_len]; exact hu)]; simp [natE]] at hx
  rw [List.getElem?_map] at hx
  cases he : E[u][k]? with
  | none => rw [he] at hx; cases hx
  | some x =>
    rw [he] at hx
    have h1 := List.all_eq_true.1 (List.all_eq_true.1 hv E[u] (List.getElem_mem hu)) x (List.mem_of_getElem? he)
    unfold okN at h1
    simp only [Bool.and_eq_true, decide_eq_true_eq] at h1
    have : x.toNat = v := Option.some.inj hx
    omega
set_option maxRecDepth 100000 in
theorem isNode_p (w : World) (oE : Option Addr) (n cE : Nat) (i : Int) (x : Bool) (hx : okN n i = x) : Calls Tryz.prog 58 #[.agg #[.slice oE n cE], .int .i64 i] w fun e w' => e = .returned (.bool x) ∧ Only (fun _ => False) w w' := by
  by_cases h0 : 0 ≤ i
  · by_cases h1 : i < n
    · have HX : Hid (x = true) := Lib.hid (by rw [← hx]; simp [okN, h0, h1])
      go_enter Tryz.func58, Tryz.ntmps58
      go_wp2
      go_ret
      rw [HX.out]
      exact ⟨rfl, (Only.refl _ _).alloc _⟩
    · have HX : Hid (x = false) := Lib.hid (by rw [← hx]; simp [okN]; omega)
      go_enter Tryz.func58, Tryz.ntmps58
      go_wp2
      go_ret
      rw [HX.out]
      exact ⟨rfl, (Only.refl _ _).alloc _⟩
  · have HX : Hid (x = false) := Lib.hid (by rw [← hx]; simp [okN]; omega)
    go_enter Tryz.func58, Tryz.ntmps58
    go_wp2
    go_ret
    rw [HX.out]
    exact ⟨rfl, (Only.refl _ _).alloc _⟩
/-- The first k rows are in order, and of the next the first j numbers. -/
def vK (E : List (List Int)) (k : Nat) : Bool := (E.take k).all (fun l => l.all (okN E.length))
theorem vK_step {E : List (List Int)} {k : Nat} (hk : k < E.length) : vK E (k + 1) = (vK E k && E[k].all (okN E.length)) := by
  unfold vK
  rw [List.take_succ_eq_append_getElem hk, List.all_append]
  simp
theorem all_step {l : List Int} {j n : Nat} (hj : j < l.length) : (l.take (j + 1)).all (okN n) = ((l.take j).all (okN n) && okN n l[j]) := by
  rw [List.take_succ_eq_append_getElem hj, List.all_append]
  simp
set_option maxRecDepth 100000 in
set_option maxHeartbeats 8000000 in
theorem isValid_p (w : World) (oE : Option Addr) (n cE : Nat) (E : List (List Int)) (h : Edz w oE n E) (hn : n ≤ 1000000000) (hr : ∀ l ∈ E, l.length ≤ 1000000000) : Calls Tryz.prog 44 #[.agg #[.slice oE n cE]] w fun e w' => e = .returned (.bool (validE E)) ∧ Only (fun _ => False) w w' := by
  have hlen := h.len
  have hA : Only (fun _ => False) w (w.alloc (.cells #[.slice oE n cE] 49)) := (Only.refl _ _).alloc _
  have HB : Hid (∀ w', Only (fun _ => False) (w.alloc (.cells #[.slice oE n cE] 49)) w' → w'.cell? ⟨w.heap.size, 0, none⟩ = some (.slice oE n cE)) := Lib.hid (fun w' ho => (blk_c ((ho.block w.heap.size (by show _ < (Array.push _ _).size; rw [Array.size_push]; omega) (fun hc => hc)).trans (new_block w _)) rfl).1)
  go_enter Tryz.func44, Tryz.ntmps44
  go_wp2
  go_loopw [10] (fun q wr => ∃ k : Nat, k ≤ n ∧ q = .int .i64 k ∧ Hid (vK E k = true) ∧ Only (fun _ => False) (w.alloc (.cells #[.slice oE n cE] 49)) wr) (fun q _ => n - (intOf q).toNat)
  case atStart => exact ⟨0, by omega, rfl, Lib.hid rfl, Only.refl _ _⟩
  case round =>
    obtain ⟨k, hk, rfl, HK, hO⟩ := hrel
    by_cases hlt : k < n
    · have hkl : k < E.length := by omega
      obtain ⟨b, o, ra, rn, rc, hoE, hc, hi⟩ := ((h.keep hA).keep hO).cell k hkl
      subst hoE
      have hvs := vK_step hkl
      rw [HK.out, Bool.true_and] at hvs
      have HVS := Lib.hid hvs
      have hrl := hi.len
      obtain ⟨l, hl⟩ : ∃ l, E[k] = l := ⟨_, rfl⟩
      have HE := Lib.hid hl
      rw [hl] at hi hrl
      have hrb : rn ≤ 1000000000 := by rw [← hrl, ← hl]; exact hr _ (List.getElem_mem hkl)
      have HRL := Lib.hid hrl
      clear hvs hl hrl
      obtain ⟨wo, hwo⟩ : ∃ wo : World, wo = wr := ⟨_, rfl⟩
      subst hwo
      go_wp2
      go_loopw [16] (fun q wr => ∃ j : Nat, j ≤ rn ∧ q = .int .i64 j ∧ Hid ((l.take j).all (okN E.length) = true) ∧ Only (fun _ => False) wo wr) (fun q _ => rn - (intOf q).toNat)
      case atStart => exact ⟨0, by omega, rfl, Lib.hid rfl, Only.refl _ _⟩
      case round =>
        obtain ⟨j, hj, rfl, HJ, hO2⟩ := hrel
        by_cases hjl : j < rn
        · have hjl2 : j < l.length := by have := HRL.out; omega
          obtain ⟨b2, o2, hra, hc2⟩ := (hi.old hO2 (fun _ _ hc => hc)).cell j hjl2
          subst hra
          have hst := all_step (n := E.length) hjl2
          rw [HJ.out, Bool.true_and] at hst
          obtain ⟨x, hx⟩ : ∃ x, l[j] = x := ⟨_, rfl⟩
          rw [hx] at hc2 hst
          have q0 := HB.out _ (hO.trans hO2)
          have hbl : w.heap.size < wr.heap.size := by have := cell_lt q0; exact this
          cases hok : okN E.length x
          · have HF : Hid (validE E = false) := Lib.hid (by
              have h1 : (E[k].all (okN E.length)) = false := by
                rw [HE.out, List.all_eq_false]
                exact ⟨x, hx ▸ List.getElem_mem hjl2, by rw [hok]; exact Bool.false_ne_true⟩
              unfold validE
              rw [List.all_eq_false]
              exact ⟨E[k], List.getElem_mem hkl, by rw [h1]; exact Bool.false_ne_true⟩)
            have HOK : Hid (okN n x = false) := Lib.hid (by rw [← hlen]; exact hok)
            clear hx hst hok
            go_wp2_with (go_at_call 58; (refine (isNode_p _ (some ⟨b, o, none⟩) n cE x false HOK.out).mono ?_); rintro e w5 ⟨rfl, hO5⟩)
            go_ret
            rw [HF.out]
            exact ⟨rfl, hA.trans (hO.trans (hO2.trans hO5))⟩
          · have HN : Hid ((l.take (j + 1)).all (okN E.length) = true) := Lib.hid (by rw [hst, hok])
            have HOK : Hid (okN n x = true) := Lib.hid (by rw [← hlen]; exact hok)
            clear hx hst hok
            go_wp2_with (go_at_call 58; (refine (isNode_p _ (some ⟨b, o, none⟩) n cE x true HOK.out).mono ?_); rintro e w5 ⟨rfl, hO5⟩)
            go_roundw
            case rel => exact ⟨j + 1, by omega, by go_num, HN, hO2.trans hO5⟩
            case measure => simp [intOf]; omega
        · have HN : Hid (vK E (k + 1) = true) := Lib.hid (by rw [HVS.out, HE.out, ← HJ.out, List.take_of_length_le (by have := HRL.out; omega)])
          go_wp2
          go_roundw
          case rel => exact ⟨k + 1, by omega, by go_num, HN, hO.trans hO2⟩
          case measure => simp [intOf]; omega
    · have HV : Hid (validE E = true) := Lib.hid (by
        have := HK.out
        unfold vK at this
        rwa [List.take_of_length_le (by omega)] at this)
      go_wp2
      go_ret
      rw [HV.out]
      exact ⟨rfl, hA.trans hO⟩
end Go.Proofs.YtigmdiagdlbdpaaGreat
