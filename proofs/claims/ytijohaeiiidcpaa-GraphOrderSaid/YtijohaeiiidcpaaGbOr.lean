/-
  WALKS. GraphOrder.
-/
import Derived.Test.YtijohaeiiidcpaaGbLw
import Derived.Test.YtijohaeiiidcpaaGat
namespace Go.Proofs.Ytijohaeiiidcpaa
open Go.RowKit Go.Maps
set_option maxRecDepth 100000 in
set_option maxHeartbeats 8000000 in
theorem Order_out (w : World) (oE : Option Addr) (n cE : Nat) (E : List (List Int)) (h : Edz w oE n E) (hn : n ≤ 140737488355328) (hr : ∀ l ∈ E, l.length ≤ 140737488355328) (hok : (smallE E && validE E) = false) : Calls Try.prog 7 #[.agg #[.slice oE n cE]] w fun e w' => e = .returned (.bool true) ∧ Only (fun _ => False) w w' := by
  have hlen := h.len
  have hA : Only (fun _ => False) w (w.alloc (.cells #[.slice oE n cE] 24)) := (Only.refl _ _).alloc _
  have hEA := h.keep hA
  have HB : Hid (∀ w', Only (fun _ => False) (w.alloc (.cells #[.slice oE n cE] 24)) w' → w'.cell? ⟨w.heap.size, 0, none⟩ = some (.slice oE n cE)) := Lib.hid (fun w' ho => (blk_c ((ho.block w.heap.size (by show _ < (Array.push _ _).size; rw [Array.size_push]; omega) (fun hc => hc)).trans (new_block w _)) rfl).1)
  cases hs : smallE E
  · have HS := Lib.hid hs
    clear hs hok
    go_enter Try.func7, Try.ntmps7
    go_wp2_with (first | (go_at_call 9; (refine (small_p _ oE n cE E hEA hn hr false HS.out).mono ?_); rintro e w5 ⟨rfl, hO5⟩; have q5 := HB.out _ hO5) | (go_at_call 10; (refine (example_p _).mono ?_); rintro e w6 ⟨rfl, hO6⟩))
    go_ret
    exact ⟨rfl, hA.trans (hO5.trans hO6)⟩
  · obtain ⟨hb1, hb2⟩ := small_bound hs
    have hn9 : n ≤ 1000000000 := by omega
    have hr9 : ∀ l ∈ E, l.length ≤ 1000000000 := fun l hl => by have := hb2 l hl; omega
    have HS := Lib.hid hs
    cases hv : validE E
    · have HV := Lib.hid hv
      clear hs hv hok
      go_enter Try.func7, Try.ntmps7
      go_wp2_with (first | (go_at_call 9; (refine (small_p _ oE n cE E hEA hn hr true HS.out).mono ?_); rintro e w5 ⟨rfl, hO5⟩; have q5 := HB.out _ hO5) | (go_at_call 25; (refine (Valid_p _ oE n cE E (hEA.keep hO5) hn9 hr9).mono ?_); rintro e w7 ⟨rfl, hO7⟩; have q7 := HB.out _ (hO5.trans hO7); have hv := HV.out) | (go_at_call 10; (refine (example_p _).mono ?_); rintro e w6 ⟨rfl, hO6⟩))
      go_ret
      exact ⟨rfl, hA.trans (hO5.trans (hO7.trans hO6))⟩
    · rw [hs, hv] at hok
      cases hok
set_option maxRecDepth 100000 in
set_option maxHeartbeats 16000000 in
theorem Order_in (w : World) (oE : Option Addr) (n cE : Nat) (E : List (List Int)) (h : Edz w oE n E) (hs : smallE E = true) (hv : validE E = true) : Calls Try.prog 7 #[.agg #[.slice oE n cE]] w fun e w' => e = .returned (.bool true) ∧ Only (fun _ => False) w w' := by
  have hlen := h.len
  obtain ⟨hb1, hb2⟩ := small_bound hs
  have hn47 : n ≤ 140737488355328 := by omega
  have hr47 : ∀ l ∈ E, l.length ≤ 140737488355328 := fun l hl => by have := hb2 l hl; omega
  have hn9 : n ≤ 1000000000 := by omega
  have hr9 : ∀ l ∈ E, l.length ≤ 1000000000 := fun l hl => by have := hb2 l hl; omega
  have hn6 : n ≤ 1000000 := by omega
  have hr6 : ∀ l ∈ E, l.length ≤ 1000000 := fun l hl => by have := hb2 l hl; omega
  have hA : Only (fun _ => False) w (w.alloc (.cells #[.slice oE n cE] 24)) := (Only.refl _ _).alloc _
  have hEA := h.keep hA
  have s1 : (w.alloc (.cells #[.slice oE n cE] 24)).heap.size = w.heap.size + 1 := by show (Array.push _ _).size = _; rw [Array.size_push]
  have HB : Hid (∀ K w', ¬ K w.heap.size → Only K (w.alloc (.cells #[.slice oE n cE] 24)) w' → w'.cell? ⟨w.heap.size, 0, none⟩ = some (.slice oE n cE)) := Lib.hid (fun K w' hk ho => (blk_c ((ho.block w.heap.size (by rw [s1]; omega) hk).trans (new_block w _)) rfl).1)
  have hCC : compsE E = compsG (natE E) := by unfold compsE; rw [hv]; rfl
  have hG1 := hEA.edg hv
  have hG2 := valid_G hv
  have hG4 := nat_deg hr6
  have hGn : (natE E).length = n := by rw [natE_len, hlen]
  obtain ⟨G, hG⟩ : ∃ G, natE E = G := ⟨_, rfl⟩
  have hPA := comps_parts hG2
  rw [hG] at hG1 hG2 hG4 hGn hCC hPA
  obtain ⟨C, hC⟩ : ∃ C, compsG G = C := ⟨_, rfl⟩
  rw [hC] at hPA hCC
  have HCP : Hid (∀ wx, Only (fun _ => False) (w.alloc (.cells #[.slice oE n cE] 24)) wx → Calls Try.prog 12 #[.agg #[.slice oE n cE]] wx fun e w' => ∃ oc nc cc, e = .returned (.slice oc nc cc) ∧ EdgB w' wx.heap.size oc nc C ∧ Only (fun _ => False) wx w') := Lib.hid (fun wx ho => (Components_p wx oE n cE E (hEA.keep ho) hn6 hr6).mono (by
    rw [hCC]
    rintro e w' ⟨oc, nc, cc, h1, h2, h3⟩
    exact ⟨oc, nc, cc, h1, h2, h3⟩))
  have hpc := parts_len hPA
  have HPR := Lib.hid (fun i => parts_row hPA i)
  have HSM := Lib.hid (sumN_all hPA)
  have HPA := Lib.hid hPA
  have HS := Lib.hid hs
  have HV := Lib.hid hv
  have HG1 := Lib.hid hG1
  have HG2 := Lib.hid hG2
  have HG4 := Lib.hid hG4
  have HGn := Lib.hid hGn
  have hmk := mk_ints hn9
  rw [hGn] at hpc
  clear hs hv hCC hG1 hG2 hG4 hGn hG hPA hC
  go_enter Try.func7, Try.ntmps7
  go_wp2_with (first | (go_at_call 9; (refine (small_p _ oE n cE E hEA hn47 hr47 true HS.out).mono ?_); rintro e w5 ⟨rfl, hO5⟩; have q5 := HB.out _ _ (fun hc => hc) hO5) | (go_at_call 25; (refine (Valid_p _ oE n cE E (hEA.keep hO5) hn9 hr9).mono ?_); rintro e w7 ⟨rfl, hO7⟩; have hO7' := hO5.trans hO7; have q7 := HB.out _ _ (fun hc => hc) hO7'; have r7 := HB.out _ (w7.alloc (.cells (madeCells #[Value.int .i64 0] n) 3)) (fun hc => hc) (hO7'.trans ((Only.refl (fun _ => False) w7).alloc (.cells (madeCells #[Value.int .i64 0] n) 3))); have hv := HV.out) | (go_at_call 12; (refine (HCP.out _ (hO7'.trans ((Only.refl (fun _ => False) w7).alloc (.cells (madeCells #[Value.int .i64 0] n) 3)))).mono ?_); rintro e w8 ⟨oc, nc, cc, rfl, hC8, hO8⟩))
  have hO8' : Only (fun _ => False) (w.alloc (.cells #[.slice oE n cE] 24)) w8 := hO7'.trans (((Only.refl (fun _ => False) w7).alloc (zO n)).trans hO8)
  obtain ⟨b0, hb0⟩ : ∃ b, w7.heap.size = b := ⟨_, rfl⟩
  have hL8 : IR w8 b0 (.slice (some ⟨b0, 0, none⟩) n n) (atI C n 0) := by
    have h1 : IR (w7.alloc (zO n)) b0 (.slice (some ⟨b0, 0, none⟩) n n) (zeros n) := by rw [← hb0]; exact IR.made (Nat.le_refl _) (new_block w7 _) hn9
    exact h1.only hO8 (fun _ _ hc => hc)
  have hwb : w.heap.size < b0 := by
    have := hO7'.size
    rw [← hb0]
    omega
  rw [hb0]
  have hC8' : EdgB w8 (b0 + 1) oc nc C := by
    rw [← hb0]
    exact hC8.mono (by show _ ≤ (Array.push _ _).size; rw [Array.size_push]; exact Nat.le_refl _)
  have hncl := hC8.len
  have HC8 := Lib.hid hC8'
  have HFR : Hid (∀ wx, Only (· = b0) w8 wx → Only (· = b0) (w.alloc (.cells #[.slice oE n cE] 24)) wx) := Lib.hid (fun wx ho => hO8'.lift.trans ho)
  have HG8 : Hid (∀ wx, Only (· = b0) w8 wx → Edg wx oE n G) := Lib.hid (fun wx ho => HG1.out.old (HFR.out wx ho) (fun i hi hc => by have hc' : i = b0 := hc; omega))
  have HQ8 : Hid (∀ wx, Only (· = b0) w8 wx → wx.cell? ⟨w.heap.size, 0, none⟩ = some (.slice oE n cE)) := Lib.hid (fun wx ho => HB.out _ _ (fun hc => by have hc' : w.heap.size = b0 := hc; omega) (HFR.out wx ho))
  have HEND : Hid (∀ wx, Only (· = b0) w8 wx → Only (fun _ => False) w wx) := Lib.hid (fun wx ho => by
    have h1 := HFR.out wx ho
    exact hA.trans ⟨h1.os, h1.tape, h1.output, h1.size, fun i hi _ => h1.block i hi (fun hc => by have hc' : i = b0 := hc; omega)⟩)
  have HSZ0 : Hid (sumN C 0 = 0) := Lib.hid rfl
  have hnc : nc ≤ 60 := by omega
  clear hO5 hO7 hO7' hO8 hO8' hb0 hC8 hC8' q5 q7 r7 hmk hv hEA s1
  go_loopw [4, 6] (fun t q wr => ∃ (i m : Nat), i ≤ nc ∧ q = .int .i64 i ∧ t = .int .i64 m ∧ Hid (sumN C i = m) ∧ m ≤ i * 60 ∧ IR wr b0 (.slice (some ⟨b0, 0, none⟩) n n) (atI C n i) ∧ Only (· = b0) w8 wr) (fun _ q _ => nc - (intOf q).toNat)
  case atStart => exact ⟨0, 0, by omega, rfl, rfl, HSZ0, by omega, hL8, Only.refl _ _⟩
  case round =>
    clear HSZ0 hL8
    obtain ⟨i, m, hi, rfl, rfl, HSU, hm, hI, hO⟩ := hrel
    by_cases hlt : i < nc
    · have hiC : i < C.length := by omega
      obtain ⟨bC, oC, ra, rn, rc, hoc, hbC, hcC, hiR⟩ := HC8.out.cell i hiC
      have hrl := hiR.len
      have HCC : Hid (∀ wx, Only (· = b0) w8 wx → wx.cell? ⟨bC, oC + i, none⟩ = some (.slice ra rn rc) ∧ Ints wx ra rn (lAt C i)) := Lib.hid (fun wx ho => ⟨(World.cell?_of_block (ho.block bC (cell_lt hcC) (fun hc => by have hc' : bC = b0 := hc; omega))).trans hcC, (hiR.old ho (fun j hj _ hc => by have hc' : j = b0 := hc; omega)).ints⟩)
      subst hoc
      have hpr := HPR.out i
      rw [HGn.out] at hpr
      have HRL := Lib.hid hrl
      have HIC := Lib.hid hiC
      have HASC := Lib.hid (HPA.out.asc i hiC)
      have HLTN := Lib.hid (HPA.out.lt i hiC)
      have h01 : (0 : Int) ≤ (i : Int) := Int.natCast_nonneg i
      have h02 : (i : Int) < (nc : Int) := by omega
      have h03 : (i : Int).toNat = i := Int.toNat_natCast i
      have hI0 : IR wr b0 (.slice (some ⟨b0, 0, none⟩) n n) (putA (atI C n i) ((lAt C i).take 0) (i + 1)) := hI
      have hrn6 : rn ≤ 60 := by omega
      have hwi : IntKind.i64.wrap ((i : Int) + 1) = (i : Int) + 1 := IntWalk.i64_in _ (by omega)
      clear hI hcC hiR hrl
      go_wp2
      go_loopw [4, 7] (fun t q wr => ∃ k : Nat, k ≤ rn ∧ q = .int .i64 k ∧ t = .int .i64 ((m + k : Nat)) ∧ IR wr b0 (.slice (some ⟨b0, 0, none⟩) n n) (putA (atI C n i) ((lAt C i).take k) (i + 1)) ∧ Only (· = b0) w8 wr) (fun _ q _ => rn - (intOf q).toNat)
      case atStart => exact ⟨0, by omega, rfl, rfl, hI0, hO⟩
      case round =>
        clear hI0 hO
        obtain ⟨k, hk, rfl, rfl, hI, hO⟩ := hrel
        obtain ⟨cC, hIR⟩ := HCC.out wr hO
        by_cases hkr : k < rn
        · have hkl : k < (lAt C i).length := by rw [HRL.out]; exact hkr
          obtain ⟨b1, o1, hra, c1⟩ := hIR.cell k hkl
          subst hra
          obtain ⟨x, hx⟩ : ∃ x, gt (lAt C i) k = x := ⟨_, rfl⟩
          rw [hx] at c1
          have hxn : x < n := by rw [← HGn.out]; exact HLTN.out x (by rw [← hx, gt_at hkl]; exact List.getElem_mem hkl)
          have hfree := at_free HPA.out HIC.out hkl
          have hstep := at_step C n i k hkl
          have hpl : (putA (atI C n i) ((lAt C i).take k) (i + 1)).length = n := by rw [putA_len, atI_len]
          rw [HGn.out, hx] at hfree
          rw [hx] at hstep
          obtain ⟨a, ha⟩ : ∃ a, putA (atI C n i) ((lAt C i).take k) (i + 1) = a := ⟨_, rfl⟩
          rw [ha] at hI hfree hstep hpl
          obtain ⟨p1, z1⟩ := hI.at' (k := x) (by rw [hpl]; exact hxn)
          rw [hfree] at p1
          have p1' : wr.cell? ⟨b0, x, none⟩ = some (.int .i64 0) := p1
          have HST := Lib.hid hstep
          have HIM := Lib.hid (hI.set (j := x) (by rw [hpl]; exact hxn) (i + 1))
          have HON := Lib.hid (Only.setCell (K := (· = b0)) hO (b := b0) (k := x) rfl (iV (i + 1)))
          have h11 : (0 : Int) ≤ (k : Int) := Int.natCast_nonneg k
          have h12 : (k : Int) < (rn : Int) := by omega
          have h13 : (k : Int).toNat = k := Int.toNat_natCast k
          have h14 : (0 : Int) ≤ (x : Int) := Int.natCast_nonneg x
          have h15 : (x : Int) < (n : Int) := by omega
          have h16 : (x : Int).toNat = x := Int.toNat_natCast x
          have hxa : ¬ (x : Int) < 0 := by omega
          have hxb : decide ((x : Int) < 0) = false := decide_eq_false hxa
          have hxc : ¬ (n : Int) ≤ (x : Int) := by omega
          have hxd : decide ((n : Int) ≤ (x : Int)) = false := decide_eq_false hxc
          have hwm : IntKind.i64.wrap (((m + k : Nat) : Int) + 1) = ((m + k : Nat) : Int) + 1 := IntWalk.i64_in _ (by omega)
          by_cases hk0 : k = 0
          · subst hk0
            rw [Nat.add_zero] at c1
            have h17 : (0 : Int) < (rn : Int) := by omega
            clear hx hfree hstep ha hpl p1 hI
            go_wp2
            go_roundw
            case rel => exact ⟨1, by omega, by go_num, by go_num, by rw [HST.out]; exact HIM.out, HON.out⟩
            case measure => simp [intOf]; omega
          · obtain ⟨j, hj⟩ : ∃ j, j + 1 = k := ⟨k - 1, by omega⟩
            have hjl : j < (lAt C i).length := by omega
            obtain ⟨b2, o2, hrb, c2⟩ := hIR.cell j hjl
            cases hrb
            obtain ⟨y, hy⟩ : ∃ y, gt (lAt C i) j = y := ⟨_, rfl⟩
            rw [hy] at c2
            have hyx : y < x := by
              have := List.pairwise_iff_getElem.1 HASC.out j k hjl hkl (by omega)
              rw [← gt_at hjl, ← gt_at hkl, hy, hx] at this
              exact this
            have h21 : (0 : Int) < (k : Int) := by omega
            have h22 : decide ((0 : Int) < (k : Int)) = true := decide_eq_true h21
            have h23 : IntKind.i64.wrap ((k : Int) - 1) = (j : Int) := by
              rw [IntWalk.i64_in _ (by omega)]
              omega
            have h24 : (0 : Int) ≤ (j : Int) := Int.natCast_nonneg j
            have h25 : (j : Int) < (rn : Int) := by omega
            have h26 : (j : Int).toNat = j := Int.toNat_natCast j
            have h27 : ¬ (x : Int) ≤ (y : Int) := by omega
            have h28 : decide ((x : Int) ≤ (y : Int)) = false := decide_eq_false h27
            have HJ := Lib.hid hj
            clear hx hfree hstep ha hpl p1 hI hj hy
            go_wp2
            go_roundw
            case rel => exact ⟨k + 1, by omega, by go_num, by go_num, by rw [HST.out]; exact HIM.out, HON.out⟩
            case measure => simp [intOf]; omega
        · have hkn : k = rn := by omega
          have HEA := Lib.hid (at_end C n i (k := k) (by rw [HRL.out]; exact hkn))
          have HSN : Hid (sumN C (i + 1) = m + k) := Lib.hid (by show sumN C i + _ = _; rw [HSU.out, HRL.out, hkn])
          go_wp2
          go_roundw
          case rel => exact ⟨i + 1, m + k, by omega, by go_num, rfl, HSN, by omega, by rw [← HEA.out]; exact hI, hO⟩
          case measure => simp [intOf]; omega
    · have hin : i = nc := by omega
      subst hin
      have hmn : m = n := by
        have h1 := HSU.out
        have h2 := HSM.out
        rw [hncl, HGn.out] at h2
        omega
      have HED := Lib.hid (fun u k v hx => at_edge (u := u) (k := k) (v := v) HPA.out HG2.out hx)
      rw [HGn.out, hncl] at HED
      obtain ⟨a, ha⟩ : ∃ a, atI C n i = a := ⟨_, rfl⟩
      have hal : a.length = n := by rw [← ha, atI_len]
      rw [ha] at hI HED
      have HI := Lib.hid hI
      have HAL := Lib.hid hal
      have hO0 := hO
      obtain ⟨w9, hw9⟩ : ∃ w9 : World, w9 = wr := ⟨_, rfl⟩
      subst hw9
      clear ha hal hI hO HSU
      go_wp2
      go_loopw [9] (fun q wr => ∃ u : Nat, u ≤ n ∧ q = .int .i64 u ∧ Only (fun _ => False) w9 wr) (fun q _ => n - (intOf q).toNat)
      case atStart => exact ⟨0, by omega, rfl, Only.refl _ _⟩
      case round =>
        obtain ⟨u, hu, rfl, hO9⟩ := hrel
        have hO := hO0.trans (hO9.lift (K := (· = b0)))
        have q0 := HQ8.out wr hO
        by_cases hun : u < n
        · obtain ⟨b3, o3, sa, sn, sc, hoE, c3, hi3⟩ := (HG8.out wr hO).at (k := u) (by rw [HGn.out]; exact hun)
          subst hoE
          have hsn := HG4.out u
          have hsl := hi3.len
          have hdg : degG G u = (lAt G u).length := rfl
          rw [hdg] at hsn
          change (lAt G u).length = sn at hsl
          rw [hsl] at hsn
          have HI3 := Lib.hid hi3
          have HSL := Lib.hid hsl
          have h04 : (0 : Int) ≤ (u : Int) := Int.natCast_nonneg u
          have h05 : (u : Int) < (n : Int) := by omega
          have h06 : (u : Int).toNat = u := Int.toNat_natCast u
          have HC3 : Hid (∀ wx, Only (fun _ => False) wr wx → wx.cell? ⟨b3, o3 + u, none⟩ = some (.slice sa sn sc)) := Lib.hid (fun wx ho => (World.cell?_of_block (ho.block b3 (cell_lt c3) (fun hc => hc))).trans c3)
          have HQ3 : Hid (∀ wx, Only (fun _ => False) wr wx → wx.cell? ⟨w.heap.size, 0, none⟩ = some (.slice (some ⟨b3, o3, none⟩) n cE)) := Lib.hid (fun wx ho => (World.cell?_of_block (ho.block _ (cell_lt q0) (fun hc => hc))).trans q0)
          clear hi3 hsl hdg
          obtain ⟨wo, hwo⟩ : ∃ wo : World, wo = wr := ⟨_, rfl⟩
          subst hwo
          go_wp2
          go_loopw [10] (fun q wr => ∃ j : Nat, j ≤ sn ∧ q = .int .i64 j ∧ Only (fun _ => False) wo wr) (fun q _ => sn - (intOf q).toNat)
          case atStart => exact ⟨0, by omega, rfl, Only.refl _ _⟩
          case round =>
            obtain ⟨j, hj, rfl, hO2⟩ := hrel
            have q0 := HQ3.out wr hO2
            have c3 := HC3.out wr hO2
            by_cases hjl : j < sn
            · have hjL : j < (lAt G u).length := by rw [HSL.out]; exact hjl
              obtain ⟨b4, o4, hsa, c4⟩ := (HI3.out.old hO2 (fun _ _ hc => hc)).cell j hjL
              subst hsa
              obtain ⟨v, hvv⟩ : ∃ v, gt (lAt G u) j = v := ⟨_, rfl⟩
              change wr.cell? _ = some (iV (gt (lAt G u) j)) at c4
              rw [hvv] at c4
              have hx : nx G u j = some v := by
                show (lAt G u)[j]? = some v
                rw [List.getElem?_eq_getElem hjL, ← gt_at hjL, hvv]
              have hvn : v < n := by rw [← HGn.out]; exact HG2.out u j v hx
              have hle := HED.out u j v hx
              obtain ⟨p1, -⟩ := (HI.out.only (hO9.trans hO2) (fun _ _ hc => hc)).at' (k := u) (by rw [HAL.out]; exact hun)
              obtain ⟨p2, -⟩ := (HI.out.only (hO9.trans hO2) (fun _ _ hc => hc)).at' (k := v) (by rw [HAL.out]; exact hvn)
              obtain ⟨a1, e1⟩ : ∃ x, gt a u = x := ⟨_, rfl⟩
              obtain ⟨a2, e2⟩ : ∃ x, gt a v = x := ⟨_, rfl⟩
              rw [e1] at p1 hle
              rw [e2] at p2 hle
              have h11 : (0 : Int) ≤ (j : Int) := Int.natCast_nonneg j
              have h12 : (j : Int) < (sn : Int) := by omega
              have h13 : (j : Int).toNat = j := Int.toNat_natCast j
              have h14 : (0 : Int) ≤ (v : Int) := Int.natCast_nonneg v
              have h15 : (v : Int) < (n : Int) := by omega
              have h16 : (v : Int).toNat = v := Int.toNat_natCast v
              have h17 : ¬ (a1 : Int) < (a2 : Int) := by omega
              have h18 : decide ((a1 : Int) < (a2 : Int)) = false := decide_eq_false h17
              clear hvv hx hle e1 e2 hjL
              go_wp2
              go_region
              go_wp2
              go_roundw
              case rel => exact ⟨j + 1, by omega, by go_num, hO2.drew⟩
              case measure => simp [intOf]; omega
            · go_wp2
              go_roundw
              case rel => exact ⟨u + 1, by omega, by go_num, hO9.trans hO2⟩
              case measure => simp [intOf]; omega
        · have hmI : (m : Int) = (n : Int) := by omega
          subst hmn
          have HW := Lib.hid (HEND.out wr hO)
          go_wp2_with (go_at_call 10; (refine (example_p _).mono ?_); rintro e w14 ⟨rfl, hO14⟩)
          go_ret
          exact ⟨rfl, HW.out.trans hO14⟩
theorem GraphOrder_walk (W : World) (oE : Option Addr) (n cE : Nat) (E : List (List Int)) (h : Edz W oE n E) (hn : n ≤ 140737488355328) (hr : ∀ l ∈ E, l.length ≤ 140737488355328) : Calls Try.prog 7 #[.agg #[.slice oE n cE]] W fun e W' => e = .returned (.bool true) ∧ Only (fun _ => False) W W' := by
  cases hok : (smallE E && validE E)
  · exact Order_out W oE n cE E h hn hr hok
  · simp only [Bool.and_eq_true] at hok
    exact Order_in W oE n cE E h hok.1 hok.2
end Go.Proofs.Ytijohaeiiidcpaa
