/-
  WALKS. The graph: Levels.
-/
import Derived.Test.YtigmdiagdlbdpaaGreatGbU
import Derived.Test.YtigmdiagdlbdpaaGreatGbX
import Derived.Test.YtigmdiagdlbdpaaGreatGol
namespace Go.Proofs.YtigmdiagdlbdpaaGreat
open Go.RowKit Go.Maps
def levelsE (E : List (List Int)) : List (List Nat) × Nat := if validE E then levelsG (natE E) (compsG (natE E)) E.length else ([], 1)
theorem head_at {l : List Nat} (h : l ≠ []) : gt l 0 = l.headD 0 := by
  cases l with
  | nil => exact absurd rfl h
  | cons x r => rfl
theorem head_mem {l : List Nat} (h : l ≠ []) : l.headD 0 ∈ l := by
  cases l with
  | nil => exact absurd rfl h
  | cons x r => exact List.mem_cons_self ..
theorem parts_len {G C : List (List Nat)} (h : Parts G C) : C.length ≤ G.length := by
  have hd : (C.map (fun c => c.headD 0)).Nodup := by
    show List.Pairwise _ _
    rw [List.pairwise_iff_getElem]
    intro i j hi hj hij e
    rw [List.length_map] at hi hj
    rw [List.getElem_map, List.getElem_map] at e
    have e1 : lAt C i = C[i] := by show C.getD i [] = _; rw [List.getD_eq_getElem?_getD, List.getElem?_eq_getElem hi]; rfl
    have e2 : lAt C j = C[j] := by show C.getD j [] = _; rw [List.getD_eq_getElem?_getD, List.getElem?_eq_getElem hj]; rfl
    have h1 := head_mem (h.ne i hi)
    have h2 := head_mem (h.ne j hj)
    rw [e1] at h1
    rw [e2, ← e] at h2
    have := h.dis i j _ hi hj (by rw [e1]; exact h1) (by rw [e2]; exact h2)
    omega
  have := nodup_lt G.length _ hd (fun x hx => by
    obtain ⟨c, hc, e⟩ := List.mem_map.1 hx
    obtain ⟨i, hi, e2⟩ := List.getElem_of_mem hc
    have e1 : lAt C i = C[i] := by show C.getD i [] = _; rw [List.getD_eq_getElem?_getD, List.getElem?_eq_getElem hi]; rfl
    have h1 := h.lt i hi _ (head_mem (h.ne i hi))
    rw [e1, e2, e] at h1
    exact h1)
  rwa [List.length_map] at this
theorem parts_row {G C : List (List Nat)} (h : Parts G C) (i : Nat) : (lAt C i).length ≤ G.length := by
  by_cases hi : i < C.length
  · have := asc_len G.length (lAt C i) 0 (fun x hx => ⟨Nat.zero_le _, h.lt i hi x hx⟩) (h.asc i hi)
    omega
  · rw [lAt_out (by omega)]
    exact Nat.zero_le _
set_option maxRecDepth 100000 in
set_option maxHeartbeats 16000000 in
theorem Levels_p (w : World) (oE : Option Addr) (n cE : Nat) (E : List (List Int)) (h : Edz w oE n E) (hn : n ≤ 1000000) (hr : ∀ l ∈ E, l.length ≤ 1000000) : Calls Tryz.prog 31 #[.agg #[.slice oE n cE]] w fun e w' => ∃ oc nc cc, e = .returned (.tuple #[.slice oc nc cc, iV (levelsE E).2]) ∧ Edg w' oc nc (levelsE E).1 ∧ Only (fun _ => False) w w' := by
  have hlen := h.len
  have hn9 : n ≤ 1000000000 := by omega
  have hr9 : ∀ l ∈ E, l.length ≤ 1000000000 := fun l hl => by have := hr l hl; omega
  have hA : Only (fun _ => False) w (w.alloc (.cells #[.slice oE n cE] 49)) := (Only.refl _ _).alloc _
  have hEA := h.keep hA
  have HB : Hid (∀ K w', ¬ K w.heap.size → Only K (w.alloc (.cells #[.slice oE n cE] 49)) w' → w'.cell? ⟨w.heap.size, 0, none⟩ = some (.slice oE n cE)) := Lib.hid (fun K w' hk ho => (blk_c ((ho.block w.heap.size (by show _ < (Array.push _ _).size; rw [Array.size_push]; omega) hk).trans (new_block w _)) rfl).1)
  cases hv : validE E
  · have HR : Hid (levelsE E = ([], 1)) := Lib.hid (by unfold levelsE; rw [hv]; rfl)
    have HV := Lib.hid hv
    clear hv
    go_enter Tryz.func31, Tryz.ntmps31
    go_wp2_with (go_at_call 44; (refine (isValid_p _ oE n cE E hEA hn9 hr9).mono ?_); rintro e w5 ⟨rfl, hO5⟩; have hv := HV.out)
    refine bodyPost_ret (v := .tuple #[.slice none 0 0, .int .i64 1]) (by simp [results, Tryz.results31, go_sem]) rfl ?_
    rw [HR.out]
    exact ⟨none, 0, 0, rfl, Edg.nil _, hA.trans hO5⟩
  · have hG1 := hEA.edg hv
    have hG2 := valid_G hv
    have hG3 := natE_len E
    have hG4 := nat_deg hr
    have hGn : (natE E).length = n := by rw [hG3, hlen]
    have hRR : levelsE E = levelsG (natE E) (compsG (natE E)) n := by unfold levelsE; rw [hv, hlen]; rfl
    have hCC : compsE E = compsG (natE E) := by unfold compsE; rw [hv]; rfl
    have hCP := Components_p (E := E) (oE := oE) (n := n) (cE := cE)
    rw [hCC] at hCP
    obtain ⟨G, hG⟩ : ∃ G, natE E = G := ⟨_, rfl⟩
    rw [hG] at hG1 hG2 hG4 hGn hRR hCP
    have hPA := comps_parts hG2
    obtain ⟨C, hC⟩ : ∃ C, compsG G = C := ⟨_, rfl⟩
    rw [hC] at hPA hRR hCP
    have HCP : Hid (∀ wx, Only (fun _ => False) (w.alloc (.cells #[.slice oE n cE] 49)) wx → Calls Tryz.prog 27 #[.agg #[.slice oE n cE]] wx fun e w' => ∃ oc nc cc, e = .returned (.slice oc nc cc) ∧ EdgB w' wx.heap.size oc nc C ∧ Only (fun _ => False) wx w') := Lib.hid (fun wx ho => hCP wx (hEA.keep ho) hn hr)
    have HR := Lib.hid hRR
    have HV := Lib.hid hv
    have HG1 := Lib.hid hG1
    have HG2 := Lib.hid hG2
    have HG4 := Lib.hid hG4
    have HGn := Lib.hid hGn
    have HPA := Lib.hid hPA
    have HCL := Lib.hid (parts_len hPA)
    have hmk := mk_ints hn9
    clear hv hRR hCC hCP hG3 hG hG1 hG2 hG4 hGn hPA hC
    go_enter Tryz.func31, Tryz.ntmps31
    go_wp2_with (first | (go_at_call 44; (refine (isValid_p _ oE n cE E hEA hn9 hr9).mono ?_); rintro e w5 ⟨rfl, hO5⟩; have q5 := HB.out _ _ (fun hc => hc) hO5; have r5 := HB.out _ (w5.alloc (.cells (madeCells #[Value.int .i64 0] n) 3)) (fun hc => hc) (hO5.trans ((Only.refl (fun _ => False) w5).alloc (.cells (madeCells #[Value.int .i64 0] n) 3))); have hv := HV.out) | (go_at_call 27; (refine (HCP.out _ (hO5.trans ((Only.refl _ _).alloc _))).mono ?_); rintro e w6 ⟨oc, nc, cc, rfl, hC6, hO6⟩))
    have hO6' : Only (fun _ => False) (w.alloc (.cells #[.slice oE n cE] 49)) w6 := hO5.trans (((Only.refl (fun _ => False) w5).alloc (zO n)).trans hO6)
    obtain ⟨b0, hb0⟩ : ∃ b, w5.heap.size = b := ⟨_, rfl⟩
    have hL6 : IR w6 b0 (.slice (some ⟨b0, 0, none⟩) n n) (lonK G C n 0) := by
      have h1 : IR (w5.alloc (zO n)) b0 (.slice (some ⟨b0, 0, none⟩) n n) (zeros n) := by rw [← hb0]; exact IR.made (Nat.le_refl _) (new_block w5 _) hn9
      exact h1.only hO6 (fun _ _ hc => hc)
    have hwb : w.heap.size < b0 := by
      have := hO5.size
      rw [← hb0]
      have s1 : (w.alloc (.cells #[.slice oE n cE] 49)).heap.size = w.heap.size + 1 := by show (Array.push _ _).size = _; rw [Array.size_push]
      omega
    rw [hb0]
    have hC6' : EdgB w6 (b0 + 1) oc nc C := by
      rw [← hb0]
      exact hC6.mono (by show _ ≤ (Array.push _ _).size; rw [Array.size_push]; exact Nat.le_refl _)
    have hncl := hC6.len
    have HNB : Hid (∀ i, i < 0 → badG G (lAt C i) = false) := Lib.hid (fun i hi => absurd hi (Nat.not_lt_zero _))
    have HC6 := Lib.hid hC6'
    have hs1 : (w.alloc (.cells #[.slice oE n cE] 49)).heap.size = w.heap.size + 1 := by show (Array.push _ _).size = _; rw [Array.size_push]
    have HFR : Hid (∀ wx, Only (· = b0) w6 wx → Only (· = b0) (w.alloc (.cells #[.slice oE n cE] 49)) wx) := Lib.hid (fun wx ho => hO6'.lift.trans ho)
    have HG6 : Hid (∀ wx, Only (· = b0) w6 wx → Edg wx oE n G) := Lib.hid (fun wx ho => HG1.out.old (HFR.out wx ho) (fun i hi hc => by have hc' : i = b0 := hc; omega))
    have HQ6 : Hid (∀ wx, Only (· = b0) w6 wx → wx.cell? ⟨w.heap.size, 0, none⟩ = some (.slice oE n cE)) := Lib.hid (fun wx ho => HB.out _ _ (fun hc => by have hc' : w.heap.size = b0 := hc; omega) (HFR.out wx ho))
    have HO6 := Lib.hid hO6'
    have HB0 := Lib.hid hb0
    have hnc : nc ≤ 1000000 := by have := HCL.out; have := HGn.out; omega
    have hA' := Lib.hid hA
    have HS1 := Lib.hid (show (w.alloc (.cells #[.slice oE n cE] 49)).heap.size ≤ b0 by omega)
    clear hs1 hO5 hO6 hO6' hb0 hC6 hC6' q5 r5 hmk hv hEA hA
    go_loopw [23] (fun q wr => ∃ k : Nat, k ≤ nc ∧ q = .int .i64 k ∧ Hid (∀ i, i < k → badG G (lAt C i) = false) ∧ IR wr b0 (.slice (some ⟨b0, 0, none⟩) n n) (lonK G C n k) ∧ Only (· = b0) w6 wr) (fun q _ => nc - (intOf q).toNat)
    case atStart => exact ⟨0, by omega, rfl, HNB, hL6, Only.refl _ _⟩
    case round =>
      clear HNB hL6
      obtain ⟨k, hk, rfl, HK, hI, hO⟩ := hrel
      have q0 := HQ6.out wr hO
      by_cases hlt : k < nc
      · have hkC : k < C.length := by omega
        obtain ⟨bC, oC, ra, rn, rc, hoc, hbC, hcC, hiC⟩ := (HC6.out.old hO (fun i hi _ hc => by have hc' : i = b0 := hc; omega)).cell k hkC
        subst hoc
        have hne := HPA.out.ne k hkC
        have hmem := HPA.out.lt k hkC _ (head_mem hne)
        have hls := lonK_succ (G := G) (n := n) hkC
        have hle : ∀ x, gt (lonK G C n k) x ≤ k * 1000000 := lonK_le HG4.out k (by omega)
        obtain ⟨c, hc⟩ : ∃ c, lAt C k = c := ⟨_, rfl⟩
        rw [hc] at hiC hne hmem hls
        have hrl := hiC.len
        have hrpos : 0 < rn := by have := List.length_pos_iff.2 hne; omega
        obtain ⟨b1, o1, hra, hb1, hc1⟩ := hiC.cell 0 (by omega)
        subst hra
        rw [head_at hne, Nat.add_zero] at hc1
        obtain ⟨u, hu⟩ : ∃ u, c.headD 0 = u := ⟨_, rfl⟩
        rw [hu] at hc1 hmem
        rw [HGn.out] at hmem
        obtain ⟨bG, oG, sa, sn, sc, hoE, hcA, hiG⟩ := HG1.out.at (k := u) (by rw [HGn.out]; exact hmem)
        have hcG : wr.cell? ⟨bG, oG + u, none⟩ = some (.slice sa sn sc) := (World.cell?_of_block ((HFR.out wr hO).block bG (cell_lt hcA) (fun hc => by have hc' : bG = b0 := hc; have := cell_lt hcA; have := HS1.out; omega))).trans hcA
        subst hoE
        have hsn := HG4.out u
        have hsl := hiG.len
        have hdg : degG G u = (lAt G u).length := rfl
        rw [hdg] at hsn
        change (lAt G u).length = sn at hsl
        rw [hsl] at hsn
        have HIG : Hid (∀ wx, Only (· = b0) w6 wx → Ints wx sa sn (lAt G u)) := Lib.hid (fun wx ho => hiG.old (HFR.out wx ho) (fun i hi hc => by have hc' : i = b0 := hc; have := HS1.out; omega))
        have h01 : (0 : Int) ≤ (k : Int) := Int.natCast_nonneg k
        have h02 : (k : Int) < (nc : Int) := by omega
        have h03 : (k : Int).toNat = k := Int.toNat_natCast k
        have h04 : (0 : Int) < (rn : Int) := by omega
        have h05 : (0 : Int) ≤ (u : Int) := Int.natCast_nonneg u
        have h06 : (u : Int) < (n : Int) := by omega
        have h07 : (u : Int).toNat = u := Int.toNat_natCast u
        have HC := Lib.hid hc
        have HU := Lib.hid hu
        have HRL := Lib.hid hrl
        have HSL := Lib.hid hsl
        have HLS := Lib.hid hls
        have HLE := Lib.hid hle
        have HKC := Lib.hid hkC
        clear hc hu hrl hsl hls hle hiG hcA hne hiC hdg hkC
        by_cases h1 : 1 < rn
        · have d1 : decide ((1 : Int) < (rn : Int)) = true := decide_eq_true (by omega)
          have d2 : (1 : Int) < (rn : Int) := by omega
          have HBD : Hid (levelsE E = ([], 18)) := Lib.hid (by
            rw [HR.out]
            unfold levelsG
            rw [yes_bad HKC.out (by rw [HC.out]; unfold badG; rw [decide_eq_true (by rw [HRL.out]; exact h1)]; rfl)]
            rfl)
          go_wp2
          refine bodyPost_ret (v := .tuple #[.slice none 0 0, .int .i64 18]) (by simp [results, Tryz.results31, go_sem]) rfl ?_
          rw [HBD.out]
          have ho := HFR.out wr hO
          exact ⟨none, 0, ⟨0, rfl⟩, Edg.nil _, hA'.out.trans ⟨ho.os, ho.tape, ho.output, ho.size, fun i hi _ => ho.block i hi (fun hc => by have hc' : i = b0 := hc; have := HS1.out; omega)⟩⟩
        · have d1 : decide ((1 : Int) < (rn : Int)) = false := decide_eq_false (by omega)
          have d2 : ¬ (1 : Int) < (rn : Int) := by omega
          by_cases hct : u ∈ lAt G u
          · have HBD : Hid (levelsE E = ([], 18)) := Lib.hid (by
              rw [HR.out]
              unfold levelsG
              rw [yes_bad HKC.out (by rw [HC.out]; unfold badG; rw [HU.out, decide_eq_true hct, Bool.or_true])]
              rfl)
            have HCT := Lib.hid (decide_eq_true hct)
            clear hct
            go_wp2_with (go_at_call 48; (refine (Contains_p _ sa sn sc (lAt G u) (HIG.out wr hO) (by omega) u true HCT.out).mono ?_); rintro e w9 ⟨rfl, hO9⟩)
            refine bodyPost_ret (v := .tuple #[.slice none 0 0, .int .i64 18]) (by simp [results, Tryz.results31, go_sem]) rfl ?_
            rw [HBD.out]
            have ho := HFR.out wr hO
            exact ⟨none, 0, 0, rfl, Edg.nil _, hA'.out.trans (Only.trans ⟨ho.os, ho.tape, ho.output, ho.size, fun i hi _ => ho.block i hi (fun hc => by have hc' : i = b0 := hc; have := HS1.out; omega)⟩ hO9)⟩
          · have HNB : Hid (∀ i, i < k + 1 → badG G (lAt C i) = false) := Lib.hid (fun i hi => by
              by_cases e : i = k
              · rw [e, HC.out]
                unfold badG
                rw [HU.out, decide_eq_false hct, decide_eq_false (by rw [HRL.out]; exact h1)]
                rfl
              · exact HK.out i (by omega))
            have HCT := Lib.hid (decide_eq_false hct)
            clear hct
            go_wp2_with (go_at_call 48; (refine (Contains_p _ sa sn sc (lAt G u) (HIG.out wr hO) (by omega) u false HCT.out).mono ?_); rintro e w9 ⟨rfl, hO9⟩; have q9 := HQ6.out w9 (hO.trans hO9.lift); have g9 := (World.cell?_of_block (hO9.block bG (cell_lt hcG) (fun hc => hc))).trans hcG)
            have hI9 := hI.only hO9 (fun _ _ hc => hc)
            have hFF := hO.trans (hO9.lift (K := (· = b0)))
            obtain ⟨l0, hl0⟩ : ∃ l, lonK G C n k = l := ⟨_, rfl⟩
            have hl0n : l0.length = n := by rw [← hl0]; exact lonK_len G C n k
            rw [hl0] at hI9
            have HL0 := Lib.hid hl0
            have HL0N := Lib.hid hl0n
            have hI90 : IR w9 b0 (.slice (some ⟨b0, 0, none⟩) n n) (rowL u l0 ((lAt G u).take 0)) := hI9
            clear hI hI9 hl0 hl0n hcC hc1 hO hO9 q9
            go_loopw [48] (fun q wr => ∃ j : Nat, j ≤ sn ∧ q = .int .i64 j ∧ IR wr b0 (.slice (some ⟨b0, 0, none⟩) n n) (rowL u l0 ((lAt G u).take j)) ∧ Only (· = b0) w6 wr) (fun q _ => sn - (intOf q).toNat)
            case atStart => exact ⟨0, by omega, rfl, hI90, hFF⟩
            case round =>
              clear hI90 hFF
              obtain ⟨j, hj, rfl, hI, hO⟩ := hrel
              have q0 := HQ6.out wr hO
              by_cases hjs : j < sn
              · have hjl : j < (lAt G u).length := by rw [HSL.out]; exact hjs
                obtain ⟨b2, o2, hsa, hcv⟩ := (HIG.out wr hO).cell j hjl
                subst hsa
                obtain ⟨v, hv⟩ : ∃ v, gt (lAt G u) j = v := ⟨_, rfl⟩
                rw [hv] at hcv
                have hx : nx G u j = some v := by
                  show (lAt G u)[j]? = some v
                  rw [List.getElem?_eq_getElem hjl, ← gt_at hjl, hv]
                have hvG : v < n := by rw [← HGn.out]; exact HG2.out u j v hx
                have hst := rowL_take l0 hx
                have hbd := rowL_le u ((lAt G u).take j) l0 (k * 1000000) (by rw [← HL0.out]; exact HLE.out)
                have hln := rowL_len u ((lAt G u).take j) l0
                rw [HL0N.out] at hln
                have htl : ((lAt G u).take j).length ≤ 1000000 := by rw [List.length_take]; omega
                obtain ⟨l, hl⟩ : ∃ l, rowL u l0 ((lAt G u).take j) = l := ⟨_, rfl⟩
                rw [hl] at hI hst hbd hln
                obtain ⟨p1, z1⟩ := hI.at' (k := u) (by rw [hln]; exact hmem)
                obtain ⟨p2, z2⟩ := hI.at' (k := v) (by rw [hln]; exact hvG)
                have ha1 := hbd u
                have ha2 := hbd v
                obtain ⟨a1, e1⟩ : ∃ a, gt l u = a := ⟨_, rfl⟩
                obtain ⟨a2, e2⟩ : ∃ a, gt l v = a := ⟨_, rfl⟩
                rw [e1] at p1 ha1 hst
                rw [e2] at p2 ha2 hst
                have hIM := hI.set (j := u) (by rw [hln]; exact hmem) (max a1 (a2 + 1))
                have HST := Lib.hid hst
                have HIM := Lib.hid hIM
                have HO := Lib.hid (Only.setCell (K := (· = b0)) hO (b := b0) (k := u) rfl (iV (max a1 (a2 + 1))))
                have h11 : (0 : Int) ≤ (j : Int) := Int.natCast_nonneg j
                have h12 : (j : Int) < (sn : Int) := by omega
                have h13 : (j : Int).toNat = j := Int.toNat_natCast j
                have h15 : (0 : Int) ≤ (v : Int) := Int.natCast_nonneg v
                have h16 : (v : Int) < (n : Int) := by omega
                have h17 : (v : Int).toNat = v := Int.toNat_natCast v
                have hwk : IntKind.i64.wrap ((a2 : Int) + 1) = (a2 : Int) + 1 := IntWalk.i64_in _ (by omega)
                clear hv hx hst hbd hln htl hl e1 e2 hIM ha1 ha2 hjl
                go_wp2
                go_region
                rw [show (if (a1 : Int) < (a2 : Int) + 1 then (a2 : Int) + 1 else (a1 : Int)) = ((max a1 (a2 + 1) : Nat) : Int) by split <;> omega]
                go_wp2
                go_roundw
                case rel => exact ⟨j + 1, by omega, by go_num, by rw [HST.out]; exact HIM.out.only ((Only.refl (fun _ => False) _).drew) (fun _ _ hc => hc), HO.out.drew⟩
                case measure => simp [intOf]; omega
              · have hjn : j = sn := by omega
                have HFI := Lib.hid (show rowL u l0 ((lAt G u).take j) = lonK G C n (k + 1) by
                  rw [HLS.out, List.take_of_length_le (by have := HSL.out; omega)]
                  unfold lonS
                  rw [HU.out, HL0.out])
                go_wp2
                go_roundw
                case rel => exact ⟨k + 1, by omega, by go_num, HNB, by rw [← HFI.out]; exact hI, hO⟩
                case measure => simp [intOf]; omega
      · have hkn : k = nc := by omega
        subst hkn
        have HLV : Hid (levelsE E = (levK (lonK G C n C.length) n, 0)) := Lib.hid (by
          rw [HR.out]
          unfold levelsG
          rw [no_bad (fun i hi => HK.out i (by omega))]
          rfl)
        have hCl : C.length = k := hncl
        have hlb : ∀ x, gt (lonK G C n k) x ≤ 1000000000000 := fun x => by
          have := lonK_le (G := G) (C := C) (n := n) HG4.out k (by omega) x
          omega
        have hll := lonK_len G C n k
        rw [hCl] at HLV
        obtain ⟨L, hL⟩ : ∃ L, lonK G C n k = L := ⟨_, rfl⟩
        rw [hL] at hI hlb hll HLV
        have HLB := Lib.hid hlb
        have HLL := Lib.hid hll
        have HFW := Lib.hid (HFR.out wr hO)
        obtain ⟨w7, hw7⟩ : ∃ w7 : World, w7 = wr := ⟨_, rfl⟩
        subst hw7
        have hR0 : RR w7 w7.heap.size nilV [] (levK L 0) := RR.nil _ _
        obtain ⟨i0', hi0, hz0', hz1, hz2⟩ := info_parts infoInt
        obtain ⟨i1', hi1, hj0, hj1, hj2⟩ := info_parts infoInts
        have HI7 := Lib.hid hI
        have HB7 := Lib.hid (show b0 < w7.heap.size from (World.ownsRow.lt hI _ rfl).2)
        clear hlb hll hL hCl hI hO HK
        go_wp2
        go_loopw [10, 69] (fun v q wr => ∃ (x : Nat) (vs : List Value), x ≤ n ∧ q = .int .i64 x ∧ RR wr w7.heap.size v vs (levK L x) ∧ Only (w7.heap.size ≤ ·) w7 wr) (fun _ q _ => n - (intOf q).toNat)
        case atStart => exact ⟨0, [], by omega, rfl, hR0, Only.refl _ _⟩
        case round =>
          clear hR0
          obtain ⟨x, vs, hx, rfl, hRR, hO⟩ := hrel
          by_cases hxl : x < n
          · have hI := HI7.out.only hO (fun g hg hc => by have hg' : b0 = g := Option.some.inj hg; have hc' : w7.heap.size ≤ g := hc; have := HB7.out; omega)
            obtain ⟨p1, z1⟩ := hI.at' (k := x) (by rw [HLL.out]; exact hxl)
            have hlv := HLB.out x
            have hrw := levK_row (l := L) x (gt L x)
            have hsc := levK_succ L x
            have hm0 := levK_len HLB.out x
            obtain ⟨lv, hlve⟩ : ∃ a, gt L x = a := ⟨_, rfl⟩
            rw [hlve] at p1 hlv hrw hsc
            obtain ⟨M, hM⟩ : ∃ M, levK L x = M := ⟨_, rfl⟩
            rw [hM] at hRR hrw hsc hm0
            have HSC := Lib.hid hsc
            have HRW := Lib.hid hrw
            have HM0 := Lib.hid hm0
            have h01 : (0 : Int) ≤ (x : Int) := Int.natCast_nonneg x
            have h02 : (x : Int) < (n : Int) := by omega
            have h03 : (x : Int).toNat = x := Int.toNat_natCast x
            have hR1 := hRR
            rw [show M = M ++ List.replicate 0 [] by rw [List.replicate_zero, List.append_nil]] at hR1
            clear hlve hM hsc hrw hm0 hRR
            go_wp2
            go_loopg [10] (lv + 1 - M.length) (fun gk v wr => ∃ (i : Nat) (vs : List Value), gk = lv + 1 - (M.length + i) ∧ (i = 0 ∨ M.length + i ≤ lv + 1) ∧ RR wr w7.heap.size v vs (M ++ List.replicate i []) ∧ Only (w7.heap.size ≤ ·) w7 wr)
            case atStart => exact ⟨0, vs, rfl, .inl rfl, hR1, hO⟩
            case round =>
              clear hR1 hO
              obtain ⟨i, vs, rfl, hi, hRR, hO⟩ := hrel
              have hln : (M ++ List.replicate i ([] : List Nat)).length = M.length + i := by rw [List.length_append, List.length_replicate]
              obtain ⟨ol, cl, hv⟩ := rowForm hRR.out
              obtain ⟨m, hme⟩ : ∃ m, M.length + i = m := ⟨_, rfl⟩
              rw [hln, hme] at hv
              have HV := Lib.hid hv
              subst hv
              have HME := Lib.hid hme
              have hm0 := HM0.out
              have hmb : m ≤ 1000000000002 := by omega
              have hown : wr.ownsRow w7.heap.size 55 1 (.slice ol m cl) m vs := by
                have h := hRR.out
                rw [hln, hme] at h
                exact h
              have HWS := Lib.hid hO.size
              have HRR := Lib.hid hRR
              have HOWN := Lib.hid hown
              rw [hme] at hi
              by_cases hml : m ≤ lv
              · have d1 : decide ((m : Int) ≤ (lv : Int)) = true := decide_eq_true (by omega)
                have d2 : (m : Int) ≤ (lv : Int) := by omega
                have HRS : Hid (M ++ List.replicate (i + 1) [] = (M ++ List.replicate i []) ++ [([] : List Nat)]) := Lib.hid (by rw [List.replicate_succ', List.append_assoc])
                clear hln hme hm0 hown hRR
                go_wp2_with (at_builtin; refine wpList_append_lies _ rfl _ _ 47 rfl w7.heap.size 55 i1' nilV 1 24 Tryz.underlying47 hi1 hj0 hj1 hj2 rfl (by decide) (.slice ol m cl) m vs rfl (World.ownsRow.alloc HOWN.out _) ⟨wr.heap.size, 0, none⟩ 1 1 [nilV] rfl rfl (World.news_of_block (new_block wr _)) one_row Nat.one_pos (by unfold maxLen; omega) (by omega) (by show w7.heap.size ≤ (Array.push _ _).size; rw [Array.size_push]; have := HWS.out; omega) _ rfl ?_; intro g cg w8 hown8 hgrow8 hat8 hlt8; have HR8 := Lib.hid ((HRR.out.only ((Only.refl (fun _ => False) wr).alloc (.cells #[nilV] 55)) (fun _ _ _ hc => hc)).push hgrow8 (v' := .slice (some ⟨g, 0, none⟩) (m + 1) cg) (by rw [List.length_append, List.length_replicate, HME.out]; exact hown8)); have HO8 := Lib.hid ((hO.alloc (.cells #[nilV] 55)).trans (Only.grown (K := (w7.heap.size ≤ ·)) hgrow8 (fun g hg => (World.ownsRow.lt HOWN.out g hg).1))); clear hown8 hgrow8 hat8 hlt8)
                go_roundg (lv + 1 - (m + 1))
                case rel => exact ⟨i + 1, vs ++ [nilV], by have := HME.out; omega, .inr (by have := HME.out; omega), by rw [HRS.out]; exact HR8.out, HO8.out⟩
                case measure => have := HME.out; omega
              · have d1 : decide ((m : Int) ≤ (lv : Int)) = false := decide_eq_false (by omega)
                have d2 : ¬ (m : Int) ≤ (lv : Int) := by omega
                have HGL := Lib.hid (grow_done (L := M) (v := lv) (i := i) (by omega) (by have := HME.out; omega))
                have hlm : lv < m := by omega
                have hGl : (growL M lv).length = m := by rw [← HGL.out]; exact hln.trans hme
                have hRG := HRR.out
                rw [HGL.out] at hRG
                have hpc : lv < (growL M lv).length := by omega
                obtain ⟨g0, ca, hcv, hB0, hle, hc0, hz0⟩ := hRG.at (i := lv) hpc
                rw [hGl] at hcv hle
                cases hcv
                obtain ⟨ra, rc, hrv⟩ := rowForm (hRG.row lv hpc)
                obtain ⟨q, hq⟩ : ∃ q, (lAt (growL M lv) lv).length = q := ⟨_, rfl⟩
                have hqx : q ≤ x := by rw [← hq, grow_at]; exact HRW.out
                rw [hq] at hrv
                rw [hrv] at hc0
                have hrow := hRG.row lv hpc
                rw [hrv] at hrow
                have HRG := Lib.hid hRG
                have HRV := Lib.hid hrv
                have HGLN := Lib.hid hGl
                have HQ := Lib.hid hq
                have HROW : wr.ownsRow w7.heap.size 3 1 (.slice ra q rc) q ((lAt (growL M lv) lv).map iV) := by
                  have h := hrow
                  unfold IR at h
                  rw [hq] at h
                  exact h
                have HPL := Lib.hid (show levK L (x + 1) = (growL M lv).set lv (lAt (growL M lv) lv ++ [x]) from HSC.out)
                have HMA := Lib.hid (hRG.only ((Only.refl (fun _ => False) wr).alloc (.cells #[iV x] 3)) (fun _ _ _ hc => hc))
                have h04 : (0 : Int) ≤ (lv : Int) := Int.natCast_nonneg lv
                have h05 : (lv : Int) < (m : Int) := by omega
                have h06 : (lv : Int).toNat = lv := Int.toNat_natCast lv
                clear hln hme hm0 hown hRR hGl hRG hrv hq hrow
                go_wp2_with (at_builtin; refine wpList_append_lies _ rfl _ _ 55 rfl w7.heap.size 3 i0' (.int .i64 0) 1 8 Tryz.underlying55 hi0 hz0' hz1 hz2 rfl (by decide) (.slice ra q rc) q ((lAt (growL M lv) lv).map iV) rfl (World.ownsRow.alloc HROW _) ⟨wr.heap.size, 0, none⟩ 1 1 [iV x] rfl rfl (World.news_of_block (new_block _ _)) (one_int x) Nat.one_pos (by unfold maxLen; omega) (by omega) (by show w7.heap.size ≤ (Array.push _ _).size; rw [Array.size_push]; have := HWS.out; omega) _ rfl ?_; intro g cg w8 hown8 hgrow8 hat8 hlt8; have hag := HMA.out.at_grown (p := lv) (by rw [HGLN.out]; exact hlm) HRV.out hgrow8; have p8 := hag.1; have z8 := hag.2; have HG8 := Lib.hid hgrow8; have HOW8 := Lib.hid hown8; have HAT8 := Lib.hid hat8; clear hown8 hgrow8 hat8 hlt8 hag)
                go_roundw
                case rel =>
                  have hIR : IR w8 w7.heap.size (.slice (some ⟨g, 0, none⟩) (q + 1) cg) (lAt (growL M lv) lv ++ [x]) := IR.snoc (by rw [HQ.out]; exact HOW8.out)
                  have hma := HMA.out
                  rw [show (Value.slice (some ⟨g0, 0, none⟩) m cl) = .slice (some ⟨g0, 0, none⟩) (growL M lv).length cl by rw [HGLN.out]] at hma
                  have hgr := HG8.out
                  rw [← HRV.out] at hgr
                  have hRA := hma.app (p := lv) (by rw [HGLN.out]; exact hlm) hgr hIR (fun g' hg' => by
                    have hgg : g = g' := Option.some.inj hg'
                    rcases HAT8.out with e | e
                    · exact .inl (by rw [HRV.out]; exact hgg ▸ e)
                    · right
                      have e3 : g = (Array.push _ _).size := e
                      exact Nat.le_of_eq (e3.symm.trans hgg))
                  rw [HGLN.out] at hRA
                  exact ⟨x + 1, vs.set lv (.slice (some ⟨g, 0, none⟩) (q + 1) cg), by omega, by go_num, by rw [HPL.out]; exact hRA, Only.setCell (K := (w7.heap.size ≤ ·)) ((hO.alloc (.cells #[iV x] 3)).trans (Only.grown (K := (w7.heap.size ≤ ·)) HG8.out (fun g hg => (World.ownsRow.lt HROW g hg).1))) hB0 _⟩
                case measure => simp [intOf]; omega
          · have hxn : x = n := by omega
            subst hxn
            obtain ⟨ol, cl, hv⟩ := rowForm hRR.out
            subst hv
            have HED := Lib.hid hRR.edg
            have hFIN : Only (fun _ => False) w wr := by
              have h1 := HFW.out
              have h2 := HB7.out
              have h3 := HS1.out
              have h4 : Only (fun i => i = b0 ∨ w7.heap.size ≤ i) (w.alloc (.cells #[.slice oE x cE] 49)) wr := (h1.wide (fun i hi => .inl hi)).trans (hO.wide (fun i hi => .inr hi))
              exact hA'.out.trans ⟨h4.os, h4.tape, h4.output, h4.size, fun i hi _ => h4.block i hi (fun hc => by rcases hc with hc | hc <;> omega)⟩
            have HFIN := Lib.hid hFIN
            clear hRR hFIN
            go_wp2
            refine bodyPost_ret (v := .tuple #[.slice ol (levK L x).length cl, .int .i64 0]) (by simp [results, Tryz.results31, go_sem]) rfl ?_
            rw [HLV.out]
            exact ⟨ol, _, cl, rfl, HED.out, HFIN.out⟩
end Go.Proofs.YtigmdiagdlbdpaaGreat
