/-
  WALKS. The reference: longest.
-/
import Derived.Test.YtijohaeiiidcpaaGbRc
import Derived.Test.YtijohaeiiidcpaaGbZ
namespace Go.Proofs.Ytijohaeiiidcpaa
open Go.RowKit Go.Maps
set_option maxRecDepth 100000 in
set_option maxHeartbeats 16000000 in
theorem longest_p (w : World) (oE : Option Addr) (n cE : Nat) (E : List (List Int)) (h : Edz w oE n E) (hn : n ≤ 1000000) (hr : ∀ l ∈ E, l.length ≤ 1000000) (hv : validE E = true) : Calls Try.prog 39 #[.agg #[.slice oE n cE]] w fun e w' => ∃ g, e = .returned (.slice (some ⟨g, 0, none⟩) n n) ∧ IR w' w.heap.size (.slice (some ⟨g, 0, none⟩) n n) (lonK (natE E) (compsG (natE E)) n (compsG (natE E)).length) ∧ Only (fun _ => False) w w' := by
  have hlen := h.len
  have hn9 : n ≤ 1000000000 := by omega
  have hA : Only (fun _ => False) w (w.alloc (.cells #[.slice oE n cE] 24)) := (Only.refl _ _).alloc _
  have s1 : (w.alloc (.cells #[.slice oE n cE] 24)).heap.size = w.heap.size + 1 := by show (Array.push _ _).size = _; rw [Array.size_push]
  have hEA := h.keep hA
  have HB : Hid (∀ K w', ¬ K w.heap.size → Only K (w.alloc (.cells #[.slice oE n cE] 24)) w' → w'.cell? ⟨w.heap.size, 0, none⟩ = some (.slice oE n cE)) := Lib.hid (fun K w' hk ho => (blk_c ((ho.block w.heap.size (by rw [s1]; omega) hk).trans (new_block w _)) rfl).1)
  have hG1 := hEA.edg hv
  have hG2 := valid_G hv
  have hG4 := nat_deg hr
  have hGn : (natE E).length = n := by rw [natE_len, hlen]
  have hCC : compsE E = compsG (natE E) := by unfold compsE; rw [hv]; rfl
  obtain ⟨G, hGe⟩ : ∃ G, natE E = G := ⟨_, rfl⟩
  rw [hGe] at hG1 hG2 hG4 hGn hCC ⊢
  have hPA := comps_parts hG2
  obtain ⟨C, hC⟩ : ∃ C, compsG G = C := ⟨_, rfl⟩
  rw [hC] at hPA hCC ⊢
  have HCP : Hid (∀ wx, Only (fun _ => False) (w.alloc (.cells #[.slice oE n cE] 24)) wx → Calls Try.prog 13 #[.agg #[.slice oE n cE]] wx fun e w' => ∃ oc nc cc, e = .returned (.slice oc nc cc) ∧ EdgB w' wx.heap.size oc nc C ∧ Only (fun _ => False) wx w') := Lib.hid (fun wx ho => by
    have := rComponents_p wx oE n cE E (hEA.keep ho) hn hr
    rw [hCC] at this
    exact this)
  have HG1 := Lib.hid hG1
  have HG2 := Lib.hid hG2
  have HG4 := Lib.hid hG4
  have HGn := Lib.hid hGn
  have HPA := Lib.hid hPA
  have HCL := Lib.hid (parts_len hPA)
  have hmk := mk_ints hn9
  have r0 := HB.out _ ((w.alloc (.cells #[.slice oE n cE] 24)).alloc (.cells (madeCells #[Value.int .i64 0] n) 3)) (fun hc => hc) ((Only.refl (fun _ => False) _).alloc (.cells (madeCells #[Value.int .i64 0] n) 3))
  clear hv hCC hGe hG1 hG2 hG4 hGn hPA hC
  go_enter Try.func39, Try.ntmps39
  go_wp2_with (go_at_call 13; (refine (HCP.out _ ((Only.refl _ _).alloc (.cells (madeCells #[Value.int .i64 0] n) 3))).mono ?_); rintro e w6 ⟨oc, nc, cc, rfl, hC6, hO6⟩)
  have hO6' : Only (fun _ => False) (w.alloc (.cells #[.slice oE n cE] 24)) w6 := ((Only.refl (fun _ => False) (w.alloc (.cells #[.slice oE n cE] 24))).alloc (zO n)).trans hO6
  obtain ⟨b0, hb0⟩ : ∃ b, w.heap.size + 1 = b := ⟨_, rfl⟩
  have hL6 : IR w6 b0 (.slice (some ⟨b0, 0, none⟩) n n) (lonK G C n 0) := by
    have h1 : IR ((w.alloc (.cells #[.slice oE n cE] 24)).alloc (zO n)) b0 (.slice (some ⟨b0, 0, none⟩) n n) (zeros n) := by rw [← hb0]; exact IR.made (Nat.le_refl _) (new_at _ s1) hn9
    exact h1.only hO6 (fun _ _ hc => hc)
  have hwb : w.heap.size < b0 := by omega
  rw [hb0]
  have hC6' : EdgB w6 (b0 + 1) oc nc C := hC6.mono (by
    have : ((w.alloc (.cells #[.slice oE n cE] 24)).alloc (zO n)).heap.size = w.heap.size + 1 + 1 := by show (Array.push _ _).size = _; rw [Array.size_push, s1]
    rw [this]; omega)
  have hncl := hC6.len
  have HC6 := Lib.hid hC6'
  have HFR : Hid (∀ wx, Only (· = b0) w6 wx → Only (· = b0) (w.alloc (.cells #[.slice oE n cE] 24)) wx) := Lib.hid (fun wx ho => hO6'.lift.trans ho)
  have HQ6 : Hid (∀ wx, Only (· = b0) w6 wx → wx.cell? ⟨w.heap.size, 0, none⟩ = some (.slice oE n cE)) := Lib.hid (fun wx ho => HB.out _ _ (fun hc => by have hc' : w.heap.size = b0 := hc; omega) (HFR.out wx ho))
  have HS1 := Lib.hid (show (w.alloc (.cells #[.slice oE n cE] 24)).heap.size ≤ b0 by omega)
  have hnc : nc ≤ 1000000 := by have := HCL.out; have := HGn.out; omega
  have HB1 := Lib.hid hb0
  clear hb0 hO6 hO6' hC6 hC6' hmk hEA r0 s1
  go_loopw [5] (fun q wr => ∃ k : Nat, k ≤ nc ∧ q = .int .i64 k ∧ IR wr b0 (.slice (some ⟨b0, 0, none⟩) n n) (lonK G C n k) ∧ Only (· = b0) w6 wr) (fun q _ => nc - (intOf q).toNat)
  case atStart => exact ⟨0, by omega, rfl, hL6, Only.refl _ _⟩
  case round =>
    clear hL6
    obtain ⟨k, hk, rfl, hI, hO⟩ := hrel
    have q0 := HQ6.out wr hO
    by_cases hlt : k < nc
    · have hkC : k < C.length := by omega
      obtain ⟨bC, oC, ra, rn, rc, hoc, hbC, hcC, hiC⟩ := (HC6.out.old hO (fun i hi _ hc => by have hc' : i = b0 := hc; omega)).cell k hkC
      subst hoc
      have hne := HPA.out.ne k hkC
      have hmem := HPA.out.lt k hkC _ (head_mem hne)
      have hls := lonK_succ (G := G) (n := n) hkC
      have hle : ∀ x, gt (lonK G C n k) x ≤ k * 1000000 := lonK_le HG4.out k (by omega)
      obtain ⟨c, hc⟩ : ∃ c, lAt C k = c := ⟨_, rfl⟩
      rw [hc] at hiC hne hmem hls
      have hrl := hiC.len
      have hrpos : 0 < rn := by have := List.length_pos_iff.2 hne; omega
      obtain ⟨b1, o1, hra, hb1, hc1⟩ := hiC.cell 0 (by omega)
      subst hra
      rw [head_at hne, Nat.add_zero] at hc1
      obtain ⟨u, hu⟩ : ∃ u, c.headD 0 = u := ⟨_, rfl⟩
      rw [hu] at hc1 hmem
      rw [HGn.out] at hmem
      obtain ⟨bG, oG, sa, sn, sc, hoE, hcA, hiG⟩ := HG1.out.at (k := u) (by rw [HGn.out]; exact hmem)
      have HCG : Hid (∀ wx, Only (· = b0) w6 wx → wx.cell? ⟨bG, oG + u, none⟩ = some (.slice sa sn sc)) := Lib.hid (fun wx ho => (World.cell?_of_block ((HFR.out wx ho).block bG (cell_lt hcA) (fun hc => by have hc' : bG = b0 := hc; have := cell_lt hcA; have := HS1.out; omega))).trans hcA)
      have HIG : Hid (∀ wx, Only (· = b0) w6 wx → Ints wx sa sn (lAt G u)) := Lib.hid (fun wx ho => hiG.old (HFR.out wx ho) (fun i hi hc => by have hc' : i = b0 := hc; have := HS1.out; omega))
      subst hoE
      have hsn := HG4.out u
      have hsl := hiG.len
      have hdg : degG G u = (lAt G u).length := rfl
      rw [hdg] at hsn
      change (lAt G u).length = sn at hsl
      rw [hsl] at hsn
      have h01 : (0 : Int) ≤ (k : Int) := Int.natCast_nonneg k
      have h02 : (k : Int) < (nc : Int) := by omega
      have h03 : (k : Int).toNat = k := Int.toNat_natCast k
      have h04 : (0 : Int) < (rn : Int) := by omega
      have h04' : ¬ rn = 0 := by omega
      have h05 : (0 : Int) ≤ (u : Int) := Int.natCast_nonneg u
      have h06 : (u : Int) < (n : Int) := by omega
      have h07 : (u : Int).toNat = u := Int.toNat_natCast u
      have HU := Lib.hid hu
      have HSL := Lib.hid hsl
      have HLS := Lib.hid hls
      have HLE := Lib.hid hle
      obtain ⟨l0, hl0⟩ : ∃ l, lonK G C n k = l := ⟨_, rfl⟩
      have hl0n : l0.length = n := by rw [← hl0]; exact lonK_len G C n k
      rw [hl0] at hI
      have HL0 := Lib.hid hl0
      have HL0N := Lib.hid hl0n
      have hI0 : IR wr b0 (.slice (some ⟨b0, 0, none⟩) n n) (rowL u l0 ((lAt G u).take 0)) := hI
      clear hc hu hrl hsl hls hle hiG hcA hne hiC hdg hkC hI hl0 hl0n
      go_wp2
      go_loopw [7] (fun q wr => ∃ j : Nat, j ≤ sn ∧ q = .int .i64 j ∧ IR wr b0 (.slice (some ⟨b0, 0, none⟩) n n) (rowL u l0 ((lAt G u).take j)) ∧ Only (· = b0) w6 wr) (fun q _ => sn - (intOf q).toNat)
      case atStart => exact ⟨0, by omega, rfl, hI0, hO⟩
      case round =>
        clear hI0 hO
        obtain ⟨j, hj, rfl, hI, hO⟩ := hrel
        have q0 := HQ6.out wr hO
        have g0 := HCG.out wr hO
        by_cases hjs : j < sn
        · have hjl : j < (lAt G u).length := by rw [HSL.out]; exact hjs
          obtain ⟨b2, o2, hsa, hcv⟩ := (HIG.out wr hO).cell j hjl
          subst hsa
          obtain ⟨v, hv⟩ : ∃ v, gt (lAt G u) j = v := ⟨_, rfl⟩
          rw [hv] at hcv
          have hx : nx G u j = some v := by
            show (lAt G u)[j]? = some v
            rw [List.getElem?_eq_getElem hjl, ← gt_at hjl, hv]
          have hvG : v < n := by rw [← HGn.out]; exact HG2.out u j v hx
          have hst := rowL_take l0 hx
          have hbd := rowL_le u ((lAt G u).take j) l0 (k * 1000000) (by rw [← HL0.out]; exact HLE.out)
          have hln := rowL_len u ((lAt G u).take j) l0
          rw [HL0N.out] at hln
          have htl : ((lAt G u).take j).length ≤ 1000000 := by rw [List.length_take]; omega
          obtain ⟨l, hl⟩ : ∃ l, rowL u l0 ((lAt G u).take j) = l := ⟨_, rfl⟩
          rw [hl] at hI hst hbd hln
          obtain ⟨p1, z1⟩ := hI.at' (k := u) (by rw [hln]; exact hmem)
          obtain ⟨p2, z2⟩ := hI.at' (k := v) (by rw [hln]; exact hvG)
          have ha1 := hbd u
          have ha2 := hbd v
          obtain ⟨a1, e1⟩ : ∃ a, gt l u = a := ⟨_, rfl⟩
          obtain ⟨a2, e2⟩ : ∃ a, gt l v = a := ⟨_, rfl⟩
          rw [e1] at p1 ha1 hst
          rw [e2] at p2 ha2 hst
          have hIM := hI.set (j := u) (by rw [hln]; exact hmem) (max a1 (a2 + 1))
          have HST := Lib.hid hst
          have HIM := Lib.hid hIM
          have HO := Lib.hid (Only.setCell (K := (· = b0)) hO (b := b0) (k := u) rfl (iV (max a1 (a2 + 1))))
          have h11 : (0 : Int) ≤ (j : Int) := Int.natCast_nonneg j
          have h12 : (j : Int) < (sn : Int) := by omega
          have h13 : (j : Int).toNat = j := Int.toNat_natCast j
          have h15 : (0 : Int) ≤ (v : Int) := Int.natCast_nonneg v
          have h16 : (v : Int) < (n : Int) := by omega
          have h17 : (v : Int).toNat = v := Int.toNat_natCast v
          have hwk : IntKind.i64.wrap ((a2 : Int) + 1) = (a2 : Int) + 1 := IntWalk.i64_in _ (by omega)
          clear hv hx hst hbd hln htl hl e1 e2 hIM ha1 ha2 hjl
          go_wp2
          go_region
          all_goals
            rw [show (if (a1 : Int) < (a2 : Int) + 1 then (a2 : Int) + 1 else (a1 : Int)) = ((max a1 (a2 + 1) : Nat) : Int) by split <;> omega]
            go_wp2
            go_roundw
            case rel => exact ⟨j + 1, by omega, by go_num, by rw [HST.out]; exact HIM.out.only ((Only.refl (fun _ => False) _).drew) (fun _ _ hc => hc), HO.out.drew⟩
            case measure => simp [intOf]; omega
        · have hjn : j = sn := by omega
          have HFI := Lib.hid (show rowL u l0 ((lAt G u).take j) = lonK G C n (k + 1) by
            rw [HLS.out, List.take_of_length_le (by have := HSL.out; omega)]
            unfold lonS
            rw [HU.out, HL0.out])
          go_wp2
          go_roundw
          case rel => exact ⟨k + 1, by omega, by go_num, by rw [← HFI.out]; exact hI, hO⟩
          case measure => simp [intOf]; omega
    · have hkn : k = nc := by omega
      have HEND := Lib.hid (show Only (fun _ => False) w wr by
        have ho := HFR.out wr hO
        exact hA.trans ⟨ho.os, ho.tape, ho.output, ho.size, fun i hi _ => ho.block i hi (fun hc => by have hc' : i = b0 := hc; have := HS1.out; omega)⟩)
      subst hkn
      go_wp2
      go_ret
      exact ⟨b0, rfl, rowMono (B := b0) hI (by have := HB1.out; omega), HEND.out⟩
end Go.Proofs.Ytijohaeiiidcpaa
