/-
  WALKS. GraphMutual at a valid small graph and two of its nodes.
-/
import Derived.Test.YtijohaeiiidcpaaGbMu
namespace Go.Proofs.Ytijohaeiiidcpaa
open Go.RowKit Go.Maps
set_option maxRecDepth 100000 in
set_option maxHeartbeats 16000000 in
theorem Mutual_in (w : World) (oE : Option Addr) (n cE : Nat) (E : List (List Int)) (u v : Nat) (h : Edz w oE n E) (hs : smallE E = true) (hv : validE E = true) (hu : u < n) (hw : v < n) : Calls Try.prog 8 #[.agg #[.slice oE n cE], .int .i64 u, .int .i64 v] w fun e w' => e = .returned (.bool true) ∧ Only (fun _ => False) w w' := by
  have hlen := h.len
  obtain ⟨hb1, hb2⟩ := small_bound hs
  have hn47 : n ≤ 140737488355328 := by omega
  have hr47 : ∀ l ∈ E, l.length ≤ 140737488355328 := fun l hl => by have := hb2 l hl; omega
  have hn9 : n ≤ 1000000000 := by omega
  have hr9 : ∀ l ∈ E, l.length ≤ 1000000000 := fun l hl => by have := hb2 l hl; omega
  have hn6 : n ≤ 1000000 := by omega
  have hr6 : ∀ l ∈ E, l.length ≤ 1000000 := fun l hl => by have := hb2 l hl; omega
  have hr8 : ∀ l ∈ E, l.length ≤ 100000000 := fun l hl => by have := hb2 l hl; omega
  have hA : Only (fun _ => False) w (w.alloc (.cells #[.slice oE n cE] 24)) := (Only.refl _ _).alloc _
  have hEA := h.keep hA
  have HB : Hid (∀ w', Only (fun _ => False) (w.alloc (.cells #[.slice oE n cE] 24)) w' → w'.cell? ⟨w.heap.size, 0, none⟩ = some (.slice oE n cE)) := Lib.hid (fun w' ho => (blk_c ((ho.block w.heap.size (by show _ < (Array.push _ _).size; rw [Array.size_push]; omega) (fun hc => hc)).trans (new_block w _)) rfl).1)
  have hCC : compsE E = compsG (natE E) := by unfold compsE; rw [hv]; rfl
  have hG1 := hEA.edg hv
  have hG2 := valid_G hv
  have hG4 := nat_deg hr6
  have hGn : (natE E).length = n := by rw [natE_len, hlen]
  obtain ⟨G, hG⟩ : ∃ G, natE E = G := ⟨_, rfl⟩
  have hta := togK_all hv hG (u := u) (v := v) (by omega) (by omega)
  have hPA := comps_parts hG2
  rw [hG] at hG1 hG2 hG4 hGn hCC hPA
  obtain ⟨C, hC⟩ : ∃ C, compsG G = C := ⟨_, rfl⟩
  rw [hC] at hta hPA hCC
  have HU := Lib.hid (reach_self hv (u := u) (by omega))
  have HNX := Lib.hid (fun x j y hx hy => reach_next hv hG (u := u) (by omega) (x := x) (j := j) (y := y) hx hy)
  have HLT := Lib.hid (fun x hx => ((mem_reach hv hG (u := u) (by omega) x).1 hx).1)
  have hll := reach_len E (u : Int)
  have hlk := reach_len E (v : Int)
  have HCP : Hid (∀ wx, Only (fun _ => False) (w.alloc (.cells #[.slice oE n cE] 24)) wx → Calls Try.prog 12 #[.agg #[.slice oE n cE]] wx fun e w' => ∃ oc nc cc, e = .returned (.slice oc nc cc) ∧ Edg w' oc nc C ∧ Only (fun _ => False) wx w') := Lib.hid (fun wx ho => (Components_p wx oE n cE E (hEA.keep ho) hn6 hr6).mono (by
    rw [hCC]
    rintro e w' ⟨oc, nc, cc, h1, h2, h3⟩
    exact ⟨oc, nc, cc, h1, h2.edg, h3⟩))
  have HRP : Hid (∀ (wx : World) (x : Nat), Only (fun _ => False) (w.alloc (.cells #[.slice oE n cE] 24)) wx → Calls Try.prog 15 #[.agg #[.slice oE n cE], .int .i64 x] wx fun e w' => ∃ oc nc cc, e = .returned (.slice oc nc cc) ∧ Ints w' oc nc (reachL E x) ∧ Only (fun _ => False) wx w') := Lib.hid (fun wx x ho => (Reach_p wx oE n cE E x (hEA.keep ho) hn6 hr8).mono (by
    rintro e w' ⟨v, rfl, h2, h3⟩
    obtain ⟨oa, ca, hv⟩ := rowForm h2
    subst hv
    exact ⟨oa, _, ca, rfl, h2.ints, h3⟩))
  obtain ⟨l, hl⟩ : ∃ l, reachL E (u : Int) = l := ⟨_, rfl⟩
  obtain ⟨l2, hl2⟩ : ∃ l, reachL E (v : Int) = l := ⟨_, rfl⟩
  rw [hl] at hta HU HNX HLT hll
  rw [hl2] at hta hlk
  have HPC := Lib.hid (parts_len hPA)
  have HPR := Lib.hid (fun i => parts_row hPA i)
  have HS := Lib.hid hs
  have HV := Lib.hid hv
  have HG1 := Lib.hid hG1
  have HG2 := Lib.hid hG2
  have HG4 := Lib.hid hG4
  have HGn := Lib.hid hGn
  have HTA := Lib.hid hta
  have HL := Lib.hid hl
  have HL2 := Lib.hid hl2
  have hiA : ¬ (u : Int) < 0 := by omega
  have hiB : decide ((u : Int) < 0) = false := decide_eq_false hiA
  have hiC : ¬ (n : Int) ≤ (u : Int) := by omega
  have hiD : decide ((n : Int) ≤ (u : Int)) = false := decide_eq_false hiC
  have hkA : ¬ (v : Int) < 0 := by omega
  have hkB : decide ((v : Int) < 0) = false := decide_eq_false hkA
  have hkC : ¬ (n : Int) ≤ (v : Int) := by omega
  have hkD : decide ((n : Int) ≤ (v : Int)) = false := decide_eq_false hkC
  clear hs hv hCC hG1 hG2 hG4 hGn hG hta hPA hC hl hl2
  go_enter Try.func8, Try.ntmps8
  go_wp2_with (first | (go_at_call 9; (refine (small_p _ oE n cE E hEA hn47 hr47 true HS.out).mono ?_); rintro e w5 ⟨rfl, hO5⟩; have q5 := HB.out _ hO5) | (go_at_call 25; (refine (Valid_p _ oE n cE E (hEA.keep hO5) hn9 hr9).mono ?_); rintro e w7 ⟨rfl, hO7⟩; have q7 := HB.out _ (hO5.trans hO7); have hv := HV.out) | (go_at_call 12; (refine (HCP.out _ (hO5.trans hO7)).mono ?_); rintro e w8 ⟨oc, nc, cc, rfl, hC8, hO8⟩))
  have HO8 := Lib.hid ((hO5.trans hO7).trans hO8)
  have hncl := hC8.len
  have HC8 := Lib.hid hC8
  have HT0 : Hid (togK C u v 0 = false) := Lib.hid rfl
  have hnc : nc ≤ 60 := by have := HPC.out; have := HGn.out; omega
  clear hO5 hO7 hO8 q5 q7 hv hC8
  go_loopw [7, 9] (fun t q wr => ∃ (x : Nat) (b : Bool), x ≤ nc ∧ q = .int .i64 x ∧ t = .bool b ∧ Hid (togK C u v x = b) ∧ Only (fun _ => False) w8 wr) (fun _ q _ => nc - (intOf q).toNat)
  case atStart => exact ⟨0, false, by omega, rfl, rfl, HT0, Only.refl _ _⟩
  case round =>
    clear HT0
    obtain ⟨x, b, hx, rfl, rfl, HT, hO⟩ := hrel
    by_cases hlt : x < nc
    · have hxC : x < C.length := by omega
      obtain ⟨b1, o1, ra, rn, rc, hoc, hc, hi⟩ := (HC8.out.old hO (fun _ _ hc => hc)).at hxC
      subst hoc
      have HI := Lib.hid hi
      have hrn : rn ≤ 1000000000 := by have := HPR.out x; have h2 := hi.len; change (lAt C x).length = rn at h2; have := HGn.out; omega
      have HTS := Lib.hid (togK_succ (u := u) (v := v) hxC)
      have h01 : (0 : Int) ≤ (x : Int) := Int.natCast_nonneg x
      have h02 : (x : Int) < (nc : Int) := by omega
      have h03 : (x : Int).toNat = x := Int.toNat_natCast x
      clear hi
      cases b
      · obtain ⟨r1, hr1⟩ : ∃ r, decide (u ∈ lAt C x) = r := ⟨_, rfl⟩
        obtain ⟨r2, hr2⟩ : ∃ r, decide (v ∈ lAt C x) = r := ⟨_, rfl⟩
        have HR1 := Lib.hid hr1
        have HR2 := Lib.hid hr2
        have HTN : Hid (togK C u v (x + 1) = (r1 && r2)) := Lib.hid (by rw [HTS.out, HT.out, hr1, hr2, Bool.false_or])
        clear hr1 hr2
        cases r1
        · go_wp2_with (go_at_call 26; (refine (has_p _ ra rn rc _ HI.out hrn u false HR1.out).mono ?_); rintro e w9 ⟨rfl, hO9⟩)
          go_roundw
          case rel => exact ⟨x + 1, false, by omega, by go_num, rfl, HTN, hO.trans hO9⟩
          case measure => simp [intOf]; omega
        · have HC9 : Hid (∀ w9, Only (fun _ => False) wr w9 → w9.cell? ⟨b1, o1 + x, none⟩ = some (.slice ra rn rc)) := Lib.hid (fun w9 ho => (World.cell?_of_block (ho.block b1 (cell_lt hc) (fun hc => hc))).trans hc)
          cases r2
          · go_wp2_with (first | (go_at_call 26; (with_reducible refine (has_p _ ra rn rc _ HI.out hrn u true HR1.out).mono ?_); rintro e w9 ⟨rfl, hO9⟩; have c9 := HC9.out w9 hO9) | (go_at_call 26; (refine (has_p _ ra rn rc _ (HI.out.old hO9 (fun _ _ hc => hc)) hrn v false HR2.out).mono ?_); rintro e w10 ⟨rfl, hO10⟩))
            go_roundw
            case rel => exact ⟨x + 1, false, by omega, by go_num, rfl, HTN, hO.trans (hO9.trans hO10)⟩
            case measure => simp [intOf]; omega
          · go_wp2_with (first | (go_at_call 26; (with_reducible refine (has_p _ ra rn rc _ HI.out hrn u true HR1.out).mono ?_); rintro e w9 ⟨rfl, hO9⟩; have c9 := HC9.out w9 hO9) | (go_at_call 26; (refine (has_p _ ra rn rc _ (HI.out.old hO9 (fun _ _ hc => hc)) hrn v true HR2.out).mono ?_); rintro e w10 ⟨rfl, hO10⟩))
            go_roundw
            case rel => exact ⟨x + 1, true, by omega, by go_num, rfl, HTN, hO.trans (hO9.trans hO10)⟩
            case measure => simp [intOf]; omega
      · have HTN : Hid (togK C u v (x + 1) = true) := Lib.hid (by rw [HTS.out, HT.out, Bool.true_or])
        go_wp2
        go_roundw
        case rel => exact ⟨x + 1, true, by omega, by go_num, rfl, HTN, hO⟩
        case measure => simp [intOf]; omega
    · have hxn : x = nc := by omega
      subst hxn
      have HTB : Hid (b = (decide (v ∈ l) && decide (u ∈ l2))) := Lib.hid (by rw [← HT.out, ← HTA.out, ← hncl])
      have HOr := HO8.out.trans hO
      have q8 := HB.out _ HOr
      clear hO HT
      go_wp2_with (go_at_call 15; (refine (HRP.out _ u HOr).mono ?_); rintro e w9 ⟨ol, nl, cl, rfl, hL9, hO9⟩; rw [HL.out] at hL9)
      have HO9 := Lib.hid (HOr.trans hO9)
      have hnl := hL9.len
      have HL9 := Lib.hid hL9
      clear HOr hO9 q8 hL9
      have hnl60 : nl ≤ 60 := by omega
      go_loopw [11] (fun q wr => ∃ y : Nat, y ≤ nl ∧ q = .int .i64 y ∧ Only (fun _ => False) w9 wr) (fun q _ => nl - (intOf q).toNat)
      case atStart => exact ⟨0, by omega, rfl, Only.refl _ _⟩
      case round =>
        obtain ⟨y, hy, rfl, hO⟩ := hrel
        have hOw := HO9.out.trans hO
        have q0 := HB.out _ hOw
        by_cases hyl : y < nl
        · have hyL : y < l.length := by omega
          obtain ⟨b2, o2, hol, c2⟩ := (HL9.out.old hO (fun _ _ hc => hc)).cell y hyL
          subst hol
          obtain ⟨z, hz⟩ : ∃ z, gt l y = z := ⟨_, rfl⟩
          rw [hz] at c2
          have hzl : z ∈ l := by rw [← hz, gt_at hyL]; exact List.getElem_mem hyL
          have hzn : z < n := by have := HLT.out z hzl; omega
          obtain ⟨b3, o3, sa, sn, sc, hoE, c3, hi3⟩ := (HG1.out.old hOw (fun _ _ hc => hc)).at (k := z) (by rw [HGn.out]; exact hzn)
          subst hoE
          have hsn := HG4.out z
          have hsl := hi3.len
          have hdg : degG G z = (lAt G z).length := rfl
          rw [hdg] at hsn
          change (lAt G z).length = sn at hsl
          rw [hsl] at hsn
          have HI3 := Lib.hid hi3
          have HSL := Lib.hid hsl
          have HZL := Lib.hid hzl
          have h01 : (0 : Int) ≤ (y : Int) := Int.natCast_nonneg y
          have h02 : (y : Int) < (nl : Int) := by omega
          have h03 : (y : Int).toNat = y := Int.toNat_natCast y
          have h04 : (0 : Int) ≤ (z : Int) := Int.natCast_nonneg z
          have h05 : (z : Int) < (n : Int) := by omega
          have h06 : (z : Int).toNat = z := Int.toNat_natCast z
          clear hz hzl hi3 hsl hdg hyL
          obtain ⟨wo, hwo⟩ : ∃ wo : World, wo = wr := ⟨_, rfl⟩
          subst hwo
          go_wp2
          go_region
          go_wp2
          go_loopw [88] (fun q wr => ∃ j : Nat, j ≤ sn ∧ q = .int .i64 j ∧ Only (fun _ => False) wo wr) (fun q _ => sn - (intOf q).toNat)
          case atStart => exact ⟨0, by omega, rfl, (Only.refl _ _).drew⟩
          case round =>
            obtain ⟨j, hj, rfl, hO2⟩ := hrel
            by_cases hjl : j < sn
            · have hjL : j < (lAt G z).length := by rw [HSL.out]; exact hjl
              obtain ⟨b4, o4, hsa, c4⟩ := (HI3.out.old hO2 (fun _ _ hc => hc)).cell j hjL
              subst hsa
              obtain ⟨t, ht⟩ : ∃ t, gt (lAt G z) j = t := ⟨_, rfl⟩
              change wr.cell? _ = some (iV (gt (lAt G z) j)) at c4
              rw [ht] at c4
              have htl : t ∈ l := HNX.out z j t HZL.out (by
                show (lAt G z)[j]? = some t
                rw [List.getElem?_eq_getElem hjL, ← gt_at hjL, ht])
              have HTL := Lib.hid (decide_eq_true htl)
              have HLI := Lib.hid (HL9.out.old (hO.trans hO2) (fun _ _ hc => hc))
              have h11 : (0 : Int) ≤ (j : Int) := Int.natCast_nonneg j
              have h12 : (j : Int) < (sn : Int) := by omega
              have h13 : (j : Int).toNat = j := Int.toNat_natCast j
              clear ht htl hjL
              go_wp2_with (go_at_call 26; (refine (has_p _ _ nl cl l HLI.out (by omega) t true HTL.out).mono ?_); rintro e w10 ⟨rfl, hO10⟩)
              go_roundw
              case rel => exact ⟨j + 1, by omega, by go_num, hO2.trans hO10⟩
              case measure => simp [intOf]; omega
            · go_wp2
              go_roundw
              case rel => exact ⟨y + 1, by omega, by go_num, hO.trans hO2⟩
              case measure => simp [intOf]; omega
        · have HUL := Lib.hid (decide_eq_true HU.out)
          have HLI := Lib.hid (HL9.out.old hO (fun _ _ hc => hc))
          obtain ⟨r1, hr1⟩ : ∃ r, decide (v ∈ l) = r := ⟨_, rfl⟩
          have HR1 := Lib.hid hr1
          have htb := HTB.out
          rw [hr1] at htb
          have HTB2 := Lib.hid htb
          have hnl9 : nl ≤ 1000000000 := by omega
          clear hr1 htb
          cases r1
          · have hbf : b = false := by rw [HTB2.out]; rfl
            subst hbf
            go_wp2_with (first | (go_at_call 26; (with_reducible refine (has_p _ ol nl cl l HLI.out hnl9 u true HUL.out).mono ?_); rintro e w10 ⟨rfl, hO10⟩) | (go_at_call 26; (with_reducible refine (has_p _ ol nl cl l (HLI.out.old hO10 (fun _ _ hc => hc)) hnl9 v false HR1.out).mono ?_); rintro e w11 ⟨rfl, hO11⟩) | (go_at_call 10; (refine (example_p _).mono ?_); rintro e w14 ⟨rfl, hO14⟩))
            go_ret
            exact ⟨rfl, hA.trans (hOw.trans (hO10.trans (hO11.trans hO14)))⟩
          · obtain ⟨r2, hr2⟩ : ∃ r, decide (u ∈ l2) = r := ⟨_, rfl⟩
            have HR2 := Lib.hid hr2
            have hbr : b = r2 := by rw [HTB2.out, hr2]; rfl
            subst hbr
            have hl2b : l2.length ≤ 60 := by omega
            clear hr2
            cases b
            · go_wp2_with (first | (go_at_call 26; (with_reducible refine (has_p _ ol nl cl l HLI.out hnl9 u true HUL.out).mono ?_); rintro e w10 ⟨rfl, hO10⟩) | (go_at_call 26; (with_reducible refine (has_p _ ol nl cl l (HLI.out.old hO10 (fun _ _ hc => hc)) hnl9 v true HR1.out).mono ?_); rintro e w11 ⟨rfl, hO11⟩; have hO11' := hOw.trans (hO10.trans hO11); have q11 := HB.out _ hO11') | (go_at_call 15; (refine (HRP.out _ v hO11').mono ?_); rintro e w12 ⟨om, nm, cm, rfl, hL12, hO12⟩; rw [HL2.out] at hL12; have hm := hL12.len; have HL12 := Lib.hid hL12; have hnm : nm ≤ 1000000000 := (by omega); clear hL12 hm) | (go_at_call 26; (with_reducible refine (has_p _ om nm cm l2 HL12.out hnm u false HR2.out).mono ?_); rintro e w13 ⟨rfl, hO13⟩) | (go_at_call 10; (refine (example_p _).mono ?_); rintro e w14 ⟨rfl, hO14⟩))
              go_ret
              exact ⟨rfl, hA.trans (hO11'.trans (hO12.trans (hO13.trans hO14)))⟩
            · go_wp2_with (first | (go_at_call 26; (with_reducible refine (has_p _ ol nl cl l HLI.out hnl9 u true HUL.out).mono ?_); rintro e w10 ⟨rfl, hO10⟩) | (go_at_call 26; (with_reducible refine (has_p _ ol nl cl l (HLI.out.old hO10 (fun _ _ hc => hc)) hnl9 v true HR1.out).mono ?_); rintro e w11 ⟨rfl, hO11⟩; have hO11' := hOw.trans (hO10.trans hO11); have q11 := HB.out _ hO11') | (go_at_call 15; (refine (HRP.out _ v hO11').mono ?_); rintro e w12 ⟨om, nm, cm, rfl, hL12, hO12⟩; rw [HL2.out] at hL12; have hm := hL12.len; have HL12 := Lib.hid hL12; have hnm : nm ≤ 1000000000 := (by omega); clear hL12 hm) | (go_at_call 26; (with_reducible refine (has_p _ om nm cm l2 HL12.out hnm u true HR2.out).mono ?_); rintro e w13 ⟨rfl, hO13⟩) | (go_at_call 10; (refine (example_p _).mono ?_); rintro e w14 ⟨rfl, hO14⟩))
              go_ret
              exact ⟨rfl, hA.trans (hO11'.trans (hO12.trans (hO13.trans hO14)))⟩
theorem okN_nat {n : Nat} {i : Int} (h : okN n i = true) : ∃ u : Nat, i = (u : Int) ∧ u < n := by
  unfold okN at h
  simp only [Bool.and_eq_true, decide_eq_true_eq] at h
  exact ⟨i.toNat, by omega, by omega⟩
theorem GraphMutual_walk (W : World) (oE : Option Addr) (n cE : Nat) (E : List (List Int)) (i k : Int) (h : Edz W oE n E) (hn : n ≤ 140737488355328) (hr : ∀ l ∈ E, l.length ≤ 140737488355328) : Calls Try.prog 8 #[.agg #[.slice oE n cE], .int .i64 i, .int .i64 k] W fun e W' => e = .returned (.bool true) ∧ Only (fun _ => False) W W' := by
  cases hok : okM E i k
  · exact Mutual_out W oE n cE E i k h hn hr hok
  · unfold okM at hok
    simp only [Bool.and_eq_true] at hok
    obtain ⟨hs, hv, hi, hk⟩ := hok
    rw [h.len] at hi hk
    obtain ⟨u, rfl, hu⟩ := okN_nat hi
    obtain ⟨v, rfl, hw⟩ := okN_nat hk
    exact Mutual_in W oE n cE E u v h hs hv hu hw
end Go.Proofs.Ytijohaeiiidcpaa
