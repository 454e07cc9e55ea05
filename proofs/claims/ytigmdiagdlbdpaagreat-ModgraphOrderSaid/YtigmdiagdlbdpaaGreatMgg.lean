/-
  WALKS. The program's shortest cycle through a node.
-/
import Derived.Test.YtigmdiagdlbdpaaGreatMgd
import Derived.Test.YtigmdiagdlbdpaaGreatMgf
import Derived.Deep.RegionHeld
namespace Go.Proofs.YtigmdiagdlbdpaaGreat
open Go.RowKit Go.Maps
def lenV : Value → Nat
  | .slice _ n _ => n
  | _ => 0
theorem cycF_more {G : List (List Nat)} {a c : List Nat} {s f : Nat} (h : minF a (lAt G (lastN c)) ≠ s) : cycF G a s (f + 1) c = cycF G a s f (c ++ [minF a (lAt G (lastN c))]) := by
  show (if _ then _ else _) = _
  rw [if_neg h]
theorem cycF_end {G : List (List Nat)} {a c : List Nat} {s f : Nat} (h : minF a (lAt G (lastN c)) = s) : cycF G a s (f + 1) c = c := by
  show (if _ then _ else _) = _
  rw [if_pos h]
set_option maxRecDepth 100000 in
set_option maxHeartbeats 4000000 in
theorem cycleFrom_p (w : World) (oE : Option Addr) (n cE : Nat) (G : List (List Nat)) (s : Nat) (h : Edg w oE n G) (hG : ValidG G) (hs : s < n) (hon : Onc G s) (hn : n ≤ 1000000) (hr : ∀ k, (lAt G k).length ≤ 1000000) : Calls Tryz.prog 56 #[.agg #[.slice oE n cE], iV s] w fun e w' => ∃ oa ca, e = .returned (.slice oa (cycG G s).length ca) ∧ IR w' w.heap.size (.slice oa (cycG G s).length ca) (cycG G s) ∧ Only (fun _ => False) w w' := by
  have hlen := h.len
  obtain ⟨i0', hi, hz0, hz1, hz2⟩ := info_parts infoInt
  have hmf : ∀ (fn : Fn) (first cap : Array Value) (w : World), (Instr.makeFunc fn first cap).run Tryz.prog w = .ok (.func fn first cap) w := fun _ _ _ _ => rfl
  have hA : Only (fun _ => False) w (w.alloc (.cells #[.slice oE n cE] 49)) := (Only.refl _ _).alloc _
  have s1 : (w.alloc (.cells #[.slice oE n cE] 49)).heap.size = w.heap.size + 1 := by show (Array.push _ _).size = _; rw [Array.size_push]
  have hk0 := new_block w (.cells #[.slice oE n cE] 49)
  have hq0 : (w.alloc (.cells #[.slice oE n cE] 49)).cell? ⟨w.heap.size, 0, none⟩ = some (.slice oE n cE) := (blk_c hk0 rfl).1
  have hD := disG_f hG (t := s) (by omega)
  have HDI := Lib.hid (distances_p _ oE n cE G s (h.old hA (fun _ _ hc => hc)) hG hs hn hr)
  have hcg : cycF G (disG G s) s (G.length + 1) [s] = cycG G s := rfl
  have hci : CyI G (disG G s) s [s] := CyI.one (by omega)
  have hbd : ∀ i, gt (disG G s) i ≤ 1000000 := fun i => by have := disR_bnd G s G.length i; unfold disG; omega
  have HE := Lib.hid h
  have HG := Lib.hid hG
  have HON := Lib.hid hon
  have HRW := Lib.hid hr
  obtain ⟨a, ha⟩ : ∃ a, disG G s = a := ⟨_, rfl⟩
  rw [ha] at hD HDI hcg hci hbd
  have HD := Lib.hid hD
  have HCG := Lib.hid hcg
  have HCI := Lib.hid hci
  have HBD := Lib.hid hbd
  have HK0 := Lib.hid hk0
  have HA := Lib.hid hA
  clear h hG hon hr hD hcg hci hbd ha hk0 hA
  go_enter Tryz.func56, Tryz.ntmps56
  go_wp2_with (go_at_call 76; (refine HDI.out.mono ?_); rintro e w5 ⟨gA, rfl, hI5, hO5⟩)
  obtain ⟨B5, hB5⟩ : ∃ B, w5.heap.size = B := ⟨_, rfl⟩
  have t1 : (w5.alloc (.cells #[.slice (some ⟨gA, 0, none⟩) n n] 55)).heap.size = B5 + 1 := by rw [← hB5]; show (Array.push _ _).size = _; rw [Array.size_push]
  have hgA : gA < B5 := by rw [← hB5]; exact (World.ownsRow.lt hI5 gA rfl).2
  have hwB : w.heap.size < B5 := by have := hO5.size; omega
  obtain ⟨W, hW⟩ : ∃ W, (w5.alloc (.cells #[.slice (some ⟨gA, 0, none⟩) n n] 55)).alloc (.cells #[iV s] 3) = W := ⟨_, rfl⟩
  have hI0 : IR W (B5 + 1) (.slice (some ⟨B5 + 1, 0, none⟩) 1 1) [s] := by
    rw [← hW]
    exact ir_of_cells (l := [s]) (Nat.le_refl _) (by rw [← t1]; exact new_block _ _) rfl (by omega)
  have hOW : Only (B5 ≤ ·) w5 W := by rw [← hW]; exact ((Only.refl _ _).alloc _).alloc _
  have hWs : W.heap.size = B5 + 2 := by rw [← hW]; show (Array.push _ _).size = _; rw [Array.size_push, t1]
  have hkA : W.heap[B5]? = some (.cells #[.slice (some ⟨gA, 0, none⟩) n n] 55 (0, 0)) := by
    rw [← hW, ← hB5]
    exact (((Only.refl (fun _ => False) _).alloc (.cells #[iV s] 3)).block w5.heap.size (by rw [t1, hB5]; omega) (fun hc => hc)).trans (new_block w5 _)
  have HCH : Hid (∀ wx, Only (B5 + 1 ≤ ·) W wx → Only (B5 ≤ ·) w5 wx) := Lib.hid (fun wx ho => hOW.trans (ho.wide (fun i hi => by have hi' : B5 + 1 ≤ i := hi; show B5 ≤ i; omega)))
  have HFR : Hid (∀ wx, Only (B5 ≤ ·) w5 wx → Only (fun _ => False) w wx) := Lib.hid (fun wx ho => by
    have h1 := (HA.out.trans hO5).lift (K := (B5 ≤ ·)) |>.trans ho
    exact ⟨h1.os, h1.tape, h1.output, h1.size, fun i hi _ => h1.block i hi (fun hc => by have hc' : B5 ≤ i := hc; omega)⟩)
  have HED : Hid (∀ wx, Only (B5 + 1 ≤ ·) W wx → Edg wx oE n G) := Lib.hid (fun wx ho => HE.out.old (HFR.out wx (HCH.out wx ho)) (fun _ _ hc => hc))
  have HMB : Hid (∀ wx, Only (B5 + 1 ≤ ·) W wx → MB wx B5 (some ⟨gA, 0, none⟩) n n a) := Lib.hid (fun wx ho => ⟨(blk_c ((ho.block B5 (lt_of_block hkA) (fun hc => by have hc' : B5 + 1 ≤ B5 := hc; omega)).trans hkA) rfl).1, hI5.ints.old (HCH.out wx ho) (fun i hi hc => by have hc' : B5 ≤ i := hc; omega)⟩)
  have hk5 : w5.heap[w.heap.size]? = some (.cells #[.slice oE n cE] 49) := (hO5.block w.heap.size (by rw [s1]; omega) (fun hc => hc)).trans HK0.out
  have HB : Hid (∀ wx, Only (B5 + 1 ≤ ·) W wx → wx.cell? ⟨w.heap.size, 0, none⟩ = some (.slice oE n cE)) := Lib.hid (fun wx ho => (blk_c (((HCH.out wx ho).block w.heap.size (lt_of_block hk5) (fun hc => by have hc' : B5 ≤ w.heap.size := hc; omega)).trans hk5) rfl).1)
  have HI0 := Lib.hid hI0
  have HWS := Lib.hid hWs
  rw [hB5, hW]
  clear hI5 hO5 t1 hgA hW hI0 hOW hWs hkA hk5 hq0 s1
  go_loopw [6] (fun v wr => ∃ (c : List Nat) (f : Nat), CyI G a s c ∧ cycF G a s f c = cycG G s ∧ G.length + 2 ≤ f + c.length ∧ IR wr (B5 + 1) v c ∧ Only (B5 + 1 ≤ ·) W wr) (fun v _ => n + 1 - lenV v)
  case atStart => exact ⟨[s], G.length + 1, HCI.out, HCG.out, by simp, HI0.out, Only.refl _ _⟩
  case round =>
    obtain ⟨c, f, hci, hcf, hf, hI, hO⟩ := hrel
    have hsh := hci.short
    obtain ⟨f', hf'⟩ : ∃ f', f = f' + 1 := ⟨f - 1, by omega⟩
    subst hf'
    obtain ⟨oc, cc, hv⟩ := rowForm hI
    subst hv
    obtain ⟨hx1, hx2, hx3, hx4, -⟩ := hci.next HG.out HD.out (by omega) HON.out
    have hne := hci.ne
    have hlg := lastN_gt hne
    have hll : lastN c < G.length := by rw [hlg]; exact hci.lt _ (by omega)
    have HPS : Hid (minF a (lAt G (lastN c)) ≠ s → CyI G a s (c ++ [minF a (lAt G (lastN c))])) := Lib.hid (fun e => hci.push HG.out HD.out (by omega) HON.out e)
    obtain ⟨u, hu⟩ : ∃ u, lastN c = u := ⟨_, rfl⟩
    rw [hu] at hx1 hx2 hx3 hll hlg HPS
    have hcm := fun e => (cycF_more (G := G) (a := a) (c := c) (s := s) (f := f') e)
    have hce := fun e => (cycF_end (G := G) (a := a) (c := c) (s := s) (f := f') e)
    rw [hu] at hcm hce
    obtain ⟨g, hg1, hg2, hg3, hg4, hc1⟩ := hI.at (k := c.length - 1) (by omega)
    subst hg1
    obtain ⟨bE, oE', ra, rn, rc, eE, cE1, hiE⟩ := (HED.out wr hO).cell u hll
    subst eE
    have hrow : lAt G u = G[u] := by show G.getD u [] = _; rw [List.getD_eq_getElem?_getD, List.getElem?_eq_getElem hll]; rfl
    rw [← hrow] at hiE
    have hrl := hiE.len
    have hr0 : 0 < rn := by
      have := List.length_pos_iff.2 hx1
      omega
    have hrb := HRW.out u
    have hvl : ∀ x ∈ lAt G u, x < n := fun x hx => by have := row_valid HG.out hx; omega
    rw [← hlg] at hc1
    obtain ⟨hc2, -⟩ := hc1
    obtain ⟨j, hj⟩ : ∃ j, j + 1 = c.length := ⟨c.length - 1, by omega⟩
    rw [show c.length - 1 = j by omega] at hc2
    have HMF : Hid (∀ wx, Only (fun _ => False) wr wx → Calls Tryz.prog 77 #[.slice ra rn rc, minV B5] wx fun e w' => e = .returned (iV (minF a (lAt G u))) ∧ Only (fun _ => False) wx w') := Lib.hid (fun wx ho => MinFunc_p ((HMB.out wr hO).old ho) (fun i _ => HBD.out i) ra rn rc (lAt G u) (hiE.old ho (fun _ _ hc => hc)) hvl hr0 (by omega))
    obtain ⟨m, hm⟩ : ∃ m, minF a (lAt G u) = m := ⟨_, rfl⟩
    rw [hm] at HMF hcm hce HPS
    have HPU : Hid (m ≠ s → CyI G a s (c ++ [m])) := HPS
    have HCM := Lib.hid hcm
    have HCE := Lib.hid hce
    have HCF := Lib.hid hcf
    have HF := Lib.hid hf
    have HI := Lib.hid hI
    have HO := Lib.hid hO
    have q0 := HB.out wr hO
    have HK : Hid (∀ x y, (Only (fun _ => False) wr x ∧ x.cell? ⟨w.heap.size, 0, none⟩ = some (.slice (some ⟨bE, oE', none⟩) n cE) ∧ x.cell? ⟨g, j, none⟩ = some (iV u) ∧ x.cell? ⟨bE, oE' + u, none⟩ = some (.slice ra rn rc)) → Only (fun _ => False) x y → (Only (fun _ => False) wr y ∧ y.cell? ⟨w.heap.size, 0, none⟩ = some (.slice (some ⟨bE, oE', none⟩) n cE) ∧ y.cell? ⟨g, j, none⟩ = some (iV u) ∧ y.cell? ⟨bE, oE' + u, none⟩ = some (.slice ra rn rc))) := Lib.hid (fun x y h1 h2 => ⟨h1.1.trans h2, (World.cell?_of_block (h2.block _ (cell_lt h1.2.1) (fun hc => hc))).trans h1.2.1, (World.cell?_of_block (h2.block _ (cell_lt h1.2.2.1) (fun hc => hc))).trans h1.2.2.1, (World.cell?_of_block (h2.block _ (cell_lt h1.2.2.2) (fun hc => hc))).trans h1.2.2.2⟩)
    have hs0 : Only (fun _ => False) wr wr.drew ∧ wr.drew.cell? ⟨w.heap.size, 0, none⟩ = some (.slice (some ⟨bE, oE', none⟩) n cE) ∧ wr.drew.cell? ⟨g, j, none⟩ = some (iV u) ∧ wr.drew.cell? ⟨bE, oE' + u, none⟩ = some (.slice ra rn rc) := ⟨(Only.refl _ _).drew, q0, hc2, cE1⟩
    have HSI := Lib.hid hci.short
    obtain ⟨L, hL⟩ : ∃ L, c.length = L := ⟨_, rfl⟩
    have HLL := Lib.hid hL
    rw [hL] at hj hne hsh
    have h01 : (0 : Int) ≤ (j : Int) := Int.natCast_nonneg j
    have h02 : (j : Int) < (L : Int) := by omega
    have h03 : (j : Int).toNat = j := Int.toNat_natCast j
    have h04 : (0 : Int) ≤ (u : Int) := Int.natCast_nonneg u
    have h05 : (u : Int) < (n : Int) := by omega
    have h06 : (u : Int).toNat = u := Int.toNat_natCast u
    have hwj : IntKind.i64.wrap ((L : Int) - 1) = (j : Int) := by
      rw [IntWalk.i64_in _ (by omega)]
      omega
    have HJ := Lib.hid hj
    rw [hL]
    clear hj hcm hce hcf hf hI hO hiE hvl hrl hm hL hrow hlg hu hx1 hx2 hx3 hx4 hci hrb HPS
    go_wp2
    go_region_held (fun wx => Only (fun _ => False) wr wx ∧ wx.cell? ⟨w.heap.size, 0, none⟩ = some (.slice (some ⟨bE, oE', none⟩) n cE) ∧ wx.cell? ⟨g, j, none⟩ = some (iV u) ∧ wx.cell? ⟨bE, oE' + u, none⟩ = some (.slice ra rn rc)) (assumption)
      (first | (go_at_call 77; (refine (HMF.out _ (And.left (by assumption))).mono ?_); rintro e w6 ⟨rfl, hO6⟩; have hs6 := HK.out _ _ (by assumption) hO6))
    all_goals
      have HI6 : Hid (IR w6 (B5 + 1) (.slice (some ⟨g, 0, none⟩) L cc) c) := Lib.hid (by
        have h1 := HI.out.only hs6.1 (fun _ _ hc => hc)
        rw [HLL.out] at h1
        exact h1)
      have HO6 : Hid (Only (B5 + 1 ≤ ·) W w6) := Lib.hid (HO.out.trans hs6.1.lift)
      clear hs6 hs0 q0 cE1 hc2
      by_cases hms : m = s
      · subst hms
        have hcc : c = cycG G m := (HCE.out rfl).symm.trans HCF.out
        have HFI : Hid (Only (fun _ => False) w w6) := Lib.hid (HFR.out w6 (HCH.out w6 HO6.out))
        have HCC := Lib.hid hcc
        have HWB := Lib.hid hwB
        clear hcc
        go_wp2
        go_ret
        rw [← HCC.out, HLL.out]
        exact ⟨some ⟨g, 0, none⟩, cc, rfl, rowMono HI6.out (by have := HWB.out; omega), HFI.out⟩
      · have hne1 : ((m : Int) == (s : Int)) = false := by
          simp
          omega
        have HRL : Hid (cycF G a s f' (c ++ [m]) = cycG G s) := Lib.hid ((HCM.out hms).symm.trans HCF.out)
        have HPC : Hid (CyI G a s (c ++ [m])) := Lib.hid (HPU.out hms)
        have HWZ : Hid (B5 + 2 ≤ w6.heap.size) := Lib.hid (by have := HWS.out; have := HO6.out.size; omega)
        clear hms
        go_wp2_with (at_builtin; refine wpList_append_lies _ rfl _ _ 55 rfl (B5 + 1) 3 i0' (.int .i64 0) 1 8 Tryz.underlying55 hi hz0 hz1 hz2 rfl (by decide) (.slice (some ⟨g, 0, none⟩) L cc) L (c.map iV) rfl (World.ownsRow.alloc (show w6.ownsRow (B5 + 1) 3 1 (.slice (some ⟨g, 0, none⟩) L cc) L (c.map iV) by have hh := HI6.out; unfold IR at hh; rw [HLL.out] at hh; exact hh) _) ⟨w6.heap.size, 0, none⟩ 1 1 [iV m] rfl rfl (World.news_of_block (new_block w6 _)) (one_int m) Nat.one_pos (by unfold maxLen; omega) (by omega) (by show B5 + 1 ≤ (Array.push _ _).size; rw [Array.size_push]; have h3 := HWZ.out; omega) _ rfl ?_; intro g2 cg w12 hown8 hgrow8 hat8 hlt8; have HR8 := Lib.hid (IR.snoc (ns := c) (k := m) (by rw [HLL.out]; exact hown8)); have HO8 := Lib.hid ((HO6.out.alloc (.cells #[iV m] 3)).trans (Only.grown (K := (B5 + 1 ≤ ·)) hgrow8 (fun g hg => (World.ownsRow.lt HI6.out g hg).1))); clear hown8 hgrow8 hat8 hlt8)
        go_roundw
        case rel => exact ⟨c ++ [m], f', HPC.out, HRL.out, by have h1 := HF.out; rw [List.length_append, List.length_singleton]; omega, HR8.out, HO8.out⟩
        case measure => have h1 := HSI.out; have h2 := HLL.out; simp [lenV]; omega
end Go.Proofs.YtigmdiagdlbdpaaGreat
