/-
  WALKS. The program's related, its good way; Needs, Users.
-/
import Derived.Test.YtigmdiagdlbdpaaGreatMhd
import Derived.Test.YtigmdiagdlbdpaaGreatMgv
import Derived.Deep.RegionHeld
namespace Go.Proofs.YtigmdiagdlbdpaaGreat
open Go.RowKit Go.Maps
/-- Which names are related. -/
def relN (E : List (List Nat)) (l : List Md) (nm : Nm) : List Nat := (reachL (intE E) (nodeP (nsP l) nm : Nat)).filter (fun x => x != nodeP (nsP l) nm)
def relM (E : List (List Nat)) (l : List Md) (nm : Nm) : List Nm := (relN E l nm).map (nAt (nsP l))
structure Kq (Z : World) (b0 b5 b6 : Nat) (v0 v1 : Value) (i : Nat) (x : World) : Prop where
  on : Only (Z.heap.size ≤ ·) Z x
  h0 : x.heap[b0]? = some (.cells (faV 0 []).cells 28 (0, 0))
  h5 : x.heap[b5]? = some (.cells #[v0, v1] 51 (0, 0))
  h6 : x.heap[b6]? = some (.cells #[iV i] 3 (0, 0))
  l0 : b0 < Z.heap.size
  l5 : b5 < Z.heap.size
  l6 : b6 < Z.heap.size
theorem Kq.next {Z x y : World} {b0 b5 b6 i : Nat} {v0 v1 : Value} {K : Nat → Prop} (h : Kq Z b0 b5 b6 v0 v1 i x) (ho : Only K x y) (hk : ∀ j, K j → Z.heap.size ≤ j) : Kq Z b0 b5 b6 v0 v1 i y := by
  have hs := h.on.size
  have key : ∀ b, b < Z.heap.size → y.heap[b]? = x.heap[b]? := fun b hb => ho.block b (by omega) (fun hc => by have := hk b hc; omega)
  exact ⟨h.on.trans (ho.wide hk), (key b0 h.l0).trans h.h0, (key b5 h.l5).trans h.h5, (key b6 h.l6).trans h.h6, h.l0, h.l5, h.l6⟩
theorem Kq.nextF {Z x y : World} {b0 b5 b6 i : Nat} {v0 v1 : Value} (h : Kq Z b0 b5 b6 v0 v1 i x) (ho : Only (fun _ => False) x y) : Kq Z b0 b5 b6 v0 v1 i y := h.next ho (fun _ hc => hc.elim)
theorem Kq.cells {Z x : World} {b0 b5 b6 i : Nat} {v0 v1 : Value} (h : Kq Z b0 b5 b6 v0 v1 i x) : x.cell? ⟨b5, 0, none⟩ = some v0 ∧ x.cell? ⟨b5, 1, none⟩ = some v1 ∧ x.cell? ⟨b6, 0, none⟩ = some (iV i) ∧ x.cell? ⟨b0, 0, none⟩ = some (.int .i64 0) ∧ x.frozen? ⟨b0, 0, none⟩ = false ∧ x.cell? ⟨b0, 1, none⟩ = some (.string ⟨#[]⟩) ∧ x.frozen? ⟨b0, 1, none⟩ = false ∧ x.cell? ⟨b0, 2, none⟩ = some (.int .i64 0) ∧ x.frozen? ⟨b0, 2, none⟩ = false ∧ x.cell? ⟨b0, 3, none⟩ = some (.int .i64 0) ∧ x.frozen? ⟨b0, 3, none⟩ = false := by
  obtain ⟨a1, a2⟩ := blk_c (k := 0) h.h0 rfl
  obtain ⟨b1, b2⟩ := blk_c (k := 1) h.h0 rfl
  obtain ⟨c1, c2⟩ := blk_c (k := 2) h.h0 rfl
  obtain ⟨d1, d2⟩ := blk_c (k := 3) h.h0 rfl
  exact ⟨(blk_c (k := 0) h.h5 rfl).1, (blk_c (k := 1) h.h5 rfl).1, (blk_c (k := 0) h.h6 rfl).1, a1, a2, b1, b2, c1, c2, d1, d2⟩
theorem reach_some {w : World} {B : Nat} {v : Value} {L : List Nat} (h : IR w B v L) (hne : L ≠ []) : ∃ g ca, v = .slice (some ⟨g, 0, none⟩) L.length ca ∧ B ≤ g ∧ g < w.heap.size := by
  obtain ⟨oa, ca, hv⟩ := rowForm h
  rcases h.2 with ⟨hv2, hn⟩ | ⟨g, cap, cur, hv2, hb, hg, hle, hr⟩
  · exact absurd (List.eq_nil_of_length_eq_zero hn) hne
  · exact ⟨g, cap, hv2, hb, lt_of_block hg⟩
theorem rows_any {E : List (List Nat)} {m : Nat} (h : ∀ k, (lAt E k).length ≤ m) : ∀ l ∈ intE E, l.length ≤ m := fun l hl => by
  obtain ⟨r, hr', rfl⟩ := List.mem_map.1 hl
  rw [List.length_map]
  obtain ⟨i, hi, e⟩ := List.getElem_of_mem hr'
  have := h i
  rw [show lAt E i = E.getD i [] from rfl, List.getD_eq_getElem?_getD, List.getElem?_eq_getElem hi] at this
  change E[i].length ≤ _ at this
  rwa [e] at this
theorem nodup_nm {l : List Md} (h : Good l) : (nsP l).Nodup := nsP_nodup h.nd
theorem grP_deg2 (l : List Md) (h : l.length ≤ 32) : ∀ k, (lAt (grP l) k).length ≤ 1000 := by
  have key : ∀ k i, (lAt (edP (nsP l) l k) i).length ≤ (nsP l).length := by
    intro k
    induction k with
    | zero =>
      intro i
      have : lAt (edP (nsP l) l 0) i = [] := by
        show (List.replicate _ []).getD i [] = _
        rw [List.getD_eq_getElem?_getD, List.getElem?_replicate]
        split <;> rfl
      rw [this]
      exact Nat.zero_le _
    | succ k ih =>
      intro i
      unfold edP
      by_cases hlt : nodeP (nsP l) (mdAt l k).nm < (edP (nsP l) l k).length
      · rw [lAt_set hlt]
        split
        · exact rowP_len _ _
        · exact ih i
      · rw [List.set_eq_of_length_le (by omega)]
        exact ih i
  intro k
  have := key l.length k
  rw [nsP_len] at this
  show (lAt (edP _ _ _) k).length ≤ _
  omega
set_option maxRecDepth 100000 in
set_option maxHeartbeats 8000000 in
theorem related_needs (w : World) (oa : Option Addr) (n ca : Nat) (l : List Md) (nm : Nm) (h : Mdz w oa n l) (hok : n ≤ 32 → OkL l) (hF : accF l = none) (hnm : nm ∈ nsP l) : Calls Tryz.prog 32 #[.slice oa n ca, encStr nm, .func (.func 33) #[] #[]] w fun e w' => ∃ ol cl, e = .returned (.tuple #[.slice ol (relM (grP l) l nm).length cl, faV 0 []]) ∧ SR w' w.heap.size (.slice ol (relM (grP l) l nm).length cl) (relM (grP l) l nm) ∧ Only (fun _ => False) w w' := by
  obtain ⟨hl32, hgood⟩ := accF_none hF
  have hln := h.len
  have hGV := grP_valid l
  have hGD := grP_deg2 l hl32
  have hGL := grP_len l
  have hnl := nsP_len l
  obtain ⟨i, hi⟩ : ∃ i, nodeP (nsP l) nm = i := ⟨_, rfl⟩
  have hil : i < n := by rw [← hi, ← hln, ← hnl]; exact nodeP_lt hnm
  have hEV : ValidG (grP l) := hGV
  have hEL : (grP l).length = n := by rw [hGL, hln]
  have hED : ∀ l' ∈ intE (grP l), l'.length ≤ 100000000 := fun l' hl' => Nat.le_trans (rows_any (m := 1000000) (fun k => Nat.le_trans (hGD k) (by decide)) l' hl') (by decide)
  have hFN : relN (grP l) l nm = (reachL (intE (grP l)) (i : Nat)).filter (fun x => x != i) := by unfold relN; rw [hi]
  have hFM : relM (grP l) l nm = (relN (grP l) l nm).map (nAt (nsP l)) := rfl
  obtain ⟨E, hE⟩ : ∃ E, grP l = E := ⟨_, rfl⟩
  rw [hE] at hEV hEL hED hFN hFM ⊢
  obtain ⟨M, hM⟩ : ∃ M, relM E l nm = M := ⟨_, rfl⟩
  rw [hM] at hFM ⊢
  rw [hFN] at hFM
  obtain ⟨L, hL⟩ : ∃ L, reachL (intE E) (i : Nat) = L := ⟨_, rfl⟩
  rw [hL] at hFN hFM
  obtain ⟨F, hFe⟩ : ∃ F, L.filter (fun x => x != i) = F := ⟨_, rfl⟩
  rw [hFe] at hFM
  have hLi : ∀ x ∈ L, x < n := fun x hx => by rw [← hL] at hx; have := ((mem_reachL hEV (by rw [hEL]; exact hil)).1 hx).1; omega
  have hLne : L ≠ [] := fun e => by
    have h3 : i ∈ reachL (intE E) (i : Nat) := (mem_reachL hEV (by rw [hEL]; exact hil)).2 ⟨by rw [hEL]; exact hil, Re.refl _⟩
    rw [hL, e] at h3
    cases h3
  have hLl : L.length ≤ 1000000 := by
    rw [← hL]
    unfold reachL
    split
    · refine Nat.le_trans (reachTo_len _ _) ?_
      rw [intE_len, hEL]
      omega
    · exact Nat.zero_le _
  have hFl : F.length ≤ L.length := by rw [← hFe]; exact List.length_filter_le _ _
  have hFi : ∀ x ∈ F, x < n := fun x hx => by rw [← hFe] at hx; exact hLi x (List.mem_filter.1 hx).1
  have hML : M.length = F.length := by rw [hFM, List.length_map]
  have hA : Only (fun _ => False) w (w.alloc (.cells (faV 0 []).cells 28)) := (Only.refl _ _).alloc _
  have s1 : (w.alloc (.cells (faV 0 []).cells 28)).heap.size = w.heap.size + 1 := by show (Array.push _ _).size = _; rw [Array.size_push]
  have hk := new_block w (.cells (faV 0 []).cells 28)
  have HC : Hid (Calls Tryz.prog 24 #[.slice oa n ca] (w.alloc (.cells (faV 0 []).cells 28)) fun e w' => ∃ oN cN oE cE, (e = .returned (.tuple #[prV oN n cN oE n cE, faV 0 []]) ∧ SR w' (w.heap.size + 1) (.slice oN n cN) (nsP l) ∧ EdgB w' (w.heap.size + 1) oE n (grP l)) ∧ Only (fun _ => False) (w.alloc (.cells (faV 0 []).cells 28)) w') := Lib.hid ((acyclic_p _ oa n ca l (h.old hA (fun _ _ hc => hc)) hok).mono (by
    intro e w' hq
    unfold prQ at hq
    rw [hF] at hq
    obtain ⟨⟨oN, cN, oE, cE, h1, h2, h3⟩, h4⟩ := hq
    rw [s1] at h2 h3
    exact ⟨oN, cN, oE, cE, ⟨h1, h2, h3⟩, h4⟩))
  have HND : Hid (∀ wx oN cN oE cE, Strz wx oN n (nsP l) → Calls Tryz.prog 49 #[prV oN n cN oE n cE, encStr nm] wx fun e w' => e = .returned (.tuple #[.int .i64 (i : Nat), .bool true]) ∧ Only (fun _ => False) wx w') := Lib.hid (fun wx oN cN oE cE hs => (node_p wx oN n cN oE n cE (nsP l) hs (nsP_sorted hgood.nd) (by omega) nm).mono (by
    rintro e w' ⟨j, h1, h3, h2⟩
    rw [show decide (nm ∈ nsP l) = true from decide_eq_true hnm] at h1
    rw [h3 hnm, hi] at h1
    exact ⟨h1, h2⟩))
  have HEF : Hid (∀ wx oN cN oE cE, Edg wx oE n (grP l) → Calls Tryz.prog 33 #[prV oN n cN oE n cE] wx fun e w' => ∃ oX cX, e = .returned (.agg #[.slice oX n cX]) ∧ Edg w' oX n E ∧ Only (fun _ => False) wx w') := Lib.hid (fun wx oN cN oE cE hg => by
    rw [← hE]
    exact (needsEdges_p wx oN oE n cN cE).mono (by rintro e w' ⟨rfl, ho⟩; exact ⟨oE, cE, rfl, hg.old ho (fun _ _ hc => hc), ho⟩))
  have HRE : Hid (∀ wx oX cX, Edg wx oX n E → Calls Tryz.prog 50 #[.agg #[.slice oX n cX], iV i] wx fun e w' => ∃ g cg, e = .returned (.slice (some ⟨g, 0, none⟩) L.length cg) ∧ (IR w' wx.heap.size (.slice (some ⟨g, 0, none⟩) L.length cg) L ∧ wx.heap.size ≤ g) ∧ Only (fun _ => False) wx w') := Lib.hid (fun wx oX cX he => (Reach_p wx oX n cX (intE E) (i : Nat) he.edz (by omega) hED).mono (by
    rintro e w' ⟨v, h1, h2, h3⟩
    rw [hL] at h2
    obtain ⟨g, cg, hv, hb, -⟩ := reach_some h2 hLne
    subst hv
    exact ⟨g, cg, h1, ⟨h2, hb⟩, h3⟩))
  have HDE : Hid (∀ wx B g cg b, IR wx B (.slice (some ⟨g, 0, none⟩) L.length cg) L → wx.cell? ⟨b, 0, none⟩ = some (iV i) → b ≠ g → Calls Tryz.prog 51 #[.slice (some ⟨g, 0, none⟩) L.length cg, .func (.func 52) #[] #[.pointer (some ⟨b, 0, none⟩)]] wx fun e w' => e = .returned (.slice (some ⟨g, 0, none⟩) F.length cg) ∧ Ints w' (some ⟨g, 0, none⟩) F.length F ∧ Only (· = g) wx w') := Lib.hid (fun wx B g cg b hr hc hne => by
    rw [← hFe]
    exact strikes_p wx B g L.length cg b L i hr (cell_lt hc) hne hc hLl)
  have HLI : Hid (∀ wx oN cN oE cE on ck, Strz wx oN n (nsP l) → Ints wx on F.length F → Calls Tryz.prog 25 #[prV oN n cN oE n cE, .slice on F.length ck] wx fun e w' => ∃ oa ca, e = .returned (.slice oa F.length ca) ∧ SR w' wx.heap.size (.slice oa F.length ca) M ∧ Only (fun _ => False) wx w') := Lib.hid (fun wx oN cN oE cE on ck hs hq => by
    rw [hFM]
    exact list_p wx oN n cN oE n cE (nsP l) hs on F.length ck F hq hFi (by omega) (by omega))
  have HK := Lib.hid hk
  have HA := Lib.hid hA
  have HS := Lib.hid s1
  have HML := Lib.hid hML
  clear h hok hk hA s1 hF hgood hnm hGV hGD hGL hnl hEV hEL hED hFN hFM hE hM hL hFe hLi hLne hLl hFl hFi hML
  go_enter Tryz.func32, Tryz.ntmps32
  go_wp2_with (first | (go_at_call 24; (refine HC.out.mono ?_); rintro e w5 ⟨oN, cN, oE, cE, ⟨rfl, hS5, hE5⟩, hO5⟩; have HO5 := Lib.hid hO5; have HS5 := Lib.hid hS5; have HE5 := Lib.hid hE5; clear hO5 hS5 hE5) | (go_at_call 49; (refine (HND.out _ oN cN oE cE (HS5.out.strz.old (((Only.refl (fun _ => False) w5).alloc _).alloc _) (fun _ _ hc => hc))).mono ?_); rintro e w6 ⟨rfl, hO6⟩; have HO6 := Lib.hid hO6; clear hO6))
  have hb := boxes (w5 := w5) (v0 := .slice oN n cN) (v1 := .slice oE n cE) (f0 := .int .i64 0) (f1 := .string ⟨#[]⟩) (f2 := .int .i64 0) (f3 := .int .i64 0) HO6.out
  have hO56 : Only (fun _ => False) w5 w6 := (((Only.refl _ _).alloc _).alloc _).trans HO6.out
  obtain ⟨B5, hB5⟩ : ∃ B, w5.heap.size = B := ⟨_, rfl⟩
  obtain ⟨B6, hB6⟩ : ∃ B, w6.heap.size = B := ⟨_, rfl⟩
  obtain ⟨Z, hZ⟩ : ∃ Z, w6.alloc (.cells #[iV i] 3) = Z := ⟨_, rfl⟩
  have hOZ : Only (fun _ => False) w5 Z := by rw [← hZ]; exact hO56.alloc _
  have hZs : Z.heap.size = B6 + 1 := by rw [← hZ, ← hB6]; show (Array.push _ _).size = _; rw [Array.size_push]
  have hB56 : B5 + 2 ≤ B6 := by
    rw [← hB5, ← hB6]
    have h3 := HO6.out.size
    have h4 : ((w5.alloc (.cells #[.slice oN n cN, .slice oE n cE] 51)).alloc (.cells #[.int .i64 0, .string ⟨#[]⟩, .int .i64 0, .int .i64 0] 28)).heap.size = w5.heap.size + 1 + 1 := by show (Array.push (Array.push _ _) _).size = _; rw [Array.size_push, Array.size_push]
    omega
  have h05 : w.heap.size + 1 ≤ B5 := by rw [← hB5]; have h3 := HO5.out.size; have h4 := HS.out; omega
  have hkq : Kq Z w.heap.size B5 B6 (.slice oN n cN) (.slice oE n cE) i Z := by
    refine ⟨Only.refl _ _, ?_, ?_, ?_, by omega, by omega, by omega⟩
    · exact ((HO5.out.trans hOZ).block w.heap.size (by rw [HS.out]; omega) (fun hc => hc)).trans HK.out
    · rw [← hZ, ← hB5]
      exact (((Only.refl (fun _ => False) w6).alloc _).block w5.heap.size (lt_of_block hb.1) (fun hc => hc)).trans hb.1
    · rw [← hZ, ← hB6]
      exact new_block _ _
  have hkd : Kq Z w.heap.size B5 B6 (.slice oN n cN) (.slice oE n cE) i Z.drew := hkq.nextF (Only.refl _ _).drew
  obtain ⟨m0, m1, m2, -⟩ := hkq.cells
  have HKD := Lib.hid hkd
  have HWZ : Hid (Only (w.heap.size ≤ ·) w Z) := Lib.hid ((HA.out.trans (HO5.out.trans hOZ)).lift)
  have HEZ : Hid (∀ x, Kq Z w.heap.size B5 B6 (.slice oN n cN) (.slice oE n cE) i x → Edg x oE n (grP l)) := Lib.hid (fun x hx => HE5.out.edg.old (hOZ.lift.trans hx.on) (fun j hj hc => by have hc' : Z.heap.size ≤ j := hc; omega))
  have HSZ : Hid (∀ x, Kq Z w.heap.size B5 B6 (.slice oN n cN) (.slice oE n cE) i x → Strz x oN n (nsP l)) := Lib.hid (fun x hx => HS5.out.strz.old (hOZ.lift.trans hx.on) (fun j hj hc => by have hc' : Z.heap.size ≤ j := hc; omega))
  have HWS : Hid (w.heap.size + 1 ≤ Z.heap.size ∧ B6 < Z.heap.size) := Lib.hid ⟨by omega, by omega⟩
  rw [hB5, hB6, hZ]
  clear hb hO56 hB5 hB6 hZ hOZ hZs hB56 h05 hkq hkd
  go_wp2
  go_region_with
    (first | (go_at_call 33; (refine (HEF.out _ oN cN oE cE (HEZ.out _ HKD.out)).mono ?_); rintro e w7 ⟨oX, cX, rfl, hE7, hO7⟩; have hk7 := HKD.out.nextF hO7; obtain ⟨m70, m71, m72, -⟩ := hk7.cells) | (go_at_call 50; (refine (HRE.out w7 oX cX hE7).mono ?_); rintro e w8 ⟨g, cg, rfl, ⟨hR8, hg8⟩, hO8⟩; have hk8 := hk7.nextF hO8; obtain ⟨m80, m81, m82, -⟩ := hk8.cells))
  all_goals
    have hkd8 := hk8.nextF (Only.refl _ _).drew
    have HKD8 := Lib.hid hkd8
    have HK8 := Lib.hid hk8
    obtain ⟨n0, n1, n2, -⟩ := hkd8.cells
    have HR8 : Hid (IR w8.drew w7.heap.size (.slice (some ⟨g, 0, none⟩) L.length cg) L) := Lib.hid (hR8.only (K := fun _ => False) ((Only.refl _ _).drew) (fun _ _ hc => hc))
    have HG8 : Hid (Z.heap.size ≤ g ∧ B6 ≠ g) := Lib.hid (by have h3 := hk7.on.size; have h4 := HWS.out.2; omega)
    clear hk8 hkd8 hR8 hg8 hO8 hE7 hk7 hO7 m0 m1 m2 m70 m71 m72
    go_wp2
    go_region_with
      (first | (go_at_call 51; (refine (HDE.out _ _ g cg B6 HR8.out n2 HG8.out.2).mono ?_); rintro e w9 ⟨rfl, hI9, hO9⟩; have hk9 := HKD8.out.next hO9 (fun j hj => by have hj' : j = g := hj; have h3 := HG8.out.1; omega); obtain ⟨m90, m91, m92, -⟩ := hk9.cells) | (go_at_call 25; (refine (HLI.out w9 oN cN oE cE _ cg (HSZ.out _ hk9) hI9).mono ?_); rintro e w10 ⟨oL, cL, rfl, hL10, hO10⟩; have hk10 := hk9.nextF hO10; obtain ⟨m100, m101, m102, q0, z0, q1, z1, q2, z2, q3, z3⟩ := hk10.cells))
    all_goals
      have HL10 := Lib.hid hL10
      have HK10 := Lib.hid hk10
      have HS9 : Hid (Z.heap.size ≤ w9.heap.size) := Lib.hid hk9.on.size
      clear hL10 hk10 hk9 hO10 hO9 hI9 m90 m91 m92 m100 m101 m102 q0 z0 q1 z1 q2 z2 q3 z3 n0 n1 n2 m80 m81 m82
      go_wp2
      refine bodyPost_ret (v := .tuple #[.slice oL F.length cL, faV 0 []]) (relRes _ _ w.heap.size _ _ _ _ _ rfl rfl ?_) rfl ?_
      · have h1 := HK10.out.h0
        simp [World.setCell, Array.getElem?_modify, h1]
        rfl
      · have h0 := HWZ.out.trans (HK10.out.on.wide (K' := (w.heap.size ≤ ·)) (fun j hj => by have hj' : Z.heap.size ≤ j := hj; have h3 := HWS.out.1; show w.heap.size ≤ j; omega))
        have h1 := only4 (f0 := .int .i64 0) (f1 := .string ⟨#[]⟩) (f2 := .int .i64 0) (f3 := .int .i64 0) h0 (c := w.heap.size) (Nat.le_refl _)
        have h2 := only4 (K := fun j => j = w.heap.size) (f0 := .int .i64 0) (f1 := .string ⟨#[]⟩) (f2 := .int .i64 0) (f3 := .int .i64 0) (Only.refl _ w10) (c := w.heap.size) rfl
        have h3 := HL10.out.only h2 (fun g' hg' hc => by
          have h4 := (World.ownsRow.lt HL10.out g' hg').1
          have h5 := HS9.out
          have h6 := HWS.out.1
          omega)
        have h7 := HML.out
        rw [h7]
        exact ⟨oL, cL, rfl, rowMono h3 (by have h5 := HS9.out; have h6 := HWS.out.1; omega), h1.os, h1.tape, h1.output, h1.size, fun j hj _ => h1.block j hj (fun hc => by have hc' : w.heap.size ≤ j := hc; omega)⟩
set_option maxRecDepth 100000 in
set_option maxHeartbeats 8000000 in
theorem related_users (w : World) (oa : Option Addr) (n ca : Nat) (l : List Md) (nm : Nm) (h : Mdz w oa n l) (hok : n ≤ 32 → OkL l) (hF : accF l = none) (hnm : nm ∈ nsP l) : Calls Tryz.prog 32 #[.slice oa n ca, encStr nm, .func (.func 36) #[] #[]] w fun e w' => ∃ ol cl, e = .returned (.tuple #[.slice ol (relM (rvG (grP l)) l nm).length cl, faV 0 []]) ∧ SR w' w.heap.size (.slice ol (relM (rvG (grP l)) l nm).length cl) (relM (rvG (grP l)) l nm) ∧ Only (fun _ => False) w w' := by
  obtain ⟨hl32, hgood⟩ := accF_none hF
  have hln := h.len
  have hGV := grP_valid l
  have hGD := grP_deg2 l hl32
  have hGL := grP_len l
  have hnl := nsP_len l
  obtain ⟨i, hi⟩ : ∃ i, nodeP (nsP l) nm = i := ⟨_, rfl⟩
  have hil : i < n := by rw [← hi, ← hln, ← hnl]; exact nodeP_lt hnm
  have hEV : ValidG (rvG (grP l)) := rvG_valid hGV
  have hEL : (rvG (grP l)).length = n := by rw [rvG_len, hGL, hln]
  have hED : ∀ l' ∈ intE (rvG (grP l)), l'.length ≤ 100000000 := fun l' hl' => Nat.le_trans (rows_any (m := 1000000) (fun k => Nat.le_trans (rvK_deg (b := 1000) hGD k (grP l).length) (by rw [hGL]; omega)) l' hl') (by decide)
  have hFN : relN (rvG (grP l)) l nm = (reachL (intE (rvG (grP l))) (i : Nat)).filter (fun x => x != i) := by unfold relN; rw [hi]
  have hFM : relM (rvG (grP l)) l nm = (relN (rvG (grP l)) l nm).map (nAt (nsP l)) := rfl
  obtain ⟨E, hE⟩ : ∃ E, rvG (grP l) = E := ⟨_, rfl⟩
  rw [hE] at hEV hEL hED hFN hFM ⊢
  obtain ⟨M, hM⟩ : ∃ M, relM E l nm = M := ⟨_, rfl⟩
  rw [hM] at hFM ⊢
  rw [hFN] at hFM
  obtain ⟨L, hL⟩ : ∃ L, reachL (intE E) (i : Nat) = L := ⟨_, rfl⟩
  rw [hL] at hFN hFM
  obtain ⟨F, hFe⟩ : ∃ F, L.filter (fun x => x != i) = F := ⟨_, rfl⟩
  rw [hFe] at hFM
  have hLi : ∀ x ∈ L, x < n := fun x hx => by rw [← hL] at hx; have := ((mem_reachL hEV (by rw [hEL]; exact hil)).1 hx).1; omega
  have hLne : L ≠ [] := fun e => by
    have h3 : i ∈ reachL (intE E) (i : Nat) := (mem_reachL hEV (by rw [hEL]; exact hil)).2 ⟨by rw [hEL]; exact hil, Re.refl _⟩
    rw [hL, e] at h3
    cases h3
  have hLl : L.length ≤ 1000000 := by
    rw [← hL]
    unfold reachL
    split
    · refine Nat.le_trans (reachTo_len _ _) ?_
      rw [intE_len, hEL]
      omega
    · exact Nat.zero_le _
  have hFl : F.length ≤ L.length := by rw [← hFe]; exact List.length_filter_le _ _
  have hFi : ∀ x ∈ F, x < n := fun x hx => by rw [← hFe] at hx; exact hLi x (List.mem_filter.1 hx).1
  have hML : M.length = F.length := by rw [hFM, List.length_map]
  have hA : Only (fun _ => False) w (w.alloc (.cells (faV 0 []).cells 28)) := (Only.refl _ _).alloc _
  have s1 : (w.alloc (.cells (faV 0 []).cells 28)).heap.size = w.heap.size + 1 := by show (Array.push _ _).size = _; rw [Array.size_push]
  have hk := new_block w (.cells (faV 0 []).cells 28)
  have HC : Hid (Calls Tryz.prog 24 #[.slice oa n ca] (w.alloc (.cells (faV 0 []).cells 28)) fun e w' => ∃ oN cN oE cE, (e = .returned (.tuple #[prV oN n cN oE n cE, faV 0 []]) ∧ SR w' (w.heap.size + 1) (.slice oN n cN) (nsP l) ∧ EdgB w' (w.heap.size + 1) oE n (grP l)) ∧ Only (fun _ => False) (w.alloc (.cells (faV 0 []).cells 28)) w') := Lib.hid ((acyclic_p _ oa n ca l (h.old hA (fun _ _ hc => hc)) hok).mono (by
    intro e w' hq
    unfold prQ at hq
    rw [hF] at hq
    obtain ⟨⟨oN, cN, oE, cE, h1, h2, h3⟩, h4⟩ := hq
    rw [s1] at h2 h3
    exact ⟨oN, cN, oE, cE, ⟨h1, h2, h3⟩, h4⟩))
  have HND : Hid (∀ wx oN cN oE cE, Strz wx oN n (nsP l) → Calls Tryz.prog 49 #[prV oN n cN oE n cE, encStr nm] wx fun e w' => e = .returned (.tuple #[.int .i64 (i : Nat), .bool true]) ∧ Only (fun _ => False) wx w') := Lib.hid (fun wx oN cN oE cE hs => (node_p wx oN n cN oE n cE (nsP l) hs (nsP_sorted hgood.nd) (by omega) nm).mono (by
    rintro e w' ⟨j, h1, h3, h2⟩
    rw [show decide (nm ∈ nsP l) = true from decide_eq_true hnm] at h1
    rw [h3 hnm, hi] at h1
    exact ⟨h1, h2⟩))
  have HEF : Hid (∀ wx oN cN oE cE, Edg wx oE n (grP l) → Calls Tryz.prog 36 #[prV oN n cN oE n cE] wx fun e w' => ∃ oX cX, e = .returned (.agg #[.slice oX n cX]) ∧ Edg w' oX n E ∧ Only (fun _ => False) wx w') := Lib.hid (fun wx oN cN oE cE hg => by
    rw [← hE]
    exact usersEdges_p wx oN cN oE n cE (grP l) hg hGV (by omega) hGD)
  have HRE : Hid (∀ wx oX cX, Edg wx oX n E → Calls Tryz.prog 50 #[.agg #[.slice oX n cX], iV i] wx fun e w' => ∃ g cg, e = .returned (.slice (some ⟨g, 0, none⟩) L.length cg) ∧ (IR w' wx.heap.size (.slice (some ⟨g, 0, none⟩) L.length cg) L ∧ wx.heap.size ≤ g) ∧ Only (fun _ => False) wx w') := Lib.hid (fun wx oX cX he => (Reach_p wx oX n cX (intE E) (i : Nat) he.edz (by omega) hED).mono (by
    rintro e w' ⟨v, h1, h2, h3⟩
    rw [hL] at h2
    obtain ⟨g, cg, hv, hb, -⟩ := reach_some h2 hLne
    subst hv
    exact ⟨g, cg, h1, ⟨h2, hb⟩, h3⟩))
  have HDE : Hid (∀ wx B g cg b, IR wx B (.slice (some ⟨g, 0, none⟩) L.length cg) L → wx.cell? ⟨b, 0, none⟩ = some (iV i) → b ≠ g → Calls Tryz.prog 51 #[.slice (some ⟨g, 0, none⟩) L.length cg, .func (.func 52) #[] #[.pointer (some ⟨b, 0, none⟩)]] wx fun e w' => e = .returned (.slice (some ⟨g, 0, none⟩) F.length cg) ∧ Ints w' (some ⟨g, 0, none⟩) F.length F ∧ Only (· = g) wx w') := Lib.hid (fun wx B g cg b hr hc hne => by
    rw [← hFe]
    exact strikes_p wx B g L.length cg b L i hr (cell_lt hc) hne hc hLl)
  have HLI : Hid (∀ wx oN cN oE cE on ck, Strz wx oN n (nsP l) → Ints wx on F.length F → Calls Tryz.prog 25 #[prV oN n cN oE n cE, .slice on F.length ck] wx fun e w' => ∃ oa ca, e = .returned (.slice oa F.length ca) ∧ SR w' wx.heap.size (.slice oa F.length ca) M ∧ Only (fun _ => False) wx w') := Lib.hid (fun wx oN cN oE cE on ck hs hq => by
    rw [hFM]
    exact list_p wx oN n cN oE n cE (nsP l) hs on F.length ck F hq hFi (by omega) (by omega))
  have HK := Lib.hid hk
  have HA := Lib.hid hA
  have HS := Lib.hid s1
  have HML := Lib.hid hML
  clear h hok hk hA s1 hF hgood hnm hGV hGD hGL hnl hEV hEL hED hFN hFM hE hM hL hFe hLi hLne hLl hFl hFi hML
  go_enter Tryz.func32, Tryz.ntmps32
  go_wp2_with (first | (go_at_call 24; (refine HC.out.mono ?_); rintro e w5 ⟨oN, cN, oE, cE, ⟨rfl, hS5, hE5⟩, hO5⟩; have HO5 := Lib.hid hO5; have HS5 := Lib.hid hS5; have HE5 := Lib.hid hE5; clear hO5 hS5 hE5) | (go_at_call 49; (refine (HND.out _ oN cN oE cE (HS5.out.strz.old (((Only.refl (fun _ => False) w5).alloc _).alloc _) (fun _ _ hc => hc))).mono ?_); rintro e w6 ⟨rfl, hO6⟩; have HO6 := Lib.hid hO6; clear hO6))
  have hb := boxes (w5 := w5) (v0 := .slice oN n cN) (v1 := .slice oE n cE) (f0 := .int .i64 0) (f1 := .string ⟨#[]⟩) (f2 := .int .i64 0) (f3 := .int .i64 0) HO6.out
  have hO56 : Only (fun _ => False) w5 w6 := (((Only.refl _ _).alloc _).alloc _).trans HO6.out
  obtain ⟨B5, hB5⟩ : ∃ B, w5.heap.size = B := ⟨_, rfl⟩
  obtain ⟨B6, hB6⟩ : ∃ B, w6.heap.size = B := ⟨_, rfl⟩
  obtain ⟨Z, hZ⟩ : ∃ Z, w6.alloc (.cells #[iV i] 3) = Z := ⟨_, rfl⟩
  have hOZ : Only (fun _ => False) w5 Z := by rw [← hZ]; exact hO56.alloc _
  have hZs : Z.heap.size = B6 + 1 := by rw [← hZ, ← hB6]; show (Array.push _ _).size = _; rw [Array.size_push]
  have hB56 : B5 + 2 ≤ B6 := by
    rw [← hB5, ← hB6]
    have h3 := HO6.out.size
    have h4 : ((w5.alloc (.cells #[.slice oN n cN, .slice oE n cE] 51)).alloc (.cells #[.int .i64 0, .string ⟨#[]⟩, .int .i64 0, .int .i64 0] 28)).heap.size = w5.heap.size + 1 + 1 := by show (Array.push (Array.push _ _) _).size = _; rw [Array.size_push, Array.size_push]
    omega
  have h05 : w.heap.size + 1 ≤ B5 := by rw [← hB5]; have h3 := HO5.out.size; have h4 := HS.out; omega
  have hkq : Kq Z w.heap.size B5 B6 (.slice oN n cN) (.slice oE n cE) i Z := by
    refine ⟨Only.refl _ _, ?_, ?_, ?_, by omega, by omega, by omega⟩
    · exact ((HO5.out.trans hOZ).block w.heap.size (by rw [HS.out]; omega) (fun hc => hc)).trans HK.out
    · rw [← hZ, ← hB5]
      exact (((Only.refl (fun _ => False) w6).alloc _).block w5.heap.size (lt_of_block hb.1) (fun hc => hc)).trans hb.1
    · rw [← hZ, ← hB6]
      exact new_block _ _
  have hkd : Kq Z w.heap.size B5 B6 (.slice oN n cN) (.slice oE n cE) i Z.drew := hkq.nextF (Only.refl _ _).drew
  obtain ⟨m0, m1, m2, -⟩ := hkq.cells
  have HKD := Lib.hid hkd
  have HWZ : Hid (Only (w.heap.size ≤ ·) w Z) := Lib.hid ((HA.out.trans (HO5.out.trans hOZ)).lift)
  have HEZ : Hid (∀ x, Kq Z w.heap.size B5 B6 (.slice oN n cN) (.slice oE n cE) i x → Edg x oE n (grP l)) := Lib.hid (fun x hx => HE5.out.edg.old (hOZ.lift.trans hx.on) (fun j hj hc => by have hc' : Z.heap.size ≤ j := hc; omega))
  have HSZ : Hid (∀ x, Kq Z w.heap.size B5 B6 (.slice oN n cN) (.slice oE n cE) i x → Strz x oN n (nsP l)) := Lib.hid (fun x hx => HS5.out.strz.old (hOZ.lift.trans hx.on) (fun j hj hc => by have hc' : Z.heap.size ≤ j := hc; omega))
  have HWS : Hid (w.heap.size + 1 ≤ Z.heap.size ∧ B6 < Z.heap.size) := Lib.hid ⟨by omega, by omega⟩
  rw [hB5, hB6, hZ]
  clear hb hO56 hB5 hB6 hZ hOZ hZs hB56 h05 hkq hkd
  go_wp2
  go_region_with
    (first | (go_at_call 36; (refine (HEF.out _ oN cN oE cE (HEZ.out _ HKD.out)).mono ?_); rintro e w7 ⟨oX, cX, rfl, hE7, hO7⟩; have hk7 := HKD.out.nextF hO7; obtain ⟨m70, m71, m72, -⟩ := hk7.cells) | (go_at_call 50; (refine (HRE.out w7 oX cX hE7).mono ?_); rintro e w8 ⟨g, cg, rfl, ⟨hR8, hg8⟩, hO8⟩; have hk8 := hk7.nextF hO8; obtain ⟨m80, m81, m82, -⟩ := hk8.cells))
  all_goals
    have hkd8 := hk8.nextF (Only.refl _ _).drew
    have HKD8 := Lib.hid hkd8
    have HK8 := Lib.hid hk8
    obtain ⟨n0, n1, n2, -⟩ := hkd8.cells
    have HR8 : Hid (IR w8.drew w7.heap.size (.slice (some ⟨g, 0, none⟩) L.length cg) L) := Lib.hid (hR8.only (K := fun _ => False) ((Only.refl _ _).drew) (fun _ _ hc => hc))
    have HG8 : Hid (Z.heap.size ≤ g ∧ B6 ≠ g) := Lib.hid (by have h3 := hk7.on.size; have h4 := HWS.out.2; omega)
    clear hk8 hkd8 hR8 hg8 hO8 hE7 hk7 hO7 m0 m1 m2 m70 m71 m72
    go_wp2
    go_region_with
      (first | (go_at_call 51; (refine (HDE.out _ _ g cg B6 HR8.out n2 HG8.out.2).mono ?_); rintro e w9 ⟨rfl, hI9, hO9⟩; have hk9 := HKD8.out.next hO9 (fun j hj => by have hj' : j = g := hj; have h3 := HG8.out.1; omega); obtain ⟨m90, m91, m92, -⟩ := hk9.cells) | (go_at_call 25; (refine (HLI.out w9 oN cN oE cE _ cg (HSZ.out _ hk9) hI9).mono ?_); rintro e w10 ⟨oL, cL, rfl, hL10, hO10⟩; have hk10 := hk9.nextF hO10; obtain ⟨m100, m101, m102, q0, z0, q1, z1, q2, z2, q3, z3⟩ := hk10.cells))
    all_goals
      have HL10 := Lib.hid hL10
      have HK10 := Lib.hid hk10
      have HS9 : Hid (Z.heap.size ≤ w9.heap.size) := Lib.hid hk9.on.size
      clear hL10 hk10 hk9 hO10 hO9 hI9 m90 m91 m92 m100 m101 m102 q0 z0 q1 z1 q2 z2 q3 z3 n0 n1 n2 m80 m81 m82
      go_wp2
      refine bodyPost_ret (v := .tuple #[.slice oL F.length cL, faV 0 []]) (relRes _ _ w.heap.size _ _ _ _ _ rfl rfl ?_) rfl ?_
      · have h1 := HK10.out.h0
        simp [World.setCell, Array.getElem?_modify, h1]
        rfl
      · have h0 := HWZ.out.trans (HK10.out.on.wide (K' := (w.heap.size ≤ ·)) (fun j hj => by have hj' : Z.heap.size ≤ j := hj; have h3 := HWS.out.1; show w.heap.size ≤ j; omega))
        have h1 := only4 (f0 := .int .i64 0) (f1 := .string ⟨#[]⟩) (f2 := .int .i64 0) (f3 := .int .i64 0) h0 (c := w.heap.size) (Nat.le_refl _)
        have h2 := only4 (K := fun j => j = w.heap.size) (f0 := .int .i64 0) (f1 := .string ⟨#[]⟩) (f2 := .int .i64 0) (f3 := .int .i64 0) (Only.refl _ w10) (c := w.heap.size) rfl
        have h3 := HL10.out.only h2 (fun g' hg' hc => by
          have h4 := (World.ownsRow.lt HL10.out g' hg').1
          have h5 := HS9.out
          have h6 := HWS.out.1
          omega)
        have h7 := HML.out
        rw [h7]
        exact ⟨oL, cL, rfl, rowMono h3 (by have h5 := HS9.out; have h6 := HWS.out.1; omega), h1.os, h1.tape, h1.output, h1.size, fun j hj _ => h1.block j hj (fun hc => by have hc' : w.heap.size ≤ j := hc; omega)⟩

end Go.Proofs.YtigmdiagdlbdpaaGreat
