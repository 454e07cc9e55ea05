/-
  WALKS. The program's Levels.
-/
import Derived.Test.YtigmdiagdlbdpaaGreatMgs
namespace Go.Proofs.YtigmdiagdlbdpaaGreat
open Go.RowKit Go.Maps
def levM (l : List Md) : List (List Nm) := (levelsG (grP l) (compsG (grP l)) l.length).1.map (fun r => r.map (nAt (nsP l)))
/-- Lists of names, or a fault. -/
def lvQ (F : Option (Nat × Nm)) (L : List (List Nm)) (w : World) (e : Ending) (w' : World) : Prop := (match F with
    | some (c, s) => e = .returned (.tuple #[.slice none 0 0, faV c s])
    | none => ∃ oa na ca, e = .returned (.tuple #[.slice oa na ca, faV 0 []]) ∧ Srz w' oa na L) ∧ Only (fun _ => False) w w'
theorem lvQ_bad {c : Nat} {F : Option (Nat × Nm)} {L : List (List Nm)} {s : Nm} {w w' : World} (h : F = some (c, s)) (ho : Only (fun _ => False) w w') : lvQ F L w (.returned (.tuple #[.slice none 0 0, faV c s])) w' := by
  unfold lvQ
  rw [h]
  exact ⟨rfl, ho⟩
theorem lvQ_good {F : Option (Nat × Nm)} {L : List (List Nm)} {w w' : World} (h : F = none) {oa : Option Addr} {na ca : Nat} (hs : Srz w' oa na L) (ho : Only (fun _ => False) w w') : lvQ F L w (.returned (.tuple #[.slice oa na ca, faV 0 []])) w' := by
  unfold lvQ
  rw [h]
  exact ⟨⟨oa, na, ca, rfl, hs⟩, ho⟩
set_option maxRecDepth 100000 in
theorem levRes (W : World) (T : Array Value) (B1 : Nat) (v f0 f1 f2 f3 : Value) (h0 : T[2]? = some v) (h1 : T[3]? = some (.pointer (some ⟨B1, 0, none⟩))) (hb1 : W.heap[B1]? = some (.cells #[f0, f1, f2, f3] 28 (0, 0))) : (results Tryz.f12 T).run Tryz.prog W = .ok (.tuple #[v, .agg #[f0, f1, f2, f3]]) W := by
  have c0 : W.cell? ⟨B1, 0, none⟩ = some f0 := (blk_c (k := 0) hb1 rfl).1
  have c1 : W.cell? ⟨B1, 1, none⟩ = some f1 := (blk_c (k := 1) hb1 rfl).1
  have c2 : W.cell? ⟨B1, 2, none⟩ = some f2 := (blk_c (k := 2) hb1 rfl).1
  have c3 : W.cell? ⟨B1, 3, none⟩ = some f3 := (blk_c (k := 3) hb1 rfl).1
  simp [results, Tryz.results12, go_sem, h0, h1, c0, c1, c2, c3]
set_option maxRecDepth 100000 in
set_option maxHeartbeats 2000000 in
theorem mLevels_bad (w : World) (oa : Option Addr) (n ca : Nat) (l : List Md) (h : Mdz w oa n l) (hok : n ≤ 32 → OkL l) (c : Nat) (s : Nm) (hF : accF l = some (c, s)) : Calls Tryz.prog 12 #[.slice oa n ca] w (lvQ (accF l) (levM l) w) := by
  have hc0 := accF_pos hF
  have hA : Only (fun _ => False) w (w.alloc (.cells (faV 0 []).cells 28)) := (Only.refl _ _).alloc _
  have s1 : (w.alloc (.cells (faV 0 []).cells 28)).heap.size = w.heap.size + 1 := by show (Array.push _ _).size = _; rw [Array.size_push]
  have hk := new_block w (.cells (faV 0 []).cells 28)
  have HC : Hid (Calls Tryz.prog 24 #[.slice oa n ca] (w.alloc (.cells (faV 0 []).cells 28)) fun e w' => e = .returned (.tuple #[prN, faV c s]) ∧ Only (fun _ => False) (w.alloc (.cells (faV 0 []).cells 28)) w') := Lib.hid ((acyclic_p _ oa n ca l (h.old hA (fun _ _ hc => hc)) hok).mono (by
    intro e w' hq
    unfold prQ at hq
    rw [hF] at hq
    exact hq))
  have HK := Lib.hid hk
  have HA := Lib.hid hA
  have HS := Lib.hid s1
  have HF := Lib.hid hF
  have hci : ((c : Int) == 0) = false := by simp; omega
  have hcn : ¬ (c : Int) = 0 := by omega
  clear h hok hk hA s1 hF
  go_enter Tryz.func12, Tryz.ntmps12
  go_wp2_with (go_at_call 24; (refine HC.out.mono ?_); rintro e w5 ⟨rfl, hO5⟩; have HO5 := Lib.hid hO5; clear hO5)
  obtain ⟨Z, hZ⟩ : ∃ Z, (w5.alloc (.cells #[.slice none 0 0, .slice none 0 0] 51)).alloc (.cells #[.int .i64 c, .string ⟨s.toArray⟩, .int .i64 0, .int .i64 0] 28) = Z := ⟨_, rfl⟩
  have hb := boxes (w5 := w5) (v0 := .slice none 0 0) (v1 := .slice none 0 0) (f0 := .int .i64 c) (f1 := .string ⟨s.toArray⟩) (f2 := .int .i64 0) (f3 := .int .i64 0) (Only.refl _ _)
  have hOZ : Only (fun _ => False) w5 Z := by rw [← hZ]; exact ((Only.refl _ _).alloc _).alloc _
  rw [hZ] at hb
  have hz : Z.heap[w.heap.size]? = some (.cells (faV 0 []).cells 28 (0, 0)) := ((HO5.out.trans hOZ).block w.heap.size (by rw [HS.out]; omega) (fun hc => hc)).trans HK.out
  obtain ⟨ya0, yz0⟩ := blk_c (k := 0) hz rfl
  obtain ⟨ya1, yz1⟩ := blk_c (k := 1) hz rfl
  obtain ⟨ya2, yz2⟩ := blk_c (k := 2) hz rfl
  obtain ⟨ya3, yz3⟩ := blk_c (k := 3) hz rfl
  have za0 := (blk_c (k := 0) hb.2 rfl).1
  have za1 := (blk_c (k := 1) hb.2 rfl).1
  have za2 := (blk_c (k := 2) hb.2 rfl).1
  have za3 := (blk_c (k := 3) hb.2 rfl).1
  have hsz : w.heap.size + 1 ≤ w5.heap.size := by have h3 := HO5.out.size; have h4 := HS.out; omega
  have d1 : ¬ w5.heap.size + 1 = w.heap.size := by omega
  have d2 : ¬ w.heap.size = w5.heap.size + 1 := by omega
  have HZ := Lib.hid hz
  have HOZ : Hid (Only (w.heap.size ≤ ·) w Z) := Lib.hid ((HA.out.trans (HO5.out.trans hOZ)).lift)
  rw [hZ]
  clear hZ hb hz hOZ hsz
  go_wp2
  go_region
  all_goals
    go_wp2
    refine bodyPost_ret (v := .tuple #[.slice none 0 0, faV c s]) (levRes _ _ w.heap.size _ _ _ _ _ rfl rfl ?_) rfl ?_
    · have h1 := HZ.out
      simp [World.setCell, World.drew, Array.getElem?_modify, h1]
      rfl
    · have h1 := (only4 (f0 := .int .i64 c) (f1 := .string ⟨s.toArray⟩) (f2 := .int .i64 0) (f3 := .int .i64 0) HOZ.out (c := w.heap.size) (Nat.le_refl _)).drew
      exact lvQ_bad HF.out ⟨h1.os, h1.tape, h1.output, h1.size, fun i hi _ => h1.block i hi (fun hc => by have hc' : w.heap.size ≤ i := hc; omega)⟩
def lvK (ns : List Nm) (V : List (List Nat)) (k : Nat) : List (List Nm) := (V.take k).map (fun r => r.map (nAt ns))
theorem lvK_succ {ns : List Nm} {V : List (List Nat)} {k : Nat} (hk : k < V.length) : lvK ns V (k + 1) = lvK ns V k ++ [V[k].map (nAt ns)] := by
  unfold lvK
  rw [List.take_succ_eq_append_getElem hk, List.map_append]
  rfl
theorem lvK_len {ns : List Nm} {V : List (List Nat)} {k : Nat} (hk : k ≤ V.length) : (lvK ns V k).length = k := by unfold lvK; rw [List.length_map, List.length_take]; omega
theorem levels_nodes {G C : List (List Nat)} {n : Nat} : ∀ r ∈ (levelsG G C n).1, ∀ x ∈ r, x < n := by
  intro r hr x hx
  unfold levelsG at hr
  split at hr
  · cases hr
  · obtain ⟨i, hi, e⟩ := List.getElem_of_mem hr
    refine levK_mem (lonK G C n C.length) n i x ?_
    show x ∈ (levK _ n).getD i []
    rw [List.getD_eq_getElem?_getD, List.getElem?_eq_getElem hi]
    show x ∈ (levK _ n)[i]
    have e' : (levK (lonK G C n C.length) n)[i] = r := e
    rw [e']
    exact hx
theorem levels_short {G C : List (List Nat)} {n : Nat} (hd : ∀ u, degG G u ≤ 1000) (hc : C.length ≤ 1000) : (levelsG G C n).1.length ≤ 1000001 := by
  unfold levelsG
  split
  · exact Nat.zero_le _
  · refine levK_len (b := 1000000) (fun x => ?_) n
    have h1 := lonK_le (G := G) (C := C) (n := n) hd C.length (Nat.le_refl _) x
    have h2 : C.length * 1000 ≤ 1000 * 1000 := Nat.mul_le_mul_right _ hc
    omega
theorem SRR.srz' {w : World} {B n ca : Nat} {oa : Option Addr} {vs : List Value} {L : List (List Nm)} (h : SRR w B (.slice oa n ca) vs L) (e : L.length = n) : Srz w oa n L := by
  subst e
  exact h.srz
set_option maxRecDepth 100000 in
set_option maxHeartbeats 4000000 in
theorem mLevels_good (w : World) (oa : Option Addr) (n ca : Nat) (l : List Md) (h : Mdz w oa n l) (hok : n ≤ 32 → OkL l) (hF : accF l = none) : Calls Tryz.prog 12 #[.slice oa n ca] w (lvQ (accF l) (levM l) w) := by
  obtain ⟨hl32, hgood⟩ := accF_none hF
  have hln := h.len
  have hGV := grP_valid l
  have hGD := grP_deg l hl32
  have hGL := grP_len l
  have hPA := comps_parts hGV
  have hcl := parts_len hPA
  have hdg : ∀ u, degG (grP l) u ≤ 1000 := fun u => by
    have h3 : ∀ x ∈ lAt (grP l) u, x < (grP l).length := fun x hx => row_valid hGV hx
    show (lAt (grP l) u).length ≤ 1000
    by_cases hu : u < l.length
    · obtain ⟨m, hm, e⟩ := node_md hu
      rw [grP_at hgood.nd hm hu e]
      have h4 := rowP_len (nsP l) m.im
      rw [nsP_len] at h4
      omega
    · rw [lAt_out (by omega)]
      exact Nat.zero_le _
  have hVS := levels_short (G := grP l) (C := compsG (grP l)) (n := l.length) hdg (by omega)
  have hVN := levels_nodes (G := grP l) (C := compsG (grP l)) (n := l.length)
  have hA : Only (fun _ => False) w (w.alloc (.cells (faV 0 []).cells 28)) := (Only.refl _ _).alloc _
  have s1 : (w.alloc (.cells (faV 0 []).cells 28)).heap.size = w.heap.size + 1 := by show (Array.push _ _).size = _; rw [Array.size_push]
  have hk := new_block w (.cells (faV 0 []).cells 28)
  have HC : Hid (Calls Tryz.prog 24 #[.slice oa n ca] (w.alloc (.cells (faV 0 []).cells 28)) fun e w' => ∃ oN cN oE cE, (e = .returned (.tuple #[prV oN n cN oE n cE, faV 0 []]) ∧ SR w' (w.heap.size + 1) (.slice oN n cN) (nsP l) ∧ EdgB w' (w.heap.size + 1) oE n (grP l)) ∧ Only (fun _ => False) (w.alloc (.cells (faV 0 []).cells 28)) w') := Lib.hid ((acyclic_p _ oa n ca l (h.old hA (fun _ _ hc => hc)) hok).mono (by
    intro e w' hq
    unfold prQ at hq
    rw [hF] at hq
    obtain ⟨⟨oN, cN, oE, cE, h1, h2, h3⟩, h4⟩ := hq
    rw [s1] at h2 h3
    exact ⟨oN, cN, oE, cE, ⟨h1, h2, h3⟩, h4⟩))
  have hLM : levM l = (levelsG (grP l) (compsG (grP l)) l.length).1.map (fun r => r.map (nAt (nsP l))) := rfl
  have hLE : levelsE (intE (grP l)) = levelsG (grP l) (compsG (grP l)) l.length := by
    unfold levelsE
    rw [validE_intE (valid_rows hGV), natE_intE, intE_len, hGL]
    rfl
  obtain ⟨V2, hV2⟩ : ∃ V2, levelsG (grP l) (compsG (grP l)) l.length = V2 := ⟨_, rfl⟩
  rw [hV2] at hLM hLE hVS hVN
  obtain ⟨V, code⟩ := V2
  dsimp only at hLM hVS hVN
  have HLV : Hid (∀ wx oE cE, Edg wx oE n (grP l) → Calls Tryz.prog 31 #[.agg #[.slice oE n cE]] wx fun e w' => ∃ oc nc cc, e = .returned (.tuple #[.slice oc nc cc, iV code]) ∧ Edg w' oc nc V ∧ nc ≤ 1000001 ∧ Only (fun _ => False) wx w') := Lib.hid (fun wx oE cE he => by
    have h3 := Levels_p wx oE n cE (intE (grP l)) he.edz (by omega) (intE_rows hGD)
    rw [hLE] at h3
    refine h3.mono ?_
    rintro e w' ⟨oc, nc, cc, h4, h5, h6⟩
    exact ⟨oc, nc, cc, h4, h5, by have h7 : V.length = nc := h5.len; omega, h6⟩)
  have HLI : Hid (∀ wx oN cN oE cE on k0 ck r, r ∈ V → k0 ≤ 1000000 → Strz wx oN n (nsP l) → Ints wx on k0 r → Calls Tryz.prog 25 #[prV oN n cN oE n cE, .slice on k0 ck] wx fun e w' => ∃ oa ca, e = .returned (.slice oa k0 ca) ∧ SR w' wx.heap.size (.slice oa k0 ca) (r.map (nAt (nsP l))) ∧ Only (fun _ => False) wx w') := Lib.hid (fun wx oN cN oE cE on k0 ck r hr hk0 hs hi => list_p wx oN n cN oE n cE (nsP l) hs on k0 ck r hi (fun x hx => by have := hVN r hr x hx; omega) (by omega) hk0)
  have hVR : ∀ r ∈ V, r.length ≤ 1000000 := fun r hr => by
    have h3 : V = (levelsG (grP l) (compsG (grP l)) l.length).1 := by rw [hV2]
    rw [h3] at hr
    unfold levelsG at hr
    split at hr
    · cases hr
    · obtain ⟨i, hi, e⟩ := List.getElem_of_mem hr
      have h4 := levK_row (l := lonK (grP l) (compsG (grP l)) l.length (compsG (grP l)).length) l.length i
      rw [show lAt (levK (lonK (grP l) (compsG (grP l)) l.length (compsG (grP l)).length) l.length) i = (levK (lonK (grP l) (compsG (grP l)) l.length (compsG (grP l)).length) l.length).getD i [] from rfl, List.getD_eq_getElem?_getD, List.getElem?_eq_getElem hi] at h4
      have e' : (levK (lonK (grP l) (compsG (grP l)) l.length (compsG (grP l)).length) l.length)[i] = r := e
      change ((levK (lonK (grP l) (compsG (grP l)) l.length (compsG (grP l)).length) l.length)[i]).length ≤ _ at h4
      rw [e'] at h4
      omega
  have HVR := Lib.hid hVR
  have HLM := Lib.hid hLM
  have HK := Lib.hid hk
  have HA := Lib.hid hA
  have HS := Lib.hid s1
  have HF := Lib.hid hF
  obtain ⟨i1', hi1, hj0, hj1, hj2⟩ := info_parts infoStrs
  clear h hok hk hA s1 hF hGV hGD hGL hPA hcl hdg hgood hLM hLE hV2 hVN hVR hVS
  go_enter Tryz.func12, Tryz.ntmps12
  go_wp2_with (first | (go_at_call 24; (refine HC.out.mono ?_); rintro e w5 ⟨oN, cN, oE, cE, ⟨rfl, hS5, hE5⟩, hO5⟩; have HO5 := Lib.hid hO5; have HS5 := Lib.hid hS5; have HE5 := Lib.hid hE5; clear hO5 hS5 hE5) | (go_at_call 31; (refine (HLV.out _ oE cE (HE5.out.edg.old (((Only.refl (fun _ => False) w5).alloc _).alloc _) (fun _ _ hc => hc))).mono ?_); rintro e w6 ⟨oV, nV, cV, rfl, hV6, hnV, hO6⟩))
  have hnV2 : V.length = nV := hV6.len
  have hb := boxes (w5 := w5) (v0 := .slice oN n cN) (v1 := .slice oE n cE) (f0 := .int .i64 0) (f1 := .string ⟨#[]⟩) (f2 := .int .i64 0) (f3 := .int .i64 0) hO6
  obtain ⟨B5, hB5⟩ : ∃ B, w5.heap.size = B := ⟨_, rfl⟩
  have hO56 : Only (fun _ => False) w5 w6 := (((Only.refl (fun _ => False) w5).alloc (.cells #[.slice oN n cN, .slice oE n cE] 51)).alloc (.cells #[.int .i64 0, .string ⟨#[]⟩, .int .i64 0, .int .i64 0] 28)).trans hO6
  have hz : w6.heap[w.heap.size]? = some (.cells (faV 0 []).cells 28 (0, 0)) := ((HO5.out.trans hO56).block w.heap.size (by rw [HS.out]; omega) (fun hc => hc)).trans HK.out
  rw [hB5] at hb ⊢
  obtain ⟨B8, hB8⟩ : ∃ B, w6.heap.size = B := ⟨_, rfl⟩
  have hb58 : B5 < B8 := by rw [← hB8]; exact lt_of_block hb.1
  have hw8 : w.heap.size + 1 ≤ B8 := by have h3 := HO5.out.size; have h4 := HS.out; have h5 := hO56.size; omega
  have HBX : Hid (∀ x, Only (B8 ≤ ·) w6 x → x.cell? ⟨B5, 0, none⟩ = some (.slice oN n cN) ∧ x.cell? ⟨B5, 1, none⟩ = some (.slice oE n cE) ∧ x.heap[w.heap.size]? = some (.cells (faV 0 []).cells 28 (0, 0))) := Lib.hid (fun x hx => by
    have h3 := (hx.block B5 (lt_of_block hb.1) (fun hc => by have hc' : B8 ≤ B5 := hc; omega)).trans hb.1
    exact ⟨(blk_c (k := 0) h3 rfl).1, (blk_c (k := 1) h3 rfl).1, (hx.block w.heap.size (lt_of_block hz) (fun hc => by have hc' : B8 ≤ w.heap.size := hc; omega)).trans hz⟩)
  have HSX : Hid (∀ x, Only (B8 ≤ ·) w6 x → Strz x oN n (nsP l)) := Lib.hid (fun x hx => (HS5.out.strz.old hO56 (fun _ _ hc => hc)).old hx (fun i hi hc => by have hc' : B8 ≤ i := hc; omega))
  have HVX : Hid (∀ x, Only (B8 ≤ ·) w6 x → Edg x oV nV V) := Lib.hid (fun x hx => hV6.old hx (fun i hi hc => by have hc' : B8 ≤ i := hc; omega))
  have HOX : Hid (∀ x, Only (B8 ≤ ·) w6 x → Only (w.heap.size ≤ ·) w x) := Lib.hid (fun x hx => ((HA.out.trans (HO5.out.trans hO56)).lift).trans (hx.wide (fun i hi => by have hi' : B8 ≤ i := hi; show w.heap.size ≤ i; omega)))
  have HB8 : Hid (w6.heap.size = B8 ∧ w.heap.size + 1 ≤ B8) := Lib.hid ⟨hB8, hw8⟩
  have h0 : SRR w6 B8 (.slice none 0 0) [] (lvK (nsP l) V 0) := SRR.nil _ _
  clear hV6 hO6 hb hO56 hz hB5 hB8 hb58 hw8
  go_loopw [8, 28] (fun v q wr => ∃ (k : Nat) (vs : List Value), k ≤ nV ∧ q = .int .i64 k ∧ SRR wr B8 v vs (lvK (nsP l) V k) ∧ Only (B8 ≤ ·) w6 wr) (fun _ q _ => nV - (intOf q).toNat)
  case atStart => exact ⟨0, [], by omega, rfl, h0, Only.refl _ _⟩
  case round =>
    clear h0
    obtain ⟨k, vs, hk, rfl, hR, hO⟩ := hrel
    obtain ⟨ov, cv, hv⟩ := rowForm hR.out
    subst hv
    obtain ⟨m0, m1, m2⟩ := HBX.out wr hO
    have hkl2 : (lvK (nsP l) V k).length = k := lvK_len (by omega)
    have HR := Lib.hid hR
    have HO := Lib.hid hO
    have HKL := Lib.hid hkl2
    have HOUT : Hid (wr.ownsRow B8 25 1 (.slice ov k cv) k vs) := Lib.hid (by have h3 := hR.out; rw [hkl2] at h3; exact h3)
    have HSZ : Hid (B8 ≤ wr.heap.size) := Lib.hid (by have h3 := hO.size; have h4 := HB8.out.1; omega)
    rw [hkl2]
    clear hR hkl2
    by_cases hkn : k < nV
    · have hkV : k < V.length := by omega
      obtain ⟨b1, o1, ra, rn, rc, e1, c1, hi1⟩ := (HVX.out wr hO).cell k hkV
      subst e1
      have hrl := hi1.len
      have hrm : V[k] ∈ V := List.getElem_mem hkV
      have hrb := HVR.out _ hrm
      have hst := lvK_succ (ns := nsP l) hkV
      obtain ⟨r, hr⟩ : ∃ r, V[k] = r := ⟨_, rfl⟩
      rw [hr] at hi1 hrl hrm hrb hst
      have HST := Lib.hid hst
      have HLC := Lib.hid (HLI.out wr oN cN oE cE ra rn rc r hrm (by omega) (HSX.out wr hO) hi1)
      have hrl2 : (r.map (nAt (nsP l))).length = rn := by rw [List.length_map]; exact hrl
      have HRL := Lib.hid hrl2
      have h01 : (0 : Int) ≤ (k : Int) := Int.natCast_nonneg k
      have h02 : (k : Int) < (nV : Int) := by omega
      have h03 : (k : Int).toNat = k := Int.toNat_natCast k
      clear hi1 hr hrm hst hO hrl hrl2 m2
      go_wp2_with (first | (go_at_call 25; (refine HLC.out.mono ?_); rintro e w7 ⟨oL, cL, rfl, hL7, hO7⟩; have HL7 := Lib.hid hL7; have HO7 := Lib.hid hO7; clear hL7 hO7) | (at_builtin; refine wpList_append_lies _ rfl _ _ 31 rfl B8 25 i1' (.slice none 0 0) 1 24 Tryz.underlying31 hi1 hj0 hj1 hj2 rfl (by decide) (.slice ov k cv) k vs rfl (World.ownsRow.alloc (rowKeep HOUT.out (fun g hg => HO7.out.block g (World.ownsRow.lt HOUT.out g hg).2 (fun hc => hc))) _) ⟨w7.heap.size, 0, none⟩ 1 1 [.slice oL rn cL] rfl rfl (World.news_of_block (new_block w7 _)) (fun u hu => by rw [List.mem_singleton.1 hu]; rfl) Nat.one_pos (by unfold maxLen; omega) (by omega) (by show B8 ≤ (Array.push _ _).size; rw [Array.size_push]; have h3 := HSZ.out; have h4 := HO7.out.size; omega) _ rfl ?_; intro g2 cg2 w12 hown8 hgrow8 hat8 hlt8))
      have hal : Only (fun _ => False) wr (w7.alloc (.cells #[.slice oL rn cL] 25)) := HO7.out.alloc _
      have hsr := HR.out.only hal (fun _ _ _ hc => hc)
      have hx : SR (w7.alloc (.cells #[.slice oL rn cL] 25)) B8 (.slice oL rn cL) (r.map (nAt (nsP l))) := rowMono (HL7.out.only (K := fun _ => False) ((Only.refl _ _).alloc _) (fun _ _ hc => hc)) HSZ.out
      have hp := hsr.push (by rw [HKL.out]; exact hgrow8) hx (by rw [HKL.out]; exact hown8)
      rw [← HST.out] at hp
      refine ⟨⟨k + 1, _, by omega, by go_num, hp, (HO.out.trans hal.lift).trans (Only.grown (K := (B8 ≤ ·)) hgrow8 (fun g hg => (World.ownsRow.lt HOUT.out g hg).1))⟩, ?_⟩
      show nV - ((k : Int) + 1).toNat < nV - (k : Int).toNat
      omega
    · have hke : k = nV := by omega
      have hkall : lvK (nsP l) V k = levM l := by
        rw [HLM.out]
        unfold lvK
        rw [List.take_of_length_le (by omega)]
      have h02 : ¬ (k : Int) < (nV : Int) := by omega
      have HRS : Hid (SRR wr B8 (.slice ov nV cv) vs (levM l)) := Lib.hid (by rw [← hkall, ← hke]; have h3 := HR.out; rw [HKL.out] at h3; exact h3)
      obtain ⟨ya0, yz0⟩ := blk_c (k := 0) m2 rfl
      obtain ⟨ya1, yz1⟩ := blk_c (k := 1) m2 rfl
      obtain ⟨ya2, yz2⟩ := blk_c (k := 2) m2 rfl
      obtain ⟨ya3, yz3⟩ := blk_c (k := 3) m2 rfl
      have HZ := Lib.hid m2
      clear hO m2
      go_wp2
      have hset := only4 (f0 := .int .i64 0) (f1 := .string ⟨#[]⟩) (f2 := .int .i64 0) (f3 := .int .i64 0) (Only.refl (· = w.heap.size) wr) (c := w.heap.size) rfl
      have hset2 := only4 (f0 := .int .i64 0) (f1 := .string ⟨#[]⟩) (f2 := .int .i64 0) (f3 := .int .i64 0) (HOX.out wr HO.out) (c := w.heap.size) (Nat.le_refl _)
      have hend := HRS.out.only hset (fun g _ hg e => by have e' : g = w.heap.size := e; have h3 := HB8.out.2; omega)
      have hlen : (levM l).length = nV := by rw [← hkall, HKL.out]; exact hke
      have hsz := hend.srz' hlen
      refine bodyPost_ret (v := .tuple #[.slice ov nV cv, faV 0 []]) (levRes _ _ w.heap.size _ _ _ _ _ rfl rfl ?_) rfl ?_
      · have h1 := HZ.out
        simp [World.setCell, Array.getElem?_modify, h1]
        rfl
      · exact lvQ_good HF.out hsz ⟨hset2.os, hset2.tape, hset2.output, hset2.size, fun i hi _ => hset2.block i hi (fun hc => by have hc' : w.heap.size ≤ i := hc; omega)⟩
theorem mLevels_p (w : World) (oa : Option Addr) (n ca : Nat) (l : List Md) (h : Mdz w oa n l) (hok : n ≤ 32 → OkL l) : Calls Tryz.prog 12 #[.slice oa n ca] w (lvQ (accF l) (levM l) w) := by
  cases hF : accF l with
  | none => have h3 := mLevels_good w oa n ca l h hok hF; rw [hF] at h3; exact h3
  | some p => obtain ⟨c, s⟩ := p; have h3 := mLevels_bad w oa n ca l h hok c s hF; rw [hF] at h3; exact h3
end Go.Proofs.YtigmdiagdlbdpaaGreat
