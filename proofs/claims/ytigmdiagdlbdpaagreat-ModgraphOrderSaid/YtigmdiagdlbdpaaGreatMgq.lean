/-
  WALKS. The program's Order.
-/
import Derived.Test.YtigmdiagdlbdpaaGreatMgo
import Derived.Test.YtigmdiagdlbdpaaGreatMgp
import Derived.Test.YtigmdiagdlbdpaaGreatGbZ
namespace Go.Proofs.YtigmdiagdlbdpaaGreat
open Go.RowKit Go.Maps
/-- A list of names, or a fault. -/
def nmQ (F : Option (Nat × Nm)) (L : List Nm) (w : World) (e : Ending) (w' : World) : Prop := (match F with
    | some (c, s) => e = .returned (.tuple #[.slice none 0 0, faV c s])
    | none => ∃ oa ca, e = .returned (.tuple #[.slice oa L.length ca, faV 0 []]) ∧ SR w' w.heap.size (.slice oa L.length ca) L) ∧ Only (fun _ => False) w w'
theorem nmQ_bad {c : Nat} {F : Option (Nat × Nm)} {L : List Nm} {s : Nm} {w w' : World} (h : F = some (c, s)) (ho : Only (fun _ => False) w w') : nmQ F L w (.returned (.tuple #[.slice none 0 0, faV c s])) w' := by
  unfold nmQ
  rw [h]
  exact ⟨rfl, ho⟩
theorem nmQ_good {F : Option (Nat × Nm)} {L : List Nm} {w w' : World} (h : F = none) {oa : Option Addr} {ca : Nat} (hs : SR w' w.heap.size (.slice oa L.length ca) L) (ho : Only (fun _ => False) w w') : nmQ F L w (.returned (.tuple #[.slice oa L.length ca, faV 0 []])) w' := by
  unfold nmQ
  rw [h]
  exact ⟨⟨oa, ca, rfl, hs⟩, ho⟩
theorem accF_pos {l : List Md} {c : Nat} {s : Nm} (h : accF l = some (c, s)) : c ≠ 0 := by
  unfold accF at h
  cases hF : conA l with
  | some x =>
    rw [hF] at h
    cases h
    exact conA_pos hF
  | none =>
    rw [hF] at h
    simp only at h
    split at h
    · cases h
    · cases h; decide
set_option maxRecDepth 100000 in
theorem ordRes (W : World) (T : Array Value) (B1 : Nat) (v f0 f1 f2 f3 : Value) (h0 : T[2]? = some v) (h1 : T[3]? = some (.pointer (some ⟨B1, 0, none⟩))) (hb1 : W.heap[B1]? = some (.cells #[f0, f1, f2, f3] 28 (0, 0))) : (results Tryz.f10 T).run Tryz.prog W = .ok (.tuple #[v, .agg #[f0, f1, f2, f3]]) W := by
  have c0 : W.cell? ⟨B1, 0, none⟩ = some f0 := (blk_c (k := 0) hb1 rfl).1
  have c1 : W.cell? ⟨B1, 1, none⟩ = some f1 := (blk_c (k := 1) hb1 rfl).1
  have c2 : W.cell? ⟨B1, 2, none⟩ = some f2 := (blk_c (k := 2) hb1 rfl).1
  have c3 : W.cell? ⟨B1, 3, none⟩ = some f3 := (blk_c (k := 3) hb1 rfl).1
  simp [results, Tryz.results10, go_sem, h0, h1, c0, c1, c2, c3]
theorem only4 {K : Nat → Prop} {w A : World} {c : Nat} {f0 f1 f2 f3 : Value} (h : Only K w A) (hc : K c) : Only K w ((((A.setCell ⟨c, 0, none⟩ f0).setCell ⟨c, 1, none⟩ f1).setCell ⟨c, 2, none⟩ f2).setCell ⟨c, 3, none⟩ f3) :=
  (Only.setCell (Only.setCell (Only.setCell (Only.setCell h hc _) hc _) hc _) hc _)
/-- The two boxes that hold a call's answer. -/
theorem boxes {w5 w6 : World} {v0 v1 f0 f1 f2 f3 : Value} (ho : Only (fun _ => False) ((w5.alloc (.cells #[v0, v1] 51)).alloc (.cells #[f0, f1, f2, f3] 28)) w6) : w6.heap[w5.heap.size]? = some (.cells #[v0, v1] 51 (0, 0)) ∧ w6.heap[w5.heap.size + 1]? = some (.cells #[f0, f1, f2, f3] 28 (0, 0)) := by
  refine ⟨box5 ho, ?_⟩
  have t1 : (w5.alloc (.cells #[v0, v1] 51)).heap.size = w5.heap.size + 1 := by show (Array.push _ _).size = _; rw [Array.size_push]
  have h3 := new_at (.cells #[f0, f1, f2, f3] 28) t1
  exact (ho.block (w5.heap.size + 1) (lt_of_block h3) (fun hc => hc)).trans h3
set_option maxRecDepth 100000 in
set_option maxHeartbeats 2000000 in
theorem Order_bad (w : World) (oa : Option Addr) (n ca : Nat) (l : List Md) (h : Mdz w oa n l) (hok : n ≤ 32 → OkL l) (c : Nat) (s : Nm) (hF : accF l = some (c, s)) : Calls Tryz.prog 10 #[.slice oa n ca] w (nmQ (accF l) (ordM l) w) := by
  have hc0 := accF_pos hF
  have hA : Only (fun _ => False) w (w.alloc (.cells (faV 0 []).cells 28)) := (Only.refl _ _).alloc _
  have s1 : (w.alloc (.cells (faV 0 []).cells 28)).heap.size = w.heap.size + 1 := by show (Array.push _ _).size = _; rw [Array.size_push]
  have hk := new_block w (.cells (faV 0 []).cells 28)
  have HC : Hid (Calls Tryz.prog 24 #[.slice oa n ca] (w.alloc (.cells (faV 0 []).cells 28)) fun e w' => e = .returned (.tuple #[prN, faV c s]) ∧ Only (fun _ => False) (w.alloc (.cells (faV 0 []).cells 28)) w') := Lib.hid ((acyclic_p _ oa n ca l (h.old hA (fun _ _ hc => hc)) hok).mono (by
    intro e w' hq
    unfold prQ at hq
    rw [hF] at hq
    exact hq))
  have HK := Lib.hid hk
  have HA := Lib.hid hA
  have HS := Lib.hid s1
  have HF := Lib.hid hF
  have hci : ((c : Int) == 0) = false := by simp; omega
  have hcn : ¬ (c : Int) = 0 := by omega
  clear h hok hk hA s1 hF
  go_enter Tryz.func10, Tryz.ntmps10
  go_wp2_with (go_at_call 24; (refine HC.out.mono ?_); rintro e w5 ⟨rfl, hO5⟩; have HO5 := Lib.hid hO5; clear hO5)
  obtain ⟨Z, hZ⟩ : ∃ Z, (w5.alloc (.cells #[.slice none 0 0, .slice none 0 0] 51)).alloc (.cells #[.int .i64 c, .string ⟨s.toArray⟩, .int .i64 0, .int .i64 0] 28) = Z := ⟨_, rfl⟩
  have hb := boxes (w5 := w5) (v0 := .slice none 0 0) (v1 := .slice none 0 0) (f0 := .int .i64 c) (f1 := .string ⟨s.toArray⟩) (f2 := .int .i64 0) (f3 := .int .i64 0) (Only.refl _ _)
  have hOZ : Only (fun _ => False) w5 Z := by rw [← hZ]; exact ((Only.refl _ _).alloc _).alloc _
  rw [hZ] at hb
  have hz : Z.heap[w.heap.size]? = some (.cells (faV 0 []).cells 28 (0, 0)) := ((HO5.out.trans hOZ).block w.heap.size (by rw [HS.out]; omega) (fun hc => hc)).trans HK.out
  obtain ⟨ya0, yz0⟩ := blk_c (k := 0) hz rfl
  obtain ⟨ya1, yz1⟩ := blk_c (k := 1) hz rfl
  obtain ⟨ya2, yz2⟩ := blk_c (k := 2) hz rfl
  obtain ⟨ya3, yz3⟩ := blk_c (k := 3) hz rfl
  have za0 := (blk_c (k := 0) hb.2 rfl).1
  have za1 := (blk_c (k := 1) hb.2 rfl).1
  have za2 := (blk_c (k := 2) hb.2 rfl).1
  have za3 := (blk_c (k := 3) hb.2 rfl).1
  have hsz : w.heap.size + 1 ≤ w5.heap.size := by have h3 := HO5.out.size; have h4 := HS.out; omega
  have d1 : ¬ w5.heap.size + 1 = w.heap.size := by omega
  have d2 : ¬ w.heap.size = w5.heap.size + 1 := by omega
  have HZ := Lib.hid hz
  have HOZ : Hid (Only (w.heap.size ≤ ·) w Z) := Lib.hid ((HA.out.trans (HO5.out.trans hOZ)).lift)
  rw [hZ]
  clear hZ hb hz hOZ hsz
  go_wp2
  go_region
  all_goals
    go_wp2
    refine bodyPost_ret (v := .tuple #[.slice none 0 0, faV c s]) (ordRes _ _ w.heap.size _ _ _ _ _ rfl rfl ?_) rfl ?_
    · have h1 := HZ.out
      simp [World.setCell, World.drew, Array.getElem?_modify, h1]
      rfl
    · have h1 := (only4 (f0 := .int .i64 c) (f1 := .string ⟨s.toArray⟩) (f2 := .int .i64 0) (f3 := .int .i64 0) HOZ.out (c := w.heap.size) (Nat.le_refl _)).drew
      exact nmQ_bad HF.out ⟨h1.os, h1.tape, h1.output, h1.size, fun i hi _ => h1.block i hi (fun hc => by have hc' : w.heap.size ≤ i := hc; omega)⟩
/-- What the later worlds of a call still hold. -/
def Kp (Z : World) (b0 b5 : Nat) (v0 v1 : Value) (x : World) : Prop := Only (fun _ => False) Z x ∧ x.heap[b0]? = some (.cells (faV 0 []).cells 28 (0, 0)) ∧ x.heap[b5]? = some (.cells #[v0, v1] 51 (0, 0))
theorem Kp.next {Z x y : World} {b0 b5 : Nat} {v0 v1 : Value} (h : Kp Z b0 b5 v0 v1 x) (ho : Only (fun _ => False) x y) : Kp Z b0 b5 v0 v1 y :=
  ⟨h.1.trans ho, (ho.block b0 (lt_of_block h.2.1) (fun hc => hc)).trans h.2.1, (ho.block b5 (lt_of_block h.2.2) (fun hc => hc)).trans h.2.2⟩
theorem Kp.cells {Z x : World} {b0 b5 : Nat} {v0 v1 : Value} (h : Kp Z b0 b5 v0 v1 x) : x.cell? ⟨b5, 0, none⟩ = some v0 ∧ x.cell? ⟨b5, 1, none⟩ = some v1 ∧ x.cell? ⟨b0, 0, none⟩ = some (.int .i64 0) ∧ x.frozen? ⟨b0, 0, none⟩ = false ∧ x.cell? ⟨b0, 1, none⟩ = some (.string ⟨#[]⟩) ∧ x.frozen? ⟨b0, 1, none⟩ = false ∧ x.cell? ⟨b0, 2, none⟩ = some (.int .i64 0) ∧ x.frozen? ⟨b0, 2, none⟩ = false ∧ x.cell? ⟨b0, 3, none⟩ = some (.int .i64 0) ∧ x.frozen? ⟨b0, 3, none⟩ = false := by
  obtain ⟨a1, a2⟩ := blk_c (k := 0) h.2.1 rfl
  obtain ⟨b1, b2⟩ := blk_c (k := 1) h.2.1 rfl
  obtain ⟨c1, c2⟩ := blk_c (k := 2) h.2.1 rfl
  obtain ⟨d1, d2⟩ := blk_c (k := 3) h.2.1 rfl
  exact ⟨(blk_c (k := 0) h.2.2 rfl).1, (blk_c (k := 1) h.2.2 rfl).1, a1, a2, b1, b2, c1, c2, d1, d2⟩
set_option maxRecDepth 100000 in
set_option maxHeartbeats 4000000 in
theorem Order_good (w : World) (oa : Option Addr) (n ca : Nat) (l : List Md) (h : Mdz w oa n l) (hok : n ≤ 32 → OkL l) (hF : accF l = none) : Calls Tryz.prog 10 #[.slice oa n ca] w (nmQ (accF l) (ordM l) w) := by
  obtain ⟨hl32, hgood⟩ := accF_none hF
  have hln := h.len
  have hT := hgood.topo
  have hGV := grP_valid l
  have hGD := grP_deg l hl32
  have hGL := grP_len l
  have hPA := comps_parts hGV
  have hcl := parts_len hPA
  have hA : Only (fun _ => False) w (w.alloc (.cells (faV 0 []).cells 28)) := (Only.refl _ _).alloc _
  have s1 : (w.alloc (.cells (faV 0 []).cells 28)).heap.size = w.heap.size + 1 := by show (Array.push _ _).size = _; rw [Array.size_push]
  have hk := new_block w (.cells (faV 0 []).cells 28)
  have HC : Hid (Calls Tryz.prog 24 #[.slice oa n ca] (w.alloc (.cells (faV 0 []).cells 28)) fun e w' => ∃ oN cN oE cE, (e = .returned (.tuple #[prV oN n cN oE n cE, faV 0 []]) ∧ SR w' (w.heap.size + 1) (.slice oN n cN) (nsP l) ∧ EdgB w' (w.heap.size + 1) oE n (grP l)) ∧ Only (fun _ => False) (w.alloc (.cells (faV 0 []).cells 28)) w') := Lib.hid ((acyclic_p _ oa n ca l (h.old hA (fun _ _ hc => hc)) hok).mono (by
    intro e w' hq
    unfold prQ at hq
    rw [hF] at hq
    obtain ⟨⟨oN, cN, oE, cE, h1, h2, h3⟩, h4⟩ := hq
    rw [s1] at h2 h3
    exact ⟨oN, cN, oE, cE, ⟨h1, h2, h3⟩, h4⟩))
  obtain ⟨C, hCe⟩ : ∃ C, compsG (grP l) = C := ⟨_, rfl⟩
  have hOM : ordM l = C.flatten.map (nAt (nsP l)) := by unfold ordM; rw [hCe]
  rw [hCe] at hT hcl
  have hfl : C.flatten.length = n := by rw [hT.len, hGL, hln]
  have HCO : Hid (∀ wx oE cE, Edg wx oE n (grP l) → Calls Tryz.prog 27 #[.agg #[.slice oE n cE]] wx fun e w' => ∃ oc nc cc, e = .returned (.slice oc nc cc) ∧ Edg w' oc nc C ∧ nc ≤ 1000000 ∧ Only (fun _ => False) wx w') := Lib.hid (fun wx oE cE he => by
    have h3 := Components_p wx oE n cE (intE (grP l)) he.edz (by omega) (intE_rows hGD)
    rw [compsE_intE (valid_rows hGV), hCe] at h3
    refine h3.mono ?_
    rintro e w' ⟨oc, nc, cc, h4, h5, h6⟩
    exact ⟨oc, nc, cc, h4, h5.edg, by have := h5.len; omega, h6⟩)
  have HCA : Hid (∀ wx oC nC cC, Edg wx oC nC C → nC ≤ 1000000 → Calls Tryz.prog 26 #[.slice oC nC cC] wx fun e w' => ∃ oa ca, e = .returned (.slice oa n ca) ∧ Ints w' oa n C.flatten ∧ Only (fun _ => False) wx w') := Lib.hid (fun wx oC nC cC he hn => by
    have h3 := Concat_p wx oC nC cC C he (by omega) hn
    rw [hfl] at h3
    refine h3.mono ?_
    rintro e w' ⟨oa, ca, h4, h5, h6⟩
    exact ⟨oa, ca, h4, h5.ints, h6⟩)
  have HLI : Hid (∀ wx oN cN oE cE on ck, Strz wx oN n (nsP l) → Ints wx on n C.flatten → Calls Tryz.prog 25 #[prV oN n cN oE n cE, .slice on n ck] wx fun e w' => ∃ oa ca, e = .returned (.slice oa n ca) ∧ SR w' wx.heap.size (.slice oa n ca) (ordM l) ∧ Only (fun _ => False) wx w') := Lib.hid (fun wx oN cN oE cE on ck hs hi => by
    rw [hOM]
    exact list_p wx oN n cN oE n cE (nsP l) hs on n ck C.flatten hi (fun x hx => by
      obtain ⟨i, hi, e⟩ := List.getElem_of_mem hx
      have h3 := hT.lt i hi
      rw [gt_at hi, e, hGL] at h3
      omega) (by omega) (by omega))
  have HOL : Hid ((ordM l).length = n) := Lib.hid (by rw [hgood.len, hln])
  have HK := Lib.hid hk
  have HA := Lib.hid hA
  have HS := Lib.hid s1
  have HF := Lib.hid hF
  clear h hok hk hA s1 hF hT hGV hGD hGL hPA hcl hCe hOM hfl hgood
  go_enter Tryz.func10, Tryz.ntmps10
  go_wp2_with (go_at_call 24; (refine HC.out.mono ?_); rintro e w5 ⟨oN, cN, oE, cE, ⟨rfl, hS5, hE5⟩, hO5⟩; have HO5 := Lib.hid hO5; have HS5 := Lib.hid hS5; have HE5 := Lib.hid hE5; clear hO5 hS5 hE5)
  obtain ⟨B5, hB5⟩ : ∃ B, w5.heap.size = B := ⟨_, rfl⟩
  obtain ⟨Z, hZ⟩ : ∃ Z, (w5.alloc (.cells #[.slice oN n cN, .slice oE n cE] 51)).alloc (.cells #[.int .i64 0, .string ⟨#[]⟩, .int .i64 0, .int .i64 0] 28) = Z := ⟨_, rfl⟩
  have hb := boxes (w5 := w5) (v0 := .slice oN n cN) (v1 := .slice oE n cE) (f0 := .int .i64 0) (f1 := .string ⟨#[]⟩) (f2 := .int .i64 0) (f3 := .int .i64 0) (Only.refl _ _)
  have hOZ : Only (fun _ => False) w5 Z := by rw [← hZ]; exact ((Only.refl _ _).alloc _).alloc _
  rw [hZ, hB5] at hb
  have hz : Z.heap[w.heap.size]? = some (.cells (faV 0 []).cells 28 (0, 0)) := ((HO5.out.trans hOZ).block w.heap.size (by rw [HS.out]; omega) (fun hc => hc)).trans HK.out
  have hk0 : Kp Z w.heap.size B5 (.slice oN n cN) (.slice oE n cE) Z := ⟨Only.refl _ _, hz, hb.1⟩
  have hk1 : Kp Z w.heap.size B5 (.slice oN n cN) (.slice oE n cE) Z.drew := hk0.next (Only.refl _ _).drew
  obtain ⟨m0, m1, -, -, -, -, -, -, -, -⟩ := hk0.cells
  have HOZ : Hid (Only (w.heap.size ≤ ·) w Z) := Lib.hid ((HA.out.trans (HO5.out.trans hOZ)).lift)
  have HEZ : Hid (∀ x, Kp Z w.heap.size B5 (.slice oN n cN) (.slice oE n cE) x → Edg x oE n (grP l)) := Lib.hid (fun x hx => HE5.out.edg.old (hOZ.trans hx.1) (fun _ _ hc => hc))
  have HSZ : Hid (∀ x, Kp Z w.heap.size B5 (.slice oN n cN) (.slice oE n cE) x → Strz x oN n (nsP l)) := Lib.hid (fun x hx => HS5.out.strz.old (hOZ.trans hx.1) (fun _ _ hc => hc))
  have HWB : Hid (w.heap.size + 1 ≤ Z.heap.size) := Lib.hid (by have h3 := HO5.out.size; have h4 := HS.out; have h5 := hOZ.size; omega)
  have HK1 := Lib.hid hk1
  rw [hB5, hZ]
  clear hZ hb hz hOZ hB5 hk0 hk1
  go_wp2
  go_region_with
    (first | (go_at_call 27; (refine (HCO.out _ oE cE (HEZ.out _ HK1.out)).mono ?_); rintro e w6 ⟨oC, nC, cC, rfl, hC6, hnC, hO6⟩; have hk6 := HK1.out.next hO6; obtain ⟨m60, m61, -, -, -, -, -, -, -, -⟩ := hk6.cells) | (go_at_call 26; (refine (HCA.out w6 oC nC cC hC6 hnC).mono ?_); rintro e w7 ⟨oI, cI, rfl, hI7, hO7⟩; have hk7 := hk6.next hO7; obtain ⟨m70, m71, -, -, -, -, -, -, -, -⟩ := hk7.cells) | (go_at_call 25; (refine (HLI.out w7 oN cN oE cE oI cI (HSZ.out _ hk7) hI7).mono ?_); rintro e w8 ⟨oL, cL, rfl, hL8, hO8⟩; have hk8 := hk7.next hO8; obtain ⟨m80, m81, n0, z0, n1, z1, n2, z2, n3, z3⟩ := hk8.cells))
  all_goals
    have HL8 := Lib.hid hL8
    have HK8 := Lib.hid hk8
    have HS8 : Hid (Z.heap.size ≤ w7.heap.size) := Lib.hid hk7.1.size
    clear hL8 hk8 hk7 hk6 hO8 hO7 hO6 hI7 hC6 m0 m1 m60 m61 m70 m71 m80 m81 n0 z0 n1 z1 n2 z2 n3 z3
    go_wp2
    refine bodyPost_ret (v := .tuple #[.slice oL n cL, faV 0 []]) (ordRes _ _ w.heap.size _ _ _ _ _ rfl rfl ?_) rfl ?_
    · have h1 := HK8.out.2.1
      simp [World.setCell, World.drew, Array.getElem?_modify, h1]
      rfl
    · have h0 := HOZ.out.trans (HK8.out.1.lift (K := (w.heap.size ≤ ·)))
      have h1 := only4 (f0 := .int .i64 0) (f1 := .string ⟨#[]⟩) (f2 := .int .i64 0) (f3 := .int .i64 0) h0 (c := w.heap.size) (Nat.le_refl _)
      have h2 := only4 (K := fun i => i = w.heap.size) (f0 := .int .i64 0) (f1 := .string ⟨#[]⟩) (f2 := .int .i64 0) (f3 := .int .i64 0) (Only.refl _ w8) (c := w.heap.size) rfl
      have h3 := HL8.out.only h2 (fun g hg hc => by
        have h4 := (World.ownsRow.lt HL8.out g hg).1
        have h5 := HS8.out
        have h6 := HWB.out
        omega)
      have h7 := HOL.out
      have h8 := nmQ_good HF.out (L := ordM l) (oa := oL) (ca := cL) (w := w) (by rw [h7]; exact rowMono h3 (by have h5 := HS8.out; have h6 := HWB.out; omega)) ⟨h1.os, h1.tape, h1.output, h1.size, fun i hi _ => h1.block i hi (fun hc => by have hc' : w.heap.size ≤ i := hc; omega)⟩
      rw [h7] at h8
      exact h8
theorem Order_p (w : World) (oa : Option Addr) (n ca : Nat) (l : List Md) (h : Mdz w oa n l) (hok : n ≤ 32 → OkL l) : Calls Tryz.prog 10 #[.slice oa n ca] w (nmQ (accF l) (ordM l) w) := by
  cases hF : accF l with
  | none => rw [← hF]; exact Order_good w oa n ca l h hok hF
  | some x => rw [← hF]; exact Order_bad w oa n ca l h hok x.1 x.2 (by rw [hF])
end Go.Proofs.YtigmdiagdlbdpaaGreat
