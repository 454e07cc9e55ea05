/-
  WALKS. The program's list of modules without a cycle.
-/
import Derived.Test.YtigmdiagdlbdpaaGreatMgn
import Derived.Test.YtigmdiagdlbdpaaGreatMgh
namespace Go.Proofs.YtigmdiagdlbdpaaGreat
open Go.RowKit Go.Maps
/-- What a list of any length has for a fault, cycles apart; cycles too. -/
def conA (l : List Md) : Option (Nat × Nm) := if 32 < l.length then some (3, []) else conF l
def accF (l : List Md) : Option (Nat × Nm) := match conA l with
  | some x => some x
  | none => if cyP (grP l) = [] then none else some (18, nAt (nsP l) (gt (cyP (grP l)) 0))
/-- A fault, or a program; read so. -/
def prQ (F : Option (Nat × Nm)) (n : Nat) (l : List Md) (w : World) (e : Ending) (w' : World) : Prop := (match F with
    | some (c, s) => e = .returned (.tuple #[prN, faV c s])
    | none => ∃ oN cN oE cE, e = .returned (.tuple #[prV oN n cN oE n cE, faV 0 []]) ∧ SR w' w.heap.size (.slice oN n cN) (nsP l) ∧ EdgB w' w.heap.size oE n (grP l)) ∧ Only (fun _ => False) w w'
theorem prQ_bad {n c : Nat} {F : Option (Nat × Nm)} {l : List Md} {s : Nm} {w w' : World} (h : F = some (c, s)) (ho : Only (fun _ => False) w w') : prQ F n l w (.returned (.tuple #[prN, faV c s])) w' := by
  unfold prQ
  rw [h]
  exact ⟨rfl, ho⟩
theorem prQ_good {n : Nat} {F : Option (Nat × Nm)} {l : List Md} {w w' : World} (h : F = none) {oN oE : Option Addr} {cN cE : Nat} (hs : SR w' w.heap.size (.slice oN n cN) (nsP l)) (he : EdgB w' w.heap.size oE n (grP l)) (ho : Only (fun _ => False) w w') : prQ F n l w (.returned (.tuple #[prV oN n cN oE n cE, faV 0 []])) w' := by
  unfold prQ
  rw [h]
  exact ⟨⟨oN, cN, oE, cE, rfl, hs, he⟩, ho⟩
/-- Modules that the call can hold. -/
def OkL (l : List Md) : Prop := (∀ m ∈ l, SzM m) ∧ ∀ m ∈ l, m.im.length ≤ 100000
theorem consistent_any (w : World) (oa : Option Addr) (n ca : Nat) (l : List Md) (h : Mdz w oa n l) (hok : n ≤ 32 → OkL l) : Calls Tryz.prog 38 #[.slice oa n ca] w (prQ (conA l) n l w) := by
  have hl := h.len
  by_cases hn : 32 < n
  · refine (consistent_long w oa n ca hn).mono ?_
    rintro e w' ⟨rfl, ho⟩
    exact prQ_bad (by unfold conA; rw [if_pos (by omega)]) ho
  · have hc : conA l = conF l := by unfold conA; rw [if_neg (by omega)]
    rw [hc]
    exact consistent_p w oa n ca l h (by omega) (hok (by omega)).1 (hok (by omega)).2
theorem conA_pos {l : List Md} {c : Nat} {s : Nm} (h : conA l = some (c, s)) : c ≠ 0 := by
  unfold conA at h
  split at h
  · cases h; decide
  · unfold conF at h
    split at h
    · cases h; decide
    · split at h
      · cases h; decide
      · cases h
theorem conA_small {l : List Md} (h : conA l = none) : l.length ≤ 32 ∧ (l.map Md.nm).Nodup ∧ ∀ m ∈ l, ∀ s ∈ m.im, s ∈ l.map Md.nm := by
  unfold conA at h
  split at h
  · cases h
  · rename_i hn
    refine ⟨by omega, ?_⟩
    unfold conF at h
    split at h
    · cases h
    · rename_i ht
      split at h
      · cases h
      · rename_i hl
        exact ⟨(twiceP_none.1 ht).1, fun m hm s hs => nsP_mem.1 (lacksP_none.1 hl m hm s hs)⟩
theorem grP_deg (l : List Md) (h : l.length ≤ 32) : ∀ k, (lAt (grP l) k).length ≤ 1000000 := by
  have key : ∀ k i, (lAt (edP (nsP l) l k) i).length ≤ (nsP l).length := by
    intro k
    induction k with
    | zero =>
      intro i
      have : lAt (edP (nsP l) l 0) i = [] := by
        show (List.replicate _ []).getD i [] = _
        rw [List.getD_eq_getElem?_getD, List.getElem?_replicate]
        split <;> rfl
      rw [this]
      exact Nat.zero_le _
    | succ k ih =>
      intro i
      unfold edP
      by_cases hlt : nodeP (nsP l) (mdAt l k).nm < (edP (nsP l) l k).length
      · rw [lAt_set hlt]
        split
        · exact rowP_len _ _
        · exact ih i
      · rw [List.set_eq_of_length_le (by omega)]
        exact ih i
  intro k
  have := key l.length k
  rw [nsP_len] at this
  show (lAt (edP _ _ _) k).length ≤ _
  omega
set_option maxRecDepth 100000 in
theorem accRes (W : World) (T : Array Value) (B0 B1 : Nat) (v0 v1 f0 f1 f2 f3 : Value) (h0 : T[2]? = some (.pointer (some ⟨B0, 0, none⟩))) (h1 : T[3]? = some (.pointer (some ⟨B1, 0, none⟩))) (hb0 : W.heap[B0]? = some (.cells #[v0, v1] 51 (0, 0))) (hb1 : W.heap[B1]? = some (.cells #[f0, f1, f2, f3] 28 (0, 0))) : (results Tryz.f24 T).run Tryz.prog W = .ok (.tuple #[.agg #[v0, v1], .agg #[f0, f1, f2, f3]]) W := by
  have a0 : W.cell? ⟨B0, 0, none⟩ = some v0 := (blk_c (k := 0) hb0 rfl).1
  have a1 : W.cell? ⟨B0, 1, none⟩ = some v1 := (blk_c (k := 1) hb0 rfl).1
  have c0 : W.cell? ⟨B1, 0, none⟩ = some f0 := (blk_c (k := 0) hb1 rfl).1
  have c1 : W.cell? ⟨B1, 1, none⟩ = some f1 := (blk_c (k := 1) hb1 rfl).1
  have c2 : W.cell? ⟨B1, 2, none⟩ = some f2 := (blk_c (k := 2) hb1 rfl).1
  have c3 : W.cell? ⟨B1, 3, none⟩ = some f3 := (blk_c (k := 3) hb1 rfl).1
  simp [results, Tryz.results24, go_sem, h0, h1, a0, a1, c0, c1, c2, c3]
theorem b5_le {w w5 : World} {B0 : Nat} (hs : w.heap.size = B0 + 2) (ho : Only (fun _ => False) w w5) : B0 + 2 ≤ w5.heap.size := by have := ho.size; omega
theorem b5_ne {B0 B5 : Nat} (h : B0 + 2 ≤ B5) : (¬ B5 = B0) ∧ (¬ B0 = B5) ∧ (¬ B5 = B0 + 1) ∧ ¬ B0 + 1 = B5 := by omega
theorem box5 {w5 w6 : World} {v0 v1 : Value} {o : Obj} (ho : Only (fun _ => False) ((w5.alloc (.cells #[v0, v1] 51)).alloc o) w6) : w6.heap[w5.heap.size]? = some (.cells #[v0, v1] 51 (0, 0)) := by
  have h3 := new_block w5 (.cells #[v0, v1] 51)
  have t1 : (w5.alloc (.cells #[v0, v1] 51)).heap.size = w5.heap.size + 1 := by show (Array.push _ _).size = _; rw [Array.size_push]
  have h4 := ((Only.refl (fun _ => False) (w5.alloc (.cells #[v0, v1] 51))).alloc o).trans ho
  exact (h4.block w5.heap.size (by rw [t1]; omega) (fun hc => hc)).trans h3
set_option maxRecDepth 100000 in
set_option maxHeartbeats 4000000 in
theorem acyclic_bad (w : World) (oa : Option Addr) (n ca : Nat) (l : List Md) (h : Mdz w oa n l) (hok : n ≤ 32 → OkL l) (c : Nat) (s : Nm) (hF : conA l = some (c, s)) : Calls Tryz.prog 24 #[.slice oa n ca] w (prQ (accF l) n l w) := by
  have hc0 := conA_pos hF
  obtain ⟨B0, hB0⟩ : ∃ B, w.heap.size = B := ⟨_, rfl⟩
  have s1 : (w.alloc (.cells prN.cells 51)).heap.size = B0 + 1 := by rw [← hB0]; show (Array.push _ _).size = _; rw [Array.size_push]
  have s2 : ((w.alloc (.cells prN.cells 51)).alloc (.cells (faV 0 []).cells 28)).heap.size = B0 + 2 := by show (Array.push _ _).size = _; rw [Array.size_push, s1]
  have hO : Only (fun _ => False) w ((w.alloc (.cells prN.cells 51)).alloc (.cells (faV 0 []).cells 28)) := ((Only.refl _ _).alloc _).alloc _
  have HCO := consistent_any _ oa n ca l (h.old hO (fun _ _ hc => hc)) hok
  have HC : Hid (Calls Tryz.prog 38 #[.slice oa n ca] ((w.alloc (.cells prN.cells 51)).alloc (.cells (faV 0 []).cells 28)) fun e w' => e = .returned (.tuple #[prN, faV c s]) ∧ Only (fun _ => False) ((w.alloc (.cells prN.cells 51)).alloc (.cells (faV 0 []).cells 28)) w') := Lib.hid (HCO.mono (by
    intro e w' hq
    unfold prQ at hq
    rw [hF] at hq
    exact hq))
  have hk0 := new_block w (.cells prN.cells 51)
  have hk1 := new_block (w.alloc (.cells prN.cells 51)) (.cells (faV 0 []).cells 28)
  have hm0 : ((w.alloc (.cells prN.cells 51)).alloc (.cells (faV 0 []).cells 28)).heap[B0]? = some (.cells prN.cells 51 (0, 0)) := by
    rw [← hB0]
    exact (((Only.refl (fun _ => False) _).alloc (.cells (faV 0 []).cells 28)).block w.heap.size (by rw [s1]; omega) (fun hc => hc)).trans hk0
  have hm1 : ((w.alloc (.cells prN.cells 51)).alloc (.cells (faV 0 []).cells 28)).heap[B0 + 1]? = some (.cells (faV 0 []).cells 28 (0, 0)) := by
    rw [← s1]
    exact hk1
  have HM0 := Lib.hid hm0
  have HM1 := Lib.hid hm1
  have HO := Lib.hid hO
  have HS2 := Lib.hid s2
  have hci : ((c : Int) == 0) = false := by simp; omega
  have hcn : ¬ (c : Int) = 0 := by omega
  have HAF : Hid (accF l = some (c, s)) := Lib.hid (by unfold accF; rw [hF])
  clear h hO HCO hk0 hk1 hm0 hm1 s1 s2 hF
  go_enter Tryz.func24, Tryz.ntmps24
  go_wp2_with (go_at_call 38; (refine HC.out.mono ?_); rintro e w5 ⟨rfl, hO5⟩)
  obtain ⟨B5, hB5⟩ : ∃ B, w5.heap.size = B := ⟨_, rfl⟩
  have hb5 : B0 + 2 ≤ B5 := by have h3 := hO5.size; have h4 := HS2.out; omega
  have t1 : (w5.alloc (.cells #[.slice none 0 0, .slice none 0 0] 51)).heap.size = B5 + 1 := by rw [← hB5]; show (Array.push _ _).size = _; rw [Array.size_push]
  obtain ⟨Z, hZ⟩ : ∃ Z, (w5.alloc (.cells #[.slice none 0 0, .slice none 0 0] 51)).alloc (.cells #[.int .i64 c, .string ⟨s.toArray⟩, .int .i64 0, .int .i64 0] 28) = Z := ⟨_, rfl⟩
  have hO5Z : Only (fun _ => False) w5 Z := by rw [← hZ]; exact ((Only.refl _ _).alloc _).alloc _
  have hz0 : Z.heap[B0]? = some (.cells prN.cells 51 (0, 0)) := ((hO5.trans hO5Z).block B0 (lt_of_block HM0.out) (fun hc => hc)).trans HM0.out
  have hz1 : Z.heap[B0 + 1]? = some (.cells (faV 0 []).cells 28 (0, 0)) := ((hO5.trans hO5Z).block (B0 + 1) (lt_of_block HM1.out) (fun hc => hc)).trans HM1.out
  have hz5 : Z.heap[B5 + 1]? = some (.cells #[.int .i64 c, .string ⟨s.toArray⟩, .int .i64 0, .int .i64 0] 28 (0, 0)) := by rw [← hZ, ← t1]; exact new_block _ _
  obtain ⟨xa0, xz0⟩ := blk_c (k := 0) hz0 rfl
  obtain ⟨xa1, xz1⟩ := blk_c (k := 1) hz0 rfl
  obtain ⟨ya0, yz0⟩ := blk_c (k := 0) hz1 rfl
  obtain ⟨ya1, yz1⟩ := blk_c (k := 1) hz1 rfl
  obtain ⟨ya2, yz2⟩ := blk_c (k := 2) hz1 rfl
  obtain ⟨ya3, yz3⟩ := blk_c (k := 3) hz1 rfl
  have za0 := (blk_c (k := 0) hz5 rfl).1
  have za1 := (blk_c (k := 1) hz5 rfl).1
  have za2 := (blk_c (k := 2) hz5 rfl).1
  have za3 := (blk_c (k := 3) hz5 rfl).1
  have d1 : ¬ B5 + 1 = B0 := by omega
  have d2 : ¬ B0 = B5 + 1 := by omega
  have d3 : ¬ B5 + 1 = B0 + 1 := by omega
  have d4 : ¬ B0 + 1 = B5 + 1 := by omega
  have d5 : ¬ B5 = B0 := by omega
  have d6 : ¬ B0 = B5 := by omega
  have HZ0 := Lib.hid hz0
  have HZ1 := Lib.hid hz1
  have HOZ : Hid (Only (B0 ≤ ·) w Z) := Lib.hid ((HO.out.trans (hO5.trans hO5Z)).lift)
  have HB0 := Lib.hid hB0
  rw [hB5, hZ]
  clear hZ hO5Z hz0 hz1 hz5 t1 hb5 hO5 hB5 hB0
  go_wp2
  go_region
  all_goals
    go_wp2
    refine bodyPost_ret (v := .tuple #[prN, faV c s]) (accRes _ _ B0 (B0 + 1) _ _ _ _ _ _ rfl rfl ?_ ?_) rfl ?_
    · have h1 := HZ0.out
      simp [World.setCell, World.drew, Array.getElem?_modify, h1]
      rfl
    · have h1 := HZ1.out
      simp [World.setCell, World.drew, Array.getElem?_modify, h1]
      rfl
    · have h1 := only6 (v0 := .slice none 0 0) (v1 := .slice none 0 0) (f0 := .int .i64 c) (f1 := .string ⟨s.toArray⟩) (f2 := .int .i64 0) (f3 := .int .i64 0) HOZ.out (b := B0) (c := B0 + 1) (Nat.le_refl _) (Nat.le_succ _)
      exact prQ_bad HAF.out ⟨h1.os, h1.tape, h1.output, h1.size, fun i hi _ => h1.block i hi (fun hc => by have hc' : B0 ≤ i := hc; have := HB0.out; omega)⟩
set_option maxRecDepth 100000 in
set_option maxHeartbeats 4000000 in
theorem acyclic_good (w : World) (oa : Option Addr) (n ca : Nat) (l : List Md) (h : Mdz w oa n l) (hok : n ≤ 32 → OkL l) (hF : conA l = none) : Calls Tryz.prog 24 #[.slice oa n ca] w (prQ (accF l) n l w) := by
  obtain ⟨hl32, hnd, him⟩ := conA_small hF
  have hln := h.len
  obtain ⟨B0, hB0⟩ : ∃ B, w.heap.size = B := ⟨_, rfl⟩
  have s1 : (w.alloc (.cells prN.cells 51)).heap.size = B0 + 1 := by rw [← hB0]; show (Array.push _ _).size = _; rw [Array.size_push]
  have s2 : ((w.alloc (.cells prN.cells 51)).alloc (.cells (faV 0 []).cells 28)).heap.size = B0 + 2 := by show (Array.push _ _).size = _; rw [Array.size_push, s1]
  have hO : Only (fun _ => False) w ((w.alloc (.cells prN.cells 51)).alloc (.cells (faV 0 []).cells 28)) := ((Only.refl _ _).alloc _).alloc _
  have HCO := consistent_any _ oa n ca l (h.old hO (fun _ _ hc => hc)) hok
  have HC : Hid (Calls Tryz.prog 38 #[.slice oa n ca] ((w.alloc (.cells prN.cells 51)).alloc (.cells (faV 0 []).cells 28)) fun e w' => ∃ oN cN oE cE, (e = .returned (.tuple #[prV oN n cN oE n cE, faV 0 []]) ∧ SR w' (B0 + 2) (.slice oN n cN) (nsP l) ∧ EdgB w' (B0 + 2) oE n (grP l)) ∧ Only (fun _ => False) ((w.alloc (.cells prN.cells 51)).alloc (.cells (faV 0 []).cells 28)) w') := Lib.hid (HCO.mono (by
    intro e w' hq
    unfold prQ at hq
    rw [hF] at hq
    obtain ⟨⟨oN, cN, oE, cE, h1, h2, h3⟩, h4⟩ := hq
    rw [s2] at h2 h3
    exact ⟨oN, cN, oE, cE, ⟨h1, h2, h3⟩, h4⟩))
  have hk0 := new_block w (.cells prN.cells 51)
  have hk1 := new_block (w.alloc (.cells prN.cells 51)) (.cells (faV 0 []).cells 28)
  have hm0 : ((w.alloc (.cells prN.cells 51)).alloc (.cells (faV 0 []).cells 28)).heap[B0]? = some (.cells prN.cells 51 (0, 0)) := by
    rw [← hB0]
    exact (((Only.refl (fun _ => False) _).alloc (.cells (faV 0 []).cells 28)).block w.heap.size (by rw [s1]; omega) (fun hc => hc)).trans hk0
  have hm1 : ((w.alloc (.cells prN.cells 51)).alloc (.cells (faV 0 []).cells 28)).heap[B0 + 1]? = some (.cells (faV 0 []).cells 28 (0, 0)) := by
    rw [← s1]
    exact hk1
  have HM0 := Lib.hid hm0
  have HM1 := Lib.hid hm1
  have HO := Lib.hid hO
  have HS2 := Lib.hid s2
  have hGV := grP_valid l
  have hGD := grP_deg l hl32
  have hGL := grP_len l
  have hNL := nsP_len l
  have hCY : ∀ x ∈ cyP (grP l), x < n := fun x hx => by
    have hne : cyP (grP l) ≠ [] := fun e => by rw [e] at hx; cases hx
    obtain ⟨i, hi, e⟩ := List.getElem_of_mem hx
    have h5 := (cyP_cyc hGV hne).lt i hi
    rw [gt_at hi, e] at h5
    omega
  have hAF : accF l = if cyP (grP l) = [] then none else some (18, nAt (nsP l) (gt (cyP (grP l)) 0)) := by unfold accF; rw [hF]
  obtain ⟨C, hC⟩ : ∃ C, cyP (grP l) = C := ⟨_, rfl⟩
  have HSC : Hid (∀ wx oE cE, Edg wx oE n (grP l) → Calls Tryz.prog 39 #[.agg #[.slice oE n cE]] wx fun e w' => ∃ oa ca, e = .returned (.slice oa C.length ca) ∧ IR w' wx.heap.size (.slice oa C.length ca) C ∧ Only (fun _ => False) wx w') := Lib.hid (fun wx oE cE he => by rw [← hC]; exact smallestCycle_p wx oE n cE (grP l) he hGV (by omega) hGD)
  rw [hC] at hAF hCY
  have HAF := Lib.hid hAF
  have HCY := Lib.hid hCY
  clear h hO HCO hk0 hk1 hm0 hm1 s1 s2 hF
  clear hAF hCY hGV hGD
  have HB0 := Lib.hid hB0
  by_cases hCe : C = []
  · have HCE := Lib.hid hCe
    have hcl : C.length = 0 := by rw [hCe]; rfl
    rw [hcl] at HSC
    clear hCe hC hcl
    go_enter Tryz.func24, Tryz.ntmps24
    go_wp2_with (first | (go_at_call 38; (refine HC.out.mono ?_); rintro e w5 ⟨oN, cN, oE, cE, ⟨rfl, hS5, hE5⟩, hO5⟩; have HS5 := Lib.hid hS5; have HE5 := Lib.hid hE5; clear hS5 hE5) | (go_at_call 39; (refine (HSC.out _ oE cE (HE5.out.edg.old (((Only.refl (fun _ => False) w5).alloc _).alloc _) (fun _ _ hc => hc))).mono ?_); rintro e w6 ⟨oC, cC, rfl, hC6, hO6⟩; have hO56 : Only (fun _ => False) w5 w6 := (((Only.refl (fun _ => False) w5).alloc (.cells #[.slice oN n cN, .slice oE n cE] 51)).alloc (.cells #[.int .i64 0, .string ⟨#[]⟩, .int .i64 0, .int .i64 0] 28)).trans hO6; have hz0 : w6.heap[B0]? = some (.cells prN.cells 51 (0, 0)) := ((hO5.trans hO56).block B0 (lt_of_block HM0.out) (fun hc => hc)).trans HM0.out; have hz1 : w6.heap[B0 + 1]? = some (.cells (faV 0 []).cells 28 (0, 0)) := ((hO5.trans hO56).block (B0 + 1) (lt_of_block HM1.out) (fun hc => hc)).trans HM1.out; have hz5 := box5 hO6; have hb5 := b5_le HS2.out hO5; obtain ⟨xa0, xz0⟩ := blk_c (k := 0) hz0 rfl; obtain ⟨xa1, xz1⟩ := blk_c (k := 1) hz0 rfl; obtain ⟨ya0, yz0⟩ := blk_c (k := 0) hz1 rfl; obtain ⟨ya1, yz1⟩ := blk_c (k := 1) hz1 rfl; obtain ⟨ya2, yz2⟩ := blk_c (k := 2) hz1 rfl; obtain ⟨ya3, yz3⟩ := blk_c (k := 3) hz1 rfl; have za0 := (blk_c (k := 0) hz5 rfl).1; have za1 := (blk_c (k := 1) hz5 rfl).1; obtain ⟨d5, d6, d7, d8⟩ := b5_ne hb5; have HZ0 := Lib.hid hz0; have HZ1 := Lib.hid hz1; have HOZ : Hid (Only (B0 ≤ ·) w w6) := Lib.hid ((HO.out.trans (hO5.trans hO56)).lift); have HOP := Lib.hid hO56; have HBB := Lib.hid hb5; have HC6 := Lib.hid hC6; clear hz0 hz1 hz5 hO6 hO56 hb5 hC6))
    refine bodyPost_ret (v := .tuple #[prV oN n cN oE n cE, faV 0 []]) (accRes _ _ B0 (B0 + 1) _ _ _ _ _ _ rfl rfl ?_ ?_) rfl ?_
    · have h1 := HZ0.out
      simp [World.setCell, Array.getElem?_modify, h1]
      rfl
    · have h1 := HZ1.out
      simp [World.setCell, Array.getElem?_modify, h1]
      rfl
    · have h1 := only6b (v0 := .slice oN n cN) (v1 := .slice oE n cE) (f0 := .int .i64 0) (f1 := .string ⟨#[]⟩) (f2 := .int .i64 0) (f3 := .int .i64 0) HOZ.out (b := B0) (c := B0 + 1) (Nat.le_refl _) (Nat.le_succ _)
      have h2 := only6b (K := fun i => i = B0 ∨ i = B0 + 1) (v0 := .slice oN n cN) (v1 := .slice oE n cE) (f0 := .int .i64 0) (f1 := .string ⟨#[]⟩) (f2 := .int .i64 0) (f3 := .int .i64 0) (Only.refl _ w6) (b := B0) (c := B0 + 1) (.inl rfl) (.inr rfl)
      refine prQ_good (by rw [HAF.out, if_pos HCE.out]) ?_ ?_ ⟨h1.os, h1.tape, h1.output, h1.size, fun i hi _ => h1.block i hi (fun hc => by have hc' : B0 ≤ i := hc; have := HB0.out; omega)⟩
      · exact rowMono ((HS5.out.only HOP.out (fun _ _ hc => hc)).only h2 (fun g hg hc => by have h3 := (World.ownsRow.lt HS5.out g hg).1; rcases hc with hc | hc <;> omega)) (by have := HB0.out; omega)
      · exact ((HE5.out.old HOP.out (fun _ _ _ hc => hc)).old h2 (fun i hi _ hc => by rcases hc with hc | hc <;> omega)).mono (by have := HB0.out; omega)
  · have HCE := Lib.hid hCe
    have hcl : 0 < C.length := List.length_pos_iff.2 hCe
    have hci : (0 : Int) < (C.length : Int) := by omega
    clear hCe hC
    go_enter Tryz.func24, Tryz.ntmps24
    go_wp2_with (first | (go_at_call 38; (refine HC.out.mono ?_); rintro e w5 ⟨oN, cN, oE, cE, ⟨rfl, hS5, hE5⟩, hO5⟩; have HS5 := Lib.hid hS5; have HE5 := Lib.hid hE5; clear hS5 hE5) | (go_at_call 39; (refine (HSC.out _ oE cE (HE5.out.edg.old (((Only.refl (fun _ => False) w5).alloc _).alloc _) (fun _ _ hc => hc))).mono ?_); rintro e w6 ⟨oC, cC, rfl, hC6, hO6⟩; have hO56 : Only (fun _ => False) w5 w6 := (((Only.refl (fun _ => False) w5).alloc (.cells #[.slice oN n cN, .slice oE n cE] 51)).alloc (.cells #[.int .i64 0, .string ⟨#[]⟩, .int .i64 0, .int .i64 0] 28)).trans hO6; have hz0 : w6.heap[B0]? = some (.cells prN.cells 51 (0, 0)) := ((hO5.trans hO56).block B0 (lt_of_block HM0.out) (fun hc => hc)).trans HM0.out; have hz1 : w6.heap[B0 + 1]? = some (.cells (faV 0 []).cells 28 (0, 0)) := ((hO5.trans hO56).block (B0 + 1) (lt_of_block HM1.out) (fun hc => hc)).trans HM1.out; have hz5 := box5 hO6; have hb5 := b5_le HS2.out hO5; obtain ⟨xa0, xz0⟩ := blk_c (k := 0) hz0 rfl; obtain ⟨xa1, xz1⟩ := blk_c (k := 1) hz0 rfl; obtain ⟨ya0, yz0⟩ := blk_c (k := 0) hz1 rfl; obtain ⟨ya1, yz1⟩ := blk_c (k := 1) hz1 rfl; obtain ⟨ya2, yz2⟩ := blk_c (k := 2) hz1 rfl; obtain ⟨ya3, yz3⟩ := blk_c (k := 3) hz1 rfl; have za0 := (blk_c (k := 0) hz5 rfl).1; have za1 := (blk_c (k := 1) hz5 rfl).1; obtain ⟨d5, d6, d7, d8⟩ := b5_ne hb5; have HZ0 := Lib.hid hz0; have HZ1 := Lib.hid hz1; have HOZ : Hid (Only (B0 ≤ ·) w w6) := Lib.hid ((HO.out.trans (hO5.trans hO56)).lift); have HOP := Lib.hid hO56; have HBB := Lib.hid hb5; have HC6 := Lib.hid hC6; clear hz0 hz1 hz5 hO6 hO56 hb5 hC6))
    have hC6 := HC6.out
    obtain ⟨g, hg, hgB, -, -, gc, -⟩ := hC6.at (k := 0) hcl
    subst hg
    have hgB' : w5.heap.size + 2 ≤ g := by
      have h3 : ((w5.alloc (.cells #[.slice oN n cN, .slice oE n cE] 51)).alloc (.cells #[.int .i64 0, .string ⟨#[]⟩, .int .i64 0, .int .i64 0] 28)).heap.size = w5.heap.size + 2 := by show (Array.push _ _).size = _; rw [Array.size_push]; show (Array.push _ _).size + 1 = _; rw [Array.size_push]
      rw [← h3]
      exact hgB
    have hx : gt C 0 < n := HCY.out _ (by rw [gt_at hcl]; exact List.getElem_mem hcl)
    obtain ⟨x, hxe⟩ : ∃ x, gt C 0 = x := ⟨_, rfl⟩
    rw [hxe] at gc hx
    have hS6 := HS5.out.only HOP.out (fun _ _ hc => hc)
    obtain ⟨b2, o2, e2, c2⟩ := hS6.strz.cell x (by omega)
    subst e2
    have hb2 : B0 + 2 ≤ b2 := (World.ownsRow.lt hS6 b2 rfl).1
    obtain ⟨y, hy⟩ : ∃ y, nAt (nsP l) x = y := ⟨_, rfl⟩
    rw [hy] at c2
    have HXE := Lib.hid hxe
    have HYE := Lib.hid hy
    have hbb := HBB.out
    have e1 : ¬ b2 = B0 := by omega
    have e2 : ¬ B0 = b2 := by omega
    have e3 : ¬ b2 = B0 + 1 := by omega
    have e4 : ¬ B0 + 1 = b2 := by omega
    have e5 : ¬ g = B0 := by omega
    have e6 : ¬ B0 = g := by omega
    have e7 : ¬ g = B0 + 1 := by omega
    have e8 : ¬ B0 + 1 = g := by omega
    have h14 : (0 : Int) ≤ (x : Int) := Int.natCast_nonneg x
    have h15 : (x : Int) < (n : Int) := by omega
    have h16 : (x : Int).toNat = x := Int.toNat_natCast x
    clear hxe hy hC6 hS6 hgB hgB' hbb hb2
    go_wp2
    go_region
    all_goals
      go_wp2
      refine bodyPost_ret (v := .tuple #[prN, faV 18 y]) (accRes _ _ B0 (B0 + 1) _ _ _ _ _ _ rfl rfl ?_ ?_) rfl ?_
      · have h1 := HZ0.out
        simp [World.setCell, World.drew, Array.getElem?_modify, h1]
        rfl
      · have h1 := HZ1.out
        simp [World.setCell, World.drew, Array.getElem?_modify, h1]
        rfl
      · have h1 := only6 (v0 := .slice none 0 0) (v1 := .slice none 0 0) (f0 := .int .i64 18) (f1 := .string ⟨y.toArray⟩) (f2 := .int .i64 0) (f3 := .int .i64 0) HOZ.out (b := B0) (c := B0 + 1) (Nat.le_refl _) (Nat.le_succ _)
        exact prQ_bad (by rw [HAF.out, if_neg HCE.out, HXE.out, HYE.out]) ⟨h1.os, h1.tape, h1.output, h1.size, fun i hi _ => h1.block i hi (fun hc => by have hc' : B0 ≤ i := hc; have := HB0.out; omega)⟩
theorem acyclic_p (w : World) (oa : Option Addr) (n ca : Nat) (l : List Md) (h : Mdz w oa n l) (hok : n ≤ 32 → OkL l) : Calls Tryz.prog 24 #[.slice oa n ca] w (prQ (accF l) n l w) := by
  cases hF : conA l with
  | none => exact acyclic_good w oa n ca l h hok hF
  | some x => exact acyclic_bad w oa n ca l h hok x.1 x.2 (by rw [hF])
theorem accF_none {l : List Md} (h : accF l = none) : l.length ≤ 32 ∧ Good l := by
  unfold accF at h
  cases hF : conA l with
  | some x => rw [hF] at h; cases h
  | none =>
    rw [hF] at h
    simp only at h
    obtain ⟨h1, h2, h3⟩ := conA_small hF
    refine ⟨h1, h2, h3, ?_⟩
    split at h
    · assumption
    · cases h
end Go.Proofs.YtigmdiagdlbdpaaGreat
