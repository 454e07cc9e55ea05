/-
  WALKS. The program's choices of edges.
  WALKS. The program's related: its faults.
  PLAIN. Ways in the edges turned around.
-/
import Derived.Test.YtigmdiagdlbdpaaGreatMgu
namespace Go.Proofs.YtigmdiagdlbdpaaGreat
open Go.RowKit Go.Maps
set_option maxRecDepth 100000 in
theorem needsEdges_p (w : World) (oN oE : Option Addr) (n cN cE : Nat) : Calls Tryz.prog 33 #[prV oN n cN oE n cE] w fun e w' => e = .returned (.agg #[.slice oE n cE]) ∧ Only (fun _ => False) w w' := by
  go_enter Tryz.func33, Tryz.ntmps33
  go_wp2
  have s1 : (w.alloc (.cells #[.slice oN n cN, .slice oE n cE] 51)).heap.size = w.heap.size + 1 := by show (Array.push _ _).size = _; rw [Array.size_push]
  have h1 := (blk_c (k := 0) (new_at (.cells #[.slice oE n cE] 49) s1) rfl).1
  exact bodyPost_ret (v := .agg #[.slice oE n cE]) (by simp [results, Tryz.results33, go_sem, h1]) rfl ⟨rfl, ((Only.refl _ _).alloc _).alloc _⟩
set_option maxRecDepth 100000 in
theorem usersEdges_p (w : World) (oN : Option Addr) (cN : Nat) (oE : Option Addr) (n cE : Nat) (G : List (List Nat)) (h : Edg w oE n G) (hG : ValidG G) (hn : n ≤ 1000) (hr : ∀ k, (lAt G k).length ≤ 1000) : Calls Tryz.prog 36 #[prV oN n cN oE n cE] w fun e w' => ∃ oa ca, e = .returned (.agg #[.slice oa n ca]) ∧ Edg w' oa n (rvG G) ∧ Only (fun _ => False) w w' := by
  obtain ⟨W, hW⟩ : ∃ W, W = ((w.alloc (.cells #[.slice oN n cN, .slice oE n cE] 51)).alloc (.cells #[.slice none 0 0] 49)) := ⟨_, rfl⟩
  have s1 : (w.alloc (.cells #[.slice oN n cN, .slice oE n cE] 51)).heap.size = w.heap.size + 1 := by show (Array.push _ _).size = _; rw [Array.size_push]
  have hO : Only (fun _ => False) w W := by rw [hW]; exact ((Only.refl _ _).alloc _).alloc _
  have hb : W.heap[w.heap.size + 1]? = some (.cells #[.slice none 0 0] 49 (0, 0)) := by rw [hW]; exact new_at _ s1
  have HR := Lib.hid (reversed_p W oE n cE G (h.old hO (fun _ _ hc => hc)) hG hn hr)
  have HO := Lib.hid hO
  have HB := Lib.hid hb
  clear h hG hr hO s1 hb
  go_enter Tryz.func36, Tryz.ntmps36
  go_wp2_with (go_at_call 37; rw [← hW]; (refine HR.out.mono ?_); rintro e w5 ⟨oa, ca, rfl, hE5, hO5⟩; have HE5 := Lib.hid hE5; have HO5 := Lib.hid hO5; have hb5 := (hO5.block _ (lt_of_block HB.out) (fun hc => hc)).trans HB.out; obtain ⟨q1, z1⟩ := blk_c (k := 0) hb5 rfl; clear hE5 hO5)
  have hs1 : Only (· = w.heap.size + 1) w5 (w5.setCell ⟨w.heap.size + 1, 0, none⟩ (.slice oa n ca)) := Only.setCell (K := (· = w.heap.size + 1)) (Only.refl _ _) rfl _
  have h6 := HO.out.trans HO5.out
  have hend := (HE5.out.old hs1 (fun g hg _ e => by have e' : g = w.heap.size + 1 := e; have := lt_of_block HB.out; omega)).edg
  have h1 : (w5.setCell ⟨w.heap.size + 1, 0, none⟩ (.slice oa n ca)).cell? ⟨w.heap.size + 1, 0, none⟩ = some (.slice oa n ca) := by
    refine (blk_c (k := 0) (t := 49) (cs := #[.slice oa n ca]) ?_ rfl).1
    simp [World.setCell, Array.getElem?_modify, hb5]
  exact bodyPost_ret (v := .agg #[.slice oa n ca]) (by simp [results, Tryz.results36, go_sem, h1]) rfl ⟨oa, ca, rfl, hend, h6.os, h6.tape, h6.output, Nat.le_trans h6.size hs1.size, fun i hi _ => (hs1.block i (by have := h6.size; omega) (fun e => by have e' : i = w.heap.size + 1 := e; omega)).trans (h6.block i hi (fun hc => hc))⟩
end Go.Proofs.YtigmdiagdlbdpaaGreat
namespace Go.Proofs.YtigmdiagdlbdpaaGreat
open Go.RowKit Go.Maps
set_option maxRecDepth 100000 in
theorem relRes (W : World) (T : Array Value) (B1 : Nat) (v f0 f1 f2 f3 : Value) (h0 : T[6]? = some v) (h1 : T[7]? = some (.pointer (some ⟨B1, 0, none⟩))) (hb1 : W.heap[B1]? = some (.cells #[f0, f1, f2, f3] 28 (0, 0))) : (results Tryz.f32 T).run Tryz.prog W = .ok (.tuple #[v, .agg #[f0, f1, f2, f3]]) W := by
  have c0 : W.cell? ⟨B1, 0, none⟩ = some f0 := (blk_c (k := 0) hb1 rfl).1
  have c1 : W.cell? ⟨B1, 1, none⟩ = some f1 := (blk_c (k := 1) hb1 rfl).1
  have c2 : W.cell? ⟨B1, 2, none⟩ = some f2 := (blk_c (k := 2) hb1 rfl).1
  have c3 : W.cell? ⟨B1, 3, none⟩ = some f3 := (blk_c (k := 3) hb1 rfl).1
  simp [results, Tryz.results32, go_sem, h0, h1, c0, c1, c2, c3]
set_option maxRecDepth 100000 in
set_option maxHeartbeats 2000000 in
theorem related_bad (w : World) (oa : Option Addr) (n ca : Nat) (l : List Md) (nm : Nm) (fv : Value) (h : Mdz w oa n l) (hok : n ≤ 32 → OkL l) (c : Nat) (s : Nm) (hF : accF l = some (c, s)) : Calls Tryz.prog 32 #[.slice oa n ca, encStr nm, fv] w fun e w' => e = .returned (.tuple #[.slice none 0 0, faV c s]) ∧ Only (fun _ => False) w w' := by
  have hc0 := accF_pos hF
  have hA : Only (fun _ => False) w (w.alloc (.cells (faV 0 []).cells 28)) := (Only.refl _ _).alloc _
  have s1 : (w.alloc (.cells (faV 0 []).cells 28)).heap.size = w.heap.size + 1 := by show (Array.push _ _).size = _; rw [Array.size_push]
  have hk := new_block w (.cells (faV 0 []).cells 28)
  have HC : Hid (Calls Tryz.prog 24 #[.slice oa n ca] (w.alloc (.cells (faV 0 []).cells 28)) fun e w' => e = .returned (.tuple #[prN, faV c s]) ∧ Only (fun _ => False) (w.alloc (.cells (faV 0 []).cells 28)) w') := Lib.hid ((acyclic_p _ oa n ca l (h.old hA (fun _ _ hc => hc)) hok).mono (by
    intro e w' hq
    unfold prQ at hq
    rw [hF] at hq
    exact hq))
  have HK := Lib.hid hk
  have HA := Lib.hid hA
  have HS := Lib.hid s1
  have HF := Lib.hid hF
  have hci : ((c : Int) == 0) = false := by simp; omega
  have hcn : ¬ (c : Int) = 0 := by omega
  clear h hok hk hA s1 hF
  go_enter Tryz.func32, Tryz.ntmps32
  go_wp2_with (go_at_call 24; (refine HC.out.mono ?_); rintro e w5 ⟨rfl, hO5⟩; have HO5 := Lib.hid hO5; clear hO5)
  obtain ⟨Z, hZ⟩ : ∃ Z, (w5.alloc (.cells #[.slice none 0 0, .slice none 0 0] 51)).alloc (.cells #[.int .i64 c, .string ⟨s.toArray⟩, .int .i64 0, .int .i64 0] 28) = Z := ⟨_, rfl⟩
  have hb := boxes (w5 := w5) (v0 := .slice none 0 0) (v1 := .slice none 0 0) (f0 := .int .i64 c) (f1 := .string ⟨s.toArray⟩) (f2 := .int .i64 0) (f3 := .int .i64 0) (Only.refl _ _)
  have hOZ : Only (fun _ => False) w5 Z := by rw [← hZ]; exact ((Only.refl _ _).alloc _).alloc _
  rw [hZ] at hb
  have hz : Z.heap[w.heap.size]? = some (.cells (faV 0 []).cells 28 (0, 0)) := ((HO5.out.trans hOZ).block w.heap.size (by rw [HS.out]; omega) (fun hc => hc)).trans HK.out
  obtain ⟨ya0, yz0⟩ := blk_c (k := 0) hz rfl
  obtain ⟨ya1, yz1⟩ := blk_c (k := 1) hz rfl
  obtain ⟨ya2, yz2⟩ := blk_c (k := 2) hz rfl
  obtain ⟨ya3, yz3⟩ := blk_c (k := 3) hz rfl
  have za0 := (blk_c (k := 0) hb.2 rfl).1
  have za1 := (blk_c (k := 1) hb.2 rfl).1
  have za2 := (blk_c (k := 2) hb.2 rfl).1
  have za3 := (blk_c (k := 3) hb.2 rfl).1
  have hsz : w.heap.size + 1 ≤ w5.heap.size := by have h3 := HO5.out.size; have h4 := HS.out; omega
  have d1 : ¬ w5.heap.size + 1 = w.heap.size := by omega
  have d2 : ¬ w.heap.size = w5.heap.size + 1 := by omega
  have HZ := Lib.hid hz
  have HOZ : Hid (Only (w.heap.size ≤ ·) w Z) := Lib.hid ((HA.out.trans (HO5.out.trans hOZ)).lift)
  rw [hZ]
  clear hZ hb hz hOZ hsz
  go_wp2
  go_region
  all_goals
    go_wp2
    refine bodyPost_ret (v := .tuple #[.slice none 0 0, faV c s]) (relRes _ _ w.heap.size _ _ _ _ _ rfl rfl ?_) rfl ?_
    · have h1 := HZ.out
      simp [World.setCell, World.drew, Array.getElem?_modify, h1]
      rfl
    · have h1 := (only4 (f0 := .int .i64 c) (f1 := .string ⟨s.toArray⟩) (f2 := .int .i64 0) (f3 := .int .i64 0) HOZ.out (c := w.heap.size) (Nat.le_refl _)).drew
      exact ⟨rfl, h1.os, h1.tape, h1.output, h1.size, fun i hi _ => h1.block i hi (fun hc => by have hc' : w.heap.size ≤ i := hc; omega)⟩
set_option maxRecDepth 100000 in
set_option maxHeartbeats 4000000 in
theorem related_lack (w : World) (oa : Option Addr) (n ca : Nat) (l : List Md) (nm : Nm) (fv : Value) (h : Mdz w oa n l) (hok : n ≤ 32 → OkL l) (hF : accF l = none) (hnm : nm ∉ nsP l) : Calls Tryz.prog 32 #[.slice oa n ca, encStr nm, fv] w fun e w' => e = .returned (.tuple #[.slice none 0 0, faV 16 nm]) ∧ Only (fun _ => False) w w' := by
  obtain ⟨hl32, hgood⟩ := accF_none hF
  have hln := h.len
  have hA : Only (fun _ => False) w (w.alloc (.cells (faV 0 []).cells 28)) := (Only.refl _ _).alloc _
  have s1 : (w.alloc (.cells (faV 0 []).cells 28)).heap.size = w.heap.size + 1 := by show (Array.push _ _).size = _; rw [Array.size_push]
  have hk := new_block w (.cells (faV 0 []).cells 28)
  have HC : Hid (Calls Tryz.prog 24 #[.slice oa n ca] (w.alloc (.cells (faV 0 []).cells 28)) fun e w' => ∃ oN cN oE cE, (e = .returned (.tuple #[prV oN n cN oE n cE, faV 0 []]) ∧ SR w' (w.heap.size + 1) (.slice oN n cN) (nsP l) ∧ EdgB w' (w.heap.size + 1) oE n (grP l)) ∧ Only (fun _ => False) (w.alloc (.cells (faV 0 []).cells 28)) w') := Lib.hid ((acyclic_p _ oa n ca l (h.old hA (fun _ _ hc => hc)) hok).mono (by
    intro e w' hq
    unfold prQ at hq
    rw [hF] at hq
    obtain ⟨⟨oN, cN, oE, cE, h1, h2, h3⟩, h4⟩ := hq
    rw [s1] at h2 h3
    exact ⟨oN, cN, oE, cE, ⟨h1, h2, h3⟩, h4⟩))
  have HND : Hid (∀ wx oN cN oE cE, Strz wx oN n (nsP l) → Calls Tryz.prog 49 #[prV oN n cN oE n cE, encStr nm] wx fun e w' => ∃ i : Nat, e = .returned (.tuple #[.int .i64 i, .bool false]) ∧ Only (fun _ => False) wx w') := Lib.hid (fun wx oN cN oE cE hs => (node_p wx oN n cN oE n cE (nsP l) hs (nsP_sorted hgood.nd) (by omega) nm).mono (by
    rintro e w' ⟨i, h1, -, h2⟩
    rw [show decide (nm ∈ nsP l) = false from decide_eq_false hnm] at h1
    exact ⟨i, h1, h2⟩))
  have HK := Lib.hid hk
  have HA := Lib.hid hA
  have HS := Lib.hid s1
  clear h hok hk hA s1 hF hgood hnm
  go_enter Tryz.func32, Tryz.ntmps32
  go_wp2_with (first | (go_at_call 24; (refine HC.out.mono ?_); rintro e w5 ⟨oN, cN, oE, cE, ⟨rfl, hS5, hE5⟩, hO5⟩; have HO5 := Lib.hid hO5; have HS5 := Lib.hid hS5; clear hO5 hS5 hE5) | (go_at_call 49; (refine (HND.out _ oN cN oE cE (HS5.out.strz.old (((Only.refl (fun _ => False) w5).alloc _).alloc _) (fun _ _ hc => hc))).mono ?_); rintro e w6 ⟨i6, rfl, hO6⟩; have HO6 := Lib.hid (((((Only.refl (fun _ => False) w5).alloc _).alloc _).trans hO6).alloc (.cells #[.int .i64 i6] 3)); have hz6 := ((HO5.out.trans HO6.out).block w.heap.size (by rw [HS.out]; omega) (fun hc => hc)).trans HK.out; obtain ⟨ya0, yz0⟩ := blk_c (k := 0) hz6 rfl; obtain ⟨ya1, yz1⟩ := blk_c (k := 1) hz6 rfl; obtain ⟨ya2, yz2⟩ := blk_c (k := 2) hz6 rfl; obtain ⟨ya3, yz3⟩ := blk_c (k := 3) hz6 rfl; have HZ := Lib.hid hz6; clear hO6 hz6))
  all_goals
    refine bodyPost_ret (v := .tuple #[.slice none 0 0, faV 16 nm]) (relRes _ _ w.heap.size _ _ _ _ _ rfl rfl ?_) rfl ?_
    · have h1 := HZ.out
      simp [World.setCell, World.drew, Array.getElem?_modify, h1]
      rfl
    · have h1 := only4 (f0 := .int .i64 16) (f1 := encStr nm) (f2 := .int .i64 0) (f3 := .int .i64 0) (((HA.out.trans (HO5.out.trans HO6.out)).lift (K := (w.heap.size ≤ ·)))) (c := w.heap.size) (Nat.le_refl _)
      exact ⟨rfl, h1.os, h1.tape, h1.output, h1.size, fun i hi _ => h1.block i hi (fun hc => by have hc' : w.heap.size ≤ i := hc; omega)⟩
end Go.Proofs.YtigmdiagdlbdpaaGreat
namespace Go.Proofs.YtigmdiagdlbdpaaGreat
open Go.RowKit Go.Maps
theorem re_turn_to {G : List (List Nat)} (hG : ValidG G) {x y : Nat} (h : Re (rvG G) x y) : Re G y x := by
  induction h with
  | refl => exact Re.refl _
  | step _ e ih =>
    obtain ⟨k, hk⟩ := nx_mem.2 ((mem_rvG hG).1 (nx_mem.1 ⟨_, e⟩))
    exact (Re.one hk).trans ih
theorem re_turn_of {G : List (List Nat)} (hG : ValidG G) {x y : Nat} (h : Re G y x) : Re (rvG G) x y := by
  induction h with
  | refl => exact Re.refl _
  | step _ e ih =>
    obtain ⟨k, hk⟩ := nx_mem.2 ((mem_rvG hG).2 (nx_mem.1 ⟨_, e⟩))
    exact (Re.one hk).trans ih
/-- A way in the edges turned around is a way back. -/
theorem re_turn {G : List (List Nat)} (hG : ValidG G) {x y : Nat} : Re (rvG G) x y ↔ Re G y x := ⟨re_turn_to hG, re_turn_of hG⟩
theorem okN_lt {n i : Nat} (h : i < n) : okN n (i : Int) = true := by unfold okN; simp; omega
/-- What Reach gives: the nodes that a way leads to. -/
theorem mem_reachL {G : List (List Nat)} (hG : ValidG G) {i x : Nat} (hi : i < G.length) : x ∈ reachL (intE G) (i : Int) ↔ x < G.length ∧ Re G i x := by
  unfold reachL
  rw [validE_intE (valid_rows hG), natE_intE, intE_len, okN_lt hi, Int.toNat_natCast]
  show x ∈ reachTo (numbersS G [i]) G.length ↔ _
  unfold reachTo
  have hN := nums_ok hG [i] (fun v hv => by rw [List.mem_singleton.1 hv]; exact hi)
  rw [List.mem_filter, List.mem_range]
  have h1 : (gt (numbersS G [i]) x != 0) = true ↔ Re G i x := by
    rw [bne_iff_ne, hN.reach x]
    exact ⟨fun ⟨v, hv, h⟩ => by rw [List.mem_singleton.1 hv] at h; exact h, fun h => ⟨i, List.mem_singleton.2 rfl, h⟩⟩
  rw [h1]
/-- Who uses whom is who needs whom, turned around. -/
theorem reach_dual {G : List (List Nat)} (hG : ValidG G) {i j : Nat} (hi : i < G.length) (hj : j < G.length) : i ∈ reachL (intE (rvG G)) (j : Int) ↔ j ∈ reachL (intE G) (i : Int) := by
  rw [mem_reachL (rvG_valid hG) (by rw [rvG_len]; exact hj), mem_reachL hG hi, rvG_len, re_turn hG]
  exact ⟨fun h => ⟨hj, h.2⟩, fun h => ⟨hi, h.2⟩⟩
end Go.Proofs.YtigmdiagdlbdpaaGreat
