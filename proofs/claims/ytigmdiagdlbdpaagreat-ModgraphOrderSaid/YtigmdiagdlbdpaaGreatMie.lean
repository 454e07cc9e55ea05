/-
  PLAIN. What the reference reaches, whom it finds, is what the program has.
  WALKS. The reference: fault, named.
  WALKS. The reference: reach, Needs, Users.
  WALKS. The reference: Needs, Users.
  WALKS. small; ModgraphCycle.
  WALKS. The reference: Needs, Users, for all lists; ModgraphNeeds.
-/
import Derived.Test.YtigmdiagdlbdpaaGreatMhr
import Derived.Test.YtigmdiagdlbdpaaGreatMhg
import Derived.Test.YtigmdiagdlbdpaaGreatMhk
import Derived.Deep.RegionHeld
namespace Go.Proofs.YtigmdiagdlbdpaaGreat
theorem filt_lt {p q : Nat → Bool} {l : List Nat} (h : ∀ x ∈ l, p x = true → q x = true) (hx : ∃ x ∈ l, q x = true ∧ ¬ p x = true) : (l.filter p).length < (l.filter q).length := by
  have e : l.filter p = (l.filter q).filter p := by
    rw [List.filter_filter]
    apply List.filter_congr
    intro x hx
    cases hp : p x with
    | false => simp
    | true => simp [h x hx hp]
  rw [e, List.length_filter_lt_length_iff_exists]
  obtain ⟨x, h1, h2, h3⟩ := hx
  exact ⟨x, List.mem_filter.2 ⟨h1, h2⟩, h3⟩
theorem reachL_filt {G : List (List Nat)} (hG : ValidG G) {i : Nat} (hi : i < G.length) : reachL (intE G) (i : Int) = (List.range G.length).filter (fun v => gt (numbersS G [i]) v != 0) := by
  unfold reachL
  rw [validE_intE (valid_rows hG), natE_intE, intE_len, okN_lt hi, Int.toNat_natCast]
  rfl
theorem reachL_asc {G : List (List Nat)} (hG : ValidG G) {i : Nat} (hi : i < G.length) : (reachL (intE G) (i : Int)).Pairwise (· < ·) := by
  rw [reachL_filt hG hi]
  exact List.Pairwise.filter _ List.pairwise_lt_range
/-- How much a node reaches: less along an edge, without a cycle. -/
def muG (G : List (List Nat)) (i : Nat) : Nat := (reachL (intE G) (i : Int)).length
theorem muG_lt {G : List (List Nat)} (hG : ValidG G) (hno : ∀ k, k < G.length → ¬ Onc G k) {x y : Nat} (hx : x < G.length) (hy : y ∈ lAt G x) : muG G y < muG G x := by
  have hyl := row_valid hG hy
  have hxy : Re G x y := by
    obtain ⟨j, hj⟩ := nx_mem.2 hy
    exact (Re.refl _).step hj
  have mem := fun {i v : Nat} (hi : i < G.length) (hv : v < G.length) => show (gt (numbersS G [i]) v != 0) = true ↔ Re G i v from by
    have h1 := mem_reachL hG (x := v) hi
    rw [reachL_filt hG hi, List.mem_filter, List.mem_range] at h1
    constructor
    · intro h; exact (h1.1 ⟨hv, h⟩).2
    · intro h; exact (h1.2 ⟨hv, h⟩).2
  unfold muG
  rw [reachL_filt hG hyl, reachL_filt hG hx]
  refine filt_lt (fun v hv h => ?_) ⟨x, List.mem_range.2 hx, (mem hx hx).2 (Re.refl _), fun h => ?_⟩
  · have hv' := List.mem_range.1 hv
    exact (mem hx hv').2 (hxy.trans ((mem hyl hv').1 h))
  · exact hno x hx ⟨y, hy, (mem hyl hx).1 h⟩
theorem rel_mem {E : List (List Nat)} {l : List Md} (hE : ValidG E) (hEl : E.length = l.length) (hd : (l.map Md.nm).Nodup) {nm t : Nm} (hn : nm ∈ nsP l) : t ∈ relM E l nm ↔ t ∈ nsP l ∧ t ≠ nm ∧ nodeP (nsP l) t ∈ reachL (intE E) (nodeP (nsP l) nm : Nat) := by
  have hnd := nsP_nodup hd
  have hi : nodeP (nsP l) nm < E.length := by rw [hEl, ← nsP_len l]; exact nodeP_lt hn
  unfold relM relN
  constructor
  · intro h
    obtain ⟨x, hx, e⟩ := List.mem_map.1 h
    obtain ⟨h1, h2⟩ := List.mem_filter.1 hx
    have hxl : x < (nsP l).length := by
      have := ((mem_reachL hE hi).1 h1).1
      rw [nsP_len, ← hEl]
      exact this
    have h3 : nodeP (nsP l) t = x := by rw [← e]; exact nodeP_nAt hnd hxl
    refine ⟨by rw [← e, nAt_get hxl]; exact List.getElem_mem hxl, fun hc => ?_, by rw [h3]; exact h1⟩
    rw [hc] at h3
    rw [h3] at h2
    simp at h2
  · rintro ⟨h1, h2, h3⟩
    refine List.mem_map.2 ⟨nodeP (nsP l) t, List.mem_filter.2 ⟨h3, ?_⟩, nodeP_at h1⟩
    rw [bne_iff_ne]
    intro hc
    exact h2 (by rw [← nodeP_at h1, ← nodeP_at hn, hc])
theorem rel_asc {E : List (List Nat)} {l : List Md} (hE : ValidG E) (hEl : E.length = l.length) (hd : (l.map Md.nm).Nodup) {nm : Nm} (hn : nm ∈ nsP l) : (relM E l nm).Pairwise (· < ·) := by
  have hi : nodeP (nsP l) nm < E.length := by rw [hEl, ← nsP_len l]; exact nodeP_lt hn
  unfold relM relN
  rw [List.pairwise_map]
  refine (List.Pairwise.filter _ (reachL_asc hE hi)).imp_of_mem (fun {a b} _ hb hab => nAt_lt (nsP_sorted hd) hab ?_)
  have := ((mem_reachL hE hi).1 (List.mem_filter.1 hb).1).1
  rw [nsP_len, ← hEl]
  exact this
theorem Good.ok0 {l : List Md} (h : Good l) : Ok0 l := ⟨h.nd, h.im⟩
/-- What is needed: the imports, and what they need. -/
theorem rel_step {l : List Md} (h : Good l) {nm : Nm} (hn : nm ∈ nsP l) (t : Nm) : t ∈ relM (grP l) l nm ↔ ∃ y, y ∈ impP l nm ∧ (t = y ∨ t ∈ relM (grP l) l y) := by
  have hG := grP_valid l
  have hGl := grP_len l
  have hno := (cyP_nil hG).1 h.ac
  have hi : nodeP (nsP l) nm < (grP l).length := by rw [hGl, ← nsP_len l]; exact nodeP_lt hn
  have hR := fun {t nm : Nm} (hn : nm ∈ nsP l) => rel_mem (t := t) hG hGl h.nd hn
  have hdirect : ∀ y ∈ impP l nm, y ∈ nsP l ∧ nodeP (nsP l) y ∈ lAt (grP l) (nodeP (nsP l) nm) := fun y hy => im_edge h.ok0 (by rw [← hGl]; exact hi) (by rw [nodeP_at hn]; exact hy)
  constructor
  · intro ht
    obtain ⟨q1, q2, q3⟩ := (hR hn).1 ht
    obtain ⟨q4, q5⟩ := (mem_reachL hG hi).1 q3
    obtain ⟨k, hk⟩ := re_pth q5
    cases k with
    | zero =>
      have hc : ∀ x y, Pth (grP l) x 0 y → x = y := fun x y hp => by cases hp; rfl
      exact absurd (by rw [← nodeP_at q1, ← nodeP_at hn, hc _ _ hk]) q2
    | succ k =>
      cases hk with
      | cons e hk2 =>
        rename_i z
        have hzl : z < (nsP l).length := by rw [nsP_len, ← hGl]; exact row_valid hG e
        have hzi := edge_im h.ok0 (by rw [← hGl]; exact hi) e
        rw [nodeP_at hn] at hzi
        have hzm : nAt (nsP l) z ∈ nsP l := by rw [nAt_get hzl]; exact List.getElem_mem hzl
        refine ⟨_, hzi, ?_⟩
        by_cases ez : t = nAt (nsP l) z
        · exact .inl ez
        · refine .inr ((hR hzm).2 ⟨q1, ez, ?_⟩)
          rw [nodeP_nAt (nsP_nodup h.nd) hzl]
          exact (mem_reachL hG (by rw [hGl, ← nsP_len l]; exact hzl)).2 ⟨q4, hk2.re⟩
  · rintro ⟨y, hy, ht⟩
    obtain ⟨h1, h2⟩ := hdirect y hy
    have hyl := row_valid hG h2
    have hre : Re (grP l) (nodeP (nsP l) nm) (nodeP (nsP l) y) := by
      obtain ⟨j, hj⟩ := nx_mem.2 h2
      exact (Re.refl _).step hj
    have hne : ∀ s, Re (grP l) (nodeP (nsP l) y) (nodeP (nsP l) s) → s ≠ nm := fun s hs hc => by
      rw [hc] at hs
      exact hno _ hi ⟨_, h2, hs⟩
    rcases ht with rfl | ht
    · exact (hR hn).2 ⟨h1, hne _ (Re.refl _), (mem_reachL hG hi).2 ⟨hyl, hre⟩⟩
    · obtain ⟨q1, q2, q3⟩ := (hR h1).1 ht
      obtain ⟨q4, q5⟩ := (mem_reachL hG hyl).1 q3
      exact (hR hn).2 ⟨q1, hne _ q5, (mem_reachL hG hi).2 ⟨q4, hre.trans q5⟩⟩
/-- Who uses a module: those that need it. -/
theorem users_eq {l : List Md} (h : Good l) {nm : Nm} (hn : nm ∈ nsP l) : (nsP l).filter (fun t => decide (nm ∈ relM (grP l) l t)) = relM (rvG (grP l)) l nm := by
  have hG := grP_valid l
  have hGl := grP_len l
  have hV := rvG_valid hG
  have hVl : (rvG (grP l)).length = l.length := by rw [rvG_len]; exact hGl
  refine sorted_ext ((nsP_sorted h.nd).filter _) (rel_asc hV hVl h.nd hn) (fun t => ?_)
  rw [List.mem_filter, decide_eq_true_eq, rel_mem hV hVl h.nd hn]
  have hi : nodeP (nsP l) nm < (grP l).length := by rw [hGl, ← nsP_len l]; exact nodeP_lt hn
  constructor
  · rintro ⟨h1, h2⟩
    have ht : nodeP (nsP l) t < (grP l).length := by rw [hGl, ← nsP_len l]; exact nodeP_lt h1
    obtain ⟨q1, q2, q3⟩ := (rel_mem hG hGl h.nd h1).1 h2
    exact ⟨h1, fun e => q2 e.symm, (reach_dual hG ht hi).2 q3⟩
  · rintro ⟨h1, h2, h3⟩
    have ht : nodeP (nsP l) t < (grP l).length := by rw [hGl, ← nsP_len l]; exact nodeP_lt h1
    exact ⟨h1, (rel_mem hG hGl h.nd h1).2 ⟨hn, fun e => h2 e.symm, (reach_dual hG ht hi).1 h3⟩⟩
end Go.Proofs.YtigmdiagdlbdpaaGreat
namespace Go.Proofs.YtigmdiagdlbdpaaGreat
open Go.RowKit Go.Maps
theorem rfaRes (W : World) (T : Array Value) (B1 : Nat) (f0 f1 f2 f3 : Value) (h1 : T[2]? = some (.pointer (some ⟨B1, 0, none⟩))) (hb1 : W.heap[B1]? = some (.cells #[f0, f1, f2, f3] 28 (0, 0))) : (results Tryz.f28 T).run Tryz.prog W = .ok (.agg #[f0, f1, f2, f3]) W := by
  have c0 : W.cell? ⟨B1, 0, none⟩ = some f0 := (blk_c (k := 0) hb1 rfl).1
  have c1 : W.cell? ⟨B1, 1, none⟩ = some f1 := (blk_c (k := 1) hb1 rfl).1
  have c2 : W.cell? ⟨B1, 2, none⟩ = some f2 := (blk_c (k := 2) hb1 rfl).1
  have c3 : W.cell? ⟨B1, 3, none⟩ = some f3 := (blk_c (k := 3) hb1 rfl).1
  simp [results, Tryz.results28, go_sem, h1, c0, c1, c2, c3]
theorem rnaRes (W : World) (T : Array Value) (B1 : Nat) (f0 f1 f2 f3 : Value) (h1 : T[4]? = some (.pointer (some ⟨B1, 0, none⟩))) (hb1 : W.heap[B1]? = some (.cells #[f0, f1, f2, f3] 28 (0, 0))) : (results Tryz.f34 T).run Tryz.prog W = .ok (.agg #[f0, f1, f2, f3]) W := by
  have c0 : W.cell? ⟨B1, 0, none⟩ = some f0 := (blk_c (k := 0) hb1 rfl).1
  have c1 : W.cell? ⟨B1, 1, none⟩ = some f1 := (blk_c (k := 1) hb1 rfl).1
  have c2 : W.cell? ⟨B1, 2, none⟩ = some f2 := (blk_c (k := 2) hb1 rfl).1
  have c3 : W.cell? ⟨B1, 3, none⟩ = some f3 := (blk_c (k := 3) hb1 rfl).1
  simp [results, Tryz.results34, go_sem, h1, c0, c1, c2, c3]
theorem blk_old {w w' : World} {b : Nat} {o : Obj} (h : w.heap[b]? = some o) (ho : Only (fun _ => False) w w') : w'.heap[b]? = some o := (ho.block b (lt_of_block h) (fun hc => hc)).trans h
set_option maxRecDepth 100000 in
set_option maxHeartbeats 4000000 in
theorem rfault_p (w : World) (oa : Option Addr) (n ca : Nat) (l : List Md) (h : Mdz w oa n l) (him : n ≤ 32 → ∀ m ∈ l, m.im.length ≤ 100) : Calls Tryz.prog 28 #[.slice oa n ca] w fun e w' => e = .returned (conV (accF l)) ∧ Only (fun _ => False) w w' := by
  have hA : Only (fun _ => False) w (w.alloc (.cells #[.int .i64 0, .string ⟨#[]⟩, .int .i64 0, .int .i64 0] 28)) := (Only.refl _ _).alloc _
  have hW := h.old hA (fun _ _ hc => hc)
  have HCO := Lib.hid (rConsistent_p (w.alloc (.cells #[.int .i64 0, .string ⟨#[]⟩, .int .i64 0, .int .i64 0] 28)) oa n ca l hW him)
  cases hC : conA l with
  | some x =>
    obtain ⟨c, s⟩ := x
    have hac : conV (accF l) = faV c s := by unfold accF; rw [hC]; rfl
    have hc0 := conA_pos hC
    have hcn : ¬ (c : Int) = 0 := by omega
    have HAC := Lib.hid hac
    have HCO2 : Hid (Calls Tryz.prog 40 #[.slice oa n ca] (w.alloc (.cells #[.int .i64 0, .string ⟨#[]⟩, .int .i64 0, .int .i64 0] 28)) fun e w' => e = .returned (faV c s) ∧ Only (fun _ => False) (w.alloc (.cells #[.int .i64 0, .string ⟨#[]⟩, .int .i64 0, .int .i64 0] 28)) w') := Lib.hid (by have h8 := HCO.out; rw [hC] at h8; exact h8)
    clear h him hA hW hC hac hc0 HCO
    go_enter Tryz.func28, Tryz.ntmps28
    go_wp2_with (go_at_call 40; (with_reducible refine HCO2.out.mono ?_); rintro e w5 ⟨rfl, hO5⟩; have HO5 : Hid (Only (w.heap.size + 1 ≤ ·) (w.alloc (.cells #[.int .i64 0, .string ⟨#[]⟩, .int .i64 0, .int .i64 0] 28)) (w5.alloc (.cells #[.int .i64 (c : Int), encStr s, .int .i64 0, .int .i64 0] 28))) := Lib.hid ((hO5.alloc _).lift); have hlt : w.heap.size + 1 ≤ w5.heap.size := (by have h3 := hO5.size; rw [show (w.alloc (.cells #[.int .i64 0, .string ⟨#[]⟩, .int .i64 0, .int .i64 0] 28)).heap.size = w.heap.size + 1 by show (Array.push _ _).size = _; rw [Array.size_push]] at h3; exact h3); have d1 : ¬ w5.heap.size = w.heap.size := (by omega); have d2 : ¬ w.heap.size = w5.heap.size := (by omega); have hbx := boxAt (HO5.out); obtain ⟨q0, z0⟩ := blk_c (k := 0) hbx rfl; obtain ⟨q1, z1⟩ := blk_c (k := 1) hbx rfl; obtain ⟨q2, z2⟩ := blk_c (k := 2) hbx rfl; obtain ⟨q3, z3⟩ := blk_c (k := 3) hbx rfl; clear hbx; clear hO5 hlt)
    have hfe := faultEnd (c := c) (y := s) HO5.out (a0 := .int .i64 c) (a1 := encStr s) rfl rfl
    refine bodyPost_ret (v := faV c s) (rfaRes _ _ _ _ _ _ _ rfl hfe.1) rfl ?_
    rw [HAC.out]
    exact ⟨rfl, hfe.2⟩
  | none =>
    have HCO2 : Hid (Calls Tryz.prog 40 #[.slice oa n ca] (w.alloc (.cells #[.int .i64 0, .string ⟨#[]⟩, .int .i64 0, .int .i64 0] 28)) fun e w' => e = .returned (faV 0 []) ∧ Only (fun _ => False) (w.alloc (.cells #[.int .i64 0, .string ⟨#[]⟩, .int .i64 0, .int .i64 0] 28)) w') := Lib.hid (by have h8 := HCO.out; rw [hC] at h8; exact h8)
    have HCY : Hid (∀ wx, Only (fun _ => False) (w.alloc (.cells #[.int .i64 0, .string ⟨#[]⟩, .int .i64 0, .int .i64 0] 28)) wx → Calls Tryz.prog 20 #[.slice oa n ca] wx (NmR (cycM l) wx)) := Lib.hid (fun wx ho => rCycle_p wx oa n ca l (hW.old ho (fun _ _ hc => hc)) him)
    have hcm : cycM l = (cyP (grP l)).map (nAt (nsP l)) := by unfold cycM; rw [hC]
    by_cases hY : cyP (grP l) = []
    · have hac : conV (accF l) = faV 0 [] := by unfold accF; rw [hC]; simp only; rw [if_pos hY]; rfl
      have hc0 : cycM l = [] := by rw [hcm, hY]; rfl
      rw [hc0] at HCY
      have HAC := Lib.hid hac
      clear h him hA hW hC hac HCO hcm hc0 hY
      go_enter Tryz.func28, Tryz.ntmps28
      go_wp2_with (first | (go_at_call 40; (with_reducible refine HCO2.out.mono ?_); rintro e w5 ⟨rfl, hO5⟩; have HO5 := Lib.hid hO5; clear hO5) | (go_at_call 20; (with_reducible refine (HCY.out _ (HO5.out.alloc _)).mono ?_); rintro e w6 ⟨oc, cc, rfl, -, hO6⟩; have HO6 : Hid (Only (w.heap.size + 1 ≤ ·) (w.alloc (.cells #[.int .i64 0, .string ⟨#[]⟩, .int .i64 0, .int .i64 0] 28)) w6) := Lib.hid (((HO5.out.alloc (.cells #[.int .i64 0, .string ⟨#[]⟩, .int .i64 0, .int .i64 0] 28)).trans hO6).lift); have hkb := (Bx.new w5).on hO6; obtain ⟨k0, k1, k2, k3⟩ := hkb.cells; have hbx := boxAt (HO6.out); obtain ⟨q0, z0⟩ := blk_c (k := 0) hbx rfl; obtain ⟨q1, z1⟩ := blk_c (k := 1) hbx rfl; obtain ⟨q2, z2⟩ := blk_c (k := 2) hbx rfl; obtain ⟨q3, z3⟩ := blk_c (k := 3) hbx rfl; clear hbx; have hlt : w.heap.size + 1 ≤ w5.heap.size := (by have h3 := HO5.out.size; rw [show (w.alloc (.cells #[.int .i64 0, .string ⟨#[]⟩, .int .i64 0, .int .i64 0] 28)).heap.size = w.heap.size + 1 by show (Array.push _ _).size = _; rw [Array.size_push]] at h3; exact h3); have d1 : ¬ w5.heap.size = w.heap.size := (by omega); have d2 : ¬ w.heap.size = w5.heap.size := (by omega); clear hO6 hkb hlt))
      have hfe := faultEnd (c := 0) (y := []) HO6.out (a0 := .int .i64 0) (a1 := .string ⟨#[]⟩) rfl rfl
      refine bodyPost_ret (v := faV 0 []) (rfaRes _ _ _ _ _ _ _ rfl hfe.1) rfl ?_
      rw [HAC.out]
      exact ⟨rfl, hfe.2⟩
    · have hne : (cyP (grP l)).length ≠ 0 := fun e => hY (List.eq_nil_of_length_eq_zero e)
      obtain ⟨C, hCe⟩ : ∃ C, cycM l = C := ⟨_, rfl⟩
      have hCl : 0 < C.length := by rw [← hCe, hcm, List.length_map]; omega
      obtain ⟨y, hy⟩ : ∃ y, nAt C 0 = y := ⟨_, rfl⟩
      have hac : conV (accF l) = faV 18 y := by
        have h3 : nAt (nsP l) (gt (cyP (grP l)) 0) = y := by rw [← hy, ← hCe, hcm, nAt_mp (by omega)]
        unfold accF
        rw [hC]
        simp only
        rw [if_neg hY, h3]
        rfl
      rw [hCe] at HCY
      have HAC := Lib.hid hac
      have HY := Lib.hid hy
      have HCL := Lib.hid hCl
      obtain ⟨m, hm⟩ : ∃ m, C.length = m := ⟨_, rfl⟩
      have HM := Lib.hid hm
      have HCY2 : Hid (∀ wx, Only (fun _ => False) (w.alloc (.cells #[.int .i64 0, .string ⟨#[]⟩, .int .i64 0, .int .i64 0] 28)) wx → Calls Tryz.prog 20 #[.slice oa n ca] wx fun e w' => ∃ bc oc cc, e = .returned (.slice (some ⟨bc, oc, none⟩) m cc) ∧ w'.cell? ⟨bc, oc, none⟩ = some (encStr y) ∧ Only (fun _ => False) wx w') := Lib.hid (fun wx ho => (HCY.out wx ho).mono (by
        rintro e w' ⟨oc, cc, h1, h2, h3⟩
        obtain ⟨bc, o2, e2, c2⟩ := h2.cell 0 hCl
        subst e2
        rw [hy] at c2
        rw [hm] at h1
        exact ⟨bc, o2, cc, h1, c2, h3⟩))
      have hm0 : (0 : Int) < (m : Int) := by omega
      have hm1 : ¬ m = 0 := by omega
      clear h him hA hW hC hac HCO hcm hY hne hCe hCl hy hm HCY
      go_enter Tryz.func28, Tryz.ntmps28
      go_wp2_with (first | (go_at_call 40; (with_reducible refine HCO2.out.mono ?_); rintro e w5 ⟨rfl, hO5⟩; have HO5 := Lib.hid hO5; clear hO5) | (go_at_call 20; (with_reducible refine (HCY2.out _ (HO5.out.alloc _)).mono ?_); rintro e w6 ⟨bc, oc, cc, rfl, hcc, hO6⟩; have HO6 : Hid (Only (w.heap.size + 1 ≤ ·) (w.alloc (.cells #[.int .i64 0, .string ⟨#[]⟩, .int .i64 0, .int .i64 0] 28)) w6) := Lib.hid (((HO5.out.alloc (.cells #[.int .i64 0, .string ⟨#[]⟩, .int .i64 0, .int .i64 0] 28)).trans hO6).lift); have hbx := boxAt (HO6.out); obtain ⟨q0, z0⟩ := blk_c (k := 0) hbx rfl; obtain ⟨q1, z1⟩ := blk_c (k := 1) hbx rfl; obtain ⟨q2, z2⟩ := blk_c (k := 2) hbx rfl; obtain ⟨q3, z3⟩ := blk_c (k := 3) hbx rfl; clear hbx; clear hO6))
      have hfe := faultEnd (c := 18) (y := y) HO6.out (a0 := .int .i64 18) (a1 := encStr y) rfl rfl
      refine bodyPost_ret (v := faV 18 y) (rfaRes _ _ _ _ _ _ _ rfl hfe.1) rfl ?_
      rw [HAC.out]
      exact ⟨rfl, hfe.2⟩
set_option maxRecDepth 100000 in
set_option maxHeartbeats 4000000 in
theorem rnamed_p (w : World) (oa : Option Addr) (n ca : Nat) (l : List Md) (nm : Nm) (h : Mdz w oa n l) (him : n ≤ 32 → ∀ m ∈ l, m.im.length ≤ 100) : Calls Tryz.prog 34 #[.slice oa n ca, encStr nm] w fun e w' => e = .returned (conV (relF l nm)) ∧ Only (fun _ => False) w w' := by
  have hA : Only (fun _ => False) w (w.alloc (.cells #[.int .i64 0, .string ⟨#[]⟩, .int .i64 0, .int .i64 0] 28)) := (Only.refl _ _).alloc _
  have hW := h.old hA (fun _ _ hc => hc)
  have HFA := Lib.hid (rfault_p (w.alloc (.cells #[.int .i64 0, .string ⟨#[]⟩, .int .i64 0, .int .i64 0] 28)) oa n ca l hW him)
  cases hC : accF l with
  | some x =>
    obtain ⟨c, s⟩ := x
    have hac : conV (relF l nm) = faV c s := by unfold relF; rw [hC]; rfl
    have hc0 := accF_pos hC
    have hcn : ¬ (c : Int) = 0 := by omega
    have HAC := Lib.hid hac
    have HFA2 : Hid (Calls Tryz.prog 28 #[.slice oa n ca] (w.alloc (.cells #[.int .i64 0, .string ⟨#[]⟩, .int .i64 0, .int .i64 0] 28)) fun e w' => e = .returned (faV c s) ∧ Only (fun _ => False) (w.alloc (.cells #[.int .i64 0, .string ⟨#[]⟩, .int .i64 0, .int .i64 0] 28)) w') := Lib.hid (by have h8 := HFA.out; rw [hC] at h8; exact h8)
    clear h him hA hW hC hac hc0 HFA
    go_enter Tryz.func34, Tryz.ntmps34
    go_wp2_with (go_at_call 28; (with_reducible refine HFA2.out.mono ?_); rintro e w5 ⟨rfl, hO5⟩; have HO5 : Hid (Only (w.heap.size + 1 ≤ ·) (w.alloc (.cells #[.int .i64 0, .string ⟨#[]⟩, .int .i64 0, .int .i64 0] 28)) (w5.alloc (.cells #[.int .i64 (c : Int), encStr s, .int .i64 0, .int .i64 0] 28))) := Lib.hid ((hO5.alloc _).lift); have hlt : w.heap.size + 1 ≤ w5.heap.size := (by have h3 := hO5.size; rw [show (w.alloc (.cells #[.int .i64 0, .string ⟨#[]⟩, .int .i64 0, .int .i64 0] 28)).heap.size = w.heap.size + 1 by show (Array.push _ _).size = _; rw [Array.size_push]] at h3; exact h3); have d1 : ¬ w5.heap.size = w.heap.size := (by omega); have d2 : ¬ w.heap.size = w5.heap.size := (by omega); have hbx := boxAt (HO5.out); obtain ⟨q0, z0⟩ := blk_c (k := 0) hbx rfl; obtain ⟨q1, z1⟩ := blk_c (k := 1) hbx rfl; obtain ⟨q2, z2⟩ := blk_c (k := 2) hbx rfl; obtain ⟨q3, z3⟩ := blk_c (k := 3) hbx rfl; clear hbx; clear hO5 hlt)
    have hfe := faultEnd (c := c) (y := s) HO5.out (a0 := .int .i64 c) (a1 := encStr s) rfl rfl
    refine bodyPost_ret (v := faV c s) (rnaRes _ _ _ _ _ _ _ rfl hfe.1) rfl ?_
    rw [HAC.out]
    exact ⟨rfl, hfe.2⟩
  | none =>
    obtain ⟨hl32, hgood⟩ := accF_none hC
    have hl := h.len
    have HFA2 : Hid (Calls Tryz.prog 28 #[.slice oa n ca] (w.alloc (.cells #[.int .i64 0, .string ⟨#[]⟩, .int .i64 0, .int .i64 0] 28)) fun e w' => e = .returned (faV 0 []) ∧ Only (fun _ => False) (w.alloc (.cells #[.int .i64 0, .string ⟨#[]⟩, .int .i64 0, .int .i64 0] 28)) w') := Lib.hid (by have h8 := HFA.out; rw [hC] at h8; exact h8)
    have HNA : Hid (∀ wx, Only (fun _ => False) (w.alloc (.cells #[.int .i64 0, .string ⟨#[]⟩, .int .i64 0, .int .i64 0] 28)) wx → Calls Tryz.prog 29 #[.slice oa n ca] wx fun e w' => ∃ oo co, e = .returned (.slice oo n co) ∧ Strz w' oo n (nsP l) ∧ Only (fun _ => False) wx w') := Lib.hid (fun wx ho => (rNames_p wx oa n ca l (hW.old ho (fun _ _ hc => hc)) (by omega) hgood.nd).mono (by
      rintro e w' ⟨oo, co, h1, h2, h3⟩
      exact ⟨oo, co, h1, h2.strz, h3⟩))
    have hn6 : n ≤ 1000000 := by omega
    obtain ⟨x, hx⟩ : ∃ x, decide (nm ∈ nsP l) = x := ⟨_, rfl⟩
    have HX := Lib.hid hx
    cases x with
    | true =>
      have hac : conV (relF l nm) = faV 0 [] := by unfold relF; rw [hC]; simp only; rw [if_pos (of_decide_eq_true hx)]; rfl
      have HAC := Lib.hid hac
      clear h him hA hW hC hac HFA hx hgood
      go_enter Tryz.func34, Tryz.ntmps34
      go_wp2_with (first | (go_at_call 28; (with_reducible refine HFA2.out.mono ?_); rintro e w5 ⟨rfl, hO5⟩; have HO5 := Lib.hid hO5; clear hO5) | (go_at_call 29; (with_reducible refine (HNA.out _ (HO5.out.alloc _)).mono ?_); rintro e w6 ⟨oN, cN, rfl, hS6, hO6⟩; have HS6 := Lib.hid hS6; have HO6 : Hid (Only (w.heap.size + 1 ≤ ·) (w.alloc (.cells #[.int .i64 0, .string ⟨#[]⟩, .int .i64 0, .int .i64 0] 28)) w6) := Lib.hid (((HO5.out.alloc (.cells #[.int .i64 0, .string ⟨#[]⟩, .int .i64 0, .int .i64 0] 28)).trans hO6).lift); have hkb := (Bx.new w5).on hO6; obtain ⟨k0, k1, k2, k3⟩ := hkb.cells; have hbx := boxAt (HO6.out); obtain ⟨q0, z0⟩ := blk_c (k := 0) hbx rfl; obtain ⟨q1, z1⟩ := blk_c (k := 1) hbx rfl; obtain ⟨q2, z2⟩ := blk_c (k := 2) hbx rfl; obtain ⟨q3, z3⟩ := blk_c (k := 3) hbx rfl; clear hbx; have hlt : w.heap.size + 1 ≤ w5.heap.size := (by have h3 := HO5.out.size; rw [show (w.alloc (.cells #[.int .i64 0, .string ⟨#[]⟩, .int .i64 0, .int .i64 0] 28)).heap.size = w.heap.size + 1 by show (Array.push _ _).size = _; rw [Array.size_push]] at h3; exact h3); have d1 : ¬ w5.heap.size = w.heap.size := (by omega); have d2 : ¬ w.heap.size = w5.heap.size := (by omega); clear hO6 hkb hlt hS6) | (go_at_call 21; (with_reducible refine (rHas_p w6 oN n cN (nsP l) HS6.out hn6 nm true HX.out).mono ?_); rintro e w6 ⟨rfl, rfl⟩))
      have hfe := faultEnd (c := 0) (y := []) HO6.out (a0 := .int .i64 0) (a1 := .string ⟨#[]⟩) rfl rfl
      refine bodyPost_ret (v := faV 0 []) (rnaRes _ _ _ _ _ _ _ rfl hfe.1) rfl ?_
      rw [HAC.out]
      exact ⟨rfl, hfe.2⟩
    | false =>
      have hac : conV (relF l nm) = faV 16 nm := by unfold relF; rw [hC]; simp only; rw [if_neg (of_decide_eq_false hx)]; rfl
      have HAC := Lib.hid hac
      clear h him hA hW hC hac HFA hx hgood
      go_enter Tryz.func34, Tryz.ntmps34
      go_wp2_with (first | (go_at_call 28; (with_reducible refine HFA2.out.mono ?_); rintro e w5 ⟨rfl, hO5⟩; have HO5 := Lib.hid hO5; clear hO5) | (go_at_call 29; (with_reducible refine (HNA.out _ (HO5.out.alloc _)).mono ?_); rintro e w6 ⟨oN, cN, rfl, hS6, hO6⟩; have HS6 := Lib.hid hS6; have HO6 : Hid (Only (w.heap.size + 1 ≤ ·) (w.alloc (.cells #[.int .i64 0, .string ⟨#[]⟩, .int .i64 0, .int .i64 0] 28)) w6) := Lib.hid (((HO5.out.alloc (.cells #[.int .i64 0, .string ⟨#[]⟩, .int .i64 0, .int .i64 0] 28)).trans hO6).lift); have hbx := boxAt (HO6.out); obtain ⟨q0, z0⟩ := blk_c (k := 0) hbx rfl; obtain ⟨q1, z1⟩ := blk_c (k := 1) hbx rfl; obtain ⟨q2, z2⟩ := blk_c (k := 2) hbx rfl; obtain ⟨q3, z3⟩ := blk_c (k := 3) hbx rfl; clear hbx; clear hO6 hS6) | (go_at_call 21; (with_reducible refine (rHas_p w6 oN n cN (nsP l) HS6.out hn6 nm false HX.out).mono ?_); rintro e w6 ⟨rfl, rfl⟩))
      have hfe := faultEnd (c := 16) (y := nm) HO6.out (a0 := .int .i64 16) (a1 := encStr nm) rfl rfl
      refine bodyPost_ret (v := faV 16 nm) (rnaRes _ _ _ _ _ _ _ rfl hfe.1) rfl ?_
      rw [HAC.out]
      exact ⟨rfl, hfe.2⟩
end Go.Proofs.YtigmdiagdlbdpaaGreat
namespace Go.Proofs.YtigmdiagdlbdpaaGreat
open Go.RowKit Go.Maps
/-- A call hands back a list of names of its own. -/
def NmS (L : List Nm) (w : World) (e : Ending) (w' : World) : Prop := ∃ oo cc, e = .returned (.slice oo L.length cc) ∧ SR w' w.heap.size (.slice oo L.length cc) L ∧ Only (fun _ => False) w w'
theorem SR.lo {w : World} {B B' : Nat} {v : Value} {l : List Nm} (h : SR w B v l) (hB : B' ≤ B) : SR w B' v l := rowMono h hB
theorem rel_len {l : List Md} (hgood : Good l) {nm : Nm} (hn : nm ∈ nsP l) : (relM (grP l) l nm).length ≤ l.length := by
  have := sorted_len (rel_asc (grP_valid l) (grP_len l) hgood.nd hn) (nsP_sorted hgood.nd) (fun t ht => ((rel_mem (grP_valid l) (grP_len l) hgood.nd hn).1 ht).1)
  rwa [nsP_len] at this
set_option maxRecDepth 100000 in
set_option maxHeartbeats 8000000 in
theorem rreach_p (l : List Md) (n ca : Nat) (oa : Option Addr) (hl : l.length = n) (hn : n ≤ 32) (him : ∀ m ∈ l, m.im.length ≤ 100) (hgood : Good l) : ∀ (d : Nat) (w : World) (nm : Nm), Mdz w oa n l → nm ∈ nsP l → muG (grP l) (nodeP (nsP l) nm) < d →
    Calls Tryz.prog 35 #[.slice oa n ca, encStr nm] w (NmS (relM (grP l) l nm) w) := by
  intro d
  induction d with
  | zero => intro w nm h hm hd; exact absurd hd (Nat.not_lt_zero _)
  | succ d ih =>
    intro w nm h hm hd
    have hG := grP_valid l
    have hGL := grP_len l
    have hno := (cyP_nil hG).1 hgood.ac
    have hil : nodeP (nsP l) nm < l.length := by rw [← nsP_len l]; exact nodeP_lt hm
    have hkid : ∀ y ∈ impP l nm, y ∈ nsP l ∧ muG (grP l) (nodeP (nsP l) y) < d := fun y hy => by
      obtain ⟨h1, h2⟩ := im_edge hgood.ok0 hil (by rw [nodeP_at hm]; exact hy)
      exact ⟨h1, by have := muG_lt hG hno (by rw [hGL]; exact hil) h2; omega⟩
    have HIP : Hid (Calls Tryz.prog 22 #[.slice oa n ca, encStr nm] w fun e w' => ∃ oo co, e = .returned (.slice oo (impP l nm).length co) ∧ Strz w' oo (impP l nm).length (impP l nm) ∧ Only (fun _ => False) w w') := Lib.hid ((rImports_p w oa n ca l nm h (by omega) him).mono (by
      rintro e w' ⟨oo, co, h1, h2, h3⟩
      exact ⟨oo, co, h1, h2.strz, h3⟩))
    have HIN : Hid (∀ wx oo co (o : List Nm) y, Strz wx oo o.length o → o.length ≤ 1000000 → Calls Tryz.prog 42 #[.slice oo o.length co, encStr y] wx fun e w' => ∃ op cp, e = .returned (.slice op (insP o y).length cp) ∧ SR w' wx.heap.size (.slice op (insP o y).length cp) (insP o y) ∧ Only (fun _ => False) wx w') := Lib.hid (fun wx oo co o y hz ho => rInsert_p wx oo o.length co o hz ho y)
    have HRE : Hid (∀ wx y, Only (fun _ => False) w wx → y ∈ impP l nm → Calls Tryz.prog 35 #[.slice oa n ca, encStr y] wx (NmS (relM (grP l) l y) wx)) := Lib.hid (fun wx y ho hy => ih wx y (h.old ho (fun _ _ hc => hc)) (hkid y hy).1 (hkid y hy).2)
    have HKI := Lib.hid (fun y hy => (hkid y hy).1)
    have HRL : Hid (∀ y, y ∈ nsP l → (relM (grP l) l y).length ≤ 32) := Lib.hid (fun y hy => by have := rel_len hgood hy; omega)
    have HFI : Hid (∀ o : List Nm, o.Pairwise (· < ·) → (∀ t, t ∈ o ↔ ∃ j, j < (impP l nm).length ∧ (t = nAt (impP l nm) j ∨ t ∈ relM (grP l) l (nAt (impP l nm) j))) → o = relM (grP l) l nm) := Lib.hid (fun o ho hmm => sorted_ext ho (rel_asc hG hGL hgood.nd hm) (fun t => by
      rw [hmm, rel_step hgood hm]
      constructor
      · rintro ⟨j, hj, ht⟩
        exact ⟨_, by rw [nAt_get hj]; exact List.getElem_mem hj, ht⟩
      · rintro ⟨y, hy, ht⟩
        obtain ⟨j, hj, e⟩ := List.getElem_of_mem hy
        exact ⟨j, hj, by rw [nAt_get hj, e]; exact ht⟩))
    have HSL : Hid (∀ (o : List Nm) (i : Nat), i ≤ (impP l nm).length → o.Pairwise (· < ·) → (∀ t, t ∈ o ↔ ∃ j, j < i ∧ (t = nAt (impP l nm) j ∨ t ∈ relM (grP l) l (nAt (impP l nm) j))) → o.length ≤ 32) := Lib.hid (fun o i hi ho hmm => by
      have h3 := sorted_len ho (nsP_sorted hgood.nd) (fun t ht => by
        obtain ⟨j, hj, e⟩ := (hmm t).1 ht
        have hjm : nAt (impP l nm) j ∈ nsP l := (hkid _ (by rw [nAt_get (by omega)]; exact List.getElem_mem _)).1
        rcases e with e | e
        · rw [e]; exact hjm
        · exact ((rel_mem hG hGL hgood.nd hjm).1 e).1)
      rw [nsP_len] at h3
      omega)
    have hpl : (impP l nm).length ≤ 3200 := by
      have := impP_len (nm := nm) him
      have h9 : l.length * 100 ≤ 32 * 100 := Nat.mul_le_mul_right _ (by omega)
      omega
    obtain ⟨p, hp⟩ : ∃ p, (impP l nm).length = p := ⟨_, rfl⟩
    rw [hp] at HIP hpl
    have HP := Lib.hid hp
    clear h hm hd hG hGL hno hil hkid hp ih him hgood
    go_enter Tryz.func35, Tryz.ntmps35
    go_wp2_with (go_at_call 22; (with_reducible refine HIP.out.mono ?_); rintro e w5 ⟨oI, cI, rfl, hS5, hO5⟩; have HS5 := Lib.hid hS5; have HO5 := Lib.hid hO5; clear hS5 hO5)
    go_loopw [5, 7, 8, 9] (fun ov iv _ _ wr => ∃ (i : Nat) (o : List Nm) (oo : Option Addr) (co : Nat), ov = .slice oo o.length co ∧ iv = .int .i64 i ∧ i ≤ p ∧ SR wr w.heap.size (.slice oo o.length co) o ∧ Hid (o.Pairwise (· < ·)) ∧ Hid (∀ t, t ∈ o ↔ ∃ j, j < i ∧ (t = nAt (impP l nm) j ∨ t ∈ relM (grP l) l (nAt (impP l nm) j))) ∧ Only (fun _ => False) w5 wr) (fun _ iv _ _ _ => p - (intOf iv).toNat)
    case atStart => exact ⟨0, [], none, 0, rfl, rfl, by omega, SR.nil _ _, Lib.hid List.Pairwise.nil, Lib.hid (fun t => ⟨(fun hc => by cases hc), fun ⟨j, hj, _⟩ => absurd hj (Nat.not_lt_zero _)⟩), Only.refl _ _⟩
    case round =>
      obtain ⟨i, o, oo, co, rfl, rfl, hi, hS, HA, HM, hO⟩ := hrel
      have HS := Lib.hid hS
      have HO := Lib.hid hO
      by_cases hip : i < p
      · have hil : i < (impP l nm).length := by have := HP.out; omega
        have hol : o.length ≤ 32 := HSL.out o i (by omega) HA.out HM.out
        obtain ⟨b1, o1, e1, c1⟩ := (HS5.out.old hO (fun _ _ hc => hc)).cell i hil
        subst e1
        obtain ⟨y, hy⟩ : ∃ y, nAt (impP l nm) i = y := ⟨_, rfl⟩
        rw [hy] at c1
        have HY := Lib.hid hy
        have hym : y ∈ impP l nm := by rw [← hy, nAt_get hil]; exact List.getElem_mem hil
        have HC : Hid (∀ wx, Only (fun _ => False) w5 wx → wx.cell? ⟨b1, o1 + i, none⟩ = some (encStr y)) := Lib.hid (fun wx ho => by
          obtain ⟨b2, o2, e2, c2⟩ := (HS5.out.old ho (fun _ _ hc => hc)).cell i hil
          cases e2
          rw [HY.out] at c2
          exact c2)
        have HYM := Lib.hid hym
        have hrl := HRL.out y (HKI.out y hym)
        have h02 : (0 : Int) ≤ (i : Int) := Int.natCast_nonneg i
        have h03 : (i : Int) < (p : Int) := by omega
        have h04 : (i : Int).toNat = i := Int.toNat_natCast i
        have HOL := Lib.hid hol
        obtain ⟨R, hR⟩ : ∃ R, relM (grP l) l y = R := ⟨_, rfl⟩
        have HR := Lib.hid hR
        rw [hR] at hrl
        obtain ⟨r, hr⟩ : ∃ r, R.length = r := ⟨_, rfl⟩
        have HRR := Lib.hid hr
        rw [hr] at hrl
        have HRY : Hid (∀ wx, Only (fun _ => False) w wx → Calls Tryz.prog 35 #[.slice oa n ca, encStr y] wx fun e w' => ∃ op cp, e = .returned (.slice op r cp) ∧ Strz w' op r R ∧ Only (fun _ => False) wx w') := Lib.hid (fun wx ho => by
          have h8 := HRE.out wx y ho hym
          rw [hR] at h8
          unfold NmS at h8
          rw [hr] at h8
          exact h8.mono (by rintro e w' ⟨op, cp, h1, h2, h3⟩; exact ⟨op, cp, h1, h2.strz, h3⟩))
        clear hy hS hO hol hym hR hr
        go_wp2_with (first | (go_at_call 42; (with_reducible refine (HIN.out wr oo co o y HS.out.strz (by have := HOL.out; omega)).mono ?_); rintro e w6 ⟨op, cp, rfl, hS6, hO6⟩; have HS6 := Lib.hid (SR.lo hS6 (show w.heap.size ≤ wr.heap.size from (HO5.out.trans HO.out).size)); have HO6 := Lib.hid (HO.out.trans hO6); have c6 := HC.out _ (HO.out.trans hO6); clear hS6 hO6) | (go_at_call 35; (with_reducible refine (HRY.out w6 (HO5.out.trans HO6.out)).mono ?_); rintro e w7 ⟨oR, cR, rfl, hS7, hO7⟩; have HS7 := Lib.hid hS7; have HO7 := Lib.hid (HO6.out.trans hO7); have HS67 := Lib.hid (HS6.out.only hO7 (fun _ _ hc => hc)); clear hS7 hO7))
        clear c6 c1
        go_loopw [5, 9] (fun ov kv wr => ∃ (k : Nat) (oo : Option Addr) (co : Nat), ov = .slice oo ((R.take k).foldl insP (insP o y)).length co ∧ kv = .int .i64 k ∧ k ≤ r ∧ SR wr w.heap.size (.slice oo ((R.take k).foldl insP (insP o y)).length co) ((R.take k).foldl insP (insP o y)) ∧ Only (fun _ => False) w7 wr) (fun _ kv _ => r - (intOf kv).toNat)
        case atStart => exact ⟨0, op, cp, rfl, rfl, by omega, HS67.out, Only.refl _ _⟩
        case round =>
          obtain ⟨k, oz, cz, rfl, rfl, hk, hS8, hO8⟩ := hrel
          have HS8 := Lib.hid hS8
          have HO8 := Lib.hid hO8
          by_cases hkr : k < r
          · have hkl : k < R.length := by have := HRR.out; omega
            obtain ⟨b3, o3, e3, d3⟩ := (HS7.out.old hO8 (fun _ _ hc => hc)).cell k (by have := HRR.out; omega)
            subst e3
            obtain ⟨z, hz⟩ : ∃ z, nAt R k = z := ⟨_, rfl⟩
            rw [hz] at d3
            have h05 : (0 : Int) ≤ (k : Int) := Int.natCast_nonneg k
            have h06 : (k : Int) < (r : Int) := by omega
            have h07 : (k : Int).toNat = k := Int.toNat_natCast k
            have hfl := foldK_len R (insP o y) k
            have hil2 := insP_len o y
            obtain ⟨F, hF⟩ : ∃ F, (R.take k).foldl insP (insP o y) = F := ⟨_, rfl⟩
            have hfs := foldK_succ R (insP o y) hkl
            rw [hF, hz] at hfs
            rw [hF] at hfl HS8
            rw [hF]
            have HFS := Lib.hid hfs
            have HFL : Hid (F.length ≤ 1000000) := Lib.hid (by have := HOL.out; have := HRR.out; omega)
            clear hz hS8 hO8 hfs hfl hil2 hF
            go_wp2_with (go_at_call 42; (with_reducible refine (HIN.out wr oz cz F z HS8.out.strz HFL.out).mono ?_); rintro e w9 ⟨oq, cq, rfl, hS9, hO9⟩; have HS9 := Lib.hid (SR.lo hS9 (show w.heap.size ≤ wr.heap.size from (HO5.out.trans (HO7.out.trans HO8.out)).size)); have HO9 := Lib.hid (HO8.out.trans hO9); clear hS9 hO9)
            go_roundw
            case rel => exact ⟨k + 1, oq, cq, by rw [HFS.out], by go_num, by omega, by rw [HFS.out]; exact HS9.out, HO9.out⟩
            case measure => simp [intOf]; omega
          · have hkr2 : R.length = k := by have := HRR.out; omega
            have h06 : ¬ (k : Int) < (r : Int) := by omega
            have HTK : Hid (R.take k = R) := Lib.hid (take_all hkr2)
            have h8 := HS8.out
            rw [HTK.out] at h8
            rw [HTK.out]
            have HS9 := Lib.hid h8
            have HA2 : Hid ((R.foldl insP (insP o y)).Pairwise (· < ·)) := Lib.hid (foldIns_sorted _ _ (insP_sorted HA.out))
            have HM2 : Hid (∀ t, t ∈ R.foldl insP (insP o y) ↔ ∃ j, j < i + 1 ∧ (t = nAt (impP l nm) j ∨ t ∈ relM (grP l) l (nAt (impP l nm) j))) := Lib.hid (fun t => by
              rw [foldIns_mem, insP_mem, HM.out]
              constructor
              · rintro ((e | ⟨j, hj, e⟩) | e)
                · exact ⟨i, by omega, .inl (by rw [HY.out]; exact e)⟩
                · exact ⟨j, by omega, e⟩
                · exact ⟨i, by omega, .inr (by rw [HY.out, HR.out]; exact e)⟩
              · rintro ⟨j, hj, e⟩
                by_cases hji : j = i
                · subst hji
                  rw [HY.out, HR.out] at e
                  rcases e with e | e
                  · exact .inl (.inl e)
                  · exact .inr e
                · exact .inl (.inr ⟨j, by omega, e⟩))
            clear hS8 hO8 hkr2 h8
            go_wp2
            go_roundw
            case rel => exact ⟨i + 1, R.foldl insP (insP o y), oz, cz, rfl, by go_num, by omega, HS9.out, HA2, HM2, HO7.out.trans HO8.out⟩
            case measure => simp [intOf]; omega
      · have hip2 : i = p := by omega
        have h03 : ¬ (i : Int) < (p : Int) := by omega
        have HFE : Hid (o = relM (grP l) l nm) := Lib.hid (HFI.out o HA.out (fun t => by rw [HP.out, ← hip2]; exact HM.out t))
        clear hS hO hip2
        go_wp2
        go_ret
        unfold NmS
        rw [← HFE.out]
        exact ⟨oo, co, rfl, HS.out, HO5.out.trans HO.out⟩
end Go.Proofs.YtigmdiagdlbdpaaGreat
namespace Go.Proofs.YtigmdiagdlbdpaaGreat
open Go.RowKit Go.Maps
/-- Names, read, or a fault. -/
def NmF (F : Option (Nat × Nm)) (L : List Nm) (w : World) (e : Ending) (w' : World) : Prop := (match F with
    | some (c, s) => e = .returned (.tuple #[.slice none 0 0, faV c s])
    | none => ∃ oa ca, e = .returned (.tuple #[.slice oa L.length ca, faV 0 []]) ∧ Strz w' oa L.length L) ∧ Only (fun _ => False) w w'
theorem NmF_bad {c : Nat} {F : Option (Nat × Nm)} {L : List Nm} {s : Nm} {w w' : World} (h : F = some (c, s)) (ho : Only (fun _ => False) w w') : NmF F L w (.returned (.tuple #[.slice none 0 0, faV c s])) w' := by
  unfold NmF
  rw [h]
  exact ⟨rfl, ho⟩
theorem NmF_good {F : Option (Nat × Nm)} {L : List Nm} {w w' : World} {n : Nat} (hn : L.length = n) (h : F = none) {oa : Option Addr} {ca : Nat} (hs : Strz w' oa n L) (ho : Only (fun _ => False) w w') : NmF F L w (.returned (.tuple #[.slice oa n ca, faV 0 []])) w' := by
  subst hn
  unfold NmF
  rw [h]
  exact ⟨⟨oa, ca, rfl, hs⟩, ho⟩
theorem strz_box {w wr : World} {a0 a1 a2 a3 : Value} {oa : Option Addr} {n : Nat} {L : List Nm} {B : Nat} (h : SR wr (w.heap.size + 1) (.slice oa n B) L) : Strz ((((wr.setCell ⟨w.heap.size, 0, none⟩ a0).setCell ⟨w.heap.size, 1, none⟩ a1).setCell ⟨w.heap.size, 2, none⟩ a2).setCell ⟨w.heap.size, 3, none⟩ a3) oa n L :=
  (h.only (only4 (K := (· = w.heap.size)) (Only.refl _ wr) rfl) (fun g hg e => by have h4 := (World.ownsRow.lt h g hg).1; have e' : g = w.heap.size := e; omega)).strz
theorem rneRes (W : World) (T : Array Value) (B1 : Nat) (v f0 f1 f2 f3 : Value) (h0 : T[4]? = some v) (h1 : T[5]? = some (.pointer (some ⟨B1, 0, none⟩))) (hb1 : W.heap[B1]? = some (.cells #[f0, f1, f2, f3] 28 (0, 0))) : (results Tryz.f16 T).run Tryz.prog W = .ok (.tuple #[v, .agg #[f0, f1, f2, f3]]) W := by
  have c0 : W.cell? ⟨B1, 0, none⟩ = some f0 := (blk_c (k := 0) hb1 rfl).1
  have c1 : W.cell? ⟨B1, 1, none⟩ = some f1 := (blk_c (k := 1) hb1 rfl).1
  have c2 : W.cell? ⟨B1, 2, none⟩ = some f2 := (blk_c (k := 2) hb1 rfl).1
  have c3 : W.cell? ⟨B1, 3, none⟩ = some f3 := (blk_c (k := 3) hb1 rfl).1
  simp [results, Tryz.results16, go_sem, h0, h1, c0, c1, c2, c3]
theorem rusRes (W : World) (T : Array Value) (B1 : Nat) (v f0 f1 f2 f3 : Value) (h0 : T[4]? = some v) (h1 : T[5]? = some (.pointer (some ⟨B1, 0, none⟩))) (hb1 : W.heap[B1]? = some (.cells #[f0, f1, f2, f3] 28 (0, 0))) : (results Tryz.f18 T).run Tryz.prog W = .ok (.tuple #[v, .agg #[f0, f1, f2, f3]]) W := by
  have c0 : W.cell? ⟨B1, 0, none⟩ = some f0 := (blk_c (k := 0) hb1 rfl).1
  have c1 : W.cell? ⟨B1, 1, none⟩ = some f1 := (blk_c (k := 1) hb1 rfl).1
  have c2 : W.cell? ⟨B1, 2, none⟩ = some f2 := (blk_c (k := 2) hb1 rfl).1
  have c3 : W.cell? ⟨B1, 3, none⟩ = some f3 := (blk_c (k := 3) hb1 rfl).1
  simp [results, Tryz.results18, go_sem, h0, h1, c0, c1, c2, c3]
set_option maxRecDepth 100000 in
set_option maxHeartbeats 4000000 in
theorem rNeeds_bad (w : World) (oa : Option Addr) (n ca : Nat) (l : List Md) (nm : Nm) (h : Mdz w oa n l) (him : n ≤ 32 → ∀ m ∈ l, m.im.length ≤ 100) (c : Nat) (s : Nm) (hF : relF l nm = some (c, s)) : Calls Tryz.prog 16 #[.slice oa n ca, encStr nm] w (NmF (relF l nm) (relM (grP l) l nm) w) := by
  have hA : Only (fun _ => False) w (w.alloc (.cells #[.int .i64 0, .string ⟨#[]⟩, .int .i64 0, .int .i64 0] 28)) := (Only.refl _ _).alloc _
  have HNA : Hid (Calls Tryz.prog 34 #[.slice oa n ca, encStr nm] (w.alloc (.cells #[.int .i64 0, .string ⟨#[]⟩, .int .i64 0, .int .i64 0] 28)) fun e w' => e = .returned (faV c s) ∧ Only (fun _ => False) (w.alloc (.cells #[.int .i64 0, .string ⟨#[]⟩, .int .i64 0, .int .i64 0] 28)) w') := Lib.hid (by have h8 := rnamed_p (w.alloc (.cells #[.int .i64 0, .string ⟨#[]⟩, .int .i64 0, .int .i64 0] 28)) oa n ca l nm (h.old hA (fun _ _ hc => hc)) him; rw [hF] at h8; exact h8)
  have hc0 : c ≠ 0 := by
    unfold relF at hF
    cases hG : accF l with
    | some x => rw [hG] at hF; exact accF_pos (by rw [hG]; exact hF)
    | none =>
      rw [hG] at hF
      simp only at hF
      split at hF
      · cases hF
      · cases hF; decide
  have hcn : ¬ (c : Int) = 0 := by omega
  have HF := Lib.hid hF
  clear h him hA hF hc0
  go_enter Tryz.func16, Tryz.ntmps16
  go_wp2_with (go_at_call 34; (with_reducible refine HNA.out.mono ?_); rintro e w5 ⟨rfl, hO5⟩; have HO5 : Hid (Only (w.heap.size + 1 ≤ ·) (w.alloc (.cells #[.int .i64 0, .string ⟨#[]⟩, .int .i64 0, .int .i64 0] 28)) (w5.alloc (.cells #[.int .i64 (c : Int), encStr s, .int .i64 0, .int .i64 0] 28))) := Lib.hid ((hO5.alloc _).lift); have hlt : w.heap.size + 1 ≤ w5.heap.size := (by have h3 := hO5.size; rw [show (w.alloc (.cells #[.int .i64 0, .string ⟨#[]⟩, .int .i64 0, .int .i64 0] 28)).heap.size = w.heap.size + 1 by show (Array.push _ _).size = _; rw [Array.size_push]] at h3; exact h3); have d1 : ¬ w5.heap.size = w.heap.size := (by omega); have d2 : ¬ w.heap.size = w5.heap.size := (by omega); have hbx := boxAt (HO5.out); obtain ⟨q0, z0⟩ := blk_c (k := 0) hbx rfl; obtain ⟨q1, z1⟩ := blk_c (k := 1) hbx rfl; obtain ⟨q2, z2⟩ := blk_c (k := 2) hbx rfl; obtain ⟨q3, z3⟩ := blk_c (k := 3) hbx rfl; clear hbx; have hkc := new_block w5 (.cells #[.int .i64 (c : Int), encStr s, .int .i64 0, .int .i64 0] 28); obtain ⟨k0, -⟩ := blk_c (k := 0) hkc rfl; obtain ⟨k1, -⟩ := blk_c (k := 1) hkc rfl; obtain ⟨k2, -⟩ := blk_c (k := 2) hkc rfl; obtain ⟨k3, -⟩ := blk_c (k := 3) hkc rfl; clear hO5 hlt hkc)
  obtain ⟨Z, hZ⟩ : ∃ Z, w5.alloc (.cells #[.int .i64 (c : Int), .string ⟨s.toArray⟩, .int .i64 0, .int .i64 0] 28) = Z := ⟨_, rfl⟩
  have hZ' : w5.alloc (.cells #[.int .i64 (c : Int), encStr s, .int .i64 0, .int .i64 0] 28) = Z := hZ
  rw [hZ'] at HO5 q0 q1 q2 q3 z0 z1 z2 z3 k0 k1 k2 k3
  rw [hZ]
  clear hZ hZ'
  go_wp2
  go_region
  all_goals
    go_wp2
    have hfe := faultEnd (c := c) (y := s) HO5.out (a0 := .int .i64 c) (a1 := encStr s) rfl rfl
    refine bodyPost_ret (v := .tuple #[.slice none 0 0, faV c s]) (rneRes _ _ _ _ _ _ _ _ rfl rfl (by have h9 := hfe.1; first | exact h9 | (simpa [World.drew] using h9))) rfl ?_
    exact NmF_bad HF.out (by first | exact hfe.2 | exact hfe.2.drew)
set_option maxRecDepth 100000 in
set_option maxHeartbeats 4000000 in
theorem rUsers_bad (w : World) (oa : Option Addr) (n ca : Nat) (l : List Md) (nm : Nm) (h : Mdz w oa n l) (him : n ≤ 32 → ∀ m ∈ l, m.im.length ≤ 100) (c : Nat) (s : Nm) (hF : relF l nm = some (c, s)) : Calls Tryz.prog 18 #[.slice oa n ca, encStr nm] w (NmF (relF l nm) (relM (rvG (grP l)) l nm) w) := by
  have hA : Only (fun _ => False) w (w.alloc (.cells #[.int .i64 0, .string ⟨#[]⟩, .int .i64 0, .int .i64 0] 28)) := (Only.refl _ _).alloc _
  have HNA : Hid (Calls Tryz.prog 34 #[.slice oa n ca, encStr nm] (w.alloc (.cells #[.int .i64 0, .string ⟨#[]⟩, .int .i64 0, .int .i64 0] 28)) fun e w' => e = .returned (faV c s) ∧ Only (fun _ => False) (w.alloc (.cells #[.int .i64 0, .string ⟨#[]⟩, .int .i64 0, .int .i64 0] 28)) w') := Lib.hid (by have h8 := rnamed_p (w.alloc (.cells #[.int .i64 0, .string ⟨#[]⟩, .int .i64 0, .int .i64 0] 28)) oa n ca l nm (h.old hA (fun _ _ hc => hc)) him; rw [hF] at h8; exact h8)
  have hc0 : c ≠ 0 := by
    unfold relF at hF
    cases hG : accF l with
    | some x => rw [hG] at hF; exact accF_pos (by rw [hG]; exact hF)
    | none =>
      rw [hG] at hF
      simp only at hF
      split at hF
      · cases hF
      · cases hF; decide
  have hcn : ¬ (c : Int) = 0 := by omega
  have HF := Lib.hid hF
  clear h him hA hF hc0
  go_enter Tryz.func18, Tryz.ntmps18
  go_wp2_with (go_at_call 34; (with_reducible refine HNA.out.mono ?_); rintro e w5 ⟨rfl, hO5⟩; have HO5 : Hid (Only (w.heap.size + 1 ≤ ·) (w.alloc (.cells #[.int .i64 0, .string ⟨#[]⟩, .int .i64 0, .int .i64 0] 28)) (w5.alloc (.cells #[.int .i64 (c : Int), encStr s, .int .i64 0, .int .i64 0] 28))) := Lib.hid ((hO5.alloc _).lift); have hlt : w.heap.size + 1 ≤ w5.heap.size := (by have h3 := hO5.size; rw [show (w.alloc (.cells #[.int .i64 0, .string ⟨#[]⟩, .int .i64 0, .int .i64 0] 28)).heap.size = w.heap.size + 1 by show (Array.push _ _).size = _; rw [Array.size_push]] at h3; exact h3); have d1 : ¬ w5.heap.size = w.heap.size := (by omega); have d2 : ¬ w.heap.size = w5.heap.size := (by omega); have hbx := boxAt (HO5.out); obtain ⟨q0, z0⟩ := blk_c (k := 0) hbx rfl; obtain ⟨q1, z1⟩ := blk_c (k := 1) hbx rfl; obtain ⟨q2, z2⟩ := blk_c (k := 2) hbx rfl; obtain ⟨q3, z3⟩ := blk_c (k := 3) hbx rfl; clear hbx; have hkc := new_block w5 (.cells #[.int .i64 (c : Int), encStr s, .int .i64 0, .int .i64 0] 28); obtain ⟨k0, -⟩ := blk_c (k := 0) hkc rfl; obtain ⟨k1, -⟩ := blk_c (k := 1) hkc rfl; obtain ⟨k2, -⟩ := blk_c (k := 2) hkc rfl; obtain ⟨k3, -⟩ := blk_c (k := 3) hkc rfl; clear hO5 hlt hkc)
  obtain ⟨Z, hZ⟩ : ∃ Z, w5.alloc (.cells #[.int .i64 (c : Int), .string ⟨s.toArray⟩, .int .i64 0, .int .i64 0] 28) = Z := ⟨_, rfl⟩
  have hZ' : w5.alloc (.cells #[.int .i64 (c : Int), encStr s, .int .i64 0, .int .i64 0] 28) = Z := hZ
  rw [hZ'] at HO5 q0 q1 q2 q3 z0 z1 z2 z3 k0 k1 k2 k3
  rw [hZ]
  clear hZ hZ'
  go_wp2
  go_region
  all_goals
    go_wp2
    have hfe := faultEnd (c := c) (y := s) HO5.out (a0 := .int .i64 c) (a1 := encStr s) rfl rfl
    refine bodyPost_ret (v := .tuple #[.slice none 0 0, faV c s]) (rusRes _ _ _ _ _ _ _ _ rfl rfl (by have h9 := hfe.1; first | exact h9 | (simpa [World.drew] using h9))) rfl ?_
    exact NmF_bad HF.out (by first | exact hfe.2 | exact hfe.2.drew)
set_option maxRecDepth 100000 in
set_option maxHeartbeats 4000000 in
theorem rNeeds_good (w : World) (oa : Option Addr) (n ca : Nat) (l : List Md) (nm : Nm) (h : Mdz w oa n l) (him : n ≤ 32 → ∀ m ∈ l, m.im.length ≤ 100) (hF : relF l nm = none) (hC : accF l = none) (hm : nm ∈ nsP l) : Calls Tryz.prog 16 #[.slice oa n ca, encStr nm] w (NmF (relF l nm) (relM (grP l) l nm) w) := by
  obtain ⟨hl32, hgood⟩ := accF_none hC
  have hl := h.len
  have hA : Only (fun _ => False) w (w.alloc (.cells #[.int .i64 0, .string ⟨#[]⟩, .int .i64 0, .int .i64 0] 28)) := (Only.refl _ _).alloc _
  have hW := h.old hA (fun _ _ hc => hc)
  have HNA : Hid (Calls Tryz.prog 34 #[.slice oa n ca, encStr nm] (w.alloc (.cells #[.int .i64 0, .string ⟨#[]⟩, .int .i64 0, .int .i64 0] 28)) fun e w' => e = .returned (faV 0 []) ∧ Only (fun _ => False) (w.alloc (.cells #[.int .i64 0, .string ⟨#[]⟩, .int .i64 0, .int .i64 0] 28)) w') := Lib.hid (by have h8 := rnamed_p (w.alloc (.cells #[.int .i64 0, .string ⟨#[]⟩, .int .i64 0, .int .i64 0] 28)) oa n ca l nm hW him; rw [hF] at h8; exact h8)
  obtain ⟨R, hR⟩ : ∃ R, relM (grP l) l nm = R := ⟨_, rfl⟩
  have HRE : Hid (∀ wx, Only (fun _ => False) (w.alloc (.cells #[.int .i64 0, .string ⟨#[]⟩, .int .i64 0, .int .i64 0] 28)) wx → Calls Tryz.prog 35 #[.slice oa n ca, encStr nm] wx fun e w' => ∃ oo cc, e = .returned (.slice oo R.length cc) ∧ SR w' wx.heap.size (.slice oo R.length cc) R ∧ Only (fun _ => False) wx w') := Lib.hid (fun wx ho => by
    have h8 := rreach_p l n ca oa hl (by omega) (him (by omega)) hgood _ wx nm (hW.old ho (fun _ _ hc => hc)) hm (Nat.lt_succ_self _)
    rw [hR] at h8
    exact h8)
  have HF := Lib.hid hF
  rw [hR]
  clear h him hA hW hF hC hm hgood hR
  go_enter Tryz.func16, Tryz.ntmps16
  go_wp2_with (go_at_call 34; (with_reducible refine HNA.out.mono ?_); rintro e w5 ⟨rfl, hO5⟩; have HO5 : Hid (Only (fun _ => False) (w.alloc (.cells #[.int .i64 0, .string ⟨#[]⟩, .int .i64 0, .int .i64 0] 28)) (w5.alloc (.cells #[.int .i64 0, .string ⟨#[]⟩, .int .i64 0, .int .i64 0] 28))) := Lib.hid (hO5.alloc _); have hlt : w.heap.size + 1 ≤ w5.heap.size := (by have h3 := hO5.size; rw [show (w.alloc (.cells #[.int .i64 0, .string ⟨#[]⟩, .int .i64 0, .int .i64 0] 28)).heap.size = w.heap.size + 1 by show (Array.push _ _).size = _; rw [Array.size_push]] at h3; exact h3); have d1 : ¬ w5.heap.size = w.heap.size := (by omega); have d2 : ¬ w.heap.size = w5.heap.size := (by omega); have HLT := Lib.hid hlt; have hbx := boxAt (HO5.out.lift); obtain ⟨q0, z0⟩ := blk_c (k := 0) hbx rfl; obtain ⟨q1, z1⟩ := blk_c (k := 1) hbx rfl; obtain ⟨q2, z2⟩ := blk_c (k := 2) hbx rfl; obtain ⟨q3, z3⟩ := blk_c (k := 3) hbx rfl; clear hbx; have hkc := Bx.new w5; obtain ⟨k0, k1, k2, k3⟩ := hkc.cells; have HKC := Lib.hid hkc; clear hO5 hlt hkc)
  obtain ⟨Z, hZ⟩ : ∃ Z, w5.alloc (.cells #[.int .i64 0, .string ⟨#[]⟩, .int .i64 0, .int .i64 0] 28) = Z := ⟨_, rfl⟩
  rw [hZ] at HO5 q0 q1 q2 q3 z0 z1 z2 z3 k0 k1 k2 k3 HKC
  rw [hZ]
  clear hZ
  go_wp2
  go_region_with (go_at_call 35; (with_reducible refine (HRE.out _ HO5.out.drew).mono ?_); rintro e w7 ⟨oR, cR, rfl, hS7, hO7⟩; have HS7 := Lib.hid hS7; have hO57 := HO5.out.drew.trans hO7; have HO57 : Hid (Only (w.heap.size + 1 ≤ ·) (w.alloc (.cells #[.int .i64 0, .string ⟨#[]⟩, .int .i64 0, .int .i64 0] 28)) w7) := Lib.hid hO57.lift; have hbx := boxAt HO57.out; obtain ⟨y0, x0⟩ := blk_c (k := 0) hbx rfl; obtain ⟨y1, x1⟩ := blk_c (k := 1) hbx rfl; obtain ⟨y2, x2⟩ := blk_c (k := 2) hbx rfl; obtain ⟨y3, x3⟩ := blk_c (k := 3) hbx rfl; have hk7 := (HKC.out.on (Only.refl (fun _ => False) Z).drew).on hO7; obtain ⟨j0, j1, j2, j3⟩ := hk7.cells; clear hS7 hO57 hbx hk7)
  all_goals
    have HSZ : Hid (w.heap.size + 1 ≤ Z.heap.size) := Lib.hid (by have h3 := HO5.out.size; rw [show (w.alloc (.cells #[.int .i64 0, .string ⟨#[]⟩, .int .i64 0, .int .i64 0] 28)).heap.size = w.heap.size + 1 by show (Array.push _ _).size = _; rw [Array.size_push]] at h3; exact h3)
    have HS8 : Hid (SR w7 (w.heap.size + 1) (.slice oR R.length cR) R) := Lib.hid (SR.lo HS7.out HSZ.out)
    clear hO7
    go_wp2
    have hfe := faultEnd (c := 0) (y := []) HO57.out (a0 := .int .i64 0) (a1 := .string ⟨#[]⟩) rfl rfl
    refine bodyPost_ret (v := .tuple #[.slice oR R.length cR, faV 0 []]) (rneRes _ _ _ _ _ _ _ _ rfl rfl hfe.1) rfl ?_
    exact NmF_good rfl HF.out (strz_box HS8.out) hfe.2
theorem filt_take {ns : List Nm} {p : Nm → Bool} {i : Nat} (hi : i < ns.length) : (ns.take (i + 1)).filter p = (ns.take i).filter p ++ (if p (nAt ns i) then [nAt ns i] else []) := by
  rw [take_nAt hi, List.filter_append]
  cases hp : p (nAt ns i) <;> simp [List.filter_cons, List.filter_nil, hp]
set_option maxRecDepth 100000 in
set_option maxHeartbeats 4000000 in
theorem rUsers_good (w : World) (oa : Option Addr) (n ca : Nat) (l : List Md) (nm : Nm) (h : Mdz w oa n l) (him : n ≤ 32 → ∀ m ∈ l, m.im.length ≤ 100) (hF : relF l nm = none) (hC : accF l = none) (hm : nm ∈ nsP l) : Calls Tryz.prog 18 #[.slice oa n ca, encStr nm] w (NmF (relF l nm) (relM (rvG (grP l)) l nm) w) := by
  obtain ⟨hl32, hgood⟩ := accF_none hC
  have hl := h.len
  have hnl := nsP_len l
  have hA : Only (fun _ => False) w (w.alloc (.cells #[.int .i64 0, .string ⟨#[]⟩, .int .i64 0, .int .i64 0] 28)) := (Only.refl _ _).alloc _
  have hW := h.old hA (fun _ _ hc => hc)
  have HNA : Hid (Calls Tryz.prog 34 #[.slice oa n ca, encStr nm] (w.alloc (.cells #[.int .i64 0, .string ⟨#[]⟩, .int .i64 0, .int .i64 0] 28)) fun e w' => e = .returned (faV 0 []) ∧ Only (fun _ => False) (w.alloc (.cells #[.int .i64 0, .string ⟨#[]⟩, .int .i64 0, .int .i64 0] 28)) w') := Lib.hid (by have h8 := rnamed_p (w.alloc (.cells #[.int .i64 0, .string ⟨#[]⟩, .int .i64 0, .int .i64 0] 28)) oa n ca l nm hW him; rw [hF] at h8; exact h8)
  have HNM : Hid (∀ wx, Only (fun _ => False) (w.alloc (.cells #[.int .i64 0, .string ⟨#[]⟩, .int .i64 0, .int .i64 0] 28)) wx → Calls Tryz.prog 29 #[.slice oa n ca] wx fun e w' => ∃ oo co, e = .returned (.slice oo n co) ∧ Strz w' oo n (nsP l) ∧ Only (fun _ => False) wx w') := Lib.hid (fun wx ho => (rNames_p wx oa n ca l (hW.old ho (fun _ _ hc => hc)) (by omega) hgood.nd).mono (by
    rintro e w' ⟨oo, co, h1, h2, h3⟩
    exact ⟨oo, co, h1, h2.strz, h3⟩))
  have HRE : Hid (∀ wx y, Only (w.heap.size ≤ ·) w wx → y ∈ nsP l → Calls Tryz.prog 35 #[.slice oa n ca, encStr y] wx fun e w' => ∃ oo cc, e = .returned (.slice oo (relM (grP l) l y).length cc) ∧ Strz w' oo (relM (grP l) l y).length (relM (grP l) l y) ∧ Only (fun _ => False) wx w') := Lib.hid (fun wx y ho hy => (rreach_p l n ca oa hl (by omega) (him (by omega)) hgood _ wx y (h.up ho) hy (Nat.lt_succ_self _)).mono (by
    rintro e w' ⟨oo, cc, h1, h2, h3⟩
    exact ⟨oo, cc, h1, h2.strz, h3⟩))
  have HRL : Hid (∀ y, y ∈ nsP l → (relM (grP l) l y).length ≤ 1000000) := Lib.hid (fun y hy => by have := rel_len hgood hy; omega)
  have HUE := Lib.hid (users_eq hgood hm)
  have HF := Lib.hid hF
  have HNL : Hid ((nsP l).length = n) := Lib.hid (by omega)
  clear h him hA hW hF hC hm hgood hnl
  go_enter Tryz.func18, Tryz.ntmps18
  go_wp2_with (first | (go_at_call 34; (with_reducible refine HNA.out.mono ?_); rintro e w5 ⟨rfl, hO5⟩; have HO5 := Lib.hid hO5; clear hO5) | (go_at_call 29; (with_reducible refine (HNM.out _ (HO5.out.alloc _)).mono ?_); rintro e w6 ⟨oN, cN, rfl, hS6, hO6⟩; have HS6 := Lib.hid hS6; have HK6 := Lib.hid ((Bx.new w5).on hO6); have HO6 := Lib.hid ((HO5.out.alloc (.cells #[.int .i64 0, .string ⟨#[]⟩, .int .i64 0, .int .i64 0] 28)).trans hO6); clear hS6 hO6))
  obtain ⟨kb, hkb⟩ : ∃ k, w5.heap.size = k := ⟨_, rfl⟩
  rw [hkb] at HK6
  rw [hkb]
  have HKB : Hid (w.heap.size + 1 ≤ kb ∧ kb < w6.heap.size) := Lib.hid ⟨by have h3 := HO5.out.size; rw [show (w.alloc (.cells #[.int .i64 0, .string ⟨#[]⟩, .int .i64 0, .int .i64 0] 28)).heap.size = w.heap.size + 1 by show (Array.push _ _).size = _; rw [Array.size_push]] at h3; omega, lt_of_block HK6.out⟩
  clear hkb
  go_loopw [7, 9] (fun v iv wr => ∃ i : Nat, i ≤ n ∧ iv = .int .i64 i ∧ SR wr w6.heap.size v (((nsP l).take i).filter (fun t => decide (nm ∈ relM (grP l) l t))) ∧ Only (w6.heap.size ≤ ·) w6 wr) (fun _ iv _ => n - (intOf iv).toNat)
  case atStart => exact ⟨0, by omega, rfl, SR.nil _ _, Only.refl _ _⟩
  case round =>
    obtain ⟨i, hi, rfl, hR, hO⟩ := hrel
    obtain ⟨oR, cR, hv⟩ := rowForm hR
    subst hv
    have HR := Lib.hid hR
    have HO := Lib.hid hO
    have HOW : Hid (Only (w.heap.size + 1 ≤ ·) (w.alloc (.cells #[.int .i64 0, .string ⟨#[]⟩, .int .i64 0, .int .i64 0] 28)) wr) := Lib.hid (HO6.out.lift.trans (hO.wide (K' := (w.heap.size + 1 ≤ ·)) (fun j hj => by have hj' : w6.heap.size ≤ j := hj; have h3 := HKB.out; show w.heap.size + 1 ≤ j; omega)))
    by_cases hin : i < n
    · have hil : i < (nsP l).length := by have := HNL.out; omega
      obtain ⟨b1, o1, e1, c1⟩ := (HS6.out.up hO).cell i hil
      subst e1
      have hft := filt_take (p := fun t => decide (nm ∈ relM (grP l) l t)) hil
      obtain ⟨y, hy⟩ : ∃ y, nAt (nsP l) i = y := ⟨_, rfl⟩
      rw [hy] at c1 hft
      have hym : y ∈ nsP l := by rw [← hy, nAt_get hil]; exact List.getElem_mem hil
      have hrl := HRL.out y hym
      have HRY := Lib.hid (HRE.out wr y (boxOnly HOW.out) hym)
      have HC : Hid (∀ wx, Only (fun _ => False) wr wx → wx.cell? ⟨b1, o1 + i, none⟩ = some (encStr y)) := Lib.hid (fun wx ho => cell_old c1 ho (fun _ _ hc => hc) rfl)
      obtain ⟨x, hx⟩ : ∃ x, decide (nm ∈ relM (grP l) l y) = x := ⟨_, rfl⟩
      rw [hx] at hft
      have HX := Lib.hid hx
      have HFT := Lib.hid hft
      obtain ⟨Q, hQ⟩ : ∃ Q, relM (grP l) l y = Q := ⟨_, rfl⟩
      rw [hQ] at HRY hrl HX
      obtain ⟨U, hU⟩ : ∃ U, ((nsP l).take i).filter (fun t => decide (nm ∈ relM (grP l) l t)) = U := ⟨_, rfl⟩
      rw [hU] at HR HFT
      rw [hU]
      have HUL : Hid (U.length ≤ n) := Lib.hid (by rw [← hU]; refine Nat.le_trans (List.length_filter_le _ _) ?_; rw [List.length_take]; omega)
      have h02 : (0 : Int) ≤ (i : Int) := Int.natCast_nonneg i
      have h03 : (i : Int) < (n : Int) := by omega
      have h04 : (i : Int).toNat = i := Int.toNat_natCast i
      have HSW : Hid (w6.heap.size ≤ wr.heap.size) := Lib.hid hO.size
      clear hy hym hR hO hft hx hQ hU
      cases x with
      | true =>
        go_wp2_with (first | (go_at_call 35; (with_reducible refine HRY.out.mono ?_); rintro e w7 ⟨oQ, cQ, rfl, hS7, hO7⟩; have HS7 := Lib.hid hS7; have HO7 := Lib.hid hO7; have c7 := HC.out _ hO7; clear hS7 hO7) | (go_at_call 21; (with_reducible refine (rHas_p w7 oQ Q.length cQ Q HS7.out hrl nm true HX.out).mono ?_); rintro e w7 ⟨rfl, rfl⟩) | (at_builtin; refine wpList_append_nm rfl _ _ rfl w6.heap.size (.slice oR U.length cR) U rfl (SR.al (HR.out.only HO7.out (fun _ _ hc => hc)) _) _ 1 1 [y] rfl (strz_one w7 y _) (by have := HUL.out; omega) (al_le (Nat.le_trans HSW.out HO7.out.size) _) ?_; intro oq cq w12 hq; have HA1 := Lib.hid hq.1; have HO1 := Lib.hid (((HO.out.trans HO7.out.lift).alloc _).trans hq.2); clear hq))
        go_roundw
        case rel => exact ⟨i + 1, by omega, by go_num, by rw [HFT.out]; exact HA1.out, HO1.out⟩
        case measure => simp [intOf]; omega
      | false =>
        go_wp2_with (first | (go_at_call 35; (with_reducible refine HRY.out.mono ?_); rintro e w7 ⟨oQ, cQ, rfl, hS7, hO7⟩; have HS7 := Lib.hid hS7; have HO7 := Lib.hid hO7; clear hS7 hO7) | (go_at_call 21; (with_reducible refine (rHas_p w7 oQ Q.length cQ Q HS7.out hrl nm false HX.out).mono ?_); rintro e w7 ⟨rfl, rfl⟩))
        go_roundw
        case rel => exact ⟨i + 1, by omega, by go_num, by rw [HFT.out]; simpa using HR.out.only HO7.out (fun _ _ hc => hc), HO.out.trans HO7.out.lift⟩
        case measure => simp [intOf]; omega
    · have hie : (nsP l).length = i := by have := HNL.out; omega
      have h03 : ¬ (i : Int) < (n : Int) := by omega
      have htk : (nsP l).take i = nsP l := take_all hie
      rw [htk, HUE.out] at hR
      rw [htk, HUE.out]
      have HR2 := Lib.hid hR
      have hbx := boxAt HOW.out
      obtain ⟨q0, z0⟩ := blk_c (k := 0) hbx rfl
      obtain ⟨q1, z1⟩ := blk_c (k := 1) hbx rfl
      obtain ⟨q2, z2⟩ := blk_c (k := 2) hbx rfl
      obtain ⟨q3, z3⟩ := blk_c (k := 3) hbx rfl
      have hk2 : Bx wr kb 0 ⟨#[]⟩ := (HO.out.block kb HKB.out.2 (fun hc => by have hc' : w6.heap.size ≤ kb := hc; have := HKB.out; omega)).trans HK6.out
      obtain ⟨k0, k1, k2, k3⟩ := hk2.cells
      have d1 : ¬ kb = w.heap.size := by have := HKB.out; omega
      have d2 : ¬ w.heap.size = kb := by have := HKB.out; omega
      obtain ⟨m, hm⟩ : ∃ m, (relM (rvG (grP l)) l nm).length = m := ⟨_, rfl⟩
      have HM := Lib.hid hm
      rw [hm] at HR2 ⊢
      clear hR hO htk hbx hk2 hm HR
      go_wp2
      go_region
      all_goals
        go_wp2
        have hfe := faultEnd (c := 0) (y := []) HOW.out (a0 := .int .i64 0) (a1 := .string ⟨#[]⟩) rfl rfl
        have hsb := strz_box (a0 := .int .i64 0) (a1 := .string ⟨#[]⟩) (a2 := .int .i64 0) (a3 := .int .i64 0) (SR.lo HR2.out (B' := w.heap.size + 1) (by have := HKB.out; omega))
        refine bodyPost_ret (v := .tuple #[.slice oR m cR, faV 0 []]) (rusRes _ _ _ _ _ _ _ _ rfl rfl (by have h9 := hfe.1; first | exact h9 | (simpa [World.drew] using h9))) rfl ?_
        first
          | exact NmF_good HM.out HF.out hsb hfe.2
          | exact NmF_good HM.out HF.out (hsb.old ((Only.refl (fun _ => False) _).drew) (fun _ _ hc => hc)) hfe.2.drew

end Go.Proofs.YtigmdiagdlbdpaaGreat
namespace Go.Proofs.YtigmdiagdlbdpaaGreat
open Go.RowKit Go.Maps
/-- What the laws call small. -/
def smallM (l : List Md) : Bool := l.all (fun m => decide (m.im.length ≤ 12)) && (decide (l.length ≤ 12) || (decide (32 < l.length) && decide (l.length ≤ 100)))
theorem smallM_im {l : List Md} (h : smallM l = true) : ∀ m ∈ l, m.im.length ≤ 12 := fun m hm => by
  unfold smallM at h
  rw [Bool.and_eq_true] at h
  exact of_decide_eq_true (List.all_eq_true.1 h.1 m hm)
theorem smallM_len {l : List Md} (h : smallM l = true) : l.length ≤ 12 ∨ (32 < l.length ∧ l.length ≤ 100) := by
  unfold smallM at h
  rw [Bool.and_eq_true, Bool.or_eq_true, Bool.and_eq_true] at h
  rcases h.2 with h | h
  · exact .inl (of_decide_eq_true h)
  · exact .inr ⟨of_decide_eq_true h.1, of_decide_eq_true h.2⟩
theorem okL_small {l : List Md} (h : smallM l = true) (hz : ∀ m ∈ l, SzM m) : OkL l := ⟨hz, fun m hm => by have := smallM_im h m hm; omega⟩
set_option maxRecDepth 100000 in
set_option maxHeartbeats 4000000 in
theorem mSmall_p (w : World) (oa : Option Addr) (n ca : Nat) (l : List Md) (h : Mdz w oa n l) (hn : n ≤ maxLen) (x : Bool) (hx : smallM l = x) : Calls Tryz.prog 8 #[.slice oa n ca] w fun e w' => e = .returned (.bool x) ∧ w' = w := by
  have hl := h.len
  have HX := Lib.hid hx
  unfold maxLen at hn
  clear hx
  go_enter Tryz.func8, Tryz.ntmps8
  go_wp2
  go_loopw [3] (fun q wr => ∃ k : Nat, k ≤ n ∧ q = .int .i64 k ∧ Hid (∀ j, j < k → (mdAt l j).im.length ≤ 12) ∧ wr = w) (fun q _ => n - (intOf q).toNat)
  case atStart => exact ⟨0, by omega, rfl, Lib.hid (fun i hi => absurd hi (Nat.not_lt_zero _)), rfl⟩
  case round =>
    obtain ⟨k, hk, rfl, HK, rfl⟩ := hrel
    by_cases hlt : k < n
    · have hkl : k < l.length := by omega
      obtain ⟨b1, o1, e1, c1⟩ := h.cell k hkl
      subst e1
      obtain ⟨al, ox, oi, od, nx, cx, ni, ci, nd, cd, p0, p1, p2, p3, p4, hIz⟩ := c1
      have hni := hIz.len
      have h01 : (0 : Int) ≤ (k : Int) := Int.natCast_nonneg k
      have h02 : (k : Int) < (n : Int) := by omega
      have h03 : (k : Int).toNat = k := Int.toNat_natCast k
      by_cases h12 : 12 < ni
      · have h04 : (12 : Int) < (ni : Int) := by omega
        have HF : Hid (x = false) := Lib.hid (by
          cases x with
          | false => rfl
          | true =>
            have h5 := smallM_im HX.out (mdAt l k) (by rw [mdAt_get hkl]; exact List.getElem_mem hkl)
            omega)
        clear hni hIz p0 p1 p2 p4
        go_wp2
        go_ret
        rw [HF.out]
        exact ⟨rfl, rfl⟩
      · have h04 : ¬ (12 : Int) < (ni : Int) := by omega
        have HN := Lib.hid (show ∀ j, j < k + 1 → (mdAt l j).im.length ≤ 12 from fun j hj => by
          by_cases e : j = k
          · rw [e, hni]; omega
          · exact HK.out j (by omega))
        clear hni hIz p0 p1 p2 p4
        go_wp2
        go_roundw
        case rel => exact ⟨k + 1, by omega, by go_num, HN, trivial⟩
        case measure => simp [intOf]; omega
    · have hall : l.all (fun m => decide (m.im.length ≤ 12)) = true := List.all_eq_true.2 (fun m hm => by
        obtain ⟨j, hj, e⟩ := List.getElem_of_mem hm
        have := HK.out j (by omega)
        rw [mdAt_get hj, e] at this
        exact decide_eq_true this)
      have h02 : ¬ (k : Int) < (n : Int) := by omega
      by_cases h12 : n ≤ 12
      · have h04 : (n : Int) ≤ 12 := by omega
        have HT : Hid (x = true) := Lib.hid (by rw [← HX.out]; unfold smallM; rw [hall, hl, decide_eq_true h12]; rfl)
        clear hall
        go_wp2
        go_ret
        rw [HT.out]
        exact ⟨rfl, rfl⟩
      · have h04 : ¬ (n : Int) ≤ 12 := by omega
        by_cases h32 : 32 < n
        · have h05 : (32 : Int) < (n : Int) := by omega
          by_cases h100 : n ≤ 100
          · have h06 : (n : Int) ≤ 100 := by omega
            have HT : Hid (x = true) := Lib.hid (by rw [← HX.out]; unfold smallM; rw [hall, hl, decide_eq_true h32, decide_eq_true h100]; simp)
            clear hall
            go_wp2
            go_ret
            rw [HT.out]
            exact ⟨rfl, rfl⟩
          · have h06 : ¬ (n : Int) ≤ 100 := by omega
            have HT : Hid (x = false) := Lib.hid (by rw [← HX.out]; unfold smallM; rw [hall, hl, decide_eq_false h12, decide_eq_false h100]; simp)
            clear hall
            go_wp2
            go_ret
            rw [HT.out]
            exact ⟨rfl, rfl⟩
        · have h05 : ¬ (32 : Int) < (n : Int) := by omega
          have HT : Hid (x = false) := Lib.hid (by rw [← HX.out]; unfold smallM; rw [hall, hl, decide_eq_false h12, decide_eq_false h32]; simp)
          clear hall
          go_wp2
          go_ret
          rw [HT.out]
          exact ⟨rfl, rfl⟩
set_option maxRecDepth 100000 in
set_option maxHeartbeats 4000000 in
theorem ModgraphCycle_walk (w : World) (oa : Option Addr) (n ca : Nat) (l : List Md) (h : Mdz w oa n l) (hn : n ≤ maxLen) (hsz : ∀ m ∈ l, SzM m) : Calls Tryz.prog 5 #[.slice oa n ca] w fun e w' => e = .returned (.bool true) ∧ Only (fun _ => False) w w' := by
  have hl := h.len
  have hn' := hn
  unfold maxLen at hn'
  obtain ⟨x, hx⟩ : ∃ x, smallM l = x := ⟨_, rfl⟩
  have HSM := Lib.hid (mSmall_p w oa n ca l h hn x hx)
  cases x with
  | false =>
    clear h hsz hx
    go_enter Tryz.func5, Tryz.ntmps5
    go_wp2_with (first | (go_at_call 8; (refine HSM.out.mono ?_); rintro e w4 ⟨rfl, rfl⟩) | (go_at_call 9; (refine (awake_p _).mono ?_); rintro e w9 ⟨rfl, hO9⟩))
    go_ret
    exact ⟨rfl, hO9⟩
  | true =>
    by_cases h8 : 8 < n ∧ n ≤ 32
    · have h1 : (8 : Int) < (n : Int) := by omega
      have h2 : (n : Int) ≤ 32 := by omega
      clear h hsz hx
      go_enter Tryz.func5, Tryz.ntmps5
      go_wp2_with (first | (go_at_call 8; (refine HSM.out.mono ?_); rintro e w4 ⟨rfl, rfl⟩) | (go_at_call 9; (refine (awake_p _).mono ?_); rintro e w9 ⟨rfl, hO9⟩))
      go_ret
      exact ⟨rfl, hO9⟩
    · have hok := okL_small hx hsz
      have hcl : (cycM l).length ≤ 1000000 := by
        unfold cycM
        split
        · exact Nat.zero_le _
        · rename_i hC
          have hl32 := (conA_small hC).1
          rw [List.length_map]
          have h3 : (cyP (grP l)).length ≤ (grP l).length := cycS_len (grP_valid l) (P := cyB (grP l)) (fun k hk => cyB_iff (grP_valid l) hk) (grP l).length (Nat.le_refl _)
          rw [grP_len] at h3
          omega
      have HP1 : Hid (Calls Tryz.prog 19 #[.slice oa n ca] w fun e w' => ∃ oc cc, e = .returned (.slice oc (cycM l).length cc) ∧ Strz w' oc (cycM l).length (cycM l) ∧ Only (fun _ => False) w w') := Lib.hid ((Cycle_p w oa n ca l h (fun _ => hok)).mono (by
        rintro e w' ⟨oc, cc, h1, h2, h3⟩
        exact ⟨oc, cc, h1, h2.strz, h3⟩))
      have HP2 : Hid (∀ wx, Only (fun _ => False) w wx → Calls Tryz.prog 20 #[.slice oa n ca] wx fun e w' => ∃ oc cc, e = .returned (.slice oc (cycM l).length cc) ∧ Strz w' oc (cycM l).length (cycM l) ∧ Only (fun _ => False) wx w') := Lib.hid (fun wx ho => rCycle_p wx oa n ca l (h.old ho (fun _ _ hc => hc)) (fun _ m hm => by have := smallM_im hx m hm; omega))
      obtain ⟨C, hC⟩ : ∃ C, cycM l = C := ⟨_, rfl⟩
      rw [hC] at hcl HP1 HP2
      obtain ⟨c, hc⟩ : ∃ c, C.length = c := ⟨_, rfl⟩
      rw [hc] at hcl HP1 HP2
      have hx' := hx
      clear h hsz hok hC hc hx hx'
      by_cases h9 : 8 < n
      · have h1 : (8 : Int) < (n : Int) := by omega
        have h2 : ¬ (n : Int) ≤ 32 := by omega
        go_enter Tryz.func5, Tryz.ntmps5
        go_wp2_with (first | (go_at_call 8; (refine HSM.out.mono ?_); rintro e w4 ⟨rfl, rfl⟩) | (go_at_call 19; (with_reducible refine HP1.out.mono ?_); rintro e w5 ⟨oc, cc, rfl, hS5, hO5⟩; have HS5 := Lib.hid hS5; have HO5 := Lib.hid hO5; clear hS5 hO5) | (go_at_call 20; (with_reducible refine (HP2.out _ HO5.out).mono ?_); rintro e w6 ⟨od, cd, rfl, hS6, hO6⟩; have HS6 := Lib.hid hS6; have HO6 := Lib.hid hO6; clear hS6 hO6) | (go_at_call 14; (with_reducible refine (sameT w6 oc od c cc cd C (HS5.out.old HO6.out (fun _ _ hc => hc)) HS6.out hcl).mono ?_); rintro e w7 ⟨rfl, hO7⟩; have HO7 := Lib.hid hO7; clear hO7) | (go_at_call 9; (refine (awake_p _).mono ?_); rintro e w9 ⟨rfl, hO9⟩))
        go_ret
        exact ⟨rfl, HO5.out.trans (HO6.out.trans (HO7.out.trans hO9))⟩
      · have h1 : ¬ (8 : Int) < (n : Int) := by omega
        go_enter Tryz.func5, Tryz.ntmps5
        go_wp2_with (first | (go_at_call 8; (refine HSM.out.mono ?_); rintro e w4 ⟨rfl, rfl⟩) | (go_at_call 19; (with_reducible refine HP1.out.mono ?_); rintro e w5 ⟨oc, cc, rfl, hS5, hO5⟩; have HS5 := Lib.hid hS5; have HO5 := Lib.hid hO5; clear hS5 hO5) | (go_at_call 20; (with_reducible refine (HP2.out _ HO5.out).mono ?_); rintro e w6 ⟨od, cd, rfl, hS6, hO6⟩; have HS6 := Lib.hid hS6; have HO6 := Lib.hid hO6; clear hS6 hO6) | (go_at_call 14; (with_reducible refine (sameT w6 oc od c cc cd C (HS5.out.old HO6.out (fun _ _ hc => hc)) HS6.out hcl).mono ?_); rintro e w7 ⟨rfl, hO7⟩; have HO7 := Lib.hid hO7; clear hO7) | (go_at_call 9; (refine (awake_p _).mono ?_); rintro e w9 ⟨rfl, hO9⟩))
        go_ret
        exact ⟨rfl, HO5.out.trans (HO6.out.trans (HO7.out.trans hO9))⟩
end Go.Proofs.YtigmdiagdlbdpaaGreat
namespace Go.Proofs.YtigmdiagdlbdpaaGreat
open Go.RowKit Go.Maps
theorem rNeeds_p (w : World) (oa : Option Addr) (n ca : Nat) (l : List Md) (nm : Nm) (h : Mdz w oa n l) (him : n ≤ 32 → ∀ m ∈ l, m.im.length ≤ 100) : Calls Tryz.prog 16 #[.slice oa n ca, encStr nm] w (NmF (relF l nm) (relM (grP l) l nm) w) := by
  cases hF : relF l nm with
  | some x =>
    obtain ⟨c, s⟩ := x
    rw [← hF]
    exact rNeeds_bad w oa n ca l nm h him c s hF
  | none =>
    rw [← hF]
    cases hC : accF l with
    | some x => unfold relF at hF; rw [hC] at hF; cases hF
    | none =>
      refine rNeeds_good w oa n ca l nm h him hF hC ?_
      rw [(show relF l nm = if nm ∈ nsP l then none else some (16, nm) by unfold relF; rw [hC])] at hF
      by_cases hm : nm ∈ nsP l
      · exact hm
      · rw [if_neg hm] at hF; cases hF
theorem rUsers_p (w : World) (oa : Option Addr) (n ca : Nat) (l : List Md) (nm : Nm) (h : Mdz w oa n l) (him : n ≤ 32 → ∀ m ∈ l, m.im.length ≤ 100) : Calls Tryz.prog 18 #[.slice oa n ca, encStr nm] w (NmF (relF l nm) (relM (rvG (grP l)) l nm) w) := by
  cases hF : relF l nm with
  | some x =>
    obtain ⟨c, s⟩ := x
    rw [← hF]
    exact rUsers_bad w oa n ca l nm h him c s hF
  | none =>
    rw [← hF]
    cases hC : accF l with
    | some x => unfold relF at hF; rw [hC] at hF; cases hF
    | none =>
      refine rUsers_good w oa n ca l nm h him hF hC ?_
      rw [(show relF l nm = if nm ∈ nsP l then none else some (16, nm) by unfold relF; rw [hC])] at hF
      by_cases hm : nm ∈ nsP l
      · exact hm
      · rw [if_neg hm] at hF; cases hF
/-- Names and a fault, whichever. -/
def NmU (c : Nat) (s : Nm) (k : Nat) (L : List Nm) (w : World) (e : Ending) (w' : World) : Prop := ∃ oa ca, e = .returned (.tuple #[.slice oa k ca, faV c s]) ∧ Strz w' oa k L ∧ Only (fun _ => False) w w'
def fC : Option (Nat × Nm) → Nat
  | some x => x.1
  | none => 0
def fS : Option (Nat × Nm) → Nm
  | some x => x.2
  | none => []
def fL : Option (Nat × Nm) → List Nm → List Nm
  | some _, _ => []
  | none, L => L
theorem NmU_q {F : Option (Nat × Nm)} {L : List Nm} {w w' : World} {e : Ending} (h : nmQ F L w e w') : NmU (fC F) (fS F) (fL F L).length (fL F L) w e w' := by
  unfold nmQ at h
  cases F with
  | some x => exact ⟨none, 0, h.1, strz_nil _ 0 _, h.2⟩
  | none =>
    obtain ⟨⟨oa, ca, h1, h2⟩, h3⟩ := h
    exact ⟨oa, ca, h1, h2.strz, h3⟩
theorem NmU_f {F : Option (Nat × Nm)} {L : List Nm} {w w' : World} {e : Ending} (h : NmF F L w e w') : NmU (fC F) (fS F) (fL F L).length (fL F L) w e w' := by
  unfold NmF at h
  cases F with
  | some x => exact ⟨none, 0, h.1, strz_nil _ 0 _, h.2⟩
  | none =>
    obtain ⟨⟨oa, ca, h1, h2⟩, h3⟩ := h
    exact ⟨oa, ca, h1, h2, h3⟩
theorem Bx.newF (w : World) (c : Nat) (s : Nm) : Bx (w.alloc (.cells #[.int .i64 (c : Int), encStr s, .int .i64 0, .int .i64 0] 28)) w.heap.size c ⟨s.toArray⟩ := new_block w _
theorem Only.al (w : World) (o : Obj) : Only (fun _ => False) w (w.alloc o) := (Only.refl _ _).alloc _
theorem fL_len {l : List Md} {nm : Nm} {E : List (List Nat)} (h : ∀ y, accF l = none → nm ∈ nsP l → (relM E l nm).length = y → y ≤ 1000000) : (fL (relF l nm) (relM E l nm)).length ≤ 1000000 := by
  cases hF : relF l nm with
  | some x => exact Nat.zero_le _
  | none =>
    cases hC : accF l with
    | some x => unfold relF at hF; rw [hC] at hF; cases hF
    | none =>
      rw [(show relF l nm = if nm ∈ nsP l then none else some (16, nm) by unfold relF; rw [hC])] at hF
      by_cases hm : nm ∈ nsP l
      · exact h _ hC hm rfl
      · rw [if_neg hm] at hF; cases hF
set_option maxRecDepth 100000 in
set_option maxHeartbeats 4000000 in
theorem needs_core (w : World) (oa : Option Addr) (n ca : Nat) (l : List Md) (sa : ByteArray) (HSM : Hid (Calls Tryz.prog 8 #[.slice oa n ca] w fun e w' => e = .returned (.bool true) ∧ w' = w)) (c : Nat) (s : Nm) (k q : Nat) (L M : List Nm) (hk : k ≤ 1000000) (hq : q ≤ 1000000)
    (HP1 : Hid (Calls Tryz.prog 15 #[.slice oa n ca, .string sa] w (NmU c s k L w)))
    (HP2 : Hid (∀ wx, Only (fun _ => False) w wx → Calls Tryz.prog 16 #[.slice oa n ca, .string sa] wx (NmU c s k L wx)))
    (HP3 : Hid (∀ wx, Only (fun _ => False) w wx → Calls Tryz.prog 17 #[.slice oa n ca, .string sa] wx (NmU c s q M wx)))
    (HP4 : Hid (∀ wx, Only (fun _ => False) w wx → Calls Tryz.prog 18 #[.slice oa n ca, .string sa] wx (NmU c s q M wx))) : Calls Tryz.prog 4 #[.slice oa n ca, .string sa] w fun e w' => e = .returned (.bool true) ∧ Only (fun _ => False) w w' := by
  go_enter Tryz.func4, Tryz.ntmps4
  go_wp2_with (first
    | (go_at_call 8; (refine HSM.out.mono ?_); rintro e w4 ⟨rfl, rfl⟩)
    | (go_at_call 15; (with_reducible refine HP1.out.mono ?_); rintro e w5 ⟨o1, c1, rfl, hS5, hO5⟩; have HS5 := Lib.hid hS5; have HO5 := Lib.hid hO5; clear hS5 hO5)
    | (go_at_call 16; (with_reducible refine (HP2.out _ (HO5.out.alloc _)).mono ?_); rintro e w6 ⟨o2, c2, rfl, hS6, hO6⟩; have HS6 := Lib.hid hS6; have HB6 := Lib.hid ((Bx.newF w5 c s).on hO6); have HO6 := Lib.hid ((Only.al w5 (.cells #[.int .i64 (c : Int), encStr s, .int .i64 0, .int .i64 0] 28)).trans hO6); clear hS6 hO6)
    | (go_at_call 17; (with_reducible refine (HP3.out _ ((HO5.out.trans HO6.out).alloc _)).mono ?_); rintro e w7 ⟨o3, c3, rfl, hS7, hO7⟩; have HS7 := Lib.hid hS7; have HB7 := Lib.hid ((Bx.newF w6 c s).on hO7); have HO7 := Lib.hid ((Only.al w6 (.cells #[.int .i64 (c : Int), encStr s, .int .i64 0, .int .i64 0] 28)).trans hO7); clear hS7 hO7)
    | (go_at_call 18; (with_reducible refine (HP4.out _ ((HO5.out.trans (HO6.out.trans HO7.out)).alloc _)).mono ?_); rintro e w8 ⟨o4, c4, rfl, hS8, hO8⟩; have HS8 := Lib.hid hS8; have HB8 := Lib.hid ((Bx.newF w7 c s).on hO8); have HO8 := Lib.hid ((Only.al w7 (.cells #[.int .i64 (c : Int), encStr s, .int .i64 0, .int .i64 0] 28)).trans hO8); have HA8 := Lib.hid (Only.al w8 (.cells #[.int .i64 (c : Int), encStr s, .int .i64 0, .int .i64 0] 28)); have HS5b := Lib.hid (HS5.out.old (HO6.out.trans (HO7.out.trans (HO8.out.trans HA8.out))) (fun _ _ hc => hc)); have HS6b := Lib.hid (HS6.out.old (HO7.out.trans (HO8.out.trans HA8.out)) (fun _ _ hc => hc)); clear hS8 hO8)
    | (go_at_call 14; (with_reducible refine (sameT (w8.alloc (.cells #[.int .i64 (c : Int), encStr s, .int .i64 0, .int .i64 0] 28)) o1 o2 k c1 c2 L HS5b.out HS6b.out hk).mono ?_); rintro e w9 ⟨rfl, hO9⟩; have HO9 := Lib.hid (HA8.out.trans hO9); have HB9 := Lib.hid ((Bx.newF w8 c s).on hO9); obtain ⟨f0, f1, f2, f3⟩ := (HB6.out.on (HO7.out.trans (HO8.out.trans HO9.out))).cells; obtain ⟨g0, g1, g2, g3⟩ := (HB7.out.on (HO8.out.trans HO9.out)).cells; have HS7b := Lib.hid (HS7.out.old (HO8.out.trans HO9.out) (fun _ _ hc => hc)); have HS8b := Lib.hid (HS8.out.old HO9.out (fun _ _ hc => hc)); clear hO9)
    | (go_at_call 14; (with_reducible refine (sameT w9 o3 o4 q c3 c4 M HS7b.out HS8b.out hq).mono ?_); rintro e w10 ⟨rfl, hO10⟩; have HO10 := Lib.hid hO10; clear f0 f1 f2 f3 g0 g1 g2 g3; obtain ⟨f0, f1, f2, f3⟩ := (HB8.out.on (HO9.out.trans HO10.out)).cells; obtain ⟨g0, g1, g2, g3⟩ := (HB9.out.on HO10.out).cells; clear hO10)
    | (go_at_call 9; (refine (awake_p _).mono ?_); rintro e w11 ⟨rfl, hO11⟩))
  go_ret
  exact ⟨rfl, HO5.out.trans (HO6.out.trans (HO7.out.trans (HO8.out.trans (HO9.out.trans (HO10.out.trans hO11)))))⟩
set_option maxRecDepth 100000 in
set_option maxHeartbeats 4000000 in
theorem ModgraphNeeds_walk (w : World) (oa : Option Addr) (n ca : Nat) (l : List Md) (sa : ByteArray) (h : Mdz w oa n l) (hn : n ≤ maxLen) (hsz : ∀ m ∈ l, SzM m) : Calls Tryz.prog 4 #[.slice oa n ca, .string sa] w fun e w' => e = .returned (.bool true) ∧ Only (fun _ => False) w w' := by
  obtain ⟨x, hx⟩ : ∃ x, smallM l = x := ⟨_, rfl⟩
  have HSM := Lib.hid (mSmall_p w oa n ca l h hn x hx)
  cases x with
  | false =>
    clear h hsz hx
    go_enter Tryz.func4, Tryz.ntmps4
    go_wp2_with (first | (go_at_call 8; (refine HSM.out.mono ?_); rintro e w4 ⟨rfl, rfl⟩) | (go_at_call 9; (refine (awake_p _).mono ?_); rintro e w9 ⟨rfl, hO9⟩))
    go_ret
    exact ⟨rfl, hO9⟩
  | true =>
    have hok := okL_small hx hsz
    have him : n ≤ 32 → ∀ m ∈ l, m.im.length ≤ 100 := fun _ m hm => by have := smallM_im hx m hm; omega
    have hsa : Value.string sa = encStr sa.data.toList := rfl
    have hn' := hn
    unfold maxLen at hn'
    have hl := h.len
    have k1 : (fL (relF l sa.data.toList) (relM (grP l) l sa.data.toList)).length ≤ 1000000 := fL_len (fun y hC hm hy => by
      have h1 := rel_len (accF_none hC).2 hm
      have h9 := (accF_none hC).1
      omega)
    have k2 : (fL (relF l sa.data.toList) (relM (rvG (grP l)) l sa.data.toList)).length ≤ 1000000 := fL_len (fun y hC hm hy => by
      have h1 := users_eq (accF_none hC).2 hm
      have h9 := (accF_none hC).1
      rw [← h1] at hy
      have h2 := nsP_len l
      have h4 := List.length_filter_le (fun t => decide (sa.data.toList ∈ relM (grP l) l t)) (nsP l)
      omega)
    have p1 : Calls Tryz.prog 15 #[.slice oa n ca, .string sa] w (NmU (fC (relF l sa.data.toList)) (fS (relF l sa.data.toList)) (fL (relF l sa.data.toList) (relM (grP l) l sa.data.toList)).length (fL (relF l sa.data.toList) (relM (grP l) l sa.data.toList)) w) := (Needs_p w oa n ca l sa.data.toList h (fun _ => hok)).mono (fun e w' hh => NmU_q hh)
    have p2 : ∀ wx, Only (fun _ => False) w wx → Calls Tryz.prog 16 #[.slice oa n ca, .string sa] wx (NmU (fC (relF l sa.data.toList)) (fS (relF l sa.data.toList)) (fL (relF l sa.data.toList) (relM (grP l) l sa.data.toList)).length (fL (relF l sa.data.toList) (relM (grP l) l sa.data.toList)) wx) := fun wx ho => (rNeeds_p wx oa n ca l sa.data.toList (h.old ho (fun _ _ hc => hc)) him).mono (fun e w' hh => NmU_f hh)
    have p3 : ∀ wx, Only (fun _ => False) w wx → Calls Tryz.prog 17 #[.slice oa n ca, .string sa] wx (NmU (fC (relF l sa.data.toList)) (fS (relF l sa.data.toList)) (fL (relF l sa.data.toList) (relM (rvG (grP l)) l sa.data.toList)).length (fL (relF l sa.data.toList) (relM (rvG (grP l)) l sa.data.toList)) wx) := fun wx ho => (Users_p wx oa n ca l sa.data.toList (h.old ho (fun _ _ hc => hc)) (fun _ => hok)).mono (fun e w' hh => NmU_q hh)
    have p4 : ∀ wx, Only (fun _ => False) w wx → Calls Tryz.prog 18 #[.slice oa n ca, .string sa] wx (NmU (fC (relF l sa.data.toList)) (fS (relF l sa.data.toList)) (fL (relF l sa.data.toList) (relM (rvG (grP l)) l sa.data.toList)).length (fL (relF l sa.data.toList) (relM (rvG (grP l)) l sa.data.toList)) wx) := fun wx ho => (rUsers_p wx oa n ca l sa.data.toList (h.old ho (fun _ _ hc => hc)) him).mono (fun e w' hh => NmU_f hh)
    exact needs_core w oa n ca l sa HSM _ _ _ _ _ _ k1 k2 (Lib.hid p1) (Lib.hid p2) (Lib.hid p3) (Lib.hid p4)
end Go.Proofs.YtigmdiagdlbdpaaGreat
