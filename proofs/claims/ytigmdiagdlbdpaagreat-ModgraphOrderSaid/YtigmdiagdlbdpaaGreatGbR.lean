/-
  WALKS. The graph: gather.
-/
import Derived.Test.YtigmdiagdlbdpaaGreatGbQ
import Derived.Test.YtigmdiagdlbdpaaGreatGbO
namespace Go.Proofs.YtigmdiagdlbdpaaGreat
open Go.RowKit Go.Maps
/-- What gather's loop keeps. -/
structure GM (w0 w : World) (n m : Nat) (c : Value) (vs : List Value) (s : GA) : Prop where
  rr : RR w (w0.heap.size + 2) c vs s.comps
  pl : IR w w0.heap.size (.slice (some ⟨w0.heap.size, 0, none⟩) n n) s.places
  kn : IR w w0.heap.size (.slice (some ⟨w0.heap.size + 1, 0, none⟩) m m) s.known
  fr : Only (w0.heap.size ≤ ·) w0 w
theorem one_row : ∀ u ∈ [nilV], u.oneCell' = true := by
  intro u hu
  rw [List.mem_singleton.1 hu]
  rfl
section
variable {w0 w w' : World} {n m : Nat} {c : Value} {vs : List Value} {s : GA}
theorem GM.same (h : GM w0 w n m c vs s) (ho : Only (fun _ => False) w w') : GM w0 w' n m c vs s :=
  ⟨h.rr.only ho (fun _ _ _ hc => hc), h.pl.only ho (fun _ _ hc => hc), h.kn.only ho (fun _ _ hc => hc), h.fr.trans ho.lift⟩
theorem GM.low (h : GM w0 w n m c vs s) {g : Nat} (hg : g = w0.heap.size ∨ g = w0.heap.size + 1) (_hn : 0 < n) (_hm : 0 < m) (_hp : s.places.length = n) (_hk : s.known.length = m) : g < w.heap.size := by
  rcases hg with e | e
  · subst e
    exact (World.ownsRow.lt h.pl _ rfl).2
  · subst e
    exact (World.ownsRow.lt h.kn _ rfl).2
/-- The place of a number is written. -/
theorem GM.setK (h : GM w0 w n m c vs s) {j : Nat} (hj : j < s.known.length) (x : Nat) : GM w0 (w.setCell ⟨w0.heap.size + 1, j, none⟩ (iV x)) n m c vs { s with known := s.known.set j x } := by
  have hO : Only (· = w0.heap.size + 1) w (w.setCell ⟨w0.heap.size + 1, j, none⟩ (iV x)) := Only.setCell (K := (· = w0.heap.size + 1)) (Only.refl _ _) rfl _
  exact ⟨h.rr.only hO (fun i hi _ hc => by omega), h.pl.only hO (fun g hg hc => by have hg' : w0.heap.size = g := Option.some.inj hg; omega), IR.set h.kn hj x, h.fr.trans (hO.wide (fun i hi => by show w0.heap.size ≤ i; omega))⟩
/-- A node's place is written. -/
theorem GM.setP (h : GM w0 w n m c vs s) {j : Nat} (hj : j < s.places.length) (x : Nat) : GM w0 (w.setCell ⟨w0.heap.size, j, none⟩ (iV x)) n m c vs { s with places := s.places.set j x } := by
  have hO : Only (· = w0.heap.size) w (w.setCell ⟨w0.heap.size, j, none⟩ (iV x)) := Only.setCell (K := (· = w0.heap.size)) (Only.refl _ _) rfl _
  exact ⟨h.rr.only hO (fun i hi _ hc => by omega), IR.set h.pl hj x, h.kn.only hO (fun g hg hc => by have hg' : w0.heap.size + 1 = g := Option.some.inj hg; omega), h.fr.trans (hO.wide (fun i hi => by show w0.heap.size ≤ i; omega))⟩
theorem GM.high (h : GM w0 w n m c vs s) {w3 : World} {row : Option Nat} (hg : w.grownBy w3 row) (hr : ∀ g, row = some g → w0.heap.size + 2 ≤ g) : IR w3 w0.heap.size (.slice (some ⟨w0.heap.size, 0, none⟩) n n) s.places ∧ IR w3 w0.heap.size (.slice (some ⟨w0.heap.size + 1, 0, none⟩) m m) s.known ∧ Only (w0.heap.size ≤ ·) w0 w3 := by
  refine ⟨rowKeep h.pl (fun g hgi => hg.block g (World.ownsRow.lt h.pl g hgi).2 (fun e => ?_)), rowKeep h.kn (fun g hgi => hg.block g (World.ownsRow.lt h.kn g hgi).2 (fun e => ?_)), h.fr.trans (Only.grown hg (fun g e => by have := hr g e; show w0.heap.size ≤ g; omega))⟩
  · have h1 := hr g e.symm
    have hg' : w0.heap.size = g := Option.some.inj hgi
    omega
  · have h1 := hr g e.symm
    have hg' : w0.heap.size + 1 = g := Option.some.inj hgi
    omega
theorem GM.push (h : GM w0 w n m c vs s) {w3 : World} (hg : w.grownBy w3 c.ownBlock) {v' : Value} (hrow : w3.ownsRow (w0.heap.size + 2) 55 1 v' (s.comps.length + 1) (vs ++ [nilV])) : GM w0 w3 n m v' (vs ++ [nilV]) { s with comps := s.comps ++ [[]] } := by
  obtain ⟨h1, h2, h3⟩ := h.high hg (fun g e => (World.ownsRow.lt h.rr.out g e).1)
  exact ⟨h.rr.push hg hrow, h1, h2, h3⟩
theorem GM.app {p g0 n0 ca : Nat} (h : GM w0 w n m (.slice (some ⟨g0, 0, none⟩) n0 ca) vs s) (hp : p < s.comps.length) {v0 : Value} (hv0 : vAt vs p = v0) {w3 : World} (hg : w.grownBy w3 v0.ownBlock) {v' : Value} {l' : List Nat} (hrow : IR w3 (w0.heap.size + 2) v' l') (hb : ∀ g, v'.ownBlock = some g → v0.ownBlock = some g ∨ w.heap.size ≤ g) :
    GM w0 (w3.setCell ⟨g0, p, none⟩ v') n m (.slice (some ⟨g0, 0, none⟩) n0 ca) (vs.set p v') { s with comps := s.comps.set p l' } := by
  subst hv0
  have hn0 : n0 = s.comps.length := by
    obtain ⟨_, _, hv⟩ := rowForm h.rr.out
    cases hv; rfl
  subst hn0
  obtain ⟨h1, h2, h3⟩ := h.high hg (fun g e => (World.ownsRow.lt (h.rr.row p hp) g e).1)
  have hg0 : w0.heap.size + 2 ≤ g0 := (World.ownsRow.lt h.rr.out g0 rfl).1
  have hO : Only (· = g0) w3 (w3.setCell ⟨g0, p, none⟩ v') := Only.setCell (K := (· = g0)) (Only.refl _ _) rfl _
  exact ⟨h.rr.app hp hg hrow hb, h1.only hO (fun g hg hc => by have hg' : w0.heap.size = g := Option.some.inj hg; omega), h2.only hO (fun g hg hc => by have hg' : w0.heap.size + 1 = g := Option.some.inj hg; omega), h3.trans (hO.wide (fun i hi => by show w0.heap.size ≤ i; omega))⟩
end
theorem IR.at' {w : World} {B g n ca k : Nat} {ns : List Nat} (h : IR w B (.slice (some ⟨g, 0, none⟩) n ca) ns) (hk : k < ns.length) : w.cell? ⟨g, k, none⟩ = some (iV (gt ns k)) ∧ w.frozen? ⟨g, k, none⟩ = false := by
  obtain ⟨g', hg, -, -, -, hc, hz⟩ := h.at hk
  cases hg
  exact ⟨hc, hz⟩
theorem row_at {w : World} {B g n ca : Nat} {vs : List Value} (h : w.ownsRow B 55 1 (.slice (some ⟨g, 0, none⟩) n ca) n vs) {i : Nat} (hi : i < n) : w.cell? ⟨g, i, none⟩ = some (vAt vs i) ∧ w.frozen? ⟨g, i, none⟩ = false := by
  rcases h.2 with ⟨hv, hn⟩ | ⟨g', cap, cur, hv, hb, hg, hle, hr⟩
  · omega
  · cases hv
    refine ⟨?_, by simp [World.frozen?, hg]⟩
    have hil : i < vs.length := by have := h.1; omega
    have e : vAt vs i = vs[i] := by show vs.getD i nilV = _; rw [List.getD_eq_getElem?_getD, List.getElem?_eq_getElem hil]; rfl
    have hc := World.ownsRow.cells h (g := g) rfl i (vs[i]) (List.getElem?_eq_getElem hil)
    rw [add_plain, Nat.zero_add] at hc
    rw [e]
    exact hc
theorem RR.at_grown {w w3 : World} {B g0 n0 ca p : Nat} {vs : List Value} {L : List (List Nat)} (h : RR w B (.slice (some ⟨g0, 0, none⟩) n0 ca) vs L) (hp : p < L.length) {v0 : Value} (hv0 : vAt vs p = v0) (hg : w.grownBy w3 v0.ownBlock) : w3.cell? ⟨g0, p, none⟩ = some v0 ∧ w3.frozen? ⟨g0, p, none⟩ = false := by
  subst hv0
  have hn0 : n0 = L.length := by
    obtain ⟨_, _, hv⟩ := rowForm h.out
    cases hv; rfl
  subst hn0
  exact row_at (rowKeep h.out (fun g hgi => hg.block g (World.ownsRow.lt h.out g hgi).2 (fun e => h.ne hp e.symm hgi))) hp
theorem end_at {vs : List Value} {p : Nat} (h : vs.length = p) : vAt (vs ++ [nilV]) p = nilV := by subst h; exact vAt_end
theorem asc_len (k : Nat) : ∀ (l : List Nat) (a : Nat), (∀ x ∈ l, a ≤ x ∧ x < k) → l.Pairwise (· < ·) → l.length ≤ k - a
  | [], _, _, _ => Nat.zero_le _
  | x :: l, a, h, hp => by
    have h1 := h x (List.mem_cons_self ..)
    have h2 := List.pairwise_cons.1 hp
    have := asc_len k l (x + 1) (fun z hz => ⟨h2.1 z hz, (h z (List.mem_cons_of_mem _ hz)).2⟩) h2.2
    show l.length + 1 ≤ _
    omega
set_option maxRecDepth 100000 in
set_option maxHeartbeats 8000000 in
theorem gather_p (w : World) (oN : Option Addr) (n cN : Nat) (N : List Nat) (hN : Ints w oN n N) (hb : ∀ x, gt N x ≤ N.length) (hn : n ≤ 1000000) : Calls Tryz.prog 59 #[.slice oN n cN] w fun e w' => ∃ oc nc cc, e = .returned (.tuple #[.slice oc nc cc, .slice (some ⟨w.heap.size, 0, none⟩) n n]) ∧ EdgB w' w.heap.size oc nc (gaK N N.length).comps ∧ Ints w' (some ⟨w.heap.size, 0, none⟩) n (gaK N N.length).places ∧ Only (fun _ => False) w w' := by
  have hlen := hN.len
  obtain ⟨m, hm⟩ : ∃ m, n + 1 = m := ⟨_, rfl⟩
  have hmI : (n : Int) + 1 = (m : Int) := by omega
  have hmk := mk_ints (n := n) (by omega)
  have hmk2 := mk_ints (n := m) (by omega)
  have hm0 : m ≤ 1000000000 := by omega
  have s1 : (w.alloc (zO n)).heap.size = w.heap.size + 1 := by show (Array.push _ _).size = _; rw [Array.size_push]
  have h0 : GM w ((w.alloc (zO n)).alloc (zO m)) n m nilV [] (gaK N 0) := by
    refine ⟨RR.nil _ _, ?_, ?_, ((Only.refl _ _).alloc _).alloc _⟩
    · show IR _ _ _ (zeros N.length)
      rw [hlen]
      exact (IR.made (Nat.le_refl _) (new_block w _) (by omega)).only (K := fun _ => False) ((Only.refl _ _).alloc _) (fun _ _ hc => hc)
    · show IR _ _ _ (zeros (N.length + 1))
      rw [hlen, hm]
      exact IR.made (by omega) (new_at _ s1) (by omega)
  have HM := Lib.hid hm
  clear hm s1
  go_enter Tryz.func59, Tryz.ntmps59
  go_wp2
  go_loopw [2, 17] (fun c q wr => ∃ (k : Nat) (vs : List Value), k ≤ n ∧ q = .int .i64 k ∧ GM w wr n m c vs (gaK N k)) (fun _ q _ => n - (intOf q).toNat)
  case atStart => exact ⟨0, [], by omega, rfl, h0⟩
  case round =>
    clear h0
    obtain ⟨k, vs, hk, rfl, hM⟩ := hrel
    by_cases hlt : k < n
    · have hI := gaK_i hb k (by omega)
      have hlp : (gaK N k).places.length = n := by rw [hI.lp, hlen]
      have hlk : (gaK N k).known.length = m := by rw [hI.lk, hlen]; exact HM.out
      have hcl := hI.cl
      have hxb := hb k
      rw [hlen] at hxb
      have hkb := hI.kb (gt N k)
      have HGS := Lib.hid (gaK_succ N k)
      have HI := Lib.hid hI
      clear hI
      obtain ⟨s, hs⟩ : ∃ s, gaK N k = s := ⟨_, rfl⟩
      rw [hs] at hM hlp hlk hcl hkb HGS HI
      have HS := Lib.hid hs
      clear hs
      have hkN : k < N.length := by omega
      obtain ⟨bN, oo, hoN, hcN⟩ := (hN.old hM.fr (fun i hi hc => by have hc' : w.heap.size ≤ i := hc; omega)).cell k hkN
      subst hoN
      obtain ⟨x, hx⟩ : ∃ x, gt N k = x := ⟨_, rfl⟩
      rw [hx] at hcN hxb hkb HGS
      have HX := Lib.hid hx
      have hxm : x < m := by have := HM.out; omega
      obtain ⟨gk, hgk, -, -, hcm, hck, hzk⟩ := hM.kn.at (k := x) (by rw [hlk]; exact hxm)
      cases hgk
      obtain ⟨gp, hgp, -, -, hcn, hcp, hzp⟩ := hM.pl.at (k := k) (by rw [hlp]; exact hlt)
      cases hgp
      have h01 : (0 : Int) ≤ (k : Int) := Int.natCast_nonneg k
      have h02 : (k : Int) < (n : Int) := by omega
      have h03 : (k : Int).toNat = k := Int.toNat_natCast k
      have h04 : (0 : Int) ≤ (x : Int) := Int.natCast_nonneg x
      have h05 : (x : Int) < (m : Int) := by omega
      have h06 : (x : Int).toNat = x := Int.toNat_natCast x
      obtain ⟨y, hy⟩ : ∃ y, gt s.known x = y := ⟨_, rfl⟩
      rw [hy] at hck hkb
      have HY := Lib.hid hy
      clear hx hy hkN
      by_cases hz : y = 0
      · subst hz
        obtain ⟨oa, ca, hcv⟩ := rowForm hM.rr.out
        subst hcv
        obtain ⟨i0', hi, hz0', hz1, hz2⟩ := info_parts infoInt
        obtain ⟨i1', hj, hj0, hj1, hj2⟩ := info_parts infoInts
        obtain ⟨p, hp⟩ : ∃ p, s.comps.length = p := ⟨_, rfl⟩
        have HP := Lib.hid hp
        have hvl : vs.length = p := by rw [hM.rr.vl, hp]
        have HVL := Lib.hid hvl
        have hpk : p ≤ k := by omega
        have h10 : ((0 : Int) == 0) = true := rfl
        have hck' : wr.cell? ⟨w.heap.size + 1, x, none⟩ = some (.int .i64 0) := hck
        have HOWN : wr.ownsRow (w.heap.size + 2) 55 1 (.slice oa p ca) p vs := by
          have h := hM.rr.out
          rw [hp] at h
          exact h
        have hws := World.ownsRow.lt hM.kn _ rfl
        have HWS := Lib.hid hws
        rw [hp] at hM
        have hMA := hM.same ((Only.refl (fun _ => False) _).alloc (.cells #[nilV] 55))
        have HMA := Lib.hid hMA
        have HXM := Lib.hid hxm
        have HLT := Lib.hid hlt
        have HLK := Lib.hid hlk
        have HLP := Lib.hid hlp
        have h07 : (0 : Int) ≤ (p : Int) := Int.natCast_nonneg p
        have h08 : (p : Int) < (p : Int) + 1 := by omega
        have h09 : (p : Int).toNat = p := Int.toNat_natCast p
        rw [hp]
        clear hck hws hp hvl hMA hcp hzp
        go_wp2_with (first | (at_builtin; refine wpList_append_lies _ rfl _ _ 47 rfl (w.heap.size + 2) 55 i1' nilV 1 24 Tryz.underlying47 hj hj0 hj1 hj2 rfl (by decide) (.slice oa p ca) p vs rfl (World.ownsRow.alloc HOWN _) ⟨wr.heap.size, 0, none⟩ 1 1 [nilV] rfl rfl (World.news_of_block (new_block wr _)) one_row Nat.one_pos (by unfold maxLen; omega) (by omega) (by show w.heap.size + 2 ≤ (Array.push _ _).size; rw [Array.size_push]; have := HWS.out; omega) _ rfl ?_; intro g cg w3 hown3 hgrow3 hat3 hlt3; have hG3 := HMA.out.push hgrow3 (by rw [HP.out]; exact hown3); have f1 := hG3.kn.at' (k := x) (by show x < s.known.length; rw [HLK.out]; exact HXM.out); have p1 := f1.1; have z1 := f1.2; have f2 := hG3.pl.at' (k := k) (by show k < s.places.length; rw [HLP.out]; exact HLT.out); have p2 := f2.1; have z2 := f2.2; have f3 := row_at hown3 (i := p) (Nat.lt_succ_self p); have p3 := f3.1; have z3 := f3.2; rw [end_at HVL.out] at p3; have hgB := (World.ownsRow.lt hown3 g rfl).1; have n1 : ¬ g = w.heap.size := (by omega); have n2 : ¬ g = w.heap.size + 1 := (by omega); have n3 : ¬ w.heap.size = g := (by omega); have n4 : ¬ w.heap.size + 1 = g := (by omega); have hG4 := (hG3.setK (j := x) (by show x < s.known.length; rw [HLK.out]; exact HXM.out) (p + 1)).setP (j := k) (by show k < s.places.length; rw [HLP.out]; exact HLT.out) p; have HG5 := Lib.hid ((show GM w ((w3.setCell ⟨w.heap.size + 1, x, none⟩ (.int .i64 ((p : Int) + 1))).setCell ⟨w.heap.size, k, none⟩ (.int .i64 (p : Int))) n m _ _ _ from hG4).same ((Only.refl (fun _ => False) _).alloc (.cells #[.int .i64 (k : Int)] 3))); have hsz : ((w3.setCell ⟨w.heap.size + 1, x, none⟩ (.int .i64 ((p : Int) + 1))).setCell ⟨w.heap.size, k, none⟩ (.int .i64 (p : Int))).heap.size = w3.heap.size := (by simp [World.setCell]); have HSZ := Lib.hid hsz; have HHB := Lib.hid (show w.heap.size + 2 ≤ w3.heap.size by omega); clear hown3 hgrow3 hat3 hlt3 hG3 hG4 f1 f2 f3 hsz hgB) | (at_builtin; refine wpList_append_lies _ rfl _ _ 55 rfl (w.heap.size + 2) 3 i0' (.int .i64 0) 1 8 Tryz.underlying55 hi hz0' hz1 hz2 rfl (by decide) nilV 0 [] rfl (World.ownsRow_nil _ _ _ _) ⟨w3.heap.size, 0, none⟩ 1 1 [iV k] rfl rfl (World.news_of_block (new_at _ HSZ.out)) (one_int k) Nat.one_pos (by unfold maxLen; omega) (by omega) (by show w.heap.size + 2 ≤ (Array.push _ _).size; rw [Array.size_push, HSZ.out]; have := HHB.out; omega) _ rfl ?_; intro g5 cg5 w5 hown5 hgrow5 hat5 hlt5; have hag := HG5.out.rr.at_grown (p := p) (by show p < (s.comps ++ [[]]).length; rw [List.length_append, HP.out]; exact Nat.lt_succ_self p) (end_at HVL.out) hgrow5; have p5 := hag.1; have z5 := hag.2; have HG8 := Lib.hid hgrow5; have HOW8 := Lib.hid hown5; have HAT8 := Lib.hid hat5; clear hown5 hgrow5 hat5 hlt5 hag))
        go_roundw
        case rel =>
          have hIR : IR w5 (w.heap.size + 2) (.slice (some ⟨g5, 0, none⟩) 1 cg5) [k] := HOW8.out
          have hGM := HG5.out.app (p := p) (by show p < (s.comps ++ [[]]).length; rw [List.length_append, HP.out]; exact Nat.lt_succ_self p) (end_at HVL.out) HG8.out hIR (fun g' hg' => by
            have hgg : g5 = g' := Option.some.inj hg'
            rcases HAT8.out with e | e
            · exact .inl (hgg ▸ e)
            · right
              have e3 : g5 = (Array.push _ _).size := e
              exact Nat.le_of_eq (e3.symm.trans hgg))
          have hNX : gaK N (k + 1) = { comps := (s.comps ++ [[]]).set p [k], places := s.places.set k p, known := s.known.set x (p + 1) } := by
            rw [HGS.out]
            unfold newG
            rw [if_pos HY.out]
            unfold putG
            rw [HP.out]
            have e1 : gt (s.known.set x (p + 1)) x = p + 1 := by rw [gt_set (by rw [HLK.out]; exact HXM.out), if_pos rfl]
            have e2 : lAt (s.comps ++ [[]]) p = [] := by rw [← HP.out]; exact lAt_end
            show GA.mk ((s.comps ++ [[]]).set (gt (s.known.set x (p + 1)) x - 1) (lAt (s.comps ++ [[]]) (gt (s.known.set x (p + 1)) x - 1) ++ [k])) (s.places.set k (gt (s.known.set x (p + 1)) x - 1)) (s.known.set x (p + 1)) = _
            rw [e1, Nat.add_sub_cancel, e2]
            rfl
          exact ⟨k + 1, (vs ++ [nilV]).set p (.slice (some ⟨g5, 0, none⟩) 1 cg5), by omega, by go_num, by rw [hNX]; exact hGM⟩
        case measure => simp [intOf]; omega
      · obtain ⟨p, hp⟩ : ∃ p, y = p + 1 := ⟨y - 1, by omega⟩
        subst hp
        have hpc : p < s.comps.length := by omega
        rw [show iV (p + 1) = .int .i64 ((p : Int) + 1) from rfl] at hck
        have h07 : (0 : Int) ≤ (p : Int) := Int.natCast_nonneg p
        have h09 : (p : Int).toNat = p := Int.toNat_natCast p
        have h10 : ((p : Int) + 1 == 0) = false := by simp; omega
        have h11 : ¬ (p : Int) + 1 = 0 := by omega
        have hM1 := hM.setP (j := k) (by rw [hlp]; exact hlt) p
        obtain ⟨g0, ca, hcv, hB0, hle, hc0, hz0⟩ := hM1.rr.at (i := p) hpc
        have HV := Lib.hid hcv
        subst hcv
        have h08 : (p : Int) < (s.comps.length : Int) := by omega
        obtain ⟨ra, rc, hrv⟩ := rowForm (hM1.rr.row p hpc)
        have hle' : s.comps.length ≤ ca := hle
        have HM1 := Lib.hid hM1
        obtain ⟨q, hq⟩ : ∃ q, (lAt s.comps p).length = q := ⟨_, rfl⟩
        have HQ := Lib.hid hq
        have hrv' : vAt vs p = .slice ra q rc := by rw [hrv]; exact congrArg (fun k => Value.slice ra k rc) hq
        have HRV := Lib.hid hrv'
        rw [hrv'] at hc0
        clear hrv hrv' hM1
        have hqk : q ≤ k := by
          have := asc_len k (lAt s.comps p) 0 (fun z hz => ⟨Nat.zero_le _, ((HI.out.mem p hpc z).1 hz).1⟩) (HI.out.asc p hpc)
          omega
        have hrow := HM1.out.rr.row p hpc
        rw [HRV.out] at hrow
        have HOWN : (wr.setCell ⟨w.heap.size, k, none⟩ (iV p)).ownsRow (w.heap.size + 2) 3 1 (.slice ra q rc) q ((lAt s.comps p).map iV) := by
          have h := hrow
          unfold IR at h
          rw [HQ.out] at h
          exact h
        have hsz : (wr.setCell ⟨w.heap.size, k, none⟩ (iV p)).heap.size = wr.heap.size := by simp [World.setCell]
        have HSZ := Lib.hid hsz
        have hws := World.ownsRow.lt hM.kn _ rfl
        have HWS := Lib.hid hws
        have HM2 := Lib.hid (HM1.out.same ((Only.refl (fun _ => False) _).alloc (.cells #[iV k] 3)))
        obtain ⟨i0', hi, hz0', hz1, hz2⟩ := info_parts infoInt
        clear hrow hsz hws
        clear hq
        go_wp2_with (at_builtin; refine wpList_append_lies _ rfl _ _ 55 rfl (w.heap.size + 2) 3 i0' (.int .i64 0) 1 8 Tryz.underlying55 hi hz0' hz1 hz2 rfl (by decide) (.slice ra q rc) q ((lAt s.comps p).map iV) rfl (World.ownsRow.alloc HOWN _) ⟨wr.heap.size, 0, none⟩ 1 1 [iV k] rfl rfl (World.news_of_block (new_at _ HSZ.out)) (one_int k) Nat.one_pos (by unfold maxLen; omega) (by omega) (by show w.heap.size + 2 ≤ (Array.push _ _).size; rw [Array.size_push, HSZ.out]; have := HWS.out; omega) _ rfl ?_; intro g cg w8 hown8 hgrow8 hat8 hlt8; have hag := HM2.out.rr.at_grown hpc HRV.out hgrow8; have p8 := hag.1; have z8 := hag.2; have HG8 := Lib.hid hgrow8; have HOW8 := Lib.hid hown8; have HAT8 := Lib.hid hat8; clear hown8 hgrow8 hat8 hlt8 hag)
        go_roundw
        case rel =>
          have hIR : IR w8 (w.heap.size + 2) (.slice (some ⟨g, 0, none⟩) (q + 1) cg) (lAt s.comps p ++ [k]) := IR.snoc (by rw [HQ.out]; exact HOW8.out)
          have hGM := HM2.out.app hpc HRV.out HG8.out hIR (fun g' hg' => by
            have hgg : g = g' := Option.some.inj hg'
            rcases HAT8.out with e | e
            · exact .inl (hgg ▸ e)
            · right
              have e3 : g = (Array.push _ _).size := e
              exact Nat.le_of_eq (e3.symm.trans hgg))
          have hNX : gaK N (k + 1) = { s with places := s.places.set k p, comps := s.comps.set p (lAt s.comps p ++ [k]) } := by
            rw [HGS.out]
            unfold newG
            rw [if_neg (by rw [HY.out]; omega)]
            unfold putG
            rw [HY.out, Nat.add_sub_cancel]
          exact ⟨k + 1, vs.set p (.slice (some ⟨g, 0, none⟩) (q + 1) cg), by omega, by go_num, by rw [hNX]; exact hGM⟩
        case measure => simp [intOf]; omega
    · have hkn : k = n := by omega
      subst hkn
      obtain ⟨oc, cc, hv⟩ := rowForm hM.rr.out
      subst hv
      have hE := hM.rr.edgB.mono (B' := w.heap.size) (by omega)
      have hP := hM.pl.ints
      have hF : Only (fun _ => False) w wr := ⟨hM.fr.os, hM.fr.tape, hM.fr.output, hM.fr.size, fun i hi _ => hM.fr.block i hi (fun hc => by have hc' : w.heap.size ≤ i := hc; omega)⟩
      have HR := Lib.hid (And.intro hE (And.intro hP hF))
      clear hE hP hF hM
      go_wp2
      refine bodyPost_ret (v := .tuple #[.slice oc (gaK N k).comps.length cc, .slice (some ⟨w.heap.size, 0, none⟩) k k]) (by simp [results, Tryz.results59, go_sem]) rfl ?_
      rw [hlen]
      exact ⟨_, _, _, rfl, HR.out⟩
end Go.Proofs.YtigmdiagdlbdpaaGreat
