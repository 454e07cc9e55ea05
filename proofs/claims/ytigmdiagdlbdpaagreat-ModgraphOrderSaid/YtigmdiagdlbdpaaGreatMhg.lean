/-
  WALKS. Needs, Users.
  PLAIN. The values of the laws' example.
-/
import Derived.Test.YtigmdiagdlbdpaaGreatMhf
import Derived.Test.YtigmdiagdlbdpaaGreatMgt
import Derived.Test.YtigmdiagdlbdpaaGreatMgr
namespace Go.Proofs.YtigmdiagdlbdpaaGreat
open Go.RowKit Go.Maps
/-- Which names a call with a name gives: a fault, or the related ones. -/
def relF (l : List Md) (nm : Nm) : Option (Nat × Nm) := match accF l with
  | some x => some x
  | none => if nm ∈ nsP l then none else some (16, nm)
theorem nmQ_form {F : Option (Nat × Nm)} {L : List Nm} {w w' : World} {e : Ending} (h : nmQ F L w e w') : ∃ v c s, e = .returned (.tuple #[v, faV c s]) ∧ Only (fun _ => False) w w' := by
  unfold nmQ at h
  cases F with
  | some x => exact ⟨_, _, _, h.1, h.2⟩
  | none =>
    obtain ⟨⟨oa, ca, h1, -⟩, h2⟩ := h
    exact ⟨_, _, _, h1, h2⟩
theorem nmQ_keep {F : Option (Nat × Nm)} {L : List Nm} {w w0 w1 w2 : World} {e : Ending} {b : Nat} (h : nmQ F L w0 e w1) (h0 : Only (fun _ => False) w w0) (hb : w.heap.size ≤ b) (hb0 : b < w0.heap.size) (h2 : Only (· = b) w1 w2) : nmQ F L w e w2 := by
  have hk : ∀ h1 : Only (fun _ => False) w0 w1, Only (fun _ => False) w w2 := fun h1 => by
    have h3 := (h0.trans h1).lift (K := (· = b)) |>.trans h2
    exact ⟨h3.os, h3.tape, h3.output, h3.size, fun i hi _ => h3.block i hi (fun hc => by have hc' : i = b := hc; omega)⟩
  unfold nmQ at h ⊢
  cases F with
  | some x => exact ⟨h.1, hk h.2⟩
  | none =>
    obtain ⟨⟨oa, ca, h1, hs⟩, h3⟩ := h
    refine ⟨⟨oa, ca, h1, ?_⟩, hk h3⟩
    exact rowMono (hs.only h2 (fun g hg e => by have h4 := (World.ownsRow.lt hs g hg).1; have e' : g = b := e; omega)) h0.size
set_option maxRecDepth 100000 in
theorem needsRes (W : World) (T : Array Value) (B1 : Nat) (v f0 f1 f2 f3 : Value) (h0 : T[4]? = some v) (h1 : T[5]? = some (.pointer (some ⟨B1, 0, none⟩))) (hb1 : W.heap[B1]? = some (.cells #[f0, f1, f2, f3] 28 (0, 0))) : (results Tryz.f15 T).run Tryz.prog W = .ok (.tuple #[v, .agg #[f0, f1, f2, f3]]) W := by
  have c0 : W.cell? ⟨B1, 0, none⟩ = some f0 := (blk_c (k := 0) hb1 rfl).1
  have c1 : W.cell? ⟨B1, 1, none⟩ = some f1 := (blk_c (k := 1) hb1 rfl).1
  have c2 : W.cell? ⟨B1, 2, none⟩ = some f2 := (blk_c (k := 2) hb1 rfl).1
  have c3 : W.cell? ⟨B1, 3, none⟩ = some f3 := (blk_c (k := 3) hb1 rfl).1
  simp [results, Tryz.results15, go_sem, h0, h1, c0, c1, c2, c3]
set_option maxRecDepth 100000 in
theorem Needs_p (w : World) (oa : Option Addr) (n ca : Nat) (l : List Md) (nm : Nm) (h : Mdz w oa n l) (hok : n ≤ 32 → OkL l) : Calls Tryz.prog 15 #[.slice oa n ca, encStr nm] w (nmQ (relF l nm) (relM (grP l) l nm) w) := by
  have hA : Only (fun _ => False) w (w.alloc (.cells (faV 0 []).cells 28)) := (Only.refl _ _).alloc _
  have hW := h.old hA (fun _ _ hc => hc)
  have HR : Hid (Calls Tryz.prog 32 #[.slice oa n ca, encStr nm, .func (.func 33) #[] #[]] (w.alloc (.cells (faV 0 []).cells 28)) (nmQ (relF l nm) (relM (grP l) l nm) (w.alloc (.cells (faV 0 []).cells 28)))) := Lib.hid (by
    cases hF : accF l with
    | some x =>
      refine (related_bad _ oa n ca l nm _ hW hok x.1 x.2 (by rw [hF])).mono ?_
      rintro e w' ⟨rfl, ho⟩
      exact nmQ_bad (by unfold relF; rw [hF]) ho
    | none =>
      by_cases hm : nm ∈ nsP l
      · refine (related_needs _ oa n ca l nm hW hok hF hm).mono ?_
        rintro e w' ⟨ol, cl, rfl, hs, ho⟩
        exact nmQ_good (by unfold relF; rw [hF]; simp [hm]) hs ho
      · refine (related_lack _ oa n ca l nm _ hW hok hF hm).mono ?_
        rintro e w' ⟨rfl, ho⟩
        exact nmQ_bad (by unfold relF; rw [hF]; simp [hm]) ho)
  have s1 : (w.alloc (.cells (faV 0 []).cells 28)).heap.size = w.heap.size + 1 := by show (Array.push _ _).size = _; rw [Array.size_push]
  have hk := new_block w (.cells (faV 0 []).cells 28)
  have HK := Lib.hid hk
  have HA := Lib.hid hA
  have HS := Lib.hid s1
  clear h hok hW hA s1 hk
  go_enter Tryz.func15, Tryz.ntmps15
  go_wp2_with (go_at_call 32; (refine HR.out.mono ?_); intro e w5 hq; obtain ⟨v, c, s, rfl, ho⟩ := nmQ_form hq; have HQ := Lib.hid hq; have hb := (ho.block w.heap.size (by rw [HS.out]; omega) (fun hc => hc)).trans HK.out; have HB := Lib.hid hb; obtain ⟨q0, z0⟩ := blk_c (k := 0) hb rfl; obtain ⟨q1, z1⟩ := blk_c (k := 1) hb rfl; obtain ⟨q2, z2⟩ := blk_c (k := 2) hb rfl; obtain ⟨q3, z3⟩ := blk_c (k := 3) hb rfl; clear hq hb ho)
  refine bodyPost_ret (v := .tuple #[v, faV c s]) (needsRes _ _ w.heap.size _ _ _ _ _ rfl rfl ?_) rfl ?_
  · have h1 := HB.out
    simp [World.setCell, Array.getElem?_modify, h1]
    rfl
  · exact nmQ_keep HQ.out HA.out (Nat.le_refl _) (by rw [HS.out]; omega) (only4 (K := (· = w.heap.size)) (Only.refl _ w5) rfl)
set_option maxRecDepth 100000 in
theorem usersRes (W : World) (T : Array Value) (B1 : Nat) (v f0 f1 f2 f3 : Value) (h0 : T[4]? = some v) (h1 : T[5]? = some (.pointer (some ⟨B1, 0, none⟩))) (hb1 : W.heap[B1]? = some (.cells #[f0, f1, f2, f3] 28 (0, 0))) : (results Tryz.f17 T).run Tryz.prog W = .ok (.tuple #[v, .agg #[f0, f1, f2, f3]]) W := by
  have c0 : W.cell? ⟨B1, 0, none⟩ = some f0 := (blk_c (k := 0) hb1 rfl).1
  have c1 : W.cell? ⟨B1, 1, none⟩ = some f1 := (blk_c (k := 1) hb1 rfl).1
  have c2 : W.cell? ⟨B1, 2, none⟩ = some f2 := (blk_c (k := 2) hb1 rfl).1
  have c3 : W.cell? ⟨B1, 3, none⟩ = some f3 := (blk_c (k := 3) hb1 rfl).1
  simp [results, Tryz.results17, go_sem, h0, h1, c0, c1, c2, c3]
set_option maxRecDepth 100000 in
theorem Users_p (w : World) (oa : Option Addr) (n ca : Nat) (l : List Md) (nm : Nm) (h : Mdz w oa n l) (hok : n ≤ 32 → OkL l) : Calls Tryz.prog 17 #[.slice oa n ca, encStr nm] w (nmQ (relF l nm) (relM (rvG (grP l)) l nm) w) := by
  have hA : Only (fun _ => False) w (w.alloc (.cells (faV 0 []).cells 28)) := (Only.refl _ _).alloc _
  have hW := h.old hA (fun _ _ hc => hc)
  have HR : Hid (Calls Tryz.prog 32 #[.slice oa n ca, encStr nm, .func (.func 36) #[] #[]] (w.alloc (.cells (faV 0 []).cells 28)) (nmQ (relF l nm) (relM (rvG (grP l)) l nm) (w.alloc (.cells (faV 0 []).cells 28)))) := Lib.hid (by
    cases hF : accF l with
    | some x =>
      refine (related_bad _ oa n ca l nm _ hW hok x.1 x.2 (by rw [hF])).mono ?_
      rintro e w' ⟨rfl, ho⟩
      exact nmQ_bad (by unfold relF; rw [hF]) ho
    | none =>
      by_cases hm : nm ∈ nsP l
      · refine (related_users _ oa n ca l nm hW hok hF hm).mono ?_
        rintro e w' ⟨ol, cl, rfl, hs, ho⟩
        exact nmQ_good (by unfold relF; rw [hF]; simp [hm]) hs ho
      · refine (related_lack _ oa n ca l nm _ hW hok hF hm).mono ?_
        rintro e w' ⟨rfl, ho⟩
        exact nmQ_bad (by unfold relF; rw [hF]; simp [hm]) ho)
  have s1 : (w.alloc (.cells (faV 0 []).cells 28)).heap.size = w.heap.size + 1 := by show (Array.push _ _).size = _; rw [Array.size_push]
  have hk := new_block w (.cells (faV 0 []).cells 28)
  have HK := Lib.hid hk
  have HA := Lib.hid hA
  have HS := Lib.hid s1
  clear h hok hW hA s1 hk
  go_enter Tryz.func17, Tryz.ntmps17
  go_wp2_with (go_at_call 32; (refine HR.out.mono ?_); intro e w5 hq; obtain ⟨v, c, s, rfl, ho⟩ := nmQ_form hq; have HQ := Lib.hid hq; have hb := (ho.block w.heap.size (by rw [HS.out]; omega) (fun hc => hc)).trans HK.out; have HB := Lib.hid hb; obtain ⟨q0, z0⟩ := blk_c (k := 0) hb rfl; obtain ⟨q1, z1⟩ := blk_c (k := 1) hb rfl; obtain ⟨q2, z2⟩ := blk_c (k := 2) hb rfl; obtain ⟨q3, z3⟩ := blk_c (k := 3) hb rfl; clear hq hb ho)
  refine bodyPost_ret (v := .tuple #[v, faV c s]) (usersRes _ _ w.heap.size _ _ _ _ _ rfl rfl ?_) rfl ?_
  · have h1 := HB.out
    simp [World.setCell, Array.getElem?_modify, h1]
    rfl
  · exact nmQ_keep HQ.out HA.out (Nat.le_refl _) (by rw [HS.out]; omega) (only4 (K := (· = w.heap.size)) (Only.refl _ w5) rfl)

end Go.Proofs.YtigmdiagdlbdpaaGreat
namespace Go.Proofs.YtigmdiagdlbdpaaGreat
abbrev exL : List Md := [⟨[65], [[66]]⟩, ⟨[66], []⟩, ⟨[67], []⟩]
abbrev exX : List Md := [⟨[65], [[88]]⟩]
abbrev exC : List Md := [⟨[65], [[66]]⟩, ⟨[66], [[65], [67]]⟩, ⟨[67], [[66]]⟩]
theorem exL_ns : nsP exL = [[65], [66], [67]] := by
  unfold nsP
  exact List.mergeSort_of_pairwise (by decide)
theorem exX_ns : nsP exX = [[65]] := by
  unfold nsP
  exact List.mergeSort_of_pairwise (by decide)
theorem exC_ns : nsP exC = [[65], [66], [67]] := by
  unfold nsP
  exact List.mergeSort_of_pairwise (by decide)
theorem exL_gr : grP exL = [[1], [], []] := by unfold grP; rw [exL_ns]; decide +kernel
theorem exC_gr : grP exC = [[1], [0, 2], [1]] := by unfold grP; rw [exC_ns]; decide +kernel
theorem exL_con : conA exL = none := by unfold conA conF; rw [exL_ns]; decide +kernel
theorem exC_con : conA exC = none := by unfold conA conF; rw [exC_ns]; decide +kernel
theorem exX_con : conA exX = some (16, [88]) := by unfold conA conF; rw [exX_ns]; decide +kernel
theorem exL_acc : accF exL = none := by unfold accF; rw [exL_con, exL_ns, exL_gr]; decide +kernel
theorem exX_acc : accF exX = some (16, [88]) := by unfold accF; rw [exX_con]
theorem exL_ord : ordM exL = [[66], [65], [67]] := by unfold ordM; rw [exL_ns, exL_gr]; decide +kernel
theorem exL_lev : levM exL = [[[66], [67]], [[65]]] := by unfold levM; rw [exL_ns, exL_gr]; decide +kernel
theorem exL_nds : relM (grP exL) exL [65] = [[66]] := by unfold relM relN; rw [exL_ns, exL_gr]; decide +kernel
theorem exL_usr : relM (rvG (grP exL)) exL [66] = [[65]] := by unfold relM relN; rw [exL_ns, exL_gr]; decide +kernel
theorem exL_rfA : relF exL [65] = none := by unfold relF; rw [exL_acc, exL_ns]; decide +kernel
theorem exL_rfB : relF exL [66] = none := by unfold relF; rw [exL_acc, exL_ns]; decide +kernel
theorem exC_cyc : cycM exC = [[65], [66]] := by unfold cycM; rw [exC_con, exC_ns, exC_gr]; decide +kernel
end Go.Proofs.YtigmdiagdlbdpaaGreat
