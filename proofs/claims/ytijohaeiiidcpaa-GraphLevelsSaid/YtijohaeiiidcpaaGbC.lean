/-
  WALKS. The search: enter.
-/
import Derived.Test.YtijohaeiiidcpaaGbB
namespace Go.Proofs.Ytijohaeiiidcpaa
open Go.RowKit Go.Maps
section
variable {w w' : World} {B b : Nat} {vE : Value} {r : Nat → Value} {s : SS}
/-- What a step of the search leaves. -/
def SMx (w : World) (B b : Nat) (vE : Value) (s' : SS) (w' : World) : Prop := ∃ r', SM w' B b vE r' s' ∧ FG B b w w'
theorem SMx.frm {w1 : World} {s' : SS} (h : SMx w1 B b vE s' w') (f : FG B b w w1) : SMx w B b vE s' w' := by
  obtain ⟨r', h1, h2⟩ := h
  exact ⟨r', h1, f.trans h2⟩
theorem SM.grownB (h : SM w B b vE r s) {i : Nat} (hi : i < 6) {v : Value} (hr : r i = v) {w3 : World} (hg : w.grownBy w3 v.ownBlock) : w3.heap[b]? = w.heap[b]? := hg.block b h.lt (fun e => h.ne hi (by rw [hr]; exact e.symm) rfl)
theorem SM.grownF (h : SM w B b vE r s) {i : Nat} (hi : i < 6) {v : Value} (hr : r i = v) {w3 : World} (hg : w.grownBy w3 v.ownBlock) : FG B b w w3 := Only.grown hg (fun _ hk => .inr (h.isI hi (by rw [hr]; exact hk)))
set_option maxRecDepth 100000 in
set_option maxHeartbeats 8000000 in
theorem enter_p (h : SM w B b vE r s) {v : Nat} (hv : v < s.place.length) (hl : s.lowest.length = s.place.length) (hn : s.found + s.path.length + s.opn.length ≤ 1000000000) : Calls Try.prog 49 #[.pointer (some ⟨b, 0, none⟩), iV v] w fun e w' => e = .returned (.tuple #[]) ∧ SMx w B b vE (enterS s v) w' := by
  obtain ⟨i0', hi, hz0, hz1, hz2⟩ := info_parts infoInt
  have HI0 := Lib.hid hi
  have HZ0 := Lib.hid hz0
  have HZ1 := Lib.hid hz1
  have HZ2 := Lib.hid hz2
  clear hi hz0 hz1 hz2
  obtain ⟨gp, cp, hvp, hcp, q1, f1, n1⟩ := h.rat (i := 0) (k := v) (by decide) hv
  obtain ⟨gl, cl, hvl, hcl, q2, f2, n2⟩ := h.rat (i := 1) (k := v) (by decide) (by show v < s.lowest.length; omega)
  have hgg : ¬ gl = gp := fun e => h.dis 1 0 (by decide) (by decide) (by decide) gl (by rw [hvl]; rfl) (by rw [hvp, e]; rfl)
  have hM1 := h.numF (s.found + 1)
  have hM2 := hM1.put (i := 0) (by decide) hvp (j := v) hv (s.found + 1) (s' := { s with found := s.found + 1, place := s.place.set v (s.found + 1) }) rfl rfl rfl (fun k hk hk0 => by match k, hk with | 0, _ => exact absurd rfl hk0 | 1, _ => rfl | 2, _ => rfl | 3, _ => rfl | 4, _ => rfl | 5, _ => rfl)
  have hM3 := hM2.put (i := 1) (by decide) hvl (j := v) (by show v < s.lowest.length; omega) (s.found + 1) (s' := { s with found := s.found + 1, place := s.place.set v (s.found + 1), lowest := s.lowest.set v (s.found + 1) }) rfl rfl rfl (fun k hk hk0 => by match k, hk with | 0, _ => rfl | 1, _ => exact absurd rfl hk0 | 2, _ => rfl | 3, _ => rfl | 4, _ => rfl | 5, _ => rfl)
  have hF3 : FG B b w (((w.setCell ⟨b, 7, none⟩ (iV (s.found + 1))).setCell ⟨gp, v, none⟩ (iV (s.found + 1))).setCell ⟨gl, v, none⟩ (iV (s.found + 1))) := ((FG.blk w B b 7 _).trans (hM1.putF (i := 0) (by decide) hvp v _)).trans (hM2.putF (i := 1) (by decide) hvl v _)
  have c7 := h.c7
  have z7 := h.fz 7
  have c1 := h.cr (i := 0) (by decide)
  have c2 := h.cr (i := 1) (by decide)
  rw [hvp] at c1
  rw [hvl] at c2
  obtain ⟨np, hnp⟩ : ∃ np, (dat s 0).length = np := ⟨_, rfl⟩
  obtain ⟨nl, hnl⟩ : ∃ nl, (dat s 1).length = nl := ⟨_, rfl⟩
  have hv1 : v < np := by rw [← hnp]; exact hv
  have hv2 : v < nl := by rw [← hnl]; show v < s.lowest.length; omega
  rw [hnp] at c1 hcp
  rw [hnl] at c2 hcl
  have hwf : IntKind.i64.wrap ((s.found : Int) + 1) = (s.found : Int) + 1 := IntWalk.i64_in _ (by omega)
  have h01 : (0 : Int) ≤ (v : Int) := Int.natCast_nonneg v
  have h02 : (v : Int) < (np : Int) := by omega
  have h03 : (v : Int) < (nl : Int) := by omega
  have h04 : (v : Int).toNat = v := Int.toNat_natCast v
  have HM3 := Lib.hid hM3
  have HF3 := Lib.hid hF3
  clear hM1 hM2 hM3 hF3 hvp hvl hnp hnl
  go_enter Try.func49, Try.ntmps49
  go_wp2
  go_region
  go_wp2
  go_region
  refine gen_exit (fun wx => SM wx B b vE r { s with found := s.found + 1, place := s.place.set v (s.found + 1), lowest := s.lowest.set v (s.found + 1) } ∧ FG B b w wx) ⟨HM3.out.same ((Only.refl _ _).drew.drew), HF3.out.trans (FG.keep ((Only.refl _ _).drew.drew))⟩ ?_
  clear HM3 HF3 q1 q2 f1 f2 n1 n2 hgg c7 z7 c1 c2 hwf h02 h03 hcp hcl
  rintro wx ⟨hS, hF⟩
  obtain ⟨op, cap, hvp⟩ := hS.rowv (i := 4) (by decide)
  have c5 := hS.cr (i := 4) (by decide)
  have z5 := hS.fz 5
  have hrow := hS.row 4 (by decide)
  rw [hvp] at c5 hrow
  have HOWN : wx.ownsRow B 3 1 (.slice op s.path.length cap) s.path.length (s.path.map iV) := hrow
  have c5' : wx.cell? ⟨b, 5, none⟩ = some (.slice op s.path.length cap) := c5
  have hbx := hS.lt
  have hBb := hS.low
  have hlp : s.path.length + 1 ≤ 1000000000 + 1 := by omega
  have hA : Only (fun _ => False) wx (wx.alloc (.cells #[iV v] 3)) := (Only.refl _ _).alloc _
  have hSA := hS.same hA
  have HVP := Lib.hid hvp
  clear hrow c5 hvp
  obtain ⟨oo, cao, hvo⟩ := hS.rowv (i := 5) (by decide)
  have HVO := Lib.hid hvo
  have hlo : s.opn.length + 1 ≤ 1000000000 + 1 := by omega
  clear hvo
  go_wp2_with (first | (at_builtin; refine wpList_append_lies _ rfl _ _ 30 rfl B 3 i0' (.int .i64 0) 1 8 Try.underlying30 HI0.out HZ0.out HZ1.out HZ2.out rfl (by decide) (.slice op s.path.length cap) s.path.length (s.path.map iV) rfl (World.ownsRow.alloc HOWN _) ⟨wx.heap.size, 0, none⟩ 1 1 [iV v] rfl rfl (World.news_of_block (new_at _ rfl)) (one_int v) Nat.one_pos (by unfold maxLen; omega) (by omega) (by show B ≤ (Array.push _ _).size; rw [Array.size_push]; have := hbx; omega) _ rfl ?_; intro g cg w3 hown' hgrow hat hlt'; have hbb := (hSA.grownB (i := 4) (by decide) HVP.out hgrow).trans hSA.blk; have p5 := (blk_c (k := 5) hbb rfl).1; have y5 := (blk_c (k := 5) hbb rfl).2; have p6 := (blk_c (k := 6) hbb rfl).1; have y6 := (blk_c (k := 6) hbb rfl).2; rw [HVO.out] at p6; have hFA := Lib.hid ((FG.keep hA).trans (hSA.grownF (i := 4) (by decide) HVP.out hgrow)); have hS4 := hSA.grow (i := 4) (.inl rfl) (by rw [HVP.out]; exact hgrow) (v' := .slice (some ⟨g, 0, none⟩) (s.path.length + 1) cg) (s' := { s with found := s.found + 1, place := s.place.set v (s.found + 1), lowest := s.lowest.set v (s.found + 1), path := s.path ++ [v] }) rfl rfl (fun k hk hk0 => by match k, hk with | 0, _ => rfl | 1, _ => rfl | 2, _ => rfl | 3, _ => rfl | 4, _ => exact absurd rfl hk0 | 5, _ => rfl) (IR.snoc hown') (fun g' hg' => by have hgg : g = g' := Option.some.inj hg'; rcases hat with e | e; exact .inl (by rw [HVP.out]; exact hgg ▸ e); right; have e3 : g = (Array.push _ _).size := e; exact Nat.le_of_eq (e3.symm.trans hgg)); have hsz4 : (w3.setCell ⟨b, 5, none⟩ (.slice (some ⟨g, 0, none⟩) (s.path.length + 1) cg)).heap.size = w3.heap.size := (by simp [World.setCell]); have HSZ := Lib.hid hsz4; have HBB := Lib.hid hbb; have hsz3 := hgrow.size; have hbl3 : b < w3.heap.size := lt_of_block hbb; have HS4 := Lib.hid hS4; have HVO4 : Hid (upd r 4 (.slice (some ⟨g, 0, none⟩) (s.path.length + 1) cg) 5 = .slice oo s.opn.length cao) := Lib.hid HVO.out; have HOWN2 : (w3.setCell ⟨b, 5, none⟩ (.slice (some ⟨g, 0, none⟩) (s.path.length + 1) cg)).ownsRow B 3 1 (.slice oo s.opn.length cao) s.opn.length (s.opn.map iV) := (show IR _ B (.slice oo s.opn.length cao) s.opn from HVO.out ▸ hS4.row 5 (by decide)); clear hgrow hown' hat hlt' hbb hsz4 hsz3 hS4) | (at_builtin; refine wpList_append_lies _ rfl _ _ 30 rfl B 3 i0' (.int .i64 0) 1 8 Try.underlying30 HI0.out HZ0.out HZ1.out HZ2.out rfl (by decide) (.slice oo s.opn.length cao) s.opn.length (s.opn.map iV) rfl (World.ownsRow.alloc HOWN2 _) ⟨w3.heap.size, 0, none⟩ 1 1 [iV v] rfl rfl (World.news_of_block (new_at _ HSZ.out)) (one_int v) Nat.one_pos (by unfold maxLen; omega) (by omega) (by show B ≤ (Array.push _ _).size; rw [Array.size_push]; rw [HSZ.out]; have := hbl3; omega) _ rfl ?_; intro g6 cg6 w6 hown6 hgrow6 hat6 hlt6; have hA4 : Only (fun _ => False) (w3.setCell ⟨b, 5, none⟩ (.slice (some ⟨g, 0, none⟩) (s.path.length + 1) cg)) ((w3.setCell ⟨b, 5, none⟩ (.slice (some ⟨g, 0, none⟩) (s.path.length + 1) cg)).alloc (.cells #[iV v] 3)) := Only.alloc (Only.refl _ _) _; have hSB := HS4.out.same hA4; have hbb6 := (hSB.grownB (i := 5) (by decide) HVO4.out hgrow6).trans hSB.blk; have p7 := (blk_c (k := 6) hbb6 rfl).1; have y7 := (blk_c (k := 6) hbb6 rfl).2; rw [HVO4.out] at p7; have HFB := Lib.hid ((FG.keep hA4).trans (hSB.grownF (i := 5) (by decide) HVO4.out hgrow6)); have HS6 := Lib.hid (hSB.grow (i := 5) (.inr rfl) (by rw [HVO4.out]; exact hgrow6) (v' := .slice (some ⟨g6, 0, none⟩) (s.opn.length + 1) cg6) (s' := enterS s v) rfl rfl (fun k hk hk0 => by match k, hk with | 0, _ => rfl | 1, _ => rfl | 2, _ => rfl | 3, _ => rfl | 4, _ => rfl | 5, _ => exact absurd rfl hk0) (IR.snoc hown6) (fun g' hg' => by have hgg : g6 = g' := Option.some.inj hg'; rcases hat6 with e | e; exact .inl (by rw [HVO4.out]; exact hgg ▸ e); right; have e3 : g6 = (Array.push _ _).size := e; exact Nat.le_of_eq (e3.symm.trans hgg))); clear hgrow6 hown6 hat6 hlt6 hSB hA4 hbb6))
  go_end0
  exact ⟨rfl, _, HS6.out, (((hF.trans hFA.out).trans (FG.blk _ _ _ _ _)).trans HFB.out).trans (FG.blk _ _ _ _ _)⟩
end
end Go.Proofs.Ytijohaeiiidcpaa
