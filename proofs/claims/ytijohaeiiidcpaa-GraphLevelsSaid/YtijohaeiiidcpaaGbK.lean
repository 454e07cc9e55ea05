/-
  WALKS. The heap of components: Push and Pop of the row.
-/
import Derived.Test.YtijohaeiiidcpaaGbJ
namespace Go.Proofs.Ytijohaeiiidcpaa
open Go.RowKit Go.Maps
section
variable {w w' : World} {B b : Nat} {v : Value} {l : List Nat}
theorem HB.grow (h : HB w B b v l) {w3 : World} (hg : w.grownBy w3 v.ownBlock) {v' : Value} {l' : List Nat} (hrow : IR w3 B v' l') (hb : ∀ g, v'.ownBlock = some g → v.ownBlock = some g ∨ w.heap.size ≤ g) : HB (w3.setCell ⟨b, 0, none⟩ v') B b v' l' := by
  have hbb : w3.heap[b]? = w.heap[b]? := hg.block b h.lt (fun e => h.ne e.symm rfl)
  have hO : Only (· = b) w3 (w3.setCell ⟨b, 0, none⟩ v') := Only.setCell (K := (· = b)) (Only.refl _ _) rfl _
  have h' := hbb.trans h.blk
  refine ⟨by simp [World.setCell, Array.getElem?_modify, h'], h.low, hrow.only hO (fun g hgv e => ?_)⟩
  rcases hb g hgv with h1 | h1
  · exact h.ne h1 e
  · have := h.lt; omega
set_option maxRecDepth 100000 in
set_option maxHeartbeats 4000000 in
theorem RPush_p (h : HB w B b v l) (x : Nat) (hn : l.length + 1 ≤ 1000000000) : Calls Try.prog 79 #[.pointer (some ⟨b, 0, none⟩), .iface 3 (iV x)] w fun e w' => e = .returned (.tuple #[]) ∧ HBx w B b (l ++ [x]) w' := by
  obtain ⟨i0', hi, hz0, hz1, hz2⟩ := info_parts infoInt
  obtain ⟨oa, ca, hv⟩ := rowForm h.row
  subst hv
  have hA : Only (fun _ => False) w ((w.alloc (.cells #[iV x] 3)).drew) := ((Only.refl _ _).alloc _).drew
  have hSA := h.same hA
  have HOWN : w.ownsRow B 3 1 (.slice oa l.length ca) l.length (l.map iV) := h.row
  have c0 := h.c0
  have z0 := h.fz 0
  have hbx := h.lt
  have hBb := h.low
  have hta : ∀ w, Sem.run Try.prog (Instr.typeAssert (.iface 3 (iV x)) 20 3 false) w = .ok (iV x) w := fun _ => by kernel_rfl
  go_enter Try.func79, Try.ntmps79
  go_wp2
  go_region_law ((refine step_append_lies _ rfl (.tmp 7) (.tmp 10) 62 rfl B 3 i0' (.int .i64 0) 1 8 Try.underlying62 hi hz0 hz1 hz2 rfl (by decide) (.slice oa l.length ca) l.length (l.map iV) ?e1 (World.ownsRow.alloc HOWN _) ⟨w.heap.size, 0, none⟩ 1 1 [iV x] ?e2 rfl (World.news_of_block (new_block w _)) (one_int x) Nat.one_pos (by unfold maxLen; omega) (by omega) (by show B ≤ (Array.push _ _).size; rw [Array.size_push]; omega) _ rfl ?_); (case e1 => simp [Act.eval]); (case e2 => simp [Act.eval]); (intro g cg w6 hown' hgrow hat hlt'; have hbb := (hgrow.block b hSA.lt (fun e => hSA.ne e.symm rfl)).trans hSA.blk; have p0 := (blk_c (k := 0) hbb rfl).1; have y0 := (blk_c (k := 0) hbb rfl).2))
  all_goals
    have HS6 := Lib.hid (hSA.grow hgrow (v' := .slice (some ⟨g, 0, none⟩) (l.length + 1) cg) (l' := l ++ [x]) (IR.snoc hown') (fun g' hg' => by
      have hgg : g = g' := Option.some.inj hg'
      rcases hat with e | e
      · exact .inl (hgg ▸ e)
      · right
        have e3 : g = (Array.push _ _).size := e
        exact Nat.le_of_eq (e3.symm.trans hgg)))
    have HF6 := Lib.hid ((FG.keep (B := B) (b := b) hA).trans (Only.grown hgrow (fun _ hk => .inr (hSA.isI hk))))
    clear hown' hgrow hat
    go_wp2
    go_end0
    exact ⟨rfl, _, HS6.out, HF6.out.trans (FG.blk _ _ _ _ _)⟩
set_option maxRecDepth 100000 in
set_option maxHeartbeats 4000000 in
theorem RPop_p {l' : List Nat} {x : Nat} (h : HB w B b v (l' ++ [x])) (hn : l'.length + 1 ≤ 1000000000) : Calls Try.prog 78 #[.pointer (some ⟨b, 0, none⟩)] w fun e w' => e = .returned (.iface 3 (iV x)) ∧ HBx w B b l' w' := by
  obtain ⟨g, ca, hv, hca, hc, hf, -⟩ := h.rat (k := l'.length) (by simp)
  have hgx : gt (l' ++ [x]) l'.length = x := by rw [gt_at (by simp)]; simp
  have hln : (l' ++ [x]).length = l'.length + 1 := by simp
  rw [hgx] at hc
  rw [hln] at hv hca
  have hrow := h.row
  rw [hv] at hrow
  have hcut := hrow.cut (k := l'.length) (by simp)
  rw [List.take_left] at hcut
  have hS2 := h.grow (w3 := w) ⟨rfl, rfl, rfl, Nat.le_refl _, fun _ _ _ => rfl⟩ (v' := .slice (some ⟨g, 0, none⟩) l'.length ca) hcut (fun g' hg' => .inl (by rw [hv]; exact hg'))
  have HS2 := Lib.hid hS2
  have c0 := h.c0
  have z0 := h.fz 0
  rw [hv] at c0
  obtain ⟨m, hm⟩ : ∃ m, l'.length = m := ⟨_, rfl⟩
  have HM := Lib.hid hm
  rw [hm] at c0 hc hca hn
  have hwm : IntKind.i64.wrap (m : Int) = (m : Int) := IntWalk.i64_in _ (by omega)
  have hw5 : (0 : Int) ≤ (m : Int) := Int.natCast_nonneg m
  have hw6 : (m : Int).toNat = m := Int.toNat_natCast m
  have hw2 : (m : Int) < (m : Int) + 1 := by omega
  have hw7 : (m : Int) ≤ (ca : Int) := by omega
  have hw8 : m ≤ ca := by omega
  have hw9 : ¬ ca = 0 := by omega
  clear hgx hln hrow hcut hS2 hm hv
  go_enter Try.func78, Try.ntmps78
  go_wp2
  go_ret
  rw [HM.out] at HS2
  exact ⟨rfl, _, HS2.out, FG.blk _ _ _ _ _⟩
end
end Go.Proofs.Ytijohaeiiidcpaa
