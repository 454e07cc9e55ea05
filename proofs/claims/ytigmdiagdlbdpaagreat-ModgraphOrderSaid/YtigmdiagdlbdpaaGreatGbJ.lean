/-
  WALKS. The heap of components: its methods, reached through the interface.
  WALKS. The heap of components: Push and Pop of the row.
  WALKS. container/heap over the components: up.
  WALKS. container/heap over the components: down, Push, Pop.
-/
import Derived.Test.YtigmdiagdlbdpaaGreatGbF
import Derived.Test.YtigmdiagdlbdpaaGreatGor
namespace Go.Proofs.YtigmdiagdlbdpaaGreat
open Go.RowKit Go.Maps
/-- The heap's variable at b, its row. -/
structure HB (w : World) (B b : Nat) (v : Value) (l : List Nat) : Prop where
  blk : w.heap[b]? = some (.cells #[v] 90 (0, 0))
  low : B ≤ b
  row : IR w B v l
def HBx (w : World) (B b : Nat) (l : List Nat) (w' : World) : Prop := ∃ v', HB w' B b v' l ∧ FG B b w w'
section
variable {w w' : World} {B b : Nat} {v : Value} {l : List Nat}
theorem HB.lt (h : HB w B b v l) : b < w.heap.size := lt_of_block h.blk
theorem HB.c0 (h : HB w B b v l) : w.cell? ⟨b, 0, none⟩ = some v := (blk_c h.blk rfl).1
theorem HB.fz (h : HB w B b v l) (k : Nat) : w.frozen? ⟨b, k, none⟩ = false := by have h' := h.blk; simp [World.frozen?, h']
theorem HB.ne (h : HB w B b v l) {g : Nat} (hg : v.ownBlock = some g) : ¬ g = b := by
  intro e
  subst e
  rcases h.row.2 with ⟨hv, -⟩ | ⟨g', cap, cur, hv, -, hb', -⟩
  · rw [hv] at hg; cases hg
  · rw [hv] at hg
    cases hg
    rw [h.blk] at hb'
    exact absurd (Obj.cells.inj (Option.some.inj hb')).2.1 (by decide)
theorem HB.isI (h : HB w B b v l) {g : Nat} (hg : v.ownBlock = some g) : IsI w B g := by
  rcases h.row.2 with ⟨hv, -⟩ | ⟨g', cap, cur, hv, hB, hb', -⟩
  · rw [hv] at hg; cases hg
  · rw [hv] at hg
    cases hg
    exact ⟨hB, _, _, hb'⟩
theorem HB.same (h : HB w B b v l) (ho : Only (fun _ => False) w w') : HB w' B b v l := ⟨(ho.block b h.lt (fun hc => hc)).trans h.blk, h.low, h.row.only ho (fun _ _ hc => hc)⟩
theorem HB.put (h : HB w B b v l) {g n ca : Nat} (hr : v = .slice (some ⟨g, 0, none⟩) n ca) {j : Nat} (hj : j < l.length) (x : Nat) : HB (w.setCell ⟨g, j, none⟩ (iV x)) B b v (l.set j x) := by
  have hg : v.ownBlock = some g := by rw [hr]; rfl
  have hO : Only (· = g) w (w.setCell ⟨g, j, none⟩ (iV x)) := Only.setCell (K := (· = g)) (Only.refl _ _) rfl _
  refine ⟨(hO.block b h.lt (fun e => h.ne hg e.symm)).trans h.blk, h.low, ?_⟩
  have := h.row
  rw [hr] at this ⊢
  exact this.set hj x
theorem HB.rat (h : HB w B b v l) {k : Nat} (hk : k < l.length) : ∃ g ca, v = .slice (some ⟨g, 0, none⟩) l.length ca ∧ l.length ≤ ca ∧ w.cell? ⟨g, k, none⟩ = some (iV (gt l k)) ∧ w.frozen? ⟨g, k, none⟩ = false ∧ ¬ g = b := by
  obtain ⟨oa, ca, hv⟩ := rowForm h.row
  have hr := h.row
  rw [hv] at hr
  obtain ⟨g, rfl, hB, -, hca, hc, hf⟩ := hr.at hk
  exact ⟨g, ca, hv, hca, hc, hf, h.ne (by rw [hv]; rfl)⟩
end
set_option maxRecDepth 100000 in
theorem m_len (k : Nat) (w : World) (b : Nat) (v : Value) (h : w.cell? ⟨b, 0, none⟩ = some v) : Sem.run Tryz.prog (method (k + 1) 92 (.pointer (some ⟨b, 0, none⟩)) "Len") w = .ok (61, v) w := by
  have e : Sem.run Tryz.prog (method (k + 1) 92 (.pointer (some ⟨b, 0, none⟩)) "Len") w = Sem.run Tryz.prog (do pure (61, ← loadVar 90 ⟨b, 0, none⟩)) w := by kernel_rfl
  rw [e]
  simp [go_sem, h]
set_option maxRecDepth 100000 in
theorem m_less (k : Nat) (w : World) (b : Nat) (v : Value) (h : w.cell? ⟨b, 0, none⟩ = some v) : Sem.run Tryz.prog (method (k + 1) 92 (.pointer (some ⟨b, 0, none⟩)) "Less") w = .ok (137, v) w := by
  have e : Sem.run Tryz.prog (method (k + 1) 92 (.pointer (some ⟨b, 0, none⟩)) "Less") w = Sem.run Tryz.prog (do pure (137, ← loadVar 90 ⟨b, 0, none⟩)) w := by kernel_rfl
  rw [e]
  simp [go_sem, h]
set_option maxRecDepth 100000 in
theorem m_swap (k : Nat) (w : World) (b : Nat) (v : Value) (h : w.cell? ⟨b, 0, none⟩ = some v) : Sem.run Tryz.prog (method (k + 1) 92 (.pointer (some ⟨b, 0, none⟩)) "Swap") w = .ok (138, v) w := by
  have e : Sem.run Tryz.prog (method (k + 1) 92 (.pointer (some ⟨b, 0, none⟩)) "Swap") w = Sem.run Tryz.prog (do pure (138, ← loadVar 90 ⟨b, 0, none⟩)) w := by kernel_rfl
  rw [e]
  simp [go_sem, h]
set_option maxRecDepth 100000 in
theorem m_push (k : Nat) (w : World) (b : Nat) : Sem.run Tryz.prog (method (k + 1) 92 (.pointer (some ⟨b, 0, none⟩)) "Push") w = .ok (140, .pointer (some ⟨b, 0, none⟩)) w := by kernel_rfl
set_option maxRecDepth 100000 in
theorem m_pop (k : Nat) (w : World) (b : Nat) : Sem.run Tryz.prog (method (k + 1) 92 (.pointer (some ⟨b, 0, none⟩)) "Pop") w = .ok (139, .pointer (some ⟨b, 0, none⟩)) w := by kernel_rfl
section
variable {w w' : World} {B b : Nat} {v : Value} {l : List Nat}
set_option maxRecDepth 100000 in
theorem Len_p (w : World) (oa : Option Addr) (n ca : Nat) : Calls Tryz.prog 61 #[.slice oa n ca] w fun e w' => e = .returned (iV n) ∧ w' = w := by
  go_enter Tryz.func61, Tryz.ntmps61
  go_wp2
  go_ret
  exact ⟨rfl, rfl⟩
set_option maxRecDepth 100000 in
set_option maxHeartbeats 2000000 in
theorem Less_p (h : HB w B b v l) {i j : Nat} (hi : i < l.length) (hj : j < l.length) (x : Bool) (hx : decide (gt l i < gt l j) = x) : Calls Tryz.prog 137 #[v, iV i, iV j] w fun e w' => e = .returned (.bool x) ∧ Only (fun _ => False) w w' := by
  obtain ⟨g, ca, hv, hca, hc, hf, -⟩ := h.rat hi
  obtain ⟨g', ca', hv', -, hc', -, -⟩ := h.rat hj
  rw [hv] at hv'
  cases hv'
  subst hv
  obtain ⟨n, hn⟩ : ∃ n, l.length = n := ⟨_, rfl⟩
  rw [hn] at hi hj hca ⊢
  obtain ⟨a1, ha1⟩ : ∃ a, gt l i = a := ⟨_, rfl⟩
  obtain ⟨a2, ha2⟩ : ∃ a, gt l j = a := ⟨_, rfl⟩
  rw [ha1] at hc hx
  rw [ha2] at hc' hx
  have h01 : (0 : Int) ≤ (i : Int) := Int.natCast_nonneg i
  have h02 : (i : Int) < (n : Int) := by omega
  have h03 : (i : Int).toNat = i := Int.toNat_natCast i
  have h04 : (0 : Int) ≤ (j : Int) := Int.natCast_nonneg j
  have h05 : (j : Int) < (n : Int) := by omega
  have h06 : (j : Int).toNat = j := Int.toNat_natCast j
  have hx2 : decide ((a1 : Int) < (a2 : Int)) = x := by rw [← hx]; exact decide_eq_decide.2 ⟨fun h => by omega, fun h => by omega⟩
  have HX := Lib.hid hx
  clear ha1 ha2 hn hx
  go_enter Tryz.func137, Tryz.ntmps137
  go_wp2
  go_quiet (fail)
  all_goals
    go_wp2
    go_ret
    exact ⟨by first | rfl | (simp [HX.out]) | (simp [hx2]), only_drewN _ _⟩
set_option maxRecDepth 100000 in
set_option maxHeartbeats 4000000 in
theorem Swap_p (h : HB w B b v l) {i j : Nat} (hi : i < l.length) (hj : j < l.length) : Calls Tryz.prog 138 #[v, iV i, iV j] w fun e w' => e = .returned (.tuple #[]) ∧ HB w' B b v (swL l i j) ∧ FG B b w w' := by
  obtain ⟨g, ca, hv, hca, hc, hf, -⟩ := h.rat hi
  obtain ⟨g', ca', hv', -, hc', hf', -⟩ := h.rat hj
  rw [hv] at hv'
  cases hv'
  have hM1 := h.put hv hi (gt l j)
  have hM2 := hM1.put hv (j := j) (by rw [List.length_set]; exact hj) (gt l i)
  have hF : FG B b w ((w.setCell ⟨g, i, none⟩ (iV (gt l j))).setCell ⟨g, j, none⟩ (iV (gt l i))) := (Only.setCell (Only.refl _ _) (.inr (h.isI (by rw [hv]; rfl))) _).setCell (.inr (h.isI (by rw [hv]; rfl))) _
  have HM := Lib.hid hM2
  have HF := Lib.hid hF
  subst hv
  obtain ⟨n, hn⟩ : ∃ n, l.length = n := ⟨_, rfl⟩
  have HN := Lib.hid hn
  rw [hn] at hi hj hca ⊢
  have h01 : (0 : Int) ≤ (i : Int) := Int.natCast_nonneg i
  have h02 : (i : Int) < (n : Int) := by omega
  have h03 : (i : Int).toNat = i := Int.toNat_natCast i
  have h04 : (0 : Int) ≤ (j : Int) := Int.natCast_nonneg j
  have h05 : (j : Int) < (n : Int) := by omega
  have h06 : (j : Int).toNat = j := Int.toNat_natCast j
  clear hM1 hM2 hF hn
  by_cases hij : i = j
  · subst hij
    go_enter Tryz.func138, Tryz.ntmps138
    go_wp2
    go_region
    go_wp2
    all_goals
      go_end0
      rw [HN.out] at HM
      exact ⟨rfl, HM.out.same ((Only.refl _ _).drew), HF.out.trans (FG.keep ((Only.refl _ _).drew))⟩
  · have hij2 : ¬ j = i := fun e => hij e.symm
    go_enter Tryz.func138, Tryz.ntmps138
    go_wp2
    go_region
    go_wp2
    all_goals
      go_end0
      rw [HN.out] at HM
      exact ⟨rfl, HM.out.same ((Only.refl _ _).drew), HF.out.trans (FG.keep ((Only.refl _ _).drew))⟩
end
end Go.Proofs.YtigmdiagdlbdpaaGreat
namespace Go.Proofs.YtigmdiagdlbdpaaGreat
open Go.RowKit Go.Maps
section
variable {w w' : World} {B b : Nat} {v : Value} {l : List Nat}
theorem HB.grow (h : HB w B b v l) {w3 : World} (hg : w.grownBy w3 v.ownBlock) {v' : Value} {l' : List Nat} (hrow : IR w3 B v' l') (hb : ∀ g, v'.ownBlock = some g → v.ownBlock = some g ∨ w.heap.size ≤ g) : HB (w3.setCell ⟨b, 0, none⟩ v') B b v' l' := by
  have hbb : w3.heap[b]? = w.heap[b]? := hg.block b h.lt (fun e => h.ne e.symm rfl)
  have hO : Only (· = b) w3 (w3.setCell ⟨b, 0, none⟩ v') := Only.setCell (K := (· = b)) (Only.refl _ _) rfl _
  have h' := hbb.trans h.blk
  refine ⟨by simp [World.setCell, Array.getElem?_modify, h'], h.low, hrow.only hO (fun g hgv e => ?_)⟩
  rcases hb g hgv with h1 | h1
  · exact h.ne h1 e
  · have := h.lt; omega
set_option maxRecDepth 100000 in
set_option maxHeartbeats 4000000 in
theorem RPush_p (h : HB w B b v l) (x : Nat) (hn : l.length + 1 ≤ 1000000000) : Calls Tryz.prog 140 #[.pointer (some ⟨b, 0, none⟩), .iface 3 (iV x)] w fun e w' => e = .returned (.tuple #[]) ∧ HBx w B b (l ++ [x]) w' := by
  obtain ⟨i0', hi, hz0, hz1, hz2⟩ := info_parts infoInt
  obtain ⟨oa, ca, hv⟩ := rowForm h.row
  subst hv
  have hA : Only (fun _ => False) w ((w.alloc (.cells #[iV x] 3)).drew) := ((Only.refl _ _).alloc _).drew
  have hSA := h.same hA
  have HOWN : w.ownsRow B 3 1 (.slice oa l.length ca) l.length (l.map iV) := h.row
  have c0 := h.c0
  have z0 := h.fz 0
  have hbx := h.lt
  have hBb := h.low
  have hta : ∀ w, Sem.run Tryz.prog (Instr.typeAssert (.iface 3 (iV x)) 20 3 false) w = .ok (iV x) w := fun _ => by kernel_rfl
  go_enter Tryz.func140, Tryz.ntmps140
  go_wp2
  go_region_law ((refine step_append_lies _ rfl (.tmp 7) (.tmp 10) 90 rfl B 3 i0' (.int .i64 0) 1 8 Tryz.underlying90 hi hz0 hz1 hz2 rfl (by decide) (.slice oa l.length ca) l.length (l.map iV) ?e1 (World.ownsRow.alloc HOWN _) ⟨w.heap.size, 0, none⟩ 1 1 [iV x] ?e2 rfl (World.news_of_block (new_block w _)) (one_int x) Nat.one_pos (by unfold maxLen; omega) (by omega) (by show B ≤ (Array.push _ _).size; rw [Array.size_push]; omega) _ rfl ?_); (case e1 => simp [Act.eval]); (case e2 => simp [Act.eval]); (intro g cg w6 hown' hgrow hat hlt'; have hbb := (hgrow.block b hSA.lt (fun e => hSA.ne e.symm rfl)).trans hSA.blk; have p0 := (blk_c (k := 0) hbb rfl).1; have y0 := (blk_c (k := 0) hbb rfl).2))
  all_goals
    have HS6 := Lib.hid (hSA.grow hgrow (v' := .slice (some ⟨g, 0, none⟩) (l.length + 1) cg) (l' := l ++ [x]) (IR.snoc hown') (fun g' hg' => by
      have hgg : g = g' := Option.some.inj hg'
      rcases hat with e | e
      · exact .inl (hgg ▸ e)
      · right
        have e3 : g = (Array.push _ _).size := e
        exact Nat.le_of_eq (e3.symm.trans hgg)))
    have HF6 := Lib.hid ((FG.keep (B := B) (b := b) hA).trans (Only.grown hgrow (fun _ hk => .inr (hSA.isI hk))))
    clear hown' hgrow hat
    go_wp2
    go_end0
    exact ⟨rfl, _, HS6.out, HF6.out.trans (FG.blk _ _ _ _ _)⟩
set_option maxRecDepth 100000 in
set_option maxHeartbeats 4000000 in
theorem RPop_p {l' : List Nat} {x : Nat} (h : HB w B b v (l' ++ [x])) (hn : l'.length + 1 ≤ 1000000000) : Calls Tryz.prog 139 #[.pointer (some ⟨b, 0, none⟩)] w fun e w' => e = .returned (.iface 3 (iV x)) ∧ HBx w B b l' w' := by
  obtain ⟨g, ca, hv, hca, hc, hf, -⟩ := h.rat (k := l'.length) (by simp)
  have hgx : gt (l' ++ [x]) l'.length = x := by rw [gt_at (by simp)]; simp
  have hln : (l' ++ [x]).length = l'.length + 1 := by simp
  rw [hgx] at hc
  rw [hln] at hv hca
  have hrow := h.row
  rw [hv] at hrow
  have hcut := hrow.cut (k := l'.length) (by simp)
  rw [List.take_left] at hcut
  have hS2 := h.grow (w3 := w) ⟨rfl, rfl, rfl, Nat.le_refl _, fun _ _ _ => rfl⟩ (v' := .slice (some ⟨g, 0, none⟩) l'.length ca) hcut (fun g' hg' => .inl (by rw [hv]; exact hg'))
  have HS2 := Lib.hid hS2
  have c0 := h.c0
  have z0 := h.fz 0
  rw [hv] at c0
  obtain ⟨m, hm⟩ : ∃ m, l'.length = m := ⟨_, rfl⟩
  have HM := Lib.hid hm
  rw [hm] at c0 hc hca hn
  have hwm : IntKind.i64.wrap (m : Int) = (m : Int) := IntWalk.i64_in _ (by omega)
  have hw5 : (0 : Int) ≤ (m : Int) := Int.natCast_nonneg m
  have hw6 : (m : Int).toNat = m := Int.toNat_natCast m
  have hw2 : (m : Int) < (m : Int) + 1 := by omega
  have hw7 : (m : Int) ≤ (ca : Int) := by omega
  have hw8 : m ≤ ca := by omega
  have hw9 : ¬ ca = 0 := by omega
  clear hgx hln hrow hcut hS2 hm hv
  go_enter Tryz.func139, Tryz.ntmps139
  go_wp2
  go_ret
  rw [HM.out] at HS2
  exact ⟨rfl, _, HS2.out, FG.blk _ _ _ _ _⟩
end
end Go.Proofs.YtigmdiagdlbdpaaGreat
namespace Go.Proofs.YtigmdiagdlbdpaaGreat
open Go.RowKit Go.Maps
abbrev hpV (b : Nat) : Value := .iface 92 (.pointer (some ⟨b, 0, none⟩))
theorem upF_zero {f : Nat} {l : List Nat} : upF (f + 1) l 0 = l := by unfold upF; rw [if_pos rfl]
theorem upF_stop {f j : Nat} {l : List Nat} (hj : j ≠ 0) (h : ¬ gt l j < gt l ((j - 1) / 2)) : upF (f + 1) l j = l := by unfold upF; rw [if_neg hj, if_neg h]
theorem upF_go {f j : Nat} {l : List Nat} (hj : j ≠ 0) (h : gt l j < gt l ((j - 1) / 2)) : upF (f + 1) l j = upF f (swL l ((j - 1) / 2) j) ((j - 1) / 2) := by
  conv => lhs; unfold upF
  rw [if_neg hj, if_pos h]
section
variable {w w' : World} {B b : Nat} {v : Value} {l : List Nat}
set_option maxRecDepth 100000 in
set_option maxHeartbeats 8000000 in
theorem up_p (h : HB w B b v l) {j0 F : Nat} (hj0 : j0 < l.length) (hF0 : j0 < F) (hn : l.length ≤ 1000000000) : Calls Tryz.prog 79 #[hpV b, iV j0] w fun e w' => e = .returned (.tuple #[]) ∧ HBx w B b (upF F l j0) w' := by
  go_enter Tryz.func79, Tryz.ntmps79
  go_wp2
  go_loopw [1] (fun i wr => ∃ (j f : Nat) (v1 : Value) (l1 : List Nat), i = iV j ∧ HB wr B b v1 l1 ∧ j < l1.length ∧ l1.length = l.length ∧ j < f ∧ Hid (upF f l1 j = upF F l j0) ∧ FG B b w wr) (fun i _ => (intOf i).toNat)
  case atStart => exact ⟨j0, F, v, l, rfl, h, hj0, rfl, hF0, Lib.hid rfl, Only.refl _ _⟩
  case round =>
    obtain ⟨j, f, v1, l1, rfl, hS, hj, hln, hjf, HR, hF⟩ := hrel
    obtain ⟨f', rfl⟩ : ∃ f', f = f' + 1 := ⟨f - 1, by omega⟩
    have hc0 := hS.c0
    have mL := fun k => m_less k wr b v1 hc0
    have hwj : IntKind.i64.wrap ((j : Int) - 1) = (j : Int) - 1 := IntWalk.i64_in _ (by omega)
    by_cases hz : j = 0
    · subst hz
      have HE : Hid (upF F l j0 = l1) := Lib.hid (by rw [← HR.out, upF_zero])
      have hq : Int.tdiv ((0 : Int) - 1) 2 = 0 := by decide
      have hq2 : IntKind.i64.wrap 0 = 0 := rfl
      go_wp2
      all_goals
        go_end0
        rw [HE.out]
        exact ⟨rfl, _, hS, hF⟩
    · obtain ⟨i, hi⟩ : ∃ i, (j - 1) / 2 = i := ⟨_, rfl⟩
      have hij : i < j := by omega
      have hq : Int.tdiv ((j : Int) - 1) 2 = (i : Int) := by
        rw [Int.tdiv_eq_ediv_of_nonneg (by omega)]
        omega
      have hwq : IntKind.i64.wrap (i : Int) = (i : Int) := IntWalk.i64_in _ (by omega)
      have hne : ((i : Int) == (j : Int)) = false := by simp; omega
      have hne2 : ¬ (i : Int) = (j : Int) := by omega
      have hil : i < l1.length := by omega
      by_cases hlt : gt l1 j < gt l1 i
      · have hx : decide (gt l1 j < gt l1 i) = true := decide_eq_true hlt
        have HN : Hid (upF f' (swL l1 i j) i = upF F l j0) := Lib.hid (by rw [← HR.out, upF_go hz (by rw [hi]; exact hlt), hi])
        have HI := Lib.hid hi
        clear hi
        go_wp2_with (first | (go_at_call 137; (refine (Less_p hS hj hil true hx).mono ?_); rintro e w2 ⟨rfl, hO2⟩; have hS2 := hS.same hO2; have mS := fun k => m_swap k w2 b v1 hS2.c0) | (go_at_call 138; (refine (Swap_p hS2 hil hj).mono ?_); rintro e w3 ⟨rfl, hS3, hF3⟩))
        go_roundw
        case rel => exact ⟨i, f', v1, swL l1 i j, rfl, hS3, by rw [swL_len]; exact hil, by rw [swL_len]; exact hln, by omega, HN, hF.trans ((FG.keep hO2).trans hF3)⟩
        case measure => simp [intOf]; omega
      · have hx : decide (gt l1 j < gt l1 i) = false := decide_eq_false hlt
        have HE : Hid (upF F l j0 = l1) := Lib.hid (by rw [← HR.out, upF_stop hz (by rw [hi]; exact hlt)])
        clear hi
        go_wp2_with (go_at_call 137; (refine (Less_p hS hj hil false hx).mono ?_); rintro e w2 ⟨rfl, hO2⟩; have hS2 := hS.same hO2)
        go_end0
        rw [HE.out]
        exact ⟨rfl, _, hS2, hF.trans (FG.keep hO2)⟩
end
end Go.Proofs.YtigmdiagdlbdpaaGreat
namespace Go.Proofs.YtigmdiagdlbdpaaGreat
open Go.RowKit Go.Maps
theorem downF_stop {f i n : Nat} {l : List Nat} (h : n ≤ 2 * i + 1) : downF f l i n = l := by
  cases f with
  | zero => rfl
  | succ f => unfold downF; rw [if_pos h]
theorem downF_rest {f i n : Nat} {l : List Nat} (h : ¬ n ≤ 2 * i + 1) (h2 : ¬ gt l (kidF l i n) < gt l i) : downF (f + 1) l i n = l := by unfold downF; rw [if_neg h, if_neg h2]
theorem downF_go {f i n : Nat} {l : List Nat} (h : ¬ n ≤ 2 * i + 1) (h2 : gt l (kidF l i n) < gt l i) : downF (f + 1) l i n = downF f (swL l i (kidF l i n)) (kidF l i n) n := by
  conv => lhs; unfold downF
  rw [if_neg h, if_pos h2]
section
variable {w w' : World} {B b : Nat} {v : Value} {l : List Nat}
set_option maxRecDepth 100000 in
set_option maxHeartbeats 16000000 in
theorem down_p (h : HB w B b v l) {i0 n F : Nat} (hi0 : i0 < l.length) (hnl : n ≤ l.length) (hF0 : n ≤ F + i0) (hn : l.length ≤ 100000000) : Calls Tryz.prog 80 #[hpV b, iV i0, iV n] w fun e w' => (∃ x, e = .returned (.bool x)) ∧ HBx w B b (downF F l i0 n) w' := by
  go_enter Tryz.func80, Tryz.ntmps80
  go_wp2
  go_loopw [7] (fun q wr => ∃ (i f : Nat) (v1 : Value) (l1 : List Nat), q = iV i ∧ HB wr B b v1 l1 ∧ i < l1.length ∧ l1.length = l.length ∧ n ≤ f + i ∧ Hid (downF f l1 i n = downF F l i0 n) ∧ FG B b w wr) (fun q _ => l.length - (intOf q).toNat)
  case atStart => exact ⟨i0, F, v, l, rfl, h, hi0, rfl, hF0, Lib.hid rfl, Only.refl _ _⟩
  case round =>
    obtain ⟨i, f, v1, l1, rfl, hS, hi, hln, hif, HR, hF⟩ := hrel
    have hc0 := hS.c0
    have mL := fun k => m_less k wr b v1 hc0
    have hw1 : IntKind.i64.wrap (2 * (i : Int)) = 2 * (i : Int) := IntWalk.i64_in _ (by omega)
    have hw2 : IntKind.i64.wrap (2 * (i : Int) + 1) = 2 * (i : Int) + 1 := IntWalk.i64_in _ (by omega)
    have hw3 : IntKind.i64.wrap (2 * (i : Int) + 1 + 1) = 2 * (i : Int) + 1 + 1 := IntWalk.i64_in _ (by omega)
    by_cases hz : n ≤ 2 * i + 1
    · have hd1 : decide ((n : Int) ≤ 2 * (i : Int) + 1) = true := decide_eq_true (by omega)
      have hd2 : (n : Int) ≤ 2 * (i : Int) + 1 := by omega
      have HE : Hid (downF F l i0 n = l1) := Lib.hid (by rw [← HR.out, downF_stop hz])
      go_wp2
      all_goals
        go_ret
        rw [HE.out]
        exact ⟨⟨_, rfl⟩, _, hS, hF⟩
    · have hd1 : decide ((n : Int) ≤ 2 * (i : Int) + 1) = false := decide_eq_false (by omega)
      have hd2 : ¬ (n : Int) ≤ 2 * (i : Int) + 1 := by omega
      have hd3 : ¬ (2 * (i : Int) + 1 < 0) := by omega
      have hd4 : decide (2 * (i : Int) + 1 < 0) = false := decide_eq_false (by omega)
      obtain ⟨f', rfl⟩ : ∃ f', f = f' + 1 := ⟨f - 1, by omega⟩
      have hj1 : 2 * i + 1 < l1.length := by omega
      obtain ⟨j1, hj1e⟩ : ∃ j, 2 * i + 1 = j := ⟨_, rfl⟩
      have hjI : 2 * (i : Int) + 1 = (j1 : Int) := by omega
      rw [hjI] at hw2 hw3 hd1 hd2 hd3 hd4
      have hw2' : IntKind.i64.wrap (2 * (i : Int) + 1) = (j1 : Int) := by rw [hjI]; exact hw2
      rw [hj1e] at hj1
      have hwI : 2 * (i : Int) + 1 = (j1 : Int) := hjI
      by_cases h2 : j1 + 1 < n
      · have he1 : decide ((j1 : Int) + 1 < (n : Int)) = true := decide_eq_true (by omega)
        have he2 : (j1 : Int) + 1 < (n : Int) := by omega
        have hj2 : j1 + 1 < l1.length := by omega
        obtain ⟨j2, hj2e⟩ : ∃ j, j1 + 1 = j := ⟨_, rfl⟩
        have hjJ : (j1 : Int) + 1 = (j2 : Int) := by omega
        rw [hjJ] at he1 he2 hw3
        rw [hj2e] at hj2
        by_cases hs : gt l1 j2 < gt l1 j1
        · have hy : decide (gt l1 j2 < gt l1 j1) = true := decide_eq_true hs
          have hk : kidF l1 i n = j2 := by unfold kidF; rw [hj1e, hj2e, if_pos ⟨by omega, hs⟩]
          have hcl := hj2
          have HJ2 := Lib.hid hj2e
          have hii : j2 > i := by omega
          by_cases hlt : gt l1 j2 < gt l1 i
          · have hx : decide (gt l1 j2 < gt l1 i) = true := decide_eq_true hlt
            have HN : Hid (downF f' (swL l1 i j2) j2 n = downF F l i0 n) := Lib.hid (by rw [← HR.out, downF_go hz (by rw [hk]; exact hlt), hk])
            have HK := Lib.hid hk
            have HJE := Lib.hid hj1e
            clear hk hj1e hj2e
            go_wp2_with (first | (go_at_call 137; (with_reducible refine (Less_p hS hj2 hj1 true hy).mono ?_); rintro e w4 ⟨rfl, hO4⟩; have hS4 := hS.same hO4; have mL4 := fun k => m_less k w4 b v1 hS4.c0) | (go_at_call 137; (with_reducible refine (Less_p hS4 hcl hi true hx).mono ?_); rintro e w5 ⟨rfl, hO5⟩; have hS5 := hS4.same hO5; have mS := fun k => m_swap k w5 b v1 hS5.c0) | (go_at_call 138; (refine (Swap_p hS5 hi hcl).mono ?_); rintro e w6 ⟨rfl, hS6, hF6⟩))
            go_roundw
            case rel => exact ⟨j2, f', v1, swL l1 i j2, rfl, hS6, by rw [swL_len]; exact hcl, by rw [swL_len]; exact hln, by have := HJE.out; omega, HN, hF.trans (((FG.keep hO4).trans (FG.keep hO5)).trans hF6)⟩
            case measure => have := HJE.out; simp [intOf]; omega
          · have hx : decide (gt l1 j2 < gt l1 i) = false := decide_eq_false hlt
            have HE : Hid (downF F l i0 n = l1) := Lib.hid (by rw [← HR.out, downF_rest hz (by rw [hk]; exact hlt)])
            have HK := Lib.hid hk
            have HJE := Lib.hid hj1e
            clear hk hj1e hj2e
            go_wp2_with (first | (go_at_call 137; (with_reducible refine (Less_p hS hj2 hj1 true hy).mono ?_); rintro e w4 ⟨rfl, hO4⟩; have hS4 := hS.same hO4; have mL4 := fun k => m_less k w4 b v1 hS4.c0) | (go_at_call 137; (with_reducible refine (Less_p hS4 hcl hi false hx).mono ?_); rintro e w5 ⟨rfl, hO5⟩; have hS5 := hS4.same hO5; have mS := fun k => m_swap k w5 b v1 hS5.c0))
            go_ret
            rw [HE.out]
            exact ⟨⟨_, rfl⟩, _, hS5, hF.trans ((FG.keep hO4).trans (FG.keep hO5))⟩
        · have hy : decide (gt l1 j2 < gt l1 j1) = false := decide_eq_false hs
          have hk : kidF l1 i n = j1 := by unfold kidF; rw [hj1e, hj2e, if_neg (fun hc => hs hc.2)]
          have hcl := hj1
          have hii : j1 > i := by omega
          by_cases hlt : gt l1 j1 < gt l1 i
          · have hx : decide (gt l1 j1 < gt l1 i) = true := decide_eq_true hlt
            have HN : Hid (downF f' (swL l1 i j1) j1 n = downF F l i0 n) := Lib.hid (by rw [← HR.out, downF_go hz (by rw [hk]; exact hlt), hk])
            have HK := Lib.hid hk
            have HJE := Lib.hid hj1e
            clear hk hj1e hj2e
            go_wp2_with (first | (go_at_call 137; (with_reducible refine (Less_p hS hj2 hj1 false hy).mono ?_); rintro e w4 ⟨rfl, hO4⟩; have hS4 := hS.same hO4; have mL4 := fun k => m_less k w4 b v1 hS4.c0) | (go_at_call 137; (with_reducible refine (Less_p hS4 hcl hi true hx).mono ?_); rintro e w5 ⟨rfl, hO5⟩; have hS5 := hS4.same hO5; have mS := fun k => m_swap k w5 b v1 hS5.c0) | (go_at_call 138; (refine (Swap_p hS5 hi hcl).mono ?_); rintro e w6 ⟨rfl, hS6, hF6⟩))
            go_roundw
            case rel => exact ⟨j1, f', v1, swL l1 i j1, rfl, hS6, by rw [swL_len]; exact hcl, by rw [swL_len]; exact hln, by have := HJE.out; omega, HN, hF.trans (((FG.keep hO4).trans (FG.keep hO5)).trans hF6)⟩
            case measure => have := HJE.out; simp [intOf]; omega
          · have hx : decide (gt l1 j1 < gt l1 i) = false := decide_eq_false hlt
            have HE : Hid (downF F l i0 n = l1) := Lib.hid (by rw [← HR.out, downF_rest hz (by rw [hk]; exact hlt)])
            have HK := Lib.hid hk
            have HJE := Lib.hid hj1e
            clear hk hj1e hj2e
            go_wp2_with (first | (go_at_call 137; (with_reducible refine (Less_p hS hj2 hj1 false hy).mono ?_); rintro e w4 ⟨rfl, hO4⟩; have hS4 := hS.same hO4; have mL4 := fun k => m_less k w4 b v1 hS4.c0) | (go_at_call 137; (with_reducible refine (Less_p hS4 hcl hi false hx).mono ?_); rintro e w5 ⟨rfl, hO5⟩; have hS5 := hS4.same hO5; have mS := fun k => m_swap k w5 b v1 hS5.c0))
            go_ret
            rw [HE.out]
            exact ⟨⟨_, rfl⟩, _, hS5, hF.trans ((FG.keep hO4).trans (FG.keep hO5))⟩
      · have he1 : decide ((j1 : Int) + 1 < (n : Int)) = false := decide_eq_false (by omega)
        have he2 : ¬ (j1 : Int) + 1 < (n : Int) := by omega
        have hk : kidF l1 i n = j1 := by unfold kidF; rw [hj1e, if_neg (fun hc => h2 hc.1)]
        have hcl := hj1
        have hii : j1 > i := by omega
        by_cases hlt : gt l1 j1 < gt l1 i
        · have hx : decide (gt l1 j1 < gt l1 i) = true := decide_eq_true hlt
          have HN : Hid (downF f' (swL l1 i j1) j1 n = downF F l i0 n) := Lib.hid (by rw [← HR.out, downF_go hz (by rw [hk]; exact hlt), hk])
          have HK := Lib.hid hk
          have HJE := Lib.hid hj1e
          clear hk hj1e
          go_wp2_with (first | (go_at_call 137; (with_reducible refine (Less_p hS hcl hi true hx).mono ?_); rintro e w5 ⟨rfl, hO5⟩; have hS5 := hS.same hO5; have mS := fun k => m_swap k w5 b v1 hS5.c0) | (go_at_call 138; (refine (Swap_p hS5 hi hcl).mono ?_); rintro e w6 ⟨rfl, hS6, hF6⟩))
          go_roundw
          case rel => exact ⟨j1, f', v1, swL l1 i j1, rfl, hS6, by rw [swL_len]; exact hcl, by rw [swL_len]; exact hln, by have := HJE.out; omega, HN, hF.trans ((FG.keep hO5).trans hF6)⟩
          case measure => have := HJE.out; simp [intOf]; omega
        · have hx : decide (gt l1 j1 < gt l1 i) = false := decide_eq_false hlt
          have HE : Hid (downF F l i0 n = l1) := Lib.hid (by rw [← HR.out, downF_rest hz (by rw [hk]; exact hlt)])
          have HK := Lib.hid hk
          have HJE := Lib.hid hj1e
          clear hk hj1e
          go_wp2_with ((go_at_call 137; (with_reducible refine (Less_p hS hcl hi false hx).mono ?_); rintro e w5 ⟨rfl, hO5⟩; have hS5 := hS.same hO5; have mS := fun k => m_swap k w5 b v1 hS5.c0))
          go_ret
          rw [HE.out]
          exact ⟨⟨_, rfl⟩, _, hS5, hF.trans (FG.keep hO5)⟩
set_option maxRecDepth 100000 in
set_option maxHeartbeats 4000000 in
theorem hPush_p (h : HB w B b v l) (x : Nat) (hn : l.length + 1 ≤ 100000000) : Calls Tryz.prog 60 #[hpV b, .iface 3 (iV x)] w fun e w' => e = .returned (.tuple #[]) ∧ HBx w B b (pushL l x) w' := by
  have mP := fun k => m_push k w b
  have hln : (l ++ [x]).length = l.length + 1 := by simp
  have hwl : IntKind.i64.wrap (l.length : Int) = (l.length : Int) := IntWalk.i64_in _ (by omega)
  go_enter Tryz.func60, Tryz.ntmps60
  go_wp2_with (first | (go_at_call 140; (refine (RPush_p h x (by omega)).mono ?_); rintro e w2 ⟨rfl, v2, hS2, hF2⟩; have mL := fun k => m_len k w2 b v2 hS2.c0; obtain ⟨oa, ca, hv2⟩ := rowForm hS2.row; rw [hln] at hv2; subst hv2) | (go_at_call 61; (refine (Len_p w2 oa (l.length + 1) ca).mono ?_); rintro e w3 ⟨rfl, hw3⟩; subst hw3) | (go_at_call 79; (refine (up_p hS2 (j0 := l.length) (F := l.length + 1) (by omega) (by omega) (by omega)).mono ?_); rintro e w4 ⟨rfl, v4, hS4, hF4⟩))
  go_end0
  exact ⟨rfl, _, hS4, hF2.trans hF4⟩
set_option maxRecDepth 100000 in
set_option maxHeartbeats 4000000 in
theorem hPop_p (h : HB w B b v l) (hl : l ≠ []) (hn : l.length ≤ 100000000) : Calls Tryz.prog 62 #[hpV b] w fun e w' => e = .returned (.iface 3 (iV (popL l).1)) ∧ HBx w B b (popL l).2 w' := by
  have mL := fun k => m_len k w b v h.c0
  have mS := fun k => m_swap k w b v h.c0
  have hS0 := h
  obtain ⟨oa, ca, hv⟩ := rowForm h.row
  have hpos : 0 < l.length := List.length_pos_iff.2 hl
  obtain ⟨m, hm⟩ : ∃ m, l.length = m + 1 := ⟨l.length - 1, by omega⟩
  rw [hm] at hv
  have hwl : IntKind.i64.wrap (m : Int) = (m : Int) := IntWalk.i64_in _ (by omega)
  have hdl : (downF l.length (swL l 0 (l.length - 1)) 0 (l.length - 1)).length = l.length := by rw [downF_len, swL_len]
  obtain ⟨l', x, hpx⟩ : ∃ l' x, popD l = l' ++ [x] := by
    rcases path_cases (popD l) with h0 | ⟨l', x, h0⟩
    · unfold popD at h0
      rw [h0] at hdl
      simp at hdl
      omega
    · exact ⟨l', x, h0⟩
  have hll : l'.length = m := by
    have := congrArg List.length hpx
    unfold popD at this
    rw [hdl, List.length_append, List.length_singleton] at this
    omega
  have HQ : Hid (popL l = (x, l')) := Lib.hid (by
    unfold popL
    rw [hpx, List.dropLast_concat, hm, show m + 1 - 1 = m by omega, gt_at (by simp; omega)]
    congr 1
    have : m = l'.length := hll.symm
    subst this
    simp)
  have hpx2 : downF l.length (swL l 0 m) 0 m = l' ++ [x] := by rw [← hpx]; unfold popD; rw [hm]; rfl
  have HPX := Lib.hid hpx2
  subst hv
  clear hpx hpx2 hdl hl
  go_enter Tryz.func62, Tryz.ntmps62
  go_wp2_with (first | (go_at_call 61; (refine (Len_p w oa (m + 1) ca).mono ?_); rintro e w3 ⟨rfl, hw3⟩; subst hw3) | (go_at_call 138; (refine (Swap_p hS0 (i := 0) (j := m) (by omega) (by omega)).mono ?_); rintro e w4 ⟨rfl, hS4, hF4⟩) | (go_at_call 80; (refine (down_p hS4 (i0 := 0) (n := m) (F := l.length) (by rw [swL_len]; omega) (by rw [swL_len]; omega) (by omega) (by rw [swL_len]; omega)).mono ?_); rintro e w5 ⟨⟨x5, rfl⟩, v5, hS5, hF5⟩; rw [HPX.out] at hS5; have mP := fun k => m_pop k w5 b) | (go_at_call 139; (refine (RPop_p hS5 (by omega)).mono ?_); rintro e w6 ⟨rfl, v6, hS6, hF6⟩))
  go_ret
  rw [HQ.out]
  exact ⟨rfl, _, hS6, hF4.trans (hF5.trans hF6)⟩
end
end Go.Proofs.YtigmdiagdlbdpaaGreat
