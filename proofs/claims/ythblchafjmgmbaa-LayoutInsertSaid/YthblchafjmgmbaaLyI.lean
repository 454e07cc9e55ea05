/-
  WALKS. The inserter: closed, closeTo, closeBlock.
-/
import Derived.Test.YthblchafjmgmbaaLyG
namespace Go.Proofs.Ythblchafjmgmbaa
open Go.RowKit Go.Maps
section
variable {w : World} {b : Nat} {ve vo : Value} {s : St}
/-- What a call leaves: the inserter in a new state, all others' blocks alone. -/
def ISx (w : World) (b : Nat) (ve vo : Value) (s' : St) (w' : World) : Prop := ∃ ve' vo', IS w' b ve' vo' s' ∧ Frm w b ve vo w' ve' vo'
theorem ISx.frm {w w1 w' : World} {b : Nat} {ve vo ve1 vo1 : Value} {s' : St} (h : ISx w1 b ve1 vo1 s' w') (f : Frm w b ve vo w1 ve1 vo1) : ISx w b ve vo s' w' := by
  obtain ⟨ve', vo', h1, h2⟩ := h
  exact ⟨ve', vo', h1, f.trans h2⟩
theorem ISx.pre {w w1 w' : World} {b : Nat} {ve vo : Value} {s' : St} (h : ISx w1 b ve vo s' w') (ho : Only (fun _ => False) w w1) : ISx w b ve vo s' w' := h.frm (Frm.keep ho)
theorem IS.x {w w' : World} {b : Nat} {ve vo ve' vo' : Value} {s' : St} (h : IS w' b ve' vo' s') (f : Frm w b ve vo w' ve' vo') : ISx w b ve vo s' w' := ⟨ve', vo', h, f⟩
theorem Only.setsN {K : Nat → Prop} {w0 w : World} (h : Only K w0 w) {g : Nat} (hg : w0.heap.size ≤ g) (v0 v1 v2 v3 v4 v5 : Value) : Only K w0 ((((((w.setCell ⟨g, 0, none⟩ v0).setCell ⟨g, 1, none⟩ v1).setCell ⟨g, 2, none⟩ v2).setCell ⟨g, 3, none⟩ v3).setCell ⟨g, 4, none⟩ v4).setCell ⟨g, 5, none⟩ v5) :=
  (((((h.setNew hg v0).setNew hg v1).setNew hg v2).setNew hg v3).setNew hg v4).setNew hg v5
theorem Frm.sets {w w3 : World} {b : Nat} {ve vo ve3 vo3 : Value} (f : Frm w b ve vo w3 ve3 vo3) {g : Nat} (hg : w.heap.size ≤ g) (v0 v1 v2 v3 v4 v5 : Value) : Frm w b ve vo ((((((w3.setCell ⟨g, 0, none⟩ v0).setCell ⟨g, 1, none⟩ v1).setCell ⟨g, 2, none⟩ v2).setCell ⟨g, 3, none⟩ v3).setCell ⟨g, 4, none⟩ v4).setCell ⟨g, 5, none⟩ v5) ve3 vo3 :=
  ⟨f.only.setsN hg v0 v1 v2 v3 v4 v5, f.ble, f.blo⟩
theorem Frm.al {w w3 : World} {b : Nat} {ve vo ve3 vo3 : Value} (f : Frm w b ve vo w3 ve3 vo3) (o : Obj) : Frm w b ve vo (w3.alloc o) ve3 vo3 := f.trans (Frm.keep (Only.alloc (Only.refl _ _) o))
set_option maxRecDepth 100000 in
set_option maxHeartbeats 2000000 in
theorem closed_p (h : IS w b ve vo s) (wd : ByteArray) (hk : tx wd bLet = true → Ok 1 s) : Calls Try.prog 37 #[.pointer (some ⟨b, 0, none⟩), .string wd] w fun r w' => r = .returned (.tuple #[]) ∧ ISx w b ve vo (closedS s wd) w' := by
  have ht := Lib.toList_data wd
  cases hc : tx wd bLet
  · have h1 : (wd.toList == [108, 101, 116]) = false := by rw [ht]; exact hc
    have HR : Hid (closedS s wd = s) := Lib.hid (by unfold closedS; rw [hc]; rfl)
    clear ht hc
    go_enter Try.func37, Try.ntmps37
    go_wp2
    go_end0
    exact ⟨rfl, by rw [HR.out]; exact h.x (Frm.keep (Only.refl _ _))⟩
  · have h1 : (wd.toList == [108, 101, 116]) = true := by rw [ht]; exact hc
    have HR : Hid (closedS s wd = pushE s (elK 7)) := Lib.hid (by unfold closedS; rw [hc]; rfl)
    have hk := hk hc
    clear ht hc
    go_enter Try.func37, Try.ntmps37
    go_wp2_with (go_at_call 36; refine (push_p h hk (elK 7)).mono ?_; rintro r w1 ⟨rfl, ve1, hS1, hF1⟩)
    go_end0
    exact ⟨rfl, by rw [HR.out]; exact hS1.x hF1⟩
theorem closeN_step {s1 : St} {ys : List El} {y : El} (hs : s1.els = ys ++ [y]) {a : Nat} (ha : a ≤ ys.length) :
    closeN (s1.els.length - a) s1 = if ys.length = a then some (y, if y.kind == 0 then insS (popS s1 y) 125 else popS s1 y) else closeN (ys.length - a) (if y.kind == 0 then insS (popS s1 y) 125 else popS s1 y) := by
  have e : s1.els.length - a = (ys.length - a) + 1 := by rw [hs]; simp; omega
  rw [e]
  show (match s1.els.getLast? with | none => none | some e => _) = _
  rw [hs]
  simp only [List.getLast?_append, List.getLast?_singleton, Option.some_or]
  by_cases h : ys.length = a
  · rw [if_pos (by omega), if_pos h]
  · rw [if_neg (by omega), if_neg h]
theorem pop_els {s1 : St} {ys : List El} {y : El} (hs : s1.els = ys ++ [y]) : (if y.kind == 0 then insS (popS s1 y) 125 else popS s1 y).els = ys := by
  have : s1.els.dropLast = ys := by rw [hs, List.dropLast_concat]
  split <;> exact this
theorem gen_post {P : Program} {f : Func} {R : Ending → World → Prop} {e : Exit} {a : Act} {W : World} (Φ : World → Prop) (h : Φ W) (k : ∀ wx, Φ wx → bodyPost P f R e a wx) : bodyPost P f R e a W := k W h
/-- An element's variable is neither the inserter's block nor its tokens'. -/
theorem IS.ebO (h : IS w b ve vo s) {g : Nat} {e : El} (hE : EB w g e) : ¬ KE b vo g := by
  intro hc
  unfold EB at hE
  rcases hc with rfl | hc
  · rw [h.blk] at hE
    have := (Obj.cells.inj (Option.some.inj hE)).2.1
    exact absurd this (by decide)
  · rcases h.out.2 with ⟨hv, -⟩ | ⟨g1, cap, cur, hv, -, hg, -⟩
    · rw [hv] at hc; cases hc
    · rw [hv] at hc
      cases hc
      rw [hg] at hE
      have := (Obj.cells.inj (Option.some.inj hE)).2.1
      exact absurd this (by decide)
theorem IS.ebB (h : IS w b ve vo s) {g : Nat} {e : El} (hE : EB w g e) : ¬ g = b := fun hc => h.ebO hE (.inl hc)
theorem EB.sets {g : Nat} {e e' : El} (h : EB w g e) : EB ((((((w.setCell ⟨g, 0, none⟩ (.int .i64 e'.kind)).setCell ⟨g, 1, none⟩ (.int .i64 e'.col)).setCell ⟨g, 2, none⟩ (.string e'.word)).setCell ⟨g, 3, none⟩ (.bool e'.marked)).setCell ⟨g, 4, none⟩ (.int .i64 e'.blk)).setCell ⟨g, 5, none⟩ (.int .i64 e'.ctx)) g e' := by
  unfold EB at h ⊢
  simp [World.setCell, Array.getElem?_modify, h]
theorem Only.sets {K : Nat → Prop} {w0 : World} (h : Only K w0 w) {g : Nat} (hg : K g) (v0 v1 v2 v3 v4 v5 : Value) : Only K w0 ((((((w.setCell ⟨g, 0, none⟩ v0).setCell ⟨g, 1, none⟩ v1).setCell ⟨g, 2, none⟩ v2).setCell ⟨g, 3, none⟩ v3).setCell ⟨g, 4, none⟩ v4).setCell ⟨g, 5, none⟩ v5) :=
  (((((h.setCell hg v0).setCell hg v1).setCell hg v2).setCell hg v3).setCell hg v4).setCell hg v5
theorem IS.farE (h : IS w b ve vo s) {w' : World} {g : Nat} (hO : Only (· = g) w w') (hb : ¬ g = b) (hv : ve.ownBlock ≠ some g) (hv' : vo.ownBlock ≠ some g) : IS w' b ve vo s :=
  ⟨(hO.block b h.lt (fun e => hb e.symm)).trans h.blk, h.els.only hO (fun g' hg e => hv (by rw [hg]; congr)), h.out.only hO (fun g' hg e => hv' (by rw [hg]; congr))⟩
/-- What closeTo leaves: what it answers, and the inserter. -/
def ClR (w : World) (b : Nat) (ve vo : Value) (s : St) (R : Option (El × St)) (r : Ending) (w' : World) : Prop := match R with
  | none => r = .returned (.tuple #[elV ⟨0, 0, ⟨#[]⟩, false, 0, 0⟩, .bool false]) ∧ ISx w b ve vo s w'
  | some (e, s') => r = .returned (.tuple #[elV e, .bool true]) ∧ ISx w b ve vo s' w'
set_option maxRecDepth 100000 in
set_option maxHeartbeats 4000000 in
theorem closeTo_isOf (h : IS w b ve vo s) {k : Nat} (hk : Ok k s) {g : Nat} {kk : Int} (hx : Bx w g kk) : Calls Try.prog 43 #[.pointer (some ⟨b, 0, none⟩), isOfV g] w (ClR w b ve vo s (closeTo s (isK kk))) := by
  have hz := hk.els_le
  have hb := h.lt
  have hA : Only (fun _ => False) w (w.alloc (.cells (elA ⟨0, 0, ⟨#[]⟩, false, 0, 0⟩) 59)) := (Only.refl _ _).alloc _
  have h0 := h.same hA
  have e0 : EB (w.alloc (.cells (elA ⟨0, 0, ⟨#[]⟩, false, 0, 0⟩) 59)) w.heap.size ⟨0, 0, ⟨#[]⟩, false, 0, 0⟩ := new_block _ _
  have hx0 := hx.same hA
  cases hf : findR (isK kk) s.els.reverse with
  | none =>
    have HF : Hid (fnd (isK kk) s.els = -1) := Lib.hid (by unfold fnd; rw [hf])
    have HC : Hid (closeTo s (isK kk) = none) := Lib.hid (by unfold closeTo; rw [hf])
    clear hf
    go_enter Try.func43, Try.ntmps43
    go_wp2_with (go_at_call 66; refine (find_isOf h0 hk hx0).mono ?_; rw [HF.out]; rintro r w1 ⟨rfl, hO1⟩; have e1 := e0.same hO1; have d0 := e1.c0; have d1 := e1.c1; have d2 := e1.c2; have d3 := e1.c3; have d4 := e1.c4; have d5 := e1.c5; have y0 := e1.fz 0; have y1 := e1.fz 1; have y2 := e1.fz 2; have y3 := e1.fz 3; have y4 := e1.fz 4; have y5 := e1.fz 5)
    refine gen_post (fun wx => EB wx w.heap.size ⟨0, 0, ⟨#[]⟩, false, 0, 0⟩ ∧ IS wx b ve vo s ∧ Frm w b ve vo wx ve vo) ⟨EB.sets (e' := ⟨0, 0, ⟨#[]⟩, false, 0, 0⟩) e1, ?_, ?_⟩ ?_
    · refine (h0.same hO1).farE (Only.sets (K := (· = w.heap.size)) (Only.refl _ _) rfl _ _ _ _ _ _) (by omega) (fun hc => ?_) (fun hc => ?_)
      · have := (World.ownsRow.lt h.els _ hc).2; omega
      · have := (World.ownsRow.lt h.out _ hc).2; omega
    · exact Frm.sets (Frm.keep (hA.trans hO1)) (Nat.le_refl _) _ _ _ _ _ _
    · clear d0 d1 d2 d3 d4 d5 y0 y1 y2 y3 y4 y5 e1 hO1 e0 h0 hA
      rintro wx ⟨hE, hS, hO⟩
      have d0 := hE.c0
      have d1 := hE.c1
      have d2 := hE.c2
      have d3 := hE.c3
      have d4 := hE.c4
      have d5 := hE.c5
      refine bodyPost_ret (v := .tuple #[elV ⟨0, 0, ⟨#[]⟩, false, 0, 0⟩, .bool false]) (by simp [results, Try.results43, go_sem, d0, d1, d2, d3, d4, d5]) rfl ?_
      rw [HC.out]
      exact ⟨rfl, hS.x hO⟩
  | some a =>
    have hal : a < s.els.length := by
      obtain ⟨U, e, D, h1, -, -, h4⟩ := findR_spec (isK kk) s.els.reverse a hf
      have := congrArg List.length h1
      rw [List.length_reverse] at this
      simp at this
      omega
    have HF : Hid (fnd (isK kk) s.els = (a : Int)) := Lib.hid (by unfold fnd; rw [hf])
    have HC : Hid (closeTo s (isK kk) = closeN (s.els.length - a) s) := Lib.hid (by unfold closeTo; rw [hf])
    clear hf
    go_enter Try.func43, Try.ntmps43
    go_wp2_with (go_at_call 66; refine (find_isOf h0 hk hx0).mono ?_; rw [HF.out]; rintro r w1 ⟨rfl, hO1⟩; have e1 := e0.same hO1)
    go_loopg [] (s.els.length - a) (fun gk wr => ∃ (s1 : St) (ve1 vo1 : Value), IS wr b ve1 vo1 s1 ∧ ve1.ownBlock = ve.ownBlock ∧ Ok k s1 ∧ Hid (closeN (s1.els.length - a) s1 = closeN (s.els.length - a) s) ∧ a < s1.els.length ∧ s1.els.length = gk + a ∧ EB wr w.heap.size ⟨0, 0, ⟨#[]⟩, false, 0, 0⟩ ∧ Frm w b ve vo wr ve1 vo1)
    case atStart => exact ⟨s, ve, vo, h0.same hO1, rfl, hk, Lib.hid rfl, hal, by omega, e1, Frm.keep (hA.trans hO1)⟩
    case round =>
      obtain ⟨s1, ve1, vo1, hS1, hvb, hk1, HN, hal1, hgk, hE1, hOr⟩ := hrel
      rcases top_cases s1.els with hs | ⟨ys, y, hs⟩
      · rw [hs] at hal1; exact absurd hal1 (Nat.not_lt_zero _)
      have hya : a ≤ ys.length := by rw [hs] at hal1; simp at hal1; omega
      have HSt := Lib.hid (closeN_step hs hya)
      have HPe := Lib.hid (pop_els hs)
      have hlen : ys.length + 1 = gk + a := by rw [← hgk, hs]; simp
      have hky := hk1.popIns (e := y) (by rw [hs]; simp)
      have hb1 := hS1.lt
      obtain ⟨m, hm⟩ : ∃ m, ys.length = m := ⟨_, rfl⟩
      rw [hm] at HSt hya hlen
      have HM := Lib.hid hm
      have HS := Lib.hid hs
      have hok1 := hk1.pop (e := y) (by rw [hs]; simp)
      clear hs hm hgk hal1 hal e1 hO1 h0 e0
      have HVB := Lib.hid hvb
      have hal2 : a ≤ m := hya
      clear hvb
      cases hy : (y.kind == 0)
      · have HY := Lib.hid hy
        rw [hy] at hky
        have HPe' : Hid ((popS s1 y).els = ys) := Lib.hid (by have := HPe.out; rw [hy] at this; exact this)
        have HSt' : Hid (closeN (s1.els.length - a) s1 = if m = a then some (y, popS s1 y) else closeN (m - a) (popS s1 y)) := Lib.hid (by rw [HSt.out, hy]; rfl)
        by_cases hma : m = a
        · subst hma
          have HR : Hid (closeTo s (isK kk) = some (y, popS s1 y)) := Lib.hid (by rw [HC.out, ← HN.out, HSt'.out, if_pos rfl])
          go_wp2_with (go_at_call 27; refine (pop_p hS1 hk1 HS.out).mono ?_; rintro r w2 ⟨rfl, ve2, hvb2, hS2, hO2⟩; obtain ⟨oa2, ca2, hve2⟩ := hS2.elen; rw [HPe'.out, HM.out] at hve2; have hE2 := hE1.only hO2 (hS1.ebB hE1); subst hve2; have hb2 := hS2.lt; have hg2 := lt_of_block hE2; have HB2 := Lib.hid (hvb2.trans HVB.out); have hF2 := hOr.trans (Frm.here hO2 hvb2); clear hvb2; have c0 := hS2.c0; have y0 := hE2.fz 0; have y1 := hE2.fz 1; have y2 := hE2.fz 2; have y3 := hE2.fz 3; have y4 := hE2.fz 4; have y5 := hE2.fz 5; have d0 := hE2.c0; have d1 := hE2.c1; have d2 := hE2.c2; have d3 := hE2.c3; have d4 := hE2.c4; have d5 := hE2.c5)
          refine gen_post (fun wx => EB wx w.heap.size y ∧ ∃ ve3 vo3, IS wx b ve3 vo3 (popS s1 y) ∧ Frm w b ve vo wx ve3 vo3) ⟨(EB.sets (e' := y) hE2).same (Only.alloc (Only.refl _ _) _), ⟨_, _, (hS2.farE (Only.sets (K := (· = w.heap.size)) (Only.refl _ _) rfl _ _ _ _ _ _) (hS2.ebB hE2) (fun hc => by rw [HB2.out] at hc; have := (World.ownsRow.lt h.els _ hc).2; omega) (fun hc => hS2.ebO hE2 (.inr hc))).same (Only.alloc (Only.refl _ _) _), Frm.al (Frm.sets hF2 (Nat.le_refl _) _ _ _ _ _ _) _⟩⟩ ?_
          clear c0 y0 y1 y2 y3 y4 y5 d0 d1 d2 d3 d4 d5
          rintro wx ⟨hE, hS⟩
          have d0 := hE.c0
          have d1 := hE.c1
          have d2 := hE.c2
          have d3 := hE.c3
          have d4 := hE.c4
          have d5 := hE.c5
          refine bodyPost_ret (v := .tuple #[elV y, .bool true]) (by simp [results, Try.results43, go_sem, d0, d1, d2, d3, d4, d5]) rfl ?_
          rw [HR.out]
          exact ⟨rfl, hS⟩
        · have hma1 : ((m : Int) == (a : Int)) = false := by simp; omega
          have hma2 : (m == a) = false := by simp; omega
          have HR : Hid (closeN (m - a) (popS s1 y) = closeN (s.els.length - a) s) := Lib.hid (by rw [← HN.out, HSt'.out, if_neg hma])
          have HOK : Ok k (popS s1 y) := hok1.less (by omega)
          go_wp2_with (go_at_call 27; refine (pop_p hS1 hk1 HS.out).mono ?_; rintro r w2 ⟨rfl, ve2, hvb2, hS2, hO2⟩; obtain ⟨oa2, ca2, hve2⟩ := hS2.elen; rw [HPe'.out, HM.out] at hve2; have hE2 := hE1.only hO2 (hS1.ebB hE1); subst hve2; have hb2 := hS2.lt; have hg2 := lt_of_block hE2; have HB2 := Lib.hid (hvb2.trans HVB.out); have hF2 := hOr.trans (Frm.here hO2 hvb2); clear hvb2; have c0 := hS2.c0; have y0 := hE2.fz 0; have y1 := hE2.fz 1; have y2 := hE2.fz 2; have y3 := hE2.fz 3; have y4 := hE2.fz 4; have y5 := hE2.fz 5; have d0 := hE2.c0; have d1 := hE2.c1; have d2 := hE2.c2; have d3 := hE2.c3; have d4 := hE2.c4; have d5 := hE2.c5)
          clear c0 y0 y1 y2 y3 y4 y5 d0 d1 d2 d3 d4 d5
          have hlp : (popS s1 y).els.length = m := by rw [HPe'.out, HM.out]
          go_roundg (gk - 1)
          case rel => exact ⟨popS s1 y, _, vo1, hS2.same (Only.alloc (Only.refl _ _) _), HB2.out, HOK, Lib.hid (by rw [hlp]; exact HR.out), by rw [hlp]; omega, by rw [hlp]; omega, hE2.same (Only.alloc (Only.refl _ _) _), hF2.al _⟩
          case measure => omega
      · have HY := Lib.hid hy
        rw [hy] at hky
        have hw3 : 3 ≤ wgt y := by unfold wgt; rw [hy]; exact Nat.le_refl 3
        have HOK1 : Ok 1 (popS s1 y) := hok1.less (by omega)
        have HPe' : Hid ((popS s1 y).els = ys) := Lib.hid (by have := HPe.out; rw [hy] at this; exact this)
        have HSt' : Hid (closeN (s1.els.length - a) s1 = if m = a then some (y, insS (popS s1 y) 125) else closeN (m - a) (insS (popS s1 y) 125)) := Lib.hid (by rw [HSt.out, hy]; rfl)
        by_cases hma : m = a
        · subst hma
          have HR : Hid (closeTo s (isK kk) = some (y, insS (popS s1 y) 125)) := Lib.hid (by rw [HC.out, ← HN.out, HSt'.out, if_pos rfl])
          go_wp2_with (first | (go_at_call 27; refine (pop_p hS1 hk1 HS.out).mono ?_; rintro r w2 ⟨rfl, ve2, hvb2, hS2, hO2⟩; obtain ⟨oa2, ca2, hve2⟩ := hS2.elen; rw [HPe'.out, HM.out] at hve2; have hE2 := hE1.only hO2 (hS1.ebB hE1); subst hve2; have hb2 := hS2.lt; have hg2 := lt_of_block hE2; have HB2 := Lib.hid (hvb2.trans HVB.out); have hF2 := hOr.trans (Frm.here hO2 hvb2); clear hvb2) | (go_at_call 26; refine (insert_p (hS2.same (Only.alloc (K := fun _ => False) (Only.refl _ _) (.cells (elA y) 59))) HOK1 125).mono ?_; rintro r w3 ⟨rfl, vo3, hS3, hO3, hF3⟩; have hEa := hE2.same (Only.alloc (Only.refl _ w2) (.cells (elA y) 59)); have hSa := hS2.same (Only.alloc (K := fun _ => False) (Only.refl _ _) (.cells (elA y) 59)); have hE3 := hEa.only hO3 (hSa.ebO hEa); have hEy : EB (w2.alloc (.cells (elA y) 59)) w2.heap.size y := new_block _ _; have hEy3 := hEy.only hO3 (hSa.ebO hEy); have hOf := (hF2.al (.cells (elA y) 59)).trans hF3; have c0 := hS3.c0; have y0 := hE3.fz 0; have y1 := hE3.fz 1; have y2 := hE3.fz 2; have y3 := hE3.fz 3; have y4 := hE3.fz 4; have y5 := hE3.fz 5; have r0 := hE3.c0; have r1 := hE3.c1; have r2 := hE3.c2; have r3 := hE3.c3; have r4 := hE3.c4; have r5 := hE3.c5; have d0 := hEy3.c0; have d1 := hEy3.c1; have d2 := hEy3.c2; have d3 := hEy3.c3; have d4 := hEy3.c4; have d5 := hEy3.c5))
          refine gen_post (fun wx => EB wx w.heap.size y ∧ ∃ ve3 vo3, IS wx b ve3 vo3 (insS (popS s1 y) 125) ∧ Frm w b ve vo wx ve3 vo3) ⟨EB.sets (e' := y) hE3, ⟨_, _, hS3.farE (Only.sets (K := (· = w.heap.size)) (Only.refl _ _) rfl _ _ _ _ _ _) (hS3.ebB hE3) (fun hc => by rw [HB2.out] at hc; have := (World.ownsRow.lt h.els _ hc).2; omega) (fun hc => hS3.ebO hE3 (.inr hc)), Frm.sets hOf (Nat.le_refl _) _ _ _ _ _ _⟩⟩ ?_
          clear c0 y0 y1 y2 y3 y4 y5 d0 d1 d2 d3 d4 d5
          rintro wx ⟨hE, hS⟩
          have d0 := hE.c0
          have d1 := hE.c1
          have d2 := hE.c2
          have d3 := hE.c3
          have d4 := hE.c4
          have d5 := hE.c5
          refine bodyPost_ret (v := .tuple #[elV y, .bool true]) (by simp [results, Try.results43, go_sem, d0, d1, d2, d3, d4, d5]) rfl ?_
          rw [HR.out]
          exact ⟨rfl, hS⟩
        · have hma1 : ((m : Int) == (a : Int)) = false := by simp; omega
          have hma2 : (m == a) = false := by simp; omega
          have HR : Hid (closeN (m - a) (insS (popS s1 y) 125) = closeN (s.els.length - a) s) := Lib.hid (by rw [← HN.out, HSt'.out, if_neg hma])
          go_wp2_with (first | (go_at_call 27; refine (pop_p hS1 hk1 HS.out).mono ?_; rintro r w2 ⟨rfl, ve2, hvb2, hS2, hO2⟩; obtain ⟨oa2, ca2, hve2⟩ := hS2.elen; rw [HPe'.out, HM.out] at hve2; have hE2 := hE1.only hO2 (hS1.ebB hE1); subst hve2; have hb2 := hS2.lt; have hg2 := lt_of_block hE2; have HB2 := Lib.hid (hvb2.trans HVB.out); have hF2 := hOr.trans (Frm.here hO2 hvb2); clear hvb2) | (go_at_call 26; refine (insert_p (hS2.same (Only.alloc (K := fun _ => False) (Only.refl _ _) (.cells (elA y) 59))) HOK1 125).mono ?_; rintro r w3 ⟨rfl, vo3, hS3, hO3, hF3⟩; have hEa := hE2.same (Only.alloc (Only.refl _ w2) (.cells (elA y) 59)); have hSa := hS2.same (Only.alloc (K := fun _ => False) (Only.refl _ _) (.cells (elA y) 59)); have hE3 := hEa.only hO3 (hSa.ebO hEa); have hEy : EB (w2.alloc (.cells (elA y) 59)) w2.heap.size y := new_block _ _; have hEy3 := hEy.only hO3 (hSa.ebO hEy); have hOf := (hF2.al (.cells (elA y) 59)).trans hF3; have c0 := hS3.c0; have y0 := hE3.fz 0; have y1 := hE3.fz 1; have y2 := hE3.fz 2; have y3 := hE3.fz 3; have y4 := hE3.fz 4; have y5 := hE3.fz 5; have r0 := hE3.c0; have r1 := hE3.c1; have r2 := hE3.c2; have r3 := hE3.c3; have r4 := hE3.c4; have r5 := hE3.c5; have d0 := hEy3.c0; have d1 := hEy3.c1; have d2 := hEy3.c2; have d3 := hEy3.c3; have d4 := hEy3.c4; have d5 := hEy3.c5))
          clear c0 y0 y1 y2 y3 y4 y5 d0 d1 d2 d3 d4 d5
          have hlp : (insS (popS s1 y) 125).els.length = m := by show (popS s1 y).els.length = m; rw [HPe'.out, HM.out]
          go_roundg (gk - 1)
          case rel => exact ⟨insS (popS s1 y) 125, _, vo3, hS3, HB2.out, hky.less (by omega), Lib.hid (by rw [hlp]; exact HR.out), by rw [hlp]; omega, by rw [hlp]; omega, hE3, hOf⟩
          case measure => omega
set_option maxRecDepth 100000 in
set_option maxHeartbeats 4000000 in
theorem closeTo_let (h : IS w b ve vo s) {k : Nat} (hk : Ok k s) : Calls Try.prog 43 #[.pointer (some ⟨b, 0, none⟩), .func (.func 44) #[] #[]] w (ClR w b ve vo s (closeTo s (letE))) := by
  have hz := hk.els_le
  have hb := h.lt
  have hA : Only (fun _ => False) w (w.alloc (.cells (elA ⟨0, 0, ⟨#[]⟩, false, 0, 0⟩) 59)) := (Only.refl _ _).alloc _
  have h0 := h.same hA
  have e0 : EB (w.alloc (.cells (elA ⟨0, 0, ⟨#[]⟩, false, 0, 0⟩) 59)) w.heap.size ⟨0, 0, ⟨#[]⟩, false, 0, 0⟩ := new_block _ _
  have hx0 := hA
  cases hf : findR (letE) s.els.reverse with
  | none =>
    have HF : Hid (fnd (letE) s.els = -1) := Lib.hid (by unfold fnd; rw [hf])
    have HC : Hid (closeTo s (letE) = none) := Lib.hid (by unfold closeTo; rw [hf])
    clear hf
    go_enter Try.func43, Try.ntmps43
    go_wp2_with (go_at_call 66; refine (find_let h0 hk).mono ?_; rw [HF.out]; rintro r w1 ⟨rfl, hO1⟩; have e1 := e0.same hO1; have d0 := e1.c0; have d1 := e1.c1; have d2 := e1.c2; have d3 := e1.c3; have d4 := e1.c4; have d5 := e1.c5; have y0 := e1.fz 0; have y1 := e1.fz 1; have y2 := e1.fz 2; have y3 := e1.fz 3; have y4 := e1.fz 4; have y5 := e1.fz 5)
    refine gen_post (fun wx => EB wx w.heap.size ⟨0, 0, ⟨#[]⟩, false, 0, 0⟩ ∧ IS wx b ve vo s ∧ Frm w b ve vo wx ve vo) ⟨EB.sets (e' := ⟨0, 0, ⟨#[]⟩, false, 0, 0⟩) e1, ?_, ?_⟩ ?_
    · refine (h0.same hO1).farE (Only.sets (K := (· = w.heap.size)) (Only.refl _ _) rfl _ _ _ _ _ _) (by omega) (fun hc => ?_) (fun hc => ?_)
      · have := (World.ownsRow.lt h.els _ hc).2; omega
      · have := (World.ownsRow.lt h.out _ hc).2; omega
    · exact Frm.sets (Frm.keep (hA.trans hO1)) (Nat.le_refl _) _ _ _ _ _ _
    · clear d0 d1 d2 d3 d4 d5 y0 y1 y2 y3 y4 y5 e1 hO1 e0 h0 hA
      rintro wx ⟨hE, hS, hO⟩
      have d0 := hE.c0
      have d1 := hE.c1
      have d2 := hE.c2
      have d3 := hE.c3
      have d4 := hE.c4
      have d5 := hE.c5
      refine bodyPost_ret (v := .tuple #[elV ⟨0, 0, ⟨#[]⟩, false, 0, 0⟩, .bool false]) (by simp [results, Try.results43, go_sem, d0, d1, d2, d3, d4, d5]) rfl ?_
      rw [HC.out]
      exact ⟨rfl, hS.x hO⟩
  | some a =>
    have hal : a < s.els.length := by
      obtain ⟨U, e, D, h1, -, -, h4⟩ := findR_spec (letE) s.els.reverse a hf
      have := congrArg List.length h1
      rw [List.length_reverse] at this
      simp at this
      omega
    have HF : Hid (fnd (letE) s.els = (a : Int)) := Lib.hid (by unfold fnd; rw [hf])
    have HC : Hid (closeTo s (letE) = closeN (s.els.length - a) s) := Lib.hid (by unfold closeTo; rw [hf])
    clear hf
    go_enter Try.func43, Try.ntmps43
    go_wp2_with (go_at_call 66; refine (find_let h0 hk).mono ?_; rw [HF.out]; rintro r w1 ⟨rfl, hO1⟩; have e1 := e0.same hO1)
    go_loopg [] (s.els.length - a) (fun gk wr => ∃ (s1 : St) (ve1 vo1 : Value), IS wr b ve1 vo1 s1 ∧ ve1.ownBlock = ve.ownBlock ∧ Ok k s1 ∧ Hid (closeN (s1.els.length - a) s1 = closeN (s.els.length - a) s) ∧ a < s1.els.length ∧ s1.els.length = gk + a ∧ EB wr w.heap.size ⟨0, 0, ⟨#[]⟩, false, 0, 0⟩ ∧ Frm w b ve vo wr ve1 vo1)
    case atStart => exact ⟨s, ve, vo, h0.same hO1, rfl, hk, Lib.hid rfl, hal, by omega, e1, Frm.keep (hA.trans hO1)⟩
    case round =>
      obtain ⟨s1, ve1, vo1, hS1, hvb, hk1, HN, hal1, hgk, hE1, hOr⟩ := hrel
      rcases top_cases s1.els with hs | ⟨ys, y, hs⟩
      · rw [hs] at hal1; exact absurd hal1 (Nat.not_lt_zero _)
      have hya : a ≤ ys.length := by rw [hs] at hal1; simp at hal1; omega
      have HSt := Lib.hid (closeN_step hs hya)
      have HPe := Lib.hid (pop_els hs)
      have hlen : ys.length + 1 = gk + a := by rw [← hgk, hs]; simp
      have hky := hk1.popIns (e := y) (by rw [hs]; simp)
      have hb1 := hS1.lt
      obtain ⟨m, hm⟩ : ∃ m, ys.length = m := ⟨_, rfl⟩
      rw [hm] at HSt hya hlen
      have HM := Lib.hid hm
      have HS := Lib.hid hs
      have hok1 := hk1.pop (e := y) (by rw [hs]; simp)
      clear hs hm hgk hal1 hal e1 hO1 h0 e0
      have HVB := Lib.hid hvb
      have hal2 : a ≤ m := hya
      clear hvb
      cases hy : (y.kind == 0)
      · have HY := Lib.hid hy
        rw [hy] at hky
        have HPe' : Hid ((popS s1 y).els = ys) := Lib.hid (by have := HPe.out; rw [hy] at this; exact this)
        have HSt' : Hid (closeN (s1.els.length - a) s1 = if m = a then some (y, popS s1 y) else closeN (m - a) (popS s1 y)) := Lib.hid (by rw [HSt.out, hy]; rfl)
        by_cases hma : m = a
        · subst hma
          have HR : Hid (closeTo s (letE) = some (y, popS s1 y)) := Lib.hid (by rw [HC.out, ← HN.out, HSt'.out, if_pos rfl])
          go_wp2_with (go_at_call 27; refine (pop_p hS1 hk1 HS.out).mono ?_; rintro r w2 ⟨rfl, ve2, hvb2, hS2, hO2⟩; obtain ⟨oa2, ca2, hve2⟩ := hS2.elen; rw [HPe'.out, HM.out] at hve2; have hE2 := hE1.only hO2 (hS1.ebB hE1); subst hve2; have hb2 := hS2.lt; have hg2 := lt_of_block hE2; have HB2 := Lib.hid (hvb2.trans HVB.out); have hF2 := hOr.trans (Frm.here hO2 hvb2); clear hvb2; have c0 := hS2.c0; have y0 := hE2.fz 0; have y1 := hE2.fz 1; have y2 := hE2.fz 2; have y3 := hE2.fz 3; have y4 := hE2.fz 4; have y5 := hE2.fz 5; have d0 := hE2.c0; have d1 := hE2.c1; have d2 := hE2.c2; have d3 := hE2.c3; have d4 := hE2.c4; have d5 := hE2.c5)
          refine gen_post (fun wx => EB wx w.heap.size y ∧ ∃ ve3 vo3, IS wx b ve3 vo3 (popS s1 y) ∧ Frm w b ve vo wx ve3 vo3) ⟨(EB.sets (e' := y) hE2).same (Only.alloc (Only.refl _ _) _), ⟨_, _, (hS2.farE (Only.sets (K := (· = w.heap.size)) (Only.refl _ _) rfl _ _ _ _ _ _) (hS2.ebB hE2) (fun hc => by rw [HB2.out] at hc; have := (World.ownsRow.lt h.els _ hc).2; omega) (fun hc => hS2.ebO hE2 (.inr hc))).same (Only.alloc (Only.refl _ _) _), Frm.al (Frm.sets hF2 (Nat.le_refl _) _ _ _ _ _ _) _⟩⟩ ?_
          clear c0 y0 y1 y2 y3 y4 y5 d0 d1 d2 d3 d4 d5
          rintro wx ⟨hE, hS⟩
          have d0 := hE.c0
          have d1 := hE.c1
          have d2 := hE.c2
          have d3 := hE.c3
          have d4 := hE.c4
          have d5 := hE.c5
          refine bodyPost_ret (v := .tuple #[elV y, .bool true]) (by simp [results, Try.results43, go_sem, d0, d1, d2, d3, d4, d5]) rfl ?_
          rw [HR.out]
          exact ⟨rfl, hS⟩
        · have hma1 : ((m : Int) == (a : Int)) = false := by simp; omega
          have hma2 : (m == a) = false := by simp; omega
          have HR : Hid (closeN (m - a) (popS s1 y) = closeN (s.els.length - a) s) := Lib.hid (by rw [← HN.out, HSt'.out, if_neg hma])
          have HOK : Ok k (popS s1 y) := hok1.less (by omega)
          go_wp2_with (go_at_call 27; refine (pop_p hS1 hk1 HS.out).mono ?_; rintro r w2 ⟨rfl, ve2, hvb2, hS2, hO2⟩; obtain ⟨oa2, ca2, hve2⟩ := hS2.elen; rw [HPe'.out, HM.out] at hve2; have hE2 := hE1.only hO2 (hS1.ebB hE1); subst hve2; have hb2 := hS2.lt; have hg2 := lt_of_block hE2; have HB2 := Lib.hid (hvb2.trans HVB.out); have hF2 := hOr.trans (Frm.here hO2 hvb2); clear hvb2; have c0 := hS2.c0; have y0 := hE2.fz 0; have y1 := hE2.fz 1; have y2 := hE2.fz 2; have y3 := hE2.fz 3; have y4 := hE2.fz 4; have y5 := hE2.fz 5; have d0 := hE2.c0; have d1 := hE2.c1; have d2 := hE2.c2; have d3 := hE2.c3; have d4 := hE2.c4; have d5 := hE2.c5)
          clear c0 y0 y1 y2 y3 y4 y5 d0 d1 d2 d3 d4 d5
          have hlp : (popS s1 y).els.length = m := by rw [HPe'.out, HM.out]
          go_roundg (gk - 1)
          case rel => exact ⟨popS s1 y, _, vo1, hS2.same (Only.alloc (Only.refl _ _) _), HB2.out, HOK, Lib.hid (by rw [hlp]; exact HR.out), by rw [hlp]; omega, by rw [hlp]; omega, hE2.same (Only.alloc (Only.refl _ _) _), hF2.al _⟩
          case measure => omega
      · have HY := Lib.hid hy
        rw [hy] at hky
        have hw3 : 3 ≤ wgt y := by unfold wgt; rw [hy]; exact Nat.le_refl 3
        have HOK1 : Ok 1 (popS s1 y) := hok1.less (by omega)
        have HPe' : Hid ((popS s1 y).els = ys) := Lib.hid (by have := HPe.out; rw [hy] at this; exact this)
        have HSt' : Hid (closeN (s1.els.length - a) s1 = if m = a then some (y, insS (popS s1 y) 125) else closeN (m - a) (insS (popS s1 y) 125)) := Lib.hid (by rw [HSt.out, hy]; rfl)
        by_cases hma : m = a
        · subst hma
          have HR : Hid (closeTo s (letE) = some (y, insS (popS s1 y) 125)) := Lib.hid (by rw [HC.out, ← HN.out, HSt'.out, if_pos rfl])
          go_wp2_with (first | (go_at_call 27; refine (pop_p hS1 hk1 HS.out).mono ?_; rintro r w2 ⟨rfl, ve2, hvb2, hS2, hO2⟩; obtain ⟨oa2, ca2, hve2⟩ := hS2.elen; rw [HPe'.out, HM.out] at hve2; have hE2 := hE1.only hO2 (hS1.ebB hE1); subst hve2; have hb2 := hS2.lt; have hg2 := lt_of_block hE2; have HB2 := Lib.hid (hvb2.trans HVB.out); have hF2 := hOr.trans (Frm.here hO2 hvb2); clear hvb2) | (go_at_call 26; refine (insert_p (hS2.same (Only.alloc (K := fun _ => False) (Only.refl _ _) (.cells (elA y) 59))) HOK1 125).mono ?_; rintro r w3 ⟨rfl, vo3, hS3, hO3, hF3⟩; have hEa := hE2.same (Only.alloc (Only.refl _ w2) (.cells (elA y) 59)); have hSa := hS2.same (Only.alloc (K := fun _ => False) (Only.refl _ _) (.cells (elA y) 59)); have hE3 := hEa.only hO3 (hSa.ebO hEa); have hEy : EB (w2.alloc (.cells (elA y) 59)) w2.heap.size y := new_block _ _; have hEy3 := hEy.only hO3 (hSa.ebO hEy); have hOf := (hF2.al (.cells (elA y) 59)).trans hF3; have c0 := hS3.c0; have y0 := hE3.fz 0; have y1 := hE3.fz 1; have y2 := hE3.fz 2; have y3 := hE3.fz 3; have y4 := hE3.fz 4; have y5 := hE3.fz 5; have r0 := hE3.c0; have r1 := hE3.c1; have r2 := hE3.c2; have r3 := hE3.c3; have r4 := hE3.c4; have r5 := hE3.c5; have d0 := hEy3.c0; have d1 := hEy3.c1; have d2 := hEy3.c2; have d3 := hEy3.c3; have d4 := hEy3.c4; have d5 := hEy3.c5))
          refine gen_post (fun wx => EB wx w.heap.size y ∧ ∃ ve3 vo3, IS wx b ve3 vo3 (insS (popS s1 y) 125) ∧ Frm w b ve vo wx ve3 vo3) ⟨EB.sets (e' := y) hE3, ⟨_, _, hS3.farE (Only.sets (K := (· = w.heap.size)) (Only.refl _ _) rfl _ _ _ _ _ _) (hS3.ebB hE3) (fun hc => by rw [HB2.out] at hc; have := (World.ownsRow.lt h.els _ hc).2; omega) (fun hc => hS3.ebO hE3 (.inr hc)), Frm.sets hOf (Nat.le_refl _) _ _ _ _ _ _⟩⟩ ?_
          clear c0 y0 y1 y2 y3 y4 y5 d0 d1 d2 d3 d4 d5
          rintro wx ⟨hE, hS⟩
          have d0 := hE.c0
          have d1 := hE.c1
          have d2 := hE.c2
          have d3 := hE.c3
          have d4 := hE.c4
          have d5 := hE.c5
          refine bodyPost_ret (v := .tuple #[elV y, .bool true]) (by simp [results, Try.results43, go_sem, d0, d1, d2, d3, d4, d5]) rfl ?_
          rw [HR.out]
          exact ⟨rfl, hS⟩
        · have hma1 : ((m : Int) == (a : Int)) = false := by simp; omega
          have hma2 : (m == a) = false := by simp; omega
          have HR : Hid (closeN (m - a) (insS (popS s1 y) 125) = closeN (s.els.length - a) s) := Lib.hid (by rw [← HN.out, HSt'.out, if_neg hma])
          go_wp2_with (first | (go_at_call 27; refine (pop_p hS1 hk1 HS.out).mono ?_; rintro r w2 ⟨rfl, ve2, hvb2, hS2, hO2⟩; obtain ⟨oa2, ca2, hve2⟩ := hS2.elen; rw [HPe'.out, HM.out] at hve2; have hE2 := hE1.only hO2 (hS1.ebB hE1); subst hve2; have hb2 := hS2.lt; have hg2 := lt_of_block hE2; have HB2 := Lib.hid (hvb2.trans HVB.out); have hF2 := hOr.trans (Frm.here hO2 hvb2); clear hvb2) | (go_at_call 26; refine (insert_p (hS2.same (Only.alloc (K := fun _ => False) (Only.refl _ _) (.cells (elA y) 59))) HOK1 125).mono ?_; rintro r w3 ⟨rfl, vo3, hS3, hO3, hF3⟩; have hEa := hE2.same (Only.alloc (Only.refl _ w2) (.cells (elA y) 59)); have hSa := hS2.same (Only.alloc (K := fun _ => False) (Only.refl _ _) (.cells (elA y) 59)); have hE3 := hEa.only hO3 (hSa.ebO hEa); have hEy : EB (w2.alloc (.cells (elA y) 59)) w2.heap.size y := new_block _ _; have hEy3 := hEy.only hO3 (hSa.ebO hEy); have hOf := (hF2.al (.cells (elA y) 59)).trans hF3; have c0 := hS3.c0; have y0 := hE3.fz 0; have y1 := hE3.fz 1; have y2 := hE3.fz 2; have y3 := hE3.fz 3; have y4 := hE3.fz 4; have y5 := hE3.fz 5; have r0 := hE3.c0; have r1 := hE3.c1; have r2 := hE3.c2; have r3 := hE3.c3; have r4 := hE3.c4; have r5 := hE3.c5; have d0 := hEy3.c0; have d1 := hEy3.c1; have d2 := hEy3.c2; have d3 := hEy3.c3; have d4 := hEy3.c4; have d5 := hEy3.c5))
          clear c0 y0 y1 y2 y3 y4 y5 d0 d1 d2 d3 d4 d5
          have hlp : (insS (popS s1 y) 125).els.length = m := by show (popS s1 y).els.length = m; rw [HPe'.out, HM.out]
          go_roundg (gk - 1)
          case rel => exact ⟨insS (popS s1 y) 125, _, vo3, hS3, HB2.out, hky.less (by omega), Lib.hid (by rw [hlp]; exact HR.out), by rw [hlp]; omega, by rw [hlp]; omega, hE3, hOf⟩
          case measure => omega
end
end Go.Proofs.Ythblchafjmgmbaa
