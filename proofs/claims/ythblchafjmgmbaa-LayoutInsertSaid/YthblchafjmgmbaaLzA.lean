/-
  WALKS. The reference's machine in memory: its cells, its stack's elements.
-/
import Derived.Test.YthblchafjmgmbaaLzX
import Derived.Test.YthblchafjmgmbaaLir
namespace Go.Proofs.Ythblchafjmgmbaa
open Go.RowKit Go.Maps
def rCells (e : REl) : List Value := [.int .i64 e.form, .int .i64 e.col, .string e.word, .bool e.eq]
theorem rCells_len (e : REl) : (rCells e).length = 4 := rfl
abbrev rV (e : REl) : Value := .agg #[.int .i64 e.form, .int .i64 e.col, .string e.word, .bool e.eq]
abbrev rA (e : REl) : Array Value := #[.int .i64 e.form, .int .i64 e.col, .string e.word, .bool e.eq]
theorem infoR : (Try.prog.info? 52).map (fun i => (i.zero, i.size, i.bytes)) = some (some (.agg #[.int .i64 0, .int .i64 0, .string ⟨#[]⟩, .bool false]), 4, 40) := by kernel_rfl
def RR (w : World) (B : Nat) (v : Value) (es : List REl) : Prop := w.ownsRow B 52 4 v es.length (es.flatMap rCells)
theorem RR.only {w w' : World} {B : Nat} {v : Value} {es : List REl} {K : Nat → Prop} (h : RR w B v es) (ho : Only K w w') (hk : ∀ g, v.ownBlock = some g → ¬ K g) : RR w' B v es :=
  rowKeep h (fun g hg => ho.block g ((World.ownsRow.lt h g hg).2) (hk g hg))
theorem RR.snoc {w : World} {B : Nat} {v : Value} {es : List REl} {e : REl} (h : w.ownsRow B 52 4 v (es.length + 1) (es.flatMap rCells ++ rCells e)) : RR w B v (es ++ [e]) := by
  unfold RR
  rw [List.length_append, List.flatMap_append]
  simpa using h
theorem one_r (e : REl) : ∀ u ∈ rCells e, u.oneCell' = true := by
  intro u hu
  simp [rCells] at hu
  rcases hu with rfl | rfl | rfl | rfl <;> rfl
/-- An element at ⟨b, o⟩. -/
structure RC (w : World) (b o : Nat) (e : REl) : Prop where
  c0 : w.cell? ⟨b, o, none⟩ = some (.int .i64 e.form)
  c1 : w.cell? ⟨b, o + 1, none⟩ = some (.int .i64 e.col)
  c2 : w.cell? ⟨b, o + 2, none⟩ = some (.string e.word)
  c3 : w.cell? ⟨b, o + 3, none⟩ = some (.bool e.eq)
theorem RR.at {w : World} {B n ca : Nat} {oa : Option Addr} {es : List REl} (h : RR w B (.slice oa n ca) es) {k : Nat} (hk : k < es.length) : ∃ g, oa = some ⟨g, 0, none⟩ ∧ B ≤ g ∧ n = es.length ∧ n ≤ ca ∧ RC w g (k * 4) es[k] ∧ (∀ j, w.frozen? ⟨g, j, none⟩ = false) := by
  rcases h.2 with ⟨hv, hn⟩ | ⟨g, cap, cur, hv, hb, hg, hle, hr⟩
  · omega
  · cases hv
    refine ⟨g, rfl, hb, rfl, hle, ?_, fun j => by simp [World.frozen?, hg]⟩
    have hc := World.ownsRow.cells h (g := g) rfl
    have key : ∀ j v, j < 4 → (rCells es[k])[j]? = some v → w.cell? ⟨g, k * 4 + j, none⟩ = some v := by
      intro j v hj hv
      have := hc (k * 4 + j) v (by rw [flat_getM 4 rCells rCells_len es k j hk hj]; exact hv)
      rw [add_plain, Nat.zero_add] at this
      exact this
    exact ⟨key 0 _ (by decide) rfl, key 1 _ (by decide) rfl, key 2 _ (by decide) rfl, key 3 _ (by decide) rfl⟩
/-- The stack is cut. -/
theorem RR.cut {w : World} {B n ca : Nat} {oa : Option Addr} {es : List REl} (h : RR w B (.slice oa n ca) es) {k : Nat} (hk : k < es.length) : RR w B (.slice oa k ca) (es.take k) := by
  rcases h.2 with ⟨hv, hn⟩ | ⟨g, cap, cur, hv, hb, hg, hle, hm, hs, ht⟩
  · omega
  · cases hv
    have hl : (es.take k).length = k := by rw [List.length_take]; omega
    refine ⟨by rw [flat_len 4 rCells rCells_len], .inr ⟨g, ca, cur, by rw [hl], hb, hg, by rw [hl]; omega, hm, hs, ?_⟩⟩
    rw [hl]
    have h1 : cur.toList.take (k * 4) = (cur.toList.take (es.length * 4)).take (k * 4) := by rw [List.take_take]; congr 1; omega
    rw [h1, ht]
    conv => lhs; rw [← List.take_append_drop k es]
    have hlen := flat_len 4 rCells rCells_len (es.take k)
    rw [hl] at hlen
    rw [List.flatMap_append, List.take_append_of_le_length (by omega), List.take_of_length_le (by omega)]
/-- A fault. -/
structure RF where
  code : Int
  name : ByteArray
  line : Int
  col : Int
/-- The machine at b: its stack's slice vs, its tokens' slice vo. -/
structure MS (w : World) (b : Nat) (vs vo : Value) (m : RM) (li : Int) (fi : Bool) (F : RF) : Prop where
  blk : w.heap[b]? = some (.cells #[vs, vo, .bool m.expects, .string m.word, .int .i64 li, .bool fi, .int .i64 F.code, .string F.name, .int .i64 F.line, .int .i64 F.col] 48 (0, 0))
  els : RR w (b + 1) vs m.stack
  out : TR w (b + 1) vo m.out
section
variable {w w' : World} {b : Nat} {vs vo : Value} {m : RM} {li : Int} {fi : Bool} {F : RF}
theorem MS.lt (h : MS w b vs vo m li fi F) : b < w.heap.size := lt_of_block h.blk
theorem MS.c0 (h : MS w b vs vo m li fi F) : w.cell? ⟨b, 0, none⟩ = some vs := by have h' := h.blk; simp [World.cell?, h']
theorem MS.c1 (h : MS w b vs vo m li fi F) : w.cell? ⟨b, 1, none⟩ = some vo := by have h' := h.blk; simp [World.cell?, h']
theorem MS.c2 (h : MS w b vs vo m li fi F) : w.cell? ⟨b, 2, none⟩ = some (.bool m.expects) := by have h' := h.blk; simp [World.cell?, h']
theorem MS.c3 (h : MS w b vs vo m li fi F) : w.cell? ⟨b, 3, none⟩ = some (.string m.word) := by have h' := h.blk; simp [World.cell?, h']
theorem MS.c4 (h : MS w b vs vo m li fi F) : w.cell? ⟨b, 4, none⟩ = some (.int .i64 li) := by have h' := h.blk; simp [World.cell?, h']
theorem MS.c5 (h : MS w b vs vo m li fi F) : w.cell? ⟨b, 5, none⟩ = some (.bool fi) := by have h' := h.blk; simp [World.cell?, h']
theorem MS.c6 (h : MS w b vs vo m li fi F) : w.cell? ⟨b, 6, none⟩ = some (.int .i64 F.code) := by have h' := h.blk; simp [World.cell?, h']
theorem MS.c7 (h : MS w b vs vo m li fi F) : w.cell? ⟨b, 7, none⟩ = some (.string F.name) := by have h' := h.blk; simp [World.cell?, h']
theorem MS.c8 (h : MS w b vs vo m li fi F) : w.cell? ⟨b, 8, none⟩ = some (.int .i64 F.line) := by have h' := h.blk; simp [World.cell?, h']
theorem MS.c9 (h : MS w b vs vo m li fi F) : w.cell? ⟨b, 9, none⟩ = some (.int .i64 F.col) := by have h' := h.blk; simp [World.cell?, h']
theorem MS.fz (h : MS w b vs vo m li fi F) (k : Nat) : w.frozen? ⟨b, k, none⟩ = false := by have h' := h.blk; simp [World.frozen?, h']
theorem MS.same (h : MS w b vs vo m li fi F) (ho : Only (fun _ => False) w w') : MS w' b vs vo m li fi F :=
  ⟨(ho.block b h.lt (fun hc => hc)).trans h.blk, h.els.only ho (fun _ _ hc => hc), h.out.only ho (fun _ _ hc => hc)⟩
theorem MS.elen (h : MS w b vs vo m li fi F) : ∃ oa ca, vs = .slice oa m.stack.length ca := rowForm h.els
theorem MS.olen (h : MS w b vs vo m li fi F) : ∃ oa ca, vo = .slice oa m.out.length ca := rowForm h.out
/-- A cell of the machine's block is written; the rows are known. -/
theorem MS.put {v : Value} {k : Nat} {vs' vo' : Value} {m' : RM} {li' : Int} {fi' : Bool} {F' : RF} (h' : w.heap[b]? = some (.cells #[vs, vo, .bool m.expects, .string m.word, .int .i64 li, .bool fi, .int .i64 F.code, .string F.name, .int .i64 F.line, .int .i64 F.col] 48 (0, 0)))
    (hc : (#[vs, vo, .bool m.expects, .string m.word, .int .i64 li, .bool fi, .int .i64 F.code, .string F.name, .int .i64 F.line, .int .i64 F.col] : Array Value).set! k v = #[vs', vo', .bool m'.expects, .string m'.word, .int .i64 li', .bool fi', .int .i64 F'.code, .string F'.name, .int .i64 F'.line, .int .i64 F'.col])
    (he : RR w (b + 1) vs' m'.stack) (ho : TR w (b + 1) vo' m'.out) : MS (w.setCell ⟨b, k, none⟩ v) b vs' vo' m' li' fi' F' := by
  have hO : Only (· = b) w (w.setCell ⟨b, k, none⟩ v) := Only.setCell (K := (· = b)) (Only.refl _ _) rfl v
  refine ⟨?_, he.only hO (fun g hg e => by have := (World.ownsRow.lt he g hg).1; omega), ho.only hO (fun g hg e => by have := (World.ownsRow.lt ho g hg).1; omega)⟩
  rw [← hc]
  simp [World.setCell, Array.getElem?_modify, h']
theorem MS.grownE (h : MS w b vs vo m li fi F) (hg : w.grownBy w' vs.ownBlock) : w'.heap[b]? = some (.cells #[vs, vo, .bool m.expects, .string m.word, .int .i64 li, .bool fi, .int .i64 F.code, .string F.name, .int .i64 F.line, .int .i64 F.col] 48 (0, 0)) ∧ TR w' (b + 1) vo m.out :=
  ⟨(hg.block b h.lt (fun e => by have := (World.ownsRow.lt h.els b e.symm).1; omega)).trans h.blk,
   rowKeep h.out (fun g hgg => hg.block g (World.ownsRow.lt h.out g hgg).2 (fun e => rowApart h.out h.els (by decide) hgg e.symm))⟩
theorem MS.grownO (h : MS w b vs vo m li fi F) (hg : w.grownBy w' vo.ownBlock) : w'.heap[b]? = some (.cells #[vs, vo, .bool m.expects, .string m.word, .int .i64 li, .bool fi, .int .i64 F.code, .string F.name, .int .i64 F.line, .int .i64 F.col] 48 (0, 0)) ∧ RR w' (b + 1) vs m.stack :=
  ⟨(hg.block b h.lt (fun e => by have := (World.ownsRow.lt h.out b e.symm).1; omega)).trans h.blk,
   rowKeep h.els (fun g hgg => hg.block g (World.ownsRow.lt h.els g hgg).2 (fun e => rowApart h.els h.out (by decide) hgg e.symm))⟩
/-- What a call leaves: the machine in a new state, all others' blocks alone. -/
def MSx (w : World) (b : Nat) (vs vo : Value) (m' : RM) (li : Int) (fi : Bool) (F : RF) (w' : World) : Prop := ∃ vs' vo', MS w' b vs' vo' m' li fi F ∧ Frm w b vs vo w' vs' vo'
theorem MS.x {vs' vo' : Value} {m' : RM} (h : MS w' b vs' vo' m' li fi F) (f : Frm w b vs vo w' vs' vo') : MSx w b vs vo m' li fi F w' := ⟨vs', vo', h, f⟩
theorem MSx.frm {w1 : World} {vs1 vo1 : Value} {m' : RM} (h : MSx w1 b vs1 vo1 m' li fi F w') (f : Frm w b vs vo w1 vs1 vo1) : MSx w b vs vo m' li fi F w' := by
  obtain ⟨vs', vo', h1, h2⟩ := h
  exact ⟨vs', vo', h1, f.trans h2⟩
/-- Room for so many tokens and elements. -/
structure Rm (k : Nat) (m : RM) : Prop where
  els : m.stack.length + k ≤ 1000000000000
  out : m.out.length + k ≤ 1000000000000
set_option maxRecDepth 100000 in
set_option maxHeartbeats 2000000 in
theorem rinsert_p (h : MS w b vs vo m li fi F) (hk : Rm 1 m) (c : UInt8) : Calls Try.prog 16 #[.pointer (some ⟨b, 0, none⟩), .string ⟨#[c]⟩] w fun r w' => r = .returned (.tuple #[]) ∧ ∃ vo', MS w' b vs vo' (rIns m c) li fi F ∧ Frm w b vs vo w' vs vo' := by
  have hbx := h.lt
  have hz := hk.out
  obtain ⟨oa, ca, rfl⟩ := h.olen
  obtain ⟨i0', hi, hz0, hz1, hz2⟩ := info_parts infoTok
  have HOWN : w.ownsRow (b + 1) 33 7 (.slice oa m.out.length ca) m.out.length (m.out.flatMap tokCells) := h.out
  have HP : Hid (rIns m c = { m with out := m.out ++ [insT c] }) := Lib.hid rfl
  have c1 := h.c1
  have z1 := h.fz 1
  go_enter Try.func16, Try.ntmps16
  go_wp2_with (at_builtin; refine wpList_append_lies _ rfl _ _ 22 rfl (b + 1) 33 i0' (.agg #[.int .i64 0, .string ⟨#[]⟩, .string ⟨#[]⟩, .int .i64 0, .bool false, .int .i64 0, .int .i64 0]) 7 72 Try.underlying22 hi hz0 hz1 hz2 rfl (by decide) (.slice oa m.out.length ca) m.out.length (m.out.flatMap tokCells) rfl (World.ownsRow.alloc HOWN _) ⟨w.heap.size, 0, none⟩ 1 1 (tokCells (insT c)) rfl rfl (World.news_of_block (new_block w _)) (one_tok _) Nat.one_pos (by unfold maxLen; omega) (by omega) (by show b + 1 ≤ (w.heap.push _).size; simp only [Array.size_push]; omega) _ rfl ?_; intro g cg w3 hown' hgrow hat hlt'; have hS3 := MS.grownO (h.same ((Only.refl _ _).alloc _)) hgrow; have f1 := (blk_c (k := 1) hS3.1 rfl).1; have g1 := (blk_c (k := 1) hS3.1 rfl).2; have hTR := TR.snoc (t := insT c) hown'; have hO3 : Only (KE b (.slice oa m.out.length ca)) w w3 := (((Only.refl _ _).alloc _)).trans (Only.grown hgrow (fun k hk => .inr hk)); have HAT := Lib.hid hat; clear hown' hgrow HOWN)
  have hbl : ∀ g', (Value.slice (some ⟨g, 0, none⟩) (m.out.length + 1) cg).ownBlock = some g' → (Value.slice oa m.out.length ca).ownBlock = some g' ∨ w.heap.size ≤ g' := fun g' hg' => by
    have hgg : g = g' := Option.some.inj hg'
    rcases HAT.out with e | e
    · exact .inl (hgg ▸ e)
    · right
      have e3 : g = (w.heap.push (.cells (tokA (insT c)) 33)).size := e
      rw [Array.size_push] at e3
      omega
  go_end0
  exact ⟨rfl, _, by rw [HP.out]; exact MS.put (m := m) hS3.1 rfl hS3.2 hTR, ⟨(hO3.setCell (.inl rfl) _).wide (fun i hi => hi.elim .inl (fun e => .inr (.inr e))), fun _ hg => .inl hg, hbl⟩⟩
set_option maxRecDepth 100000 in
set_option maxHeartbeats 2000000 in
theorem rpush_p (h : MS w b vs vo m li fi F) (hk : Rm 1 m) (e : REl) : Calls Try.prog 50 #[.pointer (some ⟨b, 0, none⟩), rV e] w fun r w' => r = .returned (.tuple #[]) ∧ ∃ vs', MS w' b vs' vo (rPush m e) li fi F ∧ Frm w b vs vo w' vs' vo := by
  have hbx := h.lt
  have hz := hk.els
  obtain ⟨oa, ca, rfl⟩ := h.elen
  obtain ⟨i0', hi, hz0, hz1, hz2⟩ := info_parts infoR
  have hA : Only (fun _ => False) w (w.alloc (.cells (rA e) 52)) := (Only.refl _ _).alloc _
  have h0 := h.same hA
  have HOWN : (w.alloc (.cells (rA e) 52)).ownsRow (b + 1) 52 4 (.slice oa m.stack.length ca) m.stack.length (m.stack.flatMap rCells) := h0.els
  have HP : Hid (rPush m e = { m with stack := m.stack ++ [e] }) := Lib.hid rfl
  have c0 := h.c0
  have z0 := h.fz 0
  have hsz : (w.alloc (.cells (rA e) 52)).heap.size = w.heap.size + 1 := by show (w.heap.push _).size = _; simp
  have HSZ := Lib.hid hsz
  clear hsz
  go_enter Try.func50, Try.ntmps50
  go_wp2
  go_region_law ((refine step_append_lies _ rfl (.tmp 8) (.tmp 10) 46 rfl (b + 1) 52 i0' (.agg #[.int .i64 0, .int .i64 0, .string ⟨#[]⟩, .bool false]) 4 40 Try.underlying46 hi hz0 hz1 hz2 rfl (by decide) (.slice oa m.stack.length ca) m.stack.length (m.stack.flatMap rCells) ?e1 (World.ownsRow.alloc HOWN _) ⟨w.heap.size + 1, 0, none⟩ 1 1 (rCells e) ?e2 rfl (World.news_of_block (new_at _ HSZ.out)) (one_r e) Nat.one_pos (by unfold maxLen; omega) (by omega) (by show b + 1 ≤ (Array.push _ _).size; rw [Array.size_push, HSZ.out]; omega) _ rfl ?_); (case e1 => simp [Act.eval]); (case e2 => simp [Act.eval]); (intro g cg w3 hown' hgrow hat hlt'; have hS3 := MS.grownE (h0.same (((Only.refl _ _).alloc _).drew)) hgrow; have f0 := (blk_c (k := 0) hS3.1 rfl).1; have g0 := (blk_c (k := 0) hS3.1 rfl).2))
  all_goals
    have hRR := RR.snoc (e := e) hown'
    have hO3 : Only (KE b (.slice oa m.stack.length ca)) w w3 := ((hA.lift.alloc _).drew).trans (Only.grown hgrow (fun k hk => .inr hk))
    have HBL := Lib.hid (show ∀ g', (Value.slice (some ⟨g, 0, none⟩) (m.stack.length + 1) cg).ownBlock = some g' → (Value.slice oa m.stack.length ca).ownBlock = some g' ∨ w.heap.size ≤ g' from fun g' hg' => by
      have hgg : g = g' := Option.some.inj hg'
      rcases hat with e1 | e1
      · exact .inl (hgg ▸ e1)
      · right
        have e3 : g = ((w.alloc (.cells (rA e) 52)).heap.push (.cells (rA e) 52)).size := e1
        rw [Array.size_push, HSZ.out] at e3
        omega)
    clear hown' hgrow HOWN hat
    go_wp2
    go_end0
    exact ⟨rfl, _, by rw [HP.out]; exact MS.put (m := m) hS3.1 rfl hRR hS3.2, ⟨(hO3.setCell (.inl rfl) _).wide (fun i hi => hi.elim .inl (fun e => .inr (.inl e))), HBL.out, fun _ hg => .inl hg⟩⟩
set_option maxRecDepth 100000 in
theorem wait_p (h : MS w b vs vo m li fi F) (wd : ByteArray) (hk : tx wd bLet = true → Rm 1 m) : Calls Try.prog 51 #[.pointer (some ⟨b, 0, none⟩), .string wd] w fun r w' => r = .returned (.tuple #[]) ∧ MSx w b vs vo (rWait m wd) li fi F w' := by
  have ht := Lib.toList_data wd
  cases hc : tx wd bLet
  · have h1 : (wd.toList == [108, 101, 116]) = false := by rw [ht]; exact hc
    have HR : Hid (rWait m wd = m) := Lib.hid (by unfold rWait; rw [hc]; rfl)
    clear ht hc
    go_enter Try.func51, Try.ntmps51
    go_wp2
    go_end0
    exact ⟨rfl, by rw [HR.out]; exact h.x (Frm.keep (Only.refl _ _))⟩
  · have h1 : (wd.toList == [108, 101, 116]) = true := by rw [ht]; exact hc
    have HR : Hid (rWait m wd = rPush m ⟨5, 0, ⟨#[108, 101, 116]⟩, false⟩) := Lib.hid (by unfold rWait; rw [hc]; rfl)
    have hk := hk hc
    clear ht hc
    go_enter Try.func51, Try.ntmps51
    go_wp2_with (go_at_call 50; refine (rpush_p h hk ⟨5, 0, ⟨#[108, 101, 116]⟩, false⟩).mono ?_; rintro r w1 ⟨rfl, vs1, hS1, hF1⟩)
    go_end0
    exact ⟨rfl, by rw [HR.out]; exact hS1.x hF1⟩
end
end Go.Proofs.Ythblchafjmgmbaa
