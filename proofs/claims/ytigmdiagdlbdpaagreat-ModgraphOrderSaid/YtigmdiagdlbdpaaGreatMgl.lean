/-
  WALKS. Modules as read; a set of names asked and marked.
  WALKS. The program's list of modules: too many of them.
-/
import Derived.Test.YtigmdiagdlbdpaaGreatMgi
namespace Go.Proofs.YtigmdiagdlbdpaaGreat
open Go.RowKit Go.Maps
/-- An import at ⟨b, o⟩; a slice of them. -/
def IC (w : World) (b o : Nat) (s : Nm) : Prop := ∃ (q al hi : Bool) (sa : ByteArray) (on : Option Addr) (n c : Nat), w.cell? ⟨b, o, none⟩ = some (encStr s) ∧ w.cell? ⟨b, o + 1, none⟩ = some (.bool q) ∧ w.cell? ⟨b, o + 2, none⟩ = some (.string sa) ∧ w.cell? ⟨b, o + 3, none⟩ = some (.bool al) ∧ w.cell? ⟨b, o + 4, none⟩ = some (.bool hi) ∧ w.cell? ⟨b, o + 5, none⟩ = some (.slice on n c)
structure Imz (w : World) (oa : Option Addr) (n : Nat) (l : List Nm) : Prop where
  len : l.length = n
  cell : ∀ k, k < l.length → ∃ b o, oa = some ⟨b, o, none⟩ ∧ IC w b (o + k * 6) (nAt l k)
/-- A module at ⟨b, o⟩; a slice of them. -/
def MC (w : World) (b o : Nat) (m : Md) : Prop := ∃ (al : Bool) (ox oi od : Option Addr) (nx cx ni ci nd cd : Nat), w.cell? ⟨b, o, none⟩ = some (encStr m.nm) ∧ w.cell? ⟨b, o + 1, none⟩ = some (.bool al) ∧ w.cell? ⟨b, o + 2, none⟩ = some (.slice ox nx cx) ∧ w.cell? ⟨b, o + 3, none⟩ = some (.slice oi ni ci) ∧ w.cell? ⟨b, o + 4, none⟩ = some (.slice od nd cd) ∧ Imz w oi ni m.im
structure Mdz (w : World) (oa : Option Addr) (n : Nat) (l : List Md) : Prop where
  len : l.length = n
  cell : ∀ k, k < l.length → ∃ b o, oa = some ⟨b, o, none⟩ ∧ MC w b (o + k * 5) (mdAt l k)
section
variable {w w' : World} {b o n : Nat} {oa : Option Addr} {K : Nat → Prop}
theorem cell_old {v : Value} {a : Addr} (h : w.cell? a = some v) (ho : Only K w w') (hk : ∀ i, i < w.heap.size → ¬ K i) (hs : a.spot = none) : w'.cell? a = some v := by
  obtain ⟨b, o, s⟩ := a
  cases hs
  exact (World.cell?_of_block (ho.block b (cell_lt h) (hk b (cell_lt h)))).trans h
theorem IC.old {s : Nm} (h : IC w b o s) (ho : Only K w w') (hk : ∀ i, i < w.heap.size → ¬ K i) : IC w' b o s := by
  obtain ⟨q, al, hi, sa, on, n, c, h0, h1, h2, h3, h4, h5⟩ := h
  exact ⟨q, al, hi, sa, on, n, c, cell_old h0 ho hk rfl, cell_old h1 ho hk rfl, cell_old h2 ho hk rfl, cell_old h3 ho hk rfl, cell_old h4 ho hk rfl, cell_old h5 ho hk rfl⟩
theorem Imz.old {l : List Nm} (h : Imz w oa n l) (ho : Only K w w') (hk : ∀ i, i < w.heap.size → ¬ K i) : Imz w' oa n l :=
  ⟨h.len, fun k hl => by obtain ⟨b, o, e, hc⟩ := h.cell k hl; exact ⟨b, o, e, hc.old ho hk⟩⟩
theorem MC.old {m : Md} (h : MC w b o m) (ho : Only K w w') (hk : ∀ i, i < w.heap.size → ¬ K i) : MC w' b o m := by
  obtain ⟨al, ox, oi, od, nx, cx, ni, ci, nd, cd, h0, h1, h2, h3, h4, h5⟩ := h
  exact ⟨al, ox, oi, od, nx, cx, ni, ci, nd, cd, cell_old h0 ho hk rfl, cell_old h1 ho hk rfl, cell_old h2 ho hk rfl, cell_old h3 ho hk rfl, cell_old h4 ho hk rfl, h5.old ho hk⟩
theorem Mdz.old {l : List Md} (h : Mdz w oa n l) (ho : Only K w w') (hk : ∀ i, i < w.heap.size → ¬ K i) : Mdz w' oa n l :=
  ⟨h.len, fun k hl => by obtain ⟨b, o, e, hc⟩ := h.cell k hl; exact ⟨b, o, e, hc.old ho hk⟩⟩
end
/-- Names that the model's memory holds. -/
def SzM (m : Md) : Prop := m.nm.length ≤ maxLen ∧ ∀ s ∈ m.im, s.length ≤ maxLen
theorem zBo (w : World) : (zeroValue 4).run Tryz.prog w = .ok (.bool false) w := by kernel_rfl
theorem keyS {s : Nm} (hs : s.length ≤ maxLen) : keyOf Tryz.prog 9 (encStr s) = some (.string s) := by
  have h := WideMaps.keyOf_string_mk (P := Tryz.prog) (k := 9) Tryz.underlying9 (s := ⟨s.toArray⟩) (by show s.toArray.size ≤ _; simpa using hs)
  simpa [encStr] using h
theorem elem_bv {v : Value} {y : Bool} {ps : List MemPlace} (h : plainElem (H := Unit) Tryz.prog 4 v = some (.lit (.bool y), ps)) : v = .bool y := by
  obtain ⟨c, rfl⟩ := elemB h
  have := plainElem_bool (H := Unit) (P := Tryz.prog) Tryz.underlying4 c.b
  unfold mkB at h
  rw [this] at h
  cases h
  rfl
theorem SetS.look {w : World} {b N : Nat} {U : List Nm} (h : SetS w b N U) {s : Nm} (hs : s.length ≤ maxLen) : (Instr.lookup 81 (.map (some b)) (encStr s) false).run Tryz.prog w = .ok (.bool (decide (s ∈ U))) w := by
  obtain ⟨D, ho, hD⟩ := h
  obtain ⟨v, ps, hrun, hv⟩ := ho.lookup kS Tryz.underlying81 (zBo w) (plainElem_bool Tryz.underlying4 false) (keyS hs)
  rw [(hD s).2] at hv
  rw [hrun]
  by_cases e : s ∈ U
  · rw [if_pos (List.contains_iff_mem.2 e)] at hv
    rw [elem_bv hv, decide_eq_true e]
  · rw [if_neg (fun hc => e (List.contains_iff_mem.1 hc))] at hv
    rw [elem_bv hv, decide_eq_false e]
theorem SetS.mark {w : World} {b N : Nat} {U : List Nm} (h : SetS w b N U) (hN : N + 1 ≤ 1000000) {s : Nm} (hs : s.length ≤ maxLen) : ∃ w', (Instr.mapUpdate 81 (.map (some b)) (encStr s) (.bool true)).run Tryz.prog w = .ok () w' ∧ SetS w' b (N + 1) (s :: U) ∧ Only (· = b) w w' := by
  obtain ⟨D, ho, hD⟩ := h
  obtain ⟨w', hrun, ho', hg⟩ := ho.update kS Tryz.underlying81 (by unfold maxLen; omega) (keyS hs) (plainElem_bool Tryz.underlying4 true)
  refine ⟨w', hrun, ⟨_, ho', fun s' => ?_⟩, Only.grown hg (fun g e => by cases e; rfl)⟩
  by_cases e : s' = s
  · subst e
    rw [has_put_same ho.isMap (by trivial)]
    refine ⟨by simp, fun z => ?_⟩
    rw [atKey_put_same ho.isMap (by trivial)]
    simp
  · have hne : (Lit.string s') ≠ Lit.string s := fun hc => by cases hc; exact e rfl
    rw [has_put_other hne, (hD s').1]
    refine ⟨by simp [e], fun z => ?_⟩
    rw [atKey_put_other hne, (hD s').2]
    simp [e]
theorem SetI.mark {w : World} {b N : Nat} {U : List Nat} (h : SetI w b N U) (hN : N + 1 ≤ 1000000) {x : Nat} (hx : x ≤ 1000000) : ∃ w', (Instr.mapUpdate 84 (.map (some b)) (iV x) (.bool true)).run Tryz.prog w = .ok () w' ∧ SetI w' b (N + 1) (x :: U) ∧ Only (· = b) w w' := by
  obtain ⟨D, ho, hD⟩ := h
  obtain ⟨w', hrun, ho', hg⟩ := ho.update kI Tryz.underlying84 (by unfold maxLen; omega) (keyOf_int_mk (a := (x : Int)) Tryz.underlying3 (WalkArith.wf_i64 (by omega))) (plainElem_bool Tryz.underlying4 true)
  refine ⟨w', hrun, ⟨_, ho', fun y => ?_⟩, Only.grown hg (fun g e => by cases e; rfl)⟩
  by_cases e : y = (x : Int)
  · subst e
    rw [has_put_same ho.isMap (by trivial)]
    exact ⟨fun _ => ⟨x, List.mem_cons_self .., rfl⟩, fun _ => rfl⟩
  · have hne : (Lit.int .i64 y) ≠ Lit.int .i64 (x : Int) := fun hc => by cases hc; exact e rfl
    rw [has_put_other hne, hD y]
    constructor
    · rintro ⟨k, hk, rfl⟩
      exact ⟨k, List.mem_cons_of_mem _ hk, rfl⟩
    · rintro ⟨k, hk, rfl⟩
      rcases List.mem_cons.1 hk with rfl | hk
      · exact absurd rfl e
      · exact ⟨k, hk, rfl⟩
theorem SetS.made (w : World) : SetS (w.alloc (.map #[] 0)) w.heap.size 0 [] := by
  refine ⟨.map [], World.ownsMap_made _ _ _ _, fun s => ⟨rfl, fun z => ?_⟩⟩
  simp
  rfl
theorem SetI.made (w : World) : SetI (w.alloc (.map #[] 0)) w.heap.size 0 [] := by
  refine ⟨.map [], World.ownsMap_made _ _ _ _, fun x => ⟨(fun h => by cases h), fun ⟨k, hk, _⟩ => by cases hk⟩⟩
end Go.Proofs.YtigmdiagdlbdpaaGreat
namespace Go.Proofs.YtigmdiagdlbdpaaGreat
open Go.RowKit Go.Maps
abbrev faV (c : Nat) (s : Nm) : Value := .agg #[iV c, encStr s, .int .i64 0, .int .i64 0]
abbrev prN : Value := .agg #[.slice none 0 0, .slice none 0 0]
set_option maxRecDepth 100000 in
theorem conRes (W : World) (T : Array Value) (B0 B1 : Nat) (v0 v1 f0 f1 f2 f3 : Value) (h0 : T[2]? = some (.pointer (some ⟨B0, 0, none⟩))) (h1 : T[3]? = some (.pointer (some ⟨B1, 0, none⟩))) (hb0 : W.heap[B0]? = some (.cells #[v0, v1] 51 (0, 0))) (hb1 : W.heap[B1]? = some (.cells #[f0, f1, f2, f3] 28 (0, 0))) : (results Tryz.f38 T).run Tryz.prog W = .ok (.tuple #[.agg #[v0, v1], .agg #[f0, f1, f2, f3]]) W := by
  have a0 : W.cell? ⟨B0, 0, none⟩ = some v0 := (blk_c (k := 0) hb0 rfl).1
  have a1 : W.cell? ⟨B0, 1, none⟩ = some v1 := (blk_c (k := 1) hb0 rfl).1
  have c0 : W.cell? ⟨B1, 0, none⟩ = some f0 := (blk_c (k := 0) hb1 rfl).1
  have c1 : W.cell? ⟨B1, 1, none⟩ = some f1 := (blk_c (k := 1) hb1 rfl).1
  have c2 : W.cell? ⟨B1, 2, none⟩ = some f2 := (blk_c (k := 2) hb1 rfl).1
  have c3 : W.cell? ⟨B1, 3, none⟩ = some f3 := (blk_c (k := 3) hb1 rfl).1
  simp [results, Tryz.results38, go_sem, h0, h1, a0, a1, c0, c1, c2, c3]
set_option maxRecDepth 100000 in
set_option maxHeartbeats 2000000 in
theorem consistent_long (w : World) (oa : Option Addr) (n ca : Nat) (hn : 32 < n) : Calls Tryz.prog 38 #[.slice oa n ca] w fun e w' => e = .returned (.tuple #[prN, faV 3 []]) ∧ Only (fun _ => False) w w' := by
  have h1 : (32 : Int) < (n : Int) := by omega
  have h2 : decide ((32 : Int) < (n : Int)) = true := decide_eq_true h1
  go_enter Tryz.func38, Tryz.ntmps38
  go_wp2
  have hb0 := new_block w (.cells prN.cells 51)
  have hb1 := new_block (w.alloc (.cells prN.cells 51)) (.cells (faV 3 []).cells 28)
  have hb0' := (((Only.refl (fun _ => False) (w.alloc (.cells prN.cells 51))).alloc (.cells (faV 3 []).cells 28)).block w.heap.size (by show _ < (Array.push _ _).size; rw [Array.size_push]; omega) (fun hc => hc)).trans hb0
  have s1 : (w.alloc (.cells prN.cells 51)).heap.size = w.heap.size + 1 := by show (Array.push _ _).size = _; rw [Array.size_push]
  rw [s1] at hb1
  refine bodyPost_ret (v := .tuple #[prN, faV 3 []]) (conRes _ _ _ _ _ _ _ _ _ _ rfl rfl hb0' hb1) rfl ?_
  exact ⟨rfl, ((Only.refl _ _).alloc _).alloc _⟩
end Go.Proofs.YtigmdiagdlbdpaaGreat
