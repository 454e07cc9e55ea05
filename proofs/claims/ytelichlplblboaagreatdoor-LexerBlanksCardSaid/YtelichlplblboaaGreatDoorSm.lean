/-
  WALKS. The reference's Same. LexerSame: true.
-/
import Derived.Test.YtelichlplblboaaGreatDoorAwk
import Derived.Test.YtelichlplblboaaGreatDoorSame2
import Derived.Test.YtelichlplblboaaGreatDoorPrt0
import Derived.ArgAppend
import Derived.Deep.Upon
namespace Go.Proofs.YtelichlplblboaaGreatDoor
open Go.RowKit Go.Maps
theorem alloc_only (w : World) (o : Obj) : Only (fun _ => False) w (w.alloc o) := Only.of_below ((Below.refl _ _).alloc (Nat.le_refl _) _)
set_option maxHeartbeats 8000000 in
set_option maxRecDepth 100000 in
theorem rSame_p (w : World) (oa ob : Option Addr) (n m ca cb : Nat) (ts us : List Tok) (hn : n ≤ 1000000) (hm : m ≤ 1000000) (ha : Tks w oa n ts) (hb : Tks w ob m us) :
    Calls Tryz.prog 18 #[.slice oa n ca, .slice ob m cb] w fun e w' => e = .returned (.bool (sameL ts us)) ∧ Only (fun _ => False) w w' := by
  have hla := ha.len
  have hlb := hb.len
  by_cases hnm : n = m
  · have HLA := Lib.hid hla
    have HLB := Lib.hid hlb
    subst hnm
    clear hla hlb
    go_enter Tryz.func18, Tryz.ntmps18
    go_wp2
    go_loopw [5] (fun i wr => ∃ k : Nat, k ≤ n ∧ i = .int .i64 k ∧ Hid (∀ j (ha : j < ts.length) (hb : j < us.length), j < k → sameT ts[j] us[j] = true) ∧ Only (fun _ => False) w wr) (fun i _ => n - (intOf i).toNat)
    case atStart => exact ⟨0, by omega, rfl, Lib.hid (fun j _ _ h => absurd h (by omega)), Only.refl _ _⟩
    case round =>
      obtain ⟨k, hk, rfl, HA, hO⟩ := hrel
      by_cases hlt : k < n
      · have hka : k < ts.length := by rw [HLA.out]; exact hlt
        have hkb : k < us.length := by rw [HLB.out]; exact hlt
        obtain ⟨b, o, rfl, hc⟩ := (ha.keep hO).cell k hka
        obtain ⟨b', o', rfl, hc'⟩ := (hb.keep hO).cell k hkb
        obtain ⟨x, hx⟩ : ∃ x, ts[k] = x := ⟨_, rfl⟩
        obtain ⟨y, hy⟩ : ∃ y, us[k] = y := ⟨_, rfl⟩
        rw [hx] at hc
        rw [hy] at hc'
        have HX := Lib.hid hx
        have HY := Lib.hid hy
        clear hx hy
        have hbl := cell_lt hc.c0
        have hbl' := cell_lt hc'.c0
        obtain ⟨p0, p1, p2, p3, p4, p5, p6⟩ := hc
        obtain ⟨q0, q1, q2, q3, q4, q5, q6⟩ := hc'
        have HO1 : Hid (Only (fun _ => False) w (tokA (tokA wr.drew x) y)) := Lib.hid (hO.trans (((Only.refl _ _).drew.trans (tokA_only _ _)).trans (tokA_only _ _)))
        have HO2 : Hid (Only (fun _ => False) w (tokA (tokA wr.drew y) x)) := Lib.hid (hO.trans (((Only.refl _ _).drew.trans (tokA_only _ _)).trans (tokA_only _ _)))
        have HST : Hid (sameT x y = ((x.op == y.op) && (x.qual.toList == y.qual.toList) && (x.text.toList == y.text.toList) && (x.n == y.n))) := Lib.hid rfl
        go_wp2
        go_region
        all_goals
          go_wp2
          all_goals first
            | (go_ret; exact ⟨ret_bool (sameL_no hka hkb (by rw [HX.out, HY.out, HST.out]; first | (simp [*]; done) | (have hn' : ¬ x.n = y.n := (by simpa using (by assumption : (x.n != y.n) = true)); simp [*]))).symm, hO.trans (((alloc_only _ _).trans (alloc_only _ _)).drew)⟩)
            | (go_roundw
               case rel => exact ⟨k + 1, by omega, by go_num, Lib.hid (fun j h1 h2 h3 => by rcases Nat.lt_succ_iff_lt_or_eq.1 h3 with h | rfl; exact HA.out j h1 h2 h; rw [HX.out, HY.out, HST.out]; have hn' : x.n = y.n := (by simpa using (by assumption : (x.n != y.n) = false)); simp [*]), hO.trans (((alloc_only _ _).trans (alloc_only _ _)).drew)⟩
               case measure => simp [intOf]; omega)
      · go_wp2
        go_ret
        exact ⟨ret_bool (sameL_yes (by rw [HLA.out, HLB.out]) (fun j h1 h2 => HA.out j h1 h2 (by rw [HLA.out] at h1; omega))).symm, hO⟩
  · have e1 : ((n : Int) != (m : Int)) = true := by simp; omega
    have e2 : (n != m) = true := by simp; omega
    have HF : Hid (sameL ts us = false) := Lib.hid (sameL_len (by rw [hla, hlb]; exact hnm))
    clear hla hlb hnm
    go_enter Tryz.func18, Tryz.ntmps18
    go_wp2
    go_ret
    exact ⟨ret_bool HF.out.symm, Only.refl _ _⟩
theorem add_plain' (b o j : Nat) : (⟨b, o, none⟩ : Addr).add j = ⟨b, o + j, none⟩ := by unfold Addr.add; split <;> simp_all
theorem flat_len (ts : List Tok) : (ts.flatMap tokCells).length = ts.length * 7 := by
  induction ts with
  | nil => rfl
  | cons t ts ih => rw [List.flatMap_cons, List.length_append, ih]; simp [tokCells]; omega
theorem flat_one {ts : List Tok} : ∀ u ∈ ts.flatMap tokCells, u.oneCell' = true := by
  intro u hu
  obtain ⟨t, _, hu⟩ := List.mem_flatMap.1 hu
  simp only [tokCells, List.mem_cons, List.not_mem_nil, or_false] at hu
  rcases hu with rfl | rfl | rfl | rfl | rfl | rfl | rfl <;> rfl
theorem Tks.flat {w : World} {b o n : Nat} {ts : List Tok} (h : Tks w (some ⟨b, o, none⟩) n ts) (j : Nat) (u : Value) (hu : (ts.flatMap tokCells)[j]? = some u) : w.cell? ⟨b, o + j, none⟩ = some u := by
  have hj := (List.getElem?_eq_some_iff.1 hu).1
  rw [flat_len] at hj
  have hk : j / 7 < ts.length := by omega
  obtain ⟨b', o', e, hc⟩ := h.cell (j / 7) hk
  cases e
  have hr : j % 7 < 7 := Nat.mod_lt _ (by decide)
  have ej : j = j / 7 * 7 + j % 7 := by omega
  rw [ej, flat_get ts (j / 7) (j % 7) hk hr] at hu
  obtain ⟨p0, p1, p2, p3, p4, p5, p6⟩ := hc
  rw [ej, ← Nat.add_assoc]
  generalize j % 7 = r at hu hr
  match r, hr with
  | 0, _ => simp [tokCells] at hu; rw [← hu]; exact p0
  | 1, _ => simp [tokCells] at hu; rw [← hu]; exact p1
  | 2, _ => simp [tokCells] at hu; rw [← hu]; exact p2
  | 3, _ => simp [tokCells] at hu; rw [← hu]; exact p3
  | 4, _ => simp [tokCells] at hu; rw [← hu]; exact p4
  | 5, _ => simp [tokCells] at hu; rw [← hu]; exact p5
  | 6, _ => simp [tokCells] at hu; rw [← hu]; exact p6
def dT : Tok := ⟨0, ⟨#[]⟩, ⟨#[]⟩, 0, false, 0, 0⟩
/-- A token elsewhere, marked otherwise. -/
def chg (line col : Int) (t : Tok) : Tok := ⟨t.op, t.qual, t.text, t.n, !t.auto, line, col⟩
theorem same_chg (ts : List Tok) (line col : Int) : sameL ts (ts.map (chg line col)) = true :=
  sameL_yes (by simp) (fun j h1 h2 => by rw [List.getElem_map]; simp [sameT, chg])
/-- Tokens of a copy, in a block that may be written. -/
structure Cpy (w : World) (g n : Nat) (f : Nat → Tok) : Prop where
  fz : ∀ j, w.frozen? ⟨g, j, none⟩ = false
  tc : ∀ k, k < n → TC w g (k * 7) (f k)
theorem cell_other {w : World} {g i j : Nat} {u v : Value} (h : w.cell? ⟨g, j, none⟩ = some u) (hij : i ≠ j) : (w.setCell ⟨g, i, none⟩ v).cell? ⟨g, j, none⟩ = some u :=
  (World.cell?_setCell_other w ⟨g, i, none⟩ ⟨g, j, none⟩ v (fun e => hij (by injection e))).trans h
theorem cell_same {w : World} {g j : Nat} {u v : Value} (h : w.cell? ⟨g, j, none⟩ = some u) : (w.setCell ⟨g, j, none⟩ v).cell? ⟨g, j, none⟩ = some v := World.cell?_setCell_same w _ v h
theorem Cpy.chg {w : World} {g n k : Nat} {ts : List Tok} {line col : Int} {x : Tok} (h : Cpy w g n (fun j => if j < k then chg line col (ts.getD j dT) else ts.getD j dT)) (hk : k < n) (hx : ts.getD k dT = x) :
    Cpy (((w.setCell ⟨g, k * 7 + 5, none⟩ (.int .i64 line)).setCell ⟨g, k * 7 + 6, none⟩ (.int .i64 col)).setCell ⟨g, k * 7 + 4, none⟩ (.bool (!x.auto))) g n (fun j => if j < k + 1 then Go.Proofs.YtelichlplblboaaGreatDoor.chg line col (ts.getD j dT) else ts.getD j dT) := by
  refine ⟨fun j => by simp [h.fz], fun j hj => ?_⟩
  have hc := h.tc j hj
  by_cases e : j = k
  · subst e
    simp only [Nat.lt_irrefl, if_false] at hc
    simp only [Nat.lt_succ_self, if_true]
    rw [hx] at hc ⊢
    obtain ⟨p0, p1, p2, p3, p4, p5, p6⟩ := hc
    have q4 := cell_other (v := .int .i64 col) (cell_other (v := .int .i64 line) p4 (show j * 7 + 5 ≠ j * 7 + 4 by omega)) (show j * 7 + 6 ≠ j * 7 + 4 by omega)
    exact ⟨cell_other (cell_other (cell_other p0 (by omega)) (by omega)) (by omega), cell_other (cell_other (cell_other p1 (by omega)) (by omega)) (by omega), cell_other (cell_other (cell_other p2 (by omega)) (by omega)) (by omega), cell_other (cell_other (cell_other p3 (by omega)) (by omega)) (by omega),
      cell_same q4, cell_other (cell_other (cell_same p5) (by omega)) (by omega), cell_other (cell_same (cell_other p6 (by omega))) (by omega)⟩
  · have e2 : (if j < k + 1 then Go.Proofs.YtelichlplblboaaGreatDoor.chg line col (ts.getD j dT) else ts.getD j dT) = (if j < k then Go.Proofs.YtelichlplblboaaGreatDoor.chg line col (ts.getD j dT) else ts.getD j dT) := by
      by_cases hjk : j < k
      · rw [if_pos hjk, if_pos (by omega)]
      · rw [if_neg hjk, if_neg (by omega)]
    rw [e2]
    obtain ⟨p0, p1, p2, p3, p4, p5, p6⟩ := hc
    exact ⟨cell_other (cell_other (cell_other p0 (by omega)) (by omega)) (by omega), cell_other (cell_other (cell_other p1 (by omega)) (by omega)) (by omega), cell_other (cell_other (cell_other p2 (by omega)) (by omega)) (by omega), cell_other (cell_other (cell_other p3 (by omega)) (by omega)) (by omega),
      cell_other (cell_other (cell_other p4 (by omega)) (by omega)) (by omega), cell_other (cell_other (cell_other p5 (by omega)) (by omega)) (by omega), cell_other (cell_other (cell_other p6 (by omega)) (by omega)) (by omega)⟩
theorem Cpy.tks {w : World} {g n k : Nat} {ts : List Tok} {line col : Int} (h : Cpy w g n (fun j => if j < k then Go.Proofs.YtelichlplblboaaGreatDoor.chg line col (ts.getD j dT) else ts.getD j dT)) (hk : n ≤ k) (hl : ts.length = n) : Tks w (some ⟨g, 0, none⟩) n (ts.map (Go.Proofs.YtelichlplblboaaGreatDoor.chg line col)) := by
  refine ⟨by simpa using hl, fun j hj => ?_⟩
  have hj' : j < ts.length := by simpa using hj
  have hc := h.tc j (by omega)
  simp only [show j < k by omega, if_true] at hc
  refine ⟨g, 0, rfl, ?_⟩
  rw [List.getElem_map, Nat.zero_add]
  rw [List.getD_eq_getElem?_getD, List.getElem?_eq_getElem hj'] at hc
  exact hc
/-- An append whose end is known by an equation. -/
theorem append_known {P : Program} (w : World) {ops : Array Oper} {rest : List Oper} {o : Oper} {a : Act} {Q : Exit → Act → World → Prop} (hg : o.guard = none) (s x : Operand) (t : TypeId)
    (ho : o.op = .call { callee := .builtin .append, args := #[s, x], argTypes := #[t, t] }) (v u : Value) (hs : a.eval s = v) (hx : a.eval x = u) {v' : Value} {w' : World}
    (hr : (Builtin.append_ #[t, t] o.type #[v, u]).run P w = .ok v' w') (h : wpList P ops Q rest (a.put o.dst v') w') : wpList P ops Q (o :: rest) a w := by
  refine wpList_plain hg fun K hK => ?_
  unfold Oper.wp
  simp [execOp, ho, resolve, invoke, builtin, hs, hx, hr, Result.andThen]
  exact hK _ _ h
set_option maxRecDepth 100000 in
set_option maxHeartbeats 4000000 in
theorem SameL_bad (W w : World) (hq : Q W w) (oa ob : Option Addr) (n m ca cb : Nat) (line col : Int) (h : 300 < n ∨ 300 < m) :
    Calls Tryz.prog 7 #[.slice oa n ca, .slice ob m cb, .int .i64 line, .int .i64 col] w fun e w' => e = .returned (.bool true) ∧ Only (fun _ => False) w w' := by
  have hc : (decide (300 < (n : Int)) = true) ∨ (decide (300 < (n : Int)) = false ∧ decide (300 < (m : Int)) = true) := by simp; omega
  rcases hc with h1 | ⟨h1, h2⟩
  all_goals
    go_enter Tryz.func7, Tryz.ntmps7
    go_wp2_with (first | (go_at_call 10; ((with_reducible refine (awake_p W _ hq).mono ?_); rintro r wz ⟨rfl, hOz⟩)))
    go_ret
    exact ⟨rfl, hOz⟩
set_option maxRecDepth 100000 in
set_option maxHeartbeats 4000000 in
theorem SameL_ok (W w : World) (hq : Q W w) (oa ob : Option Addr) (n m ca cb : Nat) (line col : Int) (hn : n ≤ 300) (hm : m ≤ 300) (ts us : List Tok) (ha : Tks w oa n ts) (hb : Tks w ob m us) :
    Calls Tryz.prog 7 #[.slice oa n ca, .slice ob m cb, .int .i64 line, .int .i64 col] w fun e w' => e = .returned (.bool true) ∧ Only (fun _ => False) w w' := by
  by_cases hn0 : n = 0
  · subst hn0
    have hts : ts = [] := List.eq_nil_of_length_eq_zero ha.len
    obtain ⟨i0', hi, hz0, hz1, hz2⟩ := info_parts infoTok
    have hr : (Builtin.append_ #[23, 23] 23 #[.slice (some ⟨w.heap.size, 0, none⟩) 0 0, .slice oa 0 ca]).run Tryz.prog (w.alloc (.cells #[] 38)) = .ok (.slice (some ⟨w.heap.size, 0, none⟩) 0 0) (w.alloc (.cells #[] 38)) := by
      cases oa with
      | none => exact Go.run_append_nothing _ _ _ _ _ i0' Tryz.underlying23 hi _ 0 0 (Nat.le_refl _) _ (Go.Src.ofNil _ Tryz.underlying23 _)
      | some a => exact Go.run_append_nothing _ _ _ _ _ i0' Tryz.underlying23 hi _ 0 0 (Nat.le_refl _) _ (Go.Src.ofSlice _ Tryz.underlying23 a 0 _ [] (by simp) (fun j u h => by simp at h) (fun u h => by cases h))
    go_enter Tryz.func7, Tryz.ntmps7
    go_wp2_with (go_loud (first | (at_builtin; refine append_known _ rfl _ _ 23 rfl _ _ rfl rfl hr ?_)))
    have hCpy : Cpy (w.alloc (.cells #[] 38)) w.heap.size 0 (fun j => if j < 0 then chg line col (ts.getD j dT) else ts.getD j dT) := ⟨fun j => by unfold World.frozen?; rw [new_block]; simp, fun k hk => absurd hk (by omega)⟩
    have hO1 : Only (fun j => w.heap.size ≤ j) w (w.alloc (.cells #[] 38)) := Only.of_below ((Below.refl _ _).alloc (Nat.le_refl _) _)
    go_wp2
    go_loopw [25] (fun i wr => ∃ k : Nat, k ≤ 0 ∧ i = .int .i64 k ∧ Cpy wr w.heap.size 0 (fun j => if j < k then chg line col (ts.getD j dT) else ts.getD j dT) ∧ Only (fun j => w.heap.size ≤ j) w wr) (fun i _ => 0 - (intOf i).toNat)
    case atStart => exact ⟨0, by omega, rfl, hCpy, hO1⟩
    case round =>
      obtain ⟨k, hk, rfl, hC, hO⟩ := hrel
      by_cases hlt : k < 0
      · exact absurd hlt (by omega)
      · have hA1 : Tks wr oa 0 ts := ha.keep hO.new
        have hB1 : Tks wr ob m us := hb.keep hO.new
        have hC1 : Tks wr (some ⟨w.heap.size, 0, none⟩) 0 (ts.map (chg line col)) := hC.tks (by omega) ha.len
        have hQ1 : Q W wr := hq.only hO (fun i hi => Nat.le_trans hq.bel.size hi)
        obtain ⟨v, hv⟩ : ∃ v, sameL ts us = v := ⟨_, rfl⟩
        have HV := Lib.hid hv
        have HVC : Hid (sameL ts (ts.map (chg line col)) = true) := Lib.hid (same_chg ts line col)
        clear hv hC
        go_wp2_with (go_loud (first | (go_at_call 17; ((with_reducible refine (Same_p _ _ _ 0 m ca cb ts us (by omega) (by omega) hA1 hB1).mono ?_); rw [HV.out]; rintro r w2 ⟨rfl, hO2⟩; have hA2 := hA1.keep hO2; have hB2 := hB1.keep hO2; have hC2 := hC1.keep hO2)) | (go_at_call 18; ((with_reducible refine (rSame_p _ _ _ 0 m ca cb ts us (by omega) (by omega) hA2 hB2).mono ?_); rw [HV.out]; rintro r w3 ⟨rfl, hO3⟩; have hA3 := hA2.keep hO3; have hC3 := hC2.keep hO3)) | (go_at_call 17; ((with_reducible refine (Same_p _ _ _ 0 0 ca 0 ts (ts.map (chg line col)) (by omega) (by omega) hA3 hC3).mono ?_); rw [HVC.out]; rintro r w4 ⟨rfl, hO4⟩; have hQ4 := ((hQ1.only hO2 (fun _ h => h.elim)).only hO3 (fun _ h => h.elim)).only hO4 (fun _ h => h.elim))) | (go_at_call 10; ((with_reducible refine (awake_p W _ hQ4).mono ?_); rintro r wz ⟨rfl, hOz⟩))))
        go_ret
        exact ⟨rfl, ((((hO.new.trans hO2).trans hO3).trans hO4).trans hOz)⟩

  · have hn1 : 0 < n := by omega
    have hl := ha.len
    obtain ⟨b, o, rfl, hc0⟩ := ha.cell 0 (by omega)
    obtain ⟨i0', hi, hz0, hz1, hz2⟩ := info_parts infoTok
    have hgw' := (alloc_only w (.cells #[] 38)).size
    have hF : ∀ j u, (ts.flatMap tokCells)[j]? = some u → (w.alloc (.cells #[] 38)).cell? ((⟨b, o, none⟩ : Addr).add j) = some u := fun j u hu => by rw [add_plain']; exact (ha.keep (alloc_only w _)).flat j u hu
    have hnil : ∀ (a : Addr), some ⟨w.heap.size, 0, none⟩ = some a → ∀ (j : Nat) (u : Value), ([] : List Value)[j]? = some u → (w.alloc (.cells #[] 38)).cell? (a.add j) = some u := fun _ _ j u h => by simp at h
    have hFl : (ts.flatMap tokCells).length = n * 7 := by rw [flat_len, hl]
    clear hc0
    go_enter Tryz.func7, Tryz.ntmps7
    go_wp2_with (go_loud (at_builtin; refine wpList_append_grows _ rfl _ _ 23 rfl 38 i0' _ 7 72 Tryz.underlying23 hi hz0 hz1 hz2 rfl (by decide) (some ⟨w.heap.size, 0, none⟩) 0 0 [] rfl (fun _ => ⟨rfl, rfl⟩) rfl hnil ⟨b, o, none⟩ n _ (ts.flatMap tokCells) rfl hFl hF flat_one ?c1 ?c2 ?c3 ?_))
    case c1 => omega
    case c2 => unfold maxLen; omega
    case c3 => omega
    intro v' w1 hown hgrow
    have hT : TR w1 (w.heap.size + 1) v' ts := by unfold TR; rw [hl]; exact hown
    rcases hown.2 with ⟨hv, hz⟩ | ⟨g, cap, cur, rfl, hbg, hg, r⟩
    · omega
    have hgw : w.heap.size ≤ g := by omega
    have hT' : TR w1 (w.heap.size + 1) (.slice (some ⟨g, 0, none⟩) ts.length cap) ts := by rw [hl]; exact hT
    have hCpy : Cpy w1 g n (fun j => if j < 0 then chg line col (ts.getD j dT) else ts.getD j dT) := by
      refine ⟨fun j => by simp [World.frozen?, hg], fun k hk => ?_⟩
      have hk' : k < ts.length := by omega
      have h := hT'.tks.at7 k _ (List.getElem?_eq_getElem hk')
      rw [Nat.zero_add] at h
      simp only [Nat.not_lt_zero, if_false, List.getD_eq_getElem?_getD, List.getElem?_eq_getElem hk']
      exact h
    have hO1 : Only (fun j => w.heap.size ≤ j) w w1 := (alloc_only w _).lift.trans (Only.grown hgrow (fun g h => by cases h))
    clear hown hgrow hT hT' hg r hF hFl hbg hgw'
    go_wp2
    go_loopw [25] (fun i wr => ∃ k : Nat, k ≤ n ∧ i = .int .i64 k ∧ Cpy wr g n (fun j => if j < k then chg line col (ts.getD j dT) else ts.getD j dT) ∧ Only (fun j => w.heap.size ≤ j) w wr) (fun i _ => n - (intOf i).toNat)
    case atStart => exact ⟨0, by omega, rfl, hCpy, hO1⟩
    case round =>
      obtain ⟨k, hk, rfl, hC, hO⟩ := hrel
      by_cases hlt : k < n
      · obtain ⟨x, hx⟩ : ∃ x, ts.getD k dT = x := ⟨_, rfl⟩
        have hc : TC wr g (k * 7) x := by have h := hC.tc k hlt; simp only [Nat.lt_irrefl, if_false] at h; rw [hx] at h; exact h
        have HC1 : Hid (Cpy (((wr.setCell ⟨g, k * 7 + 5, none⟩ (.int .i64 line)).setCell ⟨g, k * 7 + 6, none⟩ (.int .i64 col)).setCell ⟨g, k * 7 + 4, none⟩ (.bool (!x.auto))) g n (fun j => if j < k + 1 then chg line col (ts.getD j dT) else ts.getD j dT)) := Lib.hid (hC.chg hlt hx)
        have z4 := hC.fz (k * 7 + 4)
        have z5 := hC.fz (k * 7 + 5)
        have z6 := hC.fz (k * 7 + 6)
        obtain ⟨p0, p1, p2, p3, p4, p5, p6⟩ := hc
        clear hx hC
        go_wp2
        go_roundw
        case rel => exact ⟨k + 1, by omega, by go_num, HC1.out, Only.setCell (k := k * 7 + 4) (Only.setCell (k := k * 7 + 6) (Only.setCell (k := k * 7 + 5) hO hgw _) hgw _) hgw _⟩
        case measure => simp [intOf]; omega
      · have hA1 : Tks wr (some ⟨b, o, none⟩) n ts := ha.keep hO.new
        have hB1 : Tks wr ob m us := hb.keep hO.new
        have hC1 : Tks wr (some ⟨g, 0, none⟩) n (ts.map (chg line col)) := hC.tks (by omega) ha.len
        have hQ1 : Q W wr := hq.only hO (fun i hi => Nat.le_trans hq.bel.size hi)
        obtain ⟨v, hv⟩ : ∃ v, sameL ts us = v := ⟨_, rfl⟩
        have HV := Lib.hid hv
        have HVC : Hid (sameL ts (ts.map (chg line col)) = true) := Lib.hid (same_chg ts line col)
        clear hv hC
        go_wp2_with (go_loud (first | (go_at_call 17; ((with_reducible refine (Same_p _ _ _ n m ca cb ts us (by omega) (by omega) hA1 hB1).mono ?_); rw [HV.out]; rintro r w2 ⟨rfl, hO2⟩; have hA2 := hA1.keep hO2; have hB2 := hB1.keep hO2; have hC2 := hC1.keep hO2)) | (go_at_call 18; ((with_reducible refine (rSame_p _ _ _ n m ca cb ts us (by omega) (by omega) hA2 hB2).mono ?_); rw [HV.out]; rintro r w3 ⟨rfl, hO3⟩; have hA3 := hA2.keep hO3; have hC3 := hC2.keep hO3)) | (go_at_call 17; ((with_reducible refine (Same_p _ _ _ n n ca cap ts (ts.map (chg line col)) (by omega) (by omega) hA3 hC3).mono ?_); rw [HVC.out]; rintro r w4 ⟨rfl, hO4⟩; have hQ4 := ((hQ1.only hO2 (fun _ h => h.elim)).only hO3 (fun _ h => h.elim)).only hO4 (fun _ h => h.elim))) | (go_at_call 10; ((with_reducible refine (awake_p W _ hQ4).mono ?_); rintro r wz ⟨rfl, hOz⟩))))
        go_ret
        exact ⟨rfl, ((((hO.new.trans hO2).trans hO3).trans hO4).trans hOz)⟩

end Go.Proofs.YtelichlplblboaaGreatDoor
