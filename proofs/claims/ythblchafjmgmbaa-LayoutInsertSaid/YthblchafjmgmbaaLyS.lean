/-
  WALKS. The program's Insert answers what insP says.
-/
import Derived.Test.YthblchafjmgmbaaLyQ
import Derived.Test.YthblchafjmgmbaaLyR
import Derived.Test.YthblchafjmgmbaaLySa
namespace Go.Proofs.Ythblchafjmgmbaa
open Go.RowKit Go.Maps
/-- A fault's variable at g. -/
def FB (w : World) (g : Nat) (c : Int) (nm : ByteArray) (l co : Int) : Prop := w.heap[g]? = some (.cells #[.int .i64 c, .string nm, .int .i64 l, .int .i64 co] 27 (0, 0))
section
variable {w w' : World} {g : Nat} {c : Int} {nm : ByteArray} {l co : Int}
theorem FB.only {K : Nat → Prop} (h : FB w g c nm l co) (ho : Only K w w') (hk : ¬ K g) : FB w' g c nm l co := (ho.block g (lt_of_block h) hk).trans h
theorem FB.same (h : FB w g c nm l co) (ho : Only (fun _ => False) w w') : FB w' g c nm l co := h.only ho (fun hc => hc)
theorem FB.all (h : FB w g c nm l co) : w.cell? ⟨g, 0, none⟩ = some (.int .i64 c) ∧ w.cell? ⟨g, 1, none⟩ = some (.string nm) ∧ w.cell? ⟨g, 2, none⟩ = some (.int .i64 l) ∧ w.cell? ⟨g, 3, none⟩ = some (.int .i64 co) := by
  unfold FB at h
  refine ⟨?_, ?_, ?_, ?_⟩ <;> simp [World.cell?, h]
theorem FB.fz (h : FB w g c nm l co) (k : Nat) : w.frozen? ⟨g, k, none⟩ = false := by unfold FB at h; simp [World.frozen?, h]
abbrev fSets (w : World) (g : Nat) (c : Int) (nm : ByteArray) (l co : Int) : World := (((w.setCell ⟨g, 0, none⟩ (.int .i64 c)).setCell ⟨g, 1, none⟩ (.string nm)).setCell ⟨g, 2, none⟩ (.int .i64 l)).setCell ⟨g, 3, none⟩ (.int .i64 co)
theorem FB.sets (h : FB w g c nm l co) (c' : Int) (nm' : ByteArray) (l' co' : Int) : FB (fSets w g c' nm' l' co') g c' nm' l' co' := by
  unfold FB at h ⊢
  simp [World.setCell, Array.getElem?_modify, h]
theorem Only.fsets {K : Nat → Prop} {w0 : World} (h : Only K w0 w) (hg : w0.heap.size ≤ g) (c' : Int) (nm' : ByteArray) (l' co' : Int) : Only K w0 (fSets w g c' nm' l' co') := (((h.setNew hg _).setNew hg _).setNew hg _).setNew hg _
end
theorem Only.fsetsK (w : World) (g : Nat) (c' : Int) (nm' : ByteArray) (l' co' : Int) : Only (fun i => i = g) w (fSets w g c' nm' l' co') := Only.setCell (K := fun i => i = g) (Only.setCell (K := fun i => i = g) (Only.setCell (K := fun i => i = g) (Only.setCell (K := fun i => i = g) (Only.refl _ _) rfl _) rfl _) rfl _) rfl _
abbrev fltV (c : Int) (nm : ByteArray) (l co : Int) : Value := .agg #[.int .i64 c, .string nm, .int .i64 l, .int .i64 co]
/-- What Insert leaves. -/
def InR (w : World) (R : II) (r : Ending) (w' : World) : Prop := Only (fun _ => False) w w' ∧ match R with
  | .bad c nm l co => r = .returned (.tuple #[.slice none 0 0, fltV c nm l co])
  | .ok ts => ∃ vo, r = .returned (.tuple #[vo, fltV 0 ⟨#[]⟩ 0 0]) ∧ TR w' w.heap.size vo ts
def firstOf (last : Option Tok) (t : Tok) : Bool := match last with | none => false | some p => decide (p.line < t.line)
theorem insF_step (t : Tok) (ts : List Tok) (last : Option Tok) (s : St) (first : Bool) (hf : firstOf last t = first) : insF (t :: ts) last s = (match tokenS s t first with | none => fltT t | some s' => insF ts (some t) s') := by
  subst hf
  cases last <;> rfl
theorem insF_end (last : Option Tok) (s : St) : insF [] last s = (match endS s with | none => (last.map fltT).getD (.bad 0 ⟨#[]⟩ 0 0) | some l => if 16384 < l.length then .bad 3 ⟨#[]⟩ 0 0 else .ok l) := rfl
/-- Some ending whose result stands in a fault's variable. -/
theorem ins_end {a : Act} {w W : World} {R : II} {v : Value} {c : Int} {nm : ByteArray} {l co : Int} (ht2 : a.tmps[2]? = some v) (ht3 : a.tmps[3]? = some (.pointer (some ⟨w.heap.size, 0, none⟩))) (hd : a.defers = [])
    (hF : FB W w.heap.size c nm l co) (hR : Ending.returned (.tuple #[v, fltV c nm l co]) = Ending.returned (.tuple #[v, fltV c nm l co]) → InR w R (.returned (.tuple #[v, fltV c nm l co])) W) :
    bodyPost Try.prog Try.f6 (InR w R) .ret a W := by
  obtain ⟨d0, d1, d2, d3⟩ := hF.all
  refine bodyPost_ret (v := .tuple #[v, fltV c nm l co]) ?_ hd (hR rfl)
  simp [results, Try.results6, go_sem, ht2, ht3, d0, d1, d2, d3]
theorem rowMono {w : World} {B B' n size : Nat} {e : TypeId} {v : Value} {xs : List Value} (h : w.ownsRow B e size v n xs) (hb : B' ≤ B) : w.ownsRow B' e size v n xs := by
  obtain ⟨h1, h2⟩ := h
  refine ⟨h1, ?_⟩
  rcases h2 with hn | ⟨g, cap, cur, hv, hB, hg, hr⟩
  · exact .inl hn
  · exact .inr ⟨g, cap, cur, hv, Nat.le_trans hb hB, hg, hr⟩
theorem Tks.old {w w' : World} {oa : Option Addr} {n : Nat} {ts : List Tok} {K : Nat → Prop} (h : Tks w oa n ts) (ho : Only K w w') (hk : ∀ i, i < w.heap.size → ¬ K i) : Tks w' oa n ts :=
  ⟨h.len, fun k hl => by obtain ⟨b, o, e, hc⟩ := h.cell k hl; exact ⟨b, o, e, hc.only ho (hk _ (cell_lt hc.c0))⟩⟩
set_option maxRecDepth 100000 in
set_option maxHeartbeats 16000000 in
theorem Insert_bad (w : World) (oa : Option Addr) (n ca : Nat) (ts : List Tok) (hn : n ≤ 100000000000) (hT : Tks w oa n ts) (ha : ts.any (·.auto) = true) :
    Calls Try.prog 6 #[.slice oa n ca] w (InR w (insP ts)) := by
  have HR : Hid (insP ts = .bad 1 ⟨#[]⟩ 0 0) := Lib.hid (by unfold insP; rw [ha]; rfl)
  have HA := Lib.hid ha
  clear ha
  have f0 : FB (w.alloc (.cells #[.int .i64 0, .string ⟨#[]⟩, .int .i64 0, .int .i64 0] 27)) w.heap.size 0 ⟨#[]⟩ 0 0 := new_block _ _
  have hA : Only (fun _ => False) w (w.alloc (.cells #[.int .i64 0, .string ⟨#[]⟩, .int .i64 0, .int .i64 0] 27)) := (Only.refl _ _).alloc _
  have hT0 := hT.keep hA
  go_enter Try.func6, Try.ntmps6
  go_wp2_with (go_at_call 10; refine (contains_p _ oa n ca ts hn hT0 true HA.out).mono ?_; rintro r w1 ⟨rfl, hO1⟩; have f1 := f0.same hO1; obtain ⟨d0, d1, d2, d3⟩ := f1.all; have y0 := f1.fz 0; have y1 := f1.fz 1; have y2 := f1.fz 2; have y3 := f1.fz 3)
  refine ins_end rfl rfl rfl (f1.sets 1 ⟨#[]⟩ 0 0) (fun _ => ?_)
  rw [HR.out]
  exact ⟨(hA.trans hO1).fsets (Nat.le_refl _) _ _ _ _, rfl⟩
theorem last_of {ts : List Tok} {k : Nat} {hk : k < ts.length} {t : Tok} (h : ts[k] = t) {j : Nat} (e : j = k) (hj : j < ts.length) : some t = some ts[j] := by subst e; rw [h]
theorem wpStill_skip {P : Program} {ops : Array Oper} {w : World} {Q : Act → Prop} {a : Act} {o : Oper} {rest : List Oper} (hw : Region.wanted o (yielded ops a.tmps) = false) (h : wpStill P ops w Q rest (a.put o.dst undef)) : wpStill P ops w Q (o :: rest) a :=
  wpStill_step (fun K hK => by rw [hw]; exact hK _ h)
theorem still_val {P : Program} {ops : Array Oper} {w : World} {Q : Act → Prop} {a : Act} {o : Oper} {rest : List Oper} (v : Value) (hw : Region.wanted o (yielded ops a.tmps) = true) (hv : (execOp a.eval o).run P w = .ok (.value v) w) (h : wpStill P ops w Q rest (a.put o.dst v)) : wpStill P ops w Q (o :: rest) a := by
  unfold wpStill
  rw [if_pos hw]
  unfold Oper.still
  rw [hv, Oper.stillUpon_value]
  exact h
/-- A goal behind a structure: nothing looks into it. -/
structure Cover (p : Prop) : Prop where
  out : p
theorem hid_go {p : Prop} (h : Cover p) : p := h.out
theorem hid_val {P : Program} {ops : Array Oper} {w : World} {Q : Act → Prop} {a : Act} {o : Oper} {rest : List Oper} (v : Value) (hw : Region.wanted o (yielded ops a.tmps) = true) (hv : (execOp a.eval o).run P w = .ok (.value v) w) (h : Cover (wpStill P ops w Q rest (a.put o.dst v))) : Cover (wpStill P ops w Q (o :: rest) a) := Cover.mk (still_val v hw hv h.out)
theorem hid_skip {P : Program} {ops : Array Oper} {w : World} {Q : Act → Prop} {a : Act} {o : Oper} {rest : List Oper} (hw : Region.wanted o (yielded ops a.tmps) = false) (h : Cover (wpStill P ops w Q rest (a.put o.dst undef))) : Cover (wpStill P ops w Q (o :: rest) a) := Cover.mk (wpStill_skip hw h.out)
theorem hid_nil {P : Program} {ops : Array Oper} {w : World} {Q : Act → Prop} {a : Act} (h : Q a) : Cover (wpStill P ops w Q [] a) := Cover.mk (wpStill_nil h)
theorem hid_valN {P : Program} {ops : Array Oper} {w : World} {Q : Act → Prop} {a : Act} {o : Oper} {rest : List Oper} (v : Value) (hw : Region.wanted o (yielded ops a.tmps) = true) (hv : (execOp a.eval o).run P w = .ok (.value v) w) (h : ∀ a', a.put o.dst v = a' → Cover (wpStill P ops w Q rest a')) : Cover (wpStill P ops w Q (o :: rest) a) := hid_val v hw hv (h _ rfl)
theorem hid_skipN {P : Program} {ops : Array Oper} {w : World} {Q : Act → Prop} {a : Act} {o : Oper} {rest : List Oper} (hw : Region.wanted o (yielded ops a.tmps) = false) (h : ∀ a', a.put o.dst undef = a' → Cover (wpStill P ops w Q rest a')) : Cover (wpStill P ops w Q (o :: rest) a) := hid_skip hw (h _ rfl)
abbrev s0I : St := ⟨[], 0, [], true, ⟨#[]⟩⟩
set_option maxRecDepth 100000 in
set_option maxHeartbeats 16000000 in
theorem Insert_ok (w : World) (oa : Option Addr) (n ca : Nat) (ts : List Tok) (hn : n ≤ 100000000000) (hT : Tks w oa n ts) (ha : ts.any (·.auto) = false) :
    Calls Try.prog 6 #[.slice oa n ca] w (InR w (insP ts)) := by
  have HR : Hid (insP ts = insF ts none s0I) := Lib.hid (by unfold insP; rw [ha]; rfl)
  have HA := Lib.hid ha
  clear ha
  have HL := Lib.hid hT.len
  have f0 : FB (w.alloc (.cells #[.int .i64 0, .string ⟨#[]⟩, .int .i64 0, .int .i64 0] 27)) w.heap.size 0 ⟨#[]⟩ 0 0 := new_block _ _
  have hA : Only (fun _ => False) w (w.alloc (.cells #[.int .i64 0, .string ⟨#[]⟩, .int .i64 0, .int .i64 0] 27)) := (Only.refl _ _).alloc _
  have hT0 := hT.keep hA
  go_enter Try.func6, Try.ntmps6
  go_wp2_with (go_at_call 10; refine (contains_p _ oa n ca ts hn hT0 false HA.out).mono ?_; rintro r w1 ⟨rfl, hO1⟩; have f1 := f0.same hO1)
  have hwb : w.heap.size < w1.heap.size := lt_of_block f1
  obtain ⟨b, hb⟩ : ∃ b, w1.heap.size = b := ⟨_, rfl⟩
  have hbl : (w1.alloc (.cells #[.slice none 0 0, .int .i64 0, .slice none 0 0, .bool true, .string ⟨#[]⟩] 42)).heap[b]? = some (.cells #[.slice none 0 0, .int .i64 0, .slice none 0 0, .bool true, .string ⟨#[]⟩] 42 (0, 0)) := new_at _ hb
  have hIS : IS (w1.alloc (.cells #[.slice none 0 0, .int .i64 0, .slice none 0 0, .bool true, .string ⟨#[]⟩] 42)) b (.slice none 0 0) (.slice none 0 0) s0I := ⟨hbl, World.ownsRow_nil _ _ _ _, World.ownsRow_nil _ _ _ _⟩
  have fI := f1.same ((Only.refl (fun _ => False) w1).alloc (.cells #[.slice none 0 0, .int .i64 0, .slice none 0 0, .bool true, .string ⟨#[]⟩] 42))
  rw [hb] at hwb
  have HB := Lib.hid hb
  have hOI := (hA.trans hO1).alloc (.cells #[.slice none 0 0, .int .i64 0, .slice none 0 0, .bool true, .string ⟨#[]⟩] 42)
  rw [hb]
  clear hb
  go_loopw [14] (fun i wr => ∃ (k : Nat) (s : St) (ve vo : Value) (last : Option Tok), k ≤ n ∧ i = .int .i64 k ∧ IS wr b ve vo s ∧ Ok (8 * (n - k) + 2) s ∧ Hid (insF (ts.drop k) last s = insF ts none s0I) ∧ Hid (∀ j (_ : k = j + 1) (hj : j < ts.length), last = some ts[j]) ∧ Hid (k = 0 → last = none ∧ s = s0I) ∧ FB wr w.heap.size 0 ⟨#[]⟩ 0 0 ∧ Only (fun _ => False) w wr) (fun i _ => n - (intOf i).toNat)
  case atStart => exact ⟨0, s0I, _, _, none, Nat.zero_le _, rfl, hIS, ok0 _ (by omega), Lib.hid rfl, Lib.hid (fun j h _ => by omega), Lib.hid (fun _ => ⟨rfl, rfl⟩), fI, hOI⟩
  case round =>
    clear hIS fI hOI hbl f0 hA hT0 f1 hO1
    obtain ⟨k, s, ve, vo, last, hk, rfl, hS, hok, HF, HLA, HZ, hFB, hO⟩ := hrel
    by_cases hlt : k < n
    · have hkt : k < ts.length := by rw [HL.out]; exact hlt
      obtain ⟨bb, o, hoa, hc⟩ := (hT.keep hO).cell k hkt
      subst hoa
      obtain ⟨t, ht⟩ : ∃ t, ts[k] = t := ⟨_, rfl⟩
      have hdr : ts.drop k = t :: ts.drop (k + 1) := by rw [List.drop_eq_getElem_cons hkt, ht]
      rw [ht] at hc
      have hok8 : Ok (8 * (n - (k + 1)) + 2 + 8) s := hok.less (by omega)
      have hokT : Ok 8 s := hok.less (by omega)
      have HDR := Lib.hid hdr
      have HTT := Lib.hid ht
      have hbs := hS.lt
      clear hdr ht
      obtain ⟨p0, p1, p2, p3, p4, p5, p6⟩ := hc
      cases k with
      | zero =>
        obtain ⟨hl0, hs0⟩ := HZ.out rfl
        subst hl0
        have HST := Lib.hid (insF_step t (ts.drop (0 + 1)) none s false rfl)
        simp only [Nat.zero_mul, Nat.add_zero] at p0 p1 p2 p3 p4 p5 p6
        rw [show ((0 : Nat) : Int) = 0 from rfl]
        go_wp2
        refine still_tail_w 15 (by kernel_rfl) (by kernel_rfl) (fun wd => IS wd b ve vo s ∧ TB wd wr.heap.size t ∧ FB wd w.heap.size 0 ⟨#[]⟩ 0 0 ∧ Only (fun _ => False) w wd ∧ Pr wd b ve vo wr.heap.size) ⟨hS.same ((Only.alloc (Only.refl (fun _ => False) wr) (.cells (tokA t) 33)).drew), (show TB _ _ t from new_block wr _), hFB.same ((Only.alloc (Only.refl (fun _ => False) wr) (.cells (tokA t) 33)).drew), hO.trans ((Only.alloc (Only.refl (fun _ => False) wr) (.cells (tokA t) 33)).drew), hS.pr (Nat.le_refl _) (by show wr.heap.size < (wr.heap.push _).size; simp)⟩ ?_
        clear p0 p1 p2 p3 p4 p5 p6
        rintro wd ⟨hSd, hTd, hFd, hOd, hPd⟩
        have q5 := hTd.c5
        obtain ⟨q0, q1, q2, q3, q4, q5', q6⟩ := hTd.all
        clear q5'
        simp only [List.take_succ_cons, List.take_zero, List.drop_succ_cons, List.drop_zero]
        iterate 4 still_step
        refine hid_go ?_
        (refine hid_valN (.bool false) rfl rfl ?_; intro a' ha; simp [go_sem] at ha; subst ha)
        iterate 9 (refine hid_skipN rfl ?_; intro a' ha; simp [go_sem] at ha; subst ha)
        (refine hid_valN (.bool false) rfl rfl ?_; intro a' ha; simp [go_sem] at ha; subst ha)
        refine hid_nil ?_
        clear q0 q1 q2 q3 q4 q5 q6
        cases htk : tokenS s t (false) with
        | none =>
          have HR2 : Hid (insP ts = .bad 9 t.text t.line t.col) := Lib.hid (by rw [HR.out, ← HF.out, HDR.out, HST.out, htk]; rfl)
          have HTK := Lib.hid htk
          clear htk
          go_wp2_with (first | (go_at_call 12; refine (token_p hSd hokT t _).mono ?_; rw [HTK.out]; rintro r w5 ⟨rfl, ve5, vo5, hF5⟩; have hlow := Frm.low hSd hF5; have hFB5 := hFd.only hlow (by omega); have hT5 := TB.frm hTd hPd hF5; obtain ⟨m0, m1, m2, m3, m4, m5, m6⟩ := hT5.all) | (go_at_call 13; refine (faultAt_p t _).mono ?_; rintro r w6 ⟨rfl, hO6⟩; have hFB6 := hFB5.same hO6; obtain ⟨e0, e1, e2, e3⟩ := hFB6.all; have y0 := hFB6.fz 0; have y1 := hFB6.fz 1; have y2 := hFB6.fz 2; have y3 := hFB6.fz 3))
          refine ins_end rfl rfl rfl (hFB6.sets 9 t.text t.line t.col) (fun _ => ?_)
          rw [HR2.out]
          exact ⟨((hOd.then hlow (fun i hi => .inr (by omega))).trans hO6).fsets (Nat.le_refl _) _ _ _ _, rfl⟩
        | some s2 =>
          have hok2 := hok8.token htk
          have HF2 : Hid (insF (ts.drop (0 + 1)) (some t) s2 = insF ts none s0I) := Lib.hid (by rw [← HF.out, HDR.out, HST.out, htk])
          have HTK := Lib.hid htk
          clear htk
          go_wp2_with (go_at_call 12; refine (token_p hSd hokT t _).mono ?_; rw [HTK.out]; rintro r w5 ⟨rfl, ve5, vo5, hS5, hF5⟩; have hlow := Frm.low hSd hF5; have hFB5 := hFd.only hlow (by omega))
          go_roundw
          case rel => exact ⟨0 + 1, s2, ve5, vo5, some t, by omega, by go_num, hS5, hok2, HF2, Lib.hid (fun j' hj' hjj => last_of HTT.out (show j' = 0 by omega) hjj), Lib.hid (fun h0 => by omega), hFB5, hOd.then hlow (fun i hi => .inr (by omega))⟩
          case measure => simp [intOf]; omega
      | succ j =>
        have hjt : j < ts.length := by omega
        have hla := HLA.out j rfl hjt
        obtain ⟨p, hp⟩ : ∃ p, ts[j] = p := ⟨_, rfl⟩
        rw [hp] at hla
        subst hla
        have hpc : TC wr bb (o + j * 7) p := by
          obtain ⟨bb', o', hoa', hc'⟩ := (hT.keep hO).cell j hjt
          cases hoa'
          rw [hp] at hc'; exact hc'
        have HPP := Lib.hid hp
        clear hp
        have HST := Lib.hid (insF_step t (ts.drop (j + 1 + 1)) (some p) s (decide (p.line < t.line)) rfl)
        have hjn : (j : Int) < (n : Int) := by omega
        have hjn2 : j < n := by omega
        have h01 : (0 : Int) < (j : Int) + 1 := by omega
        have hwm : IntKind.i64.wrap (j : Int) = (j : Int) := IntWalk.i64_in _ (by omega)
        have HW := Lib.hid hwm
        clear hwm
        go_wp2
        have hwm := HW.out
        refine still_tail_w 15 (by kernel_rfl) (by kernel_rfl) (fun wd => IS wd b ve vo s ∧ TB wd wr.heap.size t ∧ FB wd w.heap.size 0 ⟨#[]⟩ 0 0 ∧ Only (fun _ => False) w wd ∧ Pr wd b ve vo wr.heap.size ∧ TC wd bb (o + j * 7) p) ⟨hS.same ((Only.alloc (Only.refl (fun _ => False) wr) (.cells (tokA t) 33)).drew), (show TB _ _ t from new_block wr _), hFB.same ((Only.alloc (Only.refl (fun _ => False) wr) (.cells (tokA t) 33)).drew), hO.trans ((Only.alloc (Only.refl (fun _ => False) wr) (.cells (tokA t) 33)).drew), hS.pr (Nat.le_refl _) (by show wr.heap.size < (wr.heap.push _).size; simp), hpc.only ((Only.alloc (Only.refl (fun _ => False) wr) (.cells (tokA t) 33)).drew) (fun hc => hc)⟩ ?_
        clear p0 p1 p2 p3 p4 p5 p6
        rintro wd ⟨hSd, hTd, hFd, hOd, hPd, hpd⟩
        have q5 := hTd.c5
        obtain ⟨q0, q1, q2, q3, q4, q5', q6⟩ := hTd.all
        clear q5'
        have l5 := hpd.c5
        clear hpd
        simp only [List.take_succ_cons, List.take_zero, List.drop_succ_cons, List.drop_zero]
        repeat still_step
        refine wpStill_nil ?_
        clear q0 q1 q2 q3 q4 q5 q6 l5 hwm h01 hjn
        cases htk : tokenS s t (decide (p.line < t.line)) with
        | none =>
          have HR2 : Hid (insP ts = .bad 9 t.text t.line t.col) := Lib.hid (by rw [HR.out, ← HF.out, HDR.out, HST.out, htk]; rfl)
          have HTK := Lib.hid htk
          clear htk
          go_wp2_with (first | (go_at_call 12; refine (token_p hSd hokT t _).mono ?_; rw [HTK.out]; rintro r w5 ⟨rfl, ve5, vo5, hF5⟩; have hlow := Frm.low hSd hF5; have hFB5 := hFd.only hlow (by omega); have hT5 := TB.frm hTd hPd hF5; obtain ⟨m0, m1, m2, m3, m4, m5, m6⟩ := hT5.all) | (go_at_call 13; refine (faultAt_p t _).mono ?_; rintro r w6 ⟨rfl, hO6⟩; have hFB6 := hFB5.same hO6; obtain ⟨e0, e1, e2, e3⟩ := hFB6.all; have y0 := hFB6.fz 0; have y1 := hFB6.fz 1; have y2 := hFB6.fz 2; have y3 := hFB6.fz 3))
          refine ins_end rfl rfl rfl (hFB6.sets 9 t.text t.line t.col) (fun _ => ?_)
          rw [HR2.out]
          exact ⟨((hOd.then hlow (fun i hi => .inr (by omega))).trans hO6).fsets (Nat.le_refl _) _ _ _ _, rfl⟩
        | some s2 =>
          have hok2 := hok8.token htk
          have HF2 : Hid (insF (ts.drop (j + 1 + 1)) (some t) s2 = insF ts none s0I) := Lib.hid (by rw [← HF.out, HDR.out, HST.out, htk])
          have HTK := Lib.hid htk
          clear htk
          go_wp2_with (go_at_call 12; refine (token_p hSd hokT t _).mono ?_; rw [HTK.out]; rintro r w5 ⟨rfl, ve5, vo5, hS5, hF5⟩; have hlow := Frm.low hSd hF5; have hFB5 := hFd.only hlow (by omega))
          go_roundw
          case rel => exact ⟨j + 1 + 1, s2, ve5, vo5, some t, by omega, by go_num, hS5, hok2, HF2, Lib.hid (fun j' hj' hjj => last_of HTT.out (show j' = j + 1 by omega) hjj), Lib.hid (fun h0 => by omega), hFB5, hOd.then hlow (fun i hi => .inr (by omega))⟩
          case measure => simp [intOf]; omega
    · have hkn : k = n := by omega
      subst hkn
      have hdn : ts.drop k = [] := List.drop_eq_nil_of_le (by rw [HL.out]; exact Nat.le_refl _)
      have hie := insF_end last s
      rw [← hdn, HF.out, ← HR.out] at hie
      have HIE := Lib.hid hie
      clear hdn hie
      have hok2 : Ok 2 s := hok.less (by omega)
      cases he : endS s with
      | none =>
        have hk0 : k ≠ 0 := fun h0 => by
          obtain ⟨-, hs0⟩ := HZ.out h0
          rw [hs0] at he
          cases he
        obtain ⟨j, rfl⟩ : ∃ j, k = j + 1 := ⟨k - 1, by omega⟩
        have hjt : j < ts.length := by rw [HL.out]; omega
        have hla := HLA.out j rfl hjt
        obtain ⟨p, hp⟩ : ∃ p, ts[j] = p := ⟨_, rfl⟩
        rw [hp] at hla
        have HR2 : Hid (insP ts = .bad 9 p.text p.line p.col) := Lib.hid (by rw [HIE.out, he, hla]; rfl)
        have HE := Lib.hid he
        obtain ⟨bb, o, hoa, hc⟩ := (hT.keep hO).cell j hjt
        subst hoa
        rw [hp] at hc
        have hcb : bb < w.heap.size := by
          obtain ⟨bb', o', hoa', hc'⟩ := hT.cell j hjt
          cases hoa'
          exact cell_lt hc'.c0
        have hjn : (j : Int) < (j : Int) + 1 := by omega
        clear he hla hp
        go_wp2_with (first | (go_at_call 14; refine (end_p hS hok2).mono ?_; rw [HE.out]; rintro r w5 ⟨rfl, hO5⟩; have hFB5 := hFB.only hO5 (by omega); obtain ⟨m0, m1, m2, m3, m4, m5, m6⟩ := hc.only hO5 (by omega); have hHO := Lib.hid hO5; clear hO5) | (go_at_call 13; refine (faultAt_p p _).mono ?_; rintro r w6 ⟨rfl, hO6⟩; have hFB6 := hFB5.same hO6; obtain ⟨e0, e1, e2, e3⟩ := hFB6.all; have y0 := hFB6.fz 0; have y1 := hFB6.fz 1; have y2 := hFB6.fz 2; have y3 := hFB6.fz 3))
        refine ins_end rfl rfl rfl (hFB6.sets 9 p.text p.line p.col) (fun _ => ?_)
        rw [HR2.out]
        exact ⟨((hO.then hHO.out (fun i hi => .inr (by omega))).trans hO6).fsets (Nat.le_refl _) _ _ _ _, rfl⟩
      | some l =>
        have HE := Lib.hid he
        by_cases hbig : 16384 < l.length
        · have HR2 : Hid (insP ts = .bad 3 ⟨#[]⟩ 0 0) := Lib.hid (by rw [HIE.out, he]; simp only; rw [if_pos hbig])
          have hb1 : decide ((16384 : Int) < (l.length : Int)) = true := decide_eq_true (by omega)
          have hb2 : decide (16384 < l.length) = true := decide_eq_true hbig
          clear he
          go_wp2_with (go_at_call 14; refine (end_p hS hok2).mono ?_; rw [HE.out]; rintro r w5 ⟨rfl, s5, hs5, ve5, vo5, hS5, hF5⟩; obtain ⟨oa5, ca5, hvo⟩ := hS5.olen; rw [hs5] at hvo; subst hvo; have m2 := hS5.c2; have hlow := Lib.hid (Frm.low hS hF5); have hFB5 := hFB.only hlow.out (by omega); obtain ⟨e0, e1, e2, e3⟩ := hFB5.all; have y0 := hFB5.fz 0; have y1 := hFB5.fz 1; have y2 := hFB5.fz 2; have y3 := hFB5.fz 3; have HS5 := Lib.hid hs5; clear hs5)
          refine ins_end rfl rfl rfl (hFB5.sets 3 ⟨#[]⟩ 0 0) (fun _ => ?_)
          rw [HR2.out]
          exact ⟨(hO.then hlow.out (fun i hi => .inr (by omega))).fsets (Nat.le_refl _) _ _ _ _, rfl⟩
        · have HR2 : Hid (insP ts = .ok l) := Lib.hid (by rw [HIE.out, he]; simp only; rw [if_neg hbig])
          have hb1 : decide ((16384 : Int) < (l.length : Int)) = false := decide_eq_false (by omega)
          have hb2 : decide (16384 < l.length) = false := decide_eq_false hbig
          clear he
          go_wp2_with (go_at_call 14; refine (end_p hS hok2).mono ?_; rw [HE.out]; rintro r w5 ⟨rfl, s5, hs5, ve5, vo5, hS5, hF5⟩; obtain ⟨oa5, ca5, hvo⟩ := hS5.olen; rw [hs5] at hvo; subst hvo; have m2 := hS5.c2; have hlow := Lib.hid (Frm.low hS hF5); have hFB5 := hFB.only hlow.out (by omega); obtain ⟨e0, e1, e2, e3⟩ := hFB5.all; have y0 := hFB5.fz 0; have y1 := hFB5.fz 1; have y2 := hFB5.fz 2; have y3 := hFB5.fz 3; have HS5 := Lib.hid hs5; clear hs5)
          have hTR : TR w5 w.heap.size (.slice oa5 l.length ca5) l := by have := hS5.out; rw [HS5.out] at this; exact rowMono this (by omega)
          have hdis : ∀ g, (Value.slice oa5 l.length ca5).ownBlock = some g → ¬ g = w.heap.size := fun g hg e => by have := (World.ownsRow.lt hS5.out g hg).1; omega
          refine ins_end rfl rfl rfl (hFB5.sets 0 ⟨#[]⟩ 0 0) (fun _ => ?_)
          rw [HR2.out]
          exact ⟨(hO.then hlow.out (fun i hi => .inr (by omega))).fsets (Nat.le_refl _) _ _ _ _, _, rfl, hTR.only (Only.fsetsK w5 w.heap.size 0 ⟨#[]⟩ 0 0) hdis⟩
end Go.Proofs.Ythblchafjmgmbaa
