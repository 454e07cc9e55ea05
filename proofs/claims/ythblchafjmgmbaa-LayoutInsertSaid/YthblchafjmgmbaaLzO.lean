/-
  WALKS. The reference's machine: step, whole.
  WALKS. The reference's Insert answers what refP says.
  WALKS. LayoutInsert.
-/
import Derived.Test.YthblchafjmgmbaaLzMa
import Derived.Test.YthblchafjmgmbaaLzMb
import Derived.Test.YthblchafjmgmbaaLzMc
import Derived.Test.YthblchafjmgmbaaLyUa
import Derived.Test.YthblchafjmgmbaaLir7
import Derived.Test.YthblchafjmgmbaaLyTk
namespace Go.Proofs.Ythblchafjmgmbaa
open Go.RowKit Go.Maps
section
variable {w w' : World} {b : Nat} {vs vo : Value} {m : RM} {li : Int} {fi : Bool}
theorem rstep_p (h : MS w b vs vo m li fi F0) (hk : 4 * m.stack.length + 2 * m.out.length + 100 ≤ 1000000000000) (t : Tok) (hOut : ∀ m', rStep m t (!fi && decide (li < t.line)) = some m' → m'.out.length ≤ 1000000000000) : Calls Try.prog 15 #[.pointer (some ⟨b, 0, none⟩), tokV t] w (StpR w b vs vo t (rStep m t (!fi && decide (li < t.line)))) := by
  cases hx : m.expects
  case false =>
    have hsk : (rOpen m t).1 = false := by rw [rOpen_no t hx]
    cases fi
    case true =>
      cases ho8 : (t.op == 8)
      case true => exact rstep_ff8 h hk t hx hsk ho8 hOut
      cases ho9 : (t.op == 9)
      case true => exact rstep_ff9 h hk t hx hsk ho9 hOut
      cases hoA : (t.op == 10)
      case false => exact rstep_ffx h hk t hx hsk ho8 ho9 hoA hOut
      cases htx : tx t.text [61]
      · exact rstep_ffy h hk t hx hsk hoA htx hOut
      · exact rstep_ffe h hk t hx hsk hoA htx hOut
    by_cases hlt : li < t.line
    case pos =>
      cases ho8 : (t.op == 8)
      case true => exact rstep_fl8 h hk t hx hsk hlt ho8 hOut
      cases ho9 : (t.op == 9)
      case true => exact rstep_fl9 h hk t hx hsk hlt ho9 hOut
      cases hoA : (t.op == 10)
      case false => exact rstep_flx h hk t hx hsk hlt ho8 ho9 hoA hOut
      cases htx : tx t.text [61]
      · exact rstep_fly h hk t hx hsk hlt hoA htx hOut
      · exact rstep_fle h hk t hx hsk hlt hoA htx hOut
    cases ho8 : (t.op == 8)
    case true => exact rstep_fn8 h hk t hx hsk hlt ho8 hOut
    cases ho9 : (t.op == 9)
    case true => exact rstep_fn9 h hk t hx hsk hlt ho9 hOut
    cases hoA : (t.op == 10)
    case false => exact rstep_fnx h hk t hx hsk hlt ho8 ho9 hoA hOut
    cases htx : tx t.text [61]
    · exact rstep_fny h hk t hx hsk hlt hoA htx hOut
    · exact rstep_fne h hk t hx hsk hlt hoA htx hOut
  cases hsk : (rOpen m t).1
  case true =>
    cases ho8 : (t.op == 8)
    case true => exact rstep_ts8 h hk t hx hsk ho8 hOut
    cases ho9 : (t.op == 9)
    case true => exact rstep_ts9 h hk t hx hsk ho9 hOut
    cases hoA : (t.op == 10)
    case false => exact rstep_tsx h hk t hx hsk ho8 ho9 hoA hOut
    cases htx : tx t.text [61]
    · exact rstep_tsy h hk t hx hsk hoA htx hOut
    · exact rstep_tse h hk t hx hsk hoA htx hOut
  cases fi
  case true =>
    cases ho8 : (t.op == 8)
    case true => exact rstep_tf8 h hk t hx hsk ho8 hOut
    cases ho9 : (t.op == 9)
    case true => exact rstep_tf9 h hk t hx hsk ho9 hOut
    cases hoA : (t.op == 10)
    case false => exact rstep_tfx h hk t hx hsk ho8 ho9 hoA hOut
    cases htx : tx t.text [61]
    · exact rstep_tfy h hk t hx hsk hoA htx hOut
    · exact rstep_tfe h hk t hx hsk hoA htx hOut
  by_cases hlt : li < t.line
  case pos =>
    cases ho8 : (t.op == 8)
    case true => exact rstep_tl8 h hk t hx hsk hlt ho8 hOut
    cases ho9 : (t.op == 9)
    case true => exact rstep_tl9 h hk t hx hsk hlt ho9 hOut
    cases hoA : (t.op == 10)
    case false => exact rstep_tlx h hk t hx hsk hlt ho8 ho9 hoA hOut
    cases htx : tx t.text [61]
    · exact rstep_tly h hk t hx hsk hlt hoA htx hOut
    · exact rstep_tle h hk t hx hsk hlt hoA htx hOut
  cases ho8 : (t.op == 8)
  case true => exact rstep_tn8 h hk t hx hsk hlt ho8 hOut
  cases ho9 : (t.op == 9)
  case true => exact rstep_tn9 h hk t hx hsk hlt ho9 hOut
  cases hoA : (t.op == 10)
  case false => exact rstep_tnx h hk t hx hsk hlt ho8 ho9 hoA hOut
  cases htx : tx t.text [61]
  · exact rstep_tny h hk t hx hsk hlt hoA htx hOut
  · exact rstep_tne h hk t hx hsk hlt hoA htx hOut
end
end Go.Proofs.Ythblchafjmgmbaa
namespace Go.Proofs.Ythblchafjmgmbaa
open Go.RowKit Go.Maps
def pairB (l : List REl) (i j : Nat) : Bool := match l[i]?, l[j]? with
  | some x, some y => (x.form == 1) && ((y.form == 3) || (y.form == 4))
  | _, _ => false
theorem pairB_at {l : List REl} {i j : Nat} {x y : REl} (hi : i < l.length) (hj : j < l.length) (hx : l[i] = x) (hy : l[j] = y) : pairB l i j = ((x.form == 1) && ((y.form == 3) || (y.form == 4))) := by
  unfold pairB
  rw [List.getElem?_eq_getElem hi, List.getElem?_eq_getElem hj, hx, hy]
theorem pairB_out {l : List REl} {i j : Nat} (hj : l.length ≤ j) : pairB l i j = false := by
  unfold pairB
  rw [List.getElem?_eq_none hj]
  cases l[i]? <;> rfl
theorem rBad_found : ∀ {l : List REl} {i j : Nat}, i < j → pairB l i j = true → rBad l = true
  | [], i, j, hij, h => by simp [pairB] at h
  | e :: r, 0, j + 1, hij, h => by
    unfold pairB at h
    simp only [List.getElem?_cons_zero, List.getElem?_cons_succ] at h
    cases hr : r[j]? with
    | none => rw [hr] at h; cases h
    | some y =>
      rw [hr] at h
      simp only [Bool.and_eq_true] at h
      unfold rBad
      have ha : r.any (fun x => (x.form == 3) || (x.form == 4)) = true := List.any_eq_true.2 ⟨y, List.mem_of_getElem? hr, h.2⟩
      rw [h.1, ha]; rfl
  | e :: r, i + 1, j + 1, hij, h => by
    unfold rBad
    rw [rBad_found (l := r) (i := i) (j := j) (by omega) (by simpa [pairB] using h)]
    simp
theorem rBad_none : ∀ {l : List REl}, (∀ i j, i < j → pairB l i j = false) → rBad l = false
  | [], _ => rfl
  | e :: r, h => by
    unfold rBad
    rw [rBad_none (l := r) (fun i j hij => by have := h (i + 1) (j + 1) (by omega); simpa [pairB] using this)]
    cases h1 : (e.form == 1)
    · rfl
    · have ha : r.any (fun x => (x.form == 3) || (x.form == 4)) = false := by
        rw [List.any_eq_false]
        intro y hy
        obtain ⟨j, hj, rfl⟩ := List.getElem_of_mem hy
        have h2 := h 0 (j + 1) (by omega)
        rw [pairB_at (l := e :: r) (i := 0) (j := j + 1) (x := e) (y := r[j]) (by simp) (by simpa using hj) rfl rfl, h1] at h2
        simpa using h2
      rw [ha]; rfl
theorem rIns_step (t : Tok) (ts : List Tok) (last : Option Tok) (m : RM) (first : Bool) (hf : firstOf last t = first) : rIns' (t :: ts) last m = (match rStep m t first with | none => fltT t | some m' => rIns' ts (some t) m') := by
  subst hf
  cases last <;> rfl
theorem rIns_end (last : Option Tok) (m : RM) : rIns' [] last m = (match rEnd m with | none => (last.map fltT).getD (.bad 0 ⟨#[]⟩ 0 0) | some l => if 16384 < l.length then .bad 3 ⟨#[]⟩ 0 0 else .ok l) := rfl
abbrev m0R : RM := ⟨[], [], true, ⟨#[]⟩⟩
theorem rl0 : Rl s0I m0R := ⟨rfl, rfl, trivial, fun e he => absurd he List.not_mem_nil, rfl, fun e he => absurd he List.not_mem_nil, rfl, fun hh => absurd (show true = false from hh) (by decide), fun _ => rfl⟩
/-- Some ending whose result stands in a fault's variable. -/
theorem rins_end {a : Act} {w W : World} {R : II} {v : Value} {c : Int} {nm : ByteArray} {l co : Int} (ht2 : a.tmps[2]? = some v) (ht3 : a.tmps[3]? = some (.pointer (some ⟨w.heap.size, 0, none⟩))) (hd : a.defers = [])
    (hF : FB W w.heap.size c nm l co) (hR : Ending.returned (.tuple #[v, fltV c nm l co]) = Ending.returned (.tuple #[v, fltV c nm l co]) → InR w R (.returned (.tuple #[v, fltV c nm l co])) W) :
    bodyPost Try.prog Try.f7 (InR w R) .ret a W := by
  obtain ⟨d0, d1, d2, d3⟩ := hF.all
  refine bodyPost_ret (v := .tuple #[v, fltV c nm l co]) ?_ hd (hR rfl)
  simp [results, Try.results7, go_sem, ht2, ht3, d0, d1, d2, d3]
theorem MS.low {w : World} {b : Nat} {vs vo : Value} {m : RM} {li : Int} {fi : Bool} {F : RF} (h : MS w b vs vo m li fi F) {w' : World} {vs' vo' : Value} (f : Frm w b vs vo w' vs' vo') : Only (b ≤ ·) w w' :=
  f.only.wide (fun i hi => hi.elim (fun e => by show b ≤ i; omega) (fun hi => hi.elim (fun e => by have := (World.ownsRow.lt h.els i e).1; show b ≤ i; omega) (fun e => by have := (World.ownsRow.lt h.out i e).1; show b ≤ i; omega)))
theorem any_step (ts : List Tok) {k : Nat} (hk : k < ts.length) (h : (ts.take k).any (·.auto) = false) (ha : ts[k].auto = false) : (ts.take (k + 1)).any (·.auto) = false := by
  rw [List.take_succ_eq_append_getElem hk, List.any_append, h]
  simp [ha]
theorem any_end (ts : List Tok) {k : Nat} (hk : ts.length ≤ k) (h : (ts.take k).any (·.auto) = false) : ts.any (·.auto) = false := by
  rwa [List.take_of_length_le hk] at h
set_option maxRecDepth 100000 in
set_option maxHeartbeats 16000000 in
theorem rInsert_bad (w : World) (oa : Option Addr) (n ca : Nat) (ts : List Tok) (hn : n ≤ 3000) (hT : Tks w oa n ts) (ha : ts.any (·.auto) = true) :
    Calls Try.prog 7 #[.slice oa n ca] w (InR w (refP ts)) := by
  have HR : Hid (refP ts = .bad 1 ⟨#[]⟩ 0 0) := Lib.hid (by unfold refP; rw [ha]; rfl)
  have HA := Lib.hid ha
  clear ha
  have HL := Lib.hid hT.len
  have f0 : FB (w.alloc (.cells #[.int .i64 0, .string ⟨#[]⟩, .int .i64 0, .int .i64 0] 27)) w.heap.size 0 ⟨#[]⟩ 0 0 := new_block _ _
  have hA : Only (fun _ => False) w (w.alloc (.cells #[.int .i64 0, .string ⟨#[]⟩, .int .i64 0, .int .i64 0] 27)) := (Only.refl _ _).alloc _
  have hT0 := hT.keep hA
  obtain ⟨d0, d1, d2, d3⟩ := f0.all
  have y0 := f0.fz 0
  have y1 := f0.fz 1
  have y2 := f0.fz 2
  have y3 := f0.fz 3
  go_enter Try.func7, Try.ntmps7
  go_wp2
  go_loopw [4] (fun i wr => ∃ k : Nat, k ≤ n ∧ i = .int .i64 k ∧ Hid ((ts.take k).any (·.auto) = false) ∧ wr = w.alloc (.cells #[.int .i64 0, .string ⟨#[]⟩, .int .i64 0, .int .i64 0] 27)) (fun i _ => n - (intOf i).toNat)
  case atStart => exact ⟨0, by omega, rfl, Lib.hid rfl, rfl⟩
  case round =>
    obtain ⟨k, hk, rfl, HK, rfl⟩ := hrel
    by_cases hlt : k < n
    · have hkt : k < ts.length := by rw [HL.out]; exact hlt
      obtain ⟨bb, o, hoa, hc⟩ := hT0.cell k hkt
      subst hoa
      have p4 := hc.c4
      cases hau : ts[k].auto
      · rw [hau] at p4
        have HN := Lib.hid (any_step ts hkt HK.out hau)
        clear hau hc hkt
        go_wp2
        go_roundw
        case rel => exact ⟨k + 1, by omega, by go_num, HN, by first | trivial | rfl⟩
        case measure => simp [intOf]; omega
      · rw [hau] at p4
        clear hau hc hkt
        go_wp2
        refine rins_end (c := 1) (nm := ⟨#[]⟩) (l := 0) (co := 0) rfl rfl rfl (new_block _ _) (fun _ => ?_)
        rw [HR.out]
        exact ⟨(Only.refl _ _).alloc _, rfl⟩
    · exact absurd (any_end ts (by rw [HL.out]; omega) HK.out) (by rw [HA.out]; decide)
set_option maxRecDepth 100000 in
set_option maxHeartbeats 16000000 in
theorem rInsert_ok (w : World) (oa : Option Addr) (n ca : Nat) (ts : List Tok) (hn : n ≤ 3000) (hT : Tks w oa n ts) (ha : ts.any (·.auto) = false) :
    Calls Try.prog 7 #[.slice oa n ca] w (InR w (refP ts)) := by
  have HR : Hid (refP ts = rIns' ts none m0R) := Lib.hid (by unfold refP; rw [ha]; rfl)
  have HA : Hid (∀ k (hk : k < ts.length), ts[k].auto = false) := Lib.hid (fun k hk => by
    have := List.any_eq_false.1 ha ts[k] (List.getElem_mem hk)
    simpa using this)
  clear ha
  have HL := Lib.hid hT.len
  have f0 : FB (w.alloc (.cells #[.int .i64 0, .string ⟨#[]⟩, .int .i64 0, .int .i64 0] 27)) w.heap.size 0 ⟨#[]⟩ 0 0 := new_block _ _
  have hA : Only (fun _ => False) w (w.alloc (.cells #[.int .i64 0, .string ⟨#[]⟩, .int .i64 0, .int .i64 0] 27)) := (Only.refl _ _).alloc _
  have hT0 := hT.keep hA
  go_enter Try.func7, Try.ntmps7
  go_wp2
  go_loopw [4] (fun i wr => ∃ k : Nat, k ≤ n ∧ i = .int .i64 k ∧ wr = w.alloc (.cells #[.int .i64 0, .string ⟨#[]⟩, .int .i64 0, .int .i64 0] 27)) (fun i _ => n - (intOf i).toNat)
  case atStart => exact ⟨0, by omega, rfl, rfl⟩
  case round =>
    obtain ⟨k, hk, rfl, rfl⟩ := hrel
    by_cases hlt : k < n
    · have hkt : k < ts.length := by rw [HL.out]; exact hlt
      obtain ⟨bb, o, hoa, hc⟩ := hT0.cell k hkt
      subst hoa
      have p4 := hc.c4
      rw [HA.out k hkt] at p4
      clear hc hkt
      go_wp2
      go_roundw
      case rel => exact ⟨k + 1, by omega, by go_num, by first | trivial | rfl⟩
      case measure => simp [intOf]; omega
    have hwb : w.heap.size < w.heap.size + 1 := Nat.lt_succ_self _
    have hsz : (w.alloc (.cells #[.int .i64 0, .string ⟨#[]⟩, .int .i64 0, .int .i64 0] 27)).heap.size = w.heap.size + 1 := by show (Array.push _ _).size = _; rw [Array.size_push]
    obtain ⟨b, hb⟩ : ∃ b, w.heap.size + 1 = b := ⟨_, rfl⟩
    have hbl : ((w.alloc (.cells #[.int .i64 0, .string ⟨#[]⟩, .int .i64 0, .int .i64 0] 27)).alloc (.cells #[.slice none 0 0, .slice none 0 0, .bool true, .string ⟨#[]⟩, .int .i64 0, .bool true, .int .i64 0, .string ⟨#[]⟩, .int .i64 0, .int .i64 0] 48)).heap[b]? = some (.cells #[.slice none 0 0, .slice none 0 0, .bool true, .string ⟨#[]⟩, .int .i64 0, .bool true, .int .i64 0, .string ⟨#[]⟩, .int .i64 0, .int .i64 0] 48 (0, 0)) := new_at _ (hsz.trans hb)
    have hIS : MS ((w.alloc (.cells #[.int .i64 0, .string ⟨#[]⟩, .int .i64 0, .int .i64 0] 27)).alloc (.cells #[.slice none 0 0, .slice none 0 0, .bool true, .string ⟨#[]⟩, .int .i64 0, .bool true, .int .i64 0, .string ⟨#[]⟩, .int .i64 0, .int .i64 0] 48)) b (.slice none 0 0) (.slice none 0 0) m0R 0 true F0 := ⟨hbl, World.ownsRow_nil _ _ _ _, World.ownsRow_nil _ _ _ _⟩
    have fI := f0.same ((Only.refl (fun _ => False) _).alloc (.cells #[.slice none 0 0, .slice none 0 0, .bool true, .string ⟨#[]⟩, .int .i64 0, .bool true, .int .i64 0, .string ⟨#[]⟩, .int .i64 0, .int .i64 0] 48))
    have hOI := hA.alloc (.cells #[.slice none 0 0, .slice none 0 0, .bool true, .string ⟨#[]⟩, .int .i64 0, .bool true, .int .i64 0, .string ⟨#[]⟩, .int .i64 0, .int .i64 0] 48)
    rw [hb] at hwb
    go_wp2
    try first | rw [hsz.trans hb] | rw [hb]
    clear hsz hb hbl hk hlt f0 hA hT0
    go_loopw [6] (fun i wr => ∃ (k : Nat) (s : St) (m : RM) (vs vo : Value) (last : Option Tok) (li : Int) (fi : Bool), k ≤ n ∧ i = .int .i64 k ∧ MS wr b vs vo m li fi F0 ∧ Rl s m ∧ Ok (8 * (n - k) + 2 + 900000000000) s ∧ Hid (rIns' (ts.drop k) last m = rIns' ts none m0R) ∧ Hid (k = 0 → fi = true ∧ last = none ∧ m.stack = []) ∧ Hid (∀ j (_ : k = j + 1) (hj : j < ts.length), fi = false ∧ last = some ts[j] ∧ li = ts[j].line) ∧ FB wr w.heap.size 0 ⟨#[]⟩ 0 0 ∧ Only (fun _ => False) w wr) (fun i _ => n - (intOf i).toNat)
    case atStart => exact ⟨0, s0I, m0R, _, _, none, 0, true, Nat.zero_le _, rfl, hIS, rl0, ok0 _ (by omega), Lib.hid rfl, Lib.hid (fun _ => ⟨rfl, rfl, rfl⟩), Lib.hid (fun j h _ => by omega), fI, hOI⟩
    case round =>
      clear hIS fI hOI
      obtain ⟨k, s, m, vs, vo, last, li, fi, hk, rfl, hS, hRl, hok, HF, HZ, HLA, hFB, hO⟩ := hrel
      have hbs := hS.lt
      have e1 := hok.els_le
      have e2 := hok.out_le
      have e3 : m.stack.length = s.els.length := by rw [hRl.stack, List.length_map]
      have e4 : m.out.length = s.out.length := by rw [hRl.out]
      by_cases hlt : k < n
      · have hkt : k < ts.length := by rw [HL.out]; exact hlt
        obtain ⟨bb, o, hoa, hc⟩ := (hT.keep hO).cell k hkt
        subst hoa
        obtain ⟨t, ht⟩ : ∃ t, ts[k] = t := ⟨_, rfl⟩
        have hdr : ts.drop k = t :: ts.drop (k + 1) := by rw [List.drop_eq_getElem_cons hkt, ht]
        rw [ht] at hc
        have hff : (!fi && decide (li < t.line)) = firstOf last t := by
          cases k with
          | zero =>
            obtain ⟨z1, z2, -⟩ := HZ.out rfl
            rw [z1, z2]; rfl
          | succ j =>
            obtain ⟨z1, z2, z3⟩ := HLA.out j rfl (by omega)
            rw [z1, z2, z3]; rfl
        have hst := rIns_step t (ts.drop (k + 1)) last m _ rfl
        have hk4 : 4 * m.stack.length + 2 * m.out.length + 100 ≤ 1000000000000 := by omega
        have hrel := step_rel hRl t (firstOf last t)
        have hOut : ∀ m', rStep m t (!fi && decide (li < t.line)) = some m' → m'.out.length ≤ 1000000000000 := fun m' hm => by
          rw [hff] at hm
          rcases hrel with ⟨-, h2⟩ | ⟨s', m2, h1, h2, h3⟩
          · rw [hm] at h2; cases h2
          · rw [hm] at h2
            cases h2
            have := (Ok.token (k := 0) (hok.less (by omega)) h1).out_le
            rw [h3.out]; omega
        have HFF := Lib.hid hff
        have HOUT := Lib.hid hOut
        have HDR := Lib.hid hdr
        have HTT := Lib.hid ht
        clear hff hOut hdr ht e1 e2 e3 e4
        obtain ⟨p0, p1, p2, p3, p4, p5, p6⟩ := hc
        cases hsr : rStep m t (firstOf last t) with
        | none =>
          have HR2 : Hid (refP ts = .bad 9 t.text t.line t.col) := Lib.hid (by rw [HR.out, ← HF.out, HDR.out, hst, hsr]; rfl)
          have HSR := Lib.hid hsr
          clear hsr hst hrel
          go_wp2_with (go_at_call 15; (refine (rstep_p hS hk4 t HOUT.out).mono ?_); rw [HFF.out, HSR.out]; rintro r w5 ⟨rfl, mm, li5, fi5, vs5, vo5, hS5, hF5⟩; have hlow := MS.low hS hF5; have hFB5 := hFB.only hlow (by omega); have k6 : w5.cell? ⟨b, 6, none⟩ = some (.int .i64 9) := hS5.c6; have k7 : w5.cell? ⟨b, 7, none⟩ = some (.string t.text) := hS5.c7; have k8 : w5.cell? ⟨b, 8, none⟩ = some (.int .i64 t.line) := hS5.c8; have k9 : w5.cell? ⟨b, 9, none⟩ = some (.int .i64 t.col) := hS5.c9; have hb5 := hS5.lt; obtain ⟨d0, d1, d2, d3⟩ := hFB5.all; have y0 := hFB5.fz 0; have y1 := hFB5.fz 1; have y2 := hFB5.fz 2; have y3 := hFB5.fz 3)
          go_region
          all_goals
            go_wp2
            refine rins_end rfl rfl rfl ((hFB5.sets 9 t.text t.line t.col).same (Only.drew (Only.refl _ _))) (fun _ => ?_)
            rw [HR2.out]
            exact ⟨((hO.then hlow (fun i hi => .inr (by omega))).fsets (Nat.le_refl _) _ _ _ _).drew, rfl⟩
        | some m5 =>
          have hex : ∃ s5, Rl s5 m5 ∧ Ok (8 * (n - (k + 1)) + 2 + 900000000000) s5 := by
            rcases hrel with ⟨-, h2⟩ | ⟨s', m2, h1, h2, h3⟩
            · rw [hsr] at h2; cases h2
            · rw [hsr] at h2
              cases h2
              exact ⟨s', h3, Ok.token (hok.less (by omega)) h1⟩
          have HF2 : Hid (rIns' (ts.drop (k + 1)) (some t) m5 = rIns' ts none m0R) := Lib.hid (by rw [← HF.out, HDR.out, hst, hsr])
          have HSR := Lib.hid hsr
          clear hsr hst hrel
          obtain ⟨s5, hR5, hk5⟩ := hex
          go_wp2_with (go_at_call 15; (refine (rstep_p hS hk4 t HOUT.out).mono ?_); rw [HFF.out, HSR.out]; rintro r w5 ⟨rfl, vs5, vo5, hS5, hF5⟩; have hlow := MS.low hS hF5; have hFB5 := hFB.only hlow (by omega); have k6 : w5.cell? ⟨b, 6, none⟩ = some (.int .i64 0) := hS5.c6; have hb5 := hS5.lt)
          go_roundw
          case rel => exact ⟨k + 1, s5, m5, vs5, vo5, some t, t.line, false, by omega, by go_num, hS5, hR5, hk5, HF2, Lib.hid (fun h0 => by omega), Lib.hid (fun j hj hjj => ⟨rfl, last_of HTT.out (show j = k by omega) hjj, by have := HTT.out; subst this; congr 2; omega⟩), hFB5, hO.then hlow (fun i hi => .inr (by omega))⟩
          case measure => simp [intOf]; omega
      · have hkn : k = n := by omega
        subst hkn
        have hdn : ts.drop k = [] := List.drop_eq_nil_of_le (by rw [HL.out]; exact Nat.le_refl _)
        have hie := rIns_end last m
        rw [← hdn, HF.out, ← HR.out] at hie
        have HIE := Lib.hid hie
        clear hdn hie hlt
        cases hx : m.expects
        case false =>
          have c2 := hS.c2
          rw [hx] at c2
          obtain ⟨m1, hm1⟩ : ∃ m1, m = m1 := ⟨_, rfl⟩
          have hst1 : m1.stack = m.stack := by rw [← hm1]
          have hol : m1.out.length ≤ m.out.length + 2 := by rw [← hm1]; omega
          have hen : rEnd m = if rBad m1.stack then none else some (rCut m1 (-1)).out := by unfold rEnd; rw [hx]; rw [← hm1]; rfl
          have hr0 : Rm 1 m := ⟨by omega, by omega⟩
          have hsz1 : m1.stack.length + m1.out.length + 1 ≤ 1000000000000 := by rw [hst1]; omega
          obtain ⟨N, hN⟩ : ∃ N, m1.stack.length = N := ⟨_, rfl⟩
          have hNb : N ≤ 100000000000 := by rw [← hN, hst1]; omega
          have HEN := Lib.hid hen
          have HZS : Hid (0 < N → ∃ q, k = q + 1) := Lib.hid (fun h0 => by
            rcases Nat.eq_zero_or_pos k with hk0 | hk0
            · have := (HZ.out hk0).2.2
              rw [hst1, this] at hN
              simp at hN
              omega
            · exact ⟨k - 1, by omega⟩)
          subst hm1
          clear hen hx hst1 hol e1 e2 e3 e4 hok hRl
          have HN := Lib.hid hN
          clear hN
          have hSA := hS
          have hFBA := hFB
          have hOA := Lib.hid hO
          obtain ⟨os, cs, hvs⟩ := hSA.elen
          rw [HN.out] at hvs
          subst hvs
          have c0 := hSA.c0
          have hbA := hSA.lt
          go_wp2
          go_loop [7] (fun i => ∃ a : Nat, a ≤ N ∧ i = .int .i64 a ∧ Hid (∀ i' j', i' < a → i' < j' → pairB m.stack i' j' = false)) (fun i => N - (intOf i).toNat)
          case atStart => exact ⟨0, Nat.zero_le _, rfl, Lib.hid (fun _ _ h => by omega)⟩
          case round =>
            obtain ⟨a, haN, rfl, HP⟩ := hrel
            by_cases hal : a < N
            · have hwa : IntKind.i64.wrap ((a : Int) + 1) = (a : Int) + 1 := IntWalk.i64_in _ (by omega)
              have haI : (a : Int) < (N : Int) := by omega
              go_wp2
              go_loop [8] (fun i => ∃ j : Nat, a + 1 ≤ j ∧ j ≤ N ∧ i = .int .i64 j ∧ Hid (∀ j', a < j' → j' < j → pairB m.stack a j' = false)) (fun i => N - (intOf i).toNat)
              case atStart => exact ⟨a + 1, Nat.le_refl _, hal, by first | rfl | (congr 1), Lib.hid (fun j' h1 h2 => by omega)⟩
              case round =>
                obtain ⟨j, haj, hjN, rfl, HQ⟩ := hrel
                by_cases hjl : j < N
                · have hja : a < m.stack.length := by rw [HN.out]; exact hal
                  have hjj : j < m.stack.length := by rw [HN.out]; exact hjl
                  obtain ⟨g, hve, -, -, hcs, hcA, -⟩ := hSA.els.at hja
                  cases hve
                  obtain ⟨g', hve, -, -, -, hcJ, -⟩ := hSA.els.at hjj
                  cases hve
                  obtain ⟨x, hxx⟩ : ∃ x, m.stack[a] = x := ⟨_, rfl⟩
                  obtain ⟨y, hyy⟩ : ∃ y, m.stack[j] = y := ⟨_, rfl⟩
                  have hpb := pairB_at hja hjj hxx hyy
                  rw [hxx] at hcA
                  rw [hyy] at hcJ
                  have HPB := Lib.hid hpb
                  have u0 := hcA.c0
                  have v0 := hcJ.c0
                  obtain ⟨f1, hf1⟩ : ∃ f1, x.form = f1 := ⟨_, rfl⟩
                  obtain ⟨f2, hf2⟩ : ∃ f2, y.form = f2 := ⟨_, rfl⟩
                  rw [hf1, hf2] at hpb
                  rw [hf1] at u0
                  rw [hf2] at v0
                  clear HPB
                  have HPB := Lib.hid hpb
                  clear hpb hxx hyy hf1 hf2 hcA hcJ
                  have hjI : (j : Int) < (N : Int) := by omega
                  have haI2 : (a : Int) < (N : Int) := by omega
                  have hj0 : (0 : Int) ≤ (j : Int) := Int.natCast_nonneg j
                  have ha0 : (0 : Int) ≤ (a : Int) := Int.natCast_nonneg a
                  cases q1 : (f1 == 1)
                  · skip
                    have HNP : Hid (pairB m.stack a j = false) := Lib.hid (by rw [HPB.out, q1]; rfl)
                    go_wp2
                    go_round
                    case rel => exact ⟨j + 1, by omega, by omega, by go_num, Lib.hid (fun j' h1 h2 => by rcases Nat.lt_or_ge j' j with h3 | h3; exact HQ.out j' h1 h3; rw [show j' = j by omega]; exact HNP.out)⟩
                    case measure => simp [intOf]; omega
                  cases q3 : (f2 == 3)
                  case true =>
                    · skip
                      have hbad : rBad m.stack = true := rBad_found (i := a) (j := j) (by omega) (by rw [HPB.out, q1, q3]; rfl)
                      obtain ⟨q, hq⟩ := HZS.out (by omega)
                      subst hq
                      have hqt : q < ts.length := by rw [HL.out]; omega
                      obtain ⟨bb, o, hoa, hcq⟩ := (hT.keep hOA.out).cell q hqt
                      subst hoa
                      obtain ⟨pt, hpt⟩ : ∃ pt, ts[q] = pt := ⟨_, rfl⟩
                      have hla := (HLA.out q rfl hqt).2.1
                      rw [hpt] at hcq hla
                      have HR2 : Hid (refP ts = .bad 9 pt.text pt.line pt.col) := Lib.hid (by rw [HIE.out, HEN.out, hbad, hla]; rfl)
                      obtain ⟨p0, p1, p2, p3, p4, p5, p6⟩ := hcq
                      have hwq : IntKind.i64.wrap (q : Int) = (q : Int) := IntWalk.i64_in _ (by omega)
                      have hqn : (q : Int) < (q : Int) + 1 := by omega
                      have hqn2 : q < q + 1 := by omega
                      have hq0 : (0 : Int) ≤ (q : Int) := Int.natCast_nonneg q
                      clear hpt hla hbad
                      go_wp2_with (go_at_call 17; ((refine (fails_p hSA pt).mono ?_); rintro r w5 ⟨rfl, hS5, hO5⟩; have hFB5 := hFBA.only hO5 (by omega); have k6 : w5.cell? ⟨b, 6, none⟩ = some (.int .i64 9) := hS5.c6; have k7 : w5.cell? ⟨b, 7, none⟩ = some (.string pt.text) := hS5.c7; have k8 : w5.cell? ⟨b, 8, none⟩ = some (.int .i64 pt.line) := hS5.c8; have k9 : w5.cell? ⟨b, 9, none⟩ = some (.int .i64 pt.col) := hS5.c9; have hb5 := hS5.lt; obtain ⟨d0, d1, d2, d3⟩ := hFB5.all; have y0 := hFB5.fz 0; have y1 := hFB5.fz 1; have y2 := hFB5.fz 2; have y3 := hFB5.fz 3; have HO5 := Lib.hid hO5; clear hO5))
                      go_region
                      all_goals
                        go_wp2
                        refine rins_end rfl rfl rfl ((hFB5.sets 9 pt.text pt.line pt.col).same (Only.drew (Only.refl _ _))) (fun _ => ?_)
                        rw [HR2.out]
                        exact ⟨((hOA.out.then HO5.out (fun i hi => .inr (by omega))).fsets (Nat.le_refl _) _ _ _ _).drew, rfl⟩
                  cases q4 : (f2 == 4)
                  · skip
                    have HNP : Hid (pairB m.stack a j = false) := Lib.hid (by rw [HPB.out, q1, q3, q4]; rfl)
                    go_wp2
                    go_round
                    case rel => exact ⟨j + 1, by omega, by omega, by go_num, Lib.hid (fun j' h1 h2 => by rcases Nat.lt_or_ge j' j with h3 | h3; exact HQ.out j' h1 h3; rw [show j' = j by omega]; exact HNP.out)⟩
                    case measure => simp [intOf]; omega
                  · skip
                    have hbad : rBad m.stack = true := rBad_found (i := a) (j := j) (by omega) (by rw [HPB.out, q1, q3, q4]; rfl)
                    obtain ⟨q, hq⟩ := HZS.out (by omega)
                    subst hq
                    have hqt : q < ts.length := by rw [HL.out]; omega
                    obtain ⟨bb, o, hoa, hcq⟩ := (hT.keep hOA.out).cell q hqt
                    subst hoa
                    obtain ⟨pt, hpt⟩ : ∃ pt, ts[q] = pt := ⟨_, rfl⟩
                    have hla := (HLA.out q rfl hqt).2.1
                    rw [hpt] at hcq hla
                    have HR2 : Hid (refP ts = .bad 9 pt.text pt.line pt.col) := Lib.hid (by rw [HIE.out, HEN.out, hbad, hla]; rfl)
                    obtain ⟨p0, p1, p2, p3, p4, p5, p6⟩ := hcq
                    have hwq : IntKind.i64.wrap (q : Int) = (q : Int) := IntWalk.i64_in _ (by omega)
                    have hqn : (q : Int) < (q : Int) + 1 := by omega
                    have hqn2 : q < q + 1 := by omega
                    have hq0 : (0 : Int) ≤ (q : Int) := Int.natCast_nonneg q
                    clear hpt hla hbad
                    go_wp2_with (go_at_call 17; ((refine (fails_p hSA pt).mono ?_); rintro r w5 ⟨rfl, hS5, hO5⟩; have hFB5 := hFBA.only hO5 (by omega); have k6 : w5.cell? ⟨b, 6, none⟩ = some (.int .i64 9) := hS5.c6; have k7 : w5.cell? ⟨b, 7, none⟩ = some (.string pt.text) := hS5.c7; have k8 : w5.cell? ⟨b, 8, none⟩ = some (.int .i64 pt.line) := hS5.c8; have k9 : w5.cell? ⟨b, 9, none⟩ = some (.int .i64 pt.col) := hS5.c9; have hb5 := hS5.lt; obtain ⟨d0, d1, d2, d3⟩ := hFB5.all; have y0 := hFB5.fz 0; have y1 := hFB5.fz 1; have y2 := hFB5.fz 2; have y3 := hFB5.fz 3; have HO5 := Lib.hid hO5; clear hO5))
                    go_region
                    all_goals
                      go_wp2
                      refine rins_end rfl rfl rfl ((hFB5.sets 9 pt.text pt.line pt.col).same (Only.drew (Only.refl _ _))) (fun _ => ?_)
                      rw [HR2.out]
                      exact ⟨((hOA.out.then HO5.out (fun i hi => .inr (by omega))).fsets (Nat.le_refl _) _ _ _ _).drew, rfl⟩
                · have HP2 : Hid (∀ i' j', i' < a + 1 → i' < j' → pairB m.stack i' j' = false) := Lib.hid (fun i' j' h1 h2 => by
                    rcases Nat.lt_or_ge i' a with h3 | h3
                    · exact HP.out i' j' h3 h2
                    · have hia : i' = a := by omega
                      subst hia
                      rcases Nat.lt_or_ge j' j with h4 | h4
                      · exact HQ.out j' h2 h4
                      · exact pairB_out (by rw [HN.out]; omega))
                  go_wp2
                  go_round
                  case rel => exact ⟨a + 1, by omega, by go_num, HP2⟩
                  case measure => simp [intOf]; omega
            · have hbad : rBad m.stack = false := rBad_none (fun i' j' h1 => by
                rcases Nat.lt_or_ge i' a with h3 | h3
                · exact HP.out i' j' h3 h1
                · exact pairB_out (by rw [HN.out]; omega))
              have hfin : refP ts = if 16384 < (rCut m (-1)).out.length then .bad 3 ⟨#[]⟩ 0 0 else .ok (rCut m (-1)).out := by rw [HIE.out, HEN.out, hbad]; rfl
              obtain ⟨mc, hmc⟩ : ∃ mc, rCut m (-1) = mc := ⟨_, rfl⟩
              rw [hmc] at hfin
              have HMC := Lib.hid hmc
              have HFIN := Lib.hid hfin
              clear hbad hfin hmc
              by_cases hbig : 16384 < mc.out.length
              · have HR2 : Hid (refP ts = .bad 3 ⟨#[]⟩ 0 0) := Lib.hid (by rw [HFIN.out, if_pos hbig])
                have hb1 : decide ((16384 : Int) < (mc.out.length : Int)) = true := decide_eq_true (by omega)
                have hb2 : decide (16384 < mc.out.length) = true := decide_eq_true hbig
                go_wp2_with ((go_at_call 18; (refine (rcut_p hSA hsz1 (-1) (by omega) (by omega)).mono ?_); rw [HMC.out]; rintro r w7 ⟨rfl, vs7, vo7, hS7, hF7⟩; have hlow7 := Lib.hid (MS.low hSA hF7); have hFB7 := hFBA.only hlow7.out (by omega); obtain ⟨oo, co, hvo⟩ := hS7.olen; subst hvo; have k1 := hS7.c1; have hb7 := hS7.lt; obtain ⟨d0, d1, d2, d3⟩ := hFB7.all; have y0 := hFB7.fz 0; have y1 := hFB7.fz 1; have y2 := hFB7.fz 2; have y3 := hFB7.fz 3))
                refine rins_end rfl rfl rfl (hFB7.sets 3 ⟨#[]⟩ 0 0) (fun _ => ?_)
                rw [HR2.out]
                exact ⟨(hOA.out.then hlow7.out (fun i hi => .inr (by omega))).fsets (Nat.le_refl _) _ _ _ _, rfl⟩
              · have HR2 : Hid (refP ts = .ok mc.out) := Lib.hid (by rw [HFIN.out, if_neg hbig])
                have hb1 : decide ((16384 : Int) < (mc.out.length : Int)) = false := decide_eq_false (by omega)
                have hb2 : decide (16384 < mc.out.length) = false := decide_eq_false hbig
                go_wp2_with ((go_at_call 18; (refine (rcut_p hSA hsz1 (-1) (by omega) (by omega)).mono ?_); rw [HMC.out]; rintro r w7 ⟨rfl, vs7, vo7, hS7, hF7⟩; have hlow7 := Lib.hid (MS.low hSA hF7); have hFB7 := hFBA.only hlow7.out (by omega); obtain ⟨oo, co, hvo⟩ := hS7.olen; subst hvo; have k1 := hS7.c1; have hb7 := hS7.lt; obtain ⟨d0, d1, d2, d3⟩ := hFB7.all; have y0 := hFB7.fz 0; have y1 := hFB7.fz 1; have y2 := hFB7.fz 2; have y3 := hFB7.fz 3))
                have hTR : TR w7 w.heap.size (.slice oo mc.out.length co) mc.out := rowMono hS7.out (by omega)
                have hdis : ∀ g, (Value.slice oo mc.out.length co).ownBlock = some g → ¬ g = w.heap.size := fun g hg e => by have := (World.ownsRow.lt hS7.out g hg).1; omega
                refine rins_end rfl rfl rfl (hFB7.sets 0 ⟨#[]⟩ 0 0) (fun _ => ?_)
                rw [HR2.out]
                exact ⟨(hOA.out.then hlow7.out (fun i hi => .inr (by omega))).fsets (Nat.le_refl _) _ _ _ _, _, rfl, hTR.only (Only.fsetsK w7 w.heap.size 0 ⟨#[]⟩ 0 0) hdis⟩
        have c2 := hS.c2
        rw [hx] at c2
        obtain ⟨m1, hm1⟩ : ∃ m1, (rIns (rIns m 123) 125) = m1 := ⟨_, rfl⟩
        have hst1 : m1.stack = m.stack := by rw [← hm1]; rfl
        have hol : m1.out.length ≤ m.out.length + 2 := by rw [← hm1]; rw [rIns_len, rIns_len]; omega
        have hen : rEnd m = if rBad m1.stack then none else some (rCut m1 (-1)).out := by unfold rEnd; rw [hx]; rw [← hm1]; rfl
        have hr0 : Rm 1 m := ⟨by omega, by omega⟩
        have hr1 : Rm 1 (rIns m 123) := ⟨by show m.stack.length + 1 ≤ _; omega, by rw [rIns_len]; omega⟩
        have hsz1 : m1.stack.length + m1.out.length + 1 ≤ 1000000000000 := by rw [hst1]; omega
        obtain ⟨N, hN⟩ : ∃ N, m1.stack.length = N := ⟨_, rfl⟩
        have hNb : N ≤ 100000000000 := by rw [← hN, hst1]; omega
        have HEN := Lib.hid hen
        have HZS : Hid (0 < N → ∃ q, k = q + 1) := Lib.hid (fun h0 => by
          rcases Nat.eq_zero_or_pos k with hk0 | hk0
          · have := (HZ.out hk0).2.2
            rw [hst1, this] at hN
            simp at hN
            omega
          · exact ⟨k - 1, by omega⟩)
        have HM1 := Lib.hid hm1
        clear hen hx hst1 hol hm1 e1 e2 e3 e4 hok hRl
        have HN := Lib.hid hN
        clear hN
        go_wp2_with (first | (go_at_call 16; ((with_reducible refine (rinsert_p hS hr0 123).mono ?_); rintro r w1 ⟨rfl, vo1, hS1, hF1⟩)) | (go_at_call 16; ((with_reducible refine (rinsert_p hS1 hr1 125).mono ?_); rintro r w2 ⟨rfl, vo2, hS2, hF2⟩; have hFA := hF1.trans hF2; have hSA := hS2; rw [HM1.out] at hSA; have hlow := Lib.hid (MS.low hS hFA); have hFBA := hFB.only hlow.out (by omega); have hOA := Lib.hid (hO.then hlow.out (fun i hi => .inr (by omega))); obtain ⟨os, cs, hvs⟩ := hSA.elen; rw [HN.out] at hvs; subst hvs; have c0 := hSA.c0; have hbA := hSA.lt)))
        go_loop [7] (fun i => ∃ a : Nat, a ≤ N ∧ i = .int .i64 a ∧ Hid (∀ i' j', i' < a → i' < j' → pairB m1.stack i' j' = false)) (fun i => N - (intOf i).toNat)
        case atStart => exact ⟨0, Nat.zero_le _, rfl, Lib.hid (fun _ _ h => by omega)⟩
        case round =>
          obtain ⟨a, haN, rfl, HP⟩ := hrel
          by_cases hal : a < N
          · have hwa : IntKind.i64.wrap ((a : Int) + 1) = (a : Int) + 1 := IntWalk.i64_in _ (by omega)
            have haI : (a : Int) < (N : Int) := by omega
            go_wp2
            go_loop [8] (fun i => ∃ j : Nat, a + 1 ≤ j ∧ j ≤ N ∧ i = .int .i64 j ∧ Hid (∀ j', a < j' → j' < j → pairB m1.stack a j' = false)) (fun i => N - (intOf i).toNat)
            case atStart => exact ⟨a + 1, Nat.le_refl _, hal, by first | rfl | (congr 1), Lib.hid (fun j' h1 h2 => by omega)⟩
            case round =>
              obtain ⟨j, haj, hjN, rfl, HQ⟩ := hrel
              by_cases hjl : j < N
              · have hja : a < m1.stack.length := by rw [HN.out]; exact hal
                have hjj : j < m1.stack.length := by rw [HN.out]; exact hjl
                obtain ⟨g, hve, -, -, hcs, hcA, -⟩ := hSA.els.at hja
                cases hve
                obtain ⟨g', hve, -, -, -, hcJ, -⟩ := hSA.els.at hjj
                cases hve
                obtain ⟨x, hxx⟩ : ∃ x, m1.stack[a] = x := ⟨_, rfl⟩
                obtain ⟨y, hyy⟩ : ∃ y, m1.stack[j] = y := ⟨_, rfl⟩
                have hpb := pairB_at hja hjj hxx hyy
                rw [hxx] at hcA
                rw [hyy] at hcJ
                have HPB := Lib.hid hpb
                have u0 := hcA.c0
                have v0 := hcJ.c0
                obtain ⟨f1, hf1⟩ : ∃ f1, x.form = f1 := ⟨_, rfl⟩
                obtain ⟨f2, hf2⟩ : ∃ f2, y.form = f2 := ⟨_, rfl⟩
                rw [hf1, hf2] at hpb
                rw [hf1] at u0
                rw [hf2] at v0
                clear HPB
                have HPB := Lib.hid hpb
                clear hpb hxx hyy hf1 hf2 hcA hcJ
                have hjI : (j : Int) < (N : Int) := by omega
                have haI2 : (a : Int) < (N : Int) := by omega
                have hj0 : (0 : Int) ≤ (j : Int) := Int.natCast_nonneg j
                have ha0 : (0 : Int) ≤ (a : Int) := Int.natCast_nonneg a
                cases q1 : (f1 == 1)
                · skip
                  have HNP : Hid (pairB m1.stack a j = false) := Lib.hid (by rw [HPB.out, q1]; rfl)
                  go_wp2
                  go_round
                  case rel => exact ⟨j + 1, by omega, by omega, by go_num, Lib.hid (fun j' h1 h2 => by rcases Nat.lt_or_ge j' j with h3 | h3; exact HQ.out j' h1 h3; rw [show j' = j by omega]; exact HNP.out)⟩
                  case measure => simp [intOf]; omega
                cases q3 : (f2 == 3)
                case true =>
                  · skip
                    have hbad : rBad m1.stack = true := rBad_found (i := a) (j := j) (by omega) (by rw [HPB.out, q1, q3]; rfl)
                    obtain ⟨q, hq⟩ := HZS.out (by omega)
                    subst hq
                    have hqt : q < ts.length := by rw [HL.out]; omega
                    obtain ⟨bb, o, hoa, hcq⟩ := (hT.keep hOA.out).cell q hqt
                    subst hoa
                    obtain ⟨pt, hpt⟩ : ∃ pt, ts[q] = pt := ⟨_, rfl⟩
                    have hla := (HLA.out q rfl hqt).2.1
                    rw [hpt] at hcq hla
                    have HR2 : Hid (refP ts = .bad 9 pt.text pt.line pt.col) := Lib.hid (by rw [HIE.out, HEN.out, hbad, hla]; rfl)
                    obtain ⟨p0, p1, p2, p3, p4, p5, p6⟩ := hcq
                    have hwq : IntKind.i64.wrap (q : Int) = (q : Int) := IntWalk.i64_in _ (by omega)
                    have hqn : (q : Int) < (q : Int) + 1 := by omega
                    have hqn2 : q < q + 1 := by omega
                    have hq0 : (0 : Int) ≤ (q : Int) := Int.natCast_nonneg q
                    clear hpt hla hbad
                    go_wp2_with (go_at_call 17; ((refine (fails_p hSA pt).mono ?_); rintro r w5 ⟨rfl, hS5, hO5⟩; have hFB5 := hFBA.only hO5 (by omega); have k6 : w5.cell? ⟨b, 6, none⟩ = some (.int .i64 9) := hS5.c6; have k7 : w5.cell? ⟨b, 7, none⟩ = some (.string pt.text) := hS5.c7; have k8 : w5.cell? ⟨b, 8, none⟩ = some (.int .i64 pt.line) := hS5.c8; have k9 : w5.cell? ⟨b, 9, none⟩ = some (.int .i64 pt.col) := hS5.c9; have hb5 := hS5.lt; obtain ⟨d0, d1, d2, d3⟩ := hFB5.all; have y0 := hFB5.fz 0; have y1 := hFB5.fz 1; have y2 := hFB5.fz 2; have y3 := hFB5.fz 3; have HO5 := Lib.hid hO5; clear hO5))
                    go_region
                    all_goals
                      go_wp2
                      refine rins_end rfl rfl rfl ((hFB5.sets 9 pt.text pt.line pt.col).same (Only.drew (Only.refl _ _))) (fun _ => ?_)
                      rw [HR2.out]
                      exact ⟨((hOA.out.then HO5.out (fun i hi => .inr (by omega))).fsets (Nat.le_refl _) _ _ _ _).drew, rfl⟩
                cases q4 : (f2 == 4)
                · skip
                  have HNP : Hid (pairB m1.stack a j = false) := Lib.hid (by rw [HPB.out, q1, q3, q4]; rfl)
                  go_wp2
                  go_round
                  case rel => exact ⟨j + 1, by omega, by omega, by go_num, Lib.hid (fun j' h1 h2 => by rcases Nat.lt_or_ge j' j with h3 | h3; exact HQ.out j' h1 h3; rw [show j' = j by omega]; exact HNP.out)⟩
                  case measure => simp [intOf]; omega
                · skip
                  have hbad : rBad m1.stack = true := rBad_found (i := a) (j := j) (by omega) (by rw [HPB.out, q1, q3, q4]; rfl)
                  obtain ⟨q, hq⟩ := HZS.out (by omega)
                  subst hq
                  have hqt : q < ts.length := by rw [HL.out]; omega
                  obtain ⟨bb, o, hoa, hcq⟩ := (hT.keep hOA.out).cell q hqt
                  subst hoa
                  obtain ⟨pt, hpt⟩ : ∃ pt, ts[q] = pt := ⟨_, rfl⟩
                  have hla := (HLA.out q rfl hqt).2.1
                  rw [hpt] at hcq hla
                  have HR2 : Hid (refP ts = .bad 9 pt.text pt.line pt.col) := Lib.hid (by rw [HIE.out, HEN.out, hbad, hla]; rfl)
                  obtain ⟨p0, p1, p2, p3, p4, p5, p6⟩ := hcq
                  have hwq : IntKind.i64.wrap (q : Int) = (q : Int) := IntWalk.i64_in _ (by omega)
                  have hqn : (q : Int) < (q : Int) + 1 := by omega
                  have hqn2 : q < q + 1 := by omega
                  have hq0 : (0 : Int) ≤ (q : Int) := Int.natCast_nonneg q
                  clear hpt hla hbad
                  go_wp2_with (go_at_call 17; ((refine (fails_p hSA pt).mono ?_); rintro r w5 ⟨rfl, hS5, hO5⟩; have hFB5 := hFBA.only hO5 (by omega); have k6 : w5.cell? ⟨b, 6, none⟩ = some (.int .i64 9) := hS5.c6; have k7 : w5.cell? ⟨b, 7, none⟩ = some (.string pt.text) := hS5.c7; have k8 : w5.cell? ⟨b, 8, none⟩ = some (.int .i64 pt.line) := hS5.c8; have k9 : w5.cell? ⟨b, 9, none⟩ = some (.int .i64 pt.col) := hS5.c9; have hb5 := hS5.lt; obtain ⟨d0, d1, d2, d3⟩ := hFB5.all; have y0 := hFB5.fz 0; have y1 := hFB5.fz 1; have y2 := hFB5.fz 2; have y3 := hFB5.fz 3; have HO5 := Lib.hid hO5; clear hO5))
                  go_region
                  all_goals
                    go_wp2
                    refine rins_end rfl rfl rfl ((hFB5.sets 9 pt.text pt.line pt.col).same (Only.drew (Only.refl _ _))) (fun _ => ?_)
                    rw [HR2.out]
                    exact ⟨((hOA.out.then HO5.out (fun i hi => .inr (by omega))).fsets (Nat.le_refl _) _ _ _ _).drew, rfl⟩
              · have HP2 : Hid (∀ i' j', i' < a + 1 → i' < j' → pairB m1.stack i' j' = false) := Lib.hid (fun i' j' h1 h2 => by
                  rcases Nat.lt_or_ge i' a with h3 | h3
                  · exact HP.out i' j' h3 h2
                  · have hia : i' = a := by omega
                    subst hia
                    rcases Nat.lt_or_ge j' j with h4 | h4
                    · exact HQ.out j' h2 h4
                    · exact pairB_out (by rw [HN.out]; omega))
                go_wp2
                go_round
                case rel => exact ⟨a + 1, by omega, by go_num, HP2⟩
                case measure => simp [intOf]; omega
          · have hbad : rBad m1.stack = false := rBad_none (fun i' j' h1 => by
              rcases Nat.lt_or_ge i' a with h3 | h3
              · exact HP.out i' j' h3 h1
              · exact pairB_out (by rw [HN.out]; omega))
            have hfin : refP ts = if 16384 < (rCut m1 (-1)).out.length then .bad 3 ⟨#[]⟩ 0 0 else .ok (rCut m1 (-1)).out := by rw [HIE.out, HEN.out, hbad]; rfl
            obtain ⟨mc, hmc⟩ : ∃ mc, rCut m1 (-1) = mc := ⟨_, rfl⟩
            rw [hmc] at hfin
            have HMC := Lib.hid hmc
            have HFIN := Lib.hid hfin
            clear hbad hfin hmc
            by_cases hbig : 16384 < mc.out.length
            · have HR2 : Hid (refP ts = .bad 3 ⟨#[]⟩ 0 0) := Lib.hid (by rw [HFIN.out, if_pos hbig])
              have hb1 : decide ((16384 : Int) < (mc.out.length : Int)) = true := decide_eq_true (by omega)
              have hb2 : decide (16384 < mc.out.length) = true := decide_eq_true hbig
              go_wp2_with ((go_at_call 18; (refine (rcut_p hSA hsz1 (-1) (by omega) (by omega)).mono ?_); rw [HMC.out]; rintro r w7 ⟨rfl, vs7, vo7, hS7, hF7⟩; have hlow7 := Lib.hid (MS.low hSA hF7); have hFB7 := hFBA.only hlow7.out (by omega); obtain ⟨oo, co, hvo⟩ := hS7.olen; subst hvo; have k1 := hS7.c1; have hb7 := hS7.lt; obtain ⟨d0, d1, d2, d3⟩ := hFB7.all; have y0 := hFB7.fz 0; have y1 := hFB7.fz 1; have y2 := hFB7.fz 2; have y3 := hFB7.fz 3))
              refine rins_end rfl rfl rfl (hFB7.sets 3 ⟨#[]⟩ 0 0) (fun _ => ?_)
              rw [HR2.out]
              exact ⟨(hOA.out.then hlow7.out (fun i hi => .inr (by omega))).fsets (Nat.le_refl _) _ _ _ _, rfl⟩
            · have HR2 : Hid (refP ts = .ok mc.out) := Lib.hid (by rw [HFIN.out, if_neg hbig])
              have hb1 : decide ((16384 : Int) < (mc.out.length : Int)) = false := decide_eq_false (by omega)
              have hb2 : decide (16384 < mc.out.length) = false := decide_eq_false hbig
              go_wp2_with ((go_at_call 18; (refine (rcut_p hSA hsz1 (-1) (by omega) (by omega)).mono ?_); rw [HMC.out]; rintro r w7 ⟨rfl, vs7, vo7, hS7, hF7⟩; have hlow7 := Lib.hid (MS.low hSA hF7); have hFB7 := hFBA.only hlow7.out (by omega); obtain ⟨oo, co, hvo⟩ := hS7.olen; subst hvo; have k1 := hS7.c1; have hb7 := hS7.lt; obtain ⟨d0, d1, d2, d3⟩ := hFB7.all; have y0 := hFB7.fz 0; have y1 := hFB7.fz 1; have y2 := hFB7.fz 2; have y3 := hFB7.fz 3))
              have hTR : TR w7 w.heap.size (.slice oo mc.out.length co) mc.out := rowMono hS7.out (by omega)
              have hdis : ∀ g, (Value.slice oo mc.out.length co).ownBlock = some g → ¬ g = w.heap.size := fun g hg e => by have := (World.ownsRow.lt hS7.out g hg).1; omega
              refine rins_end rfl rfl rfl (hFB7.sets 0 ⟨#[]⟩ 0 0) (fun _ => ?_)
              rw [HR2.out]
              exact ⟨(hOA.out.then hlow7.out (fun i hi => .inr (by omega))).fsets (Nat.le_refl _) _ _ _ _, _, rfl, hTR.only (Only.fsetsK w7 w.heap.size 0 ⟨#[]⟩ 0 0) hdis⟩
theorem rInsert_any (w : World) (oa : Option Addr) (n ca : Nat) (ts : List Tok) (hn : n ≤ 3000) (hT : Tks w oa n ts) :
    Calls Try.prog 7 #[.slice oa n ca] w (InR w (refP ts)) := by
  cases ha : ts.any (·.auto)
  · exact rInsert_ok w oa n ca ts hn hT ha
  · exact rInsert_bad w oa n ca ts hn hT ha
end Go.Proofs.Ythblchafjmgmbaa
namespace Go.Proofs.Ythblchafjmgmbaa
open Go.RowKit Go.Maps
theorem insF_len' (l : List Tok) : ∀ {last : Option Tok} {s : St} {r : List Tok}, insF l last s = .ok r → r.length ≤ 16384 := by
  induction l with
  | nil =>
    intro last s r h
    rw [insF_end] at h
    cases he : endS s with
    | none => rw [he] at h; cases last <;> cases h
    | some r' =>
      rw [he] at h
      simp only at h
      split at h
      · cases h
      · cases h; omega
  | cons t ts ih =>
    intro last s r h
    rw [insF_step t ts last s _ rfl] at h
    cases ht : tokenS s t (firstOf last t) with
    | none => rw [ht] at h; cases h
    | some s' => rw [ht] at h; exact ih h
theorem insP_len' {l r : List Tok} (h : insP l = .ok r) : r.length ≤ 16384 := by
  unfold insP at h
  split at h
  · cases h
  · exact insF_len' l h
theorem Insert_all (w : World) (oa : Option Addr) (n ca : Nat) (ts : List Tok) (hn : n ≤ 100000000000) (hT : Tks w oa n ts) : Calls Try.prog 6 #[.slice oa n ca] w (InR w (insP ts)) := by
  cases ha : ts.any (·.auto)
  · exact Insert_ok w oa n ca ts hn hT ha
  · exact Insert_bad w oa n ca ts hn hT ha
theorem rInsert_all (w : World) (oa : Option Addr) (n ca : Nat) (ts : List Tok) (hn : n ≤ 3000) (hT : Tks w oa n ts) : Calls Try.prog 7 #[.slice oa n ca] w (InR w (insP ts)) := ref_ins ts ▸ rInsert_any w oa n ca ts hn hT
theorem tks_none (w : World) : Tks w none 0 [] := ⟨rfl, fun k hk => absurd hk (by simp)⟩
abbrev FCV (c : Int) (nm : ByteArray) (li co : Int) : Obj := .cells #[.int .i64 c, .string nm, .int .i64 li, .int .i64 co] 27
set_option maxRecDepth 100000 in
theorem InsL_far (w : World) (oa : Option Addr) (n ca : Nat) (hf : decide (n ≤ 3000) = false) :
    Calls Try.prog 3 #[.slice oa n ca] w fun e w' => e = .returned (.bool true) ∧ Only (fun _ => False) w w' := by
  have HF := Lib.hid hf
  clear hf
  go_enter Try.func3, Try.ntmps3
  go_wp2_with (first | (go_at_call 4; refine (few_p oa n ca _ _ HF.out).mono ?_; rintro r w9 ⟨rfl, rfl⟩) | (go_at_call 5; refine (example_p _).mono ?_; rintro r w8 ⟨rfl, hO8⟩))
  go_ret
  exact ⟨rfl, hO8⟩
set_option maxRecDepth 100000 in
set_option maxHeartbeats 8000000 in
theorem InsL_bad (w : World) (oa : Option Addr) (n ca : Nat) (ts : List Tok) (hT : Tks w oa n ts) {c : Int} {nm : ByteArray} {li co : Int} (hR : insP ts = .bad c nm li co) (hf : n ≤ 3000) :
    Calls Try.prog 3 #[.slice oa n ca] w fun e w' => e = .returned (.bool true) ∧ Only (fun _ => False) w w' := by
  have HX := Lib.hid hR
  have hfd : decide (n ≤ 3000) = true := decide_eq_true hf
  have HF := Lib.hid hfd
  clear hR hfd
  go_enter Try.func3, Try.ntmps3
  go_wp2_with (first | (go_at_call 4; refine (few_p oa n ca _ _ HF.out).mono ?_; rintro r w9 ⟨rfl, rfl⟩) | (go_at_call 6; ((with_reducible refine (Insert_all w oa n ca ts (by omega) hT).mono ?_); rw [HX.out]; rintro r w1 ⟨hO1, rfl⟩; have hP1 := Only.alloc hO1 (FCV c nm li co); have hB1 : FB (w1.alloc (FCV c nm li co)) w1.heap.size c nm li co := new_block _ _)) | (go_at_call 7; ((with_reducible refine (rInsert_all _ oa n ca ts hf (hT.keep hP1)).mono ?_); rw [HX.out]; rintro r w2 ⟨hO2, rfl⟩; have hB2 := hB1.same hO2; have hl2 := lt_of_block hB2; obtain ⟨d0, d1, d2, d3⟩ := hB2.all; have hP2 := Only.alloc (hP1.trans hO2) (FCV c nm li co))) | (go_at_call 8; ((with_reducible refine (SameEq_p _ none none 0 0 0 [] (by decide) (tks_none _) (tks_none _)).mono ?_); rintro r w4 ⟨rfl, hO4⟩; have hP4 := hP2.trans hO4)) | (go_at_call 5; refine (example_p _).mono ?_; rintro r w8 ⟨rfl, hO8⟩))
  go_ret
  exact ⟨rfl, hP4.trans hO8⟩
set_option maxRecDepth 100000 in
set_option maxHeartbeats 8000000 in
theorem InsL_ok (w : World) (oa : Option Addr) (n ca : Nat) (ts : List Tok) (hT : Tks w oa n ts) {rs : List Tok} (hR : insP ts = .ok rs) (hf : n ≤ 3000) :
    Calls Try.prog 3 #[.slice oa n ca] w fun e w' => e = .returned (.bool true) ∧ Only (fun _ => False) w w' := by
  have HX := Lib.hid hR
  have hfd : decide (n ≤ 3000) = true := decide_eq_true hf
  have HF := Lib.hid hfd
  have HRB : Hid (rs.length ≤ 100000000000) := Lib.hid (by have := insP_len' hR; omega)
  clear hR hfd
  go_enter Try.func3, Try.ntmps3
  go_wp2_with (first | (go_at_call 4; refine (few_p oa n ca _ _ HF.out).mono ?_; rintro r w9 ⟨rfl, rfl⟩) | (go_at_call 6; ((with_reducible refine (Insert_all w oa n ca ts (by omega) hT).mono ?_); rw [HX.out]; rintro r w1 ⟨hO1, vo, rfl, hRo⟩; obtain ⟨os, cs, hvo⟩ := rowForm hRo; subst hvo; have hP1 := Only.alloc hO1 (FCV 0 ⟨#[]⟩ 0 0); have hB1 : FB (w1.alloc (FCV 0 ⟨#[]⟩ 0 0)) w1.heap.size 0 ⟨#[]⟩ 0 0 := new_block _ _)) | (go_at_call 7; ((with_reducible refine (rInsert_all _ oa n ca ts hf (hT.keep hP1)).mono ?_); rw [HX.out]; rintro r w2 ⟨hO2, vo2, rfl, hR2⟩; obtain ⟨o2, c2, hv2⟩ := rowForm hR2; subst hv2; have hB2 := hB1.same hO2; have hl2 := lt_of_block hB2; obtain ⟨d0, d1, d2, d3⟩ := hB2.all; have hP2 := Only.alloc (hP1.trans hO2) (FCV 0 ⟨#[]⟩ 0 0))) | (go_at_call 8; ((with_reducible refine (SameEq_p _ os o2 rs.length cs c2 rs HRB.out (TR.tkz (hRo.only (Only.alloc (Only.trans (Only.alloc (Only.refl (fun _ => False) _) _) hO2) _) (fun _ _ hc => hc))) (TR.tkz (hR2.only (Only.alloc (Only.refl (fun _ => False) _) _) (fun _ _ hc => hc)))).mono ?_); rintro r w4 ⟨rfl, hO4⟩; have hP4 := hP2.trans hO4)) | (go_at_call 5; refine (example_p _).mono ?_; rintro r w8 ⟨rfl, hO8⟩))
  go_ret
  exact ⟨rfl, hP4.trans hO8⟩
end Go.Proofs.Ythblchafjmgmbaa
