/-
  WALKS. Render, given what isTokenPrintable answers.
-/
import Derived.Test.YtakojceggpljoaaGreatDoorRen0
import Derived.Test.YtakojceggpljoaaGreatDoorSame
import Derived.Lib.ItoaLen
namespace Go.Proofs.YtakojceggpljoaaGreatDoor
open Go.RowKit Go.Maps
/-- What the writer has after these tokens, if it is not too long. -/
def renL (s : WS) : List Tok → Option WS
  | [] => some s
  | t :: ts => if 65536 < (tokS s t).out.length then none else renL (tokS s t) ts
/-- What Render answers. -/
def renR (ts : List Tok) : ByteArray × Int :=
  if ts.all prT then (if 16384 < ts.length then (⟨#[]⟩, 3) else match renL ⟨[], 1, 1, true⟩ ts with | some s => (⟨s.out.toArray⟩, 0) | none => (⟨#[]⟩, 3)) else (⟨#[]⟩, 1)
theorem BB.lt {w : World} {b B : Nat} {T : TypeId} {rest : List Value} {l : List UInt8} (h : BB w b T rest B l) : b < w.heap.size := h.elim BA.lt BA.lt
structure TokOk (t : Tok) : Prop where
  n0 : -9223372036854775808 ≤ t.n
  n1 : t.n ≤ 9223372036854775807
  q : t.qual.size ≤ 65536
  x : t.text.size ≤ 65536
  l0 : -9223372036854775808 ≤ t.line
  l1 : t.line ≤ 9223372036854775807
theorem qtL_len (q : UInt8) (l : List UInt8) : (qtL q l).length ≤ 4 * l.length + 2 := by unfold qtL; rw [List.length_append]; have := qtB_len q l; simp; omega
theorem txB_size {t : Tok} (h : TokOk t) : (txB t).size ≤ 10000000 := by
  have h1 := Lib.itoa_length_le t.n h.n0 h.n1
  have h2 := h.q
  have h3 := h.x
  have e3 : t.text.data.toList.length = t.text.size := (Lib.size_eq _).symm
  unfold txB
  split
  · show (Lib.itoa t.n).toArray.size ≤ _; rw [List.size_toArray]; omega
  split
  · unfold qcB; split
    · show (qtL 39 [t.n.toNat.toUInt8]).toArray.size ≤ _; rw [List.size_toArray]; have h := qtL_len 39 [t.n.toNat.toUInt8]; have e1 : [t.n.toNat.toUInt8].length = 1 := rfl; omega
    · show (0 : Nat) ≤ _; omega
  split
  · show (qtL 34 t.text.data.toList).toArray.size ≤ _; rw [List.size_toArray]; have := qtL_len 34 t.text.data.toList; omega
  split
  · omega
  · simp only [ByteArray.size_append]; show t.qual.size + 1 + t.text.size ≤ _; omega
/-- The writer's numbers are those of its text. -/
structure Fit (s : WS) : Prop where
  c0 : 1 ≤ s.col
  c1 : s.col ≤ 1 + s.out.length
  l0 : 1 ≤ s.line
  l1 : s.line ≤ 1 + s.out.length
theorem Fit.feed {s : WS} (h : Fit s) (line : Int) : Fit (feedS s line) := by
  obtain ⟨h1, h2, h3, h4⟩ := h
  unfold feedS; split
  · constructor <;> simp only [List.length_append, rp_len] <;> omega
  · exact ⟨h1, h2, h3, h4⟩
theorem Fit.blank {s : WS} (h : Fit s) (col : Int) : Fit (colS s col) := by
  obtain ⟨h1, h2, h3, h4⟩ := h
  unfold colS; split
  · constructor <;> simp only [List.length_append, rp_len] <;> omega
  split
  · exact ⟨h1, h2, h3, h4⟩
  · constructor <;> simp only [List.length_append, List.length_singleton] <;> omega
theorem Fit.tok {s : WS} (h : Fit s) (t : Tok) : Fit (tokS s t) := by
  obtain ⟨h1, h2, h3, h4⟩ := (h.feed t.line).blank t.col
  unfold tokS
  have e : (txB t).data.toList.length = (txB t).size := (Lib.size_eq _).symm
  constructor <;> simp only [List.length_append, e] <;> omega
theorem tok_out {s : WS} {t : Tok} (h : (txB t).size ≠ 0) : (tokS s t).out ≠ [] := by
  intro hc
  have e : (txB t).data.toList.length = (txB t).size := (Lib.size_eq _).symm
  have : ((tokS s t).out).length = 0 := by rw [hc]; rfl
  unfold tokS at this
  simp only [List.length_append, e] at this
  omega
/-- isTokenPrintable answers so for these tokens. -/
def PrtOk (W : World) (ts : List Tok) : Prop := ∀ t ∈ ts, ∀ w', Q W w' → Calls Tryz.prog 27 #[tokV t] w' fun e w'' => e = .returned (.bool (prT t)) ∧ Only (fun _ => False) w' w''
theorem all_take {ts : List Tok} {k : Nat} (h : (ts.take k).all prT = true) (hk : k < ts.length) (hp : prT ts[k] = true) : (ts.take (k + 1)).all prT = true := by
  rw [List.take_succ_eq_append_getElem hk, List.all_append, h]; simp [hp]
theorem all_no {ts : List Tok} {k : Nat} (hk : k < ts.length) (hp : prT ts[k] = false) : ts.all prT = false := by
  rw [List.all_eq_false]; exact ⟨ts[k], List.getElem_mem hk, by rw [hp]; decide⟩
set_option maxRecDepth 100000 in
set_option maxHeartbeats 4000000 in
theorem Render_no (W w : World) (hq : Q W w) (oa : Option Addr) (n ca : Nat) (ts : List Tok) (hn : n ≤ 1000000) (hts : Tks w oa n ts) (hp : PrtOk W ts) (ha : ts.all prT = false) :
    Calls Tryz.prog 15 #[.slice oa n ca] w fun e w' => e = .returned (.tuple #[.string ⟨#[]⟩, .int .i64 1]) ∧ Only (fun j => w.heap.size ≤ j) w w' := by
  have HL := Lib.hid hts.len
  have HA := Lib.hid ha
  clear ha
  go_enter Tryz.func15, Tryz.ntmps15
  go_wp2
  go_loopw [11] (fun i wr => ∃ k : Nat, k ≤ n ∧ i = .int .i64 k ∧ Hid ((ts.take k).all prT = true) ∧ Only (fun j => w.heap.size ≤ j) w wr) (fun i _ => n - (intOf i).toNat)
  case atStart => exact ⟨0, by omega, rfl, Lib.hid rfl, Only.refl _ _⟩
  case round =>
    obtain ⟨k, hk, rfl, HK, hO⟩ := hrel
    by_cases hlt : k < n
    · have hka : k < ts.length := by rw [HL.out]; exact hlt
      obtain ⟨b, o, rfl, hc0⟩ := hts.cell k hka
      have hbw : b < w.heap.size := cell_lt hc0.c0
      have hc := hc0.only hO (by omega)
      obtain ⟨x, hx⟩ : ∃ x, ts[k] = x := ⟨_, rfl⟩
      obtain ⟨v, hv⟩ : ∃ v, prT x = v := ⟨_, rfl⟩
      rw [hx] at hc
      have HX := Lib.hid hx
      have HPV := Lib.hid hv
      have HPX : Hid (∀ w', Q W w' → Calls Tryz.prog 27 #[tokV x] w' fun e w'' => e = .returned (.bool (prT x)) ∧ Only (fun _ => False) w' w'') := Lib.hid (hp x (by rw [← hx]; exact List.getElem_mem hka))
      have hQr : Q W wr := hq.only hO (fun i hi => Nat.le_trans hq.bel.size hi)
      have hQx : Q W (tokA wr x) := hQr.below ((Below.refl _ _).alloc (Nat.le_refl _) _)
      have hOx : Only (fun j => w.heap.size ≤ j) w (tokA wr x) := hO.trans (tokA_only wr x).lift
      obtain ⟨p0, p1, p2, p3, p4, p5, p6⟩ := hc
      clear hx hv hc0
      cases v
      · go_wp2_with (go_loud (first | (go_at_call 27; ((with_reducible refine (HPX.out _ hQx).mono ?_); rw [HPV.out]; rintro e w1 ⟨rfl, hO1⟩))))
        exact bodyPost_ret (v := .tuple #[.string ⟨#[]⟩, .int .i64 1]) (by simp [results, Tryz.results15, go_sem]) rfl ⟨rfl, hOx.trans hO1.lift⟩
      · go_wp2_with (go_loud (first | (go_at_call 27; ((with_reducible refine (HPX.out _ hQx).mono ?_); rw [HPV.out]; rintro e w1 ⟨rfl, hO1⟩))))
        go_roundw
        case rel => exact ⟨k + 1, by omega, by go_num, Lib.hid (all_take HK.out hka (by rw [HX.out]; exact HPV.out)), hOx.trans hO1.lift⟩
        case measure => simp [intOf]; omega
    · exfalso
      have := HK.out
      rw [List.take_of_length_le (by rw [HL.out]; omega), HA.out] at this
      cases this
set_option maxRecDepth 100000 in
set_option maxHeartbeats 4000000 in
theorem Render_long (W w : World) (hq : Q W w) (oa : Option Addr) (n ca : Nat) (ts : List Tok) (hn : n ≤ 1000000) (hts : Tks w oa n ts) (hp : PrtOk W ts) (ha : ts.all prT = true) (hl : 16384 < ts.length) :
    Calls Tryz.prog 15 #[.slice oa n ca] w fun e w' => e = .returned (.tuple #[.string ⟨#[]⟩, .int .i64 3]) ∧ Only (fun j => w.heap.size ≤ j) w w' := by
  have HL := Lib.hid hts.len
  have HA := Lib.hid ha
  have hnl : 16384 < n := by rw [← HL.out]; exact hl
  clear ha hl
  go_enter Tryz.func15, Tryz.ntmps15
  go_wp2
  go_loopw [11] (fun i wr => ∃ k : Nat, k ≤ n ∧ i = .int .i64 k ∧ Only (fun j => w.heap.size ≤ j) w wr) (fun i _ => n - (intOf i).toNat)
  case atStart => exact ⟨0, by omega, rfl, Only.refl _ _⟩
  case round =>
    obtain ⟨k, hk, rfl, hO⟩ := hrel
    by_cases hlt : k < n
    · have hka : k < ts.length := by rw [HL.out]; exact hlt
      obtain ⟨b, o, rfl, hc0⟩ := hts.cell k hka
      have hbw : b < w.heap.size := cell_lt hc0.c0
      have hc := hc0.only hO (by omega)
      obtain ⟨x, hx⟩ : ∃ x, ts[k] = x := ⟨_, rfl⟩
      rw [hx] at hc
      have HX := Lib.hid hx
      have HPV : Hid (prT x = true) := Lib.hid (by rw [← hx]; exact List.all_eq_true.1 HA.out _ (List.getElem_mem hka))
      have HPX : Hid (∀ w', Q W w' → Calls Tryz.prog 27 #[tokV x] w' fun e w'' => e = .returned (.bool (prT x)) ∧ Only (fun _ => False) w' w'') := Lib.hid (hp x (by rw [← hx]; exact List.getElem_mem hka))
      have hQr : Q W wr := hq.only hO (fun i hi => Nat.le_trans hq.bel.size hi)
      have hQx : Q W (tokA wr x) := hQr.below ((Below.refl _ _).alloc (Nat.le_refl _) _)
      have hOx : Only (fun j => w.heap.size ≤ j) w (tokA wr x) := hO.trans (tokA_only wr x).lift
      obtain ⟨p0, p1, p2, p3, p4, p5, p6⟩ := hc
      clear hx hc0
      go_wp2_with (first | (go_at_call 27; ((with_reducible refine (HPX.out _ hQx).mono ?_); rw [HPV.out]; rintro e w1 ⟨rfl, hO1⟩)))
      go_roundw
      case rel => exact ⟨k + 1, by omega, by go_num, hOx.trans hO1.lift⟩
      case measure => simp [intOf]; omega
    · go_wp2
      exact bodyPost_ret (v := .tuple #[.string ⟨#[]⟩, .int .i64 3]) (by simp [results, Tryz.results15, go_sem]) rfl ⟨rfl, hO⟩
theorem renL_step {ts : List Tok} {k : Nat} (s : WS) (hk : k < ts.length) (t : Tok) (ht : ts[k] = t) : renL s (ts.drop k) = if 65536 < (tokS s t).out.length then none else renL (tokS s t) (ts.drop (k + 1)) := by
  rw [List.drop_eq_getElem_cons hk, ht]; rfl
/-- What Render's call leaves. -/
def RenPost (w : World) (R : ByteArray × Int) (e : Ending) (w' : World) : Prop := e = .returned (.tuple #[.string R.1, .int .i64 R.2]) ∧ Only (fun j => w.heap.size ≤ j) w w'
set_option maxRecDepth 100000 in
set_option maxHeartbeats 4000000 in
theorem Render_yes (W w : World) (hq : Q W w) (oa : Option Addr) (n ca : Nat) (ts : List Tok) (hn : n ≤ 1000000) (hts : Tks w oa n ts) (hp : PrtOk W ts) (ha : ts.all prT = true) (hl : ts.length ≤ 16384) (hok : ∀ t ∈ ts, TokOk t) (hne : ∀ t ∈ ts, (txB t).size ≠ 0) :
    Calls Tryz.prog 15 #[.slice oa n ca] w (RenPost w (match renL ⟨[], 1, 1, true⟩ ts with | some s => (⟨s.out.toArray⟩, 0) | none => (⟨#[]⟩, 3))) := by
  have HL := Lib.hid hts.len
  have HA := Lib.hid ha
  have HOK := Lib.hid hok
  have HNE := Lib.hid hne
  have hnl : n ≤ 16384 := by rw [← HL.out]; exact hl
  obtain ⟨R, hR⟩ : ∃ R, (match renL ⟨[], 1, 1, true⟩ ts with | some s => ((⟨s.out.toArray⟩ : ByteArray), (0 : Int)) | none => (⟨#[]⟩, 3)) = R := ⟨_, rfl⟩
  rw [hR]
  have HR := Lib.hid hR
  clear ha hl hok hne hR
  go_enter Tryz.func15, Tryz.ntmps15
  go_wp2
  go_loopw [11] (fun i wr => ∃ k : Nat, k ≤ n ∧ i = .int .i64 k ∧ Only (fun j => w.heap.size ≤ j) w wr) (fun i _ => n - (intOf i).toNat)
  case atStart => exact ⟨0, by omega, rfl, Only.refl _ _⟩
  case round =>
    obtain ⟨k, hk, rfl, hO⟩ := hrel
    by_cases hlt : k < n
    · have hka : k < ts.length := by rw [HL.out]; exact hlt
      obtain ⟨b, o, rfl, hc0⟩ := hts.cell k hka
      have hbw : b < w.heap.size := cell_lt hc0.c0
      have hc := hc0.only hO (by omega)
      obtain ⟨x, hx⟩ : ∃ x, ts[k] = x := ⟨_, rfl⟩
      rw [hx] at hc
      have HX := Lib.hid hx
      have HPV : Hid (prT x = true) := Lib.hid (by rw [← hx]; exact List.all_eq_true.1 HA.out _ (List.getElem_mem hka))
      have HPX : Hid (∀ w', Q W w' → Calls Tryz.prog 27 #[tokV x] w' fun e w'' => e = .returned (.bool (prT x)) ∧ Only (fun _ => False) w' w'') := Lib.hid (hp x (by rw [← hx]; exact List.getElem_mem hka))
      have hQr : Q W wr := hq.only hO (fun i hi => Nat.le_trans hq.bel.size hi)
      have hQx : Q W (tokA wr x) := hQr.below ((Below.refl _ _).alloc (Nat.le_refl _) _)
      have hOx : Only (fun j => w.heap.size ≤ j) w (tokA wr x) := hO.trans (tokA_only wr x).lift
      obtain ⟨p0, p1, p2, p3, p4, p5, p6⟩ := hc
      clear hx hc0
      go_wp2_with (first | (go_at_call 27; ((with_reducible refine (HPX.out _ hQx).mono ?_); rw [HPV.out]; rintro e w1 ⟨rfl, hO1⟩)))
      go_roundw
      case rel => exact ⟨k + 1, by omega, by go_num, hOx.trans hO1.lift⟩
      case measure => simp [intOf]; omega
    · obtain ⟨w0, hw0⟩ : ∃ w0, w0 = wr := ⟨_, rfl⟩
      have hG : (wr.alloc (.cells #[.pointer none, .slice none 0 0, .int .i64 1, .int .i64 1, .bool true] 59)).heap[wr.heap.size]? = some (.cells #[.pointer none, .slice none 0 0, .int .i64 1, .int .i64 1, .bool true] 59 (0, 0)) := new_block wr _
      have hWS : WB (wr.alloc (.cells #[.pointer none, .slice none 0 0, .int .i64 1, .int .i64 1, .bool true] 59)) wr.heap.size (wr.heap.size + 1) ⟨[], 1, 1, true⟩ := .inl ⟨by omega, _, hG, ⟨by simp, .inl ⟨rfl, rfl⟩⟩⟩
      have hOS : Only (fun j => w.heap.size ≤ j) w (wr.alloc (.cells #[.pointer none, .slice none 0 0, .int .i64 1, .int .i64 1, .bool true] 59)) := hO.trans (Only.of_below ((Below.refl _ _).alloc (Nat.le_refl _) _))
      have hZS : (wr.alloc (.cells #[.pointer none, .slice none 0 0, .int .i64 1, .int .i64 1, .bool true] 59)).heap.size = wr.heap.size + 1 := by show (wr.heap.push _).size = _; simp
      have hbw : w.heap.size ≤ wr.heap.size := hO.size
      have HG := Lib.hid hG
      clear hG
      have HB : Hid (wr.heap.size + 1 ≤ (wr.alloc (.cells #[.pointer none, .slice none 0 0, .int .i64 1, .int .i64 1, .bool true] 59)).heap.size) := Lib.hid (by rw [hZS]; omega)
      obtain ⟨b, hbe⟩ : ∃ b, wr.heap.size = b := ⟨_, rfl⟩
      have HbW : Hid (W.heap.size ≤ b) := Lib.hid (by have := hq.bel.size; omega)
      clear hZS hw0
      go_wp2
      go_loopw [25] (fun i wq => ∃ (k : Nat) (s : WS), k ≤ n ∧ i = .int .i64 k ∧ Hid (renL ⟨[], 1, 1, true⟩ ts = renL s (ts.drop k)) ∧ WB wq b (b + 1) s ∧ Only (fun j => w.heap.size ≤ j) w wq ∧ Hid (Fit s ∧ s.out.length ≤ 65536) ∧ Hid (s.out = [] → wq.heap[b]? = some (.cells #[.pointer none, .slice none 0 0, .int .i64 1, .int .i64 1, .bool true] 59 (0, 0)))) (fun i _ => n - (intOf i).toNat)
      case atStart => exact ⟨0, ⟨[], 1, 1, true⟩, by omega, rfl, Lib.hid rfl, by rw [← hbe]; exact hWS, hOS, Lib.hid ⟨⟨by decide, by decide, by decide, by decide⟩, by decide⟩, Lib.hid (fun _ => by rw [← hbe]; exact HG.out)⟩
      case round =>
        obtain ⟨k, s, hk, rfl, HE, hWq, hOq, HF, HN⟩ := hrel
        by_cases hlt : k < n
        · have hka : k < ts.length := by rw [HL.out]; exact hlt
          obtain ⟨c, o, rfl, hc0⟩ := hts.cell k hka
          have hcw : c < w.heap.size := cell_lt hc0.c0
          have hc := hc0.only hOq (by omega)
          obtain ⟨x, hx⟩ : ∃ x, ts[k] = x := ⟨_, rfl⟩
          rw [hx] at hc
          have HX := Lib.hid hx
          obtain ⟨hn0, hn1, hz1, hz2, ht1, ht0⟩ := HOK.out x (by rw [← hx]; exact List.getElem_mem hka)
          have hTX := txB_size (HOK.out x (by rw [← hx]; exact List.getElem_mem hka))
          have HTN : Hid ((txB x).size ≠ 0) := Lib.hid (HNE.out x (by rw [← hx]; exact List.getElem_mem hka))
          obtain ⟨⟨hf1, hf2, hf3, hf4⟩, hf5⟩ := HF.out
          have HTK : Hid (∀ w', Only (fun _ => False) wr w' → Q W w' → Calls Tryz.prog 28 #[.pointer (some ⟨b, 0, none⟩), tokV x] w' (WPost w' b (b + 1) (tokS s x))) := Lib.hid (fun w' ho hqw => token_p hqw (BB.keep hWq ho) x hn0 hn1 (by omega) (by omega) hTX (by omega) (by have := BB.lt (BB.keep hWq ho); omega) (by omega) hf1 (by omega) hf3 (by omega) HbW.out ht0 ht1)
          have HF' : Hid (Fit (tokS s x)) := Lib.hid (HF.out.1.tok x)
          have HNO : Hid ((tokS s x).out ≠ []) := Lib.hid (tok_out HTN.out)
          have HST := Lib.hid (renL_step s hka x hx)
          have hQr : Q W wr := hq.only hOq (fun i hi => Nat.le_trans hq.bel.size hi)
          have hQx : Q W (tokA wr x) := hQr.below ((Below.refl _ _).alloc (Nat.le_refl _) _)
          have hOx : Only (fun j => w.heap.size ≤ j) w (tokA wr x) := hOq.trans (tokA_only wr x).lift
          have hOy := tokA_only wr x
          obtain ⟨p0, p1, p2, p3, p4, p5, p6⟩ := hc
          clear hx hc0 hn0 hn1 hz1 hz2 ht1 ht0 hTX hf1 hf2 hf3 hf4 hf5 hQr
          obtain ⟨s', hs'⟩ : ∃ s', tokS s x = s' := ⟨_, rfl⟩
          have HS' := Lib.hid hs'
          have hlong : decide (65536 < (s'.out.length : Int)) = true ∨ decide (65536 < (s'.out.length : Int)) = false := by cases decide (65536 < (s'.out.length : Int)) <;> simp
          clear hs'
          rcases hlong with hlong | hlong
          · have HRN : Hid (R = (⟨#[]⟩, 3)) := Lib.hid (by rw [← HR.out, HE.out, HST.out, HS'.out, if_pos (by simp at hlong; omega)])
            go_wp2_with (go_loud (first | (go_at_call 28; ((with_reducible refine (HTK.out _ hOy hQx).mono ?_); rw [HS'.out]; rintro r w1 ⟨rfl, hW1, hO1, -⟩; have hW1' : BB w1 b 59 [.int .i64 s'.line, .int .i64 s'.col, .bool s'.first] (b + 1) s'.out := hW1)) | (go_at_call 29; ((with_reducible refine (Len_p hW1').mono ?_); rintro r w2 ⟨rfl, rfl⟩))))
            exact bodyPost_ret (v := .tuple #[.string ⟨#[]⟩, .int .i64 3]) (by simp [results, Tryz.results15, go_sem]) rfl ⟨by rw [HRN.out], hOx.trans (hO1.wide (fun i hi => by omega))⟩
          · go_wp2_with (go_loud (first | (go_at_call 28; ((with_reducible refine (HTK.out _ hOy hQx).mono ?_); rw [HS'.out]; rintro r w1 ⟨rfl, hW1, hO1, -⟩; have hW1' : BB w1 b 59 [.int .i64 s'.line, .int .i64 s'.col, .bool s'.first] (b + 1) s'.out := hW1)) | (go_at_call 29; ((with_reducible refine (Len_p hW1').mono ?_); rintro r w2 ⟨rfl, rfl⟩))))
            go_roundw
            case rel => exact ⟨k + 1, s', by omega, by go_num, Lib.hid (by rw [HE.out, HST.out, HS'.out, if_neg (by simp at hlong; omega)]), hW1, hOx.trans (hO1.wide (fun i hi => by omega)), Lib.hid ⟨by rw [← HS'.out]; exact HF'.out, by simp at hlong; omega⟩, Lib.hid (fun h => absurd h (by rw [← HS'.out]; exact HNO.out))⟩
            case measure => simp [intOf]; omega
        · have HRS : Hid (R = (⟨s.out.toArray⟩, 0)) := Lib.hid (by rw [← HR.out, HE.out, List.drop_of_length_le (by rw [HL.out]; omega)]; rfl)
          by_cases he : s.out = []
          · have HE0 := Lib.hid he
            have HGN : Hid (wr.heap[b]? = some (.cells (.pointer none :: .slice none 0 0 :: [.int .i64 1, .int .i64 1, .bool true]).toArray 59 (0, 0))) := Lib.hid (HN.out he)
            go_wp2_with (go_loud (first | (go_at_call 30; ((with_reducible refine (String_nil (B := b + 1) HGN.out).mono ?_); rintro r w2 ⟨rfl, hO2⟩))))
            exact bodyPost_ret (v := .tuple #[.string ⟨#[]⟩, .int .i64 0]) (by simp [results, Tryz.results15, go_sem]) rfl ⟨by rw [HRS.out, HE0.out], hOq.trans (hO2.wide (fun i hi => by omega))⟩
          · have hWq' : BB wr b 59 [.int .i64 s.line, .int .i64 s.col, .bool s.first] (b + 1) s.out := hWq
            go_wp2_with (go_loud (first | (go_at_call 30; ((with_reducible refine (String_some hWq' he).mono ?_); rintro r w2 ⟨rfl, hO2⟩))))
            exact bodyPost_ret (v := .tuple #[.string ⟨s.out.toArray⟩, .int .i64 0]) (by simp [results, Tryz.results15, go_sem]) rfl ⟨by rw [HRS.out], hOq.trans (hO2.wide (fun i hi => by omega))⟩
end Go.Proofs.YtakojceggpljoaaGreatDoor
