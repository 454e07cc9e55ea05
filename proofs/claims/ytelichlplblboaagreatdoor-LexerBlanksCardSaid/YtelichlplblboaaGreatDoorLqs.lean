/-
  WALKS. few.
  WALKS. LexerQuotes, LexerRenders, LexerRoundTrip: true.
  WALKS. LexerQuotes: true.
-/
import Derived.Test.YtelichlplblboaaGreatDoorOpenL
import Derived.Test.YtelichlplblboaaGreatDoorAwk
import Derived.Test.YtelichlplblboaaGreatDoorPrt0
import Derived.Test.YtelichlplblboaaGreatDoorRq8
import Derived.Test.YtelichlplblboaaGreatDoorPrt8
import Derived.Test.YtelichlplblboaaGreatDoorSm
namespace Go.Proofs.YtelichlplblboaaGreatDoor
open Go.RowKit Go.Maps
def okT (t : Tok) : Bool := decide (t.text.size ≤ 300) && decide (t.qual.size ≤ 300)
def fewL (ts : List Tok) : Bool := ts.all okT && decide (ts.length ≤ 300)
theorem few_no {ts : List Tok} {k : Nat} {x : Tok} (hk : k < ts.length) (hx : ts[k] = x) (h : 300 < x.text.size ∨ 300 < x.qual.size) : fewL ts = false := by
  have : okT ts[k] = false := by rw [hx]; unfold okT; rcases h with h | h <;> simp <;> omega
  have h2 : ts.all okT = false := by rw [List.all_eq_false]; exact ⟨ts[k], List.getElem_mem hk, by rw [this]; decide⟩
  unfold fewL; rw [h2]; rfl
theorem few_take {ts : List Tok} {k : Nat} {x : Tok} (h : (ts.take k).all okT = true) (hk : k < ts.length) (hx : ts[k] = x) (h1 : x.text.size ≤ 300) (h2 : x.qual.size ≤ 300) : (ts.take (k + 1)).all okT = true := by
  rw [List.take_succ_eq_append_getElem hk, List.all_append, h, hx]; simp [okT, h1, h2]
set_option maxRecDepth 100000 in
set_option maxHeartbeats 4000000 in
theorem few_p (w : World) (oa : Option Addr) (n ca : Nat) (ts : List Tok) (hn : n ≤ maxLen) (hts : Tks w oa n ts) :
    Calls Tryz.prog 14 #[.slice oa n ca] w fun e w' => e = .returned (.bool (fewL ts)) ∧ Only (fun _ => False) w w' := by
  have HL := Lib.hid hts.len
  have hn' : n ≤ 9223372036854775807 := by unfold maxLen at hn; omega
  clear hn
  go_enter Tryz.func14, Tryz.ntmps14
  go_wp2
  go_loopw [7] (fun i wr => ∃ k : Nat, k ≤ n ∧ i = .int .i64 k ∧ Hid ((ts.take k).all okT = true) ∧ Only (fun _ => False) w wr) (fun i _ => n - (intOf i).toNat)
  case atStart => exact ⟨0, by omega, rfl, Lib.hid rfl, Only.refl _ _⟩
  case round =>
    obtain ⟨k, hk, rfl, HK, hO⟩ := hrel
    by_cases hlt : k < n
    · have hka : k < ts.length := by rw [HL.out]; exact hlt
      obtain ⟨b, o, rfl, hc0⟩ := hts.cell k hka
      have hc := hc0.only hO (fun h => h)
      obtain ⟨x, hx⟩ : ∃ x, ts[k] = x := ⟨_, rfl⟩
      rw [hx] at hc
      have HX := Lib.hid hx
      have hOx := tokA_only wr x
      obtain ⟨p0, p1, p2, p3, p4, p5, p6⟩ := hc
      clear hx hc0
      rcases (by omega : 300 < x.text.size ∨ (x.text.size ≤ 300 ∧ 300 < x.qual.size) ∨ (x.text.size ≤ 300 ∧ x.qual.size ≤ 300)) with h1 | ⟨h1, h2⟩ | ⟨h1, h2⟩
      · have HF := Lib.hid (few_no hka HX.out (.inl h1))
        have e1 : decide (300 < (x.text.size : Int)) = true := by simp; omega
        go_wp2
        go_ret
        exact ⟨ret_bool HF.out.symm, hO.trans hOx⟩
      · have HF := Lib.hid (few_no hka HX.out (.inr h2))
        have e1 : decide (300 < (x.text.size : Int)) = false := by simp; omega
        have e2 : decide (300 < (x.qual.size : Int)) = true := by simp; omega
        go_wp2
        go_ret
        exact ⟨ret_bool HF.out.symm, hO.trans hOx⟩
      · have HF := Lib.hid (few_take HK.out hka HX.out h1 h2)
        have e1 : decide (300 < (x.text.size : Int)) = false := by simp; omega
        have e2 : decide (300 < (x.qual.size : Int)) = false := by simp; omega
        go_wp2
        go_roundw
        case rel => exact ⟨k + 1, by omega, by go_num, HF, hO.trans hOx⟩
        case measure => simp [intOf]; omega
    · have HF : Hid (fewL ts = decide ((n : Int) ≤ 300)) := Lib.hid (by
        have h := HK.out
        rw [List.take_of_length_le (by rw [HL.out]; omega)] at h
        unfold fewL
        rw [h, HL.out, Bool.true_and]
        rw [decide_eq_decide]; omega)
      go_wp2
      go_ret
      exact ⟨ret_bool HF.out.symm, hO⟩
theorem few_ok {ts : List Tok} (h : fewL ts = true) (hb : ∀ t ∈ ts, TokB t) : ts.length ≤ 300 ∧ ∀ t ∈ ts, TokOk t := by
  unfold fewL at h
  rw [Bool.and_eq_true, List.all_eq_true] at h
  refine ⟨by simpa using h.2, fun t ht => ?_⟩
  have h1 := h.1 t ht
  unfold okT at h1
  simp at h1
  have h2 := hb t ht
  exact ⟨h2.n0, h2.n1, by omega, by omega, h2.l0, h2.l1⟩
end Go.Proofs.YtelichlplblboaaGreatDoor
namespace Go.Proofs.YtelichlplblboaaGreatDoor
open Go.RowKit Go.Maps
/-- Lex, where it answers tokens. -/
theorem Lex_w (s : ByteArray) (l : List Tok) (n : Nat) (W w : World) (hq : Q W w) (h : lexP s = .ok l) (hn : l.length = n) : Calls Tryz.prog 11 #[.string s] w fun r w' =>
    ∃ oa cap, r = .returned (.tuple #[.slice oa n cap, .agg #[.int .i64 0, .string ⟨#[]⟩, .int .i64 0, .int .i64 0]]) ∧ Tks w' oa n l ∧ Q W w' ∧ Only (fun _ => False) w w' := by
  refine (Lex_p s W w hq).mono fun r w' hp => ?_
  rw [h] at hp
  obtain ⟨tk, rfl, hT, hB⟩ := hp
  subst hn
  have hT' := hT
  rcases hT.2 with ⟨rfl, hz⟩ | ⟨g, cap, cur, rfl, r⟩
  · exact ⟨none, 0, by rw [hz]; rfl, ⟨rfl, fun k hk => absurd hk (by omega)⟩, hq.below hB, Only.of_below hB⟩
  · exact ⟨some ⟨g, 0, none⟩, cap, rfl, TR.tks hT', hq.below hB, Only.of_below hB⟩
theorem Render_v (W w : World) (hq : Q W w) (oa : Option Addr) (n ca : Nat) (ts : List Tok) (hn : n ≤ 300) (hts : Tks w oa n ts) (hok : ∀ t ∈ ts, TokOk t) (S : ByteArray) (E : Int) (h : renR ts = (S, E)) :
    Calls Tryz.prog 15 #[.slice oa n ca] w fun e w' => e = .returned (.tuple #[.string S, .int .i64 E]) ∧ Q W w' ∧ Only (fun _ => False) w w' :=
  (Render_p W w hq oa n ca ts (by omega) hts hok).mono fun e w' ⟨he, hO⟩ => ⟨by rw [he, h], hq.only hO (fun i hi => Nat.le_trans hq.bel.size hi), hO.new⟩
theorem rRender_v (W w : World) (hq : Q W w) (oa : Option Addr) (n ca : Nat) (ts : List Tok) (hn : n ≤ 300) (hts : Tks w oa n ts) (hok : ∀ t ∈ ts, TokOk t) (S : ByteArray) (E : Int) (h : renR ts = (S, E)) :
    Calls Tryz.prog 16 #[.slice oa n ca] w fun e w' => e = .returned (.tuple #[.string S, .int .i64 E]) ∧ Q W w' ∧ Only (fun _ => False) w w' :=
  (rRender_p W w hq oa n ca ts (by omega) hts hok).mono fun e w' ⟨he, hO⟩ => ⟨by rw [he, h], hq.only hO (fun _ h => h.elim), hO⟩
theorem few_v (W w : World) (hq : Q W w) (oa : Option Addr) (n ca : Nat) (ts : List Tok) (hn : n ≤ maxLen) (hts : Tks w oa n ts) (v : Bool) (h : fewL ts = v) :
    Calls Tryz.prog 14 #[.slice oa n ca] w fun e w' => e = .returned (.bool v) ∧ Q W w' ∧ Only (fun _ => False) w w' :=
  (few_p w oa n ca ts hn hts).mono fun e w' ⟨he, hO⟩ => ⟨by rw [he, h], hq.only hO (fun _ h => h.elim), hO⟩
set_option maxRecDepth 100000 in
set_option maxHeartbeats 4000000 in
theorem Renders_no (W w : World) (hq : Q W w) (oa : Option Addr) (n ca : Nat) (ts : List Tok) (hn : n ≤ maxLen) (hts : Tks w oa n ts) (hf : fewL ts = false) :
    Calls Tryz.prog 5 #[.slice oa n ca] w fun e w' => e = .returned (.bool true) ∧ Only (fun _ => False) w w' := by
  go_enter Tryz.func5, Tryz.ntmps5
  go_wp2_with (go_loud (first | (go_at_call 14; ((with_reducible refine (few_v W _ hq oa n ca ts hn hts false hf).mono ?_); rintro r w1 ⟨rfl, hq1, hO1⟩)) | (go_at_call 10; ((with_reducible refine (awake_p W _ hq1).mono ?_); rintro r wz ⟨rfl, hOz⟩))))
  go_ret
  exact ⟨rfl, hO1.trans hOz⟩
set_option maxRecDepth 100000 in
set_option maxHeartbeats 4000000 in
theorem Renders_yes (W w : World) (hq : Q W w) (oa : Option Addr) (n ca : Nat) (ts : List Tok) (hn : n ≤ maxLen) (hts : Tks w oa n ts) (hb : ∀ t ∈ ts, TokB t) (hf : fewL ts = true) :
    Calls Tryz.prog 5 #[.slice oa n ca] w fun e w' => e = .returned (.bool true) ∧ Only (fun _ => False) w w' := by
  obtain ⟨hl, hok⟩ := few_ok hf hb
  have hn3 : n ≤ 300 := by rw [← hts.len]; exact hl
  obtain ⟨S, E, hR⟩ : ∃ S E, renR ts = (S, E) := ⟨_, _, rfl⟩
  have HOK := Lib.hid hok
  have HR := Lib.hid hR
  clear hok hR hb hl
  go_enter Tryz.func5, Tryz.ntmps5
  go_wp2_with (go_loud (first | (go_at_call 14; ((with_reducible refine (few_v W _ hq oa n ca ts hn hts true hf).mono ?_); rintro r w1 ⟨rfl, hq1, hO1⟩; have hT1 := hts.keep hO1)) | (go_at_call 15; ((with_reducible refine (Render_v W _ hq1 oa n ca ts hn3 hT1 HOK.out S E HR.out).mono ?_); rintro r w2 ⟨rfl, hq2, hO2⟩; have hT2 := hT1.keep hO2)) | (go_at_call 16; ((with_reducible refine (rRender_v W _ hq2 oa n ca ts hn3 hT2 HOK.out S E HR.out).mono ?_); rintro r w3 ⟨rfl, hq3, hO3⟩)) | (go_at_call 10; ((with_reducible refine (awake_p W _ hq3).mono ?_); rintro r wz ⟨rfl, hOz⟩))))
  go_ret
  exact ⟨rfl, ((hO1.trans hO2).trans hO3).trans hOz⟩
/-- What is rendered is lexed again. -/
theorem round_lex {ts : List Tok} {S : ByteArray} (hl : ts.length ≤ 300) (hok : ∀ t ∈ ts, TokOk t) (h : renR ts = (S, 0)) : ∃ l, lexP S = .ok l ∧ sameL l ts = true := by
  unfold renR at h
  cases ha : ts.all prT
  · rw [ha] at h; simp at h
  rw [if_pos ha, if_neg (by omega)] at h
  cases hr : renL ⟨[], 1, 1, true⟩ ts with
  | none => rw [hr] at h; simp at h
  | some s =>
    rw [hr] at h
    simp at h
    subst h
    have hz : (⟨s.out.toArray⟩ : ByteArray).size = s.out.length := by rw [Lib.size_eq]
    obtain ⟨m, h1, h2⟩ := ren_lex (src := ⟨s.out.toArray⟩) ts (l := []) hr (has_mk _) hz ha (fun t ht => ⟨(hok t ht).n1, prT_ne (List.all_eq_true.1 ha t ht)⟩) (by simp; omega)
    rw [List.nil_append] at h1
    exact ⟨m, h1.lexP (by rw [hz]; exact renL_len (by simp) hr), h2⟩
set_option maxRecDepth 100000 in
set_option maxHeartbeats 4000000 in
theorem Round_no (W w : World) (hq : Q W w) (oa : Option Addr) (n ca : Nat) (ts : List Tok) (hn : n ≤ maxLen) (hts : Tks w oa n ts) (hf : fewL ts = false) :
    Calls Tryz.prog 6 #[.slice oa n ca] w fun e w' => e = .returned (.bool true) ∧ Only (fun _ => False) w w' := by
  go_enter Tryz.func6, Tryz.ntmps6
  go_wp2_with (go_loud (first | (go_at_call 14; ((with_reducible refine (few_v W _ hq oa n ca ts hn hts false hf).mono ?_); rintro r w1 ⟨rfl, hq1, hO1⟩)) | (go_at_call 10; ((with_reducible refine (awake_p W _ hq1).mono ?_); rintro r wz ⟨rfl, hOz⟩))))
  go_ret
  exact ⟨rfl, hO1.trans hOz⟩
set_option maxRecDepth 100000 in
set_option maxHeartbeats 4000000 in
theorem Round_yes (W w : World) (hq : Q W w) (oa : Option Addr) (n ca : Nat) (ts : List Tok) (hn : n ≤ maxLen) (hts : Tks w oa n ts) (hb : ∀ t ∈ ts, TokB t) (hf : fewL ts = true) :
    Calls Tryz.prog 6 #[.slice oa n ca] w fun e w' => e = .returned (.bool true) ∧ Only (fun _ => False) w w' := by
  obtain ⟨hl, hok⟩ := few_ok hf hb
  have hn3 : n ≤ 300 := by rw [← hts.len]; exact hl
  obtain ⟨S, E, hR⟩ : ∃ S E, renR ts = (S, E) := ⟨_, _, rfl⟩
  have HOK := Lib.hid hok
  have HR := Lib.hid hR
  by_cases hE : E = 0
  · subst hE
    obtain ⟨l, hx, hs⟩ := round_lex hl hok hR
    have hlm : l.length = n := by
      rw [← hts.len]
      unfold sameL at hs
      rw [Bool.and_eq_true] at hs
      simpa using hs.1
    have HX := Lib.hid hx
    have HS := Lib.hid hs
    have HLM := Lib.hid hlm
    clear hok hR hb hl hx hs hlm
    go_enter Tryz.func6, Tryz.ntmps6
    go_wp2_with (go_loud (first | (go_at_call 14; ((with_reducible refine (few_v W _ hq oa n ca ts hn hts true hf).mono ?_); rintro r w1 ⟨rfl, hq1, hO1⟩; have hT1 := hts.keep hO1)) | (go_at_call 15; ((with_reducible refine (Render_v W _ hq1 oa n ca ts hn3 hT1 HOK.out S 0 HR.out).mono ?_); rintro r w2 ⟨rfl, hq2, hO2⟩; have hT2 := hT1.keep hO2)) | (go_at_call 11; ((with_reducible refine (Lex_w S l n W _ hq2 HX.out HLM.out).mono ?_); rintro r w3 ⟨ob, cb, rfl, hU3, hq3, hO3⟩; have hR3 := (Below.refl w3.heap.size w3).alloc (Nat.le_refl _) (.cells #[.int .i64 0, .string ⟨#[]⟩, .int .i64 0, .int .i64 0] 26); have hq3' := hq3.below hR3; have hA3 : Only (fun _ => False) w3 _ := Only.of_below hR3; have hT3 := (hT2.keep hO3).keep hA3; have hU3' := hU3.keep hA3)) | (go_at_call 17; ((with_reducible refine (Same_p _ ob oa n n cb ca l ts (by omega) (by omega) hU3' hT3).mono ?_); rw [HS.out]; rintro r w4 ⟨rfl, hO4⟩; have hT4 := hT3.keep hO4; have hU4 := hU3'.keep hO4)) | (go_at_call 18; ((with_reducible refine (rSame_p _ ob oa n n cb ca l ts (by omega) (by omega) hU4 hT4).mono ?_); rw [HS.out]; rintro r w5 ⟨rfl, hO5⟩; have hq5 := (hq3'.only hO4 (fun _ h => h.elim)).only hO5 (fun _ h => h.elim))) | (go_at_call 10; ((with_reducible refine (awake_p W _ hq5).mono ?_); rintro r wz ⟨rfl, hOz⟩))))
    go_ret
    exact ⟨rfl, ((((((hO1.trans hO2).trans hO3).trans hA3).trans hO4).trans hO5).trans hOz)⟩
  · have eE : (E != 0) = true := by simpa using hE
    clear hok hR hb hl hE
    go_enter Tryz.func6, Tryz.ntmps6
    go_wp2_with (go_loud (first | (go_at_call 14; ((with_reducible refine (few_v W _ hq oa n ca ts hn hts true hf).mono ?_); rintro r w1 ⟨rfl, hq1, hO1⟩; have hT1 := hts.keep hO1)) | (go_at_call 15; ((with_reducible refine (Render_v W _ hq1 oa n ca ts hn3 hT1 HOK.out S E HR.out).mono ?_); rintro r w2 ⟨rfl, hq2, hO2⟩; have hT2 := hT1.keep hO2)) | (go_at_call 10; ((with_reducible refine (awake_p W _ hq2).mono ?_); rintro r wz ⟨rfl, hOz⟩))))
    go_ret
    exact ⟨rfl, (hO1.trans hO2).trans hOz⟩
end Go.Proofs.YtelichlplblboaaGreatDoor
namespace Go.Proofs.YtelichlplblboaaGreatDoor
open Go.RowKit Go.Maps
theorem tc0 {w : World} {g : Nat} {t : Tok} (h : TC w g 0 t) : w.cell? ⟨g, 0, none⟩ = some (.int .i64 t.op) ∧ w.cell? ⟨g, 1, none⟩ = some (.string t.qual) ∧ w.cell? ⟨g, 2, none⟩ = some (.string t.text) ∧ w.cell? ⟨g, 3, none⟩ = some (.int .i64 t.n) ∧ w.cell? ⟨g, 4, none⟩ = some (.bool t.auto) ∧ w.cell? ⟨g, 5, none⟩ = some (.int .i64 t.line) ∧ w.cell? ⟨g, 6, none⟩ = some (.int .i64 t.col) :=
  ⟨h.c0, h.c1, h.c2, h.c3, h.c4, h.c5, h.c6⟩
theorem Lex_1 (s : ByteArray) (t : Tok) (W w : World) (hq : Q W w) (h : lexP s = .ok [t]) : Calls Tryz.prog 11 #[.string s] w fun r w' =>
    ∃ g cap, r = .returned (.tuple #[.slice (some ⟨g, 0, none⟩) 1 cap, .agg #[.int .i64 0, .string ⟨#[]⟩, .int .i64 0, .int .i64 0]]) ∧ TC w' g 0 t ∧ Q W w' ∧ Only (fun _ => False) w w' := by
  refine (Lex_v s 1 [t] W w hq h rfl (by decide)).mono fun r w' hp => ?_
  obtain ⟨g, cap, rfl, hT, hq', hO⟩ := hp
  exact ⟨g, cap, rfl, hT.at7 0 t rfl, hq', hO⟩
theorem Quote_v (W w : World) (hq : Q W w) (s T : ByteArray) (hs : s.size ≤ 200) (h : (⟨(qtL 34 s.data.toList).toArray⟩ : ByteArray) = T) :
    Calls Tryz.prog 19 #[.string s] w fun e w' => e = .returned (.string T) ∧ Q W w' ∧ Only (fun _ => False) w w' := by
  subst h
  exact (Quote_p s w (by omega)).mono fun e w' ⟨he, hb⟩ => ⟨he, hq.below hb, Only.of_below hb⟩
theorem QuoteChar_v (W w : World) (hq : Q W w) (n : Int) (T : ByteArray) (h : qcB n = T) :
    Calls Tryz.prog 20 #[.int .i64 n] w fun e w' => e = .returned (.string T) ∧ Q W w' ∧ Only (fun _ => False) w w' := by
  subst h
  exact (QuoteChar_p n w).mono fun e w' ⟨he, hb⟩ => ⟨he, hq.below hb, Only.of_below hb⟩
theorem rQuote_v (W w : World) (hq : Q W w) (s T : ByteArray) (hs : s.size ≤ 200) (h : (⟨(qtL 34 s.data.toList).toArray⟩ : ByteArray) = T) :
    Calls Tryz.prog 21 #[.string s] w fun e w' => e = .returned (.string T) ∧ Q W w' ∧ Only (fun _ => False) w w' := by
  subst h
  exact (rQuote_p s w (by omega)).mono fun e w' ⟨he, hb⟩ => ⟨he, hq.only hb (fun _ h => h.elim), hb⟩
theorem rQuoteChar_v (W w : World) (hq : Q W w) (n : Int) (T : ByteArray) (h : qcB n = T) :
    Calls Tryz.prog 22 #[.int .i64 n] w fun e w' => e = .returned (.string T) ∧ Q W w' ∧ Only (fun _ => False) w w' := by
  subst h
  exact (rQuoteChar_p n w).mono fun e w' ⟨he, hb⟩ => ⟨he, hq.only hb (fun _ h => h.elim), hb⟩
set_option maxRecDepth 100000 in
set_option maxHeartbeats 4000000 in
theorem Quotes_long (W w : World) (hq : Q W w) (s : ByteArray) (n : Int) (h : 200 < s.size) :
    Calls Tryz.prog 8 #[.string s, .int .i64 n] w fun e w' => e = .returned (.bool true) ∧ Only (fun _ => False) w w' := by
  have e1 : decide (200 < (s.size : Int)) = true := by simp; omega
  go_enter Tryz.func8, Tryz.ntmps8
  go_wp2_with (go_loud (first | (go_at_call 10; ((with_reducible refine (awake_p W _ hq).mono ?_); rintro r wz ⟨rfl, hOz⟩))))
  go_ret
  exact ⟨rfl, hOz⟩
set_option maxRecDepth 100000 in
set_option maxHeartbeats 8000000 in
theorem Quotes_out (W w : World) (hq : Q W w) (s : ByteArray) (n : Int) (h : s.size ≤ 200) (hn : ¬ (0 ≤ n ∧ n ≤ 255)) :
    Calls Tryz.prog 8 #[.string s, .int .i64 n] w fun e w' => e = .returned (.bool true) ∧ Only (fun _ => False) w w' := by
  have e1 : decide (200 < (s.size : Int)) = false := by simp; omega
  have hcs : n < 0 ∨ (0 ≤ n ∧ 255 < n) := by omega
  obtain ⟨T, hT⟩ : ∃ T, (⟨(qtL 34 s.data.toList).toArray⟩ : ByteArray) = T := ⟨_, rfl⟩
  have HL : Hid (lexP T = .ok [⟨7, ⟨#[]⟩, s, 0, false, 1, 1⟩]) := Lib.hid (by rw [← hT]; exact lexP_quote s h)
  have HQ := Lib.hid hT
  have HC : Hid (qcB n = ⟨#[]⟩) := Lib.hid (by unfold qcB; rw [if_neg hn])
  clear hn hT
  rcases hcs with h0 | ⟨h0, h1⟩
  all_goals
    go_enter Tryz.func8, Tryz.ntmps8
    go_wp2_with (go_loud (first | (go_at_call 19; ((with_reducible refine (Quote_v W _ hq s T h HQ.out).mono ?_); rintro r w1 ⟨rfl, hq1, hO1⟩)) | (go_at_call 20; ((with_reducible refine (QuoteChar_v W _ hq1 n ⟨#[]⟩ HC.out).mono ?_); rintro r w2 ⟨rfl, hq2, hO2⟩)) | (go_at_call 21; ((with_reducible refine (rQuote_v W _ hq2 s T h HQ.out).mono ?_); rintro r w3 ⟨rfl, hq3, hO3⟩)) | (go_at_call 22; ((with_reducible refine (rQuoteChar_v W _ hq3 n ⟨#[]⟩ HC.out).mono ?_); rintro r w4 ⟨rfl, hq4, hO4⟩)) | (go_at_call 11; ((with_reducible refine (Lex_1 T ⟨7, ⟨#[]⟩, s, 0, false, 1, 1⟩ W _ hq4 HL.out).mono ?_); rintro r w5 ⟨g5, cap5, rfl, hT5, hq5, hO5⟩; have hR5 := (Below.refl w5.heap.size w5).alloc (Nat.le_refl _) (.cells #[.int .i64 0, .string ⟨#[]⟩, .int .i64 0, .int .i64 0] 26); have hq5' := hq5.below hR5; have hA5 : Only (fun _ => False) w5 _ := Only.of_below hR5; obtain ⟨c0, c1, c2, c3, c4, c5, c6⟩ := tc0 (hT5.only hA5 (fun h => h)))) | (go_at_call 10; ((with_reducible refine (awake_p W _ hq5').mono ?_); rintro r wz ⟨rfl, hOz⟩))))
    go_ret
    exact ⟨rfl, (((((hO1.trans hO2).trans hO3).trans hO4).trans hO5).trans hA5).trans hOz⟩
set_option maxRecDepth 100000 in
set_option maxHeartbeats 8000000 in
theorem Quotes_in (W w : World) (hq : Q W w) (s : ByteArray) (n : Int) (h : s.size ≤ 200) (h0 : 0 ≤ n) (h1 : n ≤ 255) :
    Calls Tryz.prog 8 #[.string s, .int .i64 n] w fun e w' => e = .returned (.bool true) ∧ Only (fun _ => False) w w' := by
  have e1 : decide (200 < (s.size : Int)) = false := by simp; omega
  obtain ⟨T, hT⟩ : ∃ T, (⟨(qtL 34 s.data.toList).toArray⟩ : ByteArray) = T := ⟨_, rfl⟩
  have HL : Hid (lexP T = .ok [⟨7, ⟨#[]⟩, s, 0, false, 1, 1⟩]) := Lib.hid (by rw [← hT]; exact lexP_quote s h)
  have HQ := Lib.hid hT
  obtain ⟨C, hC⟩ : ∃ C, qcB n = C := ⟨_, rfl⟩
  have HK : Hid (lexP C = .ok [⟨6, ⟨#[]⟩, ⟨#[]⟩, n, false, 1, 1⟩]) := Lib.hid (by rw [← hC]; exact lexP_quoteChar n h0 h1)
  have HC := Lib.hid hC
  clear hT hC
  go_enter Tryz.func8, Tryz.ntmps8
  go_wp2_with (go_loud (first | (go_at_call 19; ((with_reducible refine (Quote_v W _ hq s T h HQ.out).mono ?_); rintro r w1 ⟨rfl, hq1, hO1⟩)) | (go_at_call 20; ((with_reducible refine (QuoteChar_v W _ hq1 n C HC.out).mono ?_); rintro r w2 ⟨rfl, hq2, hO2⟩)) | (go_at_call 21; ((with_reducible refine (rQuote_v W _ hq2 s T h HQ.out).mono ?_); rintro r w3 ⟨rfl, hq3, hO3⟩)) | (go_at_call 22; ((with_reducible refine (rQuoteChar_v W _ hq3 n C HC.out).mono ?_); rintro r w4 ⟨rfl, hq4, hO4⟩)) | (go_at_call 11; ((with_reducible refine (Lex_1 T ⟨7, ⟨#[]⟩, s, 0, false, 1, 1⟩ W _ hq4 HL.out).mono ?_); rintro r w5 ⟨g5, cap5, rfl, hT5, hq5, hO5⟩; have hR5 := (Below.refl w5.heap.size w5).alloc (Nat.le_refl _) (.cells #[.int .i64 0, .string ⟨#[]⟩, .int .i64 0, .int .i64 0] 26); have hq5' := hq5.below hR5; have hA5 : Only (fun _ => False) w5 _ := Only.of_below hR5; obtain ⟨c0, c1, c2, c3, c4, c5, c6⟩ := tc0 (hT5.only hA5 (fun h => h)))) | (go_at_call 11; ((with_reducible refine (Lex_1 C ⟨6, ⟨#[]⟩, ⟨#[]⟩, n, false, 1, 1⟩ W _ hq5' HK.out).mono ?_); rintro r w6 ⟨g6, cap6, rfl, hT6, hq6, hO6⟩; have hR6 := (Below.refl w6.heap.size w6).alloc (Nat.le_refl _) (.cells #[.int .i64 0, .string ⟨#[]⟩, .int .i64 0, .int .i64 0] 26); have hq6' := hq6.below hR6; have hA6 : Only (fun _ => False) w6 _ := Only.of_below hR6; obtain ⟨d0, d1, d2, d3, d4, d5, d6⟩ := tc0 (hT6.only hA6 (fun h => h)))) | (go_at_call 10; ((with_reducible refine (awake_p W _ hq6').mono ?_); rintro r wz ⟨rfl, hOz⟩))))
  go_ret
  exact ⟨rfl, ((((((hO1.trans hO2).trans hO3).trans hO4).trans hO5).trans hA5).trans ((hO6.trans hA6).trans hOz))⟩
end Go.Proofs.YtelichlplblboaaGreatDoor
