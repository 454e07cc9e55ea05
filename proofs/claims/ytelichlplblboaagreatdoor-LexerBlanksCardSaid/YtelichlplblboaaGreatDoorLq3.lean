/-
  WALKS. LexerBlanks: true.
-/
import Derived.Test.YtelichlplblboaaGreatDoorLqs
import Derived.Test.YtelichlplblboaaGreatDoorBl
namespace Go.Proofs.YtelichlplblboaaGreatDoor
open Go.RowKit Go.Maps
theorem Lex_bv (s : ByteArray) (f : Flt) (W w : World) (hq : Q W w) (h : lexP s = .bad f) : Calls Tryz.prog 11 #[.string s] w fun r w' =>
    r = .returned (.tuple #[.slice none 0 0, .agg #[.int .i64 f.code, .string f.name, .int .i64 f.line, .int .i64 f.col]]) ∧ Q W w' ∧ Only (fun _ => False) w w' := by
  refine (Lex_p s W w hq).mono fun r w' hp => ?_
  rw [h] at hp
  obtain ⟨rfl, hB⟩ := hp
  exact ⟨rfl, hq.below hB, Only.of_below hB⟩
theorem lexP_code {s : ByteArray} {f : Flt} (h : lexP s = .bad f) : f.code ≠ 0 := by
  unfold lexP at h
  split at h
  · injection h with h; rw [← h]; decide
  · exact (lexF_is _ h).code
/-- A token by itself. -/
abbrev barT (t : Tok) : Tok := ⟨t.op, t.qual, t.text, t.n, false, 0, 0⟩
theorem txB_few {t : Tok} (h : okT t = true) (hn0 : -9223372036854775808 ≤ t.n) (hn1 : t.n ≤ 9223372036854775807) : (txB t).size ≤ 1300 := by
  unfold okT at h
  simp at h
  obtain ⟨h1, h2⟩ := h
  have h3 := Lib.itoa_length_le t.n hn0 hn1
  have e3 : t.text.data.toList.length = t.text.size := (Lib.size_eq _).symm
  unfold txB
  split
  · rw [Lib.size_eq]; show (Lib.itoa t.n).length ≤ _; omega
  split
  · unfold qcB; split
    · rw [Lib.size_eq]; have := qtL_len 39 [t.n.toNat.toUInt8]; have e1 : [t.n.toNat.toUInt8].length = 1 := rfl; show (qtL 39 [t.n.toNat.toUInt8]).length ≤ _; omega
    · show (0 : Nat) ≤ _; omega
  split
  · rw [Lib.size_eq]; have := qtL_len 34 t.text.data.toList; show (qtL 34 t.text.data.toList).length ≤ _; omega
  split
  · omega
  · simp only [ByteArray.size_append]; show t.qual.size + 1 + t.text.size ≤ _; omega
theorem ren_bar {t : Tok} (hz : (txB t).size ≤ 65536) : renR [barT t] = if prT t then (txB t, 0) else (⟨#[]⟩, 1) := by
  have hp : prT (barT t) = prT t := rfl
  have ht : txB (barT t) = txB t := rfl
  have ho : (tokS ⟨[], 1, 1, true⟩ (barT t)).out = (txB t).data.toList := by
    unfold tokS feedS colS
    rw [ht]
    simp
  unfold renR
  rw [List.all_cons, List.all_nil, Bool.and_true, hp]
  cases prT t
  · rfl
  · rw [if_pos rfl, if_neg (by simp), if_pos rfl]
    unfold renL renL
    rw [if_neg (by rw [ho, ← Lib.size_eq]; omega)]
    simp only
    rw [ho, mk_self]
theorem Render_bar (W w : World) (hq : Q W w) (g : Nat) (t : Tok) (hg : TC w g 0 (barT t)) (hok : TokOk t) (hz : (txB t).size ≤ 65536) (S : ByteArray) (E : Int) (h : (if prT t then (txB t, (0 : Int)) else (⟨#[]⟩, 1)) = (S, E)) :
    Calls Tryz.prog 15 #[.slice (some ⟨g, 0, none⟩) 1 1] w fun e w' => e = .returned (.tuple #[.string S, .int .i64 E]) ∧ Q W w' ∧ Only (fun _ => False) w w' := by
  refine Render_v W w hq (some ⟨g, 0, none⟩) 1 1 [barT t] (by decide) ⟨rfl, fun k hk => ?_⟩ (fun u hu => ?_) S E ((ren_bar hz).trans h)
  · have : k = 0 := by simp at hk; exact hk
    subst this
    exact ⟨g, 0, rfl, hg⟩
  · rw [List.mem_singleton] at hu
    subst hu
    exact ⟨hok.n0, hok.n1, hok.q, hok.x, by simp, by simp⟩
theorem blkL_snoc (b : List UInt8) (l : List Tok) (t : Tok) : blkL b (l ++ [t]) = blkL b l ++ ((txB t).data.toList ++ ([10] ++ (b ++ [10]))) := by
  unfold blkL; rw [List.flatMap_append]; simp
set_option maxRecDepth 100000 in
set_option maxHeartbeats 4000000 in
theorem Blanks_bad (W w : World) (hq : Q W w) (oa : Option Addr) (n ca : Nat) (ts : List Tok) (b : ByteArray) (hn : n ≤ maxLen) (hts : Tks w oa n ts) (h : 100 < n ∨ (n ≤ 100 ∧ fewL ts = false) ∨ (n ≤ 100 ∧ fewL ts = true ∧ 100 < b.size)) :
    Calls Tryz.prog 9 #[.slice oa n ca, .string b] w fun e w' => e = .returned (.bool true) ∧ Only (fun _ => False) w w' := by
  rcases h with h | ⟨h, hf⟩ | ⟨h, hf, h2⟩
  · have e1 : decide (100 < (n : Int)) = true := by simp; omega
    go_enter Tryz.func9, Tryz.ntmps9
    go_wp2_with (go_loud (first | (go_at_call 10; ((with_reducible refine (awake_p W _ hq).mono ?_); rintro r wz ⟨rfl, hOz⟩))))
    go_ret
    exact ⟨rfl, hOz⟩
  · have e1 : decide (100 < (n : Int)) = false := by simp; omega
    go_enter Tryz.func9, Tryz.ntmps9
    go_wp2_with (go_loud (first | (go_at_call 14; ((with_reducible refine (few_v W _ hq oa n ca ts hn hts false hf).mono ?_); rintro r w1 ⟨rfl, hq1, hO1⟩)) | (go_at_call 10; ((with_reducible refine (awake_p W _ hq1).mono ?_); rintro r wz ⟨rfl, hOz⟩))))
    go_ret
    exact ⟨rfl, hO1.trans hOz⟩
  · have e1 : decide (100 < (n : Int)) = false := by simp; omega
    have e2 : decide (100 < (b.size : Int)) = true := by simp; omega
    go_enter Tryz.func9, Tryz.ntmps9
    go_wp2_with (go_loud (first | (go_at_call 14; ((with_reducible refine (few_v W _ hq oa n ca ts hn hts true hf).mono ?_); rintro r w1 ⟨rfl, hq1, hO1⟩)) | (go_at_call 10; ((with_reducible refine (awake_p W _ hq1).mono ?_); rintro r wz ⟨rfl, hOz⟩))))
    go_ret
    exact ⟨rfl, hO1.trans hOz⟩
set_option maxRecDepth 100000 in
set_option maxHeartbeats 4000000 in
theorem Blanks_tok (W w : World) (hq : Q W w) (oa : Option Addr) (n ca : Nat) (ts : List Tok) (b : ByteArray) (hn : n ≤ 100) (hts : Tks w oa n ts) (hf : fewL ts = true) (hb : b.size ≤ 100) (hx : lexP b ≠ .ok []) :
    Calls Tryz.prog 9 #[.slice oa n ca, .string b] w fun e w' => e = .returned (.bool true) ∧ Only (fun _ => False) w w' := by
  have e1 : decide (100 < (n : Int)) = false := by simp; omega
  have e2 : decide (100 < (b.size : Int)) = false := by simp; omega
  have hnm : n ≤ maxLen := by unfold maxLen; omega
  cases hl : lexP b with
  | bad f =>
    have hc : (f.code != 0) = true := by simpa using lexP_code hl
    have HL := Lib.hid hl
    clear hx hl
    go_enter Tryz.func9, Tryz.ntmps9
    go_wp2_with (go_loud (first | (go_at_call 14; ((with_reducible refine (few_v W _ hq oa n ca ts hnm hts true hf).mono ?_); rintro r w1 ⟨rfl, hq1, hO1⟩)) | (go_at_call 11; ((with_reducible refine (Lex_bv b f W _ hq1 HL.out).mono ?_); rintro r w2 ⟨rfl, hq2, hO2⟩; have hR2 := (Below.refl w2.heap.size w2).alloc (Nat.le_refl _) (.cells #[.int .i64 f.code, .string f.name, .int .i64 f.line, .int .i64 f.col] 26); have hq2' := hq2.below hR2; have hA2 : Only (fun _ => False) w2 _ := Only.of_below hR2)) | (go_at_call 10; ((with_reducible refine (awake_p W _ hq2').mono ?_); rintro r wz ⟨rfl, hOz⟩))))
    go_ret
    exact ⟨rfl, ((hO1.trans hO2).trans hA2).trans hOz⟩
  | ok l =>
    obtain ⟨m, hm⟩ : ∃ m, l.length = m := ⟨_, rfl⟩
    have hm0 : 0 < m := by
      rw [← hm]
      cases l with
      | nil => exact absurd hl hx
      | cons a l => simp
    have e3 : decide (0 < (m : Int)) = true := by simp; omega
    have HL := Lib.hid hl
    have HM := Lib.hid hm
    clear hx hl hm
    go_enter Tryz.func9, Tryz.ntmps9
    go_wp2_with (go_loud (first | (go_at_call 14; ((with_reducible refine (few_v W _ hq oa n ca ts hnm hts true hf).mono ?_); rintro r w1 ⟨rfl, hq1, hO1⟩)) | (go_at_call 11; ((with_reducible refine (Lex_w b l m W _ hq1 HL.out HM.out).mono ?_); rintro r w2 ⟨ob, cb, rfl, hU2, hq2, hO2⟩; have hR2 := (Below.refl w2.heap.size w2).alloc (Nat.le_refl _) (.cells #[.int .i64 0, .string ⟨#[]⟩, .int .i64 0, .int .i64 0] 26); have hq2' := hq2.below hR2; have hA2 : Only (fun _ => False) w2 _ := Only.of_below hR2)) | (go_at_call 10; ((with_reducible refine (awake_p W _ hq2').mono ?_); rintro r wz ⟨rfl, hOz⟩))))
    go_ret
    exact ⟨rfl, ((hO1.trans hO2).trans hA2).trans hOz⟩
set_option maxRecDepth 100000 in
set_option maxHeartbeats 8000000 in
theorem Blanks_yes (W w : World) (hq : Q W w) (oa : Option Addr) (n ca : Nat) (ts : List Tok) (b : ByteArray) (hn : n ≤ 100) (hts : Tks w oa n ts) (hf : fewL ts = true) (htb : ∀ t ∈ ts, TokB t) (hb : b.size ≤ 100) (hx : lexP b = .ok []) :
    Calls Tryz.prog 9 #[.slice oa n ca, .string b] w fun e w' => e = .returned (.bool true) ∧ Only (fun _ => False) w w' := by
  have e1 : decide (100 < (n : Int)) = false := by simp; omega
  have e2 : decide (100 < (b.size : Int)) = false := by simp; omega
  have hnm : n ≤ maxLen := by unfold maxLen; omega
  have HL := Lib.hid hts.len
  have HOK := Lib.hid (few_ok hf htb).2
  have HTX : Hid (∀ t ∈ ts, (txB t).size ≤ 1300) := Lib.hid (fun t ht => by
    unfold fewL at hf
    rw [Bool.and_eq_true, List.all_eq_true] at hf
    exact txB_few (hf.1 t ht) (htb t ht).n0 (htb t ht).n1)
  have HX := Lib.hid hx
  clear hx htb
  go_enter Tryz.func9, Tryz.ntmps9
  go_wp2_with (go_loud (first | (go_at_call 14; ((with_reducible refine (few_v W _ hq oa n ca ts hnm hts true hf).mono ?_); rintro r w1 ⟨rfl, hq1, hO1⟩; have hT1 := hts.keep hO1)) | (go_at_call 11; ((with_reducible refine (Lex_w b [] 0 W _ hq1 HX.out rfl).mono ?_); rintro r w2 ⟨ob, cb, rfl, hU2, hq2, hO2⟩; have hR2 := (Below.refl w2.heap.size w2).alloc (Nat.le_refl _) (.cells #[.int .i64 0, .string ⟨#[]⟩, .int .i64 0, .int .i64 0] 26); have hq2' := hq2.below hR2; have hA2 : Only (fun _ => False) w2 _ := Only.of_below hR2))))
  have hOs : Only (fun _ => False) w _ := (hO1.trans hO2).trans hA2
  clear hU2
  go_loopw [7, 44] (fun o i wr => ∃ (k : Nat) (S : ByteArray), k ≤ n ∧ o = .string S ∧ i = .int .i64 k ∧ Hid (S.data.toList = blkL b.data.toList (ts.take k)) ∧ Hid ((ts.take k).all prT = true) ∧ S.size ≤ k * 1500 ∧ Only (fun _ => False) w wr) (fun _ i _ => n - (intOf i).toNat)
  case atStart => exact ⟨0, ⟨#[]⟩, by omega, rfl, rfl, Lib.hid rfl, Lib.hid rfl, by show 0 ≤ _; omega, hOs⟩
  case round =>
    obtain ⟨k, S, hk, rfl, rfl, HS, HP, hz, hO⟩ := hrel
    have hqr : Q W wr := hq.only hO (fun _ h => h.elim)
    by_cases hlt : k < n
    · have hka : k < ts.length := by rw [HL.out]; exact hlt
      obtain ⟨a, o, rfl, hc0⟩ := hts.cell k hka
      have hc := hc0.only hO (fun h => h)
      obtain ⟨x, hx⟩ : ∃ x, ts[k] = x := ⟨_, rfl⟩
      rw [hx] at hc
      have hTO := HOK.out x (by rw [← hx]; exact List.getElem_mem hka)
      have hXz := HTX.out x (by rw [← hx]; exact List.getElem_mem hka)
      have HXE := Lib.hid hx
      have hOx := tokA_only wr x
      have hOy := tokA_only (tokA wr x) (barT x)
      have hqy : Q W (tokA (tokA wr x) (barT x)) := hqr.only (hOx.trans hOy) (fun _ h => h.elim)
      have hsz : (tokA wr x).heap.size = wr.heap.size + 1 := by show (wr.heap.push _).size = _; simp
      have hTB : TC (tokA (tokA wr x) (barT x)) (wr.heap.size + 1) 0 (barT x) := hsz ▸ tokA_tc (tokA wr x) (barT x)
      obtain ⟨p0, p1, p2, p3, p4, p5, p6⟩ := hc
      cases hp : prT x
      · have HR : Hid (Calls Tryz.prog 15 #[.slice (some ⟨wr.heap.size + 1, 0, none⟩) 1 1] (tokA (tokA wr x) (barT x)) fun e w' => e = .returned (.tuple #[.string ⟨#[]⟩, .int .i64 1]) ∧ Q W w' ∧ Only (fun _ => False) (tokA (tokA wr x) (barT x)) w') := Lib.hid (Render_bar W _ hqy _ x hTB hTO (by omega) _ _ (by rw [hp]; rfl))
        clear hx hc0 hTO hp hTB hsz
        go_wp2_with (go_loud (first | (go_at_call 15; ((with_reducible refine HR.out.mono ?_); rintro r w3 ⟨rfl, hq3, hO3⟩)) | (go_at_call 10; ((with_reducible refine (awake_p W _ hq3).mono ?_); rintro r wz ⟨rfl, hOz⟩))))
        go_ret
        exact ⟨rfl, (((hO.trans hOx).trans hOy).trans hO3).trans hOz⟩
      · obtain ⟨X, hXe⟩ : ∃ X, txB x = X := ⟨_, rfl⟩
        have HR : Hid (Calls Tryz.prog 15 #[.slice (some ⟨wr.heap.size + 1, 0, none⟩) 1 1] (tokA (tokA wr x) (barT x)) fun e w' => e = .returned (.tuple #[.string X, .int .i64 0]) ∧ Q W w' ∧ Only (fun _ => False) (tokA (tokA wr x) (barT x)) w') := Lib.hid (Render_bar W _ hqy _ x hTB hTO (by omega) _ _ (by rw [hp, hXe]; rfl))
        have hXz' : X.size ≤ 1300 := by rw [← hXe]; exact hXz
        have hz10 : (⟨#[10]⟩ : ByteArray).size = 1 := rfl
        have HD : Hid ((S ++ (X ++ ⟨#[10]⟩ ++ b ++ ⟨#[10]⟩)).data.toList = blkL b.data.toList (ts.take (k + 1))) := Lib.hid (by
          rw [List.take_succ_eq_append_getElem hka, hx, blkL_snoc, hXe, ← HS.out]
          simp only [app_data, List.append_assoc])
        have HP' : Hid ((ts.take (k + 1)).all prT = true) := Lib.hid (all_take HP.out hka (by rw [hx]; exact hp))
        have HZ : Hid ((S ++ (X ++ ⟨#[10]⟩ ++ b ++ ⟨#[10]⟩)).size ≤ (k + 1) * 1500) := Lib.hid (by simp only [ByteArray.size_append, hz10]; omega)
        clear hx hc0 hTO hp hTB hXe hXz hsz
        go_wp2_with (go_loud (first | (go_at_call 15; ((with_reducible refine HR.out.mono ?_); rintro r w3 ⟨rfl, hq3, hO3⟩))))
        go_roundw
        case rel => exact ⟨k + 1, _, by omega, rfl, by go_num, HD, HP', HZ.out, ((hO.trans hOx).trans hOy).trans hO3⟩
        case measure => simp [intOf]; omega
    · have hT := hts.keep hO
      have HTE : Hid (ts.take k = ts) := Lib.hid (List.take_of_length_le (by rw [HL.out]; omega))
      by_cases hlong : 65536 < S.size
      · have HLB : Hid (lexP S = .bad ⟨3, nil8, 0, 0⟩) := Lib.hid (by unfold lexP; rw [if_pos hlong])
        have el : decide (65536 < (S.size : Int)) = true := by simp; omega
        go_wp2_with (go_loud (first | (go_at_call 11; ((with_reducible refine (Lex_bv S _ W _ hqr HLB.out).mono ?_); rintro r w3 ⟨rfl, hq3, hO3⟩; have hR3 := (Below.refl w3.heap.size w3).alloc (Nat.le_refl _) (.cells #[.int .i64 3, .string nil8, .int .i64 0, .int .i64 0] 26); have hA3 : Only (fun _ => False) w3 _ := Only.of_below hR3))))
        go_ret
        exact ⟨rfl, (hO.trans hO3).trans hA3⟩
      · have el : decide (65536 < (S.size : Int)) = false := by simp; omega
        have hm : ∃ m, lexP S = .ok m ∧ sameL m ts = true := by
          have hD : S.data.toList = blkL b.data.toList ts := by rw [HS.out, HTE.out]
          have hA : ts.all prT = true := by rw [← HTE.out]; exact HP.out
          obtain ⟨m, g1, g2⟩ := blk_lex (src := S) HX.out (by omega) ts (i := 0) (l := []) (by rw [← hD]; exact Has.all S) (by rw [Nat.zero_add, ← hD]; exact Lib.size_eq S) hA (fun t ht => ⟨(HOK.out t ht).n1, prT_ne (List.all_eq_true.1 hA t ht)⟩) (by have := HL.out; simp; omega)
          exact ⟨m, by rw [List.nil_append] at g1; exact g1.lexP (by omega), g2⟩
        obtain ⟨m, g1, g2⟩ := hm
        have hmn : m.length = n := by
          rw [← HL.out]
          unfold sameL at g2
          rw [Bool.and_eq_true] at g2
          simpa using g2.1
        have G1 := Lib.hid g1
        have G2 := Lib.hid g2
        have GN := Lib.hid hmn
        clear g1 g2 hmn
        go_wp2_with (go_loud (first | (go_at_call 11; ((with_reducible refine (Lex_w S m n W _ hqr G1.out GN.out).mono ?_); rintro r w3 ⟨oc, cc, rfl, hU3, hq3, hO3⟩; have hR3 := (Below.refl w3.heap.size w3).alloc (Nat.le_refl _) (.cells #[.int .i64 0, .string ⟨#[]⟩, .int .i64 0, .int .i64 0] 26); have hq3' := hq3.below hR3; have hA3 : Only (fun _ => False) w3 _ := Only.of_below hR3; have hT3 := (hT.keep hO3).keep hA3; have hU3' := hU3.keep hA3)) | (go_at_call 17; ((with_reducible refine (Same_p _ oc oa n n cc ca m ts (by omega) (by omega) hU3' hT3).mono ?_); rw [G2.out]; rintro r w4 ⟨rfl, hO4⟩; have hq4 := hq3'.only hO4 (fun _ h => h.elim))) | (go_at_call 10; ((with_reducible refine (awake_p W _ hq4).mono ?_); rintro r wz ⟨rfl, hOz⟩))))
        go_ret
        exact ⟨rfl, (((hO.trans hO3).trans hA3).trans hO4).trans hOz⟩
end Go.Proofs.YtelichlplblboaaGreatDoor
