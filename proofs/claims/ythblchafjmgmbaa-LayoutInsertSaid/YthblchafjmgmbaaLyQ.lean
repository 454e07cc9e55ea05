/-
  WALKS. The inserter: token.
-/
import Derived.Test.YthblchafjmgmbaaLyN
import Derived.Test.YthblchafjmgmbaaLyP
namespace Go.Proofs.Ythblchafjmgmbaa
open Go.RowKit Go.Maps
section
variable {w : World} {b : Nat} {ve vo : Value} {s : St}
abbrev rsW (w : World) (b : Nat) : World := (w.setCell ⟨b, 3, none⟩ (.bool false)).setCell ⟨b, 4, none⟩ (.string ⟨#[]⟩)
theorem IS.reset (hS : IS w b ve vo s) {g : Nat} {t : Tok} (hT : TB w g t) (hP : Pr w b ve vo g) : IS (rsW w b) b ve vo { s with exp := false, word := ⟨#[]⟩ } ∧ TB (rsW w b) g t ∧ Pr (rsW w b) b ve vo g ∧ Frm w b ve vo (rsW w b) ve vo := by
  have hF : Frm w b ve vo (rsW w b) ve vo := Frm.here (Only.setCell (K := (· = b)) (Only.setCell (K := (· = b)) (Only.refl _ _) rfl _) rfl _) rfl
  exact ⟨(hS.expect false ⟨#[]⟩).1, TB.frm hT hP hF, (hP.frm hF).1, hF⟩
theorem token_eq (s : St) (t : Tok) (f : Bool) {v : Bool} {s1 : St} (hb : (if s.exp then beginS s t else (false, s)) = (v, s1)) : tokenS s t f = (match (if f && !v then lineS (s1.els.length + 1) { s1 with exp := false, word := ⟨#[]⟩ } t.col else some { s1 with exp := false, word := ⟨#[]⟩ }) with
    | none => none
    | some s2 => match bracketS (itemS s2 t) t s.word with
      | none => none
      | some s3 => (keyS s3 t).map fun s4 => { s4 with out := s4.out ++ [t] }) := by
  unfold tokenS
  simp only [hb]
  rfl
set_option maxRecDepth 100000 in
set_option maxHeartbeats 16000000 in
theorem token_p (h : IS w b ve vo s) (hk : Ok 8 s) (t : Tok) (f : Bool) : Calls Try.prog 12 #[.pointer (some ⟨b, 0, none⟩), tokV t, .bool f] w (StR w b ve vo (tokenS s t f)) := by
  have hb := h.lt
  have hA : Only (fun _ => False) w (w.alloc (.cells (tokA t) 33)) := (Only.refl _ _).alloc _
  have h0 := h.same hA
  have t0 : TB (w.alloc (.cells (tokA t) 33)) w.heap.size t := new_block _ _
  have hPr : Pr (w.alloc (.cells (tokA t) 33)) b ve vo w.heap.size := h.pr (Nat.le_refl _) (lt_of_block t0)
  have hne : ¬ w.heap.size = b := by omega
  have hne' : ¬ b = w.heap.size := by omega
  have c3 := h.c3
  have c4 := h.c4
  have z3 := h.fz 3
  have z4 := h.fz 4
  obtain ⟨i0', hi, hz0, hz1, hz2⟩ := info_parts infoTok
  have HI0 := Lib.hid hi
  have HZ0 := Lib.hid hz0
  have HZ1 := Lib.hid hz1
  have HZ2 := Lib.hid hz2
  clear hi hz0 hz1 hz2
  cases hx : s.exp
  · have hbeq : (if s.exp then beginS s t else (false, s)) = (false, s) := by rw [hx]; rfl
    have hok0 : Ok 4 s := hk.less (by omega)
    rw [hx] at c3
    have HX := Lib.hid hx
    clear hx
    have hS1 := (h.expect false ⟨#[]⟩).1.same (Only.alloc (Only.refl _ (rsW w b)) (.cells (tokA t) 33))
    have hT1 : TB ((rsW w b).alloc (.cells (tokA t) 33)) w.heap.size t := new_at _ (by simp [World.setCell])
    have hP1 : Pr ((rsW w b).alloc (.cells (tokA t) 33)) b ve vo w.heap.size := h.pr (Nat.le_refl _) (lt_of_block hT1)
    have hF1 : Frm w b ve vo ((rsW w b).alloc (.cells (tokA t) 33)) ve vo := (Frm.here (Only.setCell (K := (· = b)) (Only.setCell (K := (· = b)) (Only.refl _ _) rfl _) rfl _) rfl).al _
    cases f
    · have HQ := Lib.hid (token_eq s t false hbeq)
      have hok1 : Ok 4 { s with exp := false, word := (⟨#[]⟩ : ByteArray) } := hok0.flags _ _
      clear hbeq
      have HQ2 : Hid (tokenS s t false = (match bracketS (itemS { s with exp := false, word := (⟨#[]⟩ : ByteArray) } t) t s.word with | none => none | some s3 => (keyS s3 t).map fun s4 => { s4 with out := s4.out ++ [t] })) := Lib.hid (by rw [HQ.out]; simp only [Bool.false_and, Bool.false_eq_true, if_false])
      have hok2 : Ok 3 { s with exp := false, word := (⟨#[]⟩ : ByteArray) } := hok1.less (by omega)
      have hokI : Ok 3 (itemS { s with exp := false, word := (⟨#[]⟩ : ByteArray) } t) := hok2.item t
      have hok3 : Ok 1 (itemS { s with exp := false, word := (⟨#[]⟩ : ByteArray) } t) := hokI.less (by omega)
      cases hkb : bracketS (itemS { s with exp := false, word := (⟨#[]⟩ : ByteArray) } t) t s.word with
      | none =>
        have HR : Hid (tokenS s t false = none) := Lib.hid (by rw [HQ2.out]; simp only [hkb])
        have HK := Lib.hid hkb
        clear hkb
        go_enter Try.func12, Try.ntmps12
        go_wp2_with (first | (go_at_call 23; refine (item_p hS1 hok2 t).mono ?_; rintro r w3 ⟨rfl, ve3, vo3, hS3, hF3⟩; have hT3 := TB.frm hT1 hP1 hF3; have hP3 := (hP1.frm hF3).1; have hG3 := hF1.trans hF3; obtain ⟨m0, m1, m2, m3, m4, m5, m6⟩ := hT3.all) | (go_at_call 24; refine (bracket_p hS3 hok3 t s.word).mono ?_; rw [HK.out]; rintro r w4 ⟨rfl, ve4, vo4, hF4⟩))
        go_ret
        rw [HR.out]
        exact ⟨rfl, _, _, hG3.trans hF4⟩
      | some s3 =>
        have hokB : Ok 2 s3 := Ok.bracket (k := 2) hokI hkb
        have hok4 : Ok 1 s3 := hokB.less (by omega)
        cases hky : keyS s3 t with
        | none =>
          have HR : Hid (tokenS s t false = none) := Lib.hid (by rw [HQ2.out]; simp only [hkb, hky]; rfl)
          have HK := Lib.hid hkb
          have HY := Lib.hid hky
          clear hkb hky
          go_enter Try.func12, Try.ntmps12
          go_wp2_with (first | (go_at_call 23; refine (item_p hS1 hok2 t).mono ?_; rintro r w3 ⟨rfl, ve3, vo3, hS3, hF3⟩; have hT3 := TB.frm hT1 hP1 hF3; have hP3 := (hP1.frm hF3).1; have hG3 := hF1.trans hF3; obtain ⟨m0, m1, m2, m3, m4, m5, m6⟩ := hT3.all) | (go_at_call 24; refine (bracket_p hS3 hok3 t s.word).mono ?_; rw [HK.out]; rintro r w4 ⟨rfl, ve4, vo4, hS4, hF4⟩; have hT4 := TB.frm hT3 hP3 hF4; have hP4 := (hP3.frm hF4).1; have hG4 := hG3.trans hF4; obtain ⟨n0, n1, n2, n3, n4, n5, n6⟩ := hT4.all) | (go_at_call 25; refine (keyword_p hS4 hok4 t).mono ?_; rw [HY.out]; rintro r w5 ⟨rfl, ve5, vo5, hF5⟩))
          go_ret
          rw [HR.out]
          exact ⟨rfl, _, _, hG4.trans hF5⟩
        | some s4 =>
          have hok5 : Ok 1 s4 := Ok.key (k := 1) hokB hky
          have HR : Hid (tokenS s t false = some { s4 with out := s4.out ++ [t] }) := Lib.hid (by rw [HQ2.out]; simp only [hkb, hky]; rfl)
          have HK := Lib.hid hkb
          have HY := Lib.hid hky
          clear hkb hky
          go_enter Try.func12, Try.ntmps12
          go_wp2_with (first | (go_at_call 23; refine (item_p hS1 hok2 t).mono ?_; rintro r w3 ⟨rfl, ve3, vo3, hS3, hF3⟩; have hT3 := TB.frm hT1 hP1 hF3; have hP3 := (hP1.frm hF3).1; have hG3 := hF1.trans hF3; obtain ⟨m0, m1, m2, m3, m4, m5, m6⟩ := hT3.all) | (go_at_call 24; refine (bracket_p hS3 hok3 t s.word).mono ?_; rw [HK.out]; rintro r w4 ⟨rfl, ve4, vo4, hS4, hF4⟩; have hT4 := TB.frm hT3 hP3 hF4; have hP4 := (hP3.frm hF4).1; have hG4 := hG3.trans hF4; obtain ⟨n0, n1, n2, n3, n4, n5, n6⟩ := hT4.all) | (go_at_call 25; refine (keyword_p hS4 hok4 t).mono ?_; rw [HY.out]; rintro r w5 ⟨rfl, ve5, vo5, hS5, hF5⟩; have hT5 := TB.frm hT4 hP4 hF5; have hG5 := hG4.trans hF5; obtain ⟨o0, o1, o2, o3, o4, o5, o6⟩ := hT5.all; obtain ⟨oa, ca, hvo⟩ := hS5.olen; subst hvo; have q2 := hS5.c2; have y2 := hS5.fz 2))
          have hHO : w5.ownsRow (b + 1) 33 7 (.slice oa s4.out.length ca) s4.out.length (s4.out.flatMap tokCells) := hS5.out
          have hbx := hS5.lt
          have hzo := hok5.out_le
          go_region_law ((refine step_append_lies _ rfl (.tmp 53) (.tmp 55) 22 rfl (b + 1) 33 i0' (.agg #[.int .i64 0, .string ⟨#[]⟩, .string ⟨#[]⟩, .int .i64 0, .bool false, .int .i64 0, .int .i64 0]) 7 72 Try.underlying22 HI0.out HZ0.out HZ1.out HZ2.out rfl (by decide) (.slice oa s4.out.length ca) s4.out.length (s4.out.flatMap tokCells) ?e1 (World.ownsRow.alloc hHO _) ⟨w5.heap.size, 0, none⟩ 1 1 (tokCells t) ?e2 rfl (World.news_of_block (new_block w5 _)) (one_tok t) Nat.one_pos (by unfold maxLen; omega) (by omega) (by show b + 1 ≤ (w5.heap.push _).size; simp only [Array.size_push]; omega) _ rfl ?_); (case e1 => simp [Act.eval]); (case e2 => simp [Act.eval]); (intro g cg w6 hown' hgrow hat hlt'; have hS6 := IS.grownO (hS5.same (((Only.refl _ _).alloc _).drew)) hgrow; have p2 := (blk_c (k := 2) hS6.1 rfl).1; have v2 := (blk_c (k := 2) hS6.1 rfl).2))
          all_goals
            have hTR := TR.snoc (t := t) hown'
            have hO6 : Only (KE b (.slice oa s4.out.length ca)) w5 w6 := (((Only.refl _ _).alloc _).drew).trans (Only.grown hgrow (fun k hk => .inr hk))
            have HBL := Lib.hid (show ∀ g', (Value.slice (some ⟨g, 0, none⟩) (s4.out.length + 1) cg).ownBlock = some g' → (Value.slice oa s4.out.length ca).ownBlock = some g' ∨ w5.heap.size ≤ g' from fun g' hg' => by
              have hgg : g = g' := Option.some.inj hg'
              rcases hat with e | e
              · exact .inl (hgg ▸ e)
              · right
                have e3 : g = (w5.heap.push (.cells (tokA t) 33)).size := e
                rw [Array.size_push] at e3
                omega)
            clear hown' hgrow hHO hat
            go_wp2
            go_ret
            rw [HR.out]
            exact ⟨rfl, (IS.put (s := s4) (s' := { s4 with out := s4.out ++ [t] }) hS6.1 rfl hS6.2 hTR).x (hG5.trans ⟨(hO6.setCell (.inl rfl) _).wide (fun i hi => hi.elim .inl (fun e => .inr (.inr e))), fun _ hg => .inl hg, HBL.out⟩)⟩
    · have HQ := Lib.hid (token_eq s t true hbeq)
      have hok1 : Ok 4 { s with exp := false, word := (⟨#[]⟩ : ByteArray) } := hok0.flags _ _
      clear hbeq
      cases hli : lineS (s.els.length + 1) { s with exp := false, word := (⟨#[]⟩ : ByteArray) } t.col with
      | none =>
        have HR : Hid (tokenS s t true = none) := Lib.hid (by rw [HQ.out]; simp only [Bool.true_and, Bool.not_false, if_true, hli])
        have HL := Lib.hid hli
        clear hli
        have hok1 : Ok 1 { s with exp := false, word := (⟨#[]⟩ : ByteArray) } := hok1.less (by omega)
        go_enter Try.func12, Try.ntmps12
        go_wp2_with (first | (go_at_call 22; refine (line_p hS1 hok1 t.col).mono ?_; rw [HL.out]; rintro r w2 ⟨rfl, ve2, vo2, hF2⟩))
        go_ret
        rw [HR.out]
        exact ⟨rfl, _, _, hF1.trans hF2⟩
      | some s2 =>
        have hok2 : Ok 3 s2 := Ok.line (k := 3) hok1 hli
        have HL := Lib.hid hli
        have HQ2 : Hid (tokenS s t true = (match bracketS (itemS s2 t) t s.word with | none => none | some s3 => (keyS s3 t).map fun s4 => { s4 with out := s4.out ++ [t] })) := Lib.hid (by rw [HQ.out]; simp only [Bool.true_and, Bool.not_false, if_true, hli])
        clear hli
        have hok1 : Ok 1 { s with exp := false, word := (⟨#[]⟩ : ByteArray) } := hok1.less (by omega)
        have hokI : Ok 3 (itemS s2 t) := hok2.item t
        have hok3 : Ok 1 (itemS s2 t) := hokI.less (by omega)
        cases hkb : bracketS (itemS s2 t) t s.word with
        | none =>
          have HR : Hid (tokenS s t true = none) := Lib.hid (by rw [HQ2.out]; simp only [hkb])
          have HK := Lib.hid hkb
          clear hkb
          go_enter Try.func12, Try.ntmps12
          go_wp2_with (first | (go_at_call 22; refine (line_p hS1 hok1 t.col).mono ?_; rw [HL.out]; rintro r w2 ⟨rfl, ve2, vo2, hS2, hF2⟩; have hT2 := TB.frm hT1 hP1 hF2; have hP2 := (hP1.frm hF2).1; have hG2 := hF1.trans hF2; obtain ⟨l0, l1, l2, l3, l4, l5, l6⟩ := hT2.all) | (go_at_call 23; refine (item_p hS2 hok2 t).mono ?_; rintro r w3 ⟨rfl, ve3, vo3, hS3, hF3⟩; have hT3 := TB.frm hT2 hP2 hF3; have hP3 := (hP2.frm hF3).1; have hG3 := hG2.trans hF3; obtain ⟨m0, m1, m2, m3, m4, m5, m6⟩ := hT3.all) | (go_at_call 24; refine (bracket_p hS3 hok3 t s.word).mono ?_; rw [HK.out]; rintro r w4 ⟨rfl, ve4, vo4, hF4⟩))
          go_ret
          rw [HR.out]
          exact ⟨rfl, _, _, hG3.trans hF4⟩
        | some s3 =>
          have hokB : Ok 2 s3 := Ok.bracket (k := 2) hokI hkb
          have hok4 : Ok 1 s3 := hokB.less (by omega)
          cases hky : keyS s3 t with
          | none =>
            have HR : Hid (tokenS s t true = none) := Lib.hid (by rw [HQ2.out]; simp only [hkb, hky]; rfl)
            have HK := Lib.hid hkb
            have HY := Lib.hid hky
            clear hkb hky
            go_enter Try.func12, Try.ntmps12
            go_wp2_with (first | (go_at_call 22; refine (line_p hS1 hok1 t.col).mono ?_; rw [HL.out]; rintro r w2 ⟨rfl, ve2, vo2, hS2, hF2⟩; have hT2 := TB.frm hT1 hP1 hF2; have hP2 := (hP1.frm hF2).1; have hG2 := hF1.trans hF2; obtain ⟨l0, l1, l2, l3, l4, l5, l6⟩ := hT2.all) | (go_at_call 23; refine (item_p hS2 hok2 t).mono ?_; rintro r w3 ⟨rfl, ve3, vo3, hS3, hF3⟩; have hT3 := TB.frm hT2 hP2 hF3; have hP3 := (hP2.frm hF3).1; have hG3 := hG2.trans hF3; obtain ⟨m0, m1, m2, m3, m4, m5, m6⟩ := hT3.all) | (go_at_call 24; refine (bracket_p hS3 hok3 t s.word).mono ?_; rw [HK.out]; rintro r w4 ⟨rfl, ve4, vo4, hS4, hF4⟩; have hT4 := TB.frm hT3 hP3 hF4; have hP4 := (hP3.frm hF4).1; have hG4 := hG3.trans hF4; obtain ⟨n0, n1, n2, n3, n4, n5, n6⟩ := hT4.all) | (go_at_call 25; refine (keyword_p hS4 hok4 t).mono ?_; rw [HY.out]; rintro r w5 ⟨rfl, ve5, vo5, hF5⟩))
            go_ret
            rw [HR.out]
            exact ⟨rfl, _, _, hG4.trans hF5⟩
          | some s4 =>
            have hok5 : Ok 1 s4 := Ok.key (k := 1) hokB hky
            have HR : Hid (tokenS s t true = some { s4 with out := s4.out ++ [t] }) := Lib.hid (by rw [HQ2.out]; simp only [hkb, hky]; rfl)
            have HK := Lib.hid hkb
            have HY := Lib.hid hky
            clear hkb hky
            go_enter Try.func12, Try.ntmps12
            go_wp2_with (first | (go_at_call 22; refine (line_p hS1 hok1 t.col).mono ?_; rw [HL.out]; rintro r w2 ⟨rfl, ve2, vo2, hS2, hF2⟩; have hT2 := TB.frm hT1 hP1 hF2; have hP2 := (hP1.frm hF2).1; have hG2 := hF1.trans hF2; obtain ⟨l0, l1, l2, l3, l4, l5, l6⟩ := hT2.all) | (go_at_call 23; refine (item_p hS2 hok2 t).mono ?_; rintro r w3 ⟨rfl, ve3, vo3, hS3, hF3⟩; have hT3 := TB.frm hT2 hP2 hF3; have hP3 := (hP2.frm hF3).1; have hG3 := hG2.trans hF3; obtain ⟨m0, m1, m2, m3, m4, m5, m6⟩ := hT3.all) | (go_at_call 24; refine (bracket_p hS3 hok3 t s.word).mono ?_; rw [HK.out]; rintro r w4 ⟨rfl, ve4, vo4, hS4, hF4⟩; have hT4 := TB.frm hT3 hP3 hF4; have hP4 := (hP3.frm hF4).1; have hG4 := hG3.trans hF4; obtain ⟨n0, n1, n2, n3, n4, n5, n6⟩ := hT4.all) | (go_at_call 25; refine (keyword_p hS4 hok4 t).mono ?_; rw [HY.out]; rintro r w5 ⟨rfl, ve5, vo5, hS5, hF5⟩; have hT5 := TB.frm hT4 hP4 hF5; have hG5 := hG4.trans hF5; obtain ⟨o0, o1, o2, o3, o4, o5, o6⟩ := hT5.all; obtain ⟨oa, ca, hvo⟩ := hS5.olen; subst hvo; have q2 := hS5.c2; have y2 := hS5.fz 2))
            have hHO : w5.ownsRow (b + 1) 33 7 (.slice oa s4.out.length ca) s4.out.length (s4.out.flatMap tokCells) := hS5.out
            have hbx := hS5.lt
            have hzo := hok5.out_le
            go_region_law ((refine step_append_lies _ rfl (.tmp 53) (.tmp 55) 22 rfl (b + 1) 33 i0' (.agg #[.int .i64 0, .string ⟨#[]⟩, .string ⟨#[]⟩, .int .i64 0, .bool false, .int .i64 0, .int .i64 0]) 7 72 Try.underlying22 HI0.out HZ0.out HZ1.out HZ2.out rfl (by decide) (.slice oa s4.out.length ca) s4.out.length (s4.out.flatMap tokCells) ?e1 (World.ownsRow.alloc hHO _) ⟨w5.heap.size, 0, none⟩ 1 1 (tokCells t) ?e2 rfl (World.news_of_block (new_block w5 _)) (one_tok t) Nat.one_pos (by unfold maxLen; omega) (by omega) (by show b + 1 ≤ (w5.heap.push _).size; simp only [Array.size_push]; omega) _ rfl ?_); (case e1 => simp [Act.eval]); (case e2 => simp [Act.eval]); (intro g cg w6 hown' hgrow hat hlt'; have hS6 := IS.grownO (hS5.same (((Only.refl _ _).alloc _).drew)) hgrow; have p2 := (blk_c (k := 2) hS6.1 rfl).1; have v2 := (blk_c (k := 2) hS6.1 rfl).2))
            all_goals
              have hTR := TR.snoc (t := t) hown'
              have hO6 : Only (KE b (.slice oa s4.out.length ca)) w5 w6 := (((Only.refl _ _).alloc _).drew).trans (Only.grown hgrow (fun k hk => .inr hk))
              have HBL := Lib.hid (show ∀ g', (Value.slice (some ⟨g, 0, none⟩) (s4.out.length + 1) cg).ownBlock = some g' → (Value.slice oa s4.out.length ca).ownBlock = some g' ∨ w5.heap.size ≤ g' from fun g' hg' => by
                have hgg : g = g' := Option.some.inj hg'
                rcases hat with e | e
                · exact .inl (hgg ▸ e)
                · right
                  have e3 : g = (w5.heap.push (.cells (tokA t) 33)).size := e
                  rw [Array.size_push] at e3
                  omega)
              clear hown' hgrow hHO hat
              go_wp2
              go_ret
              rw [HR.out]
              exact ⟨rfl, (IS.put (s := s4) (s' := { s4 with out := s4.out ++ [t] }) hS6.1 rfl hS6.2 hTR).x (hG5.trans ⟨(hO6.setCell (.inl rfl) _).wide (fun i hi => hi.elim .inl (fun e => .inr (.inr e))), fun _ hg => .inl hg, HBL.out⟩)⟩
  · cases hbg : beginS s t with
    | mk v s1 =>
      have hbeq : (if s.exp then beginS s t else (false, s)) = (v, s1) := by rw [hx]; exact hbg
      have hok0 : Ok 4 s1 := by
        have := Ok.begin (k := 4) hk t
        rw [hbg] at this; exact this
      have hk4 : Ok 4 s := hk.less (by omega)
      have HB := Lib.hid hbg
      rw [hx] at c3
      have HX := Lib.hid hx
      clear hx hbg
      cases v
      · cases f
        · have HQ := Lib.hid (token_eq s t false hbeq)
          have hok1 : Ok 4 { s1 with exp := false, word := (⟨#[]⟩ : ByteArray) } := hok0.flags _ _
          clear hbeq
          have HQ2 : Hid (tokenS s t false = (match bracketS (itemS { s1 with exp := false, word := (⟨#[]⟩ : ByteArray) } t) t s.word with | none => none | some s3 => (keyS s3 t).map fun s4 => { s4 with out := s4.out ++ [t] })) := Lib.hid (by rw [HQ.out]; simp only [Bool.false_and, Bool.false_eq_true, if_false])
          have hok2 : Ok 3 { s1 with exp := false, word := (⟨#[]⟩ : ByteArray) } := hok1.less (by omega)
          have hokI : Ok 3 (itemS { s1 with exp := false, word := (⟨#[]⟩ : ByteArray) } t) := hok2.item t
          have hok3 : Ok 1 (itemS { s1 with exp := false, word := (⟨#[]⟩ : ByteArray) } t) := hokI.less (by omega)
          cases hkb : bracketS (itemS { s1 with exp := false, word := (⟨#[]⟩ : ByteArray) } t) t s.word with
          | none =>
            have HR : Hid (tokenS s t false = none) := Lib.hid (by rw [HQ2.out]; simp only [hkb])
            have HK := Lib.hid hkb
            clear hkb
            go_enter Try.func12, Try.ntmps12
            go_wp2_with (first | (go_at_call 21; refine (begin_p h0 hk4 t).mono ?_; rw [HB.out]; rintro r w1 ⟨rfl, ve1, vo1, hSa, hFa⟩; have hTa := TB.frm t0 hPr hFa; have hPa := (hPr.frm hFa).1; have hGa := (Frm.keep (ve := ve) (vo := vo) (b := b) hA).trans hFa; obtain ⟨hS1, hT1, hP1, hR1⟩ := hSa.reset hTa hPa; have hF1 := hGa.trans hR1; obtain ⟨a0, a1, a2, a3, a4, a5, a6⟩ := hTa.all; have x3 := hSa.c3; have x4 := hSa.c4; have u3 := hSa.fz 3; have u4 := hSa.fz 4) | (go_at_call 23; refine (item_p hS1 hok2 t).mono ?_; rintro r w3 ⟨rfl, ve3, vo3, hS3, hF3⟩; have hT3 := TB.frm hT1 hP1 hF3; have hP3 := (hP1.frm hF3).1; have hG3 := hF1.trans hF3; obtain ⟨m0, m1, m2, m3, m4, m5, m6⟩ := hT3.all) | (go_at_call 24; refine (bracket_p hS3 hok3 t s.word).mono ?_; rw [HK.out]; rintro r w4 ⟨rfl, ve4, vo4, hF4⟩))
            go_ret
            rw [HR.out]
            exact ⟨rfl, _, _, hG3.trans hF4⟩
          | some s3 =>
            have hokB : Ok 2 s3 := Ok.bracket (k := 2) hokI hkb
            have hok4 : Ok 1 s3 := hokB.less (by omega)
            cases hky : keyS s3 t with
            | none =>
              have HR : Hid (tokenS s t false = none) := Lib.hid (by rw [HQ2.out]; simp only [hkb, hky]; rfl)
              have HK := Lib.hid hkb
              have HY := Lib.hid hky
              clear hkb hky
              go_enter Try.func12, Try.ntmps12
              go_wp2_with (first | (go_at_call 21; refine (begin_p h0 hk4 t).mono ?_; rw [HB.out]; rintro r w1 ⟨rfl, ve1, vo1, hSa, hFa⟩; have hTa := TB.frm t0 hPr hFa; have hPa := (hPr.frm hFa).1; have hGa := (Frm.keep (ve := ve) (vo := vo) (b := b) hA).trans hFa; obtain ⟨hS1, hT1, hP1, hR1⟩ := hSa.reset hTa hPa; have hF1 := hGa.trans hR1; obtain ⟨a0, a1, a2, a3, a4, a5, a6⟩ := hTa.all; have x3 := hSa.c3; have x4 := hSa.c4; have u3 := hSa.fz 3; have u4 := hSa.fz 4) | (go_at_call 23; refine (item_p hS1 hok2 t).mono ?_; rintro r w3 ⟨rfl, ve3, vo3, hS3, hF3⟩; have hT3 := TB.frm hT1 hP1 hF3; have hP3 := (hP1.frm hF3).1; have hG3 := hF1.trans hF3; obtain ⟨m0, m1, m2, m3, m4, m5, m6⟩ := hT3.all) | (go_at_call 24; refine (bracket_p hS3 hok3 t s.word).mono ?_; rw [HK.out]; rintro r w4 ⟨rfl, ve4, vo4, hS4, hF4⟩; have hT4 := TB.frm hT3 hP3 hF4; have hP4 := (hP3.frm hF4).1; have hG4 := hG3.trans hF4; obtain ⟨n0, n1, n2, n3, n4, n5, n6⟩ := hT4.all) | (go_at_call 25; refine (keyword_p hS4 hok4 t).mono ?_; rw [HY.out]; rintro r w5 ⟨rfl, ve5, vo5, hF5⟩))
              go_ret
              rw [HR.out]
              exact ⟨rfl, _, _, hG4.trans hF5⟩
            | some s4 =>
              have hok5 : Ok 1 s4 := Ok.key (k := 1) hokB hky
              have HR : Hid (tokenS s t false = some { s4 with out := s4.out ++ [t] }) := Lib.hid (by rw [HQ2.out]; simp only [hkb, hky]; rfl)
              have HK := Lib.hid hkb
              have HY := Lib.hid hky
              clear hkb hky
              go_enter Try.func12, Try.ntmps12
              go_wp2_with (first | (go_at_call 21; refine (begin_p h0 hk4 t).mono ?_; rw [HB.out]; rintro r w1 ⟨rfl, ve1, vo1, hSa, hFa⟩; have hTa := TB.frm t0 hPr hFa; have hPa := (hPr.frm hFa).1; have hGa := (Frm.keep (ve := ve) (vo := vo) (b := b) hA).trans hFa; obtain ⟨hS1, hT1, hP1, hR1⟩ := hSa.reset hTa hPa; have hF1 := hGa.trans hR1; obtain ⟨a0, a1, a2, a3, a4, a5, a6⟩ := hTa.all; have x3 := hSa.c3; have x4 := hSa.c4; have u3 := hSa.fz 3; have u4 := hSa.fz 4) | (go_at_call 23; refine (item_p hS1 hok2 t).mono ?_; rintro r w3 ⟨rfl, ve3, vo3, hS3, hF3⟩; have hT3 := TB.frm hT1 hP1 hF3; have hP3 := (hP1.frm hF3).1; have hG3 := hF1.trans hF3; obtain ⟨m0, m1, m2, m3, m4, m5, m6⟩ := hT3.all) | (go_at_call 24; refine (bracket_p hS3 hok3 t s.word).mono ?_; rw [HK.out]; rintro r w4 ⟨rfl, ve4, vo4, hS4, hF4⟩; have hT4 := TB.frm hT3 hP3 hF4; have hP4 := (hP3.frm hF4).1; have hG4 := hG3.trans hF4; obtain ⟨n0, n1, n2, n3, n4, n5, n6⟩ := hT4.all) | (go_at_call 25; refine (keyword_p hS4 hok4 t).mono ?_; rw [HY.out]; rintro r w5 ⟨rfl, ve5, vo5, hS5, hF5⟩; have hT5 := TB.frm hT4 hP4 hF5; have hG5 := hG4.trans hF5; obtain ⟨o0, o1, o2, o3, o4, o5, o6⟩ := hT5.all; obtain ⟨oa, ca, hvo⟩ := hS5.olen; subst hvo; have q2 := hS5.c2; have y2 := hS5.fz 2))
              have hHO : w5.ownsRow (b + 1) 33 7 (.slice oa s4.out.length ca) s4.out.length (s4.out.flatMap tokCells) := hS5.out
              have hbx := hS5.lt
              have hzo := hok5.out_le
              go_region_law ((refine step_append_lies _ rfl (.tmp 53) (.tmp 55) 22 rfl (b + 1) 33 i0' (.agg #[.int .i64 0, .string ⟨#[]⟩, .string ⟨#[]⟩, .int .i64 0, .bool false, .int .i64 0, .int .i64 0]) 7 72 Try.underlying22 HI0.out HZ0.out HZ1.out HZ2.out rfl (by decide) (.slice oa s4.out.length ca) s4.out.length (s4.out.flatMap tokCells) ?e1 (World.ownsRow.alloc hHO _) ⟨w5.heap.size, 0, none⟩ 1 1 (tokCells t) ?e2 rfl (World.news_of_block (new_block w5 _)) (one_tok t) Nat.one_pos (by unfold maxLen; omega) (by omega) (by show b + 1 ≤ (w5.heap.push _).size; simp only [Array.size_push]; omega) _ rfl ?_); (case e1 => simp [Act.eval]); (case e2 => simp [Act.eval]); (intro g cg w6 hown' hgrow hat hlt'; have hS6 := IS.grownO (hS5.same (((Only.refl _ _).alloc _).drew)) hgrow; have p2 := (blk_c (k := 2) hS6.1 rfl).1; have v2 := (blk_c (k := 2) hS6.1 rfl).2))
              all_goals
                have hTR := TR.snoc (t := t) hown'
                have hO6 : Only (KE b (.slice oa s4.out.length ca)) w5 w6 := (((Only.refl _ _).alloc _).drew).trans (Only.grown hgrow (fun k hk => .inr hk))
                have HBL := Lib.hid (show ∀ g', (Value.slice (some ⟨g, 0, none⟩) (s4.out.length + 1) cg).ownBlock = some g' → (Value.slice oa s4.out.length ca).ownBlock = some g' ∨ w5.heap.size ≤ g' from fun g' hg' => by
                  have hgg : g = g' := Option.some.inj hg'
                  rcases hat with e | e
                  · exact .inl (hgg ▸ e)
                  · right
                    have e3 : g = (w5.heap.push (.cells (tokA t) 33)).size := e
                    rw [Array.size_push] at e3
                    omega)
                clear hown' hgrow hHO hat
                go_wp2
                go_ret
                rw [HR.out]
                exact ⟨rfl, (IS.put (s := s4) (s' := { s4 with out := s4.out ++ [t] }) hS6.1 rfl hS6.2 hTR).x (hG5.trans ⟨(hO6.setCell (.inl rfl) _).wide (fun i hi => hi.elim .inl (fun e => .inr (.inr e))), fun _ hg => .inl hg, HBL.out⟩)⟩
        · have HQ := Lib.hid (token_eq s t true hbeq)
          have hok1 : Ok 4 { s1 with exp := false, word := (⟨#[]⟩ : ByteArray) } := hok0.flags _ _
          clear hbeq
          cases hli : lineS (s1.els.length + 1) { s1 with exp := false, word := (⟨#[]⟩ : ByteArray) } t.col with
          | none =>
            have HR : Hid (tokenS s t true = none) := Lib.hid (by rw [HQ.out]; simp only [Bool.true_and, Bool.not_false, if_true, hli])
            have HL := Lib.hid hli
            clear hli
            have hok1 : Ok 1 { s1 with exp := false, word := (⟨#[]⟩ : ByteArray) } := hok1.less (by omega)
            go_enter Try.func12, Try.ntmps12
            go_wp2_with (first | (go_at_call 21; refine (begin_p h0 hk4 t).mono ?_; rw [HB.out]; rintro r w1 ⟨rfl, ve1, vo1, hSa, hFa⟩; have hTa := TB.frm t0 hPr hFa; have hPa := (hPr.frm hFa).1; have hGa := (Frm.keep (ve := ve) (vo := vo) (b := b) hA).trans hFa; obtain ⟨hS1, hT1, hP1, hR1⟩ := hSa.reset hTa hPa; have hF1 := hGa.trans hR1; obtain ⟨a0, a1, a2, a3, a4, a5, a6⟩ := hTa.all; have x3 := hSa.c3; have x4 := hSa.c4; have u3 := hSa.fz 3; have u4 := hSa.fz 4) | (go_at_call 22; refine (line_p hS1 hok1 t.col).mono ?_; rw [HL.out]; rintro r w2 ⟨rfl, ve2, vo2, hF2⟩))
            go_ret
            rw [HR.out]
            exact ⟨rfl, _, _, hF1.trans hF2⟩
          | some s2 =>
            have hok2 : Ok 3 s2 := Ok.line (k := 3) hok1 hli
            have HL := Lib.hid hli
            have HQ2 : Hid (tokenS s t true = (match bracketS (itemS s2 t) t s.word with | none => none | some s3 => (keyS s3 t).map fun s4 => { s4 with out := s4.out ++ [t] })) := Lib.hid (by rw [HQ.out]; simp only [Bool.true_and, Bool.not_false, if_true, hli])
            clear hli
            have hok1 : Ok 1 { s1 with exp := false, word := (⟨#[]⟩ : ByteArray) } := hok1.less (by omega)
            have hokI : Ok 3 (itemS s2 t) := hok2.item t
            have hok3 : Ok 1 (itemS s2 t) := hokI.less (by omega)
            cases hkb : bracketS (itemS s2 t) t s.word with
            | none =>
              have HR : Hid (tokenS s t true = none) := Lib.hid (by rw [HQ2.out]; simp only [hkb])
              have HK := Lib.hid hkb
              clear hkb
              go_enter Try.func12, Try.ntmps12
              go_wp2_with (first | (go_at_call 21; refine (begin_p h0 hk4 t).mono ?_; rw [HB.out]; rintro r w1 ⟨rfl, ve1, vo1, hSa, hFa⟩; have hTa := TB.frm t0 hPr hFa; have hPa := (hPr.frm hFa).1; have hGa := (Frm.keep (ve := ve) (vo := vo) (b := b) hA).trans hFa; obtain ⟨hS1, hT1, hP1, hR1⟩ := hSa.reset hTa hPa; have hF1 := hGa.trans hR1; obtain ⟨a0, a1, a2, a3, a4, a5, a6⟩ := hTa.all; have x3 := hSa.c3; have x4 := hSa.c4; have u3 := hSa.fz 3; have u4 := hSa.fz 4) | (go_at_call 22; refine (line_p hS1 hok1 t.col).mono ?_; rw [HL.out]; rintro r w2 ⟨rfl, ve2, vo2, hS2, hF2⟩; have hT2 := TB.frm hT1 hP1 hF2; have hP2 := (hP1.frm hF2).1; have hG2 := hF1.trans hF2; obtain ⟨l0, l1, l2, l3, l4, l5, l6⟩ := hT2.all) | (go_at_call 23; refine (item_p hS2 hok2 t).mono ?_; rintro r w3 ⟨rfl, ve3, vo3, hS3, hF3⟩; have hT3 := TB.frm hT2 hP2 hF3; have hP3 := (hP2.frm hF3).1; have hG3 := hG2.trans hF3; obtain ⟨m0, m1, m2, m3, m4, m5, m6⟩ := hT3.all) | (go_at_call 24; refine (bracket_p hS3 hok3 t s.word).mono ?_; rw [HK.out]; rintro r w4 ⟨rfl, ve4, vo4, hF4⟩))
              go_ret
              rw [HR.out]
              exact ⟨rfl, _, _, hG3.trans hF4⟩
            | some s3 =>
              have hokB : Ok 2 s3 := Ok.bracket (k := 2) hokI hkb
              have hok4 : Ok 1 s3 := hokB.less (by omega)
              cases hky : keyS s3 t with
              | none =>
                have HR : Hid (tokenS s t true = none) := Lib.hid (by rw [HQ2.out]; simp only [hkb, hky]; rfl)
                have HK := Lib.hid hkb
                have HY := Lib.hid hky
                clear hkb hky
                go_enter Try.func12, Try.ntmps12
                go_wp2_with (first | (go_at_call 21; refine (begin_p h0 hk4 t).mono ?_; rw [HB.out]; rintro r w1 ⟨rfl, ve1, vo1, hSa, hFa⟩; have hTa := TB.frm t0 hPr hFa; have hPa := (hPr.frm hFa).1; have hGa := (Frm.keep (ve := ve) (vo := vo) (b := b) hA).trans hFa; obtain ⟨hS1, hT1, hP1, hR1⟩ := hSa.reset hTa hPa; have hF1 := hGa.trans hR1; obtain ⟨a0, a1, a2, a3, a4, a5, a6⟩ := hTa.all; have x3 := hSa.c3; have x4 := hSa.c4; have u3 := hSa.fz 3; have u4 := hSa.fz 4) | (go_at_call 22; refine (line_p hS1 hok1 t.col).mono ?_; rw [HL.out]; rintro r w2 ⟨rfl, ve2, vo2, hS2, hF2⟩; have hT2 := TB.frm hT1 hP1 hF2; have hP2 := (hP1.frm hF2).1; have hG2 := hF1.trans hF2; obtain ⟨l0, l1, l2, l3, l4, l5, l6⟩ := hT2.all) | (go_at_call 23; refine (item_p hS2 hok2 t).mono ?_; rintro r w3 ⟨rfl, ve3, vo3, hS3, hF3⟩; have hT3 := TB.frm hT2 hP2 hF3; have hP3 := (hP2.frm hF3).1; have hG3 := hG2.trans hF3; obtain ⟨m0, m1, m2, m3, m4, m5, m6⟩ := hT3.all) | (go_at_call 24; refine (bracket_p hS3 hok3 t s.word).mono ?_; rw [HK.out]; rintro r w4 ⟨rfl, ve4, vo4, hS4, hF4⟩; have hT4 := TB.frm hT3 hP3 hF4; have hP4 := (hP3.frm hF4).1; have hG4 := hG3.trans hF4; obtain ⟨n0, n1, n2, n3, n4, n5, n6⟩ := hT4.all) | (go_at_call 25; refine (keyword_p hS4 hok4 t).mono ?_; rw [HY.out]; rintro r w5 ⟨rfl, ve5, vo5, hF5⟩))
                go_ret
                rw [HR.out]
                exact ⟨rfl, _, _, hG4.trans hF5⟩
              | some s4 =>
                have hok5 : Ok 1 s4 := Ok.key (k := 1) hokB hky
                have HR : Hid (tokenS s t true = some { s4 with out := s4.out ++ [t] }) := Lib.hid (by rw [HQ2.out]; simp only [hkb, hky]; rfl)
                have HK := Lib.hid hkb
                have HY := Lib.hid hky
                clear hkb hky
                go_enter Try.func12, Try.ntmps12
                go_wp2_with (first | (go_at_call 21; refine (begin_p h0 hk4 t).mono ?_; rw [HB.out]; rintro r w1 ⟨rfl, ve1, vo1, hSa, hFa⟩; have hTa := TB.frm t0 hPr hFa; have hPa := (hPr.frm hFa).1; have hGa := (Frm.keep (ve := ve) (vo := vo) (b := b) hA).trans hFa; obtain ⟨hS1, hT1, hP1, hR1⟩ := hSa.reset hTa hPa; have hF1 := hGa.trans hR1; obtain ⟨a0, a1, a2, a3, a4, a5, a6⟩ := hTa.all; have x3 := hSa.c3; have x4 := hSa.c4; have u3 := hSa.fz 3; have u4 := hSa.fz 4) | (go_at_call 22; refine (line_p hS1 hok1 t.col).mono ?_; rw [HL.out]; rintro r w2 ⟨rfl, ve2, vo2, hS2, hF2⟩; have hT2 := TB.frm hT1 hP1 hF2; have hP2 := (hP1.frm hF2).1; have hG2 := hF1.trans hF2; obtain ⟨l0, l1, l2, l3, l4, l5, l6⟩ := hT2.all) | (go_at_call 23; refine (item_p hS2 hok2 t).mono ?_; rintro r w3 ⟨rfl, ve3, vo3, hS3, hF3⟩; have hT3 := TB.frm hT2 hP2 hF3; have hP3 := (hP2.frm hF3).1; have hG3 := hG2.trans hF3; obtain ⟨m0, m1, m2, m3, m4, m5, m6⟩ := hT3.all) | (go_at_call 24; refine (bracket_p hS3 hok3 t s.word).mono ?_; rw [HK.out]; rintro r w4 ⟨rfl, ve4, vo4, hS4, hF4⟩; have hT4 := TB.frm hT3 hP3 hF4; have hP4 := (hP3.frm hF4).1; have hG4 := hG3.trans hF4; obtain ⟨n0, n1, n2, n3, n4, n5, n6⟩ := hT4.all) | (go_at_call 25; refine (keyword_p hS4 hok4 t).mono ?_; rw [HY.out]; rintro r w5 ⟨rfl, ve5, vo5, hS5, hF5⟩; have hT5 := TB.frm hT4 hP4 hF5; have hG5 := hG4.trans hF5; obtain ⟨o0, o1, o2, o3, o4, o5, o6⟩ := hT5.all; obtain ⟨oa, ca, hvo⟩ := hS5.olen; subst hvo; have q2 := hS5.c2; have y2 := hS5.fz 2))
                have hHO : w5.ownsRow (b + 1) 33 7 (.slice oa s4.out.length ca) s4.out.length (s4.out.flatMap tokCells) := hS5.out
                have hbx := hS5.lt
                have hzo := hok5.out_le
                go_region_law ((refine step_append_lies _ rfl (.tmp 53) (.tmp 55) 22 rfl (b + 1) 33 i0' (.agg #[.int .i64 0, .string ⟨#[]⟩, .string ⟨#[]⟩, .int .i64 0, .bool false, .int .i64 0, .int .i64 0]) 7 72 Try.underlying22 HI0.out HZ0.out HZ1.out HZ2.out rfl (by decide) (.slice oa s4.out.length ca) s4.out.length (s4.out.flatMap tokCells) ?e1 (World.ownsRow.alloc hHO _) ⟨w5.heap.size, 0, none⟩ 1 1 (tokCells t) ?e2 rfl (World.news_of_block (new_block w5 _)) (one_tok t) Nat.one_pos (by unfold maxLen; omega) (by omega) (by show b + 1 ≤ (w5.heap.push _).size; simp only [Array.size_push]; omega) _ rfl ?_); (case e1 => simp [Act.eval]); (case e2 => simp [Act.eval]); (intro g cg w6 hown' hgrow hat hlt'; have hS6 := IS.grownO (hS5.same (((Only.refl _ _).alloc _).drew)) hgrow; have p2 := (blk_c (k := 2) hS6.1 rfl).1; have v2 := (blk_c (k := 2) hS6.1 rfl).2))
                all_goals
                  have hTR := TR.snoc (t := t) hown'
                  have hO6 : Only (KE b (.slice oa s4.out.length ca)) w5 w6 := (((Only.refl _ _).alloc _).drew).trans (Only.grown hgrow (fun k hk => .inr hk))
                  have HBL := Lib.hid (show ∀ g', (Value.slice (some ⟨g, 0, none⟩) (s4.out.length + 1) cg).ownBlock = some g' → (Value.slice oa s4.out.length ca).ownBlock = some g' ∨ w5.heap.size ≤ g' from fun g' hg' => by
                    have hgg : g = g' := Option.some.inj hg'
                    rcases hat with e | e
                    · exact .inl (hgg ▸ e)
                    · right
                      have e3 : g = (w5.heap.push (.cells (tokA t) 33)).size := e
                      rw [Array.size_push] at e3
                      omega)
                  clear hown' hgrow hHO hat
                  go_wp2
                  go_ret
                  rw [HR.out]
                  exact ⟨rfl, (IS.put (s := s4) (s' := { s4 with out := s4.out ++ [t] }) hS6.1 rfl hS6.2 hTR).x (hG5.trans ⟨(hO6.setCell (.inl rfl) _).wide (fun i hi => hi.elim .inl (fun e => .inr (.inr e))), fun _ hg => .inl hg, HBL.out⟩)⟩
      · have HQ := Lib.hid (token_eq s t f hbeq)
        have hok1 : Ok 4 { s1 with exp := false, word := (⟨#[]⟩ : ByteArray) } := hok0.flags _ _
        clear hbeq
        have HQ2 : Hid (tokenS s t f = (match bracketS (itemS { s1 with exp := false, word := (⟨#[]⟩ : ByteArray) } t) t s.word with | none => none | some s3 => (keyS s3 t).map fun s4 => { s4 with out := s4.out ++ [t] })) := Lib.hid (by rw [HQ.out]; simp only [Bool.not_true, Bool.and_false, Bool.false_eq_true, if_false])
        have hok2 : Ok 3 { s1 with exp := false, word := (⟨#[]⟩ : ByteArray) } := hok1.less (by omega)
        have hokI : Ok 3 (itemS { s1 with exp := false, word := (⟨#[]⟩ : ByteArray) } t) := hok2.item t
        have hok3 : Ok 1 (itemS { s1 with exp := false, word := (⟨#[]⟩ : ByteArray) } t) := hokI.less (by omega)
        cases hkb : bracketS (itemS { s1 with exp := false, word := (⟨#[]⟩ : ByteArray) } t) t s.word with
        | none =>
          have HR : Hid (tokenS s t f = none) := Lib.hid (by rw [HQ2.out]; simp only [hkb])
          have HK := Lib.hid hkb
          clear hkb
          go_enter Try.func12, Try.ntmps12
          go_wp2_with (first | (go_at_call 21; refine (begin_p h0 hk4 t).mono ?_; rw [HB.out]; rintro r w1 ⟨rfl, ve1, vo1, hSa, hFa⟩; have hTa := TB.frm t0 hPr hFa; have hPa := (hPr.frm hFa).1; have hGa := (Frm.keep (ve := ve) (vo := vo) (b := b) hA).trans hFa; obtain ⟨hS1, hT1, hP1, hR1⟩ := hSa.reset hTa hPa; have hF1 := hGa.trans hR1; obtain ⟨a0, a1, a2, a3, a4, a5, a6⟩ := hTa.all; have x3 := hSa.c3; have x4 := hSa.c4; have u3 := hSa.fz 3; have u4 := hSa.fz 4) | (go_at_call 23; refine (item_p hS1 hok2 t).mono ?_; rintro r w3 ⟨rfl, ve3, vo3, hS3, hF3⟩; have hT3 := TB.frm hT1 hP1 hF3; have hP3 := (hP1.frm hF3).1; have hG3 := hF1.trans hF3; obtain ⟨m0, m1, m2, m3, m4, m5, m6⟩ := hT3.all) | (go_at_call 24; refine (bracket_p hS3 hok3 t s.word).mono ?_; rw [HK.out]; rintro r w4 ⟨rfl, ve4, vo4, hF4⟩))
          go_ret
          rw [HR.out]
          exact ⟨rfl, _, _, hG3.trans hF4⟩
        | some s3 =>
          have hokB : Ok 2 s3 := Ok.bracket (k := 2) hokI hkb
          have hok4 : Ok 1 s3 := hokB.less (by omega)
          cases hky : keyS s3 t with
          | none =>
            have HR : Hid (tokenS s t f = none) := Lib.hid (by rw [HQ2.out]; simp only [hkb, hky]; rfl)
            have HK := Lib.hid hkb
            have HY := Lib.hid hky
            clear hkb hky
            go_enter Try.func12, Try.ntmps12
            go_wp2_with (first | (go_at_call 21; refine (begin_p h0 hk4 t).mono ?_; rw [HB.out]; rintro r w1 ⟨rfl, ve1, vo1, hSa, hFa⟩; have hTa := TB.frm t0 hPr hFa; have hPa := (hPr.frm hFa).1; have hGa := (Frm.keep (ve := ve) (vo := vo) (b := b) hA).trans hFa; obtain ⟨hS1, hT1, hP1, hR1⟩ := hSa.reset hTa hPa; have hF1 := hGa.trans hR1; obtain ⟨a0, a1, a2, a3, a4, a5, a6⟩ := hTa.all; have x3 := hSa.c3; have x4 := hSa.c4; have u3 := hSa.fz 3; have u4 := hSa.fz 4) | (go_at_call 23; refine (item_p hS1 hok2 t).mono ?_; rintro r w3 ⟨rfl, ve3, vo3, hS3, hF3⟩; have hT3 := TB.frm hT1 hP1 hF3; have hP3 := (hP1.frm hF3).1; have hG3 := hF1.trans hF3; obtain ⟨m0, m1, m2, m3, m4, m5, m6⟩ := hT3.all) | (go_at_call 24; refine (bracket_p hS3 hok3 t s.word).mono ?_; rw [HK.out]; rintro r w4 ⟨rfl, ve4, vo4, hS4, hF4⟩; have hT4 := TB.frm hT3 hP3 hF4; have hP4 := (hP3.frm hF4).1; have hG4 := hG3.trans hF4; obtain ⟨n0, n1, n2, n3, n4, n5, n6⟩ := hT4.all) | (go_at_call 25; refine (keyword_p hS4 hok4 t).mono ?_; rw [HY.out]; rintro r w5 ⟨rfl, ve5, vo5, hF5⟩))
            go_ret
            rw [HR.out]
            exact ⟨rfl, _, _, hG4.trans hF5⟩
          | some s4 =>
            have hok5 : Ok 1 s4 := Ok.key (k := 1) hokB hky
            have HR : Hid (tokenS s t f = some { s4 with out := s4.out ++ [t] }) := Lib.hid (by rw [HQ2.out]; simp only [hkb, hky]; rfl)
            have HK := Lib.hid hkb
            have HY := Lib.hid hky
            clear hkb hky
            go_enter Try.func12, Try.ntmps12
            go_wp2_with (first | (go_at_call 21; refine (begin_p h0 hk4 t).mono ?_; rw [HB.out]; rintro r w1 ⟨rfl, ve1, vo1, hSa, hFa⟩; have hTa := TB.frm t0 hPr hFa; have hPa := (hPr.frm hFa).1; have hGa := (Frm.keep (ve := ve) (vo := vo) (b := b) hA).trans hFa; obtain ⟨hS1, hT1, hP1, hR1⟩ := hSa.reset hTa hPa; have hF1 := hGa.trans hR1; obtain ⟨a0, a1, a2, a3, a4, a5, a6⟩ := hTa.all; have x3 := hSa.c3; have x4 := hSa.c4; have u3 := hSa.fz 3; have u4 := hSa.fz 4) | (go_at_call 23; refine (item_p hS1 hok2 t).mono ?_; rintro r w3 ⟨rfl, ve3, vo3, hS3, hF3⟩; have hT3 := TB.frm hT1 hP1 hF3; have hP3 := (hP1.frm hF3).1; have hG3 := hF1.trans hF3; obtain ⟨m0, m1, m2, m3, m4, m5, m6⟩ := hT3.all) | (go_at_call 24; refine (bracket_p hS3 hok3 t s.word).mono ?_; rw [HK.out]; rintro r w4 ⟨rfl, ve4, vo4, hS4, hF4⟩; have hT4 := TB.frm hT3 hP3 hF4; have hP4 := (hP3.frm hF4).1; have hG4 := hG3.trans hF4; obtain ⟨n0, n1, n2, n3, n4, n5, n6⟩ := hT4.all) | (go_at_call 25; refine (keyword_p hS4 hok4 t).mono ?_; rw [HY.out]; rintro r w5 ⟨rfl, ve5, vo5, hS5, hF5⟩; have hT5 := TB.frm hT4 hP4 hF5; have hG5 := hG4.trans hF5; obtain ⟨o0, o1, o2, o3, o4, o5, o6⟩ := hT5.all; obtain ⟨oa, ca, hvo⟩ := hS5.olen; subst hvo; have q2 := hS5.c2; have y2 := hS5.fz 2))
            have hHO : w5.ownsRow (b + 1) 33 7 (.slice oa s4.out.length ca) s4.out.length (s4.out.flatMap tokCells) := hS5.out
            have hbx := hS5.lt
            have hzo := hok5.out_le
            go_region_law ((refine step_append_lies _ rfl (.tmp 53) (.tmp 55) 22 rfl (b + 1) 33 i0' (.agg #[.int .i64 0, .string ⟨#[]⟩, .string ⟨#[]⟩, .int .i64 0, .bool false, .int .i64 0, .int .i64 0]) 7 72 Try.underlying22 HI0.out HZ0.out HZ1.out HZ2.out rfl (by decide) (.slice oa s4.out.length ca) s4.out.length (s4.out.flatMap tokCells) ?e1 (World.ownsRow.alloc hHO _) ⟨w5.heap.size, 0, none⟩ 1 1 (tokCells t) ?e2 rfl (World.news_of_block (new_block w5 _)) (one_tok t) Nat.one_pos (by unfold maxLen; omega) (by omega) (by show b + 1 ≤ (w5.heap.push _).size; simp only [Array.size_push]; omega) _ rfl ?_); (case e1 => simp [Act.eval]); (case e2 => simp [Act.eval]); (intro g cg w6 hown' hgrow hat hlt'; have hS6 := IS.grownO (hS5.same (((Only.refl _ _).alloc _).drew)) hgrow; have p2 := (blk_c (k := 2) hS6.1 rfl).1; have v2 := (blk_c (k := 2) hS6.1 rfl).2))
            all_goals
              have hTR := TR.snoc (t := t) hown'
              have hO6 : Only (KE b (.slice oa s4.out.length ca)) w5 w6 := (((Only.refl _ _).alloc _).drew).trans (Only.grown hgrow (fun k hk => .inr hk))
              have HBL := Lib.hid (show ∀ g', (Value.slice (some ⟨g, 0, none⟩) (s4.out.length + 1) cg).ownBlock = some g' → (Value.slice oa s4.out.length ca).ownBlock = some g' ∨ w5.heap.size ≤ g' from fun g' hg' => by
                have hgg : g = g' := Option.some.inj hg'
                rcases hat with e | e
                · exact .inl (hgg ▸ e)
                · right
                  have e3 : g = (w5.heap.push (.cells (tokA t) 33)).size := e
                  rw [Array.size_push] at e3
                  omega)
              clear hown' hgrow hHO hat
              go_wp2
              go_ret
              rw [HR.out]
              exact ⟨rfl, (IS.put (s := s4) (s' := { s4 with out := s4.out ++ [t] }) hS6.1 rfl hS6.2 hTR).x (hG5.trans ⟨(hO6.setCell (.inl rfl) _).wide (fun i hi => hi.elim .inl (fun e => .inr (.inr e))), fun _ hg => .inl hg, HBL.out⟩)⟩
end
end Go.Proofs.Ythblchafjmgmbaa
