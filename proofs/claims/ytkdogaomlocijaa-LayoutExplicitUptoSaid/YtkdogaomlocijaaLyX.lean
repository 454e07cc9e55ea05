/-
  WALKS. SameTokens of equal lists; Strip, the program's and the reference's.
-/
import Derived.Test.YtkdogaomlocijaaLySa
namespace Go.Proofs.Ytkdogaomlocijaa
open Go.RowKit Go.Maps
set_option maxRecDepth 100000 in
set_option maxHeartbeats 4000000 in
theorem SameEq_p (w : World) (oa ob : Option Addr) (n ca cb : Nat) (ts : List Tok) (hn : n ≤ 100000000000) (ha : Tks w oa n ts) (hb : Tks w ob n ts) :
    Calls Try.prog 12 #[.slice oa n ca, .slice ob n cb] w fun r w' => r = .returned (.bool true) ∧ Only (fun _ => False) w w' := by
  have HL := Lib.hid ha.len
  go_enter Try.func12, Try.ntmps12
  go_wp2
  go_loopw [5] (fun i wr => ∃ k : Nat, k ≤ n ∧ i = .int .i64 k ∧ Only (fun _ => False) w wr) (fun i _ => n - (intOf i).toNat)
  case atStart => exact ⟨0, by omega, rfl, Only.refl _ _⟩
  case round =>
    obtain ⟨k, hk, rfl, hO⟩ := hrel
    by_cases hlt : k < n
    · have hkt : k < ts.length := by rw [HL.out]; exact hlt
      obtain ⟨b, o, rfl, hc⟩ := (ha.keep hO).cell k hkt
      obtain ⟨b', o', rfl, hc'⟩ := (hb.keep hO).cell k hkt
      obtain ⟨x, hx⟩ : ∃ x, ts[k] = x := ⟨_, rfl⟩
      rw [hx] at hc hc'
      clear hx hkt
      obtain ⟨p0, p1, p2, p3, p4, p5, p6⟩ := hc
      obtain ⟨q0, q1, q2, q3, q4, q5, q6⟩ := hc'
      have hkn : (k : Int) < (n : Int) := by omega
      have hk0 : (0 : Int) ≤ (k : Int) := Int.natCast_nonneg k
      go_wp2
      go_quiet (fail)
      all_goals
        go_wp2
        go_roundw
        case rel => exact ⟨k + 1, by omega, by go_num, hO.trans (only_drewN _ _)⟩
        case measure => simp [intOf]; omega
    · go_wp2
      go_ret
      exact ⟨rfl, hO⟩
theorem strip_step (ts : List Tok) {k : Nat} (hk : k < ts.length) : stripL (ts.take (k + 1)) = if ts[k].auto then stripL (ts.take k) else stripL (ts.take k) ++ [ts[k]] := by
  rw [List.take_succ_eq_append_getElem hk]
  unfold stripL
  rw [List.filter_append]
  cases h : ts[k].auto <;> simp [h]
theorem strip_le (ts : List Tok) (k : Nat) : (stripL (ts.take k)).length ≤ k := by
  unfold stripL
  exact Nat.le_trans (List.length_filter_le _ _) (by rw [List.length_take]; omega)
set_option maxRecDepth 100000 in
set_option maxHeartbeats 8000000 in
theorem Strip_p (w : World) (oa : Option Addr) (n ca : Nat) (ts : List Tok) (hn : n ≤ 1000000000) (hT : Tks w oa n ts) :
    Calls Try.prog 13 #[.slice oa n ca] w fun r w' => (∃ vo, r = .returned vo ∧ TR w' w.heap.size vo (stripL ts)) ∧ Only (fun _ => False) w w' := by
  have HL := Lib.hid hT.len
  obtain ⟨i0', hi, hz0, hz1, hz2⟩ := info_parts infoTok
  have HI0 := Lib.hid hi
  have HZ0 := Lib.hid hz0
  have HZ1 := Lib.hid hz1
  have HZ2 := Lib.hid hz2
  clear hi hz0 hz1 hz2
  go_enter Try.func13, Try.ntmps13
  go_wp2
  go_loopw [8, 3] (fun i v wr => ∃ k : Nat, k ≤ n ∧ i = .int .i64 k ∧ TR wr w.heap.size v (stripL (ts.take k)) ∧ Only (fun _ => False) w wr) (fun i _ _ => n - (intOf i).toNat)
  case atStart => exact ⟨0, by omega, rfl, World.ownsRow_nil _ _ _ _, Only.refl _ _⟩
  case round =>
    obtain ⟨k, hk, rfl, hR, hO⟩ := hrel
    obtain ⟨os, cs, rfl⟩ := rowForm hR
    by_cases hlt : k < n
    · have hkt : k < ts.length := by rw [HL.out]; exact hlt
      obtain ⟨b, o, rfl, hc⟩ := (hT.keep hO).cell k hkt
      have hst := strip_step ts hkt
      have hle := strip_le ts k
      obtain ⟨l, hl⟩ : ∃ l, stripL (ts.take k) = l := ⟨_, rfl⟩
      obtain ⟨x, hx⟩ : ∃ x, ts[k] = x := ⟨_, rfl⟩
      rw [hx] at hc hst
      rw [hl] at hst hle hR ⊢
      have HST := Lib.hid hst
      clear hx hkt hst hl
      obtain ⟨op, qu, te, nn, au, li, co⟩ := x
      obtain ⟨p0, p1, p2, p3, p4, p5, p6⟩ := hc
      cases au
      · have hA : Only (fun _ => False) wr (wr.alloc (.cells (tokA ⟨op, qu, te, nn, false, li, co⟩) 34)) := (Only.refl _ _).alloc _
        have t0 : TB (wr.alloc (.cells (tokA ⟨op, qu, te, nn, false, li, co⟩) 34)) wr.heap.size ⟨op, qu, te, nn, false, li, co⟩ := new_block _ _
        have HN : Hid (stripL (ts.take (k + 1)) = l ++ [⟨op, qu, te, nn, false, li, co⟩]) := Lib.hid (by rw [HST.out]; rfl)
        go_wp2_with (first | (go_at_call 21; refine (isInserted_q ⟨op, qu, te, nn, false, li, co⟩ _ false rfl).mono ?_; rintro r w1 ⟨rfl, hO1⟩; obtain ⟨q0, q1, q2, q3, q4, q5, q6⟩ := (t0.same hO1).all; have hR1 := hR.only (hA.trans hO1) (fun _ _ hc => hc); have hO2 := (hO.trans hA).trans hO1) | (at_builtin; (refine wpList_append_lies _ rfl (.tmp 15) (.tmp 17) 22 rfl w.heap.size 34 i0' (.agg #[.int .i64 0, .string ⟨#[]⟩, .string ⟨#[]⟩, .int .i64 0, .bool false, .int .i64 0, .int .i64 0]) 7 72 Try.underlying22 HI0.out HZ0.out HZ1.out HZ2.out rfl (by decide) (.slice os l.length cs) l.length (l.flatMap tokCells) rfl (World.ownsRow.alloc hR1 _) ⟨w1.heap.size, 0, none⟩ 1 1 (tokCells ⟨op, qu, te, nn, false, li, co⟩) rfl rfl (World.news_of_block (new_block w1 _)) (one_tok _) Nat.one_pos (by unfold maxLen; omega) (by omega) (by show w.heap.size ≤ (w1.heap.push _).size; have := hO2.size; simp only [Array.size_push]; omega) _ rfl ?_); (intro g5 cg5 w5 hown5 hgrow5 hat5 hlt5; clear hat5 hlt5; have hO5 : Only (fun _ => False) w w5 := (Only.alloc hO2 (.cells (tokA ⟨op, qu, te, nn, false, li, co⟩) 34)).then (Only.grown (K := fun i => w.heap.size ≤ i) hgrow5 (fun g hg => (World.ownsRow.lt hR1 g hg).1)) (fun i hi => .inr hi); have hR5 := TR.snoc (t := ⟨op, qu, te, nn, false, li, co⟩) hown5; clear hown5 hgrow5)))
        go_roundw
        case rel => exact ⟨k + 1, by omega, by go_num, by rw [HN.out]; exact hR5, hO5⟩
        case measure => simp [intOf]; omega
      · have hA : Only (fun _ => False) wr (wr.alloc (.cells (tokA ⟨op, qu, te, nn, true, li, co⟩) 34)) := (Only.refl _ _).alloc _
        have t0 : TB (wr.alloc (.cells (tokA ⟨op, qu, te, nn, true, li, co⟩) 34)) wr.heap.size ⟨op, qu, te, nn, true, li, co⟩ := new_block _ _
        have HN : Hid (stripL (ts.take (k + 1)) = l) := Lib.hid (by rw [HST.out]; rfl)
        go_wp2_with (go_at_call 21; refine (isInserted_q ⟨op, qu, te, nn, true, li, co⟩ _ true rfl).mono ?_; rintro r w1 ⟨rfl, hO1⟩)
        go_roundw
        case rel => exact ⟨k + 1, by omega, by go_num, by rw [HN.out]; exact hR.only (hA.trans hO1) (fun _ _ hc => hc), (hO.trans hA).trans hO1⟩
        case measure => simp [intOf]; omega
    · have hend : ts.take k = ts := List.take_of_length_le (by rw [HL.out]; omega)
      rw [hend] at hR ⊢
      go_wp2
      go_ret
      exact ⟨⟨_, rfl, hR⟩, hO⟩
theorem TR.zero (w : World) {B : Nat} (hB : B ≤ w.heap.size) : TR (w.alloc (.cells #[] 34)) B (.slice (some ⟨w.heap.size, 0, none⟩) 0 0) [] :=
  ⟨rfl, .inr ⟨w.heap.size, 0, #[], rfl, hB, new_block _ _, Nat.le_refl _, by decide, rfl, rfl⟩⟩
set_option maxRecDepth 100000 in
set_option maxHeartbeats 8000000 in
theorem rStrip_p (w : World) (oa : Option Addr) (n ca : Nat) (ts : List Tok) (hn : n ≤ 1000000000) (hT : Tks w oa n ts) :
    Calls Try.prog 14 #[.slice oa n ca] w fun r w' => (∃ vo, r = .returned vo ∧ TR w' w.heap.size vo (stripL ts)) ∧ Only (fun _ => False) w w' := by
  have HL := Lib.hid hT.len
  obtain ⟨i0', hi, hz0, hz1, hz2⟩ := info_parts infoTok
  have HI0 := Lib.hid hi
  have HZ0 := Lib.hid hz0
  have HZ1 := Lib.hid hz1
  have HZ2 := Lib.hid hz2
  clear hi hz0 hz1 hz2
  go_enter Try.func14, Try.ntmps14
  go_wp2
  go_loopw [4, 3] (fun i v wr => ∃ k : Nat, k ≤ n ∧ i = .int .i64 k ∧ TR wr w.heap.size v (stripL (ts.take k)) ∧ Only (fun _ => False) w wr) (fun i _ _ => n - (intOf i).toNat)
  case atStart => exact ⟨0, by omega, rfl, TR.zero w (Nat.le_refl _), Only.alloc (Only.refl _ _) _⟩
  case round =>
    obtain ⟨k, hk, rfl, hR, hO⟩ := hrel
    obtain ⟨os, cs, rfl⟩ := rowForm hR
    by_cases hlt : k < n
    · have hkt : k < ts.length := by rw [HL.out]; exact hlt
      obtain ⟨b, o, rfl, hc⟩ := (hT.keep hO).cell k hkt
      have hst := strip_step ts hkt
      have hle := strip_le ts k
      obtain ⟨l, hl⟩ : ∃ l, stripL (ts.take k) = l := ⟨_, rfl⟩
      obtain ⟨x, hx⟩ : ∃ x, ts[k] = x := ⟨_, rfl⟩
      rw [hx] at hc hst
      rw [hl] at hst hle hR ⊢
      have HST := Lib.hid hst
      clear hx hkt hst hl
      obtain ⟨op, qu, te, nn, au, li, co⟩ := x
      obtain ⟨p0, p1, p2, p3, p4, p5, p6⟩ := hc
      cases au
      · have HN : Hid (stripL (ts.take (k + 1)) = l ++ [⟨op, qu, te, nn, false, li, co⟩]) := Lib.hid (by rw [HST.out]; rfl)
        go_wp2_with (at_builtin; (refine wpList_append_lies _ rfl (.tmp 18) (.tmp 23) 22 rfl w.heap.size 34 i0' (.agg #[.int .i64 0, .string ⟨#[]⟩, .string ⟨#[]⟩, .int .i64 0, .bool false, .int .i64 0, .int .i64 0]) 7 72 Try.underlying22 HI0.out HZ0.out HZ1.out HZ2.out rfl (by decide) (.slice os l.length cs) l.length (l.flatMap tokCells) rfl (World.ownsRow.alloc hR _) ⟨wr.heap.size, 0, none⟩ 1 1 (tokCells ⟨op, qu, te, nn, false, li, co⟩) rfl rfl (World.news_of_block (new_block wr _)) (one_tok _) Nat.one_pos (by unfold maxLen; omega) (by omega) (by show w.heap.size ≤ (wr.heap.push _).size; have := hO.size; simp only [Array.size_push]; omega) _ rfl ?_); (intro g5 cg5 w5 hown5 hgrow5 hat5 hlt5; clear hat5 hlt5; have hO5 : Only (fun _ => False) w w5 := (Only.alloc hO (.cells (tokA ⟨op, qu, te, nn, false, li, co⟩) 34)).then (Only.grown (K := fun i => w.heap.size ≤ i) hgrow5 (fun g hg => (World.ownsRow.lt hR g hg).1)) (fun i hi => .inr hi); have hR5 := TR.snoc (t := ⟨op, qu, te, nn, false, li, co⟩) hown5; clear hown5 hgrow5))
        go_roundw
        case rel => exact ⟨k + 1, by omega, by go_num, by rw [HN.out]; exact hR5, hO5⟩
        case measure => simp [intOf]; omega
      · have HN : Hid (stripL (ts.take (k + 1)) = l) := Lib.hid (by rw [HST.out]; rfl)
        go_wp2
        go_roundw
        case rel => exact ⟨k + 1, by omega, by go_num, by rw [HN.out]; exact hR, hO⟩
        case measure => simp [intOf]; omega
    · have hend : ts.take k = ts := List.take_of_length_le (by rw [HL.out]; omega)
      rw [hend] at hR ⊢
      go_wp2
      go_ret
      exact ⟨⟨_, rfl, hR⟩, hO⟩
end Go.Proofs.Ytkdogaomlocijaa
