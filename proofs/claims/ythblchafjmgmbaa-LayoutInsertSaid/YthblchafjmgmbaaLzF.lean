/-
  WALKS. The reference's machine: seek.
-/
import Derived.Test.YthblchafjmgmbaaLzE
namespace Go.Proofs.Ythblchafjmgmbaa
open Go.RowKit Go.Maps
section
variable {w w' : World} {b : Nat} {vs vo : Value} {m : RM} {li : Int} {fi : Bool} {F : RF}
set_option maxRecDepth 100000 in
set_option maxHeartbeats 8000000 in
theorem rseek_case (h : MS w b vs vo m li fi F) (hk : Sz 1 m) (t : Tok) : Calls Try.prog 56 #[.pointer (some ⟨b, 0, none⟩), tokV t, .string ⟨#[99, 97, 115, 101]⟩] w (ReR w b vs vo li fi F t (rSeek m [99, 97, 115, 101])) := by
  have hb := h.lt
  have hA : Only (fun _ => False) w (w.alloc (.cells (tokA t) 33)) := (Only.refl _ _).alloc _
  have h0 := h.same hA
  have hz := hk.rm.els
  obtain ⟨oa, ca, rfl⟩ := h0.elen
  have c0 := h0.c0
  obtain ⟨n, hn⟩ : ∃ n, m.stack.length = n := ⟨_, rfl⟩
  rw [hn] at c0 hz h h0 ⊢
  have HN := Lib.hid hn
  clear hn
  have hki : m.stack.length + m.out.length + 1 ≤ 1000000000000 := hk
  obtain ⟨pp, hpp⟩ : ∃ p : REl → Bool, rSought [99, 97, 115, 101] = p := ⟨_, rfl⟩
  have HQ : Hid (rSeek m [99, 97, 115, 101] = if decide (lix pp m.stack.reverse < 0) || decide (lix pp m.stack.reverse < rWri m.stack) then none else some (rCut m (lix pp m.stack.reverse - 1))) := Lib.hid (by rw [← hpp]; rfl)
  have HPP := Lib.hid hpp
  clear hpp
  go_enter Try.func56, Try.ntmps56
  go_wp2
  go_loopw [6] (fun i wr => ∃ j : Nat, j ≤ n ∧ i = .int .i64 ((j : Int) - 1) ∧ Hid (lix pp (m.stack.take j).reverse = lix pp m.stack.reverse) ∧ wr = w.alloc (.cells (tokA t) 33)) (fun i _ => (intOf i + 1).toNat)
  case atStart => exact ⟨n, Nat.le_refl _, rfl, Lib.hid (by rw [List.take_of_length_le (by rw [HN.out]; exact Nat.le_refl _)]), rfl⟩
  case round =>
    obtain ⟨j, hj, rfl, HF, rfl⟩ := hrel
    cases j with
    | zero =>
      have HR : Hid (rSeek m [99, 97, 115, 101] = none) := Lib.hid (by rw [HQ.out, ← HF.out]; rfl)
      rw [show ((0 : Nat) : Int) - 1 = -1 from rfl]
      go_wp2_with (go_at_call 17; refine (fails_p h0 t).mono ?_; rintro r w2 ⟨rfl, hS2, hO2⟩)
      refine bodyPost_ret (v := .tuple #[]) (by simp [results, Try.results56, go_sem]) rfl ?_
      exact ⟨rfl, by rw [HR.out]; exact ⟨m, hk.rm.out, hS2.x ((Frm.keep hA).trans (Frm.here hO2 rfl))⟩⟩
    | succ j =>
      have hjl : j < m.stack.length := by rw [HN.out]; omega
      obtain ⟨e, he⟩ : ∃ e, m.stack[j] = e := ⟨_, rfl⟩
      obtain ⟨g', hve, hbg, -, hca, hc, hfz⟩ := (show RR _ (b + 1) (.slice oa n ca) m.stack from h0.els).at hjl
      cases hve
      rw [he] at hc
      have HT : Hid (lix pp m.stack.reverse = if pp e then (j : Int) else lix pp (m.stack.take j).reverse) := Lib.hid (by rw [← HF.out, lix_take _ _ hjl, he])
      rw [show ((j + 1 : Nat) : Int) - 1 = (j : Int) from by omega]
      have hjn : j < n := by omega
      have hjz : (j : Int) - 1 ≤ 1000000000000 := by omega
      have hwj : IntKind.i64.wrap ((j : Int) - 1) = (j : Int) - 1 := IntWalk.i64_in _ (by omega)
      clear he hjl
      have d0 := hc.c0
      have d2 := hc.c2
      obtain ⟨f, hf⟩ : ∃ f, e.form = f := ⟨_, rfl⟩
      rw [hf] at d0
      have HE := Lib.hid hf
      have ht := Lib.toList_data e.word
      clear hf hc hfz
      by_cases h5 : f = 5
      · subst h5
        cases h1 : tx e.word [99, 97, 115, 101]
        · have b1 : (e.word.toList == [99, 97, 115, 101]) = false := by rw [ht]; exact h1
          have HR : Hid (lix pp (m.stack.take j).reverse = lix pp m.stack.reverse) := Lib.hid (by rw [HT.out, if_neg (by rw [← HPP.out]; unfold rSought; simp [HE.out, h1, bLet])])
          clear HT ht
          go_wp2
          go_roundw
          case rel => exact ⟨j, by omega, rfl, HR, by first | trivial | rfl⟩
          case measure => simp [intOf]; try omega
        · have b1 : (e.word.toList == [99, 97, 115, 101]) = true := by rw [ht]; exact h1
          have HL : Hid (lix pp m.stack.reverse = (j : Int)) := Lib.hid (by rw [HT.out, if_pos (by rw [← HPP.out]; unfold rSought; simp [HE.out, h1, bLet])])
          clear HT ht
          obtain ⟨x, hx⟩ : ∃ x, rWri m.stack = x := ⟨_, rfl⟩
          have HX := Lib.hid hx
          by_cases hxj : (j : Int) < x
          · have HR : Hid (rSeek m [99, 97, 115, 101] = none) := Lib.hid (by rw [HQ.out, HL.out, HX.out, if_pos (by simp [hxj])])
            clear hx
            go_wp2_with (first | (go_at_call 52; refine (rwri_p h0 (hk.less (Nat.zero_le 1)).rm).mono ?_; rw [HX.out]; rintro r w1 ⟨rfl, hw1⟩; subst hw1) | (go_at_call 17; refine (fails_p h0 t).mono ?_; rintro r w2 ⟨rfl, hS2, hO2⟩))
            refine bodyPost_ret (v := .tuple #[]) (by simp [results, Try.results56, go_sem]) rfl ?_
            exact ⟨rfl, by rw [HR.out]; exact ⟨m, hk.rm.out, hS2.x ((Frm.keep hA).trans (Frm.here hO2 rfl))⟩⟩
          · have HR : Hid (rSeek m [99, 97, 115, 101] = some (rCut m ((j : Int) - 1))) := Lib.hid (by rw [HQ.out, HL.out, HX.out, if_neg (by simp [hxj]; try omega)])
            have hzm : Rm 1 (rCut m ((j : Int) - 1)) := by
              have := rCut_size m ((j : Int) - 1)
              exact ⟨by omega, by omega⟩
            clear hx
            go_wp2_with (first | (go_at_call 52; refine (rwri_p h0 (hk.less (Nat.zero_le 1)).rm).mono ?_; rw [HX.out]; rintro r w1 ⟨rfl, hw1⟩; subst hw1) | (go_at_call 18; refine (rcut_p h0 hki ((j : Int) - 1) (by omega) hjz).mono ?_; rintro r w3 ⟨rfl, vs3, vo3, hS3, hF3⟩))
            go_end0
            exact ⟨rfl, by rw [HR.out]; exact hS3.x ((Frm.keep hA).trans hF3)⟩
      · have k5 : (f == 5) = false := by simpa using h5
        have HR : Hid (lix pp (m.stack.take j).reverse = lix pp m.stack.reverse) := Lib.hid (by rw [HT.out, if_neg (by rw [← HPP.out]; unfold rSought; simp [HE.out, h5, bLet])])
        clear HT ht
        go_wp2
        go_roundw
        case rel => exact ⟨j, by omega, rfl, HR, by first | trivial | rfl⟩
        case measure => simp [intOf]; try omega
set_option maxRecDepth 100000 in
set_option maxHeartbeats 8000000 in
theorem rseek_if (h : MS w b vs vo m li fi F) (hk : Sz 1 m) (t : Tok) : Calls Try.prog 56 #[.pointer (some ⟨b, 0, none⟩), tokV t, .string ⟨#[105, 102]⟩] w (ReR w b vs vo li fi F t (rSeek m [105, 102])) := by
  have hb := h.lt
  have hA : Only (fun _ => False) w (w.alloc (.cells (tokA t) 33)) := (Only.refl _ _).alloc _
  have h0 := h.same hA
  have hz := hk.rm.els
  obtain ⟨oa, ca, rfl⟩ := h0.elen
  have c0 := h0.c0
  obtain ⟨n, hn⟩ : ∃ n, m.stack.length = n := ⟨_, rfl⟩
  rw [hn] at c0 hz h h0 ⊢
  have HN := Lib.hid hn
  clear hn
  have hki : m.stack.length + m.out.length + 1 ≤ 1000000000000 := hk
  obtain ⟨pp, hpp⟩ : ∃ p : REl → Bool, rSought [105, 102] = p := ⟨_, rfl⟩
  have HQ : Hid (rSeek m [105, 102] = if decide (lix pp m.stack.reverse < 0) || decide (lix pp m.stack.reverse < rWri m.stack) then none else some (rPush (rCut m (lix pp m.stack.reverse - 1)) ⟨5, 0, bThenA, false⟩)) := Lib.hid (by rw [← hpp]; rfl)
  have HPP := Lib.hid hpp
  clear hpp
  go_enter Try.func56, Try.ntmps56
  go_wp2
  go_loopw [6] (fun i wr => ∃ j : Nat, j ≤ n ∧ i = .int .i64 ((j : Int) - 1) ∧ Hid (lix pp (m.stack.take j).reverse = lix pp m.stack.reverse) ∧ wr = w.alloc (.cells (tokA t) 33)) (fun i _ => (intOf i + 1).toNat)
  case atStart => exact ⟨n, Nat.le_refl _, rfl, Lib.hid (by rw [List.take_of_length_le (by rw [HN.out]; exact Nat.le_refl _)]), rfl⟩
  case round =>
    obtain ⟨j, hj, rfl, HF, rfl⟩ := hrel
    cases j with
    | zero =>
      have HR : Hid (rSeek m [105, 102] = none) := Lib.hid (by rw [HQ.out, ← HF.out]; rfl)
      rw [show ((0 : Nat) : Int) - 1 = -1 from rfl]
      go_wp2_with (go_at_call 17; refine (fails_p h0 t).mono ?_; rintro r w2 ⟨rfl, hS2, hO2⟩)
      refine bodyPost_ret (v := .tuple #[]) (by simp [results, Try.results56, go_sem]) rfl ?_
      exact ⟨rfl, by rw [HR.out]; exact ⟨m, hk.rm.out, hS2.x ((Frm.keep hA).trans (Frm.here hO2 rfl))⟩⟩
    | succ j =>
      have hjl : j < m.stack.length := by rw [HN.out]; omega
      obtain ⟨e, he⟩ : ∃ e, m.stack[j] = e := ⟨_, rfl⟩
      obtain ⟨g', hve, hbg, -, hca, hc, hfz⟩ := (show RR _ (b + 1) (.slice oa n ca) m.stack from h0.els).at hjl
      cases hve
      rw [he] at hc
      have HT : Hid (lix pp m.stack.reverse = if pp e then (j : Int) else lix pp (m.stack.take j).reverse) := Lib.hid (by rw [← HF.out, lix_take _ _ hjl, he])
      rw [show ((j + 1 : Nat) : Int) - 1 = (j : Int) from by omega]
      have hjn : j < n := by omega
      have hjz : (j : Int) - 1 ≤ 1000000000000 := by omega
      have hwj : IntKind.i64.wrap ((j : Int) - 1) = (j : Int) - 1 := IntWalk.i64_in _ (by omega)
      clear he hjl
      have d0 := hc.c0
      have d2 := hc.c2
      obtain ⟨f, hf⟩ : ∃ f, e.form = f := ⟨_, rfl⟩
      rw [hf] at d0
      have HE := Lib.hid hf
      have ht := Lib.toList_data e.word
      clear hf hc hfz
      by_cases h5 : f = 5
      · subst h5
        cases h1 : tx e.word [105, 102]
        · have b1 : (e.word.toList == [105, 102]) = false := by rw [ht]; exact h1
          have HR : Hid (lix pp (m.stack.take j).reverse = lix pp m.stack.reverse) := Lib.hid (by rw [HT.out, if_neg (by rw [← HPP.out]; unfold rSought; simp [HE.out, h1, bLet])])
          clear HT ht
          go_wp2
          go_roundw
          case rel => exact ⟨j, by omega, rfl, HR, by first | trivial | rfl⟩
          case measure => simp [intOf]; try omega
        · have b1 : (e.word.toList == [105, 102]) = true := by rw [ht]; exact h1
          have HL : Hid (lix pp m.stack.reverse = (j : Int)) := Lib.hid (by rw [HT.out, if_pos (by rw [← HPP.out]; unfold rSought; simp [HE.out, h1, bLet])])
          clear HT ht
          obtain ⟨x, hx⟩ : ∃ x, rWri m.stack = x := ⟨_, rfl⟩
          have HX := Lib.hid hx
          by_cases hxj : (j : Int) < x
          · have HR : Hid (rSeek m [105, 102] = none) := Lib.hid (by rw [HQ.out, HL.out, HX.out, if_pos (by simp [hxj])])
            clear hx
            go_wp2_with (first | (go_at_call 52; refine (rwri_p h0 (hk.less (Nat.zero_le 1)).rm).mono ?_; rw [HX.out]; rintro r w1 ⟨rfl, hw1⟩; subst hw1) | (go_at_call 17; refine (fails_p h0 t).mono ?_; rintro r w2 ⟨rfl, hS2, hO2⟩))
            refine bodyPost_ret (v := .tuple #[]) (by simp [results, Try.results56, go_sem]) rfl ?_
            exact ⟨rfl, by rw [HR.out]; exact ⟨m, hk.rm.out, hS2.x ((Frm.keep hA).trans (Frm.here hO2 rfl))⟩⟩
          · have HR : Hid (rSeek m [105, 102] = some (rPush (rCut m ((j : Int) - 1)) ⟨5, 0, bThenA, false⟩)) := Lib.hid (by rw [HQ.out, HL.out, HX.out, if_neg (by simp [hxj]; try omega)])
            have hzm : Rm 1 (rCut m ((j : Int) - 1)) := by
              have := rCut_size m ((j : Int) - 1)
              exact ⟨by omega, by omega⟩
            clear hx
            go_wp2_with (first | (go_at_call 52; refine (rwri_p h0 (hk.less (Nat.zero_le 1)).rm).mono ?_; rw [HX.out]; rintro r w1 ⟨rfl, hw1⟩; subst hw1) | (go_at_call 18; refine (rcut_p h0 hki ((j : Int) - 1) (by omega) hjz).mono ?_; rintro r w3 ⟨rfl, vs3, vo3, hS3, hF3⟩) | (go_at_call 50; refine (rpush_p hS3 hzm ⟨5, 0, bThenA, false⟩).mono ?_; rintro r w4 ⟨rfl, vs4, hS4, hF4⟩))
            go_end0
            exact ⟨rfl, by rw [HR.out]; exact hS4.x (((Frm.keep hA).trans hF3).trans hF4)⟩
      · have k5 : (f == 5) = false := by simpa using h5
        have HR : Hid (lix pp (m.stack.take j).reverse = lix pp m.stack.reverse) := Lib.hid (by rw [HT.out, if_neg (by rw [← HPP.out]; unfold rSought; simp [HE.out, h5, bLet])])
        clear HT ht
        go_wp2
        go_roundw
        case rel => exact ⟨j, by omega, rfl, HR, by first | trivial | rfl⟩
        case measure => simp [intOf]; try omega
set_option maxRecDepth 100000 in
set_option maxHeartbeats 8000000 in
theorem rseek_then (h : MS w b vs vo m li fi F) (hk : Sz 1 m) (t : Tok) : Calls Try.prog 56 #[.pointer (some ⟨b, 0, none⟩), tokV t, .string ⟨#[116, 104, 101, 110]⟩] w (ReR w b vs vo li fi F t (rSeek m [116, 104, 101, 110])) := by
  have hb := h.lt
  have hA : Only (fun _ => False) w (w.alloc (.cells (tokA t) 33)) := (Only.refl _ _).alloc _
  have h0 := h.same hA
  have hz := hk.rm.els
  obtain ⟨oa, ca, rfl⟩ := h0.elen
  have c0 := h0.c0
  obtain ⟨n, hn⟩ : ∃ n, m.stack.length = n := ⟨_, rfl⟩
  rw [hn] at c0 hz h h0 ⊢
  have HN := Lib.hid hn
  clear hn
  have hki : m.stack.length + m.out.length + 1 ≤ 1000000000000 := hk
  obtain ⟨pp, hpp⟩ : ∃ p : REl → Bool, rSought [116, 104, 101, 110] = p := ⟨_, rfl⟩
  have HQ : Hid (rSeek m [116, 104, 101, 110] = if decide (lix pp m.stack.reverse < 0) || decide (lix pp m.stack.reverse < rWri m.stack) then none else some (rCut m (lix pp m.stack.reverse - 1))) := Lib.hid (by rw [← hpp]; rfl)
  have HPP := Lib.hid hpp
  clear hpp
  go_enter Try.func56, Try.ntmps56
  go_wp2
  go_loopw [6] (fun i wr => ∃ j : Nat, j ≤ n ∧ i = .int .i64 ((j : Int) - 1) ∧ Hid (lix pp (m.stack.take j).reverse = lix pp m.stack.reverse) ∧ wr = w.alloc (.cells (tokA t) 33)) (fun i _ => (intOf i + 1).toNat)
  case atStart => exact ⟨n, Nat.le_refl _, rfl, Lib.hid (by rw [List.take_of_length_le (by rw [HN.out]; exact Nat.le_refl _)]), rfl⟩
  case round =>
    obtain ⟨j, hj, rfl, HF, rfl⟩ := hrel
    cases j with
    | zero =>
      have HR : Hid (rSeek m [116, 104, 101, 110] = none) := Lib.hid (by rw [HQ.out, ← HF.out]; rfl)
      rw [show ((0 : Nat) : Int) - 1 = -1 from rfl]
      go_wp2_with (go_at_call 17; refine (fails_p h0 t).mono ?_; rintro r w2 ⟨rfl, hS2, hO2⟩)
      refine bodyPost_ret (v := .tuple #[]) (by simp [results, Try.results56, go_sem]) rfl ?_
      exact ⟨rfl, by rw [HR.out]; exact ⟨m, hk.rm.out, hS2.x ((Frm.keep hA).trans (Frm.here hO2 rfl))⟩⟩
    | succ j =>
      have hjl : j < m.stack.length := by rw [HN.out]; omega
      obtain ⟨e, he⟩ : ∃ e, m.stack[j] = e := ⟨_, rfl⟩
      obtain ⟨g', hve, hbg, -, hca, hc, hfz⟩ := (show RR _ (b + 1) (.slice oa n ca) m.stack from h0.els).at hjl
      cases hve
      rw [he] at hc
      have HT : Hid (lix pp m.stack.reverse = if pp e then (j : Int) else lix pp (m.stack.take j).reverse) := Lib.hid (by rw [← HF.out, lix_take _ _ hjl, he])
      rw [show ((j + 1 : Nat) : Int) - 1 = (j : Int) from by omega]
      have hjn : j < n := by omega
      have hjz : (j : Int) - 1 ≤ 1000000000000 := by omega
      have hwj : IntKind.i64.wrap ((j : Int) - 1) = (j : Int) - 1 := IntWalk.i64_in _ (by omega)
      clear he hjl
      have d0 := hc.c0
      have d2 := hc.c2
      obtain ⟨f, hf⟩ : ∃ f, e.form = f := ⟨_, rfl⟩
      rw [hf] at d0
      have HE := Lib.hid hf
      have ht := Lib.toList_data e.word
      clear hf hc hfz
      by_cases h5 : f = 5
      · subst h5
        cases h1 : tx e.word [116, 104, 101, 110]
        · have b1 : (e.word.toList == [116, 104, 101, 110]) = false := by rw [ht]; exact h1
          have HR : Hid (lix pp (m.stack.take j).reverse = lix pp m.stack.reverse) := Lib.hid (by rw [HT.out, if_neg (by rw [← HPP.out]; unfold rSought; simp [HE.out, h1, bLet])])
          clear HT ht
          go_wp2
          go_roundw
          case rel => exact ⟨j, by omega, rfl, HR, by first | trivial | rfl⟩
          case measure => simp [intOf]; try omega
        · have b1 : (e.word.toList == [116, 104, 101, 110]) = true := by rw [ht]; exact h1
          have HL : Hid (lix pp m.stack.reverse = (j : Int)) := Lib.hid (by rw [HT.out, if_pos (by rw [← HPP.out]; unfold rSought; simp [HE.out, h1, bLet])])
          clear HT ht
          obtain ⟨x, hx⟩ : ∃ x, rWri m.stack = x := ⟨_, rfl⟩
          have HX := Lib.hid hx
          by_cases hxj : (j : Int) < x
          · have HR : Hid (rSeek m [116, 104, 101, 110] = none) := Lib.hid (by rw [HQ.out, HL.out, HX.out, if_pos (by simp [hxj])])
            clear hx
            go_wp2_with (first | (go_at_call 52; refine (rwri_p h0 (hk.less (Nat.zero_le 1)).rm).mono ?_; rw [HX.out]; rintro r w1 ⟨rfl, hw1⟩; subst hw1) | (go_at_call 17; refine (fails_p h0 t).mono ?_; rintro r w2 ⟨rfl, hS2, hO2⟩))
            refine bodyPost_ret (v := .tuple #[]) (by simp [results, Try.results56, go_sem]) rfl ?_
            exact ⟨rfl, by rw [HR.out]; exact ⟨m, hk.rm.out, hS2.x ((Frm.keep hA).trans (Frm.here hO2 rfl))⟩⟩
          · have HR : Hid (rSeek m [116, 104, 101, 110] = some (rCut m ((j : Int) - 1))) := Lib.hid (by rw [HQ.out, HL.out, HX.out, if_neg (by simp [hxj]; try omega)])
            have hzm : Rm 1 (rCut m ((j : Int) - 1)) := by
              have := rCut_size m ((j : Int) - 1)
              exact ⟨by omega, by omega⟩
            clear hx
            go_wp2_with (first | (go_at_call 52; refine (rwri_p h0 (hk.less (Nat.zero_le 1)).rm).mono ?_; rw [HX.out]; rintro r w1 ⟨rfl, hw1⟩; subst hw1) | (go_at_call 18; refine (rcut_p h0 hki ((j : Int) - 1) (by omega) hjz).mono ?_; rintro r w3 ⟨rfl, vs3, vo3, hS3, hF3⟩))
            go_end0
            exact ⟨rfl, by rw [HR.out]; exact hS3.x ((Frm.keep hA).trans hF3)⟩
      · have k5 : (f == 5) = false := by simpa using h5
        have HR : Hid (lix pp (m.stack.take j).reverse = lix pp m.stack.reverse) := Lib.hid (by rw [HT.out, if_neg (by rw [← HPP.out]; unfold rSought; simp [HE.out, h5, bLet])])
        clear HT ht
        go_wp2
        go_roundw
        case rel => exact ⟨j, by omega, rfl, HR, by first | trivial | rfl⟩
        case measure => simp [intOf]; try omega
set_option maxRecDepth 100000 in
set_option maxHeartbeats 8000000 in
theorem rseek_let (h : MS w b vs vo m li fi F) (hk : Sz 1 m) (t : Tok) : Calls Try.prog 56 #[.pointer (some ⟨b, 0, none⟩), tokV t, .string ⟨#[108, 101, 116]⟩] w (ReR w b vs vo li fi F t (rSeek m [108, 101, 116])) := by
  have hb := h.lt
  have hA : Only (fun _ => False) w (w.alloc (.cells (tokA t) 33)) := (Only.refl _ _).alloc _
  have h0 := h.same hA
  have hz := hk.rm.els
  obtain ⟨oa, ca, rfl⟩ := h0.elen
  have c0 := h0.c0
  obtain ⟨n, hn⟩ : ∃ n, m.stack.length = n := ⟨_, rfl⟩
  rw [hn] at c0 hz h h0 ⊢
  have HN := Lib.hid hn
  clear hn
  have hki : m.stack.length + m.out.length + 1 ≤ 1000000000000 := hk
  obtain ⟨pp, hpp⟩ : ∃ p : REl → Bool, rSought [108, 101, 116] = p := ⟨_, rfl⟩
  have HQ : Hid (rSeek m [108, 101, 116] = if decide (lix pp m.stack.reverse < 0) || decide (lix pp m.stack.reverse < rWri m.stack) then none else some (rCut m (lix pp m.stack.reverse - 1))) := Lib.hid (by rw [← hpp]; rfl)
  have HPP := Lib.hid hpp
  clear hpp
  go_enter Try.func56, Try.ntmps56
  go_wp2
  go_loopw [6] (fun i wr => ∃ j : Nat, j ≤ n ∧ i = .int .i64 ((j : Int) - 1) ∧ Hid (lix pp (m.stack.take j).reverse = lix pp m.stack.reverse) ∧ wr = w.alloc (.cells (tokA t) 33)) (fun i _ => (intOf i + 1).toNat)
  case atStart => exact ⟨n, Nat.le_refl _, rfl, Lib.hid (by rw [List.take_of_length_le (by rw [HN.out]; exact Nat.le_refl _)]), rfl⟩
  case round =>
    obtain ⟨j, hj, rfl, HF, rfl⟩ := hrel
    cases j with
    | zero =>
      have HR : Hid (rSeek m [108, 101, 116] = none) := Lib.hid (by rw [HQ.out, ← HF.out]; rfl)
      rw [show ((0 : Nat) : Int) - 1 = -1 from rfl]
      go_wp2_with (go_at_call 17; refine (fails_p h0 t).mono ?_; rintro r w2 ⟨rfl, hS2, hO2⟩)
      refine bodyPost_ret (v := .tuple #[]) (by simp [results, Try.results56, go_sem]) rfl ?_
      exact ⟨rfl, by rw [HR.out]; exact ⟨m, hk.rm.out, hS2.x ((Frm.keep hA).trans (Frm.here hO2 rfl))⟩⟩
    | succ j =>
      have hjl : j < m.stack.length := by rw [HN.out]; omega
      obtain ⟨e, he⟩ : ∃ e, m.stack[j] = e := ⟨_, rfl⟩
      obtain ⟨g', hve, hbg, -, hca, hc, hfz⟩ := (show RR _ (b + 1) (.slice oa n ca) m.stack from h0.els).at hjl
      cases hve
      rw [he] at hc
      have HT : Hid (lix pp m.stack.reverse = if pp e then (j : Int) else lix pp (m.stack.take j).reverse) := Lib.hid (by rw [← HF.out, lix_take _ _ hjl, he])
      rw [show ((j + 1 : Nat) : Int) - 1 = (j : Int) from by omega]
      have hjn : j < n := by omega
      have hjz : (j : Int) - 1 ≤ 1000000000000 := by omega
      have hwj : IntKind.i64.wrap ((j : Int) - 1) = (j : Int) - 1 := IntWalk.i64_in _ (by omega)
      clear he hjl
      have d0 := hc.c0
      have d2 := hc.c2
      obtain ⟨f, hf⟩ : ∃ f, e.form = f := ⟨_, rfl⟩
      rw [hf] at d0
      have HE := Lib.hid hf
      have ht := Lib.toList_data e.word
      clear hf hc hfz
      by_cases h5 : f = 5
      · subst h5
        cases h1 : tx e.word [108, 101, 116]
        · have b1 : (e.word.toList == [108, 101, 116]) = false := by rw [ht]; exact h1
          have HR : Hid (lix pp (m.stack.take j).reverse = lix pp m.stack.reverse) := Lib.hid (by rw [HT.out, if_neg (by rw [← HPP.out]; unfold rSought; simp [HE.out, h1, bLet])])
          clear HT ht
          go_wp2
          go_roundw
          case rel => exact ⟨j, by omega, rfl, HR, by first | trivial | rfl⟩
          case measure => simp [intOf]; try omega
        · have b1 : (e.word.toList == [108, 101, 116]) = true := by rw [ht]; exact h1
          have HL : Hid (lix pp m.stack.reverse = (j : Int)) := Lib.hid (by rw [HT.out, if_pos (by rw [← HPP.out]; unfold rSought; simp [HE.out, h1, bLet])])
          clear HT ht
          obtain ⟨x, hx⟩ : ∃ x, rWri m.stack = x := ⟨_, rfl⟩
          have HX := Lib.hid hx
          by_cases hxj : (j : Int) < x
          · have HR : Hid (rSeek m [108, 101, 116] = none) := Lib.hid (by rw [HQ.out, HL.out, HX.out, if_pos (by simp [hxj])])
            clear hx
            go_wp2_with (first | (go_at_call 52; refine (rwri_p h0 (hk.less (Nat.zero_le 1)).rm).mono ?_; rw [HX.out]; rintro r w1 ⟨rfl, hw1⟩; subst hw1) | (go_at_call 17; refine (fails_p h0 t).mono ?_; rintro r w2 ⟨rfl, hS2, hO2⟩))
            refine bodyPost_ret (v := .tuple #[]) (by simp [results, Try.results56, go_sem]) rfl ?_
            exact ⟨rfl, by rw [HR.out]; exact ⟨m, hk.rm.out, hS2.x ((Frm.keep hA).trans (Frm.here hO2 rfl))⟩⟩
          · have HR : Hid (rSeek m [108, 101, 116] = some (rCut m ((j : Int) - 1))) := Lib.hid (by rw [HQ.out, HL.out, HX.out, if_neg (by simp [hxj]; try omega)])
            have hzm : Rm 1 (rCut m ((j : Int) - 1)) := by
              have := rCut_size m ((j : Int) - 1)
              exact ⟨by omega, by omega⟩
            clear hx
            go_wp2_with (first | (go_at_call 52; refine (rwri_p h0 (hk.less (Nat.zero_le 1)).rm).mono ?_; rw [HX.out]; rintro r w1 ⟨rfl, hw1⟩; subst hw1) | (go_at_call 18; refine (rcut_p h0 hki ((j : Int) - 1) (by omega) hjz).mono ?_; rintro r w3 ⟨rfl, vs3, vo3, hS3, hF3⟩))
            go_end0
            exact ⟨rfl, by rw [HR.out]; exact hS3.x ((Frm.keep hA).trans hF3)⟩
      · have k5 : (f == 5) = false := by simpa using h5
        by_cases h6 : f = 1
        · subst h6
          cases h1 : tx e.word [108, 101, 116]
          · have b1 : (e.word.toList == [108, 101, 116]) = false := by rw [ht]; exact h1
            have HR : Hid (lix pp (m.stack.take j).reverse = lix pp m.stack.reverse) := Lib.hid (by rw [HT.out, if_neg (by rw [← HPP.out]; unfold rSought; simp [HE.out, h1, bLet])])
            clear HT ht
            go_wp2
            go_roundw
            case rel => exact ⟨j, by omega, rfl, HR, by first | trivial | rfl⟩
            case measure => simp [intOf]; try omega
          · have b1 : (e.word.toList == [108, 101, 116]) = true := by rw [ht]; exact h1
            have HL : Hid (lix pp m.stack.reverse = (j : Int)) := Lib.hid (by rw [HT.out, if_pos (by rw [← HPP.out]; unfold rSought; simp [HE.out, h1, bLet])])
            clear HT ht
            obtain ⟨x, hx⟩ : ∃ x, rWri m.stack = x := ⟨_, rfl⟩
            have HX := Lib.hid hx
            by_cases hxj : (j : Int) < x
            · have HR : Hid (rSeek m [108, 101, 116] = none) := Lib.hid (by rw [HQ.out, HL.out, HX.out, if_pos (by simp [hxj])])
              clear hx
              go_wp2_with (first | (go_at_call 52; refine (rwri_p h0 (hk.less (Nat.zero_le 1)).rm).mono ?_; rw [HX.out]; rintro r w1 ⟨rfl, hw1⟩; subst hw1) | (go_at_call 17; refine (fails_p h0 t).mono ?_; rintro r w2 ⟨rfl, hS2, hO2⟩))
              refine bodyPost_ret (v := .tuple #[]) (by simp [results, Try.results56, go_sem]) rfl ?_
              exact ⟨rfl, by rw [HR.out]; exact ⟨m, hk.rm.out, hS2.x ((Frm.keep hA).trans (Frm.here hO2 rfl))⟩⟩
            · have HR : Hid (rSeek m [108, 101, 116] = some (rCut m ((j : Int) - 1))) := Lib.hid (by rw [HQ.out, HL.out, HX.out, if_neg (by simp [hxj]; try omega)])
              have hzm : Rm 1 (rCut m ((j : Int) - 1)) := by
                have := rCut_size m ((j : Int) - 1)
                exact ⟨by omega, by omega⟩
              clear hx
              go_wp2_with (first | (go_at_call 52; refine (rwri_p h0 (hk.less (Nat.zero_le 1)).rm).mono ?_; rw [HX.out]; rintro r w1 ⟨rfl, hw1⟩; subst hw1) | (go_at_call 18; refine (rcut_p h0 hki ((j : Int) - 1) (by omega) hjz).mono ?_; rintro r w3 ⟨rfl, vs3, vo3, hS3, hF3⟩))
              go_end0
              exact ⟨rfl, by rw [HR.out]; exact hS3.x ((Frm.keep hA).trans hF3)⟩
        · have k6 : (f == 1) = false := by simpa using h6
          have HR : Hid (lix pp (m.stack.take j).reverse = lix pp m.stack.reverse) := Lib.hid (by rw [HT.out, if_neg (by rw [← HPP.out]; unfold rSought; simp [HE.out, h5, h6, bLet])])
          clear HT ht
          go_wp2
          go_roundw
          case rel => exact ⟨j, by omega, rfl, HR, by first | trivial | rfl⟩
          case measure => simp [intOf]; try omega
end
end Go.Proofs.Ythblchafjmgmbaa
