/-
  WALKS. The reference's machine: block, context, written.
-/
import Derived.Test.YthblchafjmgmbaaLzA
namespace Go.Proofs.Ythblchafjmgmbaa
open Go.RowKit Go.Maps
theorem lix_take (p : REl → Bool) (l : List REl) {j : Nat} (hj : j < l.length) : lix p (l.take (j + 1)).reverse = if p l[j] then (j : Int) else lix p (l.take j).reverse := by
  rw [List.take_succ_eq_append_getElem hj, List.reverse_append]
  show (if p l[j] then (((l.take j).reverse.length : Nat) : Int) else lix p (l.take j).reverse) = _
  have : (l.take j).reverse.length = j := by rw [List.length_reverse, List.length_take]; omega
  rw [this]
section
variable {w : World} {b : Nat} {vs vo : Value} {m : RM} {li : Int} {fi : Bool} {F : RF}
set_option maxRecDepth 100000 in
set_option maxHeartbeats 4000000 in
theorem rblock_p (h : MS w b vs vo m li fi F) (hk : Rm 0 m) : Calls Try.prog 49 #[.pointer (some ⟨b, 0, none⟩)] w fun r w' => r = .returned (.int .i64 (rBlk m.stack)) ∧ w' = w := by
  have hz := hk.els
  obtain ⟨oa, ca, rfl⟩ := h.elen
  have c0 := h.c0
  obtain ⟨n, hn⟩ : ∃ n, m.stack.length = n := ⟨_, rfl⟩
  rw [hn] at c0 hz h
  have HN := Lib.hid hn
  clear hn
  obtain ⟨pp, hpp⟩ : ∃ p : REl → Bool, (fun e => (e.form == 1) || (e.form == 2)) = p := ⟨_, rfl⟩
  have HQ : Hid (rBlk m.stack = lix pp m.stack.reverse) := Lib.hid (by rw [← hpp]; rfl)
  have HPP := Lib.hid hpp
  clear hpp
  go_enter Try.func49, Try.ntmps49
  go_wp2
  go_loopw [3] (fun i wr => ∃ j : Nat, j ≤ n ∧ i = .int .i64 ((j : Int) - 1) ∧ Hid (lix pp (m.stack.take j).reverse = lix pp m.stack.reverse) ∧ wr = w) (fun i _ => (intOf i + 1).toNat)
  case atStart => exact ⟨n, Nat.le_refl _, rfl, Lib.hid (by rw [List.take_of_length_le (by rw [HN.out]; exact Nat.le_refl _)]), rfl⟩
  case round =>
    obtain ⟨j, hj, rfl, HF, rfl⟩ := hrel
    cases j with
    | zero =>
      have HR : Hid (rBlk m.stack = -1) := Lib.hid (by rw [HQ.out, ← HF.out]; rfl)
      rw [show ((0 : Nat) : Int) - 1 = -1 from rfl]
      go_wp2
      go_ret
      exact ⟨ret_int HR.out.symm, rfl⟩
    | succ j =>
      have hjl : j < m.stack.length := by rw [HN.out]; omega
      obtain ⟨e, he⟩ : ∃ e, m.stack[j] = e := ⟨_, rfl⟩
      obtain ⟨g', hve, hbg, -, hca, hc, hfz⟩ := h.els.at hjl
      cases hve
      rw [he] at hc
      have HT : Hid (lix pp m.stack.reverse = if pp e then (j : Int) else lix pp (m.stack.take j).reverse) := Lib.hid (by rw [← HF.out, lix_take _ _ hjl, he])
      rw [show ((j + 1 : Nat) : Int) - 1 = (j : Int) from by omega]
      have hjn : j < n := by omega
      clear he hjl
      have d0 := hc.c0
      obtain ⟨f, hf⟩ : ∃ f, e.form = f := ⟨_, rfl⟩
      rw [hf] at d0
      have HE := Lib.hid hf
      clear hf hc hfz
      by_cases h1 : f = 1
      · subst h1
        have HR : Hid (rBlk m.stack = (j : Int)) := Lib.hid (by rw [HQ.out, HT.out, if_pos (by rw [← HPP.out]; simp [HE.out])])
        clear HT
        go_wp2
        go_ret
        exact ⟨ret_int HR.out.symm, rfl⟩
      · have k1 : (f != 1) = true := by simpa using h1
        by_cases h2 : f = 2
        · subst h2
          have HR : Hid (rBlk m.stack = (j : Int)) := Lib.hid (by rw [HQ.out, HT.out, if_pos (by rw [← HPP.out]; simp [HE.out])])
          clear HT
          go_wp2
          go_ret
          exact ⟨ret_int HR.out.symm, rfl⟩
        · have k2 : (f != 2) = true := by simpa using h2
          have HR : Hid (lix pp (m.stack.take j).reverse = lix pp m.stack.reverse) := Lib.hid (by rw [HT.out, if_neg (by rw [← HPP.out]; simp [HE.out, h1, h2])])
          clear HT
          go_wp2
          go_roundw
          case rel => exact ⟨j, by omega, rfl, HR, by trivial⟩
          case measure => simp [intOf]; try omega
set_option maxRecDepth 100000 in
set_option maxHeartbeats 4000000 in
theorem rctx_p (h : MS w b vs vo m li fi F) (hk : Rm 0 m) : Calls Try.prog 53 #[.pointer (some ⟨b, 0, none⟩)] w fun r w' => r = .returned (.int .i64 (rCtx m.stack)) ∧ w' = w := by
  have hz := hk.els
  obtain ⟨oa, ca, rfl⟩ := h.elen
  have c0 := h.c0
  obtain ⟨n, hn⟩ : ∃ n, m.stack.length = n := ⟨_, rfl⟩
  rw [hn] at c0 hz h
  have HN := Lib.hid hn
  clear hn
  obtain ⟨pp, hpp⟩ : ∃ p : REl → Bool, (fun e => !(e.form == 5)) = p := ⟨_, rfl⟩
  have HQ : Hid (rCtx m.stack = lix pp m.stack.reverse) := Lib.hid (by rw [← hpp]; rfl)
  have HPP := Lib.hid hpp
  clear hpp
  go_enter Try.func53, Try.ntmps53
  go_wp2
  go_loopw [3] (fun i wr => ∃ j : Nat, j ≤ n ∧ i = .int .i64 ((j : Int) - 1) ∧ Hid (lix pp (m.stack.take j).reverse = lix pp m.stack.reverse) ∧ wr = w) (fun i _ => (intOf i + 1).toNat)
  case atStart => exact ⟨n, Nat.le_refl _, rfl, Lib.hid (by rw [List.take_of_length_le (by rw [HN.out]; exact Nat.le_refl _)]), rfl⟩
  case round =>
    obtain ⟨j, hj, rfl, HF, rfl⟩ := hrel
    cases j with
    | zero =>
      have HR : Hid (rCtx m.stack = -1) := Lib.hid (by rw [HQ.out, ← HF.out]; rfl)
      rw [show ((0 : Nat) : Int) - 1 = -1 from rfl]
      go_wp2
      go_ret
      exact ⟨ret_int HR.out.symm, rfl⟩
    | succ j =>
      have hjl : j < m.stack.length := by rw [HN.out]; omega
      obtain ⟨e, he⟩ : ∃ e, m.stack[j] = e := ⟨_, rfl⟩
      obtain ⟨g', hve, hbg, -, hca, hc, hfz⟩ := h.els.at hjl
      cases hve
      rw [he] at hc
      have HT : Hid (lix pp m.stack.reverse = if pp e then (j : Int) else lix pp (m.stack.take j).reverse) := Lib.hid (by rw [← HF.out, lix_take _ _ hjl, he])
      rw [show ((j + 1 : Nat) : Int) - 1 = (j : Int) from by omega]
      have hjn : j < n := by omega
      clear he hjl
      have d0 := hc.c0
      obtain ⟨f, hf⟩ : ∃ f, e.form = f := ⟨_, rfl⟩
      rw [hf] at d0
      have HE := Lib.hid hf
      clear hf hc hfz
      by_cases h5 : f = 5
      · subst h5
        have HR : Hid (lix pp (m.stack.take j).reverse = lix pp m.stack.reverse) := Lib.hid (by rw [HT.out, if_neg (by rw [← HPP.out]; simp [HE.out])])
        clear HT
        go_wp2
        go_roundw
        case rel => exact ⟨j, by omega, rfl, HR, by trivial⟩
        case measure => simp [intOf]; try omega
      · have k5 : (f == 5) = false := by simpa using h5
        have HR : Hid (rCtx m.stack = (j : Int)) := Lib.hid (by rw [HQ.out, HT.out, if_pos (by rw [← HPP.out]; simp [HE.out, h5])])
        clear HT
        go_wp2
        go_ret
        exact ⟨ret_int HR.out.symm, rfl⟩
set_option maxRecDepth 100000 in
set_option maxHeartbeats 4000000 in
theorem rwri_p (h : MS w b vs vo m li fi F) (hk : Rm 0 m) : Calls Try.prog 52 #[.pointer (some ⟨b, 0, none⟩)] w fun r w' => r = .returned (.int .i64 (rWri m.stack)) ∧ w' = w := by
  have hz := hk.els
  obtain ⟨oa, ca, rfl⟩ := h.elen
  have c0 := h.c0
  obtain ⟨n, hn⟩ : ∃ n, m.stack.length = n := ⟨_, rfl⟩
  rw [hn] at c0 hz h
  have HN := Lib.hid hn
  clear hn
  obtain ⟨pp, hpp⟩ : ∃ p : REl → Bool, (fun e => !((e.form == 5) || (e.form == 1))) = p := ⟨_, rfl⟩
  have HQ : Hid (rWri m.stack = lix pp m.stack.reverse) := Lib.hid (by rw [← hpp]; rfl)
  have HPP := Lib.hid hpp
  clear hpp
  go_enter Try.func52, Try.ntmps52
  go_wp2
  go_loopw [3] (fun i wr => ∃ j : Nat, j ≤ n ∧ i = .int .i64 ((j : Int) - 1) ∧ Hid (lix pp (m.stack.take j).reverse = lix pp m.stack.reverse) ∧ wr = w) (fun i _ => (intOf i + 1).toNat)
  case atStart => exact ⟨n, Nat.le_refl _, rfl, Lib.hid (by rw [List.take_of_length_le (by rw [HN.out]; exact Nat.le_refl _)]), rfl⟩
  case round =>
    obtain ⟨j, hj, rfl, HF, rfl⟩ := hrel
    cases j with
    | zero =>
      have HR : Hid (rWri m.stack = -1) := Lib.hid (by rw [HQ.out, ← HF.out]; rfl)
      rw [show ((0 : Nat) : Int) - 1 = -1 from rfl]
      go_wp2
      go_ret
      exact ⟨ret_int HR.out.symm, rfl⟩
    | succ j =>
      have hjl : j < m.stack.length := by rw [HN.out]; omega
      obtain ⟨e, he⟩ : ∃ e, m.stack[j] = e := ⟨_, rfl⟩
      obtain ⟨g', hve, hbg, -, hca, hc, hfz⟩ := h.els.at hjl
      cases hve
      rw [he] at hc
      have HT : Hid (lix pp m.stack.reverse = if pp e then (j : Int) else lix pp (m.stack.take j).reverse) := Lib.hid (by rw [← HF.out, lix_take _ _ hjl, he])
      rw [show ((j + 1 : Nat) : Int) - 1 = (j : Int) from by omega]
      have hjn : j < n := by omega
      clear he hjl
      have d0 := hc.c0
      obtain ⟨f, hf⟩ : ∃ f, e.form = f := ⟨_, rfl⟩
      rw [hf] at d0
      have HE := Lib.hid hf
      clear hf hc hfz
      by_cases h5 : f = 5
      · subst h5
        have HR : Hid (lix pp (m.stack.take j).reverse = lix pp m.stack.reverse) := Lib.hid (by rw [HT.out, if_neg (by rw [← HPP.out]; simp [HE.out])])
        clear HT
        go_wp2
        go_roundw
        case rel => exact ⟨j, by omega, rfl, HR, by trivial⟩
        case measure => simp [intOf]; try omega
      · have k5 : (f == 5) = false := by simpa using h5
        by_cases h1 : f = 1
        · subst h1
          have HR : Hid (lix pp (m.stack.take j).reverse = lix pp m.stack.reverse) := Lib.hid (by rw [HT.out, if_neg (by rw [← HPP.out]; simp [HE.out])])
          clear HT
          go_wp2
          go_roundw
          case rel => exact ⟨j, by omega, rfl, HR, by trivial⟩
          case measure => simp [intOf]; try omega
        · have k1 : (f == 1) = false := by simpa using h1
          have HR : Hid (rWri m.stack = (j : Int)) := Lib.hid (by rw [HQ.out, HT.out, if_pos (by rw [← HPP.out]; simp [HE.out, h5, h1])])
          clear HT
          go_wp2
          go_ret
          exact ⟨ret_int HR.out.symm, rfl⟩
end
end Go.Proofs.Ythblchafjmgmbaa
