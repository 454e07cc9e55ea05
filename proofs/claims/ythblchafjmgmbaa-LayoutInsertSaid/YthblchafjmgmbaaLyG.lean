/-
  WALKS. The stack: find, for the closures that it is called with.
-/
import Derived.Test.YthblchafjmgmbaaLyF
namespace Go.Proofs.Ythblchafjmgmbaa
open Go.RowKit Go.Maps
/-- Where the topmost wanted element is, or -1. -/
def fnd (p : El → Bool) (l : List El) : Int := match findR p l.reverse with | none => -1 | some n => (n : Int)
theorem find_take (p : El → Bool) (l : List El) {j : Nat} (hj : j < l.length) : findR p (l.take (j + 1)).reverse = if p l[j] then some j else if isWri l[j].kind then none else findR p (l.take j).reverse := by
  rw [List.take_succ_eq_append_getElem hj, List.reverse_append]
  show findR p (l[j] :: (l.take j).reverse) = _
  unfold findR
  have : (l.take j).reverse.length = j := by rw [List.length_reverse, List.length_take]; omega
  rw [this]
  split
  · rfl
  · split
    · rfl
    · cases (l.take j).reverse <;> rfl
section
variable {w : World} {b : Nat} {ve vo : Value} {s : St}
set_option maxRecDepth 100000 in
set_option maxHeartbeats 4000000 in
theorem find_isOf (h : IS w b ve vo s) {k : Nat} (hk : Ok k s) {g : Nat} {kk : Int} (hx : Bx w g kk) : Calls Try.prog 66 #[.pointer (some ⟨b, 0, none⟩), isOfV g] w fun r w' => r = .returned (.int .i64 (fnd (isK kk) s.els)) ∧ Only (fun _ => False) w w' := by
  have hz := hk.els_le
  obtain ⟨oa, ca, rfl⟩ := h.elen
  have c0 := h.c0
  obtain ⟨n, hn⟩ : ∃ n, s.els.length = n := ⟨_, rfl⟩
  rw [hn] at c0 hz h
  have HN := Lib.hid hn
  clear hn
  go_enter Try.func66, Try.ntmps66
  go_wp2
  go_loopw [5] (fun i wr => ∃ j : Nat, j ≤ n ∧ i = .int .i64 ((j : Int) - 1) ∧ Hid (findR (isK kk) (s.els.take j).reverse = findR (isK kk) s.els.reverse) ∧ Only (fun _ => False) w wr) (fun i _ => (intOf i + 1).toNat)
  case atStart => exact ⟨n, Nat.le_refl _, rfl, Lib.hid (by rw [List.take_of_length_le (by rw [HN.out]; exact Nat.le_refl _)]), Only.refl _ _⟩
  case round =>
    obtain ⟨j, hj, rfl, HF, hO⟩ := hrel
    have h1 := h.same hO
    cases j with
    | zero =>
      have HR : Hid (fnd (isK kk) s.els = -1) := Lib.hid (by unfold fnd; rw [← HF.out]; rfl)
      rw [show ((0 : Nat) : Int) - 1 = -1 from rfl]
      clear c0
      go_wp2
      go_ret
      exact ⟨ret_int HR.out.symm, hO⟩
    | succ j =>
      have hjl : j < s.els.length := by rw [HN.out]; omega
      obtain ⟨e, he⟩ : ∃ e, s.els[j] = e := ⟨_, rfl⟩
      have hi : s.els[j]? = some e := by rw [List.getElem?_eq_getElem hjl, he]
      obtain ⟨g', ca', hve, -, hca, hbg, hc, hf⟩ := h1.elem hi
      rw [HN.out] at hca hve
      cases hve
      have HT : Hid (findR (isK kk) s.els.reverse = if (isK kk) e then some j else if isWri e.kind then none else findR (isK kk) (s.els.take j).reverse) := Lib.hid (by rw [← HF.out, find_take _ _ hjl, he])
      rw [show ((j + 1 : Nat) : Int) - 1 = (j : Int) from by omega]
      have HI := Lib.hid hi
      clear c0 he hi hjl
      have c0 := h1.c0
      have d0 := hc.c0
      have d1 := hc.c1
      have d2 := hc.c2
      have d3 := hc.c3
      have d4 := hc.c4
      have d5 := hc.c5
      have HE : Hid (∀ w', Only (fun _ => False) wr w' → w'.cell? ⟨g', j * 6, none⟩ = some (.int .i64 e.kind) ∧ w'.cell? ⟨b, 0, none⟩ = some (.slice (some ⟨g', 0, none⟩) n ca)) := Lib.hid (fun w' ho => ⟨(hc.only ho (fun hc => hc)).c0, (h1.same ho).c0⟩)
      have hx1 := hx.same hO
      cases hp : (isK kk) e
      · cases hw : isWri e.kind
        · have HR : Hid (findR (isK kk) (s.els.take j).reverse = findR (isK kk) s.els.reverse) := Lib.hid (by rw [HT.out, hp, hw]; rfl)
          have HP := Lib.hid hp
          clear hp
          go_wp2_with (first | (go_at_call 62; refine (isOf1_p _ _ _ _ hx1).mono ?_; rw [HP.out]; rintro r w1 ⟨rfl, hO1⟩; obtain ⟨f0, f1⟩ := HE.out _ hO1) | (go_at_call 46; refine (isWritten_p _ _).mono ?_; rintro r w9 ⟨rfl, rfl⟩))
          go_roundw
          case rel => exact ⟨j, by omega, rfl, HR, hO.trans hO1⟩
          case measure => simp [intOf]; try omega
        · have HR : Hid (fnd (isK kk) s.els = -1) := Lib.hid (by unfold fnd; rw [HT.out, hp, hw]; rfl)
          have HP := Lib.hid hp
          clear hp
          go_wp2_with (first | (go_at_call 62; refine (isOf1_p _ _ _ _ hx1).mono ?_; rw [HP.out]; rintro r w1 ⟨rfl, hO1⟩; obtain ⟨f0, f1⟩ := HE.out _ hO1) | (go_at_call 46; refine (isWritten_p _ _).mono ?_; rintro r w9 ⟨rfl, rfl⟩))
          go_ret
          exact ⟨ret_int HR.out.symm, hO.trans hO1⟩
      · have HR : Hid (fnd (isK kk) s.els = (j : Int)) := Lib.hid (by unfold fnd; rw [HT.out, hp]; rfl)
        have HP := Lib.hid hp
        clear hp
        go_wp2_with (go_at_call 62; refine (isOf1_p _ _ _ _ hx1).mono ?_; rw [HP.out]; rintro r w1 ⟨rfl, hO1⟩)
        go_ret
        exact ⟨ret_int HR.out.symm, hO.trans hO1⟩
set_option maxRecDepth 100000 in
set_option maxHeartbeats 4000000 in
theorem find_let (h : IS w b ve vo s) {k : Nat} (hk : Ok k s) : Calls Try.prog 66 #[.pointer (some ⟨b, 0, none⟩), .func (.func 44) #[] #[]] w fun r w' => r = .returned (.int .i64 (fnd (letE) s.els)) ∧ Only (fun _ => False) w w' := by
  have hz := hk.els_le
  obtain ⟨oa, ca, rfl⟩ := h.elen
  have c0 := h.c0
  obtain ⟨n, hn⟩ : ∃ n, s.els.length = n := ⟨_, rfl⟩
  rw [hn] at c0 hz h
  have HN := Lib.hid hn
  clear hn
  go_enter Try.func66, Try.ntmps66
  go_wp2
  go_loopw [5] (fun i wr => ∃ j : Nat, j ≤ n ∧ i = .int .i64 ((j : Int) - 1) ∧ Hid (findR (letE) (s.els.take j).reverse = findR (letE) s.els.reverse) ∧ Only (fun _ => False) w wr) (fun i _ => (intOf i + 1).toNat)
  case atStart => exact ⟨n, Nat.le_refl _, rfl, Lib.hid (by rw [List.take_of_length_le (by rw [HN.out]; exact Nat.le_refl _)]), Only.refl _ _⟩
  case round =>
    obtain ⟨j, hj, rfl, HF, hO⟩ := hrel
    have h1 := h.same hO
    cases j with
    | zero =>
      have HR : Hid (fnd (letE) s.els = -1) := Lib.hid (by unfold fnd; rw [← HF.out]; rfl)
      rw [show ((0 : Nat) : Int) - 1 = -1 from rfl]
      clear c0
      go_wp2
      go_ret
      exact ⟨ret_int HR.out.symm, hO⟩
    | succ j =>
      have hjl : j < s.els.length := by rw [HN.out]; omega
      obtain ⟨e, he⟩ : ∃ e, s.els[j] = e := ⟨_, rfl⟩
      have hi : s.els[j]? = some e := by rw [List.getElem?_eq_getElem hjl, he]
      obtain ⟨g', ca', hve, -, hca, hbg, hc, hf⟩ := h1.elem hi
      rw [HN.out] at hca hve
      cases hve
      have HT : Hid (findR (letE) s.els.reverse = if (letE) e then some j else if isWri e.kind then none else findR (letE) (s.els.take j).reverse) := Lib.hid (by rw [← HF.out, find_take _ _ hjl, he])
      rw [show ((j + 1 : Nat) : Int) - 1 = (j : Int) from by omega]
      have HI := Lib.hid hi
      clear c0 he hi hjl
      have c0 := h1.c0
      have d0 := hc.c0
      have d1 := hc.c1
      have d2 := hc.c2
      have d3 := hc.c3
      have d4 := hc.c4
      have d5 := hc.c5
      have HE : Hid (∀ w', Only (fun _ => False) wr w' → w'.cell? ⟨g', j * 6, none⟩ = some (.int .i64 e.kind) ∧ w'.cell? ⟨b, 0, none⟩ = some (.slice (some ⟨g', 0, none⟩) n ca)) := Lib.hid (fun w' ho => ⟨(hc.only ho (fun hc => hc)).c0, (h1.same ho).c0⟩)
      have hx1 := hO
      cases hp : (letE) e
      · cases hw : isWri e.kind
        · have HR : Hid (findR (letE) (s.els.take j).reverse = findR (letE) s.els.reverse) := Lib.hid (by rw [HT.out, hp, hw]; rfl)
          have HP := Lib.hid hp
          clear hp
          go_wp2_with (first | (go_at_call 44; refine (key1_p _ _).mono ?_; rw [HP.out]; rintro r w1 ⟨rfl, hO1⟩; obtain ⟨f0, f1⟩ := HE.out _ hO1) | (go_at_call 46; refine (isWritten_p _ _).mono ?_; rintro r w9 ⟨rfl, rfl⟩))
          go_roundw
          case rel => exact ⟨j, by omega, rfl, HR, hO.trans hO1⟩
          case measure => simp [intOf]; try omega
        · have HR : Hid (fnd (letE) s.els = -1) := Lib.hid (by unfold fnd; rw [HT.out, hp, hw]; rfl)
          have HP := Lib.hid hp
          clear hp
          go_wp2_with (first | (go_at_call 44; refine (key1_p _ _).mono ?_; rw [HP.out]; rintro r w1 ⟨rfl, hO1⟩; obtain ⟨f0, f1⟩ := HE.out _ hO1) | (go_at_call 46; refine (isWritten_p _ _).mono ?_; rintro r w9 ⟨rfl, rfl⟩))
          go_ret
          exact ⟨ret_int HR.out.symm, hO.trans hO1⟩
      · have HR : Hid (fnd (letE) s.els = (j : Int)) := Lib.hid (by unfold fnd; rw [HT.out, hp]; rfl)
        have HP := Lib.hid hp
        clear hp
        go_wp2_with (go_at_call 44; refine (key1_p _ _).mono ?_; rw [HP.out]; rintro r w1 ⟨rfl, hO1⟩)
        go_ret
        exact ⟨ret_int HR.out.symm, hO.trans hO1⟩
end
end Go.Proofs.Ythblchafjmgmbaa
