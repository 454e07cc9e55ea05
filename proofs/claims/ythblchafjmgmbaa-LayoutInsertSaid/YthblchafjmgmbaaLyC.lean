/-
  WALKS. The stack: the topmost block and context, the implicit block at a position.
-/
import Derived.Test.YthblchafjmgmbaaLyB
namespace Go.Proofs.Ythblchafjmgmbaa
open Go.RowKit Go.Maps
section
variable {w : World} {b : Nat} {ve vo : Value} {s : St}
/-- A stack that is not empty, opened. -/
theorem IS.top (h : IS w b ve vo s) {ys : List El} {y : El} (hs : s.els = ys ++ [y]) : ∃ g ca, ve = .slice (some ⟨g, 0, none⟩) (ys.length + 1) ca ∧ ys.length + 1 ≤ ca ∧ b + 1 ≤ g ∧ EC w g (ys.length * 6) y ∧ (∀ j, w.frozen? ⟨g, j, none⟩ = false) := by
  obtain ⟨oa, ca, rfl⟩ := h.elen
  have he := h.els
  rw [hs] at he
  obtain ⟨g, rfl, hb, hn, hle, hc, hf⟩ := ER.at (k := ys.length) he (by simp)
  refine ⟨g, ca, by rw [hs]; simp, ?_, hb, by simpa using hc, hf⟩
  simpa using hle
theorem IS.empty (h : IS w b ve vo s) (hs : s.els = []) : ∃ oa ca, ve = .slice oa 0 ca := by
  obtain ⟨oa, ca, rfl⟩ := h.elen
  exact ⟨oa, ca, by rw [hs]; rfl⟩
theorem top_cases (l : List El) : l = [] ∨ ∃ ys y, l = ys ++ [y] := by
  rcases List.eq_nil_or_concat l with h | ⟨ys, y, h⟩
  · exact .inl h
  · exact .inr ⟨ys, y, by simpa using h⟩
set_option maxRecDepth 100000 in
set_option maxHeartbeats 1000000 in
theorem topBlock_p (h : IS w b ve vo s) {k : Nat} (hk : Ok k s) : Calls Try.prog 58 #[.pointer (some ⟨b, 0, none⟩)] w fun e w' => e = .returned (.int .i64 (topB s.els)) ∧ Only (fun _ => False) w w' := by
  have c0 := h.c0
  have hz := hk.els_le
  rcases top_cases s.els with hs | ⟨ys, y, hs⟩
  · obtain ⟨oa, ca, rfl⟩ := h.empty hs
    have HR : Hid (topB s.els = -1) := Lib.hid (by rw [hs]; rfl)
    clear hs hz
    go_enter Try.func58, Try.ntmps58
    go_wp2
    go_ret
    exact ⟨ret_int HR.out.symm, Only.refl _ _⟩
  · obtain ⟨g, ca, rfl, hca, hbg, hc, hf⟩ := h.top hs
    have HR : Hid (topB s.els = y.blk) := Lib.hid (by rw [hs]; simp [topB])
    rw [hs, List.length_append, List.length_singleton] at hz
    clear hs
    have d4 := hc.c4
    obtain ⟨m, hm⟩ : ∃ m, ys.length = m := ⟨_, rfl⟩
    rw [hm] at hz c0 d4 hca
    clear hm hc h
    go_enter Try.func58, Try.ntmps58
    go_wp2
    go_region
    all_goals
      go_wp2
      go_ret
      exact ⟨ret_int HR.out.symm, (Only.refl _ _).drew⟩
set_option maxRecDepth 100000 in
set_option maxHeartbeats 1000000 in
theorem topContext_p (h : IS w b ve vo s) {k : Nat} (hk : Ok k s) : Calls Try.prog 59 #[.pointer (some ⟨b, 0, none⟩)] w fun e w' => e = .returned (.int .i64 (topC s.els)) ∧ Only (fun _ => False) w w' := by
  have c0 := h.c0
  have hz := hk.els_le
  rcases top_cases s.els with hs | ⟨ys, y, hs⟩
  · obtain ⟨oa, ca, rfl⟩ := h.empty hs
    have HR : Hid (topC s.els = -1) := Lib.hid (by rw [hs]; rfl)
    clear hs hz
    go_enter Try.func59, Try.ntmps59
    go_wp2
    go_ret
    exact ⟨ret_int HR.out.symm, Only.refl _ _⟩
  · obtain ⟨g, ca, rfl, hca, hbg, hc, hf⟩ := h.top hs
    have HR : Hid (topC s.els = y.ctx) := Lib.hid (by rw [hs]; simp [topC])
    rw [hs, List.length_append, List.length_singleton] at hz
    clear hs
    have d5 := hc.c5
    obtain ⟨m, hm⟩ : ∃ m, ys.length = m := ⟨_, rfl⟩
    rw [hm] at hz c0 d5 hca
    clear hm hc h
    go_enter Try.func59, Try.ntmps59
    go_wp2
    go_region
    all_goals
      go_wp2
      go_ret
      exact ⟨ret_int HR.out.symm, (Only.refl _ _).drew⟩

/-- The element at a position, in memory. -/
theorem IS.elem (h : IS w b ve vo s) {i : Nat} {e : El} (hi : s.els[i]? = some e) : ∃ g ca, ve = .slice (some ⟨g, 0, none⟩) s.els.length ca ∧ i < s.els.length ∧ s.els.length ≤ ca ∧ b + 1 ≤ g ∧ EC w g (i * 6) e ∧ (∀ j, w.frozen? ⟨g, j, none⟩ = false) := by
  obtain ⟨oa, ca, rfl⟩ := h.elen
  obtain ⟨hl, he⟩ := List.getElem?_eq_some_iff.1 hi
  obtain ⟨g, rfl, hb, hn, hle, hc, hf⟩ := ER.at (k := i) h.els hl
  exact ⟨g, ca, rfl, hl, hle, hb, he ▸ hc, hf⟩
theorem impl_cases {l : List El} {a : Int} (ha : a < l.length) : (implAt l a = none ∧ (a < 0 ∨ ∃ (i : Nat) (e : El), a = (i : Int) ∧ l[i]? = some e ∧ (e.kind == 0) = false)) ∨ ∃ (i : Nat) (e : El), a = (i : Int) ∧ l[i]? = some e ∧ (e.kind == 0) = true ∧ implAt l a = some e := by
  unfold implAt
  by_cases h0 : a < 0
  · exact .inl ⟨by rw [if_pos h0], .inl h0⟩
  · obtain ⟨i, rfl⟩ := Int.eq_ofNat_of_zero_le (by omega : 0 ≤ a)
    have hi : i < l.length := by omega
    rw [if_neg h0]
    simp only [Int.toNat_natCast, List.getElem?_eq_getElem hi]
    cases hk : (l[i].kind == 0)
    · exact .inl ⟨by simp, .inr ⟨i, l[i], rfl, List.getElem?_eq_getElem hi, hk⟩⟩
    · exact .inr ⟨i, l[i], rfl, List.getElem?_eq_getElem hi, hk, by simp⟩
set_option maxRecDepth 100000 in
set_option maxHeartbeats 1000000 in
theorem implicitAt_neg (a : Int) (ha : a < 0) : Calls Try.prog 57 #[.pointer (some ⟨b, 0, none⟩), .int .i64 a] w fun e w' => e = .returned (.pointer none) ∧ Only (fun _ => False) w w' := by
  have h1 : decide (a < 0) = true := decide_eq_true ha
  go_enter Try.func57, Try.ntmps57
  go_wp2
  go_ret
  exact ⟨rfl, Only.refl _ _⟩
set_option maxRecDepth 100000 in
set_option maxHeartbeats 1000000 in
theorem implicitAt_no (h : IS w b ve vo s) {i : Nat} {e : El} (hi : s.els[i]? = some e) (hk : (e.kind == 0) = false) (hz : s.els.length ≤ 1000000000000) : Calls Try.prog 57 #[.pointer (some ⟨b, 0, none⟩), .int .i64 i] w fun e w' => e = .returned (.pointer none) ∧ Only (fun _ => False) w w' := by
  have c0 := h.c0
  obtain ⟨g, ca, rfl, hl, hca, hbg, hc, hf⟩ := h.elem hi
  have hk2 : (e.kind != 0) = true := by simp [bne, hk]
  obtain ⟨n, hn⟩ : ∃ n, s.els.length = n := ⟨_, rfl⟩
  rw [hn] at hl hca c0 hz
  have d0 := hc.c0
  clear hn hc h hi
  go_enter Try.func57, Try.ntmps57
  go_wp2
  go_ret
  exact ⟨rfl, Only.refl _ _⟩
set_option maxRecDepth 100000 in
set_option maxHeartbeats 1000000 in
theorem implicitAt_yes {g n ca : Nat} (h : IS w b (.slice (some ⟨g, 0, none⟩) n ca) vo s) {i : Nat} {e : El} (hi : s.els[i]? = some e) (hk : (e.kind == 0) = true) (hz : s.els.length ≤ 1000000000000) : Calls Try.prog 57 #[.pointer (some ⟨b, 0, none⟩), .int .i64 i] w fun e w' => e = .returned (.pointer (some ⟨g, i * 6, none⟩)) ∧ Only (fun _ => False) w w' := by
  have c0 := h.c0
  obtain ⟨g', ca', hve, hl, hca, hbg, hc, hf⟩ := h.elem hi
  cases hve
  have hk2 : (e.kind != 0) = false := by simp [bne, hk]
  obtain ⟨n, hn⟩ : ∃ n, s.els.length = n := ⟨_, rfl⟩
  rw [hn] at hl hca c0 hz
  have d0 := hc.c0
  clear hn hc h hi
  go_enter Try.func57, Try.ntmps57
  go_wp2
  go_ret
  exact ⟨by simp, Only.refl _ _⟩
set_option maxRecDepth 100000 in
set_option maxHeartbeats 1000000 in
theorem implicitBlock_no (h : IS w b ve vo s) {k : Nat} (hk : Ok k s) (hn : implAt s.els (topB s.els) = none) : Calls Try.prog 35 #[.pointer (some ⟨b, 0, none⟩)] w fun e w' => e = .returned (.pointer none) ∧ Only (fun _ => False) w w' := by
  have hz := hk.els_le
  have hlt := hk.bd.last
  rcases impl_cases (l := s.els) (a := topB s.els) (by omega) with ⟨-, hc | ⟨i, e, ha, hi, hkk⟩⟩ | ⟨i, e, -, -, -, hc⟩
  · clear hz hlt
    have HC := Lib.hid hc
    clear hc
    go_enter Try.func35, Try.ntmps35
    go_wp2_with (first | (go_at_call 58; refine (topBlock_p h hk).mono ?_; rintro e w1 ⟨rfl, hO1⟩) | (go_at_call 57; refine (implicitAt_neg _ HC.out).mono ?_; rintro e w2 ⟨rfl, hO2⟩))
    go_ret
    exact ⟨rfl, hO1.trans hO2⟩
  · have hz1 : s.els.length ≤ 1000000000000 := by omega
    have HA := Lib.hid ha
    have HZ := Lib.hid hz1
    clear ha hz hlt hz1
    go_enter Try.func35, Try.ntmps35
    go_wp2_with (first | (go_at_call 58; refine (topBlock_p h hk).mono ?_; rw [HA.out]; rintro e w1 ⟨rfl, hO1⟩) | (go_at_call 57; refine (implicitAt_no (h.same hO1) hi hkk HZ.out).mono ?_; rintro e w2 ⟨rfl, hO2⟩))
    go_ret
    exact ⟨rfl, hO1.trans hO2⟩
  · rw [hn] at hc; cases hc
set_option maxRecDepth 100000 in
set_option maxHeartbeats 1000000 in
theorem implicitBlock_yes {g n ca : Nat} (h : IS w b (.slice (some ⟨g, 0, none⟩) n ca) vo s) {k : Nat} (hk : Ok k s) {i : Nat} {e : El} (ha : topB s.els = (i : Int)) (hi : s.els[i]? = some e) (hkk : (e.kind == 0) = true) : Calls Try.prog 35 #[.pointer (some ⟨b, 0, none⟩)] w fun e w' => e = .returned (.pointer (some ⟨g, i * 6, none⟩)) ∧ Only (fun _ => False) w w' := by
  have hz := hk.els_le
  have hz1 : s.els.length ≤ 1000000000000 := by omega
  have HA := Lib.hid ha
  have HZ := Lib.hid hz1
  clear ha hz hz1
  go_enter Try.func35, Try.ntmps35
  go_wp2_with (first | (go_at_call 58; refine (topBlock_p h hk).mono ?_; rw [HA.out]; rintro e w1 ⟨rfl, hO1⟩) | (go_at_call 57; refine (implicitAt_yes (h.same hO1) hi hkk HZ.out).mono ?_; rintro e w2 ⟨rfl, hO2⟩))
  go_ret
  exact ⟨rfl, hO1.trans hO2⟩
set_option maxRecDepth 100000 in
set_option maxHeartbeats 1000000 in
theorem implicitContext_no (h : IS w b ve vo s) {k : Nat} (hk : Ok k s) (hn : implAt s.els (topC s.els) = none) : Calls Try.prog 64 #[.pointer (some ⟨b, 0, none⟩)] w fun e w' => e = .returned (.pointer none) ∧ Only (fun _ => False) w w' := by
  have hz := hk.els_le
  have hlt := hk.bd.last
  rcases impl_cases (l := s.els) (a := topC s.els) (by omega) with ⟨-, hc | ⟨i, e, ha, hi, hkk⟩⟩ | ⟨i, e, -, -, -, hc⟩
  · clear hz hlt
    have HC := Lib.hid hc
    clear hc
    go_enter Try.func64, Try.ntmps64
    go_wp2_with (first | (go_at_call 59; refine (topContext_p h hk).mono ?_; rintro e w1 ⟨rfl, hO1⟩) | (go_at_call 57; refine (implicitAt_neg _ HC.out).mono ?_; rintro e w2 ⟨rfl, hO2⟩))
    go_ret
    exact ⟨rfl, hO1.trans hO2⟩
  · have hz1 : s.els.length ≤ 1000000000000 := by omega
    have HA := Lib.hid ha
    have HZ := Lib.hid hz1
    clear ha hz hlt hz1
    go_enter Try.func64, Try.ntmps64
    go_wp2_with (first | (go_at_call 59; refine (topContext_p h hk).mono ?_; rw [HA.out]; rintro e w1 ⟨rfl, hO1⟩) | (go_at_call 57; refine (implicitAt_no (h.same hO1) hi hkk HZ.out).mono ?_; rintro e w2 ⟨rfl, hO2⟩))
    go_ret
    exact ⟨rfl, hO1.trans hO2⟩
  · rw [hn] at hc; cases hc
set_option maxRecDepth 100000 in
set_option maxHeartbeats 1000000 in
theorem implicitContext_yes {g n ca : Nat} (h : IS w b (.slice (some ⟨g, 0, none⟩) n ca) vo s) {k : Nat} (hk : Ok k s) {i : Nat} {e : El} (ha : topC s.els = (i : Int)) (hi : s.els[i]? = some e) (hkk : (e.kind == 0) = true) : Calls Try.prog 64 #[.pointer (some ⟨b, 0, none⟩)] w fun e w' => e = .returned (.pointer (some ⟨g, i * 6, none⟩)) ∧ Only (fun _ => False) w w' := by
  have hz := hk.els_le
  have hz1 : s.els.length ≤ 1000000000000 := by omega
  have HA := Lib.hid ha
  have HZ := Lib.hid hz1
  clear ha hz hz1
  go_enter Try.func64, Try.ntmps64
  go_wp2_with (first | (go_at_call 59; refine (topContext_p h hk).mono ?_; rw [HA.out]; rintro e w1 ⟨rfl, hO1⟩) | (go_at_call 57; refine (implicitAt_yes (h.same hO1) hi hkk HZ.out).mono ?_; rintro e w2 ⟨rfl, hO2⟩))
  go_ret
  exact ⟨rfl, hO1.trans hO2⟩
end
end Go.Proofs.Ythblchafjmgmbaa
