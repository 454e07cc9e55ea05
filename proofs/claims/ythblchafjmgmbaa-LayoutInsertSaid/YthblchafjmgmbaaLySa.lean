/-
  WALKS. slices.ContainsFunc of the inserted tokens; Strip, Explicit, Depth.
-/
import Derived.Test.YthblchafjmgmbaaLyB
import Derived.Test.YthblchafjmgmbaaLyL
namespace Go.Proofs.Ythblchafjmgmbaa
open Go.RowKit Go.Maps
theorem isInserted_q (t : Tok) (w : World) (v : Bool) (hv : t.auto = v) : Calls Try.prog 11 #[.agg #[.int .i64 t.op, .string t.qual, .string t.text, .int .i64 t.n, .bool v, .int .i64 t.line, .int .i64 t.col]] w fun e w' => e = .returned (.bool v) ∧ Only (fun _ => False) w w' := hv ▸ isInserted_p t w
set_option maxRecDepth 100000 in
set_option maxHeartbeats 4000000 in
theorem index_no (w : World) (oa : Option Addr) (n ca : Nat) (ts : List Tok) (hn : n ≤ 100000000000) (hT : Tks w oa n ts) (ha : ts.any (·.auto) = false) :
    Calls Try.prog 20 #[.slice oa n ca, .func (.func 11) #[] #[]] w fun r w' => r = .returned (.int .i64 (-1)) ∧ Only (fun _ => False) w w' := by
  have HL := Lib.hid hT.len
  have HA : Hid (∀ k (hk : k < ts.length), ts[k].auto = false) := Lib.hid (fun k hk => by
    have := List.any_eq_false.1 ha ts[k] (List.getElem_mem hk)
    simpa using this)
  clear ha
  go_enter Try.func20, Try.ntmps20
  go_wp2
  go_loopw [8] (fun i wr => ∃ k : Nat, k ≤ n ∧ i = .int .i64 k ∧ Only (fun _ => False) w wr) (fun i _ => n - (intOf i).toNat)
  case atStart => exact ⟨0, by omega, rfl, Only.refl _ _⟩
  case round =>
    obtain ⟨k, hk, rfl, hO⟩ := hrel
    by_cases hlt : k < n
    · have hkt : k < ts.length := by rw [HL.out]; exact hlt
      obtain ⟨b, o, rfl, hc⟩ := (hT.keep hO).cell k hkt
      have hau := HA.out k hkt
      obtain ⟨x, hx⟩ : ∃ x, ts[k] = x := ⟨_, rfl⟩
      rw [hx] at hc hau
      have HU := Lib.hid hau
      obtain ⟨p0, p1, p2, p3, p4, p5, p6⟩ := hc
      rw [hau] at p4
      clear hx hau
      go_wp2_with (go_at_call 11; refine (isInserted_q x _ false HU.out).mono ?_; rintro r w1 ⟨rfl, hO1⟩)
      go_roundw
      case rel => exact ⟨k + 1, by omega, by go_num, hO.trans hO1⟩
      case measure => simp [intOf]; omega
    · go_wp2
      go_ret
      exact ⟨rfl, hO⟩
set_option maxRecDepth 100000 in
set_option maxHeartbeats 4000000 in
theorem index_yes (w : World) (oa : Option Addr) (n ca : Nat) (ts : List Tok) (hn : n ≤ 100000000000) (hT : Tks w oa n ts) (ha : ts.any (·.auto) = true) :
    Calls Try.prog 20 #[.slice oa n ca, .func (.func 11) #[] #[]] w fun r w' => (∃ k : Nat, r = .returned (.int .i64 k)) ∧ Only (fun _ => False) w w' := by
  have HL := Lib.hid hT.len
  obtain ⟨y, hy, hya⟩ := List.any_eq_true.1 ha
  obtain ⟨q, hq, hqy⟩ := List.getElem_of_mem hy
  have hqn : q < n := by have := HL.out; omega
  have HQ : Hid (∀ h : q < ts.length, ts[q].auto = true) := Lib.hid (fun h => by rw [hqy]; simpa using hya)
  clear ha hy hya hqy
  go_enter Try.func20, Try.ntmps20
  go_wp2
  go_loopw [8] (fun i wr => ∃ k : Nat, k ≤ q ∧ i = .int .i64 k ∧ Only (fun _ => False) w wr) (fun i _ => n - (intOf i).toNat)
  case atStart => exact ⟨0, by omega, rfl, Only.refl _ _⟩
  case round =>
    obtain ⟨k, hk, rfl, hO⟩ := hrel
    have hlt : k < n := by omega
    have hkt : k < ts.length := by rw [HL.out]; exact hlt
    obtain ⟨b, o, rfl, hc⟩ := (hT.keep hO).cell k hkt
    obtain ⟨x, hx⟩ : ∃ x, ts[k] = x := ⟨_, rfl⟩
    have HKQ : Hid (x.auto = false → k + 1 ≤ q) := Lib.hid (fun hf => by
      rcases Nat.lt_or_ge k q with h | h
      · exact h
      · have e : k = q := by omega
        subst e
        have := HQ.out hkt
        rw [hx, hf] at this; cases this)
    rw [hx] at hc
    have HX := Lib.hid hx
    clear hx
    obtain ⟨p0, p1, p2, p3, p4, p5, p6⟩ := hc
    cases hau : x.auto
    · have HU := Lib.hid hau
      have hkq := HKQ.out hau
      rw [hau] at p4
      clear hau
      go_wp2_with (go_at_call 11; refine (isInserted_q x _ false HU.out).mono ?_; rintro r w1 ⟨rfl, hO1⟩)
      go_roundw
      case rel => exact ⟨k + 1, by omega, by go_num, hO.trans hO1⟩
      case measure => simp [intOf]; omega
    · have HU := Lib.hid hau
      rw [hau] at p4
      clear hau
      go_wp2_with (go_at_call 11; refine (isInserted_q x _ true HU.out).mono ?_; rintro r w1 ⟨rfl, hO1⟩)
      go_ret
      exact ⟨⟨k, rfl⟩, hO.trans hO1⟩
set_option maxRecDepth 100000 in
theorem contains_p (w : World) (oa : Option Addr) (n ca : Nat) (ts : List Tok) (hn : n ≤ 100000000000) (hT : Tks w oa n ts) (v : Bool) (ha : ts.any (·.auto) = v) :
    Calls Try.prog 10 #[.slice oa n ca, .func (.func 11) #[] #[]] w fun r w' => r = .returned (.bool v) ∧ Only (fun _ => False) w w' := by
  cases v
  · go_enter Try.func10, Try.ntmps10
    go_wp2_with (go_at_call 20; refine (index_no w oa n ca ts hn hT ha).mono ?_; rintro r w1 ⟨rfl, hO1⟩)
    go_ret
    exact ⟨rfl, hO1⟩
  · go_enter Try.func10, Try.ntmps10
    go_wp2_with (go_at_call 20; refine (index_yes w oa n ca ts hn hT ha).mono ?_; rintro r w1 ⟨⟨q, rfl⟩, hO1⟩)
    go_ret
    exact ⟨by simp, hO1⟩
end Go.Proofs.Ythblchafjmgmbaa
