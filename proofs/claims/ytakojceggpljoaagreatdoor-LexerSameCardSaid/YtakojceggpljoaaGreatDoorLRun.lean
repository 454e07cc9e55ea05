/-
  The lexer scanner: runs.
-/
import Derived.Test.YtakojceggpljoaaGreatDoorLSkip
import Derived.Deep.RegionWith
namespace Go.Proofs.YtakojceggpljoaaGreatDoor
open Go.RowKit
/-- e is where the run of p from 'a' on ends. -/
structure RunEnd (p : Int → Bool) (s : ByteArray) (a e : Nat) : Prop where
  lo : a ≤ e
  hi : e ≤ s.size
  all : ∀ i, a ≤ i → i < e → p (byteAt s i) = true
  stop : e < s.size → p (byteAt s e) = false
theorem RunEnd.unique {p : Int → Bool} {s : ByteArray} {a e f : Nat} (h : RunEnd p s a e) (k : RunEnd p s a f) : e = f := by
  rcases Nat.lt_trichotomy e f with hl | rfl | hl
  · have h1 := h.stop (Nat.lt_of_lt_of_le hl k.hi)
    rw [k.all e h.lo hl] at h1; cases h1
  · rfl
  · have h1 := k.stop (Nat.lt_of_lt_of_le hl h.hi)
    rw [h.all f k.lo hl] at h1; cases h1
set_option maxRecDepth 100000 in
set_option maxHeartbeats 1000000 in
theorem runAt_word (s : ByteArray) (a : Nat) (w : World) (hs : s.size ≤ 1000000) (ha : a ≤ s.size) :
    Calls Tryz.prog 84 #[.string s, .int .i64 a, .func (.func 90) #[] #[]] w fun r w' => (∃ e, r = .returned (.string (s.extract a e)) ∧ RunEnd wd s a e) ∧ Only (fun _ => False) w w' := by
  go_enter Tryz.func84, Tryz.ntmps84
  go_wp2
  go_loopw [7] (fun i wr => ∃ e : Nat, a ≤ e ∧ e ≤ s.size ∧ i = .int .i64 e ∧ Hid (∀ i, a ≤ i → i < e → wd (byteAt s i) = true) ∧ wr = w) (fun i _ => s.size - (intOf i).toNat)
  case atStart => exact ⟨a, Nat.le_refl _, ha, rfl, Lib.hid (fun i h1 h2 => absurd h2 (by omega)), rfl⟩
  case round =>
    obtain ⟨e, he1, he2, rfl, HA, rfl⟩ := hrel
    by_cases hlt : e < s.size
    · have HB : Hid (byteAt s e = ((s[e]'hlt).toNat : Int)) := Lib.hid (by simp [byteAt, hlt])
      cases hp : wd ((s[e]'hlt).toNat : Int)
      · have HP := Lib.hid hp
        clear hp
        go_wp2_with (first | (go_at_call 90; refine (isWord_any _ _).mono ?_; rw [HP.out]; rintro r w1 ⟨rfl, rfl⟩))
        go_ret
        exact ⟨⟨e, rfl, he1, he2, HA.out, fun _ => by rw [HB.out]; exact HP.out⟩, Only.refl _ _⟩
      · have HP := Lib.hid hp
        clear hp
        go_wp2_with (first | (go_at_call 90; refine (isWord_any _ _).mono ?_; rw [HP.out]; rintro r w1 ⟨rfl, rfl⟩))
        go_roundw
        case rel => exact ⟨e + 1, by omega, by omega, by go_num, Lib.hid (fun i h1 h2 => by rcases Nat.lt_succ_iff_lt_or_eq.1 h2 with h | rfl; exact HA.out i h1 h; rw [HB.out]; exact HP.out), trivial⟩
        case measure => simp [intOf]; omega
    · have HE : Hid (e = s.size) := Lib.hid (by omega)
      go_wp2
      go_ret
      exact ⟨⟨e, rfl, he1, he2, HA.out, fun h => absurd h hlt⟩, Only.refl _ _⟩
set_option maxRecDepth 100000 in
set_option maxHeartbeats 1000000 in
theorem runAt_sym (s : ByteArray) (a : Nat) (w : World) (hs : s.size ≤ 1000000) (ha : a ≤ s.size) :
    Calls Tryz.prog 84 #[.string s, .int .i64 a, .func (.func 42) #[] #[]] w fun r w' => (∃ e, r = .returned (.string (s.extract a e)) ∧ RunEnd sy s a e) ∧ Only (fun _ => False) w w' := by
  go_enter Tryz.func84, Tryz.ntmps84
  go_wp2
  go_loopw [7] (fun i wr => ∃ e : Nat, a ≤ e ∧ e ≤ s.size ∧ i = .int .i64 e ∧ Hid (∀ i, a ≤ i → i < e → sy (byteAt s i) = true) ∧ wr = w) (fun i _ => s.size - (intOf i).toNat)
  case atStart => exact ⟨a, Nat.le_refl _, ha, rfl, Lib.hid (fun i h1 h2 => absurd h2 (by omega)), rfl⟩
  case round =>
    obtain ⟨e, he1, he2, rfl, HA, rfl⟩ := hrel
    by_cases hlt : e < s.size
    · have HB : Hid (byteAt s e = ((s[e]'hlt).toNat : Int)) := Lib.hid (by simp [byteAt, hlt])
      cases hp : sy ((s[e]'hlt).toNat : Int)
      · have HP := Lib.hid hp
        clear hp
        go_wp2_with (first | (go_at_call 42; refine (isSymbol_any _ _).mono ?_; rw [HP.out]; rintro r w1 ⟨rfl, rfl⟩))
        go_ret
        exact ⟨⟨e, rfl, he1, he2, HA.out, fun _ => by rw [HB.out]; exact HP.out⟩, Only.refl _ _⟩
      · have HP := Lib.hid hp
        clear hp
        go_wp2_with (first | (go_at_call 42; refine (isSymbol_any _ _).mono ?_; rw [HP.out]; rintro r w1 ⟨rfl, rfl⟩))
        go_roundw
        case rel => exact ⟨e + 1, by omega, by omega, by go_num, Lib.hid (fun i h1 h2 => by rcases Nat.lt_succ_iff_lt_or_eq.1 h2 with h | rfl; exact HA.out i h1 h; rw [HB.out]; exact HP.out), trivial⟩
        case measure => simp [intOf]; omega
    · have HE : Hid (e = s.size) := Lib.hid (by omega)
      go_wp2
      go_ret
      exact ⟨⟨e, rfl, he1, he2, HA.out, fun h => absurd h hlt⟩, Only.refl _ _⟩
set_option maxRecDepth 100000 in
set_option maxHeartbeats 1000000 in
theorem run_word {w : World} {b : Nat} {src : ByteArray} {B H : At} {tk : Value} {F : Flt} (hS : Scn w b src B H tk F) (hz : src.size ≤ 1000000) (hH : H.at' ≤ src.size) :
    Calls Tryz.prog 41 #[.pointer (some ⟨b, 0, none⟩), .func (.func 90) #[] #[]] w fun r w' => (∃ e, r = .returned (.string (src.extract H.at' e)) ∧ RunEnd wd src H.at' e) ∧ Only (fun _ => False) w w' := by
  have c0 := hS.src'
  have c4 := hS.hat
  go_enter Tryz.func41, Tryz.ntmps41
  go_wp2
  go_region_with (first | (go_at_call 84; refine (runAt_word _ _ _ hz hH).mono ?_; rintro r w1 ⟨⟨e, rfl, he⟩, hO⟩))
  all_goals
    go_wp2
    go_ret
    exact ⟨⟨e, rfl, he⟩, (Only.of_below (Below.refl _ _).drew).trans hO⟩
set_option maxRecDepth 100000 in
set_option maxHeartbeats 1000000 in
theorem run_sym {w : World} {b : Nat} {src : ByteArray} {B H : At} {tk : Value} {F : Flt} (hS : Scn w b src B H tk F) (hz : src.size ≤ 1000000) (hH : H.at' ≤ src.size) :
    Calls Tryz.prog 41 #[.pointer (some ⟨b, 0, none⟩), .func (.func 42) #[] #[]] w fun r w' => (∃ e, r = .returned (.string (src.extract H.at' e)) ∧ RunEnd sy src H.at' e) ∧ Only (fun _ => False) w w' := by
  have c0 := hS.src'
  have c4 := hS.hat
  go_enter Tryz.func41, Tryz.ntmps41
  go_wp2
  go_region_with (first | (go_at_call 84; refine (runAt_sym _ _ _ hz hH).mono ?_; rintro r w1 ⟨⟨e, rfl, he⟩, hO⟩))
  all_goals
    go_wp2
    go_ret
    exact ⟨⟨e, rfl, he⟩, (Only.of_below (Below.refl _ _).drew).trans hO⟩
end Go.Proofs.YtakojceggpljoaaGreatDoor
