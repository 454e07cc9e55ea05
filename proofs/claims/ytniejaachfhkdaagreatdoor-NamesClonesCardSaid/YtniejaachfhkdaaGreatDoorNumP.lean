/-
  PLAIN. The numbers of generated names: a numeral is the one that its value is written with.
-/
import Derived.Test.YtniejaachfhkdaaGreatDoorNames3
namespace Go.Proofs.YtniejaachfhkdaaGreatDoor
open Go.RowKit
def dgB (c : UInt8) : Bool := dg (c.toNat : Int)
/-- The value of a row of digits. -/
def vl (l : List UInt8) : Nat := l.foldl (fun a c => a * 10 + (c.toNat - 48)) 0
theorem vl_snoc (l : List UInt8) (c : UInt8) : vl (l ++ [c]) = vl l * 10 + (c.toNat - 48) := by simp [vl]
theorem dgB_iff (c : UInt8) : dgB c = true ↔ 48 ≤ c.toNat ∧ c.toNat ≤ 57 := by
  unfold dgB dg; simp; omega
/-- Digits, at least one, no 0 ahead of others. -/
def canon (l : List UInt8) : Bool := decide (1 ≤ l.length) && l.all dgB && (decide (l.head? ≠ some 48) || decide (l.length = 1))
theorem ofNat_toNat (c : UInt8) : UInt8.ofNat c.toNat = c := by simp
theorem vl_pos : ∀ (l : List UInt8), 1 ≤ l.length → l.all dgB = true → l.head? ≠ some 48 → 1 ≤ vl l := by
  intro l
  have key : ∀ (r : List UInt8) (a : Nat), 1 ≤ a → 1 ≤ r.foldl (fun a c => a * 10 + (c.toNat - 48)) a := by
    intro r
    induction r with
    | nil => intro a h; exact h
    | cons c r ih => intro a h; exact ih _ (show 1 ≤ a * 10 + (c.toNat - 48) by omega)
  intro h1 h2 h3
  match l, h1, h2, h3 with
  | c :: r, _, h2, h3 =>
    have hc : dgB c = true := by simp at h2; exact h2.1
    have := (dgB_iff c).1 hc
    have hne : c.toNat ≠ 48 := by
      intro e
      apply h3
      simp only [List.head?_cons, Option.some.injEq]
      apply UInt8.toNat_inj.1
      simpa using e
    unfold vl
    simp only [List.foldl_cons]
    exact key r _ (by omega)
theorem canon_dec : ∀ (n : Nat) (l : List UInt8), l.length = n → canon l = true → Lib.decDigits (vl l) = l := by
  intro n
  induction n with
  | zero => intro l h hc; simp [canon, h] at hc
  | succ n ih =>
    intro l h hc
    have hne : l ≠ [] := by intro e; rw [e] at h; simp at h
    obtain ⟨l', c, rfl⟩ : ∃ l' c, l = l' ++ [c] := ⟨l.dropLast, l.getLast hne, (List.dropLast_concat_getLast hne).symm⟩
    simp only [canon, Bool.and_eq_true, Bool.or_eq_true, decide_eq_true_eq, List.all_append, List.all_cons, List.all_nil, Bool.and_true] at hc
    obtain ⟨⟨_, hd1, hd2⟩, h0⟩ := hc
    have hcd := (dgB_iff c).1 hd2
    rw [vl_snoc]
    by_cases hz : l' = []
    · subst hz
      have e : vl ([] : List UInt8) = 0 := rfl
      rw [e, Lib.decDigits_one (by omega), show 48 + (0 * 10 + (c.toNat - 48)) = c.toNat from by omega, ofNat_toNat]; rfl
    · have hl : 1 ≤ l'.length := by cases l' with | nil => exact absurd rfl hz | cons => simp
      have hh : l'.head? ≠ some 48 := by
        rcases h0 with h0 | h0
        · intro e; apply h0; cases l' with | nil => exact absurd rfl hz | cons a r => simpa using e
        · simp only [List.length_append, List.length_cons, List.length_nil] at h0; omega
      have hp := vl_pos l' hl hd1 hh
      have hi := ih l' (by simp at h; omega) (by simp only [canon, Bool.and_eq_true, Bool.or_eq_true, decide_eq_true_eq]; exact ⟨⟨hl, hd1⟩, .inl hh⟩)
      rw [Lib.decDigits, dif_neg (by omega), show (vl l' * 10 + (c.toNat - 48)) / 10 = vl l' from by omega, hi, show 48 + (vl l' * 10 + (c.toNat - 48)) % 10 = c.toNat from by omega, ofNat_toNat]
theorem dec_canon : ∀ (n : Nat) (u : Nat), u ≤ n → canon (Lib.decDigits u) = true ∧ vl (Lib.decDigits u) = u ∧ (1 ≤ u → (Lib.decDigits u).head? ≠ some 48) := by
  intro n
  induction n with
  | zero =>
    intro u hu
    have : u = 0 := by omega
    subst this
    rw [Lib.decDigits_one (by omega)]
    exact ⟨by decide +kernel, by decide +kernel, fun h => by omega⟩
  | succ n ih =>
    intro u hu
    by_cases h : u < 10
    · rw [Lib.decDigits_one h]
      have H : ∀ m : Fin 10, canon [UInt8.ofNat (48 + m.val)] = true ∧ vl [UInt8.ofNat (48 + m.val)] = m.val ∧ (1 ≤ m.val → [UInt8.ofNat (48 + m.val)].head? ≠ some 48) := by decide +kernel
      exact H ⟨u, h⟩
    · obtain ⟨h1, h2, h3⟩ := ih (u / 10) (by omega)
      have hh := h3 (by omega)
      have hd : dgB (UInt8.ofNat (48 + u % 10)) = true ∧ (UInt8.ofNat (48 + u % 10)).toNat = 48 + u % 10 := by
        have H : ∀ m : Fin 10, dgB (UInt8.ofNat (48 + m.val)) = true ∧ (UInt8.ofNat (48 + m.val)).toNat = 48 + m.val := by decide +kernel
        exact H ⟨u % 10, by omega⟩
      rw [Lib.decDigits, dif_neg h]
      simp only [canon, Bool.and_eq_true, Bool.or_eq_true, decide_eq_true_eq] at h1
      obtain ⟨⟨a1, a2⟩, _⟩ := h1
      have hq : (Lib.decDigits (u / 10) ++ [UInt8.ofNat (48 + u % 10)]).head? ≠ some 48 := by
        cases hl : Lib.decDigits (u / 10) with
        | nil => rw [hl] at a1; simp at a1
        | cons a r => rw [hl] at hh; simpa using hh
      refine ⟨?_, ?_, fun _ => hq⟩
      · simp only [canon, Bool.and_eq_true, Bool.or_eq_true, decide_eq_true_eq]
        exact ⟨⟨by simp, by rw [List.all_append, a2, List.all_cons, hd.1]; rfl⟩, .inl hq⟩
      · rw [vl_snoc, h2, hd.2]; omega
theorem parse_ok : ∀ (l : List UInt8) (a : Nat), l.all dgB = true → l.foldl (fun a c => a * 10 + (c.toNat - 48)) a ≤ 9223372036854775807 → Lib.parseUint10 a l = .ok (l.foldl (fun a c => a * 10 + (c.toNat - 48)) a) := by
  intro l
  have key : ∀ (r : List UInt8) (a : Nat), a ≤ r.foldl (fun a c => a * 10 + (c.toNat - 48)) a := by
    intro r
    induction r with
    | nil => intro a; exact Nat.le_refl _
    | cons c r ih => intro a; exact Nat.le_trans (show a ≤ a * 10 + (c.toNat - 48) by omega) (ih _)
  induction l with
  | nil => intro a _ _; rfl
  | cons c r ih =>
    intro a hd hb
    simp only [List.all_cons, Bool.and_eq_true] at hd
    have hc := (dgB_iff c).1 hd.1
    simp only [List.foldl_cons] at hb ⊢
    have := key r (a * 10 + (c.toNat - 48))
    rw [Lib.parseUint10, if_pos hc, if_neg (by omega), if_neg (by omega)]
    exact ih _ hd.2 hb
theorem numOf_eq (l : List UInt8) : numOf l = if canon l = true ∧ vl l ≤ 9223372036854775807 then some (vl l : Int) else none := by
  split
  · rename_i h
    obtain ⟨hc, hv⟩ := h
    have hc' := hc
    simp only [canon, Bool.and_eq_true, Bool.or_eq_true, decide_eq_true_eq] at hc'
    obtain ⟨⟨h1, h2⟩, _⟩ := hc'
    match l, h1, h2 with
    | c :: r, h1, h2 =>
      have hd : dgB c = true := by simp at h2; exact h2.1
      have hcd := (dgB_iff c).1 hd
      have hm : Lib.parseMag (c :: r) = .ok (vl (c :: r)) := by
        unfold Lib.parseMag
        rw [if_neg (by simp)]
        exact parse_ok (c :: r) 0 h2 hv
      have ha : Lib.atoiAll (c :: r) = .ok ((vl (c :: r) : Nat) : Int) := by
        rw [Lib.atoiAll_plain c r (by omega) (by omega), hm, Lib.signless, if_neg (by omega)]
      have hi : Lib.itoa ((vl (c :: r) : Nat) : Int) = c :: r := by
        rw [Lib.itoa, if_neg (by omega), Int.toNat_natCast]
        exact canon_dec _ _ rfl hc
      unfold numOf
      rw [ha]
      simp only
      rw [if_pos ⟨by omega, hi⟩]
  · rename_i h
    unfold numOf
    split
    · rename_i v hv
      rw [if_neg]
      rintro ⟨h0, hi⟩
      apply h
      have hb := Lib.atoiAll_bounds hv
      obtain ⟨m, rfl⟩ := Int.eq_ofNat_of_zero_le h0
      rw [Lib.itoa, if_neg (by omega), Int.toNat_natCast] at hi
      obtain ⟨a1, a2, _⟩ := dec_canon m m (Nat.le_refl _)
      rw [hi] at a1 a2
      exact ⟨a1, by omega⟩
    · rfl
end Go.Proofs.YtniejaachfhkdaaGreatDoor
