/-
  WALKS. The reference's machine: open, whole.
  WALKS. The reference's machine: step; what it leaves.
-/
import Derived.Test.YthblchafjmgmbaaLzLa
import Derived.Test.YthblchafjmgmbaaLzLb
namespace Go.Proofs.Ythblchafjmgmbaa
open Go.RowKit Go.Maps
section
variable {w w' : World} {b : Nat} {vs vo : Value} {m : RM} {li : Int} {fi : Bool} {F : RF}
theorem ropen_p (h : MS w b vs vo m li fi F) (hk : Sz 4 m) (t : Tok) : Calls Try.prog 28 #[.pointer (some ⟨b, 0, none⟩), tokV t] w (OpR w b vs vo m t li fi F) := by
  cases hx : m.expects
  · exact ropen_no h t hx
  cases h1 : spT t [123]
  case true => exact ropen_sp h t hx h1
  cases hw : m.word.data.toList.isEmpty
  case false =>
    rcases pos_cases (fun e => (e.form == 1) || (e.form == 2)) m.stack with ⟨hxb, hg⟩ | ⟨i, e, hi, hxb, he, hg⟩
    · by_cases hc : (0 : Int) < t.col
      · exact ropen_a_no_lt h hk t hx h1 hw hxb hg hc
      · exact ropen_a_no_ge h hk t hx h1 hw hxb hg hc
    · cases hq : (e.form == 1)
      · by_cases hc : (0 : Int) < t.col
        · exact ropen_a_oth_lt h hk t hx h1 hw hi hxb he hg hq hc
        · exact ropen_a_oth_ge h hk t hx h1 hw hi hxb he hg hq hc
      · by_cases hc : e.col < t.col
        · exact ropen_a_imp_lt h hk t hx h1 hw hi hxb he hg hq hc
        · exact ropen_a_imp_ge h hk t hx h1 hw hi hxb he hg hq hc
  cases h2 : wdT t [109, 111, 100, 117, 108, 101]
  case true => exact ropen_mod h t hx h1 hw h2
  rcases pos_cases (fun e => (e.form == 1) || (e.form == 2)) m.stack with ⟨hxb, hg⟩ | ⟨i, e, hi, hxb, he, hg⟩
  · by_cases hc : (0 : Int) < t.col
    · exact ropen_b_no_lt h hk t hx h1 hw h2 hxb hg hc
    · exact ropen_b_no_ge h hk t hx h1 hw h2 hxb hg hc
  · cases hq : (e.form == 1)
    · by_cases hc : (0 : Int) < t.col
      · exact ropen_b_oth_lt h hk t hx h1 hw h2 hi hxb he hg hq hc
      · exact ropen_b_oth_ge h hk t hx h1 hw h2 hi hxb he hg hq hc
    · by_cases hc : e.col < t.col
      · exact ropen_b_imp_lt h hk t hx h1 hw h2 hi hxb he hg hq hc
      · exact ropen_b_imp_ge h hk t hx h1 hw h2 hi hxb he hg hq hc
end
end Go.Proofs.Ythblchafjmgmbaa
namespace Go.Proofs.Ythblchafjmgmbaa
open Go.RowKit Go.Maps
theorem cntB_le (l : List REl) : cntB l ≤ l.length := List.countP_le_length
theorem rLines_sz : ∀ (K : Nat) {m m' : RM} {c : Int}, rLines K m c = some m' → m'.stack.length + m'.out.length ≤ m.stack.length + m.out.length + cntB m.stack + 1
  | 0, m, m', c, h => by
    unfold rLines at h
    cases h
    omega
  | K + 1, m, m', c, h => by
    rcases pos_cases (fun e => (e.form == 1) || (e.form == 2)) m.stack with ⟨hx, hg⟩ | ⟨i, e, hi, hx, he, hg⟩
    · have hg' : getR m.stack (rBlk m.stack) = none := hg
      unfold rLines at h
      rw [hg'] at h
      cases h
      omega
    · have hg' : getR m.stack (rBlk m.stack) = some e := hg
      have hx' : rBlk m.stack = (i : Int) := hx
      unfold rLines at h
      rw [hg'] at h
      simp only at h
      cases hq : (e.form == 1)
      · rw [hq] at h
        simp only [Bool.not_false, Bool.true_or, if_true] at h
        cases h
        omega
      · rw [hq] at h
        simp only [Bool.not_true, Bool.false_or] at h
        split at h
        · cases h; omega
        · split at h
          · cases h
            show (rEq m.stack _ false).length + (m.out ++ [insT 59]).length ≤ _
            rw [rEq, List.length_modify, List.length_append, List.length_singleton]
            omega
          · split at h
            · cases h
            · have hl := lines_less hi he (by simpa using hq)
              have h2 : rLines K (rDrop m i e) c = some m' := by rw [← h, hx']; rfl
              have := rLines_sz K h2
              omega
def rRest (m1 : RM) (t : Tok) (before : ByteArray) : Option RM :=
  (if t.op == 8 then rSpecials (rItem m1 t) t before else if t.op == 9 then rWords (rItem m1 t) t else if (t.op == 10) && tx t.text [61] then some (rMark (rItem m1 t) true) else some (rItem m1 t)).map fun m => { m with out := m.out ++ [t] }
theorem rStep_eq (m : RM) (t : Tok) (f : Bool) : rStep m t f = (match (if !(rOpen m t).1 && f then rLines ((rOpen m t).2.stack.length + 1) (rOpen m t).2 t.col else some (rOpen m t).2) with
    | none => none
    | some m1 => rRest m1 t (if m.expects then m.word else ⟨#[]⟩)) := rfl
abbrev F0 : RF := ⟨0, ⟨#[]⟩, 0, 0⟩
abbrev fltF (t : Tok) : RF := ⟨9, t.text, t.line, t.col⟩
def app1 (m : RM) (t : Tok) : RM := { m with out := m.out ++ [t] }
section
variable {w w' : World} {b : Nat} {vs vo : Value} {m : RM} {li : Int} {fi : Bool}
/-- What step leaves. -/
def StpR (w : World) (b : Nat) (vs vo : Value) (t : Tok) (R : Option RM) (r : Ending) (w' : World) : Prop := r = .returned (.tuple #[]) ∧ match R with
  | none => ∃ (mm : RM) (li' : Int) (fi' : Bool), MSx w b vs vo mm li' fi' (fltF t) w'
  | some m' => MSx w b vs vo m' t.line false F0 w'
theorem ReR.any {t : Tok} {R : Option RM} {r : Ending} (h : ReR w b vs vo li fi F0 t R r w') (hb : ∀ m', R = some m' → m'.out.length + 1 ≤ 1000000000000) : r = .returned (.tuple #[]) ∧ ∃ (mz : RM) (Fz : RF), mz.out.length + 1 ≤ 1000000000000 ∧ Hid ((R = none ∧ Fz = fltF t) ∨ (R = some mz ∧ Fz = F0)) ∧ MSx w b vs vo mz li fi Fz w' := by
  obtain ⟨h1, h2⟩ := h
  refine ⟨h1, ?_⟩
  cases R with
  | none => obtain ⟨mm, hl, h3⟩ := h2; exact ⟨mm, _, hl, Lib.hid (.inl ⟨rfl, rfl⟩), h3⟩
  | some m' => exact ⟨m', _, hb m' rfl, Lib.hid (.inr ⟨rfl, rfl⟩), h2⟩
theorem StpR.fin {t : Tok} {R : Option RM} {mz : RM} {Fz : RF} (hz : (R = none ∧ Fz = fltF t) ∨ (R = some mz ∧ Fz = F0)) (hS : MSx w b vs vo (app1 mz t) t.line false Fz w') : StpR w b vs vo t (R.map fun m => app1 m t) (.returned (.tuple #[])) w' := by
  rcases hz with ⟨rfl, rfl⟩ | ⟨rfl, rfl⟩
  · exact ⟨rfl, _, _, _, hS⟩
  · exact ⟨rfl, hS⟩
abbrev pastW (w : World) (b : Nat) (l : Int) : World := (w.setCell ⟨b, 5, none⟩ (.bool false)).setCell ⟨b, 4, none⟩ (.int .i64 l)
theorem MS.past {F : RF} (h : MS w b vs vo m li fi F) (l : Int) : MS (pastW w b l) b vs vo m l false F := by
  have h1 := MS.put (k := 5) (v := .bool false) (vs' := vs) (vo' := vo) (m' := m) (li' := li) (fi' := false) (F' := F) h.blk rfl h.els h.out
  exact MS.put (k := 4) (v := .int .i64 l) (vs' := vs) (vo' := vo) (m' := m) (li' := l) (fi' := false) (F' := F) h1.blk rfl h1.els h1.out
theorem past_sz (w : World) (b : Nat) (l : Int) : (pastW w b l).heap.size = w.heap.size := by simp [World.setCell]
theorem past_frm (w : World) (b : Nat) (vs vo : Value) (l : Int) : Frm w b vs vo (pastW w b l) vs vo := Frm.here (Only.setCell (K := (· = b)) (Only.setCell (K := (· = b)) (Only.refl _ _) rfl _) rfl _) rfl
end
end Go.Proofs.Ythblchafjmgmbaa
