/-
  PLAIN. What the lexer computes: a unit, a source, as functions on bytes.
  PLAIN. Of the lexer's functions on bytes: each part of a unit ends behind where it begins, and within the source.
  PLAIN. Of the lexer's faults: each has a code that is not 0, and the place of a byte.
-/
import Derived.Test.YtelichlplblboaaGreatDoorLa
import Derived.Test.YtelichlplblboaaGreatDoorNmb
namespace Go.Proofs.YtelichlplblboaaGreatDoor
open Go.RowKit
theorem byteAt_lt {s : ByteArray} {i : Nat} (h : i < s.size) : byteAt s i = ((s[i]'h).toNat : Int) := by simp [byteAt, h]
theorem byteAt_ge {s : ByteArray} {i : Nat} (h : s.size ≤ i) : byteAt s i = 0 := by simp [byteAt, Nat.not_lt.2 h]
theorem byteAt_bd (s : ByteArray) (i : Nat) : 0 ≤ byteAt s i ∧ byteAt s i ≤ 255 := by
  unfold byteAt; split
  · rename_i h
    have := (s[i]'h).toNat_lt
    omega
  · omega
theorem byteAt_pos {s : ByteArray} {i : Nat} (h : byteAt s i ≠ 0) : i < s.size := by
  by_cases hl : i < s.size
  · exact hl
  · exact absurd (byteAt_ge (by omega)) h
/-- Where the run of p from i on ends, with fuel. -/
def runF (p : Int → Bool) (s : ByteArray) : Nat → Nat → Nat
  | 0, i => i
  | n + 1, i => if p (byteAt s i) then runF p s n (i + 1) else i
def rE (p : Int → Bool) (s : ByteArray) (i : Nat) : Nat := runF p s (s.size - i) i
theorem runF_end (p : Int → Bool) (s : ByteArray) (n : Nat) : ∀ i, i + n = s.size → RunEnd p s i (runF p s n i) := by
  induction n with
  | zero => intro i h; exact ⟨Nat.le_refl _, by simp [runF]; omega, fun k h1 h2 => absurd h2 (by simp [runF]; omega), fun h' => absurd h' (by simp [runF]; omega)⟩
  | succ n ih =>
    intro i h
    rw [runF]
    cases hp : p (byteAt s i)
    · simp only [Bool.false_eq_true, if_false]
      exact ⟨Nat.le_refl _, by omega, fun k h1 h2 => absurd h2 (by omega), fun _ => hp⟩
    · simp only [if_true]
      have k := ih (i + 1) (by omega)
      refine ⟨by have := k.lo; omega, k.hi, fun j h1 h2 => ?_, k.stop⟩
      by_cases e : j = i
      · rw [e]; exact hp
      · exact k.all j (by omega) h2
theorem rE_end (p : Int → Bool) {s : ByteArray} {i : Nat} (h : i ≤ s.size) : RunEnd p s i (rE p s i) := runF_end p s _ i (by omega)
theorem rE_of {p : Int → Bool} {s : ByteArray} {i e : Nat} (h : RunEnd p s i e) : e = rE p s i := h.unique (rE_end p (Nat.le_trans h.lo h.hi))
/-- Where the name at i ends. -/
def nE (s : ByteArray) (i : Nat) : Nat := if stt (byteAt s i) then rE wd s i else rE sy s i
theorem nE_bd {s : ByteArray} {i : Nat} (h : i ≤ s.size) : i ≤ nE s i ∧ nE s i ≤ s.size := by
  unfold nE; split
  · exact ⟨(rE_end wd h).lo, (rE_end wd h).hi⟩
  · exact ⟨(rE_end sy h).lo, (rE_end sy h).hi⟩
def opo (c : Int) : Int := if c = 5 then 9 else if c = 6 then 10 else if 1 ≤ c ∧ c ≤ 4 then c else 0
/-- The place of byte i. -/
def pos (s : ByteArray) (i : Nat) : At := advN s i ⟨0, 1, 1⟩
theorem pos_at (s : ByteArray) (i : Nat) : (pos s i).at' = i := by rw [pos, advN_at]; simp
theorem advN_add (s : ByteArray) (m n : Nat) (H : At) : advN s m (advN s n H) = advN s (n + m) H := by
  induction m with
  | zero => rfl
  | succ m ih => rw [advN, ih, ← Nat.add_assoc, advN]
theorem advN_pos (s : ByteArray) (m i : Nat) : advN s m (pos s i) = pos s (i + m) := advN_add s m i _
theorem pos_bd (s : ByteArray) (i : Nat) : 1 ≤ (pos s i).line ∧ (pos s i).line ≤ i + 1 ∧ 1 ≤ (pos s i).col ∧ (pos s i).col ≤ 8 * i + 1 := by
  have h := advN_bd s i ⟨0, 1, 1⟩ (Nat.le_refl 1)
  have h1 : 1 ≤ (advN s i ⟨0, 1, 1⟩).line := by
    induction i with
    | zero => exact Nat.le_refl 1
    | succ i ih =>
      rw [advN]
      have := ih (advN_bd s i ⟨0, 1, 1⟩ (Nat.le_refl 1))
      unfold stepAt; split
      · simp
      · split <;> simpa using this
  unfold pos
  simp only at h
  exact ⟨h1, by omega, h.2.1, by omega⟩
/-- The fault at byte i. -/
def flt (s : ByteArray) (code : Int) (name : ByteArray) (i : Nat) : Flt := ⟨code, name, (pos s i).line, (pos s i).col⟩
/-- A token without its position. -/
structure Tk where
  op : Int
  qual : ByteArray
  text : ByteArray
  n : Int
/-- What a part of a unit comes to: a value and where it ends, or a fault and the byte at which it is. -/
inductive RR (α : Type) where
  | ok (a : α) (e : Nat)
  | bad (f : Flt)
def nil8 : ByteArray := ⟨#[]⟩
/-- The fault of a literal that begins at i0 and cannot go on at i. -/
def litF (s : ByteArray) (i0 i : Nat) : Flt := if (decide (i < s.size) && !gd (byteAt s i)) then flt s 5 nil8 i else flt s 7 nil8 i0
def litBad {α : Type} (s : ByteArray) (i0 i : Nat) : RR α := .bad (litF s i0 i)
def hexV (c : Int) : Option Int := if dg c then some (c - 48) else if 97 ≤ c ∧ c ≤ 102 then some (c - 87) else if 65 ≤ c ∧ c ≤ 70 then some (c - 55) else none
def hexR (s : ByteArray) (i0 i : Nat) : RR Int :=
  match hexV (byteAt s i) with
  | none => litBad s i0 i
  | some d => match hexV (byteAt s (i + 1)) with
    | none => litBad s i0 (i + 1)
    | some e => .ok (16 * d + e) (i + 2)
def escR (s : ByteArray) (i0 i : Nat) : RR Int :=
  if byteAt s i = 110 then .ok 10 (i + 1) else if byteAt s i = 116 then .ok 9 (i + 1) else if byteAt s i = 92 ∨ byteAt s i = 39 ∨ byteAt s i = 34 then .ok (byteAt s i) (i + 1) else if byteAt s i = 120 then hexR s i0 (i + 1) else litBad s i0 i
def litR (s : ByteArray) (q : Int) (i0 i : Nat) : RR Int :=
  if byteAt s i = 92 then escR s i0 (i + 1) else if byteAt s i = q ∨ prn (byteAt s i) = false then litBad s i0 i else .ok (byteAt s i) (i + 1)
def chrR (s : ByteArray) (i : Nat) : RR Tk :=
  match litR s 39 i (i + 1) with
  | .bad f => .bad f
  | .ok c e => if byteAt s e = 39 then .ok ⟨6, nil8, nil8, c⟩ (e + 1) else litBad s i e
def txtF (s : ByteArray) (i0 : Nat) : Nat → Nat → List UInt8 → RR Tk
  | 0, _, _ => .bad (flt s 7 nil8 i0)
  | n + 1, i, l =>
    if byteAt s i = 34 then .ok ⟨7, nil8, ⟨l.toArray⟩, 0⟩ (i + 1) else
    match litR s 34 i0 i with
    | .bad f => .bad f
    | .ok c e => if 200 < l.length + 1 then .bad (flt s 3 nil8 i0) else txtF s i0 n e (l ++ [c.toNat.toUInt8])
def txtR (s : ByteArray) (i : Nat) : RR Tk := txtF s i (s.size + 2 - i) (i + 1) []
def intF (s : ByteArray) (i0 : Nat) : Nat → Nat → Int → RR Tk
  | 0, i, n => .ok ⟨5, nil8, nil8, n⟩ i
  | k + 1, i, n => if dg (byteAt s i) then (if n > (9223372036854775807 - (byteAt s i - 48)) / 10 then .bad (flt s 6 nil8 i0) else intF s i0 k (i + 1) (10 * n + (byteAt s i - 48))) else .ok ⟨5, nil8, nil8, n⟩ i
def intR (s : ByteArray) (i : Nat) : RR Tk := intF s i (s.size - i) i 0
def comF (s : ByteArray) (i0 : Nat) : Nat → Nat → Int → RR Unit
  | 0, _, _ => .bad (flt s 8 nil8 i0)
  | k + 1, i, d =>
    if i < s.size then
      if byteAt s i = 123 ∧ byteAt s (i + 1) = 45 then (if d + 1 = 0 then .ok () (i + 2) else comF s i0 k (i + 2) (d + 1))
      else if byteAt s i = 45 ∧ byteAt s (i + 1) = 125 then (if d - 1 = 0 then .ok () (i + 2) else comF s i0 k (i + 2) (d - 1))
      else if gd (byteAt s i) = false then .bad (flt s 5 nil8 i)
      else (if d = 0 then .ok () (i + 1) else comF s i0 k (i + 1) d)
    else .bad (flt s 8 nil8 i0)
def comR (s : ByteArray) (i : Nat) : RR Unit := comF s i (s.size - i) i 0
def linF (s : ByteArray) : Nat → Nat → RR Unit
  | 0, i => .ok () i
  | k + 1, i => if byteAt s i = 10 then .ok () i else if gd (byteAt s i) = false then .bad (flt s 5 nil8 i) else linF s k (i + 1)
def linR (s : ByteArray) (i : Nat) : RR Unit := linF s (s.size - i) i
/-- The name from 'fr' on, behind a qualifier; the unit begins at i0. -/
def nmR (s : ByteArray) (i0 : Nat) (q : ByteArray) (fr : Nat) : RR Tk :=
  if 64 < nE s fr - fr then .bad (flt s 3 (s.extract fr (fr + 64)) i0) else .ok ⟨opo (cls (s.extract fr (nE s fr))), q, s.extract fr (nE s fr), 0⟩ (nE s fr)
/-- May a text stand behind a module and a point? -/
def qok (t : ByteArray) : Bool := !t.data.toList.isEmpty && (cls t != 5) && (cls t != 6) && !om t.data.toList
def idR (s : ByteArray) (i : Nat) : RR Tk :=
  if up (byteAt s i) && decide (rE wd s i < s.size) && decide (byteAt s (rE wd s i) = 46) && qok (s.extract (rE wd s i + 1) (nE s (rE wd s i + 1))) then
    if 64 < rE wd s i - i then .bad (flt s 3 (s.extract i (i + 64)) i) else nmR s i (s.extract i (rE wd s i)) (rE wd s i + 1)
  else nmR s i nil8 i
def spB : List UInt8 := [40, 41, 91, 93, 123, 125, 44, 59, 96]
def spc (n : Int) : Bool := decide (0 ≤ Lib.indexByte spB n.toNat.toUInt8)
/-- A unit that is no blank: a token, or nothing. -/
inductive UU where
  | tok (t : Tk) (e : Nat)
  | skip (e : Nat)
  | bad (f : Flt)
def RR.u : RR Tk → UU
  | .ok t e => .tok t e
  | .bad f => .bad f
def RR.v : RR Unit → UU
  | .ok _ e => .skip e
  | .bad f => .bad f
def unit (s : ByteArray) (i : Nat) : UU :=
  if byteAt s i = 123 ∧ byteAt s (i + 1) = 45 then (comR s i).v
  else if om (s.extract i (rE sy s i)).data.toList then (linR s i).v
  else if stt (byteAt s i) then (idR s i).u
  else if sy (byteAt s i) then (nmR s i nil8 i).u
  else if dg (byteAt s i) then (intR s i).u
  else if byteAt s i = 39 then (chrR s i).u
  else if byteAt s i = 34 then (txtR s i).u
  else if spc (byteAt s i) then .tok ⟨8, nil8, s.extract i (i + 1), 0⟩ (i + 1)
  else .bad (flt s 5 nil8 i)
/-- A token, as Lex gives it. -/
structure Tok where
  op : Int
  qual : ByteArray
  text : ByteArray
  n : Int
  auto : Bool
  line : Int
  col : Int
def Tk.at' (t : Tk) (p : At) : Tok := ⟨t.op, t.qual, t.text, t.n, false, p.line, p.col⟩
inductive LL where
  | ok (l : List Tok)
  | bad (f : Flt)
def lexF (s : ByteArray) : Nat → Nat → List Tok → LL
  | 0, _, l => .ok l
  | k + 1, i, l =>
    if i < s.size then
      if byteAt s i = 32 ∨ byteAt s i = 9 ∨ byteAt s i = 10 then lexF s k (i + 1) l
      else match unit s i with
        | .bad f => .bad f
        | .skip e => lexF s k e l
        | .tok t e => if l.length = 16384 then .bad (flt s 3 nil8 i) else lexF s k e (l ++ [t.at' (pos s i)])
    else .ok l
def lexP (s : ByteArray) : LL := if 65536 < s.size then .bad ⟨3, nil8, 0, 0⟩ else lexF s s.size 0 []
end Go.Proofs.YtelichlplblboaaGreatDoor
namespace Go.Proofs.YtelichlplblboaaGreatDoor
open Go.RowKit
theorem hexV_bd {c d : Int} (h : hexV c = some d) : 48 ≤ c ∧ 0 ≤ d ∧ d ≤ 15 := by
  unfold hexV dg at h
  by_cases h1 : 48 ≤ c ∧ c ≤ 57
  · rw [if_pos (by simp; omega)] at h; injection h with h; omega
  · rw [if_neg (by simp; omega)] at h
    by_cases h2 : 97 ≤ c ∧ c ≤ 102
    · rw [if_pos h2] at h; injection h with h; omega
    · rw [if_neg h2] at h
      by_cases h3 : 65 ≤ c ∧ c ≤ 70
      · rw [if_pos h3] at h; injection h with h; omega
      · rw [if_neg h3] at h; cases h
theorem litBad_ne {α : Type} {s : ByteArray} {i0 i : Nat} {a : α} {e : Nat} (h : litBad s i0 i = RR.ok a e) : False := by
  unfold litBad at h; cases h
theorem hexR_ok {s : ByteArray} {i0 i : Nat} {c : Int} {e : Nat} (h : hexR s i0 i = .ok c e) : i < e ∧ e ≤ s.size ∧ 0 ≤ c ∧ c ≤ 255 := by
  unfold hexR at h
  cases h1 : hexV (byteAt s i) with
  | none => rw [h1] at h; exact (litBad_ne h).elim
  | some d =>
    rw [h1] at h
    cases h2 : hexV (byteAt s (i + 1)) with
    | none => simp only [h2] at h; exact (litBad_ne h).elim
    | some f =>
      simp only [h2] at h
      injection h with h h'
      have b1 := hexV_bd h1
      have b2 := hexV_bd h2
      have := byteAt_pos (s := s) (i := i + 1) (by omega)
      omega
theorem escR_ok {s : ByteArray} {i0 i : Nat} {c : Int} {e : Nat} (h : escR s i0 i = .ok c e) : i < e ∧ e ≤ s.size ∧ 0 ≤ c ∧ c ≤ 255 := by
  unfold escR at h
  have hp := @byteAt_pos s i
  have hb := byteAt_bd s i
  by_cases h1 : byteAt s i = 110
  · rw [if_pos h1] at h; injection h with h h'; have := hp (by omega); omega
  · rw [if_neg h1] at h
    by_cases h2 : byteAt s i = 116
    · rw [if_pos h2] at h; injection h with h h'; have := hp (by omega); omega
    · rw [if_neg h2] at h
      by_cases h3 : byteAt s i = 92 ∨ byteAt s i = 39 ∨ byteAt s i = 34
      · rw [if_pos h3] at h; injection h with h h'; have := hp (by omega); omega
      · rw [if_neg h3] at h
        by_cases h4 : byteAt s i = 120
        · rw [if_pos h4] at h; have := hexR_ok h; omega
        · rw [if_neg h4] at h; exact (litBad_ne h).elim
theorem prn_bd {c : Int} (h : prn c ≠ false) : 32 ≤ c ∧ c ≤ 126 := by
  unfold prn at h; simp at h; exact h
theorem litR_ok {s : ByteArray} {q : Int} {i0 i : Nat} {c : Int} {e : Nat} (h : litR s q i0 i = .ok c e) : i < e ∧ e ≤ s.size ∧ 0 ≤ c ∧ c ≤ 255 := by
  unfold litR at h
  have hp := @byteAt_pos s i
  have hb := byteAt_bd s i
  by_cases h1 : byteAt s i = 92
  · rw [if_pos h1] at h; have := escR_ok h; omega
  · rw [if_neg h1] at h
    by_cases h2 : byteAt s i = q ∨ prn (byteAt s i) = false
    · rw [if_pos h2] at h; exact (litBad_ne h).elim
    · rw [if_neg h2] at h; injection h with h h'
      have := prn_bd (fun hc => h2 (.inr hc))
      have := hp (by omega)
      omega
theorem chrR_ok {s : ByteArray} {i : Nat} {t : Tk} {e : Nat} (h : chrR s i = .ok t e) : i < e ∧ e ≤ s.size := by
  unfold chrR at h
  cases h1 : litR s 39 i (i + 1) with
  | bad f => simp only [h1] at h; cases h
  | ok c f =>
    simp only [h1] at h
    have b := litR_ok h1
    by_cases h2 : byteAt s f = 39
    · rw [if_pos h2] at h; injection h with h h'; have := byteAt_pos (s := s) (i := f) (by omega); omega
    · rw [if_neg h2] at h; exact (litBad_ne h).elim
theorem txtF_ok {s : ByteArray} {i0 : Nat} (k : Nat) : ∀ {i : Nat} {l : List UInt8} {t : Tk} {e : Nat}, txtF s i0 k i l = .ok t e → i < e ∧ e ≤ s.size := by
  induction k with
  | zero => intro i l t e h; cases h
  | succ k ih =>
    intro i l t e h
    unfold txtF at h
    by_cases h2 : byteAt s i = 34
    · rw [if_pos h2] at h; injection h with h h'; have := byteAt_pos (s := s) (i := i) (by omega); omega
    · rw [if_neg h2] at h
      cases h1 : litR s 34 i0 i with
      | bad f => simp only [h1] at h; cases h
      | ok c f =>
        simp only [h1] at h
        have b := litR_ok h1
        by_cases h3 : 200 < l.length + 1
        · rw [if_pos h3] at h; cases h
        · rw [if_neg h3] at h; have := ih h; omega
theorem dg_bd {c : Int} (h : dg c = true) : 48 ≤ c ∧ c ≤ 57 := by unfold dg at h; simp at h; exact h
theorem intF_ok {s : ByteArray} {i0 : Nat} (k : Nat) : ∀ {i : Nat} {n : Int} {t : Tk} {e : Nat}, i + k = s.size → intF s i0 k i n = .ok t e → i ≤ e ∧ e ≤ s.size := by
  induction k with
  | zero => intro i n t e hk h; injection h with h h'; omega
  | succ k ih =>
    intro i n t e hk h
    unfold intF at h
    by_cases h1 : dg (byteAt s i) = true
    · rw [if_pos h1] at h
      by_cases h2 : n > (9223372036854775807 - (byteAt s i - 48)) / 10
      · rw [if_pos h2] at h; cases h
      · rw [if_neg h2] at h; have := ih (by omega) h; omega
    · rw [if_neg h1] at h; injection h with h h'; omega
theorem intR_ok {s : ByteArray} {i : Nat} {t : Tk} {e : Nat} (hd : dg (byteAt s i) = true) (h : intR s i = .ok t e) : i < e ∧ e ≤ s.size := by
  have b := dg_bd hd
  have hi := byteAt_pos (s := s) (i := i) (by omega)
  unfold intR at h
  obtain ⟨k, hk⟩ : ∃ k, s.size - i = k + 1 := ⟨s.size - i - 1, by omega⟩
  rw [hk] at h
  unfold intF at h
  rw [if_pos hd] at h
  by_cases h2 : (0 : Int) > (9223372036854775807 - (byteAt s i - 48)) / 10
  · rw [if_pos h2] at h; cases h
  · rw [if_neg h2] at h; have := intF_ok k (by omega) h; omega
theorem comF_ok {s : ByteArray} {i0 : Nat} (k : Nat) : ∀ {i : Nat} {d : Int} {u : Unit} {e : Nat}, comF s i0 k i d = .ok u e → i < e ∧ e ≤ s.size := by
  induction k with
  | zero => intro i d u e h; cases h
  | succ k ih =>
    intro i d u e h
    unfold comF at h
    by_cases h0 : i < s.size
    · rw [if_pos h0] at h
      by_cases h1 : byteAt s i = 123 ∧ byteAt s (i + 1) = 45
      · rw [if_pos h1] at h
        have := byteAt_pos (s := s) (i := i + 1) (by omega)
        by_cases hd : d + 1 = 0
        · rw [if_pos hd] at h; injection h with h h'; omega
        · rw [if_neg hd] at h; have := ih h; omega
      · rw [if_neg h1] at h
        by_cases h2 : byteAt s i = 45 ∧ byteAt s (i + 1) = 125
        · rw [if_pos h2] at h
          have := byteAt_pos (s := s) (i := i + 1) (by omega)
          by_cases hd : d - 1 = 0
          · rw [if_pos hd] at h; injection h with h h'; omega
          · rw [if_neg hd] at h; have := ih h; omega
        · rw [if_neg h2] at h
          by_cases h3 : gd (byteAt s i) = false
          · rw [if_pos h3] at h; cases h
          · rw [if_neg h3] at h
            by_cases hd : d = 0
            · rw [if_pos hd] at h; injection h with h h'; omega
            · rw [if_neg hd] at h; have := ih h; omega
    · rw [if_neg h0] at h; cases h
theorem linF_ok {s : ByteArray} (k : Nat) : ∀ {i : Nat} {u : Unit} {e : Nat}, i + k = s.size → linF s k i = .ok u e → i ≤ e ∧ e ≤ s.size := by
  induction k with
  | zero => intro i u e hk h; injection h with h h'; omega
  | succ k ih =>
    intro i u e hk h
    unfold linF at h
    by_cases h1 : byteAt s i = 10
    · rw [if_pos h1] at h; injection h with h h'; omega
    · rw [if_neg h1] at h
      by_cases h2 : gd (byteAt s i) = false
      · rw [if_pos h2] at h; cases h
      · rw [if_neg h2] at h; have := ih (by omega) h; omega
theorem gd45 : gd 45 = true := by decide
theorem linR_ok {s : ByteArray} {i : Nat} {u : Unit} {e : Nat} (hi : byteAt s i = 45) (h : linR s i = .ok u e) : i < e ∧ e ≤ s.size := by
  have hl := byteAt_pos (s := s) (i := i) (by omega)
  unfold linR at h
  obtain ⟨k, hk⟩ : ∃ k, s.size - i = k + 1 := ⟨s.size - i - 1, by omega⟩
  rw [hk] at h
  unfold linF at h
  rw [hi, if_neg (by decide), gd45, if_neg (by decide)] at h
  have := linF_ok k (by omega) h; omega
theorem nmR_ok {s : ByteArray} {i0 : Nat} {q : ByteArray} {fr : Nat} {t : Tk} {e : Nat} (h : nmR s i0 q fr = .ok t e) : e = nE s fr := by
  unfold nmR at h
  by_cases h1 : 64 < nE s fr - fr
  · rw [if_pos h1] at h; cases h
  · rw [if_neg h1] at h; injection h with h h'; exact h'.symm
theorem rE_lt {p : Int → Bool} {s : ByteArray} {i : Nat} (h : i < s.size) (hp : p (byteAt s i) = true) : i < rE p s i := by
  have k := rE_end p (Nat.le_of_lt h)
  rcases Nat.lt_or_eq_of_le k.lo with h1 | h1
  · exact h1
  · have := k.stop (by omega); rw [← h1, hp] at this; cases this
theorem wd_of_stt {c : Int} (h : stt c = true) : wd c = true := by unfold wd; rw [h]; rfl
theorem stt_bd {c : Int} (h : stt c = true) : 65 ≤ c ∧ c ≤ 122 := by
  unfold stt lw up at h; simp at h; omega
theorem nE_lt {s : ByteArray} {i : Nat} (h : i < s.size) (hp : stt (byteAt s i) = true ∨ sy (byteAt s i) = true) : i < nE s i := by
  unfold nE
  split
  · rename_i hs; exact rE_lt h (wd_of_stt hs)
  · rename_i hs; exact rE_lt h (by rcases hp with hp | hp; exact absurd hp hs; exact hp)
theorem sy_0 : sy 0 = false := by decide
theorem sy_pos {s : ByteArray} {i : Nat} (h : sy (byteAt s i) = true) : i < s.size := by
  by_cases hl : i < s.size
  · exact hl
  · rw [byteAt_ge (by omega), sy_0] at h; cases h
theorem stt_pos {s : ByteArray} {i : Nat} (h : stt (byteAt s i) = true) : i < s.size := byteAt_pos (by have := stt_bd h; omega)
theorem idR_ok {s : ByteArray} {i : Nat} {t : Tk} {e : Nat} (hs : stt (byteAt s i) = true) (h : idR s i = .ok t e) : i < e ∧ e ≤ s.size := by
  have hl := stt_pos hs
  unfold idR at h
  split at h
  · rename_i hc
    simp at hc
    split at h
    · cases h
    · rw [nmR_ok h]
      have h1 := rE_lt hl (wd_of_stt hs)
      have h2 := nE_bd (s := s) (i := rE wd s i + 1) (by omega)
      omega
  · rw [nmR_ok h]
    exact ⟨nE_lt hl (.inl hs), (nE_bd (Nat.le_of_lt hl)).2⟩
/-- Of a run of minus signs the first byte. -/
theorem om_head {s : ByteArray} {i e : Nat} (h : om (s.extract i e).data.toList = true) : byteAt s i = 45 := by
  unfold om at h
  simp only [Bool.and_eq_true, decide_eq_true_eq, List.all_eq_true] at h
  obtain ⟨h1, h2⟩ := h
  have hz : (s.extract i e).size = (s.extract i e).data.toList.length := Lib.size_eq _
  have hz2 : (s.extract i e).size = min e s.size - i := by simp
  have hi : i < s.size := by omega
  have h0 : 0 < (s.extract i e).data.toList.length := by omega
  have h3 := h2 _ (List.getElem_mem h0)
  rw [byteAt_lt hi]
  have h4 : (s.extract i e).data.toList[0]'h0 = s[i] := by
    have hh : (s.extract i e)[0]'(by omega) = s[i] := by simp [ByteArray.getElem_extract]
    exact hh
  rw [h4] at h3
  unfold mn at h3
  simp at h3
  rw [h3]; rfl
/-- A unit ends behind where it begins, within the source. -/
theorem unit_end {s : ByteArray} {i : Nat} (hi : i < s.size) : (∀ e, unit s i = .skip e → i < e ∧ e ≤ s.size) ∧ (∀ t e, unit s i = .tok t e → i < e ∧ e ≤ s.size) := by
  have ru : ∀ {r : RR Tk}, (∀ t e, r = .ok t e → i < e ∧ e ≤ s.size) → (∀ e, r.u = .skip e → i < e ∧ e ≤ s.size) ∧ (∀ t e, r.u = .tok t e → i < e ∧ e ≤ s.size) := by
    intro r h
    cases r with
    | ok a f => exact ⟨fun e he => by (cases he), fun t e he => by (injection he with a1 a2; subst a2; exact h _ _ rfl)⟩
    | bad f => exact ⟨fun e he => by (cases he), fun t e he => by (cases he)⟩
  have rv : ∀ {r : RR Unit}, (∀ t e, r = .ok t e → i < e ∧ e ≤ s.size) → (∀ e, r.v = .skip e → i < e ∧ e ≤ s.size) ∧ (∀ t e, r.v = .tok t e → i < e ∧ e ≤ s.size) := by
    intro r h
    cases r with
    | ok a f => exact ⟨fun e he => by (injection he with a2; subst a2; exact h _ _ rfl), fun t e he => by (cases he)⟩
    | bad f => exact ⟨fun e he => by (cases he), fun t e he => by (cases he)⟩
  unfold unit
  by_cases h1 : byteAt s i = 123 ∧ byteAt s (i + 1) = 45
  · rw [if_pos h1]; exact rv fun t e he => comF_ok _ he
  rw [if_neg h1]
  by_cases h2 : om (s.extract i (rE sy s i)).data.toList = true
  · rw [if_pos h2]; exact rv fun t e he => linR_ok (om_head h2) he
  rw [if_neg h2]
  by_cases h3 : stt (byteAt s i) = true
  · rw [if_pos h3]; exact ru fun t e he => idR_ok h3 he
  rw [if_neg h3]
  by_cases h4 : sy (byteAt s i) = true
  · rw [if_pos h4]
    refine ru fun t e he => ?_
    rw [nmR_ok he]
    exact ⟨nE_lt hi (.inr h4), (nE_bd (Nat.le_of_lt hi)).2⟩
  rw [if_neg h4]
  by_cases h5 : dg (byteAt s i) = true
  · rw [if_pos h5]; exact ru fun t e he => intR_ok h5 he
  rw [if_neg h5]
  by_cases h6 : byteAt s i = 39
  · rw [if_pos h6]; exact ru fun t e he => chrR_ok he
  rw [if_neg h6]
  by_cases h7 : byteAt s i = 34
  · rw [if_pos h7]; exact ru fun t e he => by have := txtF_ok _ he; omega
  rw [if_neg h7]
  by_cases h8 : spc (byteAt s i) = true
  · rw [if_pos h8]
    exact ⟨fun e he => by (cases he), fun t e he => by injection he with a1 a2; omega⟩
  rw [if_neg h8]
  exact ⟨fun e he => by (cases he), fun t e he => by (cases he)⟩
end Go.Proofs.YtelichlplblboaaGreatDoor
namespace Go.Proofs.YtelichlplblboaaGreatDoor
open Go.RowKit
/-- f is a fault of s at some byte. -/
def IsF (s : ByteArray) (f : Flt) : Prop := ∃ (c : Int) (n : ByteArray) (a : Nat), c ≠ 0 ∧ f = flt s c n a
theorem IsF.mk' {s : ByteArray} {c : Int} {n : ByteArray} {a : Nat} (h : c ≠ 0) : IsF s (flt s c n a) := ⟨c, n, a, h, rfl⟩
theorem IsF.code {s : ByteArray} {f : Flt} (h : IsF s f) : f.code ≠ 0 := by obtain ⟨c, n, a, hc, rfl⟩ := h; exact hc
theorem IsF.place {s : ByteArray} {f : Flt} (h : IsF s f) : 1 ≤ f.line ∧ 1 ≤ f.col := by
  obtain ⟨c, n, a, hc, rfl⟩ := h
  have := pos_bd s a
  exact ⟨this.1, this.2.2.1⟩
theorem litF_is (s : ByteArray) (i0 i : Nat) : IsF s (litF s i0 i) := by
  unfold litF; split <;> exact IsF.mk' (by decide)
theorem litBad_is {α : Type} {s : ByteArray} {i0 i : Nat} {f : Flt} (h : (litBad s i0 i : RR α) = .bad f) : IsF s f := by
  unfold litBad at h; injection h with h; rw [← h]; exact litF_is s i0 i
theorem hexR_is {s : ByteArray} {i0 i : Nat} {f : Flt} (h : hexR s i0 i = .bad f) : IsF s f := by
  unfold hexR at h
  split at h
  · exact litBad_is h
  · split at h
    · exact litBad_is h
    · cases h
theorem escR_is {s : ByteArray} {i0 i : Nat} {f : Flt} (h : escR s i0 i = .bad f) : IsF s f := by
  unfold escR at h
  split at h
  · cases h
  split at h
  · cases h
  split at h
  · cases h
  split at h
  · exact hexR_is h
  · exact litBad_is h
theorem litR_is {s : ByteArray} {q : Int} {i0 i : Nat} {f : Flt} (h : litR s q i0 i = .bad f) : IsF s f := by
  unfold litR at h
  split at h
  · exact escR_is h
  split at h
  · exact litBad_is h
  · cases h
theorem chrR_is {s : ByteArray} {i : Nat} {f : Flt} (h : chrR s i = .bad f) : IsF s f := by
  unfold chrR at h
  split at h
  · rename_i hl; injection h with h; subst h; exact litR_is hl
  · split at h
    · cases h
    · exact litBad_is h
theorem txtF_is {s : ByteArray} {i0 : Nat} {f : Flt} (k : Nat) : ∀ {i : Nat} {l : List UInt8}, txtF s i0 k i l = .bad f → IsF s f := by
  induction k with
  | zero => intro i l h; injection h with h; rw [← h]; exact IsF.mk' (by decide)
  | succ k ih =>
    intro i l h
    unfold txtF at h
    split at h
    · cases h
    split at h
    · rename_i hl; injection h with h; subst h; exact litR_is hl
    · split at h
      · injection h with h; rw [← h]; exact IsF.mk' (by decide)
      · exact ih h
theorem intF_is {s : ByteArray} {i0 : Nat} {f : Flt} (k : Nat) : ∀ {i : Nat} {n : Int}, intF s i0 k i n = .bad f → IsF s f := by
  induction k with
  | zero => intro i n h; cases h
  | succ k ih =>
    intro i n h
    unfold intF at h
    split at h
    · split at h
      · injection h with h; rw [← h]; exact IsF.mk' (by decide)
      · exact ih h
    · cases h
theorem comF_is {s : ByteArray} {i0 : Nat} {f : Flt} (k : Nat) : ∀ {i : Nat} {d : Int}, comF s i0 k i d = .bad f → IsF s f := by
  induction k with
  | zero => intro i d h; injection h with h; rw [← h]; exact IsF.mk' (by decide)
  | succ k ih =>
    intro i d h
    unfold comF at h
    split at h
    · split at h
      · split at h
        · cases h
        · exact ih h
      split at h
      · split at h
        · cases h
        · exact ih h
      split at h
      · injection h with h; rw [← h]; exact IsF.mk' (by decide)
      · split at h
        · cases h
        · exact ih h
    · injection h with h; rw [← h]; exact IsF.mk' (by decide)
theorem linF_is {s : ByteArray} {f : Flt} (k : Nat) : ∀ {i : Nat}, linF s k i = .bad f → IsF s f := by
  induction k with
  | zero => intro i h; cases h
  | succ k ih =>
    intro i h
    unfold linF at h
    split at h
    · cases h
    split at h
    · injection h with h; rw [← h]; exact IsF.mk' (by decide)
    · exact ih h
theorem nmR_is {s : ByteArray} {i0 : Nat} {q : ByteArray} {fr : Nat} {f : Flt} (h : nmR s i0 q fr = .bad f) : IsF s f := by
  unfold nmR at h
  split at h
  · injection h with h; rw [← h]; exact IsF.mk' (by decide)
  · cases h
theorem idR_is {s : ByteArray} {i : Nat} {f : Flt} (h : idR s i = .bad f) : IsF s f := by
  unfold idR at h
  split at h
  · split at h
    · injection h with h; rw [← h]; exact IsF.mk' (by decide)
    · exact nmR_is h
  · exact nmR_is h
theorem u_bad {r : RR Tk} {f : Flt} (h : r.u = .bad f) : r = .bad f := by
  cases r with
  | ok a e => cases h
  | bad g => injection h with h; rw [h]
theorem v_bad {r : RR Unit} {f : Flt} (h : r.v = .bad f) : r = .bad f := by
  cases r with
  | ok a e => cases h
  | bad g => injection h with h; rw [h]
theorem unit_is {s : ByteArray} {i : Nat} {f : Flt} (h : unit s i = .bad f) : IsF s f := by
  unfold unit at h
  split at h
  · exact comF_is _ (v_bad h)
  split at h
  · exact linF_is _ (v_bad h)
  split at h
  · exact idR_is (u_bad h)
  split at h
  · exact nmR_is (u_bad h)
  split at h
  · exact intF_is _ (u_bad h)
  split at h
  · exact chrR_is (u_bad h)
  split at h
  · exact txtF_is _ (u_bad h)
  split at h
  · cases h
  · injection h with h; rw [← h]; exact IsF.mk' (by decide)
theorem lexF_is {s : ByteArray} {f : Flt} (k : Nat) : ∀ {i : Nat} {l : List Tok}, lexF s k i l = .bad f → IsF s f := by
  induction k with
  | zero => intro i l h; cases h
  | succ k ih =>
    intro i l h
    unfold lexF at h
    split at h
    · split at h
      · exact ih h
      split at h
      · rename_i hu; injection h with h; subst h; exact unit_is hu
      · exact ih h
      · split at h
        · injection h with h; rw [← h]; exact IsF.mk' (by decide)
        · exact ih h
    · cases h
theorem lexF_len {s : ByteArray} (k : Nat) : ∀ {i : Nat} {l r : List Tok}, l.length ≤ 16384 → lexF s k i l = .ok r → r.length ≤ 16384 := by
  induction k with
  | zero => intro i l r hl h; injection h with h; rw [← h]; exact hl
  | succ k ih =>
    intro i l r hl h
    unfold lexF at h
    split at h
    · split at h
      · exact ih hl h
      split at h
      · cases h
      · exact ih hl h
      · split at h
        · cases h
        · rename_i hn; exact ih (by rw [List.length_append]; simp; omega) h
    · injection h with h; rw [← h]; exact hl
end Go.Proofs.YtelichlplblboaaGreatDoor
