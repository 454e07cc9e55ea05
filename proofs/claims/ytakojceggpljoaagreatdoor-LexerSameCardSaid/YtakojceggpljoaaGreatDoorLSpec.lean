/-
  PLAIN. What the lexer computes: a unit, a source, as functions on bytes.
-/
import Derived.Test.YtakojceggpljoaaGreatDoorLFail
import Derived.Test.YtakojceggpljoaaGreatDoorNm3
namespace Go.Proofs.YtakojceggpljoaaGreatDoor
open Go.RowKit
theorem byteAt_lt {s : ByteArray} {i : Nat} (h : i < s.size) : byteAt s i = ((s[i]'h).toNat : Int) := by simp [byteAt, h]
theorem byteAt_ge {s : ByteArray} {i : Nat} (h : s.size ≤ i) : byteAt s i = 0 := by simp [byteAt, Nat.not_lt.2 h]
theorem byteAt_bd (s : ByteArray) (i : Nat) : 0 ≤ byteAt s i ∧ byteAt s i ≤ 255 := by
  unfold byteAt; split
  · rename_i h
    have := (s[i]'h).toNat_lt
    omega
  · omega
theorem byteAt_pos {s : ByteArray} {i : Nat} (h : byteAt s i ≠ 0) : i < s.size := by
  by_cases hl : i < s.size
  · exact hl
  · exact absurd (byteAt_ge (by omega)) h
/-- Where the run of p from i on ends, with fuel. -/
def runF (p : Int → Bool) (s : ByteArray) : Nat → Nat → Nat
  | 0, i => i
  | n + 1, i => if p (byteAt s i) then runF p s n (i + 1) else i
def rE (p : Int → Bool) (s : ByteArray) (i : Nat) : Nat := runF p s (s.size - i) i
theorem runF_end (p : Int → Bool) (s : ByteArray) (n : Nat) : ∀ i, i + n = s.size → RunEnd p s i (runF p s n i) := by
  induction n with
  | zero => intro i h; exact ⟨Nat.le_refl _, by simp [runF]; omega, fun k h1 h2 => absurd h2 (by simp [runF]; omega), fun h' => absurd h' (by simp [runF]; omega)⟩
  | succ n ih =>
    intro i h
    rw [runF]
    cases hp : p (byteAt s i)
    · simp only [Bool.false_eq_true, if_false]
      exact ⟨Nat.le_refl _, by omega, fun k h1 h2 => absurd h2 (by omega), fun _ => hp⟩
    · simp only [if_true]
      have k := ih (i + 1) (by omega)
      refine ⟨by have := k.lo; omega, k.hi, fun j h1 h2 => ?_, k.stop⟩
      by_cases e : j = i
      · rw [e]; exact hp
      · exact k.all j (by omega) h2
theorem rE_end (p : Int → Bool) {s : ByteArray} {i : Nat} (h : i ≤ s.size) : RunEnd p s i (rE p s i) := runF_end p s _ i (by omega)
theorem rE_of {p : Int → Bool} {s : ByteArray} {i e : Nat} (h : RunEnd p s i e) : e = rE p s i := h.unique (rE_end p (Nat.le_trans h.lo h.hi))
/-- Where the name at i ends. -/
def nE (s : ByteArray) (i : Nat) : Nat := if stt (byteAt s i) then rE wd s i else rE sy s i
theorem nE_bd {s : ByteArray} {i : Nat} (h : i ≤ s.size) : i ≤ nE s i ∧ nE s i ≤ s.size := by
  unfold nE; split
  · exact ⟨(rE_end wd h).lo, (rE_end wd h).hi⟩
  · exact ⟨(rE_end sy h).lo, (rE_end sy h).hi⟩
def opo (c : Int) : Int := if c = 5 then 9 else if c = 6 then 10 else if 1 ≤ c ∧ c ≤ 4 then c else 0
/-- The place of byte i. -/
def pos (s : ByteArray) (i : Nat) : At := advN s i ⟨0, 1, 1⟩
theorem pos_at (s : ByteArray) (i : Nat) : (pos s i).at' = i := by rw [pos, advN_at]; simp
theorem advN_add (s : ByteArray) (m n : Nat) (H : At) : advN s m (advN s n H) = advN s (n + m) H := by
  induction m with
  | zero => rfl
  | succ m ih => rw [advN, ih, ← Nat.add_assoc, advN]
theorem advN_pos (s : ByteArray) (m i : Nat) : advN s m (pos s i) = pos s (i + m) := advN_add s m i _
theorem pos_bd (s : ByteArray) (i : Nat) : 1 ≤ (pos s i).line ∧ (pos s i).line ≤ i + 1 ∧ 1 ≤ (pos s i).col ∧ (pos s i).col ≤ 8 * i + 1 := by
  have h := advN_bd s i ⟨0, 1, 1⟩ (Nat.le_refl 1)
  have h1 : 1 ≤ (advN s i ⟨0, 1, 1⟩).line := by
    induction i with
    | zero => exact Nat.le_refl 1
    | succ i ih =>
      rw [advN]
      have := ih (advN_bd s i ⟨0, 1, 1⟩ (Nat.le_refl 1))
      unfold stepAt; split
      · simp
      · split <;> simpa using this
  unfold pos
  simp only at h
  exact ⟨h1, by omega, h.2.1, by omega⟩
/-- The fault at byte i. -/
def flt (s : ByteArray) (code : Int) (name : ByteArray) (i : Nat) : Flt := ⟨code, name, (pos s i).line, (pos s i).col⟩
/-- A token without its position. -/
structure Tk where
  op : Int
  qual : ByteArray
  text : ByteArray
  n : Int
/-- What a part of a unit comes to: a value and where it ends, or a fault and the byte at which it is. -/
inductive RR (α : Type) where
  | ok (a : α) (e : Nat)
  | bad (f : Flt)
def nil8 : ByteArray := ⟨#[]⟩
/-- The fault of a literal that begins at i0 and cannot go on at i. -/
def litF (s : ByteArray) (i0 i : Nat) : Flt := if (decide (i < s.size) && !gd (byteAt s i)) then flt s 5 nil8 i else flt s 7 nil8 i0
def litBad {α : Type} (s : ByteArray) (i0 i : Nat) : RR α := .bad (litF s i0 i)
def hexV (c : Int) : Option Int := if dg c then some (c - 48) else if 97 ≤ c ∧ c ≤ 102 then some (c - 87) else if 65 ≤ c ∧ c ≤ 70 then some (c - 55) else none
def hexR (s : ByteArray) (i0 i : Nat) : RR Int :=
  match hexV (byteAt s i) with
  | none => litBad s i0 i
  | some d => match hexV (byteAt s (i + 1)) with
    | none => litBad s i0 (i + 1)
    | some e => .ok (16 * d + e) (i + 2)
def escR (s : ByteArray) (i0 i : Nat) : RR Int :=
  if byteAt s i = 110 then .ok 10 (i + 1) else if byteAt s i = 116 then .ok 9 (i + 1) else if byteAt s i = 92 ∨ byteAt s i = 39 ∨ byteAt s i = 34 then .ok (byteAt s i) (i + 1) else if byteAt s i = 120 then hexR s i0 (i + 1) else litBad s i0 i
def litR (s : ByteArray) (q : Int) (i0 i : Nat) : RR Int :=
  if byteAt s i = 92 then escR s i0 (i + 1) else if byteAt s i = q ∨ prn (byteAt s i) = false then litBad s i0 i else .ok (byteAt s i) (i + 1)
def chrR (s : ByteArray) (i : Nat) : RR Tk :=
  match litR s 39 i (i + 1) with
  | .bad f => .bad f
  | .ok c e => if byteAt s e = 39 then .ok ⟨6, nil8, nil8, c⟩ (e + 1) else litBad s i e
def txtF (s : ByteArray) (i0 : Nat) : Nat → Nat → List UInt8 → RR Tk
  | 0, _, _ => .bad (flt s 7 nil8 i0)
  | n + 1, i, l =>
    if byteAt s i = 34 then .ok ⟨7, nil8, ⟨l.toArray⟩, 0⟩ (i + 1) else
    match litR s 34 i0 i with
    | .bad f => .bad f
    | .ok c e => if 200 < l.length + 1 then .bad (flt s 3 nil8 i0) else txtF s i0 n e (l ++ [c.toNat.toUInt8])
def txtR (s : ByteArray) (i : Nat) : RR Tk := txtF s i (s.size + 2 - i) (i + 1) []
def intF (s : ByteArray) (i0 : Nat) : Nat → Nat → Int → RR Tk
  | 0, i, n => .ok ⟨5, nil8, nil8, n⟩ i
  | k + 1, i, n => if dg (byteAt s i) then (if n > (9223372036854775807 - (byteAt s i - 48)) / 10 then .bad (flt s 6 nil8 i0) else intF s i0 k (i + 1) (10 * n + (byteAt s i - 48))) else .ok ⟨5, nil8, nil8, n⟩ i
def intR (s : ByteArray) (i : Nat) : RR Tk := intF s i (s.size - i) i 0
def comF (s : ByteArray) (i0 : Nat) : Nat → Nat → Int → RR Unit
  | 0, _, _ => .bad (flt s 8 nil8 i0)
  | k + 1, i, d =>
    if i < s.size then
      if byteAt s i = 123 ∧ byteAt s (i + 1) = 45 then (if d + 1 = 0 then .ok () (i + 2) else comF s i0 k (i + 2) (d + 1))
      else if byteAt s i = 45 ∧ byteAt s (i + 1) = 125 then (if d - 1 = 0 then .ok () (i + 2) else comF s i0 k (i + 2) (d - 1))
      else if gd (byteAt s i) = false then .bad (flt s 5 nil8 i)
      else (if d = 0 then .ok () (i + 1) else comF s i0 k (i + 1) d)
    else .bad (flt s 8 nil8 i0)
def comR (s : ByteArray) (i : Nat) : RR Unit := comF s i (s.size - i) i 0
def linF (s : ByteArray) : Nat → Nat → RR Unit
  | 0, i => .ok () i
  | k + 1, i => if byteAt s i = 10 then .ok () i else if gd (byteAt s i) = false then .bad (flt s 5 nil8 i) else linF s k (i + 1)
def linR (s : ByteArray) (i : Nat) : RR Unit := linF s (s.size - i) i
/-- The name from 'fr' on, behind a qualifier; the unit begins at i0. -/
def nmR (s : ByteArray) (i0 : Nat) (q : ByteArray) (fr : Nat) : RR Tk :=
  if 64 < nE s fr - fr then .bad (flt s 3 (s.extract fr (fr + 64)) i0) else .ok ⟨opo (cls (s.extract fr (nE s fr))), q, s.extract fr (nE s fr), 0⟩ (nE s fr)
/-- May a text stand behind a module and a point? -/
def qok (t : ByteArray) : Bool := !t.data.toList.isEmpty && (cls t != 5) && (cls t != 6) && !om t.data.toList
def idR (s : ByteArray) (i : Nat) : RR Tk :=
  if up (byteAt s i) && decide (rE wd s i < s.size) && decide (byteAt s (rE wd s i) = 46) && qok (s.extract (rE wd s i + 1) (nE s (rE wd s i + 1))) then
    if 64 < rE wd s i - i then .bad (flt s 3 (s.extract i (i + 64)) i) else nmR s i (s.extract i (rE wd s i)) (rE wd s i + 1)
  else nmR s i nil8 i
def spB : List UInt8 := [40, 41, 91, 93, 123, 125, 44, 59, 96]
def spc (n : Int) : Bool := decide (0 ≤ Lib.indexByte spB n.toNat.toUInt8)
/-- A unit that is no blank: a token, or nothing. -/
inductive UU where
  | tok (t : Tk) (e : Nat)
  | skip (e : Nat)
  | bad (f : Flt)
def RR.u : RR Tk → UU
  | .ok t e => .tok t e
  | .bad f => .bad f
def RR.v : RR Unit → UU
  | .ok _ e => .skip e
  | .bad f => .bad f
def unit (s : ByteArray) (i : Nat) : UU :=
  if byteAt s i = 123 ∧ byteAt s (i + 1) = 45 then (comR s i).v
  else if om (s.extract i (rE sy s i)).data.toList then (linR s i).v
  else if stt (byteAt s i) then (idR s i).u
  else if sy (byteAt s i) then (nmR s i nil8 i).u
  else if dg (byteAt s i) then (intR s i).u
  else if byteAt s i = 39 then (chrR s i).u
  else if byteAt s i = 34 then (txtR s i).u
  else if spc (byteAt s i) then .tok ⟨8, nil8, s.extract i (i + 1), 0⟩ (i + 1)
  else .bad (flt s 5 nil8 i)
/-- A token, as Lex gives it. -/
structure Tok where
  op : Int
  qual : ByteArray
  text : ByteArray
  n : Int
  auto : Bool
  line : Int
  col : Int
def Tk.at' (t : Tk) (p : At) : Tok := ⟨t.op, t.qual, t.text, t.n, false, p.line, p.col⟩
inductive LL where
  | ok (l : List Tok)
  | bad (f : Flt)
def lexF (s : ByteArray) : Nat → Nat → List Tok → LL
  | 0, _, l => .ok l
  | k + 1, i, l =>
    if i < s.size then
      if byteAt s i = 32 ∨ byteAt s i = 9 ∨ byteAt s i = 10 then lexF s k (i + 1) l
      else match unit s i with
        | .bad f => .bad f
        | .skip e => lexF s k e l
        | .tok t e => if l.length = 16384 then .bad (flt s 3 nil8 i) else lexF s k e (l ++ [t.at' (pos s i)])
    else .ok l
def lexP (s : ByteArray) : LL := if 65536 < s.size then .bad ⟨3, nil8, 0, 0⟩ else lexF s s.size 0 []
end Go.Proofs.YtakojceggpljoaaGreatDoor
