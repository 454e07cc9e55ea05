/-
  The scanner's main method: a scope with labels; what holds at each.
-/
import Derived.Test.YtakojceggpljoaaGreatDoorLAcc
import Derived.Scope
import Derived.WalkMore
namespace Go.Proofs.YtakojceggpljoaaGreatDoor
open Go.RowKit Go.Maps
/-- By a goto to label l: G l; else as Q. -/
def jumps (G : Nat → Act → World → Prop) (Q : Exit → Act → World → Prop) : Exit → Act → World → Prop
  | .goto l, a, w => G l a w
  | e, a, w => Q e a w
/-- A scope in which the run jumps from label to label: what holds at each, with a number that every jump lowers. -/
theorem wp_scope_multi {P : Program} {c : Code} {a : Act} {w : World} {Q : Exit → Act → World → Prop} (J : Nat → Nat → Act → World → Prop)
    (first : c.wp P (jumps (fun l a w => ∃ n, J n l a w) Q) a w)
    (pass : ∀ n l a w, J n l a w → ∃ rest, findLabel c l = some rest ∧ rest.wp P (jumps (fun l' a' w' => ∃ n', n' < n ∧ J n' l' a' w') Q) a w) : (Code.scope c).wp P Q a w := by
  intro b k cs
  have key : ∀ n l a w rest, J n l a w → findLabel c l = some rest → ∃ e a' w', Q e a' w' ∧ Arrives P (lone (b.at a (.code rest :: .inScope c :: k)) cs w) b k cs e a' w' := by
    intro n
    induction n using Nat.strongRecOn with
    | _ n ih =>
      intro l a w rest hJ hf
      obtain ⟨rest', hf', hp⟩ := pass n l a w hJ
      obtain rfl : rest' = rest := Option.some.inj (hf'.symm.trans hf)
      obtain ⟨e, a₁, w₁, hq, harr⟩ := hp b (.inScope c :: k) cs
      cases e with
      | normal => exact ⟨.normal, a₁, w₁, hq, Steps.trans harr (.one step_inScope)⟩
      | exit id => exact ⟨.exit id, a₁, w₁, hq, fun k' hk => harr k' (by simp [exitTo, hk])⟩
      | goto l' =>
        obtain ⟨n', hlt, hJ'⟩ := hq
        obtain ⟨rest₂, hf₂, -⟩ := pass n' l' a₁ w₁ hJ'
        obtain ⟨e₂, a₂, w₂, hq₂, harr₂⟩ := ih n' hlt l' a₁ w₁ rest₂ hJ' hf₂
        exact ⟨e₂, a₂, w₂, hq₂, .of_steps (harr _ (by simp [gotoIn, hf₂])) harr₂⟩
      | ret => exact ⟨_, a₁, w₁, hq, harr⟩
      | panic ch => exact ⟨_, a₁, w₁, hq, harr⟩
      | outgrown => exact ⟨_, a₁, w₁, hq, harr⟩
  obtain ⟨e, a₁, w₁, hq, harr⟩ := first b (.inScope c :: k) cs
  cases e with
  | normal => exact ⟨.normal, a₁, w₁, hq, .head step_scope (Steps.trans harr (.one step_inScope))⟩
  | exit id => exact ⟨.exit id, a₁, w₁, hq, fun k' hk => .head step_scope (harr k' (by simp [exitTo, hk]))⟩
  | goto l' =>
    obtain ⟨n', hJ'⟩ := hq
    obtain ⟨rest₂, hf₂, -⟩ := pass n' l' a₁ w₁ hJ'
    obtain ⟨e₂, a₂, w₂, hq₂, harr₂⟩ := key n' l' a₁ w₁ rest₂ hJ' hf₂
    exact ⟨e₂, a₂, w₂, hq₂, .of_steps (.head step_scope (harr _ (by simp [gotoIn, hf₂]))) harr₂⟩
  | ret => exact ⟨_, a₁, w₁, hq, .of_steps (.one step_scope) harr⟩
  | panic ch => exact ⟨_, a₁, w₁, hq, .of_steps (.one step_scope) harr⟩
  | outgrown => exact ⟨_, a₁, w₁, hq, .of_steps (.one step_scope) harr⟩
def scopeOf : Code → Option Code
  | .scope c => some c
  | _ => none
/-- The code from a label on. -/
def restAt (o : Option Code) (l : Nat) : Code := ((o.bind scopeOf).bind (fun c => findLabel c l)).getD .skip
/-- The frame of scan: b: the scanner, g: the token's variable. -/
def fr (b g : Nat) (ok : Value) (u : Nat → Value) : Act := ⟨#[.pointer (some ⟨b, 0, none⟩), u 1, .pointer (some ⟨g, 0, none⟩), ok, u 4, u 5, u 6, u 7, u 8, u 9, u 10, u 11, u 12, u 13, u 14, u 15, u 16, u 17, u 18, u 19, u 20, u 21, u 22, u 23, u 24, u 25, u 26, u 27, u 28, u 29, u 30, u 31, u 32, u 33, u 34, u 35, u 36, u 37, u 38, u 39, u 40, u 41, u 42, u 43, u 44, u 45, u 46, u 47, u 48, u 49, u 50, u 51, u 52, u 53, u 54, u 55, u 56, u 57, u 58, u 59, u 60, u 61, u 62, u 63, u 64, u 65, u 66, u 67, u 68, u 69, u 70, u 71, u 72, u 73, u 74, u 75, u 76, u 77, u 78, u 79, u 80, u 81, u 82, u 83, u 84, u 85, u 86, u 87, u 88, u 89, u 90, u 91, u 92, u 93, u 94, u 95, u 96, u 97, u 98, u 99, u 100, u 101, u 102, u 103, u 104, u 105, u 106, u 107, u 108], []⟩
abbrev F0 : Flt := ⟨0, ⟨#[]⟩, 0, 0⟩
/-- A token's variable, at g. -/
def TokV (w : World) (g : Nat) (t : Tk) : Prop := w.heap[g]? = some (.cells #[.int .i64 t.op, .string t.qual, .string t.text, .int .i64 t.n, .bool false, .int .i64 0, .int .i64 0] 38 (0, 0))
theorem TokV.only {w w' : World} {g : Nat} {t : Tk} {K : Nat → Prop} (h : TokV w g t) (ho : Only K w w') (hk : ¬ K g) : TokV w' g t := (ho.block g (lt_of_block h) hk).trans h
theorem TokV.set {w : World} {g : Nat} {t : Tk} (h : TokV w g t) (v : Tk) :
    TokV (((((((w.setCell ⟨g, 0, none⟩ (.int .i64 v.op)).setCell ⟨g, 1, none⟩ (.string v.qual)).setCell ⟨g, 2, none⟩ (.string v.text)).setCell ⟨g, 3, none⟩ (.int .i64 v.n)).setCell ⟨g, 4, none⟩ (.bool false)).setCell ⟨g, 5, none⟩ (.int .i64 0)).setCell ⟨g, 6, none⟩ (.int .i64 0)) g v := by
  unfold TokV at h ⊢
  simp [World.setCell, Array.getElem?_modify, h]
theorem TokV.c0 {w : World} {g : Nat} {t : Tk} (h : TokV w g t) : w.cell? ⟨g, 0, none⟩ = some (.int .i64 t.op) := by have h' := h; unfold TokV at h'; simp [World.cell?, h']
theorem TokV.c1 {w : World} {g : Nat} {t : Tk} (h : TokV w g t) : w.cell? ⟨g, 1, none⟩ = some (.string t.qual) := by have h' := h; unfold TokV at h'; simp [World.cell?, h']
theorem TokV.c2 {w : World} {g : Nat} {t : Tk} (h : TokV w g t) : w.cell? ⟨g, 2, none⟩ = some (.string t.text) := by have h' := h; unfold TokV at h'; simp [World.cell?, h']
theorem TokV.c3 {w : World} {g : Nat} {t : Tk} (h : TokV w g t) : w.cell? ⟨g, 3, none⟩ = some (.int .i64 t.n) := by have h' := h; unfold TokV at h'; simp [World.cell?, h']
theorem TokV.c4 {w : World} {g : Nat} {t : Tk} (h : TokV w g t) : w.cell? ⟨g, 4, none⟩ = some (.bool false) := by have h' := h; unfold TokV at h'; simp [World.cell?, h']
theorem TokV.c5 {w : World} {g : Nat} {t : Tk} (h : TokV w g t) : w.cell? ⟨g, 5, none⟩ = some (.int .i64 0) := by have h' := h; unfold TokV at h'; simp [World.cell?, h']
theorem TokV.c6 {w : World} {g : Nat} {t : Tk} (h : TokV w g t) : w.cell? ⟨g, 6, none⟩ = some (.int .i64 0) := by have h' := h; unfold TokV at h'; simp [World.cell?, h']
theorem TokV.fz {w : World} {g : Nat} {t : Tk} (h : TokV w g t) (k : Nat) : w.frozen? ⟨g, k, none⟩ = false := by have h' := h; unfold TokV at h'; simp [World.frozen?, h']
/-- How the lexing goes on behind a unit at i. -/
def stepR (s : ByteArray) (k i : Nat) (l : List Tok) (x : UU) : LL :=
  match x with
  | .bad f => .bad f
  | .skip e => lexF s k e l
  | .tok t e => if l.length = 16384 then .bad (flt s 3 nil8 i) else lexF s k e (l ++ [t.at' (pos s i)])
theorem lexF_end {s : ByteArray} {k i : Nat} {l : List Tok} (h : s.size ≤ i) : lexF s k i l = .ok l := by
  cases k with
  | zero => rfl
  | succ k => unfold lexF; rw [if_neg (by omega)]
theorem lexF_blank {s : ByteArray} {k i : Nat} {l : List Tok} (h : i < s.size) (hb : byteAt s i = 32 ∨ byteAt s i = 9 ∨ byteAt s i = 10) : lexF s (k + 1) i l = lexF s k (i + 1) l := by
  conv => lhs; unfold lexF
  rw [if_pos h, if_pos hb]
theorem lexF_unit {s : ByteArray} {k i : Nat} {l : List Tok} (h : i < s.size) (hb : ¬ (byteAt s i = 32 ∨ byteAt s i = 9 ∨ byteAt s i = 10)) : lexF s (k + 1) i l = stepR s k i l (unit s i) := by
  conv => lhs; unfold lexF
  rw [if_pos h, if_neg hb]
  unfold stepR
  cases unit s i <;> rfl
/-- What every label knows: w0: the world in which scan began; R: what it comes to. -/
structure Com (W w0 : World) (b g : Nat) (s : ByteArray) (tk : Value) (ts : List Tok) (t : Tk) (w : World) : Prop where
  q : Q W w
  wb : W.heap.size ≤ b
  bg : b < g
  eg : w0.heap.size = g
  zg : g < w.heap.size
  tr : TR w (g + 1) tk ts
  tv : TokV w g t
  tl : ts.length ≤ 16384
  on : Only (· = b) w0 w
theorem Com.only {W w0 : World} {b g : Nat} {s : ByteArray} {tk : Value} {ts : List Tok} {t : Tk} {w w' : World} (h : Com W w0 b g s tk ts t w) (ho : Only (· = b) w w') : Com W w0 b g s tk ts t w' :=
  ⟨h.q.only ho (fun i hi => by rw [hi]; exact h.wb), h.wb, h.bg, h.eg, Nat.lt_of_lt_of_le h.zg ho.size, h.tr.only ho (fun i hi => by rw [hi]; have := h.bg; omega), h.tv.only ho (by have := h.bg; omega), h.tl, h.on.trans ho⟩
/-- The answer of scan. -/
def Fin (W w0 : World) (b g : Nat) (s : ByteArray) (R : LL) (w : World) : Prop :=
  Q W w ∧ Only (· = b) w0 w ∧ match R with
    | .ok l => ∃ (B0 : At) (i : Nat) (tk : Value), Scn w b s B0 (pos s i) tk F0 ∧ TR w (g + 1) tk l
    | .bad f => ∃ (i0 : Nat) (tk : Value), Bad b s i0 tk f w
/-- Which unit label l reads at i. -/
def UL (s : ByteArray) (i : Nat) : Nat → UU → Prop
  | 1, x => x = (comR s i).v
  | 2, x => x = (linR s i).v ∧ byteAt s i = 45
  | 3, x => x = (idR s i).u ∧ stt (byteAt s i) = true
  | 4, x => x = (nmR s i nil8 i).u ∧ sy (byteAt s i) = true
  | 5, x => x = (intR s i).u ∧ dg (byteAt s i) = true
  | 6, x => x = (chrR s i).u
  | 7, x => x = (txtR s i).u
  | 8, x => x = .tok ⟨8, nil8, s.extract i (i + 1), 0⟩ (i + 1)
  | _, _ => False
/-- What holds at label l with the number n. -/
def JJ (W w0 : World) (b g : Nat) (s : ByteArray) (R : LL) (n : Nat) : Nat → Act → World → Prop
  | 0, a, w => ∃ (u : Nat → Value) (ok : Value) (k i : Nat) (B0 : At) (tk : Value) (ts : List Tok) (t : Tk), a = fr b g ok u ∧ n = 4 * k + 3 ∧ Hid (lexF s k i ts = R) ∧ s.size ≤ i + k ∧ i ≤ s.size ∧ Scn w b s B0 (pos s i) tk F0 ∧ Com W w0 b g s tk ts t w
  | 9, a, w => ∃ (u : Nat → Value) (k : Nat), n = 4 * k + 4 ∧ ((a = fr b g (.bool true) u ∧ ∃ (i : Nat) (B0 : At) (tk : Value) (ts : List Tok) (t : Tk), Hid (lexF s k i ts = R) ∧ s.size ≤ i + k ∧ i ≤ s.size ∧ Scn w b s B0 (pos s i) tk F0 ∧ Com W w0 b g s tk ts t w) ∨ (a = fr b g (.bool false) u ∧ Fin W w0 b g s R w))
  | 10, a, w => ∃ (u : Nat → Value) (k : Nat), n = 4 * k + 5 ∧ ((a = fr b g (.bool true) u ∧ ∃ (i e : Nat) (tk : Value) (ts : List Tok) (t : Tk), Hid (stepR s k i ts (.tok t e) = R) ∧ s.size ≤ e + k ∧ e ≤ s.size ∧ i ≤ s.size ∧ Scn w b s (pos s i) (pos s e) tk F0 ∧ Com W w0 b g s tk ts t w) ∨ (a = fr b g (.bool false) u ∧ Fin W w0 b g s R w))
  | l, a, w => ∃ (u : Nat → Value) (ok : Value) (k i : Nat) (tk : Value) (ts : List Tok) (t : Tk) (x : UU), a = fr b g ok u ∧ n = 4 * k + 6 ∧ UL s i l x ∧ unit s i = x ∧ Hid (stepR s k i ts x = R) ∧ s.size ≤ i + (k + 1) ∧ i < s.size ∧ Scn w b s (pos s i) (pos s i) tk F0 ∧ Com W w0 b g s tk ts t w
/-- The ends of scan. -/
def ScQ (W w0 : World) (b g : Nat) (s : ByteArray) (R : LL) : Exit → Act → World → Prop
  | .ret, a, w => a.defers = [] ∧ Fin W w0 b g s R w
  | .normal, a, w => a.defers = [] ∧ Fin W w0 b g s R w
  | _, _, _ => False
theorem Com.fin {W w0 : World} {b g : Nat} {s : ByteArray} {tk : Value} {ts : List Tok} {t : Tk} {w : World} {B0 : At} {i : Nat} (h : Com W w0 b g s tk ts t w) (hS : Scn w b s B0 (pos s i) tk F0) : Fin W w0 b g s (.ok ts) w :=
  ⟨h.q, h.on, B0, i, tk, hS, h.tr⟩
theorem Com.bad {W w0 : World} {b g : Nat} {s : ByteArray} {tk : Value} {ts : List Tok} {t : Tk} {w : World} {i0 : Nat} {f : Flt} (h : Com W w0 b g s tk ts t w) (hB : Bad b s i0 tk f w) : Fin W w0 b g s (.bad f) w :=
  ⟨h.q, h.on, i0, tk, hB⟩
/-- Any frame is one of scan's, if it holds the two pointers. -/
theorem fr_of (b g : Nat) (ok : Value) (u : Nat → Value) : fr b g ok u = fr b g ok (fun k => (fr b g ok u).tmps.getD k undef) := rfl
end Go.Proofs.YtakojceggpljoaaGreatDoor
