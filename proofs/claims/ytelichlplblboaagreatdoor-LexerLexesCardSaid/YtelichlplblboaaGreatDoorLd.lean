/-
  WALKS. The scanner's accept: a token is appended.
  The scanner's main method: a scope with labels; what holds at each.
  WALKS. The scanner's main method, label by label.
  WALKS. The scanner's main method from its first label.
  WALKS. The scanner's main method as a whole; Lex.
  WALKS. Lex returns what lexP says.
-/
import Derived.Test.YtelichlplblboaaGreatDoorLc
import Derived.Test.YtelichlplblboaaGreatDoorLsp
import Derived.Scope
import Derived.WalkMore
namespace Go.Proofs.YtelichlplblboaaGreatDoor
open Go.RowKit Go.Maps
def tokCells (t : Tok) : List Value := [.int .i64 t.op, .string t.qual, .string t.text, .int .i64 t.n, .bool t.auto, .int .i64 t.line, .int .i64 t.col]
/-- Tokens in a row of the call's own. -/
def TR (w : World) (B : Nat) (v : Value) (ts : List Tok) : Prop := w.ownsRow B 38 7 v ts.length (ts.flatMap tokCells)
theorem infoTok : (Tryz.prog.info? 38).map (fun i => (i.zero, i.size, i.bytes)) = some (some (.agg #[.int .i64 0, .string ⟨#[]⟩, .string ⟨#[]⟩, .int .i64 0, .bool false, .int .i64 0, .int .i64 0]), 7, 72) := by kernel_rfl
theorem TR.only {w w' : World} {B : Nat} {v : Value} {ts : List Tok} {K : Nat → Prop} (h : TR w B v ts) (ho : Only K w w') (hk : ∀ i, K i → i < B) : TR w' B v ts :=
  rowKeep h (fun g hg => ho.block g ((World.ownsRow.lt h g hg).2) (fun hc => by have := (World.ownsRow.lt h g hg).1; have := hk g hc; omega))
theorem TR.snoc {w : World} {B : Nat} {v : Value} {ts : List Tok} {t : Tok} (h : w.ownsRow B 38 7 v (ts.length + 1) (ts.flatMap tokCells ++ tokCells t)) : TR w B v (ts ++ [t]) := by
  unfold TR
  rw [List.length_append, List.flatMap_append]
  simpa using h
theorem Scn.setTok {w : World} {b : Nat} {s : ByteArray} {B H : At} {tk : Value} {F : Flt} (h : Scn w b s B H tk F) (v : Value) : Scn (w.setCell ⟨b, 7, none⟩ v) b s B H v F := by
  unfold Scn at h ⊢
  simp [World.setCell, Array.getElem?_modify, h]
theorem one_tok (t : Tok) : ∀ u ∈ tokCells t, u.oneCell' = true := by
  intro u hu
  simp [tokCells] at hu
  rcases hu with rfl | rfl | rfl | rfl | rfl | rfl | rfl <;> rfl
section
variable {W w : World} {b : Nat} {s : ByteArray} {i0 i : Nat} {tk : Value} {F : Flt}
set_option maxRecDepth 100000 in
set_option maxHeartbeats 2000000 in
theorem accept_full (hS : Scn w b s (pos s i0) (pos s i) tk F) (t : Tk) {B : Nat} {ts : List Tok} (hT : TR w B tk ts) (hn : ts.length = 16384) :
    Calls Tryz.prog 55 #[.pointer (some ⟨b, 0, none⟩), tkC t] w fun r w' => r = .returned (.bool false) ∧ Bad b s i0 tk (flt s 3 nil8 i0) w' ∧ Only (· = b) w w' := by
  obtain ⟨oa, ca, rfl⟩ := rowForm hT
  rw [hn] at hS ⊢
  have hS0 := hS.alloc (.cells #[.int .i64 t.op, .string t.qual, .string t.text, .int .i64 t.n, .bool false, .int .i64 0, .int .i64 0] 38)
  have c7 := hS0.toks
  go_enter Tryz.func55, Tryz.ntmps55
  go_wp2_with (first | (go_at_call 89; refine (fail_p hS0 3 _).mono ?_; rintro r w7 ⟨rfl, hB7, hO7⟩))
  go_ret
  exact ⟨rfl, hB7, (Only.of_below ((Below.refl _ _).alloc (Nat.le_refl _) _)).trans hO7⟩
set_option maxRecDepth 100000 in
set_option maxHeartbeats 2000000 in
theorem accept_p (hS : Scn w b s (pos s i0) (pos s i) tk F) (t : Tk) {B : Nat} {ts : List Tok} (hbB : b < B) (hBw : B ≤ w.heap.size) (hi0 : i0 ≤ 65536) (hT : TR w B tk ts) (hn : ts.length < 16384) :
    Calls Tryz.prog 55 #[.pointer (some ⟨b, 0, none⟩), tkC t] w fun r w' => r = .returned (.bool true) ∧ ∃ tk', Scn w' b s (pos s i0) (pos s i) tk' F ∧ TR w' B tk' (ts ++ [t.at' (pos s i0)]) ∧ Only (fun k => k = b ∨ B ≤ k) w w' := by
  obtain ⟨oa, ca, rfl⟩ := rowForm hT
  have hS0 := hS.alloc (.cells #[.int .i64 t.op, .string t.qual, .string t.text, .int .i64 t.n, .bool false, .int .i64 0, .int .i64 0] 38)
  have hSz := hS.lt
  have c2 := hS.bline
  have c3 := hS.bcol
  have c7 := hS.toks
  have z7 := hS.fz 7
  obtain ⟨l, hl⟩ : ∃ l, (pos s i0).line = l := ⟨_, rfl⟩
  obtain ⟨m, hm⟩ : ∃ m, (pos s i0).col = m := ⟨_, rfl⟩
  rw [hl] at c2
  rw [hm] at c3
  have HL := Lib.hid hl
  have HM := Lib.hid hm
  have e1 : (ts.length == 16384) = false := by simp; omega
  have e2 : ((ts.length : Int) == 16384) = false := by simp; omega
  clear hl hm
  obtain ⟨i0', hi, hz0, hz1, hz2⟩ := info_parts infoTok
  go_enter Tryz.func55, Tryz.ntmps55
  go_wp2
  go_region
  all_goals
    go_wp2
    have HOWN : (((w.alloc (.cells #[.int .i64 t.op, .string t.qual, .string t.text, .int .i64 t.n, .bool false, .int .i64 l, .int .i64 m] 38)).alloc (.cells #[.int .i64 t.op, .string t.qual, .string t.text, .int .i64 t.n, .bool false, .int .i64 l, .int .i64 m] 38)).drew.drew).ownsRow B 38 7 (.slice oa ts.length ca) ts.length (ts.flatMap tokCells) := World.ownsRow.alloc (World.ownsRow.alloc hT (.cells #[.int .i64 t.op, .string t.qual, .string t.text, .int .i64 t.n, .bool false, .int .i64 l, .int .i64 m] 38)) (.cells #[.int .i64 t.op, .string t.qual, .string t.text, .int .i64 t.n, .bool false, .int .i64 l, .int .i64 m] 38)
    have hblk : (((w.alloc (.cells #[.int .i64 t.op, .string t.qual, .string t.text, .int .i64 t.n, .bool false, .int .i64 l, .int .i64 m] 38)).alloc (.cells #[.int .i64 t.op, .string t.qual, .string t.text, .int .i64 t.n, .bool false, .int .i64 l, .int .i64 m] 38)).drew.drew).heap[w.heap.size + 1]? = some (.cells #[.int .i64 t.op, .string t.qual, .string t.text, .int .i64 t.n, .bool false, .int .i64 l, .int .i64 m] 38) := by
                                       have := new_block (w.alloc (.cells #[.int .i64 t.op, .string t.qual, .string t.text, .int .i64 t.n, .bool false, .int .i64 l, .int .i64 m] 38)) (.cells #[.int .i64 t.op, .string t.qual, .string t.text, .int .i64 t.n, .bool false, .int .i64 l, .int .i64 m] 38)
                                       have e : (w.alloc (.cells #[.int .i64 t.op, .string t.qual, .string t.text, .int .i64 t.n, .bool false, .int .i64 l, .int .i64 m] 38)).heap.size = w.heap.size + 1 := by show (w.heap.push _).size = _; simp
                                       rw [e] at this; exact this
    have HBASE : B ≤ (((w.alloc (.cells #[.int .i64 t.op, .string t.qual, .string t.text, .int .i64 t.n, .bool false, .int .i64 l, .int .i64 m] 38)).alloc (.cells #[.int .i64 t.op, .string t.qual, .string t.text, .int .i64 t.n, .bool false, .int .i64 l, .int .i64 m] 38)).drew.drew).heap.size := by show B ≤ ((w.heap.push _).push _).size; simp only [Array.size_push]; omega
    have H63 : ts.length + 1 ≤ maxLen := by unfold maxLen; omega
    have HBY : (ts.length + 1) * 72 ≤ 140737488355328 := by omega
    have HNEWS := World.news_of_block hblk
    have HS2 : Scn (((w.alloc (.cells #[.int .i64 t.op, .string t.qual, .string t.text, .int .i64 t.n, .bool false, .int .i64 l, .int .i64 m] 38)).alloc (.cells #[.int .i64 t.op, .string t.qual, .string t.text, .int .i64 t.n, .bool false, .int .i64 l, .int .i64 m] 38)).drew.drew) b s (pos s i0) (pos s i) (.slice oa ts.length ca) F := (hS.alloc (.cells #[.int .i64 t.op, .string t.qual, .string t.text, .int .i64 t.n, .bool false, .int .i64 l, .int .i64 m] 38)).alloc (.cells #[.int .i64 t.op, .string t.qual, .string t.text, .int .i64 t.n, .bool false, .int .i64 l, .int .i64 m] 38)
    have HNB : Value.ownBlock (.slice oa ts.length ca) ≠ some b := fun e => by have := (World.ownsRow.lt hT b e).1; omega
    have HONE := one_tok (t.at' ⟨0, l, m⟩)
    go_region_law ((refine step_append_lies _ rfl (.tmp 29) (.tmp 31) 23 rfl B 38 i0' (.agg #[.int .i64 0, .string ⟨#[]⟩, .string ⟨#[]⟩, .int .i64 0, .bool false, .int .i64 0, .int .i64 0]) 7 72 Tryz.underlying23 hi hz0 hz1 hz2 rfl (by decide) (.slice oa ts.length ca) ts.length (ts.flatMap tokCells) ?e1 HOWN ⟨w.heap.size + 1, 0, none⟩ 1 1 (tokCells (t.at' ⟨0, l, m⟩)) ?e2 rfl HNEWS HONE Nat.one_pos H63 HBY HBASE _ rfl ?_); (case e1 => simp [Act.eval]); (case e2 => simp [Act.eval]); (intro g cg w' hown' hgrow hat hlt'; have HS3 := Scn.grown HS2 hgrow HNB; have f7 := HS3.toks; have g7 := HS3.fz 7))
    all_goals
      have HTR := TR.snoc (t := t.at' (pos s i0)) (by rw [show tokCells (t.at' (pos s i0)) = tokCells (t.at' ⟨0, l, m⟩) from by simp only [tokCells, Tk.at', HL.out, HM.out]]; exact hown')
      have HO3 : Only (fun k => k = b ∨ B ≤ k) w w' := ((Only.of_below (((Below.refl _ w).alloc (Nat.le_refl _) (.cells #[.int .i64 t.op, .string t.qual, .string t.text, .int .i64 t.n, .bool false, .int .i64 l, .int .i64 m] 38)).alloc (by show w.heap.size ≤ (w.heap.push _).size; simp) (.cells #[.int .i64 t.op, .string t.qual, .string t.text, .int .i64 t.n, .bool false, .int .i64 l, .int .i64 m] 38)).drew.drew)).trans (Only.grown hgrow (fun k hk => .inr (World.ownsRow.lt hT k hk).1))
      clear hown' hgrow HOWN hblk HNEWS HS2 HNB HONE HBASE H63 HBY hS0 c2 c3 c7 z7 hT hS
      go_wp2
      go_ret
      exact ⟨rfl, _, HS3.setTok _, HTR.only (Only.setCell (k := 7) (Only.refl (· = b) _) rfl _) (fun k hk => by rw [hk]; exact hbB), Only.setCell (k := 7) HO3 (.inl rfl) _⟩
end
end Go.Proofs.YtelichlplblboaaGreatDoor
namespace Go.Proofs.YtelichlplblboaaGreatDoor
open Go.RowKit Go.Maps
/-- By a goto to label l: G l; else as Q. -/
def jumps (G : Nat → Act → World → Prop) (Q : Exit → Act → World → Prop) : Exit → Act → World → Prop
  | .goto l, a, w => G l a w
  | e, a, w => Q e a w
/-- A scope in which the run jumps from label to label: what holds at each, with a number that every jump lowers. -/
theorem wp_scope_multi {P : Program} {c : Code} {a : Act} {w : World} {Q : Exit → Act → World → Prop} (J : Nat → Nat → Act → World → Prop)
    (first : c.wp P (jumps (fun l a w => ∃ n, J n l a w) Q) a w)
    (pass : ∀ n l a w, J n l a w → ∃ rest, findLabel c l = some rest ∧ rest.wp P (jumps (fun l' a' w' => ∃ n', n' < n ∧ J n' l' a' w') Q) a w) : (Code.scope c).wp P Q a w := by
  intro b k cs
  have key : ∀ n l a w rest, J n l a w → findLabel c l = some rest → ∃ e a' w', Q e a' w' ∧ Arrives P (lone (b.at a (.code rest :: .inScope c :: k)) cs w) b k cs e a' w' := by
    intro n
    induction n using Nat.strongRecOn with
    | _ n ih =>
      intro l a w rest hJ hf
      obtain ⟨rest', hf', hp⟩ := pass n l a w hJ
      obtain rfl : rest' = rest := Option.some.inj (hf'.symm.trans hf)
      obtain ⟨e, a₁, w₁, hq, harr⟩ := hp b (.inScope c :: k) cs
      cases e with
      | normal => exact ⟨.normal, a₁, w₁, hq, Steps.trans harr (.one step_inScope)⟩
      | exit id => exact ⟨.exit id, a₁, w₁, hq, fun k' hk => harr k' (by simp [exitTo, hk])⟩
      | goto l' =>
        obtain ⟨n', hlt, hJ'⟩ := hq
        obtain ⟨rest₂, hf₂, -⟩ := pass n' l' a₁ w₁ hJ'
        obtain ⟨e₂, a₂, w₂, hq₂, harr₂⟩ := ih n' hlt l' a₁ w₁ rest₂ hJ' hf₂
        exact ⟨e₂, a₂, w₂, hq₂, .of_steps (harr _ (by simp [gotoIn, hf₂])) harr₂⟩
      | ret => exact ⟨_, a₁, w₁, hq, harr⟩
      | panic ch => exact ⟨_, a₁, w₁, hq, harr⟩
      | outgrown => exact ⟨_, a₁, w₁, hq, harr⟩
  obtain ⟨e, a₁, w₁, hq, harr⟩ := first b (.inScope c :: k) cs
  cases e with
  | normal => exact ⟨.normal, a₁, w₁, hq, .head step_scope (Steps.trans harr (.one step_inScope))⟩
  | exit id => exact ⟨.exit id, a₁, w₁, hq, fun k' hk => .head step_scope (harr k' (by simp [exitTo, hk]))⟩
  | goto l' =>
    obtain ⟨n', hJ'⟩ := hq
    obtain ⟨rest₂, hf₂, -⟩ := pass n' l' a₁ w₁ hJ'
    obtain ⟨e₂, a₂, w₂, hq₂, harr₂⟩ := key n' l' a₁ w₁ rest₂ hJ' hf₂
    exact ⟨e₂, a₂, w₂, hq₂, .of_steps (.head step_scope (harr _ (by simp [gotoIn, hf₂]))) harr₂⟩
  | ret => exact ⟨_, a₁, w₁, hq, .of_steps (.one step_scope) harr⟩
  | panic ch => exact ⟨_, a₁, w₁, hq, .of_steps (.one step_scope) harr⟩
  | outgrown => exact ⟨_, a₁, w₁, hq, .of_steps (.one step_scope) harr⟩
def scopeOf : Code → Option Code
  | .scope c => some c
  | _ => none
/-- The code from a label on. -/
def restAt (o : Option Code) (l : Nat) : Code := ((o.bind scopeOf).bind (fun c => findLabel c l)).getD .skip
/-- The frame of scan: b: the scanner, g: the token's variable. -/
def fr (b g : Nat) (ok : Value) (u : Nat → Value) : Act := ⟨#[.pointer (some ⟨b, 0, none⟩), u 1, .pointer (some ⟨g, 0, none⟩), ok, u 4, u 5, u 6, u 7, u 8, u 9, u 10, u 11, u 12, u 13, u 14, u 15, u 16, u 17, u 18, u 19, u 20, u 21, u 22, u 23, u 24, u 25, u 26, u 27, u 28, u 29, u 30, u 31, u 32, u 33, u 34, u 35, u 36, u 37, u 38, u 39, u 40, u 41, u 42, u 43, u 44, u 45, u 46, u 47, u 48, u 49, u 50, u 51, u 52, u 53, u 54, u 55, u 56, u 57, u 58, u 59, u 60, u 61, u 62, u 63, u 64, u 65, u 66, u 67, u 68, u 69, u 70, u 71, u 72, u 73, u 74, u 75, u 76, u 77, u 78, u 79, u 80, u 81, u 82, u 83, u 84, u 85, u 86, u 87, u 88, u 89, u 90, u 91, u 92, u 93, u 94, u 95, u 96, u 97, u 98, u 99, u 100, u 101, u 102, u 103, u 104, u 105, u 106, u 107, u 108], []⟩
abbrev F0 : Flt := ⟨0, ⟨#[]⟩, 0, 0⟩
/-- A token's variable, at g. -/
def TokV (w : World) (g : Nat) (t : Tk) : Prop := w.heap[g]? = some (.cells #[.int .i64 t.op, .string t.qual, .string t.text, .int .i64 t.n, .bool false, .int .i64 0, .int .i64 0] 38 (0, 0))
theorem TokV.only {w w' : World} {g : Nat} {t : Tk} {K : Nat → Prop} (h : TokV w g t) (ho : Only K w w') (hk : ¬ K g) : TokV w' g t := (ho.block g (lt_of_block h) hk).trans h
theorem TokV.set {w : World} {g : Nat} {t : Tk} (h : TokV w g t) (v : Tk) :
    TokV (((((((w.setCell ⟨g, 0, none⟩ (.int .i64 v.op)).setCell ⟨g, 1, none⟩ (.string v.qual)).setCell ⟨g, 2, none⟩ (.string v.text)).setCell ⟨g, 3, none⟩ (.int .i64 v.n)).setCell ⟨g, 4, none⟩ (.bool false)).setCell ⟨g, 5, none⟩ (.int .i64 0)).setCell ⟨g, 6, none⟩ (.int .i64 0)) g v := by
  unfold TokV at h ⊢
  simp [World.setCell, Array.getElem?_modify, h]
theorem TokV.c0 {w : World} {g : Nat} {t : Tk} (h : TokV w g t) : w.cell? ⟨g, 0, none⟩ = some (.int .i64 t.op) := by have h' := h; unfold TokV at h'; simp [World.cell?, h']
theorem TokV.c1 {w : World} {g : Nat} {t : Tk} (h : TokV w g t) : w.cell? ⟨g, 1, none⟩ = some (.string t.qual) := by have h' := h; unfold TokV at h'; simp [World.cell?, h']
theorem TokV.c2 {w : World} {g : Nat} {t : Tk} (h : TokV w g t) : w.cell? ⟨g, 2, none⟩ = some (.string t.text) := by have h' := h; unfold TokV at h'; simp [World.cell?, h']
theorem TokV.c3 {w : World} {g : Nat} {t : Tk} (h : TokV w g t) : w.cell? ⟨g, 3, none⟩ = some (.int .i64 t.n) := by have h' := h; unfold TokV at h'; simp [World.cell?, h']
theorem TokV.c4 {w : World} {g : Nat} {t : Tk} (h : TokV w g t) : w.cell? ⟨g, 4, none⟩ = some (.bool false) := by have h' := h; unfold TokV at h'; simp [World.cell?, h']
theorem TokV.c5 {w : World} {g : Nat} {t : Tk} (h : TokV w g t) : w.cell? ⟨g, 5, none⟩ = some (.int .i64 0) := by have h' := h; unfold TokV at h'; simp [World.cell?, h']
theorem TokV.c6 {w : World} {g : Nat} {t : Tk} (h : TokV w g t) : w.cell? ⟨g, 6, none⟩ = some (.int .i64 0) := by have h' := h; unfold TokV at h'; simp [World.cell?, h']
theorem TokV.fz {w : World} {g : Nat} {t : Tk} (h : TokV w g t) (k : Nat) : w.frozen? ⟨g, k, none⟩ = false := by have h' := h; unfold TokV at h'; simp [World.frozen?, h']
/-- How the lexing goes on behind a unit at i. -/
def stepR (s : ByteArray) (k i : Nat) (l : List Tok) (x : UU) : LL :=
  match x with
  | .bad f => .bad f
  | .skip e => lexF s k e l
  | .tok t e => if l.length = 16384 then .bad (flt s 3 nil8 i) else lexF s k e (l ++ [t.at' (pos s i)])
theorem lexF_end {s : ByteArray} {k i : Nat} {l : List Tok} (h : s.size ≤ i) : lexF s k i l = .ok l := by
  cases k with
  | zero => rfl
  | succ k => unfold lexF; rw [if_neg (by omega)]
theorem lexF_blank {s : ByteArray} {k i : Nat} {l : List Tok} (h : i < s.size) (hb : byteAt s i = 32 ∨ byteAt s i = 9 ∨ byteAt s i = 10) : lexF s (k + 1) i l = lexF s k (i + 1) l := by
  conv => lhs; unfold lexF
  rw [if_pos h, if_pos hb]
theorem lexF_unit {s : ByteArray} {k i : Nat} {l : List Tok} (h : i < s.size) (hb : ¬ (byteAt s i = 32 ∨ byteAt s i = 9 ∨ byteAt s i = 10)) : lexF s (k + 1) i l = stepR s k i l (unit s i) := by
  conv => lhs; unfold lexF
  rw [if_pos h, if_neg hb]
  unfold stepR
  cases unit s i <;> rfl
/-- What every label knows: w0: the world in which scan began; R: what it comes to. -/
structure Com (W w0 : World) (b g : Nat) (s : ByteArray) (tk : Value) (ts : List Tok) (t : Tk) (w : World) : Prop where
  q : Q W w
  wb : W.heap.size ≤ b
  bg : b < g
  eg : w0.heap.size = g
  zg : g < w.heap.size
  tr : TR w (g + 1) tk ts
  tv : TokV w g t
  tl : ts.length ≤ 16384
  on : Only (· = b) w0 w
theorem Com.only {W w0 : World} {b g : Nat} {s : ByteArray} {tk : Value} {ts : List Tok} {t : Tk} {w w' : World} (h : Com W w0 b g s tk ts t w) (ho : Only (· = b) w w') : Com W w0 b g s tk ts t w' :=
  ⟨h.q.only ho (fun i hi => by rw [hi]; exact h.wb), h.wb, h.bg, h.eg, Nat.lt_of_lt_of_le h.zg ho.size, h.tr.only ho (fun i hi => by rw [hi]; have := h.bg; omega), h.tv.only ho (by have := h.bg; omega), h.tl, h.on.trans ho⟩
/-- The answer of scan. -/
def Fin (W w0 : World) (b g : Nat) (s : ByteArray) (R : LL) (w : World) : Prop :=
  Q W w ∧ Only (· = b) w0 w ∧ match R with
    | .ok l => ∃ (B0 : At) (i : Nat) (tk : Value), Scn w b s B0 (pos s i) tk F0 ∧ TR w (g + 1) tk l
    | .bad f => ∃ (i0 : Nat) (tk : Value), Bad b s i0 tk f w
/-- Which unit label l reads at i. -/
def UL (s : ByteArray) (i : Nat) : Nat → UU → Prop
  | 1, x => x = (comR s i).v
  | 2, x => x = (linR s i).v ∧ byteAt s i = 45
  | 3, x => x = (idR s i).u ∧ stt (byteAt s i) = true
  | 4, x => x = (nmR s i nil8 i).u ∧ sy (byteAt s i) = true
  | 5, x => x = (intR s i).u ∧ dg (byteAt s i) = true
  | 6, x => x = (chrR s i).u
  | 7, x => x = (txtR s i).u
  | 8, x => x = .tok ⟨8, nil8, s.extract i (i + 1), 0⟩ (i + 1)
  | _, _ => False
/-- What holds at label l with the number n. -/
def JJ (W w0 : World) (b g : Nat) (s : ByteArray) (R : LL) (n : Nat) : Nat → Act → World → Prop
  | 0, a, w => ∃ (u : Nat → Value) (ok : Value) (k i : Nat) (B0 : At) (tk : Value) (ts : List Tok) (t : Tk), a = fr b g ok u ∧ n = 4 * k + 3 ∧ Hid (lexF s k i ts = R) ∧ s.size ≤ i + k ∧ i ≤ s.size ∧ Scn w b s B0 (pos s i) tk F0 ∧ Com W w0 b g s tk ts t w
  | 9, a, w => ∃ (u : Nat → Value) (k : Nat), n = 4 * k + 4 ∧ ((a = fr b g (.bool true) u ∧ ∃ (i : Nat) (B0 : At) (tk : Value) (ts : List Tok) (t : Tk), Hid (lexF s k i ts = R) ∧ s.size ≤ i + k ∧ i ≤ s.size ∧ Scn w b s B0 (pos s i) tk F0 ∧ Com W w0 b g s tk ts t w) ∨ (a = fr b g (.bool false) u ∧ Fin W w0 b g s R w))
  | 10, a, w => ∃ (u : Nat → Value) (k : Nat), n = 4 * k + 5 ∧ ((a = fr b g (.bool true) u ∧ ∃ (i e : Nat) (tk : Value) (ts : List Tok) (t : Tk), Hid (stepR s k i ts (.tok t e) = R) ∧ s.size ≤ e + k ∧ e ≤ s.size ∧ i ≤ s.size ∧ Scn w b s (pos s i) (pos s e) tk F0 ∧ Com W w0 b g s tk ts t w) ∨ (a = fr b g (.bool false) u ∧ Fin W w0 b g s R w))
  | l, a, w => ∃ (u : Nat → Value) (ok : Value) (k i : Nat) (tk : Value) (ts : List Tok) (t : Tk) (x : UU), a = fr b g ok u ∧ n = 4 * k + 6 ∧ UL s i l x ∧ unit s i = x ∧ Hid (stepR s k i ts x = R) ∧ s.size ≤ i + (k + 1) ∧ i < s.size ∧ Scn w b s (pos s i) (pos s i) tk F0 ∧ Com W w0 b g s tk ts t w
/-- The ends of scan. -/
def ScQ (W w0 : World) (b g : Nat) (s : ByteArray) (R : LL) : Exit → Act → World → Prop
  | .ret, a, w => a.defers = [] ∧ Fin W w0 b g s R w
  | .normal, a, w => a.defers = [] ∧ Fin W w0 b g s R w
  | _, _, _ => False
theorem Com.fin {W w0 : World} {b g : Nat} {s : ByteArray} {tk : Value} {ts : List Tok} {t : Tk} {w : World} {B0 : At} {i : Nat} (h : Com W w0 b g s tk ts t w) (hS : Scn w b s B0 (pos s i) tk F0) : Fin W w0 b g s (.ok ts) w :=
  ⟨h.q, h.on, B0, i, tk, hS, h.tr⟩
theorem Com.bad {W w0 : World} {b g : Nat} {s : ByteArray} {tk : Value} {ts : List Tok} {t : Tk} {w : World} {i0 : Nat} {f : Flt} (h : Com W w0 b g s tk ts t w) (hB : Bad b s i0 tk f w) : Fin W w0 b g s (.bad f) w :=
  ⟨h.q, h.on, i0, tk, hB⟩
/-- Any frame is one of scan's, if it holds the two pointers. -/
theorem fr_of (b g : Nat) (ok : Value) (u : Nat → Value) : fr b g ok u = fr b g ok (fun k => (fr b g ok u).tmps.getD k undef) := rfl
end Go.Proofs.YtelichlplblboaaGreatDoor
namespace Go.Proofs.YtelichlplblboaaGreatDoor
open Go.RowKit Go.Maps
section
variable {W w0 w : World} {b g : Nat} {s : ByteArray} {R : LL} {n : Nat} {a : Act}
theorem JJ.to0 {k i : Nat} {B0 : At} {tk : Value} {ts : List Tok} {t : Tk} (hfr : a = fr b g (a.tmps.getD 3 undef) (fun j => a.tmps.getD j undef)) (hn : n = 4 * k + 3) (HI : Hid (lexF s k i ts = R)) (h1 : s.size ≤ i + k) (h2 : i ≤ s.size) (hS : Scn w b s B0 (pos s i) tk F0) (hC : Com W w0 b g s tk ts t w) : JJ W w0 b g s R n 0 a w :=
  ⟨_, _, k, i, B0, tk, ts, t, hfr, hn, HI, h1, h2, hS, hC⟩
theorem JJ.to9t {k i : Nat} {B0 : At} {tk : Value} {ts : List Tok} {t : Tk} (hfr : a = fr b g (.bool true) (fun j => a.tmps.getD j undef)) (hn : n = 4 * k + 4) (HI : Hid (lexF s k i ts = R)) (h1 : s.size ≤ i + k) (h2 : i ≤ s.size) (hS : Scn w b s B0 (pos s i) tk F0) (hC : Com W w0 b g s tk ts t w) : JJ W w0 b g s R n 9 a w :=
  ⟨_, k, hn, .inl ⟨hfr, i, B0, tk, ts, t, HI, h1, h2, hS, hC⟩⟩
theorem JJ.to9f {k : Nat} (hfr : a = fr b g (.bool false) (fun j => a.tmps.getD j undef)) (hn : n = 4 * k + 4) (hF : Fin W w0 b g s R w) : JJ W w0 b g s R n 9 a w :=
  ⟨_, k, hn, .inr ⟨hfr, hF⟩⟩
theorem JJ.to10t {k i e : Nat} {tk : Value} {ts : List Tok} {t : Tk} (hfr : a = fr b g (.bool true) (fun j => a.tmps.getD j undef)) (hn : n = 4 * k + 5) (HI : Hid (stepR s k i ts (.tok t e) = R)) (h1 : s.size ≤ e + k) (h2 : e ≤ s.size) (h3 : i ≤ s.size) (hS : Scn w b s (pos s i) (pos s e) tk F0) (hC : Com W w0 b g s tk ts t w) : JJ W w0 b g s R n 10 a w :=
  ⟨_, k, hn, .inl ⟨hfr, i, e, tk, ts, t, HI, h1, h2, h3, hS, hC⟩⟩
theorem JJ.to10f {k : Nat} (hfr : a = fr b g (.bool false) (fun j => a.tmps.getD j undef)) (hn : n = 4 * k + 5) (hF : Fin W w0 b g s R w) : JJ W w0 b g s R n 10 a w :=
  ⟨_, k, hn, .inr ⟨hfr, hF⟩⟩
theorem JJ.toU {l k i : Nat} {tk : Value} {ts : List Tok} {t : Tk} {x : UU} (hl : 1 ≤ l ∧ l ≤ 8) (hfr : a = fr b g (a.tmps.getD 3 undef) (fun j => a.tmps.getD j undef)) (hn : n = 4 * k + 6) (hu : UL s i l x) (hx : unit s i = x) (HI : Hid (stepR s k i ts x = R)) (h1 : s.size ≤ i + (k + 1)) (h2 : i < s.size) (hS : Scn w b s (pos s i) (pos s i) tk F0) (hC : Com W w0 b g s tk ts t w) : JJ W w0 b g s R n l a w := by
  obtain ⟨p, q⟩ := hl
  have : l = 1 ∨ l = 2 ∨ l = 3 ∨ l = 4 ∨ l = 5 ∨ l = 6 ∨ l = 7 ∨ l = 8 := by omega
  rcases this with rfl | rfl | rfl | rfl | rfl | rfl | rfl | rfl <;> exact ⟨_, _, k, i, tk, ts, t, x, hfr, hn, hu, hx, HI, h1, h2, hS, hC⟩
theorem Com.put {tk : Value} {ts : List Tok} {t v : Tk} (h : Com W w0 b g s tk ts t w) : Com W w0 b g s tk ts v (((((((w.setCell ⟨g, 0, none⟩ (.int .i64 v.op)).setCell ⟨g, 1, none⟩ (.string v.qual)).setCell ⟨g, 2, none⟩ (.string v.text)).setCell ⟨g, 3, none⟩ (.int .i64 v.n)).setCell ⟨g, 4, none⟩ (.bool false)).setCell ⟨g, 5, none⟩ (.int .i64 0)).setCell ⟨g, 6, none⟩ (.int .i64 0)) := by
  have hO := Only.set7 w g (.int .i64 v.op) (.string v.qual) (.string v.text) (.int .i64 v.n) (.bool false) (.int .i64 0) (.int .i64 0)
  exact ⟨h.q.only hO (fun i hi => by rw [hi]; have := h.wb; have := h.bg; omega), h.wb, h.bg, h.eg, Nat.lt_of_lt_of_le h.zg hO.size, h.tr.only hO (fun i hi => by rw [hi]; omega), h.tv.set v, h.tl, h.on.then hO (fun i hi => .inr (by have := h.eg; omega))⟩
theorem Scn.far {B H : At} {tk : Value} {F : Flt} (h : Scn w b s B H tk F) (hne : b ≠ g) (v0 v1 v2 v3 v4 v5 v6 : Value) : Scn (((((((w.setCell ⟨g, 0, none⟩ v0).setCell ⟨g, 1, none⟩ v1).setCell ⟨g, 2, none⟩ v2).setCell ⟨g, 3, none⟩ v3).setCell ⟨g, 4, none⟩ v4).setCell ⟨g, 5, none⟩ v5).setCell ⟨g, 6, none⟩ v6) b s B H tk F :=
  h.only (Only.set7 w g v0 v1 v2 v3 v4 v5 v6) hne
theorem Com.app {tk tk' : Value} {ts : List Tok} {t : Tk} {x : Tok} {w' : World} (h : Com W w0 b g s tk ts t w) (hT : TR w' (g + 1) tk' (ts ++ [x])) (hO : Only (fun k => k = b ∨ g + 1 ≤ k) w w') (hl : ts.length < 16384) : Com W w0 b g s tk' (ts ++ [x]) t w' :=
  ⟨h.q.only hO (fun i hi => by have := h.wb; have := h.bg; omega), h.wb, h.bg, h.eg, Nat.lt_of_lt_of_le h.zg hO.size, hT, h.tv.only hO (by have := h.bg; omega), by rw [List.length_append]; simp; omega, h.on.then hO (fun i hi => by have := h.eg; omega)⟩
set_option maxRecDepth 100000 in
set_option maxHeartbeats 2000000 in
theorem pass9 (hJ : JJ W w0 b g s R n 9 a w) : (restAt Tryz.f23.body 9).wp Tryz.prog (jumps (fun l' a' w' => ∃ n', n' < n ∧ JJ W w0 b g s R n' l' a' w') (ScQ W w0 b g s R)) a w := by
  obtain ⟨u, k, rfl, h⟩ := hJ
  rcases h with ⟨rfl, i, B0, tk, ts, t, HI, h1, h2, hS, hC⟩ | ⟨rfl, hF⟩
  · unfold fr
    conv => arg 2; whnf
    go_wp2
    go_step3
    exact ⟨4 * k + 3, by omega, JJ.to0 rfl rfl HI h1 h2 hS hC⟩
  · unfold fr
    conv => arg 2; whnf
    go_wp2
    exact ⟨rfl, hF⟩
set_option maxRecDepth 100000 in
set_option maxHeartbeats 2000000 in
theorem pass10 (hz : s.size ≤ 65536) (hJ : JJ W w0 b g s R n 10 a w) : (restAt Tryz.f23.body 10).wp Tryz.prog (jumps (fun l' a' w' => ∃ n', n' < n ∧ JJ W w0 b g s R n' l' a' w') (ScQ W w0 b g s R)) a w := by
  obtain ⟨u, k, rfl, h⟩ := hJ
  rcases h with ⟨rfl, i, e, tk, ts, t, HI, h1, h2, h3, hS, hC⟩ | ⟨rfl, hF⟩
  · have hbg := hC.bg
    by_cases hfull : ts.length = 16384
    · have HR : Hid (R = .bad (flt s 3 nil8 i)) := Lib.hid (by rw [← HI.out]; unfold stepR; simp only [hfull, if_true])
      unfold fr
      conv => arg 2; whnf
      have d0 := hC.tv.c0
      have d1 := hC.tv.c1
      have d2 := hC.tv.c2
      have d3 := hC.tv.c3
      have d4 := hC.tv.c4
      have d5 := hC.tv.c5
      have d6 := hC.tv.c6
      go_wp2_with (first | (go_at_call 55; refine (accept_full hS t hC.tr hfull).mono ?_; rintro r w7 ⟨rfl, hB7, hO7⟩))
      go_step3
      go_wp2
      exact ⟨rfl, by rw [HR.out]; exact (hC.only hO7).bad hB7⟩
    · have HR : Hid (lexF s k e (ts ++ [t.at' (pos s i)]) = R) := Lib.hid (by rw [← HI.out]; unfold stepR; simp only [hfull, if_false])
      have hfull : ts.length < 16384 := by have := hC.tl; omega
      unfold fr
      conv => arg 2; whnf
      have d0 := hC.tv.c0
      have d1 := hC.tv.c1
      have d2 := hC.tv.c2
      have d3 := hC.tv.c3
      have d4 := hC.tv.c4
      have d5 := hC.tv.c5
      have d6 := hC.tv.c6
      go_wp2_with (first | (go_at_call 55; refine (accept_p hS t (B := g + 1) (by have := hC.bg; omega) hC.zg (by omega) hC.tr hfull).mono ?_; rintro r w7 ⟨rfl, tk7, hS7, hT7, hO7⟩))
      go_step3
      go_wp2
      go_step3
      exact ⟨4 * k + 3, by omega, JJ.to0 rfl rfl HR h1 h2 hS7 (hC.app hT7 hO7 hfull)⟩
  · unfold fr
    conv => arg 2; whnf
    go_wp2
    go_step3
    go_wp2
    exact ⟨rfl, hF⟩
set_option maxRecDepth 100000 in
set_option maxHeartbeats 2000000 in
theorem pass1 (hz : s.size ≤ 65536) (hJ : JJ W w0 b g s R n 1 a w) : (restAt Tryz.f23.body 1).wp Tryz.prog (jumps (fun l' a' w' => ∃ n', n' < n ∧ JJ W w0 b g s R n' l' a' w') (ScQ W w0 b g s R)) a w := by
  obtain ⟨u, ok, k, i, tk, ts, t, x, rfl, rfl, hU, hx, HI, h1, h2, hS, hC⟩ := hJ
  obtain rfl : x = (comR s i).v := hU
  have hue := (unit_end h2).1
  rw [hx] at hue
  cases hr : comR s i with
  | ok y e =>
    rw [hr] at HI hue
    have hu := hue e rfl
    have HR := Lib.hid hr
    clear hue hr hx
    unfold fr
    conv => arg 2; whnf
    go_wp2_with (first | (go_at_call 47; refine (comment_p hS hz (Nat.le_of_lt h2)).mono ?_; rw [HR.out]; rintro r w7 ⟨rfl, hS7, hO7⟩))
    go_step3
    exact ⟨4 * k + 4, by omega, JJ.to9t rfl rfl HI (by omega) hu.2 hS7 (hC.only hO7)⟩
  | bad f =>
    rw [hr] at HI
    have HR := Lib.hid hr
    clear hue hr hx
    unfold fr
    conv => arg 2; whnf
    go_wp2_with (first | (go_at_call 47; refine (comment_p hS hz (Nat.le_of_lt h2)).mono ?_; rw [HR.out]; rintro r w7 ⟨rfl, hB7, hO7⟩))
    go_step3
    exact ⟨4 * k + 4, by omega, JJ.to9f rfl rfl (by rw [← HI.out]; exact (hC.only hO7).bad hB7)⟩
set_option maxRecDepth 100000 in
set_option maxHeartbeats 2000000 in
theorem pass2 (hz : s.size ≤ 65536) (hJ : JJ W w0 b g s R n 2 a w) : (restAt Tryz.f23.body 2).wp Tryz.prog (jumps (fun l' a' w' => ∃ n', n' < n ∧ JJ W w0 b g s R n' l' a' w') (ScQ W w0 b g s R)) a w := by
  obtain ⟨u, ok, k, i, tk, ts, t, x, rfl, rfl, hU, hx, HI, h1, h2, hS, hC⟩ := hJ
  obtain rfl : x = (linR s i).v := hU.1
  have hue := (unit_end h2).1
  rw [hx] at hue
  cases hr : linR s i with
  | ok y e =>
    rw [hr] at HI hue
    have hu := hue e rfl
    have HR := Lib.hid hr
    clear hue hr hx hU
    unfold fr
    conv => arg 2; whnf
    go_wp2_with (first | (go_at_call 48; refine (line_p hS hz (Nat.le_of_lt h2)).mono ?_; rw [HR.out]; rintro r w7 ⟨rfl, hS7, hO7⟩))
    go_step3
    exact ⟨4 * k + 4, by omega, JJ.to9t rfl rfl HI (by omega) hu.2 hS7 (hC.only hO7)⟩
  | bad f =>
    rw [hr] at HI
    have HR := Lib.hid hr
    clear hue hr hx hU
    unfold fr
    conv => arg 2; whnf
    go_wp2_with (first | (go_at_call 48; refine (line_p hS hz (Nat.le_of_lt h2)).mono ?_; rw [HR.out]; rintro r w7 ⟨rfl, hB7, hO7⟩))
    go_step3
    exact ⟨4 * k + 4, by omega, JJ.to9f rfl rfl (by rw [← HI.out]; exact (hC.only hO7).bad hB7)⟩
set_option maxRecDepth 100000 in
set_option maxHeartbeats 2000000 in
theorem pass3 (hz : s.size ≤ 65536) (hJ : JJ W w0 b g s R n 3 a w) : (restAt Tryz.f23.body 3).wp Tryz.prog (jumps (fun l' a' w' => ∃ n', n' < n ∧ JJ W w0 b g s R n' l' a' w') (ScQ W w0 b g s R)) a w := by
  obtain ⟨u, ok, k, i, tk, ts, t, x, rfl, rfl, hU, hx, HI, h1, h2, hS, hC⟩ := hJ
  obtain rfl : x = (idR s i).u := hU.1
  have hst := hU.2
  have hue := (unit_end h2).2
  rw [hx] at hue
  have hbg := hC.bg
  cases hr : idR s i with
  | ok y e =>
    rw [hr] at HI hue
    have hu := hue y e rfl
    have HR := Lib.hid hr
    clear hue hr hx hU
    unfold fr
    conv => arg 2; whnf
    go_wp2_with (first | (go_at_call 49; refine (identifier_p hC.q hC.wb hS hz hst).mono ?_; rw [HR.out]; rintro r w7 ⟨rfl, hS7, hO7⟩; have hC7 := hC.only hO7; have d0 := hC7.tv.c0; have d1 := hC7.tv.c1; have d2 := hC7.tv.c2; have d3 := hC7.tv.c3; have d4 := hC7.tv.c4; have d5 := hC7.tv.c5; have d6 := hC7.tv.c6; have z0 := hC7.tv.fz 0; have z1 := hC7.tv.fz 1; have z2 := hC7.tv.fz 2; have z3 := hC7.tv.fz 3; have z4 := hC7.tv.fz 4; have z5 := hC7.tv.fz 5; have z6 := hC7.tv.fz 6))
    go_step3
    exact ⟨4 * k + 5, by omega, JJ.to10t rfl rfl HI (by omega) hu.2 (Nat.le_of_lt h2) (hS7.far (by omega) _ _ _ _ _ _ _) hC7.put⟩
  | bad f =>
    rw [hr] at HI
    have HR := Lib.hid hr
    clear hue hr hx hU
    unfold fr
    conv => arg 2; whnf
    go_wp2_with (first | (go_at_call 49; refine (identifier_p hC.q hC.wb hS hz hst).mono ?_; rw [HR.out]; rintro r w7 ⟨rfl, hB7, hO7⟩; have hC7 := hC.only hO7; have d0 := hC7.tv.c0; have d1 := hC7.tv.c1; have d2 := hC7.tv.c2; have d3 := hC7.tv.c3; have d4 := hC7.tv.c4; have d5 := hC7.tv.c5; have d6 := hC7.tv.c6; have z0 := hC7.tv.fz 0; have z1 := hC7.tv.fz 1; have z2 := hC7.tv.fz 2; have z3 := hC7.tv.fz 3; have z4 := hC7.tv.fz 4; have z5 := hC7.tv.fz 5; have z6 := hC7.tv.fz 6))
    go_step3
    exact ⟨4 * k + 5, by omega, JJ.to10f rfl rfl (by rw [← HI.out]; exact (hC7.put (v := ⟨0, ⟨#[]⟩, ⟨#[]⟩, 0⟩)).bad (hB7.only (Only.set7 _ _ _ _ _ _ _ _ _) (by omega)))⟩
set_option maxRecDepth 100000 in
set_option maxHeartbeats 2000000 in
theorem pass4 (hz : s.size ≤ 65536) (hJ : JJ W w0 b g s R n 4 a w) : (restAt Tryz.f23.body 4).wp Tryz.prog (jumps (fun l' a' w' => ∃ n', n' < n ∧ JJ W w0 b g s R n' l' a' w') (ScQ W w0 b g s R)) a w := by
  obtain ⟨u, ok, k, i, tk, ts, t, x, rfl, rfl, hU, hx, HI, h1, h2, hS, hC⟩ := hJ
  obtain rfl : x = (nmR s i nil8 i).u := hU.1
  have hue := (unit_end h2).2
  rw [hx] at hue
  have hbg := hC.bg
  have c4 := hS.hat_p
  cases hr : nmR s i nil8 i with
  | ok y e =>
    rw [hr] at HI hue
    have hu := hue y e rfl
    have HR := Lib.hid (show nmR s i ⟨#[]⟩ i = _ from hr)
    clear hue hr hx hU
    unfold fr
    conv => arg 2; whnf
    go_wp2_with (first | (go_at_call 50; refine (name_p hC.q hC.wb hS _ i hz (Nat.le_refl i) (Nat.le_of_lt h2)).mono ?_; rw [HR.out]; rintro r w7 ⟨rfl, hS7, hO7⟩; have hC7 := hC.only hO7; have d0 := hC7.tv.c0; have d1 := hC7.tv.c1; have d2 := hC7.tv.c2; have d3 := hC7.tv.c3; have d4 := hC7.tv.c4; have d5 := hC7.tv.c5; have d6 := hC7.tv.c6; have z0 := hC7.tv.fz 0; have z1 := hC7.tv.fz 1; have z2 := hC7.tv.fz 2; have z3 := hC7.tv.fz 3; have z4 := hC7.tv.fz 4; have z5 := hC7.tv.fz 5; have z6 := hC7.tv.fz 6))
    go_step3
    exact ⟨4 * k + 5, by omega, JJ.to10t rfl rfl HI (by omega) hu.2 (Nat.le_of_lt h2) (hS7.far (by omega) _ _ _ _ _ _ _) hC7.put⟩
  | bad f =>
    rw [hr] at HI
    have HR := Lib.hid (show nmR s i ⟨#[]⟩ i = _ from hr)
    clear hue hr hx hU
    unfold fr
    conv => arg 2; whnf
    go_wp2_with (first | (go_at_call 50; refine (name_p hC.q hC.wb hS _ i hz (Nat.le_refl i) (Nat.le_of_lt h2)).mono ?_; rw [HR.out]; rintro r w7 ⟨rfl, hB7, hO7⟩; have hC7 := hC.only hO7; have d0 := hC7.tv.c0; have d1 := hC7.tv.c1; have d2 := hC7.tv.c2; have d3 := hC7.tv.c3; have d4 := hC7.tv.c4; have d5 := hC7.tv.c5; have d6 := hC7.tv.c6; have z0 := hC7.tv.fz 0; have z1 := hC7.tv.fz 1; have z2 := hC7.tv.fz 2; have z3 := hC7.tv.fz 3; have z4 := hC7.tv.fz 4; have z5 := hC7.tv.fz 5; have z6 := hC7.tv.fz 6))
    go_step3
    exact ⟨4 * k + 5, by omega, JJ.to10f rfl rfl (by rw [← HI.out]; exact (hC7.put (v := ⟨0, ⟨#[]⟩, ⟨#[]⟩, 0⟩)).bad (hB7.only (Only.set7 _ _ _ _ _ _ _ _ _) (by omega)))⟩
set_option maxRecDepth 100000 in
set_option maxHeartbeats 2000000 in
theorem pass5 (hz : s.size ≤ 65536) (hJ : JJ W w0 b g s R n 5 a w) : (restAt Tryz.f23.body 5).wp Tryz.prog (jumps (fun l' a' w' => ∃ n', n' < n ∧ JJ W w0 b g s R n' l' a' w') (ScQ W w0 b g s R)) a w := by
  obtain ⟨u, ok, k, i, tk, ts, t, x, rfl, rfl, hU, hx, HI, h1, h2, hS, hC⟩ := hJ
  obtain rfl : x = (intR s i).u := hU.1
  have hue := (unit_end h2).2
  rw [hx] at hue
  have hbg := hC.bg
  cases hr : intR s i with
  | ok y e =>
    rw [hr] at HI hue
    have hu := hue y e rfl
    have HR := Lib.hid hr
    clear hue hr hx hU
    unfold fr
    conv => arg 2; whnf
    go_wp2_with (first | (go_at_call 51; refine (integer_p hS hz (Nat.le_of_lt h2)).mono ?_; rw [HR.out]; rintro r w7 ⟨rfl, hS7, hO7⟩; have hC7 := hC.only hO7; have d0 := hC7.tv.c0; have d1 := hC7.tv.c1; have d2 := hC7.tv.c2; have d3 := hC7.tv.c3; have d4 := hC7.tv.c4; have d5 := hC7.tv.c5; have d6 := hC7.tv.c6; have z0 := hC7.tv.fz 0; have z1 := hC7.tv.fz 1; have z2 := hC7.tv.fz 2; have z3 := hC7.tv.fz 3; have z4 := hC7.tv.fz 4; have z5 := hC7.tv.fz 5; have z6 := hC7.tv.fz 6))
    go_step3
    exact ⟨4 * k + 5, by omega, JJ.to10t rfl rfl HI (by omega) hu.2 (Nat.le_of_lt h2) (hS7.far (by omega) _ _ _ _ _ _ _) hC7.put⟩
  | bad f =>
    rw [hr] at HI
    have HR := Lib.hid hr
    clear hue hr hx hU
    unfold fr
    conv => arg 2; whnf
    go_wp2_with (first | (go_at_call 51; refine (integer_p hS hz (Nat.le_of_lt h2)).mono ?_; rw [HR.out]; rintro r w7 ⟨rfl, hB7, hO7⟩; have hC7 := hC.only hO7; have d0 := hC7.tv.c0; have d1 := hC7.tv.c1; have d2 := hC7.tv.c2; have d3 := hC7.tv.c3; have d4 := hC7.tv.c4; have d5 := hC7.tv.c5; have d6 := hC7.tv.c6; have z0 := hC7.tv.fz 0; have z1 := hC7.tv.fz 1; have z2 := hC7.tv.fz 2; have z3 := hC7.tv.fz 3; have z4 := hC7.tv.fz 4; have z5 := hC7.tv.fz 5; have z6 := hC7.tv.fz 6))
    go_step3
    exact ⟨4 * k + 5, by omega, JJ.to10f rfl rfl (by rw [← HI.out]; exact (hC7.put (v := ⟨0, ⟨#[]⟩, ⟨#[]⟩, 0⟩)).bad (hB7.only (Only.set7 _ _ _ _ _ _ _ _ _) (by omega)))⟩
set_option maxRecDepth 100000 in
set_option maxHeartbeats 2000000 in
theorem pass6 (hz : s.size ≤ 65536) (hJ : JJ W w0 b g s R n 6 a w) : (restAt Tryz.f23.body 6).wp Tryz.prog (jumps (fun l' a' w' => ∃ n', n' < n ∧ JJ W w0 b g s R n' l' a' w') (ScQ W w0 b g s R)) a w := by
  obtain ⟨u, ok, k, i, tk, ts, t, x, rfl, rfl, hU, hx, HI, h1, h2, hS, hC⟩ := hJ
  obtain rfl : x = (chrR s i).u := hU
  have hue := (unit_end h2).2
  rw [hx] at hue
  have hbg := hC.bg
  cases hr : chrR s i with
  | ok y e =>
    rw [hr] at HI hue
    have hu := hue y e rfl
    have HR := Lib.hid hr
    clear hue hr hx
    unfold fr
    conv => arg 2; whnf
    go_wp2_with (first | (go_at_call 52; refine (character_p hS hz h2).mono ?_; rw [HR.out]; rintro r w7 ⟨rfl, hS7, hO7⟩; have hC7 := hC.only hO7; have d0 := hC7.tv.c0; have d1 := hC7.tv.c1; have d2 := hC7.tv.c2; have d3 := hC7.tv.c3; have d4 := hC7.tv.c4; have d5 := hC7.tv.c5; have d6 := hC7.tv.c6; have z0 := hC7.tv.fz 0; have z1 := hC7.tv.fz 1; have z2 := hC7.tv.fz 2; have z3 := hC7.tv.fz 3; have z4 := hC7.tv.fz 4; have z5 := hC7.tv.fz 5; have z6 := hC7.tv.fz 6))
    go_step3
    exact ⟨4 * k + 5, by omega, JJ.to10t rfl rfl HI (by omega) hu.2 (Nat.le_of_lt h2) (hS7.far (by omega) _ _ _ _ _ _ _) hC7.put⟩
  | bad f =>
    rw [hr] at HI
    have HR := Lib.hid hr
    clear hue hr hx
    unfold fr
    conv => arg 2; whnf
    go_wp2_with (first | (go_at_call 52; refine (character_p hS hz h2).mono ?_; rw [HR.out]; rintro r w7 ⟨rfl, hB7, hO7⟩; have hC7 := hC.only hO7; have d0 := hC7.tv.c0; have d1 := hC7.tv.c1; have d2 := hC7.tv.c2; have d3 := hC7.tv.c3; have d4 := hC7.tv.c4; have d5 := hC7.tv.c5; have d6 := hC7.tv.c6; have z0 := hC7.tv.fz 0; have z1 := hC7.tv.fz 1; have z2 := hC7.tv.fz 2; have z3 := hC7.tv.fz 3; have z4 := hC7.tv.fz 4; have z5 := hC7.tv.fz 5; have z6 := hC7.tv.fz 6))
    go_step3
    exact ⟨4 * k + 5, by omega, JJ.to10f rfl rfl (by rw [← HI.out]; exact (hC7.put (v := ⟨0, ⟨#[]⟩, ⟨#[]⟩, 0⟩)).bad (hB7.only (Only.set7 _ _ _ _ _ _ _ _ _) (by omega)))⟩
set_option maxRecDepth 100000 in
set_option maxHeartbeats 2000000 in
theorem pass7 (hz : s.size ≤ 65536) (hJ : JJ W w0 b g s R n 7 a w) : (restAt Tryz.f23.body 7).wp Tryz.prog (jumps (fun l' a' w' => ∃ n', n' < n ∧ JJ W w0 b g s R n' l' a' w') (ScQ W w0 b g s R)) a w := by
  obtain ⟨u, ok, k, i, tk, ts, t, x, rfl, rfl, hU, hx, HI, h1, h2, hS, hC⟩ := hJ
  obtain rfl : x = (txtR s i).u := hU
  have hue := (unit_end h2).2
  rw [hx] at hue
  have hbg := hC.bg
  cases hr : txtR s i with
  | ok y e =>
    rw [hr] at HI hue
    have hu := hue y e rfl
    have HR := Lib.hid hr
    clear hue hr hx
    unfold fr
    conv => arg 2; whnf
    go_wp2_with (first | (go_at_call 53; refine (text_p hS hz h2).mono ?_; rw [HR.out]; rintro r w7 ⟨rfl, hS7, hO7⟩; have hC7 := hC.only hO7; have d0 := hC7.tv.c0; have d1 := hC7.tv.c1; have d2 := hC7.tv.c2; have d3 := hC7.tv.c3; have d4 := hC7.tv.c4; have d5 := hC7.tv.c5; have d6 := hC7.tv.c6; have z0 := hC7.tv.fz 0; have z1 := hC7.tv.fz 1; have z2 := hC7.tv.fz 2; have z3 := hC7.tv.fz 3; have z4 := hC7.tv.fz 4; have z5 := hC7.tv.fz 5; have z6 := hC7.tv.fz 6))
    go_step3
    exact ⟨4 * k + 5, by omega, JJ.to10t rfl rfl HI (by omega) hu.2 (Nat.le_of_lt h2) (hS7.far (by omega) _ _ _ _ _ _ _) hC7.put⟩
  | bad f =>
    rw [hr] at HI
    have HR := Lib.hid hr
    clear hue hr hx
    unfold fr
    conv => arg 2; whnf
    go_wp2_with (first | (go_at_call 53; refine (text_p hS hz h2).mono ?_; rw [HR.out]; rintro r w7 ⟨rfl, hB7, hO7⟩; have hC7 := hC.only hO7; have d0 := hC7.tv.c0; have d1 := hC7.tv.c1; have d2 := hC7.tv.c2; have d3 := hC7.tv.c3; have d4 := hC7.tv.c4; have d5 := hC7.tv.c5; have d6 := hC7.tv.c6; have z0 := hC7.tv.fz 0; have z1 := hC7.tv.fz 1; have z2 := hC7.tv.fz 2; have z3 := hC7.tv.fz 3; have z4 := hC7.tv.fz 4; have z5 := hC7.tv.fz 5; have z6 := hC7.tv.fz 6))
    go_step3
    exact ⟨4 * k + 5, by omega, JJ.to10f rfl rfl (by rw [← HI.out]; exact (hC7.put (v := ⟨0, ⟨#[]⟩, ⟨#[]⟩, 0⟩)).bad (hB7.only (Only.set7 _ _ _ _ _ _ _ _ _) (by omega)))⟩
set_option maxRecDepth 100000 in
set_option maxHeartbeats 2000000 in
theorem pass8 (hz : s.size ≤ 65536) (hJ : JJ W w0 b g s R n 8 a w) : (restAt Tryz.f23.body 8).wp Tryz.prog (jumps (fun l' a' w' => ∃ n', n' < n ∧ JJ W w0 b g s R n' l' a' w') (ScQ W w0 b g s R)) a w := by
  obtain ⟨u, ok, k, i, tk, ts, t, x, rfl, rfl, hU, hx, HI, h1, h2, hS0, hC0⟩ := hJ
  obtain rfl : x = .tok ⟨8, nil8, s.extract i (i + 1), 0⟩ (i + 1) := hU
  have hbg := hC0.bg
  clear hx
  by_cases hfull : ts.length = 16384
  · have HR : Hid (R = .bad (flt s 3 nil8 i)) := Lib.hid (by rw [← HI.out]; unfold stepR; simp only [hfull, if_true])
    unfold fr
    conv => arg 2; whnf
    go_wp2_with (first | (go_at_call 54; refine (special_p hS0 hz h2).mono ?_; rintro r w6 ⟨rfl, hS6, hO6⟩; have hC6 := hC0.only hO6; have d0 := hC6.tv.c0; have d1 := hC6.tv.c1; have d2 := hC6.tv.c2; have d3 := hC6.tv.c3; have d4 := hC6.tv.c4; have d5 := hC6.tv.c5; have d6 := hC6.tv.c6; have z0 := hC6.tv.fz 0; have z1 := hC6.tv.fz 1; have z2 := hC6.tv.fz 2; have z3 := hC6.tv.fz 3; have z4 := hC6.tv.fz 4; have z5 := hC6.tv.fz 5; have z6 := hC6.tv.fz 6))
    have hS := hS6.far (show b ≠ g by omega) (.int .i64 8) (.string ⟨#[]⟩) (.string (s.extract i (i + 1))) (.int .i64 0) (.bool false) (.int .i64 0) (.int .i64 0)
    have hC := hC6.put (v := ⟨8, nil8, s.extract i (i + 1), 0⟩)
    go_step3
    go_wp2_with (first | (go_at_call 55; refine (accept_full hS ⟨8, nil8, s.extract i (i + 1), 0⟩ hC.tr hfull).mono ?_; rintro r w7 ⟨rfl, hB7, hO7⟩))
    go_step3
    go_wp2
    exact ⟨rfl, by rw [HR.out]; exact (hC.only hO7).bad hB7⟩
  · have HR : Hid (lexF s k (i + 1) (ts ++ [(⟨8, nil8, s.extract i (i + 1), 0⟩ : Tk).at' (pos s i)]) = R) := Lib.hid (by rw [← HI.out]; unfold stepR; simp only [hfull, if_false])
    have hfull : ts.length < 16384 := by have := hC0.tl; omega
    unfold fr
    conv => arg 2; whnf
    go_wp2_with (first | (go_at_call 54; refine (special_p hS0 hz h2).mono ?_; rintro r w6 ⟨rfl, hS6, hO6⟩; have hC6 := hC0.only hO6; have d0 := hC6.tv.c0; have d1 := hC6.tv.c1; have d2 := hC6.tv.c2; have d3 := hC6.tv.c3; have d4 := hC6.tv.c4; have d5 := hC6.tv.c5; have d6 := hC6.tv.c6; have z0 := hC6.tv.fz 0; have z1 := hC6.tv.fz 1; have z2 := hC6.tv.fz 2; have z3 := hC6.tv.fz 3; have z4 := hC6.tv.fz 4; have z5 := hC6.tv.fz 5; have z6 := hC6.tv.fz 6))
    have hS := hS6.far (show b ≠ g by omega) (.int .i64 8) (.string ⟨#[]⟩) (.string (s.extract i (i + 1))) (.int .i64 0) (.bool false) (.int .i64 0) (.int .i64 0)
    have hC := hC6.put (v := ⟨8, nil8, s.extract i (i + 1), 0⟩)
    go_step3
    go_wp2_with (first | (go_at_call 55; refine (accept_p hS ⟨8, nil8, s.extract i (i + 1), 0⟩ (B := g + 1) (by omega) hC.zg (by omega) hC.tr hfull).mono ?_; rintro r w7 ⟨rfl, tk7, hS7, hT7, hO7⟩))
    go_step3
    go_wp2
    go_step3
    exact ⟨4 * k + 3, by omega, JJ.to0 rfl rfl HR (by omega) (by omega) hS7 (hC.app hT7 hO7 hfull)⟩
end
end Go.Proofs.YtelichlplblboaaGreatDoor
namespace Go.Proofs.YtelichlplblboaaGreatDoor
open Go.RowKit Go.Maps
section
variable {W w0 w : World} {b g : Nat} {s : ByteArray} {R : LL} {n : Nat} {a : Act}
/-- What stands behind a label. -/
def tailOf : Code → Code
  | .seq _ b => b
  | c => c
theorem Scn.setBegin {B H : At} {tk : Value} {F : Flt} (h : Scn w b s B H tk F) : Scn (((w.setCell ⟨b, 1, none⟩ (.int .i64 H.at')).setCell ⟨b, 2, none⟩ (.int .i64 H.line)).setCell ⟨b, 3, none⟩ (.int .i64 H.col)) b s H H tk F := by
  unfold Scn at h ⊢
  simp [World.setCell, Array.getElem?_modify, h]
theorem Only.set3 (w : World) (b : Nat) (v0 v1 v2 : Value) : Only (· = b) w (((w.setCell ⟨b, 1, none⟩ v0).setCell ⟨b, 2, none⟩ v1).setCell ⟨b, 3, none⟩ v2) :=
  (((Only.refl (· = b) w).setCell (k := 1) rfl _).setCell (k := 2) rfl _).setCell (k := 3) rfl _
theorem idx_v (c v : Int) (w : World) (h : Lib.indexByte spB c.toNat.toUInt8 = v) :
    Calls Tryz.prog 45 #[.string ⟨#[40, 41, 91, 93, 123, 125, 44, 59, 96]⟩, .int .u8 c] w fun e w' => e = .returned (.int .i64 v) ∧ w = w' := by
  refine (Tryz.strings_IndexByte _ _ _).mono ?_
  rintro e w' ⟨rfl, rfl⟩
  exact ⟨ret_int h, rfl⟩
theorem unit_com {s : ByteArray} {i : Nat} (h1 : byteAt s i = 123 ∧ byteAt s (i + 1) = 45) : unit s i = (comR s i).v := by unfold unit; rw [if_pos h1]
theorem unit_lin {s : ByteArray} {i : Nat} (h1 : ¬ (byteAt s i = 123 ∧ byteAt s (i + 1) = 45)) (h2 : om (s.extract i (rE sy s i)).data.toList = true) : unit s i = (linR s i).v := by unfold unit; rw [if_neg h1, if_pos h2]
theorem unit_id {s : ByteArray} {i : Nat} (h1 : ¬ (byteAt s i = 123 ∧ byteAt s (i + 1) = 45)) (h2 : om (s.extract i (rE sy s i)).data.toList = false) (h3 : stt (byteAt s i) = true) : unit s i = (idR s i).u := by unfold unit; rw [if_neg h1, h2, if_neg (by decide), if_pos h3]
theorem unit_sy {s : ByteArray} {i : Nat} (h1 : ¬ (byteAt s i = 123 ∧ byteAt s (i + 1) = 45)) (h2 : om (s.extract i (rE sy s i)).data.toList = false) (h3 : stt (byteAt s i) = false) (h4 : sy (byteAt s i) = true) : unit s i = (nmR s i nil8 i).u := by unfold unit; rw [if_neg h1, h2, if_neg (by decide), h3, if_neg (by decide), if_pos h4]
theorem unit_dg {s : ByteArray} {i : Nat} (h1 : ¬ (byteAt s i = 123 ∧ byteAt s (i + 1) = 45)) (h2 : om (s.extract i (rE sy s i)).data.toList = false) (h3 : stt (byteAt s i) = false) (h4 : sy (byteAt s i) = false) (h5 : dg (byteAt s i) = true) : unit s i = (intR s i).u := by unfold unit; rw [if_neg h1, h2, if_neg (by decide), h3, if_neg (by decide), h4, if_neg (by decide), if_pos h5]
theorem unit_rest {s : ByteArray} {i : Nat} (h1 : ¬ (byteAt s i = 123 ∧ byteAt s (i + 1) = 45)) (h2 : om (s.extract i (rE sy s i)).data.toList = false) (h3 : stt (byteAt s i) = false) (h4 : sy (byteAt s i) = false) (h5 : dg (byteAt s i) = false) :
    unit s i = if byteAt s i = 39 then (chrR s i).u else if byteAt s i = 34 then (txtR s i).u else if spc (byteAt s i) then .tok ⟨8, nil8, s.extract i (i + 1), 0⟩ (i + 1) else .bad (flt s 5 nil8 i) := by unfold unit; rw [if_neg h1, h2, if_neg (by decide), h3, if_neg (by decide), h4, if_neg (by decide), h5, if_neg (by decide)]
set_option maxRecDepth 100000 in
set_option maxHeartbeats 2000000 in
theorem p0_end (hz : s.size ≤ 65536) {k i : Nat} {B0 : At} {tk : Value} {ts : List Tok} {t : Tk} {u : Nat → Value} {ok : Value} (hS : Scn w b s B0 (pos s i) tk F0) (hC : Com W w0 b g s tk ts t w) (hi : i ≤ s.size) (he : i = s.size) (hR : R = .ok ts) : (tailOf (restAt Tryz.f23.body 0)).wp Tryz.prog (jumps (fun l' a' w' => ∃ n', n' < n ∧ JJ W w0 b g s R n' l' a' w') (ScQ W w0 b g s R)) (fr b g ok u) w := by
  have hcells : w.cell? ⟨b, 1, none⟩ = some (.int .i64 B0.at') ∧ w.cell? ⟨b, 2, none⟩ = some (.int .i64 B0.line) ∧ w.cell? ⟨b, 3, none⟩ = some (.int .i64 B0.col) := ⟨hS.bat, hS.bline, hS.bcol⟩
  obtain ⟨c1, c2, c3⟩ := hcells
  have c4 := hS.hat
  have c5 := hS.hline
  have c6 := hS.hcol
  have z1 := hS.fz 1
  have z2 := hS.fz 2
  have z3 := hS.fz 3
  have hS0 := hS.setBegin
  have hC0 := hC.only (Only.set3 w b (.int .i64 (pos s i).at') (.int .i64 (pos s i).line) (.int .i64 (pos s i).col))
  obtain ⟨y, hy⟩ : ∃ y, byteAt s i = y := ⟨_, rfl⟩
  have HY := Lib.hid hy
  have HE := Lib.hid he
  have HR := Lib.hid hR
  clear hy he hR
  unfold fr
  conv => arg 2; whnf
  go_wp2_with (first | (go_at_call 37; ((with_reducible refine (peek0 hS0 HY.out hz hi).mono ?_); rintro r w1 ⟨rfl, hO1⟩; have hS1 := hS0.keep hO1; have hC1 := hC0.only hO1.lift; clear c1 c2 c3 c4 c5 c6 z1 z2 z3)) | (go_at_call 38; refine (ended_yes hS1 HE.out).mono ?_; rintro r w2 ⟨rfl, hO2⟩; have hS2 := hS1.keep hO2; have hC2 := hC1.only hO2.lift))
  exact ⟨rfl, by rw [HR.out]; exact hC2.fin hS2⟩
set_option maxRecDepth 100000 in
set_option maxHeartbeats 2000000 in
theorem p0_blank (hz : s.size ≤ 65536) {k i : Nat} {B0 : At} {tk : Value} {ts : List Tok} {t : Tk} {u : Nat → Value} {ok : Value} (hS : Scn w b s B0 (pos s i) tk F0) (hC : Com W w0 b g s tk ts t w) (hi : i ≤ s.size) (hil : i < s.size) {y : Int} (hy : byteAt s i = y) (hb : y = 32 ∨ y = 9 ∨ y = 10) (HI : Hid (lexF s k (i + 1) ts = R)) (hk : s.size ≤ i + 1 + k) : (tailOf (restAt Tryz.f23.body 0)).wp Tryz.prog (jumps (fun l' a' w' => ∃ n', n' < 4 * (k + 1) + 3 ∧ JJ W w0 b g s R n' l' a' w') (ScQ W w0 b g s R)) (fr b g ok u) w := by
  have hcells : w.cell? ⟨b, 1, none⟩ = some (.int .i64 B0.at') ∧ w.cell? ⟨b, 2, none⟩ = some (.int .i64 B0.line) ∧ w.cell? ⟨b, 3, none⟩ = some (.int .i64 B0.col) := ⟨hS.bat, hS.bline, hS.bcol⟩
  obtain ⟨c1, c2, c3⟩ := hcells
  have c4 := hS.hat
  have c5 := hS.hline
  have c6 := hS.hcol
  have z1 := hS.fz 1
  have z2 := hS.fz 2
  have z3 := hS.fz 3
  have hS0 := hS.setBegin
  have hC0 := hC.only (Only.set3 w b (.int .i64 (pos s i).at') (.int .i64 (pos s i).line) (.int .i64 (pos s i).col))
  have HY := Lib.hid hy
  clear hy
  rcases hb with rfl | rfl | rfl
  all_goals
    unfold fr
    conv => arg 2; whnf
    go_wp2_with (first | (go_at_call 37; ((with_reducible refine (peek0 hS0 HY.out hz hi).mono ?_); rintro r w1 ⟨rfl, hO1⟩; have hS1 := hS0.keep hO1; have hC1 := hC0.only hO1.lift; clear c1 c2 c3 c4 c5 c6 z1 z2 z3)) | (go_at_call 38; refine (ended_no hS1 hil).mono ?_; rintro r w2 ⟨rfl, hO2⟩; have hS2 := hS1.keep hO2; have hC2 := hC1.only hO2.lift) | (go_at_call 39; refine (skip1 hS2 hz hil).mono ?_; rintro r w7 ⟨rfl, hS7, hO7⟩))
    go_step3
    exact ⟨4 * k + 3, by omega, JJ.to0 rfl rfl HI hk hil hS7 (hC2.only hO7)⟩
set_option maxRecDepth 100000 in
set_option maxHeartbeats 2000000 in
theorem p0_com (hz : s.size ≤ 65536) {k i : Nat} {B0 : At} {tk : Value} {ts : List Tok} {t : Tk} {u : Nat → Value} {ok : Value} (hS : Scn w b s B0 (pos s i) tk F0) (hC : Com W w0 b g s tk ts t w) (hi : i ≤ s.size) (hil : i < s.size) (hb : byteAt s i = 123 ∧ byteAt s (i + 1) = 45) (HI : Hid (stepR s k i ts (unit s i) = R)) (hk : s.size ≤ i + (k + 1)) : (tailOf (restAt Tryz.f23.body 0)).wp Tryz.prog (jumps (fun l' a' w' => ∃ n', n' < 4 * (k + 1) + 3 ∧ JJ W w0 b g s R n' l' a' w') (ScQ W w0 b g s R)) (fr b g ok u) w := by
  have hcells : w.cell? ⟨b, 1, none⟩ = some (.int .i64 B0.at') ∧ w.cell? ⟨b, 2, none⟩ = some (.int .i64 B0.line) ∧ w.cell? ⟨b, 3, none⟩ = some (.int .i64 B0.col) := ⟨hS.bat, hS.bline, hS.bcol⟩
  obtain ⟨c1, c2, c3⟩ := hcells
  have c4 := hS.hat
  have c5 := hS.hline
  have c6 := hS.hcol
  have z1 := hS.fz 1
  have z2 := hS.fz 2
  have z3 := hS.fz 3
  have hS0 := hS.setBegin
  have hC0 := hC.only (Only.set3 w b (.int .i64 (pos s i).at') (.int .i64 (pos s i).line) (.int .i64 (pos s i).col))
  have HU := Lib.hid (unit_com hb)
  have HY := Lib.hid hb.1
  have HX := Lib.hid hb.2
  clear hb
  unfold fr
  conv => arg 2; whnf
  go_wp2_with (first | (go_at_call 37; ((with_reducible refine (peek0 hS0 HY.out hz hi).mono ?_); rintro r w1 ⟨rfl, hO1⟩; have hS1 := hS0.keep hO1; have hC1 := hC0.only hO1.lift; clear c1 c2 c3 c4 c5 c6 z1 z2 z3)) | (go_at_call 38; refine (ended_no hS1 hil).mono ?_; rintro r w2 ⟨rfl, hO2⟩; have hS2 := hS1.keep hO2; have hC2 := hC1.only hO2.lift) | (go_at_call 37; ((with_reducible refine (peek1 hS2 HX.out hz hi).mono ?_); rintro r w3 ⟨rfl, hO3⟩; have hS3 := hS2.keep hO3; have hC3 := hC2.only hO3.lift)))
  go_step3
  exact ⟨4 * k + 6, by omega, JJ.toU (by decide) rfl rfl HU.out rfl HI hk hil hS3 hC3⟩
set_option maxRecDepth 100000 in
set_option maxHeartbeats 2000000 in
theorem p0_lin (hz : s.size ≤ 65536) {k i : Nat} {B0 : At} {tk : Value} {ts : List Tok} {t : Tk} {u : Nat → Value} {ok : Value} (hS : Scn w b s B0 (pos s i) tk F0) (hC : Com W w0 b g s tk ts t w) (hi : i ≤ s.size) (hil : i < s.size) {y : Int} (hy : byteAt s i = y) (hnb : ¬ (y = 32 ∨ y = 9 ∨ y = 10)) (h123 : ¬ y = 123) (hom : om (s.extract i (rE sy s i)).data.toList = true)  (HI : Hid (stepR s k i ts (unit s i) = R)) (hk : s.size ≤ i + (k + 1)) : (tailOf (restAt Tryz.f23.body 0)).wp Tryz.prog (jumps (fun l' a' w' => ∃ n', n' < 4 * (k + 1) + 3 ∧ JJ W w0 b g s R n' l' a' w') (ScQ W w0 b g s R)) (fr b g ok u) w := by
  have hcells : w.cell? ⟨b, 1, none⟩ = some (.int .i64 B0.at') ∧ w.cell? ⟨b, 2, none⟩ = some (.int .i64 B0.line) ∧ w.cell? ⟨b, 3, none⟩ = some (.int .i64 B0.col) := ⟨hS.bat, hS.bline, hS.bcol⟩
  obtain ⟨c1, c2, c3⟩ := hcells
  have c4 := hS.hat
  have c5 := hS.hline
  have c6 := hS.hcol
  have z1 := hS.fz 1
  have z2 := hS.fz 2
  have z3 := hS.fz 3
  have hS0 := hS.setBegin
  have hC0 := hC.only (Only.set3 w b (.int .i64 (pos s i).at') (.int .i64 (pos s i).line) (.int .i64 (pos s i).col))
  have nb1 : (y == 32) = false := by simp; omega
  have nb2 : (y == 9) = false := by simp; omega
  have nb3 : (y == 10) = false := by simp; omega
  have n123 : (y == 123) = false := by simp [h123]
  have h1 : ¬ (byteAt s i = 123 ∧ byteAt s (i + 1) = 45) := fun hc => h123 (by rw [← hy]; exact hc.1)
  have hrz : (s.extract i (rE sy s i)).size ≤ 65536 := by simp; omega
  have HB := Lib.hid (om_head hom)
  have HU := Lib.hid (unit_lin h1 hom)
  have HOM := Lib.hid hom
  have HY := Lib.hid hy
  clear h1 h123 hnb hom hy 
  unfold fr
  conv => arg 2; whnf
  go_wp2_with (first | (go_at_call 37; ((with_reducible refine (peek0 hS0 HY.out hz hi).mono ?_); rintro r w1 ⟨rfl, hO1⟩; have hS1 := hS0.keep hO1; have hC1 := hC0.only hO1.lift; clear c1 c2 c3 c4 c5 c6 z1 z2 z3)) | (go_at_call 38; refine (ended_no hS1 hil).mono ?_; rintro r w2 ⟨rfl, hO2⟩; have hS2 := hS1.keep hO2; have hC2 := hC1.only hO2.lift) | (go_at_call 41; refine (run_sp hS2 hz hi).mono ?_; rintro r w4 ⟨rfl, hO4⟩; have hS4 := hS2.keep hO4; have hC4 := hC2.only hO4.lift) | (go_at_call 40; refine (OnlyMinus_v _ true _ _ hrz HOM.out hC4.q).mono ?_; rintro r w5 ⟨rfl, hQ5, hO5⟩; have hS5 := hS4.keep hO5; have hC5 := hC4.only hO5.lift))
  go_step3
  exact ⟨4 * k + 6, by omega, JJ.toU (by decide) rfl rfl ⟨rfl, HB.out⟩ HU.out (Lib.hid (by rw [← HU.out]; exact HI.out)) hk hil hS5 hC5⟩
set_option maxRecDepth 100000 in
set_option maxHeartbeats 2000000 in
theorem p0_id (hz : s.size ≤ 65536) {k i : Nat} {B0 : At} {tk : Value} {ts : List Tok} {t : Tk} {u : Nat → Value} {ok : Value} (hS : Scn w b s B0 (pos s i) tk F0) (hC : Com W w0 b g s tk ts t w) (hi : i ≤ s.size) (hil : i < s.size) {y : Int} (hy : byteAt s i = y) (hnb : ¬ (y = 32 ∨ y = 9 ∨ y = 10)) (h123 : ¬ y = 123) (hom : om (s.extract i (rE sy s i)).data.toList = false) (h3 : stt y = true) (HI : Hid (stepR s k i ts (unit s i) = R)) (hk : s.size ≤ i + (k + 1)) : (tailOf (restAt Tryz.f23.body 0)).wp Tryz.prog (jumps (fun l' a' w' => ∃ n', n' < 4 * (k + 1) + 3 ∧ JJ W w0 b g s R n' l' a' w') (ScQ W w0 b g s R)) (fr b g ok u) w := by
  have hcells : w.cell? ⟨b, 1, none⟩ = some (.int .i64 B0.at') ∧ w.cell? ⟨b, 2, none⟩ = some (.int .i64 B0.line) ∧ w.cell? ⟨b, 3, none⟩ = some (.int .i64 B0.col) := ⟨hS.bat, hS.bline, hS.bcol⟩
  obtain ⟨c1, c2, c3⟩ := hcells
  have c4 := hS.hat
  have c5 := hS.hline
  have c6 := hS.hcol
  have z1 := hS.fz 1
  have z2 := hS.fz 2
  have z3 := hS.fz 3
  have hS0 := hS.setBegin
  have hC0 := hC.only (Only.set3 w b (.int .i64 (pos s i).at') (.int .i64 (pos s i).line) (.int .i64 (pos s i).col))
  have nb1 : (y == 32) = false := by simp; omega
  have nb2 : (y == 9) = false := by simp; omega
  have nb3 : (y == 10) = false := by simp; omega
  have n123 : (y == 123) = false := by simp [h123]
  have h1 : ¬ (byteAt s i = 123 ∧ byteAt s (i + 1) = 45) := fun hc => h123 (by rw [← hy]; exact hc.1)
  have hrz : (s.extract i (rE sy s i)).size ≤ 65536 := by simp; omega
  have H3 := Lib.hid h3
  have HU := Lib.hid (unit_id h1 hom (by rw [hy]; exact h3))
  have HOM := Lib.hid hom
  have HY := Lib.hid hy
  clear h1 h123 hnb hom hy h3
  unfold fr
  conv => arg 2; whnf
  go_wp2_with (first | (go_at_call 37; ((with_reducible refine (peek0 hS0 HY.out hz hi).mono ?_); rintro r w1 ⟨rfl, hO1⟩; have hS1 := hS0.keep hO1; have hC1 := hC0.only hO1.lift; clear c1 c2 c3 c4 c5 c6 z1 z2 z3)) | (go_at_call 38; refine (ended_no hS1 hil).mono ?_; rintro r w2 ⟨rfl, hO2⟩; have hS2 := hS1.keep hO2; have hC2 := hC1.only hO2.lift) | (go_at_call 41; refine (run_sp hS2 hz hi).mono ?_; rintro r w4 ⟨rfl, hO4⟩; have hS4 := hS2.keep hO4; have hC4 := hC2.only hO4.lift) | (go_at_call 40; refine (OnlyMinus_v _ false _ _ hrz HOM.out hC4.q).mono ?_; rintro r w5 ⟨rfl, hQ5, hO5⟩; have hS5 := hS4.keep hO5; have hC5 := hC4.only hO5.lift) | (go_at_call 43; refine (isStart_any _ _).mono ?_; rw [H3.out]; rintro r w6 ⟨rfl, rfl⟩))
  go_step3
  exact ⟨4 * k + 6, by omega, JJ.toU (by decide) rfl rfl ⟨rfl, by rw [HY.out]; exact H3.out⟩ HU.out (Lib.hid (by rw [← HU.out]; exact HI.out)) hk hil hS5 hC5⟩
set_option maxRecDepth 100000 in
set_option maxHeartbeats 2000000 in
theorem p0_sy (hz : s.size ≤ 65536) {k i : Nat} {B0 : At} {tk : Value} {ts : List Tok} {t : Tk} {u : Nat → Value} {ok : Value} (hS : Scn w b s B0 (pos s i) tk F0) (hC : Com W w0 b g s tk ts t w) (hi : i ≤ s.size) (hil : i < s.size) {y : Int} (hy : byteAt s i = y) (hnb : ¬ (y = 32 ∨ y = 9 ∨ y = 10)) (h123 : ¬ y = 123) (hom : om (s.extract i (rE sy s i)).data.toList = false) (h3 : stt y = false) (h4 : sy y = true) (HI : Hid (stepR s k i ts (unit s i) = R)) (hk : s.size ≤ i + (k + 1)) : (tailOf (restAt Tryz.f23.body 0)).wp Tryz.prog (jumps (fun l' a' w' => ∃ n', n' < 4 * (k + 1) + 3 ∧ JJ W w0 b g s R n' l' a' w') (ScQ W w0 b g s R)) (fr b g ok u) w := by
  have hcells : w.cell? ⟨b, 1, none⟩ = some (.int .i64 B0.at') ∧ w.cell? ⟨b, 2, none⟩ = some (.int .i64 B0.line) ∧ w.cell? ⟨b, 3, none⟩ = some (.int .i64 B0.col) := ⟨hS.bat, hS.bline, hS.bcol⟩
  obtain ⟨c1, c2, c3⟩ := hcells
  have c4 := hS.hat
  have c5 := hS.hline
  have c6 := hS.hcol
  have z1 := hS.fz 1
  have z2 := hS.fz 2
  have z3 := hS.fz 3
  have hS0 := hS.setBegin
  have hC0 := hC.only (Only.set3 w b (.int .i64 (pos s i).at') (.int .i64 (pos s i).line) (.int .i64 (pos s i).col))
  have nb1 : (y == 32) = false := by simp; omega
  have nb2 : (y == 9) = false := by simp; omega
  have nb3 : (y == 10) = false := by simp; omega
  have n123 : (y == 123) = false := by simp [h123]
  have h1 : ¬ (byteAt s i = 123 ∧ byteAt s (i + 1) = 45) := fun hc => h123 (by rw [← hy]; exact hc.1)
  have hrz : (s.extract i (rE sy s i)).size ≤ 65536 := by simp; omega
  have H3 := Lib.hid h3
  have H4 := Lib.hid h4
  have HU := Lib.hid (unit_sy h1 hom (by rw [hy]; exact h3) (by rw [hy]; exact h4))
  have HOM := Lib.hid hom
  have HY := Lib.hid hy
  clear h1 h123 hnb hom hy h3 h4
  unfold fr
  conv => arg 2; whnf
  go_wp2_with (first | (go_at_call 37; ((with_reducible refine (peek0 hS0 HY.out hz hi).mono ?_); rintro r w1 ⟨rfl, hO1⟩; have hS1 := hS0.keep hO1; have hC1 := hC0.only hO1.lift; clear c1 c2 c3 c4 c5 c6 z1 z2 z3)) | (go_at_call 38; refine (ended_no hS1 hil).mono ?_; rintro r w2 ⟨rfl, hO2⟩; have hS2 := hS1.keep hO2; have hC2 := hC1.only hO2.lift) | (go_at_call 41; refine (run_sp hS2 hz hi).mono ?_; rintro r w4 ⟨rfl, hO4⟩; have hS4 := hS2.keep hO4; have hC4 := hC2.only hO4.lift) | (go_at_call 40; refine (OnlyMinus_v _ false _ _ hrz HOM.out hC4.q).mono ?_; rintro r w5 ⟨rfl, hQ5, hO5⟩; have hS5 := hS4.keep hO5; have hC5 := hC4.only hO5.lift) | (go_at_call 43; refine (isStart_any _ _).mono ?_; rw [H3.out]; rintro r w6 ⟨rfl, rfl⟩) | (go_at_call 42; refine (isSymbol_any _ _).mono ?_; rw [H4.out]; rintro r w6 ⟨rfl, rfl⟩))
  go_step3
  exact ⟨4 * k + 6, by omega, JJ.toU (by decide) rfl rfl ⟨rfl, by rw [HY.out]; exact H4.out⟩ HU.out (Lib.hid (by rw [← HU.out]; exact HI.out)) hk hil hS5 hC5⟩
set_option maxRecDepth 100000 in
set_option maxHeartbeats 2000000 in
theorem p0_dg (hz : s.size ≤ 65536) {k i : Nat} {B0 : At} {tk : Value} {ts : List Tok} {t : Tk} {u : Nat → Value} {ok : Value} (hS : Scn w b s B0 (pos s i) tk F0) (hC : Com W w0 b g s tk ts t w) (hi : i ≤ s.size) (hil : i < s.size) {y : Int} (hy : byteAt s i = y) (hnb : ¬ (y = 32 ∨ y = 9 ∨ y = 10)) (h123 : ¬ y = 123) (hom : om (s.extract i (rE sy s i)).data.toList = false) (h3 : stt y = false) (h4 : sy y = false) (h5 : dg y = true) (HI : Hid (stepR s k i ts (unit s i) = R)) (hk : s.size ≤ i + (k + 1)) : (tailOf (restAt Tryz.f23.body 0)).wp Tryz.prog (jumps (fun l' a' w' => ∃ n', n' < 4 * (k + 1) + 3 ∧ JJ W w0 b g s R n' l' a' w') (ScQ W w0 b g s R)) (fr b g ok u) w := by
  have hcells : w.cell? ⟨b, 1, none⟩ = some (.int .i64 B0.at') ∧ w.cell? ⟨b, 2, none⟩ = some (.int .i64 B0.line) ∧ w.cell? ⟨b, 3, none⟩ = some (.int .i64 B0.col) := ⟨hS.bat, hS.bline, hS.bcol⟩
  obtain ⟨c1, c2, c3⟩ := hcells
  have c4 := hS.hat
  have c5 := hS.hline
  have c6 := hS.hcol
  have z1 := hS.fz 1
  have z2 := hS.fz 2
  have z3 := hS.fz 3
  have hS0 := hS.setBegin
  have hC0 := hC.only (Only.set3 w b (.int .i64 (pos s i).at') (.int .i64 (pos s i).line) (.int .i64 (pos s i).col))
  have nb1 : (y == 32) = false := by simp; omega
  have nb2 : (y == 9) = false := by simp; omega
  have nb3 : (y == 10) = false := by simp; omega
  have n123 : (y == 123) = false := by simp [h123]
  have h1 : ¬ (byteAt s i = 123 ∧ byteAt s (i + 1) = 45) := fun hc => h123 (by rw [← hy]; exact hc.1)
  have hrz : (s.extract i (rE sy s i)).size ≤ 65536 := by simp; omega
  have H3 := Lib.hid h3
  have H4 := Lib.hid h4
  have H5 := Lib.hid h5
  have HU := Lib.hid (unit_dg h1 hom (by rw [hy]; exact h3) (by rw [hy]; exact h4) (by rw [hy]; exact h5))
  have HOM := Lib.hid hom
  have HY := Lib.hid hy
  clear h1 h123 hnb hom hy h3 h4 h5
  unfold fr
  conv => arg 2; whnf
  go_wp2_with (first | (go_at_call 37; ((with_reducible refine (peek0 hS0 HY.out hz hi).mono ?_); rintro r w1 ⟨rfl, hO1⟩; have hS1 := hS0.keep hO1; have hC1 := hC0.only hO1.lift; clear c1 c2 c3 c4 c5 c6 z1 z2 z3)) | (go_at_call 38; refine (ended_no hS1 hil).mono ?_; rintro r w2 ⟨rfl, hO2⟩; have hS2 := hS1.keep hO2; have hC2 := hC1.only hO2.lift) | (go_at_call 41; refine (run_sp hS2 hz hi).mono ?_; rintro r w4 ⟨rfl, hO4⟩; have hS4 := hS2.keep hO4; have hC4 := hC2.only hO4.lift) | (go_at_call 40; refine (OnlyMinus_v _ false _ _ hrz HOM.out hC4.q).mono ?_; rintro r w5 ⟨rfl, hQ5, hO5⟩; have hS5 := hS4.keep hO5; have hC5 := hC4.only hO5.lift) | (go_at_call 43; refine (isStart_any _ _).mono ?_; rw [H3.out]; rintro r w6 ⟨rfl, rfl⟩) | (go_at_call 42; refine (isSymbol_any _ _).mono ?_; rw [H4.out]; rintro r w6 ⟨rfl, rfl⟩) | (go_at_call 44; refine (isDigit_any _ _).mono ?_; rw [H5.out]; rintro r w6 ⟨rfl, rfl⟩))
  go_step3
  exact ⟨4 * k + 6, by omega, JJ.toU (by decide) rfl rfl ⟨rfl, by rw [HY.out]; exact H5.out⟩ HU.out (Lib.hid (by rw [← HU.out]; exact HI.out)) hk hil hS5 hC5⟩
set_option maxRecDepth 100000 in
set_option maxHeartbeats 2000000 in
theorem p0_chr (hz : s.size ≤ 65536) {k i : Nat} {B0 : At} {tk : Value} {ts : List Tok} {t : Tk} {u : Nat → Value} {ok : Value} (hS : Scn w b s B0 (pos s i) tk F0) (hC : Com W w0 b g s tk ts t w) (hi : i ≤ s.size) (hil : i < s.size) {y : Int} (hy : byteAt s i = y) (hnb : ¬ (y = 32 ∨ y = 9 ∨ y = 10)) (h123 : ¬ y = 123) (hom : om (s.extract i (rE sy s i)).data.toList = false) (h3 : stt y = false) (h4 : sy y = false) (h5 : dg y = false) (h6 : y = 39) (HI : Hid (stepR s k i ts (unit s i) = R)) (hk : s.size ≤ i + (k + 1)) : (tailOf (restAt Tryz.f23.body 0)).wp Tryz.prog (jumps (fun l' a' w' => ∃ n', n' < 4 * (k + 1) + 3 ∧ JJ W w0 b g s R n' l' a' w') (ScQ W w0 b g s R)) (fr b g ok u) w := by
  have hcells : w.cell? ⟨b, 1, none⟩ = some (.int .i64 B0.at') ∧ w.cell? ⟨b, 2, none⟩ = some (.int .i64 B0.line) ∧ w.cell? ⟨b, 3, none⟩ = some (.int .i64 B0.col) := ⟨hS.bat, hS.bline, hS.bcol⟩
  obtain ⟨c1, c2, c3⟩ := hcells
  have c4 := hS.hat
  have c5 := hS.hline
  have c6 := hS.hcol
  have z1 := hS.fz 1
  have z2 := hS.fz 2
  have z3 := hS.fz 3
  have hS0 := hS.setBegin
  have hC0 := hC.only (Only.set3 w b (.int .i64 (pos s i).at') (.int .i64 (pos s i).line) (.int .i64 (pos s i).col))
  have nb1 : (y == 32) = false := by simp; omega
  have nb2 : (y == 9) = false := by simp; omega
  have nb3 : (y == 10) = false := by simp; omega
  have n123 : (y == 123) = false := by simp [h123]
  have h1 : ¬ (byteAt s i = 123 ∧ byteAt s (i + 1) = 45) := fun hc => h123 (by rw [← hy]; exact hc.1)
  have hrz : (s.extract i (rE sy s i)).size ≤ 65536 := by simp; omega
  have H3 := Lib.hid h3
  have H4 := Lib.hid h4
  have H5 := Lib.hid h5
  have e39 : (y == 39) = true := by simp [h6]
  have HU := Lib.hid ((unit_rest h1 hom (by rw [hy]; exact h3) (by rw [hy]; exact h4) (by rw [hy]; exact h5)).trans (if_pos (by rw [hy]; exact h6)))
  have HOM := Lib.hid hom
  have HY := Lib.hid hy
  clear h1 h123 hnb hom hy h3 h4 h5 h6
  unfold fr
  conv => arg 2; whnf
  go_wp2_with (first | (go_at_call 37; ((with_reducible refine (peek0 hS0 HY.out hz hi).mono ?_); rintro r w1 ⟨rfl, hO1⟩; have hS1 := hS0.keep hO1; have hC1 := hC0.only hO1.lift; clear c1 c2 c3 c4 c5 c6 z1 z2 z3)) | (go_at_call 38; refine (ended_no hS1 hil).mono ?_; rintro r w2 ⟨rfl, hO2⟩; have hS2 := hS1.keep hO2; have hC2 := hC1.only hO2.lift) | (go_at_call 41; refine (run_sp hS2 hz hi).mono ?_; rintro r w4 ⟨rfl, hO4⟩; have hS4 := hS2.keep hO4; have hC4 := hC2.only hO4.lift) | (go_at_call 40; refine (OnlyMinus_v _ false _ _ hrz HOM.out hC4.q).mono ?_; rintro r w5 ⟨rfl, hQ5, hO5⟩; have hS5 := hS4.keep hO5; have hC5 := hC4.only hO5.lift) | (go_at_call 43; refine (isStart_any _ _).mono ?_; rw [H3.out]; rintro r w6 ⟨rfl, rfl⟩) | (go_at_call 42; refine (isSymbol_any _ _).mono ?_; rw [H4.out]; rintro r w6 ⟨rfl, rfl⟩) | (go_at_call 44; refine (isDigit_any _ _).mono ?_; rw [H5.out]; rintro r w6 ⟨rfl, rfl⟩))
  go_step3
  exact ⟨4 * k + 6, by omega, JJ.toU (by decide) rfl rfl rfl HU.out (Lib.hid (by rw [← HU.out]; exact HI.out)) hk hil hS5 hC5⟩
set_option maxRecDepth 100000 in
set_option maxHeartbeats 2000000 in
theorem p0_txt (hz : s.size ≤ 65536) {k i : Nat} {B0 : At} {tk : Value} {ts : List Tok} {t : Tk} {u : Nat → Value} {ok : Value} (hS : Scn w b s B0 (pos s i) tk F0) (hC : Com W w0 b g s tk ts t w) (hi : i ≤ s.size) (hil : i < s.size) {y : Int} (hy : byteAt s i = y) (hnb : ¬ (y = 32 ∨ y = 9 ∨ y = 10)) (h123 : ¬ y = 123) (hom : om (s.extract i (rE sy s i)).data.toList = false) (h3 : stt y = false) (h4 : sy y = false) (h5 : dg y = false) (h6 : ¬ y = 39) (h7 : y = 34) (HI : Hid (stepR s k i ts (unit s i) = R)) (hk : s.size ≤ i + (k + 1)) : (tailOf (restAt Tryz.f23.body 0)).wp Tryz.prog (jumps (fun l' a' w' => ∃ n', n' < 4 * (k + 1) + 3 ∧ JJ W w0 b g s R n' l' a' w') (ScQ W w0 b g s R)) (fr b g ok u) w := by
  have hcells : w.cell? ⟨b, 1, none⟩ = some (.int .i64 B0.at') ∧ w.cell? ⟨b, 2, none⟩ = some (.int .i64 B0.line) ∧ w.cell? ⟨b, 3, none⟩ = some (.int .i64 B0.col) := ⟨hS.bat, hS.bline, hS.bcol⟩
  obtain ⟨c1, c2, c3⟩ := hcells
  have c4 := hS.hat
  have c5 := hS.hline
  have c6 := hS.hcol
  have z1 := hS.fz 1
  have z2 := hS.fz 2
  have z3 := hS.fz 3
  have hS0 := hS.setBegin
  have hC0 := hC.only (Only.set3 w b (.int .i64 (pos s i).at') (.int .i64 (pos s i).line) (.int .i64 (pos s i).col))
  have nb1 : (y == 32) = false := by simp; omega
  have nb2 : (y == 9) = false := by simp; omega
  have nb3 : (y == 10) = false := by simp; omega
  have n123 : (y == 123) = false := by simp [h123]
  have h1 : ¬ (byteAt s i = 123 ∧ byteAt s (i + 1) = 45) := fun hc => h123 (by rw [← hy]; exact hc.1)
  have hrz : (s.extract i (rE sy s i)).size ≤ 65536 := by simp; omega
  have H3 := Lib.hid h3
  have H4 := Lib.hid h4
  have H5 := Lib.hid h5
  have e39 : (y == 39) = false := by simp [h6]
  have e34 : (y == 34) = true := by simp [h7]
  have HU := Lib.hid ((unit_rest h1 hom (by rw [hy]; exact h3) (by rw [hy]; exact h4) (by rw [hy]; exact h5)).trans ((if_neg (by rw [hy]; exact h6)).trans (if_pos (by rw [hy]; exact h7))))
  have HOM := Lib.hid hom
  have HY := Lib.hid hy
  clear h1 h123 hnb hom hy h3 h4 h5 h6 h7
  unfold fr
  conv => arg 2; whnf
  go_wp2_with (first | (go_at_call 37; ((with_reducible refine (peek0 hS0 HY.out hz hi).mono ?_); rintro r w1 ⟨rfl, hO1⟩; have hS1 := hS0.keep hO1; have hC1 := hC0.only hO1.lift; clear c1 c2 c3 c4 c5 c6 z1 z2 z3)) | (go_at_call 38; refine (ended_no hS1 hil).mono ?_; rintro r w2 ⟨rfl, hO2⟩; have hS2 := hS1.keep hO2; have hC2 := hC1.only hO2.lift) | (go_at_call 41; refine (run_sp hS2 hz hi).mono ?_; rintro r w4 ⟨rfl, hO4⟩; have hS4 := hS2.keep hO4; have hC4 := hC2.only hO4.lift) | (go_at_call 40; refine (OnlyMinus_v _ false _ _ hrz HOM.out hC4.q).mono ?_; rintro r w5 ⟨rfl, hQ5, hO5⟩; have hS5 := hS4.keep hO5; have hC5 := hC4.only hO5.lift) | (go_at_call 43; refine (isStart_any _ _).mono ?_; rw [H3.out]; rintro r w6 ⟨rfl, rfl⟩) | (go_at_call 42; refine (isSymbol_any _ _).mono ?_; rw [H4.out]; rintro r w6 ⟨rfl, rfl⟩) | (go_at_call 44; refine (isDigit_any _ _).mono ?_; rw [H5.out]; rintro r w6 ⟨rfl, rfl⟩))
  go_step3
  exact ⟨4 * k + 6, by omega, JJ.toU (by decide) rfl rfl rfl HU.out (Lib.hid (by rw [← HU.out]; exact HI.out)) hk hil hS5 hC5⟩
set_option maxRecDepth 100000 in
set_option maxHeartbeats 2000000 in
theorem p0_spc (hz : s.size ≤ 65536) {k i : Nat} {B0 : At} {tk : Value} {ts : List Tok} {t : Tk} {u : Nat → Value} {ok : Value} (hS : Scn w b s B0 (pos s i) tk F0) (hC : Com W w0 b g s tk ts t w) (hi : i ≤ s.size) (hil : i < s.size) {y : Int} (hy : byteAt s i = y) (hnb : ¬ (y = 32 ∨ y = 9 ∨ y = 10)) (h123 : ¬ y = 123) (hom : om (s.extract i (rE sy s i)).data.toList = false) (h3 : stt y = false) (h4 : sy y = false) (h5 : dg y = false) (h6 : ¬ y = 39) (h7 : ¬ y = 34) (h8 : spc y = true) (HI : Hid (stepR s k i ts (unit s i) = R)) (hk : s.size ≤ i + (k + 1)) : (tailOf (restAt Tryz.f23.body 0)).wp Tryz.prog (jumps (fun l' a' w' => ∃ n', n' < 4 * (k + 1) + 3 ∧ JJ W w0 b g s R n' l' a' w') (ScQ W w0 b g s R)) (fr b g ok u) w := by
  have hcells : w.cell? ⟨b, 1, none⟩ = some (.int .i64 B0.at') ∧ w.cell? ⟨b, 2, none⟩ = some (.int .i64 B0.line) ∧ w.cell? ⟨b, 3, none⟩ = some (.int .i64 B0.col) := ⟨hS.bat, hS.bline, hS.bcol⟩
  obtain ⟨c1, c2, c3⟩ := hcells
  have c4 := hS.hat
  have c5 := hS.hline
  have c6 := hS.hcol
  have z1 := hS.fz 1
  have z2 := hS.fz 2
  have z3 := hS.fz 3
  have hS0 := hS.setBegin
  have hC0 := hC.only (Only.set3 w b (.int .i64 (pos s i).at') (.int .i64 (pos s i).line) (.int .i64 (pos s i).col))
  have nb1 : (y == 32) = false := by simp; omega
  have nb2 : (y == 9) = false := by simp; omega
  have nb3 : (y == 10) = false := by simp; omega
  have n123 : (y == 123) = false := by simp [h123]
  have h1 : ¬ (byteAt s i = 123 ∧ byteAt s (i + 1) = 45) := fun hc => h123 (by rw [← hy]; exact hc.1)
  have hrz : (s.extract i (rE sy s i)).size ≤ 65536 := by simp; omega
  have H3 := Lib.hid h3
  have H4 := Lib.hid h4
  have H5 := Lib.hid h5
  have e39 : (y == 39) = false := by simp [h6]
  have e34 : (y == 34) = false := by simp [h7]
  obtain ⟨v, hv⟩ : ∃ v, Lib.indexByte spB y.toNat.toUInt8 = v := ⟨_, rfl⟩
  have hv0 : 0 ≤ v := by have h := h8; unfold spc at h; rw [hv] at h; simp at h; omega
  have HV := Lib.hid hv
  have HU := Lib.hid ((unit_rest h1 hom (by rw [hy]; exact h3) (by rw [hy]; exact h4) (by rw [hy]; exact h5)).trans ((if_neg (by rw [hy]; exact h6)).trans ((if_neg (by rw [hy]; exact h7)).trans (if_pos (by rw [hy]; exact h8)))))
  have HOM := Lib.hid hom
  have HY := Lib.hid hy
  clear h1 h123 hnb hom hy h3 h4 h5 h6 h7 h8 hv
  unfold fr
  conv => arg 2; whnf
  go_wp2_with (first | (go_at_call 37; ((with_reducible refine (peek0 hS0 HY.out hz hi).mono ?_); rintro r w1 ⟨rfl, hO1⟩; have hS1 := hS0.keep hO1; have hC1 := hC0.only hO1.lift; clear c1 c2 c3 c4 c5 c6 z1 z2 z3)) | (go_at_call 38; refine (ended_no hS1 hil).mono ?_; rintro r w2 ⟨rfl, hO2⟩; have hS2 := hS1.keep hO2; have hC2 := hC1.only hO2.lift) | (go_at_call 41; refine (run_sp hS2 hz hi).mono ?_; rintro r w4 ⟨rfl, hO4⟩; have hS4 := hS2.keep hO4; have hC4 := hC2.only hO4.lift) | (go_at_call 40; refine (OnlyMinus_v _ false _ _ hrz HOM.out hC4.q).mono ?_; rintro r w5 ⟨rfl, hQ5, hO5⟩; have hS5 := hS4.keep hO5; have hC5 := hC4.only hO5.lift) | (go_at_call 43; refine (isStart_any _ _).mono ?_; rw [H3.out]; rintro r w6 ⟨rfl, rfl⟩) | (go_at_call 42; refine (isSymbol_any _ _).mono ?_; rw [H4.out]; rintro r w6 ⟨rfl, rfl⟩) | (go_at_call 44; refine (isDigit_any _ _).mono ?_; rw [H5.out]; rintro r w6 ⟨rfl, rfl⟩) | (go_at_call 45; refine (idx_v _ v _ HV.out).mono ?_; rintro r w6 ⟨rfl, rfl⟩))
  go_step3
  exact ⟨4 * k + 6, by omega, JJ.toU (by decide) rfl rfl rfl HU.out (Lib.hid (by rw [← HU.out]; exact HI.out)) hk hil hS5 hC5⟩
set_option maxRecDepth 100000 in
set_option maxHeartbeats 2000000 in
theorem p0_bad (hz : s.size ≤ 65536) {k i : Nat} {B0 : At} {tk : Value} {ts : List Tok} {t : Tk} {u : Nat → Value} {ok : Value} (hS : Scn w b s B0 (pos s i) tk F0) (hC : Com W w0 b g s tk ts t w) (hi : i ≤ s.size) (hil : i < s.size) {y : Int} (hy : byteAt s i = y) (hnb : ¬ (y = 32 ∨ y = 9 ∨ y = 10)) (h123 : ¬ y = 123) (hom : om (s.extract i (rE sy s i)).data.toList = false) (h3 : stt y = false) (h4 : sy y = false) (h5 : dg y = false) (h6 : ¬ y = 39) (h7 : ¬ y = 34) (h8 : spc y = false) (HI : Hid (stepR s k i ts (unit s i) = R)) (hk : s.size ≤ i + (k + 1)) : (tailOf (restAt Tryz.f23.body 0)).wp Tryz.prog (jumps (fun l' a' w' => ∃ n', n' < 4 * (k + 1) + 3 ∧ JJ W w0 b g s R n' l' a' w') (ScQ W w0 b g s R)) (fr b g ok u) w := by
  have hcells : w.cell? ⟨b, 1, none⟩ = some (.int .i64 B0.at') ∧ w.cell? ⟨b, 2, none⟩ = some (.int .i64 B0.line) ∧ w.cell? ⟨b, 3, none⟩ = some (.int .i64 B0.col) := ⟨hS.bat, hS.bline, hS.bcol⟩
  obtain ⟨c1, c2, c3⟩ := hcells
  have c4 := hS.hat
  have c5 := hS.hline
  have c6 := hS.hcol
  have z1 := hS.fz 1
  have z2 := hS.fz 2
  have z3 := hS.fz 3
  have hS0 := hS.setBegin
  have hC0 := hC.only (Only.set3 w b (.int .i64 (pos s i).at') (.int .i64 (pos s i).line) (.int .i64 (pos s i).col))
  have nb1 : (y == 32) = false := by simp; omega
  have nb2 : (y == 9) = false := by simp; omega
  have nb3 : (y == 10) = false := by simp; omega
  have n123 : (y == 123) = false := by simp [h123]
  have h1 : ¬ (byteAt s i = 123 ∧ byteAt s (i + 1) = 45) := fun hc => h123 (by rw [← hy]; exact hc.1)
  have hrz : (s.extract i (rE sy s i)).size ≤ 65536 := by simp; omega
  have H3 := Lib.hid h3
  have H4 := Lib.hid h4
  have H5 := Lib.hid h5
  have e39 : (y == 39) = false := by simp [h6]
  have e34 : (y == 34) = false := by simp [h7]
  obtain ⟨v, hv⟩ : ∃ v, Lib.indexByte spB y.toNat.toUInt8 = v := ⟨_, rfl⟩
  have hv0 : v < 0 := by have h := h8; unfold spc at h; rw [hv] at h; simp at h; omega
  have HV := Lib.hid hv
  have HU := Lib.hid ((unit_rest h1 hom (by rw [hy]; exact h3) (by rw [hy]; exact h4) (by rw [hy]; exact h5)).trans ((if_neg (by rw [hy]; exact h6)).trans ((if_neg (by rw [hy]; exact h7)).trans (if_neg (by rw [hy, h8]; decide)))))
  have HOM := Lib.hid hom
  have HY := Lib.hid hy
  clear h1 h123 hnb hom hy h3 h4 h5 h6 h7 h8 hv
  unfold fr
  conv => arg 2; whnf
  go_wp2_with (first | (go_at_call 37; ((with_reducible refine (peek0 hS0 HY.out hz hi).mono ?_); rintro r w1 ⟨rfl, hO1⟩; have hS1 := hS0.keep hO1; have hC1 := hC0.only hO1.lift; clear c1 c2 c3 c4 c5 c6 z1 z2 z3)) | (go_at_call 38; refine (ended_no hS1 hil).mono ?_; rintro r w2 ⟨rfl, hO2⟩; have hS2 := hS1.keep hO2; have hC2 := hC1.only hO2.lift) | (go_at_call 41; refine (run_sp hS2 hz hi).mono ?_; rintro r w4 ⟨rfl, hO4⟩; have hS4 := hS2.keep hO4; have hC4 := hC2.only hO4.lift) | (go_at_call 40; refine (OnlyMinus_v _ false _ _ hrz HOM.out hC4.q).mono ?_; rintro r w5 ⟨rfl, hQ5, hO5⟩; have hS5 := hS4.keep hO5; have hC5 := hC4.only hO5.lift) | (go_at_call 43; refine (isStart_any _ _).mono ?_; rw [H3.out]; rintro r w6 ⟨rfl, rfl⟩) | (go_at_call 42; refine (isSymbol_any _ _).mono ?_; rw [H4.out]; rintro r w6 ⟨rfl, rfl⟩) | (go_at_call 44; refine (isDigit_any _ _).mono ?_; rw [H5.out]; rintro r w6 ⟨rfl, rfl⟩) | (go_at_call 45; refine (idx_v _ v _ HV.out).mono ?_; rintro r w6 ⟨rfl, rfl⟩) | (go_at_call 46; refine (failHere_p hS5).mono ?_; rintro r w7 ⟨rfl, hB7, hO7⟩))
  exact ⟨rfl, by have h := HI.out; rw [HU.out] at h; rw [← h]; exact (hC5.only hO7).bad hB7⟩
set_option maxRecDepth 100000 in
set_option maxHeartbeats 2000000 in
theorem p0_brace (hz : s.size ≤ 65536) {k i : Nat} {B0 : At} {tk : Value} {ts : List Tok} {t : Tk} {u : Nat → Value} {ok : Value} (hS : Scn w b s B0 (pos s i) tk F0) (hC : Com W w0 b g s tk ts t w) (hi : i ≤ s.size) (hil : i < s.size) (hy : byteAt s i = 123) {x : Int} (hx : byteAt s (i + 1) = x) (hx45 : ¬ x = 45) (hom : om (s.extract i (rE sy s i)).data.toList = false) (HI : Hid (stepR s k i ts (unit s i) = R)) (hk : s.size ≤ i + (k + 1)) : (tailOf (restAt Tryz.f23.body 0)).wp Tryz.prog (jumps (fun l' a' w' => ∃ n', n' < 4 * (k + 1) + 3 ∧ JJ W w0 b g s R n' l' a' w') (ScQ W w0 b g s R)) (fr b g ok u) w := by
  have hcells : w.cell? ⟨b, 1, none⟩ = some (.int .i64 B0.at') ∧ w.cell? ⟨b, 2, none⟩ = some (.int .i64 B0.line) ∧ w.cell? ⟨b, 3, none⟩ = some (.int .i64 B0.col) := ⟨hS.bat, hS.bline, hS.bcol⟩
  obtain ⟨c1, c2, c3⟩ := hcells
  have c4 := hS.hat
  have c5 := hS.hline
  have c6 := hS.hcol
  have z1 := hS.fz 1
  have z2 := hS.fz 2
  have z3 := hS.fz 3
  have hS0 := hS.setBegin
  have hC0 := hC.only (Only.set3 w b (.int .i64 (pos s i).at') (.int .i64 (pos s i).line) (.int .i64 (pos s i).col))
  have hrz : (s.extract i (rE sy s i)).size ≤ 65536 := by simp; omega
  have e45 : (x == 45) = false := by simp [hx45]
  have h1 : ¬ (byteAt s i = 123 ∧ byteAt s (i + 1) = 45) := fun hc => hx45 (by rw [← hx]; exact hc.2)
  have h3 : stt 123 = false := by decide
  have h4 : sy 123 = false := by decide
  have h5 : dg 123 = false := by decide
  obtain ⟨v, hv⟩ : ∃ v, Lib.indexByte spB (123 : Int).toNat.toUInt8 = v := ⟨_, rfl⟩
  have hv0 : 0 ≤ v := by rw [← hv]; decide
  have HV := Lib.hid hv
  have HU : Hid (unit s i = .tok ⟨8, nil8, s.extract i (i + 1), 0⟩ (i + 1)) := Lib.hid ((unit_rest h1 hom (by rw [hy]; exact h3) (by rw [hy]; exact h4) (by rw [hy]; exact h5)).trans (by rw [hy]; simp [show spc 123 = true by decide]))
  have H3 := Lib.hid h3
  have H4 := Lib.hid h4
  have H5 := Lib.hid h5
  have HOM := Lib.hid hom
  have HY := Lib.hid hy
  have HX := Lib.hid hx
  clear h1 hom hy hx hx45 h3 h4 h5 hv
  unfold fr
  conv => arg 2; whnf
  go_wp2_with (first | (go_at_call 37; ((with_reducible refine (peek0 hS0 HY.out hz hi).mono ?_); rintro r w1 ⟨rfl, hO1⟩; have hS1 := hS0.keep hO1; have hC1 := hC0.only hO1.lift; clear c1 c2 c3 c4 c5 c6 z1 z2 z3)) | (go_at_call 38; refine (ended_no hS1 hil).mono ?_; rintro r w2 ⟨rfl, hO2⟩; have hS2 := hS1.keep hO2; have hC2 := hC1.only hO2.lift) | (go_at_call 37; ((with_reducible refine (peek1 hS2 HX.out hz hi).mono ?_); rintro r w3 ⟨rfl, hO3⟩; have hS3 := hS2.keep hO3; have hC3 := hC2.only hO3.lift)) | (go_at_call 41; refine (run_sp hS3 hz hi).mono ?_; rintro r w4 ⟨rfl, hO4⟩; have hS4 := hS3.keep hO4; have hC4 := hC3.only hO4.lift) | (go_at_call 40; refine (OnlyMinus_v _ false _ _ hrz HOM.out hC4.q).mono ?_; rintro r w5 ⟨rfl, hQ5, hO5⟩; have hS5 := hS4.keep hO5; have hC5 := hC4.only hO5.lift) | (go_at_call 43; refine (isStart_any _ _).mono ?_; rw [H3.out]; rintro r w6 ⟨rfl, rfl⟩) | (go_at_call 42; refine (isSymbol_any _ _).mono ?_; rw [H4.out]; rintro r w6 ⟨rfl, rfl⟩) | (go_at_call 44; refine (isDigit_any _ _).mono ?_; rw [H5.out]; rintro r w6 ⟨rfl, rfl⟩) | (go_at_call 45; refine (idx_v _ v _ HV.out).mono ?_; rintro r w6 ⟨rfl, rfl⟩))
  go_step3
  exact ⟨4 * k + 6, by omega, JJ.toU (by decide) rfl rfl rfl HU.out (Lib.hid (by rw [← HU.out]; exact HI.out)) hk hil hS5 hC5⟩
theorem spc_123 : spc 123 = true := by decide
theorem stt_ne {y : Int} (h : stt y = true) : ¬ y = 123 := fun e => by rw [e] at h; exact absurd h (by decide)
theorem sy_ne {y : Int} (h : sy y = true) : ¬ y = 123 := fun e => by rw [e] at h; exact absurd h (by decide)
theorem dg_ne {y : Int} (h : dg y = true) : ¬ y = 123 := fun e => by rw [e] at h; exact absurd h (by decide)
theorem pass0t (hz : s.size ≤ 65536) (hJ : JJ W w0 b g s R n 0 a w) : (tailOf (restAt Tryz.f23.body 0)).wp Tryz.prog (jumps (fun l' a' w' => ∃ n', n' < n ∧ JJ W w0 b g s R n' l' a' w') (ScQ W w0 b g s R)) a w := by
  obtain ⟨u, ok, k, i, B0, tk, ts, t, rfl, rfl, HI, h1, h2, hS, hC⟩ := hJ
  by_cases he : i = s.size
  · exact p0_end (k := k) hz hS hC h2 he (by rw [← HI.out]; exact lexF_end (by omega))
  have hil : i < s.size := by omega
  obtain ⟨k, rfl⟩ : ∃ k', k = k' + 1 := ⟨k - 1, by omega⟩
  by_cases hb : byteAt s i = 32 ∨ byteAt s i = 9 ∨ byteAt s i = 10
  · exact p0_blank hz hS hC h2 hil rfl hb (Lib.hid (by rw [← HI.out, lexF_blank hil hb])) (by omega)
  have HI' : Hid (stepR s k i ts (unit s i) = R) := Lib.hid (by rw [← HI.out, lexF_unit hil hb])
  by_cases hc : byteAt s i = 123 ∧ byteAt s (i + 1) = 45
  · exact p0_com hz hS hC h2 hil hc HI' (by omega)
  cases hom : om (s.extract i (rE sy s i)).data.toList
  · cases h3 : stt (byteAt s i)
    · cases h4 : sy (byteAt s i)
      · cases h5 : dg (byteAt s i)
        · by_cases h6 : byteAt s i = 39
          · exact p0_chr hz hS hC h2 hil rfl hb (by omega) hom h3 h4 h5 h6 HI' (by omega)
          by_cases h7 : byteAt s i = 34
          · exact p0_txt hz hS hC h2 hil rfl hb (by omega) hom h3 h4 h5 h6 h7 HI' (by omega)
          by_cases h9 : byteAt s i = 123
          · exact p0_brace hz hS hC h2 hil h9 rfl (fun hx => hc ⟨h9, hx⟩) hom HI' (by omega)
          cases h8 : spc (byteAt s i)
          · exact p0_bad hz hS hC h2 hil rfl hb h9 hom h3 h4 h5 h6 h7 h8 HI' (by omega)
          · exact p0_spc hz hS hC h2 hil rfl hb h9 hom h3 h4 h5 h6 h7 h8 HI' (by omega)
        · exact p0_dg hz hS hC h2 hil rfl hb (dg_ne h5) hom h3 h4 h5 HI' (by omega)
      · exact p0_sy hz hS hC h2 hil rfl hb (sy_ne h4) hom h3 h4 HI' (by omega)
    · exact p0_id hz hS hC h2 hil rfl hb (stt_ne h3) hom h3 HI' (by omega)
  · exact p0_lin hz hS hC h2 hil rfl hb (by rw [om_head hom]; decide) hom HI' (by omega)
theorem rest0 : restAt Tryz.f23.body 0 = .seq .skip (tailOf (restAt Tryz.f23.body 0)) := by kernel_rfl
theorem pass0 (hz : s.size ≤ 65536) (hJ : JJ W w0 b g s R n 0 a w) : (restAt Tryz.f23.body 0).wp Tryz.prog (jumps (fun l' a' w' => ∃ n', n' < n ∧ JJ W w0 b g s R n' l' a' w') (ScQ W w0 b g s R)) a w := by
  rw [rest0]
  exact wp_seq (wp_skip (pass0t hz hJ))
end
end Go.Proofs.YtelichlplblboaaGreatDoor
namespace Go.Proofs.YtelichlplblboaaGreatDoor
open Go.RowKit Go.Maps
section
variable {W w : World} {b : Nat} {s : ByteArray}
theorem scan_body : Tryz.f23.body = some (Code.scope (((Tryz.f23.body).bind scopeOf).getD .skip)) := by kernel_rfl
theorem scan_find (l : Nat) (h : (findLabel (((Tryz.f23.body).bind scopeOf).getD .skip) l).isSome = true) : findLabel (((Tryz.f23.body).bind scopeOf).getD .skip) l = some (restAt Tryz.f23.body l) := by
  have e : restAt Tryz.f23.body l = (findLabel (((Tryz.f23.body).bind scopeOf).getD .skip) l).getD .skip := by
    unfold restAt
    have : (Tryz.f23.body).bind scopeOf = some (((Tryz.f23.body).bind scopeOf).getD .skip) := by kernel_rfl
    conv => lhs; rw [this]
    rfl
  rw [e]
  cases hf : findLabel (((Tryz.f23.body).bind scopeOf).getD .skip) l with
  | none => rw [hf] at h; cases h
  | some c => rfl
theorem passes {W w0 w : World} {b g : Nat} {s : ByteArray} {R : LL} (hz : s.size ≤ 65536) (n l : Nat) (a : Act) (hJ : JJ W w0 b g s R n l a w) :
    ∃ rest, findLabel (((Tryz.f23.body).bind scopeOf).getD .skip) l = some rest ∧ rest.wp Tryz.prog (jumps (fun l' a' w' => ∃ n', n' < n ∧ JJ W w0 b g s R n' l' a' w') (ScQ W w0 b g s R)) a w := by
  have hl : l ≤ 10 := by
    by_cases h : l ≤ 10
    · exact h
    · exfalso
      obtain ⟨m, rfl⟩ : ∃ m, l = m + 11 := ⟨l - 11, by omega⟩
      obtain ⟨_, _, _, _, _, _, _, _, _, _, hU, _⟩ := hJ
      exact hU
  refine ⟨restAt Tryz.f23.body l, scan_find l ?_, ?_⟩
  · have : l = 0 ∨ l = 1 ∨ l = 2 ∨ l = 3 ∨ l = 4 ∨ l = 5 ∨ l = 6 ∨ l = 7 ∨ l = 8 ∨ l = 9 ∨ l = 10 := by omega
    rcases this with rfl | rfl | rfl | rfl | rfl | rfl | rfl | rfl | rfl | rfl | rfl <;> rfl
  · have : l = 0 ∨ l = 1 ∨ l = 2 ∨ l = 3 ∨ l = 4 ∨ l = 5 ∨ l = 6 ∨ l = 7 ∨ l = 8 ∨ l = 9 ∨ l = 10 := by omega
    rcases this with rfl | rfl | rfl | rfl | rfl | rfl | rfl | rfl | rfl | rfl | rfl
    · exact pass0 hz hJ
    · exact pass1 hz hJ
    · exact pass2 hz hJ
    · exact pass3 hz hJ
    · exact pass4 hz hJ
    · exact pass5 hz hJ
    · exact pass6 hz hJ
    · exact pass7 hz hJ
    · exact pass8 hz hJ
    · exact pass9 hJ
    · exact pass10 hz hJ
set_option maxRecDepth 100000 in
set_option maxHeartbeats 2000000 in
theorem scan_p {B0 : At} (hQ : Q W w) (hWb : W.heap.size ≤ b) (hS : Scn w b s B0 (pos s 0) (.slice none 0 0) F0) (hz : s.size ≤ 65536) :
    Calls Tryz.prog 23 #[.pointer (some ⟨b, 0, none⟩)] w fun r w' => r = .returned (.tuple #[]) ∧ Fin W w b w.heap.size s (lexF s s.size 0 []) w' := by
  have hSz := hS.lt
  go_enter Tryz.func23, Tryz.ntmps23
  refine wp_mono (wp_scope_multi (JJ W w b w.heap.size s (lexF s s.size 0 [])) (Q := ScQ W w b w.heap.size s (lexF s s.size 0 [])) ?first (fun n l a w' hJ => passes hz n l a hJ)) ?post
  case post =>
    intro e a w' h
    cases e with
    | ret => exact ⟨h.1, .tuple #[], results_none rfl _ _ _, rfl, h.2⟩
    | normal => exact ⟨h.1, .tuple #[], results_none rfl _ _ _, rfl, h.2⟩
    | exit id => exact h.elim
    | goto l => exact h.elim
    | panic c => exact h.elim
    | outgrown => exact h.elim
  case first =>
    go_wp2
    go_step3
    refine ‹∀ (a : Act) (w : World), Code.wp _ _ _ a w → _› _ _ ?_
    refine wp_mono (pass0t (n := 4 * s.size + 3) hz (JJ.to0 (k := s.size) (i := 0) (B0 := B0) (tk := .slice none 0 0) (ts := []) (t := ⟨0, ⟨#[]⟩, ⟨#[]⟩, 0⟩) rfl rfl (Lib.hid rfl) (by omega) (by omega) (hS.alloc _) ⟨hQ.below ((Below.refl _ _).alloc (Nat.le_refl _) _), hWb, hSz, rfl, by show w.heap.size < (w.heap.push _).size; simp, World.ownsRow_nil _ _ _ _, new_block _ _, by simp, Only.of_below ((Below.refl _ _).alloc (Nat.le_refl _) _)⟩)) ?_
    intro e a w' h
    cases e with
    | goto l => obtain ⟨n', _, hJ⟩ := h; exact ⟨n', hJ⟩
    | ret => exact h
    | normal => exact h
    | exit id => exact h
    | panic c => exact h
    | outgrown => exact h
end
end Go.Proofs.YtelichlplblboaaGreatDoor
namespace Go.Proofs.YtelichlplblboaaGreatDoor
open Go.RowKit Go.Maps
abbrev fltV (f : Flt) : Value := .agg #[.int .i64 f.code, .string f.name, .int .i64 f.line, .int .i64 f.col]
/-- What Lex answers. -/
def LexPost (w : World) (R : LL) (r : Ending) (w' : World) : Prop :=
  match R with
  | .ok l => ∃ tk, r = .returned (.tuple #[tk, fltV F0]) ∧ TR w' w.heap.size tk l ∧ Below w.heap.size w w'
  | .bad f => r = .returned (.tuple #[.slice none 0 0, fltV f]) ∧ Below w.heap.size w w'
/-- A fault's variable that holds nothing yet. -/
def FB (w : World) (g : Nat) : Prop := w.heap[g]? = some (.cells #[.int .i64 0, .string ⟨#[]⟩, .int .i64 0, .int .i64 0] 26 (0, 0))
theorem FB.only {w w' : World} {g : Nat} {K : Nat → Prop} (h : FB w g) (ho : Only K w w') (hk : ¬ K g) : FB w' g := (ho.block g (lt_of_block h) hk).trans h
theorem FB.c0 {w : World} {g : Nat} (h : FB w g) : w.cell? ⟨g, 0, none⟩ = some (.int .i64 0) := by have h' := h; unfold FB at h'; simp [World.cell?, h']
theorem FB.c1 {w : World} {g : Nat} (h : FB w g) : w.cell? ⟨g, 1, none⟩ = some (.string ⟨#[]⟩) := by have h' := h; unfold FB at h'; simp [World.cell?, h']
theorem FB.c2 {w : World} {g : Nat} (h : FB w g) : w.cell? ⟨g, 2, none⟩ = some (.int .i64 0) := by have h' := h; unfold FB at h'; simp [World.cell?, h']
theorem FB.c3 {w : World} {g : Nat} (h : FB w g) : w.cell? ⟨g, 3, none⟩ = some (.int .i64 0) := by have h' := h; unfold FB at h'; simp [World.cell?, h']
theorem FB.fz {w : World} {g : Nat} (h : FB w g) (k : Nat) : w.frozen? ⟨g, k, none⟩ = false := by have h' := h; unfold FB at h'; simp [World.frozen?, h']
theorem TR.base {w : World} {B B' : Nat} {v : Value} {ts : List Tok} (h : TR w B v ts) (hB : B' ≤ B) : TR w B' v ts := by
  obtain ⟨h1, h2⟩ := h
  refine ⟨h1, ?_⟩
  rcases h2 with hn | ⟨g, cap, cur, hv, hb, r⟩
  · exact .inl hn
  · exact .inr ⟨g, cap, cur, hv, by omega, r⟩
theorem Only.set4 (w : World) (g : Nat) (v0 v1 v2 v3 : Value) : Only (· = g) w ((((w.setCell ⟨g, 0, none⟩ v0).setCell ⟨g, 1, none⟩ v1).setCell ⟨g, 2, none⟩ v2).setCell ⟨g, 3, none⟩ v3) :=
  ((((Only.refl (· = g) w).setCell (k := 0) rfl _).setCell (k := 1) rfl _).setCell (k := 2) rfl _).setCell (k := 3) rfl _
set_option maxRecDepth 100000 in
set_option maxHeartbeats 2000000 in
theorem Lex_long (s : ByteArray) (w : World) (hl : 65536 < s.size) :
    Calls Tryz.prog 11 #[.string s] w (LexPost w (.bad ⟨3, nil8, 0, 0⟩)) := by
  go_enter Tryz.func11, Tryz.ntmps11
  go_wp2
  exact bodyPost_ret (v := .tuple #[.slice none 0 0, fltV ⟨3, nil8, 0, 0⟩]) (by simp [results, Tryz.results11, go_sem, nil8]) rfl ⟨rfl, (Below.refl _ _).alloc (Nat.le_refl _) _⟩
theorem scn_new (s : ByteArray) (w : World) : Scn ((w.alloc (.cells #[.int .i64 0, .string ⟨#[]⟩, .int .i64 0, .int .i64 0] 26)).alloc (.cells #[.string s, .int .i64 0, .int .i64 0, .int .i64 0, .int .i64 0, .int .i64 1, .int .i64 1, .slice none 0 0, .int .i64 0, .string ⟨#[]⟩, .int .i64 0, .int .i64 0] 47)) (w.heap.size + 1) s ⟨0, 0, 0⟩ (pos s 0) (.slice none 0 0) F0 := by
  have h := new_block (w.alloc (.cells #[.int .i64 0, .string ⟨#[]⟩, .int .i64 0, .int .i64 0] 26)) (.cells #[.string s, .int .i64 0, .int .i64 0, .int .i64 0, .int .i64 0, .int .i64 1, .int .i64 1, .slice none 0 0, .int .i64 0, .string ⟨#[]⟩, .int .i64 0, .int .i64 0] 47)
  have e : (w.alloc (.cells #[.int .i64 0, .string ⟨#[]⟩, .int .i64 0, .int .i64 0] 26)).heap.size = w.heap.size + 1 := by show (w.heap.push _).size = _; simp
  rw [e] at h
  exact h
theorem fb_new (s : ByteArray) (w : World) : FB ((w.alloc (.cells #[.int .i64 0, .string ⟨#[]⟩, .int .i64 0, .int .i64 0] 26)).alloc (.cells #[.string s, .int .i64 0, .int .i64 0, .int .i64 0, .int .i64 0, .int .i64 1, .int .i64 1, .slice none 0 0, .int .i64 0, .string ⟨#[]⟩, .int .i64 0, .int .i64 0] 47)) w.heap.size := by
  have h := new_block w (.cells #[.int .i64 0, .string ⟨#[]⟩, .int .i64 0, .int .i64 0] 26)
  have e : ((w.alloc (.cells #[.int .i64 0, .string ⟨#[]⟩, .int .i64 0, .int .i64 0] 26)).alloc (.cells #[.string s, .int .i64 0, .int .i64 0, .int .i64 0, .int .i64 0, .int .i64 1, .int .i64 1, .slice none 0 0, .int .i64 0, .string ⟨#[]⟩, .int .i64 0, .int .i64 0] 47)).heap[w.heap.size]? = (w.alloc (.cells #[.int .i64 0, .string ⟨#[]⟩, .int .i64 0, .int .i64 0] 26)).heap[w.heap.size]? := Below.heap_alloc _ _ _ (by show w.heap.size < (w.heap.push _).size; simp)
  exact e.trans h
theorem lex_only (s : ByteArray) (w : World) : Only (fun i => w.heap.size ≤ i) w ((w.alloc (.cells #[.int .i64 0, .string ⟨#[]⟩, .int .i64 0, .int .i64 0] 26)).alloc (.cells #[.string s, .int .i64 0, .int .i64 0, .int .i64 0, .int .i64 0, .int .i64 1, .int .i64 1, .slice none 0 0, .int .i64 0, .string ⟨#[]⟩, .int .i64 0, .int .i64 0] 47)) :=
  (Only.of_below ((Below.refl _ _).alloc (Nat.le_refl _) _)).trans (Only.of_below ((Below.refl _ _).alloc (Nat.le_refl _) _))
set_option maxRecDepth 100000 in
set_option maxHeartbeats 2000000 in
theorem Lex_bad (s : ByteArray) (W w : World) (hQ : Q W w) (hl : s.size ≤ 65536) (f : Flt) (hR : lexF s s.size 0 [] = .bad f) :
    Calls Tryz.prog 11 #[.string s] w (LexPost w (.bad f)) := by
  have hS := scn_new s w
  have hF := fb_new s w
  have hQ1 : Q W ((w.alloc (.cells #[.int .i64 0, .string ⟨#[]⟩, .int .i64 0, .int .i64 0] 26)).alloc (.cells #[.string s, .int .i64 0, .int .i64 0, .int .i64 0, .int .i64 0, .int .i64 1, .int .i64 1, .slice none 0 0, .int .i64 0, .string ⟨#[]⟩, .int .i64 0, .int .i64 0] 47)) := (hQ.below ((Below.refl _ _).alloc (Nat.le_refl _) _)).below ((Below.refl _ _).alloc (Nat.le_refl _) _)
  have hwz := hQ.bel.size
  have hc := (lexF_is _ hR).code
  have ec : (f.code == 0) = false := by simp [hc]
  have HR := Lib.hid hR
  clear hR hc
  have hle : decide (65536 < (s.size : Int)) = false := by simp; omega
  go_enter Tryz.func11, Tryz.ntmps11
  go_wp2_with (first | (go_at_call 23; refine (scan_p hQ1 (by omega) hS hl).mono ?_; rw [HR.out]; rintro r w2 ⟨rfl, hQ2, hO2, i0, tk, j, hS2⟩; have f8 := hS2.f8; have f9 := hS2.f9; have f10 := hS2.f10; have f11 := hS2.f11; have hF2 := hF.only hO2 (by omega); have d0 := hF2.c0; have d1 := hF2.c1; have d2 := hF2.c2; have d3 := hF2.c3; have z0 := hF2.fz 0; have z1 := hF2.fz 1; have z2 := hF2.fz 2; have z3 := hF2.fz 3))
  go_region
  all_goals
    go_wp2
    exact bodyPost_ret (v := .tuple #[.slice none 0 0, fltV f]) (by simp [results, Tryz.results11, go_sem, d0, d1, d2, d3]) rfl ⟨rfl, (((lex_only s w).trans (hO2.wide (K' := fun i => w.heap.size ≤ i) (fun i hi => by omega))).trans ((Only.set4 _ _ _ _ _ _).wide (K' := fun i => w.heap.size ≤ i) (fun i hi => by omega))).drew.below (Nat.le_refl _) (fun i hi => hi)⟩
set_option maxRecDepth 100000 in
set_option maxHeartbeats 2000000 in
theorem Lex_ok (s : ByteArray) (W w : World) (hQ : Q W w) (hl : s.size ≤ 65536) (l : List Tok) (hR : lexF s s.size 0 [] = .ok l) :
    Calls Tryz.prog 11 #[.string s] w (LexPost w (.ok l)) := by
  have hS := scn_new s w
  have hF := fb_new s w
  have hQ1 : Q W ((w.alloc (.cells #[.int .i64 0, .string ⟨#[]⟩, .int .i64 0, .int .i64 0] 26)).alloc (.cells #[.string s, .int .i64 0, .int .i64 0, .int .i64 0, .int .i64 0, .int .i64 1, .int .i64 1, .slice none 0 0, .int .i64 0, .string ⟨#[]⟩, .int .i64 0, .int .i64 0] 47)) := (hQ.below ((Below.refl _ _).alloc (Nat.le_refl _) _)).below ((Below.refl _ _).alloc (Nat.le_refl _) _)
  have hwz := hQ.bel.size
  have HR := Lib.hid hR
  clear hR
  have hle : decide (65536 < (s.size : Int)) = false := by simp; omega
  go_enter Tryz.func11, Tryz.ntmps11
  go_wp2_with (first | (go_at_call 23; refine (scan_p hQ1 (by omega) hS hl).mono ?_; rw [HR.out]; rintro r w2 ⟨rfl, hQ2, hO2, i0, j, tk, hS2, hT2⟩; have f7 := hS2.toks; have f8 := hS2.f8; have f9 := hS2.f9; have f10 := hS2.f10; have f11 := hS2.f11; have hF2 := hF.only hO2 (by omega); have d0 := hF2.c0; have d1 := hF2.c1; have d2 := hF2.c2; have d3 := hF2.c3; have z0 := hF2.fz 0; have z1 := hF2.fz 1; have z2 := hF2.fz 2; have z3 := hF2.fz 3))
  have hz2 : w.heap.size + 1 ≤ ((w.alloc (.cells #[.int .i64 0, .string ⟨#[]⟩, .int .i64 0, .int .i64 0] 26)).alloc (.cells #[.string s, .int .i64 0, .int .i64 0, .int .i64 0, .int .i64 0, .int .i64 1, .int .i64 1, .slice none 0 0, .int .i64 0, .string ⟨#[]⟩, .int .i64 0, .int .i64 0] 47)).heap.size := by show _ ≤ ((w.heap.push _).push _).size; simp
  refine bodyPost_ret (v := .tuple #[tk, fltV F0]) (by simp [results, Tryz.results11, go_sem, d0, d1, d2, d3]) rfl ⟨tk, rfl, (hT2.only (Only.set4 _ _ _ _ _ _) (fun i hi => by omega)).base (by omega), (((lex_only s w).trans (hO2.wide (K' := fun i => w.heap.size ≤ i) (fun i hi => by omega))).trans ((Only.set4 _ _ _ _ _ _).wide (K' := fun i => w.heap.size ≤ i) (fun i hi => by omega))).below (Nat.le_refl _) (fun i hi => hi)⟩
/-- Lex, at every source. -/
theorem Lex_p (s : ByteArray) (W w : World) (hQ : Q W w) : Calls Tryz.prog 11 #[.string s] w (LexPost w (lexP s)) := by
  unfold lexP
  by_cases hl : 65536 < s.size
  · rw [if_pos hl]; exact Lex_long s w hl
  · rw [if_neg hl]
    cases hR : lexF s s.size 0 [] with
    | ok l => exact Lex_ok s W w hQ (by omega) l hR
    | bad f => exact Lex_bad s W w hQ (by omega) f hR
end Go.Proofs.YtelichlplblboaaGreatDoor
