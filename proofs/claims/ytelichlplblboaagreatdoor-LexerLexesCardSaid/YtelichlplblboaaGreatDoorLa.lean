/-
  The lexer's scanner in memory: its cells; ended, peek.
  The lexer's scanner: skip.
  The lexer scanner: runs.
  The lexer's scanner: the classes of source bytes; fail, failHere.
-/
import Derived.Test.YtelichlplblboaaGreatDoorNma
import Derived.Test.YtelichlplblboaaGreatDoorOnly
import Derived.RegionTactic
import Derived.ChangeAlike
import Derived.Deep.LoopGhost
import Derived.Deep.RegionWith
namespace Go.Proofs.YtelichlplblboaaGreatDoor
open Go.RowKit
/-- A place of a source: byte, line, column. -/
structure At where
  at' : Nat
  line : Nat
  col : Nat
/-- A fault: code, name, line, column. -/
structure Flt where
  code : Int
  name : ByteArray
  line : Nat
  col : Nat
/-- The scanner at b. -/
def Scn (w : World) (b : Nat) (src : ByteArray) (B H : At) (tk : Value) (F : Flt) : Prop :=
  w.heap[b]? = some (.cells #[.string src, .int .i64 B.at', .int .i64 B.line, .int .i64 B.col, .int .i64 H.at', .int .i64 H.line, .int .i64 H.col, tk, .int .i64 F.code, .string F.name, .int .i64 F.line, .int .i64 F.col] 47 (0, 0))
section
variable {w w' : World} {b : Nat} {src : ByteArray} {B H : At} {tk : Value} {F : Flt}
theorem Scn.lt (h : Scn w b src B H tk F) : b < w.heap.size := lt_of_block h
theorem Scn.only {K : Nat → Prop} (h : Scn w b src B H tk F) (ho : Only K w w') (hb : ¬ K b) : Scn w' b src B H tk F := (ho.block b h.lt hb).trans h
theorem Scn.below (h : Scn w b src B H tk F) (ho : Below w.heap.size w w') : Scn w' b src B H tk F := (ho.block b h.lt).trans h
theorem Scn.src' (h : Scn w b src B H tk F) : w.cell? ⟨b, 0, none⟩ = some (.string src) := by have h' := h; unfold Scn at h'; simp [World.cell?, h']
theorem Scn.bat (h : Scn w b src B H tk F) : w.cell? ⟨b, 1, none⟩ = some (.int .i64 B.at') := by have h' := h; unfold Scn at h'; simp [World.cell?, h']
theorem Scn.bline (h : Scn w b src B H tk F) : w.cell? ⟨b, 2, none⟩ = some (.int .i64 B.line) := by have h' := h; unfold Scn at h'; simp [World.cell?, h']
theorem Scn.bcol (h : Scn w b src B H tk F) : w.cell? ⟨b, 3, none⟩ = some (.int .i64 B.col) := by have h' := h; unfold Scn at h'; simp [World.cell?, h']
theorem Scn.hat (h : Scn w b src B H tk F) : w.cell? ⟨b, 4, none⟩ = some (.int .i64 H.at') := by have h' := h; unfold Scn at h'; simp [World.cell?, h']
theorem Scn.hline (h : Scn w b src B H tk F) : w.cell? ⟨b, 5, none⟩ = some (.int .i64 H.line) := by have h' := h; unfold Scn at h'; simp [World.cell?, h']
theorem Scn.hcol (h : Scn w b src B H tk F) : w.cell? ⟨b, 6, none⟩ = some (.int .i64 H.col) := by have h' := h; unfold Scn at h'; simp [World.cell?, h']
theorem Scn.toks (h : Scn w b src B H tk F) : w.cell? ⟨b, 7, none⟩ = some tk := by have h' := h; unfold Scn at h'; simp [World.cell?, h']
theorem Scn.fz (h : Scn w b src B H tk F) (k : Nat) : w.frozen? ⟨b, k, none⟩ = false := by have h' := h; unfold Scn at h'; simp [World.frozen?, h']
end
/-- The byte at i, or 0. -/
def byteAt (s : ByteArray) (i : Nat) : Int := if h : i < s.size then (s[i].toNat : Int) else 0
set_option maxRecDepth 100000 in
theorem ended_q {w : World} {b : Nat} {src : ByteArray} {B H : At} {tk : Value} {F : Flt} (hS : Scn w b src B H tk F) :
    Calls Tryz.prog 38 #[.pointer (some ⟨b, 0, none⟩)] w fun e w' => e = .returned (.bool (((H.at' : Nat) : Int) == ((src.size : Nat) : Int))) ∧ Only (fun _ => False) w w' := by
  have c0 := hS.src'
  have c4 := hS.hat
  go_enter Tryz.func38, Tryz.ntmps38
  go_wp2
  go_region
  all_goals
    go_wp2
    go_ret
    exact ⟨rfl, Only.of_below (Below.refl _ _).drew⟩
set_option maxRecDepth 100000 in
theorem peek_q {w : World} {b : Nat} {src : ByteArray} {B H : At} {tk : Value} {F : Flt} (hS : Scn w b src B H tk F) (k : Nat) (hk : k ≤ 10) (hz : src.size ≤ 1000000) (hH : H.at' ≤ 1000000) :
    Calls Tryz.prog 37 #[.pointer (some ⟨b, 0, none⟩), .int .i64 k] w fun e w' => e = .returned (.int .u8 (byteAt src (H.at' + k))) ∧ Only (fun _ => False) w w' := by
  have c0 := hS.src'
  have c4 := hS.hat
  by_cases hlt : H.at' + k < src.size
  · obtain ⟨m, hm⟩ : ∃ m : Nat, m = H.at' + k := ⟨_, rfl⟩
    rw [← hm] at hlt ⊢
    have hmi : ((H.at' : Nat) : Int) + ((k : Nat) : Int) = (m : Int) := by omega
    have HB : Hid (byteAt src m = ((src[m]'hlt).toNat : Int)) := Lib.hid (by simp [byteAt, hlt])
    have hmm : m ≤ 2000000 := by omega
    clear hm
    go_enter Tryz.func37, Tryz.ntmps37
    go_wp2
    go_region
    all_goals
      go_wp2
      go_region
      all_goals
        go_wp2
        go_ret
        exact ⟨by rw [HB.out]; rfl, Only.of_below (Below.refl _ _).drew.drew⟩
  · have HB : Hid (byteAt src (H.at' + k) = 0) := Lib.hid (by simp [byteAt, hlt])
    go_enter Tryz.func37, Tryz.ntmps37
    go_wp2
    go_region
    all_goals
      go_wp2
      go_ret
      exact ⟨by rw [HB.out]; rfl, Only.of_below (Below.refl _ _).drew⟩
end Go.Proofs.YtelichlplblboaaGreatDoor
namespace Go.Proofs.YtelichlplblboaaGreatDoor
open Go.RowKit
/-- Behind the byte c. -/
def stepAt (c : Int) (H : At) : At :=
  if c = 10 then ⟨H.at' + 1, H.line + 1, 1⟩ else if c = 9 then ⟨H.at' + 1, H.line, H.col + (8 - (H.col - 1) % 8)⟩ else ⟨H.at' + 1, H.line, H.col + 1⟩
def advN (src : ByteArray) : Nat → At → At
  | 0, H => H
  | n + 1, H => stepAt (byteAt src (advN src n H).at') (advN src n H)
theorem stepAt_at (c : Int) (H : At) : (stepAt c H).at' = H.at' + 1 := by unfold stepAt; split <;> (try split) <;> rfl
theorem advN_at (src : ByteArray) (n : Nat) (H : At) : (advN src n H).at' = H.at' + n := by
  induction n with
  | zero => rfl
  | succ n ih => rw [advN, stepAt_at, ih]; omega
theorem stepAt_bd (c : Int) (H : At) (h : 1 ≤ H.col) : (stepAt c H).line ≤ H.line + 1 ∧ 1 ≤ (stepAt c H).col ∧ (stepAt c H).col ≤ H.col + 8 := by
  unfold stepAt
  split
  · simp
  · split
    · simp; omega
    · simp
theorem advN_bd (src : ByteArray) (n : Nat) (H : At) (h : 1 ≤ H.col) : (advN src n H).line ≤ H.line + n ∧ 1 ≤ (advN src n H).col ∧ (advN src n H).col ≤ H.col + 8 * n := by
  induction n with
  | zero => simp [advN, h]
  | succ n ih =>
    obtain ⟨a, b, c⟩ := ih
    obtain ⟨d, e, f⟩ := stepAt_bd (byteAt src (advN src n H).at') (advN src n H) b
    rw [advN]
    exact ⟨by omega, e, by omega⟩
section
variable {w : World} {b : Nat} {src : ByteArray} {B H : At} {tk : Value} {F : Flt}
theorem Scn.drew (h : Scn w b src B H tk F) : Scn w.drew b src B H tk F := h
theorem Scn.setAt (h : Scn w b src B H tk F) (x : Nat) : Scn (w.setCell ⟨b, 4, none⟩ (.int .i64 x)) b src B ⟨x, H.line, H.col⟩ tk F := by
  unfold Scn at h ⊢
  simp [World.setCell, Array.getElem?_modify, h]
theorem Scn.setLine (h : Scn w b src B H tk F) (x : Nat) : Scn (w.setCell ⟨b, 5, none⟩ (.int .i64 x)) b src B ⟨H.at', x, H.col⟩ tk F := by
  unfold Scn at h ⊢
  simp [World.setCell, Array.getElem?_modify, h]
theorem Scn.setCol (h : Scn w b src B H tk F) (x : Nat) : Scn (w.setCell ⟨b, 6, none⟩ (.int .i64 x)) b src B ⟨H.at', H.line, x⟩ tk F := by
  unfold Scn at h ⊢
  simp [World.setCell, Array.getElem?_modify, h]
theorem Only.setCell {K : Nat → Prop} {w w' : World} (h : Only K w w') {b k : Nat} (hb : K b) (v : Value) : Only K w (w'.setCell ⟨b, k, none⟩ v) :=
  ⟨h.os, h.tape, h.output, by have := h.size; simpa [World.setCell] using this, fun i hi hn => by rw [Below.heap_setCell _ _ _ _ (fun e => hn (by rw [e]; exact hb))]; exact h.block i hi hn⟩
theorem Only.drew {K : Nat → Prop} {w w' : World} (h : Only K w w') : Only K w w'.drew := ⟨h.os, h.tape, h.output, h.size, h.block⟩
end
set_option maxRecDepth 100000 in
set_option maxHeartbeats 1000000 in
theorem skip_q {w : World} {b : Nat} {src : ByteArray} {B H : At} {tk : Value} {F : Flt} (hS : Scn w b src B H tk F) (n : Nat) (hz : src.size ≤ 1000000) (hn : H.at' + n ≤ src.size) (hl : H.line ≤ 2000000) (hc1 : 1 ≤ H.col) (hc : H.col ≤ 20000000) :
    Calls Tryz.prog 39 #[.pointer (some ⟨b, 0, none⟩), .int .i64 n] w fun e w' => e = .returned (.tuple #[]) ∧ Scn w' b src B (advN src n H) tk F ∧ Only (· = b) w w' := by
  have hSz := hS.lt
  go_enter Tryz.func39, Tryz.ntmps39
  go_wp2
  go_loopw [1] (fun i wr => ∃ k : Nat, k ≤ n ∧ i = .int .i64 ((n - k : Nat) : Int) ∧ Scn wr b src B (advN src k H) tk F ∧ Only (· = b) w wr) (fun i _ => (intOf i).toNat)
  case atStart => exact ⟨0, Nat.zero_le _, rfl, hS, Only.refl _ _⟩
  case round =>
    obtain ⟨k, hk, rfl, hS1, hO1⟩ := hrel
    by_cases hlt : k < n
    · obtain ⟨G, hG⟩ : ∃ G, G = advN src k H := ⟨_, rfl⟩
      have hGa : G.at' = H.at' + k := by rw [hG, advN_at]
      rw [← hG] at hS1
      have hGs : G.at' < src.size := by omega
      obtain ⟨m, hm⟩ : ∃ m : Nat, m = n - k := ⟨_, rfl⟩
      rw [← hm]
      have hm1 : 1 ≤ m := by omega
      have hm2 : m ≤ 1000000 := by omega
      have c0 := hS1.src'
      have c4 := hS1.hat
      have c5 := hS1.hline
      have c6 := hS1.hcol
      have z4 := hS1.fz 4
      have z5 := hS1.fz 5
      have z6 := hS1.fz 6
      have HM := Lib.hid hm
      have HG := Lib.hid hG
      have HGA := Lib.hid hGa
      clear hm hG hGa
      obtain ⟨y, hy⟩ : ∃ y : Int, y = ((src[G.at']'hGs).toNat : Int) := ⟨_, rfl⟩
      have HB : Hid (byteAt src G.at' = y) := Lib.hid (by rw [hy]; simp [byteAt, hGs])
      obtain ⟨g1, g2, g3⟩ := advN_bd src k H hc1
      rw [← HG.out] at g1 g2 g3
      have b1 : G.line ≤ 4000000 := by omega
      have b2 : G.col ≤ 40000000 := by omega
      have b3 : G.at' ≤ 2000000 := by omega
      clear g1 g3
      by_cases h10 : y = 10
      · have e10 : (((src[G.at']'hGs).toNat : Int) == 10) = true := by rw [← hy, h10]; rfl
        have HSA : stepAt y G = ⟨G.at' + 1, G.line + 1, 1⟩ := by simp [stepAt, h10]
        have HX := (((hS1.setLine (G.line + 1)).setCol 1).setAt (G.at' + 1))
        go_wp2
        go_region
        all_goals
          go_wp2
          refine ⟨⟨k + 1, by omega, ?_, ?_, ?_⟩, ?_⟩
          · rw [show n - (k + 1) = m - 1 from by have := HM.out; omega]; congr 1; omega
          · rw [advN, ← HG.out, HB.out, HSA]; exact HX
          · exact (((hO1.setCell (k := 5) rfl _).setCell (k := 6) rfl _).setCell (k := 4) rfl _).drew
          · simp [intOf]; omega
      · have e10 : (((src[G.at']'hGs).toNat : Int) == 10) = false := by rw [← hy]; simp [h10]
        by_cases h9 : y = 9
        · have e9 : (((src[G.at']'hGs).toNat : Int) == 9) = true := by rw [← hy, h9]; rfl
          have HSA : stepAt y G = ⟨G.at' + 1, G.line, G.col + (8 - (G.col - 1) % 8)⟩ := by simp [stepAt, h9]
          have HV : Hid ((G.col : Int) + (8 - ((G.col : Int) - 1) % 8) = ((G.col + (8 - (G.col - 1) % 8) : Nat) : Int)) := Lib.hid (by omega)
          have HX := ((hS1.setCol (G.col + (8 - (G.col - 1) % 8))).setAt (G.at' + 1))
          go_wp2
          go_region
          all_goals
            go_wp2
            go_region
            all_goals
              go_wp2
              rw [HV.out]
              refine ⟨⟨k + 1, by omega, ?_, ?_, ?_⟩, ?_⟩
              · rw [show n - (k + 1) = m - 1 from by have := HM.out; omega]; congr 1; omega
              · rw [advN, ← HG.out, HB.out, HSA]; exact HX
              · exact ((hO1.setCell (k := 6) rfl _).setCell (k := 4) rfl _).drew.drew
              · simp [intOf]; omega
        · have e9 : (((src[G.at']'hGs).toNat : Int) == 9) = false := by rw [← hy]; simp [h9]
          have HSA : stepAt y G = ⟨G.at' + 1, G.line, G.col + 1⟩ := by simp [stepAt, h10, h9]
          have HX := ((hS1.setCol (G.col + 1)).setAt (G.at' + 1))
          go_wp2
          go_region
          all_goals
            go_wp2
            refine ⟨⟨k + 1, by omega, ?_, ?_, ?_⟩, ?_⟩
            · rw [show n - (k + 1) = m - 1 from by have := HM.out; omega]; congr 1; omega
            · rw [advN, ← HG.out, HB.out, HSA]; exact HX
            · exact ((hO1.setCell (k := 6) rfl _).setCell (k := 4) rfl _).drew
            · simp [intOf]; omega
    · have e : k = n := by omega
      subst e
      rw [Nat.sub_self]
      go_wp2
      go_end0
      exact ⟨rfl, hS1, hO1⟩
end Go.Proofs.YtelichlplblboaaGreatDoor
namespace Go.Proofs.YtelichlplblboaaGreatDoor
open Go.RowKit
/-- e is where the run of p from 'a' on ends. -/
structure RunEnd (p : Int → Bool) (s : ByteArray) (a e : Nat) : Prop where
  lo : a ≤ e
  hi : e ≤ s.size
  all : ∀ i, a ≤ i → i < e → p (byteAt s i) = true
  stop : e < s.size → p (byteAt s e) = false
theorem RunEnd.unique {p : Int → Bool} {s : ByteArray} {a e f : Nat} (h : RunEnd p s a e) (k : RunEnd p s a f) : e = f := by
  rcases Nat.lt_trichotomy e f with hl | rfl | hl
  · have h1 := h.stop (Nat.lt_of_lt_of_le hl k.hi)
    rw [k.all e h.lo hl] at h1; cases h1
  · rfl
  · have h1 := k.stop (Nat.lt_of_lt_of_le hl h.hi)
    rw [h.all f k.lo hl] at h1; cases h1
set_option maxRecDepth 100000 in
set_option maxHeartbeats 1000000 in
theorem runAt_word (s : ByteArray) (a : Nat) (w : World) (hs : s.size ≤ 1000000) (ha : a ≤ s.size) :
    Calls Tryz.prog 84 #[.string s, .int .i64 a, .func (.func 90) #[] #[]] w fun r w' => (∃ e, r = .returned (.string (s.extract a e)) ∧ RunEnd wd s a e) ∧ Only (fun _ => False) w w' := by
  go_enter Tryz.func84, Tryz.ntmps84
  go_wp2
  go_loopw [7] (fun i wr => ∃ e : Nat, a ≤ e ∧ e ≤ s.size ∧ i = .int .i64 e ∧ Hid (∀ i, a ≤ i → i < e → wd (byteAt s i) = true) ∧ wr = w) (fun i _ => s.size - (intOf i).toNat)
  case atStart => exact ⟨a, Nat.le_refl _, ha, rfl, Lib.hid (fun i h1 h2 => absurd h2 (by omega)), rfl⟩
  case round =>
    obtain ⟨e, he1, he2, rfl, HA, rfl⟩ := hrel
    by_cases hlt : e < s.size
    · have HB : Hid (byteAt s e = ((s[e]'hlt).toNat : Int)) := Lib.hid (by simp [byteAt, hlt])
      cases hp : wd ((s[e]'hlt).toNat : Int)
      · have HP := Lib.hid hp
        clear hp
        go_wp2_with (first | (go_at_call 90; refine (isWord_any _ _).mono ?_; rw [HP.out]; rintro r w1 ⟨rfl, rfl⟩))
        go_ret
        exact ⟨⟨e, rfl, he1, he2, HA.out, fun _ => by rw [HB.out]; exact HP.out⟩, Only.refl _ _⟩
      · have HP := Lib.hid hp
        clear hp
        go_wp2_with (first | (go_at_call 90; refine (isWord_any _ _).mono ?_; rw [HP.out]; rintro r w1 ⟨rfl, rfl⟩))
        go_roundw
        case rel => exact ⟨e + 1, by omega, by omega, by go_num, Lib.hid (fun i h1 h2 => by rcases Nat.lt_succ_iff_lt_or_eq.1 h2 with h | rfl; exact HA.out i h1 h; rw [HB.out]; exact HP.out), trivial⟩
        case measure => simp [intOf]; omega
    · have HE : Hid (e = s.size) := Lib.hid (by omega)
      go_wp2
      go_ret
      exact ⟨⟨e, rfl, he1, he2, HA.out, fun h => absurd h hlt⟩, Only.refl _ _⟩
set_option maxRecDepth 100000 in
set_option maxHeartbeats 1000000 in
theorem runAt_sym (s : ByteArray) (a : Nat) (w : World) (hs : s.size ≤ 1000000) (ha : a ≤ s.size) :
    Calls Tryz.prog 84 #[.string s, .int .i64 a, .func (.func 42) #[] #[]] w fun r w' => (∃ e, r = .returned (.string (s.extract a e)) ∧ RunEnd sy s a e) ∧ Only (fun _ => False) w w' := by
  go_enter Tryz.func84, Tryz.ntmps84
  go_wp2
  go_loopw [7] (fun i wr => ∃ e : Nat, a ≤ e ∧ e ≤ s.size ∧ i = .int .i64 e ∧ Hid (∀ i, a ≤ i → i < e → sy (byteAt s i) = true) ∧ wr = w) (fun i _ => s.size - (intOf i).toNat)
  case atStart => exact ⟨a, Nat.le_refl _, ha, rfl, Lib.hid (fun i h1 h2 => absurd h2 (by omega)), rfl⟩
  case round =>
    obtain ⟨e, he1, he2, rfl, HA, rfl⟩ := hrel
    by_cases hlt : e < s.size
    · have HB : Hid (byteAt s e = ((s[e]'hlt).toNat : Int)) := Lib.hid (by simp [byteAt, hlt])
      cases hp : sy ((s[e]'hlt).toNat : Int)
      · have HP := Lib.hid hp
        clear hp
        go_wp2_with (first | (go_at_call 42; refine (isSymbol_any _ _).mono ?_; rw [HP.out]; rintro r w1 ⟨rfl, rfl⟩))
        go_ret
        exact ⟨⟨e, rfl, he1, he2, HA.out, fun _ => by rw [HB.out]; exact HP.out⟩, Only.refl _ _⟩
      · have HP := Lib.hid hp
        clear hp
        go_wp2_with (first | (go_at_call 42; refine (isSymbol_any _ _).mono ?_; rw [HP.out]; rintro r w1 ⟨rfl, rfl⟩))
        go_roundw
        case rel => exact ⟨e + 1, by omega, by omega, by go_num, Lib.hid (fun i h1 h2 => by rcases Nat.lt_succ_iff_lt_or_eq.1 h2 with h | rfl; exact HA.out i h1 h; rw [HB.out]; exact HP.out), trivial⟩
        case measure => simp [intOf]; omega
    · have HE : Hid (e = s.size) := Lib.hid (by omega)
      go_wp2
      go_ret
      exact ⟨⟨e, rfl, he1, he2, HA.out, fun h => absurd h hlt⟩, Only.refl _ _⟩
set_option maxRecDepth 100000 in
set_option maxHeartbeats 1000000 in
theorem run_word {w : World} {b : Nat} {src : ByteArray} {B H : At} {tk : Value} {F : Flt} (hS : Scn w b src B H tk F) (hz : src.size ≤ 1000000) (hH : H.at' ≤ src.size) :
    Calls Tryz.prog 41 #[.pointer (some ⟨b, 0, none⟩), .func (.func 90) #[] #[]] w fun r w' => (∃ e, r = .returned (.string (src.extract H.at' e)) ∧ RunEnd wd src H.at' e) ∧ Only (fun _ => False) w w' := by
  have c0 := hS.src'
  have c4 := hS.hat
  go_enter Tryz.func41, Tryz.ntmps41
  go_wp2
  go_region_with (first | (go_at_call 84; refine (runAt_word _ _ _ hz hH).mono ?_; rintro r w1 ⟨⟨e, rfl, he⟩, hO⟩))
  all_goals
    go_wp2
    go_ret
    exact ⟨⟨e, rfl, he⟩, (Only.of_below (Below.refl _ _).drew).trans hO⟩
set_option maxRecDepth 100000 in
set_option maxHeartbeats 1000000 in
theorem run_sym {w : World} {b : Nat} {src : ByteArray} {B H : At} {tk : Value} {F : Flt} (hS : Scn w b src B H tk F) (hz : src.size ≤ 1000000) (hH : H.at' ≤ src.size) :
    Calls Tryz.prog 41 #[.pointer (some ⟨b, 0, none⟩), .func (.func 42) #[] #[]] w fun r w' => (∃ e, r = .returned (.string (src.extract H.at' e)) ∧ RunEnd sy src H.at' e) ∧ Only (fun _ => False) w w' := by
  have c0 := hS.src'
  have c4 := hS.hat
  go_enter Tryz.func41, Tryz.ntmps41
  go_wp2
  go_region_with (first | (go_at_call 84; refine (runAt_sym _ _ _ hz hH).mono ?_; rintro r w1 ⟨⟨e, rfl, he⟩, hO⟩))
  all_goals
    go_wp2
    go_ret
    exact ⟨⟨e, rfl, he⟩, (Only.of_below (Below.refl _ _).drew).trans hO⟩
end Go.Proofs.YtelichlplblboaaGreatDoor
namespace Go.Proofs.YtelichlplblboaaGreatDoor
open Go.RowKit
def prn (n : Int) : Bool := decide (32 ≤ n) && decide (n ≤ 126)
def gd (n : Int) : Bool := n == 9 || n == 10 || prn n
set_option maxHeartbeats 400000 in
theorem isPrintable_any (n : Int) (w : World) :
    Calls Tryz.prog 82 #[.int .u8 n] w fun e w' => e = .returned (.bool (prn n)) ∧ w = w' := by
  go_enter Tryz.func82, Tryz.ntmps82
  go_wp2
  all_goals (go_ret; exact ⟨ret_bool (by simp [prn, *]; try omega), rfl⟩)
set_option maxHeartbeats 400000 in
theorem isSourceByte_any (n : Int) (w : World) :
    Calls Tryz.prog 88 #[.int .u8 n] w fun e w' => e = .returned (.bool (gd n)) ∧ w = w' := by
  go_enter Tryz.func88, Tryz.ntmps88
  go_wp2_with (first | (go_at_call 82; refine (isPrintable_any _ _).mono ?_; rintro e w' ⟨rfl, rfl⟩))
  all_goals (go_ret; exact ⟨ret_bool (by simp [gd, *]), rfl⟩)
section
variable {w : World} {b : Nat} {src : ByteArray} {B H : At} {tk : Value} {F : Flt}
theorem Scn.f8 (h : Scn w b src B H tk F) : w.cell? ⟨b, 8, none⟩ = some (.int .i64 F.code) := by have h' := h; unfold Scn at h'; simp [World.cell?, h']
theorem Scn.f9 (h : Scn w b src B H tk F) : w.cell? ⟨b, 9, none⟩ = some (.string F.name) := by have h' := h; unfold Scn at h'; simp [World.cell?, h']
theorem Scn.f10 (h : Scn w b src B H tk F) : w.cell? ⟨b, 10, none⟩ = some (.int .i64 F.line) := by have h' := h; unfold Scn at h'; simp [World.cell?, h']
theorem Scn.f11 (h : Scn w b src B H tk F) : w.cell? ⟨b, 11, none⟩ = some (.int .i64 F.col) := by have h' := h; unfold Scn at h'; simp [World.cell?, h']
theorem Scn.setFault (h : Scn w b src B H tk F) (G : Flt) :
    Scn ((((w.setCell ⟨b, 8, none⟩ (.int .i64 G.code)).setCell ⟨b, 9, none⟩ (.string G.name)).setCell ⟨b, 10, none⟩ (.int .i64 G.line)).setCell ⟨b, 11, none⟩ (.int .i64 G.col)) b src B H tk G := by
  unfold Scn at h ⊢
  simp [World.setCell, Array.getElem?_modify, h]
end
set_option maxRecDepth 100000 in
set_option maxHeartbeats 1000000 in
theorem failHere_q {w : World} {b : Nat} {src : ByteArray} {B H : At} {tk : Value} {F : Flt} (hS : Scn w b src B H tk F) :
    Calls Tryz.prog 46 #[.pointer (some ⟨b, 0, none⟩)] w fun e w' => e = .returned (.bool false) ∧ Scn w' b src B H tk ⟨5, ⟨#[]⟩, H.line, H.col⟩ ∧ Only (· = b) w w' := by
  have c5 := hS.hline
  have c6 := hS.hcol
  have c8 := hS.f8
  have c9 := hS.f9
  have c10 := hS.f10
  have c11 := hS.f11
  have z8 := hS.fz 8
  have z9 := hS.fz 9
  have z10 := hS.fz 10
  have z11 := hS.fz 11
  have HX := hS.setFault ⟨5, ⟨#[]⟩, H.line, H.col⟩
  go_enter Tryz.func46, Tryz.ntmps46
  go_wp2
  go_region
  all_goals
    go_wp2
    go_ret
    exact ⟨rfl, HX, (((((Only.refl (· = b) w).setCell (k := 8) rfl _).setCell (k := 9) rfl _).setCell (k := 10) rfl _).setCell (k := 11) rfl _).drew⟩
set_option maxRecDepth 100000 in
set_option maxHeartbeats 1000000 in
theorem fail_q {w : World} {b : Nat} {src : ByteArray} {B H : At} {tk : Value} {F : Flt} (hS : Scn w b src B H tk F) (code : Int) (nm : ByteArray) :
    Calls Tryz.prog 89 #[.pointer (some ⟨b, 0, none⟩), .int .i64 code, .string nm] w fun e w' => e = .returned (.bool false) ∧ Scn w' b src B H tk ⟨code, nm, B.line, B.col⟩ ∧ Only (· = b) w w' := by
  have c5 := hS.bline
  have c6 := hS.bcol
  have c8 := hS.f8
  have c9 := hS.f9
  have c10 := hS.f10
  have c11 := hS.f11
  have z8 := hS.fz 8
  have z9 := hS.fz 9
  have z10 := hS.fz 10
  have z11 := hS.fz 11
  have HX := hS.setFault ⟨code, nm, B.line, B.col⟩
  go_enter Tryz.func89, Tryz.ntmps89
  go_wp2
  go_region
  all_goals
    go_wp2
    go_ret
    exact ⟨rfl, HX, (((((Only.refl (· = b) w).setCell (k := 8) rfl _).setCell (k := 9) rfl _).setCell (k := 10) rfl _).setCell (k := 11) rfl _).drew⟩
end Go.Proofs.YtelichlplblboaaGreatDoor
