/-
  The lexer's scanner: skip.
-/
import Derived.Test.YtakojceggpljoaaGreatDoorLScan
import Derived.Deep.LoopGhost
namespace Go.Proofs.YtakojceggpljoaaGreatDoor
open Go.RowKit
/-- Behind the byte c. -/
def stepAt (c : Int) (H : At) : At :=
  if c = 10 then ⟨H.at' + 1, H.line + 1, 1⟩ else if c = 9 then ⟨H.at' + 1, H.line, H.col + (8 - (H.col - 1) % 8)⟩ else ⟨H.at' + 1, H.line, H.col + 1⟩
def advN (src : ByteArray) : Nat → At → At
  | 0, H => H
  | n + 1, H => stepAt (byteAt src (advN src n H).at') (advN src n H)
theorem stepAt_at (c : Int) (H : At) : (stepAt c H).at' = H.at' + 1 := by unfold stepAt; split <;> (try split) <;> rfl
theorem advN_at (src : ByteArray) (n : Nat) (H : At) : (advN src n H).at' = H.at' + n := by
  induction n with
  | zero => rfl
  | succ n ih => rw [advN, stepAt_at, ih]; omega
theorem stepAt_bd (c : Int) (H : At) (h : 1 ≤ H.col) : (stepAt c H).line ≤ H.line + 1 ∧ 1 ≤ (stepAt c H).col ∧ (stepAt c H).col ≤ H.col + 8 := by
  unfold stepAt
  split
  · simp
  · split
    · simp; omega
    · simp
theorem advN_bd (src : ByteArray) (n : Nat) (H : At) (h : 1 ≤ H.col) : (advN src n H).line ≤ H.line + n ∧ 1 ≤ (advN src n H).col ∧ (advN src n H).col ≤ H.col + 8 * n := by
  induction n with
  | zero => simp [advN, h]
  | succ n ih =>
    obtain ⟨a, b, c⟩ := ih
    obtain ⟨d, e, f⟩ := stepAt_bd (byteAt src (advN src n H).at') (advN src n H) b
    rw [advN]
    exact ⟨by omega, e, by omega⟩
section
variable {w : World} {b : Nat} {src : ByteArray} {B H : At} {tk : Value} {F : Flt}
theorem Scn.drew (h : Scn w b src B H tk F) : Scn w.drew b src B H tk F := h
theorem Scn.setAt (h : Scn w b src B H tk F) (x : Nat) : Scn (w.setCell ⟨b, 4, none⟩ (.int .i64 x)) b src B ⟨x, H.line, H.col⟩ tk F := by
  unfold Scn at h ⊢
  simp [World.setCell, Array.getElem?_modify, h]
theorem Scn.setLine (h : Scn w b src B H tk F) (x : Nat) : Scn (w.setCell ⟨b, 5, none⟩ (.int .i64 x)) b src B ⟨H.at', x, H.col⟩ tk F := by
  unfold Scn at h ⊢
  simp [World.setCell, Array.getElem?_modify, h]
theorem Scn.setCol (h : Scn w b src B H tk F) (x : Nat) : Scn (w.setCell ⟨b, 6, none⟩ (.int .i64 x)) b src B ⟨H.at', H.line, x⟩ tk F := by
  unfold Scn at h ⊢
  simp [World.setCell, Array.getElem?_modify, h]
theorem Only.setCell {K : Nat → Prop} {w w' : World} (h : Only K w w') {b k : Nat} (hb : K b) (v : Value) : Only K w (w'.setCell ⟨b, k, none⟩ v) :=
  ⟨h.os, h.tape, h.output, by have := h.size; simpa [World.setCell] using this, fun i hi hn => by rw [Below.heap_setCell _ _ _ _ (fun e => hn (by rw [e]; exact hb))]; exact h.block i hi hn⟩
theorem Only.drew {K : Nat → Prop} {w w' : World} (h : Only K w w') : Only K w w'.drew := ⟨h.os, h.tape, h.output, h.size, h.block⟩
end
set_option maxRecDepth 100000 in
set_option maxHeartbeats 1000000 in
theorem skip_q {w : World} {b : Nat} {src : ByteArray} {B H : At} {tk : Value} {F : Flt} (hS : Scn w b src B H tk F) (n : Nat) (hz : src.size ≤ 1000000) (hn : H.at' + n ≤ src.size) (hl : H.line ≤ 2000000) (hc1 : 1 ≤ H.col) (hc : H.col ≤ 20000000) :
    Calls Tryz.prog 39 #[.pointer (some ⟨b, 0, none⟩), .int .i64 n] w fun e w' => e = .returned (.tuple #[]) ∧ Scn w' b src B (advN src n H) tk F ∧ Only (· = b) w w' := by
  have hSz := hS.lt
  go_enter Tryz.func39, Tryz.ntmps39
  go_wp2
  go_loopw [1] (fun i wr => ∃ k : Nat, k ≤ n ∧ i = .int .i64 ((n - k : Nat) : Int) ∧ Scn wr b src B (advN src k H) tk F ∧ Only (· = b) w wr) (fun i _ => (intOf i).toNat)
  case atStart => exact ⟨0, Nat.zero_le _, rfl, hS, Only.refl _ _⟩
  case round =>
    obtain ⟨k, hk, rfl, hS1, hO1⟩ := hrel
    by_cases hlt : k < n
    · obtain ⟨G, hG⟩ : ∃ G, G = advN src k H := ⟨_, rfl⟩
      have hGa : G.at' = H.at' + k := by rw [hG, advN_at]
      rw [← hG] at hS1
      have hGs : G.at' < src.size := by omega
      obtain ⟨m, hm⟩ : ∃ m : Nat, m = n - k := ⟨_, rfl⟩
      rw [← hm]
      have hm1 : 1 ≤ m := by omega
      have hm2 : m ≤ 1000000 := by omega
      have c0 := hS1.src'
      have c4 := hS1.hat
      have c5 := hS1.hline
      have c6 := hS1.hcol
      have z4 := hS1.fz 4
      have z5 := hS1.fz 5
      have z6 := hS1.fz 6
      have HM := Lib.hid hm
      have HG := Lib.hid hG
      have HGA := Lib.hid hGa
      clear hm hG hGa
      obtain ⟨y, hy⟩ : ∃ y : Int, y = ((src[G.at']'hGs).toNat : Int) := ⟨_, rfl⟩
      have HB : Hid (byteAt src G.at' = y) := Lib.hid (by rw [hy]; simp [byteAt, hGs])
      obtain ⟨g1, g2, g3⟩ := advN_bd src k H hc1
      rw [← HG.out] at g1 g2 g3
      have b1 : G.line ≤ 4000000 := by omega
      have b2 : G.col ≤ 40000000 := by omega
      have b3 : G.at' ≤ 2000000 := by omega
      clear g1 g3
      by_cases h10 : y = 10
      · have e10 : (((src[G.at']'hGs).toNat : Int) == 10) = true := by rw [← hy, h10]; rfl
        have HSA : stepAt y G = ⟨G.at' + 1, G.line + 1, 1⟩ := by simp [stepAt, h10]
        have HX := (((hS1.setLine (G.line + 1)).setCol 1).setAt (G.at' + 1))
        go_wp2
        go_region
        all_goals
          go_wp2
          refine ⟨⟨k + 1, by omega, ?_, ?_, ?_⟩, ?_⟩
          · rw [show n - (k + 1) = m - 1 from by have := HM.out; omega]; congr 1; omega
          · rw [advN, ← HG.out, HB.out, HSA]; exact HX
          · exact (((hO1.setCell (k := 5) rfl _).setCell (k := 6) rfl _).setCell (k := 4) rfl _).drew
          · simp [intOf]; omega
      · have e10 : (((src[G.at']'hGs).toNat : Int) == 10) = false := by rw [← hy]; simp [h10]
        by_cases h9 : y = 9
        · have e9 : (((src[G.at']'hGs).toNat : Int) == 9) = true := by rw [← hy, h9]; rfl
          have HSA : stepAt y G = ⟨G.at' + 1, G.line, G.col + (8 - (G.col - 1) % 8)⟩ := by simp [stepAt, h9]
          have HV : Hid ((G.col : Int) + (8 - ((G.col : Int) - 1) % 8) = ((G.col + (8 - (G.col - 1) % 8) : Nat) : Int)) := Lib.hid (by omega)
          have HX := ((hS1.setCol (G.col + (8 - (G.col - 1) % 8))).setAt (G.at' + 1))
          go_wp2
          go_region
          all_goals
            go_wp2
            go_region
            all_goals
              go_wp2
              rw [HV.out]
              refine ⟨⟨k + 1, by omega, ?_, ?_, ?_⟩, ?_⟩
              · rw [show n - (k + 1) = m - 1 from by have := HM.out; omega]; congr 1; omega
              · rw [advN, ← HG.out, HB.out, HSA]; exact HX
              · exact ((hO1.setCell (k := 6) rfl _).setCell (k := 4) rfl _).drew.drew
              · simp [intOf]; omega
        · have e9 : (((src[G.at']'hGs).toNat : Int) == 9) = false := by rw [← hy]; simp [h9]
          have HSA : stepAt y G = ⟨G.at' + 1, G.line, G.col + 1⟩ := by simp [stepAt, h10, h9]
          have HX := ((hS1.setCol (G.col + 1)).setAt (G.at' + 1))
          go_wp2
          go_region
          all_goals
            go_wp2
            refine ⟨⟨k + 1, by omega, ?_, ?_, ?_⟩, ?_⟩
            · rw [show n - (k + 1) = m - 1 from by have := HM.out; omega]; congr 1; omega
            · rw [advN, ← HG.out, HB.out, HSA]; exact HX
            · exact ((hO1.setCell (k := 6) rfl _).setCell (k := 4) rfl _).drew
            · simp [intOf]; omega
    · have e : k = n := by omega
      subst e
      rw [Nat.sub_self]
      go_wp2
      go_end0
      exact ⟨rfl, hS1, hO1⟩
end Go.Proofs.YtakojceggpljoaaGreatDoor
