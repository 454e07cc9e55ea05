/-
  WALKS. The inserter: closeBlock, mark, dropPending.
-/
import Derived.Test.YthblchafjmgmbaaLyI
namespace Go.Proofs.Ythblchafjmgmbaa
open Go.RowKit Go.Maps
section
variable {w : World} {b : Nat} {ve vo : Value} {s : St}
/-- What closeBlock leaves. -/
def CbR (w : World) (b : Nat) (ve vo : Value) (s : St) (R : Option St) (r : Ending) (w' : World) : Prop := match R with
  | none => r = .returned (.bool false) ∧ ISx w b ve vo s w'
  | some s' => r = .returned (.bool true) ∧ ISx w b ve vo s' w'
set_option maxRecDepth 100000 in
set_option maxHeartbeats 2000000 in
theorem closeBlock_p (h : IS w b ve vo s) {k : Nat} (hk : Ok k s) {g : Nat} {kk : Int} (hx : Bx w g kk) : Calls Try.prog 38 #[.pointer (some ⟨b, 0, none⟩), isOfV g] w (CbR w b ve vo s (closeB s (isK kk))) := by
  cases hc : closeTo s (isK kk) with
  | none =>
    have HC := Lib.hid hc
    have HB : Hid (closeB s (isK kk) = none) := Lib.hid (by unfold closeB; rw [hc]; rfl)
    clear hc
    go_enter Try.func38, Try.ntmps38
    go_wp2_with (first | (go_at_call 43; refine (closeTo_isOf h hk hx).mono ?_; rw [HC.out]; rintro r w1 ⟨rfl, ve1, vo1, hS1, hF1⟩; have hSa := hS1.same (Only.alloc (K := fun _ => False) (Only.refl _ _) (.cells (elA ⟨0, 0, ⟨#[]⟩, false, 0, 0⟩) 59))) | (go_at_call 37; refine (closed_p hSa ⟨#[]⟩ (fun hh => by cases hh)).mono ?_; rintro r w2 ⟨rfl, hS2⟩))
    go_ret
    rw [HB.out]
    exact ⟨rfl, hS2.frm (hF1.al _)⟩
  | some x =>
    obtain ⟨e, s1⟩ := x
    have hk1 : Ok 1 s1 := (hk.closeTo hc).less (by omega)
    have HC := Lib.hid hc
    have HB : Hid (closeB s (isK kk) = some (closedS s1 e.word)) := Lib.hid (by unfold closeB; rw [hc]; rfl)
    clear hc
    go_enter Try.func38, Try.ntmps38
    go_wp2_with (first | (go_at_call 43; refine (closeTo_isOf h hk hx).mono ?_; rw [HC.out]; rintro r w1 ⟨rfl, ve1, vo1, hS1, hF1⟩; have hSa := hS1.same (Only.alloc (K := fun _ => False) (Only.refl _ _) (.cells (elA e) 59))) | (go_at_call 37; refine (closed_p hSa e.word (fun _ => hk1)).mono ?_; rintro r w2 ⟨rfl, hS2⟩))
    go_ret
    rw [HB.out]
    exact ⟨rfl, hS2.frm (hF1.al _)⟩
/-- A mark in the stack is written. -/
theorem IS.markd {g n ca : Nat} (h : IS w b (.slice (some ⟨g, 0, none⟩) n ca) vo s) {i : Nat} (hi : i < s.els.length) (mb : Bool) : IS (w.setCell ⟨g, i * 6 + 3, none⟩ (.bool mb)) b (.slice (some ⟨g, 0, none⟩) n ca) vo { s with els := markAt s.els (i : Int) mb } ∧ b ≤ g := by
  have hg := (World.ownsRow.lt h.els g rfl).1
  have hO : Only (· = g) w (w.setCell ⟨g, i * 6 + 3, none⟩ (.bool mb)) := Only.setCell (K := (· = g)) (Only.refl _ _) rfl _
  refine ⟨⟨(hO.block b h.lt (fun e => by omega)).trans h.blk, ?_, ?_⟩, by omega⟩
  · have := ER.mark h.els hi mb
    show ER _ _ _ (markAt s.els (i : Int) mb)
    unfold markAt
    rw [Int.toNat_natCast]; exact this
  · exact h.out.only hO (fun g' hg' e => rowApart h.out h.els (by decide) hg' (by rw [← e] at *; rfl))
set_option maxRecDepth 100000 in
set_option maxHeartbeats 2000000 in
theorem mark_p (h : IS w b ve vo s) {k : Nat} (hk : Ok k s) (mb : Bool) : Calls Try.prog 41 #[.pointer (some ⟨b, 0, none⟩), .bool mb] w fun r w' => r = .returned (.tuple #[]) ∧ ISx w b ve vo (markS s mb) w' := by
  have hlt := hk.bd.last.2
  rcases impl_cases hlt with ⟨hn, -⟩ | ⟨i, e, ha, hi, hkk, hs⟩
  · have HR : Hid (markS s mb = s) := Lib.hid (by unfold markS; rw [hn])
    clear hlt
    have HN := Lib.hid hn
    clear hn
    go_enter Try.func41, Try.ntmps41
    go_wp2_with (go_at_call 64; refine (implicitContext_no h hk HN.out).mono ?_; rintro r w1 ⟨rfl, hO1⟩)
    go_end0
    exact ⟨rfl, by rw [HR.out]; exact (h.same hO1).x (Frm.keep hO1)⟩
  · have HR : Hid (markS s mb = { s with els := markAt s.els (i : Int) mb }) := Lib.hid (by unfold markS; rw [hs, ha])
    obtain ⟨g, ca, rfl, hil, hca, hbg, hc, hf⟩ := h.elem hi
    have HA := Lib.hid ha
    have HI := Lib.hid hi
    clear hlt ha hi hs hca hc hf
    have HX : Hid (∀ w', Only (fun _ => False) w w' → (∃ v, w'.cell? ⟨g, i * 6 + 3, none⟩ = some v) ∧ w'.frozen? ⟨g, i * 6 + 3, none⟩ = false) := Lib.hid (fun w' ho => by
      obtain ⟨g', ca', hve, -, -, -, hc', hf'⟩ := (h.same ho).elem HI.out
      cases hve
      exact ⟨⟨_, hc'.c3⟩, hf' _⟩)
    go_enter Try.func41, Try.ntmps41
    go_wp2_with (go_at_call 64; refine (implicitContext_yes h hk HA.out HI.out hkk).mono ?_; rintro r w1 ⟨rfl, hO1⟩; obtain ⟨⟨v3, f3⟩, y3⟩ := HX.out _ hO1)
    go_end0
    obtain ⟨hM, hbg'⟩ := (h.same hO1).markd hil mb
    exact ⟨rfl, by rw [HR.out]; exact hM.x ⟨Only.setCell hO1.lift (.inr (.inl rfl)) _, fun _ hg => .inl hg, fun _ hg => .inl hg⟩⟩
end
end Go.Proofs.Ythblchafjmgmbaa
