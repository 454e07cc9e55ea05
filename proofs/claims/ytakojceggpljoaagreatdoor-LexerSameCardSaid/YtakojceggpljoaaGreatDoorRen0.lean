/-
  WALKS. Render's writer: a token, whatever lies before it; Render.
-/
import Derived.Test.YtakojceggpljoaaGreatDoorWr5
namespace Go.Proofs.YtakojceggpljoaaGreatDoor
open Go.RowKit Go.Maps
section
variable {W w : World} {b B : Nat} {s : WS}
theorem token_p (hq : Q W w) (h : WB w b B s) (t : Tok) (hn0 : -9223372036854775808 ≤ t.n) (hn1 : t.n ≤ 9223372036854775807) (hz1 : t.qual.size ≤ 1000000) (hz2 : t.text.size ≤ 1000000) (hx : (txB t).size ≤ 10000000) (hlen : s.out.length ≤ 100000000) (hBw : B ≤ w.heap.size) (hbB : b < B) (hc0 : 1 ≤ s.col) (hc1 : s.col ≤ 100000000) (hl0 : 1 ≤ s.line) (hl1 : s.line ≤ 1000000000) (hbW : W.heap.size ≤ b) (ht0 : t.line ≤ 9223372036854775807) (ht1 : -9223372036854775808 ≤ t.line) :
    Calls Tryz.prog 28 #[.pointer (some ⟨b, 0, none⟩), tokV t] w (WPost w b B (tokS s t)) := by
  by_cases hl : s.line < t.line
  · by_cases hc : 1 < t.col ∧ t.col ≤ 1000
    · exact tok_fe_sp hq h t hn0 hn1 hz1 hz2 hx hlen hBw hbB hc0 hc1 hl0 hl1 hbW ht0 hl hc.1 hc.2
    · exact tok_fe_no hq h t hn0 hn1 hz1 hz2 hx hlen hBw hbB hc0 hc1 hl0 hl1 hbW ht0 hl hc
  · by_cases hc : s.col < t.col ∧ t.col ≤ 1000
    · exact tok_sp hq h t hn0 hn1 hz1 hz2 hx hlen hBw hbB hc0 hc1 hl0 hl1 hbW (by omega) hc.1 hc.2
    · cases hf : s.first
      · exact tok_bl hq h t hn0 hn1 hz1 hz2 hx hlen hBw hbB hc0 hc1 hl0 hl1 hbW (by omega) hc hf
      · exact tok_no hq h t hn0 hn1 hz1 hz2 hx hlen hBw hbB hc0 hc1 hl0 hl1 (by omega) hc hf
end
section
variable {w : World} {b B : Nat} {T : TypeId} {rest : List Value} {l : List UInt8}
set_option maxHeartbeats 1000000 in
set_option maxRecDepth 100000 in
theorem String_nil {p : Value} (hbk : w.heap[b]? = some (.cells (p :: .slice none 0 0 :: rest).toArray T (0, 0))) :
    Calls Tryz.prog 30 #[.pointer (some ⟨b, 0, none⟩)] w fun e w' => e = .returned (.string ⟨#[]⟩) ∧ Only (fun k => B ≤ k) w w' := by
  · have c1 : w.drew.cell? ⟨b, 1, none⟩ = some (.slice none 0 0) := by
      have : w.drew.heap[b]? = some (.cells (p :: .slice none 0 0 :: rest).toArray T (0, 0)) := hbk
      simp [World.cell?, this]
    have hSD : (Builtin.unsafeSliceData_ #[31] 87 #[.slice none 0 0]).run Tryz.prog w.drew = .ok (.pointer none) w.drew := Lib.run_unsafeSliceData_nil _ _ _ _ _
    have hUS : (Builtin.unsafeString_ #[87, 3] 9 #[.pointer none, .int .i64 0]).run Tryz.prog w.drew = .ok (.string .empty) w.drew := Lib.run_unsafeString_none _ _ _ _ _
    clear hbk
    go_enter Tryz.func30, Tryz.ntmps30
    go_wp2
    go_region
    all_goals (go_wp2; go_ret; exact ⟨rfl, Only.of_below (Below.refl _ _).drew⟩)
end
end Go.Proofs.YtakojceggpljoaaGreatDoor
