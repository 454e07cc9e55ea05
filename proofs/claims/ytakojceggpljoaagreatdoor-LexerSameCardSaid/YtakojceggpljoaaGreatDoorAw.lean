/-
  WALKS. The lexer's examples.
-/
import Derived.Test.YtakojceggpljoaaGreatDoorAw0
namespace Go.Proofs.YtakojceggpljoaaGreatDoor
open Go.RowKit Go.Maps
set_option maxRecDepth 100000 in
set_option maxHeartbeats 4000000 in
theorem awake_p (W w : World) (hq : Q W w) : Calls Tryz.prog 10 #[] w fun e w' => e = .returned (.bool true) ∧ Only (fun _ => False) w w' := by
  go_enter Tryz.func10, Tryz.ntmps10
  go_wp2_with (go_loud (first
    | (go_at_call 11; ((with_reducible refine (Lex_v ⟨#[102, 32, 120, 32, 61, 32, 120]⟩ 4 awL1 W _ hq aw_l rfl (Nat.succ_ne_zero 3)).mono ?_); rintro r w1 ⟨g1, cap1, rfl, hT1, hQ1, hO1⟩; have hR1 := (Below.refl w1.heap.size w1).alloc (Nat.le_refl _) (.cells #[.int .i64 0, .string ⟨#[]⟩, .int .i64 0, .int .i64 0] 26); have hQ1' := hQ1.below hR1; have hN1 := new_block w1 (.cells #[.int .i64 0, .string ⟨#[]⟩, .int .i64 0, .int .i64 0] 26)))
    | (go_at_call 11; ((with_reducible refine (Lex_b ⟨#[120, 32, 36, 32, 39]⟩ 7 1 5 1 5 rfl rfl W _ hQ1' aw_g).mono ?_); rintro r w2 ⟨rfl, hQ2, hO2⟩; have hR2 := (Below.refl w2.heap.size w2).alloc (Nat.le_refl _) (.cells #[.int .i64 7, .string ⟨#[]⟩, .int .i64 1, .int .i64 5] 26); have hQ2' := hQ2.below hR2; have hN2 := new_block w2 (.cells #[.int .i64 7, .string ⟨#[]⟩, .int .i64 1, .int .i64 5] 26)))
    | (go_at_call 11; ((with_reducible refine (Lex_v ⟨#[77, 46, 120, 32, 77, 46, 46]⟩ 2 awL2 W _ hQ2' aw_q rfl (Nat.succ_ne_zero 1)).mono ?_); rintro r w3 ⟨g3, cap3, rfl, hT3, hQ3, hO3⟩; have hR3 := (Below.refl w3.heap.size w3).alloc (Nat.le_refl _) (.cells #[.int .i64 0, .string ⟨#[]⟩, .int .i64 0, .int .i64 0] 26); have hQ3' := hQ3.below hR3; have hT1' := hT1.keep (((((Only.of_below hR1).trans hO2).trans (Only.of_below hR2)).trans hO3).trans (Only.of_below hR3))))
    | (go_at_call 15; ((with_reducible refine (aw_render W _ hQ3' _ _ hT1').mono ?_); rintro r w4 ⟨rfl, hO4⟩; have hT1x := hT1'.keep hO4; have hT3x := hT3.keep ((Only.of_below hR3).trans hO4); obtain ⟨a0, a1, a2, a3⟩ := blk4 (blk_keep hN1 ((((hO2.trans (Only.of_below hR2)).trans hO3).trans (Only.of_below hR3)).trans hO4)); obtain ⟨b0, b1, b2, b3⟩ := blk4 (blk_keep hN2 ((hO3.trans (Only.of_below hR3)).trans hO4)); have hu := hT1x.at7 1 _ rfl; have hv := hT1x.at7 2 _ rfl; have hx := hT3x.at7 0 _ rfl; have hy := hT3x.at7 1 _ rfl; have u0 : w4.cell? ⟨g1, 7, none⟩ = some (.int .i64 1) := hu.c0; have u1 : w4.cell? ⟨g1, 8, none⟩ = some (.string ⟨#[]⟩) := hu.c1; have u2 : w4.cell? ⟨g1, 9, none⟩ = some (.string ⟨#[120]⟩) := hu.c2; have u3 : w4.cell? ⟨g1, 10, none⟩ = some (.int .i64 0) := hu.c3; have u4 : w4.cell? ⟨g1, 11, none⟩ = some (.bool false) := hu.c4; have u5 : w4.cell? ⟨g1, 12, none⟩ = some (.int .i64 1) := hu.c5; have u6 : w4.cell? ⟨g1, 13, none⟩ = some (.int .i64 3) := hu.c6; have v0 : w4.cell? ⟨g1, 14, none⟩ = some (.int .i64 10) := hv.c0; have x1 : w4.cell? ⟨g3, 1, none⟩ = some (.string ⟨#[77]⟩) := hx.c1; have y0 : w4.cell? ⟨g3, 7, none⟩ = some (.int .i64 3) := hy.c0; have y1 : w4.cell? ⟨g3, 8, none⟩ = some (.string ⟨#[77]⟩) := hy.c1; have y2 : w4.cell? ⟨g3, 9, none⟩ = some (.string ⟨#[46]⟩) := hy.c2; have y3 : w4.cell? ⟨g3, 10, none⟩ = some (.int .i64 0) := hy.c3; have y4 : w4.cell? ⟨g3, 11, none⟩ = some (.bool false) := hy.c4; have y5 : w4.cell? ⟨g3, 12, none⟩ = some (.int .i64 1) := hy.c5; have y6 : w4.cell? ⟨g3, 13, none⟩ = some (.int .i64 5) := hy.c6; clear hu hv hx hy))
    | (go_at_call 17; ((with_reducible refine (aw_same _ _ _ hT1x).mono ?_); rintro r w5 ⟨rfl, hO5⟩))
    | (go_at_call 20; ((with_reducible refine (aw_qc _).mono ?_); rintro r w6 ⟨rfl, hO6⟩))
    | (go_at_call 19; ((with_reducible refine (aw_qs _).mono ?_); rintro r w7 ⟨rfl, hO7⟩))))
  go_ret
  exact ⟨rfl, (((((((hO1.trans (Only.of_below hR1)).trans hO2).trans (Only.of_below hR2)).trans hO3).trans (Only.of_below hR3)).trans hO4).trans hO5).trans (hO6.trans hO7)⟩
end Go.Proofs.YtakojceggpljoaaGreatDoor
