/-
  WALKS. The laws' helpers; the chapter's example.
-/
import Derived.Test.YthblchafjmgmbaaLyT
import Derived.Test.YthblchafjmgmbaaLyS
namespace Go.Proofs.Ythblchafjmgmbaa
open Go.RowKit Go.Maps
set_option maxRecDepth 100000 in
theorem few_p (oa : Option Addr) (n ca : Nat) (w : World) (v : Bool) (hv : decide (n ≤ 3000) = v) : Calls Try.prog 4 #[.slice oa n ca] w fun e w' => e = .returned (.bool v) ∧ w = w' := by
  have h1 : decide ((n : Int) ≤ 3000) = v := by rw [← hv]; congr 1; exact propext ⟨fun h => by omega, fun h => by omega⟩
  go_enter Try.func4, Try.ntmps4
  go_wp2
  go_ret
  exact ⟨by first | rfl | (rw [hv]) | (rw [h1]), rfl⟩
theorem Depth_v (w : World) (oa : Option Addr) (n ca : Nat) (ts : List Tok) (v : Int) (hn : n ≤ 100000000000) (hT : Tks w oa n ts) (hv : depL ts = v) :
    Calls Try.prog 9 #[.slice oa n ca] w fun r w' => r = .returned (.int .i64 v) ∧ Only (fun _ => False) w w' := hv ▸ Depth_p w oa n ca ts hn hT
theorem dep_ex : depL (insT 123 :: exL ++ [insT 125]) = 1 := by kernel_rfl
abbrev exO : List Tok := insT 123 :: exL ++ [insT 125]
set_option maxRecDepth 100000 in
set_option maxHeartbeats 8000000 in
theorem example_p (w : World) : Calls Try.prog 5 #[] w fun e w' => e = .returned (.bool true) ∧ Only (fun _ => False) w w' := by
  have hblk : (w.alloc (.cells (exL.flatMap tokCells).toArray 33)).heap[w.heap.size]? = some (.cells (exL.flatMap tokCells).toArray 33 (0, 0)) := new_block _ _
  have hTR : TR (w.alloc (.cells (exL.flatMap tokCells).toArray 33)) w.heap.size (.slice (some ⟨w.heap.size, 0, none⟩) 4 4) exL := ⟨rfl, .inr ⟨w.heap.size, 4, (exL.flatMap tokCells).toArray, rfl, Nat.le_refl _, hblk, Nat.le_refl _, by decide, rfl, rfl⟩⟩
  have hA : Only (fun _ => False) w (w.alloc (.cells (exL.flatMap tokCells).toArray 33)) := (Only.refl _ _).alloc _
  have hT := TR.tks hTR
  have HX : Hid (insP exL = .ok exO) := Lib.hid ins_ex
  go_enter Try.func5, Try.ntmps5
  go_wp2_with (go_at_call 6; refine (Insert_ok _ _ 4 4 exL (by decide) hT rfl).mono ?_; rw [HX.out]; rintro r w1 ⟨hO1, vo, rfl, hRo⟩; obtain ⟨oa, ca, hvo⟩ := rowForm hRo; change vo = .slice oa 6 ca at hvo; subst hvo)
  have hT1 := hTR.only hO1 (fun _ _ hc => hc)
  refine still_tail_w 39 (by kernel_rfl) (by kernel_rfl) (fun wd => FB wd w1.heap.size 0 ⟨#[]⟩ 0 0 ∧ TR wd (w.alloc (.cells (exL.flatMap tokCells).toArray 33)).heap.size (.slice oa 6 ca) exO ∧ TR wd w.heap.size (.slice (some ⟨w.heap.size, 0, none⟩) 4 4) exL ∧ Only (fun _ => False) w wd) ⟨(show FB _ _ _ _ _ _ from new_block w1 _), hRo.only (Only.drew (Only.alloc (Only.refl (fun _ => False) w1) _)) (fun _ _ hc => hc), hT1.only (Only.drew (Only.alloc (Only.refl (fun _ => False) w1) _)) (fun _ _ hc => hc), Only.drew (Only.alloc (hA.trans hO1) _)⟩ ?_
  clear hT1 hRo hO1 hT hTR hblk hA
  rintro wd ⟨hF, hR, hL, hO⟩
  obtain ⟨f0, f1, f2, f3⟩ := hF.all
  obtain ⟨g, hoa, -, -, hca, t0⟩ := TR.at (k := 0) hR (by decide)
  obtain ⟨g1, hoa1, -, -, -, t1⟩ := TR.at (k := 1) hR (by decide)
  obtain ⟨g5, hoa5, -, -, -, t5⟩ := TR.at (k := 5) hR (by decide)
  obtain ⟨g', hoa', -, -, -, u0⟩ := TR.at (k := 0) hL (by decide)
  subst hoa
  cases hoa1
  cases hoa5
  cases hoa'
  have a4 : wd.cell? ⟨g, 4, none⟩ = some (.bool true) := t0.c4
  have a2 : wd.cell? ⟨g, 2, none⟩ = some (.string ⟨#[123]⟩) := t0.c2
  have b0 : wd.cell? ⟨g, 7, none⟩ = some (.int .i64 1) := t1.c0
  have b1 : wd.cell? ⟨g, 8, none⟩ = some (.string ⟨#[]⟩) := t1.c1
  have b2 : wd.cell? ⟨g, 9, none⟩ = some (.string ⟨#[102]⟩) := t1.c2
  have b3 : wd.cell? ⟨g, 10, none⟩ = some (.int .i64 0) := t1.c3
  have b4 : wd.cell? ⟨g, 11, none⟩ = some (.bool false) := t1.c4
  have b5 : wd.cell? ⟨g, 12, none⟩ = some (.int .i64 1) := t1.c5
  have b6 : wd.cell? ⟨g, 13, none⟩ = some (.int .i64 1) := t1.c6
  have e2 : wd.cell? ⟨g, 37, none⟩ = some (.string ⟨#[125]⟩) := t5.c2
  have v0 : wd.cell? ⟨w.heap.size, 0, none⟩ = some (.int .i64 1) := u0.c0
  have v1 : wd.cell? ⟨w.heap.size, 1, none⟩ = some (.string ⟨#[]⟩) := u0.c1
  have v2 : wd.cell? ⟨w.heap.size, 2, none⟩ = some (.string ⟨#[102]⟩) := u0.c2
  have v3 : wd.cell? ⟨w.heap.size, 3, none⟩ = some (.int .i64 0) := u0.c3
  have v4 : wd.cell? ⟨w.heap.size, 4, none⟩ = some (.bool false) := u0.c4
  have v5 : wd.cell? ⟨w.heap.size, 5, none⟩ = some (.int .i64 1) := u0.c5
  have v6 : wd.cell? ⟨w.heap.size, 6, none⟩ = some (.int .i64 1) := u0.c6
  have hTk := TR.tks (ca := ca) hR
  clear t0 t1 t5 u0
  simp only [List.take_succ_cons, List.take_zero, List.drop_succ_cons, List.drop_zero]
  repeat still_step
  refine wpStill_nil ?_
  go_wp2_with (go_at_call 9; refine (Depth_v wd _ 6 ca exO 1 (by decide) hTk dep_ex).mono ?_; rintro r w2 ⟨rfl, hO2⟩)
  go_ret
  exact ⟨rfl, hO.trans hO2⟩
end Go.Proofs.Ythblchafjmgmbaa
