/-
  WALKS. The laws' example.
-/
import Derived.Test.YtlnknkplebaioaaGbZ
import Derived.Test.YtlnknkplebaioaaGbY
namespace Go.Proofs.Ytlnknkplebaioaa
open Go.RowKit Go.Maps
section
variable {w : World} {b : Nat} {t : TypeId}
theorem inz0 (w : World) : Inz w none 0 [] := ⟨rfl, fun _k hk => absurd hk (Nat.not_lt_zero _)⟩
theorem inz1 {x : Int} (h : w.heap[b]? = some (.cells #[.int .i64 x] t (0, 0))) : Inz w (some ⟨b, 0, none⟩) 1 [x] := ⟨rfl, fun k hk => ⟨b, 0, rfl, by
  match k, hk with
  | 0, _ => exact (blk_c h rfl).1⟩⟩
theorem inz2 {x y : Int} (h : w.heap[b]? = some (.cells #[.int .i64 x, .int .i64 y] t (0, 0))) : Inz w (some ⟨b, 0, none⟩) 2 [x, y] := ⟨rfl, fun k hk => ⟨b, 0, rfl, by
  match k, hk with
  | 0, _ => exact (blk_c h rfl).1
  | 1, _ => exact (blk_c h rfl).1⟩⟩
theorem edz3 {a0 a1 a2 : Option Addr} {n0 n1 n2 c0 c1 c2 : Nat} {l0 l1 l2 : List Int} (h : w.heap[b]? = some (.cells #[.slice a0 n0 c0, .slice a1 n1 c1, .slice a2 n2 c2] t (0, 0))) (h0 : Inz w a0 n0 l0) (h1 : Inz w a1 n1 l1) (h2 : Inz w a2 n2 l2) : Edz w (some ⟨b, 0, none⟩) 3 [l0, l1, l2] := ⟨rfl, fun k hk => by
  match k, hk with
  | 0, _ => exact ⟨b, 0, _, _, _, rfl, (blk_c h rfl).1, h0⟩
  | 1, _ => exact ⟨b, 0, _, _, _, rfl, (blk_c h rfl).1, h1⟩
  | 2, _ => exact ⟨b, 0, _, _, _, rfl, (blk_c h rfl).1, h2⟩⟩
theorem ints1 {x : Nat} (h : w.heap[b]? = some (.cells #[iV x] t (0, 0))) : Ints w (some ⟨b, 0, none⟩) 1 [x] := ⟨rfl, fun k hk => ⟨b, 0, rfl, by
  match k, hk with
  | 0, _ => exact (blk_c h rfl).1⟩⟩
theorem ints2 {x y : Nat} (h : w.heap[b]? = some (.cells #[iV x, iV y] t (0, 0))) : Ints w (some ⟨b, 0, none⟩) 2 [x, y] := ⟨rfl, fun k hk => ⟨b, 0, rfl, by
  match k, hk with
  | 0, _ => exact (blk_c h rfl).1
  | 1, _ => exact (blk_c h rfl).1⟩⟩
theorem edg2 {a0 a1 : Option Addr} {n0 n1 c0 c1 : Nat} {l0 l1 : List Nat} (h : w.heap[b]? = some (.cells #[.slice a0 n0 c0, .slice a1 n1 c1] t (0, 0))) (h0 : Ints w a0 n0 l0) (h1 : Ints w a1 n1 l1) : Edg w (some ⟨b, 0, none⟩) 2 [l0, l1] := ⟨rfl, fun k hk => by
  match k, hk with
  | 0, _ => exact ⟨b, 0, _, _, _, rfl, (blk_c h rfl).1, h0⟩
  | 1, _ => exact ⟨b, 0, _, _, _, rfl, (blk_c h rfl).1, h1⟩⟩
theorem edg3 {a0 a1 a2 : Option Addr} {n0 n1 n2 c0 c1 c2 : Nat} {l0 l1 l2 : List Nat} (h : w.heap[b]? = some (.cells #[.slice a0 n0 c0, .slice a1 n1 c1, .slice a2 n2 c2] t (0, 0))) (h0 : Ints w a0 n0 l0) (h1 : Ints w a1 n1 l1) (h2 : Ints w a2 n2 l2) : Edg w (some ⟨b, 0, none⟩) 3 [l0, l1, l2] := ⟨rfl, fun k hk => by
  match k, hk with
  | 0, _ => exact ⟨b, 0, _, _, _, rfl, (blk_c h rfl).1, h0⟩
  | 1, _ => exact ⟨b, 0, _, _, _, rfl, (blk_c h rfl).1, h1⟩
  | 2, _ => exact ⟨b, 0, _, _, _, rfl, (blk_c h rfl).1, h2⟩⟩
end
abbrev exA : List (List Int) := [[1], [0], [0]]
abbrev exB : List (List Int) := [[1, 2], [2], []]
theorem exA_levels : levelsE exA = ([], 18) := by decide +kernel
theorem exB_levels : levelsE exB = ([[2], [1], [0]], 0) := by decide +kernel
theorem exA_comps : compsE exA = [[0, 1], [2]] := by decide +kernel
theorem exA_cyclic : cyclicE exA 1 = true := by decide +kernel
theorem al_h (w : World) (o : Obj) : (w.alloc o).heap = w.heap.push o := rfl
/-- The example's memory. -/
abbrev exW (w : World) : World := ((((((((w.alloc (.cells #[.int .i64 1] 3)).alloc (.cells #[.int .i64 0] 3)).alloc (.cells #[.int .i64 0] 3)).alloc (.cells #[.slice (some ⟨w.heap.size, 0, none⟩) 1 1, .slice (some ⟨w.heap.size + 1, 0, none⟩) 1 1, .slice (some ⟨w.heap.size + 1 + 1, 0, none⟩) 1 1] 30)).alloc (.cells #[.slice (some ⟨w.heap.size + 1 + 1 + 1, 0, none⟩) 3 3] 24)).alloc (.cells #[.int .i64 1, .int .i64 2] 3)).alloc (.cells #[.int .i64 2] 3)).alloc (.cells #[.slice (some ⟨w.heap.size + 1 + 1 + 1 + 1 + 1, 0, none⟩) 2 2, .slice (some ⟨w.heap.size + 1 + 1 + 1 + 1 + 1 + 1, 0, none⟩) 1 1, .slice none 0 0] 30)).alloc (.cells #[.slice (some ⟨w.heap.size + 1 + 1 + 1 + 1 + 1 + 1 + 1, 0, none⟩) 3 3] 24)
theorem ex0 (w : World) : (exW w).heap[w.heap.size]? = some (.cells #[.int .i64 1] 3 (0, 0)) := by simp only [al_h, Array.getElem?_push, Array.size_push]; simp [Nat.add_assoc]
theorem ex1 (w : World) : (exW w).heap[w.heap.size + 1]? = some (.cells #[.int .i64 0] 3 (0, 0)) := by simp only [al_h, Array.getElem?_push, Array.size_push]; simp [Nat.add_assoc]
theorem ex2 (w : World) : (exW w).heap[w.heap.size + 1 + 1]? = some (.cells #[.int .i64 0] 3 (0, 0)) := by simp only [al_h, Array.getElem?_push, Array.size_push]; simp [Nat.add_assoc]
theorem ex3 (w : World) : (exW w).heap[w.heap.size + 1 + 1 + 1]? = some (.cells #[.slice (some ⟨w.heap.size, 0, none⟩) 1 1, .slice (some ⟨w.heap.size + 1, 0, none⟩) 1 1, .slice (some ⟨w.heap.size + 1 + 1, 0, none⟩) 1 1] 30 (0, 0)) := by simp only [al_h, Array.getElem?_push, Array.size_push]; simp [Nat.add_assoc]
theorem ex4 (w : World) : (exW w).heap[w.heap.size + 1 + 1 + 1 + 1]? = some (.cells #[.slice (some ⟨w.heap.size + 1 + 1 + 1, 0, none⟩) 3 3] 24 (0, 0)) := by simp only [al_h, Array.getElem?_push, Array.size_push]; simp [Nat.add_assoc]
theorem ex5 (w : World) : (exW w).heap[w.heap.size + 1 + 1 + 1 + 1 + 1]? = some (.cells #[.int .i64 1, .int .i64 2] 3 (0, 0)) := by simp only [al_h, Array.getElem?_push, Array.size_push]; simp [Nat.add_assoc]
theorem ex6 (w : World) : (exW w).heap[w.heap.size + 1 + 1 + 1 + 1 + 1 + 1]? = some (.cells #[.int .i64 2] 3 (0, 0)) := by simp only [al_h, Array.getElem?_push, Array.size_push]; simp [Nat.add_assoc]
theorem ex7 (w : World) : (exW w).heap[w.heap.size + 1 + 1 + 1 + 1 + 1 + 1 + 1]? = some (.cells #[.slice (some ⟨w.heap.size + 1 + 1 + 1 + 1 + 1, 0, none⟩) 2 2, .slice (some ⟨w.heap.size + 1 + 1 + 1 + 1 + 1 + 1, 0, none⟩) 1 1, .slice none 0 0] 30 (0, 0)) := by simp only [al_h, Array.getElem?_push, Array.size_push]; simp [Nat.add_assoc]
theorem ex8 (w : World) : (exW w).heap[w.heap.size + 1 + 1 + 1 + 1 + 1 + 1 + 1 + 1]? = some (.cells #[.slice (some ⟨w.heap.size + 1 + 1 + 1 + 1 + 1 + 1 + 1, 0, none⟩) 3 3] 24 (0, 0)) := by simp only [al_h, Array.getElem?_push, Array.size_push]; simp [Nat.add_assoc]
theorem ex_A (w : World) : Edz (exW w) (some ⟨w.heap.size + 1 + 1 + 1, 0, none⟩) 3 exA := edz3 (ex3 w) (inz1 (ex0 w)) (inz1 (ex1 w)) (inz1 (ex2 w))
theorem ex_B (w : World) : Edz (exW w) (some ⟨w.heap.size + 1 + 1 + 1 + 1 + 1 + 1 + 1, 0, none⟩) 3 exB := edz3 (ex7 w) (inz2 (ex5 w)) (inz1 (ex6 w)) (inz0 _)
theorem ex_O (w : World) : Only (fun _ => False) w (exW w) := ((((((((Only.refl _ _).alloc _).alloc _).alloc _).alloc _).alloc _).alloc _).alloc _).alloc _ |>.alloc _
theorem lit2 (w : World) : Edg (((w.alloc (.cells #[.int .i64 0, .int .i64 1] 3)).alloc (.cells #[.int .i64 2] 3)).alloc (.cells #[.slice (some ⟨w.heap.size, 0, none⟩) 2 2, .slice (some ⟨w.heap.size + 1, 0, none⟩) 1 1] 30)) (some ⟨w.heap.size + 1 + 1, 0, none⟩) 2 [[0, 1], [2]] :=
  edg2 (t := 30) (a0 := some ⟨w.heap.size, 0, none⟩) (a1 := some ⟨w.heap.size + 1, 0, none⟩) (n0 := 2) (n1 := 1) (c0 := 2) (c1 := 1) (by simp only [al_h, Array.getElem?_push, Array.size_push]; simp) (ints2 (t := 3) (by simp only [al_h, Array.getElem?_push, Array.size_push]; simp [Nat.add_assoc])) (ints1 (t := 3) (by simp only [al_h, Array.getElem?_push, Array.size_push]; simp))
theorem lit3 (w : World) : Edg ((((w.alloc (.cells #[.int .i64 2] 3)).alloc (.cells #[.int .i64 1] 3)).alloc (.cells #[.int .i64 0] 3)).alloc (.cells #[.slice (some ⟨w.heap.size, 0, none⟩) 1 1, .slice (some ⟨w.heap.size + 1, 0, none⟩) 1 1, .slice (some ⟨w.heap.size + 1 + 1, 0, none⟩) 1 1] 30)) (some ⟨w.heap.size + 1 + 1 + 1, 0, none⟩) 3 [[2], [1], [0]] :=
  edg3 (t := 30) (a0 := some ⟨w.heap.size, 0, none⟩) (a1 := some ⟨w.heap.size + 1, 0, none⟩) (a2 := some ⟨w.heap.size + 1 + 1, 0, none⟩) (n0 := 1) (n1 := 1) (n2 := 1) (c0 := 1) (c1 := 1) (c2 := 1) (by simp only [al_h, Array.getElem?_push, Array.size_push]; simp) (ints1 (t := 3) (by simp only [al_h, Array.getElem?_push, Array.size_push]; simp [Nat.add_assoc])) (ints1 (t := 3) (by simp only [al_h, Array.getElem?_push, Array.size_push]; simp [Nat.add_assoc])) (ints1 (t := 3) (by simp only [al_h, Array.getElem?_push, Array.size_push]; simp))
theorem lat_le {L : List (List Nat)} {m : Nat} (h : ∀ l ∈ L, l.length ≤ m) (k : Nat) : (lat L k).length ≤ m := by
  unfold lat
  rw [List.getD_eq_getElem?_getD]
  cases e : L[k]? with
  | none => exact Nat.zero_le _
  | some l => exact h l (List.mem_of_getElem? e)
theorem ex_rA : ∀ l ∈ exA, l.length ≤ 1000000 := by decide
theorem ex_rB : ∀ l ∈ exB, l.length ≤ 1000000 := by decide
set_option maxRecDepth 100000 in
set_option maxHeartbeats 8000000 in
theorem example_p (w : World) : Calls Try.prog 10 #[] w fun e w' => e = .returned (.bool true) ∧ Only (fun _ => False) w w' := by
  have HLB : Hid (Calls Try.prog 19 #[.agg #[.slice (some ⟨w.heap.size + 1 + 1 + 1 + 1 + 1 + 1 + 1, 0, none⟩) 3 3]] (exW w) fun e w' => ∃ oc cc, e = .returned (.tuple #[.slice oc 3 cc, .int .i64 0]) ∧ Edg w' oc 3 [[2], [1], [0]] ∧ Only (fun _ => False) (exW w) w') := Lib.hid ((Levels_p _ _ 3 3 exB (ex_B w) (by omega) ex_rB).mono (by
    rw [exB_levels]
    rintro e w' ⟨oc, nc, cc, h1, h2, h3⟩
    have := h2.len
    have hn : nc = 3 := this.symm
    subst hn
    exact ⟨oc, cc, h1, h2, h3⟩))
  have HLA : Hid (∀ wx, Only (fun _ => False) (exW w) wx → Calls Try.prog 19 #[.agg #[.slice (some ⟨w.heap.size + 1 + 1 + 1, 0, none⟩) 3 3]] wx fun e w' => ∃ oc nc cc, e = .returned (.tuple #[.slice oc nc cc, .int .i64 18]) ∧ Only (fun _ => False) wx w') := Lib.hid (fun wx ho => (Levels_p _ _ 3 3 exA ((ex_A w).keep ho) (by omega) ex_rA).mono (by
    rw [exA_levels]
    rintro e w' ⟨oc, nc, cc, h1, -, h3⟩
    exact ⟨oc, nc, cc, h1, h3⟩))
  have HCA : Hid (∀ wx, Only (fun _ => False) (exW w) wx → Calls Try.prog 12 #[.agg #[.slice (some ⟨w.heap.size + 1 + 1 + 1, 0, none⟩) 3 3]] wx fun e w' => ∃ oc cc, e = .returned (.slice oc 2 cc) ∧ Edg w' oc 2 [[0, 1], [2]] ∧ Only (fun _ => False) wx w') := Lib.hid (fun wx ho => (Components_p _ _ 3 3 exA ((ex_A w).keep ho) (by omega) ex_rA).mono (by
    rw [exA_comps]
    rintro e w' ⟨oc, nc, cc, h1, h2, h3⟩
    have := h2.len
    have hn : nc = 2 := this.symm
    subst hn
    exact ⟨oc, cc, h1, h2.edg, h3⟩))
  have HYA : Hid (∀ wx, Only (fun _ => False) (exW w) wx → Calls Try.prog 17 #[.agg #[.slice (some ⟨w.heap.size + 1 + 1 + 1, 0, none⟩) 3 3], .int .i64 1] wx fun e w' => e = .returned (.bool true) ∧ Only (fun _ => False) wx w') := Lib.hid (fun wx ho => by
    have := Cyclic_p wx _ 3 3 exA 1 ((ex_A w).keep ho) (by omega) ex_rA
    rw [exA_cyclic] at this
    exact this)
  have HQA : Hid (∀ wx, Only (fun _ => False) (exW w) wx → wx.cell? ⟨w.heap.size + 1 + 1 + 1 + 1, 0, none⟩ = some (.slice (some ⟨w.heap.size + 1 + 1 + 1, 0, none⟩) 3 3)) := Lib.hid (fun wx ho => (blk_c ((ho.block _ (lt_of_block (ex4 w)) (fun hc => hc)).trans (ex4 w)) rfl).1)
  have HS2 : Hid (∀ wx oc cc, Edg wx oc 2 [[0, 1], [2]] → Calls Try.prog 11 #[.slice oc 2 cc, .slice (some ⟨wx.heap.size + 1 + 1, 0, none⟩) 2 2] (((wx.alloc (.cells #[.int .i64 0, .int .i64 1] 3)).alloc (.cells #[.int .i64 2] 3)).alloc (.cells #[.slice (some ⟨wx.heap.size, 0, none⟩) 2 2, .slice (some ⟨wx.heap.size + 1, 0, none⟩) 1 1] 30)) fun e w' => e = .returned (.bool true) ∧ Only (fun _ => False) wx w') := Lib.hid (fun wx oc cc hC => by
    have hO := (((Only.refl (fun _ => False) wx).alloc (.cells #[.int .i64 0, .int .i64 1] 3)).alloc (.cells #[.int .i64 2] 3)).alloc (.cells #[.slice (some ⟨wx.heap.size, 0, none⟩) 2 2, .slice (some ⟨wx.heap.size + 1, 0, none⟩) 1 1] 30)
    refine (Same_p _ _ _ 2 2 _ _ _ _ (hC.old hO (fun _ _ hc => hc)) (lit2 wx) (by omega) (lat_le (by decide)) true (by decide)).mono ?_
    rintro e w' ⟨h1, h2⟩
    exact ⟨h1, hO.trans h2⟩)
  have HS3 : Hid (∀ wx oc cc, Edg wx oc 3 [[2], [1], [0]] → Calls Try.prog 11 #[.slice oc 3 cc, .slice (some ⟨wx.heap.size + 1 + 1 + 1, 0, none⟩) 3 3] ((((wx.alloc (.cells #[.int .i64 2] 3)).alloc (.cells #[.int .i64 1] 3)).alloc (.cells #[.int .i64 0] 3)).alloc (.cells #[.slice (some ⟨wx.heap.size, 0, none⟩) 1 1, .slice (some ⟨wx.heap.size + 1, 0, none⟩) 1 1, .slice (some ⟨wx.heap.size + 1 + 1, 0, none⟩) 1 1] 30)) fun e w' => e = .returned (.bool true) ∧ Only (fun _ => False) wx w') := Lib.hid (fun wx oc cc hC => by
    have hO := ((((Only.refl (fun _ => False) wx).alloc (.cells #[.int .i64 2] 3)).alloc (.cells #[.int .i64 1] 3)).alloc (.cells #[.int .i64 0] 3)).alloc (.cells #[.slice (some ⟨wx.heap.size, 0, none⟩) 1 1, .slice (some ⟨wx.heap.size + 1, 0, none⟩) 1 1, .slice (some ⟨wx.heap.size + 1 + 1, 0, none⟩) 1 1] 30)
    refine (Same_p _ _ _ 3 3 _ _ _ _ (hC.old hO (fun _ _ hc => hc)) (lit3 wx) (by omega) (lat_le (by decide)) true (by decide)).mono ?_
    rintro e w' ⟨h1, h2⟩
    exact ⟨h1, hO.trans h2⟩)
  go_enter Try.func10, Try.ntmps10
  go_wp2_with (first | (go_at_call 19; (with_reducible refine HLB.out.mono ?_); rintro e w5 ⟨ob, cb, rfl, hB5, hO5⟩; have q5 := HQA.out _ hO5) | (go_at_call 19; (with_reducible refine (HLA.out _ hO5).mono ?_); rintro e w6 ⟨oa, na, ca, rfl, hO6⟩; have hO6' := hO5.trans hO6; have q6 := HQA.out _ hO6') | (go_at_call 12; (with_reducible refine (HCA.out _ hO6').mono ?_); rintro e w7 ⟨oc, cc, rfl, hC7, hO7⟩; have hO7' := hO6'.trans hO7) | (go_at_call 11; (with_reducible refine (HS2.out w7 oc cc hC7).mono ?_); rintro e w8 ⟨rfl, hO8⟩; have hO8' := hO7'.trans hO8; have q8 := HQA.out _ hO8') | (go_at_call 17; (with_reducible refine (HYA.out _ hO8').mono ?_); rintro e w9 ⟨rfl, hO9⟩; have hO9' := hO8'.trans hO9) | (go_at_call 11; (with_reducible refine (HS3.out w9 ob cb (hB5.old (hO6.trans (hO7.trans (hO8.trans hO9))) (fun _ _ hc => hc))).mono ?_); rintro e w10 ⟨rfl, hO10⟩; have hO10' := hO9'.trans hO10))
  go_ret
  exact ⟨rfl, (ex_O w).trans hO10'⟩
end Go.Proofs.Ytlnknkplebaioaa
