/-
  WALKS. slices.Repeat at a slice of one int; the program's distances.
-/
import Derived.Test.YtigmdiagdlbdpaaGreatMga
import Derived.Test.YtigmdiagdlbdpaaGreatGbR
import Derived.Test.YtigmdiagdlbdpaaGreatShelf
import Derived.Laws.CopyOwn
namespace Go.Proofs.YtigmdiagdlbdpaaGreat
open Go.RowKit Go.Maps
/-- A row that is filled up to k. -/
def fillK (c n k : Nat) : List Nat := List.replicate k c ++ List.replicate (n - k) 0
theorem fillK_len {c n k : Nat} (h : k ≤ n) : (fillK c n k).length = n := by unfold fillK; rw [List.length_append, List.length_replicate, List.length_replicate]; omega
theorem fillK_all (c n : Nat) : fillK c n n = List.replicate n c := by unfold fillK; rw [Nat.sub_self]; simp
theorem fillK_zero (c n : Nat) : fillK c n 0 = zeros n := rfl
theorem fillK_splice {c n k m : Nat} (h : k + m ≤ n) : splice ((fillK c n k).map iV) k ((List.replicate m c).map iV) = (fillK c n (k + m)).map iV := by
  unfold splice fillK
  rw [List.map_append, List.map_replicate, List.map_replicate, List.map_replicate]
  rw [List.take_left' (by simp), List.map_append, List.map_replicate, List.map_replicate, List.length_replicate, List.drop_append, List.drop_replicate]
  simp
  rw [← List.append_assoc, List.replicate_append_replicate]
  congr 2
  omega
theorem ir_of_cells {w : World} {B g n : Nat} {l : List Nat} (hB : B ≤ g) (hg : w.heap[g]? = some (.cells (l.map iV).toArray 3 (0, 0))) (hl : l.length = n) (hn : n ≤ 1000000000) : IR w B (.slice (some ⟨g, 0, none⟩) n n) l := by
  refine ⟨by rw [List.length_map]; omega, .inr ⟨g, n, _, by rw [hl], hB, hg, by omega, by unfold maxLen; omega, by simp [hl], ?_⟩⟩
  rw [Nat.mul_one, List.take_of_length_le (by simp)]
set_option maxRecDepth 100000 in
set_option maxHeartbeats 1000000 in
theorem Repeat_p (w : World) (b c n cx : Nat) (hx : w.cell? ⟨b, 0, none⟩ = some (iV c)) (hn0 : 0 < n) (hn : n ≤ 1000000) : Calls Tryz.prog 86 #[.slice (some ⟨b, 0, none⟩) 1 cx, iV n] w fun e w' => ∃ g, e = .returned (.slice (some ⟨g, 0, none⟩) n n) ∧ IR w' w.heap.size (.slice (some ⟨g, 0, none⟩) n n) (List.replicate n c) ∧ Only (fun _ => False) w w' := by
  have hmk := mk_ints (n := n) (by omega)
  have h1 : ¬ (n : Int) < 0 := by omega
  have h2 : decide ((n : Int) < 0) = false := decide_eq_false h1
  have hdv : (n : Int) / 18446744073709551616 = 0 := by omega
  have hmd : (n : Int) % 18446744073709551616 = n := by omega
  have hinf : (Tryz.prog.info? 3).map (·.size) = some 1 := by kernel_rfl
  have hnb := new_block w (.cells (madeCells #[Value.int .i64 0] n) 3)
  have hxb : (w.alloc (.cells (madeCells #[Value.int .i64 0] n) 3)).cell? ⟨b, 0, none⟩ = some (iV c) := (World.cell?_of_block (((Only.refl (fun _ => False) w).alloc (.cells (madeCells #[Value.int .i64 0] n) 3)).block b (cell_lt hx) (fun hc => hc))).trans hx
  have hcp := run_copy_row (P := Tryz.prog) (w.alloc (.cells (madeCells #[Value.int .i64 0] n) 3)) 55 55 3 3 w.heap.size 0 n n ⟨b, 0, none⟩ 1 cx (madeCells #[Value.int .i64 0] n) 3 [iV c] Tryz.underlying55 hinf hnb (by rw [Nat.min_eq_min, Nat.min_eq_left (by omega)]; rfl) (fun j v e => by
    cases j with
    | zero => cases e; exact hxb
    | succ j => cases e) (by rw [zA_size]; simp; omega) (fun v hv => by rw [List.mem_singleton.1 hv]; rfl)
  have hf6 : ((w.alloc (.cells (madeCells #[Value.int .i64 0] n) 3)).setRow w.heap.size ((madeCells #[Value.int .i64 0] n).toList.take 0 ++ [iV c] ++ (madeCells #[Value.int .i64 0] n).toList.drop (0 + [iV c].length)).toArray).heap[w.heap.size]? = some (.cells ((fillK c n 1).map iV).toArray 3 (0, 0)) := by
    rw [setRow_heap _ _ _ _ _ _ hnb]
    have h5 := fillK_splice (c := c) (n := n) (k := 0) (m := 1) (by omega)
    rw [fillK_zero, ← zA_list] at h5
    unfold splice at h5
    rw [show (List.replicate 1 c).map iV = [iV c] from rfl] at h5
    rw [List.append_assoc, h5]
  have hb6 : Below w.heap.size w ((w.alloc (.cells (madeCells #[Value.int .i64 0] n) 3)).setRow w.heap.size ((madeCells #[Value.int .i64 0] n).toList.take 0 ++ [iV c] ++ (madeCells #[Value.int .i64 0] n).toList.drop (0 + [iV c].length)).toArray) := below_setRow (((Only.refl (fun _ => False) w).alloc _).below (Nat.le_refl _) (fun _ hc => hc.elim)) (Nat.le_refl _) _
  obtain ⟨w6, hw6⟩ : ∃ w6, ((w.alloc (.cells (madeCells #[Value.int .i64 0] n) 3)).setRow w.heap.size ((madeCells #[Value.int .i64 0] n).toList.take 0 ++ [iV c] ++ (madeCells #[Value.int .i64 0] n).toList.drop (0 + [iV c].length)).toArray) = w6 := ⟨_, rfl⟩
  rw [hw6] at hcp hf6 hb6
  have HF6 := Lib.hid hf6
  have HB6 := Lib.hid hb6
  have hcp' : Sem.run Tryz.prog (Builtin.copy_ #[55, 55] 3 #[.slice (some ⟨w.heap.size, 0, none⟩) n n, .slice (some ⟨b, 0, none⟩) 1 cx]) (w.alloc (.cells (madeCells #[Value.int .i64 0] n) 3)) = .ok (.int .i64 1) w6 := hcp
  clear hf6 hb6 hx hnb hxb hw6 hcp
  go_enter Tryz.func86, Tryz.ntmps86
  go_wp2_with (go_at_call 107; (refine (Tryz.bits_Mul 1 n (by omega) (by omega) _).mono ?_); rintro e w5 ⟨rfl, rfl⟩)
  go_loopw [8] (fun q wr => ∃ k : Nat, 0 < k ∧ k ≤ n ∧ q = .int .i64 k ∧ wr.heap[w5.heap.size]? = some (.cells ((fillK c n k).map iV).toArray 3 (0, 0)) ∧ Below w5.heap.size w5 wr) (fun q _ => n - (intOf q).toNat)
  case atStart => exact ⟨1, by omega, by omega, rfl, HF6.out, HB6.out⟩
  case round =>
    obtain ⟨k, hk0, hk, rfl, hf, hb⟩ := hrel
    have HF := Lib.hid hf
    have HB := Lib.hid hb
    clear hf hb
    by_cases hkn : k < n
    · have h01 : (0 : Int) ≤ (k : Int) := Int.natCast_nonneg k
      have h02 : (k : Int) < (n : Int) := by omega
      have h03 : (k : Int).toNat = k := Int.toNat_natCast k
      have h04 : (k : Int) ≤ (n : Int) := by omega
      obtain ⟨m, hm⟩ : ∃ m, Nat.min k (n - k) = m := ⟨_, rfl⟩
      have hm0 : 0 < m ∧ m ≤ k ∧ k + m ≤ n := by
        rw [Nat.min_eq_min] at hm
        omega
      have hnk : ¬ n = k := by omega
      have hcq := run_copy_row (P := Tryz.prog) wr.drew 55 55 3 3 w5.heap.size k (n - k) (n - k) ⟨w5.heap.size, 0, none⟩ k n ((fillK c n k).map iV).toArray 3 ((List.replicate m c).map iV) Tryz.underlying55 hinf HF.out (by rw [List.length_map, List.length_replicate]; exact hm.symm) (fun j v e => by
        have hj : j < m := by
          have := (List.getElem?_eq_some_iff.1 e).1
          rwa [List.length_map, List.length_replicate] at this
        rw [List.getElem?_map, List.getElem?_replicate, if_pos hj] at e
        cases e
        have h5 := (ir_of_cells (Nat.le_refl _) HF.out (fillK_len hk) (by omega)).at' (k := j) (by rw [fillK_len hk]; omega)
        have h6 : gt (fillK c n k) j = c := by
          unfold fillK gt
          rw [List.getD_eq_getElem?_getD, List.getElem?_append_left (by rw [List.length_replicate]; omega), List.getElem?_replicate, if_pos (by omega)]
          rfl
        rw [h6] at h5
        have h7 := h5.1
        rw [show (⟨w5.heap.size, 0, none⟩ : Addr).add j = ⟨w5.heap.size, j, none⟩ by rw [add_plain, Nat.zero_add]]
        exact h7) (by simp [fillK_len hk]; omega) (fun v hv => by obtain ⟨x, -, rfl⟩ := List.mem_map.1 hv; rfl)
      have hf7 : (wr.drew.setRow w5.heap.size (((fillK c n k).map iV).toArray.toList.take k ++ (List.replicate m c).map iV ++ ((fillK c n k).map iV).toArray.toList.drop (k + ((List.replicate m c).map iV).length)).toArray).heap[w5.heap.size]? = some (.cells ((fillK c n (k + m)).map iV).toArray 3 (0, 0)) := by
        rw [setRow_heap wr.drew _ _ _ _ _ HF.out, List.append_assoc]
        have h5 := fillK_splice (c := c) (n := n) (k := k) (m := m) hm0.2.2
        unfold splice at h5
        rw [← h5]
      have hb7 : Below w5.heap.size w5 (wr.drew.setRow w5.heap.size (((fillK c n k).map iV).toArray.toList.take k ++ (List.replicate m c).map iV ++ ((fillK c n k).map iV).toArray.toList.drop (k + ((List.replicate m c).map iV).length)).toArray) := below_setRow (below_drewN HB.out 1) (Nat.le_refl _) _
      obtain ⟨w7, hw7⟩ : ∃ w7, wr.drew.setRow w5.heap.size (((fillK c n k).map iV).toArray.toList.take k ++ (List.replicate m c).map iV ++ ((fillK c n k).map iV).toArray.toList.drop (k + ((List.replicate m c).map iV).length)).toArray = w7 := ⟨_, rfl⟩
      rw [hw7] at hcq hf7 hb7
      have HF7 := Lib.hid hf7
      have HB7 := Lib.hid hb7
      have hcr : Sem.run Tryz.prog (Builtin.copy_ #[55, 55] 3 #[.slice (some ⟨w5.heap.size, k, none⟩) (n - k) (n - k), .slice (some ⟨w5.heap.size, 0, none⟩) k n]) wr.drew = .ok (.int .i64 (m : Nat)) w7 := by
        rw [hcq, List.length_map, List.length_replicate]
        rfl
      have hwk : IntKind.i64.wrap ((k : Int) + (m : Int)) = (k : Int) + (m : Int) := IntWalk.i64_in _ (by omega)
      clear hf7 hb7 hcq hw7 hm
      go_wp2
      go_region
      all_goals
        go_wp2
        go_roundw
        case rel => exact ⟨k + m, by omega, by omega, by go_num, HF7.out, HB7.out⟩
        case measure => simp [intOf]; omega
    · have hkn2 : n = k := by omega
      subst hkn2
      have HIR := Lib.hid (ir_of_cells (Nat.le_refl _) HF.out (fillK_len (Nat.le_refl _)) (by omega))
      rw [fillK_all] at HIR
      go_wp2
      go_ret
      exact ⟨_, rfl, HIR.out, Only.of_below HB.out⟩
theorem relRow_take (u : Nat) {l a : List Nat} {j : Nat} (hj : j < l.length) : relRow a u (l.take (j + 1)) = relE (relRow a u (l.take j)) u (gt l j) := by
  unfold relRow
  rw [List.take_succ_eq_append_getElem hj, List.foldl_append, gt_at hj]
  rfl
theorem relE_bnd {a : List Nat} {m : Nat} (h : ∀ i, gt a i ≤ m) (u v : Nat) : ∀ i, gt (relE a u v) i ≤ m := fun i => by
  unfold relE
  by_cases hu : u < a.length
  · rw [gt_set hu]
    split
    · exact Nat.le_trans (Nat.min_le_left _ _) (h u)
    · exact h i
  · rw [List.set_eq_of_length_le (by omega)]
    exact h i
theorem relRow_bnd {m : Nat} (u : Nat) : ∀ (l : List Nat) {a : List Nat}, (∀ i, gt a i ≤ m) → ∀ i, gt (relRow a u l) i ≤ m
  | [], _, h => h
  | v :: l, a, h => relRow_bnd u l (a := relE a u v) (relE_bnd h u v)
theorem relK_bnd {G : List (List Nat)} {m : Nat} {a : List Nat} (h : ∀ i, gt a i ≤ m) : ∀ k i, gt (relK G a k) i ≤ m
  | 0 => h
  | k + 1 => relRow_bnd k _ (relK_bnd h k)
theorem disR_bnd (G : List (List Nat)) (t : Nat) : ∀ r i, gt (disR G t r) i ≤ G.length
  | 0 => fun i => by
    unfold disR
    by_cases ht : t < (List.replicate G.length G.length).length
    · rw [gt_set ht]
      split
      · exact Nat.zero_le _
      · unfold gt
        rw [List.getD_eq_getElem?_getD, List.getElem?_replicate]
        split <;> simp
    · rw [List.set_eq_of_length_le (by omega)]
      unfold gt
      rw [List.getD_eq_getElem?_getD, List.getElem?_replicate]
      split <;> simp
  | r + 1 => relK_bnd (disR_bnd G t r) G.length
set_option maxRecDepth 100000 in
set_option maxHeartbeats 4000000 in
theorem distances_p (w : World) (oE : Option Addr) (n cE : Nat) (G : List (List Nat)) (t : Nat) (h : Edg w oE n G) (hG : ValidG G) (ht : t < n) (hn : n ≤ 1000000) (hr : ∀ k, (lAt G k).length ≤ 1000000) : Calls Tryz.prog 76 #[.agg #[.slice oE n cE], iV t] w fun e w' => ∃ g, e = .returned (.slice (some ⟨g, 0, none⟩) n n) ∧ IR w' w.heap.size (.slice (some ⟨g, 0, none⟩) n n) (disG G t) ∧ Only (fun _ => False) w w' := by
  have hlen := h.len
  have hA : Only (fun _ => False) w (w.alloc (.cells #[.slice oE n cE] 49)) := (Only.refl _ _).alloc _
  have s1 : (w.alloc (.cells #[.slice oE n cE] 49)).heap.size = w.heap.size + 1 := by show (Array.push _ _).size = _; rw [Array.size_push]
  have hA2 : Only (fun _ => False) w ((w.alloc (.cells #[.slice oE n cE] 49)).alloc (.cells #[.int .i64 n] 3)) := hA.alloc _
  have s2 : ((w.alloc (.cells #[.slice oE n cE] 49)).alloc (.cells #[.int .i64 n] 3)).heap.size = w.heap.size + 1 + 1 := by show (Array.push _ _).size = _; rw [Array.size_push, s1]
  have hk0 : ((w.alloc (.cells #[.slice oE n cE] 49)).alloc (.cells #[.int .i64 n] 3)).heap[w.heap.size]? = some (.cells #[.slice oE n cE] 49) := (((Only.refl (fun _ => False) (w.alloc (.cells #[.slice oE n cE] 49))).alloc (.cells #[.int .i64 n] 3)).block w.heap.size (by rw [s1]; omega) (fun hc => hc)).trans (new_block w _)
  have hk1 : ((w.alloc (.cells #[.slice oE n cE] 49)).alloc (.cells #[.int .i64 n] 3)).cell? ⟨w.heap.size + 1, 0, none⟩ = some (iV n) := (blk_c (new_at _ s1) rfl).1
  have hq0 : (w.alloc (.cells #[.slice oE n cE] 49)).cell? ⟨w.heap.size, 0, none⟩ = some (.slice oE n cE) := (blk_c (new_block w _) rfl).1
  have HR := Lib.hid (Repeat_p _ (w.heap.size + 1) n n 1 hk1 (by omega) hn)
  have HK0 := Lib.hid hk0
  have HA2 := Lib.hid hA2
  have HE := Lib.hid h
  have HG := Lib.hid hG
  have HRW := Lib.hid hr
  clear hk0 hk1 hA2 hA h hG hr
  go_enter Tryz.func76, Tryz.ntmps76
  go_wp2_with (go_at_call 86; (refine HR.out.mono ?_); rintro e w5 ⟨g, rfl, hI5, hO5⟩; have c5 := hI5.at' (k := t) (by rw [List.length_replicate]; exact ht); have p5 := c5.1; have z5 := c5.2; clear c5)
  obtain ⟨w8, hw8⟩ : ∃ w8, w5.setCell ⟨g, t, none⟩ (.int .i64 0) = w8 := ⟨_, rfl⟩
  have hlr : (List.replicate n n).length = n := List.length_replicate
  have hI8 : IR w8 w.heap.size (.slice (some ⟨g, 0, none⟩) n n) (disR G t 0) := by
    have h1 := hI5.set (j := t) (by rw [hlr]; exact ht) 0
    rw [← hw8]
    show IR _ _ _ ((List.replicate G.length G.length).set t 0)
    rw [hlen]
    exact rowMono h1 (by rw [s2]; omega)
  have hgs : w.heap.size + 1 < g := by
    have h1 := (World.ownsRow.lt hI5 g rfl).1
    rw [s2] at h1
    omega
  have hO8 : Only (· = g) w5 w8 := by rw [← hw8]; exact Only.setCell (K := (· = g)) (Only.refl _ _) rfl _
  have HFR : Hid (∀ wx, Only (· = g) w8 wx → Only (fun _ => False) w wx) := Lib.hid (fun wx ho => by
    have h1 := (HA2.out.trans hO5).lift (K := (· = g)) |>.trans (hO8.trans ho)
    exact ⟨h1.os, h1.tape, h1.output, h1.size, fun i hi _ => h1.block i hi (fun hc => by have hc' : i = g := hc; omega)⟩)
  have hg5 : w.heap.size < w5.heap.size := by have h1 := hO5.size; rw [s2] at h1; omega
  have hk8 : w8.heap[w.heap.size]? = some (.cells #[.slice oE n cE] 49) := (hO8.block w.heap.size hg5 (fun hc => by have hc' : w.heap.size = g := hc; omega)).trans ((hO5.block w.heap.size (by rw [s2]; omega) (fun hc => hc)).trans HK0.out)
  have HB : Hid (∀ wx, Only (· = g) w8 wx → wx.cell? ⟨w.heap.size, 0, none⟩ = some (.slice oE n cE)) := Lib.hid (fun wx ho => (blk_c ((ho.block w.heap.size (lt_of_block hk8) (fun hc => by have hc' : w.heap.size = g := hc; omega)).trans hk8) rfl).1)
  have HED : Hid (∀ wx, Only (· = g) w8 wx → Edg wx oE n G) := Lib.hid (fun wx ho => HE.out.old (HFR.out wx ho) (fun _ _ hc => hc))
  have HI8 := Lib.hid hI8
  rw [hw8]
  clear hI5 hO5 p5 z5 hw8 hI8 hO8 hk8 hq0 s1 s2 HA2 HK0
  go_loopw [22] (fun q wr => ∃ r : Nat, r ≤ n ∧ q = .int .i64 r ∧ IR wr w.heap.size (.slice (some ⟨g, 0, none⟩) n n) (disR G t r) ∧ Only (· = g) w8 wr) (fun q _ => n - (intOf q).toNat)
  case atStart => exact ⟨0, by omega, rfl, HI8.out, Only.refl _ _⟩
  case round =>
    obtain ⟨r, hr, rfl, hI, hO⟩ := hrel
    have q0 := HB.out wr hO
    by_cases hrn : r < n
    · have hI0 : IR wr w.heap.size (.slice (some ⟨g, 0, none⟩) n n) (relK G (disR G t r) 0) := hI
      have hbd := disR_bnd G t r
      have hdl := disR_len G t r
      rw [hlen] at hbd hdl
      have HST : Hid (disR G t (r + 1) = relK G (disR G t r) n) := Lib.hid (by show relK G (disR G t r) G.length = _; rw [hlen])
      obtain ⟨a, ha⟩ : ∃ a, disR G t r = a := ⟨_, rfl⟩
      rw [ha] at hI0 hbd hdl HST
      have HBD := Lib.hid hbd
      clear hI ha hbd
      go_wp2
      go_loopw [27] (fun q wr => ∃ k : Nat, k ≤ n ∧ q = .int .i64 k ∧ IR wr w.heap.size (.slice (some ⟨g, 0, none⟩) n n) (relK G a k) ∧ Only (· = g) w8 wr) (fun q _ => n - (intOf q).toNat)
      case atStart => exact ⟨0, by omega, rfl, hI0, hO⟩
      case round =>
        clear hI0 hO q0
        obtain ⟨k, hk, rfl, hI, hO⟩ := hrel
        by_cases hkn : k < n
        · have hkG : k < G.length := by omega
          obtain ⟨b1, o1, ra, rn, rc, e1, c1, hi1⟩ := (HED.out wr hO).cell k hkG
          subst e1
          have hrow : lAt G k = G[k] := by show G.getD k [] = _; rw [List.getD_eq_getElem?_getD, List.getElem?_eq_getElem hkG]; rfl
          have hrl := hi1.len
          have hrb := HRW.out k
          have hval := fun v (hv : v ∈ lAt G k) => row_valid HG.out hv
          have hi0 : Ints w ra rn G[k] := by
            obtain ⟨b2, o2, rb, rm, rd, e2, c2, hi2⟩ := HE.out.cell k hkG
            cases e2
            have c3 := (World.cell?_of_block ((HFR.out wr hO).block _ (cell_lt c2) (fun hc => hc))).trans c2
            rw [c1] at c3
            cases c3
            exact hi2
          rw [← hrow] at hi0 hrl
          have hI0 : IR wr w.heap.size (.slice (some ⟨g, 0, none⟩) n n) (relRow (relK G a k) k ((lAt G k).take 0)) := hI
          have HST2 : Hid (relK G a (k + 1) = relRow (relK G a k) k (lAt G k)) := Lib.hid rfl
          have hb2 := relK_bnd (G := G) HBD.out k
          have hl2 := relK_len G a k
          obtain ⟨row, hrowe⟩ : ∃ row, lAt G k = row := ⟨_, rfl⟩
          rw [hrowe] at hi0 hI0 HST2 hrl hrb hval
          obtain ⟨a2, ha2⟩ : ∃ a2, relK G a k = a2 := ⟨_, rfl⟩
          rw [ha2] at hI0 HST2 hb2 hl2
          have HB2 := Lib.hid hb2
          have HI0 := Lib.hid hi0
          have HVL := Lib.hid hval
          have HRL := Lib.hid hrl
          have h01 : (0 : Int) ≤ (k : Int) := Int.natCast_nonneg k
          have h02 : (k : Int) < (n : Int) := by omega
          have h03 : (k : Int).toNat = k := Int.toNat_natCast k
          clear hI hi1 hrow hrowe ha2 hb2 hval hi0
          go_wp2
          go_loopw [34] (fun q wr => ∃ j : Nat, j ≤ rn ∧ q = .int .i64 j ∧ IR wr w.heap.size (.slice (some ⟨g, 0, none⟩) n n) (relRow a2 k (row.take j)) ∧ Only (· = g) w8 wr) (fun q _ => rn - (intOf q).toNat)
          case atStart => exact ⟨0, by omega, rfl, hI0, hO⟩
          case round =>
            clear hI0 hO c1
            obtain ⟨j, hj, rfl, hI, hO⟩ := hrel
            by_cases hjr : j < rn
            · have hjl : j < row.length := by have := HRL.out; omega
              obtain ⟨b2, o2, e2, c2⟩ := (HI0.out.old (HFR.out wr hO) (fun _ _ hc => hc)).cell j hjl
              subst e2
              have hst := relRow_take (a := a2) k hjl
              obtain ⟨v, hv⟩ : ∃ v, gt row j = v := ⟨_, rfl⟩
              rw [hv] at c2 hst
              have hvn : v < n := by
                have h1 := HVL.out v (by rw [← hv, gt_at hjl]; exact List.getElem_mem hjl)
                omega
              have hb3 := relRow_bnd k (row.take j) HB2.out
              have hl3 : (relRow a2 k (row.take j)).length = n := by rw [relRow_len, hl2, hdl]
              obtain ⟨a3, ha3⟩ : ∃ a3, relRow a2 k (row.take j) = a3 := ⟨_, rfl⟩
              rw [ha3] at hI hst hb3 hl3
              unfold relE at hst
              obtain ⟨p1, z1⟩ := hI.at' (k := k) (by omega)
              obtain ⟨p2, z2⟩ := hI.at' (k := v) (by omega)
              have HIS := Lib.hid (hI.set (j := k) (by omega) (min (gt a3 k) (gt a3 v + 1)))
              have HOS := Lib.hid (Only.setCell (K := (· = g)) hO (b := g) (k := k) rfl (iV (min (gt a3 k) (gt a3 v + 1))))
              have hb4 := hb3 v
              obtain ⟨x, hx⟩ : ∃ x, gt a3 k = x := ⟨_, rfl⟩
              obtain ⟨y, hy⟩ : ∃ y, gt a3 v = y := ⟨_, rfl⟩
              rw [hx] at p1 HIS HOS hst
              rw [hy] at p2 HIS HOS hst hb4
              have HST3 := Lib.hid hst
              have h11 : (0 : Int) ≤ (j : Int) := Int.natCast_nonneg j
              have h12 : (j : Int) < (rn : Int) := by omega
              have h13 : (j : Int).toNat = j := Int.toNat_natCast j
              have h14 : (0 : Int) ≤ (v : Int) := Int.natCast_nonneg v
              have h15 : (v : Int) < (n : Int) := by omega
              have h16 : (v : Int).toNat = v := Int.toNat_natCast v
              have hw1 : IntKind.i64.wrap ((y : Int) + 1) = (y : Int) + 1 := IntWalk.i64_in _ (by omega)
              have HMI : Hid (Value.int .i64 (min (x : Int) ((y : Int) + 1)) = iV (min x (y + 1))) := Lib.hid (by
                show Value.int .i64 _ = Value.int .i64 _
                congr 1
                omega)
              clear hI hO hv hst hb3 ha3 hx hy
              go_wp2
              go_region
              all_goals
                go_wp2
                go_roundw
                case rel =>
                  rw [HMI.out]
                  exact ⟨j + 1, by omega, by go_num, by rw [HST3.out]; exact HIS.out.only (K := fun _ => False) (Only.refl _ _).drew (fun _ _ hc => hc), HOS.out.drew⟩
                case measure => simp [intOf]; omega
            · have hjn : rn = j := by omega
              subst hjn
              have HFU : Hid (row.take rn = row) := Lib.hid (List.take_of_length_le (by have := HRL.out; omega))
              go_wp2
              go_roundw
              case rel => exact ⟨k + 1, by omega, by go_num, by rw [HST2.out]; rw [HFU.out] at hI; exact hI, hO⟩
              case measure => simp [intOf]; omega
        · have hkn2 : n = k := by omega
          subst hkn2
          go_wp2
          go_roundw
          case rel => exact ⟨r + 1, by omega, by go_num, by rw [HST.out]; exact hI, hO⟩
          case measure => simp [intOf]; omega
    · have hrn2 : n = r := by omega
      subst hrn2
      have HF := Lib.hid (HFR.out wr hO)
      have HIR : Hid (IR wr w.heap.size (.slice (some ⟨g, 0, none⟩) n n) (disG G t)) := Lib.hid (by unfold disG; rw [hlen]; exact hI)
      clear hI hO q0
      go_wp2
      go_ret
      exact ⟨g, rfl, HIR.out, HF.out⟩
end Go.Proofs.YtigmdiagdlbdpaaGreat
