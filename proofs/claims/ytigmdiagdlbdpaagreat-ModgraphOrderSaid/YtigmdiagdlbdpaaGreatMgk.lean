/-
  WALKS. The program's sets: a map of names or of nodes; its keys in order.
-/
import Derived.Test.YtigmdiagdlbdpaaGreatGbA
import Derived.Test.YtigmdiagdlbdpaaGreatMga
import Derived.Test.YtigmdiagdlbdpaaGreatShelf
import Derived.Maps.Views
import Derived.Maps.OwnOps
import Derived.Maps.OwnSet
import Derived.Maps.Range
import Derived.Maps.RangeWalk
import Derived.StringKeys
import Derived.Sort.KeysCollected
import Derived.Sort.OwnSorted
import Derived.Sort.OwnSortedInts
import Derived.Lib.SlKeysI
namespace Go.Proofs.YtigmdiagdlbdpaaGreat
open Go.RowKit Go.Maps Go.Sort
theorem kS : Keyed Tryz.prog 9 := string_keyed Tryz.underlying9
theorem kI : Keyed Tryz.prog 3 := int_keyed Tryz.underlying3
theorem infoStr : (Tryz.prog.info? 9).map (fun i => (i.zero, i.size, i.bytes)) = some (some (.string ⟨#[]⟩), 1, 16) := by kernel_rfl
/-- A truth value in a box of its own: the walk takes no cases of it. -/
structure BV where
  b : Bool
def mkB (x : BV) : Value := .bool x.b
set_option maxRecDepth 100000 in
theorem elemB {v : Value} {y : DataW Unit × List MemPlace} (h : plainElem Tryz.prog 4 v = some y) : ∃ c, v = mkB c := by
  unfold plainElem at h
  rw [Tryz.underlying4] at h
  split at h
  · rename_i x _
    exact ⟨⟨x⟩, rfl⟩
  · rename_i h1; cases h1
  · rename_i h1; cases h1
  · cases h
/-- Block b is a set of names. -/
def SetS (w : World) (b N : Nat) (U : List Nm) : Prop := ∃ D : DataW Unit, w.ownsMap Tryz.prog 9 (plainElem Tryz.prog 4) b N D ∧ ∀ s, has D (.string s) = U.contains s ∧ ∀ z, D.atKey (.string s) z = if U.contains s then .lit (.bool true) else z
def SetI (w : World) (b N : Nat) (U : List Nat) : Prop := ∃ D : DataW Unit, w.ownsMap Tryz.prog 3 (plainElem Tryz.prog 4) b N D ∧ ∀ x : Int, has D (.int .i64 x) = true ↔ ∃ k ∈ U, x = (k : Nat)
theorem ownsMapS_same {w w' : World} {k : TypeId} {R : Value → Option (DataW Unit × List MemPlace)} {b n : Nat} {D : DataW Unit} (h : w.ownsMap Tryz.prog k R b n D) (hb : w'.heap[b]? = w.heap[b]?) : w'.ownsMap Tryz.prog k R b n D := by
  obtain ⟨es, clock, hh, r⟩ := h
  exact ⟨es, clock, hb.trans hh, r⟩
theorem SetS.lt {w : World} {b N : Nat} {U : List Nm} (h : SetS w b N U) : b < w.heap.size := by obtain ⟨D, h1, -⟩ := h; exact h1.lt
theorem SetI.lt {w : World} {b N : Nat} {U : List Nat} (h : SetI w b N U) : b < w.heap.size := by obtain ⟨D, h1, -⟩ := h; exact h1.lt
theorem SetS.only {w w' : World} {b N : Nat} {U : List Nm} {K : Nat → Prop} (h : SetS w b N U) (ho : Only K w w') (hk : ¬ K b) : SetS w' b N U := by
  obtain ⟨D, h1, h2⟩ := h
  exact ⟨D, ownsMapS_same h1 (ho.block b h1.lt hk), h2⟩
theorem SetI.only {w w' : World} {b N : Nat} {U : List Nat} {K : Nat → Prop} (h : SetI w b N U) (ho : Only K w w') (hk : ¬ K b) : SetI w' b N U := by
  obtain ⟨D, h1, h2⟩ := h
  exact ⟨D, ownsMapS_same h1 (ho.block b h1.lt hk), h2⟩
/-- A row of strings of the call's own. -/
def SR (w : World) (B : Nat) (v : Value) (l : List Nm) : Prop := w.ownsRow B 9 1 v l.length (l.map encStr)
theorem only_grown_iter {w w' : World} {r : Nat} {K : Nat → Prop} (h : w.grownBy w' (some r)) (hk : K r) : Only K w w' := Only.grown h (fun g e => by cases e; exact hk)
set_option maxRecDepth 100000 in
set_option maxHeartbeats 8000000 in
theorem sortedS_p (w : World) (b N : Nat) (U : List Nm) (h : SetS w b N U) (hU : U.Nodup) (hN : N ≤ 1000000) : Calls Tryz.prog 53 #[.map (some b)] w fun e w' => ∃ oa ca, e = .returned (.slice oa U.length ca) ∧ SR w' w.heap.size (.slice oa U.length ca) (U.mergeSort leN) ∧ Only (fun _ => False) w w' := by
  obtain ⟨D, hown, hD⟩ := h
  have hsz := hown.size_le
  have hbl := hown.lt
  obtain ⟨i0, hi, hz0, hz1, hz2⟩ := info_parts infoStr
  have hperm : ∀ ss : List Nm, Collected D (fun _ => false) ss → ss.Perm U := fun ss hC => (List.perm_ext_iff_of_nodup hC.1 hU).2 (fun x => by
    rw [hC.2 x, (hD x).1]
    simp)
  have HP := Lib.hid hperm
  clear hperm hD
  go_enter Tryz.func53, Tryz.ntmps53
  go_wp2_with (at_range; refine wpList_range_own _ rfl _ 81 rfl 9 4 kS Tryz.underlying81 _ b N _ rfl hown ?_; intro w1 hrg1 hg1 hs1)
  have HO1 := Lib.hid (Only.grown (K := (w.heap.size ≤ ·)) hg1 (fun g e => by cases e))
  have HS1 := Lib.hid hs1
  clear hs1 hg1
  go_frame
  go_loopw [3] (fun v wr => ∃ (left : Lit → Bool) (cnt : Nat) (ss : List Nm), wr.ranges Tryz.prog 9 (plainElem Tryz.prog 4) b w.heap.size N D left cnt ∧ ss.length + cnt ≤ Maps.size D ∧ wr.ownsRow (w.heap.size + 1) 9 1 v ss.length (ss.map encStr) ∧ Collected D left ss ∧ Only (w.heap.size ≤ ·) w wr ∧ w.heap.size + 1 ≤ wr.heap.size) (fun _ wr => wr.rangeLeft b w.heap.size)
  case atStart => exact ⟨_, _, [], hrg1, by simp, World.ownsRow_nil _ _ _ _, Collected.start D, HO1.out, by have := HS1.out; omega⟩
  case round =>
    clear hrg1
    obtain ⟨left, cnt, ss, hrg, hcs, hrow, hC, hO, hsw⟩ := hrel
    have HO := Lib.hid hO
    have HSW := Lib.hid hsw
    clear hO hsw
    go_wp2_with (at_next; refine wpList_next_ranges _ rfl _ rfl 9 kS (plainElem Tryz.prog 4) encStr mkB (fun key kl hk => by obtain ⟨x, hx, _⟩ := Maps.keyOf_str Tryz.underlying9 hk; exact ⟨x, hx⟩) (fun v y hv => elemB hv) b w.heap.size N _ _ _ rfl hrg ?_ ?_)
    · intro hc0 hl0
      have hl1 : left = fun _ => false := funext hl0
      rw [hl1] at hC
      have hp := HP.out ss hC
      have hsl := hp.length_eq
      have hms := sort_perm hp
      rcases hrow.2 with ⟨hnil, hz⟩ | ⟨g, cap, cur, hv, hbase, hb, h1, h2, h3, h4⟩
      · subst hnil
        have hU0 : U = [] := List.eq_nil_of_length_eq_zero (by omega)
        subst hU0
        have HON := Lib.hid (show Only (fun _ => False) w wr from ⟨HO.out.os, HO.out.tape, HO.out.output, HO.out.size, fun i hi _ => HO.out.block i hi (fun hc => by have hc' : w.heap.size ≤ i := hc; omega)⟩)
        clear hC hp hms hl1 hl0 hrg hrow
        go_wp2_with (go_at_call 72; (refine (Tryz.slices_Sort_string_none _ _ _).mono ?_); rintro e w' ⟨rfl, rfl⟩)
        go_ret
        exact ⟨none, 0, rfl, by unfold SR; rw [List.mergeSort_nil]; exact World.ownsRow_nil _ _ _ _, HON.out⟩
      · subst hv
        have hH : Holds encStr wr g 0 ss.toArray := holds_of_block hb (by simpa using h4)
        have hgl : g < wr.heap.size := (Array.getElem?_eq_some_iff.1 hb).1
        have hc := Tryz.slices_Sort_string g 0 cap ss wr hH hgl (by omega)
        have HC := Lib.hid hc
        have HFI : Hid (∀ nn os, SR (grow (putRow encStr (Sort.ahead wr nn) g 0 (ss.mergeSort leN).toArray) os) w.heap.size (.slice (some ⟨g, 0, none⟩) U.length cap) (U.mergeSort leN) ∧ Only (fun _ => False) w (grow (putRow encStr (Sort.ahead wr nn) g 0 (ss.mergeSort leN).toArray) os)) := Lib.hid (fun nn os => by
          constructor
          · have h5 := ownsRow_sorted (ss := ss) (ts := ss.mergeSort leN) (os := os) (n := nn) (by simp) hbase hb h1 h2 h3
            have h6 : SR (grow (putRow encStr (Sort.ahead wr nn) g 0 (ss.mergeSort leN).toArray) os) (w.heap.size + 1) (.slice (some ⟨g, 0, none⟩) U.length cap) (U.mergeSort leN) := by
              unfold SR
              rw [← hms, ← hsl, List.length_mergeSort]
              exact h5
            exact rowMono h6 (Nat.le_succ _)
          · have h7 := HO.out.trans (Only.grown (K := (w.heap.size ≤ ·)) (grownBy_sorted (w := wr) (g := g) (n := nn) (os := os) (ss.mergeSort leN).toArray) (fun g' e => by cases e; show w.heap.size ≤ g; omega))
            exact ⟨h7.os, h7.tape, h7.output, h7.size, fun i hi _ => h7.block i hi (fun hc => by have hc' : w.heap.size ≤ i := hc; omega)⟩)
        rw [hsl] at HC
        clear hC hp hms hl1 hl0 hrg hrow hH hc h4 hb
        go_wp2_with (go_at_call 72; (refine HC.out.mono ?_); rintro e w' ⟨rfl, nn, os, rfl⟩)
        go_ret
        exact ⟨_, cap, rfl, (HFI.out nn os).1, (HFI.out nn os).2⟩
    · intro x c kl yd yp w2 cnt2 hkey hlk hv hat hrg2 hlt hg2 hs2 hen
      obtain ⟨x', ex, rfl, _⟩ := Maps.keyOf_str Tryz.underlying9 hkey
      obtain rfl : x = x' := encStr_inj ex
      have hrow2 := hrow.kept hg2 (Or.inr (row_ne_iter hrow hrg).symm)
      have HO2 := Lib.hid (HO.out.trans (Only.grown (K := (w.heap.size ≤ ·)) hg2 (fun g e => by cases e; exact Nat.le_refl _)))
      have hw2 : wr.heap.size ≤ w2.heap.size := hg2.size
      have HW2 := Lib.hid hw2
      clear hs2 hw2
      have hcs2 : ss.length + 1 ≤ size D := by omega
      have HCS := Lib.hid (show ss.length + 1 + cnt2 ≤ size D by omega)
      have HST := Lib.hid (hC.step hlk hat)
      have HRL := Lib.hid (show cnt2 < cnt from hlt)
      go_wp2_with (at_builtin; refine wpList_append_lies _ rfl _ _ 25 rfl (w.heap.size + 1) 9 i0 (.string ⟨#[]⟩) 1 16 Tryz.underlying25 hi hz0 hz1 hz2 rfl (by decide) u3 ss.length (ss.map encStr) rfl (World.ownsRow.alloc hrow2 _) ⟨w2.heap.size, 0, none⟩ 1 1 [encStr x] rfl rfl (World.news_of_block (new_block w2 _)) (fun u hu => by rw [List.mem_singleton.1 hu]; rfl) Nat.one_pos (by unfold maxLen; omega) (by omega) (by show w.heap.size + 1 ≤ (Array.push _ _).size; rw [Array.size_push]; have h3 := HSW.out; have h4 := HW2.out; omega) _ rfl ?_; intro g2 cg w12 hown8 hgrow8 hat8 hlt8)
      have hrg3 := (hrg2.alloc _).kept hgrow8 (row_ne_low hrow2 (Nat.lt_succ_of_lt hbl)) (row_ne_iter hrow2 hrg2)
      have hO3 := (HO2.out.alloc (.cells #[encStr x] 9)).trans (Only.grown (K := (w.heap.size ≤ ·)) hgrow8 (fun g hg => by have h1 := (World.ownsRow.lt hrow2 g hg).1; show w.heap.size ≤ g; omega))
      have hS3 : w.heap.size + 1 ≤ w12.heap.size := by
        have h3 : (w2.alloc (.cells #[encStr x] 9)).heap.size ≤ w12.heap.size := hgrow8.size
        have h4 := HSW.out
        have h5 := HW2.out
        have h6 : (w2.alloc (.cells #[encStr x] 9)).heap.size = w2.heap.size + 1 := by show (Array.push _ _).size = _; rw [Array.size_push]
        omega
      go_roundw
      case rel => exact ⟨_, cnt2, ss ++ [x], hrg3, by rw [List.length_append]; exact HCS.out, by simpa using hown8, HST.out, hO3, hS3⟩
      case measure => rw [hrg3.left_eq, hrg.left_eq]; exact HRL.out
theorem sortI_eq {ss : List Int} (hnd : ss.Nodup) {U : List Nat} {m : Nat} (hm : ∀ k ∈ U, k < m) (h : ∀ x, x ∈ ss ↔ ∃ k ∈ U, x = (k : Nat)) : ss.mergeSort (fun x y => decide (x ≤ y)) = ((List.range m).filter (fun j => U.contains j)).map (fun (x : Nat) => (x : Int)) := by
  have tr : ∀ a b c : Int, decide (a ≤ b) = true → decide (b ≤ c) = true → decide (a ≤ c) = true := fun a b c h1 h2 => by simp only [decide_eq_true_eq] at *; omega
  have to : ∀ a b : Int, (decide (a ≤ b) || decide (b ≤ a)) = true := fun a b => by simp only [Bool.or_eq_true, decide_eq_true_eq]; omega
  have hs : (((List.range m).filter (fun j => U.contains j)).map (fun (x : Nat) => (x : Int))).Pairwise (· < ·) := by
    rw [List.pairwise_map]
    exact (List.pairwise_lt_range.filter _).imp (fun h => by omega)
  refine List.Perm.eq_of_pairwise (le := fun a b => decide (a ≤ b) = true) (fun a b _ _ h1 h2 => ?_) (List.pairwise_mergeSort tr to ss) (hs.imp (fun h => by simp only [decide_eq_true_eq]; omega)) ((List.mergeSort_perm ss _).trans ((List.perm_ext_iff_of_nodup hnd (hs.imp (fun h => by omega))).2 (fun x => ?_)))
  · simp only [decide_eq_true_eq] at h1 h2
    omega
  · rw [h, List.mem_map]
    constructor
    · rintro ⟨k, hk, rfl⟩
      exact ⟨k, List.mem_filter.2 ⟨List.mem_range.2 (hm k hk), List.contains_iff_mem.2 hk⟩, rfl⟩
    · rintro ⟨k, hk, rfl⟩
      exact ⟨k, List.contains_iff_mem.1 (List.mem_filter.1 hk).2, rfl⟩
theorem mapIV (l : List Nat) : (l.map (fun (x : Nat) => (x : Int))).map (Value.int .i64) = l.map iV := by rw [List.map_map]; rfl
/-- What a set of nodes below m is in order. -/
def ordS (U : List Nat) (m : Nat) : List Nat := (List.range m).filter (fun j => U.contains j)
set_option maxRecDepth 100000 in
set_option maxHeartbeats 8000000 in
theorem sortedI_p (w : World) (b N : Nat) (U : List Nat) (m : Nat) (h : SetI w b N U) (hm : ∀ k ∈ U, k < m) (hN : N ≤ 1000000) : Calls Tryz.prog 54 #[.map (some b)] w fun e w' => ∃ oa ca, e = .returned (.slice oa (ordS U m).length ca) ∧ IR w' w.heap.size (.slice oa (ordS U m).length ca) (ordS U m) ∧ Only (fun _ => False) w w' := by
  obtain ⟨D, hown, hD⟩ := h
  have hsz := hown.size_le
  have hbl := hown.lt
  obtain ⟨i0, hi, hz0, hz1, hz2⟩ := info_parts infoInt
  have hsort : ∀ ss : List Int, CollectedI D (fun _ => false) ss → ss.mergeSort (fun x y => decide (x ≤ y)) = (ordS U m).map (fun (x : Nat) => (x : Int)) := fun ss hC => sortI_eq hC.1 hm (fun x => by
    rw [hC.2 x, hD x]
    simp)
  have HP := Lib.hid hsort
  clear hsort hD
  go_enter Tryz.func54, Tryz.ntmps54
  go_wp2_with (at_range; refine wpList_range_own _ rfl _ 84 rfl 3 4 kI Tryz.underlying84 _ b N _ rfl hown ?_; intro w1 hrg1 hg1 hs1)
  have HO1 := Lib.hid (Only.grown (K := (w.heap.size ≤ ·)) hg1 (fun g e => by cases e))
  have HS1 := Lib.hid hs1
  clear hs1 hg1
  go_frame
  go_loopw [3] (fun v wr => ∃ (left : Lit → Bool) (cnt : Nat) (ss : List Int), wr.ranges Tryz.prog 3 (plainElem Tryz.prog 4) b w.heap.size N D left cnt ∧ ss.length + cnt ≤ Maps.size D ∧ wr.ownsRow (w.heap.size + 1) 3 1 v ss.length (ss.map (Value.int .i64)) ∧ CollectedI D left ss ∧ Only (w.heap.size ≤ ·) w wr ∧ w.heap.size + 1 ≤ wr.heap.size) (fun _ wr => wr.rangeLeft b w.heap.size)
  case atStart => exact ⟨_, _, [], hrg1, by simp, World.ownsRow_nil _ _ _ _, CollectedI.start D, HO1.out, by have := HS1.out; omega⟩
  case round =>
    clear hrg1
    obtain ⟨left, cnt, ss, hrg, hcs, hrow, hC, hO, hsw⟩ := hrel
    have HO := Lib.hid hO
    have HSW := Lib.hid hsw
    clear hO hsw
    go_wp2_with (at_next; refine wpList_next_ranges _ rfl _ rfl 3 kI (plainElem Tryz.prog 4) (Value.int .i64) mkB (fun key kl hk => by obtain ⟨x, hx, _⟩ := Maps.keyOf_int_inv Tryz.underlying3 hk; exact ⟨x, hx⟩) (fun v y hv => elemB hv) b w.heap.size N _ _ _ rfl hrg ?_ ?_)
    · intro hc0 hl0
      have hl1 : left = fun _ => false := funext hl0
      rw [hl1] at hC
      have hms := HP.out ss hC
      have hsl : ss.length = (ordS U m).length := by
        have h1 := congrArg List.length hms
        rw [List.length_mergeSort, List.length_map] at h1
        exact h1
      rcases hrow.2 with ⟨hnil, hz⟩ | ⟨g, cap, cur, hv, hbase, hb, h1, h2, h3, h4⟩
      · subst hnil
        have hU0 : ordS U m = [] := List.eq_nil_of_length_eq_zero (by omega)
        have HU0 := Lib.hid hU0
        have HON := Lib.hid (show Only (fun _ => False) w wr from ⟨HO.out.os, HO.out.tape, HO.out.output, HO.out.size, fun i hi _ => HO.out.block i hi (fun hc => by have hc' : w.heap.size ≤ i := hc; omega)⟩)
        clear hC hms hl1 hl0 hrg hrow hU0 hsl
        go_wp2_with (go_at_call 73; (refine (Tryz.slices_Sort_int_none _ _ _).mono ?_); rintro e w' ⟨rfl, rfl⟩)
        go_ret
        rw [HU0.out]
        exact ⟨none, 0, rfl, World.ownsRow_nil _ _ _ _, HON.out⟩
      · subst hv
        have hH : Holds (Value.int .i64) wr g 0 ss.toArray := holds_of_blockI hb (by simpa using h4)
        have hgl : g < wr.heap.size := (Array.getElem?_eq_some_iff.1 hb).1
        have hc := Tryz.slices_Sort_int g 0 cap ss wr hH hgl (by omega)
        have HFI : Hid (∀ nn os, IR (grow (putRow (Value.int .i64) (Sort.ahead wr nn) g 0 (ss.mergeSort (fun x y => decide (x ≤ y))).toArray) os) w.heap.size (.slice (some ⟨g, 0, none⟩) (ordS U m).length cap) (ordS U m) ∧ Only (fun _ => False) w (grow (putRow (Value.int .i64) (Sort.ahead wr nn) g 0 (ss.mergeSort (fun x y => decide (x ≤ y))).toArray) os)) := Lib.hid (fun nn os => by
          constructor
          · have h5 := ownsRow_sortedI (ss := ss) (ts := ss.mergeSort (fun x y => decide (x ≤ y))) (os := os) (n := nn) (by simp) hbase hb h1 h2 h3
            have h6 : IR (grow (putRow (Value.int .i64) (Sort.ahead wr nn) g 0 (ss.mergeSort (fun x y => decide (x ≤ y))).toArray) os) (w.heap.size + 1) (.slice (some ⟨g, 0, none⟩) (ordS U m).length cap) (ordS U m) := by
              unfold IR
              rw [← mapIV, ← hms, ← hsl]
              exact h5
            exact rowMono h6 (Nat.le_succ _)
          · have h7 := HO.out.trans (Only.grown (K := (w.heap.size ≤ ·)) (grownBy_sortedI (w := wr) (g := g) (n := nn) (os := os) (ss.mergeSort (fun x y => decide (x ≤ y))).toArray) (fun g' e => by cases e; show w.heap.size ≤ g; omega))
            exact ⟨h7.os, h7.tape, h7.output, h7.size, fun i hi _ => h7.block i hi (fun hc => by have hc' : w.heap.size ≤ i := hc; omega)⟩)
        rw [hsl] at hc
        have HC := Lib.hid hc
        clear hC hms hl1 hl0 hrg hrow hH hc h4 hb
        go_wp2_with (go_at_call 73; (refine HC.out.mono ?_); rintro e w' ⟨rfl, nn, os, rfl⟩)
        go_ret
        exact ⟨_, cap, rfl, (HFI.out nn os).1, (HFI.out nn os).2⟩
    · intro x c kl yd yp w2 cnt2 hkey hlk hv hat hrg2 hlt hg2 hs2 hen
      obtain ⟨x', ex, rfl, _⟩ := Maps.keyOf_int_inv Tryz.underlying3 hkey
      obtain rfl : x = x' := by simpa using ex
      have hrow2 := hrow.kept hg2 (Or.inr (row_ne_iter hrow hrg).symm)
      have HO2 := Lib.hid (HO.out.trans (Only.grown (K := (w.heap.size ≤ ·)) hg2 (fun g e => by cases e; exact Nat.le_refl _)))
      have hw2 : wr.heap.size ≤ w2.heap.size := hg2.size
      have HW2 := Lib.hid hw2
      clear hs2 hw2
      have hcs2 : ss.length + 1 ≤ size D := by omega
      have HCS := Lib.hid (show ss.length + 1 + cnt2 ≤ size D by omega)
      have HST := Lib.hid (hC.step hlk hat)
      have HRL := Lib.hid (show cnt2 < cnt from hlt)
      go_wp2_with (at_builtin; refine wpList_append_lies _ rfl _ _ 55 rfl (w.heap.size + 1) 3 i0 (.int .i64 0) 1 8 Tryz.underlying55 hi hz0 hz1 hz2 rfl (by decide) u3 ss.length (ss.map (Value.int .i64)) rfl (World.ownsRow.alloc hrow2 _) ⟨w2.heap.size, 0, none⟩ 1 1 [.int .i64 x] rfl rfl (World.news_of_block (new_block w2 _)) (fun u hu => by rw [List.mem_singleton.1 hu]; rfl) Nat.one_pos (by unfold maxLen; omega) (by omega) (by show w.heap.size + 1 ≤ (Array.push _ _).size; rw [Array.size_push]; have h3 := HSW.out; have h4 := HW2.out; omega) _ rfl ?_; intro g2 cg w12 hown8 hgrow8 hat8 hlt8)
      have hrg3 := (hrg2.alloc _).kept hgrow8 (row_ne_low hrow2 (Nat.lt_succ_of_lt hbl)) (row_ne_iter hrow2 hrg2)
      have hO3 := (HO2.out.alloc (.cells #[.int .i64 x] 3)).trans (Only.grown (K := (w.heap.size ≤ ·)) hgrow8 (fun g hg => by have h1 := (World.ownsRow.lt hrow2 g hg).1; show w.heap.size ≤ g; omega))
      have hS3 : w.heap.size + 1 ≤ w12.heap.size := by
        have h3 : (w2.alloc (.cells #[.int .i64 x] 3)).heap.size ≤ w12.heap.size := hgrow8.size
        have h4 := HSW.out
        have h5 := HW2.out
        have h6 : (w2.alloc (.cells #[.int .i64 x] 3)).heap.size = w2.heap.size + 1 := by show (Array.push _ _).size = _; rw [Array.size_push]
        omega
      go_roundw
      case rel => exact ⟨_, cnt2, ss ++ [x], hrg3, by rw [List.length_append]; exact HCS.out, by simpa using hown8, HST.out, hO3, hS3⟩
      case measure => rw [hrg3.left_eq, hrg.left_eq]; exact HRL.out
end Go.Proofs.YtigmdiagdlbdpaaGreat
