/-
  WALKS. A name looked for among the names in order; a node's name; a list of nodes as names.
-/
import Derived.Test.YtigmdiagdlbdpaaGreatMgk
import Derived.Test.YtigmdiagdlbdpaaGreatGbR
import Derived.Sort.Walk0
namespace Go.Proofs.YtigmdiagdlbdpaaGreat
open Go.RowKit Go.Maps
/-- A slice of strings, read. -/
structure Strz (w : World) (oa : Option Addr) (n : Nat) (l : List Nm) : Prop where
  len : l.length = n
  cell : ∀ k, k < l.length → ∃ b o, oa = some ⟨b, o, none⟩ ∧ w.cell? ⟨b, o + k, none⟩ = some (encStr (nAt l k))
theorem Strz.old {w w' : World} {oa : Option Addr} {n : Nat} {l : List Nm} {K : Nat → Prop} (h : Strz w oa n l) (ho : Only K w w') (hk : ∀ i, i < w.heap.size → ¬ K i) : Strz w' oa n l :=
  ⟨h.len, fun k hl => by
    obtain ⟨b, o, e, hc⟩ := h.cell k hl
    exact ⟨b, o, e, (World.cell?_of_block (ho.block b (cell_lt hc) (hk b (cell_lt hc)))).trans hc⟩⟩
theorem SR.only {w w' : World} {B : Nat} {v : Value} {l : List Nm} {K : Nat → Prop} (h : SR w B v l) (ho : Only K w w') (hk : ∀ g, v.ownBlock = some g → ¬ K g) : SR w' B v l := rowKeep h (fun g hg => ho.block g (World.ownsRow.lt h g hg).2 (hk g hg))
theorem SR.strz {w : World} {B n ca : Nat} {oa : Option Addr} {l : List Nm} (h : SR w B (.slice oa n ca) l) : Strz w oa n l := by
  obtain ⟨oa', ca', hv⟩ := rowForm h
  cases hv
  refine ⟨rfl, fun k hk => ?_⟩
  rcases h.2 with ⟨hv, hn⟩ | ⟨g, cap, cur, hv, hb, hg, hle, hr⟩
  · omega
  · cases hv
    have hc := World.ownsRow.cells h (g := g) rfl k (encStr (nAt l k)) (by rw [List.getElem?_map, List.getElem?_eq_getElem hk, nAt_get hk]; rfl)
    rw [add_plain] at hc
    exact ⟨g, 0, rfl, hc⟩
theorem SR.snoc {w : World} {B : Nat} {v : Value} {ns : List Nm} {s : Nm} (h : w.ownsRow B 9 1 v (ns.length + 1) (ns.map encStr ++ [encStr s])) : SR w B v (ns ++ [s]) := by
  unfold SR
  rw [List.length_append, List.length_singleton, List.map_append]
  exact h
/-- What lies ahead of the place is less, what lies behind is not. -/
def Bsi (l : List Nm) (x : Nm) (i j : Nat) : Prop := (∀ k, k < i → nAt l k < x) ∧ ∀ k, j ≤ k → k < l.length → ¬ nAt l k < x
theorem Bsi.end {l : List Nm} {x : Nm} {i : Nat} (hs : l.Pairwise (· < ·)) (h : Bsi l x i i) (hi : i ≤ l.length) : (x ∈ l ↔ i < l.length ∧ nAt l i = x) ∧ (x ∈ l → nodeP l x = i) := by
  have hd : l.Nodup := hs.imp (fun h e => by subst e; exact List.lt_irrefl _ h)
  have h1 : x ∈ l ↔ i < l.length ∧ nAt l i = x := by
    constructor
    · intro hx
      obtain ⟨k, hk, e⟩ := List.getElem_of_mem hx
      have h2 : ¬ k < i := fun hc => by have := h.1 k hc; rw [nAt_get hk, e] at this; exact List.lt_irrefl _ this
      by_cases h3 : k = i
      · subst h3
        exact ⟨hk, by rw [nAt_get hk, e]⟩
      · exfalso
        have h4 := List.pairwise_iff_getElem.1 hs i k (by omega) hk (by omega)
        rw [e] at h4
        exact h.2 i (Nat.le_refl _) (by omega) (by rw [nAt_get (by omega)]; exact h4)
    · rintro ⟨h2, h3⟩
      rw [← h3, nAt_get h2]
      exact List.getElem_mem h2
  refine ⟨h1, fun hx => ?_⟩
  obtain ⟨h2, h3⟩ := h1.1 hx
  rw [← h3]
  exact nodeP_nAt hd h2
set_option maxRecDepth 100000 in
set_option maxHeartbeats 1000000 in
theorem lessS_p (w : World) (x y : Nm) (r : Bool) (hr : Op.bytesLess x y = r) : Calls Tryz.prog 81 #[encStr x, encStr y] w fun e w' => e = .returned (.bool r) ∧ w' = w := by
  have HR := Lib.hid hr
  clear hr
  go_enter Tryz.func81, Tryz.ntmps81
  go_wp2
  go_ret
  exact ⟨by rw [HR.out]; rfl, rfl⟩
set_option maxRecDepth 100000 in
set_option maxHeartbeats 400000 in
theorem bs_p (w : World) (oa : Option Addr) (n c : Nat) (l : List Nm) (h : Strz w oa n l) (hs : l.Pairwise (· < ·)) (hn : n ≤ 1000000) (x : Nm) : Calls Tryz.prog 70 #[.slice oa n c, encStr x] w fun e w' => ∃ i : Nat, e = .returned (.tuple #[.int .i64 i, .bool (decide (x ∈ l))]) ∧ (x ∈ l → i = nodeP l x) ∧ w' = w := by
  have hl := h.len
  have HS := Lib.hid hs
  have hz0 : Bsi l x 0 n := ⟨fun k hk => absurd hk (Nat.not_lt_zero _), fun k h1 h2 => by omega⟩
  have HZ0 := Lib.hid hz0
  have HC := Lib.hid h
  clear hs hz0 h
  go_enter Tryz.func70, Tryz.ntmps70
  go_wp2
  go_loopw [7, 8] (fun p q wr => ∃ i j : Nat, i ≤ j ∧ j ≤ n ∧ p = .int .i64 i ∧ q = .int .i64 j ∧ Hid (Bsi l x i j) ∧ wr = w) (fun p q _ => (intOf q).toNat - (intOf p).toNat)
  case atStart => exact ⟨0, n, by omega, by omega, rfl, rfl, HZ0, rfl⟩
  case round =>
    obtain ⟨i, j, hij, hj, rfl, rfl, HB, rfl⟩ := hrel
    by_cases hlt : i < j
    · have h1 : (i : Int) < (j : Int) := by omega
      have hmij : i ≤ (i + j) / 2 ∧ (i + j) / 2 < j := by omega
      have hmn : (i + j) / 2 < n := by omega
      have hml : (i + j) / 2 < l.length := by omega
      have h02 : ((i : Int) + (j : Int)) / 2 < (n : Int) := by omega
      have h01 : (0 : Int) ≤ ((i : Int) + (j : Int)) / 2 := by omega
      obtain ⟨b1, o1, e1, c1⟩ := HC.out.cell ((i + j) / 2) hml
      subst e1
      obtain ⟨y, hy⟩ : ∃ y, nAt l ((i + j) / 2) = y := ⟨_, rfl⟩
      rw [hy] at c1
      have HY := Lib.hid hy
      clear hy
      cases hb : Op.bytesLess y x
      · have HNB : Hid (Bsi l x i ((i + j) / 2)) := Lib.hid ⟨HB.out.1, fun k h1 h2 hc => by
          rw [bytesLess_eq] at hb
          have hb' := of_decide_eq_false hb
          rcases Nat.lt_or_ge ((i + j) / 2) k with h3 | h3
          · have h4 := List.pairwise_iff_getElem.1 HS.out ((i + j) / 2) k hml h2 h3
            rw [← nAt_get hml, ← nAt_get h2, HY.out] at h4
            exact hb' (List.lt_trans h4 hc)
          · have h5 : k = (i + j) / 2 := Nat.le_antisymm h3 h1
            rw [h5, HY.out] at hc
            exact hb' hc⟩
        have HLE := Lib.hid (lessS_p wr y x false hb)
        clear hb
        go_wp2_with (go_at_call 81; (refine HLE.out.mono ?_); rintro e w5 ⟨rfl, rfl⟩)
        go_roundw
        case rel => exact ⟨i, (i + j) / 2, by omega, by omega, rfl, by go_num, HNB, trivial⟩
        case measure => simp [intOf]; omega
      · have HNB : Hid (Bsi l x ((i + j) / 2 + 1) j) := Lib.hid ⟨fun k hk => by
          rw [bytesLess_eq] at hb
          have hb' := of_decide_eq_true hb
          rcases Nat.lt_or_ge k ((i + j) / 2) with h3 | h3
          · have h4 := List.pairwise_iff_getElem.1 HS.out k ((i + j) / 2) (by omega) hml h3
            rw [← nAt_get hml, ← nAt_get (by omega), HY.out] at h4
            exact List.lt_trans h4 hb'
          · have h5 : k = (i + j) / 2 := Nat.le_antisymm (Nat.lt_succ_iff.1 hk) h3
            rw [h5, HY.out]
            exact hb', HB.out.2⟩
        have HLE := Lib.hid (lessS_p wr y x true hb)
        clear hb
        go_wp2_with (go_at_call 81; (refine HLE.out.mono ?_); rintro e w5 ⟨rfl, rfl⟩)
        go_roundw
        case rel => exact ⟨(i + j) / 2 + 1, j, by omega, by omega, by go_num, rfl, HNB, trivial⟩
        case measure => simp [intOf]; omega
    · have hji : i = j := by omega
      subst hji
      obtain ⟨hE1, hE2⟩ := HB.out.end HS.out (by omega)
      have HE2 := Lib.hid hE2
      by_cases hin : i < n
      · have hil : i < l.length := by omega
        obtain ⟨b1, o1, e1, c1⟩ := HC.out.cell i hil
        subst e1
        have h01 : (0 : Int) ≤ (i : Int) := Int.natCast_nonneg i
        have h02 : (i : Int) < (n : Int) := by omega
        have h03 : (i : Int).toNat = i := Int.toNat_natCast i
        obtain ⟨y, hy⟩ : ∃ y, nAt l i = y := ⟨_, rfl⟩
        rw [hy] at c1 hE1
        by_cases hyx : y = x
        · subst hyx
          have HT : Hid (decide (y ∈ l) = true) := Lib.hid (decide_eq_true (hE1.2 ⟨hil, rfl⟩))
          clear hE1 hE2 hy
          go_wp2
          refine bodyPost_ret (v := .tuple #[.int .i64 i, .bool true]) (by simp [results, Tryz.results70, go_sem]) rfl ?_
          rw [HT.out]
          exact ⟨i, rfl, fun hx => (HE2.out hx).symm, rfl⟩
        · have HT : Hid (decide (x ∈ l) = false) := Lib.hid (decide_eq_false (fun hx => hyx (hE1.1 hx).2))
          have hne2 : (y == x) = false := by
            rw [beq_eq_false_iff_ne]
            exact hyx
          clear hE1 hE2 hy
          go_wp2
          refine bodyPost_ret (v := .tuple #[.int .i64 i, .bool false]) (by simp [results, Tryz.results70, go_sem]) rfl ?_
          rw [HT.out]
          exact ⟨i, rfl, fun hx => (HE2.out hx).symm, rfl⟩
      · have HT : Hid (decide (x ∈ l) = false) := Lib.hid (decide_eq_false (fun hx => by have := (hE1.1 hx).1; omega))
        have h02 : ¬ (i : Int) < (n : Int) := by omega
        clear hE1 hE2
        go_wp2
        refine bodyPost_ret (v := .tuple #[.int .i64 i, .bool false]) (by simp [results, Tryz.results70, go_sem]) rfl ?_
        rw [HT.out]
        exact ⟨i, rfl, fun hx => (HE2.out hx).symm, rfl⟩
/-- The program's value: the names, the graph. -/
abbrev prV (oN : Option Addr) (n cN : Nat) (oE : Option Addr) (m cE : Nat) : Value := .agg #[.slice oN n cN, .slice oE m cE]
set_option maxRecDepth 100000 in
set_option maxHeartbeats 1000000 in
theorem node_p (w : World) (oN : Option Addr) (n cN : Nat) (oE : Option Addr) (m cE : Nat) (l : List Nm) (h : Strz w oN n l) (hs : l.Pairwise (· < ·)) (hn : n ≤ 1000000) (x : Nm) : Calls Tryz.prog 49 #[prV oN n cN oE m cE, encStr x] w fun e w' => ∃ i : Nat, e = .returned (.tuple #[.int .i64 i, .bool (decide (x ∈ l))]) ∧ (x ∈ l → i = nodeP l x) ∧ Only (fun _ => False) w w' := by
  have hA : Only (fun _ => False) w (w.alloc (.cells #[.slice oN n cN, .slice oE m cE] 51)) := (Only.refl _ _).alloc _
  have HB := Lib.hid (bs_p _ oN n cN l (h.old hA (fun _ _ hc => hc)) hs hn x)
  have HA := Lib.hid hA
  clear h hs hA
  go_enter Tryz.func49, Tryz.ntmps49
  go_wp2_with (go_at_call 70; (refine HB.out.mono ?_); rintro e w5 ⟨i, rfl, hi, rfl⟩; have HI := Lib.hid hi; clear hi)
  refine bodyPost_ret (v := .tuple #[.int .i64 i, .bool (decide (x ∈ l))]) (by simp [results, Tryz.results49, go_sem]) rfl ?_
  exact ⟨i, rfl, HI.out, HA.out⟩
/-- What list hands back. -/
def namesK (l : List Nm) (ns : List Nat) (k : Nat) : List Nm := (ns.take k).map (nAt l)
theorem namesK_succ (l : List Nm) {ns : List Nat} {k : Nat} (hk : k < ns.length) : namesK l ns (k + 1) = namesK l ns k ++ [nAt l (gt ns k)] := by
  unfold namesK
  rw [List.take_succ_eq_append_getElem hk, List.map_append, gt_at hk]
  rfl
theorem namesK_len (l : List Nm) (ns : List Nat) (k : Nat) : (namesK l ns k).length ≤ k := by unfold namesK; rw [List.length_map, List.length_take]; omega
set_option maxRecDepth 100000 in
set_option maxHeartbeats 2000000 in
theorem list_p (w : World) (oN : Option Addr) (n cN : Nat) (oE : Option Addr) (m cE : Nat) (l : List Nm) (h : Strz w oN n l) (on : Option Addr) (k0 ck : Nat) (ns : List Nat) (hns : Ints w on k0 ns) (hlt : ∀ x ∈ ns, x < n) (hn : n ≤ 1000000) (hk0 : k0 ≤ 1000000) : Calls Tryz.prog 25 #[prV oN n cN oE m cE, .slice on k0 ck] w fun e w' => ∃ oa ca, e = .returned (.slice oa k0 ca) ∧ SR w' w.heap.size (.slice oa k0 ca) (ns.map (nAt l)) ∧ Only (fun _ => False) w w' := by
  have hlen := h.len
  have hnl := hns.len
  obtain ⟨i0, hi, hz0, hz1, hz2⟩ := info_parts infoStr
  have s1 : (w.alloc (.cells #[.slice oN n cN, .slice oE m cE] 51)).heap.size = w.heap.size + 1 := by show (Array.push _ _).size = _; rw [Array.size_push]
  have hk1 := new_block w (.cells #[.slice oN n cN, .slice oE m cE] 51)
  have HB : Hid (∀ wx, Only (w.heap.size + 1 ≤ ·) (w.alloc (.cells #[.slice oN n cN, .slice oE m cE] 51)) wx → wx.cell? ⟨w.heap.size, 0, none⟩ = some (.slice oN n cN)) := Lib.hid (fun wx ho => (blk_c ((ho.block w.heap.size (by rw [s1]; omega) (fun hc => by have hc' : w.heap.size + 1 ≤ w.heap.size := hc; omega)).trans hk1) rfl).1)
  have HFR : Hid (∀ wx, Only (w.heap.size + 1 ≤ ·) (w.alloc (.cells #[.slice oN n cN, .slice oE m cE] 51)) wx → Only (fun _ => False) w wx) := Lib.hid (fun wx ho => by
    have h1 := ((Only.refl (w.heap.size ≤ ·) w).alloc (.cells #[.slice oN n cN, .slice oE m cE] 51)).trans (ho.wide (K' := (w.heap.size ≤ ·)) (fun i hi => by have hi' : w.heap.size + 1 ≤ i := hi; show w.heap.size ≤ i; omega))
    exact ⟨h1.os, h1.tape, h1.output, h1.size, fun i hi _ => h1.block i hi (fun hc => by have hc' : w.heap.size ≤ i := hc; omega)⟩)
  have HL := Lib.hid h
  have HN := Lib.hid hns
  have HLT := Lib.hid hlt
  have h0 : SR (w.alloc (.cells #[.slice oN n cN, .slice oE m cE] 51)) (w.heap.size + 1) (.slice none 0 0) (namesK l ns 0) := World.ownsRow_nil _ _ _ _
  clear h hns hlt hk1
  go_enter Tryz.func25, Tryz.ntmps25
  go_wp2
  go_loopw [5, 10] (fun v q wr => ∃ k : Nat, k ≤ k0 ∧ q = .int .i64 k ∧ SR wr (w.heap.size + 1) v (namesK l ns k) ∧ Only (w.heap.size + 1 ≤ ·) (w.alloc (.cells #[.slice oN n cN, .slice oE m cE] 51)) wr) (fun _ q _ => k0 - (intOf q).toNat)
  case atStart => exact ⟨0, by omega, rfl, h0, Only.refl _ _⟩
  case round =>
    clear h0
    obtain ⟨k, hk, rfl, hR, hO⟩ := hrel
    obtain ⟨oR, cR, hv⟩ := rowForm hR
    subst hv
    have hql : (namesK l ns k).length = k := by unfold namesK; rw [List.length_map, List.length_take]; omega
    have hR' : SR wr (w.heap.size + 1) (.slice oR k cR) (namesK l ns k) := by
      have h1 := hR
      rw [hql] at h1
      exact h1
    have HR := Lib.hid hR'
    have HQ := Lib.hid hql
    have HO := Lib.hid hO
    rw [hql]
    have q0 := HB.out wr hO
    have HSZ : Hid (w.heap.size + 1 ≤ wr.heap.size) := Lib.hid (by have := hO.size; omega)
    clear hR hR' hql
    by_cases hlt : k < k0
    · have hkl : k < ns.length := by omega
      obtain ⟨b1, o1, e1, c1⟩ := (HN.out.old (HFR.out wr hO) (fun _ _ hc => hc)).cell k hkl
      subst e1
      have hst := namesK_succ l hkl
      obtain ⟨x, hx⟩ : ∃ x, gt ns k = x := ⟨_, rfl⟩
      rw [hx] at c1 hst
      have hxn : x < n := HLT.out x (by rw [← hx, gt_at hkl]; exact List.getElem_mem hkl)
      obtain ⟨b2, o2, e2, c2⟩ := (HL.out.old (HFR.out wr hO) (fun _ _ hc => hc)).cell x (by omega)
      subst e2
      obtain ⟨y, hy⟩ : ∃ y, nAt l x = y := ⟨_, rfl⟩
      rw [hy] at c2 hst
      have HST := Lib.hid hst
      have h01 : (0 : Int) ≤ (k : Int) := Int.natCast_nonneg k
      have h02 : (k : Int) < (k0 : Int) := by omega
      have h03 : (k : Int).toNat = k := Int.toNat_natCast k
      have h04 : (0 : Int) ≤ (x : Int) := Int.natCast_nonneg x
      have h05 : (x : Int) < (n : Int) := by omega
      have h06 : (x : Int).toNat = x := Int.toNat_natCast x
      clear hx hy hst hO
      go_wp2_with (at_builtin; refine wpList_append_lies _ rfl _ _ 25 rfl (w.heap.size + 1) 9 i0 (.string ⟨#[]⟩) 1 16 Tryz.underlying25 hi hz0 hz1 hz2 rfl (by decide) (.slice oR k cR) k ((namesK l ns k).map encStr) rfl (World.ownsRow.alloc (show wr.ownsRow (w.heap.size + 1) 9 1 (.slice oR k cR) k ((namesK l ns k).map encStr) by have hh := HR.out; unfold SR at hh; rw [HQ.out] at hh; exact hh) _) ⟨wr.heap.size, 0, none⟩ 1 1 [encStr y] rfl rfl (World.news_of_block (new_block wr _)) (fun u hu => by rw [List.mem_singleton.1 hu]; rfl) Nat.one_pos (by unfold maxLen; omega) (by omega) (by show w.heap.size + 1 ≤ (Array.push _ _).size; rw [Array.size_push]; have h3 := HSZ.out; omega) _ rfl ?_; intro g2 cg w12 hown8 hgrow8 hat8 hlt8; have HR8 := Lib.hid (SR.snoc (ns := namesK l ns k) (s := y) (by rw [HQ.out]; exact hown8)); have HO8 := Lib.hid ((HO.out.alloc (.cells #[encStr y] 9)).trans (Only.grown (K := (w.heap.size + 1 ≤ ·)) hgrow8 (fun g hg => (World.ownsRow.lt HR.out g hg).1))); clear hown8 hgrow8 hat8 hlt8)
      go_roundw
      case rel => exact ⟨k + 1, by omega, by go_num, by rw [HST.out]; exact HR8.out, HO8.out⟩
      case measure => simp [intOf]; omega
    · have hkn : k0 = k := by omega
      subst hkn
      have HFI := Lib.hid (HFR.out wr hO)
      have HFN : Hid (namesK l ns k0 = ns.map (nAt l)) := Lib.hid (by unfold namesK; rw [List.take_of_length_le (by omega)])
      clear hO q0
      go_wp2
      go_ret
      refine ⟨oR, cR, rfl, ?_, HFI.out⟩
      rw [← HFN.out]
      exact rowMono HR.out (Nat.le_succ _)
end Go.Proofs.YtigmdiagdlbdpaaGreat
