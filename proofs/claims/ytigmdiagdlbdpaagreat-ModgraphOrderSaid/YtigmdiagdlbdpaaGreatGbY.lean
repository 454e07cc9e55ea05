/-
  WALKS. The graph: Cyclic.
-/
import Derived.Test.YtigmdiagdlbdpaaGreatGbP
import Derived.Test.YtigmdiagdlbdpaaGreatGbX
import Derived.Test.YtigmdiagdlbdpaaGreatGbQ
namespace Go.Proofs.YtigmdiagdlbdpaaGreat
open Go.RowKit Go.Maps
abbrev fnV (bN bI : Nat) : Value := .func (.func 75) #[] #[.pointer (some ⟨bN, 0, none⟩), .pointer (some ⟨bI, 0, none⟩)]
/-- The closure's variables: the numbers, the node. -/
structure CB (w : World) (bN bI : Nat) (oN : Option Addr) (n cN u : Nat) (N : List Nat) : Prop where
  cn : w.cell? ⟨bN, 0, none⟩ = some (.slice oN n cN)
  ci : w.cell? ⟨bI, 0, none⟩ = some (iV u)
  nu : Ints w oN n N
  lt : u < n
theorem CB.old {w w' : World} {bN bI : Nat} {oN : Option Addr} {n cN u : Nat} {N : List Nat} (h : CB w bN bI oN n cN u N) (ho : Only (fun _ => False) w w') : CB w' bN bI oN n cN u N :=
  ⟨(World.cell?_of_block (ho.block bN (cell_lt h.cn) (fun hc => hc))).trans h.cn, (World.cell?_of_block (ho.block bI (cell_lt h.ci) (fun hc => hc))).trans h.ci, h.nu.old ho (fun _ _ hc => hc), h.lt⟩
section
variable {w : World} {bN bI : Nat} {oN : Option Addr} {n cN u : Nat} {N : List Nat}
set_option maxRecDepth 100000 in
set_option maxHeartbeats 4000000 in
theorem fn_p (h : CB w bN bI oN n cN u N) (v : Nat) (hv : v < n) (r : Bool) (hr : (gt N v == gt N u) = r) : Calls Tryz.prog 75 #[iV v, .pointer (some ⟨bN, 0, none⟩), .pointer (some ⟨bI, 0, none⟩)] w fun e w' => e = .returned (.bool r) ∧ Only (fun _ => False) w w' := by
  have hl := h.nu.len
  have hu := h.lt
  obtain ⟨b1, o1, e1, c1⟩ := h.nu.cell v (by omega)
  obtain ⟨b2, o2, e2, c2⟩ := h.nu.cell u (by omega)
  have k1 := h.cn
  have k2 := h.ci
  subst e1
  cases e2
  have h01 : (0 : Int) ≤ (v : Int) := Int.natCast_nonneg v
  have h02 : (v : Int) < (n : Int) := by omega
  have h03 : (v : Int).toNat = v := Int.toNat_natCast v
  have h04 : (0 : Int) ≤ (u : Int) := Int.natCast_nonneg u
  have h05 : (u : Int) < (n : Int) := by omega
  have h06 : (u : Int).toNat = u := Int.toNat_natCast u
  obtain ⟨x, hx⟩ : ∃ x, gt N v = x := ⟨_, rfl⟩
  obtain ⟨y, hy⟩ : ∃ y, gt N u = y := ⟨_, rfl⟩
  rw [hx] at c1
  rw [hy] at c2
  rw [hx, hy] at hr
  have hr2 : ((x : Int) == (y : Int)) = r := by
    rw [← hr]
    by_cases e : x = y
    · subst e; simp
    · rw [show (x == y) = false by simp [e]]
      simp
      omega
  have HR := Lib.hid hr2
  clear hx hy hr hr2 h hl
  go_enter Tryz.func75, Tryz.ntmps75
  go_wp2
  go_quiet (fail)
  all_goals
    go_wp2
    go_ret
    exact ⟨by rw [← HR.out]; rfl, only_drewN _ _⟩
def anyK (N : List Nat) (u : Nat) (l : List Nat) (k : Nat) : Prop := ∀ i, i < k → (gt N (gt l i) == gt N u) = false
theorem anyK_step {l : List Nat} {k : Nat} (h : anyK N u l k) (hk : (gt N (gt l k) == gt N u) = false) : anyK N u l (k + 1) := fun i hi => by
  by_cases e : i = k
  · rw [e]; exact hk
  · exact h i (by omega)
theorem anyK_all {l : List Nat} (h : anyK N u l l.length) : l.any (fun v => gt N v == gt N u) = false := by
  rw [List.any_eq_false]
  intro v hv
  obtain ⟨i, hi, e⟩ := List.getElem_of_mem hv
  have := h i hi
  rw [gt_at hi, e] at this
  rw [this]
  exact Bool.false_ne_true
theorem anyK_yes {l : List Nat} {k : Nat} (hk : k < l.length) (h : (gt N (gt l k) == gt N u) = true) : l.any (fun v => gt N v == gt N u) = true := by
  rw [List.any_eq_true]
  exact ⟨l[k], List.getElem_mem hk, by rw [← gt_at hk]; exact h⟩
set_option maxRecDepth 100000 in
set_option maxHeartbeats 8000000 in
theorem IndexFunc_p (h : CB w bN bI oN n cN u N) (ra : Option Addr) (rn rc : Nat) (l : List Nat) (hl : Ints w ra rn l) (hln : ∀ x ∈ l, x < n) (hrn : rn ≤ 1000000000) : Calls Tryz.prog 71 #[.slice ra rn rc, fnV bN bI] w fun e w' => (∃ j : Int, e = .returned (.int .i64 j) ∧ decide (0 ≤ j) = l.any (fun v => gt N v == gt N u)) ∧ Only (fun _ => False) w w' := by
  have hlen := hl.len
  have HC := Lib.hid h
  have HLN := Lib.hid hln
  clear h hln
  go_enter Tryz.func71, Tryz.ntmps71
  go_wp2
  go_loopw [8] (fun q wr => ∃ k : Nat, k ≤ rn ∧ q = .int .i64 k ∧ Hid (anyK N u l k) ∧ Only (fun _ => False) w wr) (fun q _ => rn - (intOf q).toNat)
  case atStart => exact ⟨0, by omega, rfl, Lib.hid (fun i hi => absurd hi (Nat.not_lt_zero _)), Only.refl _ _⟩
  case round =>
    obtain ⟨k, hk, rfl, HK, hO⟩ := hrel
    by_cases hlt : k < rn
    · have hkl : k < l.length := by omega
      obtain ⟨b1, o1, e1, c1⟩ := (hl.old hO (fun _ _ hc => hc)).cell k hkl
      subst e1
      have h01 : (0 : Int) ≤ (k : Int) := Int.natCast_nonneg k
      have h02 : (k : Int) < (rn : Int) := by omega
      have h03 : (k : Int).toNat = k := Int.toNat_natCast k
      obtain ⟨y, hy⟩ : ∃ y, gt l k = y := ⟨_, rfl⟩
      rw [hy] at c1
      have hyn : y < n := HLN.out y (by rw [← hy, gt_at hkl]; exact List.getElem_mem hkl)
      have HY := Lib.hid hy
      have HW := Lib.hid (HC.out.old hO)
      clear hy
      cases hb : (gt N y == gt N u)
      · have HN := Lib.hid (anyK_step HK.out (by rw [HY.out]; exact hb))
        have HB := Lib.hid hb
        clear hb
        go_wp2_with (go_at_call 75; (refine (fn_p HW.out y hyn false HB.out).mono ?_); rintro e w5 ⟨rfl, hO5⟩)
        go_roundw
        case rel => exact ⟨k + 1, by omega, by go_num, HN, hO.trans hO5⟩
        case measure => simp [intOf]; omega
      · have HT := Lib.hid (anyK_yes hkl (by rw [HY.out]; exact hb) : l.any (fun v => gt N v == gt N u) = true)
        have HB := Lib.hid hb
        clear hb
        go_wp2_with (go_at_call 75; (refine (fn_p HW.out y hyn true HB.out).mono ?_); rintro e w5 ⟨rfl, hO5⟩)
        go_ret
        exact ⟨⟨(k : Int), rfl, by rw [HT.out]; exact decide_eq_true h01⟩, hO.trans hO5⟩
    · have HF := Lib.hid (by have := HK.out; rw [show k = l.length by omega] at this; exact anyK_all this : l.any (fun v => gt N v == gt N u) = false)
      go_wp2
      go_ret
      exact ⟨⟨-1, rfl, by rw [HF.out]; rfl⟩, hO⟩
set_option maxRecDepth 100000 in
set_option maxHeartbeats 8000000 in
theorem ContainsFunc_p (h : CB w bN bI oN n cN u N) (ra : Option Addr) (rn rc : Nat) (l : List Nat) (hl : Ints w ra rn l) (hln : ∀ x ∈ l, x < n) (hrn : rn ≤ 1000000000) (r : Bool) (hr : l.any (fun v => gt N v == gt N u) = r) : Calls Tryz.prog 74 #[.slice ra rn rc, fnV bN bI] w fun e w' => e = .returned (.bool r) ∧ Only (fun _ => False) w w' := by
  have HR := Lib.hid hr
  have HP := Lib.hid (IndexFunc_p h ra rn rc l hl hln hrn)
  clear hr h hln
  go_enter Tryz.func74, Tryz.ntmps74
  go_wp2_with (go_at_call 71; (refine HP.out.mono ?_); rintro e w5 ⟨⟨j, rfl, hj⟩, hO5⟩; have HJ := Lib.hid (hj.trans HR.out); clear hj)
  go_ret
  exact ⟨by rw [HJ.out]; rfl, hO5⟩
end
def cyclicE (E : List (List Int)) (i : Int) : Bool := validE E && (okN E.length i && (lat (natE E) i.toNat).any (fun v => gt (numbersS (natE E) [i.toNat]) v == gt (numbersS (natE E) [i.toNat]) i.toNat))
set_option maxRecDepth 100000 in
set_option maxHeartbeats 8000000 in
theorem Cyclic_p (w : World) (oE : Option Addr) (n cE : Nat) (E : List (List Int)) (i : Int) (h : Edz w oE n E) (hn : n ≤ 1000000) (hr : ∀ l ∈ E, l.length ≤ 1000000) : Calls Tryz.prog 55 #[.agg #[.slice oE n cE], .int .i64 i] w fun e w' => e = .returned (.bool (cyclicE E i)) ∧ Only (fun _ => False) w w' := by
  have hlen := h.len
  have hn9 : n ≤ 1000000000 := by omega
  have hr9 : ∀ l ∈ E, l.length ≤ 1000000000 := fun l hl => by have := hr l hl; omega
  have hA : Only (fun _ => False) w ((w.alloc (.cells #[.slice oE n cE] 49)).alloc (.cells #[.int .i64 i] 3)) := ((Only.refl _ _).alloc _).alloc _
  have hEA := h.keep hA
  have s1 : (w.alloc (.cells #[.slice oE n cE] 49)).heap.size = w.heap.size + 1 := by show (Array.push _ _).size = _; rw [Array.size_push]
  have hk0 : ((w.alloc (.cells #[.slice oE n cE] 49)).alloc (.cells #[.int .i64 i] 3)).heap[w.heap.size]? = some (.cells #[.slice oE n cE] 49) := ((Only.refl (fun _ => False) (w.alloc (.cells #[.slice oE n cE] 49))).alloc (.cells #[.int .i64 i] 3)).block w.heap.size (by rw [s1]; omega) (fun hc => hc) |>.trans (new_block w _)
  have hk1 : ((w.alloc (.cells #[.slice oE n cE] 49)).alloc (.cells #[.int .i64 i] 3)).heap[w.heap.size + 1]? = some (.cells #[.int .i64 i] 3) := new_at _ s1
  have HB : Hid (∀ w', Only (fun _ => False) ((w.alloc (.cells #[.slice oE n cE] 49)).alloc (.cells #[.int .i64 i] 3)) w' → w'.cell? ⟨w.heap.size, 0, none⟩ = some (.slice oE n cE) ∧ w'.cell? ⟨w.heap.size + 1, 0, none⟩ = some (.int .i64 i)) := Lib.hid (fun w' ho => ⟨(blk_c ((ho.block w.heap.size (lt_of_block hk0) (fun hc => hc)).trans hk0) rfl).1, (blk_c ((ho.block (w.heap.size + 1) (lt_of_block hk1) (fun hc => hc)).trans hk1) rfl).1⟩)
  clear hk0 hk1 s1
  cases hv : validE E
  · have HR : Hid (cyclicE E i = false) := Lib.hid (by unfold cyclicE; rw [hv]; rfl)
    have HV := Lib.hid hv
    clear hv
    go_enter Tryz.func55, Tryz.ntmps55
    go_wp2_with (go_at_call 44; (refine (isValid_p _ oE n cE E hEA hn9 hr9).mono ?_); rintro e w5 ⟨rfl, hO5⟩; have q5 := (HB.out _ hO5).1; have r5 := (HB.out _ hO5).2; have hv := HV.out)
    go_ret
    rw [HR.out]
    exact ⟨rfl, hA.trans hO5⟩
  · cases hok : okN n i
    · have HR : Hid (cyclicE E i = false) := Lib.hid (by unfold cyclicE; rw [hlen, hok, hv]; rfl)
      have HV := Lib.hid hv
      have HK := Lib.hid hok
      clear hv hok
      go_enter Tryz.func55, Tryz.ntmps55
      go_wp2_with (first | (go_at_call 44; (refine (isValid_p _ oE n cE E hEA hn9 hr9).mono ?_); rintro e w5 ⟨rfl, hO5⟩; have q5 := (HB.out _ hO5).1; have r5 := (HB.out _ hO5).2; have hv := HV.out) | (go_at_call 58; (refine (isNode_p _ oE n cE i false HK.out).mono ?_); rintro e w6 ⟨rfl, hO6⟩))
      go_ret
      rw [HR.out]
      exact ⟨rfl, hA.trans (hO5.trans hO6)⟩
    · have hG1 := hEA.edg hv
      have hG2 := valid_G hv
      have hG3 := natE_len E
      have hG4 := nat_deg hr
      have hRR : cyclicE E i = (lat (natE E) i.toNat).any (fun v => gt (numbersS (natE E) [i.toNat]) v == gt (numbersS (natE E) [i.toNat]) i.toNat) := by unfold cyclicE; rw [hlen, hv, hok]; rfl
      obtain ⟨u, hu⟩ : ∃ u : Nat, i = (u : Int) := ⟨i.toNat, by unfold okN at hok; simp at hok; omega⟩
      subst hu
      have hun : u < n := by unfold okN at hok; simp at hok; omega
      rw [Int.toNat_natCast] at hRR
      have hGn : (natE E).length = n := by rw [hG3, hlen]
      obtain ⟨G, hG⟩ : ∃ G, natE E = G := ⟨_, rfl⟩
      rw [hG] at hG1 hG2 hG4 hGn hRR
      obtain ⟨N, hN⟩ : ∃ N, numbersS G [u] = N := ⟨_, rfl⟩
      have hlu : ∀ v ∈ [u], v < G.length := by intro v hv; rw [List.mem_singleton.1 hv, hGn]; exact hun
      have hNl : N.length = n := by rw [← hN, numbersS_len hG2 [u] hlu, hGn]
      rw [hN] at hRR
      obtain ⟨r, hrr⟩ : ∃ r, (lat G u).any (fun v => gt N v == gt N u) = r := ⟨_, rfl⟩
      rw [hrr] at hRR
      obtain ⟨bG, oG, ra, rn, rc, hoE, hcG, hiG⟩ := hG1.at (k := u) (by rw [hGn]; exact hun)
      have hrn : rn ≤ 1000000000 := by have h1 := hG4 u; unfold degG at h1; have h2 := hiG.len; unfold lat at h2; omega
      have hmem : ∀ x ∈ lat G u, x < n := fun x hx => by
        obtain ⟨k, hk, e⟩ := List.getElem_of_mem hx
        have := hG2 u k x (by unfold nx; exact List.getElem?_eq_some_iff.2 ⟨hk, e⟩)
        rw [hGn] at this; exact this
      have HV := Lib.hid hv
      have HK := Lib.hid hok
      have HR := Lib.hid hRR
      have HRR := Lib.hid hrr
      have HG1 := Lib.hid hG1
      have HG2 := Lib.hid hG2
      have HG4 := Lib.hid hG4
      have HGn := Lib.hid hGn
      have HN := Lib.hid hN
      have HNL := Lib.hid hNl
      have HM := Lib.hid hmem
      have HIG := Lib.hid hiG
      have HCG : Hid (∀ w', Only (fun _ => False) ((w.alloc (.cells #[.slice oE n cE] 49)).alloc (.cells #[iV u] 3)) w' → w'.cell? ⟨bG, oG + u, none⟩ = some (.slice ra rn rc)) := Lib.hid (fun w' ho => (World.cell?_of_block (ho.block bG (cell_lt hcG) (fun hc => hc))).trans hcG)
      clear hv hok hRR hrr hG3 hG hG1 hG2 hG4 hGn hN hNl hmem hiG hcG
      have hNP : ∀ wx, Only (fun _ => False) ((w.alloc (.cells #[.slice oE n cE] 49)).alloc (.cells #[iV u] 3)) wx → Calls Tryz.prog 46 #[.agg #[.slice oE n cE], .slice (some ⟨wx.heap.size, 0, none⟩) 1 1] (wx.alloc (.cells #[iV u] 3)) fun e w' => ∃ oN cN, e = .returned (.slice oN n cN) ∧ Ints w' oN n N ∧ Only (fun _ => False) (wx.alloc (.cells #[iV u] 3)) w' := fun wx ho => by
        have h1 : Edg (wx.alloc (.cells #[iV u] 3)) oE G.length G := by rw [HGn.out]; exact (HG1.out.old ho (fun _ _ hc => hc)).old ((Only.refl (fun _ => False) _).alloc _) (fun _ _ hc => hc)
        have h2 : Ints (wx.alloc (.cells #[iV u] 3)) (some ⟨wx.heap.size, 0, none⟩) 1 [u] := ⟨rfl, fun k hk => ⟨_, _, rfl, by
          have hk0 : k = 0 := by have : k < 1 := hk; omega
          subst hk0
          exact (blk_c (k := 0) (new_block wx _) rfl).1⟩⟩
        have h3 := numbers_p _ oE cE G (some ⟨wx.heap.size, 0, none⟩) 1 1 [u] h1 HG2.out (by rw [HGn.out]; exact hn) (fun u => by have := HG4.out u; omega) h2 (by omega) hlu
        rw [HGn.out, HN.out] at h3
        refine h3.mono ?_
        rintro e w7 ⟨v7, rfl, hI, hO⟩
        obtain ⟨oN, cN, hv⟩ := rowForm hI
        rw [HNL.out] at hv
        subst hv
        exact ⟨oN, cN, rfl, hI.ints, hO⟩
      have HNP := Lib.hid hNP
      clear hNP hlu
      subst hoE
      have h01 : (0 : Int) ≤ (u : Int) := Int.natCast_nonneg u
      have h02 : (u : Int) < (n : Int) := by omega
      have h03 : (u : Int).toNat = u := Int.toNat_natCast u
      have HUN := Lib.hid hun
      go_enter Tryz.func55, Tryz.ntmps55
      go_wp2_with (first | (go_at_call 44; (refine (isValid_p _ _ n cE E hEA hn9 hr9).mono ?_); rintro e w5 ⟨rfl, hO5⟩; have q5 := (HB.out _ hO5).1; have r5 := (HB.out _ hO5).2; have hv := HV.out) | (go_at_call 58; (refine (isNode_p _ _ n cE u true HK.out).mono ?_); rintro e w6 ⟨rfl, hO6⟩; have q6 := (HB.out _ (hO5.trans hO6)).1; have r6 := (HB.out _ (hO5.trans hO6)).2) | (go_at_call 46; (refine (HNP.out w6 (hO5.trans hO6)).mono ?_); rintro e w7 ⟨oN, cN, rfl, hI7, hO7⟩; have hO8 := hO5.trans (hO6.trans (((Only.refl (fun _ => False) w6).alloc (.cells #[iV u] 3)).trans (hO7.trans ((Only.refl (fun _ => False) w7).alloc (.cells #[.slice oN n cN] 55))))); have q7 := (HB.out _ hO8).1; have r7 := (HB.out _ hO8).2; have g7 := HCG.out _ hO8; have HCB := Lib.hid (show CB (w7.alloc (.cells #[.slice oN n cN] 55)) w7.heap.size (w.heap.size + 1) oN n cN u N from ⟨(blk_c (new_block w7 _) rfl).1, r7, hI7.old ((Only.refl (fun _ => False) _).alloc _) (fun _ _ hc => hc), HUN.out⟩); have HO8 := Lib.hid hO8; have HII := Lib.hid (HIG.out.old hO8 (fun _ _ hc => hc)); clear hI7 hO7 hO8) | (go_at_call 74; (refine (ContainsFunc_p HCB.out ra rn rc _ HII.out HM.out hrn r HRR.out).mono ?_); rintro e w9 ⟨rfl, hO9⟩))
      go_ret
      rw [HR.out]
      exact ⟨rfl, hA.trans (HO8.out.trans hO9)⟩
end Go.Proofs.YtigmdiagdlbdpaaGreat
