/-
  WALKS. The graph: Reach.
-/
import Derived.Test.YtigmdiagdlbdpaaGreatGbO
namespace Go.Proofs.YtigmdiagdlbdpaaGreat
open Go.RowKit Go.Maps
/-- A valid graph's bounds. -/
theorem nat_deg {E : List (List Int)} {m : Nat} (hr : ∀ l ∈ E, l.length ≤ m) (u : Nat) : degG (natE E) u ≤ m := by
  unfold degG
  rw [List.getD_eq_getElem?_getD]
  cases hu : (natE E)[u]? with
  | none => exact Nat.zero_le _
  | some l =>
    have h1 := List.mem_of_getElem? hu
    unfold natE at h1
    obtain ⟨l', hl', e⟩ := List.mem_map.1 h1
    show l.length ≤ m
    rw [← e, List.length_map]
    exact hr _ hl'
/-- The nodes with a number. -/
def reachTo (N : List Nat) (k : Nat) : List Nat := (List.range k).filter (fun v => gt N v != 0)
def reachL (E : List (List Int)) (i : Int) : List Nat := if validE E && okN E.length i then reachTo (numbersS (natE E) [i.toNat]) E.length else []
theorem reachTo_yes {N : List Nat} {k : Nat} (h : gt N k ≠ 0) : reachTo N (k + 1) = reachTo N k ++ [k] := by
  unfold reachTo
  rw [List.range_succ, List.filter_append]
  simp [h]
theorem reachTo_no {N : List Nat} {k : Nat} (h : gt N k = 0) : reachTo N (k + 1) = reachTo N k := by
  unfold reachTo
  rw [List.range_succ, List.filter_append]
  simp [h]
theorem reachTo_len (N : List Nat) (k : Nat) : (reachTo N k).length ≤ k := by
  unfold reachTo
  exact Nat.le_trans (List.length_filter_le _ _) (by rw [List.length_range]; exact Nat.le_refl _)
theorem numbersS_len {G : List (List Nat)} (hG : ValidG G) (l : List Nat) (hl : ∀ v ∈ l, v < G.length) : (numbersS G l).length = G.length := (nums_ok hG l hl).len
set_option maxRecDepth 100000 in
set_option maxHeartbeats 8000000 in
theorem Reach_p (w : World) (oE : Option Addr) (n cE : Nat) (E : List (List Int)) (i : Int) (h : Edz w oE n E) (hn : n ≤ 1000000) (hr : ∀ l ∈ E, l.length ≤ 100000000) : Calls Tryz.prog 50 #[.agg #[.slice oE n cE], .int .i64 i] w fun e w' => ∃ v, e = .returned v ∧ IR w' w.heap.size v (reachL E i) ∧ Only (fun _ => False) w w' := by
  have hlen := h.len
  have hn9 : n ≤ 1000000000 := by omega
  have hr9 : ∀ l ∈ E, l.length ≤ 1000000000 := fun l hl => by have := hr l hl; omega
  have hA : Only (fun _ => False) w (w.alloc (.cells #[.slice oE n cE] 49)) := (Only.refl _ _).alloc _
  have hEA := h.keep hA
  have HB : Hid (∀ w', Only (fun _ => False) (w.alloc (.cells #[.slice oE n cE] 49)) w' → w'.cell? ⟨w.heap.size, 0, none⟩ = some (.slice oE n cE)) := Lib.hid (fun w' ho => (blk_c ((ho.block w.heap.size (by show _ < (Array.push _ _).size; rw [Array.size_push]; omega) (fun hc => hc)).trans (new_block w _)) rfl).1)
  cases hv : validE E
  · have HR : Hid (reachL E i = []) := Lib.hid (by unfold reachL; rw [hv]; rfl)
    have HV := Lib.hid hv
    clear hv
    go_enter Tryz.func50, Tryz.ntmps50
    go_wp2_with (go_at_call 44; (refine (isValid_p _ oE n cE E hEA hn9 hr9).mono ?_); rintro e w5 ⟨rfl, hO5⟩; have q5 := HB.out _ hO5; have hv := HV.out)
    go_ret
    rw [HR.out]
    exact ⟨_, rfl, World.ownsRow_nil _ _ _ _, hA.trans hO5⟩
  · cases hok : okN n i
    · have HR : Hid (reachL E i = []) := Lib.hid (by unfold reachL; rw [hlen, hok, Bool.and_false]; rfl)
      have HV := Lib.hid hv
      have HK := Lib.hid hok
      clear hv hok
      go_enter Tryz.func50, Tryz.ntmps50
      go_wp2_with (first | (go_at_call 44; (refine (isValid_p _ oE n cE E hEA hn9 hr9).mono ?_); rintro e w5 ⟨rfl, hO5⟩; have q5 := HB.out _ hO5; have hv := HV.out) | (go_at_call 58; (refine (isNode_p _ oE n cE i false HK.out).mono ?_); rintro e w6 ⟨rfl, hO6⟩))
      go_ret
      rw [HR.out]
      exact ⟨_, rfl, World.ownsRow_nil _ _ _ _, hA.trans (hO5.trans hO6)⟩
    · have HR : Hid (reachL E i = reachTo (numbersS (natE E) [i.toNat]) E.length) := Lib.hid (by unfold reachL; rw [hlen, hv, hok]; rfl)
      have hG1 := hEA.edg hv
      have hG2 := valid_G hv
      have hG3 := natE_len E
      have hG4 := nat_deg hr
      obtain ⟨u, hu⟩ : ∃ u : Nat, i = (u : Int) := ⟨i.toNat, by unfold okN at hok; simp at hok; omega⟩
      subst hu
      have hun : u < n := by unfold okN at hok; simp at hok; omega
      have HV := Lib.hid hv
      have HK := Lib.hid hok
      have hGn : (natE E).length = n := by rw [hG3, hlen]
      obtain ⟨G, hG⟩ : ∃ G, natE E = G := ⟨_, rfl⟩
      rw [hG] at hG1 hG2 hG4 hGn HR
      obtain ⟨N, hN⟩ : ∃ N, numbersS G [u] = N := ⟨_, rfl⟩
      have hNl : N.length = n := by rw [← hN, numbersS_len hG2 [u] (by intro v hv; cases hv with | head => omega | tail _ h => cases h), hGn]
      have HR2 : Hid (reachL E (u : Int) = reachTo N n) := Lib.hid (by rw [HR.out, Int.toNat_natCast, hN, hlen])
      have HG1 := Lib.hid hG1
      have HG2 := Lib.hid hG2
      have HG4 := Lib.hid hG4
      have HGn := Lib.hid hGn
      have HN := Lib.hid hN
      have HNL := Lib.hid hNl
      have HI0 := infoInt
      clear hv hok HR hG3 hG hG1 hG2 hG4 hGn hN hNl HI0
      have hNP : ∀ wx, Only (fun _ => False) (w.alloc (.cells #[.slice oE n cE] 49)) wx → Calls Tryz.prog 46 #[.agg #[.slice oE n cE], .slice (some ⟨wx.heap.size, 0, none⟩) 1 1] (wx.alloc (.cells #[iV u] 3)) fun e w' => ∃ oN cN, e = .returned (.slice oN n cN) ∧ IR w' (wx.heap.size + 1) (.slice oN n cN) N ∧ Only (fun _ => False) (wx.alloc (.cells #[iV u] 3)) w' := fun wx ho => by
        have hsz : (wx.alloc (.cells #[iV u] 3)).heap.size = wx.heap.size + 1 := by show (Array.push _ _).size = _; rw [Array.size_push]
        have h1 : Edg (wx.alloc (.cells #[iV u] 3)) oE G.length G := by rw [HGn.out]; exact (HG1.out.old ho (fun _ _ hc => hc)).old ((Only.refl (fun _ => False) _).alloc _) (fun _ _ hc => hc)
        have h2 : Ints (wx.alloc (.cells #[iV u] 3)) (some ⟨wx.heap.size, 0, none⟩) 1 [u] := ⟨rfl, fun k hk => ⟨_, _, rfl, by
          have hk0 : k = 0 := by have : k < 1 := hk; omega
          subst hk0
          exact (blk_c (k := 0) (new_block wx _) rfl).1⟩⟩
        have h3 := numbers_p _ oE cE G (some ⟨wx.heap.size, 0, none⟩) 1 1 [u] h1 HG2.out (by rw [HGn.out]; exact hn) HG4.out h2 (by omega) (by intro v hv; cases hv with | head => rw [HGn.out]; exact hun | tail _ h => cases h)
        rw [HGn.out, HN.out, hsz] at h3
        refine h3.mono ?_
        rintro e w7 ⟨v7, rfl, hI, hO⟩
        obtain ⟨oN, cN, hv⟩ := rowForm hI
        rw [HNL.out] at hv
        subst hv
        exact ⟨oN, cN, rfl, hI, hO⟩
      have HNP := Lib.hid hNP
      clear hNP
      go_enter Tryz.func50, Tryz.ntmps50
      go_wp2_with (first | (go_at_call 44; (refine (isValid_p _ oE n cE E hEA hn9 hr9).mono ?_); rintro e w5 ⟨rfl, hO5⟩; have q5 := HB.out _ hO5; have hv := HV.out) | (go_at_call 58; (refine (isNode_p _ oE n cE u true HK.out).mono ?_); rintro e w6 ⟨rfl, hO6⟩; have q6 := HB.out _ (hO5.trans hO6)) | (go_at_call 46; (refine (HNP.out w6 (hO5.trans hO6)).mono ?_); rintro e w7 ⟨oN, cN, rfl, hI7, hO7⟩))
      have hO7' : Only (fun _ => False) w w7 := hA.trans (hO5.trans (hO6.trans (((Only.refl _ _).alloc _).trans hO7)))
      have hNB : ∀ g, (Value.slice oN n cN).ownBlock = some g → g < w7.heap.size := fun g hg => (World.ownsRow.lt hI7 g hg).2
      have h0 : IR w7 w7.heap.size (.slice none 0 0) (reachTo N 0) := World.ownsRow_nil _ _ _ _
      obtain ⟨i0', hi, hz0, hz1, hz2⟩ := info_parts infoInt
      clear hO5 hO6 hO7 q5 q6 hv hEA hA
      go_loopw [5, 22] (fun r q wr => ∃ k : Nat, k ≤ n ∧ q = .int .i64 k ∧ IR wr w7.heap.size r (reachTo N k) ∧ Only (w7.heap.size ≤ ·) w7 wr) (fun _ q _ => n - (intOf q).toNat)
      case atStart => exact ⟨0, by omega, rfl, h0, Only.refl _ _⟩
      case round =>
        obtain ⟨k, hk, rfl, hI, hO⟩ := hrel
        have hIN := hI7.only hO (fun g hg hc => by have h1 := hNB g hg; have h2 : w7.heap.size ≤ g := hc; omega)
        by_cases hlt : k < n
        · have hkl : k < N.length := by rw [HNL.out]; exact hlt
          obtain ⟨gN, hgN, -, -, hcc, hc, -⟩ := hIN.at hkl
          subst hgN
          have h05 : (0 : Int) ≤ (k : Int) := Int.natCast_nonneg k
          have h06 : (k : Int) < (n : Int) := by omega
          have h07 : (k : Int).toNat = k := Int.toNat_natCast k
          obtain ⟨x, hx⟩ : ∃ x, gt N k = x := ⟨_, rfl⟩
          rw [hx] at hc
          have HX := Lib.hid hx
          clear hx hkl
          by_cases hz : x = 0
          · subst hz
            have hN := Lib.hid (reachTo_no HX.out)
            go_wp2
            go_roundw
            case rel => exact ⟨k + 1, by omega, by go_num, by rw [hN.out]; exact hI, hO⟩
            case measure => simp [intOf]; omega
          · have hz2' : ¬ (x : Int) = 0 := by omega
            have hz1' : ((x : Int) != 0) = true := by simp; omega
            have hN := Lib.hid (reachTo_yes (by rw [HX.out]; exact hz : gt N k ≠ 0))
            obtain ⟨oa, ca, hv⟩ := rowForm hI
            subst hv
            have hm := reachTo_len N k
            obtain ⟨l, hl⟩ : ∃ l, reachTo N k = l := ⟨_, rfl⟩
            rw [hl] at hI hm hN
            have HOWN : wr.ownsRow w7.heap.size 3 1 (.slice oa l.length ca) l.length (l.map iV) := hI
            have hws := hO.size
            rw [hl]
            have HSZ := Lib.hid hws
            have HM := Lib.hid hm
            clear hl hI hws hm
            go_wp2_with (at_builtin; refine wpList_append_lies _ rfl _ _ 55 rfl w7.heap.size 3 i0' (.int .i64 0) 1 8 Tryz.underlying55 hi hz0 hz1 hz2 rfl (by decide) (.slice oa l.length ca) l.length (l.map iV) rfl (World.ownsRow.alloc HOWN _) ⟨wr.heap.size, 0, none⟩ 1 1 [iV k] rfl rfl (World.news_of_block (new_block wr _)) (one_int k) Nat.one_pos (by have := HM.out; unfold maxLen; omega) (by have := HM.out; omega) (by show w7.heap.size ≤ (Array.push _ _).size; rw [Array.size_push]; have := HSZ.out; omega) _ rfl ?_; intro g cg w8 hown8 hgrow8 hat8 hlt8; have HI8 := Lib.hid (IR.snoc hown8); have HO8 := Lib.hid (Only.grown (K := (w7.heap.size ≤ ·)) hgrow8 (fun g hg => (World.ownsRow.lt HOWN g hg).1)); clear hown8 hgrow8 hat8 hlt8)
            go_roundw
            case rel => exact ⟨k + 1, by omega, by go_num, by rw [hN.out]; exact HI8.out, (hO.alloc _).trans HO8.out⟩
            case measure => simp [intOf]; omega
        · have hkn : k = n := by omega
          subst hkn
          have hB7 := hO7'.size
          go_wp2
          go_ret
          rw [HR2.out]
          exact ⟨_, rfl, rowMono hI hB7, hO7'.trans ⟨hO.os, hO.tape, hO.output, hO.size, fun i hi _ => hO.block i hi (fun hc => by have hc' : w7.heap.size ≤ i := hc; omega)⟩⟩
end Go.Proofs.YtigmdiagdlbdpaaGreat
