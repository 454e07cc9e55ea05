/-
  WALKS. GraphGroup: at most 60 items within their bounds.
-/
import Derived.Test.YtlnknkplebaioaaGbGn
import Derived.Test.YtlnknkplebaioaaGbGm
import Derived.Test.YtlnknkplebaioaaGbRc
import Derived.BigQuiet
import Derived.Deep.QuietTactic
namespace Go.Proofs.Ytlnknkplebaioaa
open Go.RowKit Go.Maps
theorem gK_full (m : List Ky) : (List.range m.length).map (rowG m) = gK m m.length := by
  unfold gK
  apply List.map_congr_left
  intro j hj
  rw [if_pos (List.mem_range.1 hj)]
theorem rows_succ (m : List Ky) (k : Nat) : (List.range (k + 1)).map (rowG m) = (List.range k).map (rowG m) ++ [rowG m k] := by
  rw [List.range_succ, List.map_append]
  rfl
theorem grpL_get {m : List Ky} {C : List (List Nat)} {i : Nat} (h : i < (grpL m C).length) (hi : i < C.length) : (grpL m C)[i] = (lAt C i).map (kAt m) := by
  have e2 : lAt C i = C[i] := by show C.getD i [] = _; rw [List.getD_eq_getElem?_getD, List.getElem?_eq_getElem hi]; rfl
  rw [e2]
  simp [grpL]
set_option maxRecDepth 100000 in
set_option maxHeartbeats 16000000 in
theorem Group_good (w : World) (oK : Option Addr) (n cK : Nat) (l : List Ky) (h : Kys w oK n l) (hn : n ≤ 60) (hok : ∀ x ∈ l, okKy x) : Calls Try.prog 6 #[.slice oK n cK] w fun e w' => e = .returned (.bool true) ∧ Only (fun _ => False) w w' := by
  have hl := h.len
  have hn1 : ¬ (60 : Int) < (n : Int) := by omega
  have hn2 : decide ((60 : Int) < (n : Int)) = false := decide_eq_false hn1
  have HOK := Lib.hid hok
  obtain ⟨i0', hi, hz0, hz1, hz2⟩ := info_parts infoInt
  obtain ⟨i1', hi1, hj0, hj1, hj2⟩ := info_parts infoInts
  have hDI := fun wx (ho : Only (fun _ => False) w wx) => different_p wx oK n cK l (h.old ho (fun _ _ hc => hc)) (by omega)
  have hGU := fun wx (ho : Only (fun _ => False) w wx) => GroupU_p wx oK n cK l (h.old ho (fun _ _ hc => hc)) (by omega) hok
  have hGN := fun wx (ho : Only (fun _ => False) w wx) => GroupN_p wx oK n cK l (h.old ho (fun _ _ hc => hc)) (by omega) hok
  have hDO : ∀ x ∈ difK l n, okKy x := fun x hx => hok x (difK_mem l n (by omega) x hx)
  have hDL := difK_len l n
  obtain ⟨D, hD⟩ : ∃ D, difK l n = D := ⟨_, rfl⟩
  rw [hD] at hDI hGU hGN hDO hDL
  obtain ⟨M, hM⟩ : ∃ M, D.length = M := ⟨_, rfl⟩
  rw [hM] at hDI hDL
  have HDI := Lib.hid hDI
  have HGU := Lib.hid hGU
  have HGN := Lib.hid hGN
  have HDO := Lib.hid hDO
  have HML := Lib.hid hM
  clear hok hDI hGU hGN hDO hD hM
  go_enter Try.func6, Try.ntmps6
  go_wp2
  go_loopw [3] (fun q wr => ∃ k : Nat, k ≤ n ∧ q = .int .i64 k ∧ Only (fun _ => False) w wr) (fun q _ => n - (intOf q).toNat)
  case atStart => exact ⟨0, by omega, rfl, Only.refl _ _⟩
  case round =>
    obtain ⟨k, hk, rfl, hO⟩ := hrel
    by_cases hkn : k < n
    · have hkl : k < l.length := by omega
      obtain ⟨b1, o1, e1, c1⟩ := (h.old hO (fun _ _ hc => hc)).cell k hkl
      subst e1
      obtain ⟨⟨y1, y2⟩, hy⟩ : ∃ y, l[k] = y := ⟨_, rfl⟩
      obtain ⟨g1, g2, g3, g4⟩ : okKy (y1, y2) := by rw [← hy]; exact HOK.out _ (List.getElem_mem hkl)
      rw [hy] at c1
      obtain ⟨p0, p1⟩ := c1
      have h01 : (0 : Int) ≤ (k : Int) := Int.natCast_nonneg k
      have h02 : (k : Int) < (n : Int) := by omega
      have h03 : (k : Int).toNat = k := Int.toNat_natCast k
      dsimp only at p0 p1 g1 g2 g3 g4
      have d1 : decide (y1 < 0) = false := decide_eq_false (by omega)
      have d2 : decide ((7 : Int) < y1) = false := decide_eq_false (by omega)
      have d3 : decide (y2 < 0) = false := decide_eq_false (by omega)
      have d4 : decide ((2147483648 : Int) < y2) = false := decide_eq_false (by omega)
      have e1 : ¬ y1 < 0 := by omega
      have e2 : ¬ (7 : Int) < y1 := by omega
      have e3 : ¬ y2 < 0 := by omega
      have e4 : ¬ (2147483648 : Int) < y2 := by omega
      clear g1 g2 g3 g4 hy
      go_wp2
      go_roundw
      case rel => exact ⟨k + 1, by omega, by go_num, hO⟩
      case measure => simp [intOf]; omega
    · have hkn2 : k = n := by omega
      subst hkn2
      obtain ⟨w4, hw4⟩ : ∃ w4 : World, w4 = wr := ⟨_, rfl⟩
      subst hw4
      go_wp2_with (go_at_call 21; (refine (HDI.out _ hO).mono ?_); rintro e w5 ⟨oa, ca, rfl, hK5, hO5⟩)
      obtain ⟨B, hB⟩ : ∃ B, w5.heap.size = B := ⟨_, rfl⟩
      have HW := Lib.hid (hO.trans hO5)
      have HKD : Hid (∀ wx, Only (B ≤ ·) w5 wx → Kys wx oa M D) := Lib.hid (fun wx ho => by
        have h1 := hK5
        rw [← HML.out] at h1 ⊢
        exact h1.kys.old ho (fun i hi hc => by have hc' : B ≤ i := hc; omega))
      have hb0 : (w5.alloc (.cells #[nilV] 24)).heap[B]? = some (.cells #[nilV] 24 (0, 0)) := by rw [← hB]; exact new_block w5 _
      have hO50 : Only (B ≤ ·) w5 (w5.alloc (.cells #[nilV] 24)) := by rw [← hB]; exact (Only.refl _ _).alloc _
      have hr0 : RR (w5.alloc (.cells #[nilV] 24)) (B + 1) nilV [] ((List.range 0).map (rowG D)) := RR.nil _ _
      have HB := Lib.hid hB
      rw [hB]
      clear hK5 hO5 hO hB
      go_loopw [6] (fun q wr => ∃ (k : Nat) (v : Value) (vs : List Value), k ≤ M ∧ q = .int .i64 k ∧ wr.heap[B]? = some (.cells #[v] 24 (0, 0)) ∧ RR wr (B + 1) v vs ((List.range k).map (rowG D)) ∧ Only (B ≤ ·) w5 wr) (fun q _ => M - (intOf q).toNat)
      case atStart => exact ⟨0, nilV, [], by omega, rfl, hb0, hr0, hO50⟩
      case round =>
        clear hb0 hr0 hO50
        obtain ⟨j, v, vs, hj, rfl, hb, hR, hO⟩ := hrel
        have HSW : Hid (B < wr.heap.size) := Lib.hid (lt_of_block hb)
        by_cases hjM : j < M
        · have hjD : j < D.length := by rw [HML.out]; exact hjM
          obtain ⟨b1, o1, e1, c1⟩ := (HKD.out wr hO).cell j hjD
          subst e1
          obtain ⟨⟨y1, y2⟩, hy⟩ : ∃ y, D[j] = y := ⟨_, rfl⟩
          have hky : kAt D j = (y1, y2) := (kAt_get hjD).trans hy
          have HYO : Hid (okKy (y1, y2)) := Lib.hid (by rw [← hy]; exact HDO.out _ (List.getElem_mem hjD))
          rw [hy] at c1
          have hc2 := c1.only ((Only.refl (fun _ => False) wr).alloc (.cells #[] 3)) (fun hc => hc)
          obtain ⟨p0, p1⟩ := hc2
          have h01 : (0 : Int) ≤ (j : Int) := Int.natCast_nonneg j
          have h02 : (j : Int) < (M : Int) := by omega
          have h03 : (j : Int).toNat = j := Int.toNat_natCast j
          dsimp only at p0 p1
          obtain ⟨w9, hw9⟩ : ∃ w9 : World, w9 = wr := ⟨_, rfl⟩
          subst hw9
          have HRG : Hid (rowG D j = plcK D (useL (y1, y2)) (useL (y1, y2)).length) := Lib.hid (by unfold rowG; rw [hky])
          have hul := useL_len (y1, y2)
          obtain ⟨U, hU⟩ : ∃ U, useL (y1, y2) = U := ⟨_, rfl⟩
          have HUP : Hid (∀ wx, Calls Try.prog 22 #[.agg #[.int .i64 y1, .int .i64 y2]] wx fun e w' => ∃ oa ca, e = .returned (.slice oa U.length ca) ∧ KR w' wx.heap.size (.slice oa U.length ca) U ∧ Only (fun _ => False) wx w') := Lib.hid (fun wx => by rw [← hU]; exact Uses_p wx (y1, y2) HYO.out)
          have HUO : Hid (∀ i, i < U.length → True) := Lib.hid (fun _ _ => trivial)
          rw [hU] at HRG hul
          have HB9 := Lib.hid hb
          have HR9 := Lib.hid hR
          have HO9 := Lib.hid hO
          have hI0 : IR (w9.alloc (.cells #[] 3)) w9.heap.size (.slice (some ⟨w9.heap.size, 0, none⟩) 0 0) (plcK D U 0) := row_zero (Nat.le_refl _) (new_block w9 _)
          have HI0 := Lib.hid hI0
          have hs1 : (w9.alloc (.cells #[] 3)).heap.size = w9.heap.size + 1 := by show (Array.push _ _).size = _; rw [Array.size_push]
          have HS1 := Lib.hid hs1
          clear hb hR hO hy hky hU hI0 hs1 c1
          go_wp2_with (go_at_call 22; (refine (HUP.out _).mono ?_); rintro e w6 ⟨oU, cU, rfl, hK6, hO6⟩)
          have HKU : Hid (∀ wx, Only (fun i => i = w9.heap.size ∨ w6.heap.size ≤ i) w6 wx → Kys wx oU U.length U) := Lib.hid (fun wx ho => (KR.only hK6 ho (fun g hg hc => by
            have h1 := World.ownsRow.lt hK6 g hg
            have h2 := HS1.out
            rcases hc with hc | hc <;> omega)).kys)
          have HS6 : Hid (w9.heap.size + 1 ≤ w6.heap.size) := Lib.hid (by have := hO6.size; have := HS1.out; omega)
          have HCH : Hid (∀ wz, Only (fun i => i = w9.heap.size ∨ w6.heap.size ≤ i) w6 wz → Only (w9.heap.size ≤ ·) w9 wz) := Lib.hid (fun wz ho => ((((Only.refl (fun _ => False) w9).alloc (.cells #[] 3)).trans hO6).lift).trans (ho.wide (fun i hi => by
            have h1 := HS6.out
            show w9.heap.size ≤ i
            rcases hi with hi | hi <;> omega)))
          have hI6 := HI0.out.only hO6 (fun _ _ hc => hc)
          have hul0 : U.length ≤ 2 := hul
          clear hK6 hO6
          go_loopw [7, 72] (fun v q wx => ∃ k : Nat, k ≤ U.length ∧ q = .int .i64 k ∧ IR wx w9.heap.size v (plcK D U k) ∧ (∀ g, v.ownBlock = some g → g = w9.heap.size ∨ w6.heap.size ≤ g) ∧ Only (fun i => i = w9.heap.size ∨ w6.heap.size ≤ i) w6 wx) (fun _ q _ => U.length - (intOf q).toNat)
          case atStart => exact ⟨0, by omega, rfl, hI6, fun g hg => .inl (by cases hg; rfl), Only.refl _ _⟩
          case round =>
            clear hI6
            obtain ⟨k, hk, rfl, hI, hG, hO⟩ := hrel
            have hlen := plcK_len D U k
            obtain ⟨oR, cR, hv⟩ := rowForm hI
            subst hv
            obtain ⟨q, hq⟩ : ∃ q, (plcK D U k).length = q := ⟨_, rfl⟩
            have hI' : IR wr w9.heap.size (.slice oR q cR) (plcK D U k) := by rw [← hq]; exact hI
            have HI := Lib.hid hI'
            have HQ := Lib.hid hq
            have HG : Hid (∀ g, (Value.slice oR q cR).ownBlock = some g → g = w9.heap.size ∨ w6.heap.size ≤ g) := Lib.hid (by rw [← hq]; exact hG)
            have HO := Lib.hid hO
            have HWS : Hid (w6.heap.size ≤ wr.heap.size) := Lib.hid hO.size
            rw [hq] at hlen ⊢
            clear hq hI hI' hG
            by_cases hlt : k < U.length
            · obtain ⟨b2, o2, e2, c2⟩ := (HKU.out wr hO).cell k hlt
              subst e2
              obtain ⟨⟨x1, x2⟩, hx⟩ : ∃ y, U[k] = y := ⟨_, rfl⟩
              have hkx : kAt U k = (x1, x2) := (kAt_get hlt).trans hx
              rw [hx] at c2
              obtain ⟨r0, r1⟩ := c2
              have h11 : (0 : Int) ≤ (k : Int) := Int.natCast_nonneg k
              have h12 : (k : Int) < (U.length : Int) := by omega
              have h13 : (k : Int).toNat = k := Int.toNat_natCast k
              dsimp only at r0 r1
              have hst : plcK D U (k + 1) = if 0 ≤ posI D (x1, x2) then plcK D U k ++ [(posI D (x1, x2)).toNat] else plcK D U k := by rw [← hkx]; rfl
              have hs2 : (wr.alloc (.cells #[.int .i64 x1, .int .i64 x2] 38)).heap.size = wr.heap.size + 1 := by show (Array.push _ _).size = _; rw [Array.size_push]
              have HS2 := Lib.hid hs2
              have HO1 : Hid (Only (fun i => i = w9.heap.size ∨ w6.heap.size ≤ i) w6 (wr.alloc (.cells #[.int .i64 x1, .int .i64 x2] 38))) := Lib.hid (hO.alloc _)
              have HPO : Hid (Calls Try.prog 23 #[.slice (some ⟨b1, o1, none⟩) M ca, .agg #[.int .i64 x1, .int .i64 x2]] (wr.alloc (.cells #[.int .i64 x1, .int .i64 x2] 38)) fun e w' => e = .returned (.int .i64 (posI D (x1, x2))) ∧ Only (fun _ => False) (wr.alloc (.cells #[.int .i64 x1, .int .i64 x2] 38)) w') := Lib.hid (position_p _ _ M ca D (HKD.out _ (HO9.out.trans ((HCH.out _ HO1.out).wide (fun i hi => by have h1 := HSW.out; have hi' : w9.heap.size ≤ i := hi; show B ≤ i; omega)))) (by omega) (x1, x2))
              clear hx hkx hO hs2
              by_cases hpos : 0 ≤ posI D (x1, x2)
              · rw [if_pos hpos] at hst
                obtain ⟨p, hp, hpm⟩ := posI_nat hpos
                rw [hp, Int.toNat_natCast] at hst
                rw [hp] at HPO
                have HST := Lib.hid hst
                have d5 : ¬ (p : Int) < 0 := by omega
                have d6 : decide ((0 : Int) ≤ (p : Int)) = true := decide_eq_true (Int.natCast_nonneg p)
                have d7 : (0 : Int) ≤ (p : Int) := Int.natCast_nonneg p
                clear hst hp hpos hpm
                go_wp2_with (first | (go_at_call 23; (refine HPO.out.mono ?_); rintro e w7 ⟨rfl, hO7⟩; have HO7 := Lib.hid hO7; clear hO7) | (at_builtin; refine wpList_append_lies _ rfl _ _ 30 rfl w9.heap.size 3 i0' (.int .i64 0) 1 8 Try.underlying30 hi hz0 hz1 hz2 rfl (by decide) (.slice oR q cR) q ((plcK D U k).map iV) rfl (World.ownsRow.alloc (show w7.ownsRow w9.heap.size 3 1 (.slice oR q cR) q ((plcK D U k).map iV) by have hh := (HI.out.only (K := fun _ => False) ((Only.refl _ _).alloc _) (fun _ _ hc => hc)).only HO7.out (fun _ _ hc => hc); unfold IR at hh; rw [HQ.out] at hh; exact hh) _) ⟨w7.heap.size, 0, none⟩ 1 1 [iV p] rfl rfl (World.news_of_block (new_block w7 _)) (one_int p) Nat.one_pos (by unfold maxLen; omega) (by omega) (by show w9.heap.size ≤ (Array.push _ _).size; rw [Array.size_push]; have h3 := HWS.out; have h4 := HO7.out.size; have h5 := HS2.out; have h6 := HS6.out; omega) _ rfl ?_; intro g2 cg w12 hown8 hgrow8 hat8 hlt8; have HR8 := Lib.hid (IR.snoc (ns := plcK D U k) (k := p) (by rw [HQ.out]; exact hown8)); have HG8 : Hid (g2 = w9.heap.size ∨ w6.heap.size ≤ g2) := Lib.hid (hat8.elim (fun e => HG.out g2 e) (fun e => .inr (by rw [e]; show w6.heap.size ≤ (Array.push _ _).size; rw [Array.size_push]; have h3 := HWS.out; have h4 := HO7.out.size; have h5 := HS2.out; omega))); have HO8 := Lib.hid (((HO1.out.trans (HO7.out.lift (K := fun i => i = w9.heap.size ∨ w6.heap.size ≤ i))).alloc (.cells #[iV p] 3)).trans (Only.grown (K := fun i => i = w9.heap.size ∨ w6.heap.size ≤ i) hgrow8 (fun g hg => HG.out g hg))); clear hown8 hgrow8 hat8 hlt8))
                go_roundw
                case rel => exact ⟨k + 1, by omega, by go_num, by rw [HST.out]; exact HR8.out, fun g hg => by cases hg; exact HG8.out, HO8.out⟩
                case measure => simp [intOf]; omega
              · rw [if_neg hpos] at hst
                have HST := Lib.hid hst
                obtain ⟨p, hp⟩ : ∃ p, posI D (x1, x2) = p := ⟨_, rfl⟩
                rw [hp] at HPO hpos
                have d6 : decide ((0 : Int) ≤ p) = false := decide_eq_false hpos
                clear hst hp
                go_wp2_with (go_at_call 23; (refine HPO.out.mono ?_); rintro e w7 ⟨rfl, hO7⟩; have HO7 := Lib.hid hO7; clear hO7)
                go_roundw
                case rel => exact ⟨k + 1, by omega, by go_num, by rw [HST.out]; exact (HI.out.only (K := fun _ => False) ((Only.refl _ _).alloc _) (fun _ _ hc => hc)).only HO7.out (fun _ _ hc => hc), HG.out, HO1.out.trans HO7.out.lift⟩
                case measure => simp [intOf]; omega
            · have hkU : k = U.length := by omega
              subst hkU
              have HOX := Lib.hid (HCH.out wr hO)
              have hRx := HR9.out.only HOX.out (fun i _ hi hc => by have hc' : w9.heap.size ≤ i := hc; omega)
              have hbx : wr.heap[B]? = some (.cells #[v] 24 (0, 0)) := (HOX.out.block B HSW.out (fun hc => by have hc' : w9.heap.size ≤ B := hc; have := HSW.out; omega)).trans HB9.out
              have hjl : ((List.range j).map (rowG D)).length = j := by rw [List.length_map, List.length_range]
              obtain ⟨ol, cl, hv2⟩ := rowForm hRx.out
              rw [hjl] at hv2
              subst hv2
              have rc1 := (blk_c (k := 0) hbx rfl).1
              have rz1 := (blk_c (k := 0) hbx rfl).2
              have HOUT : Hid (wr.ownsRow (B + 1) 30 1 (.slice ol j cl) j vs) := Lib.hid (by have hh := hRx.out; rw [hjl] at hh; exact hh)
              have HJL := Lib.hid hjl
              have HRX := Lib.hid hRx
              have HBX := Lib.hid hbx
              clear hRx hbx hjl hO
              go_wp2_with (at_builtin; refine wpList_append_lies _ rfl _ _ 22 rfl (B + 1) 30 i1' nilV 1 24 Try.underlying22 hi1 hj0 hj1 hj2 rfl (by decide) (.slice ol j cl) j vs rfl (World.ownsRow.alloc HOUT.out _) ⟨wr.heap.size, 0, none⟩ 1 1 [.slice oR q cR] rfl rfl (World.news_of_block (new_block wr _)) (fun u hu => by rw [List.mem_singleton.1 hu]; rfl) Nat.one_pos (by unfold maxLen; omega) (by omega) (by show B + 1 ≤ (Array.push _ _).size; rw [Array.size_push]; have h3 := HWS.out; have h4 := HSW.out; have h6 := HS6.out; omega) _ rfl ?_; intro g2 cg2 w12 hown8 hgrow8 hat8 hlt8; have hbb : w12.heap[B]? = some (.cells #[.slice ol j cl] 24 (0, 0)) := (hgrow8.block B (by show B < (Array.push _ _).size; rw [Array.size_push]; have h3 := HWS.out; have h4 := HSW.out; have h6 := HS6.out; omega) (fun e => by have h1 := (World.ownsRow.lt HOUT.out B e.symm).1; omega)).trans ((((Only.refl (fun _ => False) wr).alloc (.cells #[.slice oR q cR] 30)).block B (by have h3 := HWS.out; have h4 := HSW.out; have h6 := HS6.out; omega) (fun hc => hc)).trans HBX.out); have rc12 := (blk_c (k := 0) hbb rfl).1; have rz12 := (blk_c (k := 0) hbb rfl).2; have HBB := Lib.hid hbb; have HR12 := Lib.hid (RR.add (HRX.out.only (K := fun _ => False) ((Only.refl _ _).alloc (.cells #[.slice oR q cR] 30)) (fun _ _ _ hc => hc)) (l := plcK D U U.length) hgrow8 (by rw [HJL.out]; exact hown8) (rowMono (HI.out.only (K := fun _ => False) ((Only.refl _ _).alloc (.cells #[.slice oR q cR] 30)) (fun _ _ hc => hc)) (by have h4 := HSW.out; omega)) (fun i hi g hg e => by have h1 := (World.ownsRow.lt (HR9.out.row i hi) g hg).2; have h2 := (World.ownsRow.lt HI.out g e).1; omega)); have HO12 := Lib.hid (((HO9.out.trans (HOX.out.wide (K' := (B ≤ ·)) (fun i hi => by have h1 := HSW.out; have hi' : w9.heap.size ≤ i := hi; show B ≤ i; omega))).alloc (.cells #[.slice oR q cR] 30)).trans (Only.grown (K := (B ≤ ·)) hgrow8 (fun g hg => by have h1 := (World.ownsRow.lt HOUT.out g hg).1; show B ≤ g; omega))); clear hown8 hgrow8 hat8 hlt8 hbb)
              go_roundw
              case rel =>
                refine ⟨j + 1, .slice (some ⟨g2, 0, none⟩) (j + 1) cg2, vs ++ [.slice oR q cR], by omega, by go_num, ?_, ?_, Only.setCell (K := (B ≤ ·)) HO12.out (Nat.le_refl _) _⟩
                · have h1 := HBB.out
                  simp [World.setCell, Array.getElem?_modify, h1]
                · rw [rows_succ, HRG.out]
                  exact HR12.out.only (K := (· = B)) (Only.setCell (K := (· = B)) (Only.refl _ _) rfl _) (fun i hi _ hc => by have e : i = B := hc; omega)
              case measure => simp [intOf]; omega
        · have hjm : M = j := by omega
          subst hjm
          have hfull : (List.range M).map (rowG D) = gK D M := by rw [← HML.out]; exact gK_full D
          have hlM : (gK D M).length = M := by rw [gK_len, HML.out]
          rw [hfull] at hR
          obtain ⟨ol, cl, hv⟩ := rowForm hR.out
          subst hv
          have rc := (blk_c (k := 0) hb rfl).1
          have rz := (blk_c (k := 0) hb rfl).2
          have hG := gK_lt D M
          have hE := hR.edg.edz
          rw [hlM] at rc hE
          have hrl : ∀ r ∈ intE (gK D M), r.length ≤ 1000000 := fun r hr => by
            obtain ⟨r', hr', rfl⟩ := List.mem_map.1 hr
            obtain ⟨j, -, rfl⟩ := List.mem_map.1 hr'
            rw [List.length_map]
            split
            · have := rowG_len D j; omega
            · exact Nat.zero_le _
          have hCP := rComponents_p wr ol M cl (intE (gK D M)) hE (by omega) hrl
          rw [compsE_intE hG] at hCP
          have hPA : Parts (gK D M) (compsG (gK D M)) := gK_parts D M
          have hGR : groupL D = grpL D (compsG (gK D M)) := by unfold groupL; rw [HML.out]
          obtain ⟨C, hC⟩ : ∃ C, compsG (gK D M) = C := ⟨_, rfl⟩
          rw [hC] at hCP hPA hGR
          have hcl := parts_len hPA
          rw [hlM] at hcl
          have hcr : ∀ i, (lAt C i).length ≤ M := fun i => by have := parts_row hPA i; rw [hlM] at this; exact this
          have HCX : Hid (∀ i, i < C.length → ∀ x ∈ lAt C i, x < M) := Lib.hid (fun i hi x hx => by have := hPA.lt i hi x hx; rw [hlM] at this; exact this)
          obtain ⟨Q, hQ⟩ : ∃ Q, C.length = Q := ⟨_, rfl⟩
          have HQ := Lib.hid hQ
          have HCP : Hid (Calls Try.prog 13 #[.agg #[.slice ol M cl]] wr fun e w' => ∃ oc cc, e = .returned (.slice oc Q cc) ∧ EdgB w' wr.heap.size oc Q C ∧ Only (fun _ => False) wr w') := Lib.hid (hCP.mono (by
            rintro e w' ⟨oc, nc, cc, h1, h2, h3⟩
            have h4 := h2.len
            rw [hQ] at h4
            subst h4
            exact ⟨oc, cc, h1, h2, h3⟩))
          have HGU2 : Hid (∀ wx, Only (fun _ => False) w wx → Calls Try.prog 24 #[.slice oK k cK, .func (.func 22) #[] #[]] wx fun e w' => ∃ og cg, e = .returned (.slice og Q cg) ∧ Kyz w' og Q (grpL D C) ∧ Only (fun _ => False) wx w') := Lib.hid (fun wx ho => (HGU.out wx ho).mono (by
            rintro e w' ⟨og, ng, cg, h1, h2, h3⟩
            rw [hGR] at h2
            have h4 := h2.len
            unfold grpL at h4
            rw [List.length_map, hQ] at h4
            subst h4
            exact ⟨og, cg, h1, h2, h3⟩))
          have HGN2 : Hid (∀ wx, Only (fun _ => False) w wx → Calls Try.prog 24 #[.slice oK k cK, .nilFunc] wx fun e w' => ∃ og cg, e = .returned (.slice og M cg) ∧ Only (fun _ => False) wx w') := Lib.hid (fun wx ho => (HGN.out wx ho).mono (by
            rintro e w' ⟨og, ng, cg, h1, h2, h3⟩
            have h4 := h2.len
            rw [groupN_len, HML.out] at h4
            subst h4
            exact ⟨og, cg, h1, h3⟩))
          have HFIN : Hid (Only (fun _ => False) w wr) := Lib.hid (HW.out.trans ⟨hO.os, hO.tape, hO.output, hO.size, fun i hi _ => hO.block i hi (fun hc => by have hc' : B ≤ i := hc; have := HB.out; omega)⟩)
          have HO9 := Lib.hid hO
          rw [hQ] at hcl
          clear hb hR hG hE hrl hCP hPA hGR hC hQ hfull hlM hO
          go_wp2_with (first | (go_at_call 13; (refine HCP.out.mono ?_); rintro e w7 ⟨oc, cc, rfl, hC7, hO7⟩; have hW7 := HFIN.out.trans hO7) | (go_at_call 24; (refine (HGU2.out w7 hW7).mono ?_); rintro e w8 ⟨og, cg, rfl, hK8, hO8⟩))
          have HW8 := Lib.hid (hW7.trans hO8)
          have HC8 := Lib.hid (hC7.old hO8 (fun _ _ _ hc => hc))
          have HK8 := Lib.hid hK8
          have HO8 : Hid (Only (B ≤ ·) w5 w8) := Lib.hid (HO9.out.trans ((hO7.trans hO8).lift))
          clear hC7 hK8 hO8 hO7 hW7
          go_loopw [13] (fun q wr => ∃ i : Nat, i ≤ Q ∧ q = .int .i64 i ∧ Only (fun _ => False) w8 wr) (fun q _ => Q - (intOf q).toNat)
          case atStart => exact ⟨0, by omega, rfl, Only.refl _ _⟩
          case round =>
            obtain ⟨i, hi, rfl, hO⟩ := hrel
            by_cases hiQ : i < Q
            · have hiC : i < C.length := by have := HQ.out; omega
              obtain ⟨bC, oC, ra, rn, rc, hoc, -, hcC, hiR⟩ := HC8.out.cell i hiC
              subst hoc
              have hgl : i < (grpL D C).length := by unfold grpL; rw [List.length_map]; exact hiC
              obtain ⟨bG, oG, ga, gn, gc, hog, hcG, hiG⟩ := HK8.out.cell i hgl
              subst hog
              have hge := grpL_get (m := D) hgl hiC
              rw [hge] at hiG
              have hrn := hiR.len
              have hgn := hiG.len
              rw [List.length_map] at hgn
              have hgr : gn = rn := by omega
              subst hgr
              have hrM := hcr i
              have HCI := Lib.hid (HCX.out i hiC)
              obtain ⟨c, hc⟩ : ∃ c, lAt C i = c := ⟨_, rfl⟩
              rw [hc] at hiR hiG hrn hrM HCI
              have HRN := Lib.hid hrn
              have HF1 : Hid (∀ wx, Only (fun _ => False) w8 wx → wx.cell? ⟨bC, oC + i, none⟩ = some (.slice ra gn rc) ∧ wx.cell? ⟨bG, oG + i, none⟩ = some (.slice ga gn gc)) := Lib.hid (fun wx ho => ⟨(World.cell?_of_block (ho.block bC (cell_lt hcC) (fun hc => hc))).trans hcC, (World.cell?_of_block (ho.block bG (cell_lt hcG) (fun hc => hc))).trans hcG⟩)
              have HF2 : Hid (∀ wx, Only (fun _ => False) w8 wx → Ints wx ra gn c) := Lib.hid (fun wx ho => (hiR.old ho (fun _ _ _ hc => hc)).ints)
              have HF3 : Hid (∀ wx, Only (fun _ => False) w8 wx → Kys wx ga gn (c.map (kAt D))) := Lib.hid (fun wx ho => hiG.old ho (fun _ _ hc => hc))
              have HF4 : Hid (∀ wx, Only (fun _ => False) w8 wx → Kys wx oa M D) := Lib.hid (fun wx ho => HKD.out wx (HO8.out.trans ho.lift))
              have h01 : (0 : Int) ≤ (i : Int) := Int.natCast_nonneg i
              have h02 : (i : Int) < (Q : Int) := by omega
              have h03 : (i : Int).toNat = i := Int.toNat_natCast i
              obtain ⟨k1, k2⟩ := HF1.out wr hO
              clear hcC hcG hiR hiG hge hgn hc hrn
              go_wp2
              go_quiet (fail)
              go_wp2
              have hO2 : Only (fun _ => False) w8 (wr.drewN nq) := hO.trans (only_drewN _ _)
              clear k1 k2
              go_loopw [14] (fun q wx => ∃ k : Nat, k ≤ gn ∧ q = .int .i64 k ∧ Only (fun _ => False) w8 wx) (fun q _ => gn - (intOf q).toNat)
              case atStart => exact ⟨0, by omega, rfl, hO2⟩
              case round =>
                clear hO2 hO
                obtain ⟨k', hk', rfl, hO⟩ := hrel
                obtain ⟨k1, k2⟩ := HF1.out wr hO
                by_cases hkr : k' < gn
                · have hkc : k' < c.length := by have := HRN.out; omega
                  obtain ⟨b2, o2, e2, c2⟩ := (HF2.out wr hO).cell k' hkc
                  subst e2
                  obtain ⟨x, hx⟩ : ∃ x, gt c k' = x := ⟨_, rfl⟩
                  rw [hx] at c2
                  have hxM : x < M := HCI.out x (by rw [← hx, gt_at hkc]; exact List.getElem_mem hkc)
                  have hxD : x < D.length := by rw [HML.out]; exact hxM
                  obtain ⟨b3, o3, e3, c3⟩ := (HF3.out wr hO).cell k' (by rw [List.length_map]; exact hkc)
                  subst e3
                  obtain ⟨b4, o4, e4, c4⟩ := (HF4.out wr hO).cell x hxD
                  subst e4
                  have hcx : (c.map (kAt D))[k']'(by rw [List.length_map]; exact hkc) = D[x] := by
                    rw [List.getElem_map, ← gt_at hkc, hx, kAt_get hxD]
                  rw [hcx] at c3
                  obtain ⟨⟨y1, y2⟩, hy⟩ : ∃ y, D[x] = y := ⟨_, rfl⟩
                  rw [hy] at c3 c4
                  obtain ⟨p30, p31⟩ := c3
                  obtain ⟨p40, p41⟩ := c4
                  have h11 : (0 : Int) ≤ (k' : Int) := Int.natCast_nonneg k'
                  have h12 : (k' : Int) < (gn : Int) := by omega
                  have h13 : (k' : Int).toNat = k' := Int.toNat_natCast k'
                  have h14 : (0 : Int) ≤ (x : Int) := Int.natCast_nonneg x
                  have h15 : (x : Int) < (M : Int) := by omega
                  have h16 : (x : Int).toNat = x := Int.toNat_natCast x
                  dsimp only at p30 p31 p40 p41
                  clear hx hcx hy
                  go_wp2
                  go_quiet (fail)
                  go_wp2
                  go_roundw
                  case rel => exact ⟨k' + 1, by omega, by go_num, hO.trans (only_drewN _ _)⟩
                  case measure => simp [intOf]; omega
                · have hkn : gn = k' := by omega
                  subst hkn
                  go_wp2
                  go_roundw
                  case rel => exact ⟨i + 1, by omega, by go_num, hO⟩
                  case measure => simp [intOf]; omega
            · have hQi : Q = i := by omega
              subst hQi
              have hOw := HW8.out.trans hO
              go_wp2_with (first | (go_at_call 24; (refine (HGN2.out _ hOw).mono ?_); rintro e w9 ⟨og2, cg2, rfl, hO9⟩) | (go_at_call 10; (refine (example_p _).mono ?_); rintro e w10 ⟨rfl, hO10⟩))
              go_ret
              exact ⟨rfl, hOw.trans (hO9.trans hO10)⟩
end Go.Proofs.Ytlnknkplebaioaa
