/-
  WALKS. The program's Group of keys.
-/
import Derived.Test.YtlnknkplebaioaaGbGj
import Derived.Deep.RegionHeld
namespace Go.Proofs.Ytlnknkplebaioaa
open Go.RowKit Go.Maps
/-- What Group hands back without uses. -/
def groupN (m : List Ky) : List (List Ky) := grpL m (compsG (gK m 0))
set_option maxRecDepth 100000 in
set_option maxHeartbeats 8000000 in
theorem GroupN_p (w : World) (oK : Option Addr) (n cK : Nat) (l : List Ky) (h : Kys w oK n l) (hn : n ≤ 1000) (hok : ∀ x ∈ l, okKy x) : Calls Try.prog 24 #[.slice oK n cK, .nilFunc] w fun e w' => ∃ oa na ca, e = .returned (.slice oa na ca) ∧ Kyz w' oa na (groupN (difK l n)) ∧ Only (fun _ => False) w w' := by
  have hl := h.len
  have hmf : ∀ (fn : Fn) (first cap : Array Value) (w : World), (Instr.makeFunc fn first cap).run Try.prog w = .ok (.func fn first cap) w := fun _ _ _ _ => rfl
  have hneq : ∀ w, Sem.run Try.prog (binOp BinOp.neq 40 .nilFunc .nilFunc) w = .ok (.bool false) w := fun _ => by kernel_rfl
  have hmk := @mk_rows
  have hwf : ∀ k, k < l.length → kyOk (kAt l k) := fun k hk => okKy_wf (hok _ (mem_kAt hk))
  have hA : Only (fun _ => False) w (w.alloc (.cells #[nilV] 42)) := (Only.refl _ _).alloc _
  have hKA := h.old hA (fun _ _ hc => hc)
  have HMO : Hid (∀ x ∈ difK l n, okKy x) := Lib.hid (fun x hx => hok x (difK_mem l n (by omega) x hx))
  have HDI := Lib.hid (distinct_p _ oK n cK l hKA (by omega) hwf)
  have hml := difK_len l n
  obtain ⟨m, hm⟩ : ∃ m, difK l n = m := ⟨_, rfl⟩
  rw [hm] at HMO HDI hml ⊢
  obtain ⟨M, hM⟩ : ∃ M, m.length = M := ⟨_, rfl⟩
  rw [hM] at HDI hml
  have HML := Lib.hid hM
  have hmkM := hmk (n := M) (by omega)
  clear hm hM hmk
  go_enter_defers Try.func24, Try.ntmps24
  go_wp2_with (go_at_call 41; (refine HDI.out.mono ?_); rintro e w5 ⟨oa, ca, b, D, rfl, hK5, hM5, hD5, hb5, hO5⟩)
  have hRb : w.heap.size < w5.heap.size := by
    have h1 := hO5.size
    have h2 : (w.alloc (.cells #[nilV] 42)).heap.size = w.heap.size + 1 := by show (Array.push _ _).size = _; rw [Array.size_push]
    omega
  have HK5 := Lib.hid hK5
  have HM5 := Lib.hid hM5
  have HD5 := Lib.hid hD5
  have HRB := Lib.hid hRb
  have hbw := hM5.lt
  have HBW := Lib.hid hbw
  have HO5 := Lib.hid (hA.trans hO5)
  have HO5' := Lib.hid hO5
  obtain ⟨B1, hB1⟩ : ∃ B, w5.heap.size = B := ⟨_, rfl⟩
  obtain ⟨W, hW⟩ : ∃ W, W = ((w5.alloc (zRO M)).alloc (.cells #[.slice (some ⟨B1, 0, none⟩) M M] 24)) := ⟨_, rfl⟩
  have hs1 : (w5.alloc (zRO M)).heap.size = B1 + 1 := by rw [← hB1]; show (Array.push _ _).size = _; rw [Array.size_push]
  have hs2 : W.heap.size = B1 + 2 := by rw [hW]; show (Array.push _ _).size = _; rw [Array.size_push, hs1]
  have hr0 : RR W B1 (.slice (some ⟨B1, 0, none⟩) M M) (List.replicate M nilV) (gK m 0) := by
    rw [hW, gK_zero, HML.out]
    have h1 : RR (w5.alloc (zRO M)) B1 (.slice (some ⟨B1, 0, none⟩) M M) (List.replicate M nilV) (List.replicate M []) := RR.made (Nat.le_refl _) (by rw [← hB1]; exact new_block w5 _) (by omega)
    exact h1.only (K := fun _ => False) ((Only.refl _ _).alloc _) (fun _ _ _ hc => hc)
  have hWb : W.heap[B1 + 1]? = some (.cells #[.slice (some ⟨B1, 0, none⟩) M M] 24 (0, 0)) := by
    rw [hW, ← hs1]
    exact new_block _ _
  have HS2 := Lib.hid hs2
  have HR0 := Lib.hid hr0
  have HWB : Hid (∀ wr, Only (fun i => i = B1 ∨ B1 + 2 ≤ i) W wr → wr.cell? ⟨B1 + 1, 0, none⟩ = some (.slice (some ⟨B1, 0, none⟩) M M)) := Lib.hid (fun wr ho => (blk_c ((ho.block (B1 + 1) (by omega) (fun hc => by rcases hc with hc | hc <;> omega)).trans hWb) rfl).1)
  have HOW : Hid (Only (fun _ => False) w5 W) := Lib.hid (by rw [hW]; exact ((Only.refl _ _).alloc _).alloc _)
  have HB1 := Lib.hid hB1
  rw [hB1, ← hW]
  clear hK5 hM5 hD5 hRb hbw hO5 hs1 hs2 hr0 hWb hW hB1 hKA hA
  obtain ⟨wr, hwr⟩ : ∃ wr : World, wr = W := ⟨_, rfl⟩
  have hR := HR0.out
  have hO : Only (fun i => i = B1 ∨ B1 + 2 ≤ i) W wr := by rw [hwr]; exact Only.refl _ _
  have q0 := HWB.out wr hO
  rw [← hwr] at hR ⊢
  have hG := gK_lt m 0
  have HE := Lib.hid hR.edg
  have hrl : ∀ r ∈ intE (gK m 0), r.length ≤ 1000000 := fun r hr => by
    obtain ⟨r', hr', rfl⟩ := List.mem_map.1 hr
    obtain ⟨j, -, rfl⟩ := List.mem_map.1 hr'
    rw [List.length_map]
    split
    · have := rowG_len m j; omega
    · exact Nat.zero_le _
  have hCP := Components_p wr (some ⟨B1, 0, none⟩) M M (intE (gK m 0)) HE.out.edz (by omega) hrl
  rw [compsE_intE hG] at hCP
  have hPA : Parts (gK m 0) (compsG (gK m 0)) := comps_parts (fun u j x hx => by
    have hu := nx_lt hx
    have h1 : x ∈ (gK m 0).getD u [] := List.mem_of_getElem? hx
    exact hG _ (by rw [List.getD_eq_getElem?_getD, List.getElem?_eq_getElem hu]; exact List.getElem_mem hu) x h1)
  obtain ⟨C, hC⟩ : ∃ C, compsG (gK m 0) = C := ⟨_, rfl⟩
  rw [hC] at hCP hPA
  have HGR : Hid (groupN m = grpL m C) := Lib.hid (by unfold groupN; rw [hC])
  have HCP := Lib.hid hCP
  have HCX : Hid (∀ j, j < C.length → ∀ x ∈ lAt C j, x < M) := Lib.hid (fun j hj x hx => by have := hPA.lt j hj x hx; rw [gK_len, HML.out] at this; exact this)
  have hcl := parts_len hPA
  rw [gK_len, HML.out] at hcl
  have hcr : ∀ j, (lAt C j).length ≤ M := fun j => by have := parts_row hPA j; rw [gK_len, HML.out] at this; exact this
  have hwrs := hO.size
  have HRBK : Hid (wr.heap[w.heap.size]? = some (.cells #[nilV] 42 (0, 0))) := Lib.hid (by
    have h0 := new_block w (.cells #[nilV] 42)
    have h1 := HO5'.out.block w.heap.size (by show _ < (Array.push _ _).size; rw [Array.size_push]; omega) (fun hc => hc)
    have h2 := HOW.out.block w.heap.size HRB.out (fun hc => hc)
    have h3 := hO.block w.heap.size (by have := HRB.out; have := HOW.out.size; omega) (fun hc => by have := HRB.out; have := HB1.out; rcases hc with hc | hc <;> omega)
    exact h3.trans (h2.trans (h1.trans h0)))
  have HKEYS : Hid (∀ wz, Only (fun i => i = w.heap.size ∨ wr.heap.size ≤ i) wr wz → Kys wz oa M m) := Lib.hid (fun wz ho => by
    have h2 := HK5.out
    have hch : Only (fun i => i = w.heap.size ∨ B1 ≤ i) w5 wz := (HOW.out.lift).trans ((hO.wide (fun i hi => .inr (by rcases hi with hi | hi <;> omega))).trans (ho.wide (fun i hi => by
      rcases hi with hi | hi
      · exact .inl hi
      · right
        have h3 := HS2.out
        have h4 := hO.size
        omega)))
    have h5 := h2.only hch (fun g hg hc => by
      have h6 := World.ownsRow.lt h2 g hg
      have h7 : (w.alloc (.cells #[nilV] 42)).heap.size = w.heap.size + 1 := by show (Array.push _ _).size = _; rw [Array.size_push]
      have h8 := HB1.out
      rcases hc with hc | hc <;> omega)
    rw [← HML.out] at h5 ⊢
    exact h5.kys)
  have HWS := Lib.hid hwrs
  clear hG hrl hCP hPA hC hwrs
  go_wp2_with (go_at_call 12; (refine HCP.out.mono ?_); rintro e w8 ⟨oc, nc, cc, rfl, hC8, hO8⟩)
  have hnc := hC8.len
  have HC8 := Lib.hid hC8
  have HO8 := Lib.hid hO8
  have hrb8 : w8.heap[w.heap.size]? = some (.cells #[nilV] 42 (0, 0)) := (hO8.block w.heap.size (by have := HWS.out; have := HS2.out; have := HRB.out; have := HB1.out; omega) (fun hc => hc)).trans HRBK.out
  have hrr8 : KKR w8 w8.heap.size nilV [] (grpL m (C.take 0)) := KKR.nil _ _
  have HR8 : Hid (w.heap.size < w8.heap.size) := Lib.hid (by have := HWS.out; have := HS2.out; have := HRB.out; have := HB1.out; have := HO8.out.size; omega)
  have HCH : Hid (Only (w.heap.size ≤ ·) w w8) := Lib.hid ((HO5.out.lift).trans ((HOW.out.lift).trans ((hO.wide (fun i hi => by
    have h1 := HRB.out
    have h2 := HB1.out
    show w.heap.size ≤ i
    rcases hi with hi | hi <;> omega)).trans (HO8.out.lift))))
  have HRW0 : Hid (w.heap.size < wr.heap.size) := Lib.hid (by have := HWS.out; have := HS2.out; have := HRB.out; have := HB1.out; omega)
  have HKW : Hid (∀ wz, Only (fun i => i = w.heap.size ∨ w8.heap.size ≤ i) w8 wz → Kys wz oa M m) := Lib.hid (fun wz ho => HKEYS.out wz ((HO8.out.lift).trans (ho.wide (fun i hi => by
    have h1 := HO8.out.size
    rcases hi with hi | hi
    · exact .inl hi
    · exact .inr (by omega)))))
  obtain ⟨i0', hi, hz0, hz1, hz2⟩ := info_parts infoKy
  obtain ⟨i1', hi1, hj0, hj1, hj2⟩ := info_parts infoKys
  clear hC8 hO8
  go_loopw [47] (fun q wx => ∃ (k : Nat) (v : Value) (vs : List Value), k ≤ nc ∧ q = .int .i64 k ∧ wx.heap[w.heap.size]? = some (.cells #[v] 42 (0, 0)) ∧ KKR wx w8.heap.size v vs (grpL m (C.take k)) ∧ Only (fun i => i = w.heap.size ∨ w8.heap.size ≤ i) w8 wx) (fun q _ => nc - (intOf q).toNat)
  case atStart => exact ⟨0, nilV, [], by omega, rfl, hrb8, hrr8, Only.refl _ _⟩
  case round =>
    clear hrb8 hrr8
    obtain ⟨j, v, vs, hj, rfl, hb, hRR, hO⟩ := hrel
    by_cases hjn : j < nc
    · have hjC : j < C.length := by omega
      obtain ⟨bC, oC, ra, rn, rc, hoc, hbC, hcC, hiC⟩ := (HC8.out.old hO (fun i hi hB hc => by
        have h1 := HRW0.out
        rcases hc with hc | hc <;> omega)).cell j hjC
      subst hoc
      have hrl := hiC.len
      have hcx := HCX.out j hjC
      have hcr2 := hcr j
      have hgt := grpL_take m hjC
      obtain ⟨c, hc⟩ : ∃ c, lAt C j = c := ⟨_, rfl⟩
      rw [hc] at hiC hrl hcx hgt hcr2
      have hcc := (blk_c (k := 0) hb rfl).1
      have h01 : (0 : Int) ≤ (j : Int) := Int.natCast_nonneg j
      have h02 : (j : Int) < (nc : Int) := by omega
      have h03 : (j : Int).toNat = j := Int.toNat_natCast j
      obtain ⟨w9, hw9⟩ : ∃ w9 : World, w9 = wr := ⟨_, rfl⟩
      subst hw9
      have HS9 : Hid (w8.heap.size ≤ w9.heap.size) := Lib.hid hO.size
      have HRR := Lib.hid hRR
      have HO9 := Lib.hid hO
      have HB9 := Lib.hid hb
      have HGT := Lib.hid hgt
      have HIC := Lib.hid hiC.ints
      have HRL := Lib.hid hrl
      have HCC := Lib.hid hcx
      have h0 : KR w9 w9.heap.size nilV ((c.take 0).map (kAt m)) := World.ownsRow_nil _ _ _ _
      clear hc hRR hO hb hgt hiC hcx
      go_wp2
      go_loopw [12, 53] (fun v q wy => ∃ k : Nat, k ≤ rn ∧ q = .int .i64 k ∧ KR wy w9.heap.size v ((c.take k).map (kAt m)) ∧ Only (w9.heap.size ≤ ·) w9 wy) (fun _ q _ => rn - (intOf q).toNat)
      case atStart => exact ⟨0, by omega, rfl, h0, Only.refl _ _⟩
      case round =>
        clear h0
        obtain ⟨k, hk, rfl, hK, hO⟩ := hrel
        obtain ⟨og, cg, hv⟩ := rowForm hK
        subst hv
        have hgl : ((c.take k).map (kAt m)).length = k := by rw [List.length_map, List.length_take]; omega
        have hK' : KR wr w9.heap.size (.slice og k cg) ((c.take k).map (kAt m)) := by
          have h1 := hK
          rw [hgl] at h1
          exact h1
        have HK := Lib.hid hK'
        have HOY := Lib.hid hO
        have HGL := Lib.hid hgl
        have HWS9 : Hid (w9.heap.size ≤ wr.heap.size) := Lib.hid hO.size
        rw [hgl]
        have HONW := Lib.hid (HO9.out.trans (hO.wide (K' := fun i => i = w.heap.size ∨ w8.heap.size ≤ i) (fun i hi => by
          have h1 := HS9.out
          have h2 : w9.heap.size ≤ i := hi
          exact .inr (by omega))))
        by_cases hkr : k < rn
        · have hkc : k < c.length := by omega
          obtain ⟨b2, o2, hra, hcv⟩ := (HIC.out.old hO (fun i hi hc => by have hc' : w9.heap.size ≤ i := hc; omega)).cell k hkc
          subst hra
          obtain ⟨x, hx⟩ : ∃ x, gt c k = x := ⟨_, rfl⟩
          rw [hx] at hcv
          have hxm : x < M := HCC.out x (by rw [← hx, gt_at hkc]; exact List.getElem_mem hkc)
          have hxl : x < m.length := by rw [HML.out]; exact hxm
          obtain ⟨b3, o3, e3, c3⟩ := (HKW.out wr HONW.out).cell x hxl
          subst e3
          obtain ⟨⟨y1, y2⟩, hy⟩ : ∃ y, m[x] = y := ⟨_, rfl⟩
          rw [hy] at c3
          obtain ⟨p0, p1⟩ := c3
          dsimp only at p0 p1
          have HNX : Hid ((c.take (k + 1)).map (kAt m) = (c.take k).map (kAt m) ++ [(y1, y2)]) := Lib.hid (by
            rw [List.take_succ_eq_append_getElem hkc, List.map_append, List.map_cons, List.map_nil, ← gt_at hkc, hx, kAt_get hxl, hy])
          have h11 : (0 : Int) ≤ (k : Int) := Int.natCast_nonneg k
          have h12 : (k : Int) < (rn : Int) := by omega
          have h13 : (k : Int).toNat = k := Int.toNat_natCast k
          have h14 : (0 : Int) ≤ (x : Int) := Int.natCast_nonneg x
          have h15 : (x : Int) < (M : Int) := by omega
          have h16 : (x : Int).toNat = x := Int.toNat_natCast x
          clear hx hy hK hK' hgl hO
          go_wp2_with (at_builtin; refine wpList_append_lies _ rfl _ _ 36 rfl w9.heap.size 38 i0' (.agg #[.int .i64 0, .int .i64 0]) 2 16 Try.underlying36 hi hz0 hz1 hz2 rfl (by decide) (.slice og k cg) k (((c.take k).map (kAt m)).flatMap kyCells) rfl (World.ownsRow.alloc (show wr.ownsRow w9.heap.size 38 2 (.slice og k cg) k (((c.take k).map (kAt m)).flatMap kyCells) by have hh := HK.out; unfold KR at hh; rw [HGL.out] at hh; exact hh) _) ⟨wr.heap.size, 0, none⟩ 1 1 (kyCells (y1, y2)) rfl rfl (World.news_of_block (new_block wr _)) (one_ky _) Nat.one_pos (by unfold maxLen; omega) (by omega) (by show w9.heap.size ≤ (Array.push _ _).size; rw [Array.size_push]; have := HWS9.out; omega) _ rfl ?_; intro g2 cg2 w12 hown8 hgrow8 hat8 hlt8; have HR8 := Lib.hid (KR.snoc (l := (c.take k).map (kAt m)) (a := (y1, y2)) (by rw [HGL.out]; exact hown8)); have HO12 := Lib.hid ((HOY.out.alloc (.cells #[.int .i64 y1, .int .i64 y2] 38)).trans (Only.grown (K := (w9.heap.size ≤ ·)) hgrow8 (fun g hg => (World.ownsRow.lt HK.out g hg).1))); clear hown8 hgrow8 hat8 hlt8)
          go_roundw
          case rel => exact ⟨k + 1, by omega, by go_num, by rw [HNX.out]; exact HR8.out, HO12.out⟩
          case measure => simp [intOf]; omega
        · have hkn : rn = k := by omega
          subst hkn
          have hful : (c.take rn).map (kAt m) = c.map (kAt m) := by rw [List.take_of_length_le (by have := HRL.out; omega)]
          have hRw := HRR.out.only hO (fun g hg hB hc => by have hc' : w9.heap.size ≤ g := hc; omega)
          obtain ⟨ol, cl, hv2⟩ := rowForm hRw.out
          have hb12 : wr.heap[w.heap.size]? = some (.cells #[v] 42 (0, 0)) := (hO.block w.heap.size (by have := HR8.out; have := HS9.out; omega) (fun hc => by have hc' : w9.heap.size ≤ w.heap.size := hc; have := HR8.out; have := HS9.out; omega)).trans HB9.out
          have hjl : (grpL m (C.take j)).length = j := by unfold grpL; rw [List.length_map, List.length_take]; omega
          rw [hjl] at hv2
          subst hv2
          have rc1 := (blk_c (k := 0) hb12 rfl).1
          have rz1 := (blk_c (k := 0) hb12 rfl).2
          have HOUT : Hid (wr.ownsRow w8.heap.size 36 1 (.slice ol j cl) j vs) := Lib.hid (by have hh := hRw.out; rw [hjl] at hh; exact hh)
          have HJL := Lib.hid hjl
          have HFUL := Lib.hid hful
          have HRW1 := Lib.hid hRw
          have HB12 := Lib.hid hb12
          clear hful hRw hb12 hjl hK hK' hgl hO
          go_wp2_with (at_builtin; refine wpList_append_lies _ rfl _ _ 42 rfl w8.heap.size 36 i1' nilV 1 24 Try.underlying42 hi1 hj0 hj1 hj2 rfl (by decide) (.slice ol j cl) j vs rfl (World.ownsRow.alloc HOUT.out _) ⟨wr.heap.size, 0, none⟩ 1 1 [.slice og rn cg] rfl rfl (World.news_of_block (new_block wr _)) (fun u hu => by rw [List.mem_singleton.1 hu]; rfl) Nat.one_pos (by unfold maxLen; omega) (by omega) (by show w8.heap.size ≤ (Array.push _ _).size; rw [Array.size_push]; have := HWS9.out; have := HS9.out; omega) _ rfl ?_; intro g2 cg2 w12 hown8 hgrow8 hat8 hlt8; have hs12 : (wr.alloc (.cells #[.slice og rn cg] 36)).heap.size = wr.heap.size + 1 := (by show (Array.push _ _).size = _; rw [Array.size_push]); have hbb : w12.heap[w.heap.size]? = some (.cells #[.slice ol j cl] 42 (0, 0)) := (hgrow8.block w.heap.size (by have := HR8.out; have := HS9.out; have := HWS9.out; omega) (fun e => by have h1 := (World.ownsRow.lt HOUT.out w.heap.size e.symm).1; have := HR8.out; omega)).trans ((((Only.refl (fun _ => False) wr).alloc (.cells #[.slice og rn cg] 36)).block w.heap.size (by have := HR8.out; have := HS9.out; have := HWS9.out; omega) (fun hc => hc)).trans HB12.out); have rc12 := (blk_c (k := 0) hbb rfl).1; have rz12 := (blk_c (k := 0) hbb rfl).2; have HBB := Lib.hid hbb; have HKR8 := Lib.hid ((HRW1.out.only (K := fun _ => False) ((Only.refl _ _).alloc (.cells #[.slice og rn cg] 36)) (fun _ _ _ hc => hc)).push (l := c.map (kAt m)) hgrow8 (by rw [← HFUL.out]; exact rowMono (HK.out.only (K := fun _ => False) ((Only.refl _ _).alloc (.cells #[.slice og rn cg] 36)) (fun _ _ hc => hc)) HS9.out) (by rw [HJL.out]; exact hown8)); have HO12 := Lib.hid ((HONW.out.alloc (.cells #[.slice og rn cg] 36)).trans (Only.grown (K := fun i => i = w.heap.size ∨ w8.heap.size ≤ i) hgrow8 (fun g hg => .inr (World.ownsRow.lt HOUT.out g hg).1))); clear hown8 hgrow8 hat8 hlt8 hbb hs12)
          go_roundw
          case rel =>
            refine ⟨j + 1, .slice (some ⟨g2, 0, none⟩) (j + 1) cg2, vs ++ [.slice og rn cg], by omega, by go_num, ?_, ?_, Only.setCell (K := fun i => i = w.heap.size ∨ w8.heap.size ≤ i) HO12.out (.inl rfl) _⟩
            · have h1 := HBB.out
              simp [World.setCell, Array.getElem?_modify, h1]
            · rw [HGT.out]
              exact HKR8.out.only (K := (· = w.heap.size)) (Only.setCell (K := (· = w.heap.size)) (Only.refl _ _) rfl _) (fun g hg hB hc => by have e : g = w.heap.size := hc; have := HR8.out; omega)
          case measure => simp [intOf]; omega
    · have hjc : nc = j := by omega
      subst hjc
      obtain ⟨ol, cl, hv⟩ := rowForm hRR.out
      subst hv
      have rc := (blk_c (k := 0) hb rfl).1
      have rz := (blk_c (k := 0) hb rfl).2
      have HFIN := Lib.hid (show Only (fun _ => False) w (wr.setCell ⟨w.heap.size, 0, none⟩ (.slice ol (grpL m (C.take nc)).length cl)) from by
        have h1 : Only (w.heap.size ≤ ·) w (wr.setCell ⟨w.heap.size, 0, none⟩ (.slice ol (grpL m (C.take nc)).length cl)) := Only.setCell (K := (w.heap.size ≤ ·)) (HCH.out.trans (hO.wide (fun i hi => by
          have h2 := HR8.out
          show w.heap.size ≤ i
          rcases hi with hi | hi <;> omega))) (b := w.heap.size) (k := 0) (Nat.le_refl _) _
        exact ⟨h1.os, h1.tape, h1.output, h1.size, fun i hi _ => h1.block i hi (fun hc => by have hc' : w.heap.size ≤ i := hc; omega)⟩)
      have HRS := Lib.hid ((hRR.only (K := (· = w.heap.size)) (Only.setCell (K := (· = w.heap.size)) (Only.refl _ _) (b := w.heap.size) (k := 0) rfl (.slice ol (grpL m (C.take nc)).length cl)) (fun g hg hB hc => by have e : g = w.heap.size := hc; have := HR8.out; omega)).kyz)
      clear hRR hb hO
      go_wp2
      refine leaves_cons (f := 40) (args := #[.pointer (some ⟨w.heap.size, 0, none⟩)]) (by simp) (by simp [go_sem]) ?_
      refine (grp_idle ⟨w.heap.size, 0, none⟩ _).mono ?_
      rintro e u' w'' ⟨rfl, rfl, rfl⟩
      simp [Leaves, settle, results, Try.results24, go_sem, rc]
      refine ⟨ol, (grpL m (C.take nc)).length, ⟨rfl, rfl⟩, ?_, HFIN.out⟩
      have h := HRS.out
      rw [HGR.out]
      rw [List.take_of_length_le (by omega)] at h ⊢
      exact h
end Go.Proofs.Ytlnknkplebaioaa
