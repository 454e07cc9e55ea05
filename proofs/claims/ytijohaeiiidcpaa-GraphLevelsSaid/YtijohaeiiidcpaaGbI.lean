/-
  WALKS. The search: numbers.
-/
import Derived.Test.YtijohaeiiidcpaaGbHa
import Derived.Laws.EntriesVeiled
namespace Go.Proofs.Ytijohaeiiidcpaa
open Go.RowKit Go.Maps
/-- A graph's value, and its variable's block. -/
structure GB (w : World) (g : Nat) (oE : Option Addr) (n cE : Nat) : Prop where
  blk : w.heap[g]? = some (.cells #[.slice oE n cE] 24 (0, 0))
theorem runs_end {G : List (List Nat)} {s : SS} (h : s.path = []) : ∀ f, runS G f s = s := fun f => run_nil h
set_option maxRecDepth 100000 in
set_option maxHeartbeats 16000000 in
theorem numbers_p (w : World) (oE : Option Addr) (cE : Nat) (G : List (List Nat)) (oS : Option Addr) (nS cS : Nat) (l : List Nat) (hE : Edg w oE G.length G) (hV : ValidG G) (hn : G.length ≤ 1000000) (hD : ∀ u, degG G u ≤ 100000000)
    (hS : Ints w oS nS l) (hnS : nS ≤ 1000000000) (hl : ∀ v ∈ l, v < G.length) :
    Calls Try.prog 29 #[.agg #[.slice oE G.length cE], .slice oS nS cS] w fun e w' => ∃ v, e = .returned v ∧ IR w' w.heap.size v (numbersS G l) ∧ Only (fun _ => False) w w' := by
  have hnn : G.length ≤ 1000000000 := by omega
  have HS := Lib.hid hS
  have hlen := hS.len
  obtain ⟨B, hB⟩ : ∃ B, (w.alloc (.cells #[.slice oE G.length cE] 24)).heap.size = B := ⟨_, rfl⟩
  have hBw : B = w.heap.size + 1 := by rw [← hB]; show (Array.push _ _).size = _; rw [Array.size_push]
  have HGE := Lib.hid (show GE w B oE G from ⟨hE, by omega, hV, hn, hD⟩)
  have HB := Lib.hid hB
  have HBW := Lib.hid hBw
  have HL := Lib.hid hl
  clear hE hS hB hBw hV hD hl
  go_enter Try.func29, Try.ntmps29
  go_wp2_with (go_at_call 47; (refine (newSearch_p _ oE G.length cE hnn).mono ?_); rintro e w1 ⟨b, r, rfl, hM, hO1⟩; rw [HB.out] at hM; have k6 : ((w1.alloc (.cells #[.pointer (some ⟨b, 0, none⟩)] 67)).alloc (.cells #[.nilFunc] 69)).cell? ⟨w1.heap.size + 1, 0, none⟩ = some .nilFunc := (blk_c (new_at _ (by show (Array.push _ _).size = _; rw [Array.size_push])) rfl).1; have z6 : ((w1.alloc (.cells #[.pointer (some ⟨b, 0, none⟩)] 67)).alloc (.cells #[.nilFunc] 69)).frozen? ⟨w1.heap.size + 1, 0, none⟩ = false := (blk_c (v := .nilFunc) (new_at _ (by show (Array.push _ _).size = _; rw [Array.size_push])) rfl).2)
  have hO1' : Only (fun _ => False) w w1 := ((Only.refl _ _).alloc _).trans hO1
  have hbx := hM.lt
  have hBb := hM.low
  clear k6 z6 hO1
  obtain ⟨bs, hbs⟩ : ∃ bs, w1.heap.size = bs := ⟨_, rfl⟩
  obtain ⟨bv, hbv⟩ : ∃ bv, bs + 1 = bv := ⟨_, rfl⟩
  have hX0 : ∀ W, W.heap = (w1.heap.push (.cells #[.pointer (some ⟨b, 0, none⟩)] 67)).push (.cells #[.func (.func 48) #[] #[.pointer (some ⟨bs, 0, none⟩), .pointer (some ⟨bv, 0, none⟩)]] 69) → BX W b bs bv := fun W hW => by
    have s1 : (w1.heap.push (.cells #[.pointer (some ⟨b, 0, none⟩)] 67)).size = bs + 1 := by rw [Array.size_push, hbs]
    refine ⟨?_, ?_⟩
    · rw [hW, push_lt (by omega), push_at hbs.symm]
    · rw [hW, push_at (by omega)]
  have HBS := Lib.hid hbs
  have HX0 := Lib.hid hX0
  rw [hbs, hbv]
  obtain ⟨w2, hw2⟩ : ∃ w2, (w1.alloc (.cells #[.pointer (some ⟨b, 0, none⟩)] 67)).alloc (.cells #[.func (.func 48) #[] #[.pointer (some ⟨bs, 0, none⟩), .pointer (some ⟨bv, 0, none⟩)]] 69) = w2 := ⟨_, rfl⟩
  have hX2 : BX w2 b bs bv := hX0 w2 (by rw [← hw2]; rfl)
  have hM2 : SM w2 B b (.slice oE G.length cE) r (s0S G.length) := by rw [← hw2]; exact (hM.same ((Only.refl _ _).alloc _)).same ((Only.refl _ _).alloc _)
  have hO2 : Only (fun _ => False) w w2 := by rw [← hw2]; exact (hO1'.alloc _).alloc _
  have hL0 := s0_lt G
  have hOB : Only (B ≤ ·) w w2 := hO2.lift
  rw [hw2]
  clear hw2 hX0 hbs hbv hM hO1' hbx
  go_loopw [15] (fun i wr => ∃ (k : Nat) (rx : Nat → Value) (sx : SS), k ≤ nS ∧ i = .int .i64 k ∧ SM wr B b (.slice oE G.length cE) rx sx ∧ Lt G sx ∧ sx.path = [] ∧ Hid ((l.drop k).foldl (startS G) sx = l.foldl (startS G) (s0S G.length)) ∧ BX wr b bs bv ∧ Only (B ≤ ·) w wr) (fun i _ => nS - (intOf i).toNat)
  case atStart => exact ⟨0, r, s0S G.length, by omega, rfl, hM2, hL0, rfl, Lib.hid rfl, hX2, hOB⟩
  case round =>
    clear hM2 hX2 hO2 hL0 hOB
    obtain ⟨k, rx, sx, hk, rfl, hS, hL, hp, HF, hX, hO⟩ := hrel
    by_cases hlt : k < nS
    · have hkl : k < l.length := by omega
      obtain ⟨oSb, oSo, hoS, hcv⟩ := (HS.out.old hO (fun i hi hc => by have := HBW.out; have hc' : B ≤ i := hc; omega)).cell k hkl
      subst hoS
      obtain ⟨v, hv⟩ : ∃ v, gt l k = v := ⟨_, rfl⟩
      rw [hv] at hcv
      have hvl : l[k] = v := by rw [← gt_at hkl]; exact hv
      have hvn : v < G.length := HL.out v (hvl ▸ List.getElem_mem hkl)
      have HDR : Hid (l.drop k = v :: l.drop (k + 1)) := Lib.hid (by rw [List.drop_eq_getElem_cons hkl, hvl])
      clear hv hvl
      have h05 : (0 : Int) ≤ (v : Int) := Int.natCast_nonneg v
      have h06 : (v : Int) < (G.length : Int) := by omega
      have h07 : (v : Int).toNat = v := Int.toNat_natCast v
      have k0 := hX.cs
      have kv := hX.cv
      obtain ⟨gp, cp, hvp, hcp, qp, fp, np⟩ := hS.rat (i := 0) (k := v) (by decide) (by show v < sx.place.length; rw [hL.lp]; exact hvn)
      have c1 := hS.cr (i := 0) (by decide)
      have e0 : (dat sx 0).length = G.length := hL.lp
      rw [hvp, e0] at c1
      rw [e0] at hcp
      change wr.cell? _ = some (iV (gt sx.place v)) at qp
      obtain ⟨pp, hpp⟩ : ∃ k, gt sx.place v = k := ⟨_, rfl⟩
      rw [hpp] at qp
      have hvpl : v < sx.place.length := by rw [hL.lp]; exact hvn
      have hll : sx.lowest.length = sx.place.length := by rw [hL.lp, hL.ll]
      have hbe : sx.found + sx.path.length + sx.opn.length ≤ 1000000000 := by have := hL.fnd; have := hL.plen; have := hL.olen; omega
      have HPP := Lib.hid hpp
      have HP := Lib.hid hp
      have hlb := hS.low
      clear e0 hvp hpp
      obtain ⟨wo, hwo⟩ : ∃ wo : World, wo = wr := ⟨_, rfl⟩
      subst hwo
      by_cases hz : pp = 0
      · subst hz
        have HST : Hid (runS G (fuelG G) (enterS sx v) = startS G sx v) := Lib.hid (by unfold startS; rw [if_pos HPP.out])
        have HMU : Hid (mu G (enterS sx v) ≤ fuelG G) := Lib.hid (by have := start_mu hL HP.out hvn; rwa [if_pos HPP.out] at this)
        have hL1 : Lt G (enterS sx v) := enter_lt hL hvn HPP.out (.inl HP.out)
        go_wp2_with (go_at_call 49; (refine (enter_p hS hvpl hll hbe).mono ?_); rintro e w5 ⟨rfl, r1, hS1, hF1⟩; have hX1 := hX.frm hS hF1; have hO5 := hO.trans (hF1.low hlb))
        have hmu : mu G (enterS sx v) ≤ fuelG G := HMU.out
        go_loopg [] (mu G (enterS sx v)) (fun gk wr => ∃ (ry : Nat → Value) (sy : SS) (f : Nat), SM wr B b (.slice oE G.length cE) ry sy ∧ Lt G sy ∧ mu G sy ≤ f ∧ mu G sy = gk ∧ Hid (runS G f sy = startS G sx v) ∧ BX wr b bs bv ∧ Only (B ≤ ·) w wr)
        case atStart => exact ⟨r1, (enterS sx v), fuelG G, hS1, hL1, hmu, rfl, HST, hX1, hO5⟩
        case round =>
          obtain ⟨ry, sy, f, hS6, hL6, hmf, hgk, HR6, hX6, hO6⟩ := hrel
          have k06 := hX6.cs
          have kv6 := hX6.cv
          have c5 := hS6.cr (i := 4) (by decide)
          obtain ⟨op, cap, hvp6⟩ := hS6.rowv (i := 4) (by decide)
          rw [hvp6] at c5
          clear hvp6
          rcases path_cases sy.path with hp6 | ⟨A, u, hp6⟩
          · have e4 : (dat sy 4).length = 0 := by show sy.path.length = 0; rw [hp6]; rfl
            rw [e4] at c5
            have HFN : Hid ((l.drop (k + 1)).foldl (startS G) sy = l.foldl (startS G) (s0S G.length)) := Lib.hid (by
              rw [← HF.out, HDR.out, List.foldl_cons, ← HR6.out, run_nil hp6])
            clear e4
            go_wp2
            go_roundw
            case rel => exact ⟨k + 1, ry, sy, by omega, by go_num, hS6, hL6, hp6, HFN, hX6, hO6⟩
            case measure => simp [intOf]; omega
          · obtain ⟨m, hm⟩ : ∃ m, A.length = m := ⟨_, rfl⟩
            have e4 : (dat sy 4).length = m + 1 := by show sy.path.length = _; rw [hp6, ← hm]; simp
            rw [e4] at c5
            have hcd : decide ((0 : Int) < (m : Int) + 1) = true := decide_eq_true (by omega)
            have hpl6 : sy.path.length ≤ 1000000000 := by have := hL6.plen; omega
            have hV := Lib.hid (visit_p (bs := bs) (bv := bv) (cE := cE) (b := b) HGE.out 1000 0 rfl)
            have HP6 := Lib.hid hp6
            have hne6 : sy.path ≠ [] := by rw [hp6]; simp
            have HNE := Lib.hid hne6
            clear e4 hm hp6 hne6
            go_wp2
            go_region_with (first | (go_at_call 50; (refine (end_p (hS6.same ((Only.refl _ _).drew)) HP6.out hpl6).mono ?_); rintro e w7 ⟨rfl, hO7⟩; have hS7 := (hS6.same ((Only.refl _ _).drew)).same hO7; have hX7 := (hX6.same ((Only.refl _ _).drew)).same hO7; have k07 := hX7.cs; have kv7 := hX7.cv; have hO7w : Only (B ≤ ·) w w7 := hO6.trans (Only.lift (((Only.refl _ _).drew).trans hO7))) | (go_at_call 48; (refine (hV.out w7 ry sy A u hS7 hL6 HP6.out hO7w hX7).mono ?_); rintro e w8 ⟨rfl, j8, s8, hN8, ⟨r8, hS8, hF8⟩, -⟩; have HN8 := Lib.hid hN8; have HF8 := Lib.hid hF8; clear hN8 hF8))
            all_goals
              have hL8 : Lt G s8 := HN8.out.lt HGE.out.val hL6
              have hm8 := HN8.out.mu HGE.out.val hL6
              have HM8 := Lib.hid hm8
              have HMF := Lib.hid hmf
              have HR8 : Hid (runS G (f - (j8 + 1)) s8 = startS G sx v) := Lib.hid (by
                rw [← HR6.out, ← HN8.out.run (f - (j8 + 1)), show f - (j8 + 1) + (j8 + 1) = f by omega])
              have HX8 := Lib.hid (hX7.frm hS7 HF8.out)
              have HO8 := Lib.hid (hO7w.trans (HF8.out.low hlb))
              clear hm8 hmf
              go_wp2
              go_roundg (mu G s8)
              case rel => exact ⟨r8, s8, f - (j8 + 1), hS8, hL8, by have := HM8.out; have := HMF.out; omega, rfl, HR8, HX8.out, HO8.out⟩
              case measure => have := HM8.out; omega
      · have hz1 : ((pp : Int) == 0) = false := by simp; omega
        have hz2 : ¬ (pp : Int) = 0 := by omega
        have HST : Hid (runS G (fuelG G) sx = startS G sx v) := Lib.hid (by unfold startS; rw [if_neg (by rw [HPP.out]; exact hz)])
        have HMU : Hid (mu G sx ≤ fuelG G) := Lib.hid (by have := start_mu hL HP.out hvn; rwa [if_neg (by rw [HPP.out]; exact hz)] at this)
        go_wp2
        have hmu : mu G sx ≤ fuelG G := HMU.out
        go_loopg [] (mu G sx) (fun gk wr => ∃ (ry : Nat → Value) (sy : SS) (f : Nat), SM wr B b (.slice oE G.length cE) ry sy ∧ Lt G sy ∧ mu G sy ≤ f ∧ mu G sy = gk ∧ Hid (runS G f sy = startS G sx v) ∧ BX wr b bs bv ∧ Only (B ≤ ·) w wr)
        case atStart => exact ⟨rx, sx, fuelG G, hS, hL, hmu, rfl, HST, hX, hO⟩
        case round =>
          obtain ⟨ry, sy, f, hS6, hL6, hmf, hgk, HR6, hX6, hO6⟩ := hrel
          have k06 := hX6.cs
          have kv6 := hX6.cv
          have c5 := hS6.cr (i := 4) (by decide)
          obtain ⟨op, cap, hvp6⟩ := hS6.rowv (i := 4) (by decide)
          rw [hvp6] at c5
          clear hvp6
          rcases path_cases sy.path with hp6 | ⟨A, u, hp6⟩
          · have e4 : (dat sy 4).length = 0 := by show sy.path.length = 0; rw [hp6]; rfl
            rw [e4] at c5
            have HFN : Hid ((l.drop (k + 1)).foldl (startS G) sy = l.foldl (startS G) (s0S G.length)) := Lib.hid (by
              rw [← HF.out, HDR.out, List.foldl_cons, ← HR6.out, run_nil hp6])
            clear e4
            go_wp2
            go_roundw
            case rel => exact ⟨k + 1, ry, sy, by omega, by go_num, hS6, hL6, hp6, HFN, hX6, hO6⟩
            case measure => simp [intOf]; omega
          · obtain ⟨m, hm⟩ : ∃ m, A.length = m := ⟨_, rfl⟩
            have e4 : (dat sy 4).length = m + 1 := by show sy.path.length = _; rw [hp6, ← hm]; simp
            rw [e4] at c5
            have hcd : decide ((0 : Int) < (m : Int) + 1) = true := decide_eq_true (by omega)
            have hpl6 : sy.path.length ≤ 1000000000 := by have := hL6.plen; omega
            have hV := Lib.hid (visit_p (bs := bs) (bv := bv) (cE := cE) (b := b) HGE.out 1000 0 rfl)
            have HP6 := Lib.hid hp6
            have hne6 : sy.path ≠ [] := by rw [hp6]; simp
            have HNE := Lib.hid hne6
            clear e4 hm hp6 hne6
            go_wp2
            go_region_with (first | (go_at_call 50; (refine (end_p (hS6.same ((Only.refl _ _).drew)) HP6.out hpl6).mono ?_); rintro e w7 ⟨rfl, hO7⟩; have hS7 := (hS6.same ((Only.refl _ _).drew)).same hO7; have hX7 := (hX6.same ((Only.refl _ _).drew)).same hO7; have k07 := hX7.cs; have kv7 := hX7.cv; have hO7w : Only (B ≤ ·) w w7 := hO6.trans (Only.lift (((Only.refl _ _).drew).trans hO7))) | (go_at_call 48; (refine (hV.out w7 ry sy A u hS7 hL6 HP6.out hO7w hX7).mono ?_); rintro e w8 ⟨rfl, j8, s8, hN8, ⟨r8, hS8, hF8⟩, -⟩; have HN8 := Lib.hid hN8; have HF8 := Lib.hid hF8; clear hN8 hF8))
            all_goals
              have hL8 : Lt G s8 := HN8.out.lt HGE.out.val hL6
              have hm8 := HN8.out.mu HGE.out.val hL6
              have HM8 := Lib.hid hm8
              have HMF := Lib.hid hmf
              have HR8 : Hid (runS G (f - (j8 + 1)) s8 = startS G sx v) := Lib.hid (by
                rw [← HR6.out, ← HN8.out.run (f - (j8 + 1)), show f - (j8 + 1) + (j8 + 1) = f by omega])
              have HX8 := Lib.hid (hX7.frm hS7 HF8.out)
              have HO8 := Lib.hid (hO7w.trans (HF8.out.low hlb))
              clear hm8 hmf
              go_wp2
              go_roundg (mu G s8)
              case rel => exact ⟨r8, s8, f - (j8 + 1), hS8, hL8, by have := HM8.out; have := HMF.out; omega, rfl, HR8, HX8.out, HO8.out⟩
              case measure => have := HM8.out; omega
    · have hkn : k = nS := by omega
      have hdn : l.drop k = [] := List.drop_eq_nil_of_le (by omega)
      have HR : Hid (sx = l.foldl (startS G) (s0S G.length)) := Lib.hid (by rw [← HF.out, hdn]; rfl)
      have k0 := hX.cs
      have c4 := hS.cr (i := 3) (by decide)
      obtain ⟨on, cn, hvn⟩ := hS.rowv (i := 3) (by decide)
      have hrow := hS.row 3 (by decide)
      rw [hvn] at c4 hrow
      have hB1 := HBW.out
      clear hvn
      go_wp2
      go_ret
      refine ⟨_, rfl, ?_, ⟨hO.os, hO.tape, hO.output, hO.size, fun i hi _ => hO.block i hi (fun hc => by have hc' : B ≤ i := hc; omega)⟩⟩
      show IR _ _ _ ((l.foldl (startS G) (s0S G.length)).number)
      rw [← HR.out]
      exact rowMono hrow (by omega)
end Go.Proofs.Ytijohaeiiidcpaa
