/-
  WALKS. The program's list of modules: names, edges, faults.
-/
import Derived.Test.YtigmdiagdlbdpaaGreatMgl
import Derived.Test.YtigmdiagdlbdpaaGreatGbIe
import Derived.Deep.RegionHeld
namespace Go.Proofs.YtigmdiagdlbdpaaGreat
open Go.RowKit Go.Maps
/-- The first fault of a list, cycles apart. -/
def conF (l : List Md) : Option (Nat × Nm) := match twiceP l [] with
  | some s => some (13, s)
  | none => match lacksP (nsP l) l with
    | some s => some (16, s)
    | none => none
theorem drop_md {l : List Md} {k : Nat} (hk : k < l.length) : l.drop k = mdAt l k :: l.drop (k + 1) := by
  rw [List.drop_eq_getElem_cons hk, mdAt_get hk]
theorem take_nm {l : List Md} {k : Nat} (hk : k < l.length) : (l.take (k + 1)).map Md.nm = (l.take k).map Md.nm ++ [(mdAt l k).nm] := by
  rw [List.take_succ_eq_append_getElem hk, List.map_append, mdAt_get hk]
  rfl
theorem nsP_sorted {l : List Md} (h : (l.map Md.nm).Nodup) : (nsP l).Pairwise (· < ·) := by
  have h1 := List.pairwise_mergeSort leN_trans leN_total (l.map Md.nm)
  have h2 : (nsP l).Nodup := nsP_nodup h
  have h3 : (nsP l).Pairwise (fun a b => leN a b = true) := h1
  refine (h3.and h2).imp (fun {a b} hab => ?_)
  obtain ⟨h4, h5⟩ := hab
  simp only [leN, decide_eq_true_eq] at h4
  apply Classical.byContradiction
  intro hn
  exact h5 (List.le_antisymm h4 (List.not_lt.1 hn))
theorem lackP_at {ns im : List Nm} {j : Nat} (h : ∀ i, i < j → nAt im i ∈ ns) (hj : j < im.length) (hn : nAt im j ∉ ns) : lackP ns im = some (nAt im j) := by
  have e : im = im.take j ++ nAt im j :: im.drop (j + 1) := by
    rw [nAt_get hj, ← List.drop_eq_getElem_cons hj, List.take_append_drop]
  have h1 : (im.take j).find? (fun s => !ns.contains s) = none := by
    rw [List.find?_eq_none]
    intro x hx
    obtain ⟨i, hi, e2⟩ := List.getElem_of_mem hx
    rw [List.length_take] at hi
    rw [List.getElem_take] at e2
    have h2 := h i (by omega)
    rw [nAt_get (by omega), e2] at h2
    simp [h2]
  unfold lackP
  rw [e, List.find?_append, h1]
  simp [hn]
  rw [← e]
theorem only6b {K : Nat → Prop} {w A : World} {b c : Nat} {v0 v1 f0 f1 f2 f3 : Value} (h : Only K w A) (hb : K b) (hc : K c) : Only K w ((((((A.setCell ⟨b, 0, none⟩ v0).setCell ⟨b, 1, none⟩ v1).setCell ⟨c, 0, none⟩ f0).setCell ⟨c, 1, none⟩ f1).setCell ⟨c, 2, none⟩ f2).setCell ⟨c, 3, none⟩ f3) :=
  (Only.setCell (Only.setCell (Only.setCell (Only.setCell (Only.setCell (Only.setCell h hb _) hb _) hc _) hc _) hc _) hc _)
theorem only6 {K : Nat → Prop} {w A : World} {b c : Nat} {v0 v1 f0 f1 f2 f3 : Value} (h : Only K w A) (hb : K b) (hc : K c) : Only K w ((((((A.setCell ⟨b, 0, none⟩ v0).setCell ⟨b, 1, none⟩ v1).setCell ⟨c, 0, none⟩ f0).setCell ⟨c, 1, none⟩ f1).setCell ⟨c, 2, none⟩ f2).setCell ⟨c, 3, none⟩ f3).drew :=
  (Only.setCell (Only.setCell (Only.setCell (Only.setCell (Only.setCell (Only.setCell h hb _) hb _) hc _) hc _) hc _) hc _).drew
/-- What consistent hands back. -/
def conQ (n : Nat) (l : List Md) (w : World) (e : Ending) (w' : World) : Prop := (match conF l with
    | some (c, s) => e = .returned (.tuple #[prN, faV c s])
    | none => ∃ oN cN oE cE, e = .returned (.tuple #[prV oN n cN oE n cE, faV 0 []]) ∧ SR w' w.heap.size (.slice oN n cN) (nsP l) ∧ EdgB w' w.heap.size oE n (grP l)) ∧ Only (fun _ => False) w w'
theorem conQ_bad {n c : Nat} {l : List Md} {s : Nm} {w w' : World} (h : conF l = some (c, s)) (ho : Only (fun _ => False) w w') : conQ n l w (.returned (.tuple #[prN, faV c s])) w' := by
  unfold conQ
  rw [h]
  exact ⟨rfl, ho⟩
theorem conQ_good {n : Nat} {l : List Md} {w w' : World} (h : conF l = none) {oN oE : Option Addr} {cN cE : Nat} (hs : SR w' w.heap.size (.slice oN n cN) (nsP l)) (he : EdgB w' w.heap.size oE n (grP l)) (ho : Only (fun _ => False) w w') : conQ n l w (.returned (.tuple #[prV oN n cN oE n cE, faV 0 []])) w' := by
  unfold conQ
  rw [h]
  exact ⟨⟨oN, cN, oE, cE, rfl, hs, he⟩, ho⟩
theorem zPr (w : World) : (zeroValue 51).run Tryz.prog w = .ok prN w := by kernel_rfl
set_option maxRecDepth 100000 in
set_option maxHeartbeats 4000000 in
theorem consistent_p (w : World) (oa : Option Addr) (n ca : Nat) (l : List Md) (h : Mdz w oa n l) (hn : n ≤ 32) (hsz : ∀ m ∈ l, SzM m) (him : ∀ m ∈ l, m.im.length ≤ 100000) : Calls Tryz.prog 38 #[.slice oa n ca] w (conQ n l w) := by
  have hl := h.len
  have h1 : ¬ (32 : Int) < (n : Int) := by omega
  have h2 : decide ((32 : Int) < (n : Int)) = false := decide_eq_false h1
  have hmm := @run_makeMap Tryz.prog
  obtain ⟨B0, hB0⟩ : ∃ B, w.heap.size = B := ⟨_, rfl⟩
  have s1 : (w.alloc (.cells prN.cells 51)).heap.size = B0 + 1 := by rw [← hB0]; show (Array.push _ _).size = _; rw [Array.size_push]
  have s2 : ((w.alloc (.cells prN.cells 51)).alloc (.cells (faV 0 []).cells 28)).heap.size = B0 + 2 := by show (Array.push _ _).size = _; rw [Array.size_push, s1]
  have s3 : (((w.alloc (.cells prN.cells 51)).alloc (.cells (faV 0 []).cells 28)).alloc (.map #[] 0)).heap.size = B0 + 3 := by show (Array.push _ _).size = _; rw [Array.size_push, s2]
  have hb0 := new_block w (.cells prN.cells 51)
  have hb1 := new_block (w.alloc (.cells prN.cells 51)) (.cells (faV 0 []).cells 28)
  have hk1 : (((w.alloc (.cells prN.cells 51)).alloc (.cells (faV 0 []).cells 28)).alloc (.map #[] 0)).heap[B0]? = some (.cells prN.cells 51 (0, 0)) := by
    rw [← hB0]
    exact ((((Only.refl (fun _ => False) (w.alloc (.cells prN.cells 51))).alloc (.cells (faV 0 []).cells 28)).alloc (.map #[] 0)).block w.heap.size (by rw [s1]; omega) (fun hc => hc)).trans hb0
  have hk2 : (((w.alloc (.cells prN.cells 51)).alloc (.cells (faV 0 []).cells 28)).alloc (.map #[] 0)).heap[B0 + 1]? = some (.cells (faV 0 []).cells 28 (0, 0)) := by
    rw [← s1]
    exact (((Only.refl (fun _ => False) _).alloc (.map #[] 0)).block _ (by rw [s2, s1]; omega) (fun hc => hc)).trans hb1
  have hset : SetS (((w.alloc (.cells prN.cells 51)).alloc (.cells (faV 0 []).cells 28)).alloc (.map #[] 0)) (B0 + 2) 0 [] := by
    rw [← s2]
    exact SetS.made _
  have hOW : Only (fun _ => False) w (((w.alloc (.cells prN.cells 51)).alloc (.cells (faV 0 []).cells 28)).alloc (.map #[] 0)) := ((Only.refl _ _).alloc _).alloc _ |>.alloc _
  obtain ⟨W, hW⟩ : ∃ W, ((w.alloc (.cells prN.cells 51)).alloc (.cells (faV 0 []).cells 28)).alloc (.map #[] 0) = W := ⟨_, rfl⟩
  rw [hW] at s3 hk1 hk2 hset hOW
  have HK1 := Lib.hid hk1
  have HK2 := Lib.hid hk2
  have HSE := Lib.hid hset
  have HOW := Lib.hid hOW
  have HS3 := Lib.hid s3
  have HSZ := Lib.hid hsz
  have HIM := Lib.hid him
  have HM : Hid (∀ wx, Only (B0 ≤ ·) w wx → Mdz wx oa n l) := Lib.hid (fun wx ho => h.old ho (fun i hi hc => by have hc' : B0 ≤ i := hc; omega))
  have HB0 := Lib.hid hB0
  clear hb0 hb1 hk1 hk2 hset hOW s3 hsz him h s1 s2
  go_enter Tryz.func38, Tryz.ntmps38
  go_wp2
  have hW' : ((w.alloc (.cells #[.slice none 0 0, .slice none 0 0] 51)).alloc (.cells #[.int .i64 0, .string ⟨#[]⟩, .int .i64 0, .int .i64 0] 28)).alloc (.map #[] 0) = W := hW
  rw [hW']
  clear hW hW'
  obtain ⟨bM, hbM⟩ : ∃ b, B0 + 1 + 1 = b := ⟨_, rfl⟩
  have HSE' : SetS W bM 0 [] := by rw [← hbM]; exact HSE.out
  have HS4 : Hid (B0 + 1 + 1 = bM ∧ W.heap.size = bM + 1) := Lib.hid ⟨hbM, by rw [← hbM]; exact HS3.out⟩
  have HFR : Hid (∀ wx, Only (fun i => i = bM ∨ bM + 1 ≤ i) W wx → Only (B0 ≤ ·) w wx ∧ Only (fun _ => False) w wx ∧ wx.heap[B0]? = some (.cells #[.slice none 0 0, .slice none 0 0] 51 (0, 0)) ∧ wx.heap[B0 + 1]? = some (.cells #[.int .i64 0, .string ⟨#[]⟩, .int .i64 0, .int .i64 0] 28 (0, 0))) := Lib.hid (fun wx ho => by
    have h1 := HOW.out.lift (K := (B0 ≤ ·)) |>.trans (ho.wide (K' := (B0 ≤ ·)) (fun i hi => by have h3 := HS4.out.1; show B0 ≤ i; rcases hi with hi | hi <;> omega))
    refine ⟨h1, ⟨h1.os, h1.tape, h1.output, h1.size, fun i hi _ => h1.block i hi (fun hc => by have hc' : B0 ≤ i := hc; have := HB0.out; omega)⟩, (ho.block B0 (lt_of_block HK1.out) (fun hc => by have h3 := HS4.out.1; rcases hc with hc | hc <;> omega)).trans HK1.out, (ho.block (B0 + 1) (lt_of_block HK2.out) (fun hc => by have h3 := HS4.out.1; rcases hc with hc | hc <;> omega)).trans HK2.out⟩)
  have HRS : Hid (∀ wx, Only (B0 ≤ ·) w wx → Only (fun _ => False) w wx) := Lib.hid (fun wx h1 => ⟨h1.os, h1.tape, h1.output, h1.size, fun i hi _ => h1.block i hi (fun hc => by have hc' : B0 ≤ i := hc; have := HB0.out; omega)⟩)
  have HSE0 := Lib.hid HSE'
  rw [hbM]
  have HOW0 := Lib.hid HOW.out
  clear HSE' HSE hbM HB0 hB0 HOW HK1 HK2
  go_loopw [25] (fun q wr => ∃ (k : Nat) (U : List Nm), k ≤ n ∧ q = .int .i64 k ∧ SetS wr bM k U ∧ Hid (twiceP (l.drop k) U = twiceP l []) ∧ Hid (U.Perm ((l.take k).map Md.nm)) ∧ Only (fun i => i = bM ∨ bM + 1 ≤ i) W wr) (fun q _ => n - (intOf q).toNat)
  case atStart => exact ⟨0, [], by omega, rfl, HSE0.out, Lib.hid rfl, Lib.hid (List.Perm.refl _), Only.refl _ _⟩
  case round =>
    obtain ⟨k, U, hk, rfl, hU, HTW, HPE, hO⟩ := hrel
    obtain ⟨f1, f2, f3, f4⟩ := HFR.out wr hO
    by_cases hkn : k < n
    · have hkl : k < l.length := by omega
      obtain ⟨b1, o1, e1, c1⟩ := (HM.out wr f1).cell k hkl
      subst e1
      have hmem : mdAt l k ∈ l := by rw [mdAt_get hkl]; exact List.getElem_mem hkl
      have hszk := HSZ.out _ hmem
      have htk := take_nm hkl
      have hdk := drop_md hkl
      obtain ⟨al, ox, oi, od, nx, cx, ni, ci, nd, cd, p0, p1, p2, p3, p4, -⟩ := c1
      obtain ⟨nm, hnm⟩ : ∃ s, (mdAt l k).nm = s := ⟨_, rfl⟩
      rw [hnm] at p0 htk
      have hn1 : nm.length ≤ maxLen := by rw [← hnm]; exact hszk.1
      have HNM := Lib.hid hnm
      have HTK := Lib.hid htk
      have HDK := Lib.hid hdk
      have h01 : (0 : Int) ≤ (k : Int) := Int.natCast_nonneg k
      have h02 : (k : Int) < (n : Int) := by omega
      have h03 : (k : Int).toNat = k := Int.toNat_natCast k
      have hOA : Only (fun i => i = bM ∨ bM + 1 ≤ i) W (wr.alloc (.cells #[encStr nm, .bool al, .slice ox nx cx, .slice oi ni ci, .slice od nd cd] 42)) := hO.alloc _
      have hUA := hU.only (K := fun _ => False) ((Only.refl _ _).alloc (.cells #[encStr nm, .bool al, .slice ox nx cx, .slice oi ni ci, .slice od nd cd] 42)) (fun hc => hc)
      have hlk := hUA.look hn1
      have hkb := new_block wr (.cells #[encStr nm, .bool al, .slice ox nx cx, .slice oi ni ci, .slice od nd cd] 42)
      have HOA := Lib.hid hOA
      have HUA := Lib.hid hUA
      clear hnm htk hdk hszk hU f1 f2 f3 f4 hOA hUA
      by_cases hin : nm ∈ U
      · have HTW2 : Hid (twiceP l [] = some nm) := Lib.hid (by
          rw [← HTW.out, HDK.out]
          unfold twiceP
          rw [HNM.out, if_pos hin])
        rw [decide_eq_true hin] at hlk
        obtain ⟨f1, f2, f3, f4⟩ := HFR.out _ HOA.out
        have x0 := blk_c (k := 0) f3 rfl
        have x1 := blk_c (k := 1) f3 rfl
        have y0 := blk_c (k := 0) f4 rfl
        have y1 := blk_c (k := 1) f4 rfl
        have y2 := blk_c (k := 2) f4 rfl
        have y3 := blk_c (k := 3) f4 rfl
        obtain ⟨xa0, xz0⟩ := x0
        obtain ⟨xa1, xz1⟩ := x1
        obtain ⟨ya0, yz0⟩ := y0
        obtain ⟨ya1, yz1⟩ := y1
        obtain ⟨ya2, yz2⟩ := y2
        obtain ⟨ya3, yz3⟩ := y3
        have HF3 := Lib.hid f3
        have HF4 := Lib.hid f4
        have hkb0 : (wr.alloc (.cells #[encStr nm, .bool al, .slice ox nx cx, .slice oi ni ci, .slice od nd cd] 42)).cell? ⟨wr.heap.size, 0, none⟩ = some (.string ⟨nm.toArray⟩) := (blk_c (k := 0) hkb rfl).1
        have hws : bM + 1 ≤ wr.heap.size := by have := hO.size; have := HS4.out.2; omega
        have hbm := HS4.out.1
        have d1 : ¬ wr.heap.size = B0 := by omega
        have d2 : ¬ B0 = wr.heap.size := by omega
        have d3 : ¬ wr.heap.size = B0 + 1 := by omega
        have d4 : ¬ B0 + 1 = wr.heap.size := by omega
        have HF1 := Lib.hid f1
        clear hin f1 f2 f3 f4 hbm hkb hws
        go_wp2
        go_region
        all_goals
          go_wp2
          refine bodyPost_ret (v := .tuple #[prN, faV 13 nm]) (conRes _ _ B0 (B0 + 1) _ _ _ _ _ _ rfl rfl ?_ ?_) rfl ?_
          · have h1 := HF3.out
            simp [World.setCell, World.drew, Array.getElem?_modify, h1]
          · have h1 := HF4.out
            simp [World.setCell, World.drew, Array.getElem?_modify, h1]
          · exact conQ_bad (by unfold conF; rw [HTW2.out]) (HRS.out _ (only6 HF1.out (Nat.le_refl _) (Nat.le_succ _)))
      · rw [decide_eq_false hin] at hlk
        have HTW2 : Hid (twiceP (l.drop (k + 1)) (nm :: U) = twiceP l []) := Lib.hid (by
          have h3 := HTW.out
          rw [HDK.out] at h3
          rw [← h3]
          show _ = (if (mdAt l k).nm ∈ U then _ else _)
          rw [HNM.out, if_neg hin])
        have HPE2 : Hid ((nm :: U).Perm ((l.take (k + 1)).map Md.nm)) := Lib.hid (by
          rw [HTK.out]
          exact (HPE.out.cons nm).trans (List.perm_append_singleton nm _).symm)
        obtain ⟨w8, hr8, hU8, hO8⟩ := HUA.out.mark (by omega) hn1
        have HU8 := Lib.hid hU8
        have HO8 := Lib.hid (HOA.out.trans (hO8.wide (K' := fun i => i = bM ∨ bM + 1 ≤ i) (fun i hi => .inl hi)))
        clear hin hU8 hO8
        go_wp2
        go_roundw
        case rel => exact ⟨k + 1, nm :: U, by omega, by go_num, HU8.out, HTW2, HPE2, HO8.out⟩
        case measure => simp [intOf]; omega
    · have hkn2 : n = k := by omega
      subst hkn2
      have hTN : twiceP l [] = none := by
        have h3 := HTW.out
        rw [List.drop_eq_nil_of_le (by omega)] at h3
        exact h3.symm
      have hPU : U.Perm (l.map Md.nm) := by
        have h3 := HPE.out
        rwa [List.take_of_length_le (by omega)] at h3
      have hND : (l.map Md.nm).Nodup := (twiceP_none.1 hTN).1
      have hNS : U.mergeSort leN = nsP l := sort_perm hPU
      have hUL : U.length = n := by rw [hPU.length_eq, List.length_map]; omega
      have HSO := Lib.hid (sortedS_p wr bM n U hU (hPU.nodup_iff.2 hND) (by omega))
      rw [hNS, hUL] at HSO
      have HTN := Lib.hid hTN
      have HND := Lib.hid hND
      have HOO := Lib.hid hO
      clear hU hTN hPU hND hNS hUL f1 f2 f3 f4 HTW HPE
      have hmr := @mk_rows n (by omega)
      go_wp2_with (go_at_call 53; (refine HSO.out.mono ?_); rintro e w5 ⟨oN, cN, rfl, hN5, hO5⟩)
      have HSRT := Lib.hid (nsP_sorted HND.out)
      have hnsl : (nsP l).length = n := by rw [nsP_len]; exact hl
      have hnm2 : ∀ m ∈ l, m.nm ∈ nsP l := fun m hm => nsP_mem.2 (List.mem_map_of_mem hm)
      obtain ⟨ns, hns⟩ : ∃ ns, nsP l = ns := ⟨_, rfl⟩
      rw [hns] at HSRT hN5 hnsl hnm2
      have HNM := Lib.hid hnm2
      have HNS := Lib.hid hns
      obtain ⟨B7, hB7⟩ : ∃ B, w5.heap.size = B := ⟨_, rfl⟩
      have r1 : (w5.alloc (.cells #[.slice oN n cN, .slice (some ⟨B7 + 1, 0, none⟩) n n] 51)).heap.size = B7 + 1 := by rw [← hB7]; show (Array.push _ _).size = _; rw [Array.size_push]
      have r2 : ((w5.alloc (.cells #[.slice oN n cN, .slice (some ⟨B7 + 1, 0, none⟩) n n] 51)).alloc (zRO n)).heap.size = B7 + 2 := by show (Array.push _ _).size = _; rw [Array.size_push, r1]
      have hb7 : ((w5.alloc (.cells #[.slice oN n cN, .slice (some ⟨B7 + 1, 0, none⟩) n n] 51)).alloc (zRO n)).heap[B7]? = some (.cells #[.slice oN n cN, .slice (some ⟨B7 + 1, 0, none⟩) n n] 51 (0, 0)) := by
        have h3 := (((Only.refl (fun _ => False) _).alloc (zRO n)).block w5.heap.size (by rw [r1, hB7]; omega) (fun hc => hc)).trans (new_block w5 (.cells #[.slice oN n cN, .slice (some ⟨B7 + 1, 0, none⟩) n n] 51))
        rwa [hB7] at h3
      have hr0 : RR ((w5.alloc (.cells #[.slice oN n cN, .slice (some ⟨B7 + 1, 0, none⟩) n n] 51)).alloc (zRO n)) (B7 + 1) (.slice (some ⟨B7 + 1, 0, none⟩) n n) (List.replicate n nilV) (edP ns l 0) := by
        show RR _ _ _ _ (List.replicate ns.length [])
        rw [hnsl]
        exact RR.made (Nat.le_refl _) (new_at _ r1) (by omega)
      have hO5V : Only (fun _ => False) wr ((w5.alloc (.cells #[.slice oN n cN, .slice (some ⟨B7 + 1, 0, none⟩) n n] 51)).alloc (zRO n)) := (hO5.alloc _).alloc _
      have hst0 : Strz ((w5.alloc (.cells #[.slice oN n cN, .slice (some ⟨B7 + 1, 0, none⟩) n n] 51)).alloc (zRO n)) oN n ns := hN5.strz.old (((Only.refl (fun _ => False) w5).alloc _).alloc _) (fun _ _ hc => hc)
      have hw57 : bM + 1 ≤ B7 := by
        have h3 := HS4.out.2
        have h4 := HOO.out.size
        have h5 := hO5.size
        omega
      rw [hB7]
      obtain ⟨V0, hV0⟩ : ∃ V, (w5.alloc (.cells #[.slice oN n cN, .slice (some ⟨B7 + 1, 0, none⟩) n n] 51)).alloc (zRO n) = V := ⟨_, rfl⟩
      rw [hV0] at r2 hb7 hr0 hO5V hst0 ⊢
      have HF2 : Hid (∀ wx, Only (fun i => B7 + 1 ≤ i) V0 wx → Only (B0 ≤ ·) w wx ∧ Only (fun _ => False) w wx ∧ wx.heap[B0]? = some (.cells #[.slice none 0 0, .slice none 0 0] 51 (0, 0)) ∧ wx.heap[B0 + 1]? = some (.cells #[.int .i64 0, .string ⟨#[]⟩, .int .i64 0, .int .i64 0] 28 (0, 0)) ∧ wx.heap[B7]? = some (.cells #[.slice oN n cN, .slice (some ⟨B7 + 1, 0, none⟩) n n] 51 (0, 0))) := Lib.hid (fun wx ho => by
        obtain ⟨g1, g2, g3, g4⟩ := HFR.out wx ((HOO.out.trans (hO5V.lift)).trans (ho.wide (fun i hi => .inr (by have hi' : B7 + 1 ≤ i := hi; omega))))
        exact ⟨g1, g2, g3, g4, (ho.block B7 (lt_of_block hb7) (fun hc => by have hc' : B7 + 1 ≤ B7 := hc; omega)).trans hb7⟩)
      have HST : Hid (∀ wx, Only (fun i => B7 + 1 ≤ i) V0 wx → Strz wx oN n ns) := Lib.hid (fun wx ho => (hN5.strz).old ((Only.refl (B7 ≤ ·) w5).trans ((((Only.refl (B7 ≤ ·) w5).alloc _).alloc _).trans ((show Only (B7 ≤ ·) _ _ from hV0 ▸ (ho.wide (K' := (B7 ≤ ·)) (fun i hi => by have hi' : B7 + 1 ≤ i := hi; show B7 ≤ i; omega)))))) (fun i hi hc => by have hc' : B7 ≤ i := hc; omega))
      have HST3 : Hid (∀ wx, Only (fun i => B7 + 1 ≤ i) V0 wx → ∀ wy, Only (fun i => i = B0 ∨ i = B0 + 1) wx wy → SR wy w.heap.size (.slice oN n cN) ns) := Lib.hid (fun wx ho wy hy => by
        have h3 : SR V0 wr.heap.size (.slice oN n cN) ns := by
          rw [← hV0]
          exact hN5.only (((Only.refl (fun _ => False) w5).alloc _).alloc _) (fun _ _ hc => hc)
        have h4 := h3.only ho (fun g hg hc => by
          have h5 := (World.ownsRow.lt hN5 g hg).2
          have hc' : B7 + 1 ≤ g := hc
          omega)
        have h6 := h4.only hy (fun g hg hc => by
          have h5 := (World.ownsRow.lt hN5 g hg).1
          have h7 := HS4.out.2
          have h8 := HOO.out.size
          have h9 := HS4.out.1
          rcases hc with hc | hc <;> omega)
        exact rowMono h6 (by have h7 := HOO.out.size; have h8 := HS4.out.2; have h9 := HOW0.out.size; omega))
      have HR0 := Lib.hid hr0
      have HV2 := Lib.hid r2
      have HB57 := Lib.hid hw57
      clear hN5 hO5 hns hnm2 hB7 r1 r2 hb7 hr0 hO5V hst0 hV0 hw57 HSO HFR hmr
      go_loopw [51] (fun q wr => ∃ (k : Nat) (vs : List Value), k ≤ n ∧ q = .int .i64 k ∧ RR wr (B7 + 1) (.slice (some ⟨B7 + 1, 0, none⟩) n n) vs (edP ns l k) ∧ Hid (lacksP ns (l.drop k) = lacksP ns l) ∧ Only (fun i => B7 + 1 ≤ i) V0 wr) (fun q _ => n - (intOf q).toNat)
      case atStart => exact ⟨0, List.replicate n nilV, by omega, rfl, HR0.out, Lib.hid rfl, Only.refl _ _⟩
      case round =>
        obtain ⟨k, vs, hk, rfl, hR, HLA, hO⟩ := hrel
        have HR := Lib.hid hR
        have HO := Lib.hid hO
        obtain ⟨g1, g2, g3, g4, g5⟩ := HF2.out wr hO
        have HWZ : Hid (B7 + 2 ≤ wr.heap.size) := Lib.hid (by have := hO.size; have := HV2.out; omega)
        clear hR
        by_cases hkn : k < n
        · have hkl : k < l.length := by omega
          obtain ⟨b1, o1, e1, c1⟩ := (HM.out wr g1).cell k hkl
          subst e1
          have hmem : mdAt l k ∈ l := by rw [mdAt_get hkl]; exact List.getElem_mem hkl
          have hszk := HSZ.out _ hmem
          have himl := HIM.out _ hmem
          have hnin := HNM.out _ hmem
          have HDK := Lib.hid (drop_md hkl)
          obtain ⟨al, ox, oi, od, nx, cx, ni, ci, nd, cd, p0, p1, p2, p3, p4, hIm⟩ := c1
          have hniE := hIm.len
          obtain ⟨m, hm⟩ : ∃ m, mdAt l k = m := ⟨_, rfl⟩
          rw [hm] at p0 hszk himl hnin hIm hniE
          have hed : edP ns l (k + 1) = (edP ns l k).set (nodeP ns m.nm) (rowP ns m.im) := by rw [← hm]; rfl
          have HED := Lib.hid hed
          have HMK := Lib.hid hm
          obtain ⟨nm, im⟩ := m
          dsimp only at p0 hszk himl hnin hIm hniE hed
          have HSK := Lib.hid hszk
          have HNI := Lib.hid hnin
          have h01 : (0 : Int) ≤ (k : Int) := Int.natCast_nonneg k
          have h02 : (k : Int) < (n : Int) := by omega
          have h03 : (k : Int).toNat = k := Int.toNat_natCast k
          obtain ⟨X, hX⟩ : ∃ X, wr.heap.size = X := ⟨_, rfl⟩
          have t1 : (wr.alloc (.cells #[encStr nm, .bool al, .slice ox nx cx, .slice oi ni ci, .slice od nd cd] 42)).heap.size = X + 1 := by rw [← hX]; show (Array.push _ _).size = _; rw [Array.size_push]
          have t2 : ((wr.alloc (.cells #[encStr nm, .bool al, .slice ox nx cx, .slice oi ni ci, .slice od nd cd] 42)).alloc (.map #[] 0)).heap.size = X + 2 := by show (Array.push _ _).size = _; rw [Array.size_push, t1]
          have hbx : ((wr.alloc (.cells #[encStr nm, .bool al, .slice ox nx cx, .slice oi ni ci, .slice od nd cd] 42)).alloc (.map #[] 0)).heap[X]? = some (.cells #[encStr nm, .bool al, .slice ox nx cx, .slice oi ni ci, .slice od nd cd] 42 (0, 0)) := by
            rw [← hX]
            exact (((Only.refl (fun _ => False) _).alloc (.map #[] 0)).block wr.heap.size (by rw [t1, hX]; omega) (fun hc => hc)).trans (new_block wr _)
          have hsi : SetI ((wr.alloc (.cells #[encStr nm, .bool al, .slice ox nx cx, .slice oi ni ci, .slice od nd cd] 42)).alloc (.map #[] 0)) (X + 1) 0 [] := by
            rw [← t1]
            exact SetI.made _
          have hOY : Only (fun _ => False) wr ((wr.alloc (.cells #[encStr nm, .bool al, .slice ox nx cx, .slice oi ni ci, .slice od nd cd] 42)).alloc (.map #[] 0)) := ((Only.refl _ _).alloc _).alloc _
          have HHX := Lib.hid hX
          have HIM2 := Lib.hid hIm
          clear hm hed hszk hnin t1 g1 g2 g3 g4 g5 hO hIm
          go_wp2
          obtain ⟨Y, hY⟩ : ∃ Y, (wr.alloc (.cells #[.string ⟨nm.toArray⟩, .bool al, .slice ox nx cx, .slice oi ni ci, .slice od nd cd] 42)).alloc (.map #[] 0) = Y := ⟨_, rfl⟩
          have hY2 : (wr.alloc (.cells #[encStr nm, .bool al, .slice ox nx cx, .slice oi ni ci, .slice od nd cd] 42)).alloc (.map #[] 0) = Y := hY
          rw [hY2] at t2 hbx hsi hOY
          rw [hY]
          have HF3 : Hid (∀ wx, Only (fun i => X + 1 ≤ i) Y wx → Only (fun i => B7 + 1 ≤ i) V0 wx ∧ wx.heap[X]? = some (.cells #[encStr nm, .bool al, .slice ox nx cx, .slice oi ni ci, .slice od nd cd] 42 (0, 0)) ∧ Imz wx oi ni im) := Lib.hid (fun wx ho => by
            have hx2 := HHX.out
            have hx3 := HWZ.out
            refine ⟨(HO.out.trans hOY.lift).trans (ho.wide (fun i hi => by have hi' : X + 1 ≤ i := hi; omega)), (ho.block X (lt_of_block hbx) (fun hc => by have hc' : X + 1 ≤ X := hc; omega)).trans hbx, HIM2.out.old ((hOY.lift (K := (X ≤ ·))).trans (ho.wide (fun i hi => by have hi' : X + 1 ≤ i := hi; show X ≤ i; omega))) (fun i hi hc => by have hc' : X ≤ i := hc; omega)⟩)
          have HRX : Hid (∀ wx, Only (fun i => X + 1 ≤ i) Y wx → RR wx (B7 + 1) (.slice (some ⟨B7 + 1, 0, none⟩) n n) vs (edP ns l k)) := Lib.hid (fun wx ho => by
            have hx2 := HHX.out
            exact HR.out.only ((hOY.lift (K := (X ≤ ·))).trans (ho.wide (fun i hi => by have hi' : X + 1 ≤ i := hi; show X ≤ i; omega))) (fun i _ hi hc => by have hc' : X ≤ i := hc; omega))
          have HRB : Hid (∀ j, j < (edP ns l k).length → ∀ b, (vAt vs j).ownBlock = some b → b < X) := Lib.hid (fun j hj b hb => by have h3 := (World.ownsRow.lt (HR.out.row j hj) b hb).2; have h4 := HHX.out; omega)
          have HSI := Lib.hid hsi
          have HTY := Lib.hid t2
          clear hY hY2 hbx hsi hOY t2
          go_loopw [59] (fun q wr => ∃ (j : Nat) (V : List Nat), j ≤ ni ∧ q = .int .i64 j ∧ SetI wr (X + 1) j V ∧ Hid ((∀ x, x ∈ V ↔ ∃ i, i < j ∧ x = nodeP ns (nAt im i)) ∧ ∀ i, i < j → nAt im i ∈ ns) ∧ Only (fun i => X + 1 ≤ i) Y wr) (fun q _ => ni - (intOf q).toNat)
          case atStart => exact ⟨0, [], by omega, rfl, HSI.out, Lib.hid ⟨fun x => ⟨(fun h => by cases h), fun ⟨i, hi, _⟩ => absurd hi (Nat.not_lt_zero _)⟩, fun i hi => absurd hi (Nat.not_lt_zero _)⟩, Only.refl _ _⟩
          case round =>
            obtain ⟨j, V, hj, rfl, hV, HV, hO3⟩ := hrel
            obtain ⟨q1, q2, q3⟩ := HF3.out wr hO3
            by_cases hjn : j < ni
            · have hjl : j < im.length := by omega
              obtain ⟨b2, o2, e2, c2⟩ := q3.cell j hjl
              subst e2
              obtain ⟨qa, qb, qc, sa, on, nn, cc, i0, i1, i2, i3, i4, i5⟩ := c2
              obtain ⟨s, hs⟩ : ∃ s, nAt im j = s := ⟨_, rfl⟩
              rw [hs] at i0
              have hsz1 : s.length ≤ maxLen := HSK.out.2 s (by rw [← hs, nAt_get hjl]; exact List.getElem_mem hjl)
              have HS := Lib.hid hs
              have h11 : (0 : Int) ≤ (j : Int) := Int.natCast_nonneg j
              have h12 : (j : Int) < (ni : Int) := by omega
              have h13 : (j : Int).toNat = j := Int.toNat_natCast j
              obtain ⟨A, hA⟩ : ∃ A, wr.alloc (.cells #[.string ⟨s.toArray⟩, .bool qa, .string sa, .bool qb, .bool qc, .slice on nn cc] 69) = A := ⟨_, rfl⟩
              have hOA : Only (fun _ => False) wr A := by rw [← hA]; exact (Only.refl _ _).alloc _
              have hOA3 : Only (fun i => X + 1 ≤ i) Y A := hO3.trans hOA.lift
              obtain ⟨v1, v2, v3⟩ := HF3.out A hOA3
              obtain ⟨u1, u2, u3, u4, u5⟩ := HF2.out A v1
              have y0 := (blk_c (k := 0) u5 rfl).1
              have y1 := (blk_c (k := 1) u5 rfl).1
              have hbi : A.heap[wr.heap.size]? = some (.cells #[.string ⟨s.toArray⟩, .bool qa, .string sa, .bool qb, .bool qc, .slice on nn cc] 69 (0, 0)) := by rw [← hA]; exact new_block wr _
              have y2 := (blk_c (k := 0) hbi rfl).1
              have HND2 := Lib.hid (node_p A oN n cN (some ⟨B7 + 1, 0, none⟩) n n ns (HST.out A v1) HSRT.out (by omega) s)
              have HOA3 := Lib.hid hOA3
              have HVA := Lib.hid (hV.only hOA (fun hc => hc))
              have HBI := Lib.hid hbi
              clear u1 u2 u3 u4 u5 v1 v2 v3 q1 q2 q3 hs hbi hV
              by_cases hin : s ∈ ns
              · rw [decide_eq_true hin] at HND2
                have HIN := Lib.hid hin
                have HLE : Hid (∀ i, i = nodeP ns s → i ≤ 1000000) := Lib.hid (fun i e => by rw [e]; have := nodeP_lt HIN.out; omega)
                clear hin
                go_wp2_with (go_at_call 49; (refine HND2.out.mono ?_); rintro e w6 ⟨i, rfl, hi, hO6⟩; have hie := Lib.hid (hi HIN.out); have hj5 : j + 1 ≤ 1000000 := (by omega); obtain ⟨w8, hr8, hV8, hO8⟩ := (HVA.out.only hO6 (fun hc => hc)).mark hj5 (HLE.out i hie.out); clear hi hj5)
                have hie := hie.out
                have HV8 := Lib.hid hV8
                have HO8 := Lib.hid ((HOA3.out.trans hO6.lift).trans (hO8.wide (K' := fun i => X + 1 ≤ i) (fun i hi => by have hi' : i = X + 1 := hi; omega)))
                have HVN : Hid ((∀ x, x ∈ i :: V ↔ ∃ i', i' < j + 1 ∧ x = nodeP ns (nAt im i')) ∧ ∀ i', i' < j + 1 → nAt im i' ∈ ns) := Lib.hid (by
                  refine ⟨fun x => ?_, fun i' hi' => ?_⟩
                  · rw [List.mem_cons, HV.out.1]
                    constructor
                    · rintro (rfl | ⟨i', h1, h2⟩)
                      · exact ⟨j, by omega, by rw [HS.out]; exact hie⟩
                      · exact ⟨i', by omega, h2⟩
                    · rintro ⟨i', h1, h2⟩
                      by_cases e : i' = j
                      · left
                        rw [h2, e, HS.out, hie]
                      · exact .inr ⟨i', by omega, h2⟩
                  · by_cases e : i' = j
                    · rw [e, HS.out]; exact HIN.out
                    · exact HV.out.2 i' (by omega))
                clear hie hV8 hO8
                go_roundw
                case rel => exact ⟨j + 1, i :: V, by omega, by go_num, HV8.out, HVN, HO8.out⟩
                case measure => simp [intOf]; omega
              · rw [decide_eq_false hin] at HND2
                have HIN := Lib.hid hin
                clear hin
                go_wp2_with (go_at_call 49; (refine HND2.out.mono ?_); rintro e w6 ⟨i, rfl, -, hO6⟩; have hO63 := HOA3.out.trans (hO6.lift (K := fun i => X + 1 ≤ i)); obtain ⟨v1, -, -⟩ := HF3.out w6 hO63; obtain ⟨u1, u2, u3, u4, u5⟩ := HF2.out w6 v1; have HU1 := Lib.hid u1; have HU3 := Lib.hid u3; have HU4 := Lib.hid u4; obtain ⟨xa0, xz0⟩ := blk_c (k := 0) u3 rfl; obtain ⟨xa1, xz1⟩ := blk_c (k := 1) u3 rfl; obtain ⟨ya0, yz0⟩ := blk_c (k := 0) u4 rfl; obtain ⟨ya1, yz1⟩ := blk_c (k := 1) u4 rfl; obtain ⟨ya2, yz2⟩ := blk_c (k := 2) u4 rfl; obtain ⟨ya3, yz3⟩ := blk_c (k := 3) u4 rfl; have zb := (blk_c (k := 0) ((hO6.block wr.heap.size (lt_of_block HBI.out) (fun hc => hc)).trans HBI.out) rfl).1; have hwsz : B7 + 2 ≤ wr.heap.size := (by have := hO3.size; have := HTY.out; have := HHX.out; have := HWZ.out; omega); have hb57 := HB57.out; have hb4 := HS4.out.1; have d1 : ¬ wr.heap.size = B0 := (by omega); have d2 : ¬ B0 = wr.heap.size := (by omega); have d3 : ¬ wr.heap.size = B0 + 1 := (by omega); have d4 : ¬ B0 + 1 = wr.heap.size := (by omega); clear u1 u3 u4 u5 v1 u2 hb4 hb57 hwsz)
                go_region
                all_goals
                  go_wp2
                  refine bodyPost_ret (v := .tuple #[prN, faV 16 s]) (conRes _ _ B0 (B0 + 1) _ _ _ _ _ _ rfl rfl ?_ ?_) rfl ?_
                  · have h1 := HU3.out
                    simp [World.setCell, World.drew, Array.getElem?_modify, h1]
                  · have h1 := HU4.out
                    simp [World.setCell, World.drew, Array.getElem?_modify, h1]
                  · refine conQ_bad ?_ (HRS.out _ (only6 HU1.out (Nat.le_refl _) (Nat.le_succ _)))
                    unfold conF
                    rw [HTN.out, HNS.out, ← HLA.out, HDK.out, HMK.out]
                    unfold lacksP
                    have h3 := lackP_at (ns := ns) (im := im) (j := j) HV.out.2 hjl (by rw [HS.out]; exact HIN.out)
                    rw [HS.out] at h3
                    rw [h3]
            · have hnj : j = ni := by omega
              subst hnj
              have hLN : lackP ns im = none := lackP_none.2 (fun s hs => by
                obtain ⟨i, hi, e⟩ := List.getElem_of_mem hs
                have h3 := HV.out.2 i (by omega)
                rwa [nAt_get hi, e] at h3)
              have HLN : Hid (lacksP ns (l.drop (k + 1)) = lacksP ns l) := Lib.hid (by
                rw [← HLA.out, HDK.out, HMK.out]
                show _ = (match lackP ns im with | some s => some s | none => lacksP ns (l.drop (k + 1)))
                rw [hLN])
              have hVO : ordS V n = rowP ns im := by
                unfold ordS rowP
                rw [hnsl]
                apply List.filter_congr
                intro x hx
                have hxn := List.mem_range.1 hx
                have hnd := HSRT.out.imp (fun {a b} (h : a < b) (e : a = b) => by subst e; exact List.lt_irrefl _ h)
                rw [Bool.eq_iff_iff, List.contains_iff_mem, List.contains_iff_mem, HV.out.1]
                constructor
                · rintro ⟨i, h3, h4⟩
                  have h5 := nodeP_at (HV.out.2 i h3)
                  rw [h4, h5, nAt_get (by omega)]
                  exact List.getElem_mem _
                · intro h3
                  obtain ⟨i, h4, h5⟩ := List.getElem_of_mem h3
                  refine ⟨i, by omega, ?_⟩
                  rw [nAt_get h4, h5]
                  exact (nodeP_nAt hnd (by omega)).symm
              obtain ⟨u1, u2, u3, u4, u5⟩ := HF2.out wr q1
              have y0 := (blk_c (k := 0) u5 rfl).1
              have y1 := (blk_c (k := 1) u5 rfl).1
              have y2 : wr.cell? ⟨X, 0, none⟩ = some (.string ⟨nm.toArray⟩) := (blk_c (k := 0) q2 rfl).1
              have HND2 := Lib.hid (node_p wr oN n cN (some ⟨B7 + 1, 0, none⟩) n n ns (HST.out wr q1) HSRT.out (by omega) nm)
              have hnin := HNI.out
              rw [decide_eq_true hnin] at HND2
              have HPT : Hid (nodeP ns nm < n) := Lib.hid (by have := nodeP_lt hnin; omega)
              have HSO := Lib.hid (fun wx (ho : Only (fun _ => False) wr wx) => sortedI_p wx (X + 1) j V n (hV.only ho (fun hc => hc)) (fun x hx => by
                obtain ⟨i, h3, h4⟩ := (HV.out.1 x).1 hx
                have := nodeP_lt (HV.out.2 i h3)
                omega) (by omega))
              rw [hVO] at HSO
              have HQ1 := Lib.hid q1
              have HU5 := Lib.hid u5
              clear u1 u2 u3 u4 u5 q1 q2 q3 hV hVO hLN hnin
              go_wp2_with (go_at_call 49; (refine HND2.out.mono ?_); rintro e w6 ⟨i, rfl, hi, hO6⟩)
              have hie := hi HNI.out
              subst hie
              have hn0 := HPT.out
              have hel : (edP ns l k).length = n := by rw [edP_len]; exact hnsl
              obtain ⟨p, hp⟩ : ∃ p, nodeP ns nm = p := ⟨_, rfl⟩
              rw [hp] at hn0
              have HED2 : Hid (edP ns l (k + 1) = (edP ns l k).set p (rowP ns im)) := Lib.hid (by have h3 := HED.out; rw [hp] at h3; exact h3)
              have HO36 := Lib.hid (hO3.trans (hO6.lift (K := fun i => X + 1 ≤ i)))
              have hc16 : w6.cell? ⟨B7, 1, none⟩ = some (.slice (some ⟨B7 + 1, 0, none⟩) n n) := (blk_c (k := 1) ((hO6.block B7 (lt_of_block HU5.out) (fun hc => hc)).trans HU5.out) rfl).1
              have hs0 : Only (fun _ => False) w6 w6.drew ∧ w6.drew.cell? ⟨B7, 1, none⟩ = some (.slice (some ⟨B7 + 1, 0, none⟩) n n) := ⟨(Only.refl _ _).drew, hc16⟩
              have HK : Hid (∀ a c, (Only (fun _ => False) w6 a ∧ a.cell? ⟨B7, 1, none⟩ = some (.slice (some ⟨B7 + 1, 0, none⟩) n n)) → Only (fun _ => False) a c → (Only (fun _ => False) w6 c ∧ c.cell? ⟨B7, 1, none⟩ = some (.slice (some ⟨B7 + 1, 0, none⟩) n n))) := Lib.hid (fun a c h1 h2 => ⟨h1.1.trans h2, (World.cell?_of_block (h2.block _ (cell_lt h1.2) (fun hc => hc))).trans h1.2⟩)
              have HO6 := Lib.hid hO6
              have h14 : (0 : Int) ≤ (p : Int) := Int.natCast_nonneg p
              have h15 : (p : Int) < (n : Int) := by omega
              have h16 : (p : Int).toNat = p := Int.toNat_natCast p
              have HPN := Lib.hid hn0
              have HEL := Lib.hid hel
              have HATK : Hid (∀ wx, Only (fun _ => False) w6 wx → ∃ v0, wx.cell? ⟨B7 + 1, p, none⟩ = some v0 ∧ wx.frozen? ⟨B7 + 1, p, none⟩ = false) := Lib.hid (fun wx ho => by
                obtain ⟨gg, cc, hvv, -, -, c7, z7⟩ := (HRX.out wx (HO36.out.trans (ho.lift))).at (i := p) (by rw [HEL.out]; exact HPN.out)
                cases hvv
                exact ⟨_, c7, z7⟩)
              rw [hp]
              clear hi hO6 hO3 hp hel hc16 y0 y1 y2
              go_wp2
              have e0 := hs0.2
              go_region_with
                (first | (go_at_call 54; (refine (HSO.out _ (HO6.out.trans hs0.1)).mono ?_); rintro e w7 ⟨oS, cS, rfl, hR7, hO7⟩; have hs7 := HK.out _ _ hs0 hO7; have e7 := hs7.2; obtain ⟨v0, hc7, hz7⟩ := HATK.out _ hs7.1))
              all_goals
                have HR7 := Lib.hid hR7
                have HO7 := Lib.hid (HO36.out.trans (hs7.1.lift (K := fun i => X + 1 ≤ i)))
                have HW67 : Hid (X + 2 ≤ w6.heap.size) := Lib.hid (by have h3 := HO36.out.size; have h4 := HTY.out; omega)
                have HS67 : Hid (w6.heap.size ≤ w7.heap.size) := Lib.hid hs7.1.size
                have HRN : Hid (RR (w7.setCell ⟨B7 + 1, p, none⟩ (.slice oS (rowP ns im).length cS)) (B7 + 1) (.slice (some ⟨B7 + 1, 0, none⟩) n n) (vs.set p (.slice oS (rowP ns im).length cS)) (edP ns l (k + 1))) := Lib.hid (by
                  have hx3 : B7 + 1 ≤ w6.heap.size := by have h3 := HW67.out; have h4 := HWZ.out; have h5 := HHX.out; omega
                  have hx4 : IR w7 (B7 + 1) (.slice oS (rowP ns im).length cS) (rowP ns im) := rowMono HR7.out hx3
                  have hx5 := (HRX.out w7 HO7.out).put (p := p) (by rw [HEL.out]; exact HPN.out) hx4 (fun b hb j hj e => by
                    have h3 := HRB.out j hj b e
                    have h4 : w6.heap.size ≤ b := (World.ownsRow.lt HR7.out b hb).1
                    have h5 := HW67.out
                    omega)
                  rw [HED2.out]
                  exact hx5)
                have HON : Hid (Only (fun i => B7 + 1 ≤ i) V0 (w7.setCell ⟨B7 + 1, p, none⟩ (.slice oS (rowP ns im).length cS))) := Lib.hid (Only.setCell (K := fun i => B7 + 1 ≤ i) (HF3.out w7 HO7.out).1 (Nat.le_refl _) _)
                clear hs7 hs0 e0 e7 hR7 hO7 hc7 hz7
                go_wp2
                go_roundw
                case rel => exact ⟨k + 1, vs.set p (.slice oS (rowP ns im).length cS), by omega, by go_num, HRN.out, HLN, HON.out⟩
                case measure => simp [intOf]; omega
        · have hkn2 : n = k := by omega
          subst hkn2
          have hLN : lacksP ns l = none := by
            have h3 := HLA.out
            rw [List.drop_eq_nil_of_le (by omega)] at h3
            exact h3.symm
          have HCN : Hid (conF l = none) := Lib.hid (by unfold conF; rw [HTN.out, HNS.out, hLN])
          have HGP : Hid (grP l = edP ns l n) := Lib.hid (by unfold grP; rw [HNS.out, hl])
          obtain ⟨xa0, xz0⟩ := blk_c (k := 0) g3 rfl
          obtain ⟨xa1, xz1⟩ := blk_c (k := 1) g3 rfl
          obtain ⟨ya0, yz0⟩ := blk_c (k := 0) g4 rfl
          obtain ⟨ya1, yz1⟩ := blk_c (k := 1) g4 rfl
          obtain ⟨ya2, yz2⟩ := blk_c (k := 2) g4 rfl
          obtain ⟨ya3, yz3⟩ := blk_c (k := 3) g4 rfl
          obtain ⟨za0, zz0⟩ := blk_c (k := 0) g5 rfl
          obtain ⟨za1, zz1⟩ := blk_c (k := 1) g5 rfl
          have HG1 := Lib.hid g1
          have HG3 := Lib.hid g3
          have HG4 := Lib.hid g4
          have hb57 := HB57.out
          have hb4 := HS4.out.1
          have d1 : ¬ B7 = B0 := by omega
          have d2 : ¬ B0 = B7 := by omega
          have d3 : ¬ B7 = B0 + 1 := by omega
          have d4 : ¬ B0 + 1 = B7 := by omega
          have HD := Lib.hid (show B0 + 1 < B7 by omega)
          have HFD := Lib.hid (only6b (K := fun i => i = B0 ∨ i = B0 + 1) (v0 := .slice oN n cN) (v1 := .slice (some ⟨B7 + 1, 0, none⟩) n n) (f0 := .int .i64 0) (f1 := .string ⟨#[]⟩) (f2 := .int .i64 0) (f3 := .int .i64 0) (Only.refl (fun i => i = B0 ∨ i = B0 + 1) wr) (b := B0) (c := B0 + 1) (.inl rfl) (.inr rfl))
          have HFE := Lib.hid (HRS.out _ (only6b (v0 := .slice oN n cN) (v1 := .slice (some ⟨B7 + 1, 0, none⟩) n n) (f0 := .int .i64 0) (f1 := .string ⟨#[]⟩) (f2 := .int .i64 0) (f3 := .int .i64 0) HG1.out (b := B0) (c := B0 + 1) (Nat.le_refl _) (Nat.le_succ _)))
          clear g1 g2 g3 g4 g5 hLN hb57 hb4 hO
          go_wp2
          refine bodyPost_ret (v := .tuple #[prV oN n cN (some ⟨B7 + 1, 0, none⟩) n n, faV 0 []]) (conRes _ _ B0 (B0 + 1) _ _ _ _ _ _ rfl rfl ?_ ?_) rfl ?_
          · have h1 := HG3.out
            simp [World.setCell, Array.getElem?_modify, h1]
          · have h1 := HG4.out
            simp [World.setCell, Array.getElem?_modify, h1]
          · refine conQ_good HCN.out ?_ ?_ HFE.out
            · rw [HNS.out]
              exact HST3.out _ HO.out _ HFD.out
            · rw [HGP.out]
              have h5 := HR.out.only HFD.out (fun i hi _ hc => by have := HD.out; rcases hc with hc | hc <;> omega)
              exact h5.edgB.mono (by have h7 := HOW0.out.size; have h8 := HS4.out.2; have h9 := HB57.out; omega)
end Go.Proofs.YtigmdiagdlbdpaaGreat
