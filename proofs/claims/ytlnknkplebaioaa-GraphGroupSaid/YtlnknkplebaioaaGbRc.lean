/-
  WALKS. The reference: has, component, ready.
  WALKS. The reference: ready.
  WALKS. The reference: Components.
-/
import Derived.Test.YtlnknkplebaioaaGbMk
import Derived.Test.YtlnknkplebaioaaGor8
import Derived.Test.YtlnknkplebaioaaGbU
import Derived.Deep.RegionHeld
namespace Go.Proofs.Ytlnknkplebaioaa
open Go.RowKit Go.Maps
section
variable (w : World) (oa : Option Addr) (n ca : Nat) (l : List Nat)
set_option maxRecDepth 100000 in
set_option maxHeartbeats 8000000 in
theorem rhas_p (h : Ints w oa n l) (hn : n ≤ 1000000000) (x : Nat) (r : Bool) (hr : decide (x ∈ l) = r) : Calls Try.prog 53 #[.slice oa n ca, iV x] w fun e w' => e = .returned (.bool r) ∧ Only (fun _ => False) w w' := by
  have hl := h.len
  have HR := Lib.hid hr
  clear hr
  go_enter Try.func53, Try.ntmps53
  go_wp2
  go_loopw [5] (fun q wr => ∃ k : Nat, k ≤ n ∧ q = .int .i64 k ∧ Hid (noK l x k) ∧ Only (fun _ => False) w wr) (fun q _ => n - (intOf q).toNat)
  case atStart => exact ⟨0, by omega, rfl, Lib.hid (fun i hi => absurd hi (Nat.not_lt_zero _)), Only.refl _ _⟩
  case round =>
    obtain ⟨k, hk, rfl, HK, hO⟩ := hrel
    by_cases hlt : k < n
    · obtain ⟨b1, o1, e1, c1⟩ := (h.old hO (fun _ _ hc => hc)).cell k (by omega)
      subst e1
      have h01 : (0 : Int) ≤ (k : Int) := Int.natCast_nonneg k
      have h02 : (k : Int) < (n : Int) := by omega
      have h03 : (k : Int).toNat = k := Int.toNat_natCast k
      obtain ⟨y, hy⟩ : ∃ y, gt l k = y := ⟨_, rfl⟩
      rw [hy] at c1
      have HY := Lib.hid hy
      clear hy
      by_cases e : y = x
      · subst e
        have HT : Hid (r = true) := Lib.hid (by rw [← HR.out]; exact yesK (by omega) HY.out)
        go_wp2
        go_ret
        rw [HT.out]
        exact ⟨rfl, hO⟩
      · have e1 : ((y : Int) == (x : Int)) = false := by simp; omega
        have e2 : ¬ (y : Int) = (x : Int) := by omega
        have HN := Lib.hid (noK_step HK.out (by rw [HY.out]; exact e))
        go_wp2
        go_roundw
        case rel => exact ⟨k + 1, by omega, by go_num, HN, hO⟩
        case measure => simp [intOf]; omega
    · have HF : Hid (r = false) := Lib.hid (by rw [← HR.out]; have := HK.out; rw [show k = l.length by omega] at this; exact noK_all this)
      go_wp2
      go_ret
      rw [HF.out]
      exact ⟨rfl, hO⟩
end
/-- Two rows of numbers, apart. -/
structure PR (w0 w : World) (B : Nat) (vo : Value) (o : List Nat) (vl : Value) (l : List Nat) : Prop where
  io : IR w B vo o
  il : IR w B vl l
  ap : ∀ g, vo.ownBlock = some g → vl.ownBlock ≠ some g
  fr : Only (B ≤ ·) w0 w
theorem PR.same {w0 w w' : World} {B : Nat} {vo vl : Value} {o l : List Nat} (h : PR w0 w B vo o vl l) (ho : Only (fun _ => False) w w') : PR w0 w' B vo o vl l :=
  ⟨h.io.only ho (fun _ _ hc => hc), h.il.only ho (fun _ _ hc => hc), h.ap, h.fr.trans ho.lift⟩
theorem PR.app {w0 w w3 : World} {B : Nat} {vo vl v' : Value} {o l o' : List Nat} (h : PR w0 w B vo o vl l) (hg : w.grownBy w3 vo.ownBlock) (hrow : IR w3 B v' o') (hb : ∀ g, v'.ownBlock = some g → vo.ownBlock = some g ∨ w.heap.size ≤ g) : PR w0 w3 B v' o' vl l :=
  ⟨hrow, rowKeep h.il (fun g hgi => hg.block g (World.ownsRow.lt h.il g hgi).2 (fun e => h.ap g e.symm hgi)), fun g hgv hgl => by
    rcases hb g hgv with h1 | h1
    · exact h.ap g h1 hgl
    · have := (World.ownsRow.lt h.il g hgl).2; omega, h.fr.trans (Only.grown hg (fun g e => (World.ownsRow.lt h.io g e).1))⟩
theorem rReach_at {E : List (List Int)} {n u : Nat} (hl : E.length = n) (hv : validE E = true) (hu : u < n) : rReachL E (u : Int) = rcR (natE E) u := by
  have hok : okN E.length (u : Int) = true := by unfold okN; simp; omega
  unfold rReachL rcR
  rw [hv, hok, Int.toNat_natCast, natE_len]
  rfl
theorem filt_step {l : List Nat} {p : Nat → Bool} {k : Nat} (hk : k < l.length) : (l.take (k + 1)).filter p = (l.take k).filter p ++ (if p (gt l k) then [gt l k] else []) := by
  rw [List.take_succ_eq_append_getElem hk, List.filter_append, gt_at hk]
  congr 1
  cases h : p l[k] <;> simp [h]
set_option maxRecDepth 100000 in
set_option maxHeartbeats 16000000 in
theorem component_p (w : World) (oE : Option Addr) (n cE : Nat) (E : List (List Int)) (u : Nat) (h : Edz w oE n E) (hn : n ≤ 1000000) (hr : ∀ l ∈ E, l.length ≤ 1000000) (hv : validE E = true) (hu : u < n) : Calls Try.prog 31 #[.agg #[.slice oE n cE], iV u] w fun e w' => ∃ v, e = .returned v ∧ IR w' w.heap.size v (compR (natE E) u) ∧ Only (fun _ => False) w w' := by
  have hlen := h.len
  have hA : Only (fun _ => False) w (w.alloc (.cells #[.slice oE n cE] 24)) := (Only.refl _ _).alloc _
  have s1 : (w.alloc (.cells #[.slice oE n cE] 24)).heap.size = w.heap.size + 1 := by show (Array.push _ _).size = _; rw [Array.size_push]
  have hEA := h.keep hA
  have hG := valid_G hv
  have hGn : (natE E).length = n := by rw [natE_len, hlen]
  have HB : Hid (∀ w', Only (w.heap.size + 1 ≤ ·) (w.alloc (.cells #[.slice oE n cE] 24)) w' → w'.cell? ⟨w.heap.size, 0, none⟩ = some (.slice oE n cE)) := Lib.hid (fun w' ho => (blk_c ((ho.block w.heap.size (by rw [s1]; omega) (fun hc => by have hc' : w.heap.size + 1 ≤ w.heap.size := hc; omega)).trans (new_block w _)) rfl).1)
  have HRP : Hid (∀ wx x, Only (w.heap.size + 1 ≤ ·) (w.alloc (.cells #[.slice oE n cE] 24)) wx → x < n → Calls Try.prog 16 #[.agg #[.slice oE n cE], iV x] wx fun e w' => ∃ oa na ca, e = .returned (.slice oa na ca) ∧ IR w' wx.heap.size (.slice oa na ca) (rcR (natE E) x) ∧ Only (fun _ => False) wx w') := Lib.hid (fun wx x ho hx => (rReach_p wx oE n cE E x (hEA.old ho (fun i hi hc => by have hc' : w.heap.size + 1 ≤ i := hc; omega)) hn hr).mono (by
    rw [rReach_at hlen hv hx]
    rintro e w' ⟨v, rfl, h2, h3⟩
    obtain ⟨oa, ca, hvv⟩ := rowForm h2
    subst hvv
    exact ⟨oa, _, ca, rfl, h2, h3⟩))
  obtain ⟨G, hGe⟩ : ∃ G, natE E = G := ⟨_, rfl⟩
  rw [hGe] at hG hGn HRP ⊢
  have hO0 : Only (w.heap.size + 1 ≤ ·) (w.alloc (.cells #[.slice oE n cE] 24)) ((w.alloc (.cells #[.slice oE n cE] 24)).alloc (.cells #[] 3)) := (Only.refl _ _).alloc _
  have hz0 : IR ((w.alloc (.cells #[.slice oE n cE] 24)).alloc (.cells #[] 3)) (w.heap.size + 1) (.slice (some ⟨w.heap.size + 1, 0, none⟩) 0 0) [] := row_zero (Nat.le_refl _) (new_at _ s1)
  have s2 : ((w.alloc (.cells #[.slice oE n cE] 24)).alloc (.cells #[] 3)).heap.size = w.heap.size + 1 + 1 := by show (Array.push _ _).size = _; rw [Array.size_push, s1]
  have q0 := HB.out _ hO0
  have HLT := Lib.hid (fun x hx => ((mem_rcR hG (show u < G.length by omega) x).1 hx).1)
  have hll : (rcR G u).length ≤ n := by have := marked_len (seenR G [u]) G.length; unfold rcR; omega
  have HGn := Lib.hid hGn
  have HG := Lib.hid hG
  have HRN : Hid (∀ x, (rcR G x).length ≤ n) := Lib.hid (fun x => by have := marked_len (seenR G [x]) G.length; unfold rcR; omega)
  have HO0 := Lib.hid hO0
  have HZ0 := Lib.hid hz0
  have HS1 := Lib.hid s1
  have HS2 := Lib.hid s2
  clear hG hGn hGe s1 hO0 hz0 s2 hEA hv
  go_enter Try.func31, Try.ntmps31
  go_wp2_with (go_at_call 16; (refine (HRP.out _ u HO0.out hu).mono ?_); rintro e w5 ⟨ol, nl, cl, rfl, hI5, hO5⟩)
  have hnl := hI5.len
  have h0 : PR (w.alloc (.cells #[.slice oE n cE] 24)) w5 (w.heap.size + 1) (.slice (some ⟨w.heap.size + 1, 0, none⟩) 0 0) (((rcR G u).take 0).filter (fun x => decide (u ∈ rcR G x))) (.slice ol nl cl) (rcR G u) := by
    have hh := HS2.out
    refine ⟨HZ0.out.only hO5 (fun _ _ hc => hc), rowMono hI5 (by omega), fun g hg hgl => ?_, HO0.out.trans hO5.lift⟩
    have hg' : w.heap.size + 1 = g := Option.some.inj hg
    have := (World.ownsRow.lt hI5 g hgl).1
    omega
  obtain ⟨l, hl⟩ : ∃ l, rcR G u = l := ⟨_, rfl⟩
  rw [hl] at h0 hnl hll HLT
  have HL := Lib.hid hl
  have HCR : Hid (compR G u = l.filter (fun x => decide (u ∈ rcR G x))) := Lib.hid (by unfold compR; rw [hl])
  have HNL := Lib.hid hnl
  have hnn : nl ≤ n := by omega
  obtain ⟨i0', hi, hz0', hz1, hz2⟩ := info_parts infoInt
  clear q0 hI5 hO5 hl hnl HZ0
  go_loopw [5, 7] (fun r q wr => ∃ k : Nat, k ≤ nl ∧ q = .int .i64 k ∧ PR (w.alloc (.cells #[.slice oE n cE] 24)) wr (w.heap.size + 1) r ((l.take k).filter (fun x => decide (u ∈ rcR G x))) (.slice ol nl cl) l) (fun _ q _ => nl - (intOf q).toNat)
  case atStart => exact ⟨0, by omega, rfl, h0⟩
  case round =>
    clear h0
    obtain ⟨k, hk, rfl, hP⟩ := hrel
    by_cases hlt : k < nl
    · have hkl : k < l.length := by have := HNL.out; omega
      obtain ⟨gl, hgl, -, -, hcl, hcc, -⟩ := hP.il.at hkl
      subst hgl
      obtain ⟨x, hx⟩ : ∃ x, gt l k = x := ⟨_, rfl⟩
      rw [hx] at hcc
      have hxl : x ∈ l := by rw [← hx, gt_at hkl]; exact List.getElem_mem hkl
      have hxn : x < n := by have := HLT.out x hxl; have := HGn.out; omega
      have hst := filt_step (p := fun x => decide (u ∈ rcR G x)) hkl
      rw [hx] at hst
      have q0 := HB.out _ hP.fr
      have h05 : (0 : Int) ≤ (k : Int) := Int.natCast_nonneg k
      have h06 : (k : Int) < (nl : Int) := by omega
      have h07 : (k : Int).toNat = k := Int.toNat_natCast k
      have hrx := HRN.out x
      have HPF := Lib.hid hP.fr
      have HK : Hid (∀ a, Only (fun _ => False) wr a → (Only (fun _ => False) wr a ∧ a.cell? ⟨w.heap.size, 0, none⟩ = some (.slice oE n cE) ∧ a.cell? ⟨gl, k, none⟩ = some (iV x))) := Lib.hid (fun a ho => ⟨ho, HB.out _ (hP.fr.trans ho.lift), (World.cell?_of_block (ho.block gl (cell_lt hcc) (fun hc => hc))).trans hcc⟩)
      have hs0 := HK.out wr.drew ((Only.refl _ _).drew)
      have HP := Lib.hid hP
      cases hb : decide (u ∈ rcR G x)
      · rw [hb] at hst
        have HST := Lib.hid hst
        have HBB := Lib.hid hb
        clear hx hxl hst hb hP hkl
        go_wp2
        go_region_held (fun a => Only (fun _ => False) wr a ∧ a.cell? ⟨w.heap.size, 0, none⟩ = some (.slice oE n cE) ∧ a.cell? ⟨gl, k, none⟩ = some (iV x)) (assumption)
          (first | (go_at_call 16; (refine (HRP.out _ x (HPF.out.trans (Only.lift (And.left (by assumption)))) hxn).mono ?_); rintro e w6 ⟨o6, n6, c6, rfl, hI6, hO6⟩; have hs6 := HK.out w6 (Only.trans ((Only.refl (fun _ => False) wr).drew) hO6)) | (go_at_call 53; (refine (rhas_p w6 o6 n6 c6 _ hI6.ints (by have := hI6.len; omega) u false HBB.out).mono ?_); rintro e w7 ⟨rfl, hO7⟩; have hs7 := HK.out w7 (hs6.1.trans hO7)))
        all_goals
          go_wp2
          go_roundw
          case rel => exact ⟨k + 1, by omega, by go_num, by rw [HST.out]; simp only [Bool.false_eq_true, if_false, List.append_nil]; exact HP.out.same hs7.1⟩
          case measure => simp [intOf]; omega
      · rw [hb] at hst
        have HST := Lib.hid hst
        have HBB := Lib.hid hb
        clear hx hxl hst hb hP hkl
        obtain ⟨oa, ca, hvv⟩ := rowForm HP.out.io
        obtain ⟨o, ho⟩ : ∃ o, (l.take k).filter (fun x => decide (u ∈ rcR G x)) = o := ⟨_, rfl⟩
        rw [ho] at HP HST hvv
        have hol : o.length ≤ nl := by rw [← ho]; exact Nat.le_trans (List.length_filter_le _ _) (by rw [List.length_take]; omega)
        obtain ⟨m, hm⟩ : ∃ m, o.length = m := ⟨_, rfl⟩
        rw [hm] at hvv hol
        subst hvv
        have HM := Lib.hid hm
        clear ho hm
        go_wp2
        go_region_held (fun a => Only (fun _ => False) wr a ∧ a.cell? ⟨w.heap.size, 0, none⟩ = some (.slice oE n cE) ∧ a.cell? ⟨gl, k, none⟩ = some (iV x)) (assumption)
          (first | (go_at_call 16; (refine (HRP.out _ x (HPF.out.trans (Only.lift (And.left (by assumption)))) hxn).mono ?_); rintro e w6 ⟨o6, n6, c6, rfl, hI6, hO6⟩; have hs6 := HK.out w6 (Only.trans ((Only.refl (fun _ => False) wr).drew) hO6)) | (go_at_call 53; (refine (rhas_p w6 o6 n6 c6 _ hI6.ints (by have := hI6.len; omega) u true HBB.out).mono ?_); rintro e w7 ⟨rfl, hO7⟩; have hs7 := HK.out w7 (hs6.1.trans hO7)))
        all_goals
          have hc7 := hs7.2.2
          have HP7 := Lib.hid (HP.out.same hs7.1)
          have HOWN : Hid (w7.ownsRow (w.heap.size + 1) 3 1 (.slice oa m ca) m (o.map iV)) := Lib.hid (by
            have h := HP7.out.io
            unfold IR at h
            rw [HM.out] at h
            exact h)
          have HSZ := Lib.hid (show w.heap.size + 1 ≤ w7.heap.size by have := HP7.out.fr.size; have := HS1.out; omega)
          have HPA := Lib.hid (HP7.out.same ((Only.refl (fun _ => False) w7).alloc (.cells #[iV x] 3)))
          go_wp2_with (at_builtin; refine wpList_append_lies _ rfl _ _ 30 rfl (w.heap.size + 1) 3 i0' (.int .i64 0) 1 8 Try.underlying30 hi hz0' hz1 hz2 rfl (by decide) (.slice oa m ca) m (o.map iV) rfl (World.ownsRow.alloc HOWN.out _) ⟨w7.heap.size, 0, none⟩ 1 1 [iV x] rfl rfl (World.news_of_block (new_block w7 _)) (one_int x) Nat.one_pos (by unfold maxLen; omega) (by omega) (by show w.heap.size + 1 ≤ (Array.push _ _).size; rw [Array.size_push]; have := HSZ.out; omega) _ rfl ?_; intro g cg w8 hown8 hgrow8 hat8 hlt8; have HP8 := Lib.hid (HPA.out.app hgrow8 (v' := .slice (some ⟨g, 0, none⟩) (m + 1) cg) (o' := o ++ [x]) (IR.snoc (by rw [HM.out]; exact hown8)) (fun g' hg' => by have hgg : g = g' := Option.some.inj hg'; rcases hat8 with e | e; exact .inl (hgg ▸ e); right; have e3 : g = (Array.push _ _).size := e; exact Nat.le_of_eq (e3.symm.trans hgg))); clear hown8 hgrow8 hat8 hlt8)
          go_roundw
          case rel => exact ⟨k + 1, by omega, by go_num, by rw [HST.out]; exact HP8.out⟩
          case measure => simp [intOf]; omega
    · have hkn : k = nl := by omega
      have HF : Hid (compR G u = (l.take k).filter (fun x => decide (u ∈ rcR G x))) := Lib.hid (by rw [HCR.out, List.take_of_length_le (by have := HNL.out; omega)])
      have hio := hP.io
      have HEND := Lib.hid (show Only (fun _ => False) w wr from hA.trans ⟨hP.fr.os, hP.fr.tape, hP.fr.output, hP.fr.size, fun i hi _ => hP.fr.block i hi (fun hc => by have hc' : w.heap.size + 1 ≤ i := hc; have := HS1.out; omega)⟩)
      clear hP
      go_wp2
      go_ret
      rw [HF.out]
      exact ⟨_, rfl, rowMono hio (Nat.le_succ _), HEND.out⟩
end Go.Proofs.Ytlnknkplebaioaa
namespace Go.Proofs.Ytlnknkplebaioaa
open Go.RowKit Go.Maps
theorem head_gt {l : List Nat} (h : l ≠ []) : gt l 0 = l.headD 0 := by
  cases l with
  | nil => exact absurd rfl h
  | cons x r => rfl
set_option maxRecDepth 100000 in
set_option maxHeartbeats 16000000 in
theorem ready_p (w : World) (oE : Option Addr) (n cE : Nat) (E : List (List Int)) (oc : Option Addr) (nc cc : Nat) (c : List Nat) (Bd gd cd : Nat) (d : List Bool) (h : Edz w oE n E) (hn : n ≤ 1000000) (hr : ∀ l ∈ E, l.length ≤ 1000000) (hv : validE E = true) (hc : Ints w oc nc c) (hcn : c ≠ []) (hch : c.headD 0 < n) (hcl : nc ≤ 1000000) (hd : BW w Bd (.slice (some ⟨gd, 0, none⟩) n cd) d) (r : Bool) (hrr : readyR (natE E) c d = r) :
    Calls Try.prog 32 #[.agg #[.slice oE n cE], .slice oc nc cc, .slice (some ⟨gd, 0, none⟩) n cd] w fun e w' => e = .returned (.bool r) ∧ Only (fun _ => False) w w' := by
  have hlen := h.len
  have hA : Only (fun _ => False) w (w.alloc (.cells #[.slice oE n cE] 24)) := (Only.refl _ _).alloc _
  have hEA := h.keep hA
  have hG := valid_G hv
  have hGn : (natE E).length = n := by rw [natE_len, hlen]
  have hdl := hd.len
  have hclen := hc.len
  obtain ⟨u, hu⟩ : ∃ u, c.headD 0 = u := ⟨_, rfl⟩
  rw [hu] at hch
  obtain ⟨b1, o1, hoc, hc1⟩ := (hc.old hA (fun _ _ hc => hc)).cell 0 (List.length_pos_iff.2 hcn)
  rw [head_gt hcn, hu, Nat.add_zero] at hc1
  have HCI : Hid (∀ w', Only (fun _ => False) (w.alloc (.cells #[.slice oE n cE] 24)) w' → Ints w' oc nc c) := Lib.hid (fun w' ho => (hc.old hA (fun _ _ hc => hc)).old ho (fun _ _ hc => hc))
  have HDB : Hid (∀ w', Only (fun _ => False) (w.alloc (.cells #[.slice oE n cE] 24)) w' → BW w' Bd (.slice (some ⟨gd, 0, none⟩) n cd) d) := Lib.hid (fun w' ho => (hd.only hA (fun _ _ hc => hc)).only ho (fun _ _ hc => hc))
  have HB : Hid (∀ w', Only (fun _ => False) (w.alloc (.cells #[.slice oE n cE] 24)) w' → w'.cell? ⟨w.heap.size, 0, none⟩ = some (.slice oE n cE)) := Lib.hid (fun w' ho => (blk_c ((ho.block w.heap.size (by show _ < (Array.push _ _).size; rw [Array.size_push]; omega) (fun hc => hc)).trans (new_block w _)) rfl).1)
  have HK : Hid (∀ a, Only (fun _ => False) (w.alloc (.cells #[.slice oE n cE] 24)) a → (Only (fun _ => False) (w.alloc (.cells #[.slice oE n cE] 24)) a ∧ a.cell? ⟨w.heap.size, 0, none⟩ = some (.slice oE n cE) ∧ a.cell? ⟨b1, o1, none⟩ = some (iV u))) := Lib.hid (fun a ho => ⟨ho, HB.out _ ho, (World.cell?_of_block (ho.block b1 (cell_lt hc1) (fun hc => hc))).trans hc1⟩)
  have HRP : Hid (∀ wx, Only (fun _ => False) (w.alloc (.cells #[.slice oE n cE] 24)) wx → Calls Try.prog 16 #[.agg #[.slice oE n cE], iV u] wx fun e w' => ∃ oa na ca, e = .returned (.slice oa na ca) ∧ Ints w' oa na (rcR (natE E) u) ∧ Only (fun _ => False) wx w') := Lib.hid (fun wx ho => (rReach_p wx oE n cE E u (hEA.keep ho) hn hr).mono (by
    rw [rReach_at hlen hv hch]
    rintro e w' ⟨v, rfl, h2, h3⟩
    obtain ⟨oa, ca, hvv⟩ := rowForm h2
    subst hvv
    exact ⟨oa, _, ca, rfl, h2.ints, h3⟩))
  obtain ⟨G, hGe⟩ : ∃ G, natE E = G := ⟨_, rfl⟩
  rw [hGe] at hG hGn HRP hrr
  have HRR : Hid ((rcR G u).all (fun x => gb d x || decide (x ∈ c)) = r) := Lib.hid (by rw [← hrr]; unfold readyR; rw [hu])
  have HLT := Lib.hid (fun x hx => ((mem_rcR hG (show u < G.length by omega) x).1 hx).1)
  have hll : (rcR G u).length ≤ n := by have := marked_len (seenR G [u]) G.length; unfold rcR; omega
  have HGn := Lib.hid hGn
  have HDL := Lib.hid hdl
  have HCL := Lib.hid hclen
  have hs0 := HK.out _ ((Only.refl (fun _ => False) (w.alloc (.cells #[.slice oE n cE] 24))).drew)
  have hc0 := (HK.out _ (Only.refl (fun _ => False) (w.alloc (.cells #[.slice oE n cE] 24)))).2.2
  have h0n : (0 : Int) < (nc : Int) := by have := List.length_pos_iff.2 hcn; omega
  have hnc0 : ¬ nc = 0 := by omega
  have hD0 : Only (fun _ => False) (w.alloc (.cells #[.slice oE n cE] 24)) (w.alloc (.cells #[.slice oE n cE] 24)).drew := (Only.refl _ _).drew
  subst hoc
  clear hGe hG hGn hrr hu hcn hc1 hd hc hdl hclen hEA hv
  go_enter Try.func32, Try.ntmps32
  go_wp2
  refine wp_region_any (by kernel_rfl) ?_
  try (change wpAny _ _ _ _ _ _ _ (World.drew _))
  refine any_put (i := 1) (v := (.slice (some ⟨b1, o1, none⟩) nc cc)) rfl (by kernel_rfl) (by kernel_rfl) (by kernel_rfl) (fun _ _ _ h => h) (Or.inl ⟨by rfl, fun w => by go_simp⟩) (fun a' ha => ?_); simp [go_sem] at ha; subst ha
  refine any_put (i := 2) (v := (.pointer (some ⟨b1, o1, none⟩))) rfl (by kernel_rfl) (by kernel_rfl) (by kernel_rfl) (fun _ _ _ h => h) (Or.inl ⟨by rfl, fun w => by go_simp⟩) (fun a' ha => ?_); simp [go_sem] at ha; subst ha
  refine wpAny_ready (rs := [0, 3]) (by kernel_rfl) (by simp) ?_
  refine AllReady.cons rfl (fun K hK => ?_) (AllReady.cons rfl (fun K hK => ?_) AllReady.nil)
  go_simp
  refine hK _ _ ?_
  clear hK K
  refine wpAny_ready (rs := [3]) (by kernel_rfl) (by simp) ?_
  refine AllReady.cons rfl (fun K hK => ?_) AllReady.nil
  go_simp
  refine hK _ _ ?_
  clear hK K
  refine wpAny_ready (rs := [4]) (by kernel_rfl) (by simp) ?_
  refine AllReady.cons rfl (fun K hK => ?_) AllReady.nil
  go_simp
  go_wp2_with (go_at_call 16; (refine (HRP.out _ hD0).mono ?_); rintro e w6 ⟨o6, n6, c6, rfl, hI6, hO6⟩; have hs6 := HK.out w6 (Only.trans hD0 hO6))
  refine any_put (i := 5) (v := (.slice o6 n6 c6)) rfl (by kernel_rfl) (by kernel_rfl) (by kernel_rfl) (fun _ _ _ h => h) (Or.inl ⟨by rfl, fun w => by go_simp⟩) (fun a' ha => ?_); simp [go_sem] at ha; subst ha
  refine wpAny_done (by kernel_rfl) ?_ _
  rotate_left
  refine wpAny_ready (rs := [0]) (by kernel_rfl) (by simp) ?_
  refine AllReady.cons rfl (fun K hK => ?_) AllReady.nil
  go_simp
  refine hK _ _ ?_
  clear hK K
  refine wpAny_ready (rs := [4]) (by kernel_rfl) (by simp) ?_
  refine AllReady.cons rfl (fun K hK => ?_) AllReady.nil
  go_simp
  go_wp2_with (go_at_call 16; (refine (HRP.out _ hD0).mono ?_); rintro e w6 ⟨o6, n6, c6, rfl, hI6, hO6⟩; have hs6 := HK.out w6 (Only.trans hD0 hO6))
  refine any_put (i := 5) (v := (.slice o6 n6 c6)) rfl (by kernel_rfl) (by kernel_rfl) (by kernel_rfl) (fun _ _ _ h => h) (Or.inl ⟨by rfl, fun w => by go_simp⟩) (fun a' ha => ?_); simp [go_sem] at ha; subst ha
  refine wpAny_done (by kernel_rfl) ?_ _
  all_goals
    obtain ⟨l, hl⟩ : ∃ l, rcR G u = l := ⟨_, rfl⟩
    rw [hl] at hI6 HRR HLT hll
    have hn6 := hI6.len
    have HN6 := Lib.hid hn6
    have HI6 := Lib.hid hI6
    have HO6 := Lib.hid hs6.1
    have hn6b : n6 ≤ n := by omega
    have HALL0 : Hid (∀ j, j < 0 → (gb d (gt l j) || decide (gt l j ∈ c)) = true) := Lib.hid (fun j hj => absurd hj (Nat.not_lt_zero _))
    clear hl hI6 hn6 hO6 hs6 hs0 hc0
    go_wp2
    go_loopw [8] (fun q wr => ∃ k : Nat, k ≤ n6 ∧ q = .int .i64 k ∧ Hid (∀ j, j < k → (gb d (gt l j) || decide (gt l j ∈ c)) = true) ∧ Only (fun _ => False) w6 wr) (fun q _ => n6 - (intOf q).toNat)
    case atStart => exact ⟨0, by omega, rfl, HALL0, Only.refl _ _⟩
    case round =>
      clear HALL0
      obtain ⟨k, hk, rfl, HAK, hO⟩ := hrel
      have hOw := HO6.out.trans hO
      by_cases hlt : k < n6
      · have hkl : k < l.length := by have := HN6.out; omega
        obtain ⟨b2, o2, ho6, hc2⟩ := (HI6.out.old hO (fun _ _ hc => hc)).cell k hkl
        subst ho6
        obtain ⟨x, hx⟩ : ∃ x, gt l k = x := ⟨_, rfl⟩
        rw [hx] at hc2
        have hxl : x ∈ l := by rw [← hx, gt_at hkl]; exact List.getElem_mem hkl
        have hxn : x < n := by have := HLT.out x hxl; have := HGn.out; omega
        obtain ⟨hcd, -⟩ := (HDB.out wr hOw).at (k := x) (by have := HDL.out; omega)
        have h05 : (0 : Int) ≤ (k : Int) := Int.natCast_nonneg k
        have h06 : (k : Int) < (n6 : Int) := by omega
        have h07 : (k : Int).toNat = k := Int.toNat_natCast k
        have h15 : (0 : Int) ≤ (x : Int) := Int.natCast_nonneg x
        have h16 : (x : Int) < (n : Int) := by omega
        have h17 : (x : Int).toNat = x := Int.toNat_natCast x
        have HX := Lib.hid hx
        have HKL := Lib.hid hkl
        clear hx hkl
        cases hgb : gb d x
        · rw [hgb] at hcd
          have HCW := Lib.hid (HCI.out wr hOw)
          have hncc : nc ≤ 1000000000 := by omega
          cases hm : decide (x ∈ c)
          · have HF : Hid (r = false) := Lib.hid (by
              rw [← HRR.out, List.all_eq_false]
              exact ⟨x, hxl, by rw [hgb, hm]; decide⟩)
            have HM := Lib.hid hm
            clear hm hgb hxl
            go_wp2_with (go_at_call 53; (refine (rhas_p wr _ nc cc c HCW.out hncc x false HM.out).mono ?_); rintro e w7 ⟨rfl, hO7⟩)
            go_ret
            rw [HF.out]
            exact ⟨rfl, hA.trans (hOw.trans hO7)⟩
          · have HN : Hid (∀ j, j < k + 1 → (gb d (gt l j) || decide (gt l j ∈ c)) = true) := Lib.hid (fun j hj => by
              by_cases e : j = k
              · rw [e, HX.out, hm, Bool.or_true]
              · exact HAK.out j (by omega))
            have HM := Lib.hid hm
            clear hm hgb hxl
            go_wp2_with (go_at_call 53; (refine (rhas_p wr _ nc cc c HCW.out hncc x true HM.out).mono ?_); rintro e w7 ⟨rfl, hO7⟩)
            go_roundw
            case rel => exact ⟨k + 1, by omega, by go_num, HN, hO.trans hO7⟩
            case measure => simp [intOf]; omega
        · rw [hgb] at hcd
          have HN : Hid (∀ j, j < k + 1 → (gb d (gt l j) || decide (gt l j ∈ c)) = true) := Lib.hid (fun j hj => by
            by_cases e : j = k
            · rw [e, HX.out, hgb, Bool.true_or]
            · exact HAK.out j (by omega))
          clear hgb hxl
          go_wp2
          go_roundw
          case rel => exact ⟨k + 1, by omega, by go_num, HN, hO⟩
          case measure => simp [intOf]; omega
      · have HT : Hid (r = true) := Lib.hid (by
          rw [← HRR.out, List.all_eq_true]
          intro x hx
          obtain ⟨j, hj, e⟩ := List.getElem_of_mem hx
          have := HAK.out j (by have := HN6.out; omega)
          rw [gt_at hj, e] at this
          exact this)
        go_wp2
        go_ret
        rw [HT.out]
        exact ⟨rfl, hA.trans hOw⟩
end Go.Proofs.Ytlnknkplebaioaa
namespace Go.Proofs.Ytlnknkplebaioaa
open Go.RowKit Go.Maps
/-- A row that lies apart is put at the end. -/
theorem RR.add {w w3 : World} {B : Nat} {v : Value} {vs : List Value} {L : List (List Nat)} (h : RR w B v vs L) (hg : w.grownBy w3 v.ownBlock) {v' x : Value} {l : List Nat} (hrow : w3.ownsRow B 30 1 v' (L.length + 1) (vs ++ [x])) (hx : IR w B x l) (hd : ∀ i, i < L.length → ∀ g, (vAt vs i).ownBlock = some g → x.ownBlock ≠ some g) : RR w3 B v' (vs ++ [x]) (L ++ [l]) := by
  have hl : (L ++ [l]).length = L.length + 1 := by simp
  have hvl := h.vl
  have hend : vAt (vs ++ [x]) L.length = x := by rw [← hvl]; exact vAt_end
  have hkeep : ∀ {v'' : Value} {l'' : List Nat}, IR w B v'' l'' → IR w3 B v'' l'' := fun hr => rowKeep hr (fun g hgi => hg.block g (World.ownsRow.lt hr g hgi).2 (fun e => rowApart hr h.out (by decide) hgi e.symm))
  refine ⟨by rw [hl]; exact hrow, fun i hi => ?_, fun i j hi hj hij g hgi hgj => ?_⟩
  · rw [hl] at hi
    by_cases e : i = L.length
    · subst e
      rw [lAt_end, hend]
      exact hkeep hx
    · have hi' : i < L.length := by omega
      rw [lAt_app hi', vAt_app (by omega)]
      exact hkeep (h.row i hi')
  · rw [hl] at hi hj
    by_cases e : i = L.length
    · subst e
      rw [hend] at hgi
      by_cases e2 : j = L.length
      · exact hij e2.symm
      · rw [vAt_app (by omega)] at hgj
        exact hd j (by omega) g hgj hgi
    · rw [vAt_app (by omega)] at hgi
      by_cases e2 : j = L.length
      · subst e2
        rw [hend] at hgj
        exact hd i (by omega) g hgi hgj
      · rw [vAt_app (by omega)] at hgj
        exact h.dis i j (by omega) (by omega) hij g hgi hgj
/-- What the loop keeps in memory: the list from b on, the marks at b + 1. -/
structure CM (w0 w : World) (b n : Nat) (vo : Value) (vs : List Value) (s : RS) : Prop where
  dn : BW w b (.slice (some ⟨b + 1, 0, none⟩) n n) s.done
  ou : RR w b vo vs s.out
  fr : Only (b ≤ ·) w0 w
section
variable {w0 w w' w3 : World} {b n : Nat} {vo : Value} {vs : List Value} {s : RS}
theorem CM.same (h : CM w0 w b n vo vs s) (ho : Only (fun _ => False) w w') : CM w0 w' b n vo vs s :=
  ⟨h.dn.only ho (fun _ _ hc => hc), h.ou.only ho (fun _ _ _ hc => hc), h.fr.trans ho.lift⟩
theorem CM.add (h : CM w0 w b n vo vs s) (hg : w.grownBy w3 vo.ownBlock) {v' x : Value} {l : List Nat} (hrow : w3.ownsRow b 30 1 v' (s.out.length + 1) (vs ++ [x])) (hx : IR w b x l) (hd : ∀ i, i < s.out.length → ∀ g, (vAt vs i).ownBlock = some g → x.ownBlock ≠ some g) : CM w0 w3 b n v' (vs ++ [x]) { s with out := s.out ++ [l] } :=
  ⟨rowKeep h.dn (fun g hgi => hg.block g (World.ownsRow.lt h.dn g hgi).2 (fun e => rowApart h.ou.out h.dn (by decide) e.symm hgi)), h.ou.add hg hrow hx hd, h.fr.trans (Only.grown hg (fun g e => (World.ownsRow.lt h.ou.out g e).1))⟩
theorem CM.mark (h : CM w0 w b n vo vs s) {j : Nat} (hj : j < s.done.length) : CM w0 (w.setCell ⟨b + 1, j, none⟩ (.bool true)) b n vo vs { s with done := s.done.set j true } := by
  have hO : Only (· = b + 1) w (w.setCell ⟨b + 1, j, none⟩ (.bool true)) := Only.setCell (K := (· = b + 1)) (Only.refl _ _) rfl _
  refine ⟨h.dn.set hj true, ⟨rowKeep h.ou.out (fun g hgi => hO.block g (World.ownsRow.lt h.ou.out g hgi).2 (fun e => rowApart h.ou.out h.dn (by decide) hgi (by rw [show g = b + 1 from e]; rfl))), fun i hi => (h.ou.row i hi).only hO (fun g hgi e => rowApart (h.ou.row i hi) h.dn (by decide) hgi (by rw [show g = b + 1 from e]; rfl)), h.ou.dis⟩, h.fr.trans (hO.wide (fun i hi => by show b ≤ i; have hi' : i = b + 1 := hi; omega))⟩
end
theorem putB_take {d : List Bool} {c : List Nat} {k : Nat} (hk : k < c.length) : putB d (c.take (k + 1)) = (putB d (c.take k)).set (gt c k) true := by
  rw [List.take_succ_eq_append_getElem hk, gt_at hk]
  unfold putB
  rw [List.foldl_append]
  rfl
def rCompsE (E : List (List Int)) : List (List Nat) := if validE E then compsR (natE E) else []
theorem rCompsE_eq (E : List (List Int)) : rCompsE E = compsE E := by
  unfold rCompsE compsE
  cases hv : validE E
  · rfl
  · simp only [if_true]
    exact compsR_eq (valid_G hv)
theorem row_zeroR {w : World} {B g : Nat} (hB : B ≤ g) (hg : w.heap[g]? = some (.cells #[] 30 (0, 0))) : RR w B (.slice (some ⟨g, 0, none⟩) 0 0) [] [] :=
  ⟨⟨rfl, .inr ⟨g, 0, #[], rfl, hB, hg, Nat.le_refl _, by unfold maxLen; omega, rfl, rfl⟩⟩, fun _ h => absurd h (Nat.not_lt_zero _), fun _ _ h => absurd h (Nat.not_lt_zero _)⟩
set_option maxRecDepth 100000 in
set_option maxHeartbeats 16000000 in
theorem rComponents_p (w : World) (oE : Option Addr) (n cE : Nat) (E : List (List Int)) (h : Edz w oE n E) (hn : n ≤ 1000000) (hr : ∀ l ∈ E, l.length ≤ 1000000) : Calls Try.prog 13 #[.agg #[.slice oE n cE]] w fun e w' => ∃ oc nc cc, e = .returned (.slice oc nc cc) ∧ EdgB w' w.heap.size oc nc (compsE E) ∧ Only (fun _ => False) w w' := by
  rw [← rCompsE_eq]
  have hlen := h.len
  have hn9 : n ≤ 1000000000 := by omega
  have hr9 : ∀ l ∈ E, l.length ≤ 1000000000 := fun l hl => by have := hr l hl; omega
  have hA : Only (fun _ => False) w (w.alloc (.cells #[.slice oE n cE] 24)) := (Only.refl _ _).alloc _
  have s1 : (w.alloc (.cells #[.slice oE n cE] 24)).heap.size = w.heap.size + 1 := by show (Array.push _ _).size = _; rw [Array.size_push]
  have hEA := h.keep hA
  have HB0 : Hid (∀ w', Only (fun _ => False) (w.alloc (.cells #[.slice oE n cE] 24)) w' → w'.cell? ⟨w.heap.size, 0, none⟩ = some (.slice oE n cE)) := Lib.hid (fun w' ho => (blk_c ((ho.block w.heap.size (by rw [s1]; omega) (fun hc => hc)).trans (new_block w _)) rfl).1)
  cases hv : validE E
  · have HR : Hid (rCompsE E = []) := Lib.hid (by unfold rCompsE; rw [hv]; rfl)
    have HV := Lib.hid hv
    clear hv
    go_enter Try.func13, Try.ntmps13
    go_wp2_with (go_at_call 25; (refine (Valid_p _ oE n cE E hEA hn9 hr9).mono ?_); rintro e w5 ⟨rfl, hO5⟩; have q5 := HB0.out _ hO5; have hv := HV.out)
    go_ret
    rw [HR.out]
    exact ⟨none, 0, 0, rfl, EdgB.nil _ _, hA.trans hO5⟩
  · have hG := valid_G hv
    have hGn : (natE E).length = n := by rw [natE_len, hlen]
    have HR : Hid (rCompsE E = (runR (natE E) (muR (natE E) (s0R (natE E))) (s0R (natE E))).out) := Lib.hid (by unfold rCompsE compsR; rw [hv]; rfl)
    have HV := Lib.hid hv
    have hmk := mk_bools (n := n) (by omega)
    clear hv
    go_enter Try.func13, Try.ntmps13
    go_wp2_with (go_at_call 25; (refine (Valid_p _ oE n cE E hEA hn9 hr9).mono ?_); rintro e w5 ⟨rfl, hO5⟩; have q5 := HB0.out _ hO5; have r5 := HB0.out (w5.alloc (.cells #[] 30)) (hO5.trans ((Only.refl (fun _ => False) w5).alloc (.cells #[] 30))); have hv := HV.out)
    obtain ⟨G, hGe⟩ : ∃ G, natE E = G := ⟨_, rfl⟩
    have HCP : Hid (∀ wx u, Only (w5.heap.size ≤ ·) w5 wx → u < n → Calls Try.prog 31 #[.agg #[.slice oE n cE], iV u] wx fun e w' => ∃ oa na ca, e = .returned (.slice oa na ca) ∧ IR w' wx.heap.size (.slice oa na ca) (compR G u) ∧ Only (fun _ => False) wx w') := Lib.hid (fun wx u ho hu => (component_p wx oE n cE E u ((hEA.keep hO5).old ho (fun i hi hc => by have hc' : w5.heap.size ≤ i := hc; omega)) hn hr HV.out hu).mono (by
      rw [hGe]
      rintro e w' ⟨v, rfl, h2, h3⟩
      obtain ⟨oa, ca, hvv⟩ := rowForm h2
      subst hvv
      exact ⟨oa, _, ca, rfl, h2, h3⟩))
    have HRD : Hid (∀ wx (oc : Option Addr) (nc cc : Nat) (c : List Nat) (Bd gd cd : Nat) (d : List Bool) (r : Bool), Only (w5.heap.size ≤ ·) w5 wx → Ints wx oc nc c → c ≠ [] → c.headD 0 < n → nc ≤ 1000000 → BW wx Bd (.slice (some ⟨gd, 0, none⟩) n cd) d → readyR G c d = r → Calls Try.prog 32 #[.agg #[.slice oE n cE], .slice oc nc cc, .slice (some ⟨gd, 0, none⟩) n cd] wx fun e w' => e = .returned (.bool r) ∧ Only (fun _ => False) wx w') := Lib.hid (fun wx oc nc cc c Bd gd cd d r ho h1 h2 h3 h4 h5 h6 => ready_p wx oE n cE E oc nc cc c Bd gd cd d ((hEA.keep hO5).old ho (fun i hi hc => by have hc' : w5.heap.size ≤ i := hc; omega)) hn hr HV.out h1 h2 h3 h4 h5 r (by rw [hGe]; exact h6))
    have hwl : w.heap.size < w5.heap.size := by have := hO5.size; omega
    have HB : Hid (∀ w', Only (w5.heap.size ≤ ·) w5 w' → w'.cell? ⟨w.heap.size, 0, none⟩ = some (.slice oE n cE)) := Lib.hid (fun w' ho => (World.cell?_of_block (ho.block w.heap.size hwl (fun hc => by have hc' : w5.heap.size ≤ w.heap.size := hc; omega))).trans q5)
    have HEND : Hid (∀ w', Only (w5.heap.size ≤ ·) w5 w' → Only (fun _ => False) w w') := Lib.hid (fun w' ho => (hA.trans hO5).trans ⟨ho.os, ho.tape, ho.output, ho.size, fun i hi _ => ho.block i hi (fun hc => by have hc' : w5.heap.size ≤ i := hc; omega)⟩)
    have s5 : (w5.alloc (.cells #[] 30)).heap.size = w5.heap.size + 1 := by show (Array.push _ _).size = _; rw [Array.size_push]
    have h0 : CM w5 ((w5.alloc (.cells #[] 30)).alloc (.cells (madeCells #[Value.bool false] n) 4)) w5.heap.size n (.slice (some ⟨w5.heap.size, 0, none⟩) 0 0) [] (s0R G) := by
      refine ⟨?_, (row_zeroR (Nat.le_refl _) (new_block w5 _)).only (K := fun _ => False) ((Only.refl _ _).alloc _) (fun _ _ _ hc => hc), ((Only.refl _ _).alloc _).alloc _⟩
      show BW _ _ _ (List.replicate G.length false)
      rw [← hGe, hGn]
      exact BW.made (Nat.le_succ _) (new_at _ s5) hn9
    rw [hGe] at hG hGn HR
    have HI0 := Lib.hid (RI.start G)
    have hmu0 : muR G (s0R G) ≤ 1000000000000000000 := by
      have h1 : cntB (List.replicate G.length false) ≤ G.length := by
        unfold cntB
        exact Nat.le_trans List.countP_le_length (by rw [List.length_replicate]; exact Nat.le_refl _)
      have h2 : cntB (List.replicate G.length false) * (G.length + 1) ≤ 1000000 * 1000001 := Nat.mul_le_mul (by omega) (by omega)
      show cntB (List.replicate G.length false) * (G.length + 1) + (G.length - 0) ≤ _
      omega
    obtain ⟨ORD, hord⟩ : ∃ O, (runR G (muR G (s0R G)) (s0R G)).out = O := ⟨_, rfl⟩
    rw [hord] at HR
    have HORD := Lib.hid hord
    obtain ⟨F, hF⟩ : ∃ F, muR G (s0R G) = F := ⟨_, rfl⟩
    rw [hF] at HORD
    have HF := Lib.hid hF
    have HG := Lib.hid hG
    have HGn := Lib.hid hGn
    have HWL := Lib.hid hwl
    obtain ⟨i1', hi1, hj0, hj1, hj2⟩ := info_parts infoInts
    clear s5 hGe hG hGn hF hord hmu0 hO5 q5 r5 hmk hv hEA s1 hwl
    obtain ⟨b, hb⟩ : ∃ b, w5.heap.size = b := ⟨_, rfl⟩
    rw [hb] at h0 HCP HRD HB HEND ⊢
    have HBE := Lib.hid hb
    clear hb
    have HFF : Hid (muR G (s0R G) ≤ F) := Lib.hid (Nat.le_of_eq HF.out)
    go_loopg [3, 5] F (fun gk vo q wr => ∃ (s : RS) (vs : List Value) (f : Nat), q = iV s.at_ ∧ CM w5 wr b n vo vs s ∧ Hid (RI G s) ∧ Hid (muR G s = gk) ∧ Hid (muR G s ≤ f) ∧ Hid ((runR G f s).out = ORD) ∧ s.at_ ≤ n)
    case atStart => exact ⟨s0R G, [], F, rfl, h0, HI0, HF, HFF, HORD, Nat.zero_le _⟩
    case round =>
      clear h0 HI0 HF HFF HORD
      obtain ⟨s, vs, f, rfl, hM, HI, HMU, HMF, HRU, hat⟩ := hrel
      have q0 := HB.out wr hM.fr
      obtain ⟨i, hie⟩ : ∃ i, s.at_ = i := ⟨_, rfl⟩
      rw [hie] at hat ⊢
      have h01 : (0 : Int) ≤ (i : Int) := Int.natCast_nonneg i
      have h03 : (i : Int).toNat = i := Int.toNat_natCast i
      by_cases hlt : i < n
      · have h02 : (i : Int) < (n : Int) := by omega
        have hiG : s.at_ < G.length := by rw [hie, HGn.out]; exact hlt
        obtain ⟨hcd, hzd⟩ := hM.dn.at (k := i) (by rw [HI.out.len, HGn.out]; exact hlt)
        obtain ⟨f', hff⟩ : ∃ x, f = x + 1 := ⟨f - 1, by have h1 := HMF.out; unfold muR at h1; omega⟩
        subst hff
        have hru := HRU.out
        rw [runR_step hiG] at hru
        have HRU2 := Lib.hid hru
        have HI2 := Lib.hid (HI.out.step HG.out hiG)
        have hms := stepR_mu HG.out HI.out hiG
        have HMU2 := Lib.hid (show muR G (stepR G s) + 1 ≤ gk by rw [← HMU.out]; exact hms)
        have HMF2 := Lib.hid (show muR G (stepR G s) ≤ f' by have := HMF.out; omega)
        have HMB := Lib.hid hM
        clear hru hms
        cases hd : gb s.done i
        · rw [hd] at hcd
          have hiG2 : i < G.length := by rw [HGn.out]; exact hlt
          have hself := compR_self HG.out hiG2
          have hclt : ∀ x ∈ compR G i, x < n := fun x hx => by rw [← HGn.out]; exact ((mem_compR HG.out hiG2 x).1 hx).1
          have hcne : compR G i ≠ [] := fun e => by rw [e] at hself; cases hself
          have hchd := hclt _ (headD_mem hcne)
          have hcl := asc_len n (compR G i) 0 (fun x hx => ⟨Nat.zero_le _, hclt x hx⟩) (compR_asc G i)
          obtain ⟨r, hr⟩ : ∃ r, readyR G (compR G i) s.done = r := ⟨_, rfl⟩
          have HRY := Lib.hid hr
          have HST0 : Hid (stepR G s = if r then ⟨s.out ++ [compR G i], putB s.done (compR G i), 0⟩ else { s with at_ := i + 1 }) := Lib.hid (by unfold stepR; rw [hie, hd, if_neg (by decide), hr])
          obtain ⟨c, hc⟩ : ∃ c, compR G i = c := ⟨_, rfl⟩
          rw [hc] at hclt hcne hchd hcl HRY HST0
          have HC := Lib.hid hc
          have HCLT := Lib.hid hclt
          have HCNE := Lib.hid hcne
          have HHD := Lib.hid hchd
          have HCL := Lib.hid hcl
          have hfr := hM.fr
          have HFRR := Lib.hid hfr
          clear hself hclt hcne hchd hcl hr hc hM hfr hd
          cases r
          · have HST : Hid (stepR G s = { s with at_ := i + 1 }) := Lib.hid (by rw [HST0.out, if_neg (by decide)])
            go_wp2_with (first | (go_at_call 31; (refine (HCP.out wr i HFRR.out hlt).mono ?_); rintro e w6 ⟨oa, na, ca, rfl, hI6, hO6⟩; rw [HC.out] at hI6; have HM6 := Lib.hid (HMB.out.same hO6); have HI6 := Lib.hid hI6; have hna := hI6.len; have hnb : na ≤ 1000000 := (by have := HCL.out; omega); have q6 := HB.out w6 HM6.out.fr; clear hI6 hna) | (go_at_call 32; (refine (HRD.out w6 oa na ca c b (b + 1) n s.done false HM6.out.fr HI6.out.ints HCNE.out HHD.out hnb HM6.out.dn HRY.out).mono ?_); rintro e w7 ⟨rfl, hO7⟩))
            go_roundg (muR G (stepR G s))
            case rel => exact ⟨{ s with at_ := i + 1 }, vs, f', rfl, ⟨HM6.out.dn.only hO7 (fun _ _ hc => hc), HM6.out.ou.only hO7 (fun _ _ _ hc => hc), HM6.out.fr.trans hO7.lift⟩, by rw [← HST.out]; exact HI2, by rw [← HST.out]; exact Lib.hid rfl, by rw [← HST.out]; exact HMF2, by rw [← HST.out]; exact HRU2, hlt⟩
            case measure => have := HMU2.out; omega
          · have HST : Hid (stepR G s = ⟨s.out ++ [c], putB s.done c, 0⟩) := Lib.hid (by rw [HST0.out, if_pos rfl])
            obtain ⟨ol, cl, hvo⟩ := rowForm HMB.out.ou.out
            obtain ⟨m, hm⟩ : ∃ m, s.out.length = m := ⟨_, rfl⟩
            rw [hm] at hvo
            subst hvo
            have HOM := Lib.hid hm
            have HVL := Lib.hid (show vs.length = m by rw [HMB.out.ou.vl, hm])
            have hmb : m ≤ n := by
              have h1 := HI.out
              have hd' : (s.out.map (fun c => c.headD 0)).Nodup := by
                show List.Pairwise _ _
                rw [List.pairwise_iff_getElem]
                intro i j hi hj hij e
                rw [List.length_map] at hi hj
                rw [List.getElem_map, List.getElem_map] at e
                have e1 : lAt s.out i = s.out[i] := by show s.out.getD i [] = _; rw [List.getD_eq_getElem?_getD, List.getElem?_eq_getElem hi]; rfl
                have e2 : lAt s.out j = s.out[j] := by show s.out.getD j [] = _; rw [List.getD_eq_getElem?_getD, List.getElem?_eq_getElem hj]; rfl
                have g1 := headD_mem (h1.ne i hi)
                have g2 := headD_mem (h1.ne j hj)
                rw [e1] at g1
                rw [e2, ← e] at g2
                have := h1.dis i j _ hi hj (by rw [e1]; exact g1) (by rw [e2]; exact g2)
                omega
              have := nodup_lt n _ hd' (fun x hx => by
                obtain ⟨c, hc, e⟩ := List.mem_map.1 hx
                obtain ⟨i, hi, e2⟩ := List.getElem_of_mem hc
                have e1 : lAt s.out i = s.out[i] := by show s.out.getD i [] = _; rw [List.getD_eq_getElem?_getD, List.getElem?_eq_getElem hi]; rfl
                have g1 := h1.lt i hi _ (headD_mem (h1.ne i hi))
                rw [e1, e2, e, HGn.out] at g1
                exact g1)
              rw [List.length_map, hm] at this
              exact this
            have HAP : Hid (∀ (w6 : World) (x : Value), IR w6 wr.heap.size x c → ∀ i, i < s.out.length → ∀ g, (vAt vs i).ownBlock = some g → x.ownBlock ≠ some g) := Lib.hid (fun w6 x hx i hi g h1 h2 => by
              have h3 := (World.ownsRow.lt hx g h2).1
              have h4 := (World.ownsRow.lt (HMB.out.ou.row i hi) g h1).2
              omega)
            have HWB := Lib.hid (show b ≤ wr.heap.size by
              have := HMB.out.fr.size
              have := HBE.out
              omega)
            clear hm
            go_wp2_with (first | (go_at_call 31; (refine (HCP.out wr i HFRR.out hlt).mono ?_); rintro e w6 ⟨oa, na, ca, rfl, hI6, hO6⟩; rw [HC.out] at hI6; have HM6 := Lib.hid (HMB.out.same hO6); have HI6 := Lib.hid hI6; have hna := hI6.len; have HNA := Lib.hid hna; have hnb : na ≤ 1000000 := (by have := HCL.out; omega); have q6 := HB.out w6 HM6.out.fr; clear hI6 hna) | (go_at_call 32; (refine (HRD.out w6 oa na ca c b (b + 1) n s.done true HM6.out.fr HI6.out.ints HCNE.out HHD.out hnb HM6.out.dn HRY.out).mono ?_); rintro e w7 ⟨rfl, hO7⟩; have HM7 := Lib.hid (HM6.out.same hO7); have HI7 := Lib.hid (HI6.out.only hO7 (fun _ _ hc => hc)); have HMA := Lib.hid (HM7.out.same ((Only.refl (fun _ => False) w7).alloc (.cells #[.slice oa na ca] 30))); have HIA := Lib.hid (HI7.out.only ((Only.refl (fun _ => False) w7).alloc (.cells #[.slice oa na ca] 30)) (fun _ _ hc => hc)); have HOWN : Hid (w7.ownsRow b 30 1 (.slice ol m cl) m vs) := Lib.hid (by have h := HM7.out.ou.out; rw [HOM.out] at h; exact h); have HSZ := Lib.hid (show b ≤ w7.heap.size by have := HM7.out.fr.size; have := HBE.out; omega)) | (at_builtin; refine wpList_append_lies _ rfl _ _ 22 rfl b 30 i1' nilV 1 24 Try.underlying22 hi1 hj0 hj1 hj2 rfl (by decide) (.slice ol m cl) m vs rfl (World.ownsRow.alloc HOWN.out _) ⟨w7.heap.size, 0, none⟩ 1 1 [.slice oa na ca] rfl rfl (World.news_of_block (new_block w7 _)) (by intro x hx; rw [List.mem_singleton.1 hx]; rfl) Nat.one_pos (by unfold maxLen; omega) (by omega) (by show b ≤ (Array.push _ _).size; rw [Array.size_push]; have := HSZ.out; omega) _ rfl ?_; intro g cg w8 hown8 hgrow8 hat8 hlt8; have HM8 := Lib.hid (HMA.out.add hgrow8 (v' := .slice (some ⟨g, 0, none⟩) (m + 1) cg) (x := .slice oa na ca) (l := c) (by rw [HOM.out]; exact hown8) (rowMono HIA.out HWB.out) (HAP.out _ _ HIA.out)); clear hown8 hgrow8 hat8 hlt8))
            have hm8 := HM8.out
            have HLST : Hid (∀ (wx : World) (sx : List Bool) (ax : Nat), CM w5 wx b n (.slice (some ⟨g, 0, none⟩) (m + 1) cg) (vs ++ [.slice oa na ca]) ⟨s.out ++ [c], sx, ax⟩ → IR wx b (.slice oa na ca) c) := Lib.hid (fun wx sx ax hx => by
              have h1 := hx.ou.row s.out.length (by show _ < (s.out ++ [c]).length; simp)
              change IR wx b (vAt (vs ++ [.slice oa na ca]) s.out.length) (lAt (s.out ++ [c]) s.out.length) at h1
              rw [lAt_end, HOM.out, ← HVL.out, vAt_end] at h1
              exact h1)
            have HDLN : Hid (∀ k, (putB s.done (c.take k)).length = n) := Lib.hid (fun k => by rw [putB_len, HI.out.len, HGn.out])
            have h00 : CM w5 w8 b n (.slice (some ⟨g, 0, none⟩) (m + 1) cg) (vs ++ [.slice oa na ca]) ⟨s.out ++ [c], putB s.done (c.take 0), 0⟩ := ⟨hm8.dn, hm8.ou, hm8.fr⟩
            have hnan : na ≤ n := by have := HNA.out; have := HCL.out; omega
            clear hm8 hcd hzd
            go_loopw [7] (fun q wr => ∃ k : Nat, k ≤ na ∧ q = .int .i64 k ∧ CM w5 wr b n (.slice (some ⟨g, 0, none⟩) (m + 1) cg) (vs ++ [.slice oa na ca]) ⟨s.out ++ [c], putB s.done (c.take k), 0⟩) (fun q _ => na - (intOf q).toNat)
            case atStart => exact ⟨0, by omega, rfl, h00⟩
            case round =>
              clear h00
              obtain ⟨k, hk, rfl, hMk⟩ := hrel
              have h11 : (0 : Int) ≤ (k : Int) := Int.natCast_nonneg k
              have h13 : (k : Int).toNat = k := Int.toNat_natCast k
              by_cases hka : k < na
              · have hkc : k < c.length := by rw [← HNA.out]; exact hka
                obtain ⟨gc, hgc, -, -, hcc, hck, -⟩ := (HLST.out wr _ _ hMk).at hkc
                subst hgc
                obtain ⟨x, hx⟩ : ∃ x, gt c k = x := ⟨_, rfl⟩
                rw [hx] at hck
                have hxn : x < n := HCLT.out x (by rw [← hx, gt_at hkc]; exact List.getElem_mem hkc)
                obtain ⟨hcx, hzx⟩ := hMk.dn.at (k := x) (by show x < (putB s.done (c.take k)).length; rw [HDLN.out]; exact hxn)
                have hpt := putB_take (d := s.done) hkc
                rw [hx] at hpt
                have HPT := Lib.hid hpt
                have HMK := Lib.hid (hMk.mark (j := x) (by show x < (putB s.done (c.take k)).length; rw [HDLN.out]; exact hxn))
                have h12 : (k : Int) < (na : Int) := by omega
                have h14 : (0 : Int) ≤ (x : Int) := Int.natCast_nonneg x
                have h15 : (x : Int) < (n : Int) := by omega
                have h16 : (x : Int).toNat = x := Int.toNat_natCast x
                clear hx hpt hkc hMk
                go_wp2
                go_roundw
                case rel => exact ⟨k + 1, by omega, by go_num, by rw [HPT.out]; exact HMK.out⟩
                case measure => simp [intOf]; omega
              · have hkn : k = na := by omega
                have HPE : Hid (putB s.done (c.take k) = putB s.done c) := Lib.hid (by rw [List.take_of_length_le (by have := HNA.out; omega)])
                have HMK := Lib.hid hMk
                clear hMk
                go_wp2
                go_roundg (muR G (stepR G s))
                case rel => exact ⟨⟨s.out ++ [c], putB s.done c, 0⟩, vs ++ [.slice oa na ca], f', rfl, by rw [← HPE.out]; exact HMK.out, by rw [← HST.out]; exact HI2, by rw [← HST.out]; exact Lib.hid rfl, by rw [← HST.out]; exact HMF2, by rw [← HST.out]; exact HRU2, Nat.zero_le _⟩
                case measure => have := HMU2.out; omega
        · rw [hd] at hcd
          have HST : Hid (stepR G s = { s with at_ := i + 1 }) := Lib.hid (by unfold stepR; rw [hie, hd, if_pos rfl])
          clear hd hM
          go_wp2
          go_roundg (muR G (stepR G s))
          case rel => exact ⟨{ s with at_ := i + 1 }, vs, f', rfl, ⟨HMB.out.dn, HMB.out.ou, HMB.out.fr⟩, by rw [← HST.out]; exact HI2, by rw [← HST.out]; exact Lib.hid rfl, by rw [← HST.out]; exact HMF2, by rw [← HST.out]; exact HRU2, hlt⟩
          case measure => have := HMU2.out; omega
      · have HE := Lib.hid (show s.out = ORD by rw [← HRU.out, runR_end (by rw [hie, HGn.out]; omega)])
        obtain ⟨ol, cl, hvo⟩ := rowForm hM.ou.out
        subst hvo
        have HED := Lib.hid hM.ou.edgB
        have HEN := Lib.hid (HEND.out wr hM.fr)
        clear hM
        go_wp2
        go_ret
        rw [HR.out, ← HE.out]
        exact ⟨ol, _, cl, rfl, HED.out.mono (by have := HWL.out; have := HBE.out; omega), HEN.out⟩
end Go.Proofs.Ytlnknkplebaioaa
