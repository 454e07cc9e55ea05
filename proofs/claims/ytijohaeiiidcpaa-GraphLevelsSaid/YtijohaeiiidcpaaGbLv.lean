/-
  WALKS. The reference: Levels.
-/
import Derived.Test.YtijohaeiiidcpaaGbLo
import Derived.Test.YtijohaeiiidcpaaGbMc
namespace Go.Proofs.Ytijohaeiiidcpaa
open Go.RowKit Go.Maps
theorem re_first {G : List (List Nat)} {x y : Nat} (h : Re G x y) (hne : x ≠ y) : ∃ k v, nx G x k = some v ∧ Re G v y := by
  induction h with
  | refl => exact absurd rfl hne
  | step _ e ih =>
    rename_i y' z k _
    by_cases hx : x = y'
    · subst hx
      exact ⟨k, z, e, Re.refl z⟩
    · obtain ⟨a, v, h1, h2⟩ := ih hx
      exact ⟨a, v, h1, h2.step e⟩
theorem cyc_bad {G : List (List Nat)} (hG : ValidG G) : (∃ i, i < G.length ∧ gb (seenR G (lat G i)) i = true) ↔ (compsG G).any (badG G) = true := by
  have hP := comps_parts hG
  obtain ⟨C, hC⟩ : ∃ C, compsG G = C := ⟨_, rfl⟩
  rw [hC] at hP ⊢
  have hsucc : ∀ i y, y ∈ lat G i → ∃ k, nx G i k = some y := fun i y hy => by
    obtain ⟨k, hk, ek⟩ := List.getElem_of_mem hy
    exact ⟨k, List.getElem?_eq_some_iff.2 ⟨hk, ek⟩⟩
  have hm : ∀ i, ∀ y ∈ lat G i, y < G.length := fun i y hy => by obtain ⟨k, hk⟩ := hsucc i y hy; exact hG i k y hk
  have hin : ∀ i k y, nx G i k = some y → y ∈ lat G i := fun i k y hk => List.mem_of_getElem? hk
  constructor
  · rintro ⟨i, hi, hg⟩
    obtain ⟨v, hv, hr⟩ := (seenR_iff hG (hm i) i).1 hg
    obtain ⟨k, hk⟩ := hsucc i v hv
    obtain ⟨j, hj, hij⟩ := hP.all i hi
    have hvj := (hP.tog j i v hj hij (hm i v hv)).2 ⟨(Re.refl i).step hk, hr⟩
    refine yes_bad hj ?_
    unfold badG
    by_cases h1 : 1 < (lAt C j).length
    · rw [decide_eq_true h1]; rfl
    · match hc : lAt C j with
      | [] => rw [hc] at hij; cases hij
      | [a] =>
        rw [hc] at hij hvj
        have e1 := List.mem_singleton.1 hij
        have e2 := List.mem_singleton.1 hvj
        subst e1
        subst e2
        have : decide (([v] : List Nat).headD 0 ∈ lAt G (([v] : List Nat).headD 0)) = true := decide_eq_true hv
        rw [this, Bool.or_true]
      | a :: b :: r => rw [hc] at h1; simp at h1
  · intro h
    obtain ⟨c, hc, hb⟩ := List.any_eq_true.1 h
    obtain ⟨j, hj, e⟩ := List.getElem_of_mem hc
    have e1 : lAt C j = c := by rw [← e]; show C.getD j [] = _; rw [List.getD_eq_getElem?_getD, List.getElem?_eq_getElem hj]; rfl
    unfold badG at hb
    simp only [Bool.or_eq_true, decide_eq_true_eq] at hb
    rcases hb with h1 | h1
    · have hx : c[0] ∈ lAt C j := by rw [e1]; exact List.getElem_mem _
      have hy : c[1] ∈ lAt C j := by rw [e1]; exact List.getElem_mem _
      have hxn := hP.lt j hj _ hx
      have hyn := hP.lt j hj _ hy
      have hasc := hP.asc j hj
      rw [e1] at hasc
      have hlt := List.pairwise_iff_getElem.1 hasc 0 1 (by omega) h1 (by omega)
      obtain ⟨h2, h3⟩ := (hP.tog j _ _ hj hx hyn).1 hy
      obtain ⟨k, v, hk, hv⟩ := re_first h2 (by omega)
      exact ⟨c[0], hxn, (seenR_iff hG (hm _) _).2 ⟨v, hin _ _ _ hk, hv.trans h3⟩⟩
    · have hne := hP.ne j hj
      rw [e1] at hne
      have hx : c.headD 0 ∈ lAt C j := by rw [e1]; exact headD_mem hne
      exact ⟨c.headD 0, hP.lt j hj _ hx, (seenR_iff hG (hm _) _).2 ⟨c.headD 0, h1, Re.refl _⟩⟩
theorem levels_no {E : List (List Int)} (hv : validE E = true) (h : ∀ i, i < E.length → rCyclicE E (i : Int) = false) : levelsE E = (levK (lonK (natE E) (compsG (natE E)) E.length (compsG (natE E)).length) E.length, 0) := by
  have hG := valid_G hv
  unfold levelsE levelsG
  rw [if_pos hv]
  have : (compsG (natE E)).any (badG (natE E)) = false := by
    cases hb : (compsG (natE E)).any (badG (natE E)) with
    | false => rfl
    | true =>
      obtain ⟨i, hi, hg⟩ := (cyc_bad hG).2 hb
      rw [natE_len] at hi
      have := h i hi
      unfold rCyclicE at this
      rw [hv, show okN E.length (i : Int) = true by unfold okN; simp; omega, Int.toNat_natCast, hg] at this
      cases this
  rw [this]
  rfl
theorem levels_yes {E : List (List Int)} (hv : validE E = true) {i : Nat} (hi : i < E.length) (h : rCyclicE E (i : Int) = true) : levelsE E = ([], 18) := by
  have hG := valid_G hv
  unfold levelsE levelsG
  rw [if_pos hv]
  have : (compsG (natE E)).any (badG (natE E)) = true := (cyc_bad hG).1 ⟨i, by rw [natE_len]; exact hi, by
    unfold rCyclicE at h
    rw [hv, show okN E.length (i : Int) = true by unfold okN; simp; omega, Int.toNat_natCast] at h
    exact h⟩
  rw [this]
  rfl
/-- The levels as they grow; the lengths of the paths. -/
structure LM (w0 w : World) (B g n : Nat) (v : Value) (vs : List Value) (L : List (List Nat)) (l : List Nat) : Prop where
  rr : RR w B v vs L
  lo : IR w B (.slice (some ⟨g, 0, none⟩) n n) l
  ap : ∀ i, i < L.length → (vAt vs i).ownBlock ≠ some g
  fr : Only (B ≤ ·) w0 w
section
variable {w0 w w' w3 : World} {B g n : Nat} {v : Value} {vs : List Value} {L : List (List Nat)} {l : List Nat}
theorem LM.same (h : LM w0 w B g n v vs L l) (ho : Only (fun _ => False) w w') : LM w0 w' B g n v vs L l :=
  ⟨h.rr.only ho (fun _ _ _ hc => hc), h.lo.only ho (fun _ _ hc => hc), h.ap, h.fr.trans ho.lift⟩
theorem LM.push (h : LM w0 w B g n v vs L l) (hg : w.grownBy w3 v.ownBlock) {v' : Value} (hrow : w3.ownsRow B 30 1 v' (L.length + 1) (vs ++ [nilV])) : LM w0 w3 B g n v' (vs ++ [nilV]) (L ++ [[]]) l := by
  have hvl := h.rr.vl
  refine ⟨h.rr.push hg hrow, rowKeep h.lo (fun b hb => hg.block b (World.ownsRow.lt h.lo b hb).2 (fun e => rowApart h.lo h.rr.out (by decide) hb e.symm)), fun i hi => ?_, h.fr.trans (Only.grown hg (fun b e => (World.ownsRow.lt h.rr.out b e).1))⟩
  rw [List.length_append, List.length_singleton] at hi
  by_cases e : i = L.length
  · subst e
    rw [← hvl, vAt_end]
    intro hc
    cases hc
  · rw [vAt_app (by omega)]
    exact h.ap i (by omega)
theorem LM.app {p g0 ca : Nat} (h : LM w0 w B g n (.slice (some ⟨g0, 0, none⟩) L.length ca) vs L l) (hp : p < L.length) (hg : w.grownBy w3 (vAt vs p).ownBlock) {v' : Value} {l' : List Nat} (hrow : IR w3 B v' l') (hb : ∀ g, v'.ownBlock = some g → (vAt vs p).ownBlock = some g ∨ w.heap.size ≤ g) :
    LM w0 (w3.setCell ⟨g0, p, none⟩ v') B g n (.slice (some ⟨g0, 0, none⟩) L.length ca) (vs.set p v') (L.set p l') l := by
  have hvl := h.rr.vl
  have hgl := (World.ownsRow.lt h.lo g rfl).2
  have hl3 : IR w3 B (.slice (some ⟨g, 0, none⟩) n n) l := rowKeep h.lo (fun b hb' => hg.block b (World.ownsRow.lt h.lo b hb').2 (fun e => by
    have hgb : g = b := Option.some.inj hb'
    subst hgb
    exact h.ap p hp e.symm))
  have hout3 := rowKeep h.rr.out (fun b hb' => hg.block b (World.ownsRow.lt h.rr.out b hb').2 (fun e => h.rr.ne hp e.symm hb'))
  have hO : Only (· = g0) w3 (w3.setCell ⟨g0, p, none⟩ v') := Only.setCell (K := (· = g0)) (Only.refl _ _) rfl _
  refine ⟨h.rr.app hp hg hrow hb, hl3.only hO (fun b hb' e => rowApart hl3 hout3 (by decide) hb' (by rw [show b = g0 from e]; rfl)), fun i hi => ?_, (h.fr.trans (Only.grown hg (fun b e => (World.ownsRow.lt (h.rr.row p hp) b e).1))).trans (hO.wide (fun i hi => ?_))⟩
  · rw [List.length_set] at hi
    rw [vAt_set (by omega)]
    split
    · intro e
      rcases hb g e with h1 | h1
      · exact h.ap p hp h1
      · omega
    · exact h.ap i hi
  · have := (World.ownsRow.lt h.rr.out g0 rfl).1
    show B ≤ i
    have hi' : i = g0 := hi
    omega
end
set_option maxRecDepth 100000 in
set_option maxHeartbeats 16000000 in
theorem rLevels_p (w : World) (oE : Option Addr) (n cE : Nat) (E : List (List Int)) (h : Edz w oE n E) (hn : n ≤ 1000000) (hr : ∀ l ∈ E, l.length ≤ 1000000) : Calls Try.prog 20 #[.agg #[.slice oE n cE]] w fun e w' => ∃ oc nc cc, e = .returned (.tuple #[.slice oc nc cc, iV (levelsE E).2]) ∧ Edg w' oc nc (levelsE E).1 ∧ Only (fun _ => False) w w' := by
  have hlen := h.len
  have hn9 : n ≤ 1000000000 := by omega
  have hr9 : ∀ l ∈ E, l.length ≤ 1000000000 := fun l hl => by have := hr l hl; omega
  have hA : Only (fun _ => False) w (w.alloc (.cells #[.slice oE n cE] 24)) := (Only.refl _ _).alloc _
  have hEA := h.keep hA
  have HB : Hid (∀ w', Only (fun _ => False) (w.alloc (.cells #[.slice oE n cE] 24)) w' → w'.cell? ⟨w.heap.size, 0, none⟩ = some (.slice oE n cE)) := Lib.hid (fun w' ho => (blk_c ((ho.block w.heap.size (by show _ < (Array.push _ _).size; rw [Array.size_push]; omega) (fun hc => hc)).trans (new_block w _)) rfl).1)
  cases hv : validE E
  · have HR : Hid (levelsE E = ([], 1)) := Lib.hid (by unfold levelsE; rw [hv]; rfl)
    have HV := Lib.hid hv
    clear hv
    go_enter Try.func20, Try.ntmps20
    go_wp2_with (go_at_call 25; (refine (Valid_p _ oE n cE E hEA hn9 hr9).mono ?_); rintro e w5 ⟨rfl, hO5⟩; have hv := HV.out)
    refine bodyPost_ret (v := .tuple #[.slice none 0 0, .int .i64 1]) (by simp [results, Try.results20, go_sem]) rfl ?_
    rw [HR.out]
    exact ⟨none, 0, 0, rfl, Edg.nil _, hA.trans hO5⟩
  · have HCY : Hid (∀ wx (k : Nat) b, Only (fun _ => False) (w.alloc (.cells #[.slice oE n cE] 24)) wx → rCyclicE E (k : Int) = b → Calls Try.prog 18 #[.agg #[.slice oE n cE], .int .i64 k] wx fun e w' => e = .returned (.bool b) ∧ Only (fun _ => False) wx w') := Lib.hid (fun wx k b ho hb => by
      have := rCyclic_p wx oE n cE E k (hEA.keep ho) hn hr
      rw [hb] at this
      exact this)
    have HLG : Hid (∀ wx, Only (fun _ => False) (w.alloc (.cells #[.slice oE n cE] 24)) wx → Calls Try.prog 39 #[.agg #[.slice oE n cE]] wx fun e w' => ∃ g, e = .returned (.slice (some ⟨g, 0, none⟩) n n) ∧ IR w' wx.heap.size (.slice (some ⟨g, 0, none⟩) n n) (lonK (natE E) (compsG (natE E)) n (compsG (natE E)).length) ∧ Only (fun _ => False) wx w') := Lib.hid (fun wx ho => longest_p wx oE n cE E (hEA.keep ho) hn hr hv)
    have HNO : Hid ((∀ i, i < n → rCyclicE E (i : Int) = false) → levelsE E = (levK (lonK (natE E) (compsG (natE E)) n (compsG (natE E)).length) n, 0)) := Lib.hid (fun h => by
      have := levels_no hv (by rw [hlen]; exact h)
      rw [hlen] at this
      exact this)
    have HYES : Hid (∀ i, i < n → rCyclicE E (i : Int) = true → levelsE E = ([], 18)) := Lib.hid (fun i hi h => levels_yes hv (by rw [hlen]; exact hi) h)
    have hlb : ∀ x, gt (lonK (natE E) (compsG (natE E)) n (compsG (natE E)).length) x ≤ 1000000000000 := fun x => by
      have h1 := lonK_le (G := natE E) (C := compsG (natE E)) (n := n) (nat_deg hr) _ (Nat.le_refl _) x
      have h2 := parts_len (comps_parts (valid_G hv))
      rw [natE_len] at h2
      have h3 : (compsG (natE E)).length * 1000000 ≤ 1000000 * 1000000 := Nat.mul_le_mul_right _ (by omega)
      omega
    have hll := lonK_len (natE E) (compsG (natE E)) n (compsG (natE E)).length
    obtain ⟨L, hL⟩ : ∃ L, lonK (natE E) (compsG (natE E)) n (compsG (natE E)).length = L := ⟨_, rfl⟩
    rw [hL] at HLG HNO hlb hll
    have HLB := Lib.hid hlb
    have HLL := Lib.hid hll
    have HV := Lib.hid hv
    clear hv hL hlb hll
    go_enter Try.func20, Try.ntmps20
    go_wp2_with (go_at_call 25; (refine (Valid_p _ oE n cE E hEA hn9 hr9).mono ?_); rintro e w5 ⟨rfl, hO5⟩; have hv := HV.out)
    have HO5 := Lib.hid hO5
    have HN0 : Hid (∀ i, i < 0 → rCyclicE E ((i : Nat) : Int) = false) := Lib.hid (fun i hi => absurd hi (Nat.not_lt_zero _))
    clear hO5 hv
    go_loopw [4] (fun q wr => ∃ k : Nat, k ≤ n ∧ q = .int .i64 k ∧ Hid (∀ i, i < k → rCyclicE E ((i : Nat) : Int) = false) ∧ Only (fun _ => False) w5 wr) (fun q _ => n - (intOf q).toNat)
    case atStart => exact ⟨0, by omega, rfl, HN0, Only.refl _ _⟩
    case round =>
      clear HN0
      obtain ⟨k, hk, rfl, HK, hO⟩ := hrel
      have hOw := HO5.out.trans hO
      have q0 := HB.out _ hOw
      by_cases hlt : k < n
      · cases hb : rCyclicE E (k : Int)
        · have HN : Hid (∀ i, i < k + 1 → rCyclicE E ((i : Nat) : Int) = false) := Lib.hid (fun i hi => by
            by_cases e : i = k
            · rw [e]; exact hb
            · exact HK.out i (by omega))
          have HBB := Lib.hid hb
          clear hb
          go_wp2_with (go_at_call 18; (refine (HCY.out wr k false hOw HBB.out).mono ?_); rintro e w6 ⟨rfl, hO6⟩)
          go_roundw
          case rel => exact ⟨k + 1, by omega, by go_num, HN, hO.trans hO6⟩
          case measure => simp [intOf]; omega
        · have HR := Lib.hid (HYES.out k hlt hb)
          have HBB := Lib.hid hb
          clear hb
          go_wp2_with (go_at_call 18; (refine (HCY.out wr k true hOw HBB.out).mono ?_); rintro e w6 ⟨rfl, hO6⟩)
          refine bodyPost_ret (v := .tuple #[.slice none 0 0, .int .i64 18]) (by simp [results, Try.results20, go_sem]) rfl ?_
          rw [HR.out]
          exact ⟨none, 0, 0, rfl, Edg.nil _, hA.trans (hOw.trans hO6)⟩
      · have HR := Lib.hid (HNO.out (fun i hi => HK.out i (by omega)))
        have hkn : k = n := by omega
        subst hkn
        have HOW := Lib.hid hOw
        have s0 : (wr.alloc (.cells #[] 30)).heap.size = wr.heap.size + 1 := by show (Array.push _ _).size = _; rw [Array.size_push]
        have r0 := HB.out _ (hOw.trans ((Only.refl (fun _ => False) wr).alloc (.cells #[] 30)))
        obtain ⟨w8, hw8⟩ : ∃ w8 : World, w8 = wr := ⟨_, rfl⟩
        subst hw8
        have HRZ := Lib.hid (row_zeroR (Nat.le_refl _) (new_block w8 (.cells #[] 30)))
        have HS0 := Lib.hid s0
        clear hO hOw s0
        go_wp2_with (go_at_call 39; (refine (HLG.out _ (HOW.out.trans ((Only.refl (fun _ => False) w8).alloc (.cells #[] 30)))).mono ?_); rintro e w9 ⟨g, rfl, hI9, hO9⟩)
        have h0 : LM w8 w9 w8.heap.size g k (.slice (some ⟨w8.heap.size, 0, none⟩) 0 0) [] (levK L 0) L := ⟨HRZ.out.only hO9 (fun _ _ _ hc => hc), rowMono hI9 (by rw [HS0.out]; omega), fun i hi => absurd hi (Nat.not_lt_zero _), ((Only.refl (w8.heap.size ≤ ·) w8).alloc _).trans hO9.lift⟩
        obtain ⟨i0', hi0, hz0', hz1, hz2⟩ := info_parts infoInt
        obtain ⟨i1', hi1, hj0, hj1, hj2⟩ := info_parts infoInts
        clear hI9 hO9 q0 r0
        go_loopw [5, 7] (fun v q wr => ∃ (x : Nat) (vs : List Value), x ≤ k ∧ q = .int .i64 x ∧ LM w8 wr w8.heap.size g k v vs (levK L x) L) (fun _ q _ => k - (intOf q).toNat)
        case atStart => exact ⟨0, [], by omega, rfl, h0⟩
        case round =>
          clear h0
          obtain ⟨x, vs, hx, rfl, hM⟩ := hrel
          by_cases hxl : x < k
          · have hlv := HLB.out x
            have hrw := levK_row (l := L) x (gt L x)
            have hsc := levK_succ L x
            have hm0 := levK_len HLB.out x
            obtain ⟨lv, hlve⟩ : ∃ a, gt L x = a := ⟨_, rfl⟩
            rw [hlve] at hlv hrw hsc
            obtain ⟨M, hMe⟩ : ∃ M, levK L x = M := ⟨_, rfl⟩
            rw [hMe] at hM hrw hsc hm0
            have HSC := Lib.hid hsc
            have HRW := Lib.hid hrw
            have HM0 := Lib.hid hm0
            have HLV := Lib.hid hlve
            have h01 : (0 : Int) ≤ (x : Int) := Int.natCast_nonneg x
            have h02 : (x : Int) < (k : Int) := by omega
            have h03 : (x : Int).toNat = x := Int.toNat_natCast x
            have hR1 := hM
            rw [show M = M ++ List.replicate 0 [] by rw [List.replicate_zero, List.append_nil]] at hR1
            clear hlve hMe hsc hrw hm0 hM
            go_wp2
            go_loopg [5] (lv + 1 - M.length) (fun gk v wr => ∃ (i : Nat) (vs : List Value), gk = lv + 1 - (M.length + i) ∧ (i = 0 ∨ M.length + i ≤ lv + 1) ∧ LM w8 wr w8.heap.size g k v vs (M ++ List.replicate i []) L)
            case atStart => exact ⟨0, vs, rfl, .inl rfl, hR1⟩
            case round =>
              clear hR1
              obtain ⟨i, vs, rfl, hi, hM⟩ := hrel
              have hln : (M ++ List.replicate i ([] : List Nat)).length = M.length + i := by rw [List.length_append, List.length_replicate]
              obtain ⟨p1, z1⟩ := hM.lo.at' (k := x) (by rw [HLL.out]; exact hxl)
              rw [HLV.out] at p1
              obtain ⟨ol, cl, hv⟩ := rowForm hM.rr.out
              obtain ⟨m, hme⟩ : ∃ m, M.length + i = m := ⟨_, rfl⟩
              rw [hln, hme] at hv
              subst hv
              have HME := Lib.hid hme
              have hm0 := HM0.out
              have hmb : m ≤ 1000000000002 := by omega
              have hown : wr.ownsRow w8.heap.size 30 1 (.slice ol m cl) m vs := by
                have h := hM.rr.out
                rw [hln, hme] at h
                exact h
              have HWS := Lib.hid hM.fr.size
              have HMM := Lib.hid hM
              have HOWN := Lib.hid hown
              rw [hme] at hi
              by_cases hml : m ≤ lv
              · have d1 : decide ((m : Int) ≤ (lv : Int)) = true := decide_eq_true (by omega)
                have d2 : (m : Int) ≤ (lv : Int) := by omega
                have HRS : Hid (M ++ List.replicate (i + 1) [] = (M ++ List.replicate i []) ++ [([] : List Nat)]) := Lib.hid (by rw [List.replicate_succ', List.append_assoc])
                clear hln hme hm0 hown hM
                go_wp2_with (at_builtin; refine wpList_append_lies _ rfl _ _ 22 rfl w8.heap.size 30 i1' nilV 1 24 Try.underlying22 hi1 hj0 hj1 hj2 rfl (by decide) (.slice ol m cl) m vs rfl (World.ownsRow.alloc HOWN.out _) ⟨wr.heap.size, 0, none⟩ 1 1 [nilV] rfl rfl (World.news_of_block (new_block wr _)) one_row Nat.one_pos (by unfold maxLen; omega) (by omega) (by show w8.heap.size ≤ (Array.push _ _).size; rw [Array.size_push]; have := HWS.out; omega) _ rfl ?_; intro g2 cg w12 hown8 hgrow8 hat8 hlt8; have HR8 := Lib.hid ((HMM.out.same ((Only.refl (fun _ => False) wr).alloc (.cells #[nilV] 30))).push hgrow8 (v' := .slice (some ⟨g2, 0, none⟩) (m + 1) cg) (by rw [List.length_append, List.length_replicate, HME.out]; exact hown8)); clear hown8 hgrow8 hat8 hlt8)
                go_roundg (lv + 1 - (m + 1))
                case rel => exact ⟨i + 1, vs ++ [nilV], by have := HME.out; omega, .inr (by have := HME.out; omega), by rw [HRS.out]; exact HR8.out⟩
                case measure => have := HME.out; omega
              · have d1 : decide ((m : Int) ≤ (lv : Int)) = false := decide_eq_false (by omega)
                have d2 : ¬ (m : Int) ≤ (lv : Int) := by omega
                have HGL := Lib.hid (grow_done (L := M) (v := lv) (i := i) (by omega) (by have := HME.out; omega))
                have hlm : lv < m := by omega
                have hGl : (growL M lv).length = m := by rw [← HGL.out]; exact hln.trans hme
                have hMG := HMM.out
                rw [HGL.out] at hMG
                have hRG := hMG.rr
                have hpc : lv < (growL M lv).length := by omega
                obtain ⟨g0, ca, hcv, hB0, hle, hc0, hz0⟩ := hRG.at (i := lv) hpc
                rw [hGl] at hcv hle
                cases hcv
                obtain ⟨ra, rc, hrv⟩ := rowForm (hRG.row lv hpc)
                obtain ⟨q, hq⟩ : ∃ q, (lAt (growL M lv) lv).length = q := ⟨_, rfl⟩
                have hqx : q ≤ x := by rw [← hq, grow_at]; exact HRW.out
                rw [hq] at hrv
                rw [hrv] at hc0
                have hM1 := hMG.same ((Only.refl (fun _ => False) wr).alloc (.cells #[iV x] 3))
                obtain ⟨g1, ca1, hcv1, -, -, hc1, hzz1⟩ := hM1.rr.at (i := lv) hpc
                rw [hGl] at hcv1
                cases hcv1
                rw [hrv] at hc1
                obtain ⟨p11, z11⟩ := hM1.lo.at' (k := x) (by rw [HLL.out]; exact hxl)
                rw [HLV.out] at p11
                have hrow := hRG.row lv hpc
                rw [hrv] at hrow
                have HRV := Lib.hid hrv
                have HGLN := Lib.hid hGl
                have HQ := Lib.hid hq
                have HROW : wr.ownsRow w8.heap.size 3 1 (.slice ra q rc) q ((lAt (growL M lv) lv).map iV) := by
                  have h := hrow
                  unfold IR at h
                  rw [hq] at h
                  exact h
                have HPL := Lib.hid (show levK L (x + 1) = (growL M lv).set lv (lAt (growL M lv) lv ++ [x]) from HSC.out)
                have HMA := Lib.hid (hMG.same (((Only.refl (fun _ => False) wr).alloc (.cells #[iV x] 3)).drew))
                have HNE : Hid ((Value.slice ra q rc).ownBlock ≠ some g) := Lib.hid (by rw [← hrv]; exact hMG.ap lv hpc)
                have h04 : (0 : Int) ≤ (lv : Int) := Int.natCast_nonneg lv
                have h05 : (lv : Int) < (m : Int) := by omega
                have h06 : (lv : Int).toNat = lv := Int.toNat_natCast lv
                clear hln hme hm0 hown hM hGl hRG hMG hrv hq hrow hM1
                go_wp2
                go_region_law ((refine step_append_lies _ rfl (.tmp 51) (.tmp 53) 30 rfl w8.heap.size 3 i0' (.int .i64 0) 1 8 Try.underlying30 hi0 hz0' hz1 hz2 rfl (by decide) (.slice ra q rc) q ((lAt (growL M lv) lv).map iV) ?e1 (World.ownsRow.alloc HROW _) ⟨wr.heap.size, 0, none⟩ 1 1 [iV x] ?e2 rfl (World.news_of_block (new_block wr _)) (one_int x) Nat.one_pos (by unfold maxLen; omega) (by omega) (by show w8.heap.size ≤ (Array.push _ _).size; rw [Array.size_push]; have := HWS.out; omega) _ rfl ?_); (case e1 => simp [Act.eval]); (case e2 => simp [Act.eval]); (intro g2 cg w12 hown8 hgrow8 hat8 hlt8; have hag := HMA.out.rr.at_grown (p := lv) (by rw [HGLN.out]; exact hlm) HRV.out hgrow8; have p8 := hag.1; have z8 := hag.2; have hl8 : IR w12 w8.heap.size (.slice (some ⟨g, 0, none⟩) k k) L := rowKeep HMA.out.lo (fun b hb => hgrow8.block b (World.ownsRow.lt HMA.out.lo b hb).2 (fun e => HNE.out (e.symm.trans hb.symm))); obtain ⟨p9, z9⟩ := hl8.at' (k := x) (by rw [HLL.out]; exact hxl); rw [HLV.out] at p9; clear hag hl8))
                all_goals
                  have hIR : IR w12 w8.heap.size (.slice (some ⟨g2, 0, none⟩) (q + 1) cg) (lAt (growL M lv) lv ++ [x]) := IR.snoc (by rw [HQ.out]; exact hown8)
                  have hma := HMA.out
                  rw [show (Value.slice (some ⟨g0, 0, none⟩) m cl) = .slice (some ⟨g0, 0, none⟩) (growL M lv).length cl by rw [HGLN.out]] at hma
                  rw [← HRV.out] at hgrow8
                  have HRA := Lib.hid (hma.app (p := lv) (by rw [HGLN.out]; exact hlm) hgrow8 hIR (fun g' hg' => by
                    have hgg : g2 = g' := Option.some.inj hg'
                    rcases hat8 with e | e
                    · exact .inl (by rw [HRV.out]; exact hgg ▸ e)
                    · right
                      have e3 : g2 = (Array.push _ _).size := e
                      exact Nat.le_of_eq (e3.symm.trans hgg)))
                  clear hown8 hgrow8 hat8 hlt8 hIR hma p8 z8 p9 z9
                  go_wp2
                  go_roundw
                  case rel =>
                    have hRA := HRA.out
                    rw [HGLN.out] at hRA
                    exact ⟨x + 1, vs.set lv (.slice (some ⟨g2, 0, none⟩) (q + 1) cg), by omega, by go_num, by rw [HPL.out]; exact hRA⟩
                  case measure => simp [intOf]; omega
          · have hxn : x = k := by omega
            subst hxn
            obtain ⟨ol, cl, hv⟩ := rowForm hM.rr.out
            subst hv
            have HED := Lib.hid hM.rr.edg
            have HFIN := Lib.hid (show Only (fun _ => False) w wr from (hA.trans HOW.out).trans ⟨hM.fr.os, hM.fr.tape, hM.fr.output, hM.fr.size, fun i hi _ => hM.fr.block i hi (fun hc => by have hc' : w8.heap.size ≤ i := hc; omega)⟩)
            clear hM
            go_wp2
            refine bodyPost_ret (v := .tuple #[.slice ol (levK L x).length cl, .int .i64 0]) (by simp [results, Try.results20, go_sem]) rfl ?_
            rw [HR.out]
            exact ⟨ol, _, cl, rfl, HED.out, HFIN.out⟩
end Go.Proofs.Ytijohaeiiidcpaa
