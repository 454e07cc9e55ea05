/-
  WALKS. The graph: ordered. The order of the components.
-/
import Derived.Test.YtigmdiagdlbdpaaGreatGbSa
namespace Go.Proofs.YtigmdiagdlbdpaaGreat
open Go.RowKit Go.Maps
theorem row_at8 {w0 w w3 : World} {m p : Nat} {vs : List Value} {s : OU} (h : UM w0 w m vs s) (hp : p < s.users.length) {v0 : Value} (hv0 : vAt vs p = v0) (hg : w.grownBy w3 v0.ownBlock) : w3.cell? ⟨w0.heap.size, p, none⟩ = some v0 ∧ w3.frozen? ⟨w0.heap.size, p, none⟩ = false :=
  h.rr.at_grown hp hv0 hg
set_option maxRecDepth 100000 in
set_option maxHeartbeats 16000000 in
theorem ordered_p (w : World) (oE : Option Addr) (n cE : Nat) (G : List (List Nat)) (oN : Option Addr) (cN : Nat) (N : List Nat) (hE : Edg w oE n G) (hV : ValidG G) (hn : n ≤ 1000000) (hD : ∀ u, degG G u ≤ 1000000) (hNG : N.length = G.length)
    (hN : Ints w oN n N) (hb : ∀ x, gt N x ≤ N.length) : Calls Tryz.prog 45 #[.agg #[.slice oE n cE], .slice oN n cN] w fun e w' => ∃ oc nc cc, e = .returned (.slice oc nc cc) ∧ EdgB w' w.heap.size oc nc ((orderP (gaK N N.length).places G (gaK N N.length).comps.length).map (lAt (gaK N N.length).comps)) ∧ Only (fun _ => False) w w' := by
  have hlenN := hN.len
  have hlenG := hE.len
  have hGI := gaK_i hb N.length (Nat.le_refl _)
  have hm := hGI.cl
  have hlp := hGI.lp
  have hP : ∀ x, x < n → gt (gaK N N.length).places x < (gaK N N.length).comps.length := fun x hx => by
    have h1 := hGI.pl x (by omega)
    have h2 := hGI.kb (gt N x)
    omega
  have HGI := Lib.hid hGI
  obtain ⟨L, hL⟩ : ∃ L, (gaK N N.length).comps = L := ⟨_, rfl⟩
  obtain ⟨P, hPe⟩ : ∃ P, (gaK N N.length).places = P := ⟨_, rfl⟩
  rw [hL, hPe] at hP ⊢
  rw [hL] at hm
  rw [hPe] at hlp
  have HL := Lib.hid hL
  have HPE := Lib.hid hPe
  clear hGI hL hPe
  obtain ⟨m, hme⟩ : ∃ m, L.length = m := ⟨_, rfl⟩
  rw [hme] at hP hm ⊢
  have HME := Lib.hid hme
  have hm9 : m ≤ 1000000000 := by omega
  have hm6 : m ≤ 1000000 := by omega
  have hmk1 := mk_rows hm9
  have hmk2 := mk_ints hm9
  have hA : Only (fun _ => False) w (w.alloc (.cells #[.slice oE n cE] 49)) := (Only.refl _ _).alloc _
  have hNA : Ints (w.alloc (.cells #[.slice oE n cE] 49)) oN n N := hN.old hA (fun _ _ hc => hc)
  have HBX : Hid (∀ w', Only (fun _ => False) (w.alloc (.cells #[.slice oE n cE] 49)) w' → w'.cell? ⟨w.heap.size, 0, none⟩ = some (.slice oE n cE)) := Lib.hid (fun w' ho => (blk_c ((ho.block w.heap.size (by show _ < (Array.push _ _).size; rw [Array.size_push]; omega) (fun hc => hc)).trans (new_block w _)) rfl).1)
  have hn6 := hn
  clear hme
  go_enter Tryz.func45, Tryz.ntmps45
  go_wp2_with (go_at_call 59; (refine (gather_p _ oN n cN N hNA hb hn6).mono ?_); rintro e w1 ⟨oc, nc, cc, rfl, hC1, hP1, hO1⟩; have hnc := hC1.len; rw [HL.out, HME.out] at hnc; subst hnc; rw [HL.out] at hC1; rw [HPE.out] at hP1; have q1 := HBX.out ((w1.alloc (zRO m)).alloc (zO m)) (hO1.trans (((Only.refl _ _).alloc _).alloc _)))
  have hs1 : (w.alloc (.cells #[.slice oE n cE] 49)).heap.size = w.heap.size + 1 := by show (Array.push _ _).size = _; rw [Array.size_push]
  rw [hs1] at hP1 hC1
  have HW1 := Lib.hid (show w.heap.size ≤ w1.heap.size by have := hO1.size; omega)
  have HCP := Lib.hid (And.intro hC1 hP1)
  have HO1 := Lib.hid (hA.trans hO1)
  have hUM := UM.made (w0 := w1) hm9
  have HPV : Hid (∀ x, x < G.length → gt P x < m) := Lib.hid (by rw [hlenG]; exact hP)
  have HLP : Hid (P.length = n) := Lib.hid (by rw [hlp, hlenN])
  have HE1 := Lib.hid (hE.old (hA.trans hO1) (fun _ _ hc => hc))
  have HD := Lib.hid hD
  have HV := Lib.hid hV
  clear hs1 hC1 hP1 hO1 hA hNA q1 hP hD hmk1 hmk2 hlp hm
  go_loopw [36] (fun q wr => ∃ (u : Nat) (vs : List Value), u ≤ n ∧ q = .int .i64 u ∧ UM w1 wr m vs (usK P G m u)) (fun q _ => n - (intOf q).toNat)
  case atStart => exact ⟨0, _, by omega, rfl, hUM⟩
  case round =>
    clear hUM
    obtain ⟨u, vs, hu, rfl, hM⟩ := hrel
    by_cases hlt : u < n
    · have huG : u < G.length := by omega
      have hold : ∀ i, i < w1.heap.size → ¬ (w1.heap.size ≤ i) := fun i hi hc => by omega
      obtain ⟨bE, oo, ra, rn, rc, hoE, hcE1, hiE⟩ := HE1.out.cell u huG
      subst hoE
      have hcE := (World.cell?_of_block (hM.fr.block bE (cell_lt hcE1) (hold bE (cell_lt hcE1)))).trans hcE1
      clear hcE1
      have hgl : G[u] = lAt G u := by show _ = G.getD u []; rw [List.getD_eq_getElem?_getD, List.getElem?_eq_getElem huG]; rfl
      rw [hgl] at hiE
      have hrl := hiE.len
      obtain ⟨l, hl⟩ : ∃ l, lAt G u = l := ⟨_, rfl⟩
      rw [hl] at hiE hrl
      have hrd : rn ≤ 1000000 := by rw [← hrl, ← hl]; exact HD.out u
      have hP1 := HCP.out.2.old hM.fr hold
      obtain ⟨gP, oP, hgP, hcP⟩ := hP1.cell u (by rw [HLP.out]; exact hlt)
      cases hgP
      rw [Nat.zero_add] at hcP
      obtain ⟨f, hf⟩ : ∃ f, gt P u = f := ⟨_, rfl⟩
      rw [hf] at hcP
      have hfm : f < m := by rw [← hf]; exact HPV.out u huG
      have HF := Lib.hid hf
      have HL2 := Lib.hid hl
      have HRL := Lib.hid hrl
      have HI := Lib.hid hiE
      clear hf hl hrl hgl hP1 hiE
      have h01 : (0 : Int) ≤ (u : Int) := Int.natCast_nonneg u
      have h02 : (u : Int) < (n : Int) := by omega
      have h03 : (u : Int).toNat = u := Int.toNat_natCast u
      obtain ⟨wo, hwo⟩ : ∃ wo : World, wo = wr := ⟨_, rfl⟩
      subst hwo
      go_wp2
      go_loopw [47] (fun q wr => ∃ (j : Nat) (vs : List Value), j ≤ rn ∧ q = .int .i64 j ∧ UM w1 wr m vs (rowS P G u (usK P G m u) j)) (fun q _ => rn - (intOf q).toNat)
      case atStart => exact ⟨0, vs, by omega, rfl, hM⟩
      case round =>
        clear hM
        obtain ⟨j, vs, hj, rfl, hM⟩ := hrel
        have hO2 := hM.fr
        have h11 : (0 : Int) ≤ (j : Int) := Int.natCast_nonneg j
        have h13 : (j : Int).toNat = j := Int.toNat_natCast j
        by_cases hjl : j < rn
        · have hjll : j < l.length := by rw [HRL.out]; exact hjl
          obtain ⟨b2, o2, hra, hcV⟩ := (HI.out.old hM.fr hold).cell j hjll
          subst hra
          obtain ⟨v, hv⟩ : ∃ v, gt l j = v := ⟨_, rfl⟩
          rw [hv] at hcV
          have hx : nx G u j = some v := by
            show (lAt G u)[j]? = some v
            rw [HL2.out, List.getElem?_eq_getElem hjll, ← gt_at hjll, hv]
          have hvG : v < G.length := HV.out u j v hx
          obtain ⟨gP2, oP2, hgP2, hcT⟩ := (HCP.out.2.old hM.fr hold).cell v (by rw [HLP.out]; omega)
          cases hgP2
          rw [Nat.zero_add] at hcT
          obtain ⟨t, ht⟩ : ∃ t, gt P v = t := ⟨_, rfl⟩
          rw [ht] at hcT
          have htm : t < m := by rw [← ht]; exact HPV.out v hvG
          have HRS := Lib.hid (rowS_succ (P := P) (s := usK P G m u) hx)
          have HT := Lib.hid ht
          have HXX := Lib.hid hx
          have h21 : (0 : Int) ≤ (v : Int) := Int.natCast_nonneg v
          have h22 : (v : Int) < (n : Int) := by omega
          have h23 : (v : Int).toNat = v := Int.toNat_natCast v
          have hvn : v < n := by omega
          have HJ := Lib.hid (row_ou (k := j) HPV.out HV.out huG (us_ou HPV.out HV.out u (by omega)) (by rw [HL2.out]; omega))
          have HSM := Lib.hid (row_bound (k := j) HPV.out HV.out (by omega) HD.out huG (by rw [HL2.out]; omega))
          obtain ⟨s, hs⟩ : ∃ s, rowS P G u (usK P G m u) j = s := ⟨_, rfl⟩
          rw [hs] at hM HRS HJ HSM
          clear hv hx ht hs
          by_cases e : t = f
          · have HN := Lib.hid (show rowS P G u (usK P G m u) (j + 1) = s by rw [HRS.out]; unfold edS; rw [if_pos (by rw [HT.out, HF.out, e])])
            subst e
            go_wp2
            go_roundw
            case rel => exact ⟨j + 1, vs, by omega, by go_num, by rw [HN.out]; exact hM⟩
            case measure => simp [intOf]; omega
          · have HN := Lib.hid (show rowS P G u (usK P G m u) (j + 1) = ⟨s.users.set t (lAt s.users t ++ [f]), s.waits.set f (gt s.waits f + 1)⟩ by rw [HRS.out]; unfold edS; rw [if_neg (by rw [HT.out, HF.out]; exact e), HT.out, HF.out])
            have e1 : ¬ (t : Int) = (f : Int) := by omega
            have e2 : ((t : Int) != (f : Int)) = true := by simp; omega
            have htu : t < s.users.length := by rw [HJ.out.lu]; exact htm
            have hfw : f < s.waits.length := by rw [HJ.out.lw]; exact hfm
            have hout := hM.rr.out
            rw [HJ.out.lu] at hout
            obtain ⟨hc0, hz0⟩ := row_at hout (i := t) htm
            clear hout
            obtain ⟨ua, uc, huv⟩ := rowForm (hM.rr.row t htu)
            obtain ⟨q, hq⟩ : ∃ q, (lAt s.users t).length = q := ⟨_, rfl⟩
            have HQ := Lib.hid hq
            have hqb : q ≤ 1000000000000 := by rw [← hq]; exact (HSM.out t).1
            have huv' : vAt vs t = .slice ua q uc := by rw [huv]; exact congrArg (fun k => Value.slice ua k uc) hq
            have HUV := Lib.hid huv'
            rw [huv'] at hc0
            obtain ⟨y, hy⟩ : ∃ y, gt s.waits f = y := ⟨_, rfl⟩
            have hyb : y ≤ 1000000000000 := by rw [← hy]; exact (HSM.out f).2
            have HY := Lib.hid hy
            have hrow := hM.rr.row t htu
            rw [huv'] at hrow
            have HOWN : wr.ownsRow w1.heap.size 3 1 (.slice ua q uc) q ((lAt s.users t).map iV) := by
              have h := hrow
              unfold IR at h
              rw [hq] at h
              exact h
            have HMA := Lib.hid (hM.same ((Only.refl (fun _ => False) _).alloc (.cells #[iV f] 3)))
            have HWS := Lib.hid (World.ownsRow.lt hM.wt _ rfl)
            have h31 : (0 : Int) ≤ (t : Int) := Int.natCast_nonneg t
            have h32 : (t : Int) < (m : Int) := by omega
            have h33 : (t : Int).toNat = t := Int.toNat_natCast t
            have h41 : (0 : Int) ≤ (f : Int) := Int.natCast_nonneg f
            have h42 : (f : Int) < (m : Int) := by omega
            have h43 : (f : Int).toNat = f := Int.toNat_natCast f
            have HTU := Lib.hid htu
            have HFW := Lib.hid hfw
            obtain ⟨i0', hi, hz0', hz1, hz2⟩ := info_parts infoInt
            clear hq huv huv' hy hrow htu hfw
            go_wp2_with (at_builtin; refine wpList_append_lies _ rfl _ _ 55 rfl w1.heap.size 3 i0' (.int .i64 0) 1 8 Tryz.underlying55 hi hz0' hz1 hz2 rfl (by decide) (.slice ua q uc) q ((lAt s.users t).map iV) rfl (World.ownsRow.alloc HOWN _) ⟨wr.heap.size, 0, none⟩ 1 1 [iV f] rfl rfl (World.news_of_block (new_block _ _)) (one_int f) Nat.one_pos (by unfold maxLen; omega) (by omega) (by show w1.heap.size ≤ (Array.push _ _).size; rw [Array.size_push]; have := HWS.out; omega) _ rfl ?_; intro g cg w8 hown8 hgrow8 hat8 hlt8; have hM8 := HMA.out.app HTU.out HUV.out hgrow8 (IR.snoc (ns := lAt s.users t) (k := f) (v := .slice (some ⟨g, 0, none⟩) (q + 1) cg) (by rw [HQ.out]; exact hown8)) (fun g' hg' => by have hgg : g = g' := Option.some.inj hg'; rcases hat8 with e | e; exact .inl (hgg ▸ e); right; have e3 : g = (Array.push _ _).size := e; exact Nat.le_of_eq (e3.symm.trans hgg)); have hk8 := row_at8 HMA.out HTU.out HUV.out hgrow8; have p8 := hk8.1; have z8 := hk8.2; have hw8 := hM8.wt.at' HFW.out; have p9 := hw8.1; have z9 := hw8.2; rw [HY.out] at p9; have HM8 := Lib.hid hM8; clear hown8 hgrow8 hat8 hlt8 hM8 hk8 hw8)
            go_roundw
            case rel => exact ⟨j + 1, vs.set t (.slice (some ⟨g, 0, none⟩) (q + 1) cg), by omega, by go_num, by rw [HN.out, HY.out]; exact HM8.out.setW HFW.out (y + 1)⟩
            case measure => simp [intOf]; omega
        · have hjn : j = rn := by omega
          have HN := Lib.hid (show usK P G m (u + 1) = rowS P G u (usK P G m u) j by rw [usK_succ, HL2.out, HRL.out, hjn])
          go_wp2
          go_roundw
          case rel => exact ⟨u + 1, vs, by omega, by go_num, by rw [HN.out]; exact hM⟩
          case measure => simp [intOf]; omega
    · have hun : u = n := by omega
      subst hun
      have HOU := Lib.hid (us_ou HPV.out HV.out u (by omega))
      obtain ⟨s, hs⟩ : ∃ s, usK P G m u = s := ⟨_, rfl⟩
      rw [hs] at hM HOU
      have HS := Lib.hid hs
      obtain ⟨b, hb⟩ : ∃ b, wr.heap.size = b := ⟨_, rfl⟩
      have HBB := Lib.hid hb
      have hHB : HB (wr.alloc (.cells #[.slice none 0 0] 90)) b b (.slice none 0 0) (frS s.waits 0) := ⟨new_at _ hb, Nat.le_refl _, World.ownsRow_nil _ _ _ _⟩
      have hOb : Only (b ≤ ·) wr (wr.alloc (.cells #[.slice none 0 0] 90)) := (Only.refl _ _).alloc _
      obtain ⟨wb, hwb⟩ : ∃ wb : World, wb = wr := ⟨_, rfl⟩
      have hold : ∀ i, i < wb.heap.size → ¬ (b ≤ i) := fun i hi hc => by rw [hwb] at hi; omega
      subst hwb
      have HM := Lib.hid hM
      have HBT := Lib.hid hold
      clear hs hold hM
      go_wp2
      go_loopw [78] (fun q wr => ∃ (k : Nat) (v : Value), k ≤ m ∧ q = .int .i64 k ∧ HB wr b b v (frS s.waits k) ∧ Only (b ≤ ·) wb wr) (fun q _ => m - (intOf q).toNat)
      case atStart => exact ⟨0, _, by omega, rfl, hHB, hOb⟩
      case round =>
        clear hHB hOb
        obtain ⟨k, v, hk, rfl, hH, hO⟩ := hrel
        have hMr := HM.out.old hO HBT.out
        by_cases hkl : k < m
        · obtain ⟨hcw, hzw⟩ := hMr.wt.at' (k := k) (by rw [HOU.out.lw]; exact hkl)
          obtain ⟨x, hx⟩ : ∃ x, gt s.waits k = x := ⟨_, rfl⟩
          rw [hx] at hcw
          have HX := Lib.hid hx
          have HF := Lib.hid (frS_succ s.waits k)
          have h01 : (0 : Int) ≤ (k : Int) := Int.natCast_nonneg k
          have h02 : (k : Int) < (m : Int) := by omega
          have h03 : (k : Int).toNat = k := Int.toNat_natCast k
          have hfl := frS_len s.waits k
          have HFL := Lib.hid hfl
          clear hx hfl
          by_cases hz : x = 0
          · subst hz
            have hcw' : wr.cell? ⟨w1.heap.size + 1, k, none⟩ = some (.int .i64 0) := hcw
            clear hcw
            go_wp2_with (go_at_call 60; (refine (hPush_p hH k (by have := HFL.out; omega)).mono ?_); rintro e w5 ⟨rfl, v5, hH5, hF5⟩; have hO5 := hF5.low (Nat.le_refl b))
            go_roundw
            case rel =>
              exact ⟨k + 1, v5, by omega, by go_num, by rw [HF.out, if_pos HX.out]; exact hH5, hO.trans hO5⟩
            case measure => simp [intOf]; omega
          · have e1 : ((x : Int) == 0) = false := by simp; omega
            have e2 : ¬ (x : Int) = 0 := by omega
            go_wp2
            go_roundw
            case rel => exact ⟨k + 1, v, by omega, by go_num, by rw [HF.out, if_neg (by rw [HX.out]; exact hz)]; exact hH, hO⟩
            case measure => simp [intOf]; omega
        · have hkm : k = m := by omega
          subst hkm
          obtain ⟨cv, hcv⟩ := (HCP.out.1.mono (B' := w.heap.size) (by omega)).vals
          have HCV := Lib.hid hcv
          have hlo : w1.heap.size + 1 < b := by rw [← HBB.out]; exact (World.ownsRow.lt HM.out.wt _ rfl).2
          have hD0 : DM w1 wb b k cv wr v nilV s.waits (frS s.waits k) [] := ⟨hH, HM.out.wt.only hO (fun g hg hc => by have hg' : w1.heap.size + 1 = g := Option.some.inj hg; have hc' : b ≤ g := hc; omega), World.ownsRow_nil _ _ _ _, hO.wide (fun i hi => .inr hi), hlo, HBB.out⟩
          obtain ⟨ORD, hord⟩ : ∃ O, drainS s.users k ⟨s.waits, frS s.waits k, []⟩ = O := ⟨_, rfl⟩
          have HORD := Lib.hid hord
          have hI0 := Lib.hid (or_zero HOU.out)
          have hUl : ∀ x, ¬ x < k → lAt s.users x = [] := fun x hx => by
            show s.users.getD x [] = []
            rw [List.getD_eq_getElem?_getD, List.getElem?_eq_none (by rw [HOU.out.lu]; omega)]
            rfl
          have HUX := Lib.hid (show ∀ x, x ∉ lAt s.users x from fun x hx => by
            by_cases hxm : x < k
            · obtain ⟨_, _, -, -, -, h4⟩ := (HOU.out.mem x hxm x).1 hx
              exact h4 rfl
            · rw [hUl x hxm] at hx; cases hx)
          have HUB := Lib.hid (show ∀ x c, c ∈ lAt s.users x → c < k from fun x c hc => by
            by_cases hxm : x < k
            · obtain ⟨a, _, h1, h2, -, -⟩ := (HOU.out.mem x hxm c).1 hc
              obtain ⟨j, hj, -⟩ := h1
              rw [← h2]
              exact HPV.out a (nx_lt hj)
            · rw [hUl x hxm] at hc; cases hc)
          have hsm := us_small (m := k) HPV.out HV.out HD.out u (by omega)
          rw [HS.out] at hsm
          have HSMU := Lib.hid (show ∀ x, (lAt s.users x).length ≤ 1000000000000 ∧ gt s.waits x ≤ 1000000000000 from fun x => by have := hsm x; omega)
          clear hsm
          clear hUl hord hcv hH hO hMr
          go_wp2
          go_loopg [18] k (fun gk q wr => ∃ (v vl : Value) (S : OW), q = vl ∧ DM w1 wb b k cv wr v vl S.waits S.heap S.list ∧ Hid (OrI s.users k S.waits S.heap S.list []) ∧ Hid (drainS s.users gk S = ORD) ∧ Hid (k ≤ S.list.length + gk))
          case atStart => exact ⟨v, nilV, ⟨s.waits, frS s.waits k, []⟩, rfl, hD0, hI0, HORD, Lib.hid (by show k ≤ 0 + k; omega)⟩
          case round =>
            clear hD0 hI0
            obtain ⟨v, vl, S, rfl, hDM, HI, HDR, HG⟩ := hrel
            obtain ⟨hl, hhl⟩ : ∃ x, S.heap.length = x := ⟨_, rfl⟩
            obtain ⟨nl, hnl⟩ : ∃ x, S.list.length = x := ⟨_, rfl⟩
            obtain ⟨oh, ch, hvh⟩ := rowForm hDM.hb.row
            obtain ⟨ol, cl, hvl⟩ := rowForm hDM.li
            rw [hhl] at hvh
            rw [hnl] at hvl
            subst hvh
            subst hvl
            have hc0 := hDM.hb.c0
            have hz0 := hDM.hb.fz 0
            have hroom := HI.out.room
            rw [hhl, hnl] at hroom
            have HHL := Lib.hid hhl
            have HNL := Lib.hid hnl
            have HROOM := Lib.hid hroom
            by_cases hh0 : hl = 0
            · subst hh0
              have hne : S.heap = [] := List.length_eq_zero_iff.1 hhl
              have HE := Lib.hid (show S.list = ORD.list by rw [← HDR.out, drain_nil hne])
              have hc0' : wr.cell? ⟨b, 0, none⟩ = some (.slice oh 0 ch) := hc0
              have HFIN := Lib.hid (hDM.edg HM.out HCV.out HW1.out (fun c hc => by rw [HME.out]; exact HI.out.bd c hc))
              have hall := hDM.all HM.out
              have HALL := Lib.hid (show Only (fun _ => False) w1 wr from ⟨hall.os, hall.tape, hall.output, hall.size, fun i hi _ => hall.block i hi (fun hc => by have hc' : w1.heap.size ≤ i := hc; omega)⟩)
              clear hhl hnl hroom hc0 hall hne hDM
              go_wp2_with (go_at_call 61; (refine (Len_p _ oh 0 ch).mono ?_); rintro e w5 ⟨rfl, hw5⟩; subst hw5)
              go_ret
              refine ⟨ol, nl, cl, rfl, ?_, HO1.out.trans HALL.out⟩
              have hor : orderP P G k = S.list := by
                rw [HE.out]
                unfold orderP
                rw [show G.length = u by omega, HS.out, HORD.out]
              rw [hor]
              exact HFIN.out
            · have hne : S.heap ≠ [] := fun e => hh0 (by rw [← hhl, e]; rfl)
              have hpos : (0 : Int) < (hl : Int) := by omega
              have hposd : decide ((0 : Int) < (hl : Int)) = true := decide_eq_true hpos
              obtain ⟨gk', rfl⟩ : ∃ x, gk = x + 1 := ⟨gk - 1, by have := HG.out; omega⟩
              obtain ⟨hp1, hp2, hp3⟩ := pop_ok HI.out hne HUX.out
              have hdr := HDR.out
              rw [drain_pop hne] at hdr
              have HDR2 := Lib.hid hdr
              have HOR2 := Lib.hid (popS_ok HI.out hne HUX.out HUB.out)
              have HPS := Lib.hid (show popS s.users S = ⟨(dnsS s.users (popL S.heap).1 (S.waits, (popL S.heap).2) (lAt s.users (popL S.heap).1).length).1, (dnsS s.users (popL S.heap).1 (S.waits, (popL S.heap).2) (lAt s.users (popL S.heap).1).length).2, S.list ++ [(popL S.heap).1]⟩ from rfl)
              have HPOP := Lib.hid (hPop_p hDM.hb hne (by omega))
              obtain ⟨p, hp⟩ : ∃ x, (popL S.heap).1 = x := ⟨_, rfl⟩
              obtain ⟨H1, hH1⟩ : ∃ x, (popL S.heap).2 = x := ⟨_, rfl⟩
              rw [hp, hH1] at HPS HPOP hp3
              rw [hp] at hp1 hp2
              have HP2 := Lib.hid hp2
              have HP3 := Lib.hid hp3
              have HDMH := Lib.hid hDM
              obtain ⟨bC, oC, ra, rn, rc, hoc, -, hcvp, -, -⟩ := HCV.out p (by rw [HME.out]; exact hp1)
              subst hoc
              have HCVP := Lib.hid hcvp
              have hCC : Hid (∀ wx, Only (w1.heap.size ≤ ·) w1 wx → wx.cell? ⟨bC, oC + p, none⟩ = some (.slice ra rn rc)) := Lib.hid (fun wx ho => by
                obtain ⟨bC', oC', ra', rn', rc', hoc', -, hcv', hc', -⟩ := (HCV.out.old ho (fun i _ hi hc => by have hc' : w1.heap.size ≤ i := hc; omega)) p (by rw [HME.out]; exact hp1)
                cases hoc'
                rw [HCVP.out] at hcv'
                cases hcv'
                exact hc')
              have hpu : p < s.users.length := by rw [HOU.out.lu]; exact hp1
              obtain ⟨qn, hqn⟩ : ∃ x, (lAt s.users p).length = x := ⟨_, rfl⟩
              have hqb : qn ≤ 1000000000000 := by rw [← hqn]; exact (HSMU.out p).1
              obtain ⟨ua, uc, huv⟩ := rowForm (HM.out.rr.row p hpu)
              rw [hqn] at huv
              have HUV := Lib.hid huv
              have HQN := Lib.hid hqn
              have HUU : Hid (∀ wx vx vlx Wx Hx Dx, DM w1 wb b k cv wx vx vlx Wx Hx Dx → wx.cell? ⟨w1.heap.size, p, none⟩ = some (.slice ua qn uc) ∧ IR wx w1.heap.size (.slice ua qn uc) (lAt s.users p)) := Lib.hid (fun wx vx vlx Wx Hx Dx hx => by
                have h1 := hx.users HM.out
                have h2 := h1.row p hpu
                rw [HUV.out] at h2
                have h3 := h1.out
                rw [HOU.out.lu] at h3
                have h4 := (row_at h3 (i := p) hp1).1
                rw [HUV.out] at h4
                exact ⟨h4, h2⟩)
              have h01 : (0 : Int) ≤ (p : Int) := Int.natCast_nonneg p
              have h02 : (p : Int) < (k : Int) := by omega
              have h03 : (p : Int).toNat = p := Int.toNat_natCast p
              obtain ⟨i1', hi1, hj0, hj1, hj2⟩ := info_parts infoInts
              have hta : ∀ w, Sem.run Tryz.prog (Instr.typeAssert (.iface 3 (iV p)) 20 3 false) w = .ok (iV p) w := fun _ => by kernel_rfl
              clear hhl hnl hroom hne hdr hp hH1 hp2 hp3 hcvp hqn huv hDM
              go_wp2_with (first | (go_at_call 61; (refine (Len_p _ oh hl ch).mono ?_); rintro e w5 ⟨rfl, hw5⟩; subst hw5) | (go_at_call 62; (refine HPOP.out.mono ?_); rintro e w6 ⟨rfl, v6, hH6, hF6⟩; have hD6 := HDMH.out.heap hH6 hF6; have q6 := hCC.out _ (hD6.all HM.out); have HD6 := Lib.hid hD6; have HL6 := Lib.hid hD6.hb.lt; clear hD6 hH6 hF6) | (at_builtin; refine wpList_append_lies _ rfl _ _ 47 rfl b 55 i1' nilV 1 24 Tryz.underlying47 hi1 hj0 hj1 hj2 rfl (by decide) (.slice ol nl cl) nl (S.list.map cv) rfl (World.ownsRow.alloc (by have h := HD6.out.li; rw [HNL.out] at h; exact h) _) ⟨w6.heap.size, 0, none⟩ 1 1 [.slice ra rn rc] rfl rfl (World.news_of_block (new_block w6 _)) (by intro x hx; rw [List.mem_singleton.1 hx]; rfl) Nat.one_pos (by have := HROOM.out; unfold maxLen; omega) (by have := HROOM.out; omega) (by show b ≤ (Array.push _ _).size; rw [Array.size_push]; have := HL6.out; omega) _ rfl ?_; intro g cg w8 hown8 hgrow8 hat8 hlt8; have hD8 := (HD6.out.same ((Only.refl (fun _ => False) _).alloc (.cells #[.slice ra rn rc] 55))).put hgrow8 (p := p) (vl' := .slice (some ⟨g, 0, none⟩) (nl + 1) cg) (by rw [HNL.out, HCVP.out]; exact hown8); have p8 := (HUU.out _ _ _ _ _ _ hD8).1; have HD8 := Lib.hid hD8; clear hown8 hgrow8 hat8 hlt8 hD8))
              have hsp := HD8.out
              obtain ⟨wo, hwo⟩ : ∃ wo : World, wo = w8 := ⟨_, rfl⟩
              subst hwo
              go_loopw [108] (fun q wr => ∃ (j : Nat) (v9 : Value), j ≤ qn ∧ q = .int .i64 j ∧ DM w1 wb b k cv wr v9 (.slice (some ⟨g, 0, none⟩) (nl + 1) cg) (dnsS s.users p (S.waits, H1) j).1 (dnsS s.users p (S.waits, H1) j).2 (S.list ++ [p])) (fun q _ => qn - (intOf q).toNat)
              case atStart => exact ⟨0, v6, by omega, rfl, hsp⟩
              case round =>
                clear hsp
                obtain ⟨j, v9, hj, rfl, hD9⟩ := hrel
                have h11 : (0 : Int) ≤ (j : Int) := Int.natCast_nonneg j
                have h13 : (j : Int).toNat = j := Int.toNat_natCast j
                by_cases hjq : j < qn
                · have hjl : j < (lAt s.users p).length := by rw [HQN.out]; exact hjq
                  obtain ⟨gu, hgu, -, -, hcu, hcC, -⟩ := (HUU.out _ _ _ _ _ _ hD9).2.at hjl
                  subst hgu
                  obtain ⟨c, hc⟩ : ∃ x, gt (lAt s.users p) j = x := ⟨_, rfl⟩
                  rw [hc] at hcC
                  have hcm : c ∈ lAt s.users p := by rw [← hc, gt_at hjl]; exact List.getElem_mem hjl
                  have hck : c < k := HUB.out p c hcm
                  have hor := dns_ok HP3.out (HUB.out p) j (by omega)
                  have hsu := dnsS_succ (s := (S.waits, H1)) (U := s.users) (x := p) (k := j) (c := c) (by rw [List.getElem?_eq_getElem hjl, ← gt_at hjl, hc])
                  have hor0 := hor
                  rw [List.drop_eq_getElem_cons hjl, ← gt_at hjl, hc] at hor
                  obtain ⟨W, hW⟩ : ∃ x, (dnsS s.users p (S.waits, H1) j).1 = x := ⟨_, rfl⟩
                  obtain ⟨H, hH⟩ : ∃ x, (dnsS s.users p (S.waits, H1) j).2 = x := ⟨_, rfl⟩
                  have hWH : dnsS s.users p (S.waits, H1) j = (W, H) := by rw [← hW, ← hH]
                  rw [hW, hH] at hor hor0 hD9
                  rw [hWH] at hsu
                  have hwl := wait_le HOU.out HP2.out hp1 hor0 c
                  have hwc := hor.wc c
                  rw [List.count_cons_self] at hwc
                  obtain ⟨y, hy⟩ : ∃ y, gt W c = y + 1 := ⟨gt W c - 1, by omega⟩
                  have hcW : c < W.length := by rw [hor.lw]; exact hck
                  obtain ⟨hcw, hzw⟩ := hD9.wt.at' hcW
                  rw [hy, show iV (y + 1) = .int .i64 ((y : Int) + 1) from rfl] at hcw
                  have hyb : y ≤ 1000000000000 := by have := (HSMU.out c).2; omega
                  have hroom9 := hor.room
                  have hD10 := hD9.setW hcW y
                  have hsu2 : dnsS s.users p (S.waits, H1) (j + 1) = (W.set c y, if y = 0 then pushL H c else H) := by
                    rw [hsu]
                    unfold dnS
                    show (W.set c (gt W c - 1), if gt W c - 1 = 0 then pushL H c else H) = _
                    rw [hy, Nat.add_sub_cancel]
                  have HSU := Lib.hid hsu2
                  have h21 : (0 : Int) ≤ (c : Int) := Int.natCast_nonneg c
                  have h22 : (c : Int) < (k : Int) := by omega
                  have h23 : (c : Int).toNat = c := Int.toNat_natCast c
                  have HHB : Hid (H.length + 1 ≤ 100000000) := Lib.hid (by omega)
                  have HD10 := Lib.hid hD10
                  clear hc hcm hor hor0 hwl hsu hW hH hWH hwc hy hroom9 hsu2 hD10
                  by_cases hy0 : y = 0
                  · subst hy0
                    go_wp2_with (go_at_call 60; (refine (hPush_p HD10.out.hb c HHB.out).mono ?_); rintro e w5 ⟨rfl, v5, hH5, hF5⟩; have HD5 := Lib.hid (HD10.out.heap hH5 hF5))
                    go_roundw
                    case rel => exact ⟨j + 1, v5, by omega, by go_num, by rw [HSU.out]; exact HD5.out⟩
                    case measure => simp [intOf]; omega
                  · have e1 : ((y : Int) == 0) = false := by simp; omega
                    have e2 : ¬ (y : Int) = 0 := by omega
                    go_wp2
                    go_roundw
                    case rel => exact ⟨j + 1, v9, by omega, by go_num, by rw [HSU.out, if_neg hy0]; exact HD10.out⟩
                    case measure => simp [intOf]; omega
                · have hjn : j = qn := by omega
                  have hps := HPS.out
                  rw [HQN.out, ← hjn] at hps
                  have HPS2 := Lib.hid hps
                  clear hps
                  go_wp2
                  go_roundg gk'
                  case rel => exact ⟨v9, .slice (some ⟨g, 0, none⟩) (nl + 1) cg, popS s.users S, rfl, by rw [HPS2.out]; exact hD9, HOR2, HDR2, Lib.hid (by rw [popS_len]; have := HG.out; omega)⟩
                  case measure => omega
end Go.Proofs.YtigmdiagdlbdpaaGreat
