/-
  WALKS. The search: what a visit leaves; the boxes of its variables.
  WALKS. The search: a visit.
  WALKS. The search: newSearch.
  WALKS. The search: newSearch.
  WALKS. The search: numbers.
-/
import Derived.Test.YtigmdiagdlbdpaaGreatGbA
import Derived.Laws.EntriesVeiled
namespace Go.Proofs.YtigmdiagdlbdpaaGreat
open Go.RowKit Go.Maps
/-- So many steps. -/
inductive StN (G : List (List Nat)) : Nat → SS → SS → Prop
  | zero (s : SS) : StN G 0 s s
  | snoc {j : Nat} {s t : SS} : StN G j s t → t.path ≠ [] → StN G (j + 1) s (stepS G t)
section
variable {G : List (List Nat)} {s t : SS}
theorem step_lt (hG : ValidG G) (h : Lt G s) (hp : s.path ≠ []) : Lt G (stepS G s) := by
  rcases path_cases s.path with e | ⟨A, u, e⟩
  · exact absurd e hp
  have hend : endS s = u := endS_app e
  unfold stepS
  rw [hend]
  cases he : nx G u (gt s.looked u) with
  | some v =>
    simp only
    by_cases hv : gt s.place v = 0
    · rw [if_pos hv]
      exact enter_lt h (hG u _ v he) hv (.inr (by rw [hend]; exact he))
    · rw [if_neg hv]
      exact look_lt h e he
  | none =>
    simp only
    exact leave_lt h e
theorem StN.lt (hG : ValidG G) {j : Nat} (k : StN G j s t) (h : Lt G s) : Lt G t := by
  induction k with
  | zero => exact h
  | snoc _ hp ih => exact step_lt hG (ih h) hp
theorem StN.mu (hG : ValidG G) {j : Nat} (k : StN G j s t) (h : Lt G s) : mu G t + j ≤ mu G s := by
  induction k with
  | zero => exact Nat.le_refl _
  | snoc k hp ih =>
    have h1 := ih h
    have h2 := step_mu hG (k.lt hG h) hp
    omega
theorem StN.run {j : Nat} (k : StN G j s t) : ∀ f, runS G (f + j) s = runS G f t := by
  induction k with
  | zero => intro f; rfl
  | @snoc j s t _ hp ih =>
    intro f
    rw [show f + (j + 1) = (f + 1) + j by omega, ih (f + 1), run_step hp]
theorem StN.add {j k : Nat} {q : SS} (h : StN G j s t) (h2 : StN G k t q) : StN G (j + k) s q := by
  induction h2 with
  | zero => exact h
  | snoc _ hp ih => exact (ih h).snoc hp
theorem Lt.olen (h : Lt G s) : s.opn.length ≤ G.length := by have := h.lst; have := h.fnd; omega
theorem Lt.plen (h : Lt G s) : s.path.length ≤ G.length := Nat.le_trans h.sub.length_le h.olen
end
/-- The two boxes that the visit captures: the search's address, and the visit. -/
structure BX (w : World) (b bs bv : Nat) : Prop where
  s : w.heap[bs]? = some (.cells #[.pointer (some ⟨b, 0, none⟩)] 95 (0, 0))
  v : w.heap[bv]? = some (.cells #[.func (.func 64) #[] #[.pointer (some ⟨bs, 0, none⟩), .pointer (some ⟨bv, 0, none⟩)]] 97 (0, 0))
section
variable {w w' : World} {B b bs bv : Nat} {vE : Value} {r : Nat → Value} {s : SS}
theorem BX.cs (h : BX w b bs bv) : w.cell? ⟨bs, 0, none⟩ = some (.pointer (some ⟨b, 0, none⟩)) := (blk_c h.s rfl).1
theorem BX.cv (h : BX w b bs bv) : w.cell? ⟨bv, 0, none⟩ = some (.func (.func 64) #[] #[.pointer (some ⟨bs, 0, none⟩), .pointer (some ⟨bv, 0, none⟩)]) := (blk_c h.v rfl).1
theorem BX.frm (h : BX w b bs bv) (hS : SM w B b vE r s) (hF : FG B b w w') : BX w' b bs bv := by
  refine ⟨(hF.block bs (lt_of_block h.s) (fun hc => ?_)).trans h.s, (hF.block bv (lt_of_block h.v) (fun hc => ?_)).trans h.v⟩
  · rcases hc with hc | ⟨-, cs, m, hc⟩
    · have h1 := h.s
      rw [hc, hS.blk] at h1
      exact absurd (Obj.cells.inj (Option.some.inj h1)).2.1 (by decide)
    · rw [h.s] at hc
      exact absurd (Obj.cells.inj (Option.some.inj hc)).2.1 (by decide)
  · rcases hc with hc | ⟨-, cs, m, hc⟩
    · have h1 := h.v
      rw [hc, hS.blk] at h1
      exact absurd (Obj.cells.inj (Option.some.inj h1)).2.1 (by decide)
    · rw [h.v] at hc
      exact absurd (Obj.cells.inj (Option.some.inj hc)).2.1 (by decide)
theorem BX.same (h : BX w b bs bv) (ho : Only (fun _ => False) w w') : BX w' b bs bv := ⟨(ho.block bs (lt_of_block h.s) (fun hc => hc)).trans h.s, (ho.block bv (lt_of_block h.v) (fun hc => hc)).trans h.v⟩
end
/-- The graph, as it lay when the search began. -/
structure GE (w0 : World) (B : Nat) (oE : Option Addr) (G : List (List Nat)) : Prop where
  edg : Edg w0 oE G.length G
  low : w0.heap.size ≤ B
  val : ValidG G
  len : G.length ≤ 1000000
  deg : ∀ u, degG G u ≤ 100000000
/-- What a visit leaves. -/
def VP (w : World) (B b : Nat) (vE : Value) (G : List (List Nat)) (s : SS) (A : List Nat) (u : Nat) (e : Ending) (w' : World) : Prop :=
  e = .returned (.tuple #[]) ∧ ∃ j s', StN G (j + 1) s s' ∧ SMx w B b vE s' w' ∧ ((∃ t, Lt G t ∧ t.path = A ++ [u] ∧ s' = leaveS t u) ∨ ∃ q, q ≠ [] ∧ s'.path = A ++ [u] ++ q)
/-- The visit's contract, at so many calls. -/
def VC (w0 : World) (B b bs bv : Nat) (oE : Option Addr) (cE : Nat) (G : List (List Nat)) (c : Nat) : Prop :=
  ∀ (w : World) (r : Nat → Value) (s : SS) (A : List Nat) (u : Nat), SM w B b (.slice oE G.length cE) r s → Lt G s → s.path = A ++ [u] → Only (B ≤ ·) w0 w → BX w b bs bv →
    Calls Tryz.prog 64 #[iV u, iV c, .pointer (some ⟨bs, 0, none⟩), .pointer (some ⟨bv, 0, none⟩)] w (VP w B b (.slice oE G.length cE) G s A u)
theorem Edg.row {w : World} {oa : Option Addr} {n : Nat} {G : List (List Nat)} (h : Edg w oa n G) {u : Nat} (hu : u < G.length) : ∃ b o ra rc, oa = some ⟨b, o, none⟩ ∧ w.cell? ⟨b, o + u, none⟩ = some (.slice ra (degG G u) rc) ∧ ∀ k v, nx G u k = some v → ∃ b' o', ra = some ⟨b', o', none⟩ ∧ w.cell? ⟨b', o' + k, none⟩ = some (iV v) := by
  obtain ⟨b, o, ra, rn, rc, e, hc, hi⟩ := h.cell u hu
  have hd : degG G u = G[u].length := by unfold degG; rw [List.getD_eq_getElem?_getD, List.getElem?_eq_getElem hu]; rfl
  have hG : G.getD u [] = G[u] := by rw [List.getD_eq_getElem?_getD, List.getElem?_eq_getElem hu]; rfl
  refine ⟨b, o, ra, rc, e, by rw [hd, hi.len]; exact hc, fun k v hk => ?_⟩
  unfold nx at hk
  rw [hG] at hk
  have hkl := (List.getElem?_eq_some_iff.1 hk).1
  obtain ⟨b', o', e', hc'⟩ := hi.cell k hkl
  refine ⟨b', o', e', ?_⟩
  rw [gt_at hkl] at hc'
  rw [(List.getElem?_eq_some_iff.1 hk).2] at hc'
  exact hc'
end Go.Proofs.YtigmdiagdlbdpaaGreat
namespace Go.Proofs.YtigmdiagdlbdpaaGreat
open Go.RowKit Go.Maps
section
variable {w0 : World} {B b bs bv cE : Nat} {oE : Option Addr} {G : List (List Nat)}
theorem ne_of_path {s : SS} {A q : List Nat} {u v : Nat} (h : Lt G s) (hp : s.path = A ++ [u] ++ q) (hv : v ∈ q) : ¬ v = u := by
  intro e
  have hn := h.pnodup
  rw [hp, List.nodup_append] at hn
  exact hn.2.2 u (by simp) v hv e.symm
set_option maxRecDepth 100000 in
set_option maxHeartbeats 16000000 in
theorem visit_step (hGE : GE w0 B oE G) (c : Nat) (hc : c ≤ 1000) (IH : c < 1000 → VC w0 B b bs bv oE cE G (c + 1)) : VC w0 B b bs bv oE cE G c := by
  intro w r s A u hS hL hp hW hX
  have hup : u ∈ s.path := by rw [hp]; simp
  have hun : u < G.length := hL.lt (hL.pin hup)
  have h01 : (0 : Int) ≤ (u : Int) := Int.natCast_nonneg u
  have h02 : (u : Int) < (G.length : Int) := by omega
  have h04 : (u : Int).toNat = u := Int.toNat_natCast u
  have HIH := Lib.hid IH
  have HGE := Lib.hid hGE
  clear IH
  go_enter Tryz.func64, Tryz.ntmps64
  go_wp2
  go_loopg [] (mu G s) (fun gk wr => ∃ (rx : Nat → Value) (sx : SS) (j : Nat), SM wr B b (.slice oE G.length cE) rx sx ∧ Lt G sx ∧ sx.path = A ++ [u] ∧ mu G sx = gk ∧ Hid (StN G j s sx) ∧ FG B b w wr ∧ BX wr b bs bv)
  case atStart => exact ⟨r, s, 0, hS, hL, hp, rfl, Lib.hid (StN.zero s), Only.refl _ _, hX⟩
  case round =>
    have hlowb := hS.low
    clear hX hL hS hp hup
    obtain ⟨rx, sx, j, hS, hL, hp, hgk, HN, hF, hX⟩ := hrel
    have hend : endS sx = u := endS_app hp
    have hWr : Only (B ≤ ·) w0 wr := hW.trans (hF.low hlowb)
    have hEd := HGE.out.edg.old hWr (fun i hi hc => by have := HGE.out.low; have hc' : B ≤ i := hc; omega)
    obtain ⟨bE, oo, ra, rc, hoE, hcE, hrow⟩ := hEd.row hun
    subst hoE
    have k0 := hX.cs
    have kv := hX.cv
    have c0 := hS.c0
    obtain ⟨gk2, ck2, hvk, hck, qk, fk, nk⟩ := hS.rat (i := 2) (k := u) (by decide) (by show u < sx.looked.length; rw [hL.lk]; exact hun)
    have c3 := hS.cr (i := 2) (by decide)
    have e2 : (dat sx 2).length = G.length := hL.lk
    rw [hvk, e2] at c3
    rw [e2] at hck
    change wr.cell? _ = some (iV (gt sx.looked u)) at qk
    obtain ⟨kk, hkk⟩ : ∃ k, gt sx.looked u = k := ⟨_, rfl⟩
    have hkd := hL.deg u
    have hdb := HGE.out.deg u
    rw [hkk] at qk hkd
    obtain ⟨dd, hdd⟩ : ∃ d, degG G u = d := ⟨_, rfl⟩
    rw [hdd] at hcE hkd hdb
    have HNP : Hid (sx.path ≠ []) := Lib.hid (by rw [hp]; simp)
    have HLK := Lib.hid hkk
    have hNE := Lib.hid (show ∀ k, nx G u k = none ↔ dd ≤ k from fun k => by
      rw [← hdd]
      exact ⟨fun h => nx_none h, fun h => by
        cases hh : nx G u k with
        | none => rfl
        | some z => have := nx_deg hh; omega⟩)
    clear e2 hvk hkk hdd
    by_cases hlt : kk < dd
    · obtain ⟨v, hnx⟩ : ∃ v, nx G u kk = some v := by
        cases hh : nx G u kk with
        | none => have := (hNE.out kk).1 hh; omega
        | some z => exact ⟨z, rfl⟩
      have hvn : v < G.length := HGE.out.val u kk v hnx
      obtain ⟨br, oi, hra, hcv⟩ := hrow kk v hnx
      subst hra
      have h05 : (kk : Int) < (dd : Int) := by omega
      have h06 : (0 : Int) ≤ (kk : Int) := Int.natCast_nonneg kk
      have h07 : (kk : Int).toNat = kk := Int.toNat_natCast kk
      have h08 : (0 : Int) ≤ (v : Int) := Int.natCast_nonneg v
      have h09 : (v : Int) < (G.length : Int) := by omega
      have h10 : (v : Int).toNat = v := Int.toNat_natCast v
      obtain ⟨gp, cp, hvp, hcp, qp, fp, np⟩ := hS.rat (i := 0) (k := v) (by decide) (by show v < sx.place.length; rw [hL.lp]; exact hvn)
      have c1 := hS.cr (i := 0) (by decide)
      have e0 : (dat sx 0).length = G.length := hL.lp
      rw [hvp, e0] at c1
      rw [e0] at hcp
      change wr.cell? _ = some (iV (gt sx.place v)) at qp
      obtain ⟨pp, hpp⟩ : ∃ k, gt sx.place v = k := ⟨_, rfl⟩
      rw [hpp] at qp
      have hnx' : nx G u (gt sx.looked u) = some v := by rw [HLK.out]; exact hnx
      have HNX := Lib.hid hnx'
      have hln := Lt.ln' hL
      have hkk1 : gt sx.looked u + 1 ≤ 1000000000 := by rw [HLK.out]; omega
      have HP := Lib.hid hp
      have HPP := Lib.hid hpp
      have HLL := Lib.hid (hL.lp.trans hL.ll.symm)
      have hvl : v < sx.place.length := by rw [hL.lp]; exact hvn
      have hbe : sx.found + sx.path.length + sx.opn.length ≤ 1000000000 := by have := hL.fnd; have := hL.plen; have := hL.olen; have := HGE.out.len; omega
      clear e0 hvp hpp hnx hrow hdb hkd hp hnx'
      by_cases hz : pp = 0
      · subst hz
        have hst : stepS G sx = enterS sx v := by unfold stepS; rw [hend, HNX.out]; simp only; rw [HPP.out, if_pos rfl]
        have HN1 : Hid (StN G (j + 1) s (enterS sx v)) := Lib.hid (hst ▸ HN.out.snoc HNP.out)
        have hL1 : Lt G (enterS sx v) := enter_lt hL hvn HPP.out (.inr (by rw [hend]; exact HNX.out))
        have hp1 : (enterS sx v).path = (A ++ [u]) ++ [v] := by show sx.path ++ [v] = _; rw [HP.out]
        have hend1 : (enterS sx v).path.length ≤ 1000000000 := by have := hL1.plen; have := HGE.out.len; omega
        by_cases hcl : c < 1000
        · have hcd : decide ((c : Int) < 1000) = true := decide_eq_true (by omega)
          have hcw : IntKind.i64.wrap ((c : Int) + 1) = (c : Int) + 1 := IntWalk.i64_in _ (by omega)
          have HI := Lib.hid (HIH.out hcl)
          have HST := Lib.hid hst
          clear hst
          go_wp2
          go_region
          go_wp2
          go_region
          go_wp2_with (first | (go_at_call 65; (refine (enter_p (hS.same ((Only.refl _ _).drew.drew)) hvl HLL.out.symm hbe).mono ?_); rintro e w1 ⟨rfl, r1, hS1, hF1⟩; have hFa := (FG.keep ((Only.refl _ _).drew.drew)).trans hF1; have hX1 := hX.frm hS hFa; have k01 := hX1.cs; have kv1 := hX1.cv; have hW1 := hWr.trans (hFa.low hlowb)) | (go_at_call 64; (refine (HI.out w1 r1 (enterS sx v) (A ++ [u]) v hS1 hL1 hp1 hW1 hX1).mono ?_); rintro e w2 ⟨rfl, j2, s2, hN2, ⟨r2, hS2, hF2⟩, hpost⟩; have HPO := Lib.hid hpost; have hX2 := hX1.frm hS1 hF2; have k02 := hX2.cs; clear hpost))
          have hL2 : Lt G s2 := hN2.lt HGE.out.val hL1
          have hpl2 : s2.path.length ≤ 1000000000 := by have := hL2.plen; have := HGE.out.len; omega
          have HN2 := Lib.hid hN2
          clear hN2
          rcases HPO.out with ⟨t, ht, htp, hs2⟩ | ⟨q, hq, hp2⟩
          · have hp2 : s2.path = A ++ [u] := by rw [hs2, (leave_same t v).2.2.2.1, htp]; simp
            have hch : nx G u (gt s2.looked u) = some v := by
              rw [hs2, (leave_same t v).2.2.1]
              exact ht.chain A u v [] (by rw [htp]; simp)
            have hpv : ¬ gt s2.place v = 0 := by
              rw [hs2, (leave_same t v).1]
              exact (ht.opo v (ht.pin (by rw [htp]; simp))).1
            have hst2 : stepS G s2 = lookS s2 u v := by unfold stepS; rw [endS_app hp2, hch]; simp only; rw [if_neg hpv]
            have hk2 : gt s2.looked u + 1 ≤ 1000000000 := by have := hL2.deg u; have := HGE.out.deg u; omega
            have hL3 : Lt G (lookS s2 u v) := look_lt hL2 hp2 hch
            have HN3 : Hid (StN G (j + 1 + (j2 + 1) + 1) s (lookS s2 u v)) := Lib.hid (hst2 ▸ (HN1.out.add HN2.out).snoc (by rw [hp2]; simp))
            have HMU : Hid (mu G (lookS s2 u v) < mu G sx) := Lib.hid (by
              have h1 : StN G 1 sx (enterS sx v) := HST.out ▸ (StN.zero sx).snoc HNP.out
              have h2 : StN G (1 + (j2 + 1) + 1) sx (lookS s2 u v) := hst2 ▸ (h1.add HN2.out).snoc (by rw [hp2]; simp)
              have := h2.mu HGE.out.val hL
              omega)
            have HP2 := Lib.hid hp2
            clear hch hpv hst2 hs2 htp ht HPO hp2
            go_wp2_with (first | (go_at_call 66; (refine (end_p hS2 HP2.out hpl2).mono ?_); rintro e w3 ⟨rfl, hO3⟩; have hS3 := hS2.same hO3; have hX3 := hX2.same hO3; have k03 := hX3.cs) | (go_at_call 67; (refine (look_p hS3 (Lt.ln' hL2) hun hvn hk2).mono ?_); rintro e w4 ⟨rfl, r4, hS4, hF4⟩; have hX4 := hX3.frm hS3 hF4))
            go_roundg (mu G (lookS s2 u v))
            case rel => exact ⟨r4, lookS s2 u v, _, hS4, hL3, HP2.out, rfl, HN3, hF.trans (hFa.trans (hF2.trans ((FG.keep hO3).trans hF4))), hX4⟩
            case measure => have := HMU.out; omega
          · obtain ⟨q', z, rfl⟩ : ∃ q' z, q = q' ++ [z] := by
              rcases path_cases q with h | ⟨q', z, h⟩
              · exact absurd h hq
              · exact ⟨q', z, h⟩
            have hpz : s2.path = (A ++ [u] ++ [v] ++ q') ++ [z] := by rw [hp2]; simp
            have hzu : ¬ z = u := ne_of_path (A := A) (q := v :: (q' ++ [z])) hL2 (by rw [hp2]; simp) (by simp)
            have hzu2 : ((z : Int) == (u : Int)) = false := by simp; omega
            have hzu3 : ¬ (z : Int) = (u : Int) := by omega
            have HPZ := Lib.hid hpz
            have HP2 : Hid (s2.path = A ++ [u] ++ (v :: (q' ++ [z]))) := Lib.hid (by rw [hp2]; simp)
            clear hpz hp2 hq HPO
            go_wp2_with (go_at_call 66; (refine (end_p hS2 HPZ.out hpl2).mono ?_); rintro e w3 ⟨rfl, hO3⟩; have hS3 := hS2.same hO3)
            refine bodyPost_ret (v := .tuple #[]) (by simp [results, Tryz.results64, go_sem]) rfl ?_
            exact ⟨rfl, _, s2, (show StN G ((j + j2 + 1) + 1) s s2 from (by have := HN1.out.add HN2.out; rwa [show j + 1 + (j2 + 1) = (j + j2 + 1) + 1 by omega] at this)), ⟨r2, hS3, hF.trans (hFa.trans (hF2.trans (FG.keep hO3)))⟩, .inr ⟨v :: (q' ++ [z]), by simp, HP2.out⟩⟩
        · have hcd : decide ((c : Int) < 1000) = false := decide_eq_false (by omega)
          have hpz : (enterS sx v).path = (A ++ [u]) ++ [v] := hp1
          have hzu : ¬ v = u := ne_of_path (A := A) (q := [v]) hL1 (by rw [hp1]) (by simp)
          have hzu2 : ((v : Int) == (u : Int)) = false := by simp; omega
          have hzu3 : ¬ (v : Int) = (u : Int) := by omega
          have HPZ := Lib.hid hpz
          clear hst hp1 hpz
          go_wp2
          go_region
          go_wp2
          go_region
          go_wp2_with (first | (go_at_call 65; (refine (enter_p (hS.same ((Only.refl _ _).drew.drew)) hvl HLL.out.symm hbe).mono ?_); rintro e w1 ⟨rfl, r1, hS1, hF1⟩; have hFa := (FG.keep ((Only.refl _ _).drew.drew)).trans hF1; have hX1 := hX.frm hS hFa; have k01 := hX1.cs; have kv1 := hX1.cv; have hW1 := hWr.trans (hFa.low hlowb)) | (go_at_call 66; (refine (end_p hS1 HPZ.out hend1).mono ?_); rintro e w3 ⟨rfl, hO3⟩; have hS3 := hS1.same hO3))
          refine bodyPost_ret (v := .tuple #[]) (by simp [results, Tryz.results64, go_sem]) rfl ?_
          exact ⟨rfl, _, enterS sx v, HN1.out, ⟨r1, hS3, hF.trans (hFa.trans (FG.keep hO3))⟩, .inr ⟨[v], by simp, HPZ.out⟩⟩
      · have hz1 : ((pp : Int) == 0) = false := by simp; omega
        have hz2 : ¬ (pp : Int) = 0 := by omega
        have hst : stepS G sx = lookS sx u v := by unfold stepS; rw [hend, HNX.out]; simp only; rw [if_neg (by rw [HPP.out]; exact hz)]
        have HN3 : Hid (StN G (j + 1) s (lookS sx u v)) := Lib.hid (hst ▸ HN.out.snoc HNP.out)
        have hL3 : Lt G (lookS sx u v) := look_lt hL HP.out HNX.out
        have HMU : Hid (mu G (lookS sx u v) < mu G sx) := Lib.hid (by
          have h2 : StN G 1 sx (lookS sx u v) := hst ▸ (StN.zero sx).snoc HNP.out
          have := h2.mu HGE.out.val hL
          omega)
        clear hst
        go_wp2
        go_region
        go_wp2
        go_region
        go_wp2_with (go_at_call 67; (refine (look_p (hS.same ((Only.refl _ _).drew.drew)) hln hun hvn hkk1).mono ?_); rintro e w4 ⟨rfl, r4, hS4, hF4⟩; have hFa := (FG.keep ((Only.refl _ _).drew.drew)).trans hF4; have hX4 := hX.frm hS hFa)
        go_roundg (mu G (lookS sx u v))
        case rel => exact ⟨r4, lookS sx u v, _, hS4, hL3, HP.out, rfl, HN3, hF.trans hFa, hX4⟩
        case measure => have := HMU.out; omega
    · have h05 : decide ((kk : Int) < (dd : Int)) = false := decide_eq_false (by omega)
      have h06 : ¬ (kk : Int) < (dd : Int) := by omega
      have hnx : nx G u (gt sx.looked u) = none := by rw [HLK.out]; exact (hNE.out kk).2 (by omega)
      have hst : stepS G sx = leaveS sx u := by unfold stepS; rw [hend, hnx]
      have HN3 : Hid (StN G (j + 1) s (leaveS sx u)) := Lib.hid (hst ▸ HN.out.snoc HNP.out)
      have hbe : sx.path.length + sx.opn.length + sx.last + 1 ≤ 1000000000 := by have := hL.lst; have := hL.fnd; have := hL.plen; have := hL.olen; have := HGE.out.len; omega
      have hol : ∀ x ∈ sx.opn, x < G.length := fun x hx => hL.lt hx
      have huo : u ∈ sx.opn := hL.pin (by rw [hp]; simp)
      have HP := Lib.hid hp
      clear hst hnx hp
      go_wp2
      go_region
      go_wp2_with (go_at_call 68; (refine (leave_p (hS.same ((Only.refl _ _).drew)) (Lt.ln' hL) HP.out hun hbe hol huo).mono ?_); rintro e w4 ⟨rfl, r4, hS4, hF4⟩; have hFa := (FG.keep ((Only.refl _ _).drew)).trans hF4)
      go_end0
      exact ⟨rfl, j, leaveS sx u, HN3.out, ⟨r4, hS4, hF.trans hFa⟩, .inl ⟨sx, hL, HP.out, rfl⟩⟩
theorem visit_p (hGE : GE w0 B oE G) : ∀ m c, c + m = 1000 → VC w0 B b bs bv oE cE G c
  | 0, c, h => visit_step hGE c (by omega) (fun hc => absurd hc (by omega))
  | m + 1, c, h => visit_step hGE c (by omega) (fun _ => visit_p hGE m (c + 1) (by omega))
end
end Go.Proofs.YtigmdiagdlbdpaaGreat
namespace Go.Proofs.YtigmdiagdlbdpaaGreat
open Go.RowKit Go.Maps
theorem zA_list (n : Nat) : (madeCells #[Value.int .i64 0] n).toList = (zeros n).map iV := by
  rw [toList_madeCells_one]
  unfold zeros
  rw [List.map_replicate]
  rfl
theorem zA_size (n : Nat) : (madeCells #[Value.int .i64 0] n).size = n := by
  have := congrArg List.length (zA_list n)
  rw [List.length_map] at this
  unfold zeros at this
  rw [List.length_replicate] at this
  simpa using this
theorem mk_ints {n : Nat} (hn : n ≤ 1000000000) (w : World) : (Instr.makeSlice 55 (.int .i64 (n : Int)) (.int .i64 (n : Int))).run Tryz.prog w = .ok (.slice (some ⟨w.heap.size, 0, none⟩) n n) (w.alloc (.cells (madeCells #[Value.int .i64 0] n) 3)) := by
  obtain ⟨i0', hi, hz0, hz1, hz2⟩ := info_parts infoInt
  have := run_make (P := Tryz.prog) w 55 3 i0' (.int .i64 0) Tryz.underlying55 hi hz0 .i64 .i64 (n : Int) (n : Int) (by omega) (Int.le_refl _) (by rw [hz2]; omega) (by omega)
  rw [hz1] at this
  simpa [Value.cells] using this
/-- A row of zeros that has just been made. -/
theorem IR.made {w : World} {B g n : Nat} (hB : B ≤ g) (hg : w.heap[g]? = some (.cells (madeCells #[Value.int .i64 0] n) 3 (0, 0))) (hn : n ≤ 1000000000) : IR w B (.slice (some ⟨g, 0, none⟩) n n) (zeros n) := by
  have hz : (zeros n).length = n := List.length_replicate
  refine ⟨by rw [List.length_map]; omega, .inr ⟨g, n, _, by rw [hz], hB, hg, by rw [hz]; exact Nat.le_refl _, by unfold maxLen; omega, by rw [zA_size]; omega, ?_⟩⟩
  rw [zA_list, hz, Nat.mul_one, List.take_of_length_le (by rw [List.length_map, hz]; exact Nat.le_refl _)]
def rws (p l k m n : Nat) : Nat → Value
  | 0 => .slice (some ⟨p, 0, none⟩) n n
  | 1 => .slice (some ⟨l, 0, none⟩) n n
  | 2 => .slice (some ⟨k, 0, none⟩) n n
  | 3 => .slice (some ⟨m, 0, none⟩) n n
  | _ => .slice none 0 0
abbrev zO (n : Nat) : Obj := .cells (madeCells #[Value.int .i64 0] n) 3
theorem push_lt {a : Array Obj} {x : Obj} {g : Nat} (h : g < a.size) : (a.push x)[g]? = a[g]? := by rw [Array.getElem?_push, if_neg (by omega)]
theorem push_at {a : Array Obj} {x : Obj} {g : Nat} (h : g = a.size) : (a.push x)[g]? = some x := by rw [Array.getElem?_push, if_pos h]
theorem new_sm {w : World} {oE : Option Addr} {n cE p l k m : Nat} (hn : n ≤ 1000000000) (hp : w.heap.size ≤ p ∧ p < w.heap.size + 4) (hl : w.heap.size ≤ l ∧ l < w.heap.size + 4) (hk : w.heap.size ≤ k ∧ k < w.heap.size + 4) (hm : w.heap.size ≤ m ∧ m < w.heap.size + 4)
    (d1 : p ≠ l) (d2 : p ≠ k) (d3 : p ≠ m) (d4 : l ≠ k) (d5 : l ≠ m) (d6 : k ≠ m) :
    SM ((((((w.alloc (zO n)).alloc (zO n)).alloc (zO n)).alloc (zO n)).alloc (.cells #[.slice oE n cE, .slice (some ⟨p, 0, none⟩) n n, .slice (some ⟨l, 0, none⟩) n n, .slice (some ⟨k, 0, none⟩) n n, .slice (some ⟨m, 0, none⟩) n n, .slice none 0 0, .slice none 0 0, .int .i64 0, .int .i64 0] 99)).drew) w.heap.size (w.heap.size + 1 + 1 + 1 + 1) (.slice oE n cE) (rws p l k m n) (s0S n) := by
  have key : ∀ g, w.heap.size ≤ g ∧ g < w.heap.size + 4 → ∀ o : Obj, ((((((w.alloc (zO n)).alloc (zO n)).alloc (zO n)).alloc (zO n)).alloc o).drew).heap[g]? = some (zO n) := by
    intro g hg o
    show (((((w.heap.push (zO n)).push (zO n)).push (zO n)).push (zO n)).push o)[g]? = _
    have s1 : (w.heap.push (zO n)).size = w.heap.size + 1 := Array.size_push ..
    have s2 : ((w.heap.push (zO n)).push (zO n)).size = w.heap.size + 2 := by rw [Array.size_push, s1]
    have s3 : (((w.heap.push (zO n)).push (zO n)).push (zO n)).size = w.heap.size + 3 := by rw [Array.size_push, s2]
    have s4 : ((((w.heap.push (zO n)).push (zO n)).push (zO n)).push (zO n)).size = w.heap.size + 4 := by rw [Array.size_push, s3]
    rw [push_lt (by omega)]
    have : g = w.heap.size ∨ g = w.heap.size + 1 ∨ g = w.heap.size + 2 ∨ g = w.heap.size + 3 := by omega
    rcases this with e | e | e | e
    · rw [push_lt (by omega), push_lt (by omega), push_lt (by omega), push_at e]
    · rw [push_lt (by omega), push_lt (by omega), push_at (by omega)]
    · rw [push_lt (by omega), push_at (by omega)]
    · rw [push_at (by omega)]
  refine ⟨?_, by omega, fun i hi => ?_, ?_⟩
  · show (((((w.heap.push (zO n)).push (zO n)).push (zO n)).push (zO n)).push _)[w.heap.size + 1 + 1 + 1 + 1]? = _
    exact push_at (by rw [Array.size_push, Array.size_push, Array.size_push, Array.size_push])
  · match i, hi with
    | 0, _ => exact IR.made hp.1 (key p hp _) hn
    | 1, _ => exact IR.made hl.1 (key l hl _) hn
    | 2, _ => exact IR.made hk.1 (key k hk _) hn
    | 3, _ => exact IR.made hm.1 (key m hm _) hn
    | 4, _ => exact World.ownsRow_nil _ _ _ _
    | 5, _ => exact World.ownsRow_nil _ _ _ _
  · intro i j hi hj hij g hgi hgj
    match i, hi, j, hj with
    | 0, _, 0, _ => exact hij rfl
    | 1, _, 1, _ => exact hij rfl
    | 2, _, 2, _ => exact hij rfl
    | 3, _, 3, _ => exact hij rfl
    | 0, _, 1, _ => cases hgi; exact d1 (Option.some.inj hgj).symm
    | 0, _, 2, _ => cases hgi; exact d2 (Option.some.inj hgj).symm
    | 0, _, 3, _ => cases hgi; exact d3 (Option.some.inj hgj).symm
    | 1, _, 0, _ => cases hgi; exact d1 (Option.some.inj hgj)
    | 1, _, 2, _ => cases hgi; exact d4 (Option.some.inj hgj).symm
    | 1, _, 3, _ => cases hgi; exact d5 (Option.some.inj hgj).symm
    | 2, _, 0, _ => cases hgi; exact d2 (Option.some.inj hgj)
    | 2, _, 1, _ => cases hgi; exact d4 (Option.some.inj hgj)
    | 2, _, 3, _ => cases hgi; exact d6 (Option.some.inj hgj).symm
    | 3, _, 0, _ => cases hgi; exact d3 (Option.some.inj hgj)
    | 3, _, 1, _ => cases hgi; exact d5 (Option.some.inj hgj)
    | 3, _, 2, _ => cases hgi; exact d6 (Option.some.inj hgj)
    | 4, _, _, _ => cases hgi
    | 5, _, _, _ => cases hgi
    | 0, _, 4, _ => cases hgj
    | 0, _, 5, _ => cases hgj
    | 1, _, 4, _ => cases hgj
    | 1, _, 5, _ => cases hgj
    | 2, _, 4, _ => cases hgj
    | 2, _, 5, _ => cases hgj
    | 3, _, 4, _ => cases hgj
    | 3, _, 5, _ => cases hgj
end Go.Proofs.YtigmdiagdlbdpaaGreat
namespace Go.Proofs.YtigmdiagdlbdpaaGreat
open Go.RowKit Go.Maps
set_option maxRecDepth 100000 in
set_option maxHeartbeats 4000000 in
theorem newSearch_p (w : World) (oE : Option Addr) (n cE : Nat) (hn : n ≤ 1000000000) : Calls Tryz.prog 63 #[.slice oE n cE] w fun e w' => ∃ b r, e = .returned (.pointer (some ⟨b, 0, none⟩)) ∧ SM w' w.heap.size b (.slice oE n cE) r (s0S n) ∧ Only (fun _ => False) w w' := by
  have hmk := mk_ints hn
  go_enter Tryz.func63, Tryz.ntmps63
  go_wp2
  go_region
  go_wp2
  all_goals
    go_ret
    exact ⟨_, _, rfl, new_sm hn (by omega) (by omega) (by omega) (by omega) (by omega) (by omega) (by omega) (by omega) (by omega) (by omega), (((((Only.refl _ _).alloc _).alloc _).alloc _).alloc _).alloc _ |>.drew⟩
end Go.Proofs.YtigmdiagdlbdpaaGreat
namespace Go.Proofs.YtigmdiagdlbdpaaGreat
open Go.RowKit Go.Maps
/-- A graph's value, and its variable's block. -/
structure GB (w : World) (g : Nat) (oE : Option Addr) (n cE : Nat) : Prop where
  blk : w.heap[g]? = some (.cells #[.slice oE n cE] 49 (0, 0))
theorem runs_end {G : List (List Nat)} {s : SS} (h : s.path = []) : ∀ f, runS G f s = s := fun _f => run_nil h
set_option maxRecDepth 100000 in
set_option maxHeartbeats 16000000 in
theorem numbers_p (w : World) (oE : Option Addr) (cE : Nat) (G : List (List Nat)) (oS : Option Addr) (nS cS : Nat) (l : List Nat) (hE : Edg w oE G.length G) (hV : ValidG G) (hn : G.length ≤ 1000000) (hD : ∀ u, degG G u ≤ 100000000)
    (hS : Ints w oS nS l) (hnS : nS ≤ 1000000000) (hl : ∀ v ∈ l, v < G.length) :
    Calls Tryz.prog 46 #[.agg #[.slice oE G.length cE], .slice oS nS cS] w fun e w' => ∃ v, e = .returned v ∧ IR w' w.heap.size v (numbersS G l) ∧ Only (fun _ => False) w w' := by
  have hnn : G.length ≤ 1000000000 := by omega
  have HS := Lib.hid hS
  have hlen := hS.len
  obtain ⟨B, hB⟩ : ∃ B, (w.alloc (.cells #[.slice oE G.length cE] 49)).heap.size = B := ⟨_, rfl⟩
  have hBw : B = w.heap.size + 1 := by rw [← hB]; show (Array.push _ _).size = _; rw [Array.size_push]
  have HGE := Lib.hid (show GE w B oE G from ⟨hE, by omega, hV, hn, hD⟩)
  have HB := Lib.hid hB
  have HBW := Lib.hid hBw
  have HL := Lib.hid hl
  clear hE hS hB hBw hV hD hl
  go_enter Tryz.func46, Tryz.ntmps46
  go_wp2_with (go_at_call 63; (refine (newSearch_p _ oE G.length cE hnn).mono ?_); rintro e w1 ⟨b, r, rfl, hM, hO1⟩; rw [HB.out] at hM; have k6 : ((w1.alloc (.cells #[.pointer (some ⟨b, 0, none⟩)] 95)).alloc (.cells #[.nilFunc] 97)).cell? ⟨w1.heap.size + 1, 0, none⟩ = some .nilFunc := (blk_c (new_at _ (by show (Array.push _ _).size = _; rw [Array.size_push])) rfl).1; have z6 : ((w1.alloc (.cells #[.pointer (some ⟨b, 0, none⟩)] 95)).alloc (.cells #[.nilFunc] 97)).frozen? ⟨w1.heap.size + 1, 0, none⟩ = false := (blk_c (v := .nilFunc) (new_at _ (by show (Array.push _ _).size = _; rw [Array.size_push])) rfl).2)
  have hO1' : Only (fun _ => False) w w1 := ((Only.refl _ _).alloc _).trans hO1
  have hbx := hM.lt
  have hBb := hM.low
  clear k6 z6 hO1
  obtain ⟨bs, hbs⟩ : ∃ bs, w1.heap.size = bs := ⟨_, rfl⟩
  obtain ⟨bv, hbv⟩ : ∃ bv, bs + 1 = bv := ⟨_, rfl⟩
  have hX0 : ∀ W, W.heap = (w1.heap.push (.cells #[.pointer (some ⟨b, 0, none⟩)] 95)).push (.cells #[.func (.func 64) #[] #[.pointer (some ⟨bs, 0, none⟩), .pointer (some ⟨bv, 0, none⟩)]] 97) → BX W b bs bv := fun W hW => by
    have s1 : (w1.heap.push (.cells #[.pointer (some ⟨b, 0, none⟩)] 95)).size = bs + 1 := by rw [Array.size_push, hbs]
    refine ⟨?_, ?_⟩
    · rw [hW, push_lt (by omega), push_at hbs.symm]
    · rw [hW, push_at (by omega)]
  have HBS := Lib.hid hbs
  have HX0 := Lib.hid hX0
  rw [hbs, hbv]
  obtain ⟨w2, hw2⟩ : ∃ w2, (w1.alloc (.cells #[.pointer (some ⟨b, 0, none⟩)] 95)).alloc (.cells #[.func (.func 64) #[] #[.pointer (some ⟨bs, 0, none⟩), .pointer (some ⟨bv, 0, none⟩)]] 97) = w2 := ⟨_, rfl⟩
  have hX2 : BX w2 b bs bv := hX0 w2 (by rw [← hw2]; rfl)
  have hM2 : SM w2 B b (.slice oE G.length cE) r (s0S G.length) := by rw [← hw2]; exact (hM.same ((Only.refl _ _).alloc _)).same ((Only.refl _ _).alloc _)
  have hO2 : Only (fun _ => False) w w2 := by rw [← hw2]; exact (hO1'.alloc _).alloc _
  have hL0 := s0_lt G
  have hOB : Only (B ≤ ·) w w2 := hO2.lift
  rw [hw2]
  clear hw2 hX0 hbs hbv hM hO1' hbx
  go_loopw [15] (fun i wr => ∃ (k : Nat) (rx : Nat → Value) (sx : SS), k ≤ nS ∧ i = .int .i64 k ∧ SM wr B b (.slice oE G.length cE) rx sx ∧ Lt G sx ∧ sx.path = [] ∧ Hid ((l.drop k).foldl (startS G) sx = l.foldl (startS G) (s0S G.length)) ∧ BX wr b bs bv ∧ Only (B ≤ ·) w wr) (fun i _ => nS - (intOf i).toNat)
  case atStart => exact ⟨0, r, s0S G.length, by omega, rfl, hM2, hL0, rfl, Lib.hid rfl, hX2, hOB⟩
  case round =>
    clear hM2 hX2 hO2 hL0 hOB
    obtain ⟨k, rx, sx, hk, rfl, hS, hL, hp, HF, hX, hO⟩ := hrel
    by_cases hlt : k < nS
    · have hkl : k < l.length := by omega
      obtain ⟨oSb, oSo, hoS, hcv⟩ := (HS.out.old hO (fun i hi hc => by have := HBW.out; have hc' : B ≤ i := hc; omega)).cell k hkl
      subst hoS
      obtain ⟨v, hv⟩ : ∃ v, gt l k = v := ⟨_, rfl⟩
      rw [hv] at hcv
      have hvl : l[k] = v := by rw [← gt_at hkl]; exact hv
      have hvn : v < G.length := HL.out v (hvl ▸ List.getElem_mem hkl)
      have HDR : Hid (l.drop k = v :: l.drop (k + 1)) := Lib.hid (by rw [List.drop_eq_getElem_cons hkl, hvl])
      clear hv hvl
      have h05 : (0 : Int) ≤ (v : Int) := Int.natCast_nonneg v
      have h06 : (v : Int) < (G.length : Int) := by omega
      have h07 : (v : Int).toNat = v := Int.toNat_natCast v
      have k0 := hX.cs
      have kv := hX.cv
      obtain ⟨gp, cp, hvp, hcp, qp, fp, np⟩ := hS.rat (i := 0) (k := v) (by decide) (by show v < sx.place.length; rw [hL.lp]; exact hvn)
      have c1 := hS.cr (i := 0) (by decide)
      have e0 : (dat sx 0).length = G.length := hL.lp
      rw [hvp, e0] at c1
      rw [e0] at hcp
      change wr.cell? _ = some (iV (gt sx.place v)) at qp
      obtain ⟨pp, hpp⟩ : ∃ k, gt sx.place v = k := ⟨_, rfl⟩
      rw [hpp] at qp
      have hvpl : v < sx.place.length := by rw [hL.lp]; exact hvn
      have hll : sx.lowest.length = sx.place.length := by rw [hL.lp, hL.ll]
      have hbe : sx.found + sx.path.length + sx.opn.length ≤ 1000000000 := by have := hL.fnd; have := hL.plen; have := hL.olen; omega
      have HPP := Lib.hid hpp
      have HP := Lib.hid hp
      have hlb := hS.low
      clear e0 hvp hpp
      obtain ⟨wo, hwo⟩ : ∃ wo : World, wo = wr := ⟨_, rfl⟩
      subst hwo
      by_cases hz : pp = 0
      · subst hz
        have HST : Hid (runS G (fuelG G) (enterS sx v) = startS G sx v) := Lib.hid (by unfold startS; rw [if_pos HPP.out])
        have HMU : Hid (mu G (enterS sx v) ≤ fuelG G) := Lib.hid (by have := start_mu hL HP.out hvn; rwa [if_pos HPP.out] at this)
        have hL1 : Lt G (enterS sx v) := enter_lt hL hvn HPP.out (.inl HP.out)
        go_wp2_with (go_at_call 65; (refine (enter_p hS hvpl hll hbe).mono ?_); rintro e w5 ⟨rfl, r1, hS1, hF1⟩; have hX1 := hX.frm hS hF1; have hO5 := hO.trans (hF1.low hlb))
        have hmu : mu G (enterS sx v) ≤ fuelG G := HMU.out
        go_loopg [] (mu G (enterS sx v)) (fun gk wr => ∃ (ry : Nat → Value) (sy : SS) (f : Nat), SM wr B b (.slice oE G.length cE) ry sy ∧ Lt G sy ∧ mu G sy ≤ f ∧ mu G sy = gk ∧ Hid (runS G f sy = startS G sx v) ∧ BX wr b bs bv ∧ Only (B ≤ ·) w wr)
        case atStart => exact ⟨r1, (enterS sx v), fuelG G, hS1, hL1, hmu, rfl, HST, hX1, hO5⟩
        case round =>
          obtain ⟨ry, sy, f, hS6, hL6, hmf, hgk, HR6, hX6, hO6⟩ := hrel
          have k06 := hX6.cs
          have kv6 := hX6.cv
          have c5 := hS6.cr (i := 4) (by decide)
          obtain ⟨op, cap, hvp6⟩ := hS6.rowv (i := 4) (by decide)
          rw [hvp6] at c5
          clear hvp6
          rcases path_cases sy.path with hp6 | ⟨A, u, hp6⟩
          · have e4 : (dat sy 4).length = 0 := by show sy.path.length = 0; rw [hp6]; rfl
            rw [e4] at c5
            have HFN : Hid ((l.drop (k + 1)).foldl (startS G) sy = l.foldl (startS G) (s0S G.length)) := Lib.hid (by
              rw [← HF.out, HDR.out, List.foldl_cons, ← HR6.out, run_nil hp6])
            clear e4
            go_wp2
            go_roundw
            case rel => exact ⟨k + 1, ry, sy, by omega, by go_num, hS6, hL6, hp6, HFN, hX6, hO6⟩
            case measure => simp [intOf]; omega
          · obtain ⟨m, hm⟩ : ∃ m, A.length = m := ⟨_, rfl⟩
            have e4 : (dat sy 4).length = m + 1 := by show sy.path.length = _; rw [hp6, ← hm]; simp
            rw [e4] at c5
            have hcd : decide ((0 : Int) < (m : Int) + 1) = true := decide_eq_true (by omega)
            have hpl6 : sy.path.length ≤ 1000000000 := by have := hL6.plen; omega
            have hV := Lib.hid (visit_p (bs := bs) (bv := bv) (cE := cE) (b := b) HGE.out 1000 0 rfl)
            have HP6 := Lib.hid hp6
            have hne6 : sy.path ≠ [] := by rw [hp6]; simp
            have HNE := Lib.hid hne6
            clear e4 hm hp6 hne6
            go_wp2
            go_region_with (first | (go_at_call 66; (refine (end_p (hS6.same ((Only.refl _ _).drew)) HP6.out hpl6).mono ?_); rintro e w7 ⟨rfl, hO7⟩; have hS7 := (hS6.same ((Only.refl _ _).drew)).same hO7; have hX7 := (hX6.same ((Only.refl _ _).drew)).same hO7; have k07 := hX7.cs; have kv7 := hX7.cv; have hO7w : Only (B ≤ ·) w w7 := hO6.trans (Only.lift (((Only.refl _ _).drew).trans hO7))) | (go_at_call 64; (refine (hV.out w7 ry sy A u hS7 hL6 HP6.out hO7w hX7).mono ?_); rintro e w8 ⟨rfl, j8, s8, hN8, ⟨r8, hS8, hF8⟩, -⟩; have HN8 := Lib.hid hN8; have HF8 := Lib.hid hF8; clear hN8 hF8))
            all_goals
              have hL8 : Lt G s8 := HN8.out.lt HGE.out.val hL6
              have hm8 := HN8.out.mu HGE.out.val hL6
              have HM8 := Lib.hid hm8
              have HMF := Lib.hid hmf
              have HR8 : Hid (runS G (f - (j8 + 1)) s8 = startS G sx v) := Lib.hid (by
                rw [← HR6.out, ← HN8.out.run (f - (j8 + 1)), show f - (j8 + 1) + (j8 + 1) = f by omega])
              have HX8 := Lib.hid (hX7.frm hS7 HF8.out)
              have HO8 := Lib.hid (hO7w.trans (HF8.out.low hlb))
              clear hm8 hmf
              go_wp2
              go_roundg (mu G s8)
              case rel => exact ⟨r8, s8, f - (j8 + 1), hS8, hL8, by have := HM8.out; have := HMF.out; omega, rfl, HR8, HX8.out, HO8.out⟩
              case measure => have := HM8.out; omega
      · have hz1 : ((pp : Int) == 0) = false := by simp; omega
        have hz2 : ¬ (pp : Int) = 0 := by omega
        have HST : Hid (runS G (fuelG G) sx = startS G sx v) := Lib.hid (by unfold startS; rw [if_neg (by rw [HPP.out]; exact hz)])
        have HMU : Hid (mu G sx ≤ fuelG G) := Lib.hid (by have := start_mu hL HP.out hvn; rwa [if_neg (by rw [HPP.out]; exact hz)] at this)
        go_wp2
        have hmu : mu G sx ≤ fuelG G := HMU.out
        go_loopg [] (mu G sx) (fun gk wr => ∃ (ry : Nat → Value) (sy : SS) (f : Nat), SM wr B b (.slice oE G.length cE) ry sy ∧ Lt G sy ∧ mu G sy ≤ f ∧ mu G sy = gk ∧ Hid (runS G f sy = startS G sx v) ∧ BX wr b bs bv ∧ Only (B ≤ ·) w wr)
        case atStart => exact ⟨rx, sx, fuelG G, hS, hL, hmu, rfl, HST, hX, hO⟩
        case round =>
          obtain ⟨ry, sy, f, hS6, hL6, hmf, hgk, HR6, hX6, hO6⟩ := hrel
          have k06 := hX6.cs
          have kv6 := hX6.cv
          have c5 := hS6.cr (i := 4) (by decide)
          obtain ⟨op, cap, hvp6⟩ := hS6.rowv (i := 4) (by decide)
          rw [hvp6] at c5
          clear hvp6
          rcases path_cases sy.path with hp6 | ⟨A, u, hp6⟩
          · have e4 : (dat sy 4).length = 0 := by show sy.path.length = 0; rw [hp6]; rfl
            rw [e4] at c5
            have HFN : Hid ((l.drop (k + 1)).foldl (startS G) sy = l.foldl (startS G) (s0S G.length)) := Lib.hid (by
              rw [← HF.out, HDR.out, List.foldl_cons, ← HR6.out, run_nil hp6])
            clear e4
            go_wp2
            go_roundw
            case rel => exact ⟨k + 1, ry, sy, by omega, by go_num, hS6, hL6, hp6, HFN, hX6, hO6⟩
            case measure => simp [intOf]; omega
          · obtain ⟨m, hm⟩ : ∃ m, A.length = m := ⟨_, rfl⟩
            have e4 : (dat sy 4).length = m + 1 := by show sy.path.length = _; rw [hp6, ← hm]; simp
            rw [e4] at c5
            have hcd : decide ((0 : Int) < (m : Int) + 1) = true := decide_eq_true (by omega)
            have hpl6 : sy.path.length ≤ 1000000000 := by have := hL6.plen; omega
            have hV := Lib.hid (visit_p (bs := bs) (bv := bv) (cE := cE) (b := b) HGE.out 1000 0 rfl)
            have HP6 := Lib.hid hp6
            have hne6 : sy.path ≠ [] := by rw [hp6]; simp
            have HNE := Lib.hid hne6
            clear e4 hm hp6 hne6
            go_wp2
            go_region_with (first | (go_at_call 66; (refine (end_p (hS6.same ((Only.refl _ _).drew)) HP6.out hpl6).mono ?_); rintro e w7 ⟨rfl, hO7⟩; have hS7 := (hS6.same ((Only.refl _ _).drew)).same hO7; have hX7 := (hX6.same ((Only.refl _ _).drew)).same hO7; have k07 := hX7.cs; have kv7 := hX7.cv; have hO7w : Only (B ≤ ·) w w7 := hO6.trans (Only.lift (((Only.refl _ _).drew).trans hO7))) | (go_at_call 64; (refine (hV.out w7 ry sy A u hS7 hL6 HP6.out hO7w hX7).mono ?_); rintro e w8 ⟨rfl, j8, s8, hN8, ⟨r8, hS8, hF8⟩, -⟩; have HN8 := Lib.hid hN8; have HF8 := Lib.hid hF8; clear hN8 hF8))
            all_goals
              have hL8 : Lt G s8 := HN8.out.lt HGE.out.val hL6
              have hm8 := HN8.out.mu HGE.out.val hL6
              have HM8 := Lib.hid hm8
              have HMF := Lib.hid hmf
              have HR8 : Hid (runS G (f - (j8 + 1)) s8 = startS G sx v) := Lib.hid (by
                rw [← HR6.out, ← HN8.out.run (f - (j8 + 1)), show f - (j8 + 1) + (j8 + 1) = f by omega])
              have HX8 := Lib.hid (hX7.frm hS7 HF8.out)
              have HO8 := Lib.hid (hO7w.trans (HF8.out.low hlb))
              clear hm8 hmf
              go_wp2
              go_roundg (mu G s8)
              case rel => exact ⟨r8, s8, f - (j8 + 1), hS8, hL8, by have := HM8.out; have := HMF.out; omega, rfl, HR8, HX8.out, HO8.out⟩
              case measure => have := HM8.out; omega
    · have hkn : k = nS := by omega
      have hdn : l.drop k = [] := List.drop_eq_nil_of_le (by omega)
      have HR : Hid (sx = l.foldl (startS G) (s0S G.length)) := Lib.hid (by rw [← HF.out, hdn]; rfl)
      have k0 := hX.cs
      have c4 := hS.cr (i := 3) (by decide)
      obtain ⟨on, cn, hvn⟩ := hS.rowv (i := 3) (by decide)
      have hrow := hS.row 3 (by decide)
      rw [hvn] at c4 hrow
      have hB1 := HBW.out
      clear hvn
      go_wp2
      go_ret
      refine ⟨_, rfl, ?_, ⟨hO.os, hO.tape, hO.output, hO.size, fun i hi _ => hO.block i hi (fun hc => by have hc' : B ≤ i := hc; omega)⟩⟩
      show IR _ _ _ ((l.foldl (startS G) (s0S G.length)).number)
      rw [← HR.out]
      exact rowMono hrow (by omega)
end Go.Proofs.YtigmdiagdlbdpaaGreat
