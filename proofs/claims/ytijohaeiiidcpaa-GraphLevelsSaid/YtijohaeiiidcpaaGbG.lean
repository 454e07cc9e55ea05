/-
  WALKS. The search: a visit.
-/
import Derived.Test.YtijohaeiiidcpaaGbF
namespace Go.Proofs.Ytijohaeiiidcpaa
open Go.RowKit Go.Maps
section
variable {w0 : World} {B b bs bv cE : Nat} {oE : Option Addr} {G : List (List Nat)}
theorem ne_of_path {s : SS} {A q : List Nat} {u v : Nat} (h : Lt G s) (hp : s.path = A ++ [u] ++ q) (hv : v ∈ q) : ¬ v = u := by
  intro e
  have hn := h.pnodup
  rw [hp, List.nodup_append] at hn
  exact hn.2.2 u (by simp) v hv e.symm
set_option maxRecDepth 100000 in
set_option maxHeartbeats 16000000 in
theorem visit_step (hGE : GE w0 B oE G) (c : Nat) (hc : c ≤ 1000) (IH : c < 1000 → VC w0 B b bs bv oE cE G (c + 1)) : VC w0 B b bs bv oE cE G c := by
  intro w r s A u hS hL hp hW hX
  have hup : u ∈ s.path := by rw [hp]; simp
  have hun : u < G.length := hL.lt (hL.pin hup)
  have h01 : (0 : Int) ≤ (u : Int) := Int.natCast_nonneg u
  have h02 : (u : Int) < (G.length : Int) := by omega
  have h04 : (u : Int).toNat = u := Int.toNat_natCast u
  have HIH := Lib.hid IH
  have HGE := Lib.hid hGE
  clear IH
  go_enter Try.func48, Try.ntmps48
  go_wp2
  go_loopg [] (mu G s) (fun gk wr => ∃ (rx : Nat → Value) (sx : SS) (j : Nat), SM wr B b (.slice oE G.length cE) rx sx ∧ Lt G sx ∧ sx.path = A ++ [u] ∧ mu G sx = gk ∧ Hid (StN G j s sx) ∧ FG B b w wr ∧ BX wr b bs bv)
  case atStart => exact ⟨r, s, 0, hS, hL, hp, rfl, Lib.hid (StN.zero s), Only.refl _ _, hX⟩
  case round =>
    have hlowb := hS.low
    clear hX hL hS hp hup
    obtain ⟨rx, sx, j, hS, hL, hp, hgk, HN, hF, hX⟩ := hrel
    have hend : endS sx = u := endS_app hp
    have hWr : Only (B ≤ ·) w0 wr := hW.trans (hF.low hlowb)
    have hEd := HGE.out.edg.old hWr (fun i hi hc => by have := HGE.out.low; have hc' : B ≤ i := hc; omega)
    obtain ⟨bE, oo, ra, rc, hoE, hcE, hrow⟩ := hEd.row hun
    subst hoE
    have k0 := hX.cs
    have kv := hX.cv
    have c0 := hS.c0
    obtain ⟨gk2, ck2, hvk, hck, qk, fk, nk⟩ := hS.rat (i := 2) (k := u) (by decide) (by show u < sx.looked.length; rw [hL.lk]; exact hun)
    have c3 := hS.cr (i := 2) (by decide)
    have e2 : (dat sx 2).length = G.length := hL.lk
    rw [hvk, e2] at c3
    rw [e2] at hck
    change wr.cell? _ = some (iV (gt sx.looked u)) at qk
    obtain ⟨kk, hkk⟩ : ∃ k, gt sx.looked u = k := ⟨_, rfl⟩
    have hkd := hL.deg u
    have hdb := HGE.out.deg u
    rw [hkk] at qk hkd
    obtain ⟨dd, hdd⟩ : ∃ d, degG G u = d := ⟨_, rfl⟩
    rw [hdd] at hcE hkd hdb
    have HNP : Hid (sx.path ≠ []) := Lib.hid (by rw [hp]; simp)
    have HLK := Lib.hid hkk
    have hNE := Lib.hid (show ∀ k, nx G u k = none ↔ dd ≤ k from fun k => by
      rw [← hdd]
      exact ⟨fun h => nx_none h, fun h => by
        cases hh : nx G u k with
        | none => rfl
        | some z => have := nx_deg hh; omega⟩)
    clear e2 hvk hkk hdd
    by_cases hlt : kk < dd
    · obtain ⟨v, hnx⟩ : ∃ v, nx G u kk = some v := by
        cases hh : nx G u kk with
        | none => have := (hNE.out kk).1 hh; omega
        | some z => exact ⟨z, rfl⟩
      have hvn : v < G.length := HGE.out.val u kk v hnx
      obtain ⟨br, oi, hra, hcv⟩ := hrow kk v hnx
      subst hra
      have h05 : (kk : Int) < (dd : Int) := by omega
      have h06 : (0 : Int) ≤ (kk : Int) := Int.natCast_nonneg kk
      have h07 : (kk : Int).toNat = kk := Int.toNat_natCast kk
      have h08 : (0 : Int) ≤ (v : Int) := Int.natCast_nonneg v
      have h09 : (v : Int) < (G.length : Int) := by omega
      have h10 : (v : Int).toNat = v := Int.toNat_natCast v
      obtain ⟨gp, cp, hvp, hcp, qp, fp, np⟩ := hS.rat (i := 0) (k := v) (by decide) (by show v < sx.place.length; rw [hL.lp]; exact hvn)
      have c1 := hS.cr (i := 0) (by decide)
      have e0 : (dat sx 0).length = G.length := hL.lp
      rw [hvp, e0] at c1
      rw [e0] at hcp
      change wr.cell? _ = some (iV (gt sx.place v)) at qp
      obtain ⟨pp, hpp⟩ : ∃ k, gt sx.place v = k := ⟨_, rfl⟩
      rw [hpp] at qp
      have hnx' : nx G u (gt sx.looked u) = some v := by rw [HLK.out]; exact hnx
      have HNX := Lib.hid hnx'
      have hln := Lt.ln' hL
      have hkk1 : gt sx.looked u + 1 ≤ 1000000000 := by rw [HLK.out]; omega
      have HP := Lib.hid hp
      have HPP := Lib.hid hpp
      have HLL := Lib.hid (hL.lp.trans hL.ll.symm)
      have hvl : v < sx.place.length := by rw [hL.lp]; exact hvn
      have hbe : sx.found + sx.path.length + sx.opn.length ≤ 1000000000 := by have := hL.fnd; have := hL.plen; have := hL.olen; have := HGE.out.len; omega
      clear e0 hvp hpp hnx hrow hdb hkd hp hnx'
      by_cases hz : pp = 0
      · subst hz
        have hst : stepS G sx = enterS sx v := by unfold stepS; rw [hend, HNX.out]; simp only; rw [HPP.out, if_pos rfl]
        have HN1 : Hid (StN G (j + 1) s (enterS sx v)) := Lib.hid (hst ▸ HN.out.snoc HNP.out)
        have hL1 : Lt G (enterS sx v) := enter_lt hL hvn HPP.out (.inr (by rw [hend]; exact HNX.out))
        have hp1 : (enterS sx v).path = (A ++ [u]) ++ [v] := by show sx.path ++ [v] = _; rw [HP.out]
        have hend1 : (enterS sx v).path.length ≤ 1000000000 := by have := hL1.plen; have := HGE.out.len; omega
        by_cases hcl : c < 1000
        · have hcd : decide ((c : Int) < 1000) = true := decide_eq_true (by omega)
          have hcw : IntKind.i64.wrap ((c : Int) + 1) = (c : Int) + 1 := IntWalk.i64_in _ (by omega)
          have HI := Lib.hid (HIH.out hcl)
          have HST := Lib.hid hst
          clear hst
          go_wp2
          go_region
          go_wp2
          go_region
          go_wp2_with (first | (go_at_call 49; (refine (enter_p (hS.same ((Only.refl _ _).drew.drew)) hvl HLL.out.symm hbe).mono ?_); rintro e w1 ⟨rfl, r1, hS1, hF1⟩; have hFa := (FG.keep ((Only.refl _ _).drew.drew)).trans hF1; have hX1 := hX.frm hS hFa; have k01 := hX1.cs; have kv1 := hX1.cv; have hW1 := hWr.trans (hFa.low hlowb)) | (go_at_call 48; (refine (HI.out w1 r1 (enterS sx v) (A ++ [u]) v hS1 hL1 hp1 hW1 hX1).mono ?_); rintro e w2 ⟨rfl, j2, s2, hN2, ⟨r2, hS2, hF2⟩, hpost⟩; have HPO := Lib.hid hpost; have hX2 := hX1.frm hS1 hF2; have k02 := hX2.cs; clear hpost))
          have hL2 : Lt G s2 := hN2.lt HGE.out.val hL1
          have hpl2 : s2.path.length ≤ 1000000000 := by have := hL2.plen; have := HGE.out.len; omega
          have HN2 := Lib.hid hN2
          clear hN2
          rcases HPO.out with ⟨t, ht, htp, hs2⟩ | ⟨q, hq, hp2⟩
          · have hp2 : s2.path = A ++ [u] := by rw [hs2, (leave_same t v).2.2.2.1, htp]; simp
            have hch : nx G u (gt s2.looked u) = some v := by
              rw [hs2, (leave_same t v).2.2.1]
              exact ht.chain A u v [] (by rw [htp]; simp)
            have hpv : ¬ gt s2.place v = 0 := by
              rw [hs2, (leave_same t v).1]
              exact (ht.opo v (ht.pin (by rw [htp]; simp))).1
            have hst2 : stepS G s2 = lookS s2 u v := by unfold stepS; rw [endS_app hp2, hch]; simp only; rw [if_neg hpv]
            have hk2 : gt s2.looked u + 1 ≤ 1000000000 := by have := hL2.deg u; have := HGE.out.deg u; omega
            have hL3 : Lt G (lookS s2 u v) := look_lt hL2 hp2 hch
            have HN3 : Hid (StN G (j + 1 + (j2 + 1) + 1) s (lookS s2 u v)) := Lib.hid (hst2 ▸ (HN1.out.add HN2.out).snoc (by rw [hp2]; simp))
            have HMU : Hid (mu G (lookS s2 u v) < mu G sx) := Lib.hid (by
              have h1 : StN G 1 sx (enterS sx v) := HST.out ▸ (StN.zero sx).snoc HNP.out
              have h2 : StN G (1 + (j2 + 1) + 1) sx (lookS s2 u v) := hst2 ▸ (h1.add HN2.out).snoc (by rw [hp2]; simp)
              have := h2.mu HGE.out.val hL
              omega)
            have HP2 := Lib.hid hp2
            clear hch hpv hst2 hs2 htp ht HPO hp2
            go_wp2_with (first | (go_at_call 50; (refine (end_p hS2 HP2.out hpl2).mono ?_); rintro e w3 ⟨rfl, hO3⟩; have hS3 := hS2.same hO3; have hX3 := hX2.same hO3; have k03 := hX3.cs) | (go_at_call 51; (refine (look_p hS3 (Lt.ln' hL2) hun hvn hk2).mono ?_); rintro e w4 ⟨rfl, r4, hS4, hF4⟩; have hX4 := hX3.frm hS3 hF4))
            go_roundg (mu G (lookS s2 u v))
            case rel => exact ⟨r4, lookS s2 u v, _, hS4, hL3, HP2.out, rfl, HN3, hF.trans (hFa.trans (hF2.trans ((FG.keep hO3).trans hF4))), hX4⟩
            case measure => have := HMU.out; omega
          · obtain ⟨q', z, rfl⟩ : ∃ q' z, q = q' ++ [z] := by
              rcases path_cases q with h | ⟨q', z, h⟩
              · exact absurd h hq
              · exact ⟨q', z, h⟩
            have hpz : s2.path = (A ++ [u] ++ [v] ++ q') ++ [z] := by rw [hp2]; simp
            have hzu : ¬ z = u := ne_of_path (A := A) (q := v :: (q' ++ [z])) hL2 (by rw [hp2]; simp) (by simp)
            have hzu2 : ((z : Int) == (u : Int)) = false := by simp; omega
            have hzu3 : ¬ (z : Int) = (u : Int) := by omega
            have HPZ := Lib.hid hpz
            have HP2 : Hid (s2.path = A ++ [u] ++ (v :: (q' ++ [z]))) := Lib.hid (by rw [hp2]; simp)
            clear hpz hp2 hq HPO
            go_wp2_with (go_at_call 50; (refine (end_p hS2 HPZ.out hpl2).mono ?_); rintro e w3 ⟨rfl, hO3⟩; have hS3 := hS2.same hO3)
            refine bodyPost_ret (v := .tuple #[]) (by simp [results, Try.results48, go_sem]) rfl ?_
            exact ⟨rfl, _, s2, (show StN G ((j + j2 + 1) + 1) s s2 from (by have := HN1.out.add HN2.out; rwa [show j + 1 + (j2 + 1) = (j + j2 + 1) + 1 by omega] at this)), ⟨r2, hS3, hF.trans (hFa.trans (hF2.trans (FG.keep hO3)))⟩, .inr ⟨v :: (q' ++ [z]), by simp, HP2.out⟩⟩
        · have hcd : decide ((c : Int) < 1000) = false := decide_eq_false (by omega)
          have hpz : (enterS sx v).path = (A ++ [u]) ++ [v] := hp1
          have hzu : ¬ v = u := ne_of_path (A := A) (q := [v]) hL1 (by rw [hp1]) (by simp)
          have hzu2 : ((v : Int) == (u : Int)) = false := by simp; omega
          have hzu3 : ¬ (v : Int) = (u : Int) := by omega
          have HPZ := Lib.hid hpz
          clear hst hp1 hpz
          go_wp2
          go_region
          go_wp2
          go_region
          go_wp2_with (first | (go_at_call 49; (refine (enter_p (hS.same ((Only.refl _ _).drew.drew)) hvl HLL.out.symm hbe).mono ?_); rintro e w1 ⟨rfl, r1, hS1, hF1⟩; have hFa := (FG.keep ((Only.refl _ _).drew.drew)).trans hF1; have hX1 := hX.frm hS hFa; have k01 := hX1.cs; have kv1 := hX1.cv; have hW1 := hWr.trans (hFa.low hlowb)) | (go_at_call 50; (refine (end_p hS1 HPZ.out hend1).mono ?_); rintro e w3 ⟨rfl, hO3⟩; have hS3 := hS1.same hO3))
          refine bodyPost_ret (v := .tuple #[]) (by simp [results, Try.results48, go_sem]) rfl ?_
          exact ⟨rfl, _, enterS sx v, HN1.out, ⟨r1, hS3, hF.trans (hFa.trans (FG.keep hO3))⟩, .inr ⟨[v], by simp, HPZ.out⟩⟩
      · have hz1 : ((pp : Int) == 0) = false := by simp; omega
        have hz2 : ¬ (pp : Int) = 0 := by omega
        have hst : stepS G sx = lookS sx u v := by unfold stepS; rw [hend, HNX.out]; simp only; rw [if_neg (by rw [HPP.out]; exact hz)]
        have HN3 : Hid (StN G (j + 1) s (lookS sx u v)) := Lib.hid (hst ▸ HN.out.snoc HNP.out)
        have hL3 : Lt G (lookS sx u v) := look_lt hL HP.out HNX.out
        have HMU : Hid (mu G (lookS sx u v) < mu G sx) := Lib.hid (by
          have h2 : StN G 1 sx (lookS sx u v) := hst ▸ (StN.zero sx).snoc HNP.out
          have := h2.mu HGE.out.val hL
          omega)
        clear hst
        go_wp2
        go_region
        go_wp2
        go_region
        go_wp2_with (go_at_call 51; (refine (look_p (hS.same ((Only.refl _ _).drew.drew)) hln hun hvn hkk1).mono ?_); rintro e w4 ⟨rfl, r4, hS4, hF4⟩; have hFa := (FG.keep ((Only.refl _ _).drew.drew)).trans hF4; have hX4 := hX.frm hS hFa)
        go_roundg (mu G (lookS sx u v))
        case rel => exact ⟨r4, lookS sx u v, _, hS4, hL3, HP.out, rfl, HN3, hF.trans hFa, hX4⟩
        case measure => have := HMU.out; omega
    · have h05 : decide ((kk : Int) < (dd : Int)) = false := decide_eq_false (by omega)
      have h06 : ¬ (kk : Int) < (dd : Int) := by omega
      have hnx : nx G u (gt sx.looked u) = none := by rw [HLK.out]; exact (hNE.out kk).2 (by omega)
      have hst : stepS G sx = leaveS sx u := by unfold stepS; rw [hend, hnx]
      have HN3 : Hid (StN G (j + 1) s (leaveS sx u)) := Lib.hid (hst ▸ HN.out.snoc HNP.out)
      have hbe : sx.path.length + sx.opn.length + sx.last + 1 ≤ 1000000000 := by have := hL.lst; have := hL.fnd; have := hL.plen; have := hL.olen; have := HGE.out.len; omega
      have hol : ∀ x ∈ sx.opn, x < G.length := fun x hx => hL.lt hx
      have huo : u ∈ sx.opn := hL.pin (by rw [hp]; simp)
      have HP := Lib.hid hp
      clear hst hnx hp
      go_wp2
      go_region
      go_wp2_with (go_at_call 52; (refine (leave_p (hS.same ((Only.refl _ _).drew)) (Lt.ln' hL) HP.out hun hbe hol huo).mono ?_); rintro e w4 ⟨rfl, r4, hS4, hF4⟩; have hFa := (FG.keep ((Only.refl _ _).drew)).trans hF4)
      go_end0
      exact ⟨rfl, j, leaveS sx u, HN3.out, ⟨r4, hS4, hF.trans hFa⟩, .inl ⟨sx, hL, HP.out, rfl⟩⟩
theorem visit_p (hGE : GE w0 B oE G) : ∀ m c, c + m = 1000 → VC w0 B b bs bv oE cE G c
  | 0, c, h => visit_step hGE c (by omega) (fun hc => absurd hc (by omega))
  | m + 1, c, h => visit_step hGE c (by omega) (fun _ => visit_p hGE m (c + 1) (by omega))
end
end Go.Proofs.Ytijohaeiiidcpaa
