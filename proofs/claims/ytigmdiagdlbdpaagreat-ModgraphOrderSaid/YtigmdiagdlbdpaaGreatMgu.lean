/-
  WALKS. The program's reversed.
-/
import Derived.Test.YtigmdiagdlbdpaaGreatMgt
namespace Go.Proofs.YtigmdiagdlbdpaaGreat
open Go.RowKit Go.Maps
/-- A node is put under each node of the row that comes before place j. -/
def rvJ (L : List (List Nat)) (u : Nat) (r : List Nat) : Nat → List (List Nat)
  | 0 => L
  | j + 1 => (rvJ L u r j).set (gt r j) (lAt (rvJ L u r j) (gt r j) ++ [u])
/-- The edges of the rows before row k, turned around. -/
def rvK (G : List (List Nat)) : Nat → List (List Nat)
  | 0 => List.replicate G.length []
  | k + 1 => rvJ (rvK G k) k (lAt G k) (lAt G k).length
def rvG (G : List (List Nat)) : List (List Nat) := rvK G G.length
theorem rvJ_len (L : List (List Nat)) (u : Nat) (r : List Nat) : ∀ j, (rvJ L u r j).length = L.length
  | 0 => rfl
  | j + 1 => by show (List.set _ _ _).length = _; rw [List.length_set, rvJ_len L u r j]
theorem rvK_len (G : List (List Nat)) : ∀ k, (rvK G k).length = G.length
  | 0 => by show (List.replicate _ _).length = _; rw [List.length_replicate]
  | k + 1 => by show (rvJ _ _ _ _).length = _; rw [rvJ_len, rvK_len G k]
theorem rvJ_deg (L : List (List Nat)) (u : Nat) (r : List Nat) (x : Nat) : ∀ j, (lAt (rvJ L u r j) x).length ≤ (lAt L x).length + j
  | 0 => Nat.le_refl _
  | j + 1 => by
    have ih := rvJ_deg L u r x j
    show (lAt ((rvJ L u r j).set (gt r j) _) x).length ≤ _
    by_cases hp : gt r j < (rvJ L u r j).length
    · rw [lAt_set hp]
      split
      · rename_i e
        subst e
        rw [List.length_append, List.length_singleton]
        omega
      · omega
    · rw [List.set_eq_of_length_le (by omega)]
      omega
theorem rvK_deg {G : List (List Nat)} {b : Nat} (hb : ∀ k, (lAt G k).length ≤ b) (x : Nat) : ∀ k, (lAt (rvK G k) x).length ≤ k * b
  | 0 => by
    show (lAt (List.replicate _ []) x).length ≤ _
    rw [show lAt (List.replicate G.length ([] : List Nat)) x = [] by
      show (List.replicate _ _).getD x [] = []
      rw [List.getD_eq_getElem?_getD, List.getElem?_replicate]
      split <;> rfl]
    exact Nat.zero_le _
  | k + 1 => by
    have h1 := rvJ_deg (rvK G k) k (lAt G k) x (lAt G k).length
    have h2 := rvK_deg hb x k
    have h3 := hb k
    show (lAt (rvJ _ _ _ _) x).length ≤ _
    rw [Nat.add_mul, Nat.one_mul]
    omega
set_option maxRecDepth 100000 in
set_option maxHeartbeats 8000000 in
theorem reversed_p (w : World) (oE : Option Addr) (n cE : Nat) (G : List (List Nat)) (h : Edg w oE n G) (hG : ValidG G) (hn : n ≤ 1000) (hr : ∀ k, (lAt G k).length ≤ 1000) : Calls Tryz.prog 37 #[.agg #[.slice oE n cE]] w fun e w' => ∃ oa ca, e = .returned (.agg #[.slice oa n ca]) ∧ EdgB w' w.heap.size oa n (rvG G) ∧ Only (fun _ => False) w w' := by
  have hlen := h.len
  have hA : Only (fun _ => False) w (w.alloc (.cells #[.slice oE n cE] 49)) := (Only.refl _ _).alloc _
  have s1 : (w.alloc (.cells #[.slice oE n cE] 49)).heap.size = w.heap.size + 1 := by show (Array.push _ _).size = _; rw [Array.size_push]
  have hk0 := new_block w (.cells #[.slice oE n cE] 49)
  have hmk := mk_rows (n := n) (by omega)
  have q0 := (blk_c (k := 0) hk0 rfl).1
  obtain ⟨i0', hi0, hz0', hz1, hz2⟩ := info_parts infoInt
  have hdg := fun x k => rvK_deg (b := 1000) hr x k
  have HDG := Lib.hid hdg
  have HH := Lib.hid h
  have HA := Lib.hid hA
  have HRR := Lib.hid hr
  have HGV := Lib.hid hG
  have HLEN := Lib.hid hlen
  have HS1 := Lib.hid s1
  clear h hG hr hA hdg s1 hlen
  go_enter Tryz.func37, Tryz.ntmps37
  go_wp2
  obtain ⟨B, hB⟩ : ∃ B, w.heap.size + 1 + 1 = B := ⟨_, rfl⟩
  obtain ⟨W, hW⟩ : ∃ W, W = (((w.alloc (.cells #[.slice oE n cE] 49)).alloc (.cells #[.slice none 0 0] 49)).alloc (zRO n)) := ⟨_, rfl⟩
  have s2 : ((w.alloc (.cells #[.slice oE n cE] 49)).alloc (.cells #[.slice none 0 0] 49)).heap.size = B := by rw [← hB, ← HS1.out]; show (Array.push _ _).size = _; rw [Array.size_push]
  have s3 : W.heap.size = B + 1 := by rw [hW]; show (Array.push _ _).size = _; rw [Array.size_push, s2]
  have hOW : Only (fun _ => False) w W := by rw [hW]; exact (((Only.refl _ _).alloc _).alloc _).alloc _
  have hr0 : RR W B (.slice (some ⟨B, 0, none⟩) n n) (List.replicate n nilV) (rvK G 0) := by
    show RR W B _ _ (List.replicate G.length [])
    rw [HLEN.out, hW]
    exact RR.made (Nat.le_refl _) (by rw [← s2]; exact new_block _ _) (by omega)
  have hbx : W.heap[w.heap.size]? = some (.cells #[.slice oE n cE] 49 (0, 0)) := by
    have h3 : Only (fun _ => False) (w.alloc (.cells #[.slice oE n cE] 49)) W := by rw [hW]; exact ((Only.refl _ _).alloc _).alloc _
    exact (h3.block w.heap.size (by rw [HS1.out]; omega) (fun hc => hc)).trans hk0
  have hby : W.heap[w.heap.size + 1]? = some (.cells #[.slice none 0 0] 49 (0, 0)) := by
    have h3 : Only (fun _ => False) ((w.alloc (.cells #[.slice oE n cE] 49)).alloc (.cells #[.slice none 0 0] 49)) W := by rw [hW]; exact (Only.refl _ _).alloc _
    have h4 := new_at (.cells #[.slice none 0 0] 49) HS1.out
    exact (h3.block _ (lt_of_block h4) (fun hc => hc)).trans h4
  have HBX : Hid (∀ x, Only (B ≤ ·) W x → x.heap[w.heap.size]? = some (.cells #[.slice oE n cE] 49 (0, 0)) ∧ x.heap[w.heap.size + 1]? = some (.cells #[.slice none 0 0] 49 (0, 0))) := Lib.hid (fun x hx => ⟨(hx.block _ (lt_of_block hbx) (fun hc => by have hc' : B ≤ w.heap.size := hc; omega)).trans hbx, (hx.block _ (lt_of_block hby) (fun hc => by have hc' : B ≤ w.heap.size + 1 := hc; omega)).trans hby⟩)
  have HOX : Hid (∀ x, Only (B ≤ ·) W x → Only (fun _ => False) w x) := Lib.hid (fun x hx => ⟨(hOW.lift.trans hx).os, (hOW.lift.trans hx).tape, (hOW.lift.trans hx).output, (hOW.lift.trans hx).size, fun i hi _ => (hOW.lift.trans hx).block i hi (fun hc => by have hc' : B ≤ i := hc; omega)⟩)
  have HGX : Hid (∀ x, Only (B ≤ ·) W x → Edg x oE n G) := Lib.hid (fun x hx => HH.out.old (HOX.out x hx) (fun _ _ hc => hc))
  have HS3 := Lib.hid s3
  have HBW := Lib.hid hB
  rw [hB, ← hW]
  clear q0 hk0 s2 s3 hOW hW hbx hby hB
  go_loopw [15] (fun q wr => ∃ (k : Nat) (vs : List Value), k ≤ n ∧ q = .int .i64 k ∧ RR wr B (.slice (some ⟨B, 0, none⟩) n n) vs (rvK G k) ∧ Only (B ≤ ·) W wr) (fun q _ => n - (intOf q).toNat)
  case atStart => exact ⟨0, _, by omega, rfl, hr0, Only.refl _ _⟩
  case round =>
    clear hr0
    obtain ⟨k, vs, hk, rfl, hR, hO⟩ := hrel
    obtain ⟨m0, m1⟩ := HBX.out wr hO
    have q0 := (blk_c (k := 0) m0 rfl).1
    obtain ⟨q1, z1⟩ := blk_c (k := 0) m1 rfl
    by_cases hkn : k < n
    · have hkG : k < G.length := by rw [HLEN.out]; exact hkn
      obtain ⟨b1, o1, ra, rn, rc, e1, c1w, hi1⟩ := HH.out.cell k hkG
      subst e1
      have c1 := (World.cell?_of_block ((HOX.out wr hO).block b1 (cell_lt c1w) (fun hc => hc))).trans c1w
      have h01 : (0 : Int) ≤ (k : Int) := Int.natCast_nonneg k
      have h02 : (k : Int) < (n : Int) := by omega
      have h03 : (k : Int).toNat = k := Int.toNat_natCast k
      have hrb := HRR.out k
      obtain ⟨r, hre⟩ : ∃ r, lAt G k = r := ⟨_, rfl⟩
      have hge : G[k] = r := by rw [← hre]; show _ = G.getD k []; rw [List.getD_eq_getElem?_getD, List.getElem?_eq_getElem hkG]; rfl
      rw [hge] at hi1
      rw [hre] at hrb
      have hrl := hi1.len
      have HVR : Hid (∀ j, j < r.length → gt r j < n) := Lib.hid (fun j hj => by
        have h3 := row_valid HGV.out (u := k) (v := gt r j) (by rw [hre, gt_at hj]; exact List.getElem_mem hj)
        have := HLEN.out
        omega)
      have HST : Hid (rvK G (k + 1) = rvJ (rvK G k) k r r.length) := Lib.hid (by rw [← hre]; rfl)
      have HDJ : Hid (∀ j x, j ≤ 1000 → (lAt (rvJ (rvK G k) k r j) x).length ≤ 1001000) := Lib.hid (fun j x hj => by
        have h3 := rvJ_deg (rvK G k) k r x j
        have h4 := HDG.out x k
        have h5 : k * 1000 ≤ 1000 * 1000 := Nat.mul_le_mul_right _ (by omega)
        omega)
      have HLJ : Hid (∀ j, (rvJ (rvK G k) k r j).length = n) := Lib.hid (fun j => by rw [rvJ_len, rvK_len]; exact HLEN.out)
      have HI1 : Hid (∀ x, Only (B ≤ ·) W x → Ints x ra rn r) := Lib.hid (fun x hx => hi1.old (HOX.out x hx) (fun _ _ hc => hc))
      have HO := Lib.hid hO
      clear hO hi1 m0 m1 hre hge c1w
      go_wp2
      go_loopw [22] (fun q wx => ∃ (j : Nat) (vs : List Value), j ≤ rn ∧ q = .int .i64 j ∧ RR wx B (.slice (some ⟨B, 0, none⟩) n n) vs (rvJ (rvK G k) k r j) ∧ Only (B ≤ ·) W wx) (fun q _ => rn - (intOf q).toNat)
      case atStart => exact ⟨0, vs, by omega, rfl, hR, HO.out⟩
      case round =>
        clear hR
        obtain ⟨j, vs, hj, rfl, hR, hO⟩ := hrel
        by_cases hjr : j < rn
        · have hjl : j < r.length := by omega
          obtain ⟨b2, o2, e2, c2⟩ := (HI1.out wr hO).cell j hjl
          subst e2
          have hpn := HVR.out j hjl
          have hlj := HLJ.out j
          have hdj := fun x => HDJ.out j x (by omega)
          obtain ⟨p, hp⟩ : ∃ p, gt r j = p := ⟨_, rfl⟩
          obtain ⟨L, hL⟩ : ∃ L, rvJ (rvK G k) k r j = L := ⟨_, rfl⟩
          have hst : rvJ (rvK G k) k r (j + 1) = L.set p (lAt L p ++ [k]) := by rw [← hL, ← hp]; rfl
          rw [hp] at c2 hpn
          rw [hL] at hR hlj hdj
          have HSJ := Lib.hid hst
          have hpL : p < L.length := by omega
          obtain ⟨g0, ca, hcv, hB0, hle, hc0, hz0⟩ := hR.at (i := p) hpL
          rw [hlj] at hcv hle
          cases hcv
          obtain ⟨oa, oc, hrv⟩ := rowForm (hR.row p hpL)
          obtain ⟨q, hq⟩ : ∃ q, (lAt L p).length = q := ⟨_, rfl⟩
          have hqx : q ≤ 1001000 := by rw [← hq]; exact hdj p
          rw [hq] at hrv
          rw [hrv] at hc0
          have h11 : (0 : Int) ≤ (j : Int) := Int.natCast_nonneg j
          have h12 : (j : Int) < (rn : Int) := by omega
          have h13 : (j : Int).toNat = j := Int.toNat_natCast j
          have h04 : (0 : Int) ≤ (p : Int) := Int.natCast_nonneg p
          have h05 : (p : Int) < (n : Int) := by omega
          have h06 : (p : Int).toNat = p := Int.toNat_natCast p
          have hrow := hR.row p hpL
          rw [hrv] at hrow
          have HROW : wr.ownsRow B 3 1 (.slice oa q oc) q ((lAt L p).map iV) := by
            have h := hrow
            unfold IR at h
            rw [hq] at h
            exact h
          have HM1 := Lib.hid (hR.only (K := fun _ => False) (((Only.refl (fun _ => False) wr).alloc (.cells #[iV k] 3))) (fun _ _ _ hc => hc))
          have HMA := Lib.hid (hR.only (K := fun _ => False) (((Only.refl (fun _ => False) wr).alloc (.cells #[iV k] 3)).drew) (fun _ _ _ hc => hc))
          have hc1 : (wr.alloc (.cells #[iV k] 3)).cell? ⟨B, p, none⟩ = some (.slice oa q oc) := by
            obtain ⟨g1, ca1, hcv1, -, -, hc1, -⟩ := HM1.out.at (i := p) hpL
            rw [hlj] at hcv1
            cases hcv1
            rw [hrv] at hc1
            exact hc1
          have HRV := Lib.hid hrv
          have HQ := Lib.hid hq
          have HLN := Lib.hid hlj
          have HOJ := Lib.hid hO
          have HSW : Hid (B + 1 ≤ wr.heap.size) := Lib.hid (by have h3 := hO.size; have h4 := HS3.out; omega)
          clear hrow hrv hq hR hO hst hp hL hle hB0 hdj
          go_wp2_with (at_builtin; (refine wpList_append_lies _ rfl _ _ 55 rfl B 3 i0' (.int .i64 0) 1 8 Tryz.underlying55 hi0 hz0' hz1 hz2 rfl (by decide) (.slice oa q oc) q ((lAt L p).map iV) rfl (World.ownsRow.alloc HROW _) ⟨wr.heap.size, 0, none⟩ 1 1 [iV k] rfl rfl (World.news_of_block (new_block wr _)) (one_int k) Nat.one_pos (by unfold maxLen; omega) (by omega) (by show B ≤ (Array.push _ _).size; rw [Array.size_push]; have := HSW.out; omega) _ rfl ?_); intro g2 cg w12 hown8 hgrow8 hat8 hlt8; have hag := HM1.out.at_grown (p := p) hpL HRV.out hgrow8; have p8 := hag.1; have z8 := hag.2; clear hag)
          have hIR : IR w12 B (.slice (some ⟨g2, 0, none⟩) (q + 1) cg) (lAt L p ++ [k]) := IR.snoc (by rw [HQ.out]; exact hown8)
          have hO8 := (HOJ.out.alloc (.cells #[iV k] 3)).trans (Only.grown (K := (B ≤ ·)) hgrow8 (fun g hg => (World.ownsRow.lt HROW g hg).1))
          have hma := HM1.out
          rw [show (Value.slice (some ⟨B, 0, none⟩) n n) = .slice (some ⟨B, 0, none⟩) L.length n by rw [HLN.out]] at hma
          rw [← HRV.out] at hgrow8
          have hra := hma.app (p := p) hpL hgrow8 hIR (fun g' hg' => by
            have hgg : g2 = g' := Option.some.inj hg'
            rcases hat8 with e | e
            · exact .inl (by rw [HRV.out]; exact hgg ▸ e)
            · right
              have e3 : g2 = (Array.push _ _).size := e
              exact Nat.le_of_eq (e3.symm.trans hgg))
          rw [HLN.out, ← HSJ.out] at hra
          refine ⟨⟨j + 1, _, by omega, by go_num, hra, Only.setCell (K := (B ≤ ·)) hO8 (Nat.le_refl B) _⟩, ?_⟩
          show rn - ((j : Int) + 1).toNat < rn - (j : Int).toNat
          omega
        · have hjn : j = rn := by omega
          have h12 : ¬ (j : Int) < (rn : Int) := by omega
          have HR := Lib.hid hR
          have HOJ := Lib.hid hO
          have HSE : Hid (rvJ (rvK G k) k r j = rvK G (k + 1)) := Lib.hid (by rw [HST.out, hrl, hjn])
          clear hR hO
          go_wp2
          refine ⟨⟨k + 1, _, by omega, by go_num, by rw [← HSE.out]; exact HR.out, HOJ.out⟩, ?_⟩
          show n - ((k : Int) + 1).toNat < n - (k : Int).toNat
          omega
    · have hke : k = n := by omega
      have h02 : ¬ (k : Int) < (n : Int) := by omega
      have HR := Lib.hid hR
      have HO := Lib.hid hO
      have HM1 := Lib.hid m1
      clear hR hO
      go_wp2
      have hset : Only (B ≤ ·) W wr := HO.out
      have hs1 : Only (· = w.heap.size + 1) wr (wr.setCell ⟨w.heap.size + 1, 0, none⟩ (.slice (some ⟨B, 0, none⟩) n n)) := Only.setCell (K := (· = w.heap.size + 1)) (Only.refl _ _) rfl _
      have hend := HR.out.only hs1 (fun g hg _ e => by have e' : g = w.heap.size + 1 := e; have := HBW.out; omega)
      have hb1 : (wr.setCell ⟨w.heap.size + 1, 0, none⟩ (.slice (some ⟨B, 0, none⟩) n n)).cell? ⟨w.heap.size + 1, 0, none⟩ = some (.slice (some ⟨B, 0, none⟩) n n) := by
        have h1 := HM1.out
        refine (blk_c (k := 0) (t := 49) (cs := #[.slice (some ⟨B, 0, none⟩) n n]) ?_ rfl).1
        simp [World.setCell, Array.getElem?_modify, h1]
      have hev := hend.edgB.mono (B' := w.heap.size) (by have := HBW.out; omega)
      have h6 := (HOX.out wr hset)
      refine bodyPost_ret (v := .agg #[.slice (some ⟨B, 0, none⟩) n n]) (by simp [results, Tryz.results37, go_sem, hb1]) rfl ?_
      refine ⟨_, ⟨_, rfl⟩, ?_, ?_⟩
      · rw [hke] at hev
        rw [← HLEN.out] at hev
        unfold rvG
        rw [HLEN.out] at hev ⊢
        exact hev
      · have h7 := hs1.size
        exact ⟨h6.os, h6.tape, h6.output, Nat.le_trans h6.size h7, fun i hi _ => (hs1.block i (by have := h6.size; omega) (fun e => by have e' : i = w.heap.size + 1 := e; omega)).trans (h6.block i hi (fun hc => hc))⟩
theorem mem_rvJ {L : List (List Nat)} {u : Nat} {r : List Nat} (hr : ∀ i, i < r.length → gt r i < L.length) {x y : Nat} : ∀ j, j ≤ r.length → (y ∈ lAt (rvJ L u r j) x ↔ y ∈ lAt L x ∨ (y = u ∧ ∃ i, i < j ∧ gt r i = x))
  | 0, _ => ⟨fun h => .inl h, fun h => h.elim id (fun ⟨_, i, hi, _⟩ => absurd hi (Nat.not_lt_zero _))⟩
  | j + 1, hj => by
    have ih := mem_rvJ (u := u) hr (x := x) (y := y) j (by omega)
    have hp : gt r j < (rvJ L u r j).length := by rw [rvJ_len]; exact hr j (by omega)
    show y ∈ lAt ((rvJ L u r j).set (gt r j) (lAt (rvJ L u r j) (gt r j) ++ [u])) x ↔ _
    rw [lAt_set hp]
    constructor
    · intro h
      split at h
      · rename_i e
        rcases List.mem_append.1 h with h1 | h1
        · rw [← e] at h1
          rcases ih.1 h1 with h2 | ⟨h2, i, hi, h3⟩
          · exact .inl h2
          · exact .inr ⟨h2, i, by omega, h3⟩
        · exact .inr ⟨List.mem_singleton.1 h1, j, by omega, e.symm⟩
      · rcases ih.1 h with h2 | ⟨h2, i, hi, h3⟩
        · exact .inl h2
        · exact .inr ⟨h2, i, by omega, h3⟩
    · intro h
      split
      · rename_i e
        rw [← e]
        rcases h with h1 | ⟨h1, i, hi, h2⟩
        · exact List.mem_append_left _ (ih.2 (.inl h1))
        · subst h1
          exact List.mem_append_right _ (List.mem_singleton.2 rfl)
      · rename_i e
        rcases h with h1 | ⟨h1, i, hi, h2⟩
        · exact ih.2 (.inl h1)
        · refine ih.2 (.inr ⟨h1, i, ?_, h2⟩)
          rcases Nat.lt_or_ge i j with h3 | h3
          · exact h3
          · exfalso
            have : i = j := by omega
            subst this
            exact e h2.symm
theorem mem_rvK {G : List (List Nat)} (hG : ValidG G) {x y : Nat} : ∀ k, k ≤ G.length → (y ∈ lAt (rvK G k) x ↔ y < k ∧ x ∈ lAt G y)
  | 0, _ => by
    show y ∈ lAt (List.replicate _ []) x ↔ _
    rw [show lAt (List.replicate G.length ([] : List Nat)) x = [] by
      show (List.replicate _ _).getD x [] = []
      rw [List.getD_eq_getElem?_getD, List.getElem?_replicate]
      split <;> rfl]
    exact ⟨fun h => absurd h (List.not_mem_nil), fun h => absurd h.1 (Nat.not_lt_zero _)⟩
  | k + 1, hk => by
    have ih := mem_rvK hG (x := x) (y := y) k (by omega)
    have hr : ∀ i, i < (lAt G k).length → gt (lAt G k) i < (rvK G k).length := fun i hi => by
      rw [rvK_len]
      exact row_valid hG (u := k) (by rw [gt_at hi]; exact List.getElem_mem hi)
    show y ∈ lAt (rvJ (rvK G k) k (lAt G k) (lAt G k).length) x ↔ _
    rw [mem_rvJ hr _ (Nat.le_refl _), ih]
    constructor
    · rintro (⟨h1, h2⟩ | ⟨h1, i, hi, h2⟩)
      · exact ⟨by omega, h2⟩
      · subst h1
        exact ⟨by omega, by rw [← h2, gt_at hi]; exact List.getElem_mem hi⟩
    · rintro ⟨h1, h2⟩
      rcases Nat.lt_or_ge y k with h3 | h3
      · exact .inl ⟨h3, h2⟩
      · have e : y = k := by omega
        subst e
        obtain ⟨i, hi, h4⟩ := List.getElem_of_mem h2
        exact .inr ⟨rfl, i, hi, by rw [gt_at hi]; exact h4⟩
/-- The edges turned around are the edges turned around. -/
theorem mem_rvG {G : List (List Nat)} (hG : ValidG G) {x y : Nat} : y ∈ lAt (rvG G) x ↔ x ∈ lAt G y := by
  unfold rvG
  rw [mem_rvK hG _ (Nat.le_refl _)]
  refine ⟨fun h => h.2, fun h => ⟨?_, h⟩⟩
  rcases Nat.lt_or_ge y G.length with h1 | h1
  · exact h1
  · rw [lAt_out h1] at h
    cases h
theorem rvG_len (G : List (List Nat)) : (rvG G).length = G.length := rvK_len G _
theorem rvG_valid {G : List (List Nat)} (hG : ValidG G) : ValidG (rvG G) := fun u k v h => by
  have h1 := (mem_rvG hG).1 (nx_mem.1 ⟨k, h⟩)
  rw [rvG_len]
  rcases Nat.lt_or_ge v G.length with h2 | h2
  · exact h2
  · rw [lAt_out h2] at h1
    cases h1
end Go.Proofs.YtigmdiagdlbdpaaGreat
