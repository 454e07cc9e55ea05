/-
  WALKS. Rows of imports and of modules of the call's own; the laws' module.
-/
import Derived.Test.YtigmdiagdlbdpaaGreatMha
namespace Go.Proofs.YtigmdiagdlbdpaaGreat
open Go.RowKit Go.Maps
theorem flatM_get {α : Type} (m : Nat) (f : α → List Value) (hf : ∀ a, (f a).length = m) (ts : List α) : ∀ (k j : Nat) (hk : k < ts.length) (_ : j < m), (ts.flatMap f)[k * m + j]? = (f ts[k])[j]? := by
  induction ts with
  | nil => intro k j hk; simp at hk
  | cons t ts ih =>
    intro k j hk hj
    rw [List.flatMap_cons]
    cases k with
    | zero => rw [List.getElem?_append_left (by rw [hf]; omega)]; simp
    | succ k =>
      rw [List.getElem?_append_right (by rw [hf, Nat.add_mul]; omega)]
      have e : (k + 1) * m + j - (f t).length = k * m + j := by rw [hf, Nat.add_mul]; omega
      rw [e, ih k j (by simp at hk; omega) hj]
      rfl
abbrev nilS : Value := .slice none 0 0
def imC (s : Nm) : List Value := [encStr s, .bool false, .string ⟨#[]⟩, .bool false, .bool false, .slice none 0 0]
theorem imC_len (s : Nm) : (imC s).length = 6 := rfl
theorem infoIm : (Tryz.prog.info? 69).map (fun i => (i.zero, i.size, i.bytes)) = some (some (.agg #[.string ⟨#[]⟩, .bool false, .string ⟨#[]⟩, .bool false, .bool false, .slice none 0 0]), 6, 72) := by kernel_rfl
theorem infoMd : (Tryz.prog.info? 42).map (fun i => (i.zero, i.size, i.bytes)) = some (some (.agg #[.string ⟨#[]⟩, .bool false, .slice none 0 0, .slice none 0 0, .slice none 0 0]), 5, 96) := by kernel_rfl
theorem one_im (s : Nm) : ∀ u ∈ imC s, u.oneCell' = true := by
  intro u hu
  simp [imC] at hu
  rcases hu with rfl | rfl | rfl | rfl | rfl <;> rfl
/-- A row of imports of the call's own. -/
def IcR (w : World) (B : Nat) (v : Value) (im : List Nm) : Prop := w.ownsRow B 69 6 v im.length (im.flatMap imC)
theorem IcR.imz {w : World} {B n ca : Nat} {oa : Option Addr} {im : List Nm} (h : IcR w B (.slice oa n ca) im) : Imz w oa n im := by
  obtain ⟨oa', ca', hv⟩ := rowForm h
  cases hv
  refine ⟨rfl, fun k hk => ?_⟩
  rcases h.2 with ⟨hv, hn⟩ | ⟨g, cap, cur, hv, hb, hg, hle, hr⟩
  · omega
  · cases hv
    have hc := World.ownsRow.cells h (g := g) rfl
    have key : ∀ j v, j < 6 → (imC im[k])[j]? = some v → w.cell? ⟨g, 0 + k * 6 + j, none⟩ = some v := by
      intro j v hj hv
      have := hc (k * 6 + j) v (by rw [flatM_get 6 imC imC_len im k j hk hj]; exact hv)
      rw [add_plain] at this
      rw [Nat.add_assoc]
      exact this
    refine ⟨g, 0, rfl, false, false, false, ⟨#[]⟩, none, 0, 0, ?_, key 1 _ (by decide) rfl, key 2 _ (by decide) rfl, key 3 _ (by decide) rfl, key 4 _ (by decide) rfl, key 5 _ (by decide) rfl⟩
    rw [nAt_get hk]
    exact key 0 _ (by decide) rfl
theorem IcR.only {w w' : World} {B : Nat} {v : Value} {l : List Nm} {K : Nat → Prop} (h : IcR w B v l) (ho : Only K w w') (hk : ∀ g, v.ownBlock = some g → ¬ K g) : IcR w' B v l := rowKeep h (fun g hg => ho.block g (World.ownsRow.lt h g hg).2 (hk g hg))
theorem IcR.snoc {w : World} {B : Nat} {v : Value} {l : List Nm} {s : Nm} (h : w.ownsRow B 69 6 v (l.length + 1) (l.flatMap imC ++ imC s)) : IcR w B v (l ++ [s]) := by
  unfold IcR
  rw [List.length_append, List.flatMap_append]
  simpa using h
theorem take_nAt {l : List Nm} {k : Nat} (hk : k < l.length) : l.take (k + 1) = l.take k ++ [nAt l k] := by
  rw [List.take_succ_eq_append_getElem hk, nAt_get hk]
theorem modRes (W : World) (T : Array Value) (B1 : Nat) (f0 f1 f2 f3 f4 : Value) (h1 : T[4]? = some (.pointer (some ⟨B1, 0, none⟩))) (hb1 : W.heap[B1]? = some (.cells #[f0, f1, f2, f3, f4] 42 (0, 0))) : (results Tryz.f23 T).run Tryz.prog W = .ok (.agg #[f0, f1, f2, f3, f4]) W := by
  have c0 : W.cell? ⟨B1, 0, none⟩ = some f0 := (blk_c (k := 0) hb1 rfl).1
  have c1 : W.cell? ⟨B1, 1, none⟩ = some f1 := (blk_c (k := 1) hb1 rfl).1
  have c2 : W.cell? ⟨B1, 2, none⟩ = some f2 := (blk_c (k := 2) hb1 rfl).1
  have c3 : W.cell? ⟨B1, 3, none⟩ = some f3 := (blk_c (k := 3) hb1 rfl).1
  have c4 : W.cell? ⟨B1, 4, none⟩ = some f4 := (blk_c (k := 4) hb1 rfl).1
  simp [results, Tryz.results23, go_sem, h1, c0, c1, c2, c3, c4]
abbrev zMd : Array Value := #[.string ⟨#[]⟩, .bool false, .slice none 0 0, .slice none 0 0, .slice none 0 0]
abbrev bMd (nm : Nm) (v : Value) : Array Value := #[encStr nm, .bool false, .slice none 0 0, v, .slice none 0 0]
set_option maxRecDepth 100000 in
set_option maxHeartbeats 4000000 in
theorem module_p (w : World) (nm : Nm) (oN : Option Addr) (n cN : Nat) (im : List Nm) (h : Strz w oN n im) (hn : n ≤ 1000000) : Calls Tryz.prog 23 #[encStr nm, .slice oN n cN] w fun e w' => ∃ oi ci, e = .returned (.agg (bMd nm (.slice oi n ci))) ∧ Imz w' oi n im ∧ Only (fun _ => False) w w' := by
  have hl := h.len
  have HL := Lib.hid h
  obtain ⟨i0', hi, hz0, hz1, hz2⟩ := info_parts infoIm
  obtain ⟨B0, hB0⟩ : ∃ B, w.heap.size = B := ⟨_, rfl⟩
  have s1 : (w.alloc (.cells zMd 42)).heap.size = B0 + 1 := by rw [← hB0]; show (Array.push _ _).size = _; rw [Array.size_push]
  have s2 : ((w.alloc (.cells zMd 42)).alloc (.cells (bMd nm nilS) 42)).heap.size = B0 + 2 := by show (Array.push _ _).size = _; rw [Array.size_push, s1]
  have k1 : ((w.alloc (.cells zMd 42)).alloc (.cells (bMd nm nilS) 42)).heap[B0 + 1]? = some (.cells (bMd nm nilS) 42 (0, 0)) := by rw [← s1]; exact new_block _ _
  have k0 : ((w.alloc (.cells zMd 42)).alloc (.cells (bMd nm nilS) 42)).heap[B0]? = some (.cells zMd 42 (0, 0)) := by
    rw [← hB0]
    exact (((Only.refl (fun _ => False) (w.alloc (.cells zMd 42))).alloc _).block w.heap.size (by rw [s1]; omega) (fun hc => hc)).trans (new_block w _)
  have hO : Only (fun _ => False) w ((w.alloc (.cells zMd 42)).alloc (.cells (bMd nm nilS) 42)) := ((Only.refl _ _).alloc _).alloc _
  obtain ⟨W, hW⟩ : ∃ W, (w.alloc (.cells zMd 42)).alloc (.cells (bMd nm nilS) 42) = W := ⟨_, rfl⟩
  rw [hW] at s2 k1 k0 hO
  have HK0 := Lib.hid k0
  have HK1 := Lib.hid k1
  have HOW := Lib.hid hO
  have HS2 := Lib.hid s2
  have HB0 := Lib.hid hB0
  have HWE := Lib.hid hW
  clear h k0 k1 hO s1 s2 hW hB0
  go_enter Tryz.func23, Tryz.ntmps23
  go_wp2
  have hW' : (w.alloc (.cells #[.string ⟨#[]⟩, .bool false, .slice none 0 0, .slice none 0 0, .slice none 0 0] 42)).alloc (.cells #[encStr nm, .bool false, .slice none 0 0, .slice none 0 0, .slice none 0 0] 42) = W := HWE.out
  have hB0' := HB0.out
  rw [hW', hB0']
  clear HWE hW' hB0'
  go_loopw [6] (fun q wr => ∃ (k : Nat) (v : Value), k ≤ n ∧ q = .int .i64 k ∧ wr.heap[B0 + 1]? = some (.cells (bMd nm v) 42 (0, 0)) ∧ IcR wr (B0 + 2) v (im.take k) ∧ Only (fun i => i = B0 + 1 ∨ B0 + 2 ≤ i) W wr) (fun q _ => n - (intOf q).toNat)
  case atStart => exact ⟨0, nilS, by omega, rfl, HK1.out, World.ownsRow_nil _ _ _ _, Only.refl _ _⟩
  case round =>
    obtain ⟨k, v, hk, rfl, hb, hR, hO⟩ := hrel
    obtain ⟨oR, cR, hv⟩ := rowForm hR
    subst hv
    have hql : (im.take k).length = k := by rw [List.length_take]; omega
    have HR := Lib.hid hR
    have HQ := Lib.hid hql
    have HO := Lib.hid hO
    have HB := Lib.hid hb
    rw [hql] at hb
    have HSW : Hid (B0 + 2 ≤ wr.heap.size) := Lib.hid (by have h3 := HS2.out; have h4 := hO.size; omega)
    have HFR : Hid (Only (fun _ => False) w wr) := Lib.hid (by
      have h3 := HOW.out.lift (K := (B0 ≤ ·)) |>.trans (hO.wide (K' := (B0 ≤ ·)) (fun i hi => by show B0 ≤ i; rcases hi with hi | hi <;> omega))
      exact ⟨h3.os, h3.tape, h3.output, h3.size, fun i hi _ => h3.block i hi (fun hc => by have hc' : B0 ≤ i := hc; have := HB0.out; omega)⟩)
    obtain ⟨p0, z0⟩ := blk_c (k := 3) hb rfl
    by_cases hlt : k < n
    · have hkl : k < im.length := by omega
      obtain ⟨b1, o1, e1, c1⟩ := (HL.out.old HFR.out (fun _ _ hc => hc)).cell k hkl
      subst e1
      have htk := take_nAt hkl
      obtain ⟨y, hy⟩ : ∃ y, nAt im k = y := ⟨_, rfl⟩
      rw [hy] at c1 htk
      have HT := Lib.hid htk
      have h01 : (0 : Int) ≤ (k : Int) := Int.natCast_nonneg k
      have h02 : (k : Int) < (n : Int) := by omega
      have h03 : (k : Int).toNat = k := Int.toNat_natCast k
      have HOWN : wr.ownsRow (B0 + 2) 69 6 (.slice oR k cR) k ((im.take k).flatMap imC) := by
        have h8 := HR.out
        unfold IcR at h8
        rw [hql] at h8
        exact h8
      have pa : (wr.alloc (.cells #[encStr y, .bool false, .string ⟨#[]⟩, .bool false, .bool false, .slice none 0 0] 69)).cell? ⟨B0 + 1, 3, none⟩ = some (.slice oR k cR) := (blk_c (k := 3) ((((Only.refl (fun _ => False) wr).alloc _).block (B0 + 1) (lt_of_block hb) (fun hc => hc)).trans hb) rfl).1
      clear hR hO htk hy hb hql
      go_wp2
      go_region_law ((refine step_append_lies _ rfl (.tmp 16) (.tmp 22) 39 rfl (B0 + 2) 69 i0' (.agg #[.string ⟨#[]⟩, .bool false, .string ⟨#[]⟩, .bool false, .bool false, .slice none 0 0]) 6 72 Tryz.underlying39 hi hz0 hz1 hz2 rfl (by decide) (.slice oR k cR) k ((im.take k).flatMap imC) ?e1 (World.ownsRow.alloc HOWN _) ⟨wr.heap.size, 0, none⟩ 1 1 (imC y) ?e2 rfl (World.news_of_block (new_block wr _)) (one_im y) Nat.one_pos (by unfold maxLen; omega) (by omega) (by show B0 + 2 ≤ (Array.push _ _).size; rw [Array.size_push]; have := HSW.out; omega) _ rfl ?_); (case e1 => simp [Act.eval]); (case e2 => simp [Act.eval]); (intro g2 cg w12 hown8 hgrow8 hat8 hlt8; have hb8 := (hgrow8.block (B0 + 1) (by show _ < (Array.push _ _).size; rw [Array.size_push]; have := HSW.out; omega) (fun e => by have := (World.ownsRow.lt HOWN _ e.symm).1; omega)).trans ((((Only.refl (fun _ => False) wr).alloc _).block (B0 + 1) (by have := HSW.out; omega) (fun hc => hc)).trans HB.out); obtain ⟨p8, z8⟩ := blk_c (k := 3) hb8 rfl; have HB8 := Lib.hid hb8; have HOWN8 := Lib.hid hown8; have HG8 := Lib.hid hgrow8; clear hb8 hown8 hgrow8 hat8 hlt8))
      all_goals
        have HR8 := Lib.hid (IcR.snoc (l := im.take k) (s := y) (by rw [HQ.out]; exact HOWN8.out))
        have HO8 : Hid (Only (fun i => i = B0 + 1 ∨ B0 + 2 ≤ i) W w12) := Lib.hid (by
          have h7 := Only.grown (K := fun i => i = B0 + 1 ∨ B0 + 2 ≤ i) HG8.out (fun g hg => .inr (World.ownsRow.lt HOWN g hg).1)
          first
            | exact (HO.out.alloc _).trans h7
            | exact ((HO.out.alloc _).drew).trans h7
            | exact (HO.out.drew.alloc _).trans h7)
        clear HOWN8 HG8
        go_wp2
        go_roundw
        case rel =>
          refine ⟨k + 1, .slice (some ⟨g2, 0, none⟩) (k + 1) cg, by omega, by go_num, ?_, ?_, ?_⟩
          · have h1 := HB8.out
            simp [World.setCell, Array.getElem?_modify, h1]
          · rw [HT.out]
            refine HR8.out.only (K := (· = B0 + 1)) (Only.setCell (K := (· = B0 + 1)) (Only.refl _ w12) rfl _) (fun g hg e => ?_)
            have h3 := (World.ownsRow.lt HR8.out g hg).1
            have e' : g = B0 + 1 := e
            omega
          · exact Only.setCell HO8.out (.inl rfl) _
        case measure => simp [intOf]; omega
    · have hkn : k = n := by omega
      subst hkn
      have HT : Hid (im.take k = im) := Lib.hid (by rw [← hl]; exact List.take_length)
      have HB' : Hid (wr.heap[B0]? = some (.cells zMd 42 (0, 0))) := Lib.hid ((hO.block B0 (lt_of_block HK0.out) (fun hc => by rcases hc with hc | hc <;> omega)).trans HK0.out)
      have hb0 := HB'.out
      obtain ⟨x0, y0⟩ := blk_c (k := 0) hb0 rfl
      obtain ⟨x1, y1⟩ := blk_c (k := 1) hb0 rfl
      obtain ⟨x2, y2⟩ := blk_c (k := 2) hb0 rfl
      obtain ⟨x3, y3⟩ := blk_c (k := 3) hb0 rfl
      obtain ⟨x4, y4⟩ := blk_c (k := 4) hb0 rfl
      have m0 := (blk_c (k := 0) hb rfl).1
      have m1 := (blk_c (k := 1) hb rfl).1
      have m2 := (blk_c (k := 2) hb rfl).1
      have m3 := (blk_c (k := 3) hb rfl).1
      have m4 := (blk_c (k := 4) hb rfl).1
      have d1 : ¬ B0 + 1 = B0 := by omega
      have d2 : ¬ B0 = B0 + 1 := by omega
      clear hb0 hR hO hb p0 z0
      go_wp2
      refine bodyPost_ret (v := .agg (bMd nm (.slice oR k cR))) (modRes _ _ B0 _ _ _ _ _ rfl ?_) rfl ?_
      · have h1 := HB'.out
        simp [World.setCell, Array.getElem?_modify, h1]
      · have hs : Only (· = B0) wr (((((wr.setCell ⟨B0, 0, none⟩ (encStr nm)).setCell ⟨B0, 1, none⟩ (.bool false)).setCell ⟨B0, 2, none⟩ (.slice none 0 0)).setCell ⟨B0, 3, none⟩ (.slice oR k cR)).setCell ⟨B0, 4, none⟩ (.slice none 0 0)) :=
          Only.setCell (K := (· = B0)) (Only.setCell (K := (· = B0)) (Only.setCell (K := (· = B0)) (Only.setCell (K := (· = B0)) (Only.setCell (K := (· = B0)) (Only.refl _ _) rfl _) rfl _) rfl _) rfl _) rfl _
        have h2 := HR.out
        rw [HT.out] at h2
        refine ⟨oR, cR, rfl, ?_, ?_⟩
        · have h3 := (h2.only hs (fun g hg e => by
            have h4 := (World.ownsRow.lt h2 g hg).1
            have e' : g = B0 := e
            omega)).imz
          rwa [hl] at h3
        · have h5 := (HFR.out.lift (K := (B0 ≤ ·))).trans (hs.wide (K' := (B0 ≤ ·)) (fun i hi => by have hi' : i = B0 := hi; show B0 ≤ i; omega))
          exact ⟨h5.os, h5.tape, h5.output, h5.size, fun i hi _ => h5.block i hi (fun hc => by have hc' : B0 ≤ i := hc; have := HB0.out; omega)⟩
end Go.Proofs.YtigmdiagdlbdpaaGreat
