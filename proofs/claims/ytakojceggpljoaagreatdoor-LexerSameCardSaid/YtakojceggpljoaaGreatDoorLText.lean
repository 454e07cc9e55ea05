/-
  WALKS. The scanner's string literals.
-/
import Derived.Test.YtakojceggpljoaaGreatDoorLTok
import Derived.Maps.AppendAt
import Derived.OwnWalk
import Derived.Laws.BytesString
import Derived.Laws.Cells
import Derived.Deep.DeepMust
namespace Go.Proofs.YtakojceggpljoaaGreatDoor
open Go.RowKit Go.Maps
theorem infoU8 : (Tryz.prog.info? 5).map (fun i => (i.zero, i.size, i.bytes)) = some (some (.int .u8 0), 1, 1) := by kernel_rfl
theorem one_u8 (c : Int) : ∀ u ∈ [Value.int .u8 c], u.oneCell' = true := by
  intro u hu; simp at hu; subst hu; rfl
theorem rowKeep {w w' : World} {B n size : Nat} {e : TypeId} {v : Value} {xs : List Value} (h : w.ownsRow B e size v n xs) (hb : ∀ g, v.ownBlock = some g → w'.heap[g]? = w.heap[g]?) : w'.ownsRow B e size v n xs := by
  obtain ⟨h1, h2⟩ := h
  refine ⟨h1, ?_⟩
  rcases h2 with hn | ⟨g, cap, cur, hv, hB, hg, hr⟩
  · exact .inl hn
  · refine .inr ⟨g, cap, cur, hv, hB, ?_, hr⟩
    rw [hb g (by rw [hv]; rfl)]; exact hg
theorem rowForm {w : World} {B n size : Nat} {e : TypeId} {v : Value} {xs : List Value} (h : w.ownsRow B e size v n xs) : ∃ oa ca, v = .slice oa n ca := by
  rcases h.2 with ⟨hv, hn⟩ | ⟨g, cap, cur, hv, -⟩
  · exact ⟨none, 0, by rw [hn]; exact hv⟩
  · exact ⟨some ⟨g, 0, none⟩, cap, hv⟩
/-- Bytes in a row of the call's own. -/
def BR (w : World) (B : Nat) (v : Value) (l : List UInt8) : Prop := w.ownsRow B 5 1 v l.length (l.map fun c => Value.int .u8 (c.toNat : Int))
theorem BR.only {w w' : World} {B : Nat} {v : Value} {l : List UInt8} {K : Nat → Prop} (h : BR w B v l) (ho : Only K w w') (hk : ∀ i, K i → i < B) : BR w' B v l :=
  rowKeep h (fun g hg => ho.block g ((World.ownsRow.lt h g hg).2) (fun hc => by have := (World.ownsRow.lt h g hg).1; have := hk g hc; omega))
theorem pushes (ns : List UInt8) : ∀ (r : ByteArray), (ns.map fun c => (c.toNat : Int)).foldl (fun r n => r.push (UInt8.ofNat n.toNat)) r = ⟨r.data ++ ns.toArray⟩ := by
  induction ns with
  | nil => intro r; simp
  | cons c ns ih =>
    intro r
    rw [List.map_cons, List.foldl_cons, ih]
    congr 1
    simp [ByteArray.push]
theorem conv_bytes {w : World} {B : Nat} {v : Value} {l : List UInt8} (h : BR w B v l) : (convert 31 9 v).run Tryz.prog w = .ok (.string ⟨l.toArray⟩) w := by
  have hb := @World.ownsRow.cells _ _ _ _ _ _ _ h
  rcases h.2 with ⟨hv, hn⟩ | ⟨g, cap, cur, hv, -⟩
  · have hl : l = [] := List.length_eq_zero_iff.1 hn
    subst hl; subst hv
    rw [run_convert_bytes_string w _ _ _ _ _ _ Tryz.underlying31 Tryz.underlying5 Tryz.underlying9]
    rfl
  · subst hv
    rw [run_convert_bytes_string w _ _ _ _ _ _ Tryz.underlying31 Tryz.underlying5 Tryz.underlying9]
    have hc := hb (g := g) rfl
    have hl := run_loadCells_list (P := Tryz.prog) (w := w) ⟨g, 0, none⟩ (l.map fun c => Value.int .u8 (c.toNat : Int)) hc
    rw [List.length_map] at hl
    rw [run_bytesToString w ⟨g, 0, none⟩ l.length cap (l.map fun c => (c.toNat : Int)) (by rw [List.map_map]; exact hl), pushes]
    simp [ByteArray.empty, ByteArray.emptyWithCapacity]
    rfl
theorem BR.snoc {w : World} {B : Nat} {v : Value} {l : List UInt8} {c : Int} (h0 : 0 ≤ c) (h1 : c ≤ 255) (h : w.ownsRow B 5 1 v (l.length + 1) ((l.map fun c => Value.int .u8 (c.toNat : Int)) ++ [Value.int .u8 c])) : BR w B v (l ++ [c.toNat.toUInt8]) := by
  unfold BR
  rw [List.length_append, List.map_append, List.map_cons, List.map_nil]
  have e : ((c.toNat.toUInt8.toNat : Nat) : Int) = c := by
    have : c.toNat.toUInt8.toNat = c.toNat % 256 := by simp [Nat.toUInt8]
    omega
  rw [e]; exact h
section
variable {w : World} {b : Nat} {s : ByteArray} {i0 i : Nat} {tk : Value} {F : Flt}
theorem Scn.grown {w' : World} {B H : At} {row : Option Nat} (h : Scn w b s B H tk F) (hg : w.grownBy w' row) (hne : row ≠ some b) : Scn w' b s B H tk F :=
  (hg.block b h.lt (fun e => hne e.symm)).trans h
theorem Only.grown {w w' : World} {K : Nat → Prop} {row : Option Nat} (hg : w.grownBy w' row) (hk : ∀ g, row = some g → K g) : Only K w w' :=
  ⟨hg.os, hg.tape, hg.output, hg.size, fun i hi hn => hg.block i hi (fun e => hn (hk i e.symm))⟩
set_option maxRecDepth 100000 in
set_option maxHeartbeats 2000000 in
theorem text_p (hS : Scn w b s (pos s i) (pos s i) tk F) (hz : s.size ≤ 65536) (hl : i < s.size) :
    Calls Tryz.prog 53 #[.pointer (some ⟨b, 0, none⟩)] w (TokPost w b s i tk F (txtR s i)) := by
  have hSz := hS.lt
  have hR := RB.new w
  have hS0 := hS.alloc (.cells #[.int .i64 0, .string ⟨#[]⟩, .string ⟨#[]⟩, .int .i64 0, .bool false, .int .i64 0, .int .i64 0] 38)
  obtain ⟨u0, hu, hu0, hu1, hu2⟩ := info_parts infoU8
  go_enter Tryz.func53, Tryz.ntmps53
  go_wp2_with (first | (go_at_call 39; refine (skip1 hS0 hz hl).mono ?_; rintro e w4 ⟨rfl, hS4, hO4⟩))
  have hw4 := hO4.size
  have hw4' : w.heap.size + 1 ≤ w4.heap.size := by simpa using hw4
  clear hw4
  go_loopg [4] (s.size + 2 - i) (fun k v wr => ∃ (j : Nat) (l : List UInt8), Hid (txtF s i k j l = txtR s i) ∧ s.size + 3 ≤ j + k ∧ j ≤ s.size ∧ l.length ≤ 200 ∧ BR wr (w.heap.size + 1) v l ∧ Scn wr b s (pos s i) (pos s j) tk F ∧ Only (· = b) (w.alloc (.cells #[.int .i64 0, .string ⟨#[]⟩, .string ⟨#[]⟩, .int .i64 0, .bool false, .int .i64 0, .int .i64 0] 38)) wr)
  case atStart => exact ⟨i + 1, [], Lib.hid rfl, by omega, by omega, by simp, World.ownsRow_nil _ _ _ _, hS4, hO4⟩
  case round =>
    obtain ⟨j, l, HI, hjk, hji, hll, hBR, hS1, hO1⟩ := hrel
    obtain ⟨oa, ca, rfl⟩ := rowForm hBR
    obtain ⟨k', hk'⟩ : ∃ k', gk = k' + 1 := ⟨gk - 1, by omega⟩
    subst hk'
    obtain ⟨y, hy⟩ : ∃ y, byteAt s j = y := ⟨_, rfl⟩
    have HY := Lib.hid hy
    by_cases hq : y = 34
    · have hjl := byteAt_pos (s := s) (i := j) (by omega)
      have HP : Hid (txtR s i = .ok ⟨7, nil8, ⟨l.toArray⟩, 0⟩ (j + 1)) := Lib.hid (by have h := HI.out; unfold txtF at h; rw [hy, if_pos hq] at h; exact h.symm)
      have HQ : Hid (byteAt s j = 34) := Lib.hid (by rw [hy, hq])
      clear hy hq
      go_wp2_with (first | (go_at_call 37; refine (peek0 hS1 HQ.out hz hji).mono ?_; rintro e w2 ⟨rfl, hO2⟩; have hS2 := hS1.keep hO2) | (go_at_call 39; refine (skip1 hS2 hz hjl).mono ?_; rintro e w7 ⟨rfl, hS7, hO7⟩; have hBR7 := (hBR.only hO2 (fun _ hc => hc.elim)).only hO7 (by rintro i rfl; omega); have hcv := conv_bytes hBR7; have hO8 := (hO1.trans hO2.lift).trans hO7; have hR7 := hR.only hO8 (by omega); have d0 := hR7.c0; have d1 := hR7.c1; have d2 := hR7.c2; have d3 := hR7.c3; have d4 := hR7.c4; have d5 := hR7.c5; have d6 := hR7.c6; have z0 := hR7.fz 0; have z1 := hR7.fz 1; have z2 := hR7.fz 2; have z3 := hR7.fz 3; have z4 := hR7.fz 4; have z5 := hR7.fz 5; have z6 := hR7.fz 6))
      exact bodyPost_ret (v := .tuple #[tkC ⟨7, nil8, ⟨l.toArray⟩, 0⟩, .bool true]) (by simp [results, Tryz.results53, go_sem, nil8, d0, d1, d2, d3, d4, d5, d6]) rfl (by rw [HP.out]; exact tok_ok rfl rfl hSz hS7 hO8 (Only.set7 _ _ _ _ _ _ _ _ _))
    · have e34 : (y != 34) = true := by simp [hq]
      cases ho : litR s 34 i j with
      | bad f =>
        have HP : Hid (txtR s i = .bad f) := Lib.hid (by have h := HI.out; unfold txtF at h; rw [hy, if_neg hq, ho] at h; exact h.symm)
        have HO := Lib.hid ho
        clear hy hq ho
        go_wp2_with (first | (go_at_call 37; refine (peek0 hS1 HY.out hz hji).mono ?_; rintro e w2 ⟨rfl, hO2⟩; have hS2 := hS1.keep hO2) | (go_at_call 93; refine (literalChar_p hS2 34 hz hji).mono ?_; rw [HO.out]; rintro e w5 ⟨rfl, hS5, hO5⟩; have hO8 := (hO1.trans hO2.lift).trans hO5; have hR7 := hR.only hO8 (by omega); have d0 := hR7.c0; have d1 := hR7.c1; have d2 := hR7.c2; have d3 := hR7.c3; have d4 := hR7.c4; have d5 := hR7.c5; have d6 := hR7.c6; have z0 := hR7.fz 0; have z1 := hR7.fz 1; have z2 := hR7.fz 2; have z3 := hR7.fz 3; have z4 := hR7.fz 4; have z5 := hR7.fz 5; have z6 := hR7.fz 6))
        exact bodyPost_ret (v := .tuple #[tkZ, .bool false]) (by simp [results, Tryz.results53, go_sem, d0, d1, d2, d3, d4, d5, d6]) rfl (by rw [HP.out]; exact tok_bad rfl rfl hSz hS5 hO8 (Only.set7 _ _ _ _ _ _ _ _ _))
      | ok c f =>
        have hb := litR_ok ho
        obtain ⟨hb0, hb1, hc0, hc1⟩ := hb
        have hK : ∀ g, Value.ownBlock (.slice oa l.length ca) = some g → w.heap.size + 1 ≤ g := fun g hg => (World.ownsRow.lt hBR g hg).1
        have hnb : Value.ownBlock (.slice oa l.length ca) ≠ some b := fun e => by have := hK b e; omega
        have HO := Lib.hid ho
        by_cases hlong : 200 < l.length + 1
        · have HP : Hid (txtR s i = .bad (flt s 3 nil8 i)) := Lib.hid (by have h := HI.out; unfold txtF at h; rw [hy, if_neg hq, ho] at h; simp only [hlong, if_true] at h; exact h.symm)
          clear hy hq ho
          go_wp2_with (first | (go_at_call 37; refine (peek0 hS1 HY.out hz hji).mono ?_; rintro e w2 ⟨rfl, hO2⟩; have hS2 := hS1.keep hO2) | (go_at_call 93; refine (literalChar_p hS2 34 hz hji).mono ?_; rw [HO.out]; rintro e w5 ⟨rfl, hS5, hO5⟩; have hO8 := (hO1.trans hO2.lift).trans hO5; have hBR5 := (hBR.only hO2 (fun _ hc => hc.elim)).only hO5 (by rintro i rfl; omega); have hz5 := hO8.size; have hz5' : w.heap.size + 1 ≤ w5.heap.size := by simpa using hz5) | (at_builtin; (refine wpList_append_own_at _ rfl _ _ 31 rfl (w.heap.size + 1) 5 u0 (.int .u8 0) 1 1 Tryz.underlying31 hu hu0 hu1 hu2 rfl (by decide) (.slice oa l.length ca) _ _ rfl (World.ownsRow.alloc hBR5 _) ⟨w5.heap.size, 0, none⟩ 1 1 [.int .u8 c] rfl rfl (cell_one_new _ _ _) (one_u8 c) (by unfold maxLen; omega) (by omega) (by simp; omega) ?_); (intro v' w6 hown' hgrow hnn hob; clear hnn hob; obtain ⟨ob, cb, rfl⟩ := rowForm hown'; have hBR6 := BR.snoc hc0 hc1 hown'; clear hown'; have hS6 := (hS5.alloc (.cells #[.int .u8 c] 5)).grown hgrow hnb; have hO6 := (Only.of_below (K := fun i => w.heap.size + 1 ≤ i) ((Below.refl _ w5).alloc (Nat.le_refl _) (.cells #[.int .u8 c] 5))).trans (Only.grown (K := fun i => w.heap.size + 1 ≤ i) hgrow (fun g hg => hK g hg)))) | (go_at_call 89; refine (fail_p hS6 3 _).mono ?_; rintro e w7 ⟨rfl, hB7, hO7⟩; have hO9 := (hO8.then hO6 (fun i hi => .inr (by simpa using hi))).trans hO7; have hR7 := hR.only hO9 (by omega); have d0 := hR7.c0; have d1 := hR7.c1; have d2 := hR7.c2; have d3 := hR7.c3; have d4 := hR7.c4; have d5 := hR7.c5; have d6 := hR7.c6; have z0 := hR7.fz 0; have z1 := hR7.fz 1; have z2 := hR7.fz 2; have z3 := hR7.fz 3; have z4 := hR7.fz 4; have z5 := hR7.fz 5; have z6 := hR7.fz 6))
          exact bodyPost_ret (v := .tuple #[tkZ, .bool false]) (by simp [results, Tryz.results53, go_sem, d0, d1, d2, d3, d4, d5, d6]) rfl (by rw [HP.out]; exact tok_bad rfl rfl hSz hB7 hO9 (Only.set7 _ _ _ _ _ _ _ _ _))
        · have HP : Hid (txtF s i k' f (l ++ [c.toNat.toUInt8]) = txtR s i) := Lib.hid (by have h := HI.out; unfold txtF at h; rw [hy, if_neg hq, ho] at h; simp only [hlong, if_false] at h; exact h)
          have hll' : l.length + 1 ≤ 200 := by omega
          clear hy hq ho hlong
          go_wp2_with (first | (go_at_call 37; refine (peek0 hS1 HY.out hz hji).mono ?_; rintro e w2 ⟨rfl, hO2⟩; have hS2 := hS1.keep hO2) | (go_at_call 93; refine (literalChar_p hS2 34 hz hji).mono ?_; rw [HO.out]; rintro e w5 ⟨rfl, hS5, hO5⟩; have hO8 := (hO1.trans hO2.lift).trans hO5; have hBR5 := (hBR.only hO2 (fun _ hc => hc.elim)).only hO5 (by rintro i rfl; omega); have hz5 := hO8.size; have hz5' : w.heap.size + 1 ≤ w5.heap.size := by simpa using hz5) | (at_builtin; (refine wpList_append_own_at _ rfl _ _ 31 rfl (w.heap.size + 1) 5 u0 (.int .u8 0) 1 1 Tryz.underlying31 hu hu0 hu1 hu2 rfl (by decide) (.slice oa l.length ca) _ _ rfl (World.ownsRow.alloc hBR5 _) ⟨w5.heap.size, 0, none⟩ 1 1 [.int .u8 c] rfl rfl (cell_one_new _ _ _) (one_u8 c) (by unfold maxLen; omega) (by omega) (by simp; omega) ?_); (intro v' w6 hown' hgrow hnn hob; clear hnn hob; obtain ⟨ob, cb, rfl⟩ := rowForm hown'; have hBR6 := BR.snoc hc0 hc1 hown'; clear hown'; have hS6 := (hS5.alloc (.cells #[.int .u8 c] 5)).grown hgrow hnb; have hO6 := (Only.of_below (K := fun i => w.heap.size + 1 ≤ i) ((Below.refl _ w5).alloc (Nat.le_refl _) (.cells #[.int .u8 c] 5))).trans (Only.grown (K := fun i => w.heap.size + 1 ≤ i) hgrow (fun g hg => hK g hg)))))
          go_roundg k'
          case rel => exact ⟨f, l ++ [c.toNat.toUInt8], HP, by omega, hb1, by simp; omega, hBR6, hS6, hO8.then hO6 (fun i hi => .inr (by simpa using hi))⟩
          case measure => omega
end
end Go.Proofs.YtakojceggpljoaaGreatDoor
