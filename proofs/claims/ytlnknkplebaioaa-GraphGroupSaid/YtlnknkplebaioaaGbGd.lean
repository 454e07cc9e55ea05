/-
  WALKS. The keys of GraphGroup: what a key reads as in a map.
  WALKS. The keys of GraphGroup: distinct.
  WALKS. The keys of GraphGroup: placeOf.
  WALKS. The keys of GraphGroup: placesOf.
-/
import Derived.Test.YtlnknkplebaioaaGbGa
import Derived.Maps.OwnSet
import Derived.DeepKeys4
import Derived.Recover
import Derived.Laws.Pointers
namespace Go.Proofs.Ytlnknkplebaioaa
open Go.RowKit Go.Maps
theorem ky_laid : laidOutB Try.prog = true := by kernel_rfl
theorem ky_row : (38 : TypeId) < Try.prog.types.size := of_decide_eq_true (by kernel_rfl)
theorem ky_wide : (match Try.prog.underlying 38 with | some (.array _ _) | some (.struct _) => true | _ => false) = true := by kernel_rfl
theorem kK : Keyed Try.prog 38 := Keyed.of_law (deep_law_laid ky_laid (m := 3) (by omega) ky_row (by kernel_rfl) ky_wide)
theorem zI (w : World) : (zeroValue 3).run Try.prog w = .ok (.int .i64 0) w := by kernel_rfl
def kyOk (a : Ky) : Prop := (Lit.int .i64 a.1).wf = true ∧ (Lit.int .i64 a.2).wf = true
noncomputable def kyFs : Array Field := match Try.prog.underlying 38 with | some (.struct fs) => fs | _ => #[]
theorem ky_fs : Try.prog.underlying 38 = some (.struct kyFs) := by kernel_rfl
theorem ky_list : kyFs.toList.map (fun f => (f.type, f.offset)) = [(3, 0), (3, 1)] := by kernel_rfl
theorem ky_names : kyFs.all (·.name != "_") = true := by kernel_rfl
theorem ky_cells : Try.prog.cellsOf 38 = 2 := by kernel_rfl
theorem int_cells : Try.prog.cellsOf 3 = 1 := by kernel_rfl
theorem ky_type : Try.prog.keyType 38 = true := by kernel_rfl
theorem lits_int {d : Nat} {x : Int} (hw : (Lit.int .i64 x).wf = true) : Try.prog.keyLits (d + 1) 3 [.int .i64 x] = some [.int .i64 x] := by
  unfold Program.keyLits
  rw [Try.underlying3]
  simp [hw]
theorem keyK {a : Ky} (h : kyOk a) : keyOf Try.prog 38 (kyV a) = some (.string (keyBytes [.int .i64 a.1, .int .i64 a.2])) := by
  obtain ⟨a1, a2⟩ := a
  obtain ⟨h1, h2⟩ := h
  obtain ⟨s, hs⟩ : ∃ s, Try.prog.types.size = s + 1 := ⟨Try.prog.types.size - 1, by have h0 : 0 < Try.prog.types.size := of_decide_eq_true (by kernel_rfl); omega⟩
  have hl : Try.prog.keyLits (Try.prog.types.size + 1) 38 [.int .i64 a1, .int .i64 a2] = some [.int .i64 a1, .int .i64 a2] := by
    unfold Program.keyLits
    rw [ky_fs]
    have hf := ky_list
    match hm : kyFs.toList with
    | [] => rw [hm] at hf; exact absurd (congrArg List.length hf) (by simp)
    | [f] => rw [hm] at hf; exact absurd (congrArg List.length hf) (by simp)
    | f :: g :: i :: r => rw [hm] at hf; exact absurd (congrArg List.length hf) (by simp)
    | [f, g] =>
      rw [hm] at hf
      simp only [List.map_cons, List.map_nil, List.cons.injEq, Prod.mk.injEq, and_true] at hf
      obtain ⟨⟨e1, e2⟩, e3, e4⟩ := hf
      have l1 := lits_int (d := s) h1
      have l2 := lits_int (d := s) h2
      simp [ky_cells, ky_names, e1, e2, e3, e4, int_cells, hs, l1, l2, hm]
  unfold keyOf
  rw [ky_fs]
  simp only [ky_type, Bool.true_and]
  rw [if_pos (by simp [Value.formed, ky_cells])]
  show Option.map _ (Try.prog.keyLits (Try.prog.types.size + 1) 38 [.int .i64 a1, .int .i64 a2]) = _
  rw [hl]
  rfl
def kyL (a : Ky) : Lit := .string (keyBytes [.int .i64 a.1, .int .i64 a.2])
theorem kyL_inj {a b : Ky} (ha : kyOk a) (hb : kyOk b) (h : kyL a = kyL b) : a = b := by
  have h1 := keyK ha
  have h2 := keyK hb
  have h3 := kK.inj h1 (h2.trans (congrArg some h.symm))
  obtain ⟨a1, a2⟩ := a
  obtain ⟨b1, b2⟩ := b
  simp at h3
  exact Prod.ext h3.1 h3.2
theorem kyL_key {a : Ky} (ha : kyOk a) : WideAt.IsKeyLit (kyL a) := kK.key (keyK ha)
/-- Block b is a map from keys to numbers. -/
abbrev KM (w : World) (b n : Nat) (D : DataW Unit) : Prop := w.ownsMap Try.prog 38 (plainElem Try.prog 3) b n D
/-- A map that holds each key's place in a list. -/
def MpD (D : DataW Unit) (m : List Ky) : Prop := IsMap D ∧ ∀ a, kyOk a → (Maps.has D (kyL a) = decide (0 ≤ posI m a)) ∧ (0 ≤ posI m a → ∀ z, D.atKey (kyL a) z = .lit (.int .i64 (posI m a)))
theorem posI_cases (m : List Ky) (a : Ky) : (posI m a = -1 ∧ ∀ x ∈ m, x ≠ a) ∨ (∃ i, ∃ h : i < m.length, posI m a = i ∧ m[i] = a) := by
  unfold posI
  split
  · rename_i h
    right
    exact ⟨_, h, rfl, by have := List.findIdx_getElem (w := h); simpa using this⟩
  · rename_i h
    left
    refine ⟨rfl, fun x hx e => ?_⟩
    exact h (List.findIdx_lt_length_of_exists ⟨x, hx, by simp [e]⟩)
theorem posI_snoc {m : List Ky} {x : Ky} (hx : posI m x < 0) (a : Ky) : posI (m ++ [x]) a = if a = x then (m.length : Int) else posI m a := by
  have hno : ∀ y ∈ m, y ≠ x := by
    rcases posI_cases m x with h | ⟨i, hi, e, -⟩
    · exact h.2
    · omega
  unfold posI
  rw [List.findIdx_append]
  by_cases e : a = x
  · subst e
    have h1 : m.findIdx (· == a) = m.length := by
      rw [List.findIdx_eq_length]
      intro y hy
      simpa using hno y hy
    simp [h1]
  · rw [if_neg e]
    by_cases h : m.findIdx (· == a) < m.length
    · rw [if_pos h, if_pos h, if_pos (by rw [List.length_append]; omega)]
    · have e2 : (x == a) = false := by simpa using fun h => e h.symm
      rw [if_neg h, if_neg h, if_neg]
      simp [e2]
      omega
theorem MpD.nil : MpD (.map []) [] := ⟨isMap_empty, fun a _ => ⟨rfl, fun h => by simp [posI] at h⟩⟩
theorem MpD.snoc {D : DataW Unit} {m : List Ky} {x : Ky} (h : MpD D m) (hk : kyOk x) (hx : posI m x < 0) : MpD (D.put (kyL x) (.lit (.int .i64 (m.length : Int)))) (m ++ [x]) := by
  refine ⟨h.1.put _ _, fun a ha => ?_⟩
  rw [posI_snoc hx]
  by_cases e : a = x
  · subst e
    rw [if_pos rfl, has_put_same h.1 (kyL_key hk)]
    exact ⟨by simp, fun _ z => atKey_put_same h.1 (kyL_key hk) _ _⟩
  · have hne : kyL a ≠ kyL x := fun hc => e (kyL_inj ha hk hc)
    rw [if_neg e, has_put_other hne]
    exact ⟨(h.2 a ha).1, fun h0 z => by rw [atKey_put_other hne]; exact (h.2 a ha).2 h0 z⟩
end Go.Proofs.Ytlnknkplebaioaa
namespace Go.Proofs.Ytlnknkplebaioaa
open Go.RowKit Go.Maps
set_option maxRecDepth 100000 in
set_option maxHeartbeats 8000000 in
theorem distinct_p (w : World) (oK : Option Addr) (n cK : Nat) (l : List Ky) (h : Kys w oK n l) (hn : n ≤ 1000000) (hok : ∀ k, k < l.length → kyOk (kAt l k)) : Calls Try.prog 41 #[.slice oK n cK] w fun e w' => ∃ oa ca b D, e = .returned (.tuple #[.slice oa (difK l n).length ca, .map (some b)]) ∧ KR w' w.heap.size (.slice oa (difK l n).length ca) (difK l n) ∧ KM w' b n D ∧ MpD D (difK l n) ∧ w.heap.size ≤ b ∧ Only (fun _ => False) w w' := by
  have hl := h.len
  obtain ⟨i0', hi, hz0, hz1, hz2⟩ := info_parts infoKy
  have hmm := @run_makeMap Try.prog
  obtain ⟨B, hB⟩ : ∃ B, w.heap.size = B := ⟨_, rfl⟩
  have h0 : KR (w.alloc (.map #[] 0)) (B + 1) (.slice none 0 0) (difK l 0) := World.ownsRow_nil _ _ _ _
  have h1 : KM (w.alloc (.map #[] 0)) B 0 (.map []) := by rw [← hB]; exact World.ownsMap_made _ _ _ _
  have h00 : Only (B ≤ ·) w (w.alloc (.map #[] 0)) := (Only.refl _ _).alloc _
  have hs0 : B + 1 ≤ (w.alloc (.map #[] 0)).heap.size := by show _ ≤ (Array.push _ _).size; rw [Array.size_push]; omega
  go_enter Try.func41, Try.ntmps41
  go_wp2
  go_loopw [2, 11] (fun v q wr => ∃ k : Nat, k ≤ n ∧ q = .int .i64 (k : Int) ∧ KR wr (B + 1) v (difK l k) ∧ (∃ D, KM wr B k D ∧ MpD D (difK l k)) ∧ B + 1 ≤ wr.heap.size ∧ Only (B ≤ ·) w wr) (fun _ q _ => n - (intOf q).toNat)
  case atStart => exact ⟨0, by omega, rfl, h0, ⟨_, h1, MpD.nil⟩, hs0, h00⟩
  case round =>
    clear h0 h00 h1 hs0
    obtain ⟨k, hk, rfl, hR, ⟨D, hM, hD⟩, hsz, hO⟩ := hrel
    have hlen := difK_len l k
    obtain ⟨oR, cR, hv⟩ := rowForm hR
    subst hv
    obtain ⟨q, hq⟩ : ∃ q, (difK l k).length = q := ⟨_, rfl⟩
    have hR' : KR wr (B + 1) (.slice oR q cR) (difK l k) := by rw [← hq]; exact hR
    have HR := Lib.hid hR'
    have HQ := Lib.hid hq
    have HO := Lib.hid hO
    have HM := Lib.hid hM
    have HD := Lib.hid hD
    have HSZ := Lib.hid hsz
    rw [hq] at hlen ⊢
    clear hq hR hR' hM hD
    by_cases hlt : k < n
    · have hkl : k < l.length := by omega
      obtain ⟨b1, o1, e1, c1⟩ := (h.old hO (fun i hi hc => by have hc' : B ≤ i := hc; omega)).cell k hkl
      subst e1
      obtain ⟨⟨y1, y2⟩, hy⟩ : ∃ y, l[k] = y := ⟨_, rfl⟩
      have hky : kAt l k = (y1, y2) := (kAt_get hkl).trans hy
      rw [hy] at c1
      obtain ⟨p0, p1⟩ := c1
      have h01 : (0 : Int) ≤ (k : Int) := Int.natCast_nonneg k
      have h02 : (k : Int) < (n : Int) := by omega
      have h03 : (k : Int).toNat = k := Int.toNat_natCast k
      dsimp only at p0 p1
      have hst : difK l (k + 1) = if posI (difK l k) (y1, y2) < 0 then difK l k ++ [(y1, y2)] else difK l k := by rw [← hky]; rfl
      have hyo : kyOk (y1, y2) := by rw [← hky]; exact hok k hkl
      have hkey := keyK hyo
      have hhas := (HD.out.2 (y1, y2) hyo).1
      obtain ⟨p, hp⟩ : ∃ p, posI (difK l k) (y1, y2) = p := ⟨_, rfl⟩
      rw [hp] at hst hhas
      have HP := Lib.hid hp
      have HKEY : Hid (keyOf Try.prog 38 (.agg #[.int .i64 y1, .int .i64 y2]) = some (kyL (y1, y2))) := Lib.hid hkey
      have HYO := Lib.hid hyo
      clear hy hky hp hO hkey hyo
      by_cases hneg : p < 0
      · rw [if_pos hneg] at hst
        have HST := Lib.hid hst
        have HHAS : Hid (Maps.has D (kyL (y1, y2)) = false) := Lib.hid (by rw [hhas]; exact decide_eq_false (by omega))
        have HD8 : Hid (MpD (D.put (kyL (y1, y2)) (.lit (.int .i64 (q : Int)))) (difK l k ++ [(y1, y2)])) := Lib.hid (by
          have := HD.out.snoc HYO.out (by rw [HP.out]; exact hneg)
          rw [HQ.out] at this
          exact this)
        clear hst hhas
        go_wp2_with (first | (at_lookup; refine wpList_lookup_own_ok_int _ rfl _ _ 56 rfl 38 3 .i64 kK Try.underlying56 Try.underlying3 (zI _) B k D rfl (HM.out.alloc _) _ _ rfl HKEY.out ?_; intro c hat hwc; rw [HHAS.out]; clear hat hwc) | (at_mapUpdate; refine wpList_mapUpdate_own _ rfl _ _ _ 56 rfl 38 3 kK Try.underlying56 _ B k D rfl (HM.out.alloc _) (by unfold maxLen; omega) _ (.int .i64 (q : Int)) _ rfl rfl HKEY.out _ [] (plainElem_int Try.underlying3 (WalkArith.wf_i64 (by omega))) ?_; intro w1 hown1 hgrow1; have hb1 := (hgrow1.block wr.heap.size (by show _ < (Array.push _ _).size; rw [Array.size_push]; omega) (by intro e; have := Option.some.inj e; have := HSZ.out; omega)).trans (new_block wr _); have t0 := (blk_c (k := 0) hb1 rfl).1; have t1 := (blk_c (k := 1) hb1 rfl).1; have HO1 := Lib.hid (Only.grown (K := (· = B)) hgrow1 (fun b e => (Option.some.inj e).symm)); have HM1 := Lib.hid hown1; clear hb1 hown1 hgrow1) | (at_builtin; refine wpList_append_lies _ rfl _ _ 36 rfl (B + 1) 38 i0' (.agg #[.int .i64 0, .int .i64 0]) 2 16 Try.underlying36 hi hz0 hz1 hz2 rfl (by decide) (.slice oR q cR) q ((difK l k).flatMap kyCells) rfl (World.ownsRow.alloc (show w1.ownsRow (B + 1) 38 2 (.slice oR q cR) q ((difK l k).flatMap kyCells) by have hh := (HR.out.only (K := fun _ => False) ((Only.refl _ _).alloc _) (fun _ _ hc => hc)).only HO1.out (fun g hg e => by have h3 := (World.ownsRow.lt HR.out g hg).1; have e' : g = B := e; omega); unfold KR at hh; rw [HQ.out] at hh; exact hh) _) ⟨w1.heap.size, 0, none⟩ 1 1 (kyCells (y1, y2)) rfl rfl (World.news_of_block (new_block w1 _)) (one_ky _) Nat.one_pos (by unfold maxLen; omega) (by omega) (by show B + 1 ≤ (Array.push _ _).size; rw [Array.size_push]; have h3 := HSZ.out; have h4 := HO1.out.size; have h5 : (wr.alloc (.cells #[.int .i64 y1, .int .i64 y2] 38)).heap.size = wr.heap.size + 1 := (by show (Array.push _ _).size = _; rw [Array.size_push]); omega) _ rfl ?_; intro g2 cg w12 hown8 hgrow8 hat8 hlt8; have HR8 := Lib.hid (KR.snoc (l := difK l k) (a := (y1, y2)) (by rw [HQ.out]; exact hown8)); have HM8 := Lib.hid ((HM1.out.alloc (.cells #[.int .i64 y1, .int .i64 y2] 38)).kept hgrow8 (fun e => by have h3 := (World.ownsRow.lt HR.out B e.symm).1; omega)); have HO8 := Lib.hid ((((HO.out.alloc (.cells #[.int .i64 y1, .int .i64 y2] 38)).trans (HO1.out.wide (K' := (B ≤ ·)) (fun i hi => by have e' : i = B := hi; show B ≤ i; omega))).alloc (.cells #[.int .i64 y1, .int .i64 y2] 38)).trans (Only.grown (K := (B ≤ ·)) hgrow8 (fun g hg => by have h3 := (World.ownsRow.lt HR.out g hg).1; show B ≤ g; omega))); have HZ8 : Hid (B + 1 ≤ w12.heap.size) := Lib.hid (by have h3 := HSZ.out; have h4 := HO1.out.size; have h5 : (wr.alloc (.cells #[.int .i64 y1, .int .i64 y2] 38)).heap.size = wr.heap.size + 1 := (by show (Array.push _ _).size = _; rw [Array.size_push]); have h6 := hgrow8.size; have h7 : (w1.alloc (.cells #[.int .i64 y1, .int .i64 y2] 38)).heap.size = w1.heap.size + 1 := (by show (Array.push _ _).size = _; rw [Array.size_push]); omega); clear hown8 hgrow8 hat8 hlt8))
        go_roundw
        case rel => exact ⟨k + 1, by omega, by go_num, by rw [HST.out]; exact HR8.out, ⟨_, HM8.out, by rw [HST.out]; exact HD8.out⟩, HZ8.out, HO8.out⟩
        case measure => simp [intOf]; omega
      · rw [if_neg hneg] at hst
        have HST := Lib.hid hst
        have HHAS : Hid (Maps.has D (kyL (y1, y2)) = true) := Lib.hid (by rw [hhas]; exact decide_eq_true (by omega))
        clear hst hhas
        go_wp2_with (at_lookup; refine wpList_lookup_own_ok_int _ rfl _ _ 56 rfl 38 3 .i64 kK Try.underlying56 Try.underlying3 (zI _) B k D rfl (HM.out.alloc _) _ _ rfl HKEY.out ?_; intro c hat hwc; rw [HHAS.out]; clear hat hwc)
        go_roundw
        case rel => exact ⟨k + 1, by omega, by go_num, by rw [HST.out]; exact HR.out.only (K := fun _ => False) ((Only.refl _ _).alloc _) (fun _ _ hc => hc), ⟨_, (HM.out.alloc _).mono (Nat.le_succ _), by rw [HST.out]; exact HD.out⟩, by (show B + 1 ≤ (Array.push _ _).size; rw [Array.size_push]; have h3 := HSZ.out; omega), HO.out.alloc _⟩
        case measure => simp [intOf]; omega
    · have hkn : k = n := by omega
      subst hkn
      have HFIN := Lib.hid (show Only (fun _ => False) w wr from ⟨hO.os, hO.tape, hO.output, hO.size, fun i hi _ => hO.block i hi (fun hc => by have hc' : B ≤ i := hc; omega)⟩)
      go_wp2
      refine bodyPost_ret (v := .tuple #[.slice oR q cR, .map (some B)]) (by simp [results, Try.results41, go_sem]) rfl ?_
      refine ⟨oR, cR, B, D, ?_, ?_, HM.out, HD.out, by omega, HFIN.out⟩
      · rw [HQ.out]
      · rw [HQ.out]
        exact rowMono HR.out (by omega)
end Go.Proofs.Ytlnknkplebaioaa
namespace Go.Proofs.Ytlnknkplebaioaa
open Go.RowKit Go.Maps
set_option maxRecDepth 100000 in
theorem pof_idle (p q : Addr) (w : World) : CallsD Try.prog 59 #[.pointer (some p), .pointer (some q)] .returning w fun e u' w' => e = .returned (.tuple #[]) ∧ u' = .returning ∧ w' = w := by
  refine callsD_of_wpS Try.func59 rfl fun c₀ cs hu => ?_
  apply wpS_seq
  apply wpS_region
  simp [wpOpsS, go_sem, recoverD, hu, Try.ntmps59, Exit.thenS]
  refine wpS_cond (t := false) (by simp [Act.eval, Array.replicate]) ?_
  simp only [Bool.false_eq_true, if_false]
  refine wpS_of_wp (wp_skip ?_)
  cases c₀
  simp_all [bodyPostS, results, Try.results59]
set_option maxRecDepth 100000 in
theorem grp_idle (p : Addr) (w : World) : CallsD Try.prog 40 #[.pointer (some p)] .returning w fun e u' w' => e = .returned (.tuple #[]) ∧ u' = .returning ∧ w' = w := by
  refine callsD_of_wpS Try.func40 rfl fun c₀ cs hu => ?_
  apply wpS_seq
  apply wpS_region
  simp [wpOpsS, go_sem, recoverD, hu, Try.ntmps40, Exit.thenS]
  refine wpS_cond (t := false) (by simp [Act.eval, Array.replicate]) ?_
  simp only [Bool.false_eq_true, if_false]
  refine wpS_of_wp (wp_skip ?_)
  cases c₀
  simp_all [bodyPostS, results, Try.results40]
set_option maxRecDepth 100000 in
set_option maxHeartbeats 8000000 in
theorem placeOf_p (w : World) (b n : Nat) (D : DataW Unit) (m : List Ky) (hM : KM w b n D) (hD : MpD D m) (a : Ky) (ha : kyOk a) : Calls Try.prog 56 #[.map (some b), kyV a] w fun e w' => (∃ c : Int, e = .returned (.tuple #[.int .i64 c, .bool (decide (0 ≤ posI m a))]) ∧ (0 ≤ posI m a → c = posI m a)) ∧ Only (fun _ => False) w w' := by
  have hmf : ∀ (fn : Fn) (first cap : Array Value) (w : World), (Instr.makeFunc fn first cap).run Try.prog w = .ok (.func fn first cap) w := fun _ _ _ _ => rfl
  obtain ⟨y1, y2⟩ := a
  have HKEY : Hid (keyOf Try.prog 38 (.agg #[.int .i64 y1, .int .i64 y2]) = some (kyL (y1, y2))) := Lib.hid (keyK ha)
  have hd := hD.2 (y1, y2) ha
  have HM := Lib.hid hM
  obtain ⟨r, hr⟩ : ∃ r, decide (0 ≤ posI m (y1, y2)) = r := ⟨_, rfl⟩
  rw [hr] at hd ⊢
  have HHAS := Lib.hid hd.1
  have HAT := Lib.hid hd.2
  have HR := Lib.hid hr
  clear hd hr hM
  go_enter_defers Try.func56, Try.ntmps56
  go_wp2_with (at_lookup; refine wpList_lookup_own_ok_int _ rfl _ _ 56 rfl 38 3 .i64 kK Try.underlying56 Try.underlying3 (zI _) b n D rfl (((HM.out.alloc _).alloc _).alloc _) _ _ rfl HKEY.out ?_; intro c hat hwc; rw [HHAS.out]; have HC : Hid (0 ≤ posI m (y1, y2) → c = posI m (y1, y2)) := Lib.hid (fun h => by have h1 := HAT.out h (.lit (.int .i64 0)); rw [hat] at h1; simpa using h1); clear hat hwc)
  go_region
  all_goals
    go_wp2
    refine leaves_cons (f := 59) (args := #[.pointer (some ⟨w.heap.size + 1, 0, none⟩), .pointer (some ⟨w.heap.size + 1 + 1, 0, none⟩)]) (by simp) (by simp [go_sem]) ?_
    refine (pof_idle ⟨w.heap.size + 1, 0, none⟩ ⟨w.heap.size + 1 + 1, 0, none⟩ _).mono ?_
    rintro e u' w'' ⟨rfl, rfl, rfl⟩
    have hFIN : Only (fun _ => False) w ((((w.alloc (.cells #[.int .i64 y1, .int .i64 y2] 38)).alloc (.cells #[.int .i64 c] 3)).alloc (.cells #[.bool r] 4)).drew) := ((((Only.refl _ _).alloc _).alloc _).alloc _).drew
    simp [Leaves, settle, results, Try.results56, go_sem]
    exact ⟨HC.out, hFIN⟩
end Go.Proofs.Ytlnknkplebaioaa
namespace Go.Proofs.Ytlnknkplebaioaa
open Go.RowKit Go.Maps
theorem KM.old {w w' : World} {b n : Nat} {D : DataW Unit} {K : Nat → Prop} (h : KM w b n D) (ho : Only K w w') (hk : ¬ K b) : KM w' b n D := by
  have hb := h.lt
  obtain ⟨es, clock, h1, r⟩ := h
  exact ⟨es, clock, (ho.block b hb hk).trans h1, r⟩
def plcK (m l : List Ky) : Nat → List Nat
  | 0 => []
  | k + 1 => if 0 ≤ posI m (kAt l k) then plcK m l k ++ [(posI m (kAt l k)).toNat] else plcK m l k
theorem plcK_len (m l : List Ky) : ∀ k, (plcK m l k).length ≤ k
  | 0 => Nat.le_refl _
  | k + 1 => by
    have := plcK_len m l k
    show (if 0 ≤ posI m (kAt l k) then plcK m l k ++ [(posI m (kAt l k)).toNat] else plcK m l k).length ≤ _
    split
    · rw [List.length_append, List.length_singleton]; omega
    · omega
theorem posI_nat {m : List Ky} {a : Ky} (h : 0 ≤ posI m a) : ∃ i : Nat, posI m a = i ∧ i < m.length := by
  rcases posI_cases m a with h1 | ⟨i, hi, e, -⟩
  · omega
  · exact ⟨i, e, hi⟩
set_option maxRecDepth 100000 in
set_option maxHeartbeats 8000000 in
theorem placesOf_p (w : World) (b nb : Nat) (D : DataW Unit) (m : List Ky) (hM : KM w b nb D) (hD : MpD D m) (oK : Option Addr) (n cK : Nat) (l : List Ky) (h : Kys w oK n l) (hn : n ≤ 1000000) (hok : ∀ k, k < l.length → kyOk (kAt l k)) : Calls Try.prog 42 #[.map (some b), .slice oK n cK] w fun e w' => ∃ oa ca, e = .returned (.slice oa (plcK m l n).length ca) ∧ IR w' w.heap.size (.slice oa (plcK m l n).length ca) (plcK m l n) ∧ Only (fun _ => False) w w' := by
  have hl := h.len
  have hbl := hM.lt
  obtain ⟨i0', hi, hz0, hz1, hz2⟩ := info_parts infoInt
  have h0 : IR w w.heap.size (.slice none 0 0) (plcK m l 0) := World.ownsRow_nil _ _ _ _
  go_enter Try.func42, Try.ntmps42
  go_wp2
  go_loopw [5, 12] (fun v q wr => ∃ k : Nat, k ≤ n ∧ q = .int .i64 (k : Int) ∧ IR wr w.heap.size v (plcK m l k) ∧ Only (w.heap.size ≤ ·) w wr) (fun _ q _ => n - (intOf q).toNat)
  case atStart => exact ⟨0, by omega, rfl, h0, Only.refl _ _⟩
  case round =>
    clear h0
    obtain ⟨k, hk, rfl, hR, hO⟩ := hrel
    have hlen := plcK_len m l k
    obtain ⟨oR, cR, hv⟩ := rowForm hR
    subst hv
    obtain ⟨q, hq⟩ : ∃ q, (plcK m l k).length = q := ⟨_, rfl⟩
    have hR' : IR wr w.heap.size (.slice oR q cR) (plcK m l k) := by rw [← hq]; exact hR
    have HR := Lib.hid hR'
    have HQ := Lib.hid hq
    have HO := Lib.hid hO
    have HM := Lib.hid (hM.old hO (fun hc => by have hc' : w.heap.size ≤ b := hc; omega))
    have HWS : Hid (w.heap.size ≤ wr.heap.size) := Lib.hid hO.size
    rw [hq] at hlen ⊢
    clear hq hR hR'
    by_cases hlt : k < n
    · have hkl : k < l.length := by omega
      obtain ⟨b1, o1, e1, c1⟩ := (h.old hO (fun i hi hc => by have hc' : w.heap.size ≤ i := hc; omega)).cell k hkl
      subst e1
      obtain ⟨⟨y1, y2⟩, hy⟩ : ∃ y, l[k] = y := ⟨_, rfl⟩
      have hky : kAt l k = (y1, y2) := (kAt_get hkl).trans hy
      rw [hy] at c1
      obtain ⟨p0, p1⟩ := c1
      have h01 : (0 : Int) ≤ (k : Int) := Int.natCast_nonneg k
      have h02 : (k : Int) < (n : Int) := by omega
      have h03 : (k : Int).toNat = k := Int.toNat_natCast k
      dsimp only at p0 p1
      have hst : plcK m l (k + 1) = if 0 ≤ posI m (y1, y2) then plcK m l k ++ [(posI m (y1, y2)).toNat] else plcK m l k := by rw [← hky]; rfl
      have hyo : kyOk (y1, y2) := by rw [← hky]; exact hok k hkl
      have HPO : Hid (Calls Try.prog 56 #[.map (some b), .agg #[.int .i64 y1, .int .i64 y2]] (wr.alloc (.cells #[.int .i64 y1, .int .i64 y2] 38)) fun e w' => (∃ c : Int, e = .returned (.tuple #[.int .i64 c, .bool (decide (0 ≤ posI m (y1, y2)))]) ∧ (0 ≤ posI m (y1, y2) → c = posI m (y1, y2))) ∧ Only (fun _ => False) (wr.alloc (.cells #[.int .i64 y1, .int .i64 y2] 38)) w') := Lib.hid (placeOf_p _ b nb D m (HM.out.alloc _) hD (y1, y2) hyo)
      have HO1 : Hid (Only (w.heap.size ≤ ·) w (wr.alloc (.cells #[.int .i64 y1, .int .i64 y2] 38))) := Lib.hid (HO.out.alloc _)
      have hs1 : (wr.alloc (.cells #[.int .i64 y1, .int .i64 y2] 38)).heap.size = wr.heap.size + 1 := by show (Array.push _ _).size = _; rw [Array.size_push]
      have HS1 := Lib.hid hs1
      clear hy hky hyo hO hs1
      by_cases hpos : 0 ≤ posI m (y1, y2)
      · rw [if_pos hpos] at hst
        obtain ⟨p, hp, hpm⟩ := posI_nat hpos
        rw [hp, Int.toNat_natCast] at hst
        rw [hp, decide_eq_true (Int.natCast_nonneg p)] at HPO
        have HST := Lib.hid hst
        clear hst hp hpos hpm
        go_wp2_with (first | (go_at_call 56; (refine HPO.out.mono ?_); rintro e w5 ⟨⟨c, rfl, hc⟩, hO5⟩; have hc' := hc (Int.natCast_nonneg p); subst hc'; have HO5 := Lib.hid hO5; clear hO5 hc) | (at_builtin; refine wpList_append_lies _ rfl _ _ 30 rfl w.heap.size 3 i0' (.int .i64 0) 1 8 Try.underlying30 hi hz0 hz1 hz2 rfl (by decide) (.slice oR q cR) q ((plcK m l k).map iV) rfl (World.ownsRow.alloc (show w5.ownsRow w.heap.size 3 1 (.slice oR q cR) q ((plcK m l k).map iV) by have hh := (HR.out.only (K := fun _ => False) ((Only.refl _ _).alloc _) (fun _ _ hc => hc)).only HO5.out (fun _ _ hc => hc); unfold IR at hh; rw [HQ.out] at hh; exact hh) _) ⟨w5.heap.size, 0, none⟩ 1 1 [iV p] rfl rfl (World.news_of_block (new_block w5 _)) (one_int p) Nat.one_pos (by unfold maxLen; omega) (by omega) (by show w.heap.size ≤ (Array.push _ _).size; rw [Array.size_push]; have h3 := HWS.out; have h4 := HO5.out.size; have h5 := HS1.out; omega) _ rfl ?_; intro g2 cg w12 hown8 hgrow8 hat8 hlt8; have HR8 := Lib.hid (IR.snoc (ns := plcK m l k) (k := p) (by rw [HQ.out]; exact hown8)); have HO8 := Lib.hid (((HO1.out.trans (HO5.out.lift (K := (w.heap.size ≤ ·)))).alloc (.cells #[iV p] 3)).trans (Only.grown (K := (w.heap.size ≤ ·)) hgrow8 (fun g hg => by have hh := HR.out; exact (World.ownsRow.lt hh g hg).1))); clear hown8 hgrow8 hat8 hlt8))
        go_roundw
        case rel => exact ⟨k + 1, by omega, by go_num, by rw [HST.out]; exact HR8.out, HO8.out⟩
        case measure => simp [intOf]; omega
      · rw [if_neg hpos] at hst
        have HST := Lib.hid hst
        rw [decide_eq_false hpos] at HPO
        clear hst hpos
        go_wp2_with (go_at_call 56; (refine HPO.out.mono ?_); rintro e w5 ⟨⟨c, rfl, hc⟩, hO5⟩; have HO5 := Lib.hid hO5; clear hO5 hc)
        go_roundw
        case rel => exact ⟨k + 1, by omega, by go_num, by rw [HST.out]; exact (HR.out.only (K := fun _ => False) ((Only.refl _ _).alloc _) (fun _ _ hc => hc)).only HO5.out (fun _ _ hc => hc), HO1.out.trans HO5.out.lift⟩
        case measure => simp [intOf]; omega
    · have hkn : k = n := by omega
      subst hkn
      have HFIN := Lib.hid (show Only (fun _ => False) w wr from ⟨hO.os, hO.tape, hO.output, hO.size, fun i hi _ => hO.block i hi (fun hc => by have hc' : w.heap.size ≤ i := hc; omega)⟩)
      go_wp2
      go_ret
      refine ⟨oR, cR, ?_, ?_, HFIN.out⟩
      · rw [HQ.out]
        rfl
      · rw [HQ.out]
        exact HR.out
end Go.Proofs.Ytlnknkplebaioaa
