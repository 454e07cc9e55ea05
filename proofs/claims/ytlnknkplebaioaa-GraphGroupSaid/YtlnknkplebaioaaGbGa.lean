/-
  WALKS. The keys of GraphGroup: rows of keys; position.
  WALKS. The keys of GraphGroup: Uses.
  WALKS. The keys of GraphGroup: different.
-/
import Derived.Test.YtlnknkplebaioaaGbX
namespace Go.Proofs.Ytlnknkplebaioaa
open Go.RowKit Go.Maps
abbrev Ky := Int × Int
def kyCells (a : Ky) : List Value := [.int .i64 a.1, .int .i64 a.2]
abbrev kyV (a : Ky) : Value := .agg #[.int .i64 a.1, .int .i64 a.2]
theorem kyCells_len (a : Ky) : (kyCells a).length = 2 := rfl
theorem infoKy : (Try.prog.info? 38).map (fun i => (i.zero, i.size, i.bytes)) = some (some (.agg #[.int .i64 0, .int .i64 0]), 2, 16) := by kernel_rfl
theorem flat_getM {α : Type} (m : Nat) (f : α → List Value) (hf : ∀ a, (f a).length = m) (ts : List α) : ∀ (k j : Nat) (hk : k < ts.length) (_ : j < m), (ts.flatMap f)[k * m + j]? = (f ts[k])[j]? := by
  induction ts with
  | nil => intro k j hk; simp at hk
  | cons t ts ih =>
    intro k j hk hj
    rw [List.flatMap_cons]
    cases k with
    | zero => rw [List.getElem?_append_left (by rw [hf]; omega)]; simp
    | succ k =>
      rw [List.getElem?_append_right (by rw [hf, Nat.add_mul]; omega)]
      have e : (k + 1) * m + j - (f t).length = k * m + j := by rw [hf, Nat.add_mul]; omega
      rw [e, ih k j (by simp at hk; omega) hj]
      rfl
/-- A row of keys of the call's own. -/
def KR (w : World) (B : Nat) (v : Value) (l : List Ky) : Prop := w.ownsRow B 38 2 v l.length (l.flatMap kyCells)
theorem KR.only {w w' : World} {B : Nat} {v : Value} {l : List Ky} {K : Nat → Prop} (h : KR w B v l) (ho : Only K w w') (hk : ∀ g, v.ownBlock = some g → ¬ K g) : KR w' B v l :=
  rowKeep h (fun g hg => ho.block g ((World.ownsRow.lt h g hg).2) (hk g hg))
theorem KR.snoc {w : World} {B : Nat} {v : Value} {l : List Ky} {a : Ky} (h : w.ownsRow B 38 2 v (l.length + 1) (l.flatMap kyCells ++ kyCells a)) : KR w B v (l ++ [a]) := by
  unfold KR
  rw [List.length_append, List.flatMap_append]
  simpa using h
theorem one_ky (a : Ky) : ∀ u ∈ kyCells a, u.oneCell' = true := by
  intro u hu
  simp [kyCells] at hu
  rcases hu with rfl | rfl <;> rfl
/-- A key at ⟨b, o⟩. -/
structure KC (w : World) (b o : Nat) (a : Ky) : Prop where
  c0 : w.cell? ⟨b, o, none⟩ = some (.int .i64 a.1)
  c1 : w.cell? ⟨b, o + 1, none⟩ = some (.int .i64 a.2)
theorem KC.only {w w' : World} {b o : Nat} {a : Ky} {K : Nat → Prop} (h : KC w b o a) (ho : Only K w w') (hk : ¬ K b) : KC w' b o a := by
  have hl : b < w.heap.size := cell_lt h.c0
  have e : ∀ k, w'.cell? ⟨b, k, none⟩ = w.cell? ⟨b, k, none⟩ := fun k => World.cell?_of_block (ho.block b hl hk)
  exact ⟨(e _).trans h.c0, (e _).trans h.c1⟩
/-- A slice of keys, read. -/
structure Kys (w : World) (oa : Option Addr) (n : Nat) (l : List Ky) : Prop where
  len : l.length = n
  cell : ∀ k (hk : k < l.length), ∃ b o, oa = some ⟨b, o, none⟩ ∧ KC w b (o + k * 2) l[k]
theorem Kys.old {w w' : World} {oa : Option Addr} {n : Nat} {l : List Ky} {K : Nat → Prop} (h : Kys w oa n l) (ho : Only K w w') (hk : ∀ i, i < w.heap.size → ¬ K i) : Kys w' oa n l :=
  ⟨h.len, fun k hl => by obtain ⟨b, o, e, hc⟩ := h.cell k hl; exact ⟨b, o, e, hc.only ho (hk b (cell_lt hc.c0))⟩⟩
theorem KR.at {w : World} {B n ca : Nat} {oa : Option Addr} {l : List Ky} (h : KR w B (.slice oa n ca) l) {k : Nat} (hk : k < l.length) : ∃ g, oa = some ⟨g, 0, none⟩ ∧ B ≤ g ∧ n = l.length ∧ n ≤ ca ∧ KC w g (k * 2) l[k] := by
  rcases h.2 with ⟨hv, hn⟩ | ⟨g, cap, cur, hv, hb, hg, hle, hr⟩
  · omega
  · cases hv
    refine ⟨g, rfl, hb, rfl, hle, ?_⟩
    have hc := World.ownsRow.cells h (g := g) rfl
    have key : ∀ j v, j < 2 → (kyCells l[k])[j]? = some v → w.cell? ⟨g, k * 2 + j, none⟩ = some v := by
      intro j v hj hv
      have := hc (k * 2 + j) v (by rw [flat_getM 2 kyCells kyCells_len l k j hk hj]; exact hv)
      rw [add_plain, Nat.zero_add] at this
      exact this
    exact ⟨key 0 _ (by decide) rfl, key 1 _ (by decide) rfl⟩
theorem KR.kys {w : World} {B ca : Nat} {oa : Option Addr} {l : List Ky} (h : KR w B (.slice oa l.length ca) l) : Kys w oa l.length l :=
  ⟨rfl, fun k hk => by obtain ⟨g, e, -, -, -, hc⟩ := h.at hk; exact ⟨g, 0, e, by rw [Nat.zero_add]; exact hc⟩⟩
/-- The first place of a key, or −1. -/
def posI (l : List Ky) (x : Ky) : Int := if l.findIdx (· == x) < l.length then (l.findIdx (· == x) : Int) else -1
def noP (l : List Ky) (x : Ky) (k : Nat) : Prop := ∀ i (h : i < l.length), i < k → l[i] ≠ x
theorem noP_step {l : List Ky} {x : Ky} {k : Nat} (h : noP l x k) {hk : k < l.length} (he : l[k] ≠ x) : noP l x (k + 1) := fun i hi hik => by
  by_cases e : i = k
  · subst e; exact he
  · exact h i hi (by omega)
theorem posI_yes {l : List Ky} {x : Ky} {k : Nat} (h : noP l x k) {hk : k < l.length} (he : l[k] = x) : posI l x = k := by
  have : l.findIdx (· == x) = k := by
    rw [List.findIdx_eq hk]
    exact ⟨by simp [he], fun j hj => by simpa using h j (by omega) hj⟩
  unfold posI
  rw [this, if_pos hk]
theorem posI_no {l : List Ky} {x : Ky} (h : noP l x l.length) : posI l x = -1 := by
  have : l.findIdx (· == x) = l.length := by
    rw [List.findIdx_eq_length]
    intro y hy
    obtain ⟨i, hi, e⟩ := List.getElem_of_mem hy
    have := h i hi hi
    rw [e] at this
    simpa using this
  unfold posI
  rw [this, if_neg (Nat.lt_irrefl _)]
set_option maxRecDepth 100000 in
set_option maxHeartbeats 8000000 in
theorem position_p (w : World) (oa : Option Addr) (n ca : Nat) (l : List Ky) (h : Kys w oa n l) (hn : n ≤ 1000000) (x : Ky) : Calls Try.prog 23 #[.slice oa n ca, kyV x] w fun e w' => e = .returned (.int .i64 (posI l x)) ∧ Only (fun _ => False) w w' := by
  have hl := h.len
  have hA : Only (fun _ => False) w (w.alloc (.cells #[.int .i64 x.1, .int .i64 x.2] 38)) := (Only.refl _ _).alloc _
  have HB : Hid (∀ w', Only (fun _ => False) (w.alloc (.cells #[.int .i64 x.1, .int .i64 x.2] 38)) w' → w'.cell? ⟨w.heap.size, 0, none⟩ = some (.int .i64 x.1) ∧ w'.cell? ⟨w.heap.size, 1, none⟩ = some (.int .i64 x.2)) := Lib.hid (fun w' ho => by
    have hb := (ho.block w.heap.size (by show _ < (Array.push _ _).size; rw [Array.size_push]; omega) (fun hc => hc)).trans (new_block w _)
    exact ⟨(blk_c hb rfl).1, (blk_c hb rfl).1⟩)
  have hKA := h.old hA (fun _ _ hc => hc)
  obtain ⟨x1, x2⟩ := x
  go_enter Try.func23, Try.ntmps23
  go_wp2
  go_loopw [5] (fun q wr => ∃ k : Nat, k ≤ n ∧ q = .int .i64 k ∧ Hid (noP l (x1, x2) k) ∧ Only (fun _ => False) (w.alloc (.cells #[.int .i64 x1, .int .i64 x2] 38)) wr) (fun q _ => n - (intOf q).toNat)
  case atStart => exact ⟨0, by omega, rfl, Lib.hid (fun i _ hi => absurd hi (Nat.not_lt_zero _)), Only.refl _ _⟩
  case round =>
    obtain ⟨k, hk, rfl, HK, hO⟩ := hrel
    by_cases hlt : k < n
    · have hkl : k < l.length := by omega
      obtain ⟨b1, o1, e1, c1⟩ := (hKA.old hO (fun _ _ hc => hc)).cell k hkl
      subst e1
      obtain ⟨⟨y1, y2⟩, hy⟩ : ∃ y, l[k] = y := ⟨_, rfl⟩
      rw [hy] at c1
      obtain ⟨p0, p1⟩ := c1
      obtain ⟨q0, q1⟩ := HB.out wr hO
      have HY := Lib.hid hy
      have h01 : (0 : Int) ≤ (k : Int) := Int.natCast_nonneg k
      have h02 : (k : Int) < (n : Int) := by omega
      have h03 : (k : Int).toNat = k := Int.toNat_natCast k
      dsimp only at p0 p1 q0 q1
      clear hy
      by_cases e : y1 = x1
      · by_cases e' : y2 = x2
        · subst e
          subst e'
          have HT : Hid (posI l (y1, y2) = (k : Int)) := Lib.hid (posI_yes HK.out HY.out)
          go_wp2
          go_region
          go_wp2
          go_ret
          rw [HT.out]
          exact ⟨rfl, hA.trans hO.drew⟩
        · subst e
          have d1 : (y2 == x2) = false := by simpa using e'
          have HN := Lib.hid (noP_step (hk := hkl) HK.out (by rw [HY.out]; intro hc; cases hc; exact e' rfl))
          go_wp2
          go_region
          go_wp2
          go_roundw
          case rel => exact ⟨k + 1, by omega, by go_num, HN, hO.drew⟩
          case measure => simp [intOf]; omega
      · have d1 : (y1 == x1) = false := by simpa using e
        have HN := Lib.hid (noP_step (hk := hkl) HK.out (by rw [HY.out]; intro hc; cases hc; exact e rfl))
        go_wp2
        go_region
        go_wp2
        go_roundw
        case rel => exact ⟨k + 1, by omega, by go_num, HN, hO.drew⟩
        case measure => simp [intOf]; omega
    · have HF : Hid (posI l (x1, x2) = -1) := Lib.hid (posI_no (by have := HK.out; rw [show k = l.length by omega] at this; exact this))
      go_wp2
      go_ret
      rw [HF.out]
      exact ⟨rfl, hA.trans hO⟩
end Go.Proofs.Ytlnknkplebaioaa
namespace Go.Proofs.Ytlnknkplebaioaa
open Go.RowKit Go.Maps
def okKy (a : Ky) : Prop := 0 ≤ a.1 ∧ a.1 ≤ 7 ∧ 0 ≤ a.2 ∧ a.2 ≤ 2147483648
def uK (a1 a2 k : Nat) : List Ky := if (bits BinOp.and IntKind.i64 ((a2 : Int) / 2 ^ (a1 + 4 * k)) 1 == 1) then [((wrap64 ((a1 : Int) * (k : Int) + (a2 : Int) % 7)).tmod 8, (a2 : Int))] else []
def useK (a1 a2 : Nat) : Nat → List Ky
  | 0 => []
  | k + 1 => useK a1 a2 k ++ uK a1 a2 (k + 1)
def useL (a : Ky) : List Ky := useK a.1.toNat a.2.toNat 2
theorem useK_len (a1 a2 : Nat) : ∀ k, (useK a1 a2 k).length ≤ k
  | 0 => Nat.le_refl _
  | k + 1 => by
    have := useK_len a1 a2 k
    show (useK a1 a2 k ++ uK a1 a2 (k + 1)).length ≤ _
    rw [List.length_append]
    have h1 : (uK a1 a2 (k + 1)).length ≤ 1 := by
      unfold uK
      split
      · exact Nat.le_refl _
      · exact Nat.zero_le _
    omega
theorem row_zeroK {w : World} {B g : Nat} (hB : B ≤ g) (hg : w.heap[g]? = some (.cells #[] 38 (0, 0))) : KR w B (.slice (some ⟨g, 0, none⟩) 0 0) [] :=
  ⟨rfl, .inr ⟨g, 0, #[], rfl, hB, hg, Nat.le_refl _, by unfold maxLen; omega, rfl, rfl⟩⟩
set_option maxRecDepth 100000 in
set_option maxHeartbeats 8000000 in
theorem Uses_p (w : World) (a : Ky) (ha : okKy a) : Calls Try.prog 22 #[kyV a] w fun e w' => ∃ oa ca, e = .returned (.slice oa (useL a).length ca) ∧ KR w' w.heap.size (.slice oa (useL a).length ca) (useL a) ∧ Only (fun _ => False) w w' := by
  obtain ⟨a1, a2⟩ := a
  obtain ⟨g1, g2, g3, g4⟩ := ha
  dsimp only at g1 g2 g3 g4
  obtain ⟨a1', rfl⟩ : ∃ k : Nat, a1 = k := ⟨a1.toNat, by omega⟩
  obtain ⟨a2', rfl⟩ : ∃ k : Nat, a2 = k := ⟨a2.toNat, by omega⟩
  have HUL : Hid (useL (a1', a2') = useK a1' a2' 2) := Lib.hid (by unfold useL; rw [Int.toNat_natCast, Int.toNat_natCast])
  have hA : Only (fun _ => False) w (w.alloc (.cells #[.int .i64 a1', .int .i64 a2'] 38)) := (Only.refl _ _).alloc _
  have hs1 : (w.alloc (.cells #[.int .i64 a1', .int .i64 a2'] 38)).heap.size = w.heap.size + 1 := by show (Array.push _ _).size = _; rw [Array.size_push]
  have HB : Hid (∀ w', Only (w.heap.size + 1 ≤ ·) (w.alloc (.cells #[.int .i64 a1', .int .i64 a2'] 38)) w' → w'.cell? ⟨w.heap.size, 0, none⟩ = some (.int .i64 a1') ∧ w'.cell? ⟨w.heap.size, 1, none⟩ = some (.int .i64 a2')) := Lib.hid (fun w' ho => by
    have hb := (ho.block w.heap.size (by rw [hs1]; omega) (fun hc => by have hc' : w.heap.size + 1 ≤ w.heap.size := hc; omega)).trans (new_block w _)
    exact ⟨(blk_c hb rfl).1, (blk_c hb rfl).1⟩)
  obtain ⟨i0', hi, hz0, hz1, hz2⟩ := info_parts infoKy
  have HS1 := Lib.hid hs1
  have h0 : KR ((w.alloc (.cells #[.int .i64 a1', .int .i64 a2'] 38)).alloc (.cells #[] 38)) (w.heap.size + 1) (.slice (some ⟨w.heap.size + 1, 0, none⟩) 0 0) (useK a1' a2' 0) := row_zeroK (Nat.le_refl _) (by have := new_block (w.alloc (.cells #[.int .i64 a1', .int .i64 a2'] 38)) (.cells #[] 38); rw [hs1] at this; exact this)
  have h00 : Only (w.heap.size + 1 ≤ ·) (w.alloc (.cells #[.int .i64 a1', .int .i64 a2'] 38)) ((w.alloc (.cells #[.int .i64 a1', .int .i64 a2'] 38)).alloc (.cells #[] 38)) := (Only.refl _ _).alloc _
  clear hs1
  go_enter Try.func22, Try.ntmps22
  go_wp2
  go_loopw [3, 4] (fun v q wr => ∃ k : Nat, k ≤ 2 ∧ q = .int .i64 ((k : Int) + 1) ∧ KR wr (w.heap.size + 1) v (useK a1' a2' k) ∧ Only (w.heap.size + 1 ≤ ·) (w.alloc (.cells #[.int .i64 a1', .int .i64 a2'] 38)) wr) (fun _ q _ => 3 - (intOf q).toNat)
  case atStart => exact ⟨0, by omega, rfl, h0, h00⟩
  case round =>
    clear h0 h00
    obtain ⟨k, hk, rfl, hR, hO⟩ := hrel
    have hlen := useK_len a1' a2' k
    obtain ⟨oR, cR, hv⟩ := rowForm hR
    subst hv
    obtain ⟨q, hq⟩ : ∃ q, (useK a1' a2' k).length = q := ⟨_, rfl⟩
    have hR' : KR wr (w.heap.size + 1) (.slice oR q cR) (useK a1' a2' k) := by rw [← hq]; exact hR
    have hown : wr.ownsRow (w.heap.size + 1) 38 2 (.slice oR q cR) q ((useK a1' a2' k).flatMap kyCells) := by rw [← hq]; exact hR
    have HR := Lib.hid hR'
    have HOWN := Lib.hid hown
    have HQ := Lib.hid hq
    have HWS : Hid (w.heap.size + 1 ≤ wr.heap.size) := Lib.hid (by have := hO.size; rw [HS1.out] at this; exact this)
    rw [hq] at hlen ⊢
    clear hq hR hR' hown
    by_cases hlt : k < 2
    · obtain ⟨p0, p1⟩ := HB.out wr hO
      have hk1 : ((k : Int) + 1) = ((k + 1 : Nat) : Int) := by omega
      rw [hk1]
      obtain ⟨m, hm⟩ : ∃ m, k + 1 = m := ⟨_, rfl⟩
      rw [hm]
      have q1 : (m : Int) < 3 := by omega
      have q2 : IntKind.i64.wrap (4 * (m : Int)) = 4 * (m : Int) := IntWalk.i64_in _ (by omega)
      have q3 : IntKind.i64.wrap ((a1' : Int) + 4 * (m : Int)) = (a1' : Int) + 4 * (m : Int) := IntWalk.i64_in _ (by omega)
      have q4 : IntKind.i64.wrap ((a1' : Int) * (m : Int)) = (a1' : Int) * (m : Int) := IntWalk.i64_in _ (by
        have h1 : a1' * m ≤ 7 * 3 := Nat.mul_le_mul (by omega) (by omega)
        have h2 : ((a1' * m : Nat) : Int) = (a1' : Int) * (m : Int) := Int.natCast_mul _ _
        omega)
      have q5 : IntKind.i64.wrap ((m : Int) + 1) = (m : Int) + 1 := IntWalk.i64_in _ (by omega)
      cases hb : (bits BinOp.and IntKind.i64 ((a2' : Int) / 2 ^ (a1' + 4 * m)) 1 == 1)
      · have HU : Hid (useK a1' a2' (k + 1) = useK a1' a2' k) := Lib.hid (by
          show useK a1' a2' k ++ uK a1' a2' (k + 1) = _
          unfold uK
          rw [hm, hb]
          exact List.append_nil _)
        have HM := Lib.hid hm
        clear hm hk1
        go_wp2
        go_roundw
        case rel => exact ⟨k + 1, by omega, by have := HM.out; go_num, by rw [HU.out]; exact HR.out, hO⟩
        case measure => have := HM.out; simp [intOf]; omega
      · obtain ⟨x, hx⟩ : ∃ x, (wrap64 ((a1' : Int) * (m : Int) + (a2' : Int) % 7)).tmod 8 = x := ⟨_, rfl⟩
        have HU : Hid (useK a1' a2' (k + 1) = useK a1' a2' k ++ [(x, (a2' : Int))]) := Lib.hid (by
          show useK a1' a2' k ++ uK a1' a2' (k + 1) = _
          unfold uK
          rw [hm, hb, hx]
          rfl)
        have HM := Lib.hid hm
        have HO := Lib.hid hO
        clear hm hk1 hO
        go_wp2_with (at_builtin; (try simp only [hx]); refine wpList_append_lies _ rfl _ _ 36 rfl (w.heap.size + 1) 38 i0' (.agg #[.int .i64 0, .int .i64 0]) 2 16 Try.underlying36 hi hz0 hz1 hz2 rfl (by decide) (.slice oR q cR) q ((useK a1' a2' k).flatMap kyCells) rfl (World.ownsRow.alloc HOWN.out _) ⟨wr.heap.size, 0, none⟩ 1 1 (kyCells (x, (a2' : Int))) rfl rfl (World.news_of_block (new_block wr _)) (one_ky _) Nat.one_pos (by unfold maxLen; omega) (by omega) (by show w.heap.size + 1 ≤ (Array.push _ _).size; rw [Array.size_push]; have := HWS.out; omega) _ rfl ?_; intro g2 cg w12 hown8 hgrow8 hat8 hlt8; have HR8 := Lib.hid (KR.snoc (l := useK a1' a2' k) (a := (x, (a2' : Int))) (by rw [HQ.out]; exact hown8)); have HO8 := Lib.hid ((HO.out.alloc (.cells #[.int .i64 x, .int .i64 (a2' : Int)] 38)).trans (Only.grown (K := (w.heap.size + 1 ≤ ·)) hgrow8 (fun g hg => (World.ownsRow.lt HOWN.out g hg).1))); clear hown8 hgrow8 hat8 hlt8)
        go_roundw
        case rel => exact ⟨k + 1, by omega, by have := HM.out; go_num, by rw [HU.out]; exact HR8.out, HO8.out⟩
        case measure => have := HM.out; simp [intOf]; omega
    · have hk2 : k = 2 := by omega
      subst hk2
      have HFIN := Lib.hid (show Only (fun _ => False) w wr from hA.trans ⟨hO.os, hO.tape, hO.output, hO.size, fun i hi _ => hO.block i hi (fun hc => by have hc' : w.heap.size + 1 ≤ i := hc; have := HS1.out; omega)⟩)
      go_wp2
      go_ret
      rw [HUL.out]
      refine ⟨oR, cR, ?_, ?_, HFIN.out⟩
      · rw [HQ.out]
        rfl
      · rw [HQ.out]
        exact rowMono HR.out (by omega)
end Go.Proofs.Ytlnknkplebaioaa
namespace Go.Proofs.Ytlnknkplebaioaa
open Go.RowKit Go.Maps
def kAt (l : List Ky) (k : Nat) : Ky := l.getD k (0, 0)
theorem kAt_get {l : List Ky} {k : Nat} (hk : k < l.length) : kAt l k = l[k] := by
  unfold kAt
  rw [List.getD_eq_getElem?_getD, List.getElem?_eq_getElem hk]
  rfl
def difK (l : List Ky) : Nat → List Ky
  | 0 => []
  | k + 1 => if posI (difK l k) (kAt l k) < 0 then difK l k ++ [kAt l k] else difK l k
theorem difK_len (l : List Ky) : ∀ k, (difK l k).length ≤ k
  | 0 => Nat.le_refl _
  | k + 1 => by
    have := difK_len l k
    show (if posI (difK l k) (kAt l k) < 0 then difK l k ++ [kAt l k] else difK l k).length ≤ _
    split
    · rw [List.length_append, List.length_singleton]; omega
    · omega
set_option maxRecDepth 100000 in
set_option maxHeartbeats 8000000 in
theorem different_p (w : World) (oK : Option Addr) (n cK : Nat) (l : List Ky) (h : Kys w oK n l) (hn : n ≤ 1000000) : Calls Try.prog 21 #[.slice oK n cK] w fun e w' => ∃ oa ca, e = .returned (.slice oa (difK l n).length ca) ∧ KR w' w.heap.size (.slice oa (difK l n).length ca) (difK l n) ∧ Only (fun _ => False) w w' := by
  have hl := h.len
  obtain ⟨i0', hi, hz0, hz1, hz2⟩ := info_parts infoKy
  have h0 : KR (w.alloc (.cells #[] 38)) w.heap.size (.slice (some ⟨w.heap.size, 0, none⟩) 0 0) (difK l 0) := row_zeroK (Nat.le_refl _) (new_block w _)
  have h00 : Only (w.heap.size ≤ ·) w (w.alloc (.cells #[] 38)) := (Only.refl _ _).alloc _
  go_enter Try.func21, Try.ntmps21
  go_wp2
  go_loopw [3, 4] (fun v q wr => ∃ k : Nat, k ≤ n ∧ q = .int .i64 (k : Int) ∧ KR wr w.heap.size v (difK l k) ∧ Only (w.heap.size ≤ ·) w wr) (fun _ q _ => n - (intOf q).toNat)
  case atStart => exact ⟨0, by omega, rfl, h0, h00⟩
  case round =>
    clear h0 h00
    obtain ⟨k, hk, rfl, hR, hO⟩ := hrel
    have hlen := difK_len l k
    obtain ⟨oR, cR, hv⟩ := rowForm hR
    subst hv
    have hKY := hR.kys
    obtain ⟨q, hq⟩ : ∃ q, (difK l k).length = q := ⟨_, rfl⟩
    have hR' : KR wr w.heap.size (.slice oR q cR) (difK l k) := by rw [← hq]; exact hR
    have HR := Lib.hid hR'
    have HQ := Lib.hid hq
    have HO := Lib.hid hO
    have HWS : Hid (w.heap.size ≤ wr.heap.size) := Lib.hid hO.size
    rw [hq] at hlen hKY ⊢
    clear hq hR hR'
    by_cases hlt : k < n
    · have hkl : k < l.length := by omega
      obtain ⟨b1, o1, e1, c1⟩ := (h.old hO (fun i hi hc => by have hc' : w.heap.size ≤ i := hc; omega)).cell k hkl
      subst e1
      obtain ⟨⟨y1, y2⟩, hy⟩ : ∃ y, l[k] = y := ⟨_, rfl⟩
      have hky : kAt l k = (y1, y2) := (kAt_get hkl).trans hy
      rw [hy] at c1
      have HC1 := Lib.hid c1
      obtain ⟨p0, p1⟩ := c1
      have h01 : (0 : Int) ≤ (k : Int) := Int.natCast_nonneg k
      have h02 : (k : Int) < (n : Int) := by omega
      have h03 : (k : Int).toNat = k := Int.toNat_natCast k
      dsimp only at p0 p1
      have hst : difK l (k + 1) = if posI (difK l k) (y1, y2) < 0 then difK l k ++ [(y1, y2)] else difK l k := by rw [← hky]; rfl
      have HPO : Hid (Calls Try.prog 23 #[.slice oR q cR, .agg #[.int .i64 y1, .int .i64 y2]] wr fun e w' => e = .returned (.int .i64 (posI (difK l k) (y1, y2))) ∧ Only (fun _ => False) wr w') := Lib.hid (position_p wr oR q cR (difK l k) hKY (by omega) (y1, y2))
      obtain ⟨p, hp⟩ : ∃ p, posI (difK l k) (y1, y2) = p := ⟨_, rfl⟩
      rw [hp] at HPO hst
      clear hy hky hp hKY hO
      by_cases hneg : p < 0
      · rw [if_pos hneg] at hst
        have HST := Lib.hid hst
        have d1 : decide (p < 0) = true := decide_eq_true hneg
        clear hst
        go_wp2_with (first | (go_at_call 23; (refine HPO.out.mono ?_); rintro e w5 ⟨rfl, hO5⟩; have q5 := HC1.out.only hO5 (fun hc => hc); have q50 := q5.c0; have q51 := q5.c1; dsimp only at q50 q51; have HO5 := Lib.hid hO5; clear q5 hO5) | (at_builtin; refine wpList_append_lies _ rfl _ _ 36 rfl w.heap.size 38 i0' (.agg #[.int .i64 0, .int .i64 0]) 2 16 Try.underlying36 hi hz0 hz1 hz2 rfl (by decide) (.slice oR q cR) q ((difK l k).flatMap kyCells) rfl (World.ownsRow.alloc (show w5.ownsRow w.heap.size 38 2 (.slice oR q cR) q ((difK l k).flatMap kyCells) by have hh := HR.out.only HO5.out (fun _ _ hc => hc); unfold KR at hh; rw [HQ.out] at hh; exact hh) _) ⟨w5.heap.size, 0, none⟩ 1 1 (kyCells (y1, y2)) rfl rfl (World.news_of_block (new_block w5 _)) (one_ky _) Nat.one_pos (by unfold maxLen; omega) (by omega) (by show w.heap.size ≤ (Array.push _ _).size; rw [Array.size_push]; have := HWS.out; have := HO5.out.size; omega) _ rfl ?_; intro g2 cg w12 hown8 hgrow8 hat8 hlt8; have HR8 := Lib.hid (KR.snoc (l := difK l k) (a := (y1, y2)) (by rw [HQ.out]; exact hown8)); have HO8 := Lib.hid (((HO.out.trans (HO5.out.lift (K := (w.heap.size ≤ ·)))).alloc (.cells #[.int .i64 y1, .int .i64 y2] 38)).trans (Only.grown (K := (w.heap.size ≤ ·)) hgrow8 (fun g hg => by have hh := HR.out; exact (World.ownsRow.lt hh g hg).1))); clear hown8 hgrow8 hat8 hlt8))
        go_roundw
        case rel => exact ⟨k + 1, by omega, by go_num, by rw [HST.out]; exact HR8.out, HO8.out⟩
        case measure => simp [intOf]; omega
      · rw [if_neg hneg] at hst
        have HST := Lib.hid hst
        have d1 : decide (p < 0) = false := decide_eq_false hneg
        clear hst
        go_wp2_with (go_at_call 23; (refine HPO.out.mono ?_); rintro e w5 ⟨rfl, hO5⟩; have HO5 := Lib.hid hO5; clear hO5)
        go_roundw
        case rel => exact ⟨k + 1, by omega, by go_num, by rw [HST.out]; exact HR.out.only HO5.out (fun _ _ hc => hc), HO.out.trans HO5.out.lift⟩
        case measure => simp [intOf]; omega
    · have hkn : k = n := by omega
      subst hkn
      have HFIN := Lib.hid (show Only (fun _ => False) w wr from ⟨hO.os, hO.tape, hO.output, hO.size, fun i hi _ => hO.block i hi (fun hc => by have hc' : w.heap.size ≤ i := hc; omega)⟩)
      go_wp2
      go_ret
      refine ⟨oR, cR, ?_, ?_, HFIN.out⟩
      · rw [HQ.out]
        rfl
      · rw [HQ.out]
        exact HR.out
end Go.Proofs.Ytlnknkplebaioaa
