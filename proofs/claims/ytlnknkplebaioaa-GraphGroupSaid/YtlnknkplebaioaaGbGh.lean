/-
  WALKS. The graph of the keys: its rows, made and set; read as a graph of whole numbers.
  WALKS. The graph of the keys as a list function; what holds of its rows.
  WALKS. Rows of rows of keys, of the call's own.
-/
import Derived.Test.YtlnknkplebaioaaGbGd
import Derived.Test.YtlnknkplebaioaaGbU
namespace Go.Proofs.Ytlnknkplebaioaa
open Go.RowKit Go.Maps
def intE (G : List (List Nat)) : List (List Int) := G.map (fun l => l.map (fun (x : Nat) => (x : Int)))
theorem intE_len (G : List (List Nat)) : (intE G).length = G.length := List.length_map _
theorem natE_intE (G : List (List Nat)) : natE (intE G) = G := by
  unfold natE intE
  rw [List.map_map]
  have : (fun l : List Int => l.map Int.toNat) ∘ (fun l : List Nat => l.map (fun (x : Nat) => (x : Int))) = id := by
    funext l
    simp [List.map_map, Function.comp_def]
  rw [this, List.map_id]
theorem validE_intE {G : List (List Nat)} (h : ∀ l ∈ G, ∀ x ∈ l, x < G.length) : validE (intE G) = true := by
  unfold validE
  rw [List.all_eq_true]
  intro l hl
  obtain ⟨l', hl', rfl⟩ := List.mem_map.1 hl
  rw [List.all_eq_true]
  intro x hx
  obtain ⟨y, hy, rfl⟩ := List.mem_map.1 hx
  unfold okN
  rw [intE_len]
  have := h l' hl' y hy
  simp
  omega
theorem compsE_intE {G : List (List Nat)} (h : ∀ l ∈ G, ∀ x ∈ l, x < G.length) : compsE (intE G) = compsG G := by
  unfold compsE
  rw [validE_intE h, natE_intE]
  rfl
theorem Edg.edz {w : World} {oa : Option Addr} {n : Nat} {G : List (List Nat)} (h : Edg w oa n G) : Edz w oa n (intE G) := by
  refine ⟨(intE_len G).trans h.len, fun k hk => ?_⟩
  have hk' : k < G.length := by rw [← intE_len G]; exact hk
  obtain ⟨b, o, ra, rn, rc, e, hc, hi⟩ := h.cell k hk'
  have hg : (intE G)[k] = G[k].map (fun (x : Nat) => (x : Int)) := by simp [intE]
  refine ⟨b, o, ra, rn, rc, e, hc, ?_⟩
  rw [hg]
  refine ⟨by rw [List.length_map]; exact hi.len, fun j hj => ?_⟩
  have hj' : j < G[k].length := by rw [List.length_map] at hj; exact hj
  obtain ⟨b', o', e', hc'⟩ := hi.cell j hj'
  refine ⟨b', o', e', ?_⟩
  rw [hc', gt_at hj', List.getElem_map]
theorem RR.put {w : World} {B g n : Nat} {vs : List Value} {L : List (List Nat)} (h : RR w B (.slice (some ⟨g, 0, none⟩) n n) vs L) {p : Nat} (hp : p < L.length) {v' : Value} {l' : List Nat} (hrow : IR w B v' l') (hb : ∀ b, v'.ownBlock = some b → ∀ j, j < L.length → (vAt vs j).ownBlock ≠ some b) :
    RR (w.setCell ⟨g, p, none⟩ v') B (.slice (some ⟨g, 0, none⟩) n n) (vs.set p v') (L.set p l') := by
  have hvl := h.vl
  have hn : n = L.length := by
    obtain ⟨oa', ca', hv⟩ := rowForm h.out
    cases hv
    rfl
  subst hn
  have hO : Only (· = g) w (w.setCell ⟨g, p, none⟩ v') := Only.setCell (K := (· = g)) (Only.refl _ _) rfl _
  refine ⟨?_, fun i hi => ?_, fun i j hi hj hij b e => ?_⟩
  · have := row_set h.out (j := p) (by omega) v'
    rw [List.length_set]
    exact this
  · rw [List.length_set] at hi
    rw [vAt_set (by omega), lAt_set hp]
    split
    · exact hrow.only hO (fun b hb' e => rowApart hrow h.out (by decide) hb' (by rw [show b = g from e]; rfl))
    · exact (h.row i hi).only hO (fun b hb' e => rowApart (h.row i hi) h.out (by decide) hb' (by rw [show b = g from e]; rfl))
  · rw [List.length_set] at hi hj
    rw [vAt_set (by omega)] at e ⊢
    split at e
    · rw [if_neg (by omega)]
      exact hb b e j hj
    · split
      · intro e2
        exact hb b e2 i hi e
      · exact h.dis i j hi hj hij b e
end Go.Proofs.Ytlnknkplebaioaa
namespace Go.Proofs.Ytlnknkplebaioaa
open Go.RowKit Go.Maps
theorem okKy_wf {a : Ky} (h : okKy a) : kyOk a := by
  obtain ⟨h1, h2, h3, h4⟩ := h
  exact ⟨WalkArith.wf_i64 (by omega), WalkArith.wf_i64 (by omega)⟩
theorem mem_kAt {l : List Ky} {k : Nat} (hk : k < l.length) : kAt l k ∈ l := by
  rw [kAt_get hk]
  exact List.getElem_mem hk
theorem difK_mem (l : List Ky) : ∀ k, k ≤ l.length → ∀ x ∈ difK l k, x ∈ l
  | 0, _ => fun x hx => by cases hx
  | k + 1, hk => fun x hx => by
    have hx' : x ∈ (if posI (difK l k) (kAt l k) < 0 then difK l k ++ [kAt l k] else difK l k) := hx
    split at hx'
    · rcases List.mem_append.1 hx' with h | h
      · exact difK_mem l k (by omega) x h
      · rw [List.mem_singleton.1 h]
        exact mem_kAt (by omega)
    · exact difK_mem l k (by omega) x hx'
theorem useL_ok {a : Ky} (h : okKy a) : ∀ x ∈ useL a, kyOk x := by
  have hK : ∀ k, ∀ x ∈ uK a.1.toNat a.2.toNat k, kyOk x := fun k x hx => by
    unfold uK at hx
    split at hx
    · rw [List.mem_singleton.1 hx]
      obtain ⟨h1, h2, h3, h4⟩ := h
      generalize wrap64 _ = y
      have ht : -8 < y.tmod 8 ∧ y.tmod 8 < 8 := ⟨Int.lt_tmod_of_pos y (by decide), Int.tmod_lt_of_pos y (by decide)⟩
      exact ⟨WalkArith.wf_i64 (by simp only; omega), WalkArith.wf_i64 (by simp only; omega)⟩
    · cases hx
  intro x hx
  have hx' : x ∈ (([] ++ uK a.1.toNat a.2.toNat 1) ++ uK a.1.toNat a.2.toNat 2) := hx
  rcases List.mem_append.1 hx' with h1 | h1
  · exact hK 1 x (by simpa using h1)
  · exact hK 2 x h1
theorem useL_len (a : Ky) : (useL a).length ≤ 2 := useK_len _ _ 2
theorem plcK_lt (m l : List Ky) : ∀ k, ∀ x ∈ plcK m l k, x < m.length
  | 0 => fun x hx => by cases hx
  | k + 1 => fun x hx => by
    have hx' : x ∈ (if 0 ≤ posI m (kAt l k) then plcK m l k ++ [(posI m (kAt l k)).toNat] else plcK m l k) := hx
    split at hx'
    · rename_i hp
      rcases List.mem_append.1 hx' with h | h
      · exact plcK_lt m l k x h
      · obtain ⟨i, e, hi⟩ := posI_nat hp
        rw [List.mem_singleton.1 h, e]
        simpa using hi
    · exact plcK_lt m l k x hx'
def rowG (m : List Ky) (j : Nat) : List Nat := plcK m (useL (kAt m j)) (useL (kAt m j)).length
/-- The graph after k rounds; whole. -/
def gK (m : List Ky) (k : Nat) : List (List Nat) := (List.range m.length).map (fun j => if j < k then rowG m j else [])
theorem gK_len (m : List Ky) (k : Nat) : (gK m k).length = m.length := by unfold gK; rw [List.length_map, List.length_range]
theorem gK_zero (m : List Ky) : gK m 0 = List.replicate m.length [] := by
  unfold gK
  apply List.ext_getElem
  · simp
  · intro i h1 h2
    simp
theorem gK_get {m : List Ky} {k i : Nat} (h : i < (gK m k).length) : (gK m k)[i] = if i < k then rowG m i else [] := by simp [gK]
theorem gK_succ {m : List Ky} {k : Nat} (_hk : k < m.length) : gK m (k + 1) = (gK m k).set k (rowG m k) := by
  apply List.ext_getElem
  · rw [List.length_set, gK_len, gK_len]
  · intro i h1 h2
    rw [List.getElem_set, gK_get, gK_get]
    by_cases e : k = i
    · subst e
      rw [if_pos (Nat.lt_succ_self k), if_pos rfl]
    · rw [if_neg e]
      by_cases h : i < k
      · rw [if_pos h, if_pos (by omega)]
      · rw [if_neg h, if_neg (by omega)]
theorem gK_lt (m : List Ky) (k : Nat) : ∀ r ∈ gK m k, ∀ x ∈ r, x < (gK m k).length := by
  intro r hr x hx
  rw [gK_len]
  obtain ⟨j, -, rfl⟩ := List.mem_map.1 hr
  split at hx
  · exact plcK_lt m _ _ x hx
  · cases hx
theorem rowG_len (m : List Ky) (j : Nat) : (rowG m j).length ≤ 2 := Nat.le_trans (plcK_len m _ _) (useL_len _)
end Go.Proofs.Ytlnknkplebaioaa
namespace Go.Proofs.Ytlnknkplebaioaa
open Go.RowKit Go.Maps
theorem infoKys : (Try.prog.info? 36).map (fun i => (i.zero, i.size, i.bytes)) = some (some nilV, 1, 24) := by kernel_rfl
abbrev kLt (L : List (List Ky)) (i : Nat) : List Ky := L.getD i []
structure KKR (w : World) (B : Nat) (v : Value) (vs : List Value) (L : List (List Ky)) : Prop where
  out : w.ownsRow B 36 1 v L.length vs
  row : ∀ i, i < L.length → KR w B (vAt vs i) (kLt L i)
section
variable {w w' w3 : World} {B : Nat} {v : Value} {vs : List Value} {L : List (List Ky)}
theorem KKR.nil (w : World) (B : Nat) : KKR w B nilV [] [] := ⟨World.ownsRow_nil _ _ _ _, fun _ h => absurd h (Nat.not_lt_zero _)⟩
theorem KKR.vl (h : KKR w B v vs L) : vs.length = L.length := by have := h.out.1; omega
theorem KKR.only {K : Nat → Prop} (h : KKR w B v vs L) (ho : Only K w w') (hk : ∀ g, g < w.heap.size → B ≤ g → ¬ K g) : KKR w' B v vs L :=
  ⟨rowKeep h.out (fun g hg => ho.block g (World.ownsRow.lt h.out g hg).2 (hk g (World.ownsRow.lt h.out g hg).2 (World.ownsRow.lt h.out g hg).1)),
   fun i hi => (h.row i hi).only ho (fun g hg => hk g (World.ownsRow.lt (h.row i hi) g hg).2 (World.ownsRow.lt (h.row i hi) g hg).1)⟩
/-- A row is put at the end: the outer row may grow. -/
theorem KKR.push (h : KKR w B v vs L) (hg : w.grownBy w3 v.ownBlock) {v' x : Value} {l : List Ky} (hx : KR w B x l) (hrow : w3.ownsRow B 36 1 v' (L.length + 1) (vs ++ [x])) : KKR w3 B v' (vs ++ [x]) (L ++ [l]) := by
  have hvl := h.vl
  refine ⟨by rw [List.length_append, List.length_singleton]; exact hrow, fun i hi => ?_⟩
  rw [List.length_append, List.length_singleton] at hi
  by_cases e : i = L.length
  · subst e
    have e1 : kLt (L ++ [l]) L.length = l := by
      show (L ++ [l]).getD L.length [] = l
      rw [List.getD_eq_getElem?_getD, List.getElem?_append_right (Nat.le_refl _), Nat.sub_self]
      rfl
    have e2 : vAt (vs ++ [x]) L.length = x := by
      rw [← hvl]
      show (vs ++ [x]).getD vs.length nilV = x
      rw [List.getD_eq_getElem?_getD, List.getElem?_append_right (Nat.le_refl _), Nat.sub_self]
      rfl
    rw [e1, e2]
    exact rowKeep hx (fun b hb => hg.block b (World.ownsRow.lt hx b hb).2 (fun e => rowApart hx h.out (by decide) hb e.symm))
  · have e1 : kLt (L ++ [l]) i = kLt L i := by
      show (L ++ [l]).getD i [] = L.getD i []
      rw [List.getD_eq_getElem?_getD, List.getD_eq_getElem?_getD, List.getElem?_append_left (by omega)]
    rw [e1, vAt_app (by omega)]
    have hr := h.row i (by omega)
    exact rowKeep hr (fun b hb => hg.block b (World.ownsRow.lt hr b hb).2 (fun e => rowApart hr h.out (by decide) hb e.symm))
end
/-- A slice of slices of keys, read. -/
structure Kyz (w : World) (oa : Option Addr) (n : Nat) (L : List (List Ky)) : Prop where
  len : L.length = n
  cell : ∀ k (hk : k < L.length), ∃ b o ra rn rc, oa = some ⟨b, o, none⟩ ∧ w.cell? ⟨b, o + k, none⟩ = some (.slice ra rn rc) ∧ Kys w ra rn L[k]
theorem KKR.kyz {w : World} {B n ca : Nat} {oa : Option Addr} {vs : List Value} {L : List (List Ky)} (h : KKR w B (.slice oa n ca) vs L) : Kyz w oa n L := by
  obtain ⟨oa', ca', hv⟩ := rowForm h.out
  cases hv
  refine ⟨rfl, fun k hk => ?_⟩
  rcases h.out.2 with ⟨hv, hn⟩ | ⟨g, cap, cur, hv, hb, hg, hle, hr⟩
  · omega
  · cases hv
    have hkl : k < vs.length := by rw [h.vl]; exact hk
    have e : vAt vs k = vs[k] := by show vs.getD k nilV = _; rw [List.getD_eq_getElem?_getD, List.getElem?_eq_getElem hkl]; rfl
    have hc := World.ownsRow.cells h.out (g := g) rfl k (vs[k]) (List.getElem?_eq_getElem hkl)
    rw [add_plain, Nat.zero_add, ← e] at hc
    have hrw := h.row k hk
    have e2 : kLt L k = L[k] := by show L.getD k [] = _; rw [List.getD_eq_getElem?_getD, List.getElem?_eq_getElem hk]; rfl
    rw [e2] at hrw
    obtain ⟨ra, rc, e3⟩ := rowForm hrw
    rw [e3] at hc hrw
    exact ⟨g, 0, ra, _, rc, rfl, by rw [Nat.zero_add]; exact hc, hrw.kys⟩
/-- The groups: each component's keys. -/
def grpL (m : List Ky) (C : List (List Nat)) : List (List Ky) := C.map (fun c => c.map (kAt m))
theorem grpL_take (m : List Ky) {C : List (List Nat)} {k : Nat} (hk : k < C.length) : grpL m (C.take (k + 1)) = grpL m (C.take k) ++ [(lAt C k).map (kAt m)] := by
  unfold grpL
  rw [List.take_succ_eq_append_getElem hk, List.map_append]
  have : lAt C k = C[k] := by show C.getD k [] = _; rw [List.getD_eq_getElem?_getD, List.getElem?_eq_getElem hk]; rfl
  rw [this]
  rfl
end Go.Proofs.Ytlnknkplebaioaa
