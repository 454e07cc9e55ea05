/-
  The supply of names in memory: what its blocks hold, and what its calls do to it.
-/
import Derived.Test.YtniejaachfhkdaaGreatDoorRef
import Derived.Maps.Views
import Derived.Maps.OwnOps
import Derived.Maps.OwnSet
import Derived.StringKeys
namespace Go.Proofs.YtniejaachfhkdaaGreatDoor
open Go.RowKit Go.Maps
/-- w' is w but for the blocks that K names, and new ones. -/
structure Only (K : Nat → Prop) (w w' : World) : Prop where
  os : w'.os = w.os
  tape : w'.tape = w.tape
  output : w'.output = w.output
  size : w.heap.size ≤ w'.heap.size
  block : ∀ k, k < w.heap.size → ¬ K k → w'.heap[k]? = w.heap[k]?
theorem Only.refl (K : Nat → Prop) (w : World) : Only K w w := ⟨rfl, rfl, rfl, Nat.le_refl _, fun _ _ _ => rfl⟩
theorem Only.trans {K : Nat → Prop} {a b c : World} (h : Only K a b) (k : Only K b c) : Only K a c :=
  ⟨k.os.trans h.os, k.tape.trans h.tape, k.output.trans h.output, Nat.le_trans h.size k.size, fun i hi hk => (k.block i (Nat.lt_of_lt_of_le hi h.size) hk).trans (h.block i hi hk)⟩
theorem Only.wide {K K' : Nat → Prop} {a b : World} (h : Only K a b) (hk : ∀ i, K i → K' i) : Only K' a b :=
  ⟨h.os, h.tape, h.output, h.size, fun i hi hn => h.block i hi (fun hc => hn (hk i hc))⟩
theorem Only.of_below {K : Nat → Prop} {a b : World} (h : Below a.heap.size a b) : Only K a b := ⟨h.os, h.tape, h.output, h.size, fun i hi _ => h.block i hi⟩
theorem Only.of_grown {a b : World} {r : Nat} (h : a.grownBy b (some r)) : Only (· = r) a b :=
  ⟨h.os, h.tape, h.output, h.size, fun i hi hn => h.block i hi (fun e => hn (by cases e; rfl))⟩
theorem Only.below {K : Nat → Prop} {a b : World} {B : Nat} (h : Only K a b) (hB : B ≤ a.heap.size) (hk : ∀ i, K i → B ≤ i) : Below B a b :=
  ⟨h.os, h.tape, h.output, h.size, fun i hi => h.block i (by omega) (fun hc => by have := hk i hc; omega)⟩
theorem var_same {w w' : World} {n : String} {g : Nat} {cs : Array Value} (hg : Tryz.prog.globalNamed n = some g) (hb : w'.heap[g]? = w.heap[g]?) (h : w.var? Tryz.prog n = some cs) : w'.var? Tryz.prog n = some cs := by
  unfold World.var? at h ⊢
  rw [hg] at h ⊢
  simp only [Option.bind_some] at h ⊢
  rw [hb]; exact h
theorem Q.only {W w w' : World} {K : Nat → Prop} (h : Q W w) (ho : Only K w w') (hk : ∀ i, K i → W.heap.size ≤ i) : Q W w' := by
  have hl := h.lo
  have hz := h.bel.size
  have hs : ∀ i, i < W.heap.size → w'.heap[i]? = w.heap[i]? := fun i hi => ho.block i (by omega) (fun hc => by have := hk i hc; omega)
  refine ⟨h.bel.trans (ho.below hz hk), hl, ?_, var_same gPow (hs _ hl.2.1) h.tab, ?_, ?_⟩
  · obtain ⟨m, hm⟩ := h.m
    exact ⟨m, (World.cell?_of_block (w := w) (hs _ hl.1)).trans hm⟩
  · obtain ⟨tp, p, hv⟩ := h.es
    exact ⟨tp, p, var_same gSyn (hs _ hl.2.2.1) hv⟩
  · obtain ⟨tp, p, hv⟩ := h.er
    exact ⟨tp, p, var_same gRan (hs _ hl.2.2.2) hv⟩
theorem kU : Keyed Tryz.prog 9 := string_keyed Tryz.underlying9
theorem zB (w : World) : (zeroValue 4).run Tryz.prog w = .ok (.bool false) w := by kernel_rfl
theorem zI (w : World) : (zeroValue 3).run Tryz.prog w = .ok (.int .i64 0) w := by kernel_rfl
theorem keyS {s : ByteArray} (hs : s.size ≤ 2000000) : keyOf Tryz.prog 9 (.string s) = some (.string s.data.toList) :=
  WideMaps.keyOf_string_mk Tryz.underlying9 (by unfold maxLen; omega)
/-- Where a supply lies: its struct, its two maps. -/
structure Pl where
  a : Nat
  u : Nat
  t : Nat
def Pl.has (p : Pl) (i : Nat) : Prop := i = p.a ∨ i = p.u ∨ i = p.t
/-- A supply at p with the used names U; T: for each base the number that was tried last; N bounds what the maps hold. -/
structure Sup (W : World) (p : Pl) (U : List (List UInt8)) (T : List UInt8 → Nat) (N : Nat) (w : World) : Prop where
  q : Q W w
  la : W.heap.size ≤ p.a
  lu : W.heap.size ≤ p.u
  lt : W.heap.size ≤ p.t
  au : p.a ≠ p.u
  at' : p.a ≠ p.t
  ut : p.u ≠ p.t
  blk : w.heap[p.a]? = some (.cells #[.pointer (some ⟨p.a, 0, none⟩), .map (some p.u), .map (some p.t)] 67 (0, 0))
  nN : N ≤ 1000000000
  tN : ∀ b, T b ≤ N
  ou : ∃ D : DataW Unit, w.ownsMap Tryz.prog 9 (plainElem Tryz.prog 4) p.u N D ∧ ∀ s, D.atKey (.string s) (.lit (.bool false)) = .lit (.bool (U.contains s))
  ot : ∃ D : DataW Unit, w.ownsMap Tryz.prog 9 (plainElem Tryz.prog 3) p.t N D ∧ ∀ s, D.atKey (.string s) (.lit (.int .i64 0)) = .lit (.int .i64 (T s))
theorem ownsMap_same {w w' : World} {k : TypeId} {R : Value → Option (DataW Unit × List MemPlace)} {b n : Nat} {D : DataW Unit} (h : w.ownsMap Tryz.prog k R b n D) (hb : w'.heap[b]? = w.heap[b]?) : w'.ownsMap Tryz.prog k R b n D := by
  obtain ⟨es, clock, hh, r⟩ := h
  exact ⟨es, clock, hb.trans hh, r⟩
/-- What leaves a supply's blocks alone leaves it as it is. -/
theorem Sup.only {W w w' : World} {p : Pl} {U : List (List UInt8)} {T : List UInt8 → Nat} {N : Nat} {K : Nat → Prop} (h : Sup W p U T N w) (ho : Only K w w') (hk : ∀ i, K i → W.heap.size ≤ i) (hp : ∀ i, K i → ¬ p.has i) : Sup W p U T N w' := by
  obtain ⟨Du, hu, hu2⟩ := h.ou
  obtain ⟨Dt, ht, ht2⟩ := h.ot
  have la : p.a < w.heap.size := lt_of_block h.blk
  have e : ∀ i, p.has i → i < w.heap.size → w'.heap[i]? = w.heap[i]? := fun i hi hl => ho.block i hl (fun hc => hp i hc hi)
  exact { q := h.q.only ho hk, la := h.la, lu := h.lu, lt := h.lt, au := h.au, at' := h.at', ut := h.ut, nN := h.nN, tN := h.tN,
          blk := (e _ (.inl rfl) la).trans h.blk,
          ou := ⟨Du, ownsMap_same hu (e _ (.inr (.inl rfl)) hu.lt), hu2⟩,
          ot := ⟨Dt, ownsMap_same ht (e _ (.inr (.inr rfl)) ht.lt), ht2⟩ }
theorem Sup.below {W w w' : World} {p : Pl} {U : List (List UInt8)} {T : List UInt8 → Nat} {N : Nat} (h : Sup W p U T N w) (hb : Below w.heap.size w w') : Sup W p U T N w' :=
  h.only (K := fun _ => False) (Only.of_below hb) (fun _ hc => hc.elim) (fun _ hc => hc.elim)
theorem Sup.cell0 {W w : World} {p : Pl} {U T N} (h : Sup W p U T N w) : w.cell? ⟨p.a, 0, none⟩ = some (.pointer (some ⟨p.a, 0, none⟩)) := by simp [World.cell?, h.blk]
theorem Sup.cell1 {W w : World} {p : Pl} {U T N} (h : Sup W p U T N w) : w.cell? ⟨p.a, 1, none⟩ = some (.map (some p.u)) := by simp [World.cell?, h.blk]
theorem Sup.cell2 {W w : World} {p : Pl} {U T N} (h : Sup W p U T N w) : w.cell? ⟨p.a, 2, none⟩ = some (.map (some p.t)) := by simp [World.cell?, h.blk]
theorem elem_bool {P : Program} {e : TypeId} (he : P.underlying e = some .bool) {v : Value} {y : Bool} {ps : List MemPlace} (h : plainElem (H := Unit) P e v = some (.lit (.bool y), ps)) : ∃ x, v = .bool x ∧ x = y := by
  unfold plainElem at h
  rw [he] at h
  split at h
  · cases h; exact ⟨_, rfl, rfl⟩
  · rename_i h1; cases h1
  · rename_i h1; cases h1
  · cases h
/-- Is the name used? -/
theorem Sup.look {W w : World} {p : Pl} {U T N} (h : Sup W p U T N w) {s : ByteArray} (hs : s.size ≤ 2000000) :
    (Instr.lookup 64 (.map (some p.u)) (.string s) false).run Tryz.prog w = .ok (.bool (U.contains s.data.toList)) w := by
  obtain ⟨D, ho, hD⟩ := h.ou
  obtain ⟨v, ps, hrun, hv⟩ := ho.lookup kU Tryz.underlying64 (zB w) (plainElem_bool Tryz.underlying4 false) (keyS hs)
  rw [hD] at hv
  rw [hrun]
  obtain ⟨x, rfl, hx⟩ := elem_bool Tryz.underlying4 hv
  rw [hx]
/-- The name is marked as used. -/
theorem Sup.mark {W w : World} {p : Pl} {U T N} (h : Sup W p U T N w) (hN : N + 1 ≤ 1000000000) {s : ByteArray} (hs : s.size ≤ 2000000) :
    ∃ w', (Instr.mapUpdate 64 (.map (some p.u)) (.string s) (.bool true)).run Tryz.prog w = .ok () w' ∧ Sup W p (s.data.toList :: U) T (N + 1) w' ∧ Only (· = p.u) w w' := by
  obtain ⟨D, ho, hD⟩ := h.ou
  obtain ⟨w', hrun, ho', hg⟩ := ho.update kU Tryz.underlying64 (by have := h.nN; unfold maxLen; omega) (keyS hs) (plainElem_bool Tryz.underlying4 true)
  have hO := Only.of_grown hg
  obtain ⟨Dt, ht, ht2⟩ := h.ot
  refine ⟨w', hrun, ?_, hO⟩
  refine { q := h.q.only hO (fun i hi => hi ▸ h.lu), la := h.la, lu := h.lu, lt := h.lt, au := h.au, at' := h.at', ut := h.ut, nN := hN, tN := fun b => Nat.le_succ_of_le (h.tN b),
           blk := (hO.block _ (lt_of_block h.blk) h.au).trans h.blk,
           ou := ⟨_, ho', fun s' => ?_⟩,
           ot := ⟨Dt, (ownsMap_same ht (hO.block _ ht.lt (Ne.symm h.ut))).mono (Nat.le_succ _), ht2⟩ }
  by_cases e : s' = s.data.toList
  · subst e
    rw [atKey_put_same ho.isMap (by trivial)]
    simp
  · rw [atKey_put_other (by intro hc; cases hc; exact e rfl), hD]
    simp [e]
/-- The number that was tried last. -/
theorem Sup.tried {W w : World} {p : Pl} {U T N} (h : Sup W p U T N w) {s : ByteArray} (hs : s.size ≤ 2000000) :
    (Instr.lookup 65 (.map (some p.t)) (.string s) false).run Tryz.prog w = .ok (.int .i64 (T s.data.toList)) w := by
  obtain ⟨D, ho, hD⟩ := h.ot
  obtain ⟨c, hrun, hat, _⟩ := ho.lookup_int kU Tryz.underlying65 Tryz.underlying3 (zI w) (keyS hs)
  rw [hD] at hat
  rw [hrun]
  cases hat
  rfl
def upd (T : List UInt8 → Nat) (b : List UInt8) (n : Nat) : List UInt8 → Nat := fun x => if x = b then n else T x
theorem Sup.count {W w : World} {p : Pl} {U T N} (h : Sup W p U T N w) (hN : N + 1 ≤ 1000000000) {s : ByteArray} (hs : s.size ≤ 2000000) :
    ∃ w', (Instr.mapUpdate 65 (.map (some p.t)) (.string s) (.int .i64 ((T s.data.toList : Int) + 1))).run Tryz.prog w = .ok () w' ∧ Sup W p U (upd T s.data.toList (T s.data.toList + 1)) (N + 1) w' ∧ Only (· = p.t) w w' := by
  obtain ⟨D, ho, hD⟩ := h.ot
  have hT := h.tN s.data.toList
  obtain ⟨w', hrun, ho', hg⟩ := ho.update kU Tryz.underlying65 (by have := h.nN; unfold maxLen; omega) (keyS hs) (plainElem_int (a := (T s.data.toList : Int) + 1) Tryz.underlying3 (WalkArith.wf_i64 (by omega)))
  have hO := Only.of_grown hg
  obtain ⟨Du, hu, hu2⟩ := h.ou
  refine ⟨w', hrun, ?_, hO⟩
  refine { q := h.q.only hO (fun i hi => hi ▸ h.lt), la := h.la, lu := h.lu, lt := h.lt, au := h.au, at' := h.at', ut := h.ut, nN := hN, tN := fun b => ?_,
           blk := (hO.block _ (lt_of_block h.blk) h.at').trans h.blk,
           ou := ⟨Du, (ownsMap_same hu (hO.block _ hu.lt h.ut)).mono (Nat.le_succ _), hu2⟩,
           ot := ⟨_, ho', fun s' => ?_⟩ }
  · unfold upd
    split
    · omega
    · exact Nat.le_succ_of_le (h.tN b)
  · by_cases e : s' = s.data.toList
    · subst e
      rw [atKey_put_same ho.isMap (by trivial)]
      simp [upd]
    · rw [atKey_put_other (by intro hc; cases hc; exact e rfl), hD]
      simp [upd, e]
end Go.Proofs.YtniejaachfhkdaaGreatDoor
