/-
  PLAIN. When there is no fault; the reference's ascending lists of names.
  WALKS. A slice of names, of whatever length, appended.
-/
import Derived.Test.YtigmdiagdlbdpaaGreatMgr
import Derived.Test.YtigmdiagdlbdpaaGreatGbAp
namespace Go.Proofs.YtigmdiagdlbdpaaGreat
theorem accF_good {l : List Md} (hl : l.length ≤ 32) (h : Good l) : accF l = none := by
  have h1 : conA l = none := by
    unfold conA conF
    rw [if_neg (by omega), twiceP_none.2 ⟨h.nd, fun _ _ hc => by cases hc⟩]
    simp only
    rw [lacksP_none.2 (fun m hm s hs => nsP_mem.2 (h.im m hm s hs))]
  unfold accF
  rw [h1]
  simp only
  rw [if_pos h.ac]
theorem Good.perm {l l' : List Md} (h : Good l) (hp : l.Perm l') : Good l' :=
  ⟨(hp.map _).nodup_iff.1 h.nd, fun m hm s hs => (hp.map _).mem_iff.1 (h.im m (hp.mem_iff.2 hm) s hs), by rw [← grP_same hp h.nd]; exact h.ac⟩
/-- The order of the list does not matter for whether there is a fault. -/
theorem accF_rev {l : List Md} (hl : l.length ≤ 32) : accF l.reverse = none ↔ accF l = none := by
  constructor
  · intro h
    exact accF_good hl ((accF_none h).2.perm (List.reverse_perm l))
  · intro h
    exact accF_good (by rw [List.length_reverse]; exact hl) ((accF_none h).2.perm (List.reverse_perm l).symm)
/-- An ascending list with a name put in. -/
def insF (s : Nm) : List Nm → Bool → List Nm
  | [], d => if d then [] else [s]
  | x :: r, d => if d = false ∧ s ≤ x then (if s < x then s :: x :: insF s r true else x :: insF s r true) else x :: insF s r d
theorem insF_true (s : Nm) : ∀ l, insF s l true = l
  | [] => rfl
  | x :: r => by
    unfold insF
    rw [if_neg (by simp), insF_true s r]
def insP (l : List Nm) (s : Nm) : List Nm := insF s l false
theorem insP_cons (x : Nm) (r : List Nm) (s : Nm) : insP (x :: r) s = if s ≤ x then (if s < x then s :: x :: r else x :: r) else x :: insP r s := by
  unfold insP
  rw [insF]
  by_cases h : s ≤ x
  · rw [if_pos ⟨rfl, h⟩, if_pos h, insF_true]
  · rw [if_neg (fun hc => h hc.2), if_neg h]
theorem insP_mem {s t : Nm} : ∀ {l : List Nm}, t ∈ insP l s ↔ t = s ∨ t ∈ l
  | [] => by show t ∈ [s] ↔ _; simp
  | x :: r => by
    rw [insP_cons]
    by_cases h : s ≤ x
    · rw [if_pos h]
      by_cases h2 : s < x
      · rw [if_pos h2]; simp
      · rw [if_neg h2]
        have e : s = x := List.le_antisymm h (List.not_lt.1 h2)
        subst e
        simp
    · rw [if_neg h, List.mem_cons, insP_mem (l := r), List.mem_cons]
      constructor
      · rintro (h | h | h)
        · exact .inr (.inl h)
        · exact .inl h
        · exact .inr (.inr h)
      · rintro (h | h | h)
        · exact .inr (.inl h)
        · exact .inl h
        · exact .inr (.inr h)
theorem insP_sorted {s : Nm} : ∀ {l : List Nm}, l.Pairwise (· < ·) → (insP l s).Pairwise (· < ·)
  | [], _ => List.pairwise_singleton _ _
  | x :: r, h => by
    rw [insP_cons]
    rw [List.pairwise_cons] at h
    by_cases h1 : s ≤ x
    · rw [if_pos h1]
      by_cases h2 : s < x
      · rw [if_pos h2, List.pairwise_cons, List.pairwise_cons]
        refine ⟨fun y hy => ?_, h⟩
        rcases List.mem_cons.1 hy with e | hy
        · rw [e]; exact h2
        · exact List.lt_trans h2 (h.1 y hy)
      · rw [if_neg h2, List.pairwise_cons]
        exact h
    · rw [if_neg h1, List.pairwise_cons]
      refine ⟨fun y hy => ?_, insP_sorted h.2⟩
      rcases insP_mem.1 hy with e | hy
      · rw [e]; exact List.not_le.1 h1
      · exact h.1 y hy
theorem insF_len (s : Nm) : ∀ l d, (insF s l d).length ≤ l.length + (if d then 0 else 1)
  | [], d => by cases d <;> simp [insF]
  | x :: r, d => by
    unfold insF
    have h1 := insF_len s r true
    have h2 := insF_len s r d
    simp only [if_true] at h1
    split
    · rename_i hc
      rw [hc.1]
      split <;> simp only [List.length_cons] <;> simp <;> omega
    · simp only [List.length_cons]; omega
theorem insP_len (l : List Nm) (s : Nm) : (insP l s).length ≤ l.length + 1 := insF_len s l false
/-- What a module imports, ascending. -/
def impF (nm : Nm) (o : List Nm) (m : Md) : List Nm := if m.nm = nm then m.im.foldl insP o else o
def impP (l : List Md) (nm : Nm) : List Nm := l.foldl (impF nm) []
theorem foldIns_mem {t : Nm} : ∀ (im o : List Nm), t ∈ im.foldl insP o ↔ t ∈ o ∨ t ∈ im
  | [], o => by simp
  | s :: r, o => by
    rw [List.foldl_cons, foldIns_mem r, insP_mem, List.mem_cons]
    constructor
    · rintro ((h | h) | h)
      · exact .inr (.inl h)
      · exact .inl h
      · exact .inr (.inr h)
    · rintro (h | h | h)
      · exact .inl (.inr h)
      · exact .inl (.inl h)
      · exact .inr h
theorem foldIns_sorted : ∀ (im o : List Nm), o.Pairwise (· < ·) → (im.foldl insP o).Pairwise (· < ·)
  | [], _, h => h
  | s :: r, o, h => by rw [List.foldl_cons]; exact foldIns_sorted r _ (insP_sorted h)
theorem foldIns_len : ∀ (im o : List Nm), (im.foldl insP o).length ≤ o.length + im.length
  | [], o => Nat.le_refl _
  | s :: r, o => by
    rw [List.foldl_cons, List.length_cons]
    have h1 := foldIns_len r (insP o s)
    have h2 := insP_len o s
    omega
theorem foldImp_mem {nm t : Nm} : ∀ (l : List Md) (o : List Nm), t ∈ l.foldl (impF nm) o ↔ t ∈ o ∨ ∃ m ∈ l, m.nm = nm ∧ t ∈ m.im
  | [], o => by simp
  | m :: r, o => by
    rw [List.foldl_cons, foldImp_mem r]
    unfold impF
    by_cases e : m.nm = nm
    · rw [if_pos e, foldIns_mem]
      constructor
      · rintro ((h | h) | ⟨m', h1, h2⟩)
        · exact .inl h
        · exact .inr ⟨m, List.mem_cons_self .., e, h⟩
        · exact .inr ⟨m', List.mem_cons_of_mem _ h1, h2⟩
      · rintro (h | ⟨m', h1, h2⟩)
        · exact .inl (.inl h)
        · rcases List.mem_cons.1 h1 with e2 | h1
          · subst e2; exact .inl (.inr h2.2)
          · exact .inr ⟨m', h1, h2⟩
    · rw [if_neg e]
      constructor
      · rintro (h | ⟨m', h1, h2⟩)
        · exact .inl h
        · exact .inr ⟨m', List.mem_cons_of_mem _ h1, h2⟩
      · rintro (h | ⟨m', h1, h2⟩)
        · exact .inl h
        · rcases List.mem_cons.1 h1 with e2 | h1
          · subst e2; exact absurd h2.1 e
          · exact .inr ⟨m', h1, h2⟩
theorem foldImp_sorted {nm : Nm} : ∀ (l : List Md) (o : List Nm), o.Pairwise (· < ·) → (l.foldl (impF nm) o).Pairwise (· < ·)
  | [], _, h => h
  | m :: r, o, h => by
    rw [List.foldl_cons]
    refine foldImp_sorted r _ ?_
    unfold impF
    split
    · exact foldIns_sorted _ _ h
    · exact h
theorem impP_mem {l : List Md} {nm t : Nm} : t ∈ impP l nm ↔ ∃ m ∈ l, m.nm = nm ∧ t ∈ m.im := by
  unfold impP
  rw [foldImp_mem]
  simp
theorem impP_sorted (l : List Md) (nm : Nm) : (impP l nm).Pairwise (· < ·) := foldImp_sorted l [] List.Pairwise.nil
theorem impK_len {nm : Nm} {b : Nat} : ∀ (l : List Md) (o : List Nm), (∀ m ∈ l, m.im.length ≤ b) → (l.foldl (impF nm) o).length ≤ o.length + l.length * b
  | [], o, _ => by simp
  | m :: r, o, h => by
    rw [List.foldl_cons, List.length_cons, Nat.succ_mul]
    have h1 := impK_len (nm := nm) r (impF nm o m) (fun m' hm' => h m' (List.mem_cons_of_mem _ hm'))
    have h2 : (impF nm o m).length ≤ o.length + m.im.length := by
      unfold impF
      split
      · exact foldIns_len _ _
      · omega
    have h3 := h m (List.mem_cons_self ..)
    omega
/-- Two ascending lists of the same names are one. -/
theorem sorted_ext {a b : List Nm} (ha : a.Pairwise (· < ·)) (hb : b.Pairwise (· < ·)) (h : ∀ t, t ∈ a ↔ t ∈ b) : a = b := by
  have hna : a.Nodup := ha.imp (fun h e => by subst e; exact List.lt_irrefl _ h)
  have hnb : b.Nodup := hb.imp (fun h e => by subst e; exact List.lt_irrefl _ h)
  refine List.Perm.eq_of_pairwise (le := fun x y => x ≤ y) (fun x y _ _ h1 h2 => List.le_antisymm h1 h2) (ha.imp (fun h => List.le_of_lt h)) (hb.imp (fun h => List.le_of_lt h)) ?_
  exact (List.perm_ext_iff_of_nodup hna hnb).2 h
/-- The names, as the reference lists them. -/
theorem foldNm_mem {t : Nm} (l : List Md) : t ∈ (l.map Md.nm).foldl insP [] ↔ t ∈ l.map Md.nm := by rw [foldIns_mem]; simp
end Go.Proofs.YtigmdiagdlbdpaaGreat
namespace Go.Proofs.YtigmdiagdlbdpaaGreat
open Go.RowKit Go.Maps
theorem nAt_ext {l l' : List Nm} (hl : l.length = l'.length) (h : ∀ i, i < l.length → nAt l i = nAt l' i) : l = l' := by
  apply List.ext_getElem hl
  intro i h1 h2
  rw [← nAt_get h1, ← nAt_get h2]
  exact h i h1
theorem drop_nm {l : List Nm} {k : Nat} (hk : k < l.length) : l.drop k = nAt l k :: l.drop (k + 1) := by
  rw [List.drop_eq_getElem_cons hk, nAt_get hk]
theorem strz_nil (w : World) (c : Nat) (oa : Option Addr) : Strz w oa 0 [] := ⟨rfl, fun _k hk => absurd hk (Nat.not_lt_zero _)⟩
theorem strz_one (w : World) (y : Nm) (t : TypeId) : Strz (w.alloc (.cells #[encStr y] t)) (some ⟨w.heap.size, 0, none⟩) 1 [y] :=
  ⟨rfl, fun k hk => ⟨w.heap.size, 0, rfl, by
    match k, hk with
    | 0, _ => exact (blk_c (k := 0) (new_block w (.cells #[encStr y] t)) rfl).1⟩⟩
theorem strz_news {w : World} {b o n : Nat} {l : List Nm} (h : Strz w (some ⟨b, o, none⟩) n l) : ∀ j u, (l.map encStr)[j]? = some u → w.cell? ((⟨b, o, none⟩ : Addr).add j) = some u := fun j u hu => by
  rw [List.getElem?_map] at hu
  cases hj : l[j]? with
  | none => rw [hj] at hu; cases hu
  | some x =>
    rw [hj] at hu
    cases hu
    obtain ⟨hjl, e⟩ := List.getElem?_eq_some_iff.1 hj
    obtain ⟨b', o', e', hc⟩ := h.cell j hjl
    cases e'
    rw [add_plain, hc, nAt_get hjl, e]
theorem strz_ones (l : List Nm) : ∀ u ∈ l.map encStr, u.oneCell' = true := fun u hu => by
  obtain ⟨x, -, rfl⟩ := List.mem_map.1 hu
  rfl
theorem run_append_nm (w : World) (ty : TypeId) (B : Nat) (v : Value) (xs : List Nm) (hown : SR w B v xs) (oS : Option Addr) (m c : Nat) (l : List Nm) (hS : Strz w oS m l) (hsz : xs.length + m ≤ 1000000000000) (hB : B ≤ w.heap.size) :
    ∃ v' w', (Builtin.append_ #[25, 25] ty #[v, .slice oS m c]).run Tryz.prog w = .ok v' w' ∧ SR w' B v' (xs ++ l) ∧ w.grownBy w' v.ownBlock := by
  obtain ⟨i0', hi, hz0, hz1, hz2⟩ := info_parts infoStr
  have hown' : w.ownsRow B 9 1 v xs.length (xs.map encStr) := hown
  have nothing : ∀ (x : Value), Src Tryz.prog i0'.size 25 x 0 [] w → (Builtin.append_ #[25, 25] ty #[v, x]).run Tryz.prog w = .ok v w := fun x hx => by
    rcases hown'.2 with ⟨rfl, -⟩ | ⟨g, cap, cur, rfl, -, -, hle, -⟩
    · exact Go.run_append_nothing w _ _ ty _ i0' Tryz.underlying25 hi none 0 0 (Nat.le_refl _) _ hx
    · exact Go.run_append_nothing w _ _ ty _ i0' Tryz.underlying25 hi _ xs.length cap hle _ hx
  have conv : ∀ (w' : World) (v' : Value), w'.ownsRow B 9 1 v' (xs.length + m) (xs.map encStr ++ l.map encStr) → SR w' B v' (xs ++ l) := fun w' v' h => by
    unfold SR
    rw [List.length_append, List.map_append, hS.len]
    exact h
  cases oS with
  | none =>
    have hl : l = [] := by
      cases l with
      | nil => rfl
      | cons x r =>
        obtain ⟨b, o, e, -⟩ := hS.cell 0 (by simp)
        cases e
    have hm : m = 0 := by rw [← hS.len, hl]; rfl
    subst hl
    subst hm
    exact ⟨v, w, nothing _ (Go.Src.ofNil (size := i0'.size) w Tryz.underlying25 c), by rw [List.append_nil]; exact hown, World.grownBy.refl _ _⟩
  | some ad =>
    by_cases hm : m = 0
    · subst hm
      have hl : l = [] := List.length_eq_zero_iff.1 hS.len
      subst hl
      exact ⟨v, w, nothing _ (Go.Src.ofSlice (size := i0'.size) w Tryz.underlying25 ad 0 c [] (by simp) (fun j u h => by simp at h) (fun u h => by cases h)), by rw [List.append_nil]; exact hown, World.grownBy.refl _ _⟩
    · obtain ⟨b, o, e, -⟩ := hS.cell 0 (by rw [hS.len]; omega)
      cases e
      obtain ⟨v', w', h1, h2, h3, -, -⟩ := run_append_own_at (P := Tryz.prog) w B 25 ty 9 i0' (.string ⟨#[]⟩) 1 16 Tryz.underlying25 hi hz0 hz1 hz2 rfl (by decide) v xs.length (xs.map encStr) hown' ⟨b, o, none⟩ m c (l.map encStr) (by rw [List.length_map, hS.len, Nat.mul_one]) (strz_news hS) (strz_ones l) (by unfold maxLen; omega) (by omega) hB
      exact ⟨v', w', h1, conv _ _ h2, h3⟩
/-- What an append leaves: the row with the names behind it; from block B on it writes. -/
def AppQ (B : Nat) (w : World) (xs l : List Nm) (m : Nat) (oa : Option Addr) (ca : Nat) (w' : World) : Prop := SR w' B (.slice oa (xs.length + m) ca) (xs ++ l) ∧ Only (B ≤ ·) w w'
theorem run_append_nm' (w : World) (ty : TypeId) (B : Nat) (v : Value) (xs : List Nm) (hown : SR w B v xs) (oS : Option Addr) (m c : Nat) (l : List Nm) (hS : Strz w oS m l) (hsz : xs.length + m ≤ 1000000000000) (hB : B ≤ w.heap.size) :
    ∃ oa ca w', (Builtin.append_ #[25, 25] ty #[v, .slice oS m c]).run Tryz.prog w = .ok (.slice oa (xs.length + m) ca) w' ∧ AppQ B w xs l m oa ca w' := by
  obtain ⟨v', w', h1, h2, h3⟩ := run_append_nm w ty B v xs hown oS m c l hS hsz hB
  obtain ⟨oa, ca, hv⟩ := rowForm h2
  rw [List.length_append, hS.len] at hv
  subst hv
  exact ⟨oa, ca, w', h1, h2, Only.grown h3 (fun g hg => (World.ownsRow.lt hown g hg).1)⟩
theorem wpList_append_nm {w : World} {ops : Array Oper} {rest : List Oper} {o : Oper} {a : Act} {Q : Exit → Act → World → Prop} (hg : o.guard = none) (s x : Operand)
    (ho : o.op = .call { callee := .builtin .append, args := #[s, x], argTypes := #[25, 25] }) (B : Nat) (v : Value) (xs : List Nm) (hs : a.eval s = v) (hown : SR w B v xs) (oS : Option Addr) (m c : Nat) (l : List Nm) (hx : a.eval x = .slice oS m c) (hS : Strz w oS m l)
    (hsz : xs.length + m ≤ 1000000000000) (hB : B ≤ w.heap.size) (h : ∀ oa ca w', AppQ B w xs l m oa ca w' → wpList Tryz.prog ops Q rest (a.put o.dst (.slice oa (xs.length + m) ca)) w') : wpList Tryz.prog ops Q (o :: rest) a w := by
  obtain ⟨oa, ca, w', h1, h2⟩ := run_append_nm' w o.type B v xs hown oS m c l hS hsz hB
  refine wpList_plain hg fun K hK => ?_
  unfold Oper.wp
  simp [execOp, ho, resolve, invoke, builtin, hs, hx, h1, Result.andThen]
  exact hK _ _ (h oa ca w' h2)
theorem step_append_nm {w : World} {ops : Array Oper} {o : Oper} {a : Act} {K : Act → World → Prop} {Q : Exit → Act → World → Prop} {E : Prop} (hg : o.guard = none) (s x : Operand)
    (ho : o.op = .call { callee := .builtin .append, args := #[s, x], argTypes := #[25, 25] }) (B : Nat) (v : Value) (xs : List Nm) (hs : a.eval s = v) (hown : SR w B v xs) (oS : Option Addr) (m c : Nat) (l : List Nm) (hx : a.eval x = .slice oS m c) (hS : Strz w oS m l)
    (hsz : xs.length + m ≤ 1000000000000) (hB : B ≤ w.heap.size) (h : ∀ oa ca w', AppQ B w xs l m oa ca w' → K (a.put o.dst (.slice oa (xs.length + m) ca)) w') : if Region.wanted o (yielded ops a.tmps) = true then Oper.wp Tryz.prog o a w K Q else E := by
  have hw : Region.wanted o (yielded ops a.tmps) = true := by simp [Region.wanted, hg]
  rw [if_pos hw]
  obtain ⟨oa, ca, w', h1, h2⟩ := run_append_nm' w o.type B v xs hown oS m c l hS hsz hB
  unfold Oper.wp
  simp [execOp, ho, resolve, invoke, builtin, hs, hx, h1, Result.andThen]
  exact h oa ca w' h2
theorem SR.al {w : World} {B : Nat} {v : Value} {l : List Nm} (h : SR w B v l) (o : Obj) : SR (w.alloc o) B v l := World.ownsRow.alloc h _
theorem SR.nil (w : World) (B : Nat) : SR w B (.slice none 0 0) [] := World.ownsRow_nil _ _ _ _
theorem al_le {w : World} {B : Nat} (h : B ≤ w.heap.size) (o : Obj) : B ≤ (w.alloc o).heap.size := by show B ≤ (Array.push _ _).size; rw [Array.size_push]; omega
/-- A slice that the call was handed reads as before, whatever is written from the call's first block on. -/
theorem Strz.up {w w' : World} {oa : Option Addr} {n : Nat} {l : List Nm} (h : Strz w oa n l) (ho : Only (w.heap.size ≤ ·) w w') : Strz w' oa n l := h.old ho (fun i hi hc => by have hc' : w.heap.size ≤ i := hc; omega)
theorem Mdz.up {w w' : World} {oa : Option Addr} {n : Nat} {l : List Md} (h : Mdz w oa n l) (ho : Only (w.heap.size ≤ ·) w w') : Mdz w' oa n l := h.old ho (fun i hi hc => by have hc' : w.heap.size ≤ i := hc; omega)
theorem Only.new {w w' : World} (ho : Only (w.heap.size ≤ ·) w w') : Only (fun _ => False) w w' := ⟨ho.os, ho.tape, ho.output, ho.size, fun i hi _ => ho.block i hi (fun hc => by have hc' : w.heap.size ≤ i := hc; omega)⟩
end Go.Proofs.YtigmdiagdlbdpaaGreat
