/-
  WALKS. The reference: from, marked.
-/
import Derived.Test.YtlnknkplebaioaaGbP
import Derived.Test.YtlnknkplebaioaaGbX
import Derived.Test.YtlnknkplebaioaaGbQ
import Derived.Test.YtlnknkplebaioaaGfr
import Derived.Deep.Upon
namespace Go.Proofs.Ytlnknkplebaioaa
open Go.RowKit Go.Maps
theorem infoBool : (Try.prog.info? 4).map (fun i => (i.zero, i.size, i.bytes)) = some (some (.bool false), 1, 1) := by kernel_rfl
theorem bA_list (n : Nat) : (madeCells #[Value.bool false] n).toList = (List.replicate n false).map Value.bool := by
  rw [toList_madeCells_one, List.map_replicate]
theorem bA_size (n : Nat) : (madeCells #[Value.bool false] n).size = n := by
  have := congrArg List.length (bA_list n)
  rw [List.length_map, List.length_replicate] at this
  simpa using this
theorem mk_bools {n : Nat} (hn : n ≤ 1000000000) (w : World) : (Instr.makeSlice 50 (.int .i64 (n : Int)) (.int .i64 (n : Int))).run Try.prog w = .ok (.slice (some ⟨w.heap.size, 0, none⟩) n n) (w.alloc (.cells (madeCells #[Value.bool false] n) 4)) := by
  obtain ⟨i0', hi, hz0, hz1, hz2⟩ := info_parts infoBool
  have := run_make (P := Try.prog) w 50 4 i0' (.bool false) Try.underlying50 hi hz0 .i64 .i64 (n : Int) (n : Int) (by omega) (Int.le_refl _) (by rw [hz2]; omega) (by omega)
  rw [hz1] at this
  simpa [Value.cells] using this
/-- A row of Booleans of the call's own. -/
def BW (w : World) (B : Nat) (v : Value) (bs : List Bool) : Prop := w.ownsRow B 4 1 v bs.length (bs.map Value.bool)
section
variable {w w' : World} {B g n ca : Nat} {v : Value} {oa : Option Addr} {bs : List Bool}
theorem BW.made (hB : B ≤ g) (hg : w.heap[g]? = some (.cells (madeCells #[Value.bool false] n) 4 (0, 0))) (hn : n ≤ 1000000000) : BW w B (.slice (some ⟨g, 0, none⟩) n n) (List.replicate n false) := by
  have hz : (List.replicate n false).length = n := List.length_replicate
  refine ⟨by rw [List.length_map]; omega, .inr ⟨g, n, _, by rw [hz], hB, hg, by rw [hz]; exact Nat.le_refl _, by unfold maxLen; omega, by rw [bA_size]; omega, ?_⟩⟩
  rw [bA_list, hz, Nat.mul_one, List.take_of_length_le (by rw [List.length_map, hz]; exact Nat.le_refl _)]
theorem BW.only {K : Nat → Prop} (h : BW w B v bs) (ho : Only K w w') (hk : ∀ g, v.ownBlock = some g → ¬ K g) : BW w' B v bs := rowKeep h (fun g hg => ho.block g ((World.ownsRow.lt h g hg).2) (hk g hg))
theorem BW.at (h : BW w B (.slice (some ⟨g, 0, none⟩) n ca) bs) {k : Nat} (hk : k < bs.length) : w.cell? ⟨g, k, none⟩ = some (.bool (gb bs k)) ∧ w.frozen? ⟨g, k, none⟩ = false := by
  rcases h.2 with ⟨hv, hn⟩ | ⟨g', cap, cur, hv, hb, hg, hle, hr⟩
  · omega
  · cases hv
    refine ⟨?_, by simp [World.frozen?, hg]⟩
    have hc := World.ownsRow.cells h (g := g) rfl k (.bool bs[k]) (by rw [List.getElem?_map, List.getElem?_eq_getElem hk]; rfl)
    rw [add_plain, Nat.zero_add] at hc
    rw [gb_at hk]
    exact hc
theorem BW.len (h : BW w B (.slice oa n ca) bs) : n = bs.length := by
  obtain ⟨oa', ca', hv⟩ := rowForm h
  cases hv; rfl
theorem BW.set (h : BW w B (.slice (some ⟨g, 0, none⟩) n ca) bs) {j : Nat} (hj : j < bs.length) (x : Bool) : BW (w.setCell ⟨g, j, none⟩ (.bool x)) B (.slice (some ⟨g, 0, none⟩) n ca) (bs.set j x) := by
  have hn := h.len
  subst hn
  have := row_set h (j := j) (by omega) (.bool x)
  unfold BW
  rw [List.length_set, List.map_set]
  exact this
end
/-- The search's rows. -/
structure FM (w0 w : World) (b n : Nat) (v : Value) (s : FS) : Prop where
  sn : BW w b (.slice (some ⟨b, 0, none⟩) n n) s.seen
  td : IR w b v s.todo
  fr : Only (b ≤ ·) w0 w
section
variable {w0 w w3 : World} {b n : Nat} {v : Value} {s : FS}
theorem FM.set (h : FM w0 w b n v s) {j : Nat} (hj : j < s.seen.length) (x : Bool) : FM w0 (w.setCell ⟨b, j, none⟩ (.bool x)) b n v { s with seen := s.seen.set j x } := by
  have hO : Only (· = b) w (w.setCell ⟨b, j, none⟩ (.bool x)) := Only.setCell (K := (· = b)) (Only.refl _ _) rfl _
  exact ⟨h.sn.set hj x, h.td.only hO (fun g hg e => rowApart h.td h.sn (by decide) hg (by rw [show g = b from e]; rfl)), h.fr.trans (hO.wide (fun i hi => Nat.le_of_eq hi.symm))⟩
theorem FM.cut {g ca m : Nat} (h : FM w0 w b n (.slice (some ⟨g, 0, none⟩) m ca) s) {k : Nat} (hk : k ≤ s.todo.length) : FM w0 w b n (.slice (some ⟨g, 0, none⟩) k ca) { s with todo := s.todo.take k } :=
  ⟨h.sn, h.td.cut hk, h.fr⟩
theorem FM.app (h : FM w0 w b n v s) (hg : w.grownBy w3 v.ownBlock) {v' : Value} {l : List Nat} (hrow : IR w3 b v' (s.todo ++ l)) : FM w0 w3 b n v' { s with todo := s.todo ++ l } :=
  ⟨rowKeep h.sn (fun g hgi => hg.block g (World.ownsRow.lt h.sn g hgi).2 (fun e => rowApart h.td h.sn (by decide) e.symm hgi)), hrow, h.fr.trans (Only.grown hg (fun g e => (World.ownsRow.lt h.td g e).1))⟩
end
theorem ints_news {w : World} {b o n : Nat} {l : List Nat} (h : Ints w (some ⟨b, o, none⟩) n l) : ∀ j u, (l.map iV)[j]? = some u → w.cell? ((⟨b, o, none⟩ : Addr).add j) = some u := fun j u hu => by
  rw [List.getElem?_map] at hu
  cases hj : l[j]? with
  | none => rw [hj] at hu; cases hu
  | some x =>
    rw [hj] at hu
    cases hu
    obtain ⟨hjl, e⟩ := List.getElem?_eq_some_iff.1 hj
    obtain ⟨b', o', e', hc⟩ := h.cell j hjl
    cases e'
    rw [add_plain, hc, gt_at hjl, e]
theorem ints_one (l : List Nat) : ∀ u ∈ l.map iV, u.oneCell' = true := fun u hu => by
  obtain ⟨x, -, rfl⟩ := List.mem_map.1 hu
  rfl
/-- What is appended: a slice of numbers, of whatever length, wherever it lies. -/
theorem run_append_ints (w : World) (ty : TypeId) (B n : Nat) (v : Value) (xs : List Value) (hown : w.ownsRow B 3 1 v n xs) (oS : Option Addr) (m c : Nat) (l : List Nat) (hS : Ints w oS m l) (hsz : n + m ≤ 10000000000000) (hB : B ≤ w.heap.size) :
    ∃ v' w', (Builtin.append_ #[30, 30] ty #[v, .slice oS m c]).run Try.prog w = .ok v' w' ∧ w'.ownsRow B 3 1 v' (n + m) (xs ++ l.map iV) ∧ w.grownBy w' v.ownBlock ∧ (v'.ownBlock = v.ownBlock ∨ v'.ownBlock = some w.heap.size) := by
  obtain ⟨i0', hi, hz0, hz1, hz2⟩ := info_parts infoInt
  have nothing : ∀ (x : Value), Src Try.prog i0'.size 30 x 0 [] w → (Builtin.append_ #[30, 30] ty #[v, x]).run Try.prog w = .ok v w := fun x hx => by
    rcases hown.2 with ⟨rfl, -⟩ | ⟨g, cap, cur, rfl, -, -, hle, -⟩
    · exact Go.run_append_nothing w _ _ ty _ i0' Try.underlying30 hi none 0 0 (Nat.le_refl _) _ hx
    · exact Go.run_append_nothing w _ _ ty _ i0' Try.underlying30 hi _ n cap hle _ hx
  cases oS with
  | none =>
    have hl : l = [] := by
      cases l with
      | nil => rfl
      | cons x r =>
        obtain ⟨b, o, e, -⟩ := hS.cell 0 (by simp)
        cases e
    have hm : m = 0 := by rw [← hS.len, hl]; rfl
    subst hl
    subst hm
    exact ⟨v, w, nothing _ (Go.Src.ofNil (size := i0'.size) w Try.underlying30 c), by simpa using hown, World.grownBy.refl _ _, .inl rfl⟩
  | some ad =>
    by_cases hm : m = 0
    · subst hm
      have hl : l = [] := List.length_eq_zero_iff.1 hS.len
      subst hl
      exact ⟨v, w, nothing _ (Go.Src.ofSlice (size := i0'.size) w Try.underlying30 ad 0 c [] (by simp) (fun j u h => by simp at h) (fun u h => by cases h)), by simpa using hown, World.grownBy.refl _ _, .inl rfl⟩
    · obtain ⟨b, o, e, -⟩ := hS.cell 0 (by rw [hS.len]; omega)
      cases e
      obtain ⟨v', w', h1, h2, h3, -, h5⟩ := run_append_own_at (P := Try.prog) w B 30 ty 3 i0' (.int .i64 0) 1 8 Try.underlying30 hi hz0 hz1 hz2 rfl (by decide) v n xs hown ⟨b, o, none⟩ m c (l.map iV) (by rw [List.length_map, hS.len, Nat.mul_one]) (ints_news hS) (ints_one l) (by unfold maxLen; omega) (by omega) hB
      exact ⟨v', w', h1, h2, h3, h5⟩
theorem wpList_append_ints {w : World} {ops : Array Oper} {rest : List Oper} {o : Oper} {a : Act} {Q : Exit → Act → World → Prop} (hg : o.guard = none) (s x : Operand)
    (ho : o.op = .call { callee := .builtin .append, args := #[s, x], argTypes := #[30, 30] }) (B n : Nat) (v : Value) (xs : List Value) (hs : a.eval s = v) (hown : w.ownsRow B 3 1 v n xs) (oS : Option Addr) (m c : Nat) (l : List Nat) (hx : a.eval x = .slice oS m c) (hS : Ints w oS m l)
    (hsz : n + m ≤ 10000000000000) (hB : B ≤ w.heap.size) (h : ∀ v' w', w'.ownsRow B 3 1 v' (n + m) (xs ++ l.map iV) → w.grownBy w' v.ownBlock → (v'.ownBlock = v.ownBlock ∨ v'.ownBlock = some w.heap.size) → wpList Try.prog ops Q rest (a.put o.dst v') w') : wpList Try.prog ops Q (o :: rest) a w := by
  obtain ⟨v', w', h1, h2, h3, h4⟩ := run_append_ints w o.type B n v xs hown oS m c l hS hsz hB
  refine wpList_plain hg fun K hK => ?_
  unfold Oper.wp
  simp [execOp, ho, resolve, invoke, builtin, hs, hx, h1, Result.andThen]
  exact hK _ _ (h v' w' h2 h3 h4)
theorem row_zero {w : World} {B g : Nat} (hB : B ≤ g) (hg : w.heap[g]? = some (.cells #[] 3 (0, 0))) : w.ownsRow B 3 1 (.slice (some ⟨g, 0, none⟩) 0 0) 0 [] :=
  ⟨rfl, .inr ⟨g, 0, #[], rfl, hB, hg, Nat.le_refl _, by unfold maxLen; omega, rfl, rfl⟩⟩
set_option maxRecDepth 100000 in
set_option maxHeartbeats 16000000 in
theorem from_p (w : World) (oE : Option Addr) (n cE : Nat) (G : List (List Nat)) (oS : Option Addr) (nS cS : Nat) (l : List Nat) (hE : Edg w oE n G) (hV : ValidG G) (hn : n ≤ 1000000) (hD : ∀ u, degG G u ≤ 1000000) (hS : Ints w oS nS l) (hnS : nS ≤ 1000000) (hl : ∀ v ∈ l, v < n) :
    Calls Try.prog 35 #[.agg #[.slice oE n cE], .slice oS nS cS] w fun e w' => ∃ oa ca, e = .returned (.slice (some oa) n ca) ∧ BW w' w.heap.size (.slice (some oa) n ca) (seenR G l) ∧ oa.off = 0 ∧ oa.spot = none ∧ Only (fun _ => False) w w' := by
  have hlen := hE.len
  have hslen := hS.len
  have hmk := mk_bools (n := n) (by omega)
  have hA : Only (fun _ => False) w (w.alloc (.cells #[.slice oE n cE] 24)) := (Only.refl _ _).alloc _
  have s1 : (w.alloc (.cells #[.slice oE n cE] 24)).heap.size = w.heap.size + 1 := by show (Array.push _ _).size = _; rw [Array.size_push]
  have s2 : ((w.alloc (.cells #[.slice oE n cE] 24)).alloc (.cells (madeCells #[Value.bool false] n) 4)).heap.size = w.heap.size + 1 + 1 := by show (Array.push _ _).size = _; rw [Array.size_push, s1]
  have HB : Hid (∀ w', Only (w.heap.size + 1 ≤ ·) (w.alloc (.cells #[.slice oE n cE] 24)) w' → w'.cell? ⟨w.heap.size, 0, none⟩ = some (.slice oE n cE)) := Lib.hid (fun w' ho => (blk_c ((ho.block w.heap.size (by rw [s1]; omega) (fun hc => by have hc' : w.heap.size + 1 ≤ w.heap.size := hc; omega)).trans (new_block w _)) rfl).1)
  have HE1 : Hid (∀ w', Only (w.heap.size + 1 ≤ ·) (w.alloc (.cells #[.slice oE n cE] 24)) w' → Edg w' oE n G) := Lib.hid (fun w' ho => (hE.old hA (fun _ _ hc => hc)).old ho (fun i hi hc => by have hc' : w.heap.size + 1 ≤ i := hc; rw [s1] at hi; omega))
  have HS1 : Hid (∀ w', Only (w.heap.size + 1 ≤ ·) (w.alloc (.cells #[.slice oE n cE] 24)) w' → Ints w' oS nS l) := Lib.hid (fun w' ho => (hS.old hA (fun _ _ hc => hc)).old ho (fun i hi hc => by have hc' : w.heap.size + 1 ≤ i := hc; rw [s1] at hi; omega))
  have hO3 : Only (w.heap.size + 1 ≤ ·) (w.alloc (.cells #[.slice oE n cE] 24)) (((w.alloc (.cells #[.slice oE n cE] 24)).alloc (.cells (madeCells #[Value.bool false] n) 4)).alloc (.cells #[] 3)) := ((Only.refl _ _).alloc _).alloc _
  have hBW : BW (((w.alloc (.cells #[.slice oE n cE] 24)).alloc (.cells (madeCells #[Value.bool false] n) 4)).alloc (.cells #[] 3)) (w.heap.size + 1) (.slice (some ⟨w.heap.size + 1, 0, none⟩) n n) (List.replicate n false) := by
    exact (BW.made (Nat.le_refl _) (new_at _ s1) (by omega)).only (K := fun _ => False) ((Only.refl _ _).alloc _) (fun _ _ hc => hc)
  have hZ := row_zero (B := w.heap.size + 1) (g := w.heap.size + 1 + 1) (Nat.le_succ _) (new_at (w := (w.alloc (.cells #[.slice oE n cE] 24)).alloc (.cells (madeCells #[Value.bool false] n) 4)) (n := w.heap.size + 1 + 1) (.cells #[] 3) (by rw [s2]))
  obtain ⟨i0', hi, hz0, hz1, hz2⟩ := info_parts infoInt
  have HI0 := Lib.hid (s0F_i (G := G) (l := l) (fun x hx => by rw [hlen]; exact hl x hx))
  have hmu : muF G (s0F G l) ≤ 1000001000000 := by
    have h1 := restD_le (d := 1000000) G (List.replicate G.length false) (fun r hr => by
      obtain ⟨i, hi, e⟩ := List.getElem_of_mem hr
      have := hD i
      unfold degG at this
      rw [List.getD_eq_getElem?_getD, List.getElem?_eq_getElem hi] at this
      rw [← e]; exact this)
    show l.length + restD G (List.replicate G.length false) ≤ _
    omega
  have s3 : (((w.alloc (.cells #[.slice oE n cE] 24)).alloc (.cells (madeCells #[Value.bool false] n) 4)).alloc (.cells #[] 3)).heap.size = w.heap.size + 1 + 1 + 1 := by show (Array.push _ _).size = _; rw [Array.size_push, s2]
  have HEA := Lib.hid (hE.old hA (fun _ _ hc => hc))
  have HSA := Lib.hid s1
  have HD := Lib.hid hD
  have HV := Lib.hid hV
  have hSS := HS1.out _ hO3
  have HZ := Lib.hid hZ
  have HS3 := Lib.hid s3
  have hs2 : ((w.alloc (.cells #[.slice oE n cE] 24)).alloc (.cells (madeCells #[Value.bool false] n) 4)).heap.size = w.heap.size + 1 + 1 := by rw [s2]
  obtain ⟨FIN, hfin⟩ : ∃ x, seenR G l = x := ⟨_, rfl⟩
  have hrun : (runF G (muF G (s0F G l)) (s0F G l)).seen = FIN := hfin
  rw [hfin]
  have HRUN := Lib.hid hrun
  obtain ⟨F, hF⟩ : ∃ F, muF G (s0F G l) = F := ⟨_, rfl⟩
  have HFF := Lib.hid hF
  rw [hF] at hmu
  have HOS := Lib.hid hO3
  have HBWS := Lib.hid hBW
  have HSI := Lib.hid hSS
  clear hs2 hD hV hZ s3 hSS hrun hF hfin hO3 hBW s1 s2 hE hS hl
  go_enter Try.func35, Try.ntmps35
  go_wp2_with (at_builtin; refine wpList_append_ints rfl _ _ rfl (w.heap.size + 1) 0 (.slice (some ⟨w.heap.size + 1 + 1, 0, none⟩) 0 0) [] ?e1 HZ.out oS nS cS l ?e2 HSI.out (by omega) (by rw [HS3.out]; omega) ?_; (case e1 => simp [Act.eval]); (case e2 => simp [Act.eval]); intro v' w4 hown4 hgrow4 hat4; obtain ⟨oa4, ca4, hv4⟩ := rowForm hown4; subst hv4; have HOW4 := Lib.hid hown4; have HG4 := Lib.hid hgrow4; clear hown4 hgrow4 hat4)
  obtain ⟨b, hb⟩ : ∃ b, w.heap.size + 1 = b := ⟨_, rfl⟩
  have hown4 := HOW4.out
  have hgrow4 := HG4.out
  have hbw := HBWS.out
  have hos := HOS.out
  have hzz := HZ.out
  rw [hb] at HB HE1 HS1 hown4 hgrow4 hbw hos hzz ⊢
  have HBb := Lib.hid hb
  rw [Nat.zero_add] at hown4
  have h0 : FM (w.alloc (.cells #[.slice oE n cE] 24)) w4 b n (.slice oa4 nS ca4) (s0F G l) := by
    have h1 : FM (w.alloc (.cells #[.slice oE n cE] 24)) _ b n (.slice (some ⟨b + 1, 0, none⟩) 0 0) ⟨List.replicate n false, []⟩ := ⟨hbw, hzz, hos⟩
    have h2 := h1.app hgrow4 (l := l) (v' := .slice oa4 nS ca4) (by
      show w4.ownsRow b 3 1 _ ([] ++ l).length (([] ++ l).map iV)
      rw [List.nil_append, hslen]
      exact hown4)
    rw [← hlen] at h2 ⊢
    exact h2
  clear HOW4 HG4 hown4 hgrow4 hbw hos hzz HBWS HOS HZ HSI HS3 hb
  have HM0 : Hid (muF G (s0F G l) = F) := HFF
  go_loopg [6] F (fun gk q wr => ∃ (S : FS) (v : Value), q = v ∧ FM (w.alloc (.cells #[.slice oE n cE] 24)) wr b n v S ∧ Hid (FrI G l S) ∧ Hid (muF G S = gk) ∧ gk ≤ 1000001000000 ∧ Hid ((runF G gk S).seen = FIN))
  case atStart => exact ⟨s0F G l, _, rfl, h0, HI0, HM0, hmu, by rw [← HM0.out]; exact HRUN⟩
  case round =>
    clear h0 HM0 HI0 HRUN HFF
    obtain ⟨S, v, rfl, hM, HI, HMU, hgk, HR⟩ := hrel
    obtain ⟨m, hm⟩ : ∃ m, S.todo.length = m := ⟨_, rfl⟩
    obtain ⟨oa, ca, hv⟩ := rowForm hM.td
    rw [hm] at hv
    subst hv
    have hsl := HI.out.len
    rw [hlen] at hsl
    have hmb : m ≤ gk := by
      have := HMU.out
      unfold muF at this
      omega
    have q0 := HB.out wr hM.fr
    rcases path_cases S.todo with hp | ⟨A, u, hp⟩
    · have hm0 : m = 0 := by rw [← hm, hp]; rfl
      subst hm0
      have HFN := Lib.hid (show S.seen = FIN by rw [← HR.out, runF_nil hp])
      have hsn := hM.sn
      have HEND := Lib.hid (show Only (fun _ => False) w wr from hA.trans ⟨hM.fr.os, hM.fr.tape, hM.fr.output, hM.fr.size, fun i hi _ => hM.fr.block i hi (fun hc => by
        have hc' : b ≤ i := hc
        have : (w.alloc (.cells #[.slice oE n cE] 24)).heap.size = w.heap.size + 1 := by show (Array.push _ _).size = _; rw [Array.size_push]
        have := HBb.out
        omega)⟩)
      clear hm hp hM
      go_wp2
      go_ret
      refine ⟨⟨b, 0, none⟩, n, rfl, ?_, rfl, rfl, HEND.out⟩
      rw [← HFN.out]
      exact rowMono hsn (by have := HBb.out; omega)
    · obtain ⟨a, ha⟩ : ∃ a, A.length = a := ⟨_, rfl⟩
      have hma : m = a + 1 := by rw [← hm, hp, List.length_append, List.length_singleton, ha]
      subst hma
      have hun : u < n := by rw [← hlen]; exact HI.out.lt u (by rw [hp]; simp)
      have hne : S.todo ≠ [] := by rw [hp]; simp
      have hat : gt S.todo a = u := by
        rw [gt_at (by omega)]
        simp [hp, ← ha]
      obtain ⟨g, hg, hBg, -, hca, hct, hzt⟩ := hM.td.at (k := a) (by omega)
      subst hg
      rw [hat] at hct
      have hcut := hM.cut (k := a) (by omega)
      have htk : S.todo.take a = A := by rw [hp, ← ha, List.take_left]
      rw [htk] at hcut
      obtain ⟨gk', rfl⟩ : ∃ x, gk = x + 1 := ⟨gk - 1, by omega⟩
      have hmu1 := stepF_mu (G := G) hp (by rw [hlen]; exact hun) (by rw [HI.out.len])
      rw [HMU.out] at hmu1
      have hrr := HR.out
      rw [runF_step hne] at hrr
      have HRR := Lib.hid hrr
      have HII := Lib.hid (HI.out.step HV.out hne)
      have HMU1 := Lib.hid (show muF G (stepF G S) = gk' by omega)
      obtain ⟨hcs, hzs⟩ := hM.sn.at (k := u) (by rw [hsl]; exact hun)
      have h01 : (0 : Int) ≤ (u : Int) := Int.natCast_nonneg u
      have h02 : (u : Int) < (n : Int) := by omega
      have h03 : (u : Int).toNat = u := Int.toNat_natCast u
      have h04 : (0 : Int) < (a : Int) + 1 := by omega
      have h05 : (0 : Int) ≤ (a : Int) := Int.natCast_nonneg a
      have h06 : (a : Int) < (a : Int) + 1 := by omega
      have h07 : (a : Int).toNat = a := Int.toNat_natCast a
      have h08 : decide ((0 : Int) < (a : Int) + 1) = true := decide_eq_true h04
      have hwa : IntKind.i64.wrap (a : Int) = (a : Int) := IntWalk.i64_in _ (by omega)
      have h09 : a ≤ ca := by omega
      cases hb : gb S.seen u
      · rw [hb] at hcs
        have HST := Lib.hid (stepF_new (G := G) hp hb)
        have hset := hcut.set (j := u) (by rw [hsl]; exact hun) true
        obtain ⟨bG, oG, sa, sn, sc, hoE, hcG, hiG⟩ := HEA.out.at (k := u) (by rw [hlen]; exact hun)
        have hsn := HD.out u
        have hslen2 := hiG.len
        have hdg : degG G u = (lAt G u).length := rfl
        rw [hdg] at hsn
        change (lAt G u).length = sn at hslen2
        rw [hslen2] at hsn
        have hKb : ∀ i, i < (w.alloc (.cells #[.slice oE n cE] 24)).heap.size → ¬ (b ≤ i) := fun i hi hc => by have := HSA.out; have := HBb.out; omega
        have HCG := Lib.hid ((World.cell?_of_block (hset.fr.block bG (cell_lt hcG) (hKb _ (cell_lt hcG)))).trans hcG)
        have hcGs := HCG.out
        have HIG : Hid (Ints (wr.setCell ⟨b, u, none⟩ (.bool true)) sa sn (lAt G u)) := Lib.hid (hiG.old hset.fr hKb)
        have hqs := HB.out _ hset.fr
        have HSET := Lib.hid hset
        have HTD : Hid ((wr.setCell ⟨b, u, none⟩ (.bool true)).ownsRow b 3 1 (.slice (some ⟨g, 0, none⟩) a ca) a (A.map iV)) := Lib.hid (by
          have h := hset.td
          unfold IR at h
          change (wr.setCell ⟨b, u, none⟩ (.bool true)).ownsRow b 3 1 (.slice (some ⟨g, 0, none⟩) a ca) A.length (A.map iV) at h
          rw [ha] at h
          exact h)
        have HSZ := Lib.hid (show b ≤ (wr.setCell ⟨b, u, none⟩ (.bool true)).heap.size by
          have := World.ownsRow.lt HTD.out g rfl
          omega)
        have HSL2 := Lib.hid hslen2
        have HA2 := Lib.hid ha
        subst hoE
        clear hm hp hne hat htk hcut hmu1 hrr hb hM ha hset hslen2 hdg hiG hKb
        go_wp2_with (at_builtin; refine wpList_append_ints rfl _ _ rfl b a (.slice (some ⟨g, 0, none⟩) a ca) (A.map iV) ?e1 HTD.out sa sn sc (lAt G u) ?e2 HIG.out (by omega) HSZ.out ?_; (case e1 => simp [Act.eval]); (case e2 => simp [Act.eval]); intro v' w5 hown5 hgrow5 hat5; have HOW5 := Lib.hid hown5; have HG5 := Lib.hid hgrow5; clear hown5 hgrow5 hat5)
        go_roundg gk'
        case rel =>
          have h5 := HSET.out.app HG5.out (l := lAt G u) (v' := v') (by
            show w5.ownsRow b 3 1 _ (A ++ lAt G u).length ((A ++ lAt G u).map iV)
            rw [List.length_append, HA2.out, HSL2.out, List.map_append]
            exact HOW5.out)
          exact ⟨⟨S.seen.set u true, A ++ lAt G u⟩, v', rfl, h5, by rw [← HST.out]; exact HII, by rw [← HST.out]; exact HMU1, by omega, by rw [← HST.out]; exact HRR⟩
        case measure => omega
      · rw [hb] at hcs
        have HST := Lib.hid (stepF_seen (G := G) hp hb)
        have HC := Lib.hid hcut
        clear hm hp hne hat htk hcut hmu1 hrr hb hM ha
        go_wp2
        go_roundg gk'
        case rel => exact ⟨⟨S.seen, A⟩, _, rfl, HC.out, by rw [← HST.out]; exact HII, by rw [← HST.out]; exact HMU1, by omega, by rw [← HST.out]; exact HRR⟩
        case measure => omega
end Go.Proofs.Ytlnknkplebaioaa
