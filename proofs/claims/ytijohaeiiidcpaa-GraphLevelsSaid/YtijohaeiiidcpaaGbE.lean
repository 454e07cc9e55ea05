/-
  WALKS. The search: leave.
-/
import Derived.Test.YtijohaeiiidcpaaGbD
namespace Go.Proofs.Ytijohaeiiidcpaa
open Go.RowKit Go.Maps
section
variable {w w' : World} {B b : Nat} {vE : Value} {r : Nat → Value} {s : SS}
theorem leave_zero {u : Nat} (h : ¬ gt s.lowest u < gt s.place u) : leaveS s u = { s with path := s.path.dropLast, last := s.last + 1, number := (popR u (s.last + 1) s.opn.reverse s.number).1, opn := (popR u (s.last + 1) s.opn.reverse s.number).2.reverse } := by unfold leaveS; rw [if_neg h]
theorem popR_go {u n x : Nat} {r nb : List Nat} (h : gt nb u = 0) : popR u n (x :: r) nb = popR u n r (nb.set x n) := by conv => lhs; unfold popR; rw [if_pos h]
theorem popR_stop {u n : Nat} {r nb : List Nat} (h : ¬ gt nb u = 0) : popR u n r nb = (nb, r) := by
  cases r with
  | nil => rfl
  | cons x r => unfold popR; rw [if_neg h]
/-- While u is not closed, it is open. -/
def Opn (u m : Nat) (o nb : List Nat) : Prop := (gt nb u = 0 → u ∈ o) ∧ ∀ x ∈ o, x < m
theorem opn_pop {u m n x : Nat} {o nb : List Nat} (hn : n ≠ 0) (hl : nb.length = m) (h : Opn u m (o ++ [x]) nb) : Opn u m o (nb.set x n) := by
  have hx : x < nb.length := by rw [hl]; exact h.2 x (by simp)
  refine ⟨fun h0 => ?_, fun y hy => h.2 y (by simp [hy])⟩
  rw [gt_set hx] at h0
  by_cases e : u = x
  · rw [if_pos e] at h0; exact absurd h0 hn
  · rw [if_neg e] at h0
    have := h.1 h0
    rcases List.mem_append.1 this with h1 | h1
    · exact h1
    · exact absurd (by simpa using h1) e
set_option maxRecDepth 100000 in
set_option maxHeartbeats 8000000 in
theorem leave_p (h : SM w B b vE r s) {n u : Nat} {A : List Nat} (hl : Ln n s) (hp : s.path = A ++ [u]) (hu : u < n) (hpl : s.path.length + s.opn.length + s.last + 1 ≤ 1000000000) (ho : ∀ x ∈ s.opn, x < n) (huo : u ∈ s.opn) : Calls Try.prog 52 #[.pointer (some ⟨b, 0, none⟩), iV u] w fun e w' => e = .returned (.tuple #[]) ∧ SMx w B b vE (leaveS s u) w' := by
  have h01 : (0 : Int) ≤ (u : Int) := Int.natCast_nonneg u
  have h02 : (u : Int) < (n : Int) := by omega
  have h04 : (u : Int).toNat = u := Int.toNat_natCast u
  have hAl : s.path.length = A.length + 1 := by rw [hp]; simp
  obtain ⟨gp, cp, hvp, hcp, -, -, -⟩ := h.rat (i := 4) (k := A.length) (by decide) (by show A.length < s.path.length; omega)
  have c5 := h.cr (i := 4) (by decide)
  have z5 := h.fz 5
  have e4 : (dat s 4).length = A.length + 1 := hAl
  rw [hvp, e4] at c5
  rw [e4] at hcp hvp
  have hcut := h.cutp (i := 4) (.inl rfl) hvp (k := A.length) (by show A.length ≤ s.path.length; omega) (s' := { s with path := s.path.dropLast }) rfl rfl (fun k hk hk0 => by match k, hk with | 0, _ => rfl | 1, _ => rfl | 2, _ => rfl | 3, _ => rfl | 4, _ => exact absurd rfl hk0 | 5, _ => rfl) (by show s.path.dropLast = s.path.take A.length; rw [hp]; simp)
  have hcF : FG B b w (w.setCell ⟨b, 5, none⟩ (.slice (some ⟨gp, 0, none⟩) A.length cp)) := FG.blk _ _ _ _ _
  obtain ⟨m, hm⟩ : ∃ m, A.length = m := ⟨_, rfl⟩
  rw [hm] at c5 hcp hcut hcF
  have hmb : m + 1 ≤ 1000000000 := by omega
  have hwm : IntKind.i64.wrap (m : Int) = (m : Int) := IntWalk.i64_in _ (by omega)
  have hw5 : (0 : Int) ≤ (m : Int) := Int.natCast_nonneg m
  have hw6 : (m : Int).toNat = m := Int.toNat_natCast m
  have hw7 : (m : Int) ≤ (cp : Int) := by omega
  have hw8 : m ≤ cp := by omega
  have hw9 : ¬ cp = 0 := by omega
  have HC := Lib.hid hcut
  have HCF := Lib.hid hcF
  clear hcut hcF hvp e4
  go_enter Try.func52, Try.ntmps52
  go_wp2
  go_region
  refine gen_exit (fun wx => SM wx B b vE (upd r 4 (.slice (some ⟨gp, 0, none⟩) m cp)) { s with path := s.path.dropLast } ∧ FG B b w wx) ⟨HC.out.same ((Only.refl _ _).drew), HCF.out.trans (FG.keep ((Only.refl _ _).drew))⟩ ?_
  clear HC HCF c5 z5 hcp hwm hw5 hw6 hw7 hw8 hw9
  rintro wx ⟨hS, hF⟩
  obtain ⟨r1, hr1⟩ : ∃ r1, upd r 4 (.slice (some ⟨gp, 0, none⟩) m cp) = r1 := ⟨_, rfl⟩
  rw [hr1] at hS
  clear hr1
  obtain ⟨gl, cl, hvl, hcl, q1, f1, n1⟩ := hS.rat (i := 1) (k := u) (by decide) (by show u < s.lowest.length; rw [hl.l]; exact hu)
  obtain ⟨ga, ca, hva, hca, q0, f0, n0⟩ := hS.rat (i := 0) (k := u) (by decide) (by show u < s.place.length; rw [hl.p]; exact hu)
  have c2 := hS.cr (i := 1) (by decide)
  have c1 := hS.cr (i := 0) (by decide)
  have e1 : (dat ({ s with path := s.path.dropLast } : SS) 1).length = n := hl.l
  have e0 : (dat ({ s with path := s.path.dropLast } : SS) 0).length = n := hl.p
  rw [hvl, e1] at c2
  rw [hva, e0] at c1
  rw [e1] at hcl
  rw [e0] at hca
  change wx.cell? _ = some (iV (gt s.lowest u)) at q1
  change wx.cell? _ = some (iV (gt s.place u)) at q0
  obtain ⟨a1, ha1⟩ : ∃ a, gt s.lowest u = a := ⟨_, rfl⟩
  obtain ⟨a0, ha0⟩ : ∃ a, gt s.place u = a := ⟨_, rfl⟩
  rw [ha1] at q1
  rw [ha0] at q0
  have HA1 := Lib.hid ha1
  have HA0 := Lib.hid ha0
  clear e1 e0 hvl hva ha1 ha0 hm
  by_cases hlo : a1 < a0
  · have hdl : decide ((a1 : Int) < (a0 : Int)) = true := decide_eq_true (by omega)
    have HR : Hid (leaveS s u = { s with path := s.path.dropLast }) := Lib.hid (leave_open (by rw [HA1.out, HA0.out]; exact hlo))
    go_wp2
    go_region
    go_wp2
    all_goals
      refine bodyPost_ret (v := .tuple #[]) (by simp [results, Try.results52, go_sem]) rfl ?_
      rw [HR.out]
      exact ⟨rfl, r1, hS.same ((Only.refl _ _).drew), hF.trans (FG.keep ((Only.refl _ _).drew))⟩
  · have hdl : decide ((a1 : Int) < (a0 : Int)) = false := decide_eq_false (by omega)
    have HNLO : Hid (¬ gt s.lowest u < gt s.place u) := Lib.hid (by rw [HA1.out, HA0.out]; exact hlo)
    have c8 := hS.c8
    have z8 := hS.fz 8
    change wx.cell? _ = some (.int .i64 (s.last : Int)) at c8
    have hwl : IntKind.i64.wrap ((s.last : Int) + 1) = (s.last : Int) + 1 := IntWalk.i64_in _ (by omega)
    have HS8 := Lib.hid (hS.numL (s.last + 1))
    have HOP : Hid (Opn u n s.opn s.number) := Lib.hid ⟨fun _ => huo, ho⟩
    go_wp2
    go_region
    go_wp2
    go_loopg [] s.opn.length (fun gk wr => ∃ (rx : Nat → Value) (nb o : List Nat), SM wr B b vE rx { s with path := s.path.dropLast, last := s.last + 1, number := nb, opn := o } ∧ nb.length = n ∧ Opn u n o nb ∧ o.length = gk ∧ gk ≤ s.opn.length ∧ Hid (popR u (s.last + 1) o.reverse nb = popR u (s.last + 1) s.opn.reverse s.number) ∧ FG B b w wr)
    case atStart => exact ⟨r1, s.number, s.opn, HS8.out.same ((Only.refl _ _).drew), hl.m, HOP.out, rfl, Nat.le_refl _, Lib.hid rfl, (hF.trans (FG.blk wx B b 8 (iV (s.last + 1)))).trans (FG.keep ((Only.refl _ _).drew))⟩
    case round =>
      clear HS8 c8 z8 c1 c2 q1 q0 f1 f0 n1 n0 hcl hca hS hF
      obtain ⟨rx, nb, o, hS, hnl, hO, hgk, hgl, HP, hF⟩ := hrel
      obtain ⟨gn, cn, hvn, hcn, q3, f3, n3⟩ := hS.rat (i := 3) (k := u) (by decide) (by show u < nb.length; omega)
      have c4 := hS.cr (i := 3) (by decide)
      have e3 : (dat ({ s with path := s.path.dropLast, last := s.last + 1, number := nb, opn := o } : SS) 3).length = n := hnl
      rw [hvn, e3] at c4
      rw [e3] at hcn hvn
      change wr.cell? _ = some (iV (gt nb u)) at q3
      by_cases hz : gt nb u = 0
      · rw [hz] at q3
        rcases path_cases o with ho0 | ⟨o', x, ho'⟩
        · have := hO.1 hz
          rw [ho0] at this
          exact absurd this List.not_mem_nil
        subst ho'
        have hx : x < n := hO.2 x (by simp)
        obtain ⟨gn', cn', hvn', -, qx, fx, -⟩ := hS.rat (i := 3) (k := x) (by decide) (by show x < nb.length; omega)
        rw [hvn, e3] at hvn'
        cases hvn'
        obtain ⟨go, co, hvo, hco, q5, f5, n5⟩ := hS.rat (i := 5) (k := o'.length) (by decide) (by show o'.length < (o' ++ [x]).length; simp)
        have e5 : (dat ({ s with path := s.path.dropLast, last := s.last + 1, number := nb, opn := o' ++ [x] } : SS) 5).length = o'.length + 1 := by show (o' ++ [x]).length = _; simp
        have c6 := hS.cr (i := 5) (by decide)
        have z6 := hS.fz 6
        have c8 := hS.c8
        change wr.cell? _ = some (.int .i64 ((s.last + 1 : Nat) : Int)) at c8
        rw [hvo, e5] at c6
        rw [e5] at hco hvo
        have hgx : gt (o' ++ [x]) o'.length = x := by rw [gt_at (by simp)]; simp
        change wr.cell? _ = some (iV (gt (o' ++ [x]) o'.length)) at q5
        rw [hgx] at q5
        have hM1 := hS.put (i := 3) (by decide) hvn (j := x) (by show x < nb.length; omega) (s.last + 1) (s' := { s with path := s.path.dropLast, last := s.last + 1, number := nb.set x (s.last + 1), opn := o' ++ [x] }) rfl rfl rfl (fun k hk hk0 => by match k, hk with | 0, _ => rfl | 1, _ => rfl | 2, _ => rfl | 3, _ => exact absurd rfl hk0 | 4, _ => rfl | 5, _ => rfl)
        have hF1 := hS.putF (i := 3) (by decide) hvn x (iV (s.last + 1))
        have hM2 := hM1.cutp (i := 5) (.inr rfl) hvo (k := o'.length) (by show o'.length ≤ (o' ++ [x]).length; simp) (s' := { s with path := s.path.dropLast, last := s.last + 1, number := nb.set x (s.last + 1), opn := o' }) rfl rfl (fun k hk hk0 => by match k, hk with | 0, _ => rfl | 1, _ => rfl | 2, _ => rfl | 3, _ => rfl | 4, _ => rfl | 5, _ => exact absurd rfl hk0) (by show o' = (o' ++ [x]).take o'.length; simp)
        have hON := opn_pop (n := s.last + 1) (by omega) hnl hO
        have HPN : Hid (popR u (s.last + 1) o'.reverse (nb.set x (s.last + 1)) = popR u (s.last + 1) s.opn.reverse s.number) := Lib.hid (by
          rw [← HP.out, List.reverse_append]
          exact (popR_go hz).symm)
        obtain ⟨m1, hm1⟩ : ∃ m, o'.length = m := ⟨_, rfl⟩
        have hgm : m1 + 1 = gk := by rw [← hgk, ← hm1]; simp
        rw [hm1] at c6 hco hM2 q5
        have HM1 := Lib.hid hm1
        have HM2 := Lib.hid hM2
        have HF1 := Lib.hid ((hF.trans hF1).trans (FG.blk _ B b 6 (.slice (some ⟨go, 0, none⟩) m1 co)))
        have hx1 : (x : Int) < (n : Int) := by omega
        have hx2 : (0 : Int) ≤ (x : Int) := Int.natCast_nonneg x
        have hx3 : (x : Int).toNat = x := Int.toNat_natCast x
        have hmz : m1 + 1 ≤ 1000000000 := by omega
        have hwm : IntKind.i64.wrap (m1 : Int) = (m1 : Int) := IntWalk.i64_in _ (by omega)
        have hw5 : (0 : Int) ≤ (m1 : Int) := Int.natCast_nonneg m1
        have hw6 : (m1 : Int).toNat = m1 := Int.toNat_natCast m1
        have hw2 : (m1 : Int) < (m1 : Int) + 1 := by omega
        have hw7 : (m1 : Int) ≤ (co : Int) := by omega
        have hw8 : m1 ≤ co := by omega
        have hw9 : ¬ co = 0 := by omega
        have HGM := Lib.hid hgm
        clear hM1 hM2 hm1 hvo hvn e3 e5 hgx hgk hgm
        go_wp2
        go_region
        go_wp2
        go_roundg m1
        case rel => exact ⟨upd rx 5 (.slice (some ⟨go, 0, none⟩) m1 co), nb.set x (s.last + 1), o', HM2.out.same ((Only.refl _ _).drew), by rw [List.length_set]; exact hnl, hON, HM1.out, by have := HGM.out; omega, HPN, HF1.out.trans (FG.keep ((Only.refl _ _).drew))⟩
        case measure => have := HGM.out; omega
      · obtain ⟨nn, hnn⟩ : ∃ k, gt nb u = k := ⟨_, rfl⟩
        have hz1 : ((nn : Int) == 0) = false := by rw [← hnn]; simp; omega
        have HR : Hid (leaveS s u = { s with path := s.path.dropLast, last := s.last + 1, number := nb, opn := o }) := Lib.hid (by
          rw [leave_zero HNLO.out, ← HP.out, popR_stop hz]
          simp)
        rw [hnn] at q3
        clear hnn hvn e3 hz
        go_wp2
        go_end0
        rw [HR.out]
        exact ⟨rfl, rx, hS, hF⟩
end
end Go.Proofs.Ytijohaeiiidcpaa
