/-
  WA51S. The search: look.
-/
import Derived.Test.YtijohaeiiidcpaaGbC
namespace Go.Proofs.Ytijohaeiiidcpaa
open Go.RowKit Go.Maps
section
variable {w w' : World} {B b : Nat} {vE : Value} {r : Nat → Value} {s : SS}
/-- The rows have one length. -/
structure Ln (n : Nat) (s : SS) : Prop where
  p : s.place.length = n
  l : s.lowest.length = n
  k : s.looked.length = n
  m : s.number.length = n
theorem Lt.ln' {G : List (List Nat)} (h : Lt G s) : Ln G.length s := ⟨h.lp, h.ll, h.lk, h.ln⟩
theorem look_zero {u v : Nat} (hn : gt s.number v = 0) : lookS s u v = { s with lowest := s.lowest.set u (min (gt s.lowest u) (gt s.lowest v)), looked := s.looked.set u (gt s.looked u + 1) } := by unfold lookS; rw [if_pos hn]
theorem look_some {u v : Nat} (hn : ¬ gt s.number v = 0) : lookS s u v = { s with looked := s.looked.set u (gt s.looked u + 1) } := by unfold lookS; rw [if_neg hn]
set_option maxRecDepth 100000 in
set_option maxHeartbeats 8000000 in
theorem look_p (h : SM w B b vE r s) {n u v : Nat} (hl : Ln n s) (hu : u < n) (hv : v < n) (hk : gt s.looked u + 1 ≤ 1000000000) : Calls Try.prog 51 #[.pointer (some ⟨b, 0, none⟩), iV u, iV v] w fun e w' => e = .returned (.tuple #[]) ∧ SMx w B b vE (lookS s u v) w' := by
  have h01 : (0 : Int) ≤ (u : Int) := Int.natCast_nonneg u
  have h02 : (u : Int) < (n : Int) := by omega
  have h04 : (u : Int).toNat = u := Int.toNat_natCast u
  have h05 : (0 : Int) ≤ (v : Int) := Int.natCast_nonneg v
  have h06 : (v : Int) < (n : Int) := by omega
  have h07 : (v : Int).toNat = v := Int.toNat_natCast v
  obtain ⟨gn, cn, hvn, hcn, q3, f3, n3⟩ := h.rat (i := 3) (k := v) (by decide) (by show v < s.number.length; rw [hl.m]; exact hv)
  have c4 := h.cr (i := 3) (by decide)
  have e3 : (dat s 3).length = n := hl.m
  rw [hvn, e3] at c4
  rw [e3] at hcn hvn
  by_cases hz : gt s.number v = 0
  · obtain ⟨gl, cl, hvl, hcl, q1, f1, n1⟩ := h.rat (i := 1) (k := u) (by decide) (by show u < s.lowest.length; rw [hl.l]; exact hu)
    obtain ⟨gl', cl', hvl', -, q1', -, -⟩ := h.rat (i := 1) (k := v) (by decide) (by show v < s.lowest.length; rw [hl.l]; exact hv)
    rw [hvl] at hvl'
    cases hvl'
    have c2 := h.cr (i := 1) (by decide)
    have e1 : (dat s 1).length = n := hl.l
    rw [hvl, e1] at c2
    rw [e1] at hcl hvl
    change w.cell? ⟨gl, u, none⟩ = some (iV (gt s.lowest u)) at q1
    change w.cell? ⟨gl, v, none⟩ = some (iV (gt s.lowest v)) at q1'
    change w.cell? ⟨gn, v, none⟩ = some (iV (gt s.number v)) at q3
    rw [hz] at q3
    obtain ⟨a1, ha1⟩ : ∃ a, gt s.lowest u = a := ⟨_, rfl⟩
    obtain ⟨a2, ha2⟩ : ∃ a, gt s.lowest v = a := ⟨_, rfl⟩
    have hM1 := h.put (i := 1) (by decide) hvl (j := u) (by rw [e1]; exact hu) (min a1 a2) (s' := { s with lowest := s.lowest.set u (min a1 a2) }) rfl rfl rfl (fun k hk hk0 => by match k, hk with | 0, _ => rfl | 1, _ => exact absurd rfl hk0 | 2, _ => rfl | 3, _ => rfl | 4, _ => rfl | 5, _ => rfl)
    have hF1 : FG B b w (w.setCell ⟨gl, u, none⟩ (iV (min a1 a2))) := h.putF (i := 1) (by decide) hvl u _
    have hmin : ((min a1 a2 : Nat) : Int) = if a2 < a1 then (a2 : Int) else (a1 : Int) := by split <;> omega
    have HM1 : Hid (SM (w.setCell ⟨gl, u, none⟩ (.int .i64 (if a2 < a1 then (a2 : Int) else (a1 : Int)))) B b vE r { s with lowest := s.lowest.set u (min a1 a2) }) := Lib.hid (by rw [← hmin]; exact hM1)
    have HF1 : Hid (FG B b w (w.setCell ⟨gl, u, none⟩ (.int .i64 (if a2 < a1 then (a2 : Int) else (a1 : Int))))) := Lib.hid (by rw [← hmin]; exact hF1)
    have HA1 := Lib.hid ha1
    have HA2 := Lib.hid ha2
    rw [ha1] at q1
    rw [ha2] at q1'
    have HZ := Lib.hid hz
    clear hM1 hF1 hmin ha1 ha2 hz hvl hvn e1 e3
    go_enter Try.func51, Try.ntmps51
    go_wp2
    go_region
    refine gen_exit (fun wx => SM wx B b vE r { s with lowest := s.lowest.set u (min a1 a2) } ∧ FG B b w wx) ⟨HM1.out.same ((Only.refl _ _).drew), HF1.out.trans (FG.keep ((Only.refl _ _).drew))⟩ ?_
    clear HM1 HF1 q1 q1' q3 f1 f3 n1 n3 c2 c4 hcl hcn
    rintro wx ⟨hS, hF⟩
    have hlk : gt s.looked u = gt ({ s with lowest := s.lowest.set u (min a1 a2) } : SS).looked u := rfl
    obtain ⟨gk, ck, hvk, hck, q2, f2, n2⟩ := hS.rat (i := 2) (k := u) (by decide) (by show u < s.looked.length; rw [hl.k]; exact hu)
    have e2 : (dat ({ s with lowest := s.lowest.set u (min a1 a2) } : SS) 2).length = n := hl.k
    have c3 := hS.cr (i := 2) (by decide)
    rw [hvk, e2] at c3
    rw [e2] at hck hvk
    change wx.cell? ⟨gk, u, none⟩ = some (iV (gt s.looked u)) at q2
    obtain ⟨kk, hkk⟩ : ∃ k, gt s.looked u = k := ⟨_, rfl⟩
    rw [hkk] at q2 hk
    have hM2 := hS.put (i := 2) (by decide) hvk (j := u) (by rw [e2]; exact hu) (kk + 1) (s' := lookS s u v) (by rw [look_zero HZ.out]) (by rw [look_zero HZ.out]) (by rw [look_zero HZ.out, hkk]; rfl) (fun k hk hk0 => by rw [look_zero HZ.out, HA1.out, HA2.out]; match k, hk with | 0, _ => rfl | 1, _ => rfl | 2, _ => exact absurd rfl hk0 | 3, _ => rfl | 4, _ => rfl | 5, _ => rfl)
    have hF2 : FG B b wx (wx.setCell ⟨gk, u, none⟩ (iV (kk + 1))) := hS.putF (i := 2) (by decide) hvk u _
    have hwk : IntKind.i64.wrap ((kk : Int) + 1) = (kk : Int) + 1 := IntWalk.i64_in _ (by omega)
    have HM2 := Lib.hid hM2
    have HF2 := Lib.hid (hF.trans hF2)
    clear hM2 hF2 hkk hvk e2 hlk
    go_wp2
    all_goals
      go_end0
      exact ⟨rfl, r, HM2.out, HF2.out⟩
  · change w.cell? ⟨gn, v, none⟩ = some (iV (gt s.number v)) at q3
    have hz1 : (((gt s.number v : Nat) : Int) == 0) = false := by simp; omega
    obtain ⟨nn, hnn⟩ : ∃ k, gt s.number v = k := ⟨_, rfl⟩
    obtain ⟨gk, ck, hvk, hck, q2, f2, n2⟩ := h.rat (i := 2) (k := u) (by decide) (by show u < s.looked.length; rw [hl.k]; exact hu)
    have e2 : (dat s 2).length = n := hl.k
    have c3 := h.cr (i := 2) (by decide)
    rw [hvk, e2] at c3
    rw [e2] at hck hvk
    change w.cell? ⟨gk, u, none⟩ = some (iV (gt s.looked u)) at q2
    obtain ⟨kk, hkk⟩ : ∃ k, gt s.looked u = k := ⟨_, rfl⟩
    rw [hkk] at q2 hk
    have hM2 := h.put (i := 2) (by decide) hvk (j := u) (by rw [e2]; exact hu) (kk + 1) (s' := lookS s u v) (by rw [look_some hz]) (by rw [look_some hz]) (by rw [look_some hz, hkk]; rfl) (fun k hk hk0 => by rw [look_some hz]; match k, hk with | 0, _ => rfl | 1, _ => rfl | 2, _ => exact absurd rfl hk0 | 3, _ => rfl | 4, _ => rfl | 5, _ => rfl)
    have hF2 : FG B b w (w.setCell ⟨gk, u, none⟩ (iV (kk + 1))) := h.putF (i := 2) (by decide) hvk u _
    have hwk : IntKind.i64.wrap ((kk : Int) + 1) = (kk : Int) + 1 := IntWalk.i64_in _ (by omega)
    have HM2 := Lib.hid hM2
    have HF2 := Lib.hid hF2
    rw [hnn] at q3 hz1
    clear hM2 hF2 hkk hvk e2 hz hnn hvn e3
    go_enter Try.func51, Try.ntmps51
    go_wp2
    all_goals
      go_end0
      exact ⟨rfl, r, HM2.out, HF2.out⟩
end
end Go.Proofs.Ytijohaeiiidcpaa
