/-
  WALKS. The heap of components: its methods, reached through the interface.
-/
import Derived.Test.YtijohaeiiidcpaaGbI
import Derived.Test.YtijohaeiiidcpaaGhp
namespace Go.Proofs.Ytijohaeiiidcpaa
open Go.RowKit Go.Maps
/-- The heap's variable at b, its row. -/
structure HB (w : World) (B b : Nat) (v : Value) (l : List Nat) : Prop where
  blk : w.heap[b]? = some (.cells #[v] 62 (0, 0))
  low : B ≤ b
  row : IR w B v l
def HBx (w : World) (B b : Nat) (l : List Nat) (w' : World) : Prop := ∃ v', HB w' B b v' l ∧ FG B b w w'
section
variable {w w' : World} {B b : Nat} {v : Value} {l : List Nat}
theorem HB.lt (h : HB w B b v l) : b < w.heap.size := lt_of_block h.blk
theorem HB.c0 (h : HB w B b v l) : w.cell? ⟨b, 0, none⟩ = some v := (blk_c h.blk rfl).1
theorem HB.fz (h : HB w B b v l) (k : Nat) : w.frozen? ⟨b, k, none⟩ = false := by have h' := h.blk; simp [World.frozen?, h']
theorem HB.ne (h : HB w B b v l) {g : Nat} (hg : v.ownBlock = some g) : ¬ g = b := by
  intro e
  subst e
  rcases h.row.2 with ⟨hv, -⟩ | ⟨g', cap, cur, hv, -, hb', -⟩
  · rw [hv] at hg; cases hg
  · rw [hv] at hg
    cases hg
    rw [h.blk] at hb'
    exact absurd (Obj.cells.inj (Option.some.inj hb')).2.1 (by decide)
theorem HB.isI (h : HB w B b v l) {g : Nat} (hg : v.ownBlock = some g) : IsI w B g := by
  rcases h.row.2 with ⟨hv, -⟩ | ⟨g', cap, cur, hv, hB, hb', -⟩
  · rw [hv] at hg; cases hg
  · rw [hv] at hg
    cases hg
    exact ⟨hB, _, _, hb'⟩
theorem HB.same (h : HB w B b v l) (ho : Only (fun _ => False) w w') : HB w' B b v l := ⟨(ho.block b h.lt (fun hc => hc)).trans h.blk, h.low, h.row.only ho (fun _ _ hc => hc)⟩
theorem HB.put (h : HB w B b v l) {g n ca : Nat} (hr : v = .slice (some ⟨g, 0, none⟩) n ca) {j : Nat} (hj : j < l.length) (x : Nat) : HB (w.setCell ⟨g, j, none⟩ (iV x)) B b v (l.set j x) := by
  have hg : v.ownBlock = some g := by rw [hr]; rfl
  have hO : Only (· = g) w (w.setCell ⟨g, j, none⟩ (iV x)) := Only.setCell (K := (· = g)) (Only.refl _ _) rfl _
  refine ⟨(hO.block b h.lt (fun e => h.ne hg e.symm)).trans h.blk, h.low, ?_⟩
  have := h.row
  rw [hr] at this ⊢
  exact this.set hj x
theorem HB.rat (h : HB w B b v l) {k : Nat} (hk : k < l.length) : ∃ g ca, v = .slice (some ⟨g, 0, none⟩) l.length ca ∧ l.length ≤ ca ∧ w.cell? ⟨g, k, none⟩ = some (iV (gt l k)) ∧ w.frozen? ⟨g, k, none⟩ = false ∧ ¬ g = b := by
  obtain ⟨oa, ca, hv⟩ := rowForm h.row
  have hr := h.row
  rw [hv] at hr
  obtain ⟨g, rfl, hB, -, hca, hc, hf⟩ := hr.at hk
  exact ⟨g, ca, hv, hca, hc, hf, h.ne (by rw [hv]; rfl)⟩
end
set_option maxRecDepth 100000 in
theorem m_len (k : Nat) (w : World) (b : Nat) (v : Value) (h : w.cell? ⟨b, 0, none⟩ = some v) : Sem.run Try.prog (method (k + 1) 64 (.pointer (some ⟨b, 0, none⟩)) "Len") w = .ok (45, v) w := by
  have e : Sem.run Try.prog (method (k + 1) 64 (.pointer (some ⟨b, 0, none⟩)) "Len") w = Sem.run Try.prog (do pure (45, ← loadVar 62 ⟨b, 0, none⟩)) w := by kernel_rfl
  rw [e]
  simp [go_sem, h]
set_option maxRecDepth 100000 in
theorem m_less (k : Nat) (w : World) (b : Nat) (v : Value) (h : w.cell? ⟨b, 0, none⟩ = some v) : Sem.run Try.prog (method (k + 1) 64 (.pointer (some ⟨b, 0, none⟩)) "Less") w = .ok (76, v) w := by
  have e : Sem.run Try.prog (method (k + 1) 64 (.pointer (some ⟨b, 0, none⟩)) "Less") w = Sem.run Try.prog (do pure (76, ← loadVar 62 ⟨b, 0, none⟩)) w := by kernel_rfl
  rw [e]
  simp [go_sem, h]
set_option maxRecDepth 100000 in
theorem m_swap (k : Nat) (w : World) (b : Nat) (v : Value) (h : w.cell? ⟨b, 0, none⟩ = some v) : Sem.run Try.prog (method (k + 1) 64 (.pointer (some ⟨b, 0, none⟩)) "Swap") w = .ok (77, v) w := by
  have e : Sem.run Try.prog (method (k + 1) 64 (.pointer (some ⟨b, 0, none⟩)) "Swap") w = Sem.run Try.prog (do pure (77, ← loadVar 62 ⟨b, 0, none⟩)) w := by kernel_rfl
  rw [e]
  simp [go_sem, h]
set_option maxRecDepth 100000 in
theorem m_push (k : Nat) (w : World) (b : Nat) : Sem.run Try.prog (method (k + 1) 64 (.pointer (some ⟨b, 0, none⟩)) "Push") w = .ok (79, .pointer (some ⟨b, 0, none⟩)) w := by kernel_rfl
set_option maxRecDepth 100000 in
theorem m_pop (k : Nat) (w : World) (b : Nat) : Sem.run Try.prog (method (k + 1) 64 (.pointer (some ⟨b, 0, none⟩)) "Pop") w = .ok (78, .pointer (some ⟨b, 0, none⟩)) w := by kernel_rfl
section
variable {w w' : World} {B b : Nat} {v : Value} {l : List Nat}
set_option maxRecDepth 100000 in
theorem Len_p (w : World) (oa : Option Addr) (n ca : Nat) : Calls Try.prog 45 #[.slice oa n ca] w fun e w' => e = .returned (iV n) ∧ w' = w := by
  go_enter Try.func45, Try.ntmps45
  go_wp2
  go_ret
  exact ⟨rfl, rfl⟩
set_option maxRecDepth 100000 in
set_option maxHeartbeats 2000000 in
theorem Less_p (h : HB w B b v l) {i j : Nat} (hi : i < l.length) (hj : j < l.length) (x : Bool) (hx : decide (gt l i < gt l j) = x) : Calls Try.prog 76 #[v, iV i, iV j] w fun e w' => e = .returned (.bool x) ∧ Only (fun _ => False) w w' := by
  obtain ⟨g, ca, hv, hca, hc, hf, -⟩ := h.rat hi
  obtain ⟨g', ca', hv', -, hc', -, -⟩ := h.rat hj
  rw [hv] at hv'
  cases hv'
  subst hv
  obtain ⟨n, hn⟩ : ∃ n, l.length = n := ⟨_, rfl⟩
  rw [hn] at hi hj hca ⊢
  obtain ⟨a1, ha1⟩ : ∃ a, gt l i = a := ⟨_, rfl⟩
  obtain ⟨a2, ha2⟩ : ∃ a, gt l j = a := ⟨_, rfl⟩
  rw [ha1] at hc hx
  rw [ha2] at hc' hx
  have h01 : (0 : Int) ≤ (i : Int) := Int.natCast_nonneg i
  have h02 : (i : Int) < (n : Int) := by omega
  have h03 : (i : Int).toNat = i := Int.toNat_natCast i
  have h04 : (0 : Int) ≤ (j : Int) := Int.natCast_nonneg j
  have h05 : (j : Int) < (n : Int) := by omega
  have h06 : (j : Int).toNat = j := Int.toNat_natCast j
  have hx2 : decide ((a1 : Int) < (a2 : Int)) = x := by rw [← hx]; exact decide_eq_decide.2 ⟨fun h => by omega, fun h => by omega⟩
  have HX := Lib.hid hx
  clear ha1 ha2 hn hx
  go_enter Try.func76, Try.ntmps76
  go_wp2
  go_quiet (fail)
  all_goals
    go_wp2
    go_ret
    exact ⟨by first | rfl | (simp [HX.out]) | (simp [hx2]), only_drewN _ _⟩
set_option maxRecDepth 100000 in
set_option maxHeartbeats 4000000 in
theorem Swap_p (h : HB w B b v l) {i j : Nat} (hi : i < l.length) (hj : j < l.length) : Calls Try.prog 77 #[v, iV i, iV j] w fun e w' => e = .returned (.tuple #[]) ∧ HB w' B b v (swL l i j) ∧ FG B b w w' := by
  obtain ⟨g, ca, hv, hca, hc, hf, -⟩ := h.rat hi
  obtain ⟨g', ca', hv', -, hc', hf', -⟩ := h.rat hj
  rw [hv] at hv'
  cases hv'
  have hM1 := h.put hv hi (gt l j)
  have hM2 := hM1.put hv (j := j) (by rw [List.length_set]; exact hj) (gt l i)
  have hF : FG B b w ((w.setCell ⟨g, i, none⟩ (iV (gt l j))).setCell ⟨g, j, none⟩ (iV (gt l i))) := (Only.setCell (Only.refl _ _) (.inr (h.isI (by rw [hv]; rfl))) _).setCell (.inr (h.isI (by rw [hv]; rfl))) _
  have HM := Lib.hid hM2
  have HF := Lib.hid hF
  subst hv
  obtain ⟨n, hn⟩ : ∃ n, l.length = n := ⟨_, rfl⟩
  have HN := Lib.hid hn
  rw [hn] at hi hj hca ⊢
  have h01 : (0 : Int) ≤ (i : Int) := Int.natCast_nonneg i
  have h02 : (i : Int) < (n : Int) := by omega
  have h03 : (i : Int).toNat = i := Int.toNat_natCast i
  have h04 : (0 : Int) ≤ (j : Int) := Int.natCast_nonneg j
  have h05 : (j : Int) < (n : Int) := by omega
  have h06 : (j : Int).toNat = j := Int.toNat_natCast j
  clear hM1 hM2 hF hn
  by_cases hij : i = j
  · subst hij
    go_enter Try.func77, Try.ntmps77
    go_wp2
    go_region
    go_wp2
    all_goals
      go_end0
      rw [HN.out] at HM
      exact ⟨rfl, HM.out.same ((Only.refl _ _).drew), HF.out.trans (FG.keep ((Only.refl _ _).drew))⟩
  · have hij2 : ¬ j = i := fun e => hij e.symm
    go_enter Try.func77, Try.ntmps77
    go_wp2
    go_region
    go_wp2
    all_goals
      go_end0
      rw [HN.out] at HM
      exact ⟨rfl, HM.out.same ((Only.refl _ _).drew), HF.out.trans (FG.keep ((Only.refl _ _).drew))⟩
end
end Go.Proofs.Ytijohaeiiidcpaa
