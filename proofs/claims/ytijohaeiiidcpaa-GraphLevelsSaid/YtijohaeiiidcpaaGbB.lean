/-
  WALKS. The search: enter, end.
-/
import Derived.Test.YtijohaeiiidcpaaGbA
namespace Go.Proofs.Ytijohaeiiidcpaa
open Go.RowKit Go.Maps
def upd (r : Nat → Value) (i : Nat) (v : Value) (k : Nat) : Value := if k = i then v else r k
section
variable {w w' : World} {B b : Nat} {vE : Value} {r : Nat → Value} {s : SS}
/-- A row has grown, and stands in the search's block. -/
theorem SM.grow (h : SM w B b vE r s) {i : Nat} (hi : i = 4 ∨ i = 5) {w3 : World} (hg : w.grownBy w3 (r i).ownBlock) {v' : Value} {s' : SS} (hf : s'.found = s.found) (hl : s'.last = s.last) (ho : ∀ k, k < 6 → k ≠ i → dat s' k = dat s k)
    (hrow : IR w3 B v' (dat s' i)) (hb : ∀ g, v'.ownBlock = some g → (r i).ownBlock = some g ∨ w.heap.size ≤ g) : SM (w3.setCell ⟨b, i + 1, none⟩ v') B b vE (upd r i v') s' := by
  have hi6 : i < 6 := by omega
  have hbb : w3.heap[b]? = w.heap[b]? := hg.block b h.lt (fun e => h.ne hi6 e.symm rfl)
  have hO : Only (· = b) w3 (w3.setCell ⟨b, i + 1, none⟩ v') := Only.setCell (K := (· = b)) (Only.refl _ _) rfl _
  have h' := hbb.trans h.blk
  have hnb : ∀ g, v'.ownBlock = some g → ¬ g = b := fun g hgv e => by
    rcases hb g hgv with h1 | h1
    · exact h.ne hi6 h1 e
    · have := h.lt; omega
  refine ⟨?_, h.low, fun k hk => ?_, ?_⟩
  · rw [hf, hl]
    rcases hi with rfl | rfl
    · show (w3.setCell ⟨b, 5, none⟩ v').heap[b]? = _
      simp [World.setCell, Array.getElem?_modify, h', upd]
    · show (w3.setCell ⟨b, 6, none⟩ v').heap[b]? = _
      simp [World.setCell, Array.getElem?_modify, h', upd]
  · by_cases e : k = i
    · subst e
      rw [show upd r k v' k = v' from if_pos rfl]
      exact hrow.only hO (fun g hgv e' => hnb g hgv e')
    · rw [show upd r i v' k = r k from if_neg e, ho k hk e]
      have h2 : IR w3 B (r k) (dat s k) := rowKeep (h.row k hk) (fun g hgk => hg.block g (World.ownsRow.lt (h.row k hk) g hgk).2 (fun e' => h.dis k i hk hi6 e g hgk e'.symm))
      exact h2.only hO (fun g hgk e' => h.ne hk hgk e')
  · intro k j hk hj hkj g hgk hgj
    have hkey : ∀ j, j < 6 → j ≠ i → ∀ g, v'.ownBlock = some g → (r j).ownBlock ≠ some g := fun j hj hji g h1 h2 => by
      rcases hb g h1 with h3 | h3
      · exact h.dis j i hj hi6 hji g h2 h3
      · have := (World.ownsRow.lt (h.row j hj) g h2).2; omega
    by_cases e : k = i
    · rw [show upd r i v' k = v' from if_pos e] at hgk
      rw [show upd r i v' j = r j from if_neg (fun e' => hkj (e.trans e'.symm))] at hgj
      exact hkey j hj (fun e' => hkj (e.trans e'.symm)) g hgk hgj
    · rw [show upd r i v' k = r k from if_neg e] at hgk
      by_cases e2 : j = i
      · rw [show upd r i v' j = v' from if_pos e2] at hgj
        exact hkey k hk e g hgj hgk
      · rw [show upd r i v' j = r j from if_neg e2] at hgj
        exact h.dis k j hk hj hkj g hgk hgj
/-- A row of the block is cut. -/
theorem SM.cutp (h : SM w B b vE r s) {i : Nat} (hi : i = 4 ∨ i = 5) {oa : Option Addr} {n ca k : Nat} (hr : r i = .slice oa n ca) (hk : k ≤ (dat s i).length) {s' : SS} (hf : s'.found = s.found) (hl : s'.last = s.last) (ho : ∀ k, k < 6 → k ≠ i → dat s' k = dat s k) (hd : dat s' i = (dat s i).take k) :
    SM (w.setCell ⟨b, i + 1, none⟩ (.slice oa k ca)) B b vE (upd r i (.slice oa k ca)) s' := by
  have hi6 : i < 6 := by omega
  have hrow := h.row i hi6
  rw [hr] at hrow
  have hcut := hrow.cut hk
  rw [← hd] at hcut
  exact h.grow hi ⟨rfl, rfl, rfl, Nat.le_refl _, fun _ _ _ => rfl⟩ hf hl ho hcut (fun g hg => .inl (by rw [hr]; cases oa <;> exact hg))
theorem SM.rowv (h : SM w B b vE r s) {i : Nat} (hi : i < 6) : ∃ oa ca, r i = .slice oa (dat s i).length ca := rowForm (h.row i hi)
/-- The i-th row at k. -/
theorem SM.rat (h : SM w B b vE r s) {i k : Nat} (hi : i < 6) (hk : k < (dat s i).length) : ∃ g ca, r i = .slice (some ⟨g, 0, none⟩) (dat s i).length ca ∧ (dat s i).length ≤ ca ∧ w.cell? ⟨g, k, none⟩ = some (iV (gt (dat s i) k)) ∧ w.frozen? ⟨g, k, none⟩ = false ∧ ¬ g = b := by
  obtain ⟨oa, ca, hv⟩ := h.rowv hi
  have hr := h.row i hi
  rw [hv] at hr
  obtain ⟨g, rfl, hB, -, hca, hc, hf⟩ := hr.at hk
  exact ⟨g, ca, hv, hca, hc, hf, h.ne hi (by rw [hv]; rfl)⟩
set_option maxRecDepth 100000 in
set_option maxHeartbeats 2000000 in
theorem end_p (h : SM w B b vE r s) {A : List Nat} {u : Nat} (hp : s.path = A ++ [u]) (hn : s.path.length ≤ 1000000000) : Calls Try.prog 50 #[.pointer (some ⟨b, 0, none⟩)] w fun e w' => e = .returned (iV u) ∧ Only (fun _ => False) w w' := by
  have hlt : A.length < (dat s 4).length := by show _ < s.path.length; rw [hp]; simp
  obtain ⟨g, ca, hv, hca, hc, hf, -⟩ := h.rat (i := 4) (k := A.length) (by decide) hlt
  have hgt : gt (dat s 4) A.length = u := by rw [gt_at hlt]; show s.path[A.length]'hlt = u; simp [hp]
  rw [hgt] at hc
  have c5 := h.cr (i := 4) (by decide)
  rw [hv] at c5
  have hln : (dat s 4).length = A.length + 1 := by show s.path.length = _; rw [hp]; simp
  rw [hp] at hn
  simp only [List.length_append, List.length_singleton] at hn
  rw [hln] at c5 hca
  obtain ⟨m, hm⟩ : ∃ m, A.length = m := ⟨_, rfl⟩
  rw [hm] at c5 hca hc hn
  clear hgt hln hlt hv hm hf
  have hwm : IntKind.i64.wrap (m : Int) = (m : Int) := IntWalk.i64_in _ (by omega)
  have hw2 : (m : Int) < (m : Int) + 1 := by omega
  have hw3 : m < m + 1 := Nat.lt_succ_self m
  have hw5 : (0 : Int) ≤ (m : Int) := Int.natCast_nonneg m
  have hw6 : (m : Int).toNat = m := Int.toNat_natCast m
  go_enter Try.func50, Try.ntmps50
  go_wp2
  go_quiet (fail)
  all_goals
    go_wp2
    go_ret
    exact ⟨rfl, only_drewN _ _⟩
end
end Go.Proofs.Ytijohaeiiidcpaa
