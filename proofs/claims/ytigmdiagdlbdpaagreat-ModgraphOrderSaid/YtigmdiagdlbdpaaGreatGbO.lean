/-
  WALKS. The graph: nodes, Reach.
-/
import Derived.Test.YtigmdiagdlbdpaaGreatGbN
import Derived.Test.YtigmdiagdlbdpaaGreatGbF
namespace Go.Proofs.YtigmdiagdlbdpaaGreat
open Go.RowKit Go.Maps
def uptoL (k n : Nat) : List Nat := List.range k ++ zeros (n - k)
theorem uptoL_len {k n : Nat} (h : k ≤ n) : (uptoL k n).length = n := by
  unfold uptoL zeros
  rw [List.length_append, List.length_range, List.length_replicate]
  omega
theorem uptoL_zero (n : Nat) : uptoL 0 n = zeros n := rfl
theorem uptoL_all (n : Nat) : uptoL n n = List.range n := by unfold uptoL zeros; rw [Nat.sub_self]; exact List.append_nil _
theorem uptoL_set {k n : Nat} (h : k < n) : (uptoL k n).set k k = uptoL (k + 1) n := by
  obtain ⟨m, hm⟩ : ∃ m, n = k + 1 + m := ⟨n - (k + 1), by omega⟩
  subst hm
  unfold uptoL zeros
  rw [show k + 1 + m - k = m + 1 by omega, show k + 1 + m - (k + 1) = m by omega, List.set_append_right _ _ (by rw [List.length_range]; exact Nat.le_refl _), List.length_range, Nat.sub_self, List.replicate_succ, List.set_cons_zero, List.range_succ, List.append_assoc]
  rfl
set_option maxRecDepth 100000 in
set_option maxHeartbeats 4000000 in
theorem nodes_p (w : World) (oE : Option Addr) (n cE : Nat) (hn : n ≤ 1000000000) : Calls Tryz.prog 47 #[.agg #[.slice oE n cE]] w fun e w' => ∃ v, e = .returned v ∧ IR w' w.heap.size v (List.range n) ∧ Only (fun _ => False) w w' := by
  have hmk := mk_ints hn
  have hA : Only (w.heap.size ≤ ·) w ((w.alloc (.cells #[.slice oE n cE] 49)).alloc (zO n)) := ((Only.refl _ _).alloc _).alloc _
  have hI : IR ((w.alloc (.cells #[.slice oE n cE] 49)).alloc (zO n)) w.heap.size (.slice (some ⟨w.heap.size + 1, 0, none⟩) n n) (uptoL 0 n) := IR.made (by omega) (new_at _ (by show (Array.push _ _).size = _; rw [Array.size_push])) hn
  go_enter Tryz.func47, Tryz.ntmps47
  go_wp2
  go_loopw [11] (fun q wr => ∃ k : Nat, k ≤ n ∧ q = .int .i64 k ∧ IR wr w.heap.size (.slice (some ⟨w.heap.size + 1, 0, none⟩) n n) (uptoL k n) ∧ Only (w.heap.size ≤ ·) w wr) (fun q _ => n - (intOf q).toNat)
  case atStart => exact ⟨0, by omega, rfl, hI, hA⟩
  case round =>
    clear hI hA
    obtain ⟨k, hk, rfl, hI, hO⟩ := hrel
    by_cases hlt : k < n
    · have h05 : (0 : Int) ≤ (k : Int) := Int.natCast_nonneg k
      have h06 : (k : Int) < (n : Int) := by omega
      have h07 : (k : Int).toNat = k := Int.toNat_natCast k
      have hkl : k < (uptoL k n).length := by rw [uptoL_len hk]; exact hlt
      obtain ⟨g, hg, -, -, -, hc, hz⟩ := hI.at hkl
      cases hg
      have HN := Lib.hid (uptoL_set hlt ▸ IR.set hI hkl k)
      have HO := Lib.hid (hO.setCell (K := (w.heap.size ≤ ·)) (b := w.heap.size + 1) (k := k) (by show w.heap.size ≤ _; omega) (iV k))
      clear hkl
      go_wp2
      go_roundw
      case rel => exact ⟨k + 1, by omega, by go_num, HN.out, HO.out⟩
      case measure => simp [intOf]; omega
    · have hkn : k = n := by omega
      subst hkn
      rw [uptoL_all] at hI
      go_wp2
      go_ret
      exact ⟨_, rfl, hI, ⟨hO.os, hO.tape, hO.output, hO.size, fun i hi _ => hO.block i hi (fun hc => by have hc' : w.heap.size ≤ i := hc; omega)⟩⟩
end Go.Proofs.YtigmdiagdlbdpaaGreat
