/-
  WALKS. slices.DeleteFunc with the program's closure: the node itself is struck.
-/
import Derived.Test.YtigmdiagdlbdpaaGreatMha
import Derived.Test.YtigmdiagdlbdpaaGreatMgv
import Derived.Shelf.SlicesE.DeleteFunc
namespace Go.Proofs.YtigmdiagdlbdpaaGreat
open Go.RowKit Go.Maps Go.Sort Go.Shelf Go.Lib
theorem strike_p (W : World) (x i : Int) (B : Nat) (hc : W.cell? ⟨B, 0, none⟩ = some (.int .i64 i)) : FnGives Tryz.prog 52 #[.pointer (some ⟨B, 0, none⟩)] #[.int .i64 x] (.bool (decide (x = i))) W := by
  show Calls Tryz.prog 52 #[.int .i64 x, .pointer (some ⟨B, 0, none⟩)] W _
  go_enter Tryz.func52, Tryz.ntmps52
  go_wp2
  all_goals (go_ret; exact ⟨rfl, 0, rfl⟩)
theorem strike_at (i : Int) (B : Nat) (w : World) (hB : B < w.heap.size) (hcell : w.cell? ⟨B, 0, none⟩ = some (.int .i64 i)) : PredAt Tryz.prog 52 #[.pointer (some ⟨B, 0, none⟩)] (Value.int .i64) (fun x => decide (x = i)) w :=
  fun W x hb => strike_p W x i B ((hb.cell (p := ⟨B, 0, none⟩) hB).trans hcell)
theorem strike_over (i : Int) (B blk off size : Nat) (w : World) (hB : B < w.heap.size) (hne : B ≠ blk) (hcell : w.cell? ⟨B, 0, none⟩ = some (.int .i64 i)) : PredOver Tryz.prog 52 #[.pointer (some ⟨B, 0, none⟩)] (Value.int .i64) (fun x => decide (x = i)) blk off size w :=
  fun n os dk x _ => strike_p _ x i B (by
    unfold sortWorld
    rw [cell?_grow _ _ _ (by show B < (putRow _ _ _ _ _).heap.size; rw [size_putRow]; exact hB), cell?_putRow_other _ _ blk off _ _ (Or.inl hne)]
    exact hcell)
theorem filt_int (l : List Nat) (i : Nat) : ((l.map (fun (x : Nat) => (x : Int))).filter fun x => !decide (x = (i : Int))) = (l.filter (fun x => x != i)).map (fun (x : Nat) => (x : Int)) := by
  rw [List.filter_map]
  congr 1
  apply List.filter_congr
  intro x _
  show (!decide ((x : Int) = (i : Int))) = (x != i)
  by_cases h : x = i
  · subst h; simp
  · have h2 : ¬ ((x : Int) = (i : Int)) := by omega
    rw [decide_eq_false h2]
    simp [h]
theorem ints_take {w : World} {oa : Option Addr} {n : Nat} {a b : List Nat} (h : Ints w oa n (a ++ b)) : Ints w oa a.length a := ⟨rfl, fun k hk => by
  obtain ⟨b1, o1, e1, c1⟩ := h.cell k (by rw [List.length_append]; omega)
  refine ⟨b1, o1, e1, ?_⟩
  have e2 : gt (a ++ b) k = gt a k := by
    rw [gt_at (by rw [List.length_append]; omega), gt_at hk, List.getElem_append_left hk]
  rw [e2] at c1
  exact c1⟩
theorem zeroInt (w : World) : (zeroValue 3).run Tryz.prog w = .ok (.int .i64 0) w := by kernel_rfl
set_option maxRecDepth 100000 in
theorem strikes_p (w : World) (B g n cap b : Nat) (l : List Nat) (i : Nat) (h : IR w B (.slice (some ⟨g, 0, none⟩) n cap) l) (hb : b < w.heap.size) (hne : b ≠ g) (hc : w.cell? ⟨b, 0, none⟩ = some (iV i)) (hn : n ≤ 1000000) :
    Calls Tryz.prog 51 #[.slice (some ⟨g, 0, none⟩) n cap, .func (.func 52) #[] #[.pointer (some ⟨b, 0, none⟩)]] w fun e w' => e = .returned (.slice (some ⟨g, 0, none⟩) (l.filter (fun x => x != i)).length cap) ∧ Ints w' (some ⟨g, 0, none⟩) (l.filter (fun x => x != i)).length (l.filter (fun x => x != i)) ∧ Only (· = g) w w' := by
  obtain ⟨oa', ca', hv⟩ := rowForm h
  have hnl : l.length = n := by cases hv; rfl
  rcases h.2 with ⟨hv, hn0⟩ | ⟨g', cap', cur, hv, hbase, hblk, h1, h2, h3, h4⟩
  · cases hv
  · cases hv
    have hmap : l.map iV = (l.map (fun (x : Nat) => (x : Int))).map (Value.int .i64) := (mapIV l).symm
    have hlen : (l.map (fun (x : Nat) => (x : Int))).length = l.length := List.length_map _
    have hH : Holds (Value.int .i64) w g 0 (l.map (fun (x : Nat) => (x : Int))).toArray := holds_of_blockI hblk (by rw [hlen, ← hmap]; simpa using h4)
    have eg : ∀ args w, (callFunc 52 args).run Tryz.prog w = .ok (.enter 52 args) w := enters_of Tryz.func52 (by kernel_rfl) rfl
    have hcon := Tryz.slices_DeleteFunc (Value.int .i64) (fun _ => rfl) (fun x => decide (x = (i : Int))) 52 #[.pointer (some ⟨b, 0, none⟩)] eg 0 zeroInt g 0 cap (l.map (fun (x : Nat) => (x : Int))).toArray w (strike_at i b w hb hc) (strike_over i b g 0 _ w hb hne hc) hH (by simp; omega) (by simp; exact h1)
    have e1 : (l.map (fun (x : Nat) => (x : Int))).toArray.size = l.length := by simp
    have e2 : (l.map (fun (x : Nat) => (x : Int))).toArray.toList = l.map (fun (x : Nat) => (x : Int)) := rfl
    rw [e1, e2, filt_int, List.length_map] at hcon
    rw [← hnl] at hcon ⊢
    refine hcon.mono ?_
    rintro e w' ⟨rfl, q, rfl⟩
    refine ⟨rfl, ?_, ?_⟩
    · have hle := List.length_filter_le (fun x => x != i) l
      obtain ⟨F, hF⟩ : ∃ F, l.filter (fun x => x != i) = F := ⟨_, rfl⟩
      rw [hF] at hle ⊢
      have h5 := ownsRow_sortedI (os := #[]) (n := q) (ss := l.map (fun (x : Nat) => (x : Int))) (ts := F.map (fun (x : Nat) => (x : Int)) ++ List.replicate (l.length - F.length) 0) (by simp; omega) hbase hblk (by rw [hlen]; exact h1) h2 h3
      rw [grow_empty, hlen] at h5
      have h6 : IR (putRow (Value.int .i64) (Sort.ahead w q) g 0 (F.map (fun (x : Nat) => (x : Int)) ++ List.replicate (l.length - F.length) 0).toArray) B (.slice (some ⟨g, 0, none⟩) l.length cap) (F ++ List.replicate (l.length - F.length) 0) := by
        unfold IR
        have e3 : (F ++ List.replicate (l.length - F.length) 0).length = l.length := by simp; omega
        have e4 : (F ++ List.replicate (l.length - F.length) 0).map iV = (F.map (fun (x : Nat) => (x : Int)) ++ List.replicate (l.length - F.length) 0).map (Value.int .i64) := by
          rw [← mapIV, List.map_append (f := fun (x : Nat) => (x : Int))]
          simp
        rw [e3, e4]
        exact h5
      have h7 := h6.ints
      exact ints_take (by simpa using h7)
    · have h8 := grownBy_sortedI (w := w) (g := g) (n := q) (os := #[]) (((l.filter (fun x => x != i)).map (fun (x : Nat) => (x : Int))) ++ List.replicate (l.length - (l.filter (fun x => x != i)).length) 0).toArray
      rw [grow_empty] at h8
      exact Only.grown h8 (fun g' e => by cases e; rfl)
end Go.Proofs.YtigmdiagdlbdpaaGreat
