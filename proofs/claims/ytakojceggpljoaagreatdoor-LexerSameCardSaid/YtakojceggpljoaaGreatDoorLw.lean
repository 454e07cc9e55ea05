/-
  The world in which the library's variables lie as their text lays them, kept by every call; the library's calls in that word.
-/
import Derived.Test.YtakojceggpljoaaGreatDoorShape
import Derived.Lib.AtoiErrMem
namespace Go.Proofs.YtakojceggpljoaaGreatDoor
open Go.RowKit Go.Sort
theorem gMax : Tryz.prog.globalNamed "internal/bytealg.MaxLen" = some 0 := by kernel_rfl
theorem gPow : Tryz.prog.globalNamed "internal/strconv.uint64pow10" = some 3 := by kernel_rfl
theorem gSyn : Tryz.prog.globalNamed "strconv.ErrSyntax" = some 4 := by kernel_rfl
theorem gRan : Tryz.prog.globalNamed "strconv.ErrRange" = some 5 := by kernel_rfl
/-- Against the world W in which a base call began: old blocks as they were, the library's variables as laid. -/
structure Q (W w : World) : Prop where
  bel : Below W.heap.size W w
  lo : 0 < W.heap.size ∧ 3 < W.heap.size ∧ 4 < W.heap.size ∧ 5 < W.heap.size
  m : ∃ m, w.cell? ⟨0, 0, none⟩ = some (.int .i64 m)
  tab : Lib.TabIs Tryz.prog w "internal/strconv.uint64pow10" .u64 Lib.pow10Tab
  es : ∃ tp p, w.var? Tryz.prog "strconv.ErrSyntax" = some #[.iface tp p]
  er : ∃ tp p, w.var? Tryz.prog "strconv.ErrRange" = some #[.iface tp p]
theorem Q.self {W w : World} (h : Q W w) : Q w w := { bel := Below.refl _ _, lo := by { have := h.lo; have := h.bel.size; omega }, m := h.m, tab := h.tab, es := h.es, er := h.er }
theorem var_lt {w : World} {n : String} {g : Nat} {cs : Array Value} (hg : Tryz.prog.globalNamed n = some g) (h : w.var? Tryz.prog n = some cs) : g < w.heap.size := by
  unfold World.var? at h
  rw [hg] at h
  simp only [Option.bind_some] at h
  by_cases hl : g < w.heap.size
  · exact hl
  · rw [Array.getElem?_eq_none (by omega)] at h; cases h
theorem cell_lt {w : World} {b o : Nat} {v : Value} (h : w.cell? ⟨b, o, none⟩ = some v) : b < w.heap.size := by
  by_cases hl : b < w.heap.size
  · exact hl
  · have : w.heap[b]? = none := Array.getElem?_eq_none (by omega)
    simp [World.cell?, this] at h
theorem Q.below {W w w' : World} (h : Q W w) (hb : Below w.heap.size w w') : Q W w' where
  bel := h.bel.trans (hb.mono h.bel.size)
  lo := h.lo
  m := by
    obtain ⟨m, hm⟩ := h.m
    exact ⟨m, (hb.cell (by exact cell_lt hm)).trans hm⟩
  tab := var?_below hb gPow (var_lt gPow h.tab) h.tab
  es := by
    obtain ⟨tp, p, hv⟩ := h.es
    exact ⟨tp, p, var?_below hb gSyn (var_lt gSyn hv) hv⟩
  er := by
    obtain ⟨tp, p, hv⟩ := h.er
    exact ⟨tp, p, var?_below hb gRan (var_lt gRan hv) hv⟩
theorem Q.step {W w w' : World} (h : Q W w) (h' : Q w w') : Q W w' := h.below h'.bel
theorem below_grow {B : Nat} {w : World} (hB : B ≤ w.heap.size) (k : Nat) (os : Array Obj) : Below B w (grow (w.drewN k) os) :=
  ⟨rfl, rfl, rfl, by simp [grow], fun i hi => by
    show (w.heap ++ os)[i]? = _
    rw [Array.getElem?_append_left (by omega)]⟩
theorem shape_q (s : ByteArray) (W w : World) (hs : s.size ≤ 1000000) (hq : Q W w) :
    Calls Tryz.prog 121 #[.string s] w fun e w' => e = .returned (.int .i64 (shp s.data.toList)) ∧ Q W w' :=
  (shapeOf_any s w (by omega)).mono fun _ _ ⟨he, hb⟩ => ⟨he, hq.below hb⟩
theorem cut_q (s : ByteArray) (W w : World) (hs : s.size ≤ 1000000) (hq : Q W w) :
    Calls Tryz.prog 173 #[.string s, .string ⟨#[46]⟩] w fun e w' => e = .returned (.tuple #[.string ⟨(Lib.cut s.data.toList [46]).1.toArray⟩, .string ⟨(Lib.cut s.data.toList [46]).2.1.toArray⟩, .bool (Lib.cut s.data.toList [46]).2.2]) ∧ Q W w' := by
  obtain ⟨m, hm⟩ := hq.m
  refine (Tryz.strings_Cut s ⟨#[46]⟩ m w (by omega) hm).mono fun _ _ ⟨he, n, hw⟩ => ⟨he, hq.below ?_⟩
  subst hw
  exact below_drewN (Below.refl _ _) n
theorem itoa_q (n : Int) (W w : World) (h0 : -9223372036854775808 ≤ n) (h1 : n ≤ 9223372036854775807) (hq : Q W w) :
    Calls Tryz.prog 106 #[.int .i64 n] w fun e w' => e = .returned (.string ⟨(Lib.itoa n).toArray⟩) ∧ Q W w' := by
  refine (Tryz.strconv_Itoa n h0 h1 w hq.tab).mono fun _ _ ⟨he, k, os, hw⟩ => ⟨he, hq.below ?_⟩
  subst hw
  exact below_grow (Nat.le_refl _) k os
/-- Atoi: the number, or some error. -/
theorem atoi_ok (s : ByteArray) (v : Int) (h : Lib.atoiAll s.data.toList = .ok v) (W w : World) (hs : s.size ≤ 1000000) (hq : Q W w) :
    Calls Tryz.prog 166 #[.string s] w fun e w' => e = .returned (.tuple #[.int .i64 v, .nilIface]) ∧ Q W w' := by
  refine (Tryz.strconv_Atoi_ok s (by omega) v h w).mono fun _ _ ⟨he, hw⟩ => ⟨he, hq.below ?_⟩
  rcases hw with hw | ⟨t, hw⟩
  · subst hw; exact Below.refl _ _
  · subst hw; exact Lib.bytesWorld_below _ _ _
theorem atoi_no (s : ByteArray) (h : ∀ v, Lib.atoiAll s.data.toList ≠ .ok v) (W w : World) (hs : s.size ≤ 1000000) (hq : Q W w) :
    Calls Tryz.prog 166 #[.string s] w fun e w' => (∃ v t p, e = .returned (.tuple #[.int .i64 v, .iface t p])) ∧ Q W w' := by
  cases hk : Lib.atoiAll s.data.toList
  · exact absurd hk (h _)
  · obtain ⟨tp, p, hv⟩ := hq.es
    have hc : Calls Tryz.prog 166 #[.string s] w fun e w' => ∃ N, e = .returned (.tuple #[.int .i64 0, .iface 155 (.pointer (some ⟨N, 0, none⟩))]) ∧ w.heap.size ≤ N ∧ w'.heap[N]? = some (.cells #[.string ⟨#[65, 116, 111, 105]⟩, .string s, .iface tp p] 162 (0, 0)) ∧ Below w.heap.size w w' :=
      Any.strconv_Atoi_syntax_var Tryz.laysC172 s (by omega) hk tp p w hv
    exact hc.mono fun _ _ ⟨N, he, _, _, hb⟩ => ⟨⟨_, _, _, he⟩, hq.below hb⟩
  · obtain ⟨tp, p, hv⟩ := hq.er
    exact (Tryz.strconv_Atoi_range_var s (by omega) hk tp p w hv).mono fun _ _ ⟨N, he, _, _, hb⟩ => ⟨⟨_, _, _, he⟩, hq.below hb⟩
end Go.Proofs.YtakojceggpljoaaGreatDoor
