/-
  WALKS. The stack: pop.
-/
import Derived.Test.YthblchafjmgmbaaLyD
namespace Go.Proofs.Ythblchafjmgmbaa
open Go.RowKit Go.Maps
section
variable {w : World} {b : Nat} {ve vo : Value} {s : St}
theorem IS.mk3 (h : IS w b ve vo s) {w3 : World} {ve' : Value} {s' : St} (ho : Only (fun i => i = b ∨ w.heap.size ≤ i) w w3) (hb : w3.heap[b]? = some (.cells #[ve', .int .i64 s'.written, vo, .bool s'.exp, .string s'.word] 42 (0, 0))) (he : ER w (b + 1) ve' s'.els) (hout : s'.out = s.out) : IS w3 b ve' vo s' := by
  refine ⟨hb, ?_, ?_⟩
  · refine he.only ho (fun g hg hc => ?_)
    have := World.ownsRow.lt he g hg
    omega
  · rw [hout]
    refine h.out.only ho (fun g hg hc => ?_)
    have := World.ownsRow.lt h.out g hg
    omega
theorem alloc_get {o : Obj} {k : Nat} (hk : k < w.heap.size) : (w.alloc o).heap[k]? = w.heap[k]? := by
  show (w.heap.push o)[k]? = _
  simp [Array.getElem?_push, Nat.ne_of_lt hk]
set_option maxRecDepth 100000 in
set_option maxHeartbeats 2000000 in
theorem pop_p (h : IS w b ve vo s) {k : Nat} (hk : Ok k s) {ys : List El} {y : El} (hs : s.els = ys ++ [y]) : Calls Try.prog 27 #[.pointer (some ⟨b, 0, none⟩)] w fun r w' => r = .returned (elV y) ∧ ∃ ve', ve'.ownBlock = ve.ownBlock ∧ IS w' b ve' vo (popS s y) ∧ Only (· = b) w w' := by
  have hb := h.lt
  have hz := hk.els_le
  obtain ⟨hw0, hw1⟩ := hk.wr0
  obtain ⟨g, ca, rfl, hca, hbg, hc, hf⟩ := h.top hs
  have hER : ER w (b + 1) (.slice (some ⟨g, 0, none⟩) ys.length ca) s.els.dropLast := by simpa using ER.pop h.els (by rw [hs]; simp)
  have hgl : g < w.heap.size := cell_lt hc.c0
  rw [hs, List.length_append, List.length_singleton] at hz hw1
  have hP : (popS s y) = { s with els := s.els.dropLast, written := if isWri y.kind then s.written - 1 else s.written } := rfl
  have HP := Lib.hid hP
  clear hP
  obtain ⟨m, hm⟩ : ∃ m, ys.length = m := ⟨_, rfl⟩
  rw [hm] at hz hc hw1 hca hER
  have c0 := h.c0
  have c1 := h.c1
  have z0 := h.fz 0
  have z1 := h.fz 1
  have d0 := hc.c0
  have d1 := hc.c1
  have d2 := hc.c2
  have d3 := hc.c3
  have d4 := hc.c4
  have d5 := hc.c5
  rw [hm] at c0
  have HM := Lib.hid hm
  have HS := Lib.hid hs
  clear hm hs hf
  cases hW : isWri y.kind
  all_goals
    go_enter Try.func27, Try.ntmps27
    go_wp2_with (go_at_call 46; refine (isWritten_p _ _).mono ?_; rintro r w9 ⟨rfl, rfl⟩)
    refine bodyPost_ret (v := elV y) (by simp [results, Try.results27, go_sem]) rfl ⟨rfl, .slice (some ⟨g, 0, none⟩) m ca, rfl, h.mk3 (s' := popS s y) (ve' := .slice (some ⟨g, 0, none⟩) m ca) ?_ ?_ hER rfl, ?_⟩
    · repeat' (first | exact Only.refl _ _ | refine Only.alloc ?_ _ | refine Only.setCell ?_ (.inl rfl) _)
    · have h' := h.blk
      rw [HP.out]
      rw [alloc_get (by simp [World.setCell]; omega), alloc_get (by simp [World.setCell]; omega)]
      simp [World.setCell, Array.getElem?_modify, h', hW]
    · repeat' (first | exact Only.refl _ _ | refine Only.alloc ?_ _ | refine Only.setCell (K := (· = b)) ?_ rfl _)
end
end Go.Proofs.Ythblchafjmgmbaa
