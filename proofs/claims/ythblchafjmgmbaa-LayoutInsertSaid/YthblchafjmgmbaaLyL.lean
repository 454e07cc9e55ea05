/-
  WALKS. The inserter: item.
-/
import Derived.Test.YthblchafjmgmbaaLyJd
import Derived.Test.YthblchafjmgmbaaLyK
import Derived.StillTailTactics
namespace Go.Proofs.Ythblchafjmgmbaa
open Go.RowKit Go.Maps
/-- A token's variable at g. -/
def TB (w : World) (g : Nat) (t : Tok) : Prop := w.heap[g]? = some (.cells (tokA t) 33 (0, 0))
section
variable {w w' : World} {g : Nat} {t : Tok}
theorem TB.only {K : Nat → Prop} (h : TB w g t) (ho : Only K w w') (hk : ¬ K g) : TB w' g t := (ho.block g (lt_of_block h) hk).trans h
theorem TB.same (h : TB w g t) (ho : Only (fun _ => False) w w') : TB w' g t := h.only ho (fun hc => hc)
theorem TB.c0 (h : TB w g t) : w.cell? ⟨g, 0, none⟩ = some (.int .i64 t.op) := by have h' := h; unfold TB at h'; simp [World.cell?, h']
theorem TB.c1 (h : TB w g t) : w.cell? ⟨g, 1, none⟩ = some (.string t.qual) := by have h' := h; unfold TB at h'; simp [World.cell?, h']
theorem TB.c2 (h : TB w g t) : w.cell? ⟨g, 2, none⟩ = some (.string t.text) := by have h' := h; unfold TB at h'; simp [World.cell?, h']
theorem TB.c3 (h : TB w g t) : w.cell? ⟨g, 3, none⟩ = some (.int .i64 t.n) := by have h' := h; unfold TB at h'; simp [World.cell?, h']
theorem TB.c4 (h : TB w g t) : w.cell? ⟨g, 4, none⟩ = some (.bool t.auto) := by have h' := h; unfold TB at h'; simp [World.cell?, h']
theorem TB.c5 (h : TB w g t) : w.cell? ⟨g, 5, none⟩ = some (.int .i64 t.line) := by have h' := h; unfold TB at h'; simp [World.cell?, h']
theorem TB.c6 (h : TB w g t) : w.cell? ⟨g, 6, none⟩ = some (.int .i64 t.col) := by have h' := h; unfold TB at h'; simp [World.cell?, h']
theorem TB.all (h : TB w g t) : w.cell? ⟨g, 0, none⟩ = some (.int .i64 t.op) ∧ w.cell? ⟨g, 1, none⟩ = some (.string t.qual) ∧ w.cell? ⟨g, 2, none⟩ = some (.string t.text) ∧ w.cell? ⟨g, 3, none⟩ = some (.int .i64 t.n) ∧ w.cell? ⟨g, 4, none⟩ = some (.bool t.auto) ∧ w.cell? ⟨g, 5, none⟩ = some (.int .i64 t.line) ∧ w.cell? ⟨g, 6, none⟩ = some (.int .i64 t.col) := ⟨h.c0, h.c1, h.c2, h.c3, h.c4, h.c5, h.c6⟩
end
section
variable {w : World} {b : Nat} {ve vo : Value} {s : St}
theorem IS.otop (h : IS w b ve vo s) {us : List Tok} {u : Tok} (hs : s.out = us ++ [u]) : ∃ g ca, vo = .slice (some ⟨g, 0, none⟩) (us.length + 1) ca ∧ us.length + 1 ≤ ca ∧ TC w g (us.length * 7) u := by
  obtain ⟨oa, ca, rfl⟩ := h.olen
  have he := h.out
  rw [hs] at he
  obtain ⟨g, rfl, hb, hn, hle, hc⟩ := TR.at (k := us.length) he (by simp)
  refine ⟨g, ca, by rw [hs]; simp, by simpa using hle, by simpa using hc⟩
theorem out_cases (l : List Tok) : l = [] ∨ ∃ ys y, l = ys ++ [y] := by
  rcases List.eq_nil_or_concat l with h | ⟨ys, y, h⟩
  · exact .inl h
  · exact .inr ⟨ys, y, by simpa using h⟩
theorem still_tail_w {P : Program} {id : Nat} {Q : Exit → Act → World → Prop} {a : Act} {w : World} {l : List Oper} (n : Nat) (hm : P.follows .mixedOrders = true) (hB : Region.lexTailB .any l.toArray n = true) (Φ : World → Prop) (hΦ : Φ w.drew)
    (h : ∀ wd, Φ wd → wpStill P l.toArray wd (fun a' => wpList P l.toArray Q (l.drop n) a' wd) (l.take n) a) : (Code.region id l.toArray true).wp P Q a w := wp_region_still_tail n hm hB (h _ hΦ)
set_option maxRecDepth 100000 in
set_option maxHeartbeats 4000000 in
theorem item_p (h : IS w b ve vo s) {k : Nat} (hk : Ok k s) (t : Tok) : Calls Try.prog 23 #[.pointer (some ⟨b, 0, none⟩), tokV t] w fun r w' => r = .returned (.tuple #[]) ∧ ISx w b ve vo (itemS s t) w' := by
  have hz := hk.out_le
  have hb := h.lt
  have hA : Only (fun _ => False) w (w.alloc (.cells (tokA t) 33)) := (Only.refl _ _).alloc _
  have h0 := h.same hA
  have t0 : TB (w.alloc (.cells (tokA t) 33)) w.heap.size t := new_block _ _
  rcases out_cases s.out with hs | ⟨us, u, hs⟩
  · have HR : Hid (itemS s t = s) := Lib.hid (by unfold itemS; rw [hs]; rfl)
    obtain ⟨oa, ca, hv⟩ := h0.olen
    rw [hs] at hv
    subst hv
    have c2 := h.c2
    clear hz hs
    go_enter Try.func23, Try.ntmps23
    go_wp2
    go_quiet (fail)
    all_goals
      go_wp2
      refine bodyPost_ret (v := .tuple #[]) (by simp [results, Try.results23, go_sem]) rfl ⟨rfl, by rw [HR.out]; exact (h0.same (only_drewN _ _)).x (Frm.keep (hA.trans (only_drewN _ _)))⟩
  · have HIT : Hid (itemS s t = if spT u [59] && !wdT t [116, 104, 101, 110] && !wdT t [101, 108, 115, 101] && !spT t [59] then { s with els := dropP s.els } else s) := Lib.hid (by unfold itemS bThen bElse; rw [hs]; simp)
    obtain ⟨m, hm⟩ : ∃ m, us.length = m := ⟨_, rfl⟩
    rw [hs] at hz
    simp only [List.length_append, List.length_singleton] at hz
    rw [hm] at hz
    have hg0 : ((m : Int) + 1 == 0) = false := by simp; omega
    have hwm : IntKind.i64.wrap (m : Int) = (m : Int) := IntWalk.i64_in _ (by omega)
    have hw2 : (m : Int) < (m : Int) + 1 := by omega
    have hw3 : m < m + 1 := Nat.lt_succ_self m
    have hw5 : (0 : Int) ≤ (m : Int) := Int.natCast_nonneg m
    have hw6 : (m : Int).toNat = m := Int.toNat_natCast m
    have HM := Lib.hid hm
    have HS := Lib.hid hs
    clear hz hm hs
    have HW := Lib.hid hwm
    have HG := Lib.hid hg0
    clear hwm hg0
    go_enter Try.func23, Try.ntmps23
    go_wp2
    refine still_tail_w 19 (by kernel_rfl) (by kernel_rfl) (fun wd => IS wd b ve vo s ∧ TB wd w.heap.size t ∧ Only (fun _ => False) w wd) ⟨h0.same (Only.drew (Only.refl _ _)), t0.same (Only.drew (Only.refl _ _)), Only.drew hA⟩ ?_
    clear h0 t0 hA
    rintro wd ⟨hS, hT, hO⟩
    obtain ⟨g, ca, rfl, hca, hc⟩ := hS.otop HS.out
    have c2 := hS.c2
    rw [HM.out] at c2 hca hc
    have hwm := HW.out
    have hg0 := HG.out
    have d0 := hc.c0
    have d1 := hc.c1
    have d2 := hc.c2
    have d3 := hc.c3
    have d4 := hc.c4
    have d5 := hc.c5
    have d6 := hc.c6
    clear hc
    simp only [List.take_succ_cons, List.take_zero, List.drop_succ_cons, List.drop_zero]
    repeat still_step
    refine wpStill_nil ?_
    clear d0 d1 d2 d3 d4 d5 d6 c2 hwm hg0 hw2 hw3 hw5 hw6
    cases hu : spT u [59]
    · have HU := Lib.hid hu
      have HR : Hid (itemS s t = s) := Lib.hid (by rw [HIT.out, hu]; rfl)
      clear hu
      go_wp2_with (go_at_call 19; ((with_reducible refine (isSpecial_v u [59] _ _ HU.out).mono ?_); rintro r w1 ⟨rfl, hO1⟩; have hS1 := hS.same hO1; have hT1 := hT.same hO1; obtain ⟨e0, e1, e2, e3, e4, e5, e6⟩ := hT1.all))
      refine bodyPost_ret (v := .tuple #[]) (by simp [results, Try.results23, go_sem]) rfl ⟨rfl, by rw [HR.out]; exact hS1.x (Frm.keep (hO.trans hO1))⟩
    · have HU := Lib.hid hu
      cases ha : wdT t [116, 104, 101, 110]
      · have HA := Lib.hid ha
        cases he : wdT t [101, 108, 115, 101]
        · have HE := Lib.hid he
          cases hc : spT t [59]
          · have HC := Lib.hid hc
            have HR : Hid (itemS s t = { s with els := dropP s.els }) := Lib.hid (by rw [HIT.out, hu, ha, he, hc]; rfl)
            clear hu ha he hc
            go_wp2_with (first | (go_at_call 19; ((with_reducible refine (isSpecial_v u [59] _ _ HU.out).mono ?_); rintro r w1 ⟨rfl, hO1⟩; have hS1 := hS.same hO1; have hT1 := hT.same hO1; obtain ⟨e0, e1, e2, e3, e4, e5, e6⟩ := hT1.all)) | (go_at_call 34; ((with_reducible refine (isWord_v t [116, 104, 101, 110] _ _ HA.out).mono ?_); rintro r w2 ⟨rfl, hO2⟩; have hS2 := hS1.same hO2; have hT2 := hT1.same hO2; obtain ⟨f0, f1, f2, f3, f4, f5, f6⟩ := hT2.all)) | (go_at_call 34; ((with_reducible refine (isWord_v t [101, 108, 115, 101] _ _ HE.out).mono ?_); rintro r w3 ⟨rfl, hO3⟩; have hS3 := hS2.same hO3; have hT3 := hT2.same hO3; obtain ⟨i0, i1, i2, i3, i4, i5, i6⟩ := hT3.all)) | (go_at_call 19; ((with_reducible refine (isSpecial_v t [59] _ _ HC.out).mono ?_); rintro r w4 ⟨rfl, hO4⟩; have hS4 := hS3.same hO4)) | (go_at_call 40; refine (dropPending_p hS4 hk).mono ?_; rintro r w5 ⟨rfl, hS5⟩))
            go_end0
            exact ⟨rfl, by rw [HR.out]; exact hS5.pre ((((hO.trans hO1).trans hO2).trans hO3).trans hO4)⟩
          · have HC := Lib.hid hc
            have HR : Hid (itemS s t = s) := Lib.hid (by rw [HIT.out, hu, ha, he, hc]; rfl)
            clear hu ha he hc
            go_wp2_with (first | (go_at_call 19; ((with_reducible refine (isSpecial_v u [59] _ _ HU.out).mono ?_); rintro r w1 ⟨rfl, hO1⟩; have hS1 := hS.same hO1; have hT1 := hT.same hO1; obtain ⟨e0, e1, e2, e3, e4, e5, e6⟩ := hT1.all)) | (go_at_call 34; ((with_reducible refine (isWord_v t [116, 104, 101, 110] _ _ HA.out).mono ?_); rintro r w2 ⟨rfl, hO2⟩; have hS2 := hS1.same hO2; have hT2 := hT1.same hO2; obtain ⟨f0, f1, f2, f3, f4, f5, f6⟩ := hT2.all)) | (go_at_call 34; ((with_reducible refine (isWord_v t [101, 108, 115, 101] _ _ HE.out).mono ?_); rintro r w3 ⟨rfl, hO3⟩; have hS3 := hS2.same hO3; have hT3 := hT2.same hO3; obtain ⟨i0, i1, i2, i3, i4, i5, i6⟩ := hT3.all)) | (go_at_call 19; ((with_reducible refine (isSpecial_v t [59] _ _ HC.out).mono ?_); rintro r w4 ⟨rfl, hO4⟩; have hS4 := hS3.same hO4)))
            go_end0
            exact ⟨rfl, by rw [HR.out]; exact hS4.x (Frm.keep ((((hO.trans hO1).trans hO2).trans hO3).trans hO4))⟩
        · have HE := Lib.hid he
          have HR : Hid (itemS s t = s) := Lib.hid (by rw [HIT.out, hu, ha, he]; rfl)
          clear hu ha he
          go_wp2_with (first | (go_at_call 19; ((with_reducible refine (isSpecial_v u [59] _ _ HU.out).mono ?_); rintro r w1 ⟨rfl, hO1⟩; have hS1 := hS.same hO1; have hT1 := hT.same hO1; obtain ⟨e0, e1, e2, e3, e4, e5, e6⟩ := hT1.all)) | (go_at_call 34; ((with_reducible refine (isWord_v t [116, 104, 101, 110] _ _ HA.out).mono ?_); rintro r w2 ⟨rfl, hO2⟩; have hS2 := hS1.same hO2; have hT2 := hT1.same hO2; obtain ⟨f0, f1, f2, f3, f4, f5, f6⟩ := hT2.all)) | (go_at_call 34; ((with_reducible refine (isWord_v t [101, 108, 115, 101] _ _ HE.out).mono ?_); rintro r w3 ⟨rfl, hO3⟩; have hS3 := hS2.same hO3; have hT3 := hT2.same hO3; obtain ⟨i0, i1, i2, i3, i4, i5, i6⟩ := hT3.all)))
          go_end0
          exact ⟨rfl, by rw [HR.out]; exact hS3.x (Frm.keep (((hO.trans hO1).trans hO2).trans hO3))⟩
      · have HA := Lib.hid ha
        have HR : Hid (itemS s t = s) := Lib.hid (by rw [HIT.out, hu, ha]; rfl)
        clear hu ha
        go_wp2_with (first | (go_at_call 19; ((with_reducible refine (isSpecial_v u [59] _ _ HU.out).mono ?_); rintro r w1 ⟨rfl, hO1⟩; have hS1 := hS.same hO1; have hT1 := hT.same hO1; obtain ⟨e0, e1, e2, e3, e4, e5, e6⟩ := hT1.all)) | (go_at_call 34; ((with_reducible refine (isWord_v t [116, 104, 101, 110] _ _ HA.out).mono ?_); rintro r w2 ⟨rfl, hO2⟩; have hS2 := hS1.same hO2; have hT2 := hT1.same hO2; obtain ⟨f0, f1, f2, f3, f4, f5, f6⟩ := hT2.all)))
        go_end0
        exact ⟨rfl, by rw [HR.out]; exact hS2.x (Frm.keep ((hO.trans hO1).trans hO2))⟩
end
end Go.Proofs.Ythblchafjmgmbaa
