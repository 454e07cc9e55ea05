/-
  WALKS. The reference: marked, Reach, Cyclic.
-/
import Derived.Test.YtlnknkplebaioaaGbFr
import Derived.Test.YtlnknkplebaioaaGbV
import Derived.Test.YtlnknkplebaioaaGbY
namespace Go.Proofs.Ytlnknkplebaioaa
open Go.RowKit Go.Maps
theorem any_put {P : Program} {md : Region.Mode} {ops : Array Oper} {Q : Exit → Act → World → Prop} {i : Nat} {oi : Oper} {v : Value} {fuel : Nat} {listed : Array Bool} {a : Act} {w : World} (hi : ops[i]? = some oi)
    (hs : Region.noSelect ops = true) (hf : Region.free md ops listed i = true) (hr : (Region.ready md ops listed).contains i = true)
    (hQ : ∀ c a w, Q (.panic c) (a.put oi.dst v) w → Q (.panic c) a w) (hy : Yields P ops oi v a)
    (h : ∀ a', a.put oi.dst v = a' → wpAny P md ops Q fuel (listed.setIfInBounds i true) a' w) : wpAny P md ops Q (fuel + 1) listed a w := wpAny_take hi hs hf hr hQ hy (h _ rfl)
set_option maxRecDepth 100000 in
set_option maxHeartbeats 8000000 in
theorem marked_p (w : World) (B g n ca : Nat) (bs : List Bool) (h : BW w B (.slice (some ⟨g, 0, none⟩) n ca) bs) (hn : n ≤ 1000000) : Calls Try.prog 34 #[.slice (some ⟨g, 0, none⟩) n ca] w fun e w' => ∃ v, e = .returned v ∧ IR w' w.heap.size v (markedTo bs n) ∧ Only (fun _ => False) w w' := by
  have hlen := h.len
  have hgl := (World.ownsRow.lt h g rfl).2
  obtain ⟨i0', hi, hz0, hz1, hz2⟩ := info_parts infoInt
  have hO0 : Only (w.heap.size ≤ ·) w (w.alloc (.cells #[] 3)) := (Only.refl _ _).alloc _
  have h0 : IR (w.alloc (.cells #[] 3)) w.heap.size (.slice (some ⟨w.heap.size, 0, none⟩) 0 0) (markedTo bs 0) := row_zero (Nat.le_refl _) (new_block w _)
  have HH := Lib.hid h
  have HLEN := Lib.hid hlen
  clear h hlen
  go_enter Try.func34, Try.ntmps34
  go_wp2
  go_loopw [3, 4] (fun r q wr => ∃ k : Nat, k ≤ n ∧ q = .int .i64 k ∧ IR wr w.heap.size r (markedTo bs k) ∧ Only (w.heap.size ≤ ·) w wr) (fun _ q _ => n - (intOf q).toNat)
  case atStart => exact ⟨0, by omega, rfl, h0, hO0⟩
  case round =>
    clear h0 hO0
    obtain ⟨k, hk, rfl, hI, hO⟩ := hrel
    have hb := HH.out.only hO (fun g' hg' hc => by have hgg : g = g' := Option.some.inj hg'; have hc' : w.heap.size ≤ g' := hc; omega)
    by_cases hlt : k < n
    · obtain ⟨hc, -⟩ := hb.at (k := k) (by have := HLEN.out; omega)
      have h05 : (0 : Int) ≤ (k : Int) := Int.natCast_nonneg k
      have h06 : (k : Int) < (n : Int) := by omega
      have h07 : (k : Int).toNat = k := Int.toNat_natCast k
      clear hb
      cases hx : gb bs k
      · rw [hx] at hc
        have hN := Lib.hid (marked_no hx)
        clear hx
        go_wp2
        go_roundw
        case rel => exact ⟨k + 1, by omega, by go_num, by rw [hN.out]; exact hI, hO⟩
        case measure => simp [intOf]; omega
      · rw [hx] at hc
        have hN := Lib.hid (marked_yes hx)
        obtain ⟨oa, ca2, hv⟩ := rowForm hI
        subst hv
        have hm := marked_len bs k
        obtain ⟨l, hl⟩ : ∃ l, markedTo bs k = l := ⟨_, rfl⟩
        rw [hl] at hI hm hN
        have HOWN : wr.ownsRow w.heap.size 3 1 (.slice oa l.length ca2) l.length (l.map iV) := hI
        have hws := hO.size
        rw [hl]
        have HSZ := Lib.hid hws
        have HM := Lib.hid hm
        clear hl hI hws hm hx
        go_wp2_with (at_builtin; refine wpList_append_lies _ rfl _ _ 30 rfl w.heap.size 3 i0' (.int .i64 0) 1 8 Try.underlying30 hi hz0 hz1 hz2 rfl (by decide) (.slice oa l.length ca2) l.length (l.map iV) rfl (World.ownsRow.alloc HOWN _) ⟨wr.heap.size, 0, none⟩ 1 1 [iV k] rfl rfl (World.news_of_block (new_block wr _)) (one_int k) Nat.one_pos (by have := HM.out; unfold maxLen; omega) (by have := HM.out; omega) (by show w.heap.size ≤ (Array.push _ _).size; rw [Array.size_push]; have := HSZ.out; omega) _ rfl ?_; intro g cg w8 hown8 hgrow8 hat8 hlt8; have HI8 := Lib.hid (IR.snoc hown8); have HO8 := Lib.hid (Only.grown (K := (w.heap.size ≤ ·)) hgrow8 (fun g hg => (World.ownsRow.lt HOWN g hg).1)); clear hown8 hgrow8 hat8 hlt8)
        go_roundw
        case rel => exact ⟨k + 1, by omega, by go_num, by rw [hN.out]; exact HI8.out, (hO.alloc _).trans HO8.out⟩
        case measure => simp [intOf]; omega
    · have hkn : k = n := by omega
      subst hkn
      go_wp2
      go_ret
      exact ⟨_, rfl, hI, ⟨hO.os, hO.tape, hO.output, hO.size, fun i hi _ => hO.block i hi (fun hc => by have hc' : w.heap.size ≤ i := hc; omega)⟩⟩
/-- What the reference's Reach and Cyclic return. -/
def rReachL (E : List (List Int)) (i : Int) : List Nat := if validE E && okN E.length i then markedTo (seenR (natE E) [i.toNat]) E.length else []
def rCyclicE (E : List (List Int)) (i : Int) : Bool := validE E && (okN E.length i && gb (seenR (natE E) (lat (natE E) i.toNat)) i.toNat)
theorem okN_cases {n : Nat} {i : Int} (h : okN n i = false) : i < 0 ∨ (n : Int) ≤ i := by
  unfold okN at h
  simp only [Bool.and_eq_false_iff, decide_eq_false_iff_not] at h
  omega
theorem okN_yes {n : Nat} {i : Int} (h : okN n i = true) : ∃ u : Nat, i = (u : Int) ∧ u < n := by
  unfold okN at h
  simp only [Bool.and_eq_true, decide_eq_true_eq] at h
  exact ⟨i.toNat, by omega, by omega⟩
set_option maxRecDepth 100000 in
set_option maxHeartbeats 8000000 in
theorem rReach_p (w : World) (oE : Option Addr) (n cE : Nat) (E : List (List Int)) (i : Int) (h : Edz w oE n E) (hn : n ≤ 1000000) (hr : ∀ l ∈ E, l.length ≤ 1000000) : Calls Try.prog 16 #[.agg #[.slice oE n cE], .int .i64 i] w fun e w' => ∃ v, e = .returned v ∧ IR w' w.heap.size v (rReachL E i) ∧ Only (fun _ => False) w w' := by
  have hlen := h.len
  have hn9 : n ≤ 1000000000 := by omega
  have hr9 : ∀ l ∈ E, l.length ≤ 1000000000 := fun l hl => by have := hr l hl; omega
  have hA : Only (fun _ => False) w (w.alloc (.cells #[.slice oE n cE] 24)) := (Only.refl _ _).alloc _
  have hEA := h.keep hA
  have HB : Hid (∀ w', Only (fun _ => False) (w.alloc (.cells #[.slice oE n cE] 24)) w' → w'.cell? ⟨w.heap.size, 0, none⟩ = some (.slice oE n cE)) := Lib.hid (fun w' ho => (blk_c ((ho.block w.heap.size (by show _ < (Array.push _ _).size; rw [Array.size_push]; omega) (fun hc => hc)).trans (new_block w _)) rfl).1)
  cases hv : validE E
  · have HR : Hid (rReachL E i = []) := Lib.hid (by unfold rReachL; rw [hv]; rfl)
    have HV := Lib.hid hv
    clear hv
    go_enter Try.func16, Try.ntmps16
    go_wp2_with (go_at_call 25; (refine (Valid_p _ oE n cE E hEA hn9 hr9).mono ?_); rintro e w5 ⟨rfl, hO5⟩; have q5 := HB.out _ hO5; have hv := HV.out)
    go_ret
    rw [HR.out]
    exact ⟨_, rfl, World.ownsRow_nil _ _ _ _, hA.trans hO5⟩
  · cases hok : okN n i
    · have HR : Hid (rReachL E i = []) := Lib.hid (by unfold rReachL; rw [hlen, hok, Bool.and_false]; rfl)
      have HV := Lib.hid hv
      rcases okN_cases hok with h0 | h0
      · have d0 : decide (i < 0) = true := decide_eq_true h0
        clear hv hok
        go_enter Try.func16, Try.ntmps16
        go_wp2_with (go_at_call 25; (refine (Valid_p _ oE n cE E hEA hn9 hr9).mono ?_); rintro e w5 ⟨rfl, hO5⟩; have q5 := HB.out _ hO5; have hv := HV.out)
        go_ret
        rw [HR.out]
        exact ⟨_, rfl, World.ownsRow_nil _ _ _ _, hA.trans hO5⟩
      · have h1 : ¬ i < 0 := by omega
        have d0 : decide (i < 0) = false := decide_eq_false h1
        have d1 : decide ((n : Int) ≤ i) = true := decide_eq_true h0
        clear hv hok
        go_enter Try.func16, Try.ntmps16
        go_wp2_with (go_at_call 25; (refine (Valid_p _ oE n cE E hEA hn9 hr9).mono ?_); rintro e w5 ⟨rfl, hO5⟩; have q5 := HB.out _ hO5; have hv := HV.out)
        go_ret
        rw [HR.out]
        exact ⟨_, rfl, World.ownsRow_nil _ _ _ _, hA.trans hO5⟩
    · have hRR : rReachL E i = markedTo (seenR (natE E) [i.toNat]) n := by unfold rReachL; rw [hlen, hv, hok]; rfl
      obtain ⟨u, rfl, hun⟩ := okN_yes hok
      rw [Int.toNat_natCast] at hRR
      have HFP : Hid (∀ wx, Only (fun _ => False) (w.alloc (.cells #[.slice oE n cE] 24)) wx → Calls Try.prog 35 #[.agg #[.slice oE n cE], .slice (some ⟨wx.heap.size, 0, none⟩) 1 1] (wx.alloc (.cells #[iV u] 3)) fun e w' => ∃ g ca, e = .returned (.slice (some ⟨g, 0, none⟩) n ca) ∧ BW w' 0 (.slice (some ⟨g, 0, none⟩) n ca) (seenR (natE E) [u]) ∧ Only (fun _ => False) wx w') := Lib.hid (fun wx ho => by
        have h1 := ((hEA.keep ho).keep ((Only.refl (fun _ => False) wx).alloc (.cells #[iV u] 3))).edg hv
        have h2 : Ints (wx.alloc (.cells #[iV u] 3)) (some ⟨wx.heap.size, 0, none⟩) 1 [u] := ⟨rfl, fun k hk => ⟨_, _, rfl, by
          have hk0 : k = 0 := by have : k < 1 := hk; omega
          subst hk0
          exact (blk_c (k := 0) (new_block wx _) rfl).1⟩⟩
        refine (from_p _ oE n cE (natE E) _ 1 1 [u] h1 (valid_G hv) hn (nat_deg hr) h2 (by omega) (fun v hv => by rw [List.mem_singleton.1 hv]; exact hun)).mono ?_
        rintro e w' ⟨⟨b, o, s⟩, ca, h3, h4, h5, h6, h7⟩
        cases h5
        cases h6
        exact ⟨b, ca, h3, rowMono h4 (Nat.zero_le _), ((Only.refl (fun _ => False) wx).alloc (.cells #[iV u] 3)).trans h7⟩)
      have HV := Lib.hid hv
      have HR := Lib.hid hRR
      have h0 : ¬ (u : Int) < 0 := by omega
      have d0 : decide ((u : Int) < 0) = false := decide_eq_false h0
      have h1 : ¬ (n : Int) ≤ (u : Int) := by omega
      have d1 : decide ((n : Int) ≤ (u : Int)) = false := decide_eq_false h1
      clear hv hok hRR
      go_enter Try.func16, Try.ntmps16
      go_wp2_with (first | (go_at_call 25; (refine (Valid_p _ oE n cE E hEA hn9 hr9).mono ?_); rintro e w5 ⟨rfl, hO5⟩; have q5 := HB.out _ hO5; have hv := HV.out) | (go_at_call 35; (refine (HFP.out w5 hO5).mono ?_); rintro e w6 ⟨g6, c6, rfl, hB6, hO6⟩) | (go_at_call 34; (refine (marked_p w6 0 g6 n c6 _ hB6 hn).mono ?_); rintro e w7 ⟨v7, rfl, hI7, hO7⟩))
      go_ret
      rw [HR.out]
      have hF := hA.trans (hO5.trans hO6)
      exact ⟨_, rfl, rowMono hI7 hF.size, hF.trans hO7⟩
end Go.Proofs.Ytlnknkplebaioaa
