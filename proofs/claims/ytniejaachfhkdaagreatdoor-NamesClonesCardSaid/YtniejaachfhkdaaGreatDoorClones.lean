/-
  WALKS. The law NamesClones.
-/
import Derived.Test.YtniejaachfhkdaaGreatDoorSupply
namespace Go.Proofs.YtniejaachfhkdaaGreatDoor
open Go.RowKit Go.Maps
/-- Two pairs of supplies, apart. -/
def Two (W : World) (pa : Pl) (ra : Nat) (pb : Pl) (rb : Nat) (ja jb : Nat) (w : World) : Prop :=
  ∃ va nsa Ua Ta Na vb nsb Ub Tb Nb, Both W pa ra va nsa Ua Ta Na ja w ∧ Both W pb rb vb nsb Ub Tb Nb jb w ∧ ∀ i, bK pa ra va i → ¬ bK pb rb vb i
theorem Two.swap {W w : World} {pa ra pb rb ja jb} (h : Two W pa ra pb rb ja jb w) : Two W pb rb pa ra jb ja w := by
  obtain ⟨va, nsa, Ua, Ta, Na, vb, nsb, Ub, Tb, Nb, hA, hB, hd⟩ := h
  exact ⟨vb, nsb, Ub, Tb, Nb, va, nsa, Ua, Ta, Na, hB, hA, fun i h1 h2 => hd i h2 h1⟩
theorem Two.q {W w : World} {pa ra pb rb ja jb} (h : Two W pa ra pb rb ja jb w) : Q W w := by
  obtain ⟨va, nsa, Ua, Ta, Na, vb, nsb, Ub, Tb, Nb, hA, hB, hd⟩ := h
  exact hA.S.q
theorem Two.below {W w w' : World} {pa ra pb rb ja jb} (h : Two W pa ra pb rb ja jb w) (hb : Below w.heap.size w w') : Two W pa ra pb rb ja jb w' := by
  obtain ⟨va, nsa, Ua, Ta, Na, vb, nsb, Ub, Tb, Nb, hA, hB, hd⟩ := h
  exact ⟨va, nsa, Ua, Ta, Na, vb, nsb, Ub, Tb, Nb, hA.below hb, hB.below hb, hd⟩
theorem Two.next_l {W w : World} {pa ra pb rb ja jb} (h : Two W pa ra pb rb ja jb w) : Two W pa ra pb rb (ja + 1) jb w := by
  obtain ⟨va, nsa, Ua, Ta, Na, vb, nsb, Ub, Tb, Nb, hA, hB, hd⟩ := h
  exact ⟨va, nsa, Ua, Ta, Na, vb, nsb, Ub, Tb, Nb, hA.next, hB, hd⟩
theorem Two.next_r {W w : World} {pa ra pb rb ja jb} (h : Two W pa ra pb rb ja jb w) : Two W pa ra pb rb ja (jb + 1) w := h.swap.next_l.swap
theorem step_l (W w : World) (pa : Pl) (ra : Nat) (pb : Pl) (rb ja jb : Nat) (q : Int) (x : ByteArray) (hx : x.size ≤ 100) (hj : ja ≤ 80) (h : Two W pa ra pb rb ja jb w) :
    Calls Tryz.prog 22 #[.pointer (some ⟨pa.a, 0, none⟩), .pointer (some ⟨ra, 0, none⟩), .agg #[.int .i64 q, .string x]] w fun e w' => e = .returned (.bool true) ∧ Two W pa ra pb rb (ja + 1) jb w' := by
  obtain ⟨va, nsa, Ua, Ta, Na, vb, nsb, Ub, Tb, Nb, hA, hB, hd⟩ := h
  refine (step_q W w pa ra va nsa Ua Ta Na ja q x hx hj hA).mono fun e w' ⟨he, v', ns', U', T', N', hA', hO, hl⟩ => ⟨he, v', ns', U', T', N', vb, nsb, Ub, Tb, Nb, hA', hB.only hO (fun i hi => (hA.lts i hi).1) hd, ?_⟩
  rintro i (hi | rfl | hi) hc
  · exact hd i (.inl hi) hc
  · exact hd _ (.inr (.inl rfl)) hc
  · rcases hl with hl | ⟨g, hg, hgs⟩
    · rw [hl] at hi; exact hd i (.inr (.inr hi)) hc
    · rw [hg] at hi; cases hi; have := (hB.lts _ hc).2; omega
theorem step_r (W w : World) (pa : Pl) (ra : Nat) (pb : Pl) (rb ja jb : Nat) (q : Int) (x : ByteArray) (hx : x.size ≤ 100) (hj : jb ≤ 80) (h : Two W pa ra pb rb ja jb w) :
    Calls Tryz.prog 22 #[.pointer (some ⟨pb.a, 0, none⟩), .pointer (some ⟨rb, 0, none⟩), .agg #[.int .i64 q, .string x]] w fun e w' => e = .returned (.bool true) ∧ Two W pa ra pb rb ja (jb + 1) w' :=
  (step_l W w pb rb pa ra jb ja q x hx hj h.swap).mono fun _ _ ⟨he, hw⟩ => ⟨he, hw.swap⟩
theorem Two.start {W w2 w3 w4 : World} {pa pb : Pl} {ra rb : Nat} {va vb : Value} {ss : List ByteArray} {n : Nat} (hA : Both W pa ra va ss (usedOf ss) (fun _ => 0) n 0 w2)
    (hS : Sup W pb (usedOf ss) (fun _ => 0) n w3) (hb3 : Below w2.heap.size w2 w3) (h1 : w2.heap.size ≤ pb.a) (h2 : w2.heap.size ≤ pb.u) (h3 : w2.heap.size ≤ pb.t)
    (hR : RS W rb vb ss w4) (hb4 : Below w3.heap.size w3 w4) (hK : ∀ i, rK rb vb i → w3.heap.size ≤ i) : Two W pa ra pb rb 0 0 w4 := by
  refine ⟨va, ss, usedOf ss, fun _ => 0, n, vb, ss, usedOf ss, fun _ => 0, n, (hA.below hb3).below hb4, ⟨hS.below hb4, hR, hA.I, fun i hi hc => by have := hK i hi; have := (hS.lts i hc).2; omega⟩, ?_⟩
  rintro i hi (hc | hc)
  · have := (hA.lts i hi).2; rcases hc with rfl | rfl | rfl <;> omega
  · have := (hA.lts i hi).2; have := hK i hc; have := hb3.size; omega
set_option maxRecDepth 100000 in
set_option maxHeartbeats 4000000 in
theorem NamesClones_walk (ob oc od : Option Addr) (n c m d m2 d2 : Nat) (ss : List ByteArray) (ops ops2 : List (Int × ByteArray)) (W : World) (hQ : Q W W) (hr : Strs W ob n ss) (ho : OpsR W oc m ops) (ho2 : OpsR W od m2 ops2) :
    Calls Tryz.prog 6 #[.slice ob n c, .slice oc m d, .slice od m2 d2] W fun e w' => e = .returned (.bool true) ∧ Q W w' := by
  have HLEN := Lib.hid hr.len
  have HLEO := Lib.hid ho.len
  have HLE2 := Lib.hid ho2.len
  go_enter Tryz.func6, Tryz.ntmps6
  go_wp2_with fail
  refine (light_q W ob oc n c m d ss ops hr ho).mono ?_
  rintro e w0 ⟨b, rfl, hl, rfl⟩
  cases b
  · go_wp2_with (first | (go_at_call 11; refine (awake_q _ _ hQ).mono ?_; rintro e w5 ⟨rfl, hq5⟩))
    go_ret
    exact ⟨rfl, hq5⟩
  · obtain ⟨hn, hm, hsh, hso⟩ := hl rfl
    have HSH := Lib.hid hsh
    have HSO := Lib.hid hso
    clear hl hsh hso
    go_wp2_with fail
    refine (light_q W ob od n c m2 d2 ss ops2 hr ho2).mono ?_
    rintro e w0 ⟨b, rfl, hl, rfl⟩
    cases b
    · go_wp2_with (first | (go_at_call 11; refine (awake_q _ _ hQ).mono ?_; rintro e w5 ⟨rfl, hq5⟩))
      go_ret
      exact ⟨rfl, hq5⟩
    · obtain ⟨_, hm2, _, hso2⟩ := hl rfl
      have HSO2 := Lib.hid hso2
      clear hl hso2
      go_wp2_with (first | (go_at_call 19; refine (NewSupply_q W _ n ob c ss hQ (by omega) (hr.reads (fun s hs => Nat.le_trans (HSH.out s hs) (by omega)))).mono ?_; rintro e w1 ⟨pa, rfl, hS, hB1, _⟩) | (go_at_call 21; refine (Clone_q W _ pa _ _ _ (hS.below hB2)).mono ?_; rintro e w3 ⟨pb, rfl, hS3, hB3, hpa, hpu, hpt⟩) | (go_at_call 20; first | ((with_reducible refine (rNewSupply_q W w1 n ob c ss hS.q (by omega) (hr.below hB1)).mono ?_); rintro e w2 ⟨ra, va, rfl, hR, hB2, hK⟩) | ((with_reducible refine (rNewSupply_q W w3 n ob c ss hS3.q (by omega) (hr.below hS3.q.bel)).mono ?_); rintro e w4 ⟨rb, vb, rfl, hR4, hB4, hK4⟩)))
      have hT := Two.start (Both.start hn HLEN.out hS hR hB2 hK) hS3 hB3 hpa hpu hpt hR4 hB4 hK4
      clear hS hR hK hS3 hpa hpu hpt hR4 hK4
      go_loopw [11] (fun i wr => ∃ (j : Nat), j ≤ m + m2 ∧ j ≤ 40 ∧ i = .int .i64 j ∧ Two W pa ra pb rb j j wr) (fun i _ => m + m2 - (intOf i).toNat)
      case atStart => exact ⟨0, Nat.zero_le _, by omega, rfl, hT⟩
      case round =>
        clear hT
        obtain ⟨j, hj, hj4, rfl, hT⟩ := hrel
        by_cases hlt : j < m
        · by_cases hlt2 : j < m2
          · have hjl1 : j < ops.length := by rw [HLEO.out]; exact hlt
            obtain ⟨b1, o1, rfl, hc1, hd1, hbl1⟩ := ho.cell j hjl1
            obtain ⟨x1, hx1⟩ : ∃ x, x = ops[j].2 := ⟨_, rfl⟩
            obtain ⟨q1, hqq1⟩ : ∃ q, q = ops[j].1 := ⟨_, rfl⟩
            have hxz1 : x1.size ≤ 100 := by rw [hx1]; exact HSO.out _ (List.getElem_mem hjl1)
            rw [← hx1] at hd1
            rw [← hqq1] at hc1
            have hcw1 := (hT.q.bel.cell hbl1).trans hc1
            have hdw1 := (hT.q.bel.cell hbl1).trans hd1
            have HC1 := Lib.hid hc1
            have HD1 := Lib.hid hd1
            clear hx1 hqq1 hc1 hd1
            have hjl2 : j < ops2.length := by rw [HLE2.out]; exact hlt2
            obtain ⟨b2, o2, rfl, hc2, hd2, hbl2⟩ := ho2.cell j hjl2
            obtain ⟨x2, hx2⟩ : ∃ x, x = ops2[j].2 := ⟨_, rfl⟩
            obtain ⟨q2, hqq2⟩ : ∃ q, q = ops2[j].1 := ⟨_, rfl⟩
            have hxz2 : x2.size ≤ 100 := by rw [hx2]; exact HSO2.out _ (List.getElem_mem hjl2)
            rw [← hx2] at hd2
            rw [← hqq2] at hc2
            have hcw2 := (hT.q.bel.cell hbl2).trans hc2
            have hdw2 := (hT.q.bel.cell hbl2).trans hd2
            have HC2 := Lib.hid hc2
            have HD2 := Lib.hid hd2
            clear hx2 hqq2 hc2 hd2
            go_wp2_with (first | (go_at_call 22; first | ((with_reducible refine (step_l W wr pa ra pb rb j j q1 x1 hxz1 (by omega) hT).mono ?_); rintro e w5 ⟨rfl, hT5⟩; have hcw5 := (hT5.q.bel.cell hbl2).trans HC2.out; have hdw5 := (hT5.q.bel.cell hbl2).trans HD2.out) | ((with_reducible refine (step_r W w5 pa ra pb rb (j + 1) j q2 x2 hxz2 (by omega) hT5).mono ?_); rintro e w6 ⟨rfl, hT6⟩)))
            go_roundw
            case rel => exact ⟨j + 1, by omega, by omega, by go_num, hT6⟩
            case measure => simp [intOf]; omega
          · have hjl1 : j < ops.length := by rw [HLEO.out]; exact hlt
            obtain ⟨b1, o1, rfl, hc1, hd1, hbl1⟩ := ho.cell j hjl1
            obtain ⟨x1, hx1⟩ : ∃ x, x = ops[j].2 := ⟨_, rfl⟩
            obtain ⟨q1, hqq1⟩ : ∃ q, q = ops[j].1 := ⟨_, rfl⟩
            have hxz1 : x1.size ≤ 100 := by rw [hx1]; exact HSO.out _ (List.getElem_mem hjl1)
            rw [← hx1] at hd1
            rw [← hqq1] at hc1
            have hcw1 := (hT.q.bel.cell hbl1).trans hc1
            have hdw1 := (hT.q.bel.cell hbl1).trans hd1
            have HC1 := Lib.hid hc1
            have HD1 := Lib.hid hd1
            clear hx1 hqq1 hc1 hd1
            go_wp2_with (first | (go_at_call 22; refine (step_l W _ pa ra pb rb j j q1 x1 hxz1 (by omega) hT).mono ?_; rintro e w5 ⟨rfl, hT5⟩))
            go_roundw
            case rel => exact ⟨j + 1, by omega, by omega, by go_num, hT5.next_r⟩
            case measure => simp [intOf]; omega
        · by_cases hlt2 : j < m2
          · have hjl2 : j < ops2.length := by rw [HLE2.out]; exact hlt2
            obtain ⟨b2, o2, rfl, hc2, hd2, hbl2⟩ := ho2.cell j hjl2
            obtain ⟨x2, hx2⟩ : ∃ x, x = ops2[j].2 := ⟨_, rfl⟩
            obtain ⟨q2, hqq2⟩ : ∃ q, q = ops2[j].1 := ⟨_, rfl⟩
            have hxz2 : x2.size ≤ 100 := by rw [hx2]; exact HSO2.out _ (List.getElem_mem hjl2)
            rw [← hx2] at hd2
            rw [← hqq2] at hc2
            have hcw2 := (hT.q.bel.cell hbl2).trans hc2
            have hdw2 := (hT.q.bel.cell hbl2).trans hd2
            have HC2 := Lib.hid hc2
            have HD2 := Lib.hid hd2
            clear hx2 hqq2 hc2 hd2
            go_wp2_with (first | (go_at_call 22; refine (step_r W _ pa ra pb rb j j q2 x2 hxz2 (by omega) hT).mono ?_; rintro e w5 ⟨rfl, hT5⟩))
            go_roundw
            case rel => exact ⟨j + 1, by omega, by omega, by go_num, hT5.next_l⟩
            case measure => simp [intOf]; omega
          · go_wp2_with (first | (go_at_call 11; refine (awake_q _ _ hT.q).mono ?_; rintro e w5 ⟨rfl, hq5⟩))
            go_ret
            exact ⟨rfl, hq5⟩
end Go.Proofs.YtniejaachfhkdaaGreatDoor
