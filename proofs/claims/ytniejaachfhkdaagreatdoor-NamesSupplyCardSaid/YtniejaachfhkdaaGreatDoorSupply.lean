/-
  WALKS. The law NamesSupply.
-/
import Derived.Test.YtniejaachfhkdaaGreatDoorPair
import Derived.Test.YtniejaachfhkdaaGreatDoorAwake
namespace Go.Proofs.YtniejaachfhkdaaGreatDoor
open Go.RowKit Go.Maps
theorem Both.start {W w1 w2 : World} {p : Pl} {r : Nat} {v : Value} {ss : List ByteArray} {n : Nat} (hn : n ≤ 40) (hl : ss.length = n) (hS : Sup W p (usedOf ss) (fun _ => 0) n w1) (hR : RS W r v ss w2) (hb : Below w1.heap.size w1 w2) (hK : ∀ i, rK r v i → w1.heap.size ≤ i) :
    Both W p r v ss (usedOf ss) (fun _ => 0) n 0 w2 :=
  ⟨hS.below hb, hR, by rw [← hl]; exact InvP.start ss (by omega), fun i hi hc => by have := hK i hi; have := (hS.lts i hc).2; omega⟩
theorem Both.clone {W w w' : World} {p p2 : Pl} {r : Nat} {v : Value} {ns U T N j} (h : Both W p r v ns U T N j w) (hS : Sup W p2 U T N w') (hb : Below w.heap.size w w') (h1 : w.heap.size ≤ p2.a) (h2 : w.heap.size ≤ p2.u) (h3 : w.heap.size ≤ p2.t) :
    Both W p2 r v ns U T N (j + 1) w' :=
  ⟨hS, h.R.below hb, h.I.next, fun i hi hc => by have := (h.R.lts i hi).2; rcases hc with rfl | rfl | rfl <;> omega⟩
set_option maxRecDepth 100000 in
set_option maxHeartbeats 4000000 in
theorem NamesSupply_walk (ob oc : Option Addr) (n c m d : Nat) (ss : List ByteArray) (ops : List (Int × ByteArray)) (W : World) (hQ : Q W W) (hr : Strs W ob n ss) (ho : OpsR W oc m ops) :
    Calls Tryz.prog 5 #[.slice ob n c, .slice oc m d] W fun e w' => e = .returned (.bool true) ∧ Q W w' := by
  have HLEN := Lib.hid hr.len
  have HLEO := Lib.hid ho.len
  go_enter Tryz.func5, Tryz.ntmps5
  go_wp2_with fail
  refine (light_q W ob oc n c m d ss ops hr ho).mono ?_
  rintro e w0 ⟨b, rfl, hl, rfl⟩
  cases b
  · go_wp2_with (first | (go_at_call 11; refine (awake_q _ _ hQ).mono ?_; rintro e w5 ⟨rfl, hq5⟩))
    go_ret
    exact ⟨rfl, hq5⟩
  · obtain ⟨hn, hm, hsh, hso⟩ := hl rfl
    have HSH := Lib.hid hsh
    have HSO := Lib.hid hso
    clear hl hsh hso
    go_wp2_with (first | (go_at_call 19; refine (NewSupply_q W _ n ob c ss hQ (by omega) (hr.reads (fun s hs => Nat.le_trans (HSH.out s hs) (by omega)))).mono ?_; rintro e w1 ⟨p, rfl, hS, hB1, _⟩) | (go_at_call 20; refine (rNewSupply_q W _ n ob c ss hS.q (by omega) (hr.below hB1)).mono ?_; rintro e w2 ⟨r, v, rfl, hR, hB2, hK⟩))
    have hBo := Both.start hn HLEN.out hS hR hB2 hK
    clear hS hR hK
    go_loopw [5, 7] (fun u i wr => ∃ (j : Nat) (p' : Pl) (v' : Value) (ns : List ByteArray) (U : List (List UInt8)) (T : List UInt8 → Nat) (N : Nat), j ≤ m ∧ i = .int .i64 j ∧ u = .pointer (some ⟨p'.a, 0, none⟩) ∧ Both W p' r v' ns U T N j wr) (fun _ i _ => m - (intOf i).toNat)
    case atStart => exact ⟨0, p, v, ss, usedOf ss, fun _ => 0, n, Nat.zero_le _, rfl, rfl, hBo⟩
    case round =>
      clear hBo
      obtain ⟨j, p', v', ns, U, T, N, hj, rfl, rfl, hBo⟩ := hrel
      by_cases hlt : j < m
      · have hjl : j < ops.length := by rw [HLEO.out]; exact hlt
        obtain ⟨b, o, rfl, hc, hd, hbl⟩ := ho.cell j hjl
        obtain ⟨x, hx⟩ : ∃ x, x = ops[j].2 := ⟨_, rfl⟩
        obtain ⟨q, hqq⟩ : ∃ q, q = ops[j].1 := ⟨_, rfl⟩
        have hxz : x.size ≤ 100 := by rw [hx]; exact HSO.out _ (List.getElem_mem hjl)
        rw [← hx] at hd
        rw [← hqq] at hc
        have hcw := (hBo.S.q.bel.cell hbl).trans hc
        have hdw := (hBo.S.q.bel.cell hbl).trans hd
        have HC := Lib.hid hc
        have HD := Lib.hid hd
        clear hx hqq hc hd
        by_cases hq0 : q = 0
        · subst hq0
          go_wp2_with (first | (go_at_call 22; refine (step_q W _ p' r v' ns U T N j 0 x hxz (by omega) hBo).mono ?_; rintro e w5 ⟨rfl, v5, ns5, U5, T5, N5, hBo5, _, _⟩))
          go_roundw
          case rel => exact ⟨j + 1, p', v5, ns5, U5, T5, N5, by omega, by go_num, rfl, hBo5⟩
          case measure => simp [intOf]; omega
        · by_cases hq1 : q = 1
          · subst hq1
            go_wp2_with (first | (go_at_call 22; refine (step_q W _ p' r v' ns U T N j 1 x hxz (by omega) hBo).mono ?_; rintro e w5 ⟨rfl, v5, ns5, U5, T5, N5, hBo5, _, _⟩))
            go_roundw
            case rel => exact ⟨j + 1, p', v5, ns5, U5, T5, N5, by omega, by go_num, rfl, hBo5⟩
            case measure => simp [intOf]; omega
          · have e0 : (q != 0) = true := by simp [hq0]
            have e1 : (q != 1) = true := by simp [hq1]
            clear hq0 hq1
            go_wp2_with (first | (go_at_call 21; refine (Clone_q W _ p' U T N hBo.S).mono ?_; rintro e w5 ⟨p5, rfl, hS5, hB5, ha5, hu5, ht5⟩))
            go_roundw
            case rel => exact ⟨j + 1, p5, v', ns, U, T, N, by omega, by go_num, rfl, hBo.clone hS5 hB5 ha5 hu5 ht5⟩
            case measure => simp [intOf]; omega
      · go_wp2_with (first | (go_at_call 11; refine (awake_q _ _ hBo.S.q).mono ?_; rintro e w5 ⟨rfl, hq5⟩))
        go_ret
        exact ⟨rfl, hq5⟩
end Go.Proofs.YtniejaachfhkdaaGreatDoor
