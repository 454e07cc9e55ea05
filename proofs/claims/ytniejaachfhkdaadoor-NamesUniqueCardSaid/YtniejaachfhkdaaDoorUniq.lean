/-
  WALKS. The law NamesUnique.
-/
import Derived.Test.YtniejaachfhkdaaDoorAwake
import Derived.Test.YtniejaachfhkdaaDoorHas
import Derived.Test.YtniejaachfhkdaaDoorFresh2
import Derived.Test.YtniejaachfhkdaaDoorRoundP
import Derived.Deep.RegionWith
namespace Go.Proofs.YtniejaachfhkdaaDoor
open Go.RowKit Go.Maps
theorem Sup.lts {W w : World} {p : Pl} {U T N} (h : Sup W p U T N w) : p.a < w.heap.size ∧ p.u < w.heap.size ∧ p.t < w.heap.size := by
  obtain ⟨_, hu, _⟩ := h.ou
  obtain ⟨_, ht, _⟩ := h.ot
  exact ⟨lt_of_block h.blk, hu.lt, ht.lt⟩
theorem Pl.not_has {p : Pl} {B : Nat} (h : p.a < B ∧ p.u < B ∧ p.t < B) : ∀ i, B ≤ i → ¬ p.has i := by
  intro i hi hc
  rcases hc with rfl | rfl | rfl <;> omega
theorem one_str (x : ByteArray) : ∀ u ∈ [Value.string x], u.oneCell' = true := by
  intro u hu; simp at hu; subst hu; rfl
/-- The list 'all' in memory. -/
def AllS (w : World) (B : Nat) (v : Value) (ns : List ByteArray) : Prop := w.ownsRow B 9 1 v ns.length (ns.map Value.string)
theorem only_append {wr w' : World} {o : Obj} {v : Value} {B n : Nat} {e : TypeId} {xs : List Value} (hown : (wr.alloc o).ownsRow B e 1 v n xs) (hg : (wr.alloc o).grownBy w' v.ownBlock) : Only (fun i => B ≤ i) wr w' := by
  refine ⟨hg.os, hg.tape, hg.output, Nat.le_trans (by simp) hg.size, fun k hk hn => ?_⟩
  rw [hg.block k (by simp; omega) (fun e => by have := (hown.lt k e.symm).1; exact hn this)]
  exact Below.heap_alloc _ _ _ hk
theorem AllS.strs {w : World} {B : Nat} {v : Value} {ns : List ByteArray} (h : AllS w B v ns) : ∃ ob c, v = .slice ob ns.length c ∧ Strs w ob ns.length ns := by
  obtain ⟨h1, h2⟩ := h
  rcases h2 with ⟨hv, hn⟩ | ⟨g, cap, cur, hv, hb, hg, hr⟩
  · refine ⟨none, 0, by rw [hn]; exact hv, rfl, fun k hk => by omega⟩
  · refine ⟨some ⟨g, 0, none⟩, cap, hv, rfl, fun k hk => ⟨g, 0, rfl, ?_, lt_of_block hg⟩⟩
    have ho : w.ownsRow B 9 1 (.slice (some ⟨g, 0, none⟩) ns.length cap) ns.length (ns.map Value.string) := ⟨h1, .inr ⟨g, cap, cur, rfl, hb, hg, hr⟩⟩
    have := ho.cellAt k (by omega)
    rw [Nat.zero_add, this]
    simp [hk]
theorem AllS.only {w w' : World} {B : Nat} {v : Value} {ns : List ByteArray} {K : Nat → Prop} (h : AllS w B v ns) (ho : Only K w w') (hk : ∀ i, K i → i < B ∨ w.heap.size ≤ i) : AllS w' B v ns := by
  obtain ⟨h1, h2⟩ := h
  refine ⟨h1, ?_⟩
  rcases h2 with hn | ⟨g, cap, cur, hv, hb, hg, hr⟩
  · exact .inl hn
  · refine .inr ⟨g, cap, cur, hv, hb, ?_, hr⟩
    have hgl := lt_of_block hg
    rw [ho.block g hgl (fun hc => by rcases hk g hc with h | h <;> omega)]
    exact hg
theorem infoStr : (Tryd.prog.info? 9).map (fun i => (i.zero, i.size, i.bytes)) = some (some (.string ⟨#[]⟩), 1, 16) := by kernel_rfl
theorem AllS.strs' {w : World} {B k ca : Nat} {oa : Option Addr} {ns : List ByteArray} (h : AllS w B (.slice oa k ca) ns) : Strs w oa ns.length ns := by
  obtain ⟨ob, c, e, hs⟩ := h.strs
  cases e
  exact hs
theorem allS_row {w : World} {B ca : Nat} {oa : Option Addr} {ns : List ByteArray} (h : AllS w B (.slice oa ns.length ca) ns) : w.ownsRow B 9 1 (.slice oa ns.length ca) ns.length (ns.map Value.string) := h
theorem base_empty : basO ⟨#[]⟩ = none := by decide +kernel
theorem beq_self' (s : ByteArray) : (s.toList == s.toList) = true := by simp
theorem Base_v' (s : ByteArray) (v : Value) (W w : World) (hs : s.size ≤ 1000000) (h : basR (basO s) = v) (hq : Q W w) :
    Calls Tryd.prog 14 #[.string s] w fun e w' => e = .returned v ∧ Q W w' := h ▸ Base_q s W w hs hq
theorem hasL_eq (ns : List ByteArray) (U : List (List UInt8)) (h : ∀ x, U.contains x = ns.any (fun y => y.data.toList == x)) (s : ByteArray) : hasL ns s = U.contains s.data.toList := by
  rw [h, hasL]
  congr 1
  funext x
  rw [Lib.toList_data, Lib.toList_data]
theorem Take_no' (W w : World) (p : Pl) (U T N) (s : ByteArray) (hs : s.size ≤ 2000000) (hS : Sup W p U T N w) (hu : U.contains s.data.toList = true) :
    Calls Tryd.prog 17 #[.pointer (some ⟨p.a, 0, none⟩), .string s] w fun e w' => e = .returned (.bool false) ∧ Sup W p U T N w' ∧ Only (· = p.u) w w' :=
  (Take_no W w p U T N s hs hS hu).mono fun _ _ ⟨he, hw⟩ => by subst hw; exact ⟨he, hS, Only.refl _ _⟩
/-- The names in the list are the used ones; how many they can be. -/
structure Inv (ns : List ByteArray) (U : List (List UInt8)) (j N : Nat) : Prop where
  eq : ∀ x, U.contains x = ns.any (fun y => y.data.toList == x)
  ln : ns.length ≤ 40 + j
  lu : U.length ≤ 40 + j
  lN : N ≤ 40 + j * 1000
theorem Inv.start (ss : List ByteArray) (h : ss.length ≤ 40) : Inv ss (usedOf ss) 0 ss.length := by
  refine ⟨fun x => ?_, by omega, by simp [usedOf]; omega, by omega⟩
  rw [Bool.eq_iff_iff]
  simp [usedOf, List.any_eq_true]
set_option maxRecDepth 10000 in
theorem Inv.take_no {ns U j N} (h : Inv ns U j N) {s : ByteArray} (hu : U.contains s.data.toList = true) : Inv (ns ++ [s]) U (j + 1) N := by
  refine ⟨fun x => ?_, by have := h.ln; simp; omega, by have := h.lu; omega, by have := h.lN; omega⟩
  rw [List.any_append, ← h.eq]
  by_cases e : s.data.toList = x
  · subst e; rw [hu]; simp
  · simp [e]
theorem Inv.take_yes {ns U j N} (h : Inv ns U j N) (s : ByteArray) : Inv (ns ++ [s]) (s.data.toList :: U) (j + 1) (N + 1) := by
  refine ⟨fun x => ?_, by have := h.ln; simp; omega, by have := h.lu; simp; omega, by have := h.lN; omega⟩
  rw [List.any_append, ← h.eq, List.contains_cons]
  by_cases e : s.data.toList = x
  · subst e; simp
  · have e2 : (x == s.data.toList) = false := by simp; exact fun h => e h.symm
    simp [e, e2]
set_option maxRecDepth 10000 in
theorem Inv.skip {ns U j N} (h : Inv ns U j N) : Inv ns U (j + 1) N := ⟨h.eq, by have := h.ln; omega, by have := h.lu; omega, by have := h.lN; omega⟩
theorem Inv.fresh {ns U j N} (h : Inv ns U j N) (hj : j ≤ 40) (s : ByteArray) {J : Nat} (hJ : J ≤ U.length + 1) : Inv (ns ++ [s]) (s.data.toList :: U) (j + 1) (N + J + 1) := by
  have := h.take_yes s
  exact ⟨this.eq, this.ln, this.lu, by have := h.lu; have := h.lN; omega⟩
set_option maxRecDepth 100000 in
set_option maxHeartbeats 4000000 in
theorem NamesUnique_walk (ob oc : Option Addr) (n c m d : Nat) (ss : List ByteArray) (ops : List (Int × ByteArray)) (W : World) (hQ : Q W W) (hr : Strs W ob n ss) (ho : OpsR W oc m ops) :
    Calls Tryd.prog 5 #[.slice ob n c, .slice oc m d] W fun e w' => e = .returned (.bool true) ∧ Q W w' := by
  have HLEN := Lib.hid hr.len
  have HLEO := Lib.hid ho.len
  obtain ⟨i0, hi, hz0, hz1, hz2⟩ := info_parts infoStr
  go_enter Tryd.func5, Tryd.ntmps5
  go_wp2_with fail
  refine (light_q W ob oc n c m d ss ops hr ho).mono ?_
  rintro e w0 ⟨b, rfl, hl, rfl⟩
  cases b
  · go_wp2_with (first | (go_at_call 7; refine (awake_q _ _ hQ).mono ?_; rintro e w5 ⟨rfl, hq5⟩))
    go_ret
    exact ⟨rfl, hq5⟩
  · obtain ⟨hn, hm, hsh, hso⟩ := hl rfl
    have HSH := Lib.hid hsh
    have HSO := Lib.hid hso
    clear hl hsh hso
    go_wp2_with (first | (go_at_call 16; refine (NewSupply_q W _ n ob c ss hQ (by omega) (hr.reads (fun s hs => Nat.le_trans (HSH.out s hs) (by omega)))).mono ?_; rintro e w1 ⟨p, rfl, hS, hB1, _⟩))
    have hlts := hS.lts
    obtain ⟨B, hBd⟩ : ∃ B, B = w1.heap.size := ⟨_, rfl⟩
    rw [← hBd] at hlts
    have hBw : W.heap.size ≤ B := by rw [hBd]; exact hB1.size
    have hBle : B ≤ w1.heap.size := by omega
    have HBD := Lib.hid hBd
    clear hBd
    go_loopw [6, 7] (fun v i wr => ∃ k : Nat, k ≤ n ∧ i = .int .i64 k ∧ AllS wr B v (ss.take k) ∧ Sup W p (usedOf ss) (fun _ => 0) n wr ∧ B ≤ wr.heap.size) (fun _ i _ => n - (intOf i).toNat)
    case atStart => exact ⟨0, Nat.zero_le _, rfl, World.ownsRow_nil _ _ _ _, hS, hBle⟩
    case round =>
      obtain ⟨k, hk, rfl, hall, hS1, hBr⟩ := hrel
      by_cases hlt : k < n
      · have hkl : k < ss.length := by rw [HLEN.out]; exact hlt
        obtain ⟨b, o, rfl, hc, hbl⟩ := hr.cell k hkl
        obtain ⟨x, hx⟩ : ∃ x, x = ss[k] := ⟨_, rfl⟩
        have hcw : wr.cell? ⟨b, o + k, none⟩ = some (.string x) := by rw [hx]; exact (hS1.q.bel.cell hbl).trans hc
        have HX := Lib.hid hx
        clear hx hc
        have hlen : (ss.take k).length = k := by rw [List.length_take]; omega
        have hown : wr.ownsRow B 9 1 u6 k ((ss.take k).map Value.string) := by have := hall; unfold AllS at this; rw [hlen] at this; exact this
        have hxz : k * 16 ≤ 140737488355328 := by omega
        go_wp2_with (first | (at_builtin; refine wpList_append_own _ rfl _ _ 33 rfl B 9 i0 (.string ⟨#[]⟩) 1 16 Tryd.underlying33 hi hz0 hz1 hz2 rfl (by decide) _ _ _ rfl (hown.alloc _) ⟨wr.heap.size, 0, none⟩ 1 1 [.string x] rfl rfl ?c1 ?c2 ?c3 ?c4 ?c5 ?_))
        case c1 => exact cell_one_new _ _ _
        case c2 => intro u hu; simp at hu; subst hu; rfl
        case c3 => unfold maxLen; omega
        case c4 => omega
        case c5 => simp; omega
        · intro v' w' hown' hgrow _
          have hO := only_append (hown.alloc _) hgrow
          have hS2 := hS1.only hO (fun i h => Nat.le_trans hBw h) (Pl.not_has hlts)
          have hall2 : AllS w' B v' (ss.take (k + 1)) := by
            unfold AllS
            rw [List.length_take, Nat.min_eq_left (by omega), List.take_succ_eq_append_getElem hkl, List.map_append, List.map_cons, List.map_nil, ← HX.out, List.map_take]
            exact hown'
          have hB2 := Nat.le_trans hBr hO.size
          clear hown' hgrow hown hall hO hS1
          go_wp2
          go_roundw
          case rel => exact ⟨k + 1, by omega, by go_num, hall2, hS2, hB2⟩
          case measure => simp [intOf]; omega
      · have hk2 : k = n := by omega
        have hall2 : AllS wr B u6 ss := by rw [← List.take_of_length_le (l := ss) (i := k) (by rw [HLEN.out]; omega)]; exact hall
        have HK := Lib.hid hk2
        clear hall hk2
        go_wp2
        go_loopw [6, 8] (fun v i wr => ∃ (j : Nat) (ns : List ByteArray) (U : List (List UInt8)) (T : List UInt8 → Nat) (N : Nat), j ≤ m ∧ i = .int .i64 j ∧ AllS wr B v ns ∧ Sup W p U T N wr ∧ B ≤ wr.heap.size ∧ Inv ns U j N) (fun _ i _ => m - (intOf i).toNat)
        case atStart => exact ⟨0, ss, usedOf ss, fun _ => 0, n, Nat.zero_le _, rfl, hall2, hS1, hBr, by rw [← HLEN.out]; exact Inv.start ss (by rw [HLEN.out]; exact hn)⟩
        case round =>
          clear hS1 hall2 hBr
          obtain ⟨j, ns, U, T, N, hj, rfl, hall, hS1, hBr, hI⟩ := hrel
          by_cases hlt : j < m
          · have hjl : j < ops.length := by rw [HLEO.out]; exact hlt
            obtain ⟨b, o, rfl, hc, hd, hbl⟩ := ho.cell j hjl
            obtain ⟨x, hx⟩ : ∃ x, x = ops[j].2 := ⟨_, rfl⟩
            obtain ⟨q, hqq⟩ : ∃ q, q = ops[j].1 := ⟨_, rfl⟩
            have hxz : x.size ≤ 100 := by rw [hx]; exact HSO.out _ (List.getElem_mem hjl)
            rw [← hx] at hd
            rw [← hqq] at hc
            have hcw := (hS1.q.bel.cell hbl).trans hc
            have hdw := (hS1.q.bel.cell hbl).trans hd
            have HC := Lib.hid hc
            have HD := Lib.hid hd
            clear hx hqq hc hd
            have hI1 := hI.ln
            have hI2 := hI.lu
            have hI3 := hI.lN
            obtain ⟨oa, ca, rfl, hst⟩ := hall.strs
            by_cases hdo : q = 0
            · subst hdo
              have hqs := hS1.q.self
              cases hbx : basO x with
              | none =>
                obtain ⟨y, hyx⟩ : ∃ y, y = x := ⟨_, rfl⟩
                have HFB : Hid (fb x = y) := Lib.hid (by rw [fb, hbx, hyx])
                have HBX : Hid (basR (basO x) = .tuple #[.string ⟨#[]⟩, .int .i64 0, .bool false]) := Lib.hid (by rw [hbx]; rfl)
                clear hbx
                have hyz : y.size ≤ 200 := by rw [hyx]; omega
                subst hyx
                cases hst2 : stem y.data.toList
                · have HFR : Hid (∀ w2, Sup W p U T N w2 → Calls Tryd.prog 19 #[.pointer (some ⟨p.a, 0, none⟩), .string y] w2 fun e w' => e = .returned (.string ⟨#[]⟩) ∧ Below w2.heap.size w2 w') := Lib.hid (fun w2 h => Fresh_no W w2 p U T N y (by omega) h (by rw [HFB.out]; exact hst2))
                  have HMK : Hid (mkB y 1 = ⟨#[]⟩) := Lib.hid (by simp [mkB, hst2])
                  have HBE : Hid (basR (basO ⟨#[]⟩) = .tuple #[.string ⟨#[]⟩, .int .i64 0, .bool false]) := Lib.hid (by rw [base_empty]; rfl)
                  clear hst2
                  go_wp2_with (first | (go_at_call 14; (with_reducible refine (Base_v' y _ _ _ (by omega) HBX.out hqs).mono ?_); rintro e w2 ⟨rfl, hq2⟩; have hS2 := hS1.below hq2.bel; have hall2 := hall.only (Only.of_below (K := fun _ => False) hq2.bel) (fun _ h => h.elim); have hd2 := (hS2.q.bel.cell hbl).trans HD.out) | (go_at_call 19; refine (HFR.out _ hS2).mono ?_; rintro e w3 ⟨rfl, hb3⟩; have hS3 := hS2.below hb3; have hall3 := hall2.only (Only.of_below (K := fun _ => False) hb3) (fun _ h => h.elim); have hq3 := hS3.q.self) | (go_at_call 14; (with_reducible refine (Base_v' ⟨#[]⟩ _ _ _ (by decide) HBE.out hq3).mono ?_); rintro e w4 ⟨rfl, hq4⟩; have hS4 := hS3.below hq4.bel; have hall4 := hall3.only (Only.of_below (K := fun _ => False) hq4.bel) (fun _ h => h.elim); have hq4s := hS4.q.self) | (go_at_call 13; (with_reducible refine (Made_v y _ 1 _ _ (by omega) (by omega) HMK.out hq4s).mono ?_); rintro e w6 ⟨rfl, hq6⟩; have hS6 := hS4.below hq6.bel; have hall6 := hall4.only (Only.of_below (K := fun _ => False) hq6.bel) (fun _ h => h.elim); have hB6 : B ≤ w6.heap.size := Nat.le_trans hBr (Nat.le_trans hq2.bel.size (Nat.le_trans hb3.size (Nat.le_trans hq4.bel.size hq6.bel.size)))))
                  go_roundw
                  case rel => exact ⟨j + 1, ns, U, T, N, by omega, by go_num, hall6, hS6, hB6, hI.skip⟩
                  case measure => simp [intOf]; omega
                · obtain ⟨J, hJ0, hJ1, hJ2, hJ3⟩ := exists_new U y (T y.data.toList)
                  have hTN := hS1.tN y.data.toList
                  obtain ⟨nm, hnm⟩ : ∃ nm, nm = madeB y ((T y.data.toList + J : Nat) : Int) := ⟨_, rfl⟩
                  obtain ⟨kk, hkk⟩ : ∃ kk : Int, kk = ((T y.data.toList + J : Nat) : Int) := ⟨_, rfl⟩
                  obtain ⟨T2, hT2⟩ : ∃ T2, T2 = upd T y.data.toList (T y.data.toList + J) := ⟨_, rfl⟩
                  have HFR : Hid (∀ w2, Sup W p U T N w2 → Calls Tryd.prog 19 #[.pointer (some ⟨p.a, 0, none⟩), .string y] w2 fun e w' => e = .returned (.string nm) ∧ Sup W p (nm.data.toList :: U) T2 (N + J + 1) w' ∧ Only (utK p) w2 w') := Lib.hid (fun w2 h => by
                    rw [hnm, hT2]
                    exact Fresh_yes W w2 p U T N y y (by omega) h HFB.out (by omega) hst2 J hJ0 (by omega) (by omega) hJ2 hJ3)
                  have HBN : Hid (basR (basO nm) = .tuple #[.string y, .int .i64 kk, .bool true]) := Lib.hid (by
                    rw [basO_made (s := nm) (b := y) (n := kk) (by omega) (by omega) hst2 (by rw [hnm, hkk]; exact mkL_eq y _)]; rfl)
                  have hnz : nm.size ≤ 1000 := by rw [hnm]; have := madeB_size y ((T y.data.toList + J : Nat) : Int) (by omega) (by omega); omega
                  have hne : nm.toList.isEmpty = false := by rw [Lib.toList_data, hnm]; have := mkL_eq y ((T y.data.toList + J : Nat) : Int); unfold mkL at this; rw [this]; simp
                  have hk1 : decide (kk < 1) = false := by simp; omega
                  have hyy := beq_self' y
                  have hUN : U.contains nm.data.toList = false := by rw [hnm]; exact hJ2
                  have HHN : Hid (hasL ns nm = false) := Lib.hid (by rw [hasL_eq ns U hI.eq, hUN])
                  have hI6 := Lib.hid (hI.fresh (by omega) nm hJ1)
                  have HJ1 := Lib.hid hJ1
                  have HKK : Hid (1 ≤ kk) := Lib.hid (by omega)
                  clear hst2 hJ2 hJ3 hnm hkk hT2 hUN
                  go_wp2_with (first | (go_at_call 14; (with_reducible refine (Base_v' y _ _ _ (by omega) HBX.out hqs).mono ?_); rintro e w2 ⟨rfl, hq2⟩; have hS2 := hS1.below hq2.bel; have hall2 := hall.only (Only.of_below (K := fun _ => False) hq2.bel) (fun _ h => h.elim); have hd2 := (hS2.q.bel.cell hbl).trans HD.out) | (go_at_call 19; refine (HFR.out _ hS2).mono ?_; rintro e w3 ⟨rfl, hS3, hO3⟩; have hall3 := hall2.only hO3 (fun i hi => .inl (by rcases hi with rfl | rfl; exact hlts.2.1; exact hlts.2.2)); have hq3 := hS3.q.self) | (go_at_call 14; (with_reducible refine (Base_v' nm _ _ _ (by omega) HBN.out hq3).mono ?_); rintro e w5 ⟨rfl, hq5⟩; have hS5 := hS3.below hq5.bel; have hall5 := hall3.only (Only.of_below (K := fun _ => False) hq5.bel) (fun _ h => h.elim); have hst5 := hall5.strs'; have hown5 := allS_row hall5; have hB5 : B ≤ w5.heap.size := Nat.le_trans hBr (Nat.le_trans hq2.bel.size (Nat.le_trans hO3.size hq5.bel.size))) | (go_at_call 18; (with_reducible refine (Has_q _ _ _ _ _ _ (by omega) hst5).mono ?_); rw [HHN.out]; rintro e w7 ⟨rfl, rfl⟩) | (at_builtin; refine wpList_append_own _ rfl _ _ 33 rfl B 9 i0 (.string ⟨#[]⟩) 1 16 Tryd.underlying33 hi hz0 hz1 hz2 rfl (by decide) _ _ _ rfl (hown5.alloc _) ⟨w5.heap.size, 0, none⟩ 1 1 [.string nm] rfl rfl (cell_one_new _ _ _) (one_str nm) (by unfold maxLen; omega) (by omega) (by simp; omega) ?_; intro v' w' hown' hgrow _))
                  have hO := only_append (hown5.alloc _) hgrow
                  have hS6 := hS5.only hO (fun i h => Nat.le_trans hBw h) (Pl.not_has hlts)
                  have hall6 : AllS w' B v' (ns ++ [nm]) := by
                    unfold AllS
                    rw [List.length_append, List.map_append]
                    exact hown'
                  have hB6 := Nat.le_trans hB5 hO.size
                  clear hown' hgrow hown5 hO hS5
                  go_wp2
                  go_roundw
                  case rel => exact ⟨j + 1, ns ++ [nm], nm.data.toList :: U, T2, N + J + 1, by omega, by go_num, hall6, hS6, hB6, hI6.out⟩
                  case measure => simp [intOf]; omega
              | some bn =>
                obtain ⟨y, nn⟩ := bn
                have hyst := (basO_some hbx)
                have hyz : y.size ≤ 200 := by
                  obtain ⟨_, _, h, _⟩ := hyst
                  have := (stem_size h).2; omega
                have HFB : Hid (fb x = y) := Lib.hid (by rw [fb, hbx])
                have HBX : Hid (basR (basO x) = .tuple #[.string y, .int .i64 nn, .bool true]) := Lib.hid (by rw [hbx]; rfl)
                clear hbx hyst
                cases hst2 : stem y.data.toList
                · have HFR : Hid (∀ w2, Sup W p U T N w2 → Calls Tryd.prog 19 #[.pointer (some ⟨p.a, 0, none⟩), .string x] w2 fun e w' => e = .returned (.string ⟨#[]⟩) ∧ Below w2.heap.size w2 w') := Lib.hid (fun w2 h => Fresh_no W w2 p U T N x (by omega) h (by rw [HFB.out]; exact hst2))
                  have HMK : Hid (mkB y 1 = ⟨#[]⟩) := Lib.hid (by simp [mkB, hst2])
                  have HBE : Hid (basR (basO ⟨#[]⟩) = .tuple #[.string ⟨#[]⟩, .int .i64 0, .bool false]) := Lib.hid (by rw [base_empty]; rfl)
                  clear hst2
                  go_wp2_with (first | (go_at_call 14; (with_reducible refine (Base_v' x _ _ _ (by omega) HBX.out hqs).mono ?_); rintro e w2 ⟨rfl, hq2⟩; have hS2 := hS1.below hq2.bel; have hall2 := hall.only (Only.of_below (K := fun _ => False) hq2.bel) (fun _ h => h.elim); have hd2 := (hS2.q.bel.cell hbl).trans HD.out) | (go_at_call 19; refine (HFR.out _ hS2).mono ?_; rintro e w3 ⟨rfl, hb3⟩; have hS3 := hS2.below hb3; have hall3 := hall2.only (Only.of_below (K := fun _ => False) hb3) (fun _ h => h.elim); have hq3 := hS3.q.self) | (go_at_call 14; (with_reducible refine (Base_v' ⟨#[]⟩ _ _ _ (by decide) HBE.out hq3).mono ?_); rintro e w4 ⟨rfl, hq4⟩; have hS4 := hS3.below hq4.bel; have hall4 := hall3.only (Only.of_below (K := fun _ => False) hq4.bel) (fun _ h => h.elim); have hq4s := hS4.q.self) | (go_at_call 13; (with_reducible refine (Made_v y _ 1 _ _ (by omega) (by omega) HMK.out hq4s).mono ?_); rintro e w6 ⟨rfl, hq6⟩; have hS6 := hS4.below hq6.bel; have hall6 := hall4.only (Only.of_below (K := fun _ => False) hq6.bel) (fun _ h => h.elim); have hB6 : B ≤ w6.heap.size := Nat.le_trans hBr (Nat.le_trans hq2.bel.size (Nat.le_trans hb3.size (Nat.le_trans hq4.bel.size hq6.bel.size)))))
                  go_roundw
                  case rel => exact ⟨j + 1, ns, U, T, N, by omega, by go_num, hall6, hS6, hB6, hI.skip⟩
                  case measure => simp [intOf]; omega
                · obtain ⟨J, hJ0, hJ1, hJ2, hJ3⟩ := exists_new U y (T y.data.toList)
                  have hTN := hS1.tN y.data.toList
                  obtain ⟨nm, hnm⟩ : ∃ nm, nm = madeB y ((T y.data.toList + J : Nat) : Int) := ⟨_, rfl⟩
                  obtain ⟨kk, hkk⟩ : ∃ kk : Int, kk = ((T y.data.toList + J : Nat) : Int) := ⟨_, rfl⟩
                  obtain ⟨T2, hT2⟩ : ∃ T2, T2 = upd T y.data.toList (T y.data.toList + J) := ⟨_, rfl⟩
                  have HFR : Hid (∀ w2, Sup W p U T N w2 → Calls Tryd.prog 19 #[.pointer (some ⟨p.a, 0, none⟩), .string x] w2 fun e w' => e = .returned (.string nm) ∧ Sup W p (nm.data.toList :: U) T2 (N + J + 1) w' ∧ Only (utK p) w2 w') := Lib.hid (fun w2 h => by
                    rw [hnm, hT2]
                    exact Fresh_yes W w2 p U T N x y (by omega) h HFB.out (by omega) hst2 J hJ0 (by omega) (by omega) hJ2 hJ3)
                  have HBN : Hid (basR (basO nm) = .tuple #[.string y, .int .i64 kk, .bool true]) := Lib.hid (by
                    rw [basO_made (s := nm) (b := y) (n := kk) (by omega) (by omega) hst2 (by rw [hnm, hkk]; exact mkL_eq y _)]; rfl)
                  have hnz : nm.size ≤ 1000 := by rw [hnm]; have := madeB_size y ((T y.data.toList + J : Nat) : Int) (by omega) (by omega); omega
                  have hne : nm.toList.isEmpty = false := by rw [Lib.toList_data, hnm]; have := mkL_eq y ((T y.data.toList + J : Nat) : Int); unfold mkL at this; rw [this]; simp
                  have hk1 : decide (kk < 1) = false := by simp; omega
                  have hyy := beq_self' y
                  have hUN : U.contains nm.data.toList = false := by rw [hnm]; exact hJ2
                  have HHN : Hid (hasL ns nm = false) := Lib.hid (by rw [hasL_eq ns U hI.eq, hUN])
                  have hI6 := Lib.hid (hI.fresh (by omega) nm hJ1)
                  have HJ1 := Lib.hid hJ1
                  have HKK : Hid (1 ≤ kk) := Lib.hid (by omega)
                  clear hst2 hJ2 hJ3 hnm hkk hT2 hUN
                  go_wp2_with (first | (go_at_call 14; (with_reducible refine (Base_v' x _ _ _ (by omega) HBX.out hqs).mono ?_); rintro e w2 ⟨rfl, hq2⟩; have hS2 := hS1.below hq2.bel; have hall2 := hall.only (Only.of_below (K := fun _ => False) hq2.bel) (fun _ h => h.elim); have hd2 := (hS2.q.bel.cell hbl).trans HD.out) | (go_at_call 19; refine (HFR.out _ hS2).mono ?_; rintro e w3 ⟨rfl, hS3, hO3⟩; have hall3 := hall2.only hO3 (fun i hi => .inl (by rcases hi with rfl | rfl; exact hlts.2.1; exact hlts.2.2)); have hq3 := hS3.q.self) | (go_at_call 14; (with_reducible refine (Base_v' nm _ _ _ (by omega) HBN.out hq3).mono ?_); rintro e w5 ⟨rfl, hq5⟩; have hS5 := hS3.below hq5.bel; have hall5 := hall3.only (Only.of_below (K := fun _ => False) hq5.bel) (fun _ h => h.elim); have hst5 := hall5.strs'; have hown5 := allS_row hall5; have hB5 : B ≤ w5.heap.size := Nat.le_trans hBr (Nat.le_trans hq2.bel.size (Nat.le_trans hO3.size hq5.bel.size))) | (go_at_call 18; (with_reducible refine (Has_q _ _ _ _ _ _ (by omega) hst5).mono ?_); rw [HHN.out]; rintro e w7 ⟨rfl, rfl⟩) | (at_builtin; refine wpList_append_own _ rfl _ _ 33 rfl B 9 i0 (.string ⟨#[]⟩) 1 16 Tryd.underlying33 hi hz0 hz1 hz2 rfl (by decide) _ _ _ rfl (hown5.alloc _) ⟨w5.heap.size, 0, none⟩ 1 1 [.string nm] rfl rfl (cell_one_new _ _ _) (one_str nm) (by unfold maxLen; omega) (by omega) (by simp; omega) ?_; intro v' w' hown' hgrow _))
                  have hO := only_append (hown5.alloc _) hgrow
                  have hS6 := hS5.only hO (fun i h => Nat.le_trans hBw h) (Pl.not_has hlts)
                  have hall6 : AllS w' B v' (ns ++ [nm]) := by
                    unfold AllS
                    rw [List.length_append, List.map_append]
                    exact hown'
                  have hB6 := Nat.le_trans hB5 hO.size
                  clear hown' hgrow hown5 hO hS5
                  go_wp2
                  go_roundw
                  case rel => exact ⟨j + 1, ns ++ [nm], nm.data.toList :: U, T2, N + J + 1, by omega, by go_num, hall6, hS6, hB6, hI6.out⟩
                  case measure => simp [intOf]; omega
            · have e1 : (q != 0) = true := by simp [hdo]
              clear hdo
              cases hu : U.contains x.data.toList
              · have HU := Lib.hid hu
                have HH : Hid (hasL ns x = false) := Lib.hid (by rw [hasL_eq ns U hI.eq, hu])
                clear hu
                go_wp2_with fail
                have hSd : Sup W p U T N wr.drew := hS1.below (Below.refl _ _).drew
                have halld : AllS wr.drew B (.slice oa ns.length ca) ns := hall.drew
                have hstd := halld.strs'
                go_region_with (first | (go_at_call 17; refine (Take_yes _ _ _ _ _ _ _ (by omega) hSd (by omega) HU.out).mono ?_; rintro e w5 ⟨rfl, hS5, hO5⟩; have hall5 := halld.only hO5 (fun i hi => .inl (by rw [hi]; exact hlts.2.1)); have hst5 := hall5.strs'; have hd5 := (hS5.q.bel.cell hbl).trans HD.out) | (go_at_call 18; first | ((with_reducible refine (Has_q _ _ _ _ _ _ (by omega) hstd).mono ?_); rw [HH.out]; rintro e w6 ⟨rfl, rfl⟩) | ((with_reducible refine (Has_q _ _ _ _ _ _ (by omega) hst5).mono ?_); rw [HH.out]; rintro e w7 ⟨rfl, rfl⟩)))
                all_goals
                  have hown5 : w5.ownsRow B 9 1 (.slice oa ns.length ca) ns.length (ns.map Value.string) := hall5
                  have hB5 : B ≤ w5.heap.size := Nat.le_trans hBr hO5.size
                  clear hall5 hst5 hstd halld hSd hO5 hall hst hS1
                  go_wp2_with (first | (at_builtin; refine wpList_append_own _ rfl _ _ 33 rfl B 9 i0 (.string ⟨#[]⟩) 1 16 Tryd.underlying33 hi hz0 hz1 hz2 rfl (by decide) _ _ _ rfl (hown5.alloc _) ⟨w5.heap.size, 0, none⟩ 1 1 [.string x] rfl rfl (cell_one_new _ _ _) (one_str x) (by unfold maxLen; omega) (by omega) (by simp; omega) ?_; intro v' w' hown' hgrow _))
                  have hO := only_append (hown5.alloc _) hgrow
                  have hS6 := hS5.only hO (fun i h => Nat.le_trans hBw h) (Pl.not_has hlts)
                  have hall6 : AllS w' B v' (ns ++ [x]) := by
                    unfold AllS
                    rw [List.length_append, List.map_append]
                    exact hown'
                  have hB6 := Nat.le_trans hB5 hO.size
                  clear hown' hgrow hown5 hO hS5
                  go_wp2
                  go_roundw
                  case rel => exact ⟨j + 1, ns ++ [x], x.data.toList :: U, T, N + 1, by omega, by go_num, hall6, hS6, hB6, hI.take_yes x⟩
                  case measure => simp [intOf]; omega
              · have HU := Lib.hid hu
                have HH : Hid (hasL ns x = true) := Lib.hid (by rw [hasL_eq ns U hI.eq, hu])
                clear hu
                go_wp2_with fail
                have hSd : Sup W p U T N wr.drew := hS1.below (Below.refl _ _).drew
                have halld : AllS wr.drew B (.slice oa ns.length ca) ns := hall.drew
                have hstd := halld.strs'
                go_region_with (first | (go_at_call 17; refine (Take_no' _ _ _ _ _ _ _ (by omega) hSd HU.out).mono ?_; rintro e w5 ⟨rfl, hS5, hO5⟩; have hall5 := halld.only hO5 (fun i hi => .inl (by rw [hi]; exact hlts.2.1)); have hst5 := hall5.strs'; have hd5 := (hS5.q.bel.cell hbl).trans HD.out) | (go_at_call 18; first | ((with_reducible refine (Has_q _ _ _ _ _ _ (by omega) hstd).mono ?_); rw [HH.out]; rintro e w6 ⟨rfl, rfl⟩) | ((with_reducible refine (Has_q _ _ _ _ _ _ (by omega) hst5).mono ?_); rw [HH.out]; rintro e w7 ⟨rfl, rfl⟩)))
                all_goals
                  have hown5 : w5.ownsRow B 9 1 (.slice oa ns.length ca) ns.length (ns.map Value.string) := hall5
                  have hB5 : B ≤ w5.heap.size := Nat.le_trans hBr hO5.size
                  clear hall5 hst5 hstd halld hSd hO5 hall hst hS1
                  go_wp2_with (first | (at_builtin; refine wpList_append_own _ rfl _ _ 33 rfl B 9 i0 (.string ⟨#[]⟩) 1 16 Tryd.underlying33 hi hz0 hz1 hz2 rfl (by decide) _ _ _ rfl (hown5.alloc _) ⟨w5.heap.size, 0, none⟩ 1 1 [.string x] rfl rfl (cell_one_new _ _ _) (one_str x) (by unfold maxLen; omega) (by omega) (by simp; omega) ?_; intro v' w' hown' hgrow _))
                  have hO := only_append (hown5.alloc _) hgrow
                  have hS6 := hS5.only hO (fun i h => Nat.le_trans hBw h) (Pl.not_has hlts)
                  have hall6 : AllS w' B v' (ns ++ [x]) := by
                    unfold AllS
                    rw [List.length_append, List.map_append]
                    exact hown'
                  have hB6 := Nat.le_trans hB5 hO.size
                  clear hown' hgrow hown5 hO hS5
                  go_wp2
                  go_roundw
                  case rel => exact ⟨j + 1, ns ++ [x], U, T, N, by omega, by go_num, hall6, hS6, hB6, hI.take_no HU.out⟩
                  case measure => simp [intOf]; omega
          · go_wp2_with (first | (go_at_call 7; refine (awake_q _ _ hS1.q).mono ?_; rintro e w7 ⟨rfl, hq7⟩))
            go_ret
            exact ⟨rfl, hq7⟩
end Go.Proofs.YtniejaachfhkdaaDoor
