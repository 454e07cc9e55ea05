/-
  WALKS. Explicit, the reference's and the program's.
-/
import Derived.Test.YtkdogaomlocijaaLyZ
namespace Go.Proofs.Ytkdogaomlocijaa
open Go.RowKit Go.Maps
set_option maxRecDepth 100000 in
set_option maxHeartbeats 8000000 in
theorem rExplicit_nil (w : World) :
    Calls Try.prog 16 #[.slice none 0 0] w fun r w' => (∃ vo, r = .returned vo ∧ TR w' w.heap.size vo (explL ([] : List Tok))) ∧ Only (fun _ => False) w w' := by
  obtain ⟨i0', hi, hz0, hz1, hz2⟩ := info_parts infoTok
  have HI0 := Lib.hid hi
  have HZ0 := Lib.hid hz0
  have HZ1 := Lib.hid hz1
  have HZ2 := Lib.hid hz2
  clear hi hz0 hz1 hz2
  have hRz := TR.zero w (Nat.le_refl w.heap.size)
  have hA : Only (fun _ => False) w (w.alloc (.cells #[] 34)) := Only.alloc (Only.refl _ _) _
  go_enter Try.func16, Try.ntmps16
  go_wp2_with (at_builtin; refine wpList_append_own_none rfl (.tmp 5) (.tmp 6) 22 rfl w.heap.size 34 i0' 7 Try.underlying22 HI0.out (.slice (some ⟨w.heap.size, 0, none⟩) 0 0) 0 [] rfl hRz rfl ?_)
  go_loopw [4] (fun i wr => i = .int .i64 0 ∧ TR wr w.heap.size (.slice (some ⟨w.heap.size, 0, none⟩) 0 0) [] ∧ Only (fun _ => False) w wr) (fun _ _ => 0)
  case atStart => exact ⟨rfl, hRz, hA⟩
  case round =>
    obtain ⟨rfl, hR, hO⟩ := hrel
    go_wp2
    go_ret
    exact ⟨⟨_, rfl, hR⟩, hO⟩
set_option maxRecDepth 100000 in
set_option maxHeartbeats 8000000 in
theorem rExplicit_ok (w : World) (ad : Addr) (n ca : Nat) (ts : List Tok) (hn : n ≤ 1000000000) (hT : Tks w (some ad) n ts) :
    Calls Try.prog 16 #[.slice (some ad) n ca] w fun r w' => (∃ vo, r = .returned vo ∧ TR w' w.heap.size vo (explL ts)) ∧ Only (fun _ => False) w w' := by
  obtain ⟨i0', hi, hz0, hz1, hz2⟩ := info_parts infoTok
  have HI0 := Lib.hid hi
  have HZ0 := Lib.hid hz0
  have HZ1 := Lib.hid hz1
  have HZ2 := Lib.hid hz2
  clear hi hz0 hz1 hz2
  have hRz := TR.zero w (Nat.le_refl w.heap.size)
  have hA : Only (fun _ => False) w (w.alloc (.cells #[] 34)) := Only.alloc (Only.refl _ _) _
  have HL := Lib.hid hT.len
  have hTa := hT.keep hA
  go_enter Try.func16, Try.ntmps16
  go_wp2_with (at_builtin; (refine wpList_append_own_at _ rfl (.tmp 5) (.tmp 6) 22 rfl w.heap.size 34 i0' (.agg #[.int .i64 0, .string ⟨#[]⟩, .string ⟨#[]⟩, .int .i64 0, .bool false, .int .i64 0, .int .i64 0]) 7 72 Try.underlying22 HI0.out HZ0.out HZ1.out HZ2.out rfl (by decide) (.slice (some ⟨w.heap.size, 0, none⟩) 0 0) 0 [] rfl hRz ad n ca (ts.flatMap tokCells) rfl (by rw [flat_len 7 tokCells tokCells_len, hT.len]) hTa.newz (one_tokz ts) (by unfold maxLen; omega) (by omega) (by show w.heap.size ≤ (w.heap.push _).size; simp only [Array.size_push]; omega) ?_); (intro v2 w2 hown2 hgrow2 hnn2 hob2; clear hob2; have hO2 : Only (fun _ => False) w w2 := hA.then (Only.grown (K := fun i => w.heap.size ≤ i) hgrow2 (fun g hg => (World.ownsRow.lt hRz g hg).1)) (fun i hi => .inr hi); have hR2 : TR w2 w.heap.size v2 ts := (by unfold TR; rw [hT.len]; simpa using hown2); clear hown2 hgrow2; obtain ⟨o2, c2, hv2⟩ := rowForm hR2; have HNN := Lib.hid hnn2; clear hnn2; subst hv2))
  go_loopw [4] (fun i wr => ∃ k : Nat, k ≤ n ∧ i = .int .i64 k ∧ TR wr w.heap.size (.slice o2 ts.length c2) (half ts ts k) ∧ Only (fun _ => False) w wr) (fun i _ => n - (intOf i).toNat)
  case atStart => exact ⟨0, by omega, rfl, hR2, hO2⟩
  case round =>
    obtain ⟨k, hk, rfl, hR, hO⟩ := hrel
    by_cases hlt : k < ts.length
    · have hhl := half_len ts ts rfl (Nat.le_of_lt hlt)
      have hkh : k < (half ts ts k).length := by omega
      obtain ⟨g, hoa, hbg, -, hca2, hc⟩ := TR.at hR hkh
      subst hoa
      have hfz := TR.fz hR (k * 7 + 4)
      have hne := TR.off (k := k) (ca := c2) (g := g) (B := w.heap.size) (w := wr) (l := half ts ts k) (by rw [hhl]; exact hR) hkh
      rw [half_at ts ts rfl hlt hkh, half_set ts ts rfl hlt, hhl] at hne
      have HNE := Lib.hid hne
      obtain ⟨zz, hzz⟩ : ∃ z, (half ts ts k)[k] = z := ⟨_, rfl⟩
      rw [hzz] at hc
      obtain ⟨p0, p1, p2, p3, p4, p5, p6⟩ := hc
      have hll : ts.length = n := HL.out
      have hln : ts.length ≤ 1000000000 := by omega
      have hkn : k + 1 ≤ n := by omega
      clear hne hzz hhl hkh hll
      go_wp2
      go_roundw
      case rel => exact ⟨k + 1, hkn, by go_num, HNE.out, Only.setNew hO hbg _⟩
      case measure => simp [intOf]; omega
    · rw [half_end ts ts rfl (by omega)] at hR
      have hln : ts.length ≤ 1000000000 := by have := HL.out; omega
      go_wp2
      go_ret
      exact ⟨⟨_, rfl, hR⟩, hO⟩
theorem made_cells (n : Nat) : (madeCells #[.int .i64 0, .string ⟨#[]⟩, .string ⟨#[]⟩, .int .i64 0, .bool false, .int .i64 0, .int .i64 0] (n * 7)).toList = (List.replicate n zT).flatMap tokCells := by
  apply List.ext_getElem?
  intro j
  by_cases hj : j < n * 7
  · have hk : j / 7 < (List.replicate n zT).length := by rw [List.length_replicate]; omega
    have hi : j % 7 < 7 := Nat.mod_lt _ (by decide)
    have e : j = j / 7 * 7 + j % 7 := by omega
    have hr : ((List.replicate n zT).flatMap tokCells)[j]? = (tokCells zT)[j % 7]? := by
      conv => lhs; rw [e]
      rw [flat_getM 7 tokCells tokCells_len _ (j / 7) (j % 7) hk hi, List.getElem_replicate]
    rw [hr, Array.getElem?_toList]
    unfold madeCells
    rw [Array.getElem?_map, Array.getElem?_range, if_pos hj]
    simp only [Option.map_some]
    have key : ∀ i, i < 7 → some ((#[.int .i64 0, .string ⟨#[]⟩, .string ⟨#[]⟩, .int .i64 0, .bool false, .int .i64 0, .int .i64 0] : Array Value)[i]!) = (tokCells zT)[i]? := by
      intro i hi
      match i, hi with
      | 0, _ => rfl
      | 1, _ => rfl
      | 2, _ => rfl
      | 3, _ => rfl
      | 4, _ => rfl
      | 5, _ => rfl
      | 6, _ => rfl
    exact key _ hi
  · rw [List.getElem?_eq_none (by rw [Array.length_toList, size_madeCells]; omega), List.getElem?_eq_none (by rw [flat_len 7 tokCells tokCells_len, List.length_replicate]; omega)]
set_option maxRecDepth 100000 in
set_option maxHeartbeats 8000000 in
theorem Explicit_p (w : World) (oa : Option Addr) (n ca : Nat) (ts : List Tok) (hn : n ≤ 1000000000) (hT : Tks w oa n ts) :
    Calls Try.prog 15 #[.slice oa n ca] w fun r w' => (∃ vo, r = .returned vo ∧ TR w' w.heap.size vo (explL ts)) ∧ Only (fun _ => False) w w' := by
  obtain ⟨i0', hi, hz0, hz1, hz2⟩ := info_parts infoTok
  obtain ⟨w2, hmk, hown, hgrow⟩ := run_make_full (P := Try.prog) (w := w) w.heap.size 22 34 i0' (.agg #[.int .i64 0, .string ⟨#[]⟩, .string ⟨#[]⟩, .int .i64 0, .bool false, .int .i64 0, .int .i64 0]) 7 Try.underlying22 hi hz0 hz1 .i64 .i64 n (by rw [hz2]; omega) (by unfold maxLen; omega) (Nat.le_refl _)
  have HL := Lib.hid hT.len
  have hO2 : Only (fun _ => False) w w2 := Only.grown hgrow (fun g hg => by cases hg)
  have hR2 : TR w2 w.heap.size (.slice (some ⟨w.heap.size, 0, none⟩) n n) (half ts (List.replicate n zT) 0) := by
    rw [half_zero]
    unfold TR
    rw [List.length_replicate, ← made_cells]
    exact hown
  have HR2 := Lib.hid hR2
  clear hown hgrow hi hz0 hz1 hz2 hR2
  go_enter Try.func15, Try.ntmps15
  go_wp2
  go_loopw [11] (fun i wr => ∃ k : Nat, k ≤ n ∧ i = .int .i64 k ∧ TR wr w.heap.size (.slice (some ⟨w.heap.size, 0, none⟩) n n) (half ts (List.replicate n zT) k) ∧ Only (fun _ => False) w wr) (fun i _ => n - (intOf i).toNat)
  case atStart => exact ⟨0, by omega, rfl, HR2.out, hO2⟩
  case round =>
    obtain ⟨k, hk, rfl, hR, hO⟩ := hrel
    clear hmk
    have hrl : (List.replicate n zT).length = ts.length := by rw [List.length_replicate]; exact HL.out.symm
    by_cases hlt : k < n
    · have hkt : k < ts.length := by rw [HL.out]; exact hlt
      obtain ⟨b, o, rfl, hc⟩ := (hT.keep hO).cell k hkt
      have hhl := half_len ts (List.replicate n zT) hrl (Nat.le_of_lt hkt)
      have hkh : k < (half ts (List.replicate n zT) k).length := by omega
      obtain ⟨g, hoa, hbg, -, hca2, hz⟩ := TR.at hR hkh
      cases hoa
      have hfz : ∀ j, wr.frozen? ⟨w.heap.size, j, none⟩ = false := fun j => TR.fz hR j
      have z0 := hfz (k * 7)
      have z1 := hfz (k * 7 + 1)
      have z2 := hfz (k * 7 + 2)
      have z3 := hfz (k * 7 + 3)
      have z4 := hfz (k * 7 + 4)
      have z5 := hfz (k * 7 + 5)
      have z6 := hfz (k * 7 + 6)
      obtain ⟨x, hx⟩ : ∃ x, ts[k] = x := ⟨_, rfl⟩
      have hsz : w.heap.size < wr.heap.size := cell_lt hz.c0
      have hln := hhl.trans HL.out
      have hne := TR.put7 (k := k) (ca := n) (g := w.heap.size) (B := w.heap.size) (w := wr) (l := half ts (List.replicate n zT) k) (by rw [hln]; exact hR) hkh (offT ts[k])
      rw [half_set ts (List.replicate n zT) hrl hkt, hln, hx] at hne
      rw [hx] at hc
      have HNE := Lib.hid hne
      have HRL := Lib.hid hrl
      obtain ⟨zz, hzz⟩ : ∃ z, (half ts (List.replicate n zT) k)[k] = z := ⟨_, rfl⟩
      rw [hzz] at hz
      clear hzz hne hhl hkh hfz hx hkt hln hrl
      obtain ⟨p0, p1, p2, p3, p4, p5, p6⟩ := hc
      obtain ⟨q0, q1, q2, q3, q4, q5, q6⟩ := hz
      go_wp2
      go_roundw
      case rel => exact ⟨k + 1, by omega, by go_num, HNE.out.only (Only.alloc (Only.refl (fun _ => False) _) _) (fun _ _ hc => hc), Only.alloc (Only.setNew (Only.setNew (Only.setNew (Only.setNew (Only.setNew (Only.setNew (Only.setNew hO (Nat.le_refl _) _) (Nat.le_refl _) _) (Nat.le_refl _) _) (Nat.le_refl _) _) (Nat.le_refl _) _) (Nat.le_refl _) _) (Nat.le_refl _) _) _⟩
      case measure => simp [intOf]; omega
    · rw [half_end ts (List.replicate n zT) hrl (by rw [HL.out]; omega)] at hR
      go_wp2
      go_ret
      exact ⟨⟨_, rfl, hR⟩, hO⟩
end Go.Proofs.Ytkdogaomlocijaa
