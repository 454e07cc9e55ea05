/-
  WALKS. Lists of names and of calls as arguments: Has, light.
-/
import Derived.Test.YtniejaachfhkdaaGreatDoorNewS
namespace Go.Proofs.YtniejaachfhkdaaGreatDoor
open Go.RowKit Go.Maps
/-- The slice reads as the strings ss. -/
structure Strs (w : World) (ob : Option Addr) (n : Nat) (ss : List ByteArray) : Prop where
  len : ss.length = n
  cell : ∀ k (h : k < ss.length), ∃ b o, ob = some ⟨b, o, none⟩ ∧ w.cell? ⟨b, o + k, none⟩ = some (.string ss[k]) ∧ b < w.heap.size
theorem Strs.only {w w' : World} {ob n ss} (h : Strs w ob n ss) {B : Nat} (ho : Below B w w') (hB : ∀ b o, ob = some ⟨b, o, none⟩ → b < B) : Strs w' ob n ss := by
  refine ⟨h.len, fun k hk' => ?_⟩
  obtain ⟨b, o, e, hc, hl⟩ := h.cell k hk'
  exact ⟨b, o, e, (ho.cell (hB b o e)).trans hc, Nat.lt_of_lt_of_le hl ho.size⟩
theorem Strs.below {w w' : World} {ob n ss} (h : Strs w ob n ss) (ho : Below w.heap.size w w') : Strs w' ob n ss := by
  refine ⟨h.len, fun k hk' => ?_⟩
  obtain ⟨b, o, e, hc, hl⟩ := h.cell k hk'
  exact ⟨b, o, e, (ho.cell hl).trans hc, Nat.lt_of_lt_of_le hl ho.size⟩
theorem Strs.reads {w : World} {ob n ss} (h : Strs w ob n ss) (hz : ∀ s ∈ ss, s.size ≤ 1000000) : Reads w ob n ss := ⟨h.len, h.cell, hz⟩
/-- The slice of calls reads as ops: (Do, Name). -/
structure OpsR (w : World) (ob : Option Addr) (n : Nat) (ops : List (Int × ByteArray)) : Prop where
  len : ops.length = n
  cell : ∀ k (h : k < ops.length), ∃ b o, ob = some ⟨b, o, none⟩ ∧ w.cell? ⟨b, o + k * 2, none⟩ = some (.int .i64 ops[k].1) ∧ w.cell? ⟨b, o + k * 2 + 1, none⟩ = some (.string ops[k].2) ∧ b < w.heap.size
theorem OpsR.below {w w' : World} {ob n ops} (h : OpsR w ob n ops) (ho : Below w.heap.size w w') : OpsR w' ob n ops := by
  refine ⟨h.len, fun k hk' => ?_⟩
  obtain ⟨b, o, e, hc, hd, hl⟩ := h.cell k hk'
  exact ⟨b, o, e, (ho.cell hl).trans hc, (ho.cell hl).trans hd, Nat.lt_of_lt_of_le hl ho.size⟩
/-- Is s among the first k? -/
def hasK (ss : List ByteArray) (s : ByteArray) (k : Nat) : Bool := (ss.take k).any (fun x => x.toList == s.toList)
theorem hasK_zero (ss : List ByteArray) (s : ByteArray) : hasK ss s 0 = false := by simp [hasK]
theorem hasK_step {ss : List ByteArray} {s : ByteArray} {k : Nat} (h : k < ss.length) : hasK ss s (k + 1) = (hasK ss s k || (ss[k].toList == s.toList)) := by
  rw [hasK, List.take_succ_eq_append_getElem h, List.any_append]; simp [hasK]
def hasL (ss : List ByteArray) (s : ByteArray) : Bool := ss.any (fun x => x.toList == s.toList)
theorem hasK_end {ss : List ByteArray} {s : ByteArray} {k : Nat} (h : ss.length ≤ k) : hasK ss s k = hasL ss s := by
  rw [hasK, List.take_of_length_le h]; rfl
theorem hasL_hit {ss : List ByteArray} {s : ByteArray} {k : Nat} (h : k < ss.length) (hm : (ss[k].toList == s.toList) = true) : hasL ss s = true := by
  rw [hasL, List.any_eq_true]; exact ⟨ss[k], List.getElem_mem h, hm⟩
set_option maxRecDepth 100000 in
set_option maxHeartbeats 400000 in
theorem Has_q (w : World) (ob : Option Addr) (n c : Nat) (ss : List ByteArray) (s : ByteArray) (hn : n ≤ 9223372036854775806) (hr : Strs w ob n ss) :
    Calls Tryz.prog 88 #[.slice ob n c, .string s] w fun e w' => e = .returned (.bool (hasL ss s)) ∧ w = w' := by
  have HLEN := Lib.hid hr.len
  go_enter Tryz.func88, Tryz.ntmps88
  go_wp2
  go_loop [5] (fun i => ∃ k : Nat, k ≤ n ∧ i = .int .i64 k ∧ Hid (hasK ss s k = false)) (fun i => n - (intOf i).toNat)
  case atStart => exact ⟨0, Nat.zero_le _, rfl, Lib.hid (hasK_zero _ _)⟩
  case round =>
    obtain ⟨k, hk, rfl, HK⟩ := hrel
    by_cases hlt : k < n
    · have hkl : k < ss.length := by rw [HLEN.out]; exact hlt
      obtain ⟨b, o, rfl, hc, _⟩ := hr.cell k hkl
      obtain ⟨x, hx⟩ : ∃ x, x = ss[k] := ⟨_, rfl⟩
      rw [← hx] at hc
      have HX := Lib.hid hx
      clear hx
      cases hm : (x.toList == s.toList)
      · have HM := Lib.hid hm
        go_wp2
        exact ⟨⟨k + 1, by omega, by go_num, Lib.hid (by rw [hasK_step hkl, HK.out, ← HX.out, HM.out]; rfl)⟩, by simp [intOf]; omega⟩
      · have HM := Lib.hid hm
        go_wp2
        go_ret
        exact ⟨ret_bool (hasL_hit hkl (by rw [← HX.out]; exact HM.out)).symm, rfl⟩
    · have HE := Lib.hid (hasK_end (s := s) (show ss.length ≤ k by rw [HLEN.out]; omega))
      go_wp2
      go_ret
      exact ⟨ret_bool (by rw [← HE.out, HK.out]), rfl⟩
theorem take_all {α : Type} {ss : List α} {k : Nat} (h : k < ss.length) {P : α → Prop} (ha : ∀ s ∈ ss.take k, P s) (hs : P ss[k]) : ∀ s ∈ ss.take (k + 1), P s := by
  rw [List.take_succ_eq_append_getElem h]
  intro s hm
  simp only [List.mem_append, List.mem_cons, List.not_mem_nil, or_false] at hm
  rcases hm with hm | rfl
  · exact ha s hm
  · exact hs
def Short (ss : List ByteArray) : Prop := ∀ s ∈ ss, s.size ≤ 100
def ShortO (ops : List (Int × ByteArray)) : Prop := ∀ o ∈ ops, o.2.size ≤ 100
def LightOk (ss : List ByteArray) (ops : List (Int × ByteArray)) (n m : Nat) (b : Bool) : Prop := b = true → n ≤ 40 ∧ m ≤ 40 ∧ Short ss ∧ ShortO ops
def LightPost (ss : List ByteArray) (ops : List (Int × ByteArray)) (n m : Nat) (w : World) (e : Ending) (w' : World) : Prop := ∃ b, e = .returned (.bool b) ∧ LightOk ss ops n m b ∧ w = w'
theorem light_no (ss ops n m w) : LightPost ss ops n m w (.returned (.bool false)) w := ⟨false, rfl, (fun e => by cases e), rfl⟩
set_option maxRecDepth 100000 in
set_option maxHeartbeats 1000000 in
theorem light_q (w : World) (ob oc : Option Addr) (n c m d : Nat) (ss : List ByteArray) (ops : List (Int × ByteArray)) (hr : Strs w ob n ss) (ho : OpsR w oc m ops) :
    Calls Tryz.prog 18 #[.slice ob n c, .slice oc m d] w (LightPost ss ops n m w) := by
  have HLEN := Lib.hid hr.len
  have HLEO := Lib.hid ho.len
  by_cases hnm : n ≤ 40 ∧ m ≤ 40
  · obtain ⟨hn, hm⟩ := hnm
    have e1 : decide (40 < (n : Int)) = false := by simp; omega
    have e2 : decide (40 < (m : Int)) = false := by simp; omega
    go_enter Tryz.func18, Tryz.ntmps18
    go_wp2
    go_loop [5] (fun i => ∃ k : Nat, k ≤ n ∧ i = .int .i64 k ∧ Hid (∀ s ∈ ss.take k, s.size ≤ 100)) (fun i => n - (intOf i).toNat)
    case atStart => exact ⟨0, Nat.zero_le _, rfl, Lib.hid (by simp)⟩
    case round =>
      obtain ⟨k, hk, rfl, HK⟩ := hrel
      by_cases hlt : k < n
      · have hkl : k < ss.length := by rw [HLEN.out]; exact hlt
        obtain ⟨b, o, rfl, hc, _⟩ := hr.cell k hkl
        obtain ⟨x, hx⟩ : ∃ x, x = ss[k] := ⟨_, rfl⟩
        rw [← hx] at hc
        have HX := Lib.hid hx
        clear hx
        by_cases hz : x.size ≤ 100
        · have e3 : decide (100 < (x.size : Int)) = false := by simp; omega
          go_wp2
          exact ⟨⟨k + 1, by omega, by go_num, Lib.hid (take_all hkl HK.out (by rw [← HX.out]; exact hz))⟩, by simp [intOf]; omega⟩
        · have e3 : 100 < (x.size : Int) := by omega
          clear hz
          go_wp2
          go_ret
          exact light_no _ _ _ _ _
      · have HS : Hid (Short ss) := Lib.hid (by have := HK.out; rw [List.take_of_length_le (by rw [HLEN.out]; omega)] at this; exact this)
        go_wp2
        go_loop [6] (fun i => ∃ j : Nat, j ≤ m ∧ i = .int .i64 j ∧ Hid (∀ s ∈ ops.take j, s.2.size ≤ 100)) (fun i => m - (intOf i).toNat)
        case atStart => exact ⟨0, Nat.zero_le _, rfl, Lib.hid (by simp)⟩
        case round =>
          obtain ⟨j, hj, rfl, HJ⟩ := hrel
          by_cases hltm : j < m
          · have hjl : j < ops.length := by rw [HLEO.out]; exact hltm
            obtain ⟨b, o, rfl, _, hd, _⟩ := ho.cell j hjl
            obtain ⟨x, hx⟩ : ∃ x, x = ops[j].2 := ⟨_, rfl⟩
            rw [← hx] at hd
            have HX := Lib.hid hx
            clear hx
            by_cases hz : x.size ≤ 100
            · have e3 : decide (100 < (x.size : Int)) = false := by simp; omega
              go_wp2
              exact ⟨⟨j + 1, by omega, by go_num, Lib.hid (take_all hjl HJ.out (by rw [← HX.out]; exact hz))⟩, by simp [intOf]; omega⟩
            · have e3 : 100 < (x.size : Int) := by omega
              clear hz
              go_wp2
              go_ret
              exact light_no _ _ _ _ _
          · go_wp2
            go_ret
            exact ⟨true, rfl, fun _ => ⟨hn, hm, HS.out, by have := HJ.out; rw [List.take_of_length_le (by rw [HLEO.out]; omega)] at this; exact this⟩, rfl⟩
  · have h4 : (40 : Int) < n ∨ ((n : Int) ≤ 40 ∧ (40 : Int) < m) := by omega
    clear hnm
    rcases h4 with h4 | ⟨h4, h5⟩
    all_goals
      go_enter Tryz.func18, Tryz.ntmps18
      go_wp2
      go_ret
      exact light_no _ _ _ _ _
end Go.Proofs.YtniejaachfhkdaaGreatDoor
