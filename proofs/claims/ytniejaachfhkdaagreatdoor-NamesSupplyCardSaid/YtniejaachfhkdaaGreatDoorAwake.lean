/-
  WALKS. The examples of the chapter.
-/
import Derived.Test.YtniejaachfhkdaaGreatDoorAwakeP
namespace Go.Proofs.YtniejaachfhkdaaGreatDoor
open Go.RowKit Go.Maps
theorem Classify_v (s : ByteArray) (v : Int) (W w : World) (hs : s.size ≤ 1000000) (h : cls s = v) (hq : Q W w) :
    Calls Tryz.prog 12 #[.string s] w fun e w' => e = .returned (.int .i64 v) ∧ Q W w' := h ▸ Classify_q s W w hs hq
theorem Join_v (s t j : ByteArray) (W w : World) (hs : s.size ≤ 1000000) (ht : t.size ≤ 1000000) (h : joinB s t = j) (hq : Q W w) :
    Calls Tryz.prog 33 #[.string s, .string t] w fun e w' => e = .returned (.string j) ∧ Q W w' := h ▸ join_q s t W w hs ht hq
theorem Made_v (s j : ByteArray) (n : Int) (W w : World) (hs : s.size ≤ 1000000) (h1 : n ≤ 9223372036854775807) (h : mkB s n = j) (hq : Q W w) :
    Calls Tryz.prog 16 #[.string s, .int .i64 n] w fun e w' => e = .returned (.string j) ∧ Q W w' := h ▸ Made_q s n W w hs h1 hq
theorem Split_v (s m n : ByteArray) (b : Bool) (W w : World) (hs : s.size ≤ 1000000) (h1 : spM s = m) (h2 : spN s = n) (h3 : spl s.data.toList = b) (hq : Q W w) :
    Calls Tryz.prog 32 #[.string s] w fun e w' => e = .returned (.tuple #[.string m, .string n, .bool b]) ∧ Q W w' := h1 ▸ h2 ▸ h3 ▸ split_q s W w hs hq
theorem Base_some (s b : ByteArray) (n : Int) (W w : World) (hs : s.size ≤ 1000000) (h : basO s = some (b, n)) (hq : Q W w) :
    Calls Tryz.prog 14 #[.string s] w fun e w' => e = .returned (.tuple #[.string b, .int .i64 n, .bool true]) ∧ Q W w' := by
  have := Base_q s W w hs hq
  rw [h] at this
  exact this
theorem Base_none (s : ByteArray) (W w : World) (hs : s.size ≤ 1000000) (h : basO s = none) (hq : Q W w) :
    Calls Tryz.prog 14 #[.string s] w fun e w' => e = .returned (.tuple #[.string ⟨#[]⟩, .int .i64 0, .bool false]) ∧ Q W w' := by
  have := Base_q s W w hs hq
  rw [h] at this
  exact this
def awU0 : List (List UInt8) := [[121], [120, 36, 49]]
def awU1 : List (List UInt8) := [[120, 36, 50], [121], [120, 36, 49]]
def awU2 : List (List UInt8) := [[120, 36, 51], [120, 36, 50], [121], [120, 36, 49]]
def awU3 : List (List UInt8) := [[121, 36, 49], [120, 36, 51], [120, 36, 50], [121], [120, 36, 49]]
def awT0 : List UInt8 → Nat := fun _ => 0
def awT1 : List UInt8 → Nat := upd awT0 [120] 2
def awT2 : List UInt8 → Nat := upd awT1 [120] 3
def awT3 : List UInt8 → Nat := upd awT2 [121] 1
theorem mkL_x (n : Int) (l : List UInt8) (h : madeB ⟨#[120]⟩ n = ⟨l.toArray⟩) : mkL ⟨#[120]⟩ n = l := by rw [mkL, h]
theorem aw_fresh1 (W w : World) (p : Pl) (hS : Sup W p awU0 awT0 2 w) :
    Calls Tryz.prog 34 #[.pointer (some ⟨p.a, 0, none⟩), .string ⟨#[120]⟩] w fun e w' => e = .returned (.string ⟨#[120, 36, 50]⟩) ∧ Sup W p awU1 awT1 5 w' ∧ Only (utK p) w w' := by
  refine (Fresh_yes W w p awU0 awT0 2 ⟨#[120]⟩ ⟨#[120]⟩ (by decide) hS aw_f1 (by decide) aw_st1 2 (by omega) (by omega) (by decide) (by decide +kernel) (fun i h1 h2 => ?_)).mono fun e w' h => ?_
  · have : i = 1 := by omega
    subst this
    decide +kernel
  · obtain ⟨h1, h2, h3⟩ := h
    refine ⟨h1.trans ?_, ?_, h3⟩
    · exact congrArg (fun b => Ending.returned (.string b)) (show madeB ⟨#[120]⟩ ((0 + 2 : Nat) : Int) = ⟨#[120, 36, 50]⟩ from aw_x2)
    · have e1 : mkL ⟨#[120]⟩ ((awT0 (⟨#[120]⟩ : ByteArray).data.toList + 2 : Nat) : Int) = [120, 36, 50] := by decide +kernel
      rw [e1] at h2
      exact h2
theorem aw_fresh2 (W w : World) (p : Pl) (hS : Sup W p awU1 awT1 5 w) :
    Calls Tryz.prog 34 #[.pointer (some ⟨p.a, 0, none⟩), .string ⟨#[120, 36, 55]⟩] w fun e w' => e = .returned (.string ⟨#[120, 36, 51]⟩) ∧ Sup W p awU2 awT2 7 w' ∧ Only (utK p) w w' := by
  refine (Fresh_yes W w p awU1 awT1 5 ⟨#[120, 36, 55]⟩ ⟨#[120]⟩ (by decide) hS aw_f2 (by decide) aw_st1 1 (by omega) (by omega) (by decide) (by decide +kernel) (fun i h1 h2 => by omega)).mono fun e w' h => ?_
  obtain ⟨h1, h2, h3⟩ := h
  have e1 : mkL ⟨#[120]⟩ ((awT1 (⟨#[120]⟩ : ByteArray).data.toList + 1 : Nat) : Int) = [120, 36, 51] := by decide +kernel
  have e2 : madeB ⟨#[120]⟩ ((awT1 (⟨#[120]⟩ : ByteArray).data.toList + 1 : Nat) : Int) = ⟨#[120, 36, 51]⟩ := by decide +kernel
  rw [e1] at h2
  rw [e2] at h1
  exact ⟨h1, h2, h3⟩
theorem aw_fresh3 (W w : World) (p : Pl) (hS : Sup W p awU2 awT2 7 w) :
    Calls Tryz.prog 34 #[.pointer (some ⟨p.a, 0, none⟩), .string ⟨#[121]⟩] w fun e w' => e = .returned (.string ⟨#[121, 36, 49]⟩) ∧ Sup W p awU3 awT3 9 w' ∧ Only (utK p) w w' := by
  refine (Fresh_yes W w p awU2 awT2 7 ⟨#[121]⟩ ⟨#[121]⟩ (by decide) hS aw_f3 (by decide) aw_st2 1 (by omega) (by omega) (by decide) (by decide +kernel) (fun i h1 h2 => by omega)).mono fun e w' h => ?_
  obtain ⟨h1, h2, h3⟩ := h
  have e1 : mkL ⟨#[121]⟩ ((awT2 (⟨#[121]⟩ : ByteArray).data.toList + 1 : Nat) : Int) = [121, 36, 49] := by decide +kernel
  have e2 : madeB ⟨#[121]⟩ ((awT2 (⟨#[121]⟩ : ByteArray).data.toList + 1 : Nat) : Int) = ⟨#[121, 36, 49]⟩ := by decide +kernel
  rw [e1] at h2
  rw [e2] at h1
  exact ⟨h1, h2, h3⟩
theorem aw_take (W w : World) (p : Pl) (hS : Sup W p awU3 awT3 9 w) :
    Calls Tryz.prog 35 #[.pointer (some ⟨p.a, 0, none⟩), .string ⟨#[121]⟩] w fun e w' => e = .returned (.bool false) ∧ w = w' :=
  Take_no W w p awU3 awT3 9 ⟨#[121]⟩ (by decide) hS (by decide +kernel)
theorem aw_new (W w : World) (n : Nat) (c : Nat) (hq : Q W w) (b : Nat) (hn : n = 2) (h0 : w.cell? ⟨b, 0, none⟩ = some (.string ⟨#[120, 36, 49]⟩)) (h1 : w.cell? ⟨b, 1, none⟩ = some (.string ⟨#[121]⟩)) :
    Calls Tryz.prog 19 #[.slice (some ⟨b, 0, none⟩) n c] w fun e w' => ∃ p : Pl, e = .returned (.pointer (some ⟨p.a, 0, none⟩)) ∧ Sup W p awU0 awT0 2 w' := by
  subst hn
  refine (NewSupply_q W w 2 _ c [⟨#[120, 36, 49]⟩, ⟨#[121]⟩] hq (by omega) ⟨rfl, fun k hk => ?_, ?_⟩).mono fun e w' h => ?_
  · have hb := cell_lt h0
    match k, hk with
    | 0, _ => exact ⟨b, 0, rfl, h0, hb⟩
    | 1, _ => exact ⟨b, 0, rfl, h1, hb⟩
  · intro s hs
    simp only [List.mem_cons, List.not_mem_nil, or_false] at hs
    rcases hs with rfl | rfl <;> decide
  · obtain ⟨p, h1, h2, _⟩ := h
    exact ⟨p, h1, h2⟩
theorem aw_cell0 (w : World) : (w.alloc (.cells #[.string { data := #[120, 36, 49] }, .string { data := #[121] }] 9)).cell? ⟨w.heap.size, 0, none⟩ = some (.string { data := #[120, 36, 49] }) := by
  have := heap_new w (.cells #[.string { data := #[120, 36, 49] }, .string { data := #[121] }] 9)
  unfold World.cell?
  simp only [this]; rfl
theorem aw_cell1 (w : World) : (w.alloc (.cells #[.string { data := #[120, 36, 49] }, .string { data := #[121] }] 9)).cell? ⟨w.heap.size, 1, none⟩ = some (.string { data := #[121] }) := by
  have := heap_new w (.cells #[.string { data := #[120, 36, 49] }, .string { data := #[121] }] 9)
  unfold World.cell?
  simp only [this]; rfl
theorem keepSup {W w : World} {p : Pl} {U T N} {f : FuncId} {args : Array Value} {v : Ending} (hS : Sup W p U T N w) (h : Q w w → Calls Tryz.prog f args w (fun e w' => e = v ∧ Q w w')) :
    Calls Tryz.prog f args w (fun e w' => e = v ∧ Sup W p U T N w') := (h hS.q.self).mono fun _ _ ⟨he, hq⟩ => ⟨he, hS.below hq.bel⟩
theorem awc1 {W w : World} {p : Pl} {U T N} (hS : Sup W p U T N w) : Calls Tryz.prog 12 #[.string { data := #[120, 39] }] w fun e w' => e = .returned (.int .i64 1) ∧ Sup W p U T N w' := keepSup hS (Classify_v _ _ _ _ (by decide) aw_c1)
theorem awc2 {W w : World} {p : Pl} {U T N} (hS : Sup W p U T N w) : Calls Tryz.prog 12 #[.string { data := #[58] }] w fun e w' => e = .returned (.int .i64 4) ∧ Sup W p U T N w' := keepSup hS (Classify_v _ _ _ _ (by decide) aw_c2)
theorem awc3 {W w : World} {p : Pl} {U T N} (hS : Sup W p U T N w) : Calls Tryz.prog 12 #[.string { data := #[45, 45] }] w fun e w' => e = .returned (.int .i64 0) ∧ Sup W p U T N w' := keepSup hS (Classify_v _ _ _ _ (by decide) aw_c3)
theorem awc4 {W w : World} {p : Pl} {U T N} (hS : Sup W p U T N w) : Calls Tryz.prog 12 #[.string { data := #[45, 45, 62] }] w fun e w' => e = .returned (.int .i64 3) ∧ Sup W p U T N w' := keepSup hS (Classify_v _ _ _ _ (by decide) aw_c4)
theorem awc5 {W w : World} {p : Pl} {U T N} (hS : Sup W p U T N w) : Calls Tryz.prog 12 #[.string { data := #[119, 104, 101, 114, 101] }] w fun e w' => e = .returned (.int .i64 5) ∧ Sup W p U T N w' := keepSup hS (Classify_v _ _ _ _ (by decide) aw_c5)
theorem awj {W w : World} {p : Pl} {U T N} (hS : Sup W p U T N w) : Calls Tryz.prog 33 #[.string { data := #[77] }, .string { data := #[43] }] w fun e w' => e = .returned (.string { data := #[77, 46, 43] }) ∧ Sup W p U T N w' := keepSup hS (Join_v _ _ _ _ _ (by decide) (by decide) aw_j)
theorem awm {W w : World} {p : Pl} {U T N} (hS : Sup W p U T N w) : Calls Tryz.prog 16 #[.string { data := #[77, 46, 102] }, .int .i64 0] w fun e w' => e = .returned (.string { data := #[77, 46, 102, 36, 48] }) ∧ Sup W p U T N w' := keepSup hS (Made_v _ _ _ _ _ (by decide) (by omega) aw_m)
set_option maxRecDepth 100000 in
set_option maxHeartbeats 4000000 in
theorem awake_q (W w : World) (hq : Q W w) :
    Calls Tryz.prog 11 #[] w fun e w' => e = .returned (.bool true) ∧ Q W w' := by
  go_enter Tryz.func11, Tryz.ntmps11
  go_wp2_with (first | (go_at_call 32; refine (Split_v _ _ _ _ _ _ (by decide) aw_s2 aw_s3 aw_s1 hq).mono ?_; rintro e w1 ⟨rfl, hq1⟩) | (go_at_call 14; refine (Base_some _ _ _ _ _ (by decide) aw_b1 hq1).mono ?_; rintro e w2 ⟨rfl, hq2⟩) | (go_at_call 19; refine (aw_new W _ _ _ (hq2.below ((Below.refl _ _).alloc (Nat.le_refl _) _)) _ rfl (aw_cell0 _) (aw_cell1 _)).mono ?_; rintro e w3 ⟨p, rfl, hS⟩) | (go_at_call 12; first | ((with_reducible refine (awc1 (by assumption)).mono ?_); rintro e w4 ⟨rfl, hS4⟩) | ((with_reducible refine (awc2 (by assumption)).mono ?_); rintro e w5 ⟨rfl, hS5⟩) | ((with_reducible refine (awc3 (by assumption)).mono ?_); rintro e w6 ⟨rfl, hS6⟩) | ((with_reducible refine (awc4 (by assumption)).mono ?_); rintro e w7 ⟨rfl, hS7⟩) | ((with_reducible refine (awc5 (by assumption)).mono ?_); rintro e w8 ⟨rfl, hS8⟩)) | (go_at_call 33; (with_reducible refine (awj (by assumption)).mono ?_); rintro e w9 ⟨rfl, hS9⟩) | (go_at_call 16; (with_reducible refine (awm (by assumption)).mono ?_); rintro e w10 ⟨rfl, hS10⟩) | (go_at_call 34; first | ((with_reducible refine (aw_fresh1 _ _ _ (by assumption)).mono ?_); rintro e w11 ⟨rfl, hS11, _⟩) | ((with_reducible refine (aw_fresh2 _ _ _ (by assumption)).mono ?_); rintro e w12 ⟨rfl, hS12, _⟩) | ((with_reducible refine (aw_fresh3 _ _ _ (by assumption)).mono ?_); rintro e w13 ⟨rfl, hS13, _⟩)) | (go_at_call 35; (with_reducible refine (aw_take _ _ _ (by assumption)).mono ?_); rintro e w14 ⟨rfl, rfl⟩))
  go_ret
  exact ⟨rfl, hS13.q⟩
end Go.Proofs.YtniejaachfhkdaaGreatDoor
