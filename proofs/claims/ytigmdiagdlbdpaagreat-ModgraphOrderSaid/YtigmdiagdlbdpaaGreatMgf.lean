/-
  WALKS. The nearest of a row's nodes (slices.MinFunc with the program's closure).
-/
import Derived.Test.YtigmdiagdlbdpaaGreatMga
import Derived.Test.YtigmdiagdlbdpaaGreatGbR
namespace Go.Proofs.YtigmdiagdlbdpaaGreat
open Go.RowKit Go.Maps
abbrev minV (bA : Nat) : Value := .func (.func 78) #[] #[.pointer (some ⟨bA, 0, none⟩)]
/-- The closure's variable: the distances. -/
structure MB (w : World) (bA : Nat) (oA : Option Addr) (n cA : Nat) (a : List Nat) : Prop where
  ca : w.cell? ⟨bA, 0, none⟩ = some (.slice oA n cA)
  nu : Ints w oA n a
theorem MB.old {w w' : World} {bA : Nat} {oA : Option Addr} {n cA : Nat} {a : List Nat} (h : MB w bA oA n cA a) (ho : Only (fun _ => False) w w') : MB w' bA oA n cA a :=
  ⟨(World.cell?_of_block (ho.block bA (cell_lt h.ca) (fun hc => hc))).trans h.ca, h.nu.old ho (fun _ _ hc => hc)⟩
section
variable {w : World} {bA : Nat} {oA : Option Addr} {n cA : Nat} {a : List Nat}
set_option maxRecDepth 100000 in
set_option maxHeartbeats 4000000 in
theorem minC_p (h : MB w bA oA n cA a) (x y : Nat) (hx : x < n) (hy : y < n) (ha : ∀ i, i < n → gt a i ≤ 1000000) : Calls Tryz.prog 78 #[iV x, iV y, .pointer (some ⟨bA, 0, none⟩)] w fun e w' => e = .returned (.int .i64 ((gt a x : Int) - (gt a y : Int))) ∧ Only (fun _ => False) w w' := by
  have hl := h.nu.len
  obtain ⟨b1, o1, e1, c1⟩ := h.nu.cell x (by omega)
  obtain ⟨b2, o2, e2, c2⟩ := h.nu.cell y (by omega)
  have k1 := h.ca
  subst e1
  cases e2
  have h01 : (0 : Int) ≤ (x : Int) := Int.natCast_nonneg x
  have h02 : (x : Int) < (n : Int) := by omega
  have h03 : (x : Int).toNat = x := Int.toNat_natCast x
  have h04 : (0 : Int) ≤ (y : Int) := Int.natCast_nonneg y
  have h05 : (y : Int) < (n : Int) := by omega
  have h06 : (y : Int).toNat = y := Int.toNat_natCast y
  have b1' := ha x hx
  have b2' := ha y hy
  obtain ⟨p, hp⟩ : ∃ p, gt a x = p := ⟨_, rfl⟩
  obtain ⟨q, hq⟩ : ∃ q, gt a y = q := ⟨_, rfl⟩
  rw [hp] at c1 b1' ⊢
  rw [hq] at c2 b2' ⊢
  have hw : IntKind.i64.wrap ((p : Int) - (q : Int)) = (p : Int) - (q : Int) := IntWalk.i64_in _ (by omega)
  clear hp hq h hl ha
  go_enter Tryz.func78, Tryz.ntmps78
  go_wp2
  go_quiet (fail)
  all_goals
    go_wp2
    go_ret
    exact ⟨rfl, only_drewN _ _⟩
theorem minF_step {l : List Nat} {k : Nat} (h0 : 0 < k) (hk : k < l.length) : minF a (l.take (k + 1)) = minS a (minF a (l.take k)) (gt l k) := by
  have hne : l ≠ [] := fun e => by rw [e] at hk; exact absurd hk (Nat.not_lt_zero _)
  cases l with
  | nil => exact absurd rfl hne
  | cons x r =>
    obtain ⟨j, rfl⟩ : ∃ j, k = j + 1 := ⟨k - 1, by omega⟩
    have hj : j < r.length := by simpa using hk
    show ((x :: r.take (j + 1)).drop 1).foldl (minS a) x = minS a (((x :: r.take j).drop 1).foldl (minS a) x) (gt (x :: r) (j + 1))
    have e : gt (x :: r) (j + 1) = r[j] := by rw [gt_at hk]; rfl
    rw [e]
    show (r.take (j + 1)).foldl (minS a) x = minS a ((r.take j).foldl (minS a) x) r[j]
    rw [List.take_succ_eq_append_getElem hj, List.foldl_append]
    rfl
theorem minF_one {l : List Nat} (h : 0 < l.length) : minF a (l.take 1) = gt l 0 := by
  cases l with
  | nil => exact absurd h (Nat.lt_irrefl _)
  | cons x r => rfl
theorem minF_lt {l : List Nat} (hne : 0 < l.length) {m : Nat} (hl : ∀ x ∈ l, x < m) : minF a l < m := hl _ (minF_mem (fun e => by rw [e] at hne; exact absurd hne (Nat.lt_irrefl _)))
set_option maxRecDepth 100000 in
set_option maxHeartbeats 8000000 in
theorem MinFunc_p (h : MB w bA oA n cA a) (ha : ∀ i, i < n → gt a i ≤ 1000000) (ra : Option Addr) (rn rc : Nat) (l : List Nat) (hl : Ints w ra rn l) (hln : ∀ x ∈ l, x < n) (h0 : 0 < rn) (hrn : rn ≤ 1000000) : Calls Tryz.prog 77 #[.slice ra rn rc, minV bA] w fun e w' => e = .returned (iV (minF a l)) ∧ Only (fun _ => False) w w' := by
  have hlen := hl.len
  have HC := Lib.hid h
  have HLN := Lib.hid hln
  have HA := Lib.hid ha
  obtain ⟨b0, o0, e0, c0⟩ := hl.cell 0 (by omega)
  subst e0
  have hn1 : ¬ (rn : Int) < 1 := by omega
  have hn2 : decide ((rn : Int) < 1) = false := decide_eq_false hn1
  have hn3 : (0 : Int) < (rn : Int) := by omega
  rw [Nat.add_zero] at c0
  have hm1 := minF_one (a := a) (l := l) (by omega)
  rw [← hm1] at c0
  obtain ⟨m1, hm⟩ : ∃ m, minF a (l.take 1) = m := ⟨_, rfl⟩
  rw [hm] at c0
  have HM := Lib.hid hm
  have HL := Lib.hid hl
  clear h hln hm hm1 ha hl
  go_enter Tryz.func77, Tryz.ntmps77
  go_wp2
  go_loopw [5, 6] (fun p q wr => ∃ k m : Nat, 0 < k ∧ k ≤ rn ∧ q = .int .i64 k ∧ p = .int .i64 m ∧ Hid (minF a (l.take k) = m) ∧ Only (fun _ => False) w wr) (fun _ q _ => rn - (intOf q).toNat)
  case atStart => exact ⟨1, m1, by omega, by omega, rfl, rfl, HM, Only.refl _ _⟩
  case round =>
    obtain ⟨k, m, hk0, hk, rfl, rfl, HK, hO⟩ := hrel
    by_cases hlt : k < rn
    · have hkl : k < l.length := by omega
      obtain ⟨b1, o1, e1, c1⟩ := (HL.out.old hO (fun _ _ hc => hc)).cell k hkl
      cases e1
      have h01 : (0 : Int) ≤ (k : Int) := Int.natCast_nonneg k
      have h02 : (k : Int) < (rn : Int) := by omega
      have h03 : (k : Int).toNat = k := Int.toNat_natCast k
      have hst := minF_step (a := a) hk0 hkl
      obtain ⟨y, hy⟩ : ∃ y, gt l k = y := ⟨_, rfl⟩
      rw [hy] at c1 hst
      rw [HK.out] at hst
      have hyn : y < n := HLN.out y (by rw [← hy, gt_at hkl]; exact List.getElem_mem hkl)
      have hmn : m < n := by
        rw [← HK.out]
        exact minF_lt (by rw [List.length_take]; omega) (fun x hx => HLN.out x (List.mem_of_mem_take hx))
      have HP := Lib.hid (minC_p (HC.out.old hO) y m hyn hmn HA.out)
      unfold minS at hst
      clear hy
      by_cases hb : gt a y < gt a m
      · rw [if_pos hb] at hst
        have HST := Lib.hid hst
        obtain ⟨d, hd⟩ : ∃ d, (gt a y : Int) - (gt a m : Int) = d := ⟨_, rfl⟩
        rw [hd] at HP
        have d1 : d < 0 := by omega
        have d2 : decide (d < 0) = true := decide_eq_true d1
        clear hst hd hb
        go_wp2_with (go_at_call 78; (refine HP.out.mono ?_); rintro e w5 ⟨rfl, hO5⟩; have c15 := (World.cell?_of_block (hO5.block _ (cell_lt c1) (fun hc => hc))).trans c1)
        go_roundw
        case rel => exact ⟨k + 1, y, by omega, by omega, by go_num, rfl, HST, hO.trans hO5⟩
        case measure => simp [intOf]; omega
      · rw [if_neg hb] at hst
        have HST := Lib.hid hst
        obtain ⟨d, hd⟩ : ∃ d, (gt a y : Int) - (gt a m : Int) = d := ⟨_, rfl⟩
        rw [hd] at HP
        have d1 : ¬ d < 0 := by omega
        have d2 : decide (d < 0) = false := decide_eq_false d1
        clear hst hd hb
        go_wp2_with (go_at_call 78; (refine HP.out.mono ?_); rintro e w5 ⟨rfl, hO5⟩)
        go_roundw
        case rel => exact ⟨k + 1, m, by omega, by omega, by go_num, rfl, HST, hO.trans hO5⟩
        case measure => simp [intOf]; omega
    · have hkn : k = rn := by omega
      subst hkn
      have HF : Hid (minF a l = m) := Lib.hid (by rw [← HK.out, List.take_of_length_le (by omega)])
      go_wp2
      go_ret
      exact ⟨by rw [HF.out]; rfl, hO⟩
end
end Go.Proofs.YtigmdiagdlbdpaaGreat
