/-
  WALKS. Same.
-/
import Derived.Test.YtelichlplblboaaGreatDoorSame
namespace Go.Proofs.YtelichlplblboaaGreatDoor
open Go.RowKit Go.Maps
set_option maxHeartbeats 8000000 in
set_option maxRecDepth 100000 in
theorem Same_p (w : World) (oa ob : Option Addr) (n m ca cb : Nat) (ts us : List Tok) (hn : n ≤ 1000000) (hm : m ≤ 1000000) (ha : Tks w oa n ts) (hb : Tks w ob m us) :
    Calls Tryz.prog 17 #[.slice oa n ca, .slice ob m cb] w fun e w' => e = .returned (.bool (sameL ts us)) ∧ Only (fun _ => False) w w' := by
  have hla := ha.len
  have hlb := hb.len
  by_cases hnm : n = m
  · have HLA := Lib.hid hla
    have HLB := Lib.hid hlb
    subst hnm
    clear hla hlb
    go_enter Tryz.func17, Tryz.ntmps17
    go_wp2
    go_loopw [13] (fun i wr => ∃ k : Nat, k ≤ n ∧ i = .int .i64 k ∧ Hid (∀ j (ha : j < ts.length) (hb : j < us.length), j < k → sameT ts[j] us[j] = true) ∧ Only (fun _ => False) w wr) (fun i _ => n - (intOf i).toNat)
    case atStart => exact ⟨0, by omega, rfl, Lib.hid (fun j _ _ h => absurd h (by omega)), Only.refl _ _⟩
    case round =>
      obtain ⟨k, hk, rfl, HA, hO⟩ := hrel
      by_cases hlt : k < n
      · have hka : k < ts.length := by rw [HLA.out]; exact hlt
        have hkb : k < us.length := by rw [HLB.out]; exact hlt
        obtain ⟨b, o, rfl, hc⟩ := (ha.keep hO).cell k hka
        obtain ⟨b', o', rfl, hc'⟩ := (hb.keep hO).cell k hkb
        obtain ⟨x, hx⟩ : ∃ x, ts[k] = x := ⟨_, rfl⟩
        obtain ⟨y, hy⟩ : ∃ y, us[k] = y := ⟨_, rfl⟩
        rw [hx] at hc
        rw [hy] at hc'
        have HX := Lib.hid hx
        have HY := Lib.hid hy
        clear hx hy
        have H14 : Hid (∀ {w'}, Only (fun _ => False) wr w' → TC w' b (o + k * 7) x ∧ TC w' b' (o' + k * 7) y) := Lib.hid (fun h => ⟨hc.only h (fun h => h), hc'.only h (fun h => h)⟩)
        obtain ⟨p0, p1, p2, p3, p4, p5, p6⟩ := hc
        obtain ⟨q0, q1, q2, q3, q4, q5, q6⟩ := hc'
        have hOd : Only (fun _ => False) wr wr.drew := (Only.refl _ _).drew
        have HST : Hid (sameT x y = ((x.op == y.op) && (x.qual.toList == y.qual.toList) && (x.text.toList == y.text.toList) && (x.n == y.n))) := Lib.hid rfl
        have hcase : (x.op == y.op) = false ∨ ((x.op == y.op) = true ∧ (x.qual.toList == y.qual.toList) = false) ∨ ((x.op == y.op) = true ∧ (x.qual.toList == y.qual.toList) = true ∧ (x.text.toList == y.text.toList) = false) ∨ ((x.op == y.op) = true ∧ (x.qual.toList == y.qual.toList) = true ∧ (x.text.toList == y.text.toList) = true ∧ (x.n == y.n) = false) ∨ ((x.op == y.op) = true ∧ (x.qual.toList == y.qual.toList) = true ∧ (x.text.toList == y.text.toList) = true ∧ (x.n == y.n) = true) := by
          cases (x.op == y.op) <;> cases (x.qual.toList == y.qual.toList) <;> cases (x.text.toList == y.text.toList) <;> cases (x.n == y.n) <;> simp
        rcases hcase with h1 | ⟨h1, h2⟩ | ⟨h1, h2, h3⟩ | ⟨h1, h2, h3, h4⟩ | ⟨h1, h2, h3, h4⟩
        · have HF : Hid (sameT x y = false) := Lib.hid (by rw [HST.out, h1]; simp)
          go_wp2
          go_region_with (first | (go_at_call 34; ((with_reducible refine (withoutPosition_p x _).mono ?_); rintro e w1 ⟨rfl, hO1⟩; have hOn := Only.trans (by assumption : Only (fun _ => False) wr _) hO1; obtain ⟨⟨p0, p1, p2, p3, p4, p5, p6⟩, ⟨q0, q1, q2, q3, q4, q5, q6⟩⟩ := H14.out hOn)) | (go_at_call 34; ((with_reducible refine (withoutPosition_p y _).mono ?_); rintro e w1 ⟨rfl, hO1⟩; have hOn := Only.trans (by assumption : Only (fun _ => False) wr _) hO1; obtain ⟨⟨p0, p1, p2, p3, p4, p5, p6⟩, ⟨q0, q1, q2, q3, q4, q5, q6⟩⟩ := H14.out hOn)))
          all_goals
            go_wp2
            go_ret
            exact ⟨ret_bool (sameL_no hka hkb (by rw [HX.out, HY.out]; exact HF.out)).symm, hO.trans (by assumption)⟩
        · have HF : Hid (sameT x y = false) := Lib.hid (by rw [HST.out, h1, h2]; simp)
          go_wp2
          go_region_with (first | (go_at_call 34; ((with_reducible refine (withoutPosition_p x _).mono ?_); rintro e w1 ⟨rfl, hO1⟩; have hOn := Only.trans (by assumption : Only (fun _ => False) wr _) hO1; obtain ⟨⟨p0, p1, p2, p3, p4, p5, p6⟩, ⟨q0, q1, q2, q3, q4, q5, q6⟩⟩ := H14.out hOn)) | (go_at_call 34; ((with_reducible refine (withoutPosition_p y _).mono ?_); rintro e w1 ⟨rfl, hO1⟩; have hOn := Only.trans (by assumption : Only (fun _ => False) wr _) hO1; obtain ⟨⟨p0, p1, p2, p3, p4, p5, p6⟩, ⟨q0, q1, q2, q3, q4, q5, q6⟩⟩ := H14.out hOn)))
          all_goals
            go_wp2
            go_ret
            exact ⟨ret_bool (sameL_no hka hkb (by rw [HX.out, HY.out]; exact HF.out)).symm, hO.trans (by assumption)⟩
        · have HF : Hid (sameT x y = false) := Lib.hid (by rw [HST.out, h1, h2, h3]; simp)
          go_wp2
          go_region_with (first | (go_at_call 34; ((with_reducible refine (withoutPosition_p x _).mono ?_); rintro e w1 ⟨rfl, hO1⟩; have hOn := Only.trans (by assumption : Only (fun _ => False) wr _) hO1; obtain ⟨⟨p0, p1, p2, p3, p4, p5, p6⟩, ⟨q0, q1, q2, q3, q4, q5, q6⟩⟩ := H14.out hOn)) | (go_at_call 34; ((with_reducible refine (withoutPosition_p y _).mono ?_); rintro e w1 ⟨rfl, hO1⟩; have hOn := Only.trans (by assumption : Only (fun _ => False) wr _) hO1; obtain ⟨⟨p0, p1, p2, p3, p4, p5, p6⟩, ⟨q0, q1, q2, q3, q4, q5, q6⟩⟩ := H14.out hOn)))
          all_goals
            go_wp2
            go_ret
            exact ⟨ret_bool (sameL_no hka hkb (by rw [HX.out, HY.out]; exact HF.out)).symm, hO.trans (by assumption)⟩
        · have HF : Hid (sameT x y = false) := Lib.hid (by rw [HST.out, h1, h2, h3, h4]; simp)
          go_wp2
          go_region_with (first | (go_at_call 34; ((with_reducible refine (withoutPosition_p x _).mono ?_); rintro e w1 ⟨rfl, hO1⟩; have hOn := Only.trans (by assumption : Only (fun _ => False) wr _) hO1; obtain ⟨⟨p0, p1, p2, p3, p4, p5, p6⟩, ⟨q0, q1, q2, q3, q4, q5, q6⟩⟩ := H14.out hOn)) | (go_at_call 34; ((with_reducible refine (withoutPosition_p y _).mono ?_); rintro e w1 ⟨rfl, hO1⟩; have hOn := Only.trans (by assumption : Only (fun _ => False) wr _) hO1; obtain ⟨⟨p0, p1, p2, p3, p4, p5, p6⟩, ⟨q0, q1, q2, q3, q4, q5, q6⟩⟩ := H14.out hOn)))
          all_goals
            go_wp2
            go_ret
            exact ⟨ret_bool (sameL_no hka hkb (by rw [HX.out, HY.out]; exact HF.out)).symm, hO.trans (by assumption)⟩
        · have HF : Hid (sameT x y = true) := Lib.hid (by rw [HST.out, h1, h2, h3, h4]; rfl)
          go_wp2
          go_region_with (first | (go_at_call 34; ((with_reducible refine (withoutPosition_p x _).mono ?_); rintro e w1 ⟨rfl, hO1⟩; have hOn := Only.trans (by assumption : Only (fun _ => False) wr _) hO1; obtain ⟨⟨p0, p1, p2, p3, p4, p5, p6⟩, ⟨q0, q1, q2, q3, q4, q5, q6⟩⟩ := H14.out hOn)) | (go_at_call 34; ((with_reducible refine (withoutPosition_p y _).mono ?_); rintro e w1 ⟨rfl, hO1⟩; have hOn := Only.trans (by assumption : Only (fun _ => False) wr _) hO1; obtain ⟨⟨p0, p1, p2, p3, p4, p5, p6⟩, ⟨q0, q1, q2, q3, q4, q5, q6⟩⟩ := H14.out hOn)))
          all_goals
            go_wp2
            go_roundw
            case rel => exact ⟨k + 1, by omega, by go_num, Lib.hid (fun j h1 h2 h3 => by rcases Nat.lt_succ_iff_lt_or_eq.1 h3 with h | rfl; exact HA.out j h1 h2 h; rw [HX.out, HY.out]; exact HF.out), hO.trans (by assumption)⟩
            case measure => simp [intOf]; omega
      · go_wp2
        go_ret
        exact ⟨ret_bool (sameL_yes (by rw [HLA.out, HLB.out]) (fun j h1 h2 => HA.out j h1 h2 (by rw [HLA.out] at h1; omega))).symm, hO⟩
  · have e1 : ((n : Int) != (m : Int)) = true := by simp; omega
    have e2 : (n != m) = true := by simp; omega
    have HF : Hid (sameL ts us = false) := Lib.hid (sameL_len (by rw [hla, hlb]; exact hnm))
    clear hla hlb hnm
    go_enter Tryz.func17, Tryz.ntmps17
    go_wp2
    go_ret
    exact ⟨ret_bool HF.out.symm, Only.refl _ _⟩
end Go.Proofs.YtelichlplblboaaGreatDoor
