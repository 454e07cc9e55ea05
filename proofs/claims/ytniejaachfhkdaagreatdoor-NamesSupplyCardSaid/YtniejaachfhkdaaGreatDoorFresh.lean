/-
  WALKS. Fresh.
-/
import Derived.Test.YtniejaachfhkdaaGreatDoorSupW
import Derived.Deep.LoopGhost
namespace Go.Proofs.YtniejaachfhkdaaGreatDoor
open Go.RowKit Go.Maps
/-- The bytes of the generated name. -/
def mkL (b : ByteArray) (n : Int) : List UInt8 := (madeB b n).data.toList
theorem upd_self (T : List UInt8 → Nat) (b : List UInt8) : upd T b (T b) = T := by
  funext x; unfold upd; split
  · rename_i h; rw [h]
  · rfl
theorem upd_upd (T : List UInt8 → Nat) (b : List UInt8) (m n : Nat) : upd (upd T b m) b n = upd T b n := by
  funext x; unfold upd; split <;> rfl
theorem upd_at (T : List UInt8 → Nat) (b : List UInt8) (n : Nat) : upd T b n b = n := by simp [upd]
theorem named_len {l : List UInt8} (h : named l = true) : 1 ≤ l.length ∧ l.length ≤ 64 := by
  unfold named at h
  simp only [Bool.or_eq_true, Bool.and_eq_true] at h
  rcases h with h | h
  · exact wordB_pos h.1
  · exact symbolB_pos h.1
theorem spl_parts {l : List UInt8} (h : spl l = true) : l = (Lib.cut l [46]).1 ++ [46] ++ (Lib.cut l [46]).2.1 ∧ con (Lib.cut l [46]).1 = true ∧ named (Lib.cut l [46]).2.1 = true := by
  unfold spl at h
  simp only [Bool.and_eq_true] at h
  refine ⟨?_, h.1, h.2⟩
  have hn := named_len h.2
  rw [Lib.cut] at hn ⊢
  split at hn
  · rename_i hi
    rw [if_pos hi]
    obtain ⟨k, hk⟩ := Int.eq_ofNat_of_zero_le hi
    rw [Lib.index_one] at hk
    obtain ⟨h1, _⟩ := Lib.indexByte_some hk
    rw [Lib.index_one, hk]
    obtain ⟨hlt, hg⟩ := List.getElem?_eq_some_iff.1 h1
    simp only [Int.toNat_natCast, List.length_cons, List.length_nil]
    conv => lhs; rw [← List.take_append_drop k l, List.drop_eq_getElem_cons hlt, hg]
    simp
  · simp at hn
theorem stem_size {s : ByteArray} (h : stem s.data.toList = true) : 1 ≤ s.size ∧ s.size ≤ 129 := by
  rw [Lib.size_eq]
  unfold stem at h
  simp only [Bool.or_eq_true] at h
  rcases h with h | h
  · have := named_len h; omega
  · obtain ⟨e, h1, h2⟩ := spl_parts h
    have a := named_len h2
    have b : wordB (Lib.cut s.data.toList [46]).1 = true := by unfold con at h1; simp only [Bool.and_eq_true] at h1; exact h1.1
    have c := wordB_pos b
    have d := congrArg List.length e
    simp only [List.length_append, List.length_cons, List.length_nil] at d
    omega
theorem madeB_size (s : ByteArray) (n : Int) (h0 : -9223372036854775808 ≤ n) (h1 : n ≤ 9223372036854775807) : (madeB s n).size ≤ s.size + 30 := by
  have := Lib.itoa_length_le n h0 h1
  unfold madeB
  rw [app_size, app_size, size_mk (Lib.itoa n)]
  have h1 : (⟨#[36]⟩ : ByteArray).size = 1 := rfl
  rw [h1]; omega
/-- The base of the name that Fresh is asked for. -/
def fb (s : ByteArray) : ByteArray := match basO s with | some (b, _) => b | none => s
def utK (p : Pl) : Nat → Prop := fun i => i = p.u ∨ i = p.t
set_option maxRecDepth 100000 in
set_option maxHeartbeats 2000000 in
theorem Fresh_yes (W w : World) (p : Pl) (U T N) (s B : ByteArray) (hs : s.size ≤ 1000000) (hS : Sup W p U T N w) (hB : fb s = B) (hBz : B.size ≤ 1000000) (hst : stem B.data.toList = true)
    (J : Nat) (hJ0 : 1 ≤ J) (hJN : N + J + 1 ≤ 1000000000) (hTN : T B.data.toList + J ≤ 1000000000) (hJ : U.contains (mkL B ((T B.data.toList + J : Nat) : Int)) = false)
    (hlt : ∀ i, 1 ≤ i → i < J → U.contains (mkL B ((T B.data.toList + i : Nat) : Int)) = true) :
    Calls Tryz.prog 34 #[.pointer (some ⟨p.a, 0, none⟩), .string s] w fun e w' => e = .returned (.string (madeB B ((T B.data.toList + J : Nat) : Int))) ∧
      Sup W p (mkL B ((T B.data.toList + J : Nat) : Int) :: U) (upd T B.data.toList (T B.data.toList + J)) (N + J + 1) w' ∧ Only (utK p) w w' := by
  have HJ := Lib.hid hJ
  have HL := Lib.hid hlt
  have HST := Lib.hid hst
  clear hJ hlt hst
  have c0 := hS.cell0
  have hq := hS.q.self
  cases hb : basO s with
  | none =>
    have HB : Hid (basR (basO s) = .tuple #[.string ⟨#[]⟩, .int .i64 0, .bool false]) := Lib.hid (by rw [hb]; rfl)
    obtain rfl : s = B := by rw [← hB, fb, hb]
    clear hb hB
    go_enter Tryz.func34, Tryz.ntmps34
    go_wp2_with (first | (go_at_call 47; refine (valid_yes _ _ (by assumption)).mono ?_; rintro e w1 ⟨rfl, rfl⟩) | (go_at_call 14; refine (Base_q _ _ _ hs hq).mono ?_; rintro e w1 ⟨rfl, hq1⟩; rw [HB.out]) | (go_at_call 41; refine (isBase_v _ true _ _ hs HST.out hq1).mono ?_; rintro e w2 ⟨rfl, hq2⟩))
    have HS0 : Sup W p U (upd T s.data.toList (T s.data.toList)) N w2 := by rw [upd_self]; exact hS.below hq2.bel
    have HO0 : Only (utK p) w w2 := Only.of_below hq2.bel
    go_loopg [8] J (fun g v wr => ∃ t N' : Nat, T s.data.toList ≤ t ∧ t < T s.data.toList + J ∧ g = T s.data.toList + J - t ∧ N' + T s.data.toList = N + t ∧ Sup W p U (upd T s.data.toList t) N' wr ∧ Only (utK p) w wr)
    case atStart => exact ⟨T s.data.toList, N, Nat.le_refl _, by omega, by omega, rfl, HS0, HO0⟩
    case round =>
      obtain ⟨t, N', ht0, ht1, rfl, hN', hS1, hO1⟩ := hrel
      have d0 := hS1.cell0
      have d2 := hS1.cell2
      have hlk := hS1.tried (s := s) (by omega)
      rw [upd_at] at hlk
      obtain ⟨wa, hup, hS2, hOa⟩ := hS1.count (s := s) (by omega) (by omega)
      rw [upd_at, upd_upd] at hS2
      rw [upd_at] at hup
      have e0 := hS2.cell0
      have e2 := hS2.cell2
      have hlk2 := hS2.tried (s := s) (by omega)
      rw [upd_at] at hlk2
      have hOa' : Only (utK p) w wa := hO1.trans (hOa.wide (fun i hi => .inr hi))
      have tb : t ≤ 1000000000 := by omega
      have HZ := Lib.hid (madeB_size s ((t : Int) + 1) (by omega) (by omega))
      by_cases hlast : t + 1 = T s.data.toList + J
      · have hu : U.contains (madeB s ((t : Int) + 1)).data.toList = false := by
          have := HJ.out
          rw [← hlast] at this
          exact this
        have HR := Lib.hid hlast
        have HU := Lib.hid hu
        clear hlast hu
        go_wp2_with (first | (go_at_call 45; refine (made_q _ _ _ _ hBz (by omega) (by omega) hS2.q.self).mono ?_; rintro e w5 ⟨rfl, hq5⟩; have hS3 := hS2.below hq5.bel; have hO3 : Only (utK p) w w5 := hOa'.trans (Only.of_below hq5.bel)) | (go_at_call 35; refine (Take_yes _ _ _ _ _ _ _ (Nat.le_trans HZ.out (by omega)) (hS2.below hq5.bel) (by omega) HU.out).mono ?_; rintro e w6 ⟨rfl, hS4, hO4⟩))
        go_ret
        refine ⟨?_, ?_, ?_⟩
        · rw [← HR.out]; rfl
        · rw [← HR.out]
          have e1 : N + J + 1 = N' + 1 + 1 := by have := HR.out; omega
          rw [e1]; exact hS4
        · exact (hOa'.trans (Only.of_below hq5.bel)).trans (hO4.wide (fun i hi => .inl hi))
      · have hu : U.contains (madeB s ((t : Int) + 1)).data.toList = true := by
          have := HL.out (t + 1 - T s.data.toList) (by omega) (by omega)
          rw [show T s.data.toList + (t + 1 - T s.data.toList) = t + 1 from by omega] at this
          exact this
        have HU := Lib.hid hu
        clear hu
        go_wp2_with (first | (go_at_call 45; refine (made_q _ _ _ _ hBz (by omega) (by omega) hS2.q.self).mono ?_; rintro e w5 ⟨rfl, hq5⟩; have hS3 := hS2.below hq5.bel; have hO3 : Only (utK p) w w5 := hOa'.trans (Only.of_below hq5.bel)) | (go_at_call 35; refine (Take_no _ _ _ _ _ _ _ (Nat.le_trans HZ.out (by omega)) (hS2.below hq5.bel) HU.out).mono ?_; rintro e w6 ⟨rfl, rfl⟩))
        go_roundg (T s.data.toList + J - (t + 1))
        case rel => exact ⟨t + 1, N' + 1, by omega, by omega, rfl, by omega, hS2.below hq5.bel, hOa'.trans (Only.of_below hq5.bel)⟩
        case measure => omega
  | some bn =>
    obtain ⟨b, n⟩ := bn
    have HB : Hid (basR (basO s) = .tuple #[.string b, .int .i64 n, .bool true]) := Lib.hid (by rw [hb]; rfl)
    obtain rfl : b = B := by rw [← hB, fb, hb]
    clear hb hB
    go_enter Tryz.func34, Tryz.ntmps34
    go_wp2_with (first | (go_at_call 47; refine (valid_yes _ _ (by assumption)).mono ?_; rintro e w1 ⟨rfl, rfl⟩) | (go_at_call 14; refine (Base_q _ _ _ hs hq).mono ?_; rintro e w1 ⟨rfl, hq1⟩; rw [HB.out]))
    have HS0 : Sup W p U (upd T b.data.toList (T b.data.toList)) N w1 := by rw [upd_self]; exact hS.below hq1.bel
    have HO0 : Only (utK p) w w1 := Only.of_below hq1.bel
    go_loopg [8] J (fun g v wr => ∃ t N' : Nat, T b.data.toList ≤ t ∧ t < T b.data.toList + J ∧ g = T b.data.toList + J - t ∧ N' + T b.data.toList = N + t ∧ Sup W p U (upd T b.data.toList t) N' wr ∧ Only (utK p) w wr)
    case atStart => exact ⟨T b.data.toList, N, Nat.le_refl _, by omega, by omega, rfl, HS0, HO0⟩
    case round =>
      obtain ⟨t, N', ht0, ht1, rfl, hN', hS1, hO1⟩ := hrel
      have d0 := hS1.cell0
      have d2 := hS1.cell2
      have hlk := hS1.tried (s := b) (by omega)
      rw [upd_at] at hlk
      obtain ⟨wa, hup, hS2, hOa⟩ := hS1.count (s := b) (by omega) (by omega)
      rw [upd_at, upd_upd] at hS2
      rw [upd_at] at hup
      have e0 := hS2.cell0
      have e2 := hS2.cell2
      have hlk2 := hS2.tried (s := b) (by omega)
      rw [upd_at] at hlk2
      have hOa' : Only (utK p) w wa := hO1.trans (hOa.wide (fun i hi => .inr hi))
      have tb : t ≤ 1000000000 := by omega
      have HZ := Lib.hid (madeB_size b ((t : Int) + 1) (by omega) (by omega))
      by_cases hlast : t + 1 = T b.data.toList + J
      · have hu : U.contains (madeB b ((t : Int) + 1)).data.toList = false := by
          have := HJ.out
          rw [← hlast] at this
          exact this
        have HR := Lib.hid hlast
        have HU := Lib.hid hu
        clear hlast hu
        go_wp2_with (first | (go_at_call 45; refine (made_q _ _ _ _ hBz (by omega) (by omega) hS2.q.self).mono ?_; rintro e w5 ⟨rfl, hq5⟩; have hS3 := hS2.below hq5.bel; have hO3 : Only (utK p) w w5 := hOa'.trans (Only.of_below hq5.bel)) | (go_at_call 35; refine (Take_yes _ _ _ _ _ _ _ (Nat.le_trans HZ.out (by omega)) (hS2.below hq5.bel) (by omega) HU.out).mono ?_; rintro e w6 ⟨rfl, hS4, hO4⟩))
        go_ret
        refine ⟨?_, ?_, ?_⟩
        · rw [← HR.out]; rfl
        · rw [← HR.out]
          have e1 : N + J + 1 = N' + 1 + 1 := by have := HR.out; omega
          rw [e1]; exact hS4
        · exact (hOa'.trans (Only.of_below hq5.bel)).trans (hO4.wide (fun i hi => .inl hi))
      · have hu : U.contains (madeB b ((t : Int) + 1)).data.toList = true := by
          have := HL.out (t + 1 - T b.data.toList) (by omega) (by omega)
          rw [show T b.data.toList + (t + 1 - T b.data.toList) = t + 1 from by omega] at this
          exact this
        have HU := Lib.hid hu
        clear hu
        go_wp2_with (first | (go_at_call 45; refine (made_q _ _ _ _ hBz (by omega) (by omega) hS2.q.self).mono ?_; rintro e w5 ⟨rfl, hq5⟩; have hS3 := hS2.below hq5.bel; have hO3 : Only (utK p) w w5 := hOa'.trans (Only.of_below hq5.bel)) | (go_at_call 35; refine (Take_no _ _ _ _ _ _ _ (Nat.le_trans HZ.out (by omega)) (hS2.below hq5.bel) HU.out).mono ?_; rintro e w6 ⟨rfl, rfl⟩))
        go_roundg (T b.data.toList + J - (t + 1))
        case rel => exact ⟨t + 1, N' + 1, by omega, by omega, rfl, by omega, hS2.below hq5.bel, hOa'.trans (Only.of_below hq5.bel)⟩
        case measure => omega
end Go.Proofs.YtniejaachfhkdaaGreatDoor
