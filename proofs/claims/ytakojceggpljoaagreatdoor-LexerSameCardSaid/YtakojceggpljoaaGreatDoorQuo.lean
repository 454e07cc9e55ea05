/-
  WALKS. Quote, QuoteChar.
-/
import Derived.Test.YtakojceggpljoaaGreatDoorBld2
import Derived.Deep.RegionWith
namespace Go.Proofs.YtakojceggpljoaaGreatDoor
open Go.RowKit Go.Maps
def hexL : List UInt8 := [48, 49, 50, 51, 52, 53, 54, 55, 56, 57, 97, 98, 99, 100, 101, 102]
def hxD (n : Nat) : UInt8 := hexL.getD n 0
abbrev hexBA : ByteArray := { data := #[48, 49, 50, 51, 52, 53, 54, 55, 56, 57, 97, 98, 99, 100, 101, 102] }
theorem hxD_eq {d : Nat} (h : d < 16) : hxD d = hexBA[d]'h := by
  have : ∀ d : Fin 16, hxD d.val = hexBA[d.val]'d.isLt := by decide
  exact this ⟨d, h⟩
theorem and15 (y : Int) (h0 : 0 ≤ y) (h1 : y ≤ 255) : bits .and .u8 y 15 = y % 16 := by
  obtain ⟨m, rfl⟩ := Int.eq_ofNat_of_zero_le h0
  have h : ∀ m : Fin 256, bits .and .u8 (m.val : Int) 15 = (m.val : Int) % 16 := by decide +kernel
  exact h ⟨m, by omega⟩
/-- A byte, as it is written in a literal with the quote q. -/
def esc1 (q : UInt8) (c : UInt8) : List UInt8 :=
  if c = 10 then [92, 110] else if c = 9 then [92, 116] else if c = 92 ∨ c = q then [92, c] else if prn (c.toNat : Int) then [c] else [92, 120, hxD (c.toNat / 16), hxD (c.toNat % 16)]
def qtB (q : UInt8) (l : List UInt8) : List UInt8 := q :: l.flatMap (esc1 q)
def qtL (q : UInt8) (l : List UInt8) : List UInt8 := qtB q l ++ [q]
theorem esc1_len (q c : UInt8) : (esc1 q c).length ≤ 4 := by
  unfold esc1
  repeat' split
  all_goals simp
theorem qtB_len (q : UInt8) (l : List UInt8) : (qtB q l).length ≤ 4 * l.length + 1 := by
  unfold qtB
  rw [List.length_cons]
  have : (l.flatMap (esc1 q)).length ≤ 4 * l.length := by
    induction l with
    | nil => simp
    | cons c l ih =>
      rw [List.flatMap_cons, List.length_append, List.length_cons]
      have := esc1_len q c
      omega
  omega
theorem qtB_snoc (q : UInt8) (l : List UInt8) (c : UInt8) : qtB q (l ++ [c]) = qtB q l ++ esc1 q c := by
  unfold qtB; simp
theorem lies0 : Lies 57 0 := by unfold Lies; kernel_rfl
theorem bld_new (w : World) : BB (w.alloc (.cells #[.pointer none, .slice none 0 0] 57)) w.heap.size 57 [] (w.heap.size + 1) [] :=
  .inl ⟨Nat.lt_succ_self _, .slice none 0 0, new_block w _, World.ownsRow_nil _ _ _ _⟩
set_option maxHeartbeats 4000000 in
set_option maxRecDepth 100000 in
theorem quoted_p (s : ByteArray) (q : UInt8) (w : World) (hs : s.size ≤ 1000000) :
    Calls Tryz.prog 35 #[.string s, .int .u8 (q.toNat : Int)] w fun e w' => e = .returned (.string ⟨(qtL q s.data.toList).toArray⟩) ∧ Below w.heap.size w w' := by
  have hB0 := bld_new w
  have hq0 : 0 ≤ (q.toNat : Int) := by omega
  have hq1 : (q.toNat : Int) ≤ 255 := by have := q.toNat_lt; omega
  have hqe : (q.toNat : Int).toNat.toUInt8 = q := by simp
  have hn0 : w.heap.size + 1 ≤ (w.alloc (.cells #[.pointer none, .slice none 0 0] 57)).heap.size := by show _ ≤ (w.heap.push _).size; simp
  obtain ⟨Q, hQ⟩ : ∃ Q, (q.toNat : Int) = Q := ⟨_, rfl⟩
  rw [hQ] at hq0 hq1 hqe ⊢
  have HQ := Lib.hid hQ
  have HQE := Lib.hid hqe
  clear hQ hqe
  go_enter Tryz.func35, Tryz.ntmps35
  go_wp2_with (first | (go_at_call 80; refine (WriteByte_p hB0 lies0 Q hq0 hq1 (by simp) hn0).mono ?_; rw [HQE.out]; rintro e w1 ⟨rfl, hA1, hO1, -⟩))
  go_loopw [12] (fun i wr => ∃ k : Nat, k ≤ s.size ∧ i = .int .i64 k ∧ BA wr w.heap.size 57 [] (w.heap.size + 1) (.pointer (some ⟨w.heap.size, 0, none⟩)) (qtB q (s.data.toList.take k)) ∧ Only (fun j => w.heap.size ≤ j) w wr) (fun i _ => s.size - (intOf i).toNat)
  case atStart => exact ⟨0, by omega, rfl, hA1, (Only.of_below ((Below.refl _ _).alloc (Nat.le_refl _) _)).trans (hO1.wide (fun i hi => by omega))⟩
  case round =>
    obtain ⟨k, hk, rfl, hA, hO⟩ := hrel
    by_cases hlt : k < s.size
    · obtain ⟨c, hc⟩ : ∃ c, s[k] = c := ⟨_, rfl⟩
      have HTK : Hid (qtB q (s.data.toList.take (k + 1)) = qtB q (s.data.toList.take k) ++ esc1 q c) := Lib.hid (by rw [take_snoc s k hlt, hc, qtB_snoc])
      obtain ⟨y, hy⟩ : ∃ y, (c.toNat : Int) = y := ⟨_, rfl⟩
      have hyb : 0 ≤ y ∧ y ≤ 255 := by have := c.toNat_lt; omega
      have hye : y.toNat.toUInt8 = c := by rw [← hy]; simp
      have hSy : (((s[k]'hlt).toNat : Nat) : Int) = y := by rw [hc]; exact hy
      have HYE := Lib.hid hye
      have HY := Lib.hid hy
      obtain ⟨ql, hql⟩ : ∃ ql, qtB q (s.data.toList.take k) = ql := ⟨_, rfl⟩
      have hqz : ql.length ≤ 4 * k + 1 := by rw [← hql]; exact Nat.le_trans (qtB_len _ _) (by simp; omega)
      rw [hql] at hA HTK
      have hBz : w.heap.size + 1 ≤ wr.heap.size := by have := hA.lt; omega
      have HOX : Hid (∀ {w3 : World}, Only (fun j => j = w.heap.size ∨ w.heap.size + 1 ≤ j) wr w3 → Only (fun j => w.heap.size ≤ j) wr w3) := Lib.hid (fun h => h.wide (fun i hi => by omega))
      clear hql hye hc hy
      by_cases h10 : c = 10
      · have hy10 : y = 10 := by rw [← HY.out, h10]; rfl
        have HE : Hid (esc1 q c = [92, 110]) := Lib.hid (by unfold esc1; rw [if_pos h10])
        have e10 : (y == 10) = true := by simp [hy10]
        clear h10 hy10
        go_wp2_with (first | (go_at_call 74; refine (WriteString_p (.inr hA) lies0 _ (by show ql.length + 2 ≤ 1000000000; omega) hBz).mono ?_; rintro e w2 ⟨rfl, hA2, hO2, -⟩))
        go_roundw
        case rel => exact ⟨k + 1, by omega, by go_num, by rw [HTK.out, HE.out]; exact hA2, hO.trans (HOX.out hO2)⟩
        case measure => simp [intOf]; omega
      by_cases h9 : c = 9
      · have hy9 : y = 9 := by rw [← HY.out, h9]; rfl
        have HE : Hid (esc1 q c = [92, 116]) := Lib.hid (by unfold esc1; rw [if_neg h10, if_pos h9])
        have e10 : (y == 10) = false := by simp [hy9]
        have e9 : (y == 9) = true := by simp [hy9]
        clear h10 h9 hy9
        go_wp2_with (first | (go_at_call 74; refine (WriteString_p (.inr hA) lies0 _ (by show ql.length + 2 ≤ 1000000000; omega) hBz).mono ?_; rintro e w2 ⟨rfl, hA2, hO2, -⟩))
        go_roundw
        case rel => exact ⟨k + 1, by omega, by go_num, by rw [HTK.out, HE.out]; exact hA2, hO.trans (HOX.out hO2)⟩
        case measure => simp [intOf]; omega
      have e10 : (y == 10) = false := by simp; intro h; apply h10; rw [← HYE.out, h]; rfl
      have e9 : (y == 9) = false := by simp; intro h; apply h9; rw [← HYE.out, h]; rfl
      by_cases hbq : c = 92 ∨ c = q
      · have HE : Hid (esc1 q c = [92, c]) := Lib.hid (by unfold esc1; rw [if_neg h10, if_neg h9, if_pos hbq])
        have e92 : (y == 92) = true ∨ ((y == 92) = false ∧ (y == Q) = true) := by
          by_cases e : y = 92
          · exact .inl (by simp [e])
          · refine .inr ⟨by simp [e], ?_⟩
            rcases hbq with h | h
            · exact absurd (by rw [← HY.out, h]; rfl) e
            · simp; rw [← HY.out, h]; exact HQ.out
        have hA' := hA.only (Only.of_below (K := fun _ => False) ((Below.refl wr.heap.size wr).alloc (Nat.le_refl _) (.cells #[.int .u8 92, .int .u8 y] 5))) (fun h => h) (fun _ h => h.elim)
        have hG : (wr.alloc (.cells #[.int .u8 92, .int .u8 y] 5)).heap[wr.heap.size]? = some (.cells (([92, c] : List UInt8).map fun c => Value.int .u8 (c.toNat : Int)).toArray 5 (0, 0)) := by
          rw [new_block]; simp [HY.out]
        have HG := Lib.hid hG
        clear hbq h10 h9 hG
        rcases e92 with e92 | ⟨e92, eq⟩
        all_goals
          go_wp2_with (first | (go_at_call 81; refine (Write_p (.inr hA') lies0 wr.heap.size 2 [92, c] HG.out (by omega) rfl (by show ql.length + 2 ≤ 1000000000; omega) (by show _ ≤ (wr.heap.push _).size; simp; omega)).mono ?_; rintro e w2 ⟨rfl, hA2, hO2, -⟩))
          go_roundw
          case rel => exact ⟨k + 1, by omega, by go_num, by rw [HTK.out, HE.out]; exact hA2, hO.trans ((Only.of_below ((Below.refl _ wr).alloc (Nat.le_refl _) _)).trans (hO2.wide (fun i hi => by omega)))⟩
          case measure => simp [intOf]; omega
      have e92 : (y == 92) = false := by simp; intro h; apply hbq; left; rw [← HYE.out, h]; rfl
      have eq : (y == Q) = false := by simp; intro h; apply hbq; right; rw [← HYE.out, h]; exact HQE.out
      cases hpr : prn y
      · have HPR := Lib.hid hpr
        have HE : Hid (esc1 q c = [92, 120, hxD (c.toNat / 16), hxD (c.toNat % 16)]) := Lib.hid (by unfold esc1; rw [if_neg h10, if_neg h9, if_neg hbq, HY.out, hpr]; rfl)
        clear hpr h10 h9 hbq
        go_wp2_with (first | (go_at_call 82; refine (isPrintable_any _ _).mono ?_; rw [HPR.out]; rintro e w5 ⟨rfl, rfl⟩))
        obtain ⟨d1, hd1⟩ : ∃ d : Nat, d = c.toNat / 16 := ⟨_, rfl⟩
        obtain ⟨d2, hd2⟩ : ∃ d : Nat, d = c.toNat % 16 := ⟨_, rfl⟩
        have hand : bits .and .u8 y 15 = (d2 : Int) := by rw [and15 y hyb.1 hyb.2, hd2]; have := HY.out; omega
        have hshr : y / 16 = (d1 : Int) := by rw [hd1]; have := HY.out; omega
        have hcl := c.toNat_lt
        have h1 : d1 < 16 := by omega
        have h2 : d2 < 16 := by omega
        have HE2 : Hid (esc1 q c = [92, 120, hexBA[d1]'h1, hexBA[d2]'h2]) := Lib.hid (by rw [HE.out, ← hd1, ← hd2, hxD_eq h1, hxD_eq h2])
        clear hd1 hd2 hcl HE
        have hA' := hA.only (Only.of_below (K := fun _ => False) ((Below.refl wr.heap.size wr).alloc (Nat.le_refl _) (.cells #[.int .u8 92, .int .u8 120, .int .u8 ((hexBA[d1]'h1).toNat : Int), .int .u8 ((hexBA[d2]'h2).toNat : Int)] 5)).drew) (fun h => h) (fun _ h => h.elim)
        have hG : (wr.alloc (.cells #[.int .u8 92, .int .u8 120, .int .u8 ((hexBA[d1]'h1).toNat : Int), .int .u8 ((hexBA[d2]'h2).toNat : Int)] 5)).drew.heap[wr.heap.size]? = some (.cells (([92, 120, hexBA[d1]'h1, hexBA[d2]'h2] : List UInt8).map fun c => Value.int .u8 (c.toNat : Int)).toArray 5 (0, 0)) := by
          show (wr.alloc (.cells #[.int .u8 92, .int .u8 120, .int .u8 ((hexBA[d1]'h1).toNat : Int), .int .u8 ((hexBA[d2]'h2).toNat : Int)] 5)).heap[wr.heap.size]? = _
          rw [new_block]; rfl
        have HG := Lib.hid hG
        clear hG
        go_region_with (first | (go_at_call 81; refine (Write_p (.inr hA') lies0 wr.heap.size 4 [92, 120, hexBA[d1]'h1, hexBA[d2]'h2] HG.out (by omega) rfl (by show ql.length + 4 ≤ 1000000000; omega) (by show _ ≤ (wr.heap.push _).size; simp; omega)).mono ?_; rintro e w2 ⟨rfl, hA2, hO2, -⟩))
        all_goals
          go_wp2
          go_roundw
          case rel => exact ⟨k + 1, by omega, by go_num, by rw [HTK.out, HE2.out]; exact hA2, hO.trans ((Only.of_below ((Below.refl _ wr).alloc (Nat.le_refl _) _).drew).trans (hO2.wide (fun i hi => by omega)))⟩
          case measure => simp [intOf]; omega
      · have HPR := Lib.hid hpr
        have HE : Hid (esc1 q c = [c]) := Lib.hid (by unfold esc1; rw [if_neg h10, if_neg h9, if_neg hbq, HY.out, hpr]; rfl)
        clear hpr h10 h9 hbq
        go_wp2_with (first | (go_at_call 82; refine (isPrintable_any _ _).mono ?_; rw [HPR.out]; rintro e w5 ⟨rfl, rfl⟩) | (go_at_call 80; refine (WriteByte_p (.inr hA) lies0 y hyb.1 hyb.2 (by omega) hBz).mono ?_; rw [HYE.out]; rintro e w2 ⟨rfl, hA2, hO2, -⟩))
        go_roundw
        case rel => exact ⟨k + 1, by omega, by go_num, by rw [HTK.out, HE.out]; exact hA2, hO.trans (HOX.out hO2)⟩
        case measure => simp [intOf]; omega
    · have e : k = s.size := by omega
      have HT : Hid (qtB q (s.data.toList.take k) = qtB q s.data.toList) := Lib.hid (by rw [take_end (by omega)])
      rw [HT.out] at hA
      have hqz : (qtB q s.data.toList).length ≤ 4 * s.size + 1 := Nat.le_trans (qtB_len _ _) (by rw [← Lib.size_eq]; exact Nat.le_refl _)
      have hBz : w.heap.size + 1 ≤ wr.heap.size := by have := hA.lt; omega
      clear e
      go_wp2_with (first | (go_at_call 80; refine (WriteByte_p (.inr hA) lies0 Q hq0 hq1 (by omega) hBz).mono ?_; rw [HQE.out]; rintro e w2 ⟨rfl, hA2, hO2, -⟩) | (go_at_call 30; refine (String_some (.inr hA2) (by unfold qtB; simp)).mono ?_; rintro e w3 ⟨rfl, hO3⟩))
      go_ret
      exact ⟨rfl, ((hO.trans (hO2.wide (fun i hi => by omega))).trans (hO3.wide (fun i hi => by omega))).below (Nat.le_refl _) (fun i hi => hi)⟩
end Go.Proofs.YtakojceggpljoaaGreatDoor
