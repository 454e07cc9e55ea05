/-
  WALKS. equal; LexerLexes: true.
-/
import Derived.Test.YtelichlplblboaaGreatDoorRl12
import Derived.Test.YtelichlplblboaaGreatDoorAwk
namespace Go.Proofs.YtelichlplblboaaGreatDoor
open Go.RowKit Go.Maps
set_option maxRecDepth 100000 in
set_option maxHeartbeats 4000000 in
theorem requal_p (w : World) (oa ob : Option Addr) (n ca cb : Nat) (l : List Tok) (hn : n ≤ 1000000) (ha : Tks w oa n l) (hb : Tks w ob n l) :
    Calls Tryz.prog 13 #[.slice oa n ca, .slice ob n cb] w fun e w' => e = .returned (.bool true) ∧ Only (fun _ => False) w w' := by
  have HL := Lib.hid ha.len
  go_enter Tryz.func13, Tryz.ntmps13
  go_wp2
  go_loopw [13] (fun i wr => ∃ k : Nat, k ≤ n ∧ i = .int .i64 k ∧ Only (fun _ => False) w wr) (fun i _ => n - (intOf i).toNat)
  case atStart => exact ⟨0, by omega, rfl, Only.refl _ _⟩
  case round =>
    obtain ⟨k, hk, rfl, hO⟩ := hrel
    by_cases hlt : k < n
    · have hka : k < l.length := by rw [HL.out]; exact hlt
      obtain ⟨b, o, rfl, hc⟩ := (ha.keep hO).cell k hka
      obtain ⟨b', o', rfl, hc'⟩ := (hb.keep hO).cell k hka
      obtain ⟨x, hx⟩ : ∃ x, l[k] = x := ⟨_, rfl⟩
      rw [hx] at hc hc'
      clear hx
      obtain ⟨p0, p1, p2, p3, p4, p5, p6⟩ := hc
      obtain ⟨q0, q1, q2, q3, q4, q5, q6⟩ := hc'
      go_wp2
      go_region
      all_goals
        go_wp2
        go_roundw
        case rel => exact ⟨k + 1, by omega, by go_num, hO.drew⟩
        case measure => simp [intOf]; omega
    · go_wp2
      go_ret
      exact ⟨rfl, hO⟩
/-- What Lex answers of a source, in one form. -/
def LexIs (s : ByteArray) (n : Nat) (ls : List Tok) (c : Int) (nm : ByteArray) (li co : Int) : Prop :=
  (lexP s = .ok ls ∧ ls.length = n ∧ c = 0 ∧ nm = ⟨#[]⟩ ∧ li = 0 ∧ co = 0) ∨ (∃ f, lexP s = .bad f ∧ n = 0 ∧ ls = [] ∧ c = f.code ∧ nm = f.name ∧ li = f.line ∧ co = f.col)
theorem lexIs (s : ByteArray) : ∃ n ls c nm li co, LexIs s n ls c nm li co ∧ n ≤ 16384 := by
  cases h : lexP s with
  | ok l =>
    refine ⟨_, l, _, _, _, _, .inl ⟨h, rfl, rfl, rfl, rfl, rfl⟩, ?_⟩
    unfold lexP at h
    split at h
    · cases h
    · exact lexF_len _ (by simp) h
  | bad f => exact ⟨0, [], _, _, _, _, .inr ⟨f, h, rfl, rfl, rfl, rfl, rfl, rfl⟩, by omega⟩
/-- What a call of a Lex leaves. -/
def LexX (n : Nat) (ls : List Tok) (c : Int) (nm : ByteArray) (li co : Int) (W w : World) (r : Ending) (w' : World) : Prop :=
  ∃ oa cap, r = .returned (.tuple #[.slice oa n cap, .agg #[.int .i64 c, .string nm, .int .i64 li, .int .i64 co]]) ∧ Tks w' oa n ls ∧ Q W w' ∧ Only (fun _ => False) w w'
theorem Lex_x {s : ByteArray} {n : Nat} {ls : List Tok} {c : Int} {nm : ByteArray} {li co : Int} (h : LexIs s n ls c nm li co) (W w : World) (hq : Q W w) :
    Calls Tryz.prog 11 #[.string s] w (LexX n ls c nm li co W w) := by
  refine (Lex_p s W w hq).mono fun r w' hp => ?_
  rcases h with ⟨h, rfl, rfl, rfl, rfl, rfl⟩ | ⟨f, h, rfl, rfl, rfl, rfl, rfl, rfl⟩
  · rw [h] at hp
    obtain ⟨tk, rfl, hT, hB⟩ := hp
    have hT' := hT
    rcases hT.2 with ⟨rfl, hz⟩ | ⟨g, cap, cur, rfl, r⟩
    · exact ⟨none, 0, by rw [hz]; rfl, ⟨rfl, fun k hk => absurd hk (by omega)⟩, hq.below hB, Only.of_below hB⟩
    · exact ⟨some ⟨g, 0, none⟩, cap, rfl, TR.tks hT', hq.below hB, Only.of_below hB⟩
  · rw [h] at hp
    obtain ⟨rfl, hB⟩ := hp
    exact ⟨none, 0, rfl, ⟨rfl, fun k hk => absurd hk (by simp)⟩, hq.below hB, Only.of_below hB⟩
theorem rLex_x {s : ByteArray} {n : Nat} {ls : List Tok} {c : Int} {nm : ByteArray} {li co : Int} (h : LexIs s n ls c nm li co) (W w : World) (hq : Q W w) (hz : s.size ≤ 65536) :
    Calls Tryz.prog 12 #[.string s] w (LexX n ls c nm li co W w) := by
  have e : lexP s = lexF s s.size 0 [] := by unfold lexP; rw [if_neg (by omega)]
  refine (rLex_p s W w hq hz).mono fun r w' hp => ?_
  rw [← e] at hp
  rcases h with ⟨h, rfl, rfl, rfl, rfl, rfl⟩ | ⟨f, h, rfl, rfl, rfl, rfl, rfl, rfl⟩
  · rw [h] at hp
    obtain ⟨⟨tk, rfl, hT⟩, hO⟩ := hp
    have hT' := hT
    rcases hT.2 with ⟨rfl, hz⟩ | ⟨g, cap, cur, rfl, r⟩
    · exact ⟨none, 0, by rw [hz]; rfl, ⟨rfl, fun k hk => absurd hk (by omega)⟩, hq.only hO (fun _ h => h.elim), hO⟩
    · exact ⟨some ⟨g, 0, none⟩, cap, rfl, TR.tks hT', hq.only hO (fun _ h => h.elim), hO⟩
  · rw [h] at hp
    obtain ⟨rfl, hO⟩ := hp
    exact ⟨none, 0, rfl, ⟨rfl, fun k hk => absurd hk (by simp)⟩, hq.only hO (fun _ h => h.elim), hO⟩
set_option maxRecDepth 100000 in
set_option maxHeartbeats 4000000 in
theorem Lexes_long (W w : World) (hq : Q W w) (s : ByteArray) (h : 3000 < s.size) :
    Calls Tryz.prog 3 #[.string s] w fun e w' => e = .returned (.bool true) ∧ Only (fun _ => False) w w' := by
  have e1 : decide (3000 < (s.size : Int)) = true := by simp; omega
  go_enter Tryz.func3, Tryz.ntmps3
  go_wp2_with (go_loud (first | (go_at_call 10; ((with_reducible refine (awake_p W _ hq).mono ?_); rintro r wz ⟨rfl, hOz⟩))))
  go_ret
  exact ⟨rfl, hOz⟩
set_option maxRecDepth 100000 in
set_option maxHeartbeats 4000000 in
theorem Lexes_ok (W w : World) (hq : Q W w) (s : ByteArray) (h : s.size ≤ 3000) :
    Calls Tryz.prog 3 #[.string s] w fun e w' => e = .returned (.bool true) ∧ Only (fun _ => False) w w' := by
  have e1 : decide (3000 < (s.size : Int)) = false := by simp; omega
  obtain ⟨n, ls, c, nm, li, co, hl, hn⟩ := lexIs s
  have HL := Lib.hid hl
  clear hl
  go_enter Tryz.func3, Tryz.ntmps3
  go_wp2_with (go_loud (first | (go_at_call 11; ((with_reducible refine (Lex_x HL.out W _ hq).mono ?_); rintro r w1 ⟨oa, ca, rfl, hT1, hq1, hO1⟩; have hR1 := (Below.refl w1.heap.size w1).alloc (Nat.le_refl _) (.cells #[.int .i64 c, .string nm, .int .i64 li, .int .i64 co] 26); have hq1' := hq1.below hR1; have hA1 : Only (fun _ => False) w1 _ := Only.of_below hR1; have hN1 := new_block w1 (.cells #[.int .i64 c, .string nm, .int .i64 li, .int .i64 co] 26); have hT1' := hT1.keep hA1)) | (go_at_call 12; ((with_reducible refine (rLex_x HL.out W _ hq1' (by omega)).mono ?_); rintro r w2 ⟨ob, cb, rfl, hT2, hq2, hO2⟩; have hR2 := (Below.refl w2.heap.size w2).alloc (Nat.le_refl _) (.cells #[.int .i64 c, .string nm, .int .i64 li, .int .i64 co] 26); have hq2' := hq2.below hR2; have hA2 : Only (fun _ => False) w2 _ := Only.of_below hR2; have hN2 := new_block w2 (.cells #[.int .i64 c, .string nm, .int .i64 li, .int .i64 co] 26); have hT2' := hT2.keep hA2; have hT1x := (hT1'.keep hO2).keep hA2; have hN1x := blk_keep (blk_keep hN1 hO2) hA2)) | (go_at_call 13; ((with_reducible refine (requal_p _ oa ob n ca cb ls (by omega) hT1x hT2').mono ?_); rintro r w3 ⟨rfl, hO3⟩; have hq3 := hq2'.only hO3 (fun _ h => h.elim); obtain ⟨a0, a1, a2, a3⟩ := blk4 (blk_keep hN1x hO3); obtain ⟨b0, b1, b2, b3⟩ := blk4 (blk_keep hN2 hO3))) | (go_at_call 10; ((with_reducible refine (awake_p W _ hq3).mono ?_); rintro r wz ⟨rfl, hOz⟩))))
  go_ret
  exact ⟨rfl, (((((hO1.trans hA1).trans hO2).trans hA2).trans hO3).trans hOz)⟩
end Go.Proofs.YtelichlplblboaaGreatDoor
