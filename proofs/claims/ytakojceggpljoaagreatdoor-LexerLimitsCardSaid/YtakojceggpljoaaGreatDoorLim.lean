/-
  WALKS. LexerLimits: true.
-/
import Derived.Test.YtakojceggpljoaaGreatDoorAw
import Derived.Lib.AppendStr
import Derived.IntWalk
namespace Go.Proofs.YtakojceggpljoaaGreatDoor
open Go.RowKit Go.Maps
/-- So often these bytes. -/
def tms (l : List UInt8) : Nat → List UInt8
  | 0 => []
  | n + 1 => tms l n ++ l
theorem tms_len (l : List UInt8) (n : Nat) : (tms l n).length = n * l.length := by
  induction n with
  | zero => simp [tms]
  | succ n ih => rw [tms, List.length_append, ih, Nat.succ_mul]
theorem lim_cases (s : ByteArray) : (65536 < s.size ∧ lexP s = .bad ⟨3, ⟨#[]⟩, 0, 0⟩) ∨ (s.size ≤ 65536 ∧ ∃ l, lexP s = .ok l ∧ l.length ≤ 16384) ∨ (s.size ≤ 65536 ∧ ∃ f, lexP s = .bad f ∧ f.code ≠ 0 ∧ 1 ≤ f.line ∧ 1 ≤ f.col) := by
  by_cases hl : 65536 < s.size
  · exact .inl ⟨hl, by unfold lexP; rw [if_pos hl]; rfl⟩
  · have e : lexP s = lexF s s.size 0 [] := by unfold lexP; rw [if_neg hl]
    rw [e]
    cases hR : lexF s s.size 0 [] with
    | ok l => exact .inr (.inl ⟨by omega, l, rfl, lexF_len _ (Nat.zero_le _) hR⟩)
    | bad f =>
      have hI := lexF_is _ hR
      exact .inr (.inr ⟨by omega, f, rfl, hI.code, hI.place⟩)
theorem Lex_o (s : ByteArray) (l : List Tok) (n : Nat) (W w : World) (hq : Q W w) (h : lexP s = .ok l) (hn : l.length = n) : Calls Tryz.prog 11 #[.string s] w fun r w' =>
    ∃ oa ca, r = .returned (.tuple #[.slice oa n ca, .agg #[.int .i64 0, .string ⟨#[]⟩, .int .i64 0, .int .i64 0]]) ∧ Q W w' ∧ Only (fun _ => False) w w' := by
  refine (Lex_p s W w hq).mono fun r w' hp => ?_
  rw [h] at hp
  obtain ⟨tk, rfl, hT, hB⟩ := hp
  obtain ⟨oa, ca, rfl⟩ := rowForm hT
  subst hn
  exact ⟨oa, ca, rfl, hq.below hB, Only.of_below hB⟩
theorem Lex_f (s nm : ByteArray) (c l k : Int) (W w : World) (hq : Q W w) (h : ∃ f, lexP s = .bad f ∧ f.code = c ∧ f.name = nm ∧ (f.line : Int) = l ∧ (f.col : Int) = k) : Calls Tryz.prog 11 #[.string s] w fun r w' =>
    r = .returned (.tuple #[.slice none 0 0, .agg #[.int .i64 c, .string nm, .int .i64 l, .int .i64 k]]) ∧ Q W w' ∧ Only (fun _ => False) w w' := by
  obtain ⟨f, h, rfl, rfl, rfl, rfl⟩ := h
  refine (Lex_p s W w hq).mono fun r w' hp => ?_
  rw [h] at hp
  obtain ⟨rfl, hB⟩ := hp
  exact ⟨rfl, hq.below hB, Only.of_below hB⟩
set_option maxRecDepth 100000 in
set_option maxHeartbeats 4000000 in
theorem Limits_bad (W w : World) (hq : Q W w) (s : ByteArray) (n : Int) (h : n < 0 ∨ 70000 < n ∨ 100 < s.size ∨ 200000 < n * s.size) :
    Calls Tryz.prog 4 #[.string s, .int .i64 n] w fun e w' => e = .returned (.bool true) ∧ Only (fun _ => False) w w' := by
  have hc : (decide (n < 0) = true) ∨ (decide (n < 0) = false ∧ decide (70000 < n) = true) ∨ (decide (n < 0) = false ∧ decide (70000 < n) = false ∧ decide (100 < (s.size : Int)) = true) ∨ (decide (n < 0) = false ∧ decide (70000 < n) = false ∧ decide (100 < (s.size : Int)) = false ∧ decide (200000 < n * s.size) = true) := by
    simp; omega
  have hpr : 0 ≤ n → n ≤ 70000 → s.size ≤ 100 → 0 ≤ n * (s.size : Int) ∧ n * (s.size : Int) ≤ 7000000 := fun h0 h1 h2 => ⟨Int.mul_nonneg h0 (by omega), Int.le_trans (Int.mul_le_mul h1 (show (s.size : Int) ≤ 100 by omega) (by omega) (by omega)) (by decide)⟩
  rcases hc with h1 | ⟨h1, h2⟩ | ⟨h1, h2, h3⟩ | ⟨h1, h2, h3, h4⟩
  rotate_right 1
  · obtain ⟨hp0, hp1⟩ := hpr (by simpa using h1) (by simpa using h2) (by simp at h3; omega)
    have hwr : IntKind.i64.wrap (n * (s.size : Int)) = n * (s.size : Int) := Go.IntWalk.i64_in _ (by omega)
    have hwr' : wrap64 (n * (s.size : Int)) = n * (s.size : Int) := (Go.IntWalk.i64_left _).symm.trans hwr
    clear hpr h
    go_enter Tryz.func4, Tryz.ntmps4
    go_wp2_with (go_loud (first | (go_at_call 10; ((with_reducible refine (awake_p W _ hq).mono ?_); rintro r wz ⟨rfl, hOz⟩))))
    go_ret
    exact ⟨rfl, hOz⟩
  all_goals clear hpr h
  all_goals
    go_enter Tryz.func4, Tryz.ntmps4
    go_wp2_with (go_loud (first | (go_at_call 10; ((with_reducible refine (awake_p W _ hq).mono ?_); rintro r wz ⟨rfl, hOz⟩))))
    go_ret
    exact ⟨rfl, hOz⟩
set_option maxRecDepth 100000 in
set_option maxHeartbeats 4000000 in
theorem Limits_ok (W w : World) (hq : Q W w) (s : ByteArray) (N : Nat) (h2 : N ≤ 70000) (h3 : s.size ≤ 100) (h4 : N * s.size ≤ 200000) :
    Calls Tryz.prog 4 #[.string s, .int .i64 N] w fun e w' => e = .returned (.bool true) ∧ Only (fun _ => False) w w' := by
  obtain ⟨u0, hu, hu0, hu1, hu2⟩ := info_parts infoU8
  have hcast : (N : Int) * (s.size : Int) = ((N * s.size : Nat) : Int) := by simp
  have hwr : IntKind.i64.wrap ((N : Int) * (s.size : Int)) = ((N * s.size : Nat) : Int) := by rw [hcast]; exact Go.IntWalk.i64_in _ (by omega)
  have hwr' : wrap64 ((N : Int) * (s.size : Int)) = ((N * s.size : Nat) : Int) := (Go.IntWalk.i64_left _).symm.trans hwr
  have el : s.data.toList.length = s.size := (Lib.size_eq _).symm
  have hd4 : decide (200000 < wrap64 ((N : Int) * (s.size : Int))) = false := by rw [hwr']; simp; omega
  have HMN : Hid (∀ k, k ≤ N → (tms s.data.toList k).length ≤ 200000) := Lib.hid (fun k hk => by rw [tms_len, el]; exact Nat.le_trans (Nat.mul_le_mul_right _ hk) h4)
  have EL := Lib.hid el
  clear el hcast
  go_enter Tryz.func4, Tryz.ntmps4
  go_wp2
  go_loopw [28, 5] (fun i v wr => ∃ k : Nat, k ≤ N ∧ i = .int .i64 k ∧ BR wr w.heap.size v (tms s.data.toList k) ∧ Only (fun j => w.heap.size ≤ j) w wr) (fun i _ _ => N - (intOf i).toNat)
  case atStart => exact ⟨0, by omega, rfl, ⟨by simp [tms], .inl ⟨rfl, rfl⟩⟩, Only.refl _ _⟩
  case round =>
    obtain ⟨k, hk, rfl, hBR, hO⟩ := hrel
    by_cases hlt : k < N
    · have hlk := HMN.out k hk
      have hlk1 := HMN.out (k + 1) (by omega)
      have hsz := hO.size
      have HO := Lib.hid hO
      clear hO
      go_wp2_with (at_builtin; refine Lib.wpList_append_own_string _ rfl _ _ 31 9 rfl w.heap.size 5 u0 Tryz.underlying31 Tryz.underlying9 hu hu0 hu1 hu2 _ _ _ rfl hBR s rfl ?c3 ?c4 ?c5 ?_)
      case c3 => unfold maxLen; omega
      case c4 => omega
      case c5 => omega
      intro v' w2 hown' hgrow _
      have hR2 : BR w2 w.heap.size v' (tms s.data.toList (k + 1)) := by
        rw [tms]
        unfold BR
        rw [List.length_append, List.map_append, EL.out]
        exact hown'
      have hO2 : Only (fun j => w.heap.size ≤ j) wr w2 := Only.grown hgrow (fun g hg => (World.ownsRow.lt hBR g hg).1)
      clear hown' hgrow hBR
      go_wp2
      go_roundw
      case rel => exact ⟨k + 1, by omega, by go_num, hR2, HO.out.trans hO2⟩
      case measure => simp [intOf]; omega
    · have hkN : k = N := by omega
      subst hkN
      obtain ⟨L, hL⟩ : ∃ L, tms s.data.toList k = L := ⟨_, rfl⟩
      rw [hL] at hBR
      have hLl := HMN.out k (by omega)
      rw [hL] at hLl
      obtain ⟨oa, ca, rfl⟩ := BR.len hBR
      have hcv := conv_bytes hBR
      have HSZ : Hid ((⟨L.toArray⟩ : ByteArray).size = L.length) := Lib.hid rfl
      have hQr : Q W wr := hq.only hO (fun i hi => Nat.le_trans hq.bel.size hi)
      have HO := Lib.hid hO
      clear hL hBR hO
      rcases lim_cases ⟨L.toArray⟩ with ⟨h5, h6⟩ | ⟨h5, tl, h6, h7⟩ | ⟨h5, f, h6, h7, h8, h9⟩
      · have h65 : 65536 < L.length := h5
        have HC : Hid (∃ f, lexP ⟨L.toArray⟩ = .bad f ∧ f.code = 3 ∧ f.name = ⟨#[]⟩ ∧ (f.line : Int) = 0 ∧ (f.col : Int) = 0) := Lib.hid ⟨_, h6, rfl, rfl, rfl, rfl⟩
        clear h5 h6
        go_wp2_with (go_loud (first | (go_at_call 11; ((with_reducible refine (Lex_f ⟨L.toArray⟩ ⟨#[]⟩ 3 0 0 W _ hQr HC.out).mono ?_); rintro r wl ⟨rfl, hQl, hOl⟩; have hQa := hQl.below ((Below.refl wl.heap.size wl).alloc (Nat.le_refl _) (.cells #[.int .i64 3, .string ⟨#[]⟩, .int .i64 0, .int .i64 0] 26)); have hOa := (Only.of_below (K := fun _ => False) ((Below.refl wl.heap.size wl).alloc (Nat.le_refl _) (.cells #[.int .i64 3, .string ⟨#[]⟩, .int .i64 0, .int .i64 0] 26))))) | (go_at_call 10; ((with_reducible refine (awake_p W _ hQa).mono ?_); rintro r wz ⟨rfl, hOz⟩))))
        go_ret
        exact ⟨rfl, (((HO.out.new.trans hOl).trans hOa).trans hOz)⟩
      · have h65 : L.length ≤ 65536 := h5
        obtain ⟨M, hM⟩ : ∃ M, tl.length = M := ⟨_, rfl⟩
        have h16 : M ≤ 16384 := by rw [← hM]; exact h7
        have HC := Lib.hid h6
        have HM := Lib.hid hM
        clear h5 h6 h7 hM
        go_wp2_with (go_loud (first | (go_at_call 11; ((with_reducible refine (Lex_o ⟨L.toArray⟩ tl M W _ hQr HC.out HM.out).mono ?_); rintro r wl ⟨oa', ca', rfl, hQl, hOl⟩; have hQa := hQl.below ((Below.refl wl.heap.size wl).alloc (Nat.le_refl _) (.cells #[.int .i64 0, .string ⟨#[]⟩, .int .i64 0, .int .i64 0] 26)); have hOa := (Only.of_below (K := fun _ => False) ((Below.refl wl.heap.size wl).alloc (Nat.le_refl _) (.cells #[.int .i64 0, .string ⟨#[]⟩, .int .i64 0, .int .i64 0] 26))))) | (go_at_call 10; ((with_reducible refine (awake_p W _ hQa).mono ?_); rintro r wz ⟨rfl, hOz⟩))))
        go_ret
        exact ⟨rfl, (((HO.out.new.trans hOl).trans hOa).trans hOz)⟩
      · have h65 : L.length ≤ 65536 := h5
        obtain ⟨c, hc⟩ : ∃ c, f.code = c := ⟨_, rfl⟩
        obtain ⟨nm, hnm⟩ : ∃ nm, f.name = nm := ⟨_, rfl⟩
        obtain ⟨l, hl⟩ : ∃ l : Int, (f.line : Int) = l := ⟨_, rfl⟩
        obtain ⟨k', hk'⟩ : ∃ k' : Int, (f.col : Int) = k' := ⟨_, rfl⟩
        have hc0 : (c == 0) = false := by rw [← hc]; simpa using h7
        have hl0 : 0 < l := by omega
        have hk0 : 0 < k' := by omega
        have HC : Hid (∃ f, lexP ⟨L.toArray⟩ = .bad f ∧ f.code = c ∧ f.name = nm ∧ (f.line : Int) = l ∧ (f.col : Int) = k') := Lib.hid ⟨f, h6, hc, hnm, hl, hk'⟩
        clear h5 h6 h7 h8 h9 hc hnm hl hk'
        go_wp2_with (go_loud (first | (go_at_call 11; ((with_reducible refine (Lex_f ⟨L.toArray⟩ nm c l k' W _ hQr HC.out).mono ?_); rintro r wl ⟨rfl, hQl, hOl⟩; have hQa := hQl.below ((Below.refl wl.heap.size wl).alloc (Nat.le_refl _) (.cells #[.int .i64 c, .string nm, .int .i64 l, .int .i64 k'] 26)); have hOa := (Only.of_below (K := fun _ => False) ((Below.refl wl.heap.size wl).alloc (Nat.le_refl _) (.cells #[.int .i64 c, .string nm, .int .i64 l, .int .i64 k'] 26))))) | (go_at_call 10; ((with_reducible refine (awake_p W _ hQa).mono ?_); rintro r wz ⟨rfl, hOz⟩))))
        go_ret
        exact ⟨rfl, (((HO.out.new.trans hOl).trans hOa).trans hOz)⟩
end Go.Proofs.YtakojceggpljoaaGreatDoor
