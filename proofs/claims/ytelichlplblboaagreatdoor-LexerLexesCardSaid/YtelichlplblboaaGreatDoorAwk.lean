/-
  WALKS. What the lexer's examples ask of its functions.
  WALKS. The lexer's examples.
-/
import Derived.Test.YtelichlplblboaaGreatDoorWn
import Derived.Test.YtelichlplblboaaGreatDoorPrt
import Derived.Test.YtelichlplblboaaGreatDoorSame2
import Derived.Test.YtelichlplblboaaGreatDoorLd
namespace Go.Proofs.YtelichlplblboaaGreatDoor
open Go.RowKit Go.Maps
theorem Only.new {w w' : World} (h : Only (fun j => w.heap.size ≤ j) w w') : Only (fun _ => False) w w' := ⟨h.os, h.tape, h.output, h.size, fun i hi _ => h.block i hi (by omega)⟩
theorem blk_keep {w w' : World} {g : Nat} {o : Obj} (h : w.heap[g]? = some o) (ho : Only (fun _ => False) w w') : w'.heap[g]? = some o := (ho.block g (lt_of_block h) (fun h => h)).trans h
theorem blk4 {w : World} {g : Nat} {a b c d : Value} {T : TypeId} (h : w.heap[g]? = some (.cells #[a, b, c, d] T (0, 0))) : w.cell? ⟨g, 0, none⟩ = some a ∧ w.cell? ⟨g, 1, none⟩ = some b ∧ w.cell? ⟨g, 2, none⟩ = some c ∧ w.cell? ⟨g, 3, none⟩ = some d := by
  refine ⟨?_, ?_, ?_, ?_⟩ <;> simp [World.cell?, h]
theorem Lex_v (s : ByteArray) (n : Nat) (l : List Tok) (W w : World) (hq : Q W w) (h : lexP s = .ok l) (hn : l.length = n) (h0 : n ≠ 0) : Calls Tryz.prog 11 #[.string s] w fun r w' =>
    ∃ g cap, r = .returned (.tuple #[.slice (some ⟨g, 0, none⟩) n cap, .agg #[.int .i64 0, .string ⟨#[]⟩, .int .i64 0, .int .i64 0]]) ∧ Tks w' (some ⟨g, 0, none⟩) n l ∧ Q W w' ∧ Only (fun _ => False) w w' := by
  refine (Lex_p s W w hq).mono fun r w' hp => ?_
  rw [h] at hp
  obtain ⟨tk, rfl, hT, hB⟩ := hp
  subst hn
  have hT' := hT
  rcases hT.2 with ⟨rfl, hz⟩ | ⟨g, cap, cur, rfl, r⟩
  · exact absurd hz h0
  · exact ⟨g, cap, rfl, TR.tks hT', hq.below hB, Only.of_below hB⟩
theorem Lex_b (s : ByteArray) (c : Int) (l k : Nat) (l' k' : Int) (hl : (l : Int) = l') (hk : (k : Int) = k') (W w : World) (hq : Q W w) (h : lexP s = .bad ⟨c, ⟨#[]⟩, l, k⟩) : Calls Tryz.prog 11 #[.string s] w fun r w' =>
    r = .returned (.tuple #[.slice none 0 0, .agg #[.int .i64 c, .string ⟨#[]⟩, .int .i64 l', .int .i64 k']]) ∧ Q W w' ∧ Only (fun _ => False) w w' := by
  refine (Lex_p s W w hq).mono fun r w' hp => ?_
  rw [h] at hp
  obtain ⟨rfl, hB⟩ := hp
  subst hl hk
  exact ⟨rfl, hq.below hB, Only.of_below hB⟩
theorem Tks.at7 {w : World} {g n : Nat} {ts : List Tok} (h : Tks w (some ⟨g, 0, none⟩) n ts) (k : Nat) (t : Tok) (hk : ts[k]? = some t) : TC w g (0 + k * 7) t := by
  obtain ⟨hl, e⟩ := List.getElem?_eq_some_iff.1 hk
  obtain ⟨b, o, hb, hc⟩ := h.cell k hl
  cases hb
  rw [e] at hc
  exact hc
def awL1 : List Tok := [⟨1, ⟨#[]⟩, ⟨#[102]⟩, 0, false, 1, 1⟩, ⟨1, ⟨#[]⟩, ⟨#[120]⟩, 0, false, 1, 3⟩, ⟨10, ⟨#[]⟩, ⟨#[61]⟩, 0, false, 1, 5⟩, ⟨1, ⟨#[]⟩, ⟨#[120]⟩, 0, false, 1, 7⟩]
def awL2 : List Tok := [⟨1, ⟨#[77]⟩, ⟨#[120]⟩, 0, false, 1, 1⟩, ⟨3, ⟨#[77]⟩, ⟨#[46]⟩, 0, false, 1, 5⟩]
theorem aw_l : lexP ⟨#[102, 32, 120, 32, 61, 32, 120]⟩ = .ok awL1 := by kernel_rfl
theorem aw_g : lexP ⟨#[120, 32, 36, 32, 39]⟩ = .bad ⟨7, ⟨#[]⟩, 1, 5⟩ := by kernel_rfl
theorem aw_q : lexP ⟨#[77, 46, 120, 32, 77, 46, 46]⟩ = .ok awL2 := by kernel_rfl
theorem aw_ren : renL ⟨[], 1, 1, true⟩ awL1 = some ⟨[102, 32, 120, 32, 61, 32, 120], 1, 8, false⟩ := by kernel_rfl
theorem aw_all : awL1.all prT = true := by kernel_rfl
theorem aw_prt (W : World) : PrtOk W awL1 := by
  intro t ht w' hq
  have hp : prT t = true := List.all_eq_true.1 aw_all t ht
  rw [hp]
  simp only [awL1, List.mem_cons, List.not_mem_nil, or_false] at ht
  rcases ht with rfl | rfl | rfl | rfl
  · exact printable_name _ W w' hq (.inl rfl) (by decide) (by decide) (by kernel_rfl) rfl (by kernel_rfl)
  · exact printable_name _ W w' hq (.inl rfl) (by decide) (by decide) (by kernel_rfl) rfl (by kernel_rfl)
  · exact printable_sym _ W w' hq (.inr rfl) (by decide) rfl rfl (by kernel_rfl)
  · exact printable_name _ W w' hq (.inl rfl) (by decide) (by decide) (by kernel_rfl) rfl (by kernel_rfl)
theorem aw_ok : ∀ t ∈ awL1, TokOk t := by
  intro t ht
  simp only [awL1, List.mem_cons, List.not_mem_nil, or_false] at ht
  rcases ht with rfl | rfl | rfl | rfl <;> exact ⟨by decide, by decide, by decide, by decide, by decide, by decide⟩
theorem aw_ne : ∀ t ∈ awL1, (txB t).size ≠ 0 := by
  intro t ht
  simp only [awL1, List.mem_cons, List.not_mem_nil, or_false] at ht
  rcases ht with rfl | rfl | rfl | rfl <;> decide
theorem aw_render (W w : World) (hq : Q W w) (oa : Option Addr) (ca : Nat) (h : Tks w oa 4 awL1) :
    Calls Tryz.prog 15 #[.slice oa 4 ca] w fun e w' => e = .returned (.tuple #[.string ⟨#[102, 32, 120, 32, 61, 32, 120]⟩, .int .i64 0]) ∧ Only (fun _ => False) w w' := by
  have h' := Render_yes W w hq oa 4 ca awL1 (by decide) h (aw_prt W) aw_all (by decide) aw_ok aw_ne
  rw [aw_ren] at h'
  exact h'.mono fun e w' ⟨he, ho⟩ => ⟨he, ho.new⟩
theorem aw_same (w : World) (oa : Option Addr) (ca : Nat) (h : Tks w oa 4 awL1) :
    Calls Tryz.prog 17 #[.slice oa 4 ca, .slice oa 4 ca] w fun e w' => e = .returned (.bool true) ∧ Only (fun _ => False) w w' := by
  have h' := Same_p w oa oa 4 4 ca ca awL1 awL1 (by decide) (by decide) h h
  rw [show sameL awL1 awL1 = true by kernel_rfl] at h'
  exact h'
theorem aw_qc (w : World) : Calls Tryz.prog 20 #[.int .i64 39] w fun e w' => e = .returned (.string ⟨#[39, 92, 39, 39]⟩) ∧ Only (fun _ => False) w w' := by
  have h := QuoteChar_p 39 w
  rw [show qcB 39 = ⟨#[39, 92, 39, 39]⟩ by kernel_rfl] at h
  exact h.mono fun e w' ⟨he, hb⟩ => ⟨he, Only.of_below hb⟩
theorem aw_qs (w : World) : Calls Tryz.prog 19 #[.string ⟨#[97, 10]⟩] w fun e w' => e = .returned (.string ⟨#[34, 97, 92, 110, 34]⟩) ∧ Only (fun _ => False) w w' := by
  have h := Quote_p ⟨#[97, 10]⟩ w (by decide)
  rw [show (⟨(qtL 34 (⟨#[97, 10]⟩ : ByteArray).data.toList).toArray⟩ : ByteArray) = ⟨#[34, 97, 92, 110, 34]⟩ by kernel_rfl] at h
  exact h.mono fun e w' ⟨he, hb⟩ => ⟨he, Only.of_below hb⟩
end Go.Proofs.YtelichlplblboaaGreatDoor
namespace Go.Proofs.YtelichlplblboaaGreatDoor
open Go.RowKit Go.Maps
set_option maxRecDepth 100000 in
set_option maxHeartbeats 4000000 in
theorem awake_p (W w : World) (hq : Q W w) : Calls Tryz.prog 10 #[] w fun e w' => e = .returned (.bool true) ∧ Only (fun _ => False) w w' := by
  go_enter Tryz.func10, Tryz.ntmps10
  go_wp2_with (go_loud (first
    | (go_at_call 11; ((with_reducible refine (Lex_v ⟨#[102, 32, 120, 32, 61, 32, 120]⟩ 4 awL1 W _ hq aw_l rfl (Nat.succ_ne_zero 3)).mono ?_); rintro r w1 ⟨g1, cap1, rfl, hT1, hQ1, hO1⟩; have hR1 := (Below.refl w1.heap.size w1).alloc (Nat.le_refl _) (.cells #[.int .i64 0, .string ⟨#[]⟩, .int .i64 0, .int .i64 0] 26); have hQ1' := hQ1.below hR1; have hN1 := new_block w1 (.cells #[.int .i64 0, .string ⟨#[]⟩, .int .i64 0, .int .i64 0] 26)))
    | (go_at_call 11; ((with_reducible refine (Lex_b ⟨#[120, 32, 36, 32, 39]⟩ 7 1 5 1 5 rfl rfl W _ hQ1' aw_g).mono ?_); rintro r w2 ⟨rfl, hQ2, hO2⟩; have hR2 := (Below.refl w2.heap.size w2).alloc (Nat.le_refl _) (.cells #[.int .i64 7, .string ⟨#[]⟩, .int .i64 1, .int .i64 5] 26); have hQ2' := hQ2.below hR2; have hN2 := new_block w2 (.cells #[.int .i64 7, .string ⟨#[]⟩, .int .i64 1, .int .i64 5] 26)))
    | (go_at_call 11; ((with_reducible refine (Lex_v ⟨#[77, 46, 120, 32, 77, 46, 46]⟩ 2 awL2 W _ hQ2' aw_q rfl (Nat.succ_ne_zero 1)).mono ?_); rintro r w3 ⟨g3, cap3, rfl, hT3, hQ3, hO3⟩; have hR3 := (Below.refl w3.heap.size w3).alloc (Nat.le_refl _) (.cells #[.int .i64 0, .string ⟨#[]⟩, .int .i64 0, .int .i64 0] 26); have hQ3' := hQ3.below hR3; have hT1' := hT1.keep (((((Only.of_below hR1).trans hO2).trans (Only.of_below hR2)).trans hO3).trans (Only.of_below hR3))))
    | (go_at_call 15; ((with_reducible refine (aw_render W _ hQ3' _ _ hT1').mono ?_); rintro r w4 ⟨rfl, hO4⟩; have hT1x := hT1'.keep hO4; have hT3x := hT3.keep ((Only.of_below hR3).trans hO4); obtain ⟨a0, a1, a2, a3⟩ := blk4 (blk_keep hN1 ((((hO2.trans (Only.of_below hR2)).trans hO3).trans (Only.of_below hR3)).trans hO4)); obtain ⟨b0, b1, b2, b3⟩ := blk4 (blk_keep hN2 ((hO3.trans (Only.of_below hR3)).trans hO4)); have hu := hT1x.at7 1 _ rfl; have hv := hT1x.at7 2 _ rfl; have hx := hT3x.at7 0 _ rfl; have hy := hT3x.at7 1 _ rfl; have u0 : w4.cell? ⟨g1, 7, none⟩ = some (.int .i64 1) := hu.c0; have u1 : w4.cell? ⟨g1, 8, none⟩ = some (.string ⟨#[]⟩) := hu.c1; have u2 : w4.cell? ⟨g1, 9, none⟩ = some (.string ⟨#[120]⟩) := hu.c2; have u3 : w4.cell? ⟨g1, 10, none⟩ = some (.int .i64 0) := hu.c3; have u4 : w4.cell? ⟨g1, 11, none⟩ = some (.bool false) := hu.c4; have u5 : w4.cell? ⟨g1, 12, none⟩ = some (.int .i64 1) := hu.c5; have u6 : w4.cell? ⟨g1, 13, none⟩ = some (.int .i64 3) := hu.c6; have v0 : w4.cell? ⟨g1, 14, none⟩ = some (.int .i64 10) := hv.c0; have x1 : w4.cell? ⟨g3, 1, none⟩ = some (.string ⟨#[77]⟩) := hx.c1; have y0 : w4.cell? ⟨g3, 7, none⟩ = some (.int .i64 3) := hy.c0; have y1 : w4.cell? ⟨g3, 8, none⟩ = some (.string ⟨#[77]⟩) := hy.c1; have y2 : w4.cell? ⟨g3, 9, none⟩ = some (.string ⟨#[46]⟩) := hy.c2; have y3 : w4.cell? ⟨g3, 10, none⟩ = some (.int .i64 0) := hy.c3; have y4 : w4.cell? ⟨g3, 11, none⟩ = some (.bool false) := hy.c4; have y5 : w4.cell? ⟨g3, 12, none⟩ = some (.int .i64 1) := hy.c5; have y6 : w4.cell? ⟨g3, 13, none⟩ = some (.int .i64 5) := hy.c6; clear hu hv hx hy))
    | (go_at_call 17; ((with_reducible refine (aw_same _ _ _ hT1x).mono ?_); rintro r w5 ⟨rfl, hO5⟩))
    | (go_at_call 20; ((with_reducible refine (aw_qc _).mono ?_); rintro r w6 ⟨rfl, hO6⟩))
    | (go_at_call 19; ((with_reducible refine (aw_qs _).mono ?_); rintro r w7 ⟨rfl, hO7⟩))))
  go_ret
  exact ⟨rfl, (((((((hO1.trans (Only.of_below hR1)).trans hO2).trans (Only.of_below hR2)).trans hO3).trans (Only.of_below hR3)).trans hO4).trans hO5).trans (hO6.trans hO7)⟩
end Go.Proofs.YtelichlplblboaaGreatDoor
