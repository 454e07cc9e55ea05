/-
  WALKS. What the lexer's examples ask of its functions.
-/
import Derived.Test.YtakojceggpljoaaGreatDoorRen
import Derived.Test.YtakojceggpljoaaGreatDoorPrt
import Derived.Test.YtakojceggpljoaaGreatDoorSame2
import Derived.Test.YtakojceggpljoaaGreatDoorLLexF
namespace Go.Proofs.YtakojceggpljoaaGreatDoor
open Go.RowKit Go.Maps
theorem Only.new {w w' : World} (h : Only (fun j => w.heap.size ≤ j) w w') : Only (fun _ => False) w w' := ⟨h.os, h.tape, h.output, h.size, fun i hi _ => h.block i hi (by omega)⟩
theorem blk_keep {w w' : World} {g : Nat} {o : Obj} (h : w.heap[g]? = some o) (ho : Only (fun _ => False) w w') : w'.heap[g]? = some o := (ho.block g (lt_of_block h) (fun h => h)).trans h
theorem blk4 {w : World} {g : Nat} {a b c d : Value} {T : TypeId} (h : w.heap[g]? = some (.cells #[a, b, c, d] T (0, 0))) : w.cell? ⟨g, 0, none⟩ = some a ∧ w.cell? ⟨g, 1, none⟩ = some b ∧ w.cell? ⟨g, 2, none⟩ = some c ∧ w.cell? ⟨g, 3, none⟩ = some d := by
  refine ⟨?_, ?_, ?_, ?_⟩ <;> simp [World.cell?, h]
theorem Lex_v (s : ByteArray) (n : Nat) (l : List Tok) (W w : World) (hq : Q W w) (h : lexP s = .ok l) (hn : l.length = n) (h0 : n ≠ 0) : Calls Tryz.prog 11 #[.string s] w fun r w' =>
    ∃ g cap, r = .returned (.tuple #[.slice (some ⟨g, 0, none⟩) n cap, .agg #[.int .i64 0, .string ⟨#[]⟩, .int .i64 0, .int .i64 0]]) ∧ Tks w' (some ⟨g, 0, none⟩) n l ∧ Q W w' ∧ Only (fun _ => False) w w' := by
  refine (Lex_p s W w hq).mono fun r w' hp => ?_
  rw [h] at hp
  obtain ⟨tk, rfl, hT, hB⟩ := hp
  subst hn
  have hT' := hT
  rcases hT.2 with ⟨rfl, hz⟩ | ⟨g, cap, cur, rfl, r⟩
  · exact absurd hz h0
  · exact ⟨g, cap, rfl, TR.tks hT', hq.below hB, Only.of_below hB⟩
theorem Lex_b (s : ByteArray) (c : Int) (l k : Nat) (l' k' : Int) (hl : (l : Int) = l') (hk : (k : Int) = k') (W w : World) (hq : Q W w) (h : lexP s = .bad ⟨c, ⟨#[]⟩, l, k⟩) : Calls Tryz.prog 11 #[.string s] w fun r w' =>
    r = .returned (.tuple #[.slice none 0 0, .agg #[.int .i64 c, .string ⟨#[]⟩, .int .i64 l', .int .i64 k']]) ∧ Q W w' ∧ Only (fun _ => False) w w' := by
  refine (Lex_p s W w hq).mono fun r w' hp => ?_
  rw [h] at hp
  obtain ⟨rfl, hB⟩ := hp
  subst hl hk
  exact ⟨rfl, hq.below hB, Only.of_below hB⟩
theorem Tks.at7 {w : World} {g n : Nat} {ts : List Tok} (h : Tks w (some ⟨g, 0, none⟩) n ts) (k : Nat) (t : Tok) (hk : ts[k]? = some t) : TC w g (0 + k * 7) t := by
  obtain ⟨hl, e⟩ := List.getElem?_eq_some_iff.1 hk
  obtain ⟨b, o, hb, hc⟩ := h.cell k hl
  cases hb
  rw [e] at hc
  exact hc
def awL1 : List Tok := [⟨1, ⟨#[]⟩, ⟨#[102]⟩, 0, false, 1, 1⟩, ⟨1, ⟨#[]⟩, ⟨#[120]⟩, 0, false, 1, 3⟩, ⟨10, ⟨#[]⟩, ⟨#[61]⟩, 0, false, 1, 5⟩, ⟨1, ⟨#[]⟩, ⟨#[120]⟩, 0, false, 1, 7⟩]
def awL2 : List Tok := [⟨1, ⟨#[77]⟩, ⟨#[120]⟩, 0, false, 1, 1⟩, ⟨3, ⟨#[77]⟩, ⟨#[46]⟩, 0, false, 1, 5⟩]
theorem aw_l : lexP ⟨#[102, 32, 120, 32, 61, 32, 120]⟩ = .ok awL1 := by kernel_rfl
theorem aw_g : lexP ⟨#[120, 32, 36, 32, 39]⟩ = .bad ⟨7, ⟨#[]⟩, 1, 5⟩ := by kernel_rfl
theorem aw_q : lexP ⟨#[77, 46, 120, 32, 77, 46, 46]⟩ = .ok awL2 := by kernel_rfl
theorem aw_ren : renL ⟨[], 1, 1, true⟩ awL1 = some ⟨[102, 32, 120, 32, 61, 32, 120], 1, 8, false⟩ := by kernel_rfl
theorem aw_all : awL1.all prT = true := by kernel_rfl
theorem aw_prt (W : World) : PrtOk W awL1 := by
  intro t ht w' hq
  have hp : prT t = true := List.all_eq_true.1 aw_all t ht
  rw [hp]
  simp only [awL1, List.mem_cons, List.not_mem_nil, or_false] at ht
  rcases ht with rfl | rfl | rfl | rfl
  · exact printable_name _ W w' hq (.inl rfl) (by decide) (by decide) (by kernel_rfl) rfl (by kernel_rfl)
  · exact printable_name _ W w' hq (.inl rfl) (by decide) (by decide) (by kernel_rfl) rfl (by kernel_rfl)
  · exact printable_sym _ W w' hq (.inr rfl) (by decide) rfl rfl (by kernel_rfl)
  · exact printable_name _ W w' hq (.inl rfl) (by decide) (by decide) (by kernel_rfl) rfl (by kernel_rfl)
theorem aw_ok : ∀ t ∈ awL1, TokOk t := by
  intro t ht
  simp only [awL1, List.mem_cons, List.not_mem_nil, or_false] at ht
  rcases ht with rfl | rfl | rfl | rfl <;> exact ⟨by decide, by decide, by decide, by decide, by decide, by decide⟩
theorem aw_ne : ∀ t ∈ awL1, (txB t).size ≠ 0 := by
  intro t ht
  simp only [awL1, List.mem_cons, List.not_mem_nil, or_false] at ht
  rcases ht with rfl | rfl | rfl | rfl <;> decide
theorem aw_render (W w : World) (hq : Q W w) (oa : Option Addr) (ca : Nat) (h : Tks w oa 4 awL1) :
    Calls Tryz.prog 15 #[.slice oa 4 ca] w fun e w' => e = .returned (.tuple #[.string ⟨#[102, 32, 120, 32, 61, 32, 120]⟩, .int .i64 0]) ∧ Only (fun _ => False) w w' := by
  have h' := Render_yes W w hq oa 4 ca awL1 (by decide) h (aw_prt W) aw_all (by decide) aw_ok aw_ne
  rw [aw_ren] at h'
  exact h'.mono fun e w' ⟨he, ho⟩ => ⟨he, ho.new⟩
theorem aw_same (w : World) (oa : Option Addr) (ca : Nat) (h : Tks w oa 4 awL1) :
    Calls Tryz.prog 17 #[.slice oa 4 ca, .slice oa 4 ca] w fun e w' => e = .returned (.bool true) ∧ Only (fun _ => False) w w' := by
  have h' := Same_p w oa oa 4 4 ca ca awL1 awL1 (by decide) (by decide) h h
  rw [show sameL awL1 awL1 = true by kernel_rfl] at h'
  exact h'
theorem aw_qc (w : World) : Calls Tryz.prog 20 #[.int .i64 39] w fun e w' => e = .returned (.string ⟨#[39, 92, 39, 39]⟩) ∧ Only (fun _ => False) w w' := by
  have h := QuoteChar_p 39 w
  rw [show qcB 39 = ⟨#[39, 92, 39, 39]⟩ by kernel_rfl] at h
  exact h.mono fun e w' ⟨he, hb⟩ => ⟨he, Only.of_below hb⟩
theorem aw_qs (w : World) : Calls Tryz.prog 19 #[.string ⟨#[97, 10]⟩] w fun e w' => e = .returned (.string ⟨#[34, 97, 92, 110, 34]⟩) ∧ Only (fun _ => False) w w' := by
  have h := Quote_p ⟨#[97, 10]⟩ w (by decide)
  rw [show (⟨(qtL 34 (⟨#[97, 10]⟩ : ByteArray).data.toList).toArray⟩ : ByteArray) = ⟨#[34, 97, 92, 110, 34]⟩ by kernel_rfl] at h
  exact h.mono fun e w' ⟨he, hb⟩ => ⟨he, Only.of_below hb⟩
end Go.Proofs.YtakojceggpljoaaGreatDoor
