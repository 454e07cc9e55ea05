/-
  WALKS. The inserter: insert.
-/
import Derived.Test.YthblchafjmgmbaaLyE
namespace Go.Proofs.Ythblchafjmgmbaa
open Go.RowKit Go.Maps
section
variable {w : World} {b : Nat} {ve vo : Value} {s : St}
set_option maxRecDepth 100000 in
set_option maxHeartbeats 2000000 in
theorem insert_p (h : IS w b ve vo s) (hk : Ok 1 s) (c : UInt8) : Calls Try.prog 26 #[.pointer (some ⟨b, 0, none⟩), .string ⟨#[c]⟩] w fun r w' => r = .returned (.tuple #[]) ∧ ∃ vo', IS w' b ve vo' (insS s c) ∧ Only (KE b vo) w w' ∧ Frm w b ve vo w' ve vo' := by
  have hbx := h.lt
  have hz := hk.out_le
  obtain ⟨oa, ca, rfl⟩ := h.olen
  obtain ⟨i0', hi, hz0, hz1, hz2⟩ := info_parts infoTok
  have HOWN : w.ownsRow (b + 1) 33 7 (.slice oa s.out.length ca) s.out.length (s.out.flatMap tokCells) := h.out
  have HP : Hid (insS s c = { s with out := s.out ++ [insT c] }) := Lib.hid rfl
  have c2 := h.c2
  have z2 := h.fz 2
  go_enter Try.func26, Try.ntmps26
  go_wp2_with (at_builtin; refine wpList_append_lies _ rfl _ _ 22 rfl (b + 1) 33 i0' (.agg #[.int .i64 0, .string ⟨#[]⟩, .string ⟨#[]⟩, .int .i64 0, .bool false, .int .i64 0, .int .i64 0]) 7 72 Try.underlying22 hi hz0 hz1 hz2 rfl (by decide) (.slice oa s.out.length ca) s.out.length (s.out.flatMap tokCells) rfl (World.ownsRow.alloc HOWN _) ⟨w.heap.size, 0, none⟩ 1 1 (tokCells (insT c)) rfl rfl (World.news_of_block (new_block w _)) (one_tok _) Nat.one_pos (by unfold maxLen; omega) (by omega) (by show b + 1 ≤ (w.heap.push _).size; simp only [Array.size_push]; omega) _ rfl ?_; intro g cg w3 hown' hgrow hat hlt'; have hS3 := IS.grownO (h.same ((Only.refl _ _).alloc _)) hgrow; have f2 := (blk_c (k := 2) hS3.1 rfl).1; have g2 := (blk_c (k := 2) hS3.1 rfl).2; have hTR := TR.snoc (t := insT c) hown'; have hO3 : Only (KE b (.slice oa s.out.length ca)) w w3 := (((Only.refl _ _).alloc _)).trans (Only.grown hgrow (fun k hk => .inr hk)); have HAT := Lib.hid hat; clear hown' hgrow HOWN)
  have hbl : ∀ g', (Value.slice (some ⟨g, 0, none⟩) (s.out.length + 1) cg).ownBlock = some g' → (Value.slice oa s.out.length ca).ownBlock = some g' ∨ w.heap.size ≤ g' := fun g' hg' => by
    have hgg : g = g' := Option.some.inj hg'
    rcases HAT.out with e | e
    · exact .inl (hgg ▸ e)
    · right
      have e3 : g = (w.heap.push (.cells (tokA (insT c)) 33)).size := e
      rw [Array.size_push] at e3
      omega
  go_end0
  exact ⟨rfl, _, by rw [HP.out]; exact IS.put (s := s) hS3.1 rfl hS3.2 hTR, hO3.setCell (.inl rfl) _, ⟨(hO3.setCell (.inl rfl) _).wide (fun i hi => hi.elim .inl (fun e => .inr (.inr e))), fun _ hg => .inl hg, hbl⟩⟩
end
end Go.Proofs.Ythblchafjmgmbaa
