/-
  WALKS. LayoutDepth.
-/
import Derived.Test.YtkdogaomlocijaaLyU
import Derived.Laws.AppendOwnNone
import Derived.Test.YtkdogaomlocijaaIns11
namespace Go.Proofs.Ytkdogaomlocijaa
open Go.RowKit Go.Maps
/-- The cells of tokens that are read. -/
theorem Tks.news {w : World} {ad : Addr} {n : Nat} {ts : List Tok} (h : Tks w (some ad) n ts) : ∀ j u, (ts.flatMap tokCells)[j]? = some u → w.cell? (ad.add j) = some u := by
  intro j u hu
  have hj : j < (ts.flatMap tokCells).length := (List.getElem?_eq_some_iff.1 hu).1
  rw [flat_len 7 tokCells tokCells_len] at hj
  have hk : j / 7 < ts.length := by omega
  obtain ⟨b, o, ha, hc⟩ := h.cell (j / 7) hk
  cases ha
  have hi : j % 7 < 7 := Nat.mod_lt _ (by decide)
  have e : j = j / 7 * 7 + j % 7 := by omega
  rw [e, flat_getM 7 tokCells tokCells_len ts (j / 7) (j % 7) hk hi] at hu
  rw [add_plain]
  have e2 : o + j = o + j / 7 * 7 + j % 7 := by omega
  rw [e2]
  have key : ∀ i, i = j % 7 → (tokCells ts[j / 7])[i]? = some u → w.cell? ⟨b, o + j / 7 * 7 + i, none⟩ = some u := by
    intro i hie hu
    have hi7 : i < 7 := by omega
    clear hie
    match i, hi7 with
    | 0, _ => cases hu; exact hc.c0
    | 1, _ => cases hu; exact hc.c1
    | 2, _ => cases hu; exact hc.c2
    | 3, _ => cases hu; exact hc.c3
    | 4, _ => cases hu; exact hc.c4
    | 5, _ => cases hu; exact hc.c5
    | 6, _ => cases hu; exact hc.c6
  exact key _ rfl hu
theorem TR.tks' {w : World} {B n ca : Nat} {oa : Option Addr} {ts : List Tok} (h : TR w B (.slice oa n ca) ts) : Tks w oa n ts := by
  have hn : n = ts.length := by
    rcases h.2 with ⟨hv, hn⟩ | ⟨g, cap, cur, hv, -⟩
    · cases hv; exact hn.symm
    · cases hv; rfl
  subst hn
  exact TR.tks h
theorem one_toks (ts : List Tok) : ∀ u ∈ ts.flatMap tokCells, u.oneCell' = true := by
  intro u hu
  obtain ⟨t, -, ht⟩ := List.mem_flatMap.1 hu
  exact one_tok t u ht
abbrev tkS (s : ByteArray) : Tok := ⟨8, ⟨#[]⟩, s, 0, false, 0, 0⟩
/-- One token in a new block. -/
theorem TR.one (w : World) (t : Tok) {B : Nat} (hB : B ≤ w.heap.size) : TR (w.alloc (.cells (tokA t) 34)) B (.slice (some ⟨w.heap.size, 0, none⟩) 1 1) [t] :=
  ⟨rfl, .inr ⟨w.heap.size, 1, tokA t, rfl, hB, new_block _ _, Nat.le_refl _, by decide, rfl, rfl⟩⟩
set_option maxRecDepth 100000 in
theorem DepthL_far (w : World) (oa : Option Addr) (n ca : Nat) (hn : ¬ n ≤ 3000) :
    Calls Try.prog 7 #[.slice oa n ca] w fun e w' => e = .returned (.bool true) ∧ Only (fun _ => False) w w' := by
  go_enter Try.func7, Try.ntmps7
  go_wp2_with (first | (go_at_call 8; refine (few_p oa n ca _ false (decide_eq_false hn)).mono ?_; rintro r w9 ⟨rfl, rfl⟩) | (go_at_call 9; refine (example_p _).mono ?_; rintro r w1 ⟨rfl, hO1⟩))
  go_ret
  exact ⟨rfl, hO1⟩
set_option maxRecDepth 100000 in
set_option maxHeartbeats 8000000 in
theorem DepthL_nil (w : World) (ts : List Tok) (hts : ts = []) :
    Calls Try.prog 7 #[.slice none 0 0] w fun e w' => e = .returned (.bool true) ∧ Only (fun _ => False) w w' := by
  subst hts
  have hT : Tks w none 0 [] := ⟨rfl, fun k hk => absurd hk (by simp)⟩
  have hn : (0 : Nat) ≤ 3000 := by decide
  obtain ⟨i0', hi, hz0, hz1, hz2⟩ := info_parts infoTok
  have HI0 := Lib.hid hi
  have HZ0 := Lib.hid hz0
  have HZ1 := Lib.hid hz1
  have HZ2 := Lib.hid hz2
  clear hi hz0 hz1 hz2
  obtain ⟨D, hD⟩ : ∃ D, depL ([] : List Tok) = D := ⟨_, rfl⟩
  have hbd := depK_bd ([] : List Tok) ([] : List Tok).length
  rw [depK_end ([] : List Tok) (Nat.le_refl _), hD] at hbd
  have hbl : ((([] : List Tok)).length : Int) ≤ 3000 := by simp
  obtain ⟨-, -, hD0, hD1⟩ := hbd
  have hDb : D ≤ 3000 := by omega
  have HD := Lib.hid hD
  have HD2 : Hid (depL ([tkS ⟨#[123]⟩] ++ [tkS ⟨#[125]⟩]) = D + 1) := Lib.hid (by have := dep_around ([] : List Tok) (tkS ⟨#[123]⟩) (tkS ⟨#[125]⟩) rfl rfl; rw [hD] at this; exact this)
  clear hD hD1 hbl
  go_enter Try.func7, Try.ntmps7
  go_wp2_with (first | (go_at_call 8; refine (few_p none 0 0 _ true (decide_eq_true hn)).mono ?_; rintro r w9 ⟨rfl, rfl⟩) | (go_at_call 18; ((with_reducible refine (word_p 8 ⟨#[123]⟩ _).mono ?_); rintro r w1 ⟨rfl, hO1⟩; have hR1 := TR.one w1 (tkS ⟨#[123]⟩) (B := w.heap.size) hO1.size; have hOa : Only (fun _ => False) w (w1.alloc (.cells (tokA (tkS ⟨#[123]⟩)) 34)) := Only.alloc hO1 _; have hTa := hT.keep hOa)) | (at_builtin; (refine wpList_append_own_none rfl (.tmp 10) (.tmp 11) 22 rfl w.heap.size 34 i0' 7 Try.underlying22 HI0.out (.slice (some ⟨w1.heap.size, 0, none⟩) 1 1) 1 (tokCells (tkS ⟨#[123]⟩)) rfl hR1 rfl ?_); have hR2 := hR1; have hO2 := hOa; obtain ⟨o2, c2, hv2⟩ := rowForm hR2; have hT2 := hT.keep hO2) | (go_at_call 17; ((with_reducible refine (Depth_v _ none 0 0 ([] : List Tok) _ (by omega) hT2 HD.out).mono ?_); rintro r w3 ⟨rfl, hO3⟩)) | (go_at_call 18; ((with_reducible refine (word_p 8 ⟨#[125]⟩ _).mono ?_); rintro r w4 ⟨rfl, hO4⟩; have hO24 := (hO3.trans hO4).alloc (.cells (tokA (tkS ⟨#[125]⟩)) 34); have hR4 := hR2.only hO24 (fun _ _ hc => hc))) | (at_builtin; (refine wpList_append_own_at _ rfl (.tmp 15) (.tmp 17) 22 rfl w.heap.size 34 i0' (.agg #[.int .i64 0, .string ⟨#[]⟩, .string ⟨#[]⟩, .int .i64 0, .bool false, .int .i64 0, .int .i64 0]) 7 72 Try.underlying22 HI0.out HZ0.out HZ1.out HZ2.out rfl (by decide) (.slice (some ⟨w1.heap.size, 0, none⟩) 1 1) 1 ([tkS ⟨#[123]⟩].flatMap tokCells) rfl hR4 ⟨w4.heap.size, 0, none⟩ 1 1 (tokCells (tkS ⟨#[125]⟩)) rfl rfl (World.news_of_block (new_block w4 _)) (one_tok _) (by have := hT.len; unfold maxLen; omega) (by have := hT.len; omega) (by show w.heap.size ≤ (w4.heap.push _).size; have := ((hO2.trans hO3).trans hO4).size; simp only [Array.size_push]; omega) ?_); (intro v5 w5 hown5 hgrow5 hnn5 hob5; clear hnn5 hob5; have hO5 : Only (fun _ => False) w w5 := (hO2.trans hO24).then (Only.grown (K := fun i => w.heap.size ≤ i) hgrow5 (fun g hg => (World.ownsRow.lt hR4 g hg).1)) (fun i hi => .inr hi); have hR5 : TR w5 w.heap.size v5 ([tkS ⟨#[123]⟩] ++ [tkS ⟨#[125]⟩]) := TR.snoc hown5; clear hown5 hgrow5; obtain ⟨o5, c5, hv5⟩ := rowForm hR5; rw [show ([tkS ⟨#[123]⟩] ++ [tkS ⟨#[125]⟩]).length = 2 from by simp] at hv5; subst hv5; have hT5 := hT.keep hO5)) | (go_at_call 19; ((with_reducible refine (rDepth_v _ none 0 0 ([] : List Tok) _ (by omega) hT5 HD.out).mono ?_); rintro r w6 ⟨rfl, hO6⟩; have hT6 := TR.tks' (hR5.only hO6 (fun _ _ hc => hc)))) | (go_at_call 17; ((with_reducible refine (Depth_v _ o5 2 c5 ([tkS ⟨#[123]⟩] ++ [tkS ⟨#[125]⟩]) _ (by omega) hT6 HD2.out).mono ?_); rintro r w7 ⟨rfl, hO7⟩)) | (go_at_call 9; refine (example_p _).mono ?_; rintro r w8 ⟨rfl, hO8⟩))
  go_ret
  exact ⟨rfl, ((hO5.trans hO6).trans hO7).trans hO8⟩
set_option maxRecDepth 100000 in
set_option maxHeartbeats 8000000 in
theorem DepthL_ok (w : World) (ad : Addr) (n ca : Nat) (ts : List Tok) (hn : n ≤ 3000) (hT : Tks w (some ad) n ts) :
    Calls Try.prog 7 #[.slice (some ad) n ca] w fun e w' => e = .returned (.bool true) ∧ Only (fun _ => False) w w' := by
  obtain ⟨i0', hi, hz0, hz1, hz2⟩ := info_parts infoTok
  have HI0 := Lib.hid hi
  have HZ0 := Lib.hid hz0
  have HZ1 := Lib.hid hz1
  have HZ2 := Lib.hid hz2
  clear hi hz0 hz1 hz2
  obtain ⟨D, hD⟩ : ∃ D, depL ts = D := ⟨_, rfl⟩
  have hbd := depK_bd ts ts.length
  rw [depK_end ts (Nat.le_refl _), hD] at hbd
  have hbl : ((ts).length : Int) ≤ 3000 := by have := hT.len; omega
  obtain ⟨-, -, hD0, hD1⟩ := hbd
  have hDb : D ≤ 3000 := by omega
  have HD := Lib.hid hD
  have HD2 : Hid (depL ((tkS ⟨#[123]⟩ :: ts) ++ [tkS ⟨#[125]⟩]) = D + 1) := Lib.hid (by have := dep_around ts (tkS ⟨#[123]⟩) (tkS ⟨#[125]⟩) rfl rfl; rw [hD] at this; exact this)
  clear hD hD1 hbl
  go_enter Try.func7, Try.ntmps7
  go_wp2_with (first | (go_at_call 8; refine (few_p (some ad) n ca _ true (decide_eq_true hn)).mono ?_; rintro r w9 ⟨rfl, rfl⟩) | (go_at_call 18; ((with_reducible refine (word_p 8 ⟨#[123]⟩ _).mono ?_); rintro r w1 ⟨rfl, hO1⟩; have hR1 := TR.one w1 (tkS ⟨#[123]⟩) (B := w.heap.size) hO1.size; have hOa : Only (fun _ => False) w (w1.alloc (.cells (tokA (tkS ⟨#[123]⟩)) 34)) := Only.alloc hO1 _; have hTa := hT.keep hOa)) | (at_builtin; (refine wpList_append_own_at _ rfl (.tmp 10) (.tmp 11) 22 rfl w.heap.size 34 i0' (.agg #[.int .i64 0, .string ⟨#[]⟩, .string ⟨#[]⟩, .int .i64 0, .bool false, .int .i64 0, .int .i64 0]) 7 72 Try.underlying22 HI0.out HZ0.out HZ1.out HZ2.out rfl (by decide) (.slice (some ⟨w1.heap.size, 0, none⟩) 1 1) 1 (tokCells (tkS ⟨#[123]⟩)) rfl hR1 ad n ca (ts.flatMap tokCells) rfl (by rw [flat_len 7 tokCells tokCells_len, hT.len]) hTa.news (one_toks ts) (by unfold maxLen; omega) (by omega) (by show w.heap.size ≤ (w1.heap.push _).size; have := hO1.size; simp only [Array.size_push]; omega) ?_); (intro v2 w2 hown2 hgrow2 hnn2 hob2; clear hnn2 hob2; have hO2 : Only (fun _ => False) w w2 := hOa.then (Only.grown (K := fun i => w.heap.size ≤ i) hgrow2 (fun g hg => (World.ownsRow.lt hR1 g hg).1)) (fun i hi => .inr hi); have hR2 : TR w2 w.heap.size v2 (tkS ⟨#[123]⟩ :: ts) := (by unfold TR; rw [List.length_cons, hT.len, Nat.add_comm]; exact hown2); clear hown2 hgrow2; obtain ⟨o2, c2, hv2⟩ := rowForm hR2; subst hv2; have hT2 := hT.keep hO2)) | (go_at_call 17; ((with_reducible refine (Depth_v _ (some ad) n ca ts _ (by omega) hT2 HD.out).mono ?_); rintro r w3 ⟨rfl, hO3⟩)) | (go_at_call 18; ((with_reducible refine (word_p 8 ⟨#[125]⟩ _).mono ?_); rintro r w4 ⟨rfl, hO4⟩; have hO24 := (hO3.trans hO4).alloc (.cells (tokA (tkS ⟨#[125]⟩)) 34); have hR4 := hR2.only hO24 (fun _ _ hc => hc))) | (at_builtin; (refine wpList_append_own_at _ rfl (.tmp 15) (.tmp 17) 22 rfl w.heap.size 34 i0' (.agg #[.int .i64 0, .string ⟨#[]⟩, .string ⟨#[]⟩, .int .i64 0, .bool false, .int .i64 0, .int .i64 0]) 7 72 Try.underlying22 HI0.out HZ0.out HZ1.out HZ2.out rfl (by decide) (.slice o2 (ts.length + 1) c2) (ts.length + 1) ((tkS ⟨#[123]⟩ :: ts).flatMap tokCells) rfl hR4 ⟨w4.heap.size, 0, none⟩ 1 1 (tokCells (tkS ⟨#[125]⟩)) rfl rfl (World.news_of_block (new_block w4 _)) (one_tok _) (by have := hT.len; unfold maxLen; omega) (by have := hT.len; omega) (by show w.heap.size ≤ (w4.heap.push _).size; have := ((hO2.trans hO3).trans hO4).size; simp only [Array.size_push]; omega) ?_); (intro v5 w5 hown5 hgrow5 hnn5 hob5; clear hnn5 hob5; have hO5 : Only (fun _ => False) w w5 := (hO2.trans hO24).then (Only.grown (K := fun i => w.heap.size ≤ i) hgrow5 (fun g hg => (World.ownsRow.lt hR4 g hg).1)) (fun i hi => .inr hi); have hR5 : TR w5 w.heap.size v5 ((tkS ⟨#[123]⟩ :: ts) ++ [tkS ⟨#[125]⟩]) := TR.snoc hown5; clear hown5 hgrow5; obtain ⟨o5, c5, hv5⟩ := rowForm hR5; rw [show ((tkS ⟨#[123]⟩ :: ts) ++ [tkS ⟨#[125]⟩]).length = (ts.length + 1 + 1) from by simp] at hv5; subst hv5; have hT5 := hT.keep hO5)) | (go_at_call 19; ((with_reducible refine (rDepth_v _ (some ad) n ca ts _ (by omega) hT5 HD.out).mono ?_); rintro r w6 ⟨rfl, hO6⟩; have hT6 := TR.tks' (hR5.only hO6 (fun _ _ hc => hc)))) | (go_at_call 17; ((with_reducible refine (Depth_v _ o5 (ts.length + 1 + 1) c5 ((tkS ⟨#[123]⟩ :: ts) ++ [tkS ⟨#[125]⟩]) _ (by have := hT.len; omega) hT6 HD2.out).mono ?_); rintro r w7 ⟨rfl, hO7⟩)) | (go_at_call 9; refine (example_p _).mono ?_; rintro r w8 ⟨rfl, hO8⟩))
  go_ret
  exact ⟨rfl, ((hO5.trans hO6).trans hO7).trans hO8⟩
end Go.Proofs.Ytkdogaomlocijaa
