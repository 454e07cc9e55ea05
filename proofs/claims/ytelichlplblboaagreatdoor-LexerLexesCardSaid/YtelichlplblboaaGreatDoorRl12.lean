/-
  WALKS. The reference's Lex.
-/
import Derived.Test.YtelichlplblboaaGreatDoorRl11
namespace Go.Proofs.YtelichlplblboaaGreatDoor
open Go.RowKit Go.Maps
theorem blk_keepR {w w' : World} {g : Nat} {o : Obj} (h : w.heap[g]? = some o) (ho : Only (fun _ => False) w w') : w'.heap[g]? = some o := (ho.block g (lt_of_block h) (fun h => h)).trans h
theorem URes.post {s : ByteArray} {u : UU} {r : Ending} (h : URes s u r) : UPost s u r := by
  obtain ⟨_, _, _, _, _, _, _, _, rfl, h⟩ := h
  exact h
theorem rOne_u (s : ByteArray) (i : Nat) (u : UU) (W w : World) (hq : Q W w) (hz : s.size ≤ 65536) (hil : i < s.size) (h : unit s i = u) :
    Calls Tryz.prog 24 #[.string s, .int .i64 i] w fun r w' => UPost s u r ∧ Q W w' ∧ Only (fun _ => False) w w' := by
  subst h
  exact (rOne_p s i W w hq hz hil).mono fun r w' ⟨h1, h2, h3⟩ => ⟨h1.post, h2, h3⟩
/-- What the reference's Lex answers. -/
def RLPost (w : World) (R : LL) (r : Ending) (w' : World) : Prop :=
  (match R with
  | .ok l => ∃ tk, r = .returned (.tuple #[tk, fltV F0]) ∧ TR w' (w.heap.size + 1) tk l
  | .bad f => r = .returned (.tuple #[.slice none 0 0, fltV f])) ∧ Only (fun _ => False) w w'
set_option maxRecDepth 100000 in
set_option maxHeartbeats 8000000 in
theorem rLex_p (s : ByteArray) (W w : World) (hq : Q W w) (hz : s.size ≤ 65536) :
    Calls Tryz.prog 12 #[.string s] w (RLPost w (lexF s s.size 0 [])) := by
  obtain ⟨i0', hi, hz0, hz1, hz2⟩ := info_parts infoTok
  obtain ⟨R, hR⟩ : ∃ R, lexF s s.size 0 [] = R := ⟨_, rfl⟩
  rw [hR]
  have HR0 := Lib.hid hR
  clear hR
  have hle : decide (65536 < (s.size : Int)) = false := by simp; omega
  have hF0 := FB.new2 w
  go_enter Tryz.func12, Tryz.ntmps12
  go_wp2
  go_loopw [4, 5] (fun v jv wr => ∃ (k j : Nat) (ts : List Tok), s.size ≤ j + k ∧ j ≤ s.size ∧ jv = .int .i64 j ∧ Hid (lexF s k j ts = R) ∧ ts.length ≤ 16384 ∧ TR wr (w.heap.size + 1) v ts ∧ FB wr w.heap.size ∧ Only (fun _ => False) w wr) (fun _ jv _ => s.size - (intOf jv).toNat)
  case atStart => exact ⟨s.size, 0, [], by omega, by omega, rfl, HR0, by simp, World.ownsRow_nil _ _ _ _, hF0, fZ_only w⟩
  case round =>
    obtain ⟨k, j, ts, hk, hj, rfl, HF, hlen, hTR, hFB, hO⟩ := hrel
    obtain ⟨oa, ca, rfl⟩ := rowForm hTR
    have hsz := hO.size
    by_cases hlt : j < s.size
    · obtain ⟨k, rfl⟩ : ∃ m, k = m + 1 := ⟨k - 1, by omega⟩
      obtain ⟨y, hy⟩ : ∃ y, byteAt s j = y := ⟨_, rfl⟩
      have hSy : (((s[j]'hlt).toNat : Nat) : Int) = y := by rw [← byteAt_lt hlt]; exact hy
      have hqr : Q W wr := hq.only hO (fun _ h => h.elim)
      by_cases hbl : y = 32 ∨ y = 9 ∨ y = 10
      · have HFF : Hid (lexF s k (j + 1) ts = R) := Lib.hid (by rw [← HF.out]; conv => rhs; unfold lexF; rw [if_pos hlt, hy, if_pos hbl])
        have hcs : (y == 32) = true ∨ ((y == 32) = false ∧ (y == 9) = true) ∨ ((y == 32) = false ∧ (y == 9) = false ∧ (y == 10) = true) := by
          rcases hbl with rfl | rfl | rfl <;> simp
        clear hy hbl
        rcases hcs with b1 | ⟨b1, b2⟩ | ⟨b1, b2, b3⟩
        all_goals
          go_wp2
          go_roundw
          case rel => exact ⟨k, j + 1, ts, by omega, by omega, by go_num, HFF, hlen, hTR, hFB, hO⟩
          case measure => simp [intOf]; omega
      · have b1 : (y == 32) = false := by simp; intro h; exact hbl (.inl h)
        have b2 : (y == 9) = false := by simp; intro h; exact hbl (.inr (.inl h))
        have b3 : (y == 10) = false := by simp; intro h; exact hbl (.inr (.inr h))
        cases hu : unit s j with
        | bad g =>
          have HRE : Hid (R = .bad g) := Lib.hid (by rw [← HF.out]; unfold lexF; rw [if_pos hlt, hy, if_neg hbl, hu])
          have HU := Lib.hid hu
          clear hy hbl hu
          go_wp2_with (go_loud (first | (go_at_call 24; ((with_reducible refine (rOne_u s j _ W _ hqr hz hlt HU.out).mono ?_); rintro r w1 ⟨⟨code, a, nm, rfl, hg, hcode, ha⟩, hq1, hO1⟩; have ecode : (code != 0) = true := (by simpa using hcode))) | (go_at_call 25; ((with_reducible refine (rfault_p s a _ code nm _ hz ha rfl).mono ?_); rintro r w2 ⟨rfl, hO2⟩; have hO3 := ((hO.trans hO1).trans (uA_only w1 0 ⟨#[]⟩ ⟨#[]⟩ 0 0 code a nm)).trans hO2; have hFB2 := ((hFB.only hO1 (fun h => h)).only (uA_only w1 0 ⟨#[]⟩ ⟨#[]⟩ 0 0 code a nm) (fun h => h)).only hO2 (fun h => h); have f0 := hFB2.c0; have f1 := hFB2.c1; have f2 := hFB2.c2; have f3 := hFB2.c3; have z0 := hFB2.fz 0; have z1 := hFB2.fz 1; have z2 := hFB2.fz 2; have z3 := hFB2.fz 3))))
          rw [HRE.out]
          exact bodyPost_ret (v := .tuple #[.slice none 0 0, fltV (flt s code nm a)]) (by simp [results, Tryz.results12, go_sem, flt, nil8, f0, f1, f2, f3]) rfl ⟨by rw [hg], own_set4 hO3 (Nat.le_refl _) _ _ _ _⟩
        | skip e0 =>
          have HRE : Hid (lexF s k e0 ts = R) := Lib.hid (by rw [← HF.out]; conv => rhs; unfold lexF; rw [if_pos hlt, hy, if_neg hbl, hu])
          obtain ⟨g1, g2⟩ := (unit_end hlt).1 e0 hu
          have HU := Lib.hid hu
          clear hy hbl hu
          go_wp2_with (go_loud (first | (go_at_call 24; ((with_reducible refine (rOne_u s j _ W _ hqr hz hlt HU.out).mono ?_); rintro r w1 ⟨rfl, hq1, hO1⟩; have hO2 := hO1.trans (uA_only w1 0 ⟨#[]⟩ ⟨#[]⟩ 0 e0 0 0 ⟨#[]⟩)))))
          go_roundw
          case rel => exact ⟨k, e0, ts, by omega, g2, by go_num, HRE, hlen, hTR.only hO2 (fun _ h => h.elim), hFB.only hO2 (fun h => h), hO.trans hO2⟩
          case measure => simp [intOf]; omega
        | tok t e0 =>
          obtain ⟨g1, g2⟩ := (unit_end hlt).2 t e0 hu
          have eop : (t.op != 0) = true := by simpa using unit_op hlt hu
          have HRE : Hid ((if ts.length = 16384 then LL.bad (flt s 3 nil8 j) else lexF s k e0 (ts ++ [t.at' (pos s j)])) = R) := Lib.hid (by rw [← HF.out]; conv => rhs; unfold lexF; rw [if_pos hlt, hy, if_neg hbl, hu])
          have HU := Lib.hid hu
          clear hy hbl hu
          by_cases hfull : ts.length = 16384
          · have HRF : Hid (R = .bad (flt s 3 nil8 j)) := Lib.hid (by rw [← HRE.out, if_pos hfull])
            have el : ((ts.length : Int) == 16384) = true := by simp; omega
            go_wp2_with (go_loud (first | (go_at_call 24; ((with_reducible refine (rOne_u s j _ W _ hqr hz hlt HU.out).mono ?_); rintro r w1 ⟨rfl, hq1, hO1⟩)) | (go_at_call 25; ((with_reducible refine (rfault_p s j _ 3 ⟨#[]⟩ _ hz hj rfl).mono ?_); rintro r w2 ⟨rfl, hO2⟩; have hO3 := ((hO.trans hO1).trans (uA_only w1 t.op t.qual t.text t.n e0 0 0 ⟨#[]⟩)).trans hO2; have hFB2 := ((hFB.only hO1 (fun h => h)).only (uA_only w1 t.op t.qual t.text t.n e0 0 0 ⟨#[]⟩) (fun h => h)).only hO2 (fun h => h); have f0 := hFB2.c0; have f1 := hFB2.c1; have f2 := hFB2.c2; have f3 := hFB2.c3; have z0 := hFB2.fz 0; have z1 := hFB2.fz 1; have z2 := hFB2.fz 2; have z3 := hFB2.fz 3))))
            rw [HRF.out]
            exact bodyPost_ret (v := .tuple #[.slice none 0 0, fltV (flt s 3 nil8 j)]) (by simp [results, Tryz.results12, go_sem, flt, nil8, f0, f1, f2, f3]) rfl ⟨rfl, own_set4 hO3 (Nat.le_refl _) _ _ _ _⟩
          · have el : ((ts.length : Int) == 16384) = false := by simp; omega
            obtain ⟨l, hl⟩ : ∃ l, (pos s j).line = l := ⟨_, rfl⟩
            obtain ⟨m, hm⟩ : ∃ m, (pos s j).col = m := ⟨_, rfl⟩
            have HRF : Hid (lexF s k e0 (ts ++ [t.at' ⟨0, l, m⟩]) = R) := Lib.hid (by rw [← HRE.out, if_neg hfull]; rw [← hl, ← hm]; rfl)
            have HPL : Hid (∀ w : World, Calls Tryz.prog 26 #[.string s, .int .i64 j] w fun e w' => e = .returned (.tuple #[.int .i64 l, .int .i64 m]) ∧ w = w') := Lib.hid (fun w => hl ▸ hm ▸ rplace_p s j w (by omega) hj)
            have HONE := one_tok (t.at' ⟨0, l, m⟩)
            have hlen' : ts.length + 1 ≤ 16384 := by omega
            have hKx : ∀ g, Value.ownBlock (.slice oa ts.length ca) = some g → w.heap.size + 1 ≤ g := fun g hg => (World.ownsRow.lt hTR g hg).1
            have hKx2 : ∀ g, Value.ownBlock (.slice oa ts.length ca) = some g → g < wr.heap.size := fun g hg => (World.ownsRow.lt hTR g hg).2
            clear hl hm hfull
            go_wp2_with (go_loud (first | (go_at_call 24; ((with_reducible refine (rOne_u s j _ W _ hqr hz hlt HU.out).mono ?_); rintro r w1 ⟨rfl, hq1, hO1⟩; have hz1' := hO1.size; have hTR1 := hTR.only hO1 (fun _ h => h.elim); have hO2 : Only (fun _ => False) w1 (w1.alloc (.cells #[.int .i64 t.op, .string t.qual, .string t.text, .int .i64 t.n, .bool false, .int .i64 l, .int .i64 m, .int .i64 e0, .int .i64 0, .int .i64 0, .string ⟨#[]⟩] 49)) := Only.of_below ((Below.refl _ _).alloc (Nat.le_refl _) _); have hb0 := new_block w1 (.cells #[.int .i64 t.op, .string t.qual, .string t.text, .int .i64 t.n, .bool false, .int .i64 l, .int .i64 m, .int .i64 e0, .int .i64 0, .int .i64 0, .string ⟨#[]⟩] 49); have hbz : (w1.alloc (.cells #[.int .i64 t.op, .string t.qual, .string t.text, .int .i64 t.n, .bool false, .int .i64 l, .int .i64 m, .int .i64 e0, .int .i64 0, .int .i64 0, .string ⟨#[]⟩] 49)).heap.size = w1.heap.size + 1 := (by show (w1.heap.push _).size = _; simp))) | (go_at_call 26; ((with_reducible refine (HPL.out _).mono ?_); rintro r w' ⟨rfl, rfl⟩)) | (at_builtin; (refine wpList_append_own_at _ rfl _ _ 23 rfl (w.heap.size + 1) 38 i0' (.agg #[.int .i64 0, .string ⟨#[]⟩, .string ⟨#[]⟩, .int .i64 0, .bool false, .int .i64 0, .int .i64 0]) 7 72 Tryz.underlying23 hi hz0 hz1 hz2 rfl (by decide) (.slice oa ts.length ca) _ _ rfl (World.ownsRow.alloc (World.ownsRow.alloc hTR1 _) _) ⟨w1.heap.size + 1, 0, none⟩ 1 1 (tokCells (t.at' ⟨0, l, m⟩)) rfl rfl (by rw [← hbz]; exact World.news_of_block (new_block _ _)) HONE (by unfold maxLen; omega) (by omega) (by show w.heap.size + 1 ≤ ((w1.heap.push _).push _).size; simp only [Array.size_push]; omega) ?_); (intro v' w6 hown' hgrow hnn hob; clear hnn hob; obtain ⟨ob, cb, rfl⟩ := rowForm hown'; have hTR6 := TR.snoc (t := t.at' ⟨0, l, m⟩) hown'; clear hown'; have hO3 : Only (fun _ => False) _ _ := hO2.trans (Only.of_below (K := fun _ => False) ((Below.refl _ _).alloc (Nat.le_refl _) (.cells (tokCells (t.at' ⟨0, l, m⟩)).toArray 38))); have hb1 := blk_keepR hb0 (Only.of_below (K := fun _ => False) ((Below.refl _ (w1.alloc (.cells #[.int .i64 t.op, .string t.qual, .string t.text, .int .i64 t.n, .bool false, .int .i64 l, .int .i64 m, .int .i64 e0, .int .i64 0, .int .i64 0, .string ⟨#[]⟩] 49))).alloc (Nat.le_refl _) (.cells (tokCells (t.at' ⟨0, l, m⟩)).toArray 38))); have hb6 := (hgrow.block w1.heap.size (lt_of_block hb1) (fun hx => by have := hKx2 _ hx.symm; omega)).trans hb1; have q7 : w6.cell? ⟨w1.heap.size, 7, none⟩ = some (.int .i64 e0) := (by simp [World.cell?, hb6]); have hFB6 := (((hFB.only hO1 (fun h => h)).only hO3 (fun h => h)).grown hgrow (fun hx => by have := hKx _ hx; omega)); have hO6 := ((hO.trans hO1).trans hO3).then (Only.grown (K := fun i => w.heap.size + 1 ≤ i) hgrow (fun g hg => hKx g hg)) (fun i hi => .inr (by omega))))))
            go_roundw
            case rel => exact ⟨k, e0, ts ++ [t.at' ⟨0, l, m⟩], by omega, g2, by go_num, HRF, by simp; omega, hTR6, hFB6, hO6⟩
            case measure => simp [intOf]; omega
    · have HRE : Hid (R = .ok ts) := Lib.hid (by
        rw [← HF.out]
        cases k with
        | zero => rfl
        | succ k => unfold lexF; rw [if_neg hlt])
      have hle2 : s.size ≤ j := by omega
      have f0 := hFB.c0
      have f1 := hFB.c1
      have f2 := hFB.c2
      have f3 := hFB.c3
      have z0 := hFB.fz 0
      have z1 := hFB.fz 1
      have z2 := hFB.fz 2
      have z3 := hFB.fz 3
      go_wp2
      rw [HRE.out]
      exact bodyPost_ret (v := .tuple #[.slice oa ts.length ca, fltV F0]) (by simp [results, Tryz.results12, go_sem, flt, nil8, f0, f1, f2, f3]) rfl ⟨⟨_, rfl, hTR.only (Only.set4 _ w.heap.size _ _ _ _) (fun i hi => by omega)⟩, own_set4 hO (Nat.le_refl _) _ _ _ _⟩
set_option maxRecDepth 100000 in
set_option maxHeartbeats 2000000 in
theorem rLex_long (s : ByteArray) (w : World) (hl : 65536 < s.size) :
    Calls Tryz.prog 12 #[.string s] w (RLPost w (.bad ⟨3, nil8, 0, 0⟩)) := by
  have hle : decide (65536 < (s.size : Int)) = true := by simp; omega
  go_enter Tryz.func12, Tryz.ntmps12
  go_wp2
  exact bodyPost_ret (v := .tuple #[.slice none 0 0, fltV ⟨3, nil8, 0, 0⟩]) (by simp [results, Tryz.results12, go_sem, nil8]) rfl ⟨rfl, Only.of_below ((Below.refl _ _).alloc (Nat.le_refl _) _)⟩
end Go.Proofs.YtelichlplblboaaGreatDoor
