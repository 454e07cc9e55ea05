/-
  WALKS. strings.Builder: WriteString, WriteByte, Write, Len, String.
-/
import Derived.Test.YtakojceggpljoaaGreatDoorBld
namespace Go.Proofs.YtakojceggpljoaaGreatDoor
open Go.RowKit Go.Maps
section
variable {w : World} {b B : Nat} {T : TypeId} {rest : List Value} {l : List UInt8}
/-- The builder's block, and rows of bytes. -/
def Fine (w : World) (b : Nat) (k : Nat) : Prop := k = b ∨ ∃ c, w.heap[k]? = some (.cells c 5 (0, 0))
theorem Only.fine {w w1 w2 : World} {b : Nat} (h : Only (· = b) w w1) (h2 : Only (Fine w1 b) w1 w2) : Only (Fine w b) w w2 := by
  refine ⟨h2.os.trans h.os, h2.tape.trans h.tape, h2.output.trans h.output, Nat.le_trans h.size h2.size, fun k hk hn => ?_⟩
  have hb : k ≠ b := fun e => hn (.inl e)
  have e1 := h.block k hk hb
  refine (h2.block k (Nat.lt_of_lt_of_le hk h.size) (fun hc => hc.elim hb (fun ⟨c, hc⟩ => hn (.inr ⟨c, ?_⟩)))).trans e1
  rw [← e1]; exact hc
theorem BR.fine {w1 w2 : World} {v v' : Value} (hR : BR w1 B v l) (hg : w1.grownBy w2 v.ownBlock) : Only (Fine w1 b) w1 (w2.setCell ⟨b, 1, none⟩ v') :=
  Only.setCell (k := 1) (Only.grown hg (fun k hk => by
    rcases hR.2 with ⟨hv, _⟩ | ⟨g, cap, cur, hv, _, hb, _⟩
    · rw [hv] at hk; cases hk
    · rw [hv] at hk
      obtain rfl : g = k := by simpa [Value.ownBlock] using hk
      exact .inr ⟨cur, hb⟩)) (.inl rfl) _
/-- What a write leaves. -/
def Wrote (w : World) (b : Nat) (T : TypeId) (rest : List Value) (B : Nat) (l : List UInt8) (w' : World) : Prop :=
  BA w' b T rest B (.pointer (some ⟨b, 0, none⟩)) l ∧ Only (fun k => k = b ∨ B ≤ k) w w' ∧ Only (Fine w b) w w'
theorem BR.len' {w : World} {v : Value} (h : BR w B v l) : ∃ oa n ca, v = .slice oa n ca := by
  obtain ⟨oa, ca, h⟩ := rowForm h
  exact ⟨oa, _, ca, h⟩
theorem BR.len {w : World} {v : Value} (h : BR w B v l) : ∃ oa ca, v = .slice oa l.length ca := rowForm h
set_option maxHeartbeats 2000000 in
set_option maxRecDepth 100000 in
theorem WriteString_p (h : BB w b T rest B l) (hl : Lies T rest.length) (s : ByteArray) (hlen : l.length + s.size ≤ 1000000000) (hBw : B ≤ w.heap.size) :
    Calls Tryz.prog 74 #[.pointer (some ⟨b, 0, none⟩), .string s] w fun e w' => e = .returned (.tuple #[.int .i64 s.size, .nilIface]) ∧ Wrote w b T rest B (l ++ s.data.toList) w' := by
  obtain ⟨u0, hu, hu0, hu1, hu2⟩ := info_parts infoU8
  go_enter Tryz.func74, Tryz.ntmps74
  go_wp2_with (go_at_call 102; refine (copyCheck_p h hl).mono ?_)
  rintro e w1 ⟨rfl, h1, hO1⟩
  obtain ⟨hB, v, hbk, hown⟩ := h1
  have hz1 := hO1.size
  have c0 : w1.cell? ⟨b, 0, none⟩ = some (.pointer (some ⟨b, 0, none⟩)) := by simp [World.cell?, hbk]
  have c1 : w1.cell? ⟨b, 1, none⟩ = some v := by simp [World.cell?, hbk]
  go_wp2_with (at_builtin; refine Lib.wpList_append_own_string _ rfl _ _ 31 9 rfl B 5 u0 Tryz.underlying31 Tryz.underlying9 hu hu0 hu1 hu2 _ _ _ rfl hown s rfl ?c3 ?c4 ?c5 ?_)
  case c3 => unfold maxLen; omega
  case c4 => omega
  case c5 => omega
  intro v' w2 hown' hgrow _
  have hR2 : BR w2 B v' (l ++ s.data.toList) := by
    unfold BR
    rw [List.length_append, List.map_append]
    have e : s.data.toList.length = s.size := by rw [Array.length_toList]; rfl
    rw [e]; exact hown'
  obtain ⟨hA, hO2, d0, d1, f1⟩ := BA.stored hB hbk hown hgrow hR2
  have hFn := hO1.fine (BR.fine (v' := v') hown hgrow)
  obtain ⟨oa, n', ca, rfl⟩ := BR.len' hR2
  clear hown' hgrow hR2 hown hbk
  go_wp2
  go_ret2
  exact ⟨rfl, hA, (hO1.wide (fun k hk => .inl hk)).trans hO2, hFn⟩
set_option maxHeartbeats 2000000 in
set_option maxRecDepth 100000 in
theorem WriteByte_p (h : BB w b T rest B l) (hl : Lies T rest.length) (c : Int) (hc0 : 0 ≤ c) (hc1 : c ≤ 255) (hlen : l.length + 1 ≤ 1000000000) (hBw : B ≤ w.heap.size) :
    Calls Tryz.prog 80 #[.pointer (some ⟨b, 0, none⟩), .int .u8 c] w fun e w' => e = .returned .nilIface ∧ Wrote w b T rest B (l ++ [c.toNat.toUInt8]) w' := by
  obtain ⟨u0, hu, hu0, hu1, hu2⟩ := info_parts infoU8
  go_enter Tryz.func80, Tryz.ntmps80
  go_wp2_with (go_at_call 102; refine (copyCheck_p h hl).mono ?_)
  rintro e w1 ⟨rfl, h1, hO1⟩
  obtain ⟨hB, v, hbk, hown⟩ := h1
  have hz1 := hO1.size
  have c0 : w1.cell? ⟨b, 0, none⟩ = some (.pointer (some ⟨b, 0, none⟩)) := by simp [World.cell?, hbk]
  have c1 : w1.cell? ⟨b, 1, none⟩ = some v := by simp [World.cell?, hbk]
  have hbk1 : (w1.alloc (.cells #[.int .u8 c] 5)).heap[b]? = _ := (Below.heap_alloc w1 (.cells #[.int .u8 c] 5) _ (lt_of_block hbk)).trans hbk
  have hown1 : BR (w1.alloc (.cells #[.int .u8 c] 5)) B v l := World.ownsRow.alloc hown _
  have hO1' : Only (fun k => k = b ∨ B ≤ k) w1 (w1.alloc (.cells #[.int .u8 c] 5)) := Only.of_below ((Below.refl _ _).alloc (Nat.le_refl _) _)
  go_wp2_with (at_builtin; refine wpList_append_own_at _ rfl _ _ 31 rfl B 5 u0 (.int .u8 0) 1 1 Tryz.underlying31 hu hu0 hu1 hu2 rfl (by decide) _ _ _ rfl hown1 ⟨w1.heap.size, 0, none⟩ 1 1 [.int .u8 c] rfl rfl (cell_one_new _ _ _) (one_u8 c) ?c3 ?c4 ?c5 ?_)
  case c3 => unfold maxLen; omega
  case c4 => omega
  case c5 => simp; omega
  intro v' w2 hown' hgrow _ _
  have hR2 := BR.snoc hc0 hc1 hown'
  obtain ⟨hA, hO2, d0, d1, f1⟩ := BA.stored hB hbk1 hown1 hgrow hR2
  have hFn := (hO1.trans (Only.of_below ((Below.refl _ w1).alloc (Nat.le_refl _) (.cells #[.int .u8 c] 5)))).fine (BR.fine (v' := v') hown1 hgrow)
  obtain ⟨oa, n', ca, rfl⟩ := BR.len' hR2
  clear hown' hgrow hR2 hown hbk hown1 hbk1
  go_wp2
  go_ret
  exact ⟨rfl, hA, ((hO1.wide (fun k hk => .inl hk)).trans hO1').trans hO2, hFn⟩
set_option maxHeartbeats 2000000 in
set_option maxRecDepth 100000 in
theorem Write_p (h : BB w b T rest B l) (hl : Lies T rest.length) (g n : Nat) (m : List UInt8) (hg : w.heap[g]? = some (.cells (m.map fun c => Value.int .u8 (c.toNat : Int)).toArray 5 (0, 0))) (hgb : g ≠ b) (hm : n = m.length) (hlen : l.length + m.length ≤ 1000000000) (hBw : B ≤ w.heap.size) :
    Calls Tryz.prog 81 #[.pointer (some ⟨b, 0, none⟩), .slice (some ⟨g, 0, none⟩) n n] w fun e w' => e = .returned (.tuple #[.int .i64 n, .nilIface]) ∧ Wrote w b T rest B (l ++ m) w' := by
  obtain ⟨u0, hu, hu0, hu1, hu2⟩ := info_parts infoU8
  subst hm
  go_enter Tryz.func81, Tryz.ntmps81
  go_wp2_with (go_at_call 102; refine (copyCheck_p h hl).mono ?_)
  rintro e w1 ⟨rfl, h1, hO1⟩
  have hg1 := (hO1.block g (lt_of_block hg) hgb).trans hg
  obtain ⟨hB, v, hbk, hown⟩ := h1
  have hz1 := hO1.size
  have c0 : w1.cell? ⟨b, 0, none⟩ = some (.pointer (some ⟨b, 0, none⟩)) := by simp [World.cell?, hbk]
  have c1 : w1.cell? ⟨b, 1, none⟩ = some v := by simp [World.cell?, hbk]
  have hnews := World.news_of_block hg1
  simp only at hnews
  have hone : ∀ u ∈ (m.map fun c => Value.int .u8 (c.toNat : Int)), u.oneCell' = true := by
    intro u hu; simp only [List.mem_map] at hu; obtain ⟨c, -, rfl⟩ := hu; rfl
  go_wp2_with (at_builtin; refine wpList_append_own_at _ rfl _ _ 31 rfl B 5 u0 (.int .u8 0) 1 1 Tryz.underlying31 hu hu0 hu1 hu2 rfl (by decide) _ _ _ rfl hown ⟨g, 0, none⟩ m.length m.length (m.map fun c => Value.int .u8 (c.toNat : Int)) rfl ?c0 hnews hone ?c3 ?c4 ?c5 ?_)
  case c0 => simp
  case c3 => unfold maxLen; omega
  case c4 => omega
  case c5 => omega
  intro v' w2 hown' hgrow _ _
  have hR2 : BR w2 B v' (l ++ m) := by
    unfold BR
    rw [List.length_append, List.map_append]
    exact hown'
  obtain ⟨hA, hO2, d0, d1, f1⟩ := BA.stored hB hbk hown hgrow hR2
  have hFn := hO1.fine (BR.fine (v' := v') hown hgrow)
  obtain ⟨oa, n', ca, rfl⟩ := BR.len' hR2
  clear hown' hgrow hR2 hown hbk hg hg1 hnews hone
  go_wp2
  go_ret2
  exact ⟨rfl, hA, (hO1.wide (fun k hk => .inl hk)).trans hO2, hFn⟩
theorem BB.at' (h : BB w b T rest B l) : ∃ p, BA w b T rest B p l := by
  rcases h with h | h
  · exact ⟨_, h⟩
  · exact ⟨_, h⟩
set_option maxHeartbeats 1000000 in
set_option maxRecDepth 100000 in
theorem Len_p (h : BB w b T rest B l) :
    Calls Tryz.prog 29 #[.pointer (some ⟨b, 0, none⟩)] w fun e w' => e = .returned (.int .i64 l.length) ∧ w = w' := by
  obtain ⟨p, hB, v, hbk, hown⟩ := h.at'
  obtain ⟨oa, ca, rfl⟩ := BR.len hown
  have c1 : w.cell? ⟨b, 1, none⟩ = some (.slice oa l.length ca) := by simp [World.cell?, hbk]
  clear hown hbk
  go_enter Tryz.func29, Tryz.ntmps29
  go_wp2
  go_ret
  exact ⟨rfl, rfl⟩
theorem cellsU8 : Tryz.prog.cellsOf 5 = 1 := by kernel_rfl
theorem Only.freeze {K : Nat → Prop} {w w' : World} (h : Only K w w') (g n : Nat) (hg : K g) : Only K w (w'.freeze ⟨g, 0, none⟩ n) := by
  unfold World.freeze
  split
  · exact h
  · refine ⟨h.os, h.tape, h.output, by simpa using h.size, fun k hk hn => ?_⟩
    have hne : k ≠ g := fun e => hn (by rw [e]; exact hg)
    show (w'.heap.modify g _)[k]? = _
    rw [Array.getElem?_modify, if_neg (fun e => hne e.symm)]
    exact h.block k hk hn
set_option maxHeartbeats 1000000 in
set_option maxRecDepth 100000 in
theorem String_some (h : BB w b T rest B l) (h0 : l ≠ []) :
    Calls Tryz.prog 30 #[.pointer (some ⟨b, 0, none⟩)] w fun e w' => e = .returned (.string ⟨l.toArray⟩) ∧ Only (fun k => B ≤ k) w w' := by
  obtain ⟨p, hB, v, hbk, hown⟩ := h.at'
  have hl0 : l.length ≠ 0 := by simpa using h0
  obtain ⟨g, cap, cur, rfl, hbg, hg, hnc, hcm, hcs, htake⟩ : ∃ g cap cur, v = .slice (some ⟨g, 0, none⟩) l.length cap ∧ B ≤ g ∧ w.heap[g]? = some (.cells cur 5 (0, 0)) ∧ l.length ≤ cap ∧ cap ≤ maxLen ∧ cur.size = cap * 1 ∧ cur.toList.take (l.length * 1) = (l.map fun c => Value.int .u8 (c.toNat : Int)) := by
    rcases hown.2 with ⟨_, hz⟩ | ⟨g, cap, cur, hv, r⟩
    · exact absurd hz hl0
    · exact ⟨g, cap, cur, hv, r⟩
  have c1 : w.drew.cell? ⟨b, 1, none⟩ = some (.slice (some ⟨g, 0, none⟩) l.length cap) := by
    have : w.drew.heap[b]? = some (.cells (p :: .slice (some ⟨g, 0, none⟩) l.length cap :: rest).toArray T (0, 0)) := hbk
    simp [World.cell?, this]
  have hSD : (Builtin.unsafeSliceData_ #[31] 87 #[.slice (some ⟨g, 0, none⟩) l.length cap]).run Tryz.prog w.drew = .ok (.pointer (some ⟨g, 0, none⟩)) w.drew :=
    Lib.run_unsafeSliceData_row _ _ _ _ _ _ (by omega)
  have hUS : (Builtin.unsafeString_ #[87, 3] 9 #[.pointer (some ⟨g, 0, none⟩), .int .i64 l.length]).run Tryz.prog w.drew = .ok (.string ⟨l.toArray⟩) (w.drew.freeze ⟨g, 0, none⟩ l.length) := by
    refine Lib.run_unsafeString_row w.drew 87 3 9 5 Tryz.underlying87 cellsU8 g cur.size (by have hg' : w.drew.heap[g]? = some (.cells cur 5 (0, 0)) := hg; simp [World.shape?, hg']) l h0 (by omega) (by unfold maxLen at hcm; omega) ?_
    intro j x hx
    exact World.ownsRow.cells hown (g := g) rfl j (.int .u8 x.toNat) (by simp [hx])
  clear hown hg hcs htake hbk
  go_enter Tryz.func30, Tryz.ntmps30
  go_wp2
  go_region
  all_goals (go_wp2; go_ret; exact ⟨rfl, Only.freeze (Only.of_below (Below.refl _ _).drew) g _ hbg⟩)
end
end Go.Proofs.YtakojceggpljoaaGreatDoor
