/-
  WALKS. strings.Builder at the head of a block of the call's own: a variable by itself, or a struct's first field.
  WALKS. strings.Builder: WriteString, WriteByte, Write, Len, String.
  WALKS. Quote, QuoteChar.
  WALKS. Quote, QuoteChar.
-/
import Derived.Test.YtelichlplblboaaGreatDoorLb
import Derived.Lib.Builder
import Derived.Lib.AppendStr
import Derived.Lib.UnsafeStr
import Derived.Laws.Externs
import Derived.RegionTactic
import Derived.Deep.AppendLies
import Derived.Deep.RegionWith
namespace Go.Proofs.YtelichlplblboaaGreatDoor
open Go.RowKit Go.Maps
/-- A builder at the head of block b, of type T: what 'addr' holds; what stands behind it; what it has been given; B: where its buffers begin. -/
def BA (w : World) (b : Nat) (T : TypeId) (rest : List Value) (B : Nat) (p : Value) (l : List UInt8) : Prop :=
  b < B ∧ ∃ v, w.heap[b]? = some (.cells (p :: v :: rest).toArray T (0, 0)) ∧ BR w B v l
def BB (w : World) (b : Nat) (T : TypeId) (rest : List Value) (B : Nat) (l : List UInt8) : Prop :=
  BA w b T rest B (.pointer none) l ∨ BA w b T rest B (.pointer (some ⟨b, 0, none⟩)) l
/-- A builder lies at the head of a T with so many cells behind it. -/
def Lies (T : TypeId) (n : Nat) : Prop := liesAt Tryz.prog Tryz.prog.depth T ((n + 2) / Tryz.prog.cellsOf T) 0 57 1 = true
theorem sizeBld : ∃ j, Tryz.prog.info? 57 = some j ∧ j.size = 2 := by
  have h : (Tryz.prog.info? 57).map (·.size) = some 2 := by kernel_rfl
  obtain ⟨j, hj, hs⟩ := Option.map_eq_some_iff.1 h
  exact ⟨j, hj, hs⟩
section
variable {w : World} {b B : Nat} {T : TypeId} {rest : List Value} {p : Value} {l : List UInt8}
theorem BA.c0 (h : BA w b T rest B p l) : w.cell? ⟨b, 0, none⟩ = some p := by obtain ⟨_, v, hb, _⟩ := h; simp [World.cell?, hb]
theorem BA.fz (h : BA w b T rest B p l) (k : Nat) : w.frozen? ⟨b, k, none⟩ = false := by obtain ⟨_, v, hb, _⟩ := h; simp [World.frozen?, hb]
theorem BA.sh (h : BA w b T rest B p l) : w.shape? b = some (T, rest.length + 2) := by obtain ⟨_, v, hb, _⟩ := h; simp [World.shape?, hb]
theorem BA.lt (h : BA w b T rest B p l) : b < w.heap.size := by obtain ⟨_, v, hb, _⟩ := h; exact lt_of_block hb
theorem BA.only {w' : World} {K : Nat → Prop} (h : BA w b T rest B p l) (ho : Only K w w') (hb : ¬ K b) (hk : ∀ i, K i → i < B) : BA w' b T rest B p l := by
  obtain ⟨h1, v, h2, h3⟩ := h
  exact ⟨h1, v, (ho.block b (lt_of_block h2) hb).trans h2, h3.only ho hk⟩
theorem BA.setP (h : BA w b T rest B p l) (q : Value) : BA (w.setCell ⟨b, 0, none⟩ q) b T rest B q l := by
  obtain ⟨h1, v, h2, h3⟩ := h
  refine ⟨h1, v, ?_, h3.only (Only.setCell (k := 0) (Only.refl (· = b) w) rfl q) (fun i hi => by rw [hi]; exact h1)⟩
  simp [World.setCell, Array.getElem?_modify, h2]
end
set_option maxHeartbeats 1000000 in
set_option maxRecDepth 100000 in
theorem copyCheck_used (b : Nat) (w : World) (h0 : w.cell? ⟨b, 0, none⟩ = some (.pointer (some ⟨b, 0, none⟩))) :
    Calls Tryz.prog 102 #[.pointer (some ⟨b, 0, none⟩)] w fun e w' => e = .returned (.tuple #[]) ∧ w = w' := by
  obtain ⟨j, hj, _⟩ := sizeBld
  go_enter Tryz.func102, Tryz.ntmps102
  go_wp2
  rw [Lib.run_neq_ptr_same w _ Tryz.underlying55 hj]
  go_wp2
  go_end0
  exact ⟨rfl, rfl⟩
set_option maxHeartbeats 1000000 in
set_option maxRecDepth 100000 in
theorem copyCheck_fresh (b : Nat) (T : TypeId) (n : Nat) (w : World) (h0 : w.cell? ⟨b, 0, none⟩ = some (.pointer none)) (hsh : w.shape? b = some (T, n + 2)) (hl : Lies T n) (hfz : w.frozen? ⟨b, 0, none⟩ = false) :
    Calls Tryz.prog 102 #[.pointer (some ⟨b, 0, none⟩)] w fun e w' => e = .returned (.tuple #[]) ∧ w.setCell ⟨b, 0, none⟩ (.pointer (some ⟨b, 0, none⟩)) = w' := by
  obtain ⟨j, hj, hjs⟩ := sizeBld
  go_enter Tryz.func102, Tryz.ntmps102
  go_wp2
  rw [Lib.run_to_unsafe w ⟨b, 0, none⟩ Tryz.underlying55 Tryz.underlying115 hj (by rw [hjs]; decide) hsh (Nat.zero_lt_succ _)]
  simp only [Result.andThen]
  rw [Oper.upon_value]
  go_wp2
  rw [run_callFunc_extern Tryz.func125 (by kernel_rfl) (by kernel_rfl) (by kernel_rfl) (e := Extern.AbiNoEscape.same) (by kernel_rfl)]
  rw [Lib.run_noEscape]
  simp only [Result.andThen]
  rw [Oper.upon_value]
  go_wp2
  rw [Lib.run_from_unsafe w ⟨b, 0, none⟩ Tryz.underlying115 Tryz.underlying55 hj hsh hl]
  simp only [Result.andThen]
  rw [Oper.upon_value]
  go_wp2
  go_end0
  exact ⟨rfl, rfl⟩
section
variable {w : World} {b B : Nat} {T : TypeId} {rest : List Value} {l : List UInt8}
theorem copyCheck_p (h : BB w b T rest B l) (hl : Lies T rest.length) :
    Calls Tryz.prog 102 #[.pointer (some ⟨b, 0, none⟩)] w fun e w' => e = .returned (.tuple #[]) ∧ BA w' b T rest B (.pointer (some ⟨b, 0, none⟩)) l ∧ Only (· = b) w w' := by
  rcases h with h | h
  · refine (copyCheck_fresh b T rest.length w h.c0 h.sh hl (h.fz 0)).mono ?_
    rintro e w' ⟨rfl, rfl⟩
    exact ⟨rfl, h.setP _, Only.setCell (k := 0) (Only.refl (· = b) w) rfl _⟩
  · refine (copyCheck_used b w h.c0).mono ?_
    rintro e w' ⟨rfl, rfl⟩
    exact ⟨rfl, h, Only.refl _ _⟩
/-- Behind an append to the buffer, and its store. -/
theorem BA.stored {w1 w2 : World} {v v' : Value} {l' : List UInt8} (hb : b < B) (h : w1.heap[b]? = some (.cells (.pointer (some ⟨b, 0, none⟩) :: v :: rest).toArray T (0, 0))) (hR : BR w1 B v l) (hg : w1.grownBy w2 v.ownBlock) (h' : BR w2 B v' l') :
    BA (w2.setCell ⟨b, 1, none⟩ v') b T rest B (.pointer (some ⟨b, 0, none⟩)) l' ∧ Only (fun k => k = b ∨ B ≤ k) w1 (w2.setCell ⟨b, 1, none⟩ v') ∧ w2.cell? ⟨b, 0, none⟩ = some (.pointer (some ⟨b, 0, none⟩)) ∧ w2.cell? ⟨b, 1, none⟩ = some v ∧ w2.frozen? ⟨b, 1, none⟩ = false := by
  have hne : v.ownBlock ≠ some b := fun e => by have := (World.ownsRow.lt hR b e).1; omega
  have hb2 : w2.heap[b]? = some (.cells (.pointer (some ⟨b, 0, none⟩) :: v :: rest).toArray T (0, 0)) := (hg.block b (lt_of_block h) (fun e => hne e.symm)).trans h
  refine ⟨⟨hb, v', ?_, h'.only (Only.setCell (k := 1) (Only.refl (· = b) w2) rfl v') (fun i hi => by rw [hi]; exact hb)⟩, Only.setCell (k := 1) (Only.grown hg (fun k hk => .inr (World.ownsRow.lt hR k hk).1)) (.inl rfl) _, ?_, ?_, ?_⟩
  · simp [World.setCell, Array.getElem?_modify, hb2]
  · simp [World.cell?, hb2]
  · simp [World.cell?, hb2]
  · simp [World.frozen?, hb2]
end
end Go.Proofs.YtelichlplblboaaGreatDoor
namespace Go.Proofs.YtelichlplblboaaGreatDoor
open Go.RowKit Go.Maps
section
variable {w : World} {b B : Nat} {T : TypeId} {rest : List Value} {l : List UInt8}
/-- The builder's block, and rows of bytes. -/
def Fine (w : World) (b : Nat) (k : Nat) : Prop := k = b ∨ ∃ c, w.heap[k]? = some (.cells c 5 (0, 0))
theorem Only.fine {w w1 w2 : World} {b : Nat} (h : Only (· = b) w w1) (h2 : Only (Fine w1 b) w1 w2) : Only (Fine w b) w w2 := by
  refine ⟨h2.os.trans h.os, h2.tape.trans h.tape, h2.output.trans h.output, Nat.le_trans h.size h2.size, fun k hk hn => ?_⟩
  have hb : k ≠ b := fun e => hn (.inl e)
  have e1 := h.block k hk hb
  refine (h2.block k (Nat.lt_of_lt_of_le hk h.size) (fun hc => hc.elim hb (fun ⟨c, hc⟩ => hn (.inr ⟨c, ?_⟩)))).trans e1
  rw [← e1]; exact hc
theorem BR.fine {w1 w2 : World} {v v' : Value} (hR : BR w1 B v l) (hg : w1.grownBy w2 v.ownBlock) : Only (Fine w1 b) w1 (w2.setCell ⟨b, 1, none⟩ v') :=
  Only.setCell (k := 1) (Only.grown hg (fun k hk => by
    rcases hR.2 with ⟨hv, _⟩ | ⟨g, cap, cur, hv, _, hb, _⟩
    · rw [hv] at hk; cases hk
    · rw [hv] at hk
      obtain rfl : g = k := by simpa [Value.ownBlock] using hk
      exact .inr ⟨cur, hb⟩)) (.inl rfl) _
/-- What a write leaves. -/
def Wrote (w : World) (b : Nat) (T : TypeId) (rest : List Value) (B : Nat) (l : List UInt8) (w' : World) : Prop :=
  BA w' b T rest B (.pointer (some ⟨b, 0, none⟩)) l ∧ Only (fun k => k = b ∨ B ≤ k) w w' ∧ Only (Fine w b) w w'
theorem BR.len' {w : World} {v : Value} (h : BR w B v l) : ∃ oa n ca, v = .slice oa n ca := by
  obtain ⟨oa, ca, h⟩ := rowForm h
  exact ⟨oa, _, ca, h⟩
theorem BR.len {w : World} {v : Value} (h : BR w B v l) : ∃ oa ca, v = .slice oa l.length ca := rowForm h
set_option maxHeartbeats 2000000 in
set_option maxRecDepth 100000 in
theorem WriteString_p (h : BB w b T rest B l) (hl : Lies T rest.length) (s : ByteArray) (hlen : l.length + s.size ≤ 1000000000) (hBw : B ≤ w.heap.size) :
    Calls Tryz.prog 74 #[.pointer (some ⟨b, 0, none⟩), .string s] w fun e w' => e = .returned (.tuple #[.int .i64 s.size, .nilIface]) ∧ Wrote w b T rest B (l ++ s.data.toList) w' := by
  obtain ⟨u0, hu, hu0, hu1, hu2⟩ := info_parts infoU8
  go_enter Tryz.func74, Tryz.ntmps74
  go_wp2_with (go_at_call 102; refine (copyCheck_p h hl).mono ?_)
  rintro e w1 ⟨rfl, h1, hO1⟩
  obtain ⟨hB, v, hbk, hown⟩ := h1
  have hz1 := hO1.size
  have c0 : w1.cell? ⟨b, 0, none⟩ = some (.pointer (some ⟨b, 0, none⟩)) := by simp [World.cell?, hbk]
  have c1 : w1.cell? ⟨b, 1, none⟩ = some v := by simp [World.cell?, hbk]
  go_wp2_with (at_builtin; refine Lib.wpList_append_own_string _ rfl _ _ 31 9 rfl B 5 u0 Tryz.underlying31 Tryz.underlying9 hu hu0 hu1 hu2 _ _ _ rfl hown s rfl ?c3 ?c4 ?c5 ?_)
  case c3 => unfold maxLen; omega
  case c4 => omega
  case c5 => omega
  intro v' w2 hown' hgrow _
  have hR2 : BR w2 B v' (l ++ s.data.toList) := by
    unfold BR
    rw [List.length_append, List.map_append]
    have e : s.data.toList.length = s.size := by rw [Array.length_toList]; rfl
    rw [e]; exact hown'
  obtain ⟨hA, hO2, d0, d1, f1⟩ := BA.stored hB hbk hown hgrow hR2
  have hFn := hO1.fine (BR.fine (v' := v') hown hgrow)
  obtain ⟨oa, n', ca, rfl⟩ := BR.len' hR2
  clear hown' hgrow hR2 hown hbk
  go_wp2
  go_ret2
  exact ⟨rfl, hA, (hO1.wide (fun k hk => .inl hk)).trans hO2, hFn⟩
set_option maxHeartbeats 2000000 in
set_option maxRecDepth 100000 in
theorem WriteByte_p (h : BB w b T rest B l) (hl : Lies T rest.length) (c : Int) (hc0 : 0 ≤ c) (hc1 : c ≤ 255) (hlen : l.length + 1 ≤ 1000000000) (hBw : B ≤ w.heap.size) :
    Calls Tryz.prog 80 #[.pointer (some ⟨b, 0, none⟩), .int .u8 c] w fun e w' => e = .returned .nilIface ∧ Wrote w b T rest B (l ++ [c.toNat.toUInt8]) w' := by
  obtain ⟨u0, hu, hu0, hu1, hu2⟩ := info_parts infoU8
  go_enter Tryz.func80, Tryz.ntmps80
  go_wp2_with (go_at_call 102; refine (copyCheck_p h hl).mono ?_)
  rintro e w1 ⟨rfl, h1, hO1⟩
  obtain ⟨hB, v, hbk, hown⟩ := h1
  have hz1 := hO1.size
  have c0 : w1.cell? ⟨b, 0, none⟩ = some (.pointer (some ⟨b, 0, none⟩)) := by simp [World.cell?, hbk]
  have c1 : w1.cell? ⟨b, 1, none⟩ = some v := by simp [World.cell?, hbk]
  have hbk1 : (w1.alloc (.cells #[.int .u8 c] 5)).heap[b]? = _ := (Below.heap_alloc w1 (.cells #[.int .u8 c] 5) _ (lt_of_block hbk)).trans hbk
  have hown1 : BR (w1.alloc (.cells #[.int .u8 c] 5)) B v l := World.ownsRow.alloc hown _
  have hO1' : Only (fun k => k = b ∨ B ≤ k) w1 (w1.alloc (.cells #[.int .u8 c] 5)) := Only.of_below ((Below.refl _ _).alloc (Nat.le_refl _) _)
  go_wp2_with (at_builtin; refine wpList_append_own_at _ rfl _ _ 31 rfl B 5 u0 (.int .u8 0) 1 1 Tryz.underlying31 hu hu0 hu1 hu2 rfl (by decide) _ _ _ rfl hown1 ⟨w1.heap.size, 0, none⟩ 1 1 [.int .u8 c] rfl rfl (cell_one_new _ _ _) (one_u8 c) ?c3 ?c4 ?c5 ?_)
  case c3 => unfold maxLen; omega
  case c4 => omega
  case c5 => simp; omega
  intro v' w2 hown' hgrow _ _
  have hR2 := BR.snoc hc0 hc1 hown'
  obtain ⟨hA, hO2, d0, d1, f1⟩ := BA.stored hB hbk1 hown1 hgrow hR2
  have hFn := (hO1.trans (Only.of_below ((Below.refl _ w1).alloc (Nat.le_refl _) (.cells #[.int .u8 c] 5)))).fine (BR.fine (v' := v') hown1 hgrow)
  obtain ⟨oa, n', ca, rfl⟩ := BR.len' hR2
  clear hown' hgrow hR2 hown hbk hown1 hbk1
  go_wp2
  go_ret
  exact ⟨rfl, hA, ((hO1.wide (fun k hk => .inl hk)).trans hO1').trans hO2, hFn⟩
set_option maxHeartbeats 2000000 in
set_option maxRecDepth 100000 in
theorem Write_p (h : BB w b T rest B l) (hl : Lies T rest.length) (g n : Nat) (m : List UInt8) (hg : w.heap[g]? = some (.cells (m.map fun c => Value.int .u8 (c.toNat : Int)).toArray 5 (0, 0))) (hgb : g ≠ b) (hm : n = m.length) (hlen : l.length + m.length ≤ 1000000000) (hBw : B ≤ w.heap.size) :
    Calls Tryz.prog 81 #[.pointer (some ⟨b, 0, none⟩), .slice (some ⟨g, 0, none⟩) n n] w fun e w' => e = .returned (.tuple #[.int .i64 n, .nilIface]) ∧ Wrote w b T rest B (l ++ m) w' := by
  obtain ⟨u0, hu, hu0, hu1, hu2⟩ := info_parts infoU8
  subst hm
  go_enter Tryz.func81, Tryz.ntmps81
  go_wp2_with (go_at_call 102; refine (copyCheck_p h hl).mono ?_)
  rintro e w1 ⟨rfl, h1, hO1⟩
  have hg1 := (hO1.block g (lt_of_block hg) hgb).trans hg
  obtain ⟨hB, v, hbk, hown⟩ := h1
  have hz1 := hO1.size
  have c0 : w1.cell? ⟨b, 0, none⟩ = some (.pointer (some ⟨b, 0, none⟩)) := by simp [World.cell?, hbk]
  have c1 : w1.cell? ⟨b, 1, none⟩ = some v := by simp [World.cell?, hbk]
  have hnews := World.news_of_block hg1
  simp only at hnews
  have hone : ∀ u ∈ (m.map fun c => Value.int .u8 (c.toNat : Int)), u.oneCell' = true := by
    intro u hu; simp only [List.mem_map] at hu; obtain ⟨c, -, rfl⟩ := hu; rfl
  go_wp2_with (at_builtin; refine wpList_append_own_at _ rfl _ _ 31 rfl B 5 u0 (.int .u8 0) 1 1 Tryz.underlying31 hu hu0 hu1 hu2 rfl (by decide) _ _ _ rfl hown ⟨g, 0, none⟩ m.length m.length (m.map fun c => Value.int .u8 (c.toNat : Int)) rfl ?c0 hnews hone ?c3 ?c4 ?c5 ?_)
  case c0 => simp
  case c3 => unfold maxLen; omega
  case c4 => omega
  case c5 => omega
  intro v' w2 hown' hgrow _ _
  have hR2 : BR w2 B v' (l ++ m) := by
    unfold BR
    rw [List.length_append, List.map_append]
    exact hown'
  obtain ⟨hA, hO2, d0, d1, f1⟩ := BA.stored hB hbk hown hgrow hR2
  have hFn := hO1.fine (BR.fine (v' := v') hown hgrow)
  obtain ⟨oa, n', ca, rfl⟩ := BR.len' hR2
  clear hown' hgrow hR2 hown hbk hg hg1 hnews hone
  go_wp2
  go_ret2
  exact ⟨rfl, hA, (hO1.wide (fun k hk => .inl hk)).trans hO2, hFn⟩
theorem BB.at' (h : BB w b T rest B l) : ∃ p, BA w b T rest B p l := by
  rcases h with h | h
  · exact ⟨_, h⟩
  · exact ⟨_, h⟩
set_option maxHeartbeats 1000000 in
set_option maxRecDepth 100000 in
theorem Len_p (h : BB w b T rest B l) :
    Calls Tryz.prog 29 #[.pointer (some ⟨b, 0, none⟩)] w fun e w' => e = .returned (.int .i64 l.length) ∧ w = w' := by
  obtain ⟨p, hB, v, hbk, hown⟩ := h.at'
  obtain ⟨oa, ca, rfl⟩ := BR.len hown
  have c1 : w.cell? ⟨b, 1, none⟩ = some (.slice oa l.length ca) := by simp [World.cell?, hbk]
  clear hown hbk
  go_enter Tryz.func29, Tryz.ntmps29
  go_wp2
  go_ret
  exact ⟨rfl, rfl⟩
theorem cellsU8 : Tryz.prog.cellsOf 5 = 1 := by kernel_rfl
theorem Only.freeze {K : Nat → Prop} {w w' : World} (h : Only K w w') (g n : Nat) (hg : K g) : Only K w (w'.freeze ⟨g, 0, none⟩ n) := by
  unfold World.freeze
  split
  · exact h
  · refine ⟨h.os, h.tape, h.output, by simpa using h.size, fun k hk hn => ?_⟩
    have hne : k ≠ g := fun e => hn (by rw [e]; exact hg)
    show (w'.heap.modify g _)[k]? = _
    rw [Array.getElem?_modify, if_neg (fun e => hne e.symm)]
    exact h.block k hk hn
set_option maxHeartbeats 1000000 in
set_option maxRecDepth 100000 in
theorem String_some (h : BB w b T rest B l) (h0 : l ≠ []) :
    Calls Tryz.prog 30 #[.pointer (some ⟨b, 0, none⟩)] w fun e w' => e = .returned (.string ⟨l.toArray⟩) ∧ Only (fun k => B ≤ k) w w' := by
  obtain ⟨p, hB, v, hbk, hown⟩ := h.at'
  have hl0 : l.length ≠ 0 := by simpa using h0
  obtain ⟨g, cap, cur, rfl, hbg, hg, hnc, hcm, hcs, htake⟩ : ∃ g cap cur, v = .slice (some ⟨g, 0, none⟩) l.length cap ∧ B ≤ g ∧ w.heap[g]? = some (.cells cur 5 (0, 0)) ∧ l.length ≤ cap ∧ cap ≤ maxLen ∧ cur.size = cap * 1 ∧ cur.toList.take (l.length * 1) = (l.map fun c => Value.int .u8 (c.toNat : Int)) := by
    rcases hown.2 with ⟨_, hz⟩ | ⟨g, cap, cur, hv, r⟩
    · exact absurd hz hl0
    · exact ⟨g, cap, cur, hv, r⟩
  have c1 : w.drew.cell? ⟨b, 1, none⟩ = some (.slice (some ⟨g, 0, none⟩) l.length cap) := by
    have : w.drew.heap[b]? = some (.cells (p :: .slice (some ⟨g, 0, none⟩) l.length cap :: rest).toArray T (0, 0)) := hbk
    simp [World.cell?, this]
  have hSD : (Builtin.unsafeSliceData_ #[31] 87 #[.slice (some ⟨g, 0, none⟩) l.length cap]).run Tryz.prog w.drew = .ok (.pointer (some ⟨g, 0, none⟩)) w.drew :=
    Lib.run_unsafeSliceData_row _ _ _ _ _ _ (by omega)
  have hUS : (Builtin.unsafeString_ #[87, 3] 9 #[.pointer (some ⟨g, 0, none⟩), .int .i64 l.length]).run Tryz.prog w.drew = .ok (.string ⟨l.toArray⟩) (w.drew.freeze ⟨g, 0, none⟩ l.length) := by
    refine Lib.run_unsafeString_row w.drew 87 3 9 5 Tryz.underlying87 cellsU8 g cur.size (by have hg' : w.drew.heap[g]? = some (.cells cur 5 (0, 0)) := hg; simp [World.shape?, hg']) l h0 (by omega) (by unfold maxLen at hcm; omega) ?_
    intro j x hx
    exact World.ownsRow.cells hown (g := g) rfl j (.int .u8 x.toNat) (by simp [hx])
  clear hown hg hcs htake hbk
  go_enter Tryz.func30, Tryz.ntmps30
  go_wp2
  go_region
  all_goals (go_wp2; go_ret; exact ⟨rfl, Only.freeze (Only.of_below (Below.refl _ _).drew) g _ hbg⟩)
end
end Go.Proofs.YtelichlplblboaaGreatDoor
namespace Go.Proofs.YtelichlplblboaaGreatDoor
open Go.RowKit Go.Maps
def hexL : List UInt8 := [48, 49, 50, 51, 52, 53, 54, 55, 56, 57, 97, 98, 99, 100, 101, 102]
def hxD (n : Nat) : UInt8 := hexL.getD n 0
abbrev hexBA : ByteArray := { data := #[48, 49, 50, 51, 52, 53, 54, 55, 56, 57, 97, 98, 99, 100, 101, 102] }
theorem hxD_eq {d : Nat} (h : d < 16) : hxD d = hexBA[d]'h := by
  have : ∀ d : Fin 16, hxD d.val = hexBA[d.val]'d.isLt := by decide
  exact this ⟨d, h⟩
theorem and15 (y : Int) (h0 : 0 ≤ y) (h1 : y ≤ 255) : bits .and .u8 y 15 = y % 16 := by
  obtain ⟨m, rfl⟩ := Int.eq_ofNat_of_zero_le h0
  have h : ∀ m : Fin 256, bits .and .u8 (m.val : Int) 15 = (m.val : Int) % 16 := by decide +kernel
  exact h ⟨m, by omega⟩
/-- A byte, as it is written in a literal with the quote q. -/
def esc1 (q : UInt8) (c : UInt8) : List UInt8 :=
  if c = 10 then [92, 110] else if c = 9 then [92, 116] else if c = 92 ∨ c = q then [92, c] else if prn (c.toNat : Int) then [c] else [92, 120, hxD (c.toNat / 16), hxD (c.toNat % 16)]
def qtB (q : UInt8) (l : List UInt8) : List UInt8 := q :: l.flatMap (esc1 q)
def qtL (q : UInt8) (l : List UInt8) : List UInt8 := qtB q l ++ [q]
theorem esc1_len (q c : UInt8) : (esc1 q c).length ≤ 4 := by
  unfold esc1
  repeat' split
  all_goals simp
theorem qtB_len (q : UInt8) (l : List UInt8) : (qtB q l).length ≤ 4 * l.length + 1 := by
  unfold qtB
  rw [List.length_cons]
  have : (l.flatMap (esc1 q)).length ≤ 4 * l.length := by
    induction l with
    | nil => simp
    | cons c l ih =>
      rw [List.flatMap_cons, List.length_append, List.length_cons]
      have := esc1_len q c
      omega
  omega
theorem qtB_snoc (q : UInt8) (l : List UInt8) (c : UInt8) : qtB q (l ++ [c]) = qtB q l ++ esc1 q c := by
  unfold qtB; simp
theorem lies0 : Lies 57 0 := by unfold Lies; kernel_rfl
theorem bld_new (w : World) : BB (w.alloc (.cells #[.pointer none, .slice none 0 0] 57)) w.heap.size 57 [] (w.heap.size + 1) [] :=
  .inl ⟨Nat.lt_succ_self _, .slice none 0 0, new_block w _, World.ownsRow_nil _ _ _ _⟩
set_option maxHeartbeats 4000000 in
set_option maxRecDepth 100000 in
theorem quoted_p (s : ByteArray) (q : UInt8) (w : World) (hs : s.size ≤ 1000000) :
    Calls Tryz.prog 35 #[.string s, .int .u8 (q.toNat : Int)] w fun e w' => e = .returned (.string ⟨(qtL q s.data.toList).toArray⟩) ∧ Below w.heap.size w w' := by
  have hB0 := bld_new w
  have hq0 : 0 ≤ (q.toNat : Int) := by omega
  have hq1 : (q.toNat : Int) ≤ 255 := by have := q.toNat_lt; omega
  have hqe : (q.toNat : Int).toNat.toUInt8 = q := by simp
  have hn0 : w.heap.size + 1 ≤ (w.alloc (.cells #[.pointer none, .slice none 0 0] 57)).heap.size := by show _ ≤ (w.heap.push _).size; simp
  obtain ⟨Q, hQ⟩ : ∃ Q, (q.toNat : Int) = Q := ⟨_, rfl⟩
  rw [hQ] at hq0 hq1 hqe ⊢
  have HQ := Lib.hid hQ
  have HQE := Lib.hid hqe
  clear hQ hqe
  go_enter Tryz.func35, Tryz.ntmps35
  go_wp2_with (first | (go_at_call 80; refine (WriteByte_p hB0 lies0 Q hq0 hq1 (by simp) hn0).mono ?_; rw [HQE.out]; rintro e w1 ⟨rfl, hA1, hO1, -⟩))
  go_loopw [12] (fun i wr => ∃ k : Nat, k ≤ s.size ∧ i = .int .i64 k ∧ BA wr w.heap.size 57 [] (w.heap.size + 1) (.pointer (some ⟨w.heap.size, 0, none⟩)) (qtB q (s.data.toList.take k)) ∧ Only (fun j => w.heap.size ≤ j) w wr) (fun i _ => s.size - (intOf i).toNat)
  case atStart => exact ⟨0, by omega, rfl, hA1, (Only.of_below ((Below.refl _ _).alloc (Nat.le_refl _) _)).trans (hO1.wide (fun i hi => by omega))⟩
  case round =>
    obtain ⟨k, hk, rfl, hA, hO⟩ := hrel
    by_cases hlt : k < s.size
    · obtain ⟨c, hc⟩ : ∃ c, s[k] = c := ⟨_, rfl⟩
      have HTK : Hid (qtB q (s.data.toList.take (k + 1)) = qtB q (s.data.toList.take k) ++ esc1 q c) := Lib.hid (by rw [take_snoc s k hlt, hc, qtB_snoc])
      obtain ⟨y, hy⟩ : ∃ y, (c.toNat : Int) = y := ⟨_, rfl⟩
      have hyb : 0 ≤ y ∧ y ≤ 255 := by have := c.toNat_lt; omega
      have hye : y.toNat.toUInt8 = c := by rw [← hy]; simp
      have hSy : (((s[k]'hlt).toNat : Nat) : Int) = y := by rw [hc]; exact hy
      have HYE := Lib.hid hye
      have HY := Lib.hid hy
      obtain ⟨ql, hql⟩ : ∃ ql, qtB q (s.data.toList.take k) = ql := ⟨_, rfl⟩
      have hqz : ql.length ≤ 4 * k + 1 := by rw [← hql]; exact Nat.le_trans (qtB_len _ _) (by simp; omega)
      rw [hql] at hA HTK
      have hBz : w.heap.size + 1 ≤ wr.heap.size := by have := hA.lt; omega
      have HOX : Hid (∀ {w3 : World}, Only (fun j => j = w.heap.size ∨ w.heap.size + 1 ≤ j) wr w3 → Only (fun j => w.heap.size ≤ j) wr w3) := Lib.hid (fun h => h.wide (fun i hi => by omega))
      clear hql hye hc hy
      by_cases h10 : c = 10
      · have hy10 : y = 10 := by rw [← HY.out, h10]; rfl
        have HE : Hid (esc1 q c = [92, 110]) := Lib.hid (by unfold esc1; rw [if_pos h10])
        have e10 : (y == 10) = true := by simp [hy10]
        clear h10 hy10
        go_wp2_with (first | (go_at_call 74; refine (WriteString_p (.inr hA) lies0 _ (by show ql.length + 2 ≤ 1000000000; omega) hBz).mono ?_; rintro e w2 ⟨rfl, hA2, hO2, -⟩))
        go_roundw
        case rel => exact ⟨k + 1, by omega, by go_num, by rw [HTK.out, HE.out]; exact hA2, hO.trans (HOX.out hO2)⟩
        case measure => simp [intOf]; omega
      by_cases h9 : c = 9
      · have hy9 : y = 9 := by rw [← HY.out, h9]; rfl
        have HE : Hid (esc1 q c = [92, 116]) := Lib.hid (by unfold esc1; rw [if_neg h10, if_pos h9])
        have e10 : (y == 10) = false := by simp [hy9]
        have e9 : (y == 9) = true := by simp [hy9]
        clear h10 h9 hy9
        go_wp2_with (first | (go_at_call 74; refine (WriteString_p (.inr hA) lies0 _ (by show ql.length + 2 ≤ 1000000000; omega) hBz).mono ?_; rintro e w2 ⟨rfl, hA2, hO2, -⟩))
        go_roundw
        case rel => exact ⟨k + 1, by omega, by go_num, by rw [HTK.out, HE.out]; exact hA2, hO.trans (HOX.out hO2)⟩
        case measure => simp [intOf]; omega
      have e10 : (y == 10) = false := by simp; intro h; apply h10; rw [← HYE.out, h]; rfl
      have e9 : (y == 9) = false := by simp; intro h; apply h9; rw [← HYE.out, h]; rfl
      by_cases hbq : c = 92 ∨ c = q
      · have HE : Hid (esc1 q c = [92, c]) := Lib.hid (by unfold esc1; rw [if_neg h10, if_neg h9, if_pos hbq])
        have e92 : (y == 92) = true ∨ ((y == 92) = false ∧ (y == Q) = true) := by
          by_cases e : y = 92
          · exact .inl (by simp [e])
          · refine .inr ⟨by simp [e], ?_⟩
            rcases hbq with h | h
            · exact absurd (by rw [← HY.out, h]; rfl) e
            · simp; rw [← HY.out, h]; exact HQ.out
        have hA' := hA.only (Only.of_below (K := fun _ => False) ((Below.refl wr.heap.size wr).alloc (Nat.le_refl _) (.cells #[.int .u8 92, .int .u8 y] 5))) (fun h => h) (fun _ h => h.elim)
        have hG : (wr.alloc (.cells #[.int .u8 92, .int .u8 y] 5)).heap[wr.heap.size]? = some (.cells (([92, c] : List UInt8).map fun c => Value.int .u8 (c.toNat : Int)).toArray 5 (0, 0)) := by
          rw [new_block]; simp [HY.out]
        have HG := Lib.hid hG
        clear hbq h10 h9 hG
        rcases e92 with e92 | ⟨e92, eq⟩
        all_goals
          go_wp2_with (first | (go_at_call 81; refine (Write_p (.inr hA') lies0 wr.heap.size 2 [92, c] HG.out (by omega) rfl (by show ql.length + 2 ≤ 1000000000; omega) (by show _ ≤ (wr.heap.push _).size; simp; omega)).mono ?_; rintro e w2 ⟨rfl, hA2, hO2, -⟩))
          go_roundw
          case rel => exact ⟨k + 1, by omega, by go_num, by rw [HTK.out, HE.out]; exact hA2, hO.trans ((Only.of_below ((Below.refl _ wr).alloc (Nat.le_refl _) _)).trans (hO2.wide (fun i hi => by omega)))⟩
          case measure => simp [intOf]; omega
      have e92 : (y == 92) = false := by simp; intro h; apply hbq; left; rw [← HYE.out, h]; rfl
      have eq : (y == Q) = false := by simp; intro h; apply hbq; right; rw [← HYE.out, h]; exact HQE.out
      cases hpr : prn y
      · have HPR := Lib.hid hpr
        have HE : Hid (esc1 q c = [92, 120, hxD (c.toNat / 16), hxD (c.toNat % 16)]) := Lib.hid (by unfold esc1; rw [if_neg h10, if_neg h9, if_neg hbq, HY.out, hpr]; rfl)
        clear hpr h10 h9 hbq
        go_wp2_with (first | (go_at_call 82; refine (isPrintable_any _ _).mono ?_; rw [HPR.out]; rintro e w5 ⟨rfl, rfl⟩))
        obtain ⟨d1, hd1⟩ : ∃ d : Nat, d = c.toNat / 16 := ⟨_, rfl⟩
        obtain ⟨d2, hd2⟩ : ∃ d : Nat, d = c.toNat % 16 := ⟨_, rfl⟩
        have hand : bits .and .u8 y 15 = (d2 : Int) := by rw [and15 y hyb.1 hyb.2, hd2]; have := HY.out; omega
        have hshr : y / 16 = (d1 : Int) := by rw [hd1]; have := HY.out; omega
        have hcl := c.toNat_lt
        have h1 : d1 < 16 := by omega
        have h2 : d2 < 16 := by omega
        have HE2 : Hid (esc1 q c = [92, 120, hexBA[d1]'h1, hexBA[d2]'h2]) := Lib.hid (by rw [HE.out, ← hd1, ← hd2, hxD_eq h1, hxD_eq h2])
        clear hd1 hd2 hcl HE
        have hA' := hA.only (Only.of_below (K := fun _ => False) ((Below.refl wr.heap.size wr).alloc (Nat.le_refl _) (.cells #[.int .u8 92, .int .u8 120, .int .u8 ((hexBA[d1]'h1).toNat : Int), .int .u8 ((hexBA[d2]'h2).toNat : Int)] 5)).drew) (fun h => h) (fun _ h => h.elim)
        have hG : (wr.alloc (.cells #[.int .u8 92, .int .u8 120, .int .u8 ((hexBA[d1]'h1).toNat : Int), .int .u8 ((hexBA[d2]'h2).toNat : Int)] 5)).drew.heap[wr.heap.size]? = some (.cells (([92, 120, hexBA[d1]'h1, hexBA[d2]'h2] : List UInt8).map fun c => Value.int .u8 (c.toNat : Int)).toArray 5 (0, 0)) := by
          show (wr.alloc (.cells #[.int .u8 92, .int .u8 120, .int .u8 ((hexBA[d1]'h1).toNat : Int), .int .u8 ((hexBA[d2]'h2).toNat : Int)] 5)).heap[wr.heap.size]? = _
          rw [new_block]; rfl
        have HG := Lib.hid hG
        clear hG
        go_region_with (first | (go_at_call 81; refine (Write_p (.inr hA') lies0 wr.heap.size 4 [92, 120, hexBA[d1]'h1, hexBA[d2]'h2] HG.out (by omega) rfl (by show ql.length + 4 ≤ 1000000000; omega) (by show _ ≤ (wr.heap.push _).size; simp; omega)).mono ?_; rintro e w2 ⟨rfl, hA2, hO2, -⟩))
        all_goals
          go_wp2
          go_roundw
          case rel => exact ⟨k + 1, by omega, by go_num, by rw [HTK.out, HE2.out]; exact hA2, hO.trans ((Only.of_below ((Below.refl _ wr).alloc (Nat.le_refl _) _).drew).trans (hO2.wide (fun i hi => by omega)))⟩
          case measure => simp [intOf]; omega
      · have HPR := Lib.hid hpr
        have HE : Hid (esc1 q c = [c]) := Lib.hid (by unfold esc1; rw [if_neg h10, if_neg h9, if_neg hbq, HY.out, hpr]; rfl)
        clear hpr h10 h9 hbq
        go_wp2_with (first | (go_at_call 82; refine (isPrintable_any _ _).mono ?_; rw [HPR.out]; rintro e w5 ⟨rfl, rfl⟩) | (go_at_call 80; refine (WriteByte_p (.inr hA) lies0 y hyb.1 hyb.2 (by omega) hBz).mono ?_; rw [HYE.out]; rintro e w2 ⟨rfl, hA2, hO2, -⟩))
        go_roundw
        case rel => exact ⟨k + 1, by omega, by go_num, by rw [HTK.out, HE.out]; exact hA2, hO.trans (HOX.out hO2)⟩
        case measure => simp [intOf]; omega
    · have e : k = s.size := by omega
      have HT : Hid (qtB q (s.data.toList.take k) = qtB q s.data.toList) := Lib.hid (by rw [take_end (by omega)])
      rw [HT.out] at hA
      have hqz : (qtB q s.data.toList).length ≤ 4 * s.size + 1 := Nat.le_trans (qtB_len _ _) (by rw [← Lib.size_eq]; exact Nat.le_refl _)
      have hBz : w.heap.size + 1 ≤ wr.heap.size := by have := hA.lt; omega
      clear e
      go_wp2_with (first | (go_at_call 80; refine (WriteByte_p (.inr hA) lies0 Q hq0 hq1 (by omega) hBz).mono ?_; rw [HQE.out]; rintro e w2 ⟨rfl, hA2, hO2, -⟩) | (go_at_call 30; refine (String_some (.inr hA2) (by unfold qtB; simp)).mono ?_; rintro e w3 ⟨rfl, hO3⟩))
      go_ret
      exact ⟨rfl, ((hO.trans (hO2.wide (fun i hi => by omega))).trans (hO3.wide (fun i hi => by omega))).below (Nat.le_refl _) (fun i hi => hi)⟩
end Go.Proofs.YtelichlplblboaaGreatDoor
namespace Go.Proofs.YtelichlplblboaaGreatDoor
open Go.RowKit Go.Maps
theorem quoted_34 (s : ByteArray) (w : World) (hs : s.size ≤ 1000000) :
    Calls Tryz.prog 35 #[.string s, .int .u8 34] w fun e w' => e = .returned (.string ⟨(qtL 34 s.data.toList).toArray⟩) ∧ Below w.heap.size w w' := quoted_p s 34 w hs
theorem quoted_39 (s : ByteArray) (w : World) (hs : s.size ≤ 1000000) :
    Calls Tryz.prog 35 #[.string s, .int .u8 39] w fun e w' => e = .returned (.string ⟨(qtL 39 s.data.toList).toArray⟩) ∧ Below w.heap.size w w' := quoted_p s 39 w hs
set_option maxHeartbeats 1000000 in
set_option maxRecDepth 100000 in
theorem Quote_p (s : ByteArray) (w : World) (hs : s.size ≤ 1000000) :
    Calls Tryz.prog 19 #[.string s] w fun e w' => e = .returned (.string ⟨(qtL 34 s.data.toList).toArray⟩) ∧ Below w.heap.size w w' := by
  go_enter Tryz.func19, Tryz.ntmps19
  go_wp2_with (first | (go_at_call 35; refine (quoted_34 _ _ hs).mono ?_; rintro e w1 ⟨rfl, hb⟩))
  go_ret
  exact ⟨rfl, hb⟩
/-- What QuoteChar answers. -/
def qcB (n : Int) : ByteArray := if 0 ≤ n ∧ n ≤ 255 then ⟨(qtL 39 [n.toNat.toUInt8]).toArray⟩ else ⟨#[]⟩
theorem row_one (w : World) (n : Int) (h0 : 0 ≤ n) (h1 : n ≤ 255) : BR (w.alloc (.cells #[.int .u8 n] 5)) 0 (.slice (some ⟨w.heap.size, 0, none⟩) 1 1) [n.toNat.toUInt8] := by
  have e : ((n.toNat.toUInt8.toNat : Nat) : Int) = n := by
    have : n.toNat.toUInt8.toNat = n.toNat % 256 := by simp [Nat.toUInt8]
    omega
  refine ⟨by simp, .inr ⟨w.heap.size, 1, #[.int .u8 n], rfl, Nat.zero_le _, new_block w _, by simp, by unfold maxLen; omega, rfl, ?_⟩⟩
  show [Value.int .u8 n] = [Value.int .u8 ((n.toNat.toUInt8.toNat : Nat) : Int)]
  rw [e]
set_option maxHeartbeats 1000000 in
set_option maxRecDepth 100000 in
theorem QuoteChar_p (n : Int) (w : World) :
    Calls Tryz.prog 20 #[.int .i64 n] w fun e w' => e = .returned (.string (qcB n)) ∧ Below w.heap.size w w' := by
  by_cases h : 0 ≤ n ∧ n ≤ 255
  · have HQ : Hid (qcB n = ⟨(qtL 39 [n.toNat.toUInt8]).toArray⟩) := Lib.hid (by unfold qcB; rw [if_pos h])
    obtain ⟨h0, h1⟩ := h
    have hcv := conv_bytes (row_one w n h0 h1)
    go_enter Tryz.func20, Tryz.ntmps20
    go_wp2_with (first | (go_at_call 35; refine (quoted_39 _ _ (by show 1 ≤ 1000000; omega)).mono ?_; rintro e w1 ⟨rfl, hb⟩))
    go_ret
    exact ⟨by rw [HQ.out]; rfl, ((Below.refl _ _).alloc (Nat.le_refl _) _).trans (hb.mono (by show w.heap.size ≤ (w.heap.push _).size; simp))⟩
  · have HQ : Hid (qcB n = ⟨#[]⟩) := Lib.hid (by unfold qcB; rw [if_neg h])
    have hc : n < 0 ∨ (0 ≤ n ∧ 255 < n) := by omega
    clear h
    rcases hc with h | ⟨h, h2⟩
    all_goals
      go_enter Tryz.func20, Tryz.ntmps20
      go_wp2
      go_ret
      exact ⟨by rw [HQ.out]; rfl, Below.refl _ _⟩
end Go.Proofs.YtelichlplblboaaGreatDoor
