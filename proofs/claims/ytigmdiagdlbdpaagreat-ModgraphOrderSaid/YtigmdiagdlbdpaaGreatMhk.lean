/-
  WALKS. The laws' awake.
  WALKS. ModgraphSorted.
-/
import Derived.Test.YtigmdiagdlbdpaaGreatMhg
import Derived.Test.YtigmdiagdlbdpaaGreatMhe
import Derived.Test.YtigmdiagdlbdpaaGreatMhc
import Derived.Test.YtigmdiagdlbdpaaGreatMhj
import Derived.Test.YtigmdiagdlbdpaaGreatMgq
namespace Go.Proofs.YtigmdiagdlbdpaaGreat
open Go.RowKit Go.Maps
section
variable {w : World} {b : Nat} {t : TypeId}
theorem strz1 {x : UInt8} (h : w.heap[b]? = some (.cells #[.string ⟨#[x]⟩] t (0, 0))) : Strz w (some ⟨b, 0, none⟩) 1 [[x]] := ⟨rfl, fun k hk => ⟨b, 0, rfl, by
  match k, hk with
  | 0, _ => exact (blk_c h rfl).1⟩⟩
theorem strz2 {x y : UInt8} (h : w.heap[b]? = some (.cells #[.string ⟨#[x]⟩, .string ⟨#[y]⟩] t (0, 0))) : Strz w (some ⟨b, 0, none⟩) 2 [[x], [y]] := ⟨rfl, fun k hk => ⟨b, 0, rfl, by
  match k, hk with
  | 0, _ => exact (blk_c (k := 0) h rfl).1
  | 1, _ => exact (blk_c (k := 1) h rfl).1⟩⟩
theorem strz3 {x y z : UInt8} (h : w.heap[b]? = some (.cells #[.string ⟨#[x]⟩, .string ⟨#[y]⟩, .string ⟨#[z]⟩] t (0, 0))) : Strz w (some ⟨b, 0, none⟩) 3 [[x], [y], [z]] := ⟨rfl, fun k hk => ⟨b, 0, rfl, by
  match k, hk with
  | 0, _ => exact (blk_c (k := 0) h rfl).1
  | 1, _ => exact (blk_c (k := 1) h rfl).1
  | 2, _ => exact (blk_c (k := 2) h rfl).1⟩⟩
theorem mdz1 {x : UInt8} {i1 : List Nm} {o1 : Option Addr} {n1 c1 : Nat} (h : w.heap[b]? = some (.cells #[.string ⟨#[x]⟩, .bool false, .slice none 0 0, .slice o1 n1 c1, .slice none 0 0] t (0, 0))) (h1 : Imz w o1 n1 i1) : Mdz w (some ⟨b, 0, none⟩) 1 [⟨[x], i1⟩] := ⟨rfl, fun k hk => ⟨b, 0, rfl, by
  match k, hk with
  | 0, _ => exact ⟨false, none, o1, none, 0, 0, n1, c1, 0, 0, (blk_c (k := 0) h rfl).1, (blk_c (k := 1) h rfl).1, (blk_c (k := 2) h rfl).1, (blk_c (k := 3) h rfl).1, (blk_c (k := 4) h rfl).1, h1⟩⟩⟩
theorem mdz3 {x y z : UInt8} {i1 i2 i3 : List Nm} {o1 o2 o3 : Option Addr} {n1 c1 n2 c2 n3 c3 : Nat} (h : w.heap[b]? = some (.cells #[.string ⟨#[x]⟩, .bool false, .slice none 0 0, .slice o1 n1 c1, .slice none 0 0, .string ⟨#[y]⟩, .bool false, .slice none 0 0, .slice o2 n2 c2, .slice none 0 0, .string ⟨#[z]⟩, .bool false, .slice none 0 0, .slice o3 n3 c3, .slice none 0 0] t (0, 0))) (h1 : Imz w o1 n1 i1) (h2 : Imz w o2 n2 i2) (h3 : Imz w o3 n3 i3) : Mdz w (some ⟨b, 0, none⟩) 3 [⟨[x], i1⟩, ⟨[y], i2⟩, ⟨[z], i3⟩] := ⟨rfl, fun k hk => ⟨b, 0, rfl, by
  match k, hk with
  | 0, _ => exact ⟨false, none, o1, none, 0, 0, n1, c1, 0, 0, (blk_c (k := 0) h rfl).1, (blk_c (k := 1) h rfl).1, (blk_c (k := 2) h rfl).1, (blk_c (k := 3) h rfl).1, (blk_c (k := 4) h rfl).1, h1⟩
  | 1, _ => exact ⟨false, none, o2, none, 0, 0, n2, c2, 0, 0, (blk_c (k := 5) h rfl).1, (blk_c (k := 6) h rfl).1, (blk_c (k := 7) h rfl).1, (blk_c (k := 8) h rfl).1, (blk_c (k := 9) h rfl).1, h2⟩
  | 2, _ => exact ⟨false, none, o3, none, 0, 0, n3, c3, 0, 0, (blk_c (k := 10) h rfl).1, (blk_c (k := 11) h rfl).1, (blk_c (k := 12) h rfl).1, (blk_c (k := 13) h rfl).1, (blk_c (k := 14) h rfl).1, h3⟩⟩⟩
end
/-- A module made with no, one, two imports. -/
theorem mod0 (w : World) (x : UInt8) : Calls Tryz.prog 23 #[.string ⟨#[x]⟩, .slice none 0 0] w fun e w' => ∃ oi ci, e = .returned (.agg #[.string ⟨#[x]⟩, .bool false, .slice none 0 0, .slice oi 0 ci, .slice none 0 0]) ∧ Imz w' oi 0 [] ∧ Only (fun _ => False) w w' :=
  module_p w [x] none 0 0 [] (strz_nil _ 0 _) (by omega)
theorem mod1 (w : World) (x y : UInt8) : Calls Tryz.prog 23 #[.string ⟨#[x]⟩, .slice (some ⟨w.heap.size, 0, none⟩) 1 1] (w.alloc (.cells #[.string ⟨#[y]⟩] 9)) fun e w' => ∃ oi ci, e = .returned (.agg #[.string ⟨#[x]⟩, .bool false, .slice none 0 0, .slice oi 1 ci, .slice none 0 0]) ∧ Imz w' oi 1 [[y]] ∧ Only (fun _ => False) w w' :=
  (module_p _ [x] _ 1 1 [[y]] (strz1 (new_block w _)) (by omega)).mono (by
    rintro e w' ⟨oi, ci, h1, h2, h3⟩
    exact ⟨oi, ci, h1, h2, ((Only.refl _ _).alloc _).trans h3⟩)
theorem size_al (w : World) (o : Obj) : (w.alloc o).heap.size = w.heap.size + 1 := by show (Array.push _ _).size = _; rw [Array.size_push]
theorem mod1n (w : World) (x y : UInt8) (N : Nat) (hN : w.heap.size = N) : Calls Tryz.prog 23 #[.string ⟨#[x]⟩, .slice (some ⟨N, 0, none⟩) 1 1] (w.alloc (.cells #[.string ⟨#[y]⟩] 9)) fun e w' => ∃ oi ci, e = .returned (.agg #[.string ⟨#[x]⟩, .bool false, .slice none 0 0, .slice oi 1 ci, .slice none 0 0]) ∧ Imz w' oi 1 [[y]] ∧ Only (fun _ => False) w w' := by
  subst hN
  exact mod1 w x y
theorem mod2 (w : World) (x y z : UInt8) : Calls Tryz.prog 23 #[.string ⟨#[x]⟩, .slice (some ⟨w.heap.size, 0, none⟩) 2 2] (w.alloc (.cells #[.string ⟨#[y]⟩, .string ⟨#[z]⟩] 9)) fun e w' => ∃ oi ci, e = .returned (.agg #[.string ⟨#[x]⟩, .bool false, .slice none 0 0, .slice oi 2 ci, .slice none 0 0]) ∧ Imz w' oi 2 [[y], [z]] ∧ Only (fun _ => False) w w' :=
  (module_p _ [x] _ 2 2 [[y], [z]] (strz2 (new_block w _)) (by omega)).mono (by
    rintro e w' ⟨oi, ci, h1, h2, h3⟩
    exact ⟨oi, ci, h1, h2, ((Only.refl _ _).alloc _).trans h3⟩)
theorem okL_of {l : List Md} (h : ∀ m ∈ l, m.nm.length ≤ 100 ∧ (∀ s ∈ m.im, s.length ≤ 100) ∧ m.im.length ≤ 100) : OkL l := ⟨fun m hm => ⟨by have := (h m hm).1; unfold maxLen; omega, fun s hs => by have := (h m hm).2.1 s hs; unfold maxLen; omega⟩, fun m hm => by have := (h m hm).2.2; omega⟩
theorem exL_ok : OkL exL := okL_of (by decide)
theorem exX_ok : OkL exX := okL_of (by decide)
theorem exC_ok : OkL exC := okL_of (by decide)
/-- The calls of the example, at their answers. -/
theorem exOrd (w : World) (oa : Option Addr) (ca : Nat) (h : Mdz w oa 3 exL) : Calls Tryz.prog 10 #[.slice oa 3 ca] w fun e w' => ∃ ol cl, e = .returned (.tuple #[.slice ol 3 cl, .agg #[.int .i64 0, .string ⟨#[]⟩, .int .i64 0, .int .i64 0]]) ∧ Strz w' ol 3 [[66], [65], [67]] ∧ Only (fun _ => False) w w' := (Order_p w oa 3 ca exL h (fun _ => exL_ok)).mono (by
  intro e w' hq
  unfold nmQ at hq
  rw [exL_acc, exL_ord] at hq
  obtain ⟨⟨ol, cl, h1, h2⟩, h3⟩ := hq
  exact ⟨ol, cl, h1, h2.strz, h3⟩)
theorem exLev (w : World) (oa : Option Addr) (ca : Nat) (h : Mdz w oa 3 exL) : Calls Tryz.prog 12 #[.slice oa 3 ca] w fun e w' => ∃ bl ol ra rc cl, e = .returned (.tuple #[.slice (some ⟨bl, ol, none⟩) 2 cl, .agg #[.int .i64 0, .string ⟨#[]⟩, .int .i64 0, .int .i64 0]]) ∧ (w'.cell? ⟨bl, ol, none⟩ = some (.slice ra 2 rc) ∧ Strz w' ra 2 [[66], [67]]) ∧ Only (fun _ => False) w w' := (mLevels_p w oa 3 ca exL h (fun _ => exL_ok)).mono (by
  intro e w' hq
  unfold lvQ at hq
  rw [exL_acc, exL_lev] at hq
  obtain ⟨⟨ol, na, cl, h1, h2⟩, h3⟩ := hq
  have hn := h2.len
  change 2 = na at hn
  subst hn
  obtain ⟨bl, o, ra, rn, rc, e1, c1, s1⟩ := h2.cell 0 (by decide)
  subst e1
  have hr := s1.len
  change 2 = rn at hr
  subst hr
  exact ⟨bl, o, ra, rc, cl, h1, ⟨c1, s1⟩, h3⟩)
theorem exNds (w : World) (oa : Option Addr) (ca : Nat) (h : Mdz w oa 3 exL) : Calls Tryz.prog 15 #[.slice oa 3 ca, .string ⟨#[65]⟩] w fun e w' => ∃ ol cl, e = .returned (.tuple #[.slice ol 1 cl, .agg #[.int .i64 0, .string ⟨#[]⟩, .int .i64 0, .int .i64 0]]) ∧ Strz w' ol 1 [[66]] ∧ Only (fun _ => False) w w' := (Needs_p w oa 3 ca exL [65] h (fun _ => exL_ok)).mono (by
  intro e w' hq
  unfold nmQ at hq
  rw [exL_rfA, exL_nds] at hq
  obtain ⟨⟨ol, cl, h1, h2⟩, h3⟩ := hq
  exact ⟨ol, cl, h1, h2.strz, h3⟩)
theorem exUsr (w : World) (oa : Option Addr) (ca : Nat) (h : Mdz w oa 3 exL) : Calls Tryz.prog 17 #[.slice oa 3 ca, .string ⟨#[66]⟩] w fun e w' => ∃ ol cl, e = .returned (.tuple #[.slice ol 1 cl, .agg #[.int .i64 0, .string ⟨#[]⟩, .int .i64 0, .int .i64 0]]) ∧ Strz w' ol 1 [[65]] ∧ Only (fun _ => False) w w' := (Users_p w oa 3 ca exL [66] h (fun _ => exL_ok)).mono (by
  intro e w' hq
  unfold nmQ at hq
  rw [exL_rfB, exL_usr] at hq
  obtain ⟨⟨ol, cl, h1, h2⟩, h3⟩ := hq
  exact ⟨ol, cl, h1, h2.strz, h3⟩)
theorem exOrX (w : World) (oa : Option Addr) (ca : Nat) (h : Mdz w oa 1 exX) : Calls Tryz.prog 10 #[.slice oa 1 ca] w fun e w' => e = .returned (.tuple #[.slice none 0 0, .agg #[.int .i64 16, .string ⟨#[88]⟩, .int .i64 0, .int .i64 0]]) ∧ Only (fun _ => False) w w' := (Order_p w oa 1 ca exX h (fun _ => exX_ok)).mono (by
  intro e w' hq
  unfold nmQ at hq
  rw [exX_acc] at hq
  exact hq)
theorem exCyc (w : World) (oa : Option Addr) (ca : Nat) (h : Mdz w oa 3 exC) : Calls Tryz.prog 19 #[.slice oa 3 ca] w fun e w' => ∃ ol cl, e = .returned (.slice ol 2 cl) ∧ Strz w' ol 2 [[65], [66]] ∧ Only (fun _ => False) w w' := (Cycle_p w oa 3 ca exC h (fun _ => exC_ok)).mono (by
  rw [exC_cyc]
  rintro e w' ⟨ol, cl, h1, h2, h3⟩
  exact ⟨ol, cl, h1, h2.strz, h3⟩)
/-- A box with a fault's cells; its cells. -/
def Bx (w : World) (b c : Nat) (s : ByteArray) : Prop := w.heap[b]? = some (.cells #[.int .i64 c, .string s, .int .i64 0, .int .i64 0] 28 (0, 0))
theorem Bx.on {w w' : World} {b c : Nat} {s : ByteArray} (h : Bx w b c s) (ho : Only (fun _ => False) w w') : Bx w' b c s := (ho.block b (lt_of_block h) (fun hc => hc)).trans h
theorem Bx.cells {w : World} {b c : Nat} {s : ByteArray} (h : Bx w b c s) : w.cell? ⟨b, 0, none⟩ = some (.int .i64 c) ∧ w.cell? ⟨b, 1, none⟩ = some (.string s) ∧ w.cell? ⟨b, 2, none⟩ = some (.int .i64 0) ∧ w.cell? ⟨b, 3, none⟩ = some (.int .i64 0) := ⟨(blk_c (k := 0) h rfl).1, (blk_c (k := 1) h rfl).1, (blk_c (k := 2) h rfl).1, (blk_c (k := 3) h rfl).1⟩
theorem Bx.new (w : World) : Bx (w.alloc (.cells #[.int .i64 0, .string ⟨#[]⟩, .int .i64 0, .int .i64 0] 28)) w.heap.size 0 ⟨#[]⟩ := new_block w _
theorem Bx.newX (w : World) : Bx (w.alloc (.cells #[.int .i64 16, .string ⟨#[88]⟩, .int .i64 0, .int .i64 0] 28)) w.heap.size 16 ⟨#[88]⟩ := new_block w _
theorem sameT (w : World) (oa ob : Option Addr) (n ca cb : Nat) (l : List Nm) (h : Strz w oa n l) (h' : Strz w ob n l) (hn : n ≤ 1000000) : Calls Tryz.prog 14 #[.slice oa n ca, .slice ob n cb] w fun e w' => e = .returned (.bool true) ∧ Only (fun _ => False) w w' := mSame_p w oa ob n n ca cb l l h h' hn true (by simp)
theorem sameL1 (w : World) (oa : Option Addr) (ca N : Nat) (x : UInt8) (h : Strz w oa 1 [[x]]) (hN : w.heap.size = N) : Calls Tryz.prog 14 #[.slice oa 1 ca, .slice (some ⟨N, 0, none⟩) 1 1] (w.alloc (.cells #[.string ⟨#[x]⟩] 9)) fun e w' => e = .returned (.bool true) ∧ Only (fun _ => False) w w' := by
  subst hN
  exact (sameT _ _ _ 1 _ _ [[x]] (h.old ((Only.refl (fun _ => False) w).alloc _) (fun _ _ hc => hc)) (strz1 (new_block w _)) (by omega)).mono (by rintro e w' ⟨h1, h2⟩; exact ⟨h1, ((Only.refl _ _).alloc _).trans h2⟩)
theorem sameL2 (w : World) (oa : Option Addr) (ca N : Nat) (x y : UInt8) (h : Strz w oa 2 [[x], [y]]) (hN : w.heap.size = N) : Calls Tryz.prog 14 #[.slice oa 2 ca, .slice (some ⟨N, 0, none⟩) 2 2] (w.alloc (.cells #[.string ⟨#[x]⟩, .string ⟨#[y]⟩] 9)) fun e w' => e = .returned (.bool true) ∧ Only (fun _ => False) w w' := by
  subst hN
  exact (sameT _ _ _ 2 _ _ [[x], [y]] (h.old ((Only.refl (fun _ => False) w).alloc _) (fun _ _ hc => hc)) (strz2 (new_block w _)) (by omega)).mono (by rintro e w' ⟨h1, h2⟩; exact ⟨h1, ((Only.refl _ _).alloc _).trans h2⟩)
theorem sameL3 (w : World) (oa : Option Addr) (ca N : Nat) (x y z : UInt8) (h : Strz w oa 3 [[x], [y], [z]]) (hN : w.heap.size = N) : Calls Tryz.prog 14 #[.slice oa 3 ca, .slice (some ⟨N, 0, none⟩) 3 3] (w.alloc (.cells #[.string ⟨#[x]⟩, .string ⟨#[y]⟩, .string ⟨#[z]⟩] 9)) fun e w' => e = .returned (.bool true) ∧ Only (fun _ => False) w w' := by
  subst hN
  exact (sameT _ _ _ 3 _ _ [[x], [y], [z]] (h.old ((Only.refl (fun _ => False) w).alloc _) (fun _ _ hc => hc)) (strz3 (new_block w _)) (by omega)).mono (by rintro e w' ⟨h1, h2⟩; exact ⟨h1, ((Only.refl _ _).alloc _).trans h2⟩)
set_option maxRecDepth 100000 in
set_option maxHeartbeats 16000000 in
theorem awake_p (w : World) : Calls Tryz.prog 9 #[] w fun e w' => e = .returned (.bool true) ∧ Only (fun _ => False) w w' := by
  go_enter Tryz.func9, Tryz.ntmps9
  go_wp2_with (first
    | (go_at_call 23; (with_reducible refine (mod1 w 65 66).mono ?_); rintro e w1 ⟨oi1, ci1, rfl, hI1, hO1⟩; skip)
    | (go_at_call 23; (with_reducible refine (mod0 w1 66).mono ?_); rintro e w2 ⟨oi2, ci2, rfl, hI2, hO2⟩; skip)
    | (go_at_call 23; (with_reducible refine (mod0 w2 67).mono ?_); rintro e w3 ⟨oi3, ci3, rfl, hI3, hO3⟩; have ha := (Only.refl (fun _ => False) w3).alloc (.cells #[.string ⟨#[65]⟩, .bool false, .slice none 0 0, .slice oi1 1 ci1, .slice none 0 0, .string ⟨#[66]⟩, .bool false, .slice none 0 0, .slice oi2 0 ci2, .slice none 0 0, .string ⟨#[67]⟩, .bool false, .slice none 0 0, .slice oi3 0 ci3, .slice none 0 0] 42); have HL := Lib.hid (mdz3 (new_block w3 (.cells #[.string ⟨#[65]⟩, .bool false, .slice none 0 0, .slice oi1 1 ci1, .slice none 0 0, .string ⟨#[66]⟩, .bool false, .slice none 0 0, .slice oi2 0 ci2, .slice none 0 0, .string ⟨#[67]⟩, .bool false, .slice none 0 0, .slice oi3 0 ci3, .slice none 0 0] 42)) (hI1.old (hO2.trans (hO3.trans ha)) (fun _ _ hc => hc)) (hI2.old (hO3.trans ha) (fun _ _ hc => hc)) (hI3.old ha (fun _ _ hc => hc))); have HO3 := Lib.hid (hO1.trans (hO2.trans (hO3.trans ha))); clear ha hI1 hI2 hI3 hO1 hO2 hO3)
    | (go_at_call 10; (with_reducible refine (exOrd (w3.alloc (.cells #[.string ⟨#[65]⟩, .bool false, .slice none 0 0, .slice oi1 1 ci1, .slice none 0 0, .string ⟨#[66]⟩, .bool false, .slice none 0 0, .slice oi2 0 ci2, .slice none 0 0, .string ⟨#[67]⟩, .bool false, .slice none 0 0, .slice oi3 0 ci3, .slice none 0 0] 42)) _ _ HL.out).mono ?_); rintro e w4 ⟨oa, ca, rfl, hA, hO4⟩; have HA := Lib.hid hA; have HO4 := Lib.hid hO4; clear hA hO4)
    | (go_at_call 12; (with_reducible refine (exLev (w4.alloc (.cells #[.int .i64 0, .string ⟨#[]⟩, .int .i64 0, .int .i64 0] 28)) _ _ (HL.out.old (HO4.out.alloc _) (fun _ _ hc => hc))).mono ?_); rintro e w5 ⟨bB, oB, ra, rc, cb, rfl, hB, hO5⟩; have HB := Lib.hid hB; have HO5 := Lib.hid ((HO4.out.alloc (.cells #[.int .i64 0, .string ⟨#[]⟩, .int .i64 0, .int .i64 0] 28)).trans hO5); have HS5 := Lib.hid (((Only.refl (fun _ => False) w4).alloc (.cells #[.int .i64 0, .string ⟨#[]⟩, .int .i64 0, .int .i64 0] 28)).trans hO5); have HF := Lib.hid ((Bx.new w4).on hO5); clear hB hO5)
    | (go_at_call 15; (with_reducible refine (exNds (w5.alloc (.cells #[.int .i64 0, .string ⟨#[]⟩, .int .i64 0, .int .i64 0] 28)) _ _ (HL.out.old (HO5.out.alloc _) (fun _ _ hc => hc))).mono ?_); rintro e w6 ⟨oc, cc, rfl, hC, hO6⟩; have HC := Lib.hid hC; have HO6 := Lib.hid ((HO5.out.alloc (.cells #[.int .i64 0, .string ⟨#[]⟩, .int .i64 0, .int .i64 0] 28)).trans hO6); have HS6 := Lib.hid (((Only.refl (fun _ => False) w5).alloc (.cells #[.int .i64 0, .string ⟨#[]⟩, .int .i64 0, .int .i64 0] 28)).trans hO6); have HG := Lib.hid ((Bx.new w5).on hO6); clear hC hO6)
    | (go_at_call 17; (with_reducible refine (exUsr (w6.alloc (.cells #[.int .i64 0, .string ⟨#[]⟩, .int .i64 0, .int .i64 0] 28)) _ _ (HL.out.old (HO6.out.alloc _) (fun _ _ hc => hc))).mono ?_); rintro e w7 ⟨od, cd, rfl, hD, hO7⟩; have HD := Lib.hid hD; have HO7 := Lib.hid ((HO6.out.alloc (.cells #[.int .i64 0, .string ⟨#[]⟩, .int .i64 0, .int .i64 0] 28)).trans hO7); have HS7 := Lib.hid (((Only.refl (fun _ => False) w6).alloc (.cells #[.int .i64 0, .string ⟨#[]⟩, .int .i64 0, .int .i64 0] 28)).trans hO7); have HH := Lib.hid ((Bx.new w6).on hO7); clear hD hO7)
    | (go_at_call 23; (with_reducible refine (mod1n (w7.alloc (.cells #[.int .i64 0, .string ⟨#[]⟩, .int .i64 0, .int .i64 0] 28)) 65 88 _ (size_al _ _)).mono ?_); rintro e w8 ⟨oi8, ci8, rfl, hI8, hO8⟩; have HI := Lib.hid ((Bx.new w7).on hO8); have HS8 := Lib.hid (((Only.refl (fun _ => False) w7).alloc (.cells #[.int .i64 0, .string ⟨#[]⟩, .int .i64 0, .int .i64 0] 28)).trans hO8); have HI8 := Lib.hid hI8; clear hI8 hO8)
    | (go_at_call 10; (with_reducible refine (exOrX (w8.alloc (.cells #[.string ⟨#[65]⟩, .bool false, .slice none 0 0, .slice oi8 1 ci8, .slice none 0 0] 42)) _ _ (mdz1 (new_block w8 (.cells #[.string ⟨#[65]⟩, .bool false, .slice none 0 0, .slice oi8 1 ci8, .slice none 0 0] 42)) (HI8.out.old ((Only.refl (fun _ => False) w8).alloc _) (fun _ _ hc => hc)))).mono ?_); rintro e w9 ⟨rfl, hO9⟩; have HS9 := Lib.hid (((Only.refl (fun _ => False) w8).alloc (.cells #[.string ⟨#[65]⟩, .bool false, .slice none 0 0, .slice oi8 1 ci8, .slice none 0 0] 42)).trans hO9); clear hO9)
    | (go_at_call 23; (with_reducible refine (mod1n (w9.alloc (.cells #[.int .i64 16, .string ⟨#[88]⟩, .int .i64 0, .int .i64 0] 28)) 65 66 _ (size_al _ _)).mono ?_); rintro e w10 ⟨oi10, ci10, rfl, hI10, hO10⟩; have HJ := Lib.hid ((Bx.newX w9).on hO10); have HS10 := Lib.hid (((Only.refl (fun _ => False) w9).alloc (.cells #[.int .i64 16, .string ⟨#[88]⟩, .int .i64 0, .int .i64 0] 28)).trans hO10); have HI10 := Lib.hid hI10; clear hI10 hO10)
    | (go_at_call 23; (with_reducible refine (mod2 w10 66 65 67).mono ?_); rintro e w11 ⟨oi11, ci11, rfl, hI11, hO11⟩; have HI11 := Lib.hid hI11; have HS11 := Lib.hid hO11; clear hI11 hO11)
    | (go_at_call 23; (with_reducible refine (mod1 w11 67 66).mono ?_); rintro e w12 ⟨oi12, ci12, rfl, hI12, hO12⟩; have ha := (Only.refl (fun _ => False) w12).alloc (.cells #[.string ⟨#[65]⟩, .bool false, .slice none 0 0, .slice oi10 1 ci10, .slice none 0 0, .string ⟨#[66]⟩, .bool false, .slice none 0 0, .slice oi11 2 ci11, .slice none 0 0, .string ⟨#[67]⟩, .bool false, .slice none 0 0, .slice oi12 1 ci12, .slice none 0 0] 42); have HLC := Lib.hid (mdz3 (new_block w12 (.cells #[.string ⟨#[65]⟩, .bool false, .slice none 0 0, .slice oi10 1 ci10, .slice none 0 0, .string ⟨#[66]⟩, .bool false, .slice none 0 0, .slice oi11 2 ci11, .slice none 0 0, .string ⟨#[67]⟩, .bool false, .slice none 0 0, .slice oi12 1 ci12, .slice none 0 0] 42)) (HI10.out.old (HS11.out.trans (hO12.trans ha)) (fun _ _ hc => hc)) (HI11.out.old (hO12.trans ha) (fun _ _ hc => hc)) (hI12.old ha (fun _ _ hc => hc))); have HS12 := Lib.hid (hO12.trans ha); clear ha hI12 hO12)
    | (go_at_call 19; (with_reducible refine (exCyc (w12.alloc (.cells #[.string ⟨#[65]⟩, .bool false, .slice none 0 0, .slice oi10 1 ci10, .slice none 0 0, .string ⟨#[66]⟩, .bool false, .slice none 0 0, .slice oi11 2 ci11, .slice none 0 0, .string ⟨#[67]⟩, .bool false, .slice none 0 0, .slice oi12 1 ci12, .slice none 0 0] 42)) _ _ HLC.out).mono ?_); rintro e w13 ⟨oe, ce, rfl, hE, hO13⟩; have HS13 := Lib.hid (HS12.out.trans hO13); have HE := Lib.hid hE; have o13 := (Only.refl (fun _ => False) w13).alloc (.cells #[.int .i64 0, .string ⟨#[]⟩, .int .i64 0, .int .i64 0] 28); have o10 := HS11.out.trans (HS12.out.trans (hO13.trans o13)); have o9 := HS10.out.trans o10; have o8 := HS9.out.trans o9; have o7 := HS8.out.trans o8; have o6 := HS7.out.trans o7; have o5 := HS6.out.trans o6; have xf := HF.out.on o5; have xg := HG.out.on o6; have xh := HH.out.on o7; have xi := HI.out.on o8; have xj := HJ.out.on o10; have xo := Bx.new w13; have XJ := Lib.hid xj; have OB := Lib.hid o5; have OA := Lib.hid o5; have O6 := Lib.hid o6; have O7 := Lib.hid o7; have OE := Lib.hid o13; obtain ⟨f0, f1, f2, f3⟩ := xf.cells; obtain ⟨g0, g1, g2, g3⟩ := xg.cells; obtain ⟨h0, h1, h2, h3⟩ := xh.cells; obtain ⟨i0, i1, i2, i3⟩ := xi.cells; obtain ⟨o0, o1, o2, o3⟩ := xo.cells; clear xf xg xh xi xj xo o13 o10 o9 o8 o7 o6 o5 hO13 hE)
    | (go_at_call 14; (with_reducible refine (sameL3 (w13.alloc (.cells #[.int .i64 0, .string ⟨#[]⟩, .int .i64 0, .int .i64 0] 28)) oa ca _ 66 65 67 (HA.out.old (HS5.out.trans OB.out) (fun _ _ hc => hc)) (size_al _ _)).mono ?_); rintro e w14 ⟨rfl, hO14⟩; have O14 := Lib.hid hO14; have b14 := cell_old HB.out.1 (OB.out.trans hO14) (fun _ _ hc => hc) rfl; clear hO14)
    | (go_at_call 14; (with_reducible refine (sameL2 w14 ra rc _ 66 67 (HB.out.2.old (OB.out.trans O14.out) (fun _ _ hc => hc)) rfl).mono ?_); rintro e w15 ⟨rfl, hO15⟩; have O15 := Lib.hid (O14.out.trans hO15); clear hO15 b14)
    | (go_at_call 14; (with_reducible refine (sameL1 w15 oc cc _ 66 (HC.out.old (O6.out.trans O15.out) (fun _ _ hc => hc)) rfl).mono ?_); rintro e w16 ⟨rfl, hO16⟩; have O16 := Lib.hid (O15.out.trans hO16); clear hO16)
    | (go_at_call 14; (with_reducible refine (sameL1 w16 od cd _ 65 (HD.out.old (O7.out.trans O16.out) (fun _ _ hc => hc)) rfl).mono ?_); rintro e w17 ⟨rfl, hO17⟩; have O17 := Lib.hid (O16.out.trans hO17); obtain ⟨j0, j1, j2, j3⟩ := (XJ.out.on O17.out).cells; clear hO17)
    | (go_at_call 14; (with_reducible refine (sameL2 w17 oe ce _ 65 66 (HE.out.old (OE.out.trans O17.out) (fun _ _ hc => hc)) rfl).mono ?_); rintro e w18 ⟨rfl, hO18⟩; have O18 := Lib.hid (O17.out.trans hO18); clear hO18))
  go_ret
  exact ⟨rfl, HO3.out.trans ((HO4.out).trans (HS5.out.trans (OB.out.trans O18.out)))⟩
end Go.Proofs.YtigmdiagdlbdpaaGreat
namespace Go.Proofs.YtigmdiagdlbdpaaGreat
open Go.RowKit Go.Maps
/-- A module's cells. -/
structure Mx where
  nm : Nm
  al : Bool
  ox : Option Addr
  nx : Nat
  cx : Nat
  oi : Option Addr
  ni : Nat
  ci : Nat
  od : Option Addr
  nd : Nat
  cd : Nat
def mxC (x : Mx) : List Value := [encStr x.nm, .bool x.al, .slice x.ox x.nx x.cx, .slice x.oi x.ni x.ci, .slice x.od x.nd x.cd]
theorem mxC_len (x : Mx) : (mxC x).length = 5 := rfl
theorem one_mx (x : Mx) : ∀ u ∈ mxC x, u.oneCell' = true := by
  intro u hu
  simp [mxC] at hu
  rcases hu with rfl | rfl | rfl | rfl | rfl <;> rfl
/-- A row of modules of the call's own; what the modules import lies in an older world. -/
def BkR (w0 w : World) (B : Nat) (v : Value) (l : List Md) : Prop := ∃ xs : List Mx, w.ownsRow B 42 5 v xs.length (xs.flatMap mxC) ∧ xs.length = l.length ∧ ∀ k (hk : k < xs.length), xs[k].nm = (mdAt l k).nm ∧ Imz w0 xs[k].oi xs[k].ni (mdAt l k).im
theorem BkR.nil (w0 w : World) (B : Nat) : BkR w0 w B (.slice none 0 0) [] := ⟨[], World.ownsRow_nil _ _ _ _, rfl, fun _ hk => absurd hk (Nat.not_lt_zero _)⟩
theorem BkR.mdz {w0 w : World} {B n ca : Nat} {oa : Option Addr} {l : List Md} (h : BkR w0 w B (.slice oa n ca) l) (hu : ∀ oi ni im, Imz w0 oi ni im → Imz w oi ni im) : Mdz w oa n l := by
  obtain ⟨xs, ho, hl, hx⟩ := h
  obtain ⟨oa', ca', hv⟩ := rowForm ho
  cases hv
  refine ⟨hl.symm, fun k hk => ?_⟩
  have hk' : k < xs.length := by omega
  rcases ho.2 with ⟨hv, hn⟩ | ⟨g, cap, cur, hv, hb, hg, hle, hr⟩
  · omega
  · cases hv
    have hc := World.ownsRow.cells ho (g := g) rfl
    have key : ∀ j v, j < 5 → (mxC xs[k])[j]? = some v → w.cell? ⟨g, 0 + k * 5 + j, none⟩ = some v := by
      intro j v hj hv
      have := hc (k * 5 + j) v (by rw [flatM_get 5 mxC mxC_len xs k j hk' hj]; exact hv)
      rw [add_plain] at this
      rw [Nat.add_assoc]
      exact this
    obtain ⟨h1, h2⟩ := hx k hk'
    refine ⟨g, 0, rfl, xs[k].al, xs[k].ox, xs[k].oi, xs[k].od, xs[k].nx, xs[k].cx, xs[k].ni, xs[k].ci, xs[k].nd, xs[k].cd, ?_, key 1 _ (by decide) rfl, key 2 _ (by decide) rfl, key 3 _ (by decide) rfl, key 4 _ (by decide) rfl, hu _ _ _ h2⟩
    rw [← h1]
    exact key 0 _ (by decide) rfl
theorem mdAt_left {l : List Md} {m : Md} {k : Nat} (h : k < l.length) : mdAt (l ++ [m]) k = mdAt l k := by
  rw [mdAt_get (by rw [List.length_append]; omega), mdAt_get h, List.getElem_append_left h]
theorem mdAt_last (l : List Md) (m : Md) : mdAt (l ++ [m]) l.length = m := by
  rw [mdAt_get (by rw [List.length_append]; simp)]
  simp
theorem BkR.snoc {w0 w3 : World} {B : Nat} {v' : Value} {l : List Md} {m : Md} {x : Mx} {xs : List Mx} (hl : xs.length = l.length) (hx : ∀ k (hk : k < xs.length), xs[k].nm = (mdAt l k).nm ∧ Imz w0 xs[k].oi xs[k].ni (mdAt l k).im) (hm : x.nm = m.nm) (hi : Imz w0 x.oi x.ni m.im) (hrow : w3.ownsRow B 42 5 v' (xs.length + 1) (xs.flatMap mxC ++ mxC x)) : BkR w0 w3 B v' (l ++ [m]) := by
  refine ⟨xs ++ [x], by rw [List.length_append, List.flatMap_append]; simpa using hrow, by simp [hl], fun k hk => ?_⟩
  by_cases e : k < xs.length
  · rw [List.getElem_append_left e, mdAt_left (by omega)]
    exact hx k e
  · have e2 : k = xs.length := by rw [List.length_append] at hk; simp at hk; omega
    subst e2
    have e3 : (xs ++ [x])[xs.length] = x := by simp
    rw [e3, hl, mdAt_last]
    exact ⟨hm, hi⟩
theorem cell_up {w w' : World} {b o : Nat} {v : Value} (h : w.cell? ⟨b, o, none⟩ = some v) (ho : Only (w.heap.size ≤ ·) w w') : w'.cell? ⟨b, o, none⟩ = some v := cell_old h ho (fun i hi hc => by have hc' : w.heap.size ≤ i := hc; omega) rfl
theorem Imz.up {w w' : World} {oa : Option Addr} {n : Nat} {l : List Nm} (h : Imz w oa n l) (ho : Only (w.heap.size ≤ ·) w w') : Imz w' oa n l := h.old ho (fun i hi hc => by have hc' : w.heap.size ≤ i := hc; omega)
theorem strz_take {w : World} {oa : Option Addr} {n : Nat} {l : List Nm} (h : Strz w oa n l) {i : Nat} (hi : i ≤ n) : Strz w oa i (l.take i) := by
  have hl := h.len
  refine ⟨by rw [List.length_take]; omega, fun k hk => ?_⟩
  rw [List.length_take] at hk
  obtain ⟨b, o, e, hc⟩ := h.cell k (by omega)
  refine ⟨b, o, e, ?_⟩
  have e2 : nAt (l.take i) k = nAt l k := by rw [nAt_get (by rw [List.length_take]; omega), nAt_get (by omega), List.getElem_take]
  rw [e2]
  exact hc
theorem SR.cap {w : World} {B n ca : Nat} {oa : Option Addr} {l : List Nm} (h : SR w B (.slice oa n ca) l) : n ≤ ca := by
  rcases h.2 with ⟨hv, hn⟩ | ⟨g, cap, cur, hv, hb, hg, hle, hr⟩
  · cases hv
    exact Nat.zero_le _
  · cases hv
    exact hle
theorem mem_takeN {l : List Nm} {i j : Nat} (hj : j < i) (hl : j < l.length) : nAt l j ∈ l.take i := by
  rw [nAt_get hl]
  have h1 : j < (l.take i).length := by rw [List.length_take]; omega
  have := List.getElem_mem h1
  rwa [List.getElem_take] at this
/-- In the order no name stands twice, and a module's imports stand ahead of it. -/
theorem Good.new {l : List Md} (h : Good l) {i : Nat} (hi : i < (ordM l).length) : nAt (ordM l) i ∉ (ordM l).take i := fun hc => by
  obtain ⟨j, hj, e⟩ := List.getElem_of_mem hc
  rw [List.length_take] at hj
  rw [List.getElem_take, ← nAt_get (by omega)] at e
  exact h.dif (i := j) (j := i) (by omega) hi e
theorem Good.imps {l : List Md} (h : Good l) {i : Nat} (hi : i < (ordM l).length) : ∀ t ∈ impP l (nAt (ordM l) i), t ∈ (ordM l).take i := fun t ht => by
  obtain ⟨m, hm, e, hs⟩ := impP_mem.1 ht
  obtain ⟨j, hj, e2⟩ := h.pre hi hm e t hs
  rw [← e2]
  exact mem_takeN hj (by omega)
theorem rev_take {l : List Md} {k : Nat} (hk : k < l.length) : l.reverse.take (k + 1) = l.reverse.take k ++ [mdAt l (l.length - 1 - k)] := by
  have hk2 : k < l.reverse.length := by rw [List.length_reverse]; exact hk
  rw [List.take_succ_eq_append_getElem hk2, List.getElem_reverse, mdAt_get (by omega)]
set_option maxRecDepth 100000 in
set_option maxHeartbeats 16000000 in
theorem ModgraphSorted_walk (w : World) (oa : Option Addr) (n ca : Nat) (l : List Md) (h : Mdz w oa n l) (hn : n ≤ maxLen) (hsz : ∀ m ∈ l, SzM m) : Calls Tryz.prog 6 #[.slice oa n ca] w fun e w' => e = .returned (.bool true) ∧ Only (fun _ => False) w w' := by
  have hl := h.len
  have HL := Lib.hid h
  have HZ := Lib.hid hsz
  unfold maxLen at hn
  clear h hsz
  by_cases hbig : 32 < n
  · have h1 : (0 : Int) ≤ (n : Int) - 1 := by omega
    have h2 : ¬ (n : Int) ≤ 32 := by omega
    have h3 : (32 : Int) < (n : Int) := by omega
    go_enter Tryz.func6, Tryz.ntmps6
    go_wp2
    go_loopw [3, 4] (fun v q wr => v = .slice none 0 0 ∧ q = .int .i64 ((n : Int) - 1) ∧ wr = w) (fun _ _ _ => 0)
    case atStart => exact ⟨rfl, by go_num, rfl⟩
    case round =>
      obtain ⟨rfl, rfl, rfl⟩ := hrel
      go_wp2_with (go_at_call 9; (refine (awake_p _).mono ?_); rintro e w5 ⟨rfl, hO5⟩)
      go_ret
      exact ⟨rfl, hO5⟩
  · obtain ⟨i0', hi, hz0, hz1, hz2⟩ := info_parts infoMd
    go_enter Tryz.func6, Tryz.ntmps6
    go_wp2
    go_loopw [3, 4] (fun v q wr => ∃ k : Nat, k ≤ n ∧ q = .int .i64 ((n : Int) - 1 - k) ∧ BkR w wr w.heap.size v (l.reverse.take k) ∧ Hid (∀ j, n - k ≤ j → j < n → (mdAt l j).im.length ≤ 12) ∧ Only (w.heap.size ≤ ·) w wr) (fun _ q _ => (intOf q + 1).toNat)
    case atStart => exact ⟨0, by omega, by go_num, BkR.nil _ _ _, Lib.hid (fun j h1 h2 => by omega), Only.refl _ _⟩
    case round =>
      obtain ⟨k, hk, rfl, hR, HS, hO⟩ := hrel
      have HO := Lib.hid hO
      have HR := Lib.hid hR
      have h32 : (n : Int) ≤ 32 := by omega
      have h32' : ¬ (32 : Int) < (n : Int) := by omega
      by_cases hlt : k < n
      · obtain ⟨j, hj⟩ : ∃ j, n - 1 - k = j := ⟨_, rfl⟩
        have hjn : j < n := by omega
        have hjl : j < l.length := by omega
        have hje : (n : Int) - 1 - (k : Int) = (j : Nat) := by omega
        rw [hje]
        obtain ⟨b1, o1, e1, c1⟩ := HL.out.cell j hjl
        subst e1
        have hrt := rev_take (l := l) (k := k) (by omega)
        rw [show l.length - 1 - k = j by omega] at hrt
        obtain ⟨m, hm⟩ : ∃ m, mdAt l j = m := ⟨_, rfl⟩
        rw [hm] at c1 hrt
        obtain ⟨al, ox, oi, od, nx, cx, ni, ci, nd, cd, q0, q1, q2, q3, q4, hIz⟩ := c1
        have p0 := cell_up q0 hO
        have p1 := cell_up q1 hO
        have p2 := cell_up q2 hO
        have p3 := cell_up q3 hO
        have p4 := cell_up q4 hO
        have hni := hIz.len
        clear q0 q1 q2 q3 q4
        have HIZ := Lib.hid hIz
        have HRT := Lib.hid hrt
        have HM := Lib.hid hm
        have h01 : (0 : Int) ≤ (j : Int) := Int.natCast_nonneg j
        have h02 : (j : Int) < (n : Int) := by omega
        have h03 : (j : Int).toNat = j := Int.toNat_natCast j
        by_cases h12 : 12 < ni
        · have h04 : (12 : Int) < (ni : Int) := by omega
          clear hR hO hIz hrt hm
          go_wp2_with (go_at_call 9; (refine (awake_p _).mono ?_); rintro e w5 ⟨rfl, hO5⟩)
          go_ret
          exact ⟨rfl, HO.out.new.trans hO5⟩
        · have h04 : ¬ (12 : Int) < (ni : Int) := by omega
          obtain ⟨xs, hown, hxl, hxx⟩ := hR
          obtain ⟨oR, cR, hv⟩ := rowForm hown
          subst hv
          have hxk : xs.length = k := by rw [hxl, List.length_take, List.length_reverse]; omega
          rw [hxk]
          have HXL := Lib.hid hxl
          have HXX := Lib.hid hxx
          have HXK := Lib.hid hxk
          have HOWN : Hid (wr.ownsRow w.heap.size 42 5 (.slice oR k cR) k (xs.flatMap mxC)) := Lib.hid (by rw [← hxk]; exact hown)
          have HS2 : Hid (∀ i, n - (k + 1) ≤ i → i < n → (mdAt l i).im.length ≤ 12) := Lib.hid (fun i h1 h2 => by
            by_cases e : i = j
            · rw [e, HM.out, hni]; omega
            · exact HS.out i (by omega) h2)
          have HSW : Hid (w.heap.size ≤ wr.heap.size) := Lib.hid hO.size
          clear hO hIz hrt hm hown hxl hxx hxk HS HR
          go_wp2_with (at_builtin; refine wpList_append_lies _ rfl _ _ 22 rfl w.heap.size 42 i0' (.agg #[.string ⟨#[]⟩, .bool false, .slice none 0 0, .slice none 0 0, .slice none 0 0]) 5 96 Tryz.underlying22 hi hz0 hz1 hz2 rfl (by decide) (.slice oR k cR) k (xs.flatMap mxC) rfl (World.ownsRow.alloc HOWN.out _) ⟨wr.heap.size, 0, none⟩ 1 1 (mxC ⟨m.nm, al, ox, nx, cx, oi, ni, ci, od, nd, cd⟩) rfl rfl (World.news_of_block (new_block wr _)) (one_mx _) Nat.one_pos (by unfold maxLen; omega) (by omega) (by show w.heap.size ≤ (Array.push _ _).size; rw [Array.size_push]; have := HSW.out; omega) _ rfl ?_; intro g2 cg w12 hown8 hgrow8 hat8 hlt8; have HO8 := Lib.hid ((HO.out.alloc (.cells (mxC ⟨m.nm, al, ox, nx, cx, oi, ni, ci, od, nd, cd⟩).toArray 42)).trans (Only.grown (K := (w.heap.size ≤ ·)) hgrow8 (fun g hg => (World.ownsRow.lt HOWN.out g hg).1))); have HOWN8 := Lib.hid hown8; clear hown8 hgrow8 hat8 hlt8)
          have HR8 : Hid (BkR w w12 w.heap.size (.slice (some ⟨g2, 0, none⟩) (k + 1) cg) (l.reverse.take (k + 1))) := Lib.hid (by
            rw [HRT.out]
            exact BkR.snoc (x := ⟨m.nm, al, ox, nx, cx, oi, ni, ci, od, nd, cd⟩) HXL.out HXX.out rfl HIZ.out (by rw [HXK.out]; exact HOWN8.out))
          go_roundw
          case rel => exact ⟨k + 1, by omega, by go_num, HR8.out, HS2, HO8.out⟩
          case measure => simp [intOf]
      · have hkn : k = n := by omega
        subst hkn
        have hle : ¬ (0 : Int) ≤ (k : Int) - 1 - (k : Int) := by omega
        have hle2 : ((k : Int) - 1 - (k : Int)) = -1 := by omega
        rw [hle2]
        have hrev : l.reverse.take k = l.reverse := by rw [← hl, ← List.length_reverse]; exact List.take_length
        rw [hrev] at hR
        obtain ⟨xs, hown, hxl, hxx⟩ := hR
        obtain ⟨oR, cR, hv⟩ := rowForm hown
        subst hv
        have hxk : xs.length = k := by rw [hxl, List.length_reverse]; exact hl
        rw [hxk] at hown ⊢
        have hMR : Mdz wr oR k l.reverse := BkR.mdz (w0 := w) (B := w.heap.size) (ca := cR) ⟨xs, by rw [hxk]; exact hown, hxl, hxx⟩ (fun _ _ _ hz => hz.up hO)
        have hok : OkL l := ⟨HZ.out, fun m hm => by
          obtain ⟨j, hj, e⟩ := List.getElem_of_mem hm
          have := HS.out j (by omega) (by omega)
          rw [mdAt_get hj, e] at this
          omega⟩
        have hokr : OkL l.reverse := ⟨fun m hm => hok.1 m (List.mem_reverse.1 hm), fun m hm => hok.2 m (List.mem_reverse.1 hm)⟩
        have him : ∀ m ∈ l, m.im.length ≤ 100 := fun m hm => by
          obtain ⟨j, hj, e⟩ := List.getElem_of_mem hm
          have := HS.out j (by omega) (by omega)
          rw [mdAt_get hj, e] at this
          omega
        have hLr := HL.out.up hO
        have HO1 : Hid (Calls Tryz.prog 10 #[.slice oa k ca] wr (nmQ (accF l) (ordM l) wr)) := Lib.hid (Order_p wr oa k ca l hLr (fun _ => hok))
        have HO2 : Hid (∀ wx, Only (fun _ => False) wr wx → Calls Tryz.prog 10 #[.slice oR k cR] wx (nmQ (accF l.reverse) (ordM l.reverse) wx)) := Lib.hid (fun wx ho => Order_p wx oR k cR l.reverse (hMR.old ho (fun _ _ hc => hc)) (fun _ => hokr))
        have HRV := Lib.hid (accF_rev (l := l) (by omega))
        have HLR := Lib.hid hLr
        have HIM := Lib.hid him
        clear HR hown hxl hxx hxk hrev hMR hok hokr him hLr hO HS HL HZ
        cases hF : accF l with
        | some x =>
          obtain ⟨c, s⟩ := x
          have hc0 := accF_pos hF
          have hG : ∃ c' s', accF l.reverse = some (c', s') := by
            cases hG : accF l.reverse with
            | none => have := HRV.out.1 hG; rw [hF] at this; cases this
            | some y => exact ⟨y.1, y.2, rfl⟩
          obtain ⟨c', s', hG⟩ := hG
          have HP1 : Hid (Calls Tryz.prog 10 #[.slice oa k ca] wr fun e w' => e = .returned (.tuple #[.slice none 0 0, faV c s]) ∧ Only (fun _ => False) wr w') := Lib.hid (by have h8 := HO1.out; unfold nmQ at h8; rw [hF] at h8; exact h8)
          have HP2 : Hid (∀ wx, Only (fun _ => False) wr wx → Calls Tryz.prog 10 #[.slice oR k cR] wx fun e w' => e = .returned (.tuple #[.slice none 0 0, faV c' s']) ∧ Only (fun _ => False) wx w') := Lib.hid (fun wx ho => by have h8 := HO2.out wx ho; unfold nmQ at h8; rw [hG] at h8; exact h8)
          have hcn : ¬ (c : Int) = 0 := by omega
          clear hF hG HO1 HO2 HRV
          go_wp2_with (first
            | (go_at_call 10; (with_reducible refine HP1.out.mono ?_); rintro e w5 ⟨rfl, hO5⟩; have HO5 := Lib.hid hO5; clear hO5)
            | (go_at_call 10; (with_reducible refine (HP2.out _ (HO5.out.alloc _)).mono ?_); rintro e w6 ⟨rfl, hO6⟩; have hb6 := (hO6.block w5.heap.size (by show _ < (Array.push _ _).size; rw [Array.size_push]; omega) (fun hc => hc)).trans (new_block w5 _); have HB6 := Lib.hid hb6; have HO6 := Lib.hid ((HO5.out.alloc (.cells #[.int .i64 (c : Int), encStr s, .int .i64 0, .int .i64 0] 28)).trans hO6); clear hO6 hb6)
            | (go_at_call 14; (refine (sameT _ none none 0 0 0 [] (strz_nil _ 0 _) (strz_nil _ 0 _) (by omega)).mono ?_); rintro e w7 ⟨rfl, hO7⟩; have q7 := (blk_c (k := 0) ((hO7.block w5.heap.size (lt_of_block (((Only.refl (fun _ => False) w6).alloc (.cells #[.int .i64 (c' : Int), encStr s', .int .i64 0, .int .i64 0] 28)).block w5.heap.size (lt_of_block HB6.out) (fun hc => hc) |>.trans HB6.out)) (fun hc => hc)).trans ((((Only.refl (fun _ => False) w6).alloc (.cells #[.int .i64 (c' : Int), encStr s', .int .i64 0, .int .i64 0] 28)).block w5.heap.size (lt_of_block HB6.out) (fun hc => hc)).trans HB6.out)) rfl).1; have HO7 := Lib.hid ((HO6.out.alloc (.cells #[.int .i64 (c' : Int), encStr s', .int .i64 0, .int .i64 0] 28)).trans hO7); clear hO7)
            | (go_at_call 9; (refine (awake_p _).mono ?_); rintro e w8 ⟨rfl, hO8⟩))
          go_ret
          exact ⟨rfl, HO.out.new.trans (HO7.out.trans hO8)⟩
        | none =>
          obtain ⟨hl32, hgood⟩ := accF_none hF
          have hG := HRV.out.2 hF
          have hsame : ordM l.reverse = ordM l := (ordM_same (List.reverse_perm l).symm hgood.nd).symm
          have hAl := hgood.len
          have hnew := fun i (hi : i < (ordM l).length) => hgood.new hi
          have himp := fun i (hi : i < (ordM l).length) => hgood.imps hi
          obtain ⟨A, hA⟩ : ∃ A, ordM l = A := ⟨_, rfl⟩
          rw [hA] at hAl hnew himp hsame
          rw [hl] at hAl
          have HNEW : Hid (∀ i, i < k → nAt A i ∉ A.take i) := Lib.hid (fun i hi => hnew i (by omega))
          have HIMP : Hid (∀ i, i < k → ∀ t ∈ impP l (nAt A i), t ∈ A.take i) := Lib.hid (fun i hi => himp i (by omega))
          have HP1 : Hid (Calls Tryz.prog 10 #[.slice oa k ca] wr fun e w' => ∃ ol cl, e = .returned (.tuple #[.slice ol k cl, faV 0 []]) ∧ (Strz w' ol k A ∧ k ≤ cl) ∧ Only (fun _ => False) wr w') := Lib.hid (HO1.out.mono (by
            intro e w' hq
            unfold nmQ at hq
            rw [hF, hA, hAl] at hq
            obtain ⟨⟨ol, cl, h1, h2⟩, h3⟩ := hq
            exact ⟨ol, cl, h1, ⟨h2.strz, h2.cap⟩, h3⟩))
          have HP2 : Hid (∀ wx, Only (fun _ => False) wr wx → Calls Tryz.prog 10 #[.slice oR k cR] wx fun e w' => ∃ ol cl, e = .returned (.tuple #[.slice ol k cl, faV 0 []]) ∧ Strz w' ol k A ∧ Only (fun _ => False) wx w') := Lib.hid (fun wx ho => (HO2.out wx ho).mono (by
            intro e w' hq
            unfold nmQ at hq
            rw [hG, hsame, hAl] at hq
            obtain ⟨⟨ol, cl, h1, h2⟩, h3⟩ := hq
            exact ⟨ol, cl, h1, h2.strz, h3⟩))
          have HAL := Lib.hid hAl
          have hk6 : k ≤ 1000000 := by omega
          clear hF hG HO1 HO2 HRV hgood hsame hAl hnew himp hA
          obtain ⟨W0, rfl⟩ : ∃ W, W = wr := ⟨_, rfl⟩
          go_wp2_with (first
            | (go_at_call 10; (with_reducible refine HP1.out.mono ?_); rintro e w5 ⟨ol, cl, rfl, ⟨hS5, hcl⟩, hO5⟩; have HCL := Lib.hid hcl; have HO5 := Lib.hid hO5; have HS5 := Lib.hid hS5; clear hO5 hS5 hcl)
            | (go_at_call 10; (with_reducible refine (HP2.out _ (HO5.out.alloc _)).mono ?_); rintro e w6 ⟨or, cr, rfl, hS6, hO6⟩; have HS6 := Lib.hid hS6; have HB6 := Lib.hid ((Bx.new w5).on hO6); have HO56 := Lib.hid (((Only.refl (fun _ => False) w5).alloc (.cells #[.int .i64 0, .string ⟨#[]⟩, .int .i64 0, .int .i64 0] 28)).trans hO6); clear hO6 hS6)
            | (go_at_call 14; (refine (sameT _ ol or k cl cr A (HS5.out.old (HO56.out.alloc _) (fun _ _ hc => hc)) (HS6.out.old ((Only.refl (fun _ => False) w6).alloc _) (fun _ _ hc => hc)) hk6).mono ?_); rintro e w7 ⟨rfl, hO7⟩; have HO67 := Lib.hid (((Only.refl (fun _ => False) w6).alloc (.cells #[.int .i64 0, .string ⟨#[]⟩, .int .i64 0, .int .i64 0] 28)).trans hO7); have q7 := (HB6.out.on HO67.out).cells.1; clear hO7))
          have HA7 : Hid (Strz w7 ol k A) := Lib.hid (HS5.out.old (HO56.out.trans HO67.out) (fun _ _ hc => hc))
          have HL7 : Hid (Mdz w7 oa k l) := Lib.hid (HLR.out.old (HO5.out.trans (HO56.out.trans HO67.out)) (fun _ _ hc => hc))
          have HW7 : Hid (Only (fun _ => False) w w7) := Lib.hid (HO.out.new.trans (HO5.out.trans (HO56.out.trans HO67.out)))
          clear q7 HB6 HS6 HS5 HO5 HO56 HO67 HLR HO
          go_loopw [9, 10, 11] (fun q iv jv wr => ∃ i : Nat, i ≤ k ∧ q = .int .i64 i ∧ Only (fun _ => False) w7 wr) (fun q _ _ _ => k - (intOf q).toNat)
          case atStart => exact ⟨0, by omega, rfl, Only.refl _ _⟩
          case round =>
            obtain ⟨i, hik, rfl, hO⟩ := hrel
            have HO := Lib.hid hO
            have hal := HAL.out
            by_cases hlt : i < k
            · obtain ⟨b1, o1, e1, c1⟩ := (HA7.out.old hO (fun _ _ hc => hc)).cell i (by omega)
              subst e1
              have hnw := HNEW.out i hlt
              have hip := HIMP.out i hlt
              obtain ⟨y, hy⟩ : ∃ y, nAt A i = y := ⟨_, rfl⟩
              rw [hy] at c1 hnw hip
              have HX : Hid (decide (y ∈ A.take i) = false) := Lib.hid (decide_eq_false hnw)
              have HIP := Lib.hid hip
              have HT : Hid (∀ wx, Only (fun _ => False) w7 wx → Strz wx (some ⟨b1, o1, none⟩) i (A.take i)) := Lib.hid (fun wx ho => strz_take (HA7.out.old ho (fun _ _ hc => hc)) (by omega))
              have HRI : Hid (Calls Tryz.prog 22 #[.slice oa k ca, encStr y] wr.drew fun e w' => ∃ oo co, e = .returned (.slice oo (impP l y).length co) ∧ Strz w' oo (impP l y).length (impP l y) ∧ Only (fun _ => False) wr.drew w') := Lib.hid ((rImports_p _ oa k ca l y (HL7.out.old hO.drew (fun _ _ hc => hc)) (by omega) HIM.out).mono (by
                rintro e w' ⟨oo, co, h1, h2, h3⟩
                exact ⟨oo, co, h1, h2.strz, h3⟩))
              have c2 : wr.drew.cell? ⟨b1, o1 + i, none⟩ = some (encStr y) := c1
              have h01 : (0 : Int) ≤ (i : Int) := Int.natCast_nonneg i
              have h02 : (i : Int) < (k : Int) := by omega
              have h03 : (i : Int).toNat = i := Int.toNat_natCast i
              have h07 : (i : Int) ≤ (cl : Int) := by have := HCL.out; omega
              have HIL : Hid ((impP l y).length ≤ 1000000) := Lib.hid (by
                have := impP_len (nm := y) HIM.out
                have h9 : l.length * 100 ≤ 32 * 100 := Nat.mul_le_mul_right _ (by omega)
                omega)
              clear hnw hip hy hO
              go_wp2
              go_region_with (go_at_call 21; (refine (rHas_p _ _ i _ (A.take i) (HT.out _ HO.out.drew) (by omega) y false HX.out).mono ?_); rintro e w8 ⟨rfl, rfl⟩)
              all_goals
                go_wp2_with (go_at_call 22; (with_reducible refine HRI.out.mono ?_); rintro e w9 ⟨oo, co, rfl, hS9, hO9⟩; have HS9 := Lib.hid hS9; have HO9 := Lib.hid (HO.out.drew.trans hO9); clear hS9 hO9)
                obtain ⟨I, hI⟩ : ∃ I, impP l y = I := ⟨_, rfl⟩
                rw [hI] at HS9 HIL HIP
                obtain ⟨ni, hni⟩ : ∃ ni, I.length = ni := ⟨_, rfl⟩
                have HNI := Lib.hid hni
                rw [hni] at HS9 HIL
                rw [hI, hni]
                have hni6 := HIL.out
                clear hI hni HRI c1 c2
                go_loopw [11] (fun q wr => ∃ j : Nat, j ≤ ni ∧ q = .int .i64 j ∧ Only (fun _ => False) w9 wr) (fun q _ => ni - (intOf q).toNat)
                case atStart => exact ⟨0, by omega, rfl, Only.refl _ _⟩
                case round =>
                  obtain ⟨j, hj, rfl, hO2⟩ := hrel
                  have HO2 := Lib.hid hO2
                  have hnl := HNI.out
                  by_cases hjn : j < ni
                  · obtain ⟨b3, o3, e3, d3⟩ := (HS9.out.old hO2 (fun _ _ hc => hc)).cell j (by omega)
                    subst e3
                    obtain ⟨z, hz⟩ : ∃ z, nAt I j = z := ⟨_, rfl⟩
                    rw [hz] at d3
                    have HX2 : Hid (decide (z ∈ A.take i) = true) := Lib.hid (decide_eq_true (HIP.out z (by rw [← hz, nAt_get (by omega)]; exact List.getElem_mem _)))
                    have d4 : wr.drew.cell? ⟨b3, o3 + j, none⟩ = some (encStr z) := d3
                    have h04 : (0 : Int) ≤ (j : Int) := Int.natCast_nonneg j
                    have h05 : (j : Int) < (ni : Int) := by omega
                    have h06 : (j : Int).toNat = j := Int.toNat_natCast j
                    clear hz hO2
                    go_wp2
                    go_region_with (go_at_call 21; (refine (rHas_p _ _ i _ (A.take i) (HT.out _ (HO9.out.trans HO2.out.drew)) (by omega) z true HX2.out).mono ?_); rintro e w10 ⟨rfl, rfl⟩)
                    all_goals
                      go_wp2
                      go_roundw
                      case rel => exact ⟨j + 1, by omega, by go_num, HO2.out.drew⟩
                      case measure => simp [intOf]; omega
                  · have h05 : ¬ (j : Int) < (ni : Int) := by omega
                    clear hO2
                    go_wp2
                    go_roundw
                    case rel => exact ⟨i + 1, by omega, by go_num, HO9.out.trans HO2.out⟩
                    case measure => simp [intOf]; omega
            · have hik2 : i = k := by omega
              subst hik2
              clear hO
              go_wp2_with (go_at_call 9; (refine (awake_p _).mono ?_); rintro e w8 ⟨rfl, hO8⟩)
              go_ret
              exact ⟨rfl, HW7.out.trans (HO.out.trans hO8)⟩

end Go.Proofs.YtigmdiagdlbdpaaGreat
