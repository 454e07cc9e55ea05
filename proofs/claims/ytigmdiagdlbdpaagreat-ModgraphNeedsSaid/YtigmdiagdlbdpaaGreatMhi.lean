/-
  WALKS. The laws' awake.
-/
import Derived.Test.YtigmdiagdlbdpaaGreatMhg
import Derived.Test.YtigmdiagdlbdpaaGreatMhe
import Derived.Test.YtigmdiagdlbdpaaGreatMhc
namespace Go.Proofs.YtigmdiagdlbdpaaGreat
open Go.RowKit Go.Maps
section
variable {w : World} {b : Nat} {t : TypeId}
theorem strz1 {x : UInt8} (h : w.heap[b]? = some (.cells #[.string ⟨#[x]⟩] t (0, 0))) : Strz w (some ⟨b, 0, none⟩) 1 [[x]] := ⟨rfl, fun k hk => ⟨b, 0, rfl, by
  match k, hk with
  | 0, _ => exact (blk_c h rfl).1⟩⟩
theorem strz2 {x y : UInt8} (h : w.heap[b]? = some (.cells #[.string ⟨#[x]⟩, .string ⟨#[y]⟩] t (0, 0))) : Strz w (some ⟨b, 0, none⟩) 2 [[x], [y]] := ⟨rfl, fun k hk => ⟨b, 0, rfl, by
  match k, hk with
  | 0, _ => exact (blk_c (k := 0) h rfl).1
  | 1, _ => exact (blk_c (k := 1) h rfl).1⟩⟩
theorem strz3 {x y z : UInt8} (h : w.heap[b]? = some (.cells #[.string ⟨#[x]⟩, .string ⟨#[y]⟩, .string ⟨#[z]⟩] t (0, 0))) : Strz w (some ⟨b, 0, none⟩) 3 [[x], [y], [z]] := ⟨rfl, fun k hk => ⟨b, 0, rfl, by
  match k, hk with
  | 0, _ => exact (blk_c (k := 0) h rfl).1
  | 1, _ => exact (blk_c (k := 1) h rfl).1
  | 2, _ => exact (blk_c (k := 2) h rfl).1⟩⟩
theorem mdz1 {x : UInt8} {i1 : List Nm} {o1 : Option Addr} {n1 c1 : Nat} (h : w.heap[b]? = some (.cells #[.string ⟨#[x]⟩, .bool false, .slice none 0 0, .slice o1 n1 c1, .slice none 0 0] t (0, 0))) (h1 : Imz w o1 n1 i1) : Mdz w (some ⟨b, 0, none⟩) 1 [⟨[x], i1⟩] := ⟨rfl, fun k hk => ⟨b, 0, rfl, by
  match k, hk with
  | 0, _ => exact ⟨false, none, o1, none, 0, 0, n1, c1, 0, 0, (blk_c (k := 0) h rfl).1, (blk_c (k := 1) h rfl).1, (blk_c (k := 2) h rfl).1, (blk_c (k := 3) h rfl).1, (blk_c (k := 4) h rfl).1, h1⟩⟩⟩
theorem mdz3 {x y z : UInt8} {i1 i2 i3 : List Nm} {o1 o2 o3 : Option Addr} {n1 c1 n2 c2 n3 c3 : Nat} (h : w.heap[b]? = some (.cells #[.string ⟨#[x]⟩, .bool false, .slice none 0 0, .slice o1 n1 c1, .slice none 0 0, .string ⟨#[y]⟩, .bool false, .slice none 0 0, .slice o2 n2 c2, .slice none 0 0, .string ⟨#[z]⟩, .bool false, .slice none 0 0, .slice o3 n3 c3, .slice none 0 0] t (0, 0))) (h1 : Imz w o1 n1 i1) (h2 : Imz w o2 n2 i2) (h3 : Imz w o3 n3 i3) : Mdz w (some ⟨b, 0, none⟩) 3 [⟨[x], i1⟩, ⟨[y], i2⟩, ⟨[z], i3⟩] := ⟨rfl, fun k hk => ⟨b, 0, rfl, by
  match k, hk with
  | 0, _ => exact ⟨false, none, o1, none, 0, 0, n1, c1, 0, 0, (blk_c (k := 0) h rfl).1, (blk_c (k := 1) h rfl).1, (blk_c (k := 2) h rfl).1, (blk_c (k := 3) h rfl).1, (blk_c (k := 4) h rfl).1, h1⟩
  | 1, _ => exact ⟨false, none, o2, none, 0, 0, n2, c2, 0, 0, (blk_c (k := 5) h rfl).1, (blk_c (k := 6) h rfl).1, (blk_c (k := 7) h rfl).1, (blk_c (k := 8) h rfl).1, (blk_c (k := 9) h rfl).1, h2⟩
  | 2, _ => exact ⟨false, none, o3, none, 0, 0, n3, c3, 0, 0, (blk_c (k := 10) h rfl).1, (blk_c (k := 11) h rfl).1, (blk_c (k := 12) h rfl).1, (blk_c (k := 13) h rfl).1, (blk_c (k := 14) h rfl).1, h3⟩⟩⟩
end
/-- A module made with no, one, two imports. -/
theorem mod0 (w : World) (x : UInt8) : Calls Tryz.prog 23 #[.string ⟨#[x]⟩, .slice none 0 0] w fun e w' => ∃ oi ci, e = .returned (.agg #[.string ⟨#[x]⟩, .bool false, .slice none 0 0, .slice oi 0 ci, .slice none 0 0]) ∧ Imz w' oi 0 [] ∧ Only (fun _ => False) w w' :=
  module_p w [x] none 0 0 [] (strz_nil _ 0 _) (by omega)
theorem mod1 (w : World) (x y : UInt8) : Calls Tryz.prog 23 #[.string ⟨#[x]⟩, .slice (some ⟨w.heap.size, 0, none⟩) 1 1] (w.alloc (.cells #[.string ⟨#[y]⟩] 9)) fun e w' => ∃ oi ci, e = .returned (.agg #[.string ⟨#[x]⟩, .bool false, .slice none 0 0, .slice oi 1 ci, .slice none 0 0]) ∧ Imz w' oi 1 [[y]] ∧ Only (fun _ => False) w w' :=
  (module_p _ [x] _ 1 1 [[y]] (strz1 (new_block w _)) (by omega)).mono (by
    rintro e w' ⟨oi, ci, h1, h2, h3⟩
    exact ⟨oi, ci, h1, h2, ((Only.refl _ _).alloc _).trans h3⟩)
theorem size_al (w : World) (o : Obj) : (w.alloc o).heap.size = w.heap.size + 1 := by show (Array.push _ _).size = _; rw [Array.size_push]
theorem mod1n (w : World) (x y : UInt8) (N : Nat) (hN : w.heap.size = N) : Calls Tryz.prog 23 #[.string ⟨#[x]⟩, .slice (some ⟨N, 0, none⟩) 1 1] (w.alloc (.cells #[.string ⟨#[y]⟩] 9)) fun e w' => ∃ oi ci, e = .returned (.agg #[.string ⟨#[x]⟩, .bool false, .slice none 0 0, .slice oi 1 ci, .slice none 0 0]) ∧ Imz w' oi 1 [[y]] ∧ Only (fun _ => False) w w' := by
  subst hN
  exact mod1 w x y
theorem mod2 (w : World) (x y z : UInt8) : Calls Tryz.prog 23 #[.string ⟨#[x]⟩, .slice (some ⟨w.heap.size, 0, none⟩) 2 2] (w.alloc (.cells #[.string ⟨#[y]⟩, .string ⟨#[z]⟩] 9)) fun e w' => ∃ oi ci, e = .returned (.agg #[.string ⟨#[x]⟩, .bool false, .slice none 0 0, .slice oi 2 ci, .slice none 0 0]) ∧ Imz w' oi 2 [[y], [z]] ∧ Only (fun _ => False) w w' :=
  (module_p _ [x] _ 2 2 [[y], [z]] (strz2 (new_block w _)) (by omega)).mono (by
    rintro e w' ⟨oi, ci, h1, h2, h3⟩
    exact ⟨oi, ci, h1, h2, ((Only.refl _ _).alloc _).trans h3⟩)
theorem okL_of {l : List Md} (h : ∀ m ∈ l, m.nm.length ≤ 100 ∧ (∀ s ∈ m.im, s.length ≤ 100) ∧ m.im.length ≤ 100) : OkL l := ⟨fun m hm => ⟨by have := (h m hm).1; unfold maxLen; omega, fun s hs => by have := (h m hm).2.1 s hs; unfold maxLen; omega⟩, fun m hm => by have := (h m hm).2.2; omega⟩
theorem exL_ok : OkL exL := okL_of (by decide)
theorem exX_ok : OkL exX := okL_of (by decide)
theorem exC_ok : OkL exC := okL_of (by decide)
/-- The calls of the example, at their answers. -/
theorem exOrd (w : World) (oa : Option Addr) (ca : Nat) (h : Mdz w oa 3 exL) : Calls Tryz.prog 10 #[.slice oa 3 ca] w fun e w' => ∃ ol cl, e = .returned (.tuple #[.slice ol 3 cl, .agg #[.int .i64 0, .string ⟨#[]⟩, .int .i64 0, .int .i64 0]]) ∧ Strz w' ol 3 [[66], [65], [67]] ∧ Only (fun _ => False) w w' := (Order_p w oa 3 ca exL h (fun _ => exL_ok)).mono (by
  intro e w' hq
  unfold nmQ at hq
  rw [exL_acc, exL_ord] at hq
  obtain ⟨⟨ol, cl, h1, h2⟩, h3⟩ := hq
  exact ⟨ol, cl, h1, h2.strz, h3⟩)
theorem exLev (w : World) (oa : Option Addr) (ca : Nat) (h : Mdz w oa 3 exL) : Calls Tryz.prog 12 #[.slice oa 3 ca] w fun e w' => ∃ bl ol ra rc cl, e = .returned (.tuple #[.slice (some ⟨bl, ol, none⟩) 2 cl, .agg #[.int .i64 0, .string ⟨#[]⟩, .int .i64 0, .int .i64 0]]) ∧ (w'.cell? ⟨bl, ol, none⟩ = some (.slice ra 2 rc) ∧ Strz w' ra 2 [[66], [67]]) ∧ Only (fun _ => False) w w' := (mLevels_p w oa 3 ca exL h (fun _ => exL_ok)).mono (by
  intro e w' hq
  unfold lvQ at hq
  rw [exL_acc, exL_lev] at hq
  obtain ⟨⟨ol, na, cl, h1, h2⟩, h3⟩ := hq
  have hn := h2.len
  change 2 = na at hn
  subst hn
  obtain ⟨bl, o, ra, rn, rc, e1, c1, s1⟩ := h2.cell 0 (by decide)
  subst e1
  have hr := s1.len
  change 2 = rn at hr
  subst hr
  exact ⟨bl, o, ra, rc, cl, h1, ⟨c1, s1⟩, h3⟩)
theorem exNds (w : World) (oa : Option Addr) (ca : Nat) (h : Mdz w oa 3 exL) : Calls Tryz.prog 15 #[.slice oa 3 ca, .string ⟨#[65]⟩] w fun e w' => ∃ ol cl, e = .returned (.tuple #[.slice ol 1 cl, .agg #[.int .i64 0, .string ⟨#[]⟩, .int .i64 0, .int .i64 0]]) ∧ Strz w' ol 1 [[66]] ∧ Only (fun _ => False) w w' := (Needs_p w oa 3 ca exL [65] h (fun _ => exL_ok)).mono (by
  intro e w' hq
  unfold nmQ at hq
  rw [exL_rfA, exL_nds] at hq
  obtain ⟨⟨ol, cl, h1, h2⟩, h3⟩ := hq
  exact ⟨ol, cl, h1, h2.strz, h3⟩)
theorem exUsr (w : World) (oa : Option Addr) (ca : Nat) (h : Mdz w oa 3 exL) : Calls Tryz.prog 17 #[.slice oa 3 ca, .string ⟨#[66]⟩] w fun e w' => ∃ ol cl, e = .returned (.tuple #[.slice ol 1 cl, .agg #[.int .i64 0, .string ⟨#[]⟩, .int .i64 0, .int .i64 0]]) ∧ Strz w' ol 1 [[65]] ∧ Only (fun _ => False) w w' := (Users_p w oa 3 ca exL [66] h (fun _ => exL_ok)).mono (by
  intro e w' hq
  unfold nmQ at hq
  rw [exL_rfB, exL_usr] at hq
  obtain ⟨⟨ol, cl, h1, h2⟩, h3⟩ := hq
  exact ⟨ol, cl, h1, h2.strz, h3⟩)
theorem exOrX (w : World) (oa : Option Addr) (ca : Nat) (h : Mdz w oa 1 exX) : Calls Tryz.prog 10 #[.slice oa 1 ca] w fun e w' => e = .returned (.tuple #[.slice none 0 0, .agg #[.int .i64 16, .string ⟨#[88]⟩, .int .i64 0, .int .i64 0]]) ∧ Only (fun _ => False) w w' := (Order_p w oa 1 ca exX h (fun _ => exX_ok)).mono (by
  intro e w' hq
  unfold nmQ at hq
  rw [exX_acc] at hq
  exact hq)
theorem exCyc (w : World) (oa : Option Addr) (ca : Nat) (h : Mdz w oa 3 exC) : Calls Tryz.prog 19 #[.slice oa 3 ca] w fun e w' => ∃ ol cl, e = .returned (.slice ol 2 cl) ∧ Strz w' ol 2 [[65], [66]] ∧ Only (fun _ => False) w w' := (Cycle_p w oa 3 ca exC h (fun _ => exC_ok)).mono (by
  rw [exC_cyc]
  rintro e w' ⟨ol, cl, h1, h2, h3⟩
  exact ⟨ol, cl, h1, h2.strz, h3⟩)
/-- A box with a fault's cells; its cells. -/
def Bx (w : World) (b c : Nat) (s : ByteArray) : Prop := w.heap[b]? = some (.cells #[.int .i64 c, .string s, .int .i64 0, .int .i64 0] 28 (0, 0))
theorem Bx.on {w w' : World} {b c : Nat} {s : ByteArray} (h : Bx w b c s) (ho : Only (fun _ => False) w w') : Bx w' b c s := (ho.block b (lt_of_block h) (fun hc => hc)).trans h
theorem Bx.cells {w : World} {b c : Nat} {s : ByteArray} (h : Bx w b c s) : w.cell? ⟨b, 0, none⟩ = some (.int .i64 c) ∧ w.cell? ⟨b, 1, none⟩ = some (.string s) ∧ w.cell? ⟨b, 2, none⟩ = some (.int .i64 0) ∧ w.cell? ⟨b, 3, none⟩ = some (.int .i64 0) := ⟨(blk_c (k := 0) h rfl).1, (blk_c (k := 1) h rfl).1, (blk_c (k := 2) h rfl).1, (blk_c (k := 3) h rfl).1⟩
theorem Bx.new (w : World) : Bx (w.alloc (.cells #[.int .i64 0, .string ⟨#[]⟩, .int .i64 0, .int .i64 0] 28)) w.heap.size 0 ⟨#[]⟩ := new_block w _
theorem Bx.newX (w : World) : Bx (w.alloc (.cells #[.int .i64 16, .string ⟨#[88]⟩, .int .i64 0, .int .i64 0] 28)) w.heap.size 16 ⟨#[88]⟩ := new_block w _
theorem sameT (w : World) (oa ob : Option Addr) (n ca cb : Nat) (l : List Nm) (h : Strz w oa n l) (h' : Strz w ob n l) (hn : n ≤ 1000000) : Calls Tryz.prog 14 #[.slice oa n ca, .slice ob n cb] w fun e w' => e = .returned (.bool true) ∧ Only (fun _ => False) w w' := mSame_p w oa ob n n ca cb l l h h' hn true (by simp)
theorem sameL1 (w : World) (oa : Option Addr) (ca N : Nat) (x : UInt8) (h : Strz w oa 1 [[x]]) (hN : w.heap.size = N) : Calls Tryz.prog 14 #[.slice oa 1 ca, .slice (some ⟨N, 0, none⟩) 1 1] (w.alloc (.cells #[.string ⟨#[x]⟩] 9)) fun e w' => e = .returned (.bool true) ∧ Only (fun _ => False) w w' := by
  subst hN
  exact (sameT _ _ _ 1 _ _ [[x]] (h.old ((Only.refl (fun _ => False) w).alloc _) (fun _ _ hc => hc)) (strz1 (new_block w _)) (by omega)).mono (by rintro e w' ⟨h1, h2⟩; exact ⟨h1, ((Only.refl _ _).alloc _).trans h2⟩)
theorem sameL2 (w : World) (oa : Option Addr) (ca N : Nat) (x y : UInt8) (h : Strz w oa 2 [[x], [y]]) (hN : w.heap.size = N) : Calls Tryz.prog 14 #[.slice oa 2 ca, .slice (some ⟨N, 0, none⟩) 2 2] (w.alloc (.cells #[.string ⟨#[x]⟩, .string ⟨#[y]⟩] 9)) fun e w' => e = .returned (.bool true) ∧ Only (fun _ => False) w w' := by
  subst hN
  exact (sameT _ _ _ 2 _ _ [[x], [y]] (h.old ((Only.refl (fun _ => False) w).alloc _) (fun _ _ hc => hc)) (strz2 (new_block w _)) (by omega)).mono (by rintro e w' ⟨h1, h2⟩; exact ⟨h1, ((Only.refl _ _).alloc _).trans h2⟩)
theorem sameL3 (w : World) (oa : Option Addr) (ca N : Nat) (x y z : UInt8) (h : Strz w oa 3 [[x], [y], [z]]) (hN : w.heap.size = N) : Calls Tryz.prog 14 #[.slice oa 3 ca, .slice (some ⟨N, 0, none⟩) 3 3] (w.alloc (.cells #[.string ⟨#[x]⟩, .string ⟨#[y]⟩, .string ⟨#[z]⟩] 9)) fun e w' => e = .returned (.bool true) ∧ Only (fun _ => False) w w' := by
  subst hN
  exact (sameT _ _ _ 3 _ _ [[x], [y], [z]] (h.old ((Only.refl (fun _ => False) w).alloc _) (fun _ _ hc => hc)) (strz3 (new_block w _)) (by omega)).mono (by rintro e w' ⟨h1, h2⟩; exact ⟨h1, ((Only.refl _ _).alloc _).trans h2⟩)
set_option maxRecDepth 100000 in
set_option maxHeartbeats 16000000 in
theorem awake_p (w : World) : Calls Tryz.prog 9 #[] w fun e w' => e = .returned (.bool true) ∧ Only (fun _ => False) w w' := by
  go_enter Tryz.func9, Tryz.ntmps9
  go_wp2_with (first
    | (go_at_call 23; (with_reducible refine (mod1 w 65 66).mono ?_); rintro e w1 ⟨oi1, ci1, rfl, hI1, hO1⟩; skip)
    | (go_at_call 23; (with_reducible refine (mod0 w1 66).mono ?_); rintro e w2 ⟨oi2, ci2, rfl, hI2, hO2⟩; skip)
    | (go_at_call 23; (with_reducible refine (mod0 w2 67).mono ?_); rintro e w3 ⟨oi3, ci3, rfl, hI3, hO3⟩; have ha := (Only.refl (fun _ => False) w3).alloc (.cells #[.string ⟨#[65]⟩, .bool false, .slice none 0 0, .slice oi1 1 ci1, .slice none 0 0, .string ⟨#[66]⟩, .bool false, .slice none 0 0, .slice oi2 0 ci2, .slice none 0 0, .string ⟨#[67]⟩, .bool false, .slice none 0 0, .slice oi3 0 ci3, .slice none 0 0] 42); have HL := Lib.hid (mdz3 (new_block w3 (.cells #[.string ⟨#[65]⟩, .bool false, .slice none 0 0, .slice oi1 1 ci1, .slice none 0 0, .string ⟨#[66]⟩, .bool false, .slice none 0 0, .slice oi2 0 ci2, .slice none 0 0, .string ⟨#[67]⟩, .bool false, .slice none 0 0, .slice oi3 0 ci3, .slice none 0 0] 42)) (hI1.old (hO2.trans (hO3.trans ha)) (fun _ _ hc => hc)) (hI2.old (hO3.trans ha) (fun _ _ hc => hc)) (hI3.old ha (fun _ _ hc => hc))); have HO3 := Lib.hid (hO1.trans (hO2.trans (hO3.trans ha))); clear ha hI1 hI2 hI3 hO1 hO2 hO3)
    | (go_at_call 10; (with_reducible refine (exOrd (w3.alloc (.cells #[.string ⟨#[65]⟩, .bool false, .slice none 0 0, .slice oi1 1 ci1, .slice none 0 0, .string ⟨#[66]⟩, .bool false, .slice none 0 0, .slice oi2 0 ci2, .slice none 0 0, .string ⟨#[67]⟩, .bool false, .slice none 0 0, .slice oi3 0 ci3, .slice none 0 0] 42)) _ _ HL.out).mono ?_); rintro e w4 ⟨oa, ca, rfl, hA, hO4⟩; have HA := Lib.hid hA; have HO4 := Lib.hid hO4; clear hA hO4)
    | (go_at_call 12; (with_reducible refine (exLev (w4.alloc (.cells #[.int .i64 0, .string ⟨#[]⟩, .int .i64 0, .int .i64 0] 28)) _ _ (HL.out.old (HO4.out.alloc _) (fun _ _ hc => hc))).mono ?_); rintro e w5 ⟨bB, oB, ra, rc, cb, rfl, hB, hO5⟩; have HB := Lib.hid hB; have HO5 := Lib.hid ((HO4.out.alloc (.cells #[.int .i64 0, .string ⟨#[]⟩, .int .i64 0, .int .i64 0] 28)).trans hO5); have HS5 := Lib.hid (((Only.refl (fun _ => False) w4).alloc (.cells #[.int .i64 0, .string ⟨#[]⟩, .int .i64 0, .int .i64 0] 28)).trans hO5); have HF := Lib.hid ((Bx.new w4).on hO5); clear hB hO5)
    | (go_at_call 15; (with_reducible refine (exNds (w5.alloc (.cells #[.int .i64 0, .string ⟨#[]⟩, .int .i64 0, .int .i64 0] 28)) _ _ (HL.out.old (HO5.out.alloc _) (fun _ _ hc => hc))).mono ?_); rintro e w6 ⟨oc, cc, rfl, hC, hO6⟩; have HC := Lib.hid hC; have HO6 := Lib.hid ((HO5.out.alloc (.cells #[.int .i64 0, .string ⟨#[]⟩, .int .i64 0, .int .i64 0] 28)).trans hO6); have HS6 := Lib.hid (((Only.refl (fun _ => False) w5).alloc (.cells #[.int .i64 0, .string ⟨#[]⟩, .int .i64 0, .int .i64 0] 28)).trans hO6); have HG := Lib.hid ((Bx.new w5).on hO6); clear hC hO6)
    | (go_at_call 17; (with_reducible refine (exUsr (w6.alloc (.cells #[.int .i64 0, .string ⟨#[]⟩, .int .i64 0, .int .i64 0] 28)) _ _ (HL.out.old (HO6.out.alloc _) (fun _ _ hc => hc))).mono ?_); rintro e w7 ⟨od, cd, rfl, hD, hO7⟩; have HD := Lib.hid hD; have HO7 := Lib.hid ((HO6.out.alloc (.cells #[.int .i64 0, .string ⟨#[]⟩, .int .i64 0, .int .i64 0] 28)).trans hO7); have HS7 := Lib.hid (((Only.refl (fun _ => False) w6).alloc (.cells #[.int .i64 0, .string ⟨#[]⟩, .int .i64 0, .int .i64 0] 28)).trans hO7); have HH := Lib.hid ((Bx.new w6).on hO7); clear hD hO7)
    | (go_at_call 23; (with_reducible refine (mod1n (w7.alloc (.cells #[.int .i64 0, .string ⟨#[]⟩, .int .i64 0, .int .i64 0] 28)) 65 88 _ (size_al _ _)).mono ?_); rintro e w8 ⟨oi8, ci8, rfl, hI8, hO8⟩; have HI := Lib.hid ((Bx.new w7).on hO8); have HS8 := Lib.hid (((Only.refl (fun _ => False) w7).alloc (.cells #[.int .i64 0, .string ⟨#[]⟩, .int .i64 0, .int .i64 0] 28)).trans hO8); have HI8 := Lib.hid hI8; clear hI8 hO8)
    | (go_at_call 10; (with_reducible refine (exOrX (w8.alloc (.cells #[.string ⟨#[65]⟩, .bool false, .slice none 0 0, .slice oi8 1 ci8, .slice none 0 0] 42)) _ _ (mdz1 (new_block w8 (.cells #[.string ⟨#[65]⟩, .bool false, .slice none 0 0, .slice oi8 1 ci8, .slice none 0 0] 42)) (HI8.out.old ((Only.refl (fun _ => False) w8).alloc _) (fun _ _ hc => hc)))).mono ?_); rintro e w9 ⟨rfl, hO9⟩; have HS9 := Lib.hid (((Only.refl (fun _ => False) w8).alloc (.cells #[.string ⟨#[65]⟩, .bool false, .slice none 0 0, .slice oi8 1 ci8, .slice none 0 0] 42)).trans hO9); clear hO9)
    | (go_at_call 23; (with_reducible refine (mod1n (w9.alloc (.cells #[.int .i64 16, .string ⟨#[88]⟩, .int .i64 0, .int .i64 0] 28)) 65 66 _ (size_al _ _)).mono ?_); rintro e w10 ⟨oi10, ci10, rfl, hI10, hO10⟩; have HJ := Lib.hid ((Bx.newX w9).on hO10); have HS10 := Lib.hid (((Only.refl (fun _ => False) w9).alloc (.cells #[.int .i64 16, .string ⟨#[88]⟩, .int .i64 0, .int .i64 0] 28)).trans hO10); have HI10 := Lib.hid hI10; clear hI10 hO10)
    | (go_at_call 23; (with_reducible refine (mod2 w10 66 65 67).mono ?_); rintro e w11 ⟨oi11, ci11, rfl, hI11, hO11⟩; have HI11 := Lib.hid hI11; have HS11 := Lib.hid hO11; clear hI11 hO11)
    | (go_at_call 23; (with_reducible refine (mod1 w11 67 66).mono ?_); rintro e w12 ⟨oi12, ci12, rfl, hI12, hO12⟩; have ha := (Only.refl (fun _ => False) w12).alloc (.cells #[.string ⟨#[65]⟩, .bool false, .slice none 0 0, .slice oi10 1 ci10, .slice none 0 0, .string ⟨#[66]⟩, .bool false, .slice none 0 0, .slice oi11 2 ci11, .slice none 0 0, .string ⟨#[67]⟩, .bool false, .slice none 0 0, .slice oi12 1 ci12, .slice none 0 0] 42); have HLC := Lib.hid (mdz3 (new_block w12 (.cells #[.string ⟨#[65]⟩, .bool false, .slice none 0 0, .slice oi10 1 ci10, .slice none 0 0, .string ⟨#[66]⟩, .bool false, .slice none 0 0, .slice oi11 2 ci11, .slice none 0 0, .string ⟨#[67]⟩, .bool false, .slice none 0 0, .slice oi12 1 ci12, .slice none 0 0] 42)) (HI10.out.old (HS11.out.trans (hO12.trans ha)) (fun _ _ hc => hc)) (HI11.out.old (hO12.trans ha) (fun _ _ hc => hc)) (hI12.old ha (fun _ _ hc => hc))); have HS12 := Lib.hid (hO12.trans ha); clear ha hI12 hO12)
    | (go_at_call 19; (with_reducible refine (exCyc (w12.alloc (.cells #[.string ⟨#[65]⟩, .bool false, .slice none 0 0, .slice oi10 1 ci10, .slice none 0 0, .string ⟨#[66]⟩, .bool false, .slice none 0 0, .slice oi11 2 ci11, .slice none 0 0, .string ⟨#[67]⟩, .bool false, .slice none 0 0, .slice oi12 1 ci12, .slice none 0 0] 42)) _ _ HLC.out).mono ?_); rintro e w13 ⟨oe, ce, rfl, hE, hO13⟩; have HS13 := Lib.hid (HS12.out.trans hO13); have HE := Lib.hid hE; have o13 := (Only.refl (fun _ => False) w13).alloc (.cells #[.int .i64 0, .string ⟨#[]⟩, .int .i64 0, .int .i64 0] 28); have o10 := HS11.out.trans (HS12.out.trans (hO13.trans o13)); have o9 := HS10.out.trans o10; have o8 := HS9.out.trans o9; have o7 := HS8.out.trans o8; have o6 := HS7.out.trans o7; have o5 := HS6.out.trans o6; have xf := HF.out.on o5; have xg := HG.out.on o6; have xh := HH.out.on o7; have xi := HI.out.on o8; have xj := HJ.out.on o10; have xo := Bx.new w13; have XJ := Lib.hid xj; have OB := Lib.hid o5; have OA := Lib.hid o5; have O6 := Lib.hid o6; have O7 := Lib.hid o7; have OE := Lib.hid o13; obtain ⟨f0, f1, f2, f3⟩ := xf.cells; obtain ⟨g0, g1, g2, g3⟩ := xg.cells; obtain ⟨h0, h1, h2, h3⟩ := xh.cells; obtain ⟨i0, i1, i2, i3⟩ := xi.cells; obtain ⟨o0, o1, o2, o3⟩ := xo.cells; clear xf xg xh xi xj xo o13 o10 o9 o8 o7 o6 o5 hO13 hE)
    | (go_at_call 14; (with_reducible refine (sameL3 (w13.alloc (.cells #[.int .i64 0, .string ⟨#[]⟩, .int .i64 0, .int .i64 0] 28)) oa ca _ 66 65 67 (HA.out.old (HS5.out.trans OB.out) (fun _ _ hc => hc)) (size_al _ _)).mono ?_); rintro e w14 ⟨rfl, hO14⟩; have O14 := Lib.hid hO14; have b14 := cell_old HB.out.1 (OB.out.trans hO14) (fun _ _ hc => hc) rfl; clear hO14)
    | (go_at_call 14; (with_reducible refine (sameL2 w14 ra rc _ 66 67 (HB.out.2.old (OB.out.trans O14.out) (fun _ _ hc => hc)) rfl).mono ?_); rintro e w15 ⟨rfl, hO15⟩; have O15 := Lib.hid (O14.out.trans hO15); clear hO15 b14)
    | (go_at_call 14; (with_reducible refine (sameL1 w15 oc cc _ 66 (HC.out.old (O6.out.trans O15.out) (fun _ _ hc => hc)) rfl).mono ?_); rintro e w16 ⟨rfl, hO16⟩; have O16 := Lib.hid (O15.out.trans hO16); clear hO16)
    | (go_at_call 14; (with_reducible refine (sameL1 w16 od cd _ 65 (HD.out.old (O7.out.trans O16.out) (fun _ _ hc => hc)) rfl).mono ?_); rintro e w17 ⟨rfl, hO17⟩; have O17 := Lib.hid (O16.out.trans hO17); obtain ⟨j0, j1, j2, j3⟩ := (XJ.out.on O17.out).cells; clear hO17)
    | (go_at_call 14; (with_reducible refine (sameL2 w17 oe ce _ 65 66 (HE.out.old (OE.out.trans O17.out) (fun _ _ hc => hc)) rfl).mono ?_); rintro e w18 ⟨rfl, hO18⟩; have O18 := Lib.hid (O17.out.trans hO18); clear hO18))
  go_ret
  exact ⟨rfl, HO3.out.trans ((HO4.out).trans (HS5.out.trans (OB.out.trans O18.out)))⟩
end Go.Proofs.YtigmdiagdlbdpaaGreat
