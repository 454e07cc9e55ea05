/-
  WALKS. The reference: Needs, Users, for all lists; ModgraphNeeds.
-/
import Derived.Test.YtigmdiagdlbdpaaGreatMid
import Derived.Test.YtigmdiagdlbdpaaGreatMhx
namespace Go.Proofs.YtigmdiagdlbdpaaGreat
open Go.RowKit Go.Maps
theorem rNeeds_p (w : World) (oa : Option Addr) (n ca : Nat) (l : List Md) (nm : Nm) (h : Mdz w oa n l) (him : n ≤ 32 → ∀ m ∈ l, m.im.length ≤ 100) : Calls Tryz.prog 16 #[.slice oa n ca, encStr nm] w (NmF (relF l nm) (relM (grP l) l nm) w) := by
  cases hF : relF l nm with
  | some x =>
    obtain ⟨c, s⟩ := x
    rw [← hF]
    exact rNeeds_bad w oa n ca l nm h him c s hF
  | none =>
    rw [← hF]
    cases hC : accF l with
    | some x => unfold relF at hF; rw [hC] at hF; cases hF
    | none =>
      refine rNeeds_good w oa n ca l nm h him hF hC ?_
      rw [(show relF l nm = if nm ∈ nsP l then none else some (16, nm) by unfold relF; rw [hC])] at hF
      by_cases hm : nm ∈ nsP l
      · exact hm
      · rw [if_neg hm] at hF; cases hF
theorem rUsers_p (w : World) (oa : Option Addr) (n ca : Nat) (l : List Md) (nm : Nm) (h : Mdz w oa n l) (him : n ≤ 32 → ∀ m ∈ l, m.im.length ≤ 100) : Calls Tryz.prog 18 #[.slice oa n ca, encStr nm] w (NmF (relF l nm) (relM (rvG (grP l)) l nm) w) := by
  cases hF : relF l nm with
  | some x =>
    obtain ⟨c, s⟩ := x
    rw [← hF]
    exact rUsers_bad w oa n ca l nm h him c s hF
  | none =>
    rw [← hF]
    cases hC : accF l with
    | some x => unfold relF at hF; rw [hC] at hF; cases hF
    | none =>
      refine rUsers_good w oa n ca l nm h him hF hC ?_
      rw [(show relF l nm = if nm ∈ nsP l then none else some (16, nm) by unfold relF; rw [hC])] at hF
      by_cases hm : nm ∈ nsP l
      · exact hm
      · rw [if_neg hm] at hF; cases hF
/-- Names and a fault, whichever. -/
def NmU (c : Nat) (s : Nm) (k : Nat) (L : List Nm) (w : World) (e : Ending) (w' : World) : Prop := ∃ oa ca, e = .returned (.tuple #[.slice oa k ca, faV c s]) ∧ Strz w' oa k L ∧ Only (fun _ => False) w w'
def fC : Option (Nat × Nm) → Nat
  | some x => x.1
  | none => 0
def fS : Option (Nat × Nm) → Nm
  | some x => x.2
  | none => []
def fL : Option (Nat × Nm) → List Nm → List Nm
  | some _, _ => []
  | none, L => L
theorem NmU_q {F : Option (Nat × Nm)} {L : List Nm} {w w' : World} {e : Ending} (h : nmQ F L w e w') : NmU (fC F) (fS F) (fL F L).length (fL F L) w e w' := by
  unfold nmQ at h
  cases F with
  | some x => exact ⟨none, 0, h.1, strz_nil _ 0 _, h.2⟩
  | none =>
    obtain ⟨⟨oa, ca, h1, h2⟩, h3⟩ := h
    exact ⟨oa, ca, h1, h2.strz, h3⟩
theorem NmU_f {F : Option (Nat × Nm)} {L : List Nm} {w w' : World} {e : Ending} (h : NmF F L w e w') : NmU (fC F) (fS F) (fL F L).length (fL F L) w e w' := by
  unfold NmF at h
  cases F with
  | some x => exact ⟨none, 0, h.1, strz_nil _ 0 _, h.2⟩
  | none =>
    obtain ⟨⟨oa, ca, h1, h2⟩, h3⟩ := h
    exact ⟨oa, ca, h1, h2, h3⟩
theorem Bx.newF (w : World) (c : Nat) (s : Nm) : Bx (w.alloc (.cells #[.int .i64 (c : Int), encStr s, .int .i64 0, .int .i64 0] 28)) w.heap.size c ⟨s.toArray⟩ := new_block w _
theorem Only.al (w : World) (o : Obj) : Only (fun _ => False) w (w.alloc o) := (Only.refl _ _).alloc _
theorem fL_len {l : List Md} {nm : Nm} {E : List (List Nat)} (h : ∀ y, accF l = none → nm ∈ nsP l → (relM E l nm).length = y → y ≤ 1000000) : (fL (relF l nm) (relM E l nm)).length ≤ 1000000 := by
  cases hF : relF l nm with
  | some x => exact Nat.zero_le _
  | none =>
    cases hC : accF l with
    | some x => unfold relF at hF; rw [hC] at hF; cases hF
    | none =>
      rw [(show relF l nm = if nm ∈ nsP l then none else some (16, nm) by unfold relF; rw [hC])] at hF
      by_cases hm : nm ∈ nsP l
      · exact h _ hC hm rfl
      · rw [if_neg hm] at hF; cases hF
set_option maxRecDepth 100000 in
set_option maxHeartbeats 4000000 in
theorem needs_core (w : World) (oa : Option Addr) (n ca : Nat) (l : List Md) (sa : ByteArray) (HSM : Hid (Calls Tryz.prog 8 #[.slice oa n ca] w fun e w' => e = .returned (.bool true) ∧ w' = w)) (c : Nat) (s : Nm) (k q : Nat) (L M : List Nm) (hk : k ≤ 1000000) (hq : q ≤ 1000000)
    (HP1 : Hid (Calls Tryz.prog 15 #[.slice oa n ca, .string sa] w (NmU c s k L w)))
    (HP2 : Hid (∀ wx, Only (fun _ => False) w wx → Calls Tryz.prog 16 #[.slice oa n ca, .string sa] wx (NmU c s k L wx)))
    (HP3 : Hid (∀ wx, Only (fun _ => False) w wx → Calls Tryz.prog 17 #[.slice oa n ca, .string sa] wx (NmU c s q M wx)))
    (HP4 : Hid (∀ wx, Only (fun _ => False) w wx → Calls Tryz.prog 18 #[.slice oa n ca, .string sa] wx (NmU c s q M wx))) : Calls Tryz.prog 4 #[.slice oa n ca, .string sa] w fun e w' => e = .returned (.bool true) ∧ Only (fun _ => False) w w' := by
  go_enter Tryz.func4, Tryz.ntmps4
  go_wp2_with (first
    | (go_at_call 8; (refine HSM.out.mono ?_); rintro e w4 ⟨rfl, rfl⟩)
    | (go_at_call 15; (with_reducible refine HP1.out.mono ?_); rintro e w5 ⟨o1, c1, rfl, hS5, hO5⟩; have HS5 := Lib.hid hS5; have HO5 := Lib.hid hO5; clear hS5 hO5)
    | (go_at_call 16; (with_reducible refine (HP2.out _ (HO5.out.alloc _)).mono ?_); rintro e w6 ⟨o2, c2, rfl, hS6, hO6⟩; have HS6 := Lib.hid hS6; have HB6 := Lib.hid ((Bx.newF w5 c s).on hO6); have HO6 := Lib.hid ((Only.al w5 (.cells #[.int .i64 (c : Int), encStr s, .int .i64 0, .int .i64 0] 28)).trans hO6); clear hS6 hO6)
    | (go_at_call 17; (with_reducible refine (HP3.out _ ((HO5.out.trans HO6.out).alloc _)).mono ?_); rintro e w7 ⟨o3, c3, rfl, hS7, hO7⟩; have HS7 := Lib.hid hS7; have HB7 := Lib.hid ((Bx.newF w6 c s).on hO7); have HO7 := Lib.hid ((Only.al w6 (.cells #[.int .i64 (c : Int), encStr s, .int .i64 0, .int .i64 0] 28)).trans hO7); clear hS7 hO7)
    | (go_at_call 18; (with_reducible refine (HP4.out _ ((HO5.out.trans (HO6.out.trans HO7.out)).alloc _)).mono ?_); rintro e w8 ⟨o4, c4, rfl, hS8, hO8⟩; have HS8 := Lib.hid hS8; have HB8 := Lib.hid ((Bx.newF w7 c s).on hO8); have HO8 := Lib.hid ((Only.al w7 (.cells #[.int .i64 (c : Int), encStr s, .int .i64 0, .int .i64 0] 28)).trans hO8); have HA8 := Lib.hid (Only.al w8 (.cells #[.int .i64 (c : Int), encStr s, .int .i64 0, .int .i64 0] 28)); have HS5b := Lib.hid (HS5.out.old (HO6.out.trans (HO7.out.trans (HO8.out.trans HA8.out))) (fun _ _ hc => hc)); have HS6b := Lib.hid (HS6.out.old (HO7.out.trans (HO8.out.trans HA8.out)) (fun _ _ hc => hc)); clear hS8 hO8)
    | (go_at_call 14; (with_reducible refine (sameT (w8.alloc (.cells #[.int .i64 (c : Int), encStr s, .int .i64 0, .int .i64 0] 28)) o1 o2 k c1 c2 L HS5b.out HS6b.out hk).mono ?_); rintro e w9 ⟨rfl, hO9⟩; have HO9 := Lib.hid (HA8.out.trans hO9); have HB9 := Lib.hid ((Bx.newF w8 c s).on hO9); obtain ⟨f0, f1, f2, f3⟩ := (HB6.out.on (HO7.out.trans (HO8.out.trans HO9.out))).cells; obtain ⟨g0, g1, g2, g3⟩ := (HB7.out.on (HO8.out.trans HO9.out)).cells; have HS7b := Lib.hid (HS7.out.old (HO8.out.trans HO9.out) (fun _ _ hc => hc)); have HS8b := Lib.hid (HS8.out.old HO9.out (fun _ _ hc => hc)); clear hO9)
    | (go_at_call 14; (with_reducible refine (sameT w9 o3 o4 q c3 c4 M HS7b.out HS8b.out hq).mono ?_); rintro e w10 ⟨rfl, hO10⟩; have HO10 := Lib.hid hO10; clear f0 f1 f2 f3 g0 g1 g2 g3; obtain ⟨f0, f1, f2, f3⟩ := (HB8.out.on (HO9.out.trans HO10.out)).cells; obtain ⟨g0, g1, g2, g3⟩ := (HB9.out.on HO10.out).cells; clear hO10)
    | (go_at_call 9; (refine (awake_p _).mono ?_); rintro e w11 ⟨rfl, hO11⟩))
  go_ret
  exact ⟨rfl, HO5.out.trans (HO6.out.trans (HO7.out.trans (HO8.out.trans (HO9.out.trans (HO10.out.trans hO11)))))⟩
set_option maxRecDepth 100000 in
set_option maxHeartbeats 4000000 in
theorem ModgraphNeeds_walk (w : World) (oa : Option Addr) (n ca : Nat) (l : List Md) (sa : ByteArray) (h : Mdz w oa n l) (hn : n ≤ maxLen) (hsz : ∀ m ∈ l, SzM m) : Calls Tryz.prog 4 #[.slice oa n ca, .string sa] w fun e w' => e = .returned (.bool true) ∧ Only (fun _ => False) w w' := by
  obtain ⟨x, hx⟩ : ∃ x, smallM l = x := ⟨_, rfl⟩
  have HSM := Lib.hid (mSmall_p w oa n ca l h hn x hx)
  cases x with
  | false =>
    clear h hsz hx
    go_enter Tryz.func4, Tryz.ntmps4
    go_wp2_with (first | (go_at_call 8; (refine HSM.out.mono ?_); rintro e w4 ⟨rfl, rfl⟩) | (go_at_call 9; (refine (awake_p _).mono ?_); rintro e w9 ⟨rfl, hO9⟩))
    go_ret
    exact ⟨rfl, hO9⟩
  | true =>
    have hok := okL_small hx hsz
    have him : n ≤ 32 → ∀ m ∈ l, m.im.length ≤ 100 := fun _ m hm => by have := smallM_im hx m hm; omega
    have hsa : Value.string sa = encStr sa.data.toList := rfl
    have hn' := hn
    unfold maxLen at hn'
    have hl := h.len
    have k1 : (fL (relF l sa.data.toList) (relM (grP l) l sa.data.toList)).length ≤ 1000000 := fL_len (fun y hC hm hy => by
      have h1 := rel_len (accF_none hC).2 hm
      have h9 := (accF_none hC).1
      omega)
    have k2 : (fL (relF l sa.data.toList) (relM (rvG (grP l)) l sa.data.toList)).length ≤ 1000000 := fL_len (fun y hC hm hy => by
      have h1 := users_eq (accF_none hC).2 hm
      have h9 := (accF_none hC).1
      rw [← h1] at hy
      have h2 := nsP_len l
      have h4 := List.length_filter_le (fun t => decide (sa.data.toList ∈ relM (grP l) l t)) (nsP l)
      omega)
    have p1 : Calls Tryz.prog 15 #[.slice oa n ca, .string sa] w (NmU (fC (relF l sa.data.toList)) (fS (relF l sa.data.toList)) (fL (relF l sa.data.toList) (relM (grP l) l sa.data.toList)).length (fL (relF l sa.data.toList) (relM (grP l) l sa.data.toList)) w) := (Needs_p w oa n ca l sa.data.toList h (fun _ => hok)).mono (fun e w' hh => NmU_q hh)
    have p2 : ∀ wx, Only (fun _ => False) w wx → Calls Tryz.prog 16 #[.slice oa n ca, .string sa] wx (NmU (fC (relF l sa.data.toList)) (fS (relF l sa.data.toList)) (fL (relF l sa.data.toList) (relM (grP l) l sa.data.toList)).length (fL (relF l sa.data.toList) (relM (grP l) l sa.data.toList)) wx) := fun wx ho => (rNeeds_p wx oa n ca l sa.data.toList (h.old ho (fun _ _ hc => hc)) him).mono (fun e w' hh => NmU_f hh)
    have p3 : ∀ wx, Only (fun _ => False) w wx → Calls Tryz.prog 17 #[.slice oa n ca, .string sa] wx (NmU (fC (relF l sa.data.toList)) (fS (relF l sa.data.toList)) (fL (relF l sa.data.toList) (relM (rvG (grP l)) l sa.data.toList)).length (fL (relF l sa.data.toList) (relM (rvG (grP l)) l sa.data.toList)) wx) := fun wx ho => (Users_p wx oa n ca l sa.data.toList (h.old ho (fun _ _ hc => hc)) (fun _ => hok)).mono (fun e w' hh => NmU_q hh)
    have p4 : ∀ wx, Only (fun _ => False) w wx → Calls Tryz.prog 18 #[.slice oa n ca, .string sa] wx (NmU (fC (relF l sa.data.toList)) (fS (relF l sa.data.toList)) (fL (relF l sa.data.toList) (relM (rvG (grP l)) l sa.data.toList)).length (fL (relF l sa.data.toList) (relM (rvG (grP l)) l sa.data.toList)) wx) := fun wx ho => (rUsers_p wx oa n ca l sa.data.toList (h.old ho (fun _ _ hc => hc)) him).mono (fun e w' hh => NmU_f hh)
    exact needs_core w oa n ca l sa HSM _ _ _ _ _ _ k1 k2 (Lib.hid p1) (Lib.hid p2) (Lib.hid p3) (Lib.hid p4)
end Go.Proofs.YtigmdiagdlbdpaaGreat
