/-
  WALKS. The reference: Imports.
-/
import Derived.Test.YtigmdiagdlbdpaaGreatMhc
import Derived.Test.YtigmdiagdlbdpaaGreatMhe
namespace Go.Proofs.YtigmdiagdlbdpaaGreat
open Go.RowKit Go.Maps
theorem impF_len {nm : Nm} {o : List Nm} {m : Md} {b : Nat} (h : m.im.length ≤ b) : (impF nm o m).length ≤ o.length + b := by
  unfold impF
  split
  · have := foldIns_len m.im o; omega
  · omega
theorem impP_len {l : List Md} {nm : Nm} {b : Nat} (h : ∀ m ∈ l, m.im.length ≤ b) : (impP l nm).length ≤ l.length * b := by
  have := impK_len (nm := nm) l [] h
  simpa [impP] using this
set_option maxRecDepth 100000 in
set_option maxHeartbeats 8000000 in
theorem rImports_p (w : World) (oa : Option Addr) (n ca : Nat) (l : List Md) (nm : Nm) (h : Mdz w oa n l) (hn : n ≤ 100) (him : ∀ m ∈ l, m.im.length ≤ 100) : Calls Tryz.prog 22 #[.slice oa n ca, encStr nm] w fun e w' => ∃ oo co, e = .returned (.slice oo (impP l nm).length co) ∧ SR w' w.heap.size (.slice oo (impP l nm).length co) (impP l nm) ∧ Only (fun _ => False) w w' := by
  have hl := h.len
  have HL := Lib.hid h
  have HIM := Lib.hid him
  clear h him
  go_enter Tryz.func22, Tryz.ntmps22
  go_wp2
  go_loopw [5, 6, 7] (fun v q kv wr => ∃ (i : Nat) (o : List Nm), i ≤ n ∧ q = .int .i64 i ∧ SR wr w.heap.size v o ∧ Hid ((l.drop i).foldl (impF nm) o = impP l nm) ∧ o.length ≤ i * 100 ∧ Only (w.heap.size ≤ ·) w wr) (fun _ q _ _ => n - (intOf q).toNat)
  case atStart => exact ⟨0, [], by omega, rfl, SR.nil _ _, Lib.hid rfl, Nat.zero_le _, Only.refl _ _⟩
  case round =>
    obtain ⟨i, o, hi, rfl, hR, HI, hol, hO⟩ := hrel
    obtain ⟨oR, cR, hv⟩ := rowForm hR
    subst hv
    have HR := Lib.hid hR
    have HO := Lib.hid hO
    by_cases hlt : i < n
    · have hil : i < l.length := by omega
      obtain ⟨b1, o1, e1, c1⟩ := (HL.out.up hO).cell i hil
      subst e1
      have hdi := drop_md hil
      have hml : mdAt l i ∈ l := by rw [mdAt_get hil]; exact List.getElem_mem hil
      have hmi := HIM.out _ hml
      obtain ⟨m, hm⟩ : ∃ m, mdAt l i = m := ⟨_, rfl⟩
      rw [hm] at c1 hdi hmi
      obtain ⟨al, ox, oi, od, nx, cx, ni, ci, nd, cd, p0, p1, p2, p3, p4, hIz⟩ := c1
      have hni := hIz.len
      have HN : Hid ((l.drop (i + 1)).foldl (impF nm) (impF nm o m) = impP l nm) := Lib.hid (by
        have h8 := HI.out
        rw [hdi, List.foldl_cons] at h8
        exact h8)
      have HC : Hid (∀ wx, Only (w.heap.size ≤ ·) w wx → wx.cell? ⟨b1, o1 + i * 5, none⟩ = some (encStr m.nm) ∧ wx.cell? ⟨b1, o1 + i * 5 + 3, none⟩ = some (.slice oi ni ci) ∧ Imz wx oi ni m.im) := Lib.hid (fun wx hox => by
        have hb1 : b1 < w.heap.size := by
          obtain ⟨b2, o2, e2, c2⟩ := HL.out.cell i hil
          cases e2
          obtain ⟨_, _, _, _, _, _, _, _, _, _, q0, -⟩ := c2
          exact cell_lt q0
        have key : ∀ (a : Nat) (v : Value), wr.cell? ⟨b1, a, none⟩ = some v → wx.cell? ⟨b1, a, none⟩ = some v := fun a v hc => by
          rw [World.cell?_of_block (hox.block b1 hb1 (fun hc => by have hc' : w.heap.size ≤ b1 := hc; omega)), ← World.cell?_of_block (HO.out.block b1 hb1 (fun hc => by have hc' : w.heap.size ≤ b1 := hc; omega))]
          exact hc
        refine ⟨key _ _ p0, key _ _ p3, ?_⟩
        obtain ⟨b2, o2, e2, c2⟩ := (HL.out.up hox).cell i hil
        cases e2
        rw [hm] at c2
        obtain ⟨al', ox', oi', od', nx', cx', ni', ci', nd', cd', q0, q1, q2, q3, q4, hz⟩ := c2
        rw [key _ _ p3] at q3
        cases q3
        exact hz)
      have h01 : (0 : Int) ≤ (i : Int) := Int.natCast_nonneg i
      have h02 : (i : Int) < (n : Int) := by omega
      have h03 : (i : Int).toNat = i := Int.toNat_natCast i
      have HOL := Lib.hid hol
      have HMI := Lib.hid hmi
      have hnb : ni ≤ 100 := by omega
      clear p0 p1 p2 p3 p4 hIz hdi hm hR hO hol hmi
      by_cases hnm : m.nm = nm
      · have HF : Hid (m.im.foldl insP o = impF nm o m) := Lib.hid (by unfold impF; rw [if_pos hnm])
        have HE := Lib.hid hnm
        clear hnm
        go_wp2
        go_loopw [5, 7] (fun v q wx => ∃ (k : Nat) (o' : List Nm), k ≤ ni ∧ q = .int .i64 k ∧ SR wx w.heap.size v o' ∧ Hid ((m.im.drop k).foldl insP o' = impF nm o m) ∧ o'.length ≤ i * 100 + k ∧ Only (w.heap.size ≤ ·) w wx) (fun _ q _ => ni - (intOf q).toNat)
        case atStart => exact ⟨0, o, by omega, rfl, HR.out, HF, HOL.out, HO.out⟩
        case round =>
          obtain ⟨k, o', hk, rfl, hR2, HI2, hol2, hO2⟩ := hrel
          obtain ⟨oS, cS, hv⟩ := rowForm hR2
          subst hv
          obtain ⟨g0, g3, gz⟩ := HC.out _ hO2
          rw [HE.out] at g0
          have HR2 := Lib.hid hR2
          have HO2 := Lib.hid hO2
          by_cases hkn : k < ni
          · have hkl : k < m.im.length := by omega
            obtain ⟨b2, o2, e2, d2⟩ := gz.cell k hkl
            subst e2
            obtain ⟨qq, aa, hh, sa, on, nn, cc, d0, -⟩ := d2
            have hdk := drop_nm hkl
            obtain ⟨y, hy⟩ : ∃ y, nAt m.im k = y := ⟨_, rfl⟩
            rw [hy] at d0 hdk
            have HI3 : Hid ((m.im.drop (k + 1)).foldl insP (insP o' y) = impF nm o m) := Lib.hid (by
              have h8 := HI2.out
              rw [hdk, List.foldl_cons] at h8
              exact h8)
            have HIN : Hid (Calls Tryz.prog 42 #[.slice oS o'.length cS, encStr y] wr fun e w' => ∃ oo co, e = .returned (.slice oo (insP o' y).length co) ∧ SR w' wr.heap.size (.slice oo (insP o' y).length co) (insP o' y) ∧ Only (fun _ => False) wr w') := Lib.hid (rInsert_p wr oS o'.length cS o' hR2.strz (by have := HMI.out; omega) y)
            have h04 : (0 : Int) ≤ (k : Int) := Int.natCast_nonneg k
            have h05 : (k : Int) < (ni : Int) := by omega
            have h06 : (k : Int).toNat = k := Int.toNat_natCast k
            have hne : (nm == nm) = true := by simp
            clear hy hdk hR2 hO2 gz
            go_wp2_with (go_at_call 42; (refine HIN.out.mono ?_); rintro e w5 ⟨oo, co, rfl, hS5, hO5⟩; have HS5 := Lib.hid (rowMono hS5 HO2.out.size); have HO5 := Lib.hid (HO2.out.trans (hO5.lift (K := (w.heap.size ≤ ·)))); clear hS5 hO5)
            go_roundw
            case rel => exact ⟨k + 1, insP o' y, by omega, by go_num, HS5.out, HI3, by have := insP_len o' y; omega, HO5.out⟩
            case measure => simp [intOf]; omega
          · have hkn2 : k = m.im.length := by omega
            have HFI : Hid (o' = impF nm o m) := Lib.hid (by rw [← HI2.out, hkn2, List.drop_length]; rfl)
            have h05 : ¬ (k : Int) < (ni : Int) := by omega
            clear hR2 hO2 gz hkn2
            go_wp2
            go_roundw
            case rel => exact ⟨i + 1, o', by omega, by go_num, HR2.out, by rw [HFI.out]; exact HN, by have := HMI.out; omega, HO2.out⟩
            case measure => simp [intOf]; omega
      · have HF : Hid (o = impF nm o m) := Lib.hid (by unfold impF; rw [if_neg hnm])
        have hne : (m.nm == nm) = false := beq_eq_false_iff_ne.2 hnm
        obtain ⟨g0, g3, gz⟩ := HC.out _ HO.out
        obtain ⟨mn, hmn⟩ : ∃ s, m.nm = s := ⟨_, rfl⟩
        rw [hmn] at hne g0
        clear hnm gz hmn
        go_wp2
        go_loopw [5, 7] (fun v q wx => q = .int .i64 0 ∧ v = .slice oR o.length cR ∧ wx = wr) (fun _ q _ => 0)
        case atStart => exact ⟨rfl, rfl, rfl⟩
        case round =>
          obtain ⟨rfl, rfl, rfl⟩ := hrel
          by_cases hn0 : 0 < ni
          · have h05 : (0 : Int) < (ni : Int) := by omega
            go_wp2
            go_roundw
            case rel => exact ⟨i + 1, o, by omega, by go_num, HR.out, by rw [HF.out]; rw [← HF.out]; rw [HF.out]; exact HN, by have := HOL.out; omega, HO.out⟩
            case measure => simp [intOf]; omega
          · have h05 : ¬ (0 : Int) < (ni : Int) := by omega
            go_wp2
            go_roundw
            case rel => exact ⟨i + 1, o, by omega, by go_num, HR.out, by rw [HF.out]; rw [← HF.out]; rw [HF.out]; exact HN, by have := HOL.out; omega, HO.out⟩
            case measure => simp [intOf]; omega
    · have hin : i = l.length := by omega
      have HFI : Hid (o = impP l nm) := Lib.hid (by rw [← HI.out, hin, List.drop_length]; rfl)
      clear hR hO hin
      go_wp2
      go_ret
      rw [← HFI.out]
      exact ⟨oR, cR, rfl, HR.out, HO.out.new⟩
end Go.Proofs.YtigmdiagdlbdpaaGreat
