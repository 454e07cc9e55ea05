/-
  A new number is found among as many as there are used names, and one; Fresh in either case.
-/
import Derived.Test.YtniejaachfhkdaaGreatDoorFresh
import Derived.Test.YtniejaachfhkdaaGreatDoorNumP
namespace Go.Proofs.YtniejaachfhkdaaGreatDoor
open Go.RowKit Go.Maps
theorem nodup_le {α : Type} [BEq α] [LawfulBEq α] : ∀ (L U : List α), L.Nodup → (∀ x ∈ L, x ∈ U) → L.length ≤ U.length := by
  intro L
  induction L with
  | nil => intro U _ _; simp
  | cons x L ih =>
    intro U hn hs
    have hx := hs x (by simp)
    rw [List.nodup_cons] at hn
    have h1 := ih (U.erase x) hn.2 (fun y hy => by
      rw [List.mem_erase_of_ne (fun e => hn.1 (by rw [← e]; exact hy))]
      exact hs y (by simp [hy]))
    have h2 := List.length_erase_of_mem hx
    have h3 : 0 < U.length := List.length_pos_of_mem hx
    simp only [List.length_cons]
    omega
theorem itoa_inj {m n : Nat} (h : Lib.itoa (m : Int) = Lib.itoa (n : Int)) : m = n := by
  rw [Lib.itoa, Lib.itoa, if_neg (by omega), if_neg (by omega), Int.toNat_natCast, Int.toNat_natCast] at h
  have a := (dec_canon m m (Nat.le_refl _)).2.1
  have b := (dec_canon n n (Nat.le_refl _)).2.1
  rw [h] at a
  omega
theorem mkL_eq (b : ByteArray) (n : Int) : mkL b n = b.data.toList ++ 36 :: Lib.itoa n := by
  unfold mkL madeB; rw [app_data, app_data, List.append_assoc]; rfl
theorem mkL_inj {b : ByteArray} {m n : Nat} (h : mkL b (m : Int) = mkL b (n : Int)) : m = n := by
  rw [mkL_eq, mkL_eq] at h
  have := List.append_cancel_left h
  exact itoa_inj (List.cons.inj this).2
theorem exists_new (U : List (List UInt8)) (b : ByteArray) (t : Nat) : ∃ J, 1 ≤ J ∧ J ≤ U.length + 1 ∧ U.contains (mkL b ((t + J : Nat) : Int)) = false ∧ ∀ i, 1 ≤ i → i < J → U.contains (mkL b ((t + i : Nat) : Int)) = true := by
  have hex : ∃ J, 1 ≤ J ∧ J ≤ U.length + 1 ∧ U.contains (mkL b ((t + J : Nat) : Int)) = false := by
    by_cases h : ∃ J, 1 ≤ J ∧ J ≤ U.length + 1 ∧ U.contains (mkL b ((t + J : Nat) : Int)) = false
    · exact h
    · exfalso
      have hall : ∀ x ∈ (List.range (U.length + 1)).map (fun i => mkL b ((t + (i + 1) : Nat) : Int)), x ∈ U := by
        intro x hx
        simp only [List.mem_map, List.mem_range] at hx
        obtain ⟨i, hi, rfl⟩ := hx
        cases hc : U.contains (mkL b ((t + (i + 1) : Nat) : Int))
        · exact absurd ⟨i + 1, by omega, by omega, hc⟩ h
        · simpa using hc
      have hnd : ((List.range (U.length + 1)).map (fun i => mkL b ((t + (i + 1) : Nat) : Int))).Nodup := by
        rw [List.nodup_iff_pairwise_ne, List.pairwise_map]
        refine List.Pairwise.imp_of_mem ?_ (List.nodup_range (n := U.length + 1))
        intro i j _ _ hne he
        exact hne (by have := mkL_inj he; omega)
      have := nodup_le _ _ hnd hall
      simp at this
      omega
  obtain ⟨J, hJ, hmin⟩ := exists_least hex
  refine ⟨J, hJ.1, hJ.2.1, hJ.2.2, fun i h1 h2 => ?_⟩
  cases hc : U.contains (mkL b ((t + i : Nat) : Int))
  · have := hmin i ⟨h1, by have := hJ.2.1; omega, hc⟩
    omega
  · rfl
theorem fb_stem {s : ByteArray} (h : stem (fb s).data.toList = false) : basO s = none ∧ stem s.data.toList = false := by
  unfold fb at h
  cases hb : basO s with
  | none => rw [hb] at h; exact ⟨rfl, h⟩
  | some p =>
    exfalso
    rw [hb] at h
    obtain ⟨b, n⟩ := p
    have hst : stem b.data.toList = true := by
      unfold basO at hb
      split at hb
      · cases hb
      · split at hb
        · rename_i hs
          cases hn : numOf (s.extract ((lix s).toNat + 1) s.size).data.toList with
          | none => rw [hn] at hb; cases hb
          | some k => rw [hn] at hb; cases hb; exact hs
        · cases hb
    have h' : stem b.data.toList = false := h
    rw [hst] at h'; cases h'
set_option maxRecDepth 100000 in
set_option maxHeartbeats 1000000 in
theorem Fresh_no (W w : World) (p : Pl) (U T N) (s : ByteArray) (hs : s.size ≤ 1000000) (hS : Sup W p U T N w) (hst : stem (fb s).data.toList = false) :
    Calls Tryz.prog 34 #[.pointer (some ⟨p.a, 0, none⟩), .string s] w fun e w' => e = .returned (.string ⟨#[]⟩) ∧ Below w.heap.size w w' := by
  have c0 := hS.cell0
  have hq := hS.q.self
  obtain ⟨hb, h2⟩ := fb_stem hst
  have HB : Hid (basR (basO s) = .tuple #[.string ⟨#[]⟩, .int .i64 0, .bool false]) := Lib.hid (by rw [hb]; rfl)
  have HST := Lib.hid h2
  clear hb h2 hst
  go_enter Tryz.func34, Tryz.ntmps34
  go_wp2_with (first | (go_at_call 47; refine (valid_yes _ _ (by assumption)).mono ?_; rintro e w1 ⟨rfl, rfl⟩) | (go_at_call 14; refine (Base_q _ _ _ hs hq).mono ?_; rintro e w1 ⟨rfl, hq1⟩; rw [HB.out]) | (go_at_call 41; refine (isBase_v _ false _ _ hs HST.out hq1).mono ?_; rintro e w2 ⟨rfl, hq2⟩))
  go_ret
  exact ⟨rfl, hq2.bel⟩
end Go.Proofs.YtniejaachfhkdaaGreatDoor
