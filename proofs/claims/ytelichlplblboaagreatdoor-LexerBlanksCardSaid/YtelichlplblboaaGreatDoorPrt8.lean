/-
  WALKS. isTokenPrintable, of every token; Render, of every list.
-/
import Derived.Test.YtelichlplblboaaGreatDoorPrt
import Derived.Test.YtelichlplblboaaGreatDoorPra
import Derived.Test.YtelichlplblboaaGreatDoorPrt7
import Derived.Test.YtelichlplblboaaGreatDoorPrt9
import Derived.Test.YtelichlplblboaaGreatDoorPrt10
import Derived.Test.YtelichlplblboaaGreatDoorWn
namespace Go.Proofs.YtelichlplblboaaGreatDoor
open Go.RowKit Go.Maps
theorem printable_p (t : Tok) (W w : World) (hq : Q W w) (hz : t.text.size ≤ 65536) (hz2 : t.qual.size ≤ 65536) :
    Calls Tryz.prog 27 #[tokV t] w fun e w' => e = .returned (.bool (prT t)) ∧ Only (fun _ => False) w w' := by
  have sym : ∀ k : Int, k = 9 ∨ k = 10 → t.op = k → prT t = (t.qual.data.toList.isEmpty && (t.n == 0) && (opo (cls t.text) == k)) := by
    rintro k hk rfl
    unfold prT
    rcases hk with h | h <;> simp [h]
  have nam : ∀ k : Int, k = 1 ∨ k = 2 ∨ k = 3 ∨ k = 4 → t.op = k → prT t = (isq t.qual && (t.n == 0) && (opo (cls t.text) == k)) := by
    rintro k hk rfl
    unfold prT
    rcases hk with h | h | h | h <;> simp [h]
  have symCase : ∀ k : Int, (t.qual.data.toList.isEmpty && (t.n == 0) && (opo (cls t.text) == k)) = true ∧ (t.qual.data.toList = [] ∧ t.n = 0 ∧ opo (cls t.text) = k) ∨
      (t.qual.data.toList.isEmpty && (t.n == 0) && (opo (cls t.text) == k)) = false ∧ (t.qual.data.toList ≠ [] ∨ (t.qual.data.toList = [] ∧ t.n ≠ 0) ∨ (t.qual.data.toList = [] ∧ t.n = 0 ∧ opo (cls t.text) ≠ k)) := by
    intro k
    by_cases a : t.qual.data.toList = []
    · have i1 : t.qual.data.toList.isEmpty = true := by rw [a]; rfl
      rw [i1]
      by_cases b : t.n = 0
      · by_cases c : opo (cls t.text) = k
        · exact .inl ⟨by simp [b, c], a, b, c⟩
        · exact .inr ⟨by simp [b, c], .inr (.inr ⟨a, b, c⟩)⟩
      · exact .inr ⟨by simp [b], .inr (.inl ⟨a, b⟩)⟩
    · have i1 : t.qual.data.toList.isEmpty = false := by simpa using a
      rw [i1]
      exact .inr ⟨by simp, .inl a⟩
  have namCase : ∀ k : Int, (isq t.qual && (t.n == 0) && (opo (cls t.text) == k)) = true ∧ (isq t.qual = true ∧ t.n = 0 ∧ opo (cls t.text) = k) ∨
      (isq t.qual && (t.n == 0) && (opo (cls t.text) == k)) = false ∧ (isq t.qual = false ∨ (isq t.qual = true ∧ t.n ≠ 0) ∨ (isq t.qual = true ∧ t.n = 0 ∧ opo (cls t.text) ≠ k)) := by
    intro k
    cases a : isq t.qual
    · exact .inr ⟨by simp, .inl rfl⟩
    · by_cases b : t.n = 0
      · by_cases c : opo (cls t.text) = k
        · exact .inl ⟨by simp [b, c], rfl, b, c⟩
        · exact .inr ⟨by simp [b, c], .inr (.inr ⟨rfl, b, c⟩)⟩
      · exact .inr ⟨by simp [b], .inr (.inl ⟨rfl, b⟩)⟩
  by_cases h5 : t.op = 5
  · exact printable_5 t w h5 hz
  by_cases h6 : t.op = 6
  · exact printable_6 t w h6 hz
  by_cases h7 : t.op = 7
  · exact printable_7 t w h7 hz
  by_cases h8 : t.op = 8
  · exact printable_8 t W w hq h8 hz
  by_cases h9 : t.op = 9
  · rw [sym 9 (.inl rfl) h9]
    rcases symCase 9 with ⟨e, a, b, c⟩ | ⟨e, h⟩
    · rw [e]; exact printable_sym t W w hq (.inl h9) hz a b (c.trans h9.symm)
    · rw [e]; exact printable_s9 t W w hq h9 hz h
  by_cases h10 : t.op = 10
  · rw [sym 10 (.inr rfl) h10]
    rcases symCase 10 with ⟨e, a, b, c⟩ | ⟨e, h⟩
    · rw [e]; exact printable_sym t W w hq (.inr h10) hz a b (c.trans h10.symm)
    · rw [e]; exact printable_s10 t W w hq h10 hz h
  by_cases h1 : t.op = 1
  · rw [nam 1 (.inl rfl) h1]
    rcases namCase 1 with ⟨e, a, b, c⟩ | ⟨e, h⟩
    · rw [e]; exact printable_name t W w hq (.inl h1) hz hz2 a b (c.trans h1.symm)
    · rw [e]
      rcases h with h | h | ⟨a, b, c⟩
      · exact printable_m1 t W w hq h1 hz hz2 (.inl h)
      · exact printable_m1 t W w hq h1 hz hz2 (.inr h)
      · exact printable_n1 t W w hq h1 hz hz2 a b c
  by_cases h2 : t.op = 2
  · rw [nam 2 (.inr (.inl rfl)) h2]
    rcases namCase 2 with ⟨e, a, b, c⟩ | ⟨e, h⟩
    · rw [e]; exact printable_name t W w hq (.inr (.inl h2)) hz hz2 a b (c.trans h2.symm)
    · rw [e]
      rcases h with h | h | ⟨a, b, c⟩
      · exact printable_m2 t W w hq h2 hz hz2 (.inl h)
      · exact printable_m2 t W w hq h2 hz hz2 (.inr h)
      · exact printable_n2 t W w hq h2 hz hz2 a b c
  by_cases h3 : t.op = 3
  · rw [nam 3 (.inr (.inr (.inl rfl))) h3]
    rcases namCase 3 with ⟨e, a, b, c⟩ | ⟨e, h⟩
    · rw [e]; exact printable_name t W w hq (.inr (.inr (.inl h3))) hz hz2 a b (c.trans h3.symm)
    · rw [e]
      rcases h with h | h | ⟨a, b, c⟩
      · exact printable_m3 t W w hq h3 hz hz2 (.inl h)
      · exact printable_m3 t W w hq h3 hz hz2 (.inr h)
      · exact printable_n3 t W w hq h3 hz hz2 a b c
  by_cases h4 : t.op = 4
  · rw [nam 4 (.inr (.inr (.inr rfl))) h4]
    rcases namCase 4 with ⟨e, a, b, c⟩ | ⟨e, h⟩
    · rw [e]; exact printable_name t W w hq (.inr (.inr (.inr h4))) hz hz2 a b (c.trans h4.symm)
    · rw [e]
      rcases h with h | h | ⟨a, b, c⟩
      · exact printable_m4 t W w hq h4 hz hz2 (.inl h)
      · exact printable_m4 t W w hq h4 hz hz2 (.inr h)
      · exact printable_n4 t W w hq h4 hz hz2 a b c
  exact printable_not t w h1 h2 h3 h4 h5 h6 h7 h8 h9 h10
theorem dec_ne (u : Nat) : Lib.decDigits u ≠ [] := by
  rw [Lib.decDigits]
  split <;> simp
/-- What Lex may return has a text. -/
theorem cls_nil {s : ByteArray} (h : s.size = 0) : cls s = 0 := by
  obtain rfl : s = ⟨#[]⟩ := by
    cases s with | mk d => cases d with | mk l => cases l with | nil => rfl | cons a l => simp [ByteArray.size] at h
  kernel_rfl
theorem prT_ne {t : Tok} (h : prT t = true) : (txB t).size ≠ 0 := by
  intro hz
  unfold txB at hz
  split at hz
  · rename_i h5
    have h0 : (Lib.itoa t.n).length = 0 := hz
    unfold prT at h
    rw [if_pos h5] at h
    have hn : 0 ≤ t.n := by simp at h; exact h.2
    obtain ⟨u, hu⟩ : ∃ u : Nat, t.n = (u : Int) := ⟨t.n.toNat, by omega⟩
    rw [hu, Lib.itoa_nonneg] at h0
    exact dec_ne u (List.eq_nil_of_length_eq_zero h0)
  split at hz
  · rename_i h5 h6
    unfold prT at h
    rw [if_neg h5, if_pos h6] at h
    have hn : 0 ≤ t.n ∧ t.n ≤ 255 := by simp at h; exact ⟨h.1.2, h.2⟩
    unfold qcB at hz
    rw [if_pos hn] at hz
    have h0 : (qtL 39 [t.n.toNat.toUInt8]).length = 0 := hz
    unfold qtL at h0
    rw [List.length_append] at h0
    simp at h0
  split at hz
  · have h0 : (qtL 34 t.text.data.toList).length = 0 := hz
    unfold qtL at h0
    rw [List.length_append] at h0
    simp at h0
  · rename_i h5 h6 h7
    have hx : t.text.size = 0 := by
      split at hz
      · exact hz
      · simp only [ByteArray.size_append] at hz; omega
    have hc := cls_nil hx
    unfold prT at h
    rw [if_neg h5, if_neg h6, if_neg h7] at h
    split at h
    · simp [hx] at h
    split at h
    · rename_i h9
      rw [hc] at h
      have : opo 0 = 0 := rfl
      rw [this] at h
      rcases h9 with e | e <;> simp [e] at h
    split at h
    · rename_i h9
      rw [hc] at h
      have : opo 0 = 0 := rfl
      rw [this] at h
      rcases h9 with e | e | e | e <;> simp [e] at h
    · cases h
/-- Render, at every list of tokens. -/
theorem Render_p (W w : World) (hq : Q W w) (oa : Option Addr) (n ca : Nat) (ts : List Tok) (hn : n ≤ 1000000) (hts : Tks w oa n ts) (hok : ∀ t ∈ ts, TokOk t) :
    Calls Tryz.prog 15 #[.slice oa n ca] w (RenPost w (renR ts)) := by
  have hp : PrtOk W ts := fun t ht w' hq' => printable_p t W w' hq' (hok t ht).x (hok t ht).q
  unfold renR
  cases ha : ts.all prT
  · exact Render_no W w hq oa n ca ts hn hts hp ha
  · by_cases hl : 16384 < ts.length
    · rw [if_pos hl]; exact Render_long W w hq oa n ca ts hn hts hp ha hl
    · rw [if_neg hl]
      exact Render_yes W w hq oa n ca ts hn hts hp ha (by omega) hok (fun t ht => prT_ne (List.all_eq_true.1 ha t ht))
end Go.Proofs.YtelichlplblboaaGreatDoor
