/-
  PLAIN. Qualified and generated names are taken apart as they were put together.
-/
import Derived.Test.YtniejaachfhkdaaDoorNumP
import Derived.Test.YtniejaachfhkdaaDoorRef
import Derived.Test.YtniejaachfhkdaaDoorFresh
namespace Go.Proofs.YtniejaachfhkdaaDoor
open Go.RowKit
theorem con_word {l : List UInt8} (h : con l = true) : wordB l = true := by
  unfold con at h; simp only [Bool.and_eq_true] at h; exact h.1
theorem word_wd {l : List UInt8} (h : wordB l = true) : ∀ c ∈ l, wdB c = true := by
  unfold wordB at h
  simp only [Bool.and_eq_true] at h
  exact List.all_eq_true.1 h.2
theorem symbol_sy {l : List UInt8} (h : symbolB l = true) : ∀ c ∈ l, syB c = true := by
  unfold symbolB at h
  simp only [Bool.and_eq_true] at h
  exact List.all_eq_true.1 h.1.2
theorem b256 (P : UInt8 → Bool) (h : ∀ m : Fin 256, P (UInt8.ofNat m.val) = true) (c : UInt8) : P c = true := by
  have e : UInt8.ofNat (⟨c.toNat, c.toNat_lt⟩ : Fin 256).val = c := by simp
  rw [← e]; exact h _
theorem wd_not (c : UInt8) (h : wdB c = true) : c ≠ 46 ∧ c ≠ 36 ∧ syB c = false := by
  have H := b256 (fun c => !wdB c || (c != 46 && c != 36 && !syB c)) (by decide +kernel) c
  simp [h] at H
  exact ⟨H.1.1, H.1.2, H.2⟩
theorem sy_not_dg (c : UInt8) (h : syB c = true) : dgB c = false ∧ wdB c = false := by
  have H := b256 (fun c => !syB c || (!dgB c && !wdB c)) (by decide +kernel) c
  simp [h] at H
  exact H
theorem dg_not (c : UInt8) (h : dgB c = true) : c ≠ 46 ∧ c ≠ 36 ∧ syB c = false := by
  have H := b256 (fun c => !dgB c || (c != 46 && c != 36 && !syB c)) (by decide +kernel) c
  simp [h] at H
  exact ⟨H.1.1, H.1.2, H.2⟩
theorem cut_app (m r : List UInt8) (h : ∀ c ∈ m, c ≠ 46) : Lib.cut (m ++ 46 :: r) [46] = (m, r, true) := by
  have hi : Lib.index (m ++ 46 :: r) [46] = (m.length : Int) := by
    rw [Lib.index_one]
    rcases Int.lt_or_le (Lib.indexByte (m ++ 46 :: r) 46) 0 with hn | hn
    · have := Lib.indexByte_ge (m ++ 46 :: r) 46
      exact absurd (by simp) (Lib.indexByte_none (l := m ++ 46 :: r) (c := 46) (by omega) m.length)
    · obtain ⟨o, ho⟩ := Int.eq_ofNat_of_zero_le hn
      obtain ⟨h1, h2⟩ := Lib.indexByte_some ho
      rw [ho]
      by_cases hlt : o < m.length
      · rw [List.getElem?_append_left hlt] at h1
        obtain ⟨hl, hg⟩ := List.getElem?_eq_some_iff.1 h1
        exact absurd hg (h _ (List.getElem_mem hl))
      · by_cases hgt : m.length < o
        · exact absurd (by simp) (h2 m.length hgt)
        · have : o = m.length := by omega
          rw [this]
  unfold Lib.cut
  rw [hi, if_pos (by omega)]
  simp
theorem cut_none (l : List UInt8) (h : ∀ c ∈ l, c ≠ 46) : Lib.cut l [46] = (l, [], false) := by
  have hi : Lib.index l [46] < 0 := by
    rw [Lib.index_one]
    rcases Int.lt_or_le (Lib.indexByte l 46) 0 with hn | hn
    · exact hn
    · exfalso
      obtain ⟨o, ho⟩ := Int.eq_ofNat_of_zero_le hn
      obtain ⟨h1, _⟩ := Lib.indexByte_some ho
      obtain ⟨hl, hg⟩ := List.getElem?_eq_some_iff.1 h1
      exact h _ (List.getElem_mem hl) hg
  unfold Lib.cut
  rw [if_neg (by omega)]
theorem named_nil : named [] = false := by decide
/-- A string with a dot behind a capitalized word is no simple name. -/
theorem con_head {m r : List UInt8} (h : con m = true) : wordB (m ++ 46 :: r) = false ∧ symbolB (m ++ 46 :: r) = false := by
  have hw := con_word h
  constructor
  · cases hx : wordB (m ++ 46 :: r)
    · rfl
    · have := word_wd hx 46 (by simp)
      exact absurd rfl (wd_not 46 this).1
  · cases hx : symbolB (m ++ 46 :: r)
    · rfl
    · have h1 := wordB_pos hw
      cases m with
      | nil => simp at h1
      | cons c m' =>
        have a := symbol_sy hx c (by simp)
        have b := (wd_not c (word_wd hw c (by simp))).2.2
        rw [a] at b; cases b
theorem data_get {s : ByteArray} {i : Nat} (h : i < s.size) : s.data.toList[i]? = some s.data[i]! := by
  rw [get_eq h, getElem!_pos s.data i h]; rfl
theorem byte36 (c : UInt8) : ((c.toNat : Nat) : Int) = 36 ↔ c = 36 := by
  constructor
  · intro h; apply UInt8.toNat_inj.1; simp; omega
  · rintro rfl; rfl
/-- The last $ of a list. -/
theorem lix_app (b d : List UInt8) (hd : ∀ c ∈ d, c ≠ 36) {s : ByteArray} (hs : s.data.toList = b ++ 36 :: d) : lix s = (b.length : Int) := by
  have hz : s.size = b.length + 1 + d.length := by rw [Lib.size_eq, hs]; simp; omega
  have hat : s.data.toList[b.length]? = some 36 := by rw [hs]; simp
  have hgt : ∀ j, b.length < j → s.data.toList[j]? ≠ some 36 := by
    intro j hj hc
    rw [hs, List.getElem?_append_right (by omega)] at hc
    obtain ⟨k, hk⟩ : ∃ k, j - b.length = k + 1 := ⟨j - b.length - 1, by omega⟩
    rw [hk, List.getElem?_cons_succ] at hc
    obtain ⟨hl, hg⟩ := List.getElem?_eq_some_iff.1 hc
    exact hd _ (List.getElem_mem hl) hg
  rcases Lib.lastIdx_spec s 36 s.size with ⟨_, h2⟩ | ⟨i, hi, h1, h2, h3⟩
  · exfalso
    have hb : b.length < s.size := by omega
    rw [data_get hb] at hat
    exact h2 _ hb ((byte36 _).2 (Option.some.inj hat))
  · have hi36 : s.data.toList[i]? = some 36 := by rw [data_get hi, (byte36 _).1 h2]
    have : i = b.length := by
      by_cases hlt : i < b.length
      · exfalso
        have hb : b.length < s.size := by omega
        rw [data_get hb] at hat
        exact h3 _ hlt hb ((byte36 _).2 (Option.some.inj hat))
      · by_cases hg : b.length < i
        · exact absurd hi36 (hgt i hg)
        · omega
    rw [← this]; exact h1
/-- Where a $ stands last, the list is taken apart there. -/
theorem lix_parts {s : ByteArray} {i : Nat} (h : lix s = (i : Int)) : i < s.size ∧ s.data.toList = s.data.toList.take i ++ 36 :: s.data.toList.drop (i + 1) := by
  rcases Lib.lastIdx_spec s 36 s.size with ⟨h1, _⟩ | ⟨j, hj, h1, h2, _⟩
  · have : lix s = -1 := h1
    omega
  · have : lix s = (j : Int) := h1
    obtain rfl : i = j := by omega
    refine ⟨hj, ?_⟩
    have h36 := data_get hj
    rw [(byte36 _).1 h2] at h36
    obtain ⟨hl, hg⟩ := List.getElem?_eq_some_iff.1 h36
    conv => lhs; rw [← List.take_append_drop i s.data.toList, List.drop_eq_getElem_cons hl, hg]
theorem canon_digits {l : List UInt8} (h : canon l = true) : 1 ≤ l.length ∧ ∀ c ∈ l, dgB c = true := by
  unfold canon at h
  simp only [Bool.and_eq_true, decide_eq_true_eq] at h
  exact ⟨h.1.1, List.all_eq_true.1 h.1.2⟩
theorem numOf_some {l : List UInt8} {n : Int} (h : numOf l = some n) : canon l = true ∧ 0 ≤ n ∧ n ≤ 9223372036854775807 ∧ Lib.itoa n = l := by
  rw [numOf_eq] at h
  split at h
  · rename_i hc
    obtain ⟨h1, h2⟩ := hc
    cases h
    refine ⟨h1, by omega, by omega, ?_⟩
    rw [Lib.itoa, if_neg (by omega), Int.toNat_natCast]
    exact canon_dec _ _ rfl h1
  · cases h
theorem numOf_itoa (n : Int) (h0 : 0 ≤ n) (h1 : n ≤ 9223372036854775807) : numOf (Lib.itoa n) = some n ∧ canon (Lib.itoa n) = true := by
  obtain ⟨m, rfl⟩ := Int.eq_ofNat_of_zero_le h0
  rw [Lib.itoa, if_neg (by omega), Int.toNat_natCast]
  obtain ⟨a1, a2, _⟩ := dec_canon m m (Nat.le_refl _)
  rw [numOf_eq, if_pos ⟨a1, by rw [a2]; omega⟩, a2]
  exact ⟨rfl, a1⟩
/-- What basO finds. -/
theorem basO_some {s b : ByteArray} {n : Int} (h : basO s = some (b, n)) : ∃ d, s.data.toList = b.data.toList ++ 36 :: d ∧ stem b.data.toList = true ∧ canon d = true ∧ Lib.itoa n = d ∧ 0 ≤ n ∧ n ≤ 9223372036854775807 := by
  unfold basO at h
  split at h
  · cases h
  · rename_i hn
    obtain ⟨i, hi⟩ := Int.eq_ofNat_of_zero_le (show 0 ≤ lix s by omega)
    rw [hi, Int.toNat_natCast] at h
    split at h
    · rename_i hst
      cases hm : numOf (s.extract (i + 1) s.size).data.toList with
      | none => rw [hm] at h; cases h
      | some k =>
        rw [hm] at h
        cases h
        obtain ⟨c1, c2, c3, c4⟩ := numOf_some hm
        obtain ⟨_, hp⟩ := lix_parts hi
        refine ⟨_, ?_, hst, c1, c4, c2, c3⟩
        rw [extract_mk, extract_mk']
        exact hp
    · cases h
theorem basO_made {s b : ByteArray} {n : Int} (h0 : 0 ≤ n) (h1 : n ≤ 9223372036854775807) (hst : stem b.data.toList = true) (hs : s.data.toList = b.data.toList ++ 36 :: Lib.itoa n) : basO s = some (b, n) := by
  obtain ⟨hn, hc⟩ := numOf_itoa n h0 h1
  have hl := lix_app b.data.toList (Lib.itoa n) (fun c hcm => (dg_not c ((canon_digits hc).2 c hcm)).2.1) hs
  have e1 : s.extract 0 b.data.toList.length = b := by
    rw [extract_mk, hs, List.take_left]
  have e2 : (s.extract (b.data.toList.length + 1) s.size).data.toList = Lib.itoa n := by
    rw [extract_mk', hs]
    have e3 : b.data.toList ++ 36 :: Lib.itoa n = (b.data.toList ++ [36]) ++ Lib.itoa n := by rw [List.append_assoc]; rfl
    show List.drop (b.data.toList.length + 1) (b.data.toList ++ 36 :: Lib.itoa n) = Lib.itoa n
    rw [e3, List.drop_left' (by rw [List.length_append]; rfl)]
  unfold basO
  rw [hl, if_neg (by omega), Int.toNat_natCast, e1, e2, if_pos hst, hn]
  rfl
/-- A $ and digits behind it: no word, no operator. -/
theorem made_class {l d : List UInt8} (hc : canon d = true) : wordB (l ++ 36 :: d) = false ∧ symbolB (l ++ 36 :: d) = false := by
  obtain ⟨h1, h2⟩ := canon_digits hc
  constructor
  · cases hx : wordB (l ++ 36 :: d)
    · rfl
    · exact absurd rfl (wd_not 36 (word_wd hx 36 (by simp))).2.1
  · cases hx : symbolB (l ++ 36 :: d)
    · rfl
    · cases d with
      | nil => simp at h1
      | cons c r =>
        have a := symbol_sy hx c (by simp)
        rw [(dg_not c (h2 c (by simp))).2.2] at a; cases a
theorem cls_made {s b : ByteArray} {n : Int} (h : basO s = some (b, n)) : cls s = 7 := by
  obtain ⟨d, hs, _, hc, _⟩ := basO_some h
  have hm := made_class (l := b.data.toList) hc
  unfold cls
  rw [hs, hm.1, hm.2, h]
  rfl
theorem cls_seven {s : ByteArray} (h : cls s = 7) : (basO s).isSome = true := by
  unfold cls at h
  split at h
  · unfold clsW at h; split at h <;> (try split at h) <;> omega
  · split at h
    · unfold clsS at h; split at h <;> (try split at h) <;> omega
    · split at h
      · assumption
      · omega
/-- A qualified name is no generated one. -/
theorem qual_not_made {m r : List UInt8} (hm : con m = true) (hr : named r = true) {s : ByteArray} (hs : s.data.toList = m ++ 46 :: r) : basO s = none := by
  cases h : basO s with
  | none => rfl
  | some p =>
    exfalso
    obtain ⟨b, n⟩ := p
    obtain ⟨d, he, _, hc, _⟩ := basO_some h
    rw [hs] at he
    obtain ⟨h1, h2⟩ := canon_digits hc
    have hmw := word_wd (con_word hm)
    -- the last byte of the name is a digit, and a $ stands in it
    have hlast : ∀ c, r.getLast? = some c → dgB c = true := by
      intro c hcl
      have e1 : (m ++ 46 :: r).getLast? = some c := by
        cases r with
        | nil => simp at hcl
        | cons a r' => rw [List.getLast?_append]; simp [List.getLast?_cons_cons, hcl]
      rw [he] at e1
      have e2 : (b.data.toList ++ 36 :: d).getLast? = d.getLast? := by
        cases d with
        | nil => simp at h1
        | cons a r' =>
          have hz : (a :: r').getLast? = some ((a :: r').getLast (by simp)) := List.getLast?_eq_some_getLast (by simp)
          rw [List.getLast?_append, List.getLast?_cons_cons, hz]; rfl
      rw [e2] at e1
      exact h2 c (List.mem_of_getLast? e1)
    have hmem : (36 : UInt8) ∈ m ++ 46 :: r := by rw [he]; simp
    have hr36 : (36 : UInt8) ∈ r := by
      simp only [List.mem_append, List.mem_cons] at hmem
      rcases hmem with hx | hx | hx
      · exact absurd rfl (wd_not 36 (hmw 36 hx)).2.1
      · cases hx
      · exact hx
    unfold named at hr
    simp only [Bool.or_eq_true, Bool.and_eq_true] at hr
    rcases hr with hr | hr
    · exact absurd rfl (wd_not 36 (word_wd hr.1 36 hr36)).2.1
    · have hp := symbolB_pos hr.1
      have hne : r ≠ [] := by intro e; rw [e] at hp; simp at hp
      have hl := hlast _ (List.getLast?_eq_some_getLast hne)
      have := (dg_not _ hl).2.2
      rw [symbol_sy hr.1 _ (List.getLast_mem hne)] at this
      cases this
theorem qual_cls {m r : List UInt8} (hm : con m = true) (hr : named r = true) {s : ByteArray} (hs : s.data.toList = m ++ 46 :: r) : cls s = 0 := by
  have hc := con_head (r := r) hm
  unfold cls
  rw [hs, hc.1, hc.2, qual_not_made hm hr hs]
  rfl
theorem con_nodot {m : List UInt8} (h : con m = true) : ∀ c ∈ m, c ≠ 46 := fun c hc => (wd_not c (word_wd (con_word h) c hc)).1
theorem qual_split {m r : List UInt8} (hm : con m = true) (hr : named r = true) {s : ByteArray} (hs : s.data.toList = m ++ 46 :: r) : spl s.data.toList = true ∧ spM s = ⟨m.toArray⟩ ∧ spN s = ⟨r.toArray⟩ := by
  have hc := cut_app m r (con_nodot hm)
  have h1 : spl s.data.toList = true := by unfold spl; rw [hs, hc]; simp [hm, hr]
  refine ⟨h1, ?_, ?_⟩
  · unfold spM; rw [h1, hs, hc]; rfl
  · unfold spN; rw [h1, hs, hc]; rfl
/-- A generated name is no qualified one. -/
theorem made_not_qual {b d : List UInt8} (hst : stem b = true) (hc : canon d = true) : spl (b ++ 36 :: d) = false := by
  obtain ⟨h1, h2⟩ := canon_digits hc
  have hbad : ∀ x : List UInt8, named (x ++ 36 :: d) = false := by
    intro x
    have := made_class (l := x) hc
    simp [named, this.1, this.2]
  have hnod : ∀ c ∈ (36 : UInt8) :: d, c ≠ 46 := by
    intro c hcm
    simp only [List.mem_cons] at hcm
    rcases hcm with rfl | hcm
    · decide
    · exact (dg_not c (h2 c hcm)).1
  unfold stem at hst
  simp only [Bool.or_eq_true] at hst
  rcases hst with hst | hst
  · -- a simple name: before a dot stands no capitalized word, or no dot stands at all
    unfold named at hst
    simp only [Bool.or_eq_true, Bool.and_eq_true] at hst
    rcases hst with hst | hst
    · have hb : ∀ c ∈ b ++ 36 :: d, c ≠ 46 := by
        intro c hcm
        simp only [List.mem_append] at hcm
        rcases hcm with hcm | hcm
        · exact (wd_not c (word_wd hst.1 c hcm)).1
        · exact hnod c hcm
      unfold spl
      rw [cut_none _ hb]
      simp [named_nil]
    · -- the first part, if it is not empty, begins with a symbol
      unfold spl
      have hfirst : con (Lib.cut (b ++ 36 :: d) [46]).1 = false := by
        cases hcon : con (Lib.cut (b ++ 36 :: d) [46]).1
        · rfl
        · exfalso
          have hw := con_word hcon
          have hp := wordB_pos hw
          have hpre : (Lib.cut (b ++ 36 :: d) [46]).1 <+: b ++ 36 :: d := by
            unfold Lib.cut
            split
            · exact List.take_prefix _ _
            · exact List.prefix_refl _
          cases hl : (Lib.cut (b ++ 36 :: d) [46]).1 with
          | nil => rw [hl] at hp; simp at hp
          | cons c r =>
            rw [hl] at hpre hw
            have hbp := symbolB_pos hst.1
            cases b with
            | nil => simp at hbp
            | cons a b' =>
              obtain ⟨t, ht⟩ := hpre
              simp only [List.cons_append, List.cons.injEq] at ht
              have s1 := symbol_sy hst.1 a (by simp)
              have s2 := (wd_not c (word_wd hw c (by simp))).2.2
              rw [ht.1, s1] at s2
              cases s2
      rw [hfirst]; rfl
  · obtain ⟨e, hc1, _⟩ := spl_parts hst
    have e2 : b ++ 36 :: d = (Lib.cut b [46]).1 ++ 46 :: ((Lib.cut b [46]).2.1 ++ 36 :: d) := by
      conv => lhs; rw [e]
      simp
    unfold spl
    rw [e2, cut_app _ _ (con_nodot hc1)]
    simp [hbad]
end Go.Proofs.YtniejaachfhkdaaDoor
