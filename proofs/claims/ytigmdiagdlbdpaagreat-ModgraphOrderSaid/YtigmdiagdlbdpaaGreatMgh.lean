/-
  WALKS. The smallest of the shortest cycles.
-/
import Derived.Test.YtigmdiagdlbdpaaGreatMgg
import Derived.Test.YtigmdiagdlbdpaaGreatMge
import Derived.Test.YtigmdiagdlbdpaaGreatGbY
import Derived.Test.YtigmdiagdlbdpaaGreatGbIe
namespace Go.Proofs.YtigmdiagdlbdpaaGreat
open Go.RowKit Go.Maps
theorem valid_rows {G : List (List Nat)} (hG : ValidG G) : ∀ l ∈ G, ∀ x ∈ l, x < G.length := fun l hl x hx => by
  obtain ⟨i, hi, e⟩ := List.getElem_of_mem hl
  refine row_valid hG (u := i) ?_
  show x ∈ G.getD i []
  rw [List.getD_eq_getElem?_getD, List.getElem?_eq_getElem hi]
  show x ∈ G[i]
  rw [e]
  exact hx
theorem cyclicE_intE {G : List (List Nat)} (hG : ValidG G) {k : Nat} (hk : k < G.length) : cyclicE (intE G) (k : Int) = cyB G k := by
  unfold cyclicE cyB
  rw [validE_intE (valid_rows hG), natE_intE, Int.toNat_natCast]
  have : okN (intE G).length (k : Int) = true := by
    unfold okN
    rw [intE_len]
    simp
    omega
  rw [this]
  rfl
theorem intE_rows {G : List (List Nat)} (hr : ∀ k, (lAt G k).length ≤ 1000000) : ∀ l ∈ intE G, l.length ≤ 1000000 := fun l hl => by
  obtain ⟨r, hr', rfl⟩ := List.mem_map.1 hl
  rw [List.length_map]
  obtain ⟨i, hi, e⟩ := List.getElem_of_mem hr'
  have := hr i
  rw [show lAt G i = G.getD i [] from rfl, List.getD_eq_getElem?_getD, List.getElem?_eq_getElem hi] at this
  change G[i].length ≤ _ at this
  rwa [e] at this
theorem cycS_len {G : List (List Nat)} (hG : ValidG G) {P : Nat → Bool} (hP : ∀ k, k < G.length → (P k = true ↔ Onc G k)) : ∀ k, k ≤ G.length → (cycS G P k).length ≤ G.length
  | 0, _ => Nat.zero_le _
  | k + 1, hk => by
    unfold cycS
    have h1 := cycS_len hG hP k (by omega)
    cases hp : P k with
    | false => simpa using h1
    | true =>
      simp only [if_true]
      split
      · have hD := disG_f hG (t := k) (by omega)
        exact (cycF_spec hG hD (by omega) ((hP k (by omega)).1 hp) (G.length + 1) [k] (CyI.one (by omega)) (by simp)).1.short
      · exact h1
theorem slice_nil (w : World) : Sem.run Tryz.prog (binOp BinOp.eql 55 (.slice none 0 0) (.slice none 0 0)) w = .ok (.bool true) w := by kernel_rfl
theorem slice_some (g n c : Nat) (w : World) : Sem.run Tryz.prog (binOp BinOp.eql 55 (.slice (some ⟨g, 0, none⟩) n c) (.slice none 0 0)) w = .ok (.bool false) w := by kernel_rfl
set_option maxRecDepth 100000 in
set_option maxHeartbeats 4000000 in
theorem smallestCycle_p (w : World) (oE : Option Addr) (n cE : Nat) (G : List (List Nat)) (h : Edg w oE n G) (hG : ValidG G) (hn : n ≤ 1000000) (hr : ∀ k, (lAt G k).length ≤ 1000000) : Calls Tryz.prog 39 #[.agg #[.slice oE n cE]] w fun e w' => ∃ oa ca, e = .returned (.slice oa (cyP G).length ca) ∧ IR w' w.heap.size (.slice oa (cyP G).length ca) (cyP G) ∧ Only (fun _ => False) w w' := by
  have hlen := h.len
  have hA : Only (fun _ => False) w (w.alloc (.cells #[.slice oE n cE] 49)) := (Only.refl _ _).alloc _
  have s1 : (w.alloc (.cells #[.slice oE n cE] 49)).heap.size = w.heap.size + 1 := by show (Array.push _ _).size = _; rw [Array.size_push]
  have hk0 := new_block w (.cells #[.slice oE n cE] 49)
  have HB : Hid (∀ wx, Only (fun _ => False) (w.alloc (.cells #[.slice oE n cE] 49)) wx → wx.cell? ⟨w.heap.size, 0, none⟩ = some (.slice oE n cE)) := Lib.hid (fun wx ho => (blk_c ((ho.block w.heap.size (by rw [s1]; omega) (fun hc => hc)).trans hk0) rfl).1)
  have HCY : Hid (∀ wx k, k < n → Only (fun _ => False) (w.alloc (.cells #[.slice oE n cE] 49)) wx → Calls Tryz.prog 55 #[.agg #[.slice oE n cE], iV k] wx fun e w' => e = .returned (.bool (cyB G k)) ∧ Only (fun _ => False) wx w') := Lib.hid (fun wx k hk ho => by
    have := Cyclic_p wx oE n cE (intE G) (k : Int) ((h.old (hA.trans ho) (fun _ _ hc => hc)).edz) hn (intE_rows hr)
    rw [cyclicE_intE hG (by omega)] at this
    exact this)
  have HCF : Hid (∀ wx k, k < n → cyB G k = true → Only (fun _ => False) (w.alloc (.cells #[.slice oE n cE] 49)) wx → Calls Tryz.prog 56 #[.agg #[.slice oE n cE], iV k] wx fun e w' => ∃ oa ca, e = .returned (.slice oa (cycG G k).length ca) ∧ IR w' wx.heap.size (.slice oa (cycG G k).length ca) (cycG G k) ∧ Only (fun _ => False) wx w') := Lib.hid (fun wx k hk hc ho => cycleFrom_p wx oE n cE G k (h.old (hA.trans ho) (fun _ _ hc => hc)) hG hk ((cyB_iff hG (by omega)).1 hc) hn hr)
  have HCL : Hid (∀ k, k ≤ n → (cycS G (cyB G) k).length ≤ n) := Lib.hid (fun k hk => by have := cycS_len hG (P := cyB G) (fun k hk => cyB_iff hG hk) k (by omega); omega)
  have HCN : Hid (∀ k, k < n → cyB G k = true → (cycG G k).length ≤ n ∧ cycG G k ≠ []) := Lib.hid (fun k hk hc => by
    have hD := disG_f hG (t := k) (by omega)
    have h1 := (cycF_spec hG hD (by omega) ((cyB_iff hG (by omega)).1 hc) (G.length + 1) [k] (CyI.one (by omega)) (by simp)).1
    exact ⟨by have := h1.short; show (cycF _ _ _ _ _).length ≤ _; omega, fun e => by have := h1.ne; rw [show cycF G (disG G k) k (G.length + 1) [k] = cycG G k from rfl, e] at this; exact absurd this (Nat.lt_irrefl _)⟩)
  have HPN : Hid (cyP G = cycS G (cyB G) n) := Lib.hid (by unfold cyP; rw [hlen])
  have HA := Lib.hid hA
  have q0 := HB.out _ (Only.refl _ _)
  have hsn := slice_nil
  have hI0 : IR (w.alloc (.cells #[.slice oE n cE] 49)) w.heap.size (.slice none 0 0) (cycS G (cyB G) 0) := World.ownsRow_nil _ _ _ _
  clear h hG hr hA hk0 s1
  go_enter Tryz.func39, Tryz.ntmps39
  go_wp2
  go_loopw [3, 9] (fun v q wr => ∃ k : Nat, k ≤ n ∧ q = .int .i64 k ∧ IR wr w.heap.size v (cycS G (cyB G) k) ∧ (cycS G (cyB G) k = [] → v = .slice none 0 0) ∧ Only (fun _ => False) (w.alloc (.cells #[.slice oE n cE] 49)) wr) (fun _ q _ => n - (intOf q).toNat)
  case atStart => exact ⟨0, by omega, rfl, hI0, fun _ => rfl, Only.refl _ _⟩
  case round =>
    clear hI0 q0
    obtain ⟨k, hk, rfl, hI, hni, hO⟩ := hrel
    have HNI := Lib.hid hni
    have q0 := HB.out wr hO
    clear hni
    obtain ⟨ov, cv, hv⟩ := rowForm hI
    subst hv
    by_cases hkn : k < n
    · have hst : cycS G (cyB G) (k + 1) = if cyB G k then (if cycS G (cyB G) k = [] ∨ (cycG G k).length < (cycS G (cyB G) k).length then cycG G k else cycS G (cyB G) k) else cycS G (cyB G) k := rfl
      have HC1 := Lib.hid (HCY.out wr k hkn hO)
      have hcl := HCL.out k hk
      cases hp : cyB G k
      · rw [hp] at HC1 hst
        simp only [Bool.false_eq_true, if_false] at hst
        have HST := Lib.hid hst
        have HI := Lib.hid hI
        clear hst hp hI
        go_wp2_with (go_at_call 55; (refine HC1.out.mono ?_); rintro e w5 ⟨rfl, hO5⟩)
        go_roundw
        case rel => exact ⟨k + 1, by omega, by go_num, by rw [HST.out]; exact HI.out.only hO5 (fun _ _ hc => hc), by rw [HST.out]; exact HNI.out, hO.trans hO5⟩
        case measure => simp [intOf]; omega
      · rw [hp] at HC1 hst
        simp only [if_true] at hst
        have HC2 := Lib.hid (fun wx ho => HCF.out wx k hkn hp ho)
        obtain ⟨hn1, hn2⟩ := HCN.out k hkn hp
        obtain ⟨d, hd⟩ : ∃ d, cycG G k = d := ⟨_, rfl⟩
        obtain ⟨c, hc⟩ : ∃ c, cycS G (cyB G) k = c := ⟨_, rfl⟩
        rw [hd] at hst HC2 hn1 hn2
        rw [hc] at hst hI hcl
        have HI := Lib.hid hI
        have HST := Lib.hid hst
        have hni := HNI.out
        rw [hc] at hni ⊢
        have HCC := Lib.hid hc
        clear hst hp hI hd hc HNI
        have HOO := Lib.hid hO
        by_cases hce : c = []
        · have hv := hni hce
          subst hce
          cases hv
          have HS1 : Hid (cycS G (cyB G) (k + 1) = d) := Lib.hid (by rw [HST.out, if_pos (.inl rfl)])
          go_wp2_with (first | (go_at_call 55; (refine HC1.out.mono ?_); rintro e w5 ⟨rfl, hO5⟩; have q5 := HB.out w5 (HOO.out.trans hO5)) | (go_at_call 56; (refine (HC2.out w5 (HOO.out.trans hO5)).mono ?_); rintro e w6 ⟨od, cd, rfl, hD6, hO6⟩))
          have HD6 : Hid (IR w6 w.heap.size (.slice od d.length cd) d) := Lib.hid (rowMono hD6 (by have h1 := HA.out.size; have h2 := HOO.out.size; have h3 := hO5.size; omega))
          have HO6 := Lib.hid (HOO.out.trans (hO5.trans hO6))
          clear hD6
          go_wp2
          go_roundw
          case rel => exact ⟨k + 1, by omega, by go_num, by rw [HS1.out]; exact HD6.out, by rw [HS1.out]; exact fun e => absurd e hn2, HO6.out⟩
          case measure => simp [intOf]; omega
        · have hcl0 : 0 < c.length := List.length_pos_iff.2 hce
          obtain ⟨g, hg1, -, -, -, -, -⟩ := HI.out.at (k := 0) hcl0
          subst hg1
          have hss := fun wx => slice_some g c.length cv wx
          by_cases hlt : d.length < c.length
          · have HS1 : Hid (cycS G (cyB G) (k + 1) = d) := Lib.hid (by rw [HST.out, if_pos (.inr hlt)])
            have hl1 : (d.length : Int) < (c.length : Int) := by omega
            have hl2 : decide ((d.length : Int) < (c.length : Int)) = true := decide_eq_true hl1
            go_wp2_with (first | (go_at_call 55; (refine HC1.out.mono ?_); rintro e w5 ⟨rfl, hO5⟩; have q5 := HB.out w5 (HOO.out.trans hO5)) | (go_at_call 56; (refine (HC2.out w5 (HOO.out.trans hO5)).mono ?_); rintro e w6 ⟨od, cd, rfl, hD6, hO6⟩))
            have HD6 : Hid (IR w6 w.heap.size (.slice od d.length cd) d) := Lib.hid (rowMono hD6 (by have h1 := HA.out.size; have h2 := HOO.out.size; have h3 := hO5.size; omega))
            have HO6 := Lib.hid (HOO.out.trans (hO5.trans hO6))
            clear hD6
            go_wp2
            go_roundw
            case rel => exact ⟨k + 1, by omega, by go_num, by rw [HS1.out]; exact HD6.out, by rw [HS1.out]; exact fun e => absurd e hn2, HO6.out⟩
            case measure => simp [intOf]; omega
          · have HS1 : Hid (cycS G (cyB G) (k + 1) = c) := Lib.hid (by rw [HST.out, if_neg (fun hc => hc.elim hce hlt)])
            have hl1 : ¬ (d.length : Int) < (c.length : Int) := by omega
            have hl2 : decide ((d.length : Int) < (c.length : Int)) = false := decide_eq_false hl1
            go_wp2_with (first | (go_at_call 55; (refine HC1.out.mono ?_); rintro e w5 ⟨rfl, hO5⟩; have q5 := HB.out w5 (HOO.out.trans hO5)) | (go_at_call 56; (refine (HC2.out w5 (HOO.out.trans hO5)).mono ?_); rintro e w6 ⟨od, cd, rfl, hD6, hO6⟩))
            have HI6 : Hid (IR w6 w.heap.size (.slice (some ⟨g, 0, none⟩) c.length cv) c) := Lib.hid ((HI.out.only hO5 (fun _ _ hc => hc)).only hO6 (fun _ _ hc => hc))
            have HO6 := Lib.hid (HOO.out.trans (hO5.trans hO6))
            clear hD6
            go_wp2
            go_roundw
            case rel => exact ⟨k + 1, by omega, by go_num, by rw [HS1.out]; exact HI6.out, by rw [HS1.out]; exact fun e => absurd e hce, HO6.out⟩
            case measure => simp [intOf]; omega
    · have hkn2 : n = k := by omega
      subst hkn2
      have HFI := Lib.hid (HA.out.trans hO)
      go_wp2
      go_ret
      rw [HPN.out]
      exact ⟨ov, cv, rfl, hI, HFI.out⟩
end Go.Proofs.YtigmdiagdlbdpaaGreat
