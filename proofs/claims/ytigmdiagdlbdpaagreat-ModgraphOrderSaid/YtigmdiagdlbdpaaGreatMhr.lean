/-
  WALKS. The reference: back.
  WALKS. The reference: paths.
  WALKS. The reference: Cycle.
-/
import Derived.Test.YtigmdiagdlbdpaaGreatMhq
import Derived.Test.YtigmdiagdlbdpaaGreatMgo
import Derived.Test.YtigmdiagdlbdpaaGreatMgr
import Derived.Deep.RegionHeld
namespace Go.Proofs.YtigmdiagdlbdpaaGreat
open Go.RowKit Go.Maps
/-- What a list without faults but cycles has. -/
structure Ok0 (l : List Md) : Prop where
  nd : (l.map Md.nm).Nodup
  im : ∀ m ∈ l, ∀ s ∈ m.im, s ∈ l.map Md.nm
theorem edge_im {l : List Md} (h : Ok0 l) {x y : Nat} (hx : x < l.length) (hy : y ∈ lAt (grP l) x) : nAt (nsP l) y ∈ impP l (nAt (nsP l) x) := by
  obtain ⟨m, hm, e⟩ := node_md hx
  rw [grP_at h.nd hm hx e] at hy
  exact impP_mem.2 ⟨m, hm, e, (rowP_mem.1 hy).2⟩
theorem im_edge {l : List Md} (h : Ok0 l) {x : Nat} (hx : x < l.length) {t : Nm} (ht : t ∈ impP l (nAt (nsP l) x)) : t ∈ nsP l ∧ nodeP (nsP l) t ∈ lAt (grP l) x := by
  obtain ⟨m, hm, e, hs⟩ := impP_mem.1 ht
  have hn : t ∈ nsP l := nsP_mem.2 (h.im m hm t hs)
  refine ⟨hn, ?_⟩
  rw [grP_at h.nd hm hx e, rowP_mem]
  exact ⟨nodeP_lt hn, by rw [nodeP_at hn]; exact hs⟩
theorem im_mem {l : List Md} (h : Ok0 l) {nm t : Nm} (ht : t ∈ impP l nm) : t ∈ nsP l := by
  obtain ⟨m, hm, -, hs⟩ := impP_mem.1 ht
  exact nsP_mem.2 (h.im m hm t hs)
theorem row_asc {l : List Md} (h : Ok0 l) {x : Nat} (hx : x < l.length) : (lAt (grP l) x).Pairwise (· < ·) := by
  obtain ⟨m, hm, e⟩ := node_md hx
  rw [grP_at h.nd hm hx e]
  exact List.Pairwise.filter _ List.pairwise_lt_range
theorem nAt_lt {ns : List Nm} (h : ns.Pairwise (· < ·)) {i j : Nat} (hij : i < j) (hj : j < ns.length) : nAt ns i < nAt ns j := by
  rw [nAt_get (by omega), nAt_get hj]
  exact List.pairwise_iff_getElem.1 h i j (by omega) hj hij
/-- A module's imports are its row. -/
theorem im_row {l : List Md} (h : Ok0 l) {x : Nat} (hx : x < l.length) : impP l (nAt (nsP l) x) = (lAt (grP l) x).map (nAt (nsP l)) := by
  refine sorted_ext (impP_sorted _ _) ?_ (fun t => ?_)
  · rw [List.pairwise_map]
    refine (row_asc h hx).imp_of_mem (fun {a b} _ hb hab => nAt_lt (nsP_sorted h.nd) hab ?_)
    have := row_valid (grP_valid l) hb
    rw [grP_len] at this
    rw [nsP_len]
    exact this
  · constructor
    · intro ht
      obtain ⟨h1, h2⟩ := im_edge h hx ht
      exact List.mem_map.2 ⟨_, h2, nodeP_at h1⟩
    · intro ht
      obtain ⟨y, hy, e⟩ := List.mem_map.1 ht
      rw [← e]
      exact edge_im h hx hy
theorem sorted_len {a b : List Nm} (ha : a.Pairwise (· < ·)) (hb : b.Pairwise (· < ·)) (h : ∀ t ∈ a, t ∈ b) : a.length ≤ b.length := by
  have e : a = b.filter (fun t => a.contains t) := sorted_ext ha (hb.filter _) (fun t => by
    rw [List.mem_filter, List.contains_iff_mem]
    exact ⟨fun h1 => ⟨h t h1, h1⟩, fun h1 => h1.2⟩)
  rw [e]
  exact List.length_filter_le _ _
theorem pth_lt {G : List (List Nat)} (hG : ValidG G) {x y k : Nat} (h : Pth G x k y) (hx : x < G.length) : y < G.length := by
  induction h with
  | nil => exact hx
  | cons e _ ih => exact ih (row_valid hG e)
/-- What is reached with at most i edges. -/
structure Lv (l : List Md) (x i : Nat) (L : List Nm) : Prop where
  asc : L.Pairwise (· < ·)
  mem : ∀ t, t ∈ L ↔ ∃ u k, k ≤ i ∧ Pth (grP l) x k u ∧ t = nAt (nsP l) u
theorem Lv.zero (l : List Md) (x : Nat) : Lv l x 0 [nAt (nsP l) x] := ⟨List.pairwise_singleton _ _, fun t => by
  rw [List.mem_singleton]
  constructor
  · intro e; exact ⟨x, 0, Nat.le_refl _, .nil _, e⟩
  · rintro ⟨u, k, hk, hp, e⟩
    have : k = 0 := by omega
    subst this
    cases hp
    exact e⟩
theorem pth_last {G : List (List Nat)} {x y k : Nat} (h : Pth G x (k + 1) y) : ∃ z, Pth G x k z ∧ y ∈ lAt G z := by
  obtain ⟨z, h1, h2⟩ := h.split (a := k) (b := 1)
  cases h2 with
  | cons e h3 =>
    cases h3
    exact ⟨z, h1, e⟩
theorem Lv.at {l : List Md} {x i : Nat} {L : List Nm} (h : Lv l x i L) (hx : x < l.length) {j : Nat} (hj : j < L.length) : ∃ u k, k ≤ i ∧ Pth (grP l) x k u ∧ u < l.length ∧ nAt L j = nAt (nsP l) u := by
  obtain ⟨u, k, h1, h2, h3⟩ := (h.mem (nAt L j)).1 (by rw [nAt_get hj]; exact List.getElem_mem hj)
  have := pth_lt (grP_valid l) h2 (by rw [grP_len]; exact hx)
  rw [grP_len] at this
  exact ⟨u, k, h1, h2, this, h3⟩
theorem Lv.of {l : List Md} {x i : Nat} {L : List Nm} (h : Lv l x i L) {u k : Nat} (hk : k ≤ i) (hp : Pth (grP l) x k u) : ∃ j, j < L.length ∧ nAt L j = nAt (nsP l) u := by
  have := (h.mem (nAt (nsP l) u)).2 ⟨u, k, hk, hp, rfl⟩
  obtain ⟨j, hj, e⟩ := List.getElem_of_mem this
  exact ⟨j, hj, by rw [nAt_get hj]; exact e⟩
theorem Lv.succ {l : List Md} (h0 : Ok0 l) {x i : Nat} {L o : List Nm} (h : Lv l x i L) (hx : x < l.length) (ho : o.Pairwise (· < ·)) (hm : ∀ t, t ∈ o ↔ ∃ j, j < L.length ∧ (t = nAt L j ∨ t ∈ impP l (nAt L j))) : Lv l x (i + 1) o := ⟨ho, fun t => by
  rw [hm]
  constructor
  · rintro ⟨j, hj, ht⟩
    obtain ⟨u, k, h1, h2, h3, h4⟩ := h.at hx hj
    rcases ht with ht | ht
    · exact ⟨u, k, by omega, h2, by rw [ht, h4]⟩
    · rw [h4, im_row h0 h3] at ht
      obtain ⟨v, hv, e⟩ := List.mem_map.1 ht
      exact ⟨v, k + 1, by omega, h2.snoc hv, e.symm⟩
  · rintro ⟨u, k, hk, hp, e⟩
    by_cases hki : k ≤ i
    · obtain ⟨j, hj, e2⟩ := h.of hki hp
      exact ⟨j, hj, .inl (by rw [e, e2])⟩
    · have hk2 : k = i + 1 := by omega
      subst hk2
      obtain ⟨z, h1, h2⟩ := pth_last hp
      obtain ⟨j, hj, e2⟩ := h.of (Nat.le_refl _) h1
      have hz := pth_lt (grP_valid l) h1 (by rw [grP_len]; exact hx)
      rw [grP_len] at hz
      exact ⟨j, hj, .inr (by rw [e2, e]; exact edge_im h0 hz h2)⟩⟩
theorem Lv.len {l : List Md} (h0 : Ok0 l) {x i : Nat} {L : List Nm} (h : Lv l x i L) (hx : x < l.length) : L.length ≤ l.length := by
  have := sorted_len h.asc (nsP_sorted h0.nd) (fun t ht => by
    obtain ⟨j, hj, e⟩ := List.getElem_of_mem ht
    obtain ⟨u, k, -, -, h3, h4⟩ := h.at hx hj
    rw [← e, ← nAt_get hj, h4, nAt_get (by rw [nsP_len]; exact h3)]
    exact List.getElem_mem _)
  rwa [nsP_len] at this
/-- What has been put into the next list. -/
structure Nx (l : List Md) (L : List Nm) (to : Nm) (k : Nat) (o : List Nm) : Prop where
  asc : o.Pairwise (· < ·)
  mem : ∀ t, t ∈ o ↔ ∃ j, j < k ∧ (t = nAt L j ∨ t ∈ impP l (nAt L j))
  no : ∀ j, j < k → to ∉ impP l (nAt L j)
theorem Nx.len {l : List Md} (h0 : Ok0 l) {x i : Nat} {L o : List Nm} {to : Nm} {k : Nat} (h : Nx l L to k o) (hL : Lv l x i L) (hx : x < l.length) (hk : k ≤ L.length) : o.length ≤ l.length := by
  have := sorted_len h.asc (nsP_sorted h0.nd) (fun t ht => by
    obtain ⟨j, hj, e⟩ := (h.mem t).1 ht
    rcases e with e | e
    · obtain ⟨u, k, -, -, h3, h4⟩ := hL.at hx (show j < L.length by omega)
      rw [e, h4, nAt_get (by rw [nsP_len]; exact h3)]
      exact List.getElem_mem _
    · exact im_mem h0 e)
  rwa [nsP_len] at this
theorem Nx.step {l : List Md} {L o : List Nm} {to : Nm} {k : Nat} (h : Nx l L to k o) (hn : to ∉ impP l (nAt L k)) : Nx l L to (k + 1) ((impP l (nAt L k)).foldl insP (insP o (nAt L k))) := ⟨foldIns_sorted _ _ (insP_sorted h.asc), fun t => by
  rw [foldIns_mem, insP_mem, h.mem]
  constructor
  · rintro ((e | ⟨j, hj, e⟩) | e)
    · exact ⟨k, by omega, .inl e⟩
    · exact ⟨j, by omega, e⟩
    · exact ⟨k, by omega, .inr e⟩
  · rintro ⟨j, hj, e⟩
    by_cases hjk : j = k
    · subst hjk
      rcases e with e | e
      · exact .inl (.inl e)
      · exact .inr e
    · exact .inl (.inr ⟨j, by omega, e⟩), fun j hj => by
  by_cases hjk : j = k
  · rw [hjk]; exact hn
  · exact h.no j (by omega)⟩
theorem foldK_len (im o : List Nm) (j : Nat) : ((im.take j).foldl insP o).length ≤ o.length + im.length := by
  have h1 := foldIns_len (im.take j) o
  have h2 : (im.take j).length ≤ im.length := by rw [List.length_take]; omega
  omega
theorem foldK_succ (im o : List Nm) {j : Nat} (hj : j < im.length) : (im.take (j + 1)).foldl insP o = insP ((im.take j).foldl insP o) (nAt im j) := by
  rw [take_nAt hj, List.foldl_append]
  rfl
set_option maxRecDepth 100000 in
set_option maxHeartbeats 8000000 in
theorem back_p (w : World) (oa : Option Addr) (n ca : Nat) (l : List Md) (h : Mdz w oa n l) (hn : n ≤ 32) (him : ∀ m ∈ l, m.im.length ≤ 100) (h0 : Ok0 l) (x s m : Nat) (hx : x < n) (hs : s < n) (hm : m ≤ 1000) : Calls Tryz.prog 57 #[.slice oa n ca, encStr (nAt (nsP l) x), encStr (nAt (nsP l) s), iV m] w fun e w' => ∃ b, e = .returned (.bool b) ∧ (b = true ↔ ∃ k, 0 < k ∧ k ≤ m + 1 ∧ Pth (grP l) x k s) ∧ Only (fun _ => False) w w' := by
  have hl := h.len
  have HL := Lib.hid h
  have H0 := Lib.hid h0
  have HXL : Hid (x < l.length) := Lib.hid (by omega)
  have HSL : Hid (s < l.length) := Lib.hid (by omega)
  have HIL : Hid (∀ nm, (impP l nm).length ≤ 3200) := Lib.hid (fun nm => by
    have := impP_len (nm := nm) him
    have h9 : l.length * 100 ≤ 32 * 100 := Nat.mul_le_mul_right _ (by omega)
    omega)
  have HIP : Hid (∀ wx nm, Only (fun _ => False) w wx → Calls Tryz.prog 22 #[.slice oa n ca, encStr nm] wx fun e w' => ∃ oo co, e = .returned (.slice oo (impP l nm).length co) ∧ Strz w' oo (impP l nm).length (impP l nm) ∧ Only (fun _ => False) wx w') := Lib.hid (fun wx nm ho => (rImports_p wx oa n ca l nm (h.old ho (fun _ _ hc => hc)) (by omega) him).mono (by
    rintro e w' ⟨oo, co, h1, h2, h3⟩
    exact ⟨oo, co, h1, h2.strz, h3⟩))
  have HIN : Hid (∀ wx oo co (o : List Nm) y, Strz wx oo o.length o → o.length ≤ 1000000 → Calls Tryz.prog 42 #[.slice oo o.length co, encStr y] wx fun e w' => ∃ op cp, e = .returned (.slice op (insP o y).length cp) ∧ Strz w' op (insP o y).length (insP o y) ∧ Only (fun _ => False) wx w') := Lib.hid (fun wx oo co o y hz ho => (rInsert_p wx oo o.length co o hz ho y).mono (by
    rintro e w' ⟨op, cp, h1, h2, h3⟩
    exact ⟨op, cp, h1, h2.strz, h3⟩))
  have HLV := Lib.hid (Lv.zero l x)
  obtain ⟨to, hto⟩ : ∃ t, nAt (nsP l) s = t := ⟨_, rfl⟩
  have HTO := Lib.hid hto
  obtain ⟨fr, hfr⟩ : ∃ t, nAt (nsP l) x = t := ⟨_, rfl⟩
  rw [hfr] at HLV
  rw [hto, hfr]
  have hs1 := strz_one w fr 9
  have HS1 := Lib.hid hs1
  have hm0 : (0 : Int) ≤ (m : Int) := Int.natCast_nonneg m
  clear h him h0 hx hs hto hfr hs1
  go_enter Tryz.func57, Tryz.ntmps57
  go_wp2
  go_loopw [9, 10, 11, 12, 13, 14] (fun rv iv _ _ _ _ wr => ∃ (i : Nat) (L : List Nm) (orr : Option Addr) (cr : Nat), rv = .slice orr L.length cr ∧ iv = .int .i64 i ∧ i ≤ m + 1 ∧ Strz wr orr L.length L ∧ Hid (Lv l x i L) ∧ Hid (∀ k u, k < i → Pth (grP l) x k u → s ∉ lAt (grP l) u) ∧ Only (fun _ => False) w wr) (fun _ iv _ _ _ _ _ => m + 1 - (intOf iv).toNat)
  case atStart => exact ⟨0, [fr], some ⟨w.heap.size, 0, none⟩, 1, rfl, rfl, by omega, HS1.out, HLV, Lib.hid (fun k u hk => absurd hk (Nat.not_lt_zero _)), (Only.refl _ _).alloc _⟩
  case round =>
    obtain ⟨i, L, orr, cr, rfl, rfl, hi, hS, HLv, HNE, hO⟩ := hrel
    have HS := Lib.hid hS
    have HO := Lib.hid hO
    have hLl : L.length ≤ 32 := by have := HLv.out.len H0.out HXL.out; omega
    have HLL := Lib.hid hLl
    obtain ⟨q, hq⟩ : ∃ q, L.length = q := ⟨_, rfl⟩
    have HQ := Lib.hid hq
    rw [hq] at hLl ⊢
    clear hS hO hq
    by_cases him : i ≤ m
    · have h01 : (i : Int) ≤ (m : Int) := by omega
      obtain ⟨W0, rfl⟩ : ∃ W0, W0 = wr := ⟨_, rfl⟩
      go_wp2
      go_loopw [11, 12, 13, 14] (fun nv kv _ _ wr => ∃ (k : Nat) (o : List Nm) (on : Option Addr) (cn : Nat), nv = .slice on o.length cn ∧ kv = .int .i64 k ∧ k ≤ q ∧ Strz wr on o.length o ∧ Hid (Nx l L to k o) ∧ Only (fun _ => False) W0 wr) (fun _ kv _ _ _ => q - (intOf kv).toNat)
      case atStart => exact ⟨0, [], none, 0, rfl, rfl, by omega, strz_nil _ 0 _, Lib.hid ⟨List.Pairwise.nil, fun t => ⟨(fun hc => by cases hc), fun ⟨j, hj, _⟩ => absurd hj (Nat.not_lt_zero _)⟩, fun j hj => absurd hj (Nat.not_lt_zero _)⟩, Only.refl _ _⟩
      case round =>
        obtain ⟨k, o, on, cn, rfl, rfl, hk, hS2, HNX, hO2⟩ := hrel
        have HS2 := Lib.hid hS2
        have HO2 := Lib.hid hO2
        by_cases hkq : k < q
        · have hol : o.length ≤ 32 := by have := HNX.out.len H0.out HLv.out HXL.out (by have := HQ.out; omega); omega
          obtain ⟨b1, o1, e1, c1⟩ := (HS.out.old hO2 (fun _ _ hc => hc)).cell k (by have := HQ.out; omega)
          subst e1
          obtain ⟨y, hy⟩ : ∃ y, nAt L k = y := ⟨_, rfl⟩
          rw [hy] at c1
          have HY := Lib.hid hy
          have HC : Hid (∀ wx, Only (fun _ => False) W0 wx → wx.cell? ⟨b1, o1 + k, none⟩ = some (encStr y)) := Lib.hid (fun wx ho => by
            obtain ⟨b2, o2, e2, c2⟩ := (HS.out.old ho (fun _ _ hc => hc)).cell k (by have := HQ.out; omega)
            cases e2
            rw [HY.out] at c2
            exact c2)
          have h02 : (0 : Int) ≤ (k : Int) := Int.natCast_nonneg k
          have h03 : (k : Int) < (q : Int) := by omega
          have h04 : (k : Int).toNat = k := Int.toNat_natCast k
          have HOL := Lib.hid hol
          have hil := HIL.out y
          have HI2 := Lib.hid hil
          obtain ⟨I, hI⟩ : ∃ I, impP l y = I := ⟨_, rfl⟩
          have HI := Lib.hid hI
          clear hy hS2 hO2 hol hil hI
          go_wp2_with (first | (go_at_call 42; (refine (HIN.out wr on cn o y HS2.out (by have := HOL.out; omega)).mono ?_); rintro e w5 ⟨op, cp, rfl, hS5, hO5⟩; have HS5 := Lib.hid hS5; have HO5 := Lib.hid (HO2.out.trans hO5); have c5 := HC.out _ (HO2.out.trans hO5); clear hS5 hO5) | (go_at_call 22; (refine (HIP.out w5 y (HO.out.trans HO5.out)).mono ?_); rintro e w6 ⟨oi, ci, rfl, hS6, hO6⟩; have HS6 := Lib.hid hS6; have HO6 := Lib.hid (HO5.out.trans hO6); have HS56 := Lib.hid (HS5.out.old hO6 (fun _ _ hc => hc)); clear hS6 hO6))
          obtain ⟨p, hp⟩ : ∃ p, (impP l y).length = p := ⟨_, rfl⟩
          have HP := Lib.hid hp
          have hp2 : p ≤ 3200 := by have := HI2.out; omega
          rw [hp] at HS6 ⊢
          clear hp c5 c1
          go_loopw [11, 14] (fun nv jv wr => ∃ (j : Nat) (on : Option Addr) (cn : Nat), nv = .slice on (((impP l y).take j).foldl insP (insP o y)).length cn ∧ jv = .int .i64 j ∧ j ≤ p ∧ Strz wr on (((impP l y).take j).foldl insP (insP o y)).length (((impP l y).take j).foldl insP (insP o y)) ∧ Hid (∀ t, t < j → nAt (impP l y) t ≠ to) ∧ Only (fun _ => False) w6 wr) (fun _ jv _ => p - (intOf jv).toNat)
          case atStart => exact ⟨0, op, cp, rfl, rfl, by omega, HS56.out, Lib.hid (fun t ht => absurd ht (Nat.not_lt_zero _)), Only.refl _ _⟩
          case round =>
            obtain ⟨j, oz, cz, rfl, rfl, hj, hS7, HNT, hO7⟩ := hrel
            have HS7 := Lib.hid hS7
            have HO7 := Lib.hid hO7
            by_cases hjp : j < p
            · have hjl : j < (impP l y).length := by have := HP.out; omega
              obtain ⟨b3, o3, e3, d3⟩ := (HS6.out.old hO7 (fun _ _ hc => hc)).cell j hjl
              subst e3
              obtain ⟨z, hz⟩ : ∃ z, nAt (impP l y) j = z := ⟨_, rfl⟩
              rw [hz] at d3
              have HZ := Lib.hid hz
              have h05 : (0 : Int) ≤ (j : Int) := Int.natCast_nonneg j
              have h06 : (j : Int) < (p : Int) := by omega
              have h07 : (j : Int).toNat = j := Int.toNat_natCast j
              have hfl := foldK_len (impP l y) (insP o y) j
              have hil2 := insP_len o y
              obtain ⟨F, hF⟩ : ∃ F, ((impP l y).take j).foldl insP (insP o y) = F := ⟨_, rfl⟩
              have hfs := foldK_succ (impP l y) (insP o y) hjl
              rw [hF, hz] at hfs
              rw [hF] at hfl HS7
              rw [hF]
              have HFS := Lib.hid hfs
              have HFL : Hid (F.length ≤ 1000000) := Lib.hid (by have := HOL.out; have := HP.out; omega)
              clear hz hS7 hO7 hfs hfl hil2 hF
              by_cases hzt : z = to
              · subst hzt
                have HT : Hid (∃ k, 0 < k ∧ k ≤ m + 1 ∧ Pth (grP l) x k s) := Lib.hid (by
                  obtain ⟨u, k', h1, h2, h3, h4⟩ := HLv.out.at HXL.out (j := k) (by have := HQ.out; omega)
                  have h5 : z ∈ impP l y := by rw [← HZ.out, nAt_get hjl]; exact List.getElem_mem hjl
                  rw [← HY.out, h4] at h5
                  obtain ⟨h6, h7⟩ := im_edge H0.out h3 h5
                  have h8 : nodeP (nsP l) z = s := by rw [← HTO.out]; exact nodeP_nAt (nsP_nodup H0.out.nd) (by rw [nsP_len]; exact HSL.out)
                  rw [h8] at h7
                  exact ⟨k' + 1, by omega, by omega, h2.snoc h7⟩)
                have hzz : (z == z) = true := by simp
                go_wp2
                go_ret
                exact ⟨true, rfl, ⟨fun _ => HT.out, fun _ => rfl⟩, HO.out.trans (HO6.out.trans HO7.out)⟩
              · have hzz : (z == to) = false := beq_eq_false_iff_ne.2 hzt
                have HN2 : Hid (∀ t, t < j + 1 → nAt (impP l y) t ≠ to) := Lib.hid (fun t ht => by
                  by_cases e : t = j
                  · rw [e, HZ.out]; exact hzt
                  · exact HNT.out t (by omega))
                clear hzt
                go_wp2_with (go_at_call 42; (refine (HIN.out wr oz cz F z HS7.out HFL.out).mono ?_); rintro e w8 ⟨oq, cq, rfl, hS8, hO8⟩; have HS8 := Lib.hid hS8; have HO8 := Lib.hid (HO7.out.trans hO8); clear hS8 hO8)
                go_roundw
                case rel => exact ⟨j + 1, oq, cq, by rw [HFS.out], by go_num, by omega, by rw [HFS.out]; exact HS8.out, HN2, HO8.out⟩
                case measure => simp [intOf]; omega
            · have hjp2 : j = (impP l y).length := by have := HP.out; omega
              have h06 : ¬ (j : Int) < (p : Int) := by omega
              have HNX2 : Hid (Nx l L to (k + 1) ((impP l y).foldl insP (insP o y))) := Lib.hid (by
                have h8 := HNX.out.step (k := k) (by
                  rw [HY.out]
                  intro hc
                  obtain ⟨t, ht, e⟩ := List.getElem_of_mem hc
                  exact HNT.out t (by omega) (by rw [nAt_get ht]; exact e))
                rw [HY.out] at h8
                exact h8)
              have HTK : Hid ((impP l y).take j = impP l y) := Lib.hid (take_all hjp2.symm)
              have h8 := HS7.out
              rw [HTK.out] at h8
              rw [HTK.out]
              have HS9 := Lib.hid h8
              clear hS7 hO7 hjp2 h8
              go_wp2
              go_roundw
              case rel => exact ⟨k + 1, (impP l y).foldl insP (insP o y), oz, cz, rfl, by go_num, by omega, HS9.out, HNX2, HO6.out.trans HO7.out⟩
              case measure => simp [intOf]; omega
        · have hkq2 : k = q := by omega
          subst hkq2
          have h03 : ¬ (k : Int) < (k : Int) := by omega
          have HLv2 : Hid (Lv l x (i + 1) o) := Lib.hid (HLv.out.succ H0.out HXL.out HNX.out.asc (fun t => by rw [HQ.out]; exact HNX.out.mem t))
          have HNE2 : Hid (∀ k u, k < i + 1 → Pth (grP l) x k u → s ∉ lAt (grP l) u) := Lib.hid (fun k' u hk' hp hc => by
            obtain ⟨j, hj, e⟩ := HLv.out.of (show k' ≤ i by omega) hp
            refine HNX.out.no j (by have := HQ.out; omega) ?_
            have hu := pth_lt (grP_valid l) hp (by rw [grP_len]; exact HXL.out)
            rw [grP_len] at hu
            rw [e, ← HTO.out]
            exact edge_im H0.out hu hc)
          clear hS2 hO2
          go_wp2
          go_roundw
          case rel => exact ⟨i + 1, o, on, cn, rfl, by go_num, by omega, HS2.out, HLv2, HNE2, HO.out.trans HO2.out⟩
          case measure => simp [intOf]; omega
    · have him2 : i = m + 1 := by omega
      have h01 : ¬ (i : Int) ≤ (m : Int) := by omega
      have HF : Hid (¬ ∃ k, 0 < k ∧ k ≤ m + 1 ∧ Pth (grP l) x k s) := Lib.hid (by
        rintro ⟨k, h1, h2, h3⟩
        obtain ⟨k', rfl⟩ : ∃ k', k = k' + 1 := ⟨k - 1, by omega⟩
        obtain ⟨z, h4, h5⟩ := pth_last h3
        exact HNE.out k' z (by omega) h4 h5)
      go_wp2
      go_ret
      exact .inl ⟨rfl, fun k h1 h2 h3 => HF.out ⟨k, h1, h2, h3⟩, HO.out⟩
end Go.Proofs.YtigmdiagdlbdpaaGreat
namespace Go.Proofs.YtigmdiagdlbdpaaGreat
open Go.RowKit Go.Maps
theorem nAt_mp {ns : List Nm} {c : List Nat} {i : Nat} (h : i < c.length) : nAt (c.map (nAt ns)) i = nAt ns (gt c i) := by
  rw [nAt_get (by rw [List.length_map]; exact h), List.getElem_map, gt_at h]
/-- A call hands back a list of names. -/
def NmR (L : List Nm) (w : World) (e : Ending) (w' : World) : Prop := ∃ oo cc, e = .returned (.slice oo L.length cc) ∧ Strz w' oo L.length L ∧ Only (fun _ => False) w w'
theorem map_mem_iff {l : List Md} (h : Ok0 l) {r : List Nat} {s : Nat} (hr : ∀ x ∈ r, x < l.length) (hs : s < l.length) : nAt (nsP l) s ∈ r.map (nAt (nsP l)) ↔ s ∈ r := by
  constructor
  · intro hm
    obtain ⟨x, hx, e⟩ := List.mem_map.1 hm
    have := nodup_get (nsP_nodup h.nd) (by rw [nsP_len]; exact hr x hx) (by rw [nsP_len]; exact hs) e
    rw [← this]
    exact hx
  · intro hm
    exact List.mem_map_of_mem hm
/-- Where no cycle is shorter, the next node is not on the path. -/
theorem PI.off {G : List (List Nat)} {s N : Nat} {p : List Nat} (h : PI G s p) (hN : p.length ≤ N) (hmin : ∀ x k, 0 < k → Pth G x k x → N ≤ k) {x : Nat} (hx : x ∈ lAt G (lastN p)) (hno : s ∉ lAt G (lastN p)) : x ∉ p := fun hc => by
  obtain ⟨j, hj, ej⟩ := List.getElem_of_mem hc
  have hne := h.ne
  have ej' : gt p j = x := by rw [gt_at hj]; exact ej
  have hj0 : j ≠ 0 := fun h0 => hno (by rw [← h.hd, ← h0, ej']; exact hx)
  have h1 := h.way j (p.length - 1) (by omega) (by omega)
  rw [← lastN_gt hne, ej'] at h1
  have h2 := hmin x _ (by omega) (h1.snoc hx)
  omega
theorem PI.last {G : List (List Nat)} {s : Nat} {p : List Nat} (h : PI G s p) : lastN p < G.length := by
  rw [lastN_gt h.ne]
  exact h.lt _ (by have := h.ne; omega)
/-- back's answer, as the search asks for it. -/
theorem back_dis {G : List (List Nat)} (hG : ValidG G) {x s m : Nat} (hx : x < G.length) (hs : s < G.length) (hne : x ≠ s) (hm : m + 1 < G.length) : (∃ k, 0 < k ∧ k ≤ m + 1 ∧ Pth G x k s) ↔ gt (disG G s) x ≤ m + 1 := by
  have hD := disG_f hG hs
  constructor
  · rintro ⟨k, h1, h2, h3⟩
    exact Nat.le_trans (hD.short x k hx h3) h2
  · intro h
    refine ⟨gt (disG G s) x, Nat.pos_of_ne_zero (fun e => hne (hD.zero hs hx e)), h, hD.pth x hx (by omega)⟩
theorem rHas_oo (w : World) (oa : Option Addr) (n ca : Nat) (l : List Nm) (h : Strz w oa n l) (hn : n ≤ 1000000) (s : Nm) (x : Bool) (hx : decide (s ∈ l) = x) : Calls Tryz.prog 21 #[.slice oa n ca, encStr s] w fun e w' => e = .returned (.bool x) ∧ Only (fun _ => False) w w' := (rHas_p w oa n ca l h hn s x hx).mono (by
  rintro e w' ⟨h1, rfl⟩
  exact ⟨h1, Only.refl _ _⟩)
set_option maxRecDepth 100000 in
set_option maxHeartbeats 16000000 in
theorem paths_p (l : List Md) (n ca : Nat) (oa : Option Addr) (hl : l.length = n) (hn : n ≤ 32) (him : ∀ m ∈ l, m.im.length ≤ 100) (h0 : Ok0 l) (s N : Nat) (hs : s < n) (hN : N ≤ n) (hmin : ∀ x k, 0 < k → Pth (grP l) x k x → N ≤ k) : ∀ (d : Nat) (w : World) (p : List Nat) (op : Option Addr) (cp : Nat), Mdz w oa n l → Strz w op p.length (p.map (nAt (nsP l))) → PI (grP l) s p → p.length + d = N →
    Calls Tryz.prog 41 #[.slice oa n ca, .slice op p.length cp, iV N] w (NmR ((pathsF (grP l) s N (d + 1) p).map (nAt (nsP l))) w) := by
  intro d
  induction d with
  | zero => 
    intro w p op cp h hp hP hd
    have hG := grP_valid l
    have hGL := grP_len l
    obtain ⟨q, hq⟩ : ∃ q, p.length = q + 1 := ⟨p.length - 1, by have := hP.ne; omega⟩
    have hlast : lastN p < l.length := by have := hP.last; rw [hGL] at this; exact this
    have hlq : lastN p = gt p q := by rw [lastN_gt hP.ne, hq]; rfl
    obtain ⟨pn, hpn⟩ : ∃ pn, p.map (nAt (nsP l)) = pn := ⟨_, rfl⟩
    have hpl : pn.length = q + 1 := by rw [← hpn, List.length_map, hq]
    have hp0 : nAt pn 0 = nAt (nsP l) s := by rw [← hpn, nAt_mp (by omega), hP.hd]
    have hpq : nAt pn q = nAt (nsP l) (lastN p) := by rw [← hpn, nAt_mp (by omega), hlq]
    rw [hpn, hq] at hp
    rw [hq]
    have hrow := im_row h0 hlast
    obtain ⟨row, hro⟩ : ∃ row, lAt (grP l) (lastN p) = row := ⟨_, rfl⟩
    rw [hro] at hrow
    have hrl : ∀ x ∈ row, x < l.length := fun x hx => by rw [← hro] at hx; have := row_valid hG hx; rwa [hGL] at this
    have hrn : row.length ≤ 1000000 := by
      have h3 : row.length = (impP l (nAt (nsP l) (lastN p))).length := by rw [hrow, List.length_map]
      have h4 := impP_len (nm := nAt (nsP l) (lastN p)) him
      have h9 : l.length * 100 ≤ 32 * 100 := Nat.mul_le_mul_right _ (by omega)
      omega
    obtain ⟨to, hto⟩ : ∃ t, nAt (nsP l) s = t := ⟨_, rfl⟩
    obtain ⟨la, hla⟩ : ∃ t, nAt (nsP l) (lastN p) = t := ⟨_, rfl⟩
    rw [hla] at hpq hrow
    rw [hto] at hp0
    have hsr : decide (to ∈ row.map (nAt (nsP l))) = decide (s ∈ row) := by rw [← hto]; exact decide_eq_decide.2 (map_mem_iff h0 hrl (by omega))
    have HIP : Hid (∀ wx, Only (fun _ => False) w wx → Calls Tryz.prog 22 #[.slice oa n ca, encStr la] wx fun e w' => ∃ oo co, e = .returned (.slice oo row.length co) ∧ Strz w' oo row.length (row.map (nAt (nsP l))) ∧ Only (fun _ => False) wx w') := Lib.hid (fun wx ho => (rImports_p wx oa n ca l la (h.old ho (fun _ _ hc => hc)) (by omega) him).mono (by
      rw [hrow]
      rintro e w' ⟨oo, co, h1, h2, h3⟩
      have h4 := h2.strz
      rw [List.length_map] at h1 h4
      exact ⟨oo, co, h1, h4, h3⟩))
    obtain ⟨b1, o1, e1, c1⟩ := hp.cell q (by omega)
    subst e1
    obtain ⟨b2, o2, e2, c0⟩ := hp.cell 0 (by omega)
    cases e2
    rw [hpq] at c1
    rw [hp0, Nat.add_zero] at c0
    have HC : Hid (∀ wx, Only (fun _ => False) w wx → wx.cell? ⟨b1, o1, none⟩ = some (encStr to)) := Lib.hid (fun wx ho => cell_old c0 ho (fun _ _ hc => hc) rfl)
    have hq0 : (0 : Int) ≤ (q : Int) := Int.natCast_nonneg q
    have hq1 : (q : Int) < (q : Int) + 1 := by omega
    have hq2 : (q : Int).toNat = q := Int.toNat_natCast q
    have hq3 : (0 : Int) < (q : Int) + 1 := by omega
    have HP := Lib.hid hp
    have HH := Lib.hid h
    have HPI := Lib.hid hP
    have HRO := Lib.hid hro
    have HRL := Lib.hid hrl
    have HPN := Lib.hid hpn
    have HPL := Lib.hid hpl
    have HD := Lib.hid hd
    have HQ := Lib.hid hq
    have HTO := Lib.hid hto
    have hqn : q ≤ 32 := by omega
    by_cases hsm : s ∈ row
    ·
      have HX : Hid (decide (to ∈ row.map (nAt (nsP l))) = true) := Lib.hid (by rw [hsr]; exact decide_eq_true hsm)
      have HR : Hid (pathsF (grP l) s N (0 + 1) p = p) := Lib.hid (by show pathsF (grP l) s N (_ + 1) p = p; unfold pathsF; rw [hro, if_pos hsm])
      clear h hp hP hd hq hlast hlq hpn hpl hp0 hpq hrow hro hrl hto hla hsr c0 hsm
      go_enter Tryz.func41, Tryz.ntmps41
      go_wp2_with (first | (go_at_call 22; (with_reducible refine (HIP.out w (Only.refl _ _)).mono ?_); rintro e w5 ⟨oN, cN, rfl, hS5, hO5⟩; have HS5 := Lib.hid hS5; have HO5 := Lib.hid hO5; have c5 := HC.out _ hO5; clear hS5 hO5) | (go_at_call 21; (with_reducible refine (rHas_p w5 oN row.length cN (row.map (nAt (nsP l))) HS5.out hrn to true HX.out).mono ?_); rintro e w5 ⟨rfl, rfl⟩))
      go_ret
      unfold NmR
      rw [HR.out, HPN.out, HPL.out]
      exact ⟨some ⟨b1, o1, none⟩, cp, rfl, HP.out.old HO5.out (fun _ _ hc => hc), HO5.out⟩
    · have HX : Hid (decide (to ∈ row.map (nAt (nsP l))) = false) := Lib.hid (by rw [hsr]; exact decide_eq_false hsm)
      have HR : Hid (pathsF (grP l) s N (0 + 1) p = []) := Lib.hid (by show pathsF (grP l) s N (_ + 1) p = []; unfold pathsF; rw [hro, if_neg hsm, if_neg (by omega)])
      have hNq : ¬ (q : Int) + 1 < (N : Int) := by omega
      clear h hp hP hd hq hlast hlq hpn hpl hp0 hpq hrow hro hrl hto hla hsr c0 hsm
      go_enter Tryz.func41, Tryz.ntmps41
      go_wp2_with (first | (go_at_call 22; (with_reducible refine (HIP.out w (Only.refl _ _)).mono ?_); rintro e w5 ⟨oN, cN, rfl, hS5, hO5⟩; have HS5 := Lib.hid hS5; have HO5 := Lib.hid hO5; have c5 := HC.out _ hO5; clear hS5 hO5) | (go_at_call 21; (with_reducible refine (rHas_p w5 oN row.length cN (row.map (nAt (nsP l))) HS5.out hrn to false HX.out).mono ?_); rintro e w5 ⟨rfl, rfl⟩))
      go_loopw [8] (fun q wr => q = .int .i64 0 ∧ wr = w5) (fun _ _ => 0)
      case atStart => exact ⟨rfl, rfl⟩
      case round =>
        obtain ⟨rfl, rfl⟩ := hrel
        by_cases hr0 : 0 < row.length
        · have h05 : (0 : Int) < (row.length : Int) := by omega
          go_wp2
          go_ret
          unfold NmR
          rw [HR.out]
          exact ⟨none, 0, rfl, strz_nil _ 0 _, HO5.out⟩
        · have h05 : ¬ (0 : Int) < (row.length : Int) := by omega
          go_wp2
          go_ret
          unfold NmR
          rw [HR.out]
          exact ⟨none, 0, rfl, strz_nil _ 0 _, HO5.out⟩

  | succ d ih => 
    intro w p op cp h hp hP hd
    have hG := grP_valid l
    have hGL := grP_len l
    obtain ⟨q, hq⟩ : ∃ q, p.length = q + 1 := ⟨p.length - 1, by have := hP.ne; omega⟩
    have hlast : lastN p < l.length := by have := hP.last; rw [hGL] at this; exact this
    have hlq : lastN p = gt p q := by rw [lastN_gt hP.ne, hq]; rfl
    obtain ⟨pn, hpn⟩ : ∃ pn, p.map (nAt (nsP l)) = pn := ⟨_, rfl⟩
    have hpl : pn.length = q + 1 := by rw [← hpn, List.length_map, hq]
    have hp0 : nAt pn 0 = nAt (nsP l) s := by rw [← hpn, nAt_mp (by omega), hP.hd]
    have hpq : nAt pn q = nAt (nsP l) (lastN p) := by rw [← hpn, nAt_mp (by omega), hlq]
    rw [hpn, hq] at hp
    rw [hq]
    have hrow := im_row h0 hlast
    obtain ⟨row, hro⟩ : ∃ row, lAt (grP l) (lastN p) = row := ⟨_, rfl⟩
    rw [hro] at hrow
    have hrl : ∀ x ∈ row, x < l.length := fun x hx => by rw [← hro] at hx; have := row_valid hG hx; rwa [hGL] at this
    have hrn : row.length ≤ 1000000 := by
      have h3 : row.length = (impP l (nAt (nsP l) (lastN p))).length := by rw [hrow, List.length_map]
      have h4 := impP_len (nm := nAt (nsP l) (lastN p)) him
      have h9 : l.length * 100 ≤ 32 * 100 := Nat.mul_le_mul_right _ (by omega)
      omega
    obtain ⟨to, hto⟩ : ∃ t, nAt (nsP l) s = t := ⟨_, rfl⟩
    obtain ⟨la, hla⟩ : ∃ t, nAt (nsP l) (lastN p) = t := ⟨_, rfl⟩
    rw [hla] at hpq hrow
    rw [hto] at hp0
    have hsr : decide (to ∈ row.map (nAt (nsP l))) = decide (s ∈ row) := by rw [← hto]; exact decide_eq_decide.2 (map_mem_iff h0 hrl (by omega))
    have HIP : Hid (∀ wx, Only (fun _ => False) w wx → Calls Tryz.prog 22 #[.slice oa n ca, encStr la] wx fun e w' => ∃ oo co, e = .returned (.slice oo row.length co) ∧ Strz w' oo row.length (row.map (nAt (nsP l))) ∧ Only (fun _ => False) wx w') := Lib.hid (fun wx ho => (rImports_p wx oa n ca l la (h.old ho (fun _ _ hc => hc)) (by omega) him).mono (by
      rw [hrow]
      rintro e w' ⟨oo, co, h1, h2, h3⟩
      have h4 := h2.strz
      rw [List.length_map] at h1 h4
      exact ⟨oo, co, h1, h4, h3⟩))
    obtain ⟨b1, o1, e1, c1⟩ := hp.cell q (by omega)
    subst e1
    obtain ⟨b2, o2, e2, c0⟩ := hp.cell 0 (by omega)
    cases e2
    rw [hpq] at c1
    rw [hp0, Nat.add_zero] at c0
    have HC : Hid (∀ wx, Only (fun _ => False) w wx → wx.cell? ⟨b1, o1, none⟩ = some (encStr to)) := Lib.hid (fun wx ho => cell_old c0 ho (fun _ _ hc => hc) rfl)
    have hq0 : (0 : Int) ≤ (q : Int) := Int.natCast_nonneg q
    have hq1 : (q : Int) < (q : Int) + 1 := by omega
    have hq2 : (q : Int).toNat = q := Int.toNat_natCast q
    have hq3 : (0 : Int) < (q : Int) + 1 := by omega
    have HP := Lib.hid hp
    have HH := Lib.hid h
    have HPI := Lib.hid hP
    have HRO := Lib.hid hro
    have HRL := Lib.hid hrl
    have HPN := Lib.hid hpn
    have HPL := Lib.hid hpl
    have HD := Lib.hid hd
    have HQ := Lib.hid hq
    have HTO := Lib.hid hto
    have hqn : q ≤ 32 := by omega
    by_cases hsm : s ∈ row
    ·
      have HX : Hid (decide (to ∈ row.map (nAt (nsP l))) = true) := Lib.hid (by rw [hsr]; exact decide_eq_true hsm)
      have HR : Hid (pathsF (grP l) s N (d + 1 + 1) p = p) := Lib.hid (by show pathsF (grP l) s N (_ + 1) p = p; unfold pathsF; rw [hro, if_pos hsm])
      clear h hp hP hd hq hlast hlq hpn hpl hp0 hpq hrow hro hrl hto hla hsr c0 hsm
      go_enter Tryz.func41, Tryz.ntmps41
      go_wp2_with (first | (go_at_call 22; (with_reducible refine (HIP.out w (Only.refl _ _)).mono ?_); rintro e w5 ⟨oN, cN, rfl, hS5, hO5⟩; have HS5 := Lib.hid hS5; have HO5 := Lib.hid hO5; have c5 := HC.out _ hO5; clear hS5 hO5) | (go_at_call 21; (with_reducible refine (rHas_p w5 oN row.length cN (row.map (nAt (nsP l))) HS5.out hrn to true HX.out).mono ?_); rintro e w5 ⟨rfl, rfl⟩))
      go_ret
      unfold NmR
      rw [HR.out, HPN.out, HPL.out]
      exact ⟨some ⟨b1, o1, none⟩, cp, rfl, HP.out.old HO5.out (fun _ _ hc => hc), HO5.out⟩
    · have HX : Hid (decide (to ∈ row.map (nAt (nsP l))) = false) := Lib.hid (by rw [hsr]; exact decide_eq_false hsm)
      obtain ⟨g, hg⟩ : ∃ g, (fun x => if goOn (grP l) s N p x then pathsF (grP l) s N (d + 1) (p ++ [x]) else []) = g := ⟨_, rfl⟩
      have HR : Hid (pathsF (grP l) s N (d + 1 + 1) p = firstF g row) := Lib.hid (by rw [← hg]; show pathsF (grP l) s N (_ + 1) p = _; rw [pathsF, hro, if_neg hsm, if_pos (by omega)])
      have hNq : (q : Int) + 1 < (N : Int) := by omega
      have HSM := Lib.hid hsm
      have HGE := Lib.hid hg
      have H0 := Lib.hid h0
      have HMIN := Lib.hid hmin
      have HPW : Hid (∀ wx, Only (fun _ => False) w wx → Strz wx (some ⟨b1, o1, none⟩) (q + 1) pn) := Lib.hid (fun wx ho => hp.old ho (fun _ _ hc => hc))
      have HIH : Hid (∀ wx oo cc x y, Only (fun _ => False) w wx → x ∈ row → nAt (nsP l) x = y → Strz wx oo (pn.length + 1) (pn ++ [y]) → Calls Tryz.prog 41 #[.slice oa n ca, .slice oo (pn.length + 1) cc, iV N] wx (NmR ((pathsF (grP l) s N (d + 1) (p ++ [x])).map (nAt (nsP l))) wx)) := Lib.hid (fun wx oo cc x y ho hx hy hz => by
        have h8 := ih wx (p ++ [x]) oo cc (h.old ho (fun _ _ hc => hc)) (by
          rw [List.length_append, List.map_append, hpn]
          show Strz wx oo (p.length + 1) (pn ++ [nAt (nsP l) x])
          rw [hy, hq, ← hpl]
          exact hz) (hP.push hG (by rw [hro]; exact hx)) (by rw [List.length_append]; simp; omega)
        rw [show (p ++ [x]).length = pn.length + 1 by rw [List.length_append, hpl, hq]; rfl] at h8
        exact h8)
      have HBK : Hid (∀ wx x y b, Only (fun _ => False) w wx → x ∈ row → nAt (nsP l) x = y → decide (gt (disG (grP l) s) x ≤ N - p.length) = b → Calls Tryz.prog 57 #[.slice oa n ca, encStr y, encStr to, iV (N - (q + 1) - 1)] wx fun e w' => e = .returned (.bool b) ∧ Only (fun _ => False) wx w') := Lib.hid (fun wx x y b ho hx hy hb => by
        have hxl := hrl x hx
        have hxs : x ≠ s := fun e => hsm (by rw [← e]; exact hx)
        have h8 := back_p wx oa n ca l (h.old ho (fun _ _ hc => hc)) hn him h0 x s (N - (q + 1) - 1) (by omega) hs (by omega)
        rw [hy, hto] at h8
        refine h8.mono ?_
        rintro e w' ⟨b', h1, h2, h3⟩
        rw [back_dis hG (by rw [hGL]; exact hxl) (by rw [hGL]; omega) hxs (by rw [hGL]; omega), show N - (q + 1) - 1 + 1 = N - p.length by omega] at h2
        have h4 : b' = b := by
          rw [← hb]
          cases b' with
          | true => exact (decide_eq_true (h2.1 rfl)).symm
          | false => exact (decide_eq_false (fun hc => by have := h2.2 hc; cases this)).symm
        rw [h4] at h1
        exact ⟨h1, h3⟩)
      have HOFF : Hid (∀ x y, x ∈ row → nAt (nsP l) x = y → decide (y ∈ pn) = false ∧ goOn (grP l) s N p x = decide (gt (disG (grP l) s) x ≤ N - p.length)) := Lib.hid (fun x y hx hy => by
        have h8 := hP.off (by omega) hmin (by rw [hro]; exact hx) (by rw [hro]; exact hsm)
        refine ⟨decide_eq_false (fun hc => h8 ?_), ?_⟩
        · rw [← hpn, ← hy] at hc
          exact (map_mem_iff h0 (fun z hz => by
            obtain ⟨j, hj, e⟩ := List.getElem_of_mem hz
            have := hP.lt j hj
            rw [gt_at hj, e, hGL] at this
            exact this) (hrl x hx)).1 hc
        · unfold goOn
          have : p.contains x = false := by
            cases hcc : p.contains x with
            | false => rfl
            | true => exact absurd (List.contains_iff_mem.1 hcc) h8
          rw [this]
          rfl)
      have hwr : IntKind.i64.wrap (IntKind.i64.wrap ((N : Int) - ((q : Int) + 1)) - 1) = ((N - (q + 1) - 1 : Nat) : Int) := by
        have h3 : IntKind.i64.wrap ((N : Int) - ((q : Int) + 1)) = (N : Int) - ((q : Int) + 1) := IntWalk.i64_in _ (by omega)
        rw [h3]
        have h4 : IntKind.i64.wrap ((N : Int) - ((q : Int) + 1) - 1) = (N : Int) - ((q : Int) + 1) - 1 := IntWalk.i64_in _ (by omega)
        rw [h4]
        omega
      have hNN : ((N : Int) - ((q : Int) + 1) - 1) = ((N - (q + 1) - 1 : Nat) : Int) := by omega
      obtain ⟨M, hM⟩ : ∃ M, N - (q + 1) - 1 = M := ⟨_, rfl⟩
      rw [hM] at HBK hNN hwr
      clear h hp hP hd hq hlast hlq hpn hpl hp0 hpq hrow hro hrl hto hla hsr c0 hsm hg h0 hmin ih him hM
      go_enter Tryz.func41, Tryz.ntmps41
      go_wp2_with (first | (go_at_call 22; (with_reducible refine (HIP.out w (Only.refl _ _)).mono ?_); rintro e w5 ⟨oN, cN, rfl, hS5, hO5⟩; have HS5 := Lib.hid hS5; have HO5 := Lib.hid hO5; have c5 := HC.out _ hO5; clear hS5 hO5) | (go_at_call 21; (with_reducible refine (rHas_p w5 oN row.length cN (row.map (nAt (nsP l))) HS5.out hrn to false HX.out).mono ?_); rintro e w5 ⟨rfl, rfl⟩))
      go_loopw [8, 9, 10] (fun iv _ _ wr => ∃ i : Nat, i ≤ row.length ∧ iv = .int .i64 i ∧ Hid (firstF g (row.drop i) = firstF g row) ∧ Only (fun _ => False) w5 wr) (fun iv _ _ _ => row.length - (intOf iv).toNat)
      case atStart => exact ⟨0, by omega, rfl, Lib.hid rfl, Only.refl _ _⟩
      case round =>
        obtain ⟨i, hi, rfl, HF, hO⟩ := hrel
        have HO := Lib.hid hO
        by_cases hir : i < row.length
        · obtain ⟨x, hx⟩ : ∃ x, row[i] = x := ⟨_, rfl⟩
          obtain ⟨y, hy⟩ : ∃ y, nAt (nsP l) x = y := ⟨_, rfl⟩
          have hxm : x ∈ row := by rw [← hx]; exact List.getElem_mem hir
          have hrd : row.drop i = x :: row.drop (i + 1) := by rw [List.drop_eq_getElem_cons hir, hx]
          have hyi : nAt (row.map (nAt (nsP l))) i = y := by rw [nAt_get (by rw [List.length_map]; exact hir), List.getElem_map, hx, hy]
          have HCN : Hid (∀ wx, Only (fun _ => False) w5 wx → ∃ b3 o3, oN = some ⟨b3, o3, none⟩ ∧ wx.cell? ⟨b3, o3 + i, none⟩ = some (encStr y)) := Lib.hid (fun wx ho => by
            obtain ⟨b3, o3, e3, c3⟩ := (HS5.out.old ho (fun _ _ hc => hc)).cell i (by rw [List.length_map]; exact hir)
            rw [hyi] at c3
            exact ⟨b3, o3, e3, c3⟩)
          obtain ⟨b3, o3, rfl, c3⟩ := HCN.out wr hO
          have HCM : Hid (∀ wx, Only (fun _ => False) w5 wx → wx.cell? ⟨b3, o3 + i, none⟩ = some (encStr y)) := Lib.hid (fun wx ho => by
            obtain ⟨b4, o4, e4, c4⟩ := HCN.out wx ho
            cases e4
            exact c4)
          have c3d : wr.drew.cell? ⟨b3, o3 + i, none⟩ = some (encStr y) := c3
          have c6 := HC.out wr (HO5.out.trans hO)
          have c6d : wr.drew.cell? ⟨b1, o1, none⟩ = some (encStr to) := c6
          have HWR : Hid (Only (fun _ => False) w5 wr.drew) := Lib.hid hO.drew
          obtain ⟨hXP, hgo⟩ := HOFF.out x y hxm hy
          have HXP := Lib.hid hXP
          have HHA : Hid (Calls Tryz.prog 21 #[.slice (some ⟨b1, o1, none⟩) (q + 1) cp, encStr y] wr.drew fun e w' => e = .returned (.bool false) ∧ Only (fun _ => False) wr.drew w') := Lib.hid (rHas_oo wr.drew _ (q + 1) cp pn (HPW.out _ (HO5.out.trans HWR.out)) (by omega) y false hXP)
          have h01 : (0 : Int) ≤ (i : Int) := Int.natCast_nonneg i
          have h02 : (i : Int) < (row.length : Int) := by omega
          have h03 : (i : Int).toNat = i := Int.toNat_natCast i
          obtain ⟨b, hb⟩ : ∃ b, decide (gt (disG (grP l) s) x ≤ N - p.length) = b := ⟨_, rfl⟩
          have HBB := Lib.hid (fun wx ho => HBK.out wx x y b ho hxm hy hb)
          have HGX : Hid (g x = if b then pathsF (grP l) s N (d + 1) (p ++ [x]) else []) := Lib.hid (by rw [← HGE.out, ← hb, ← hgo])
          have HRD := Lib.hid hrd
          have HXM := Lib.hid hxm
          have HYY := Lib.hid hy
          have HK : Hid (∀ a, Only (fun _ => False) w5 a → (Only (fun _ => False) w5 a ∧ a.cell? ⟨b3, o3 + i, none⟩ = some (encStr y) ∧ a.cell? ⟨b1, o1, none⟩ = some (encStr to))) := Lib.hid (fun a ho => ⟨ho, HCM.out a ho, HC.out a (HO5.out.trans ho)⟩)
          have hs0 := HK.out wr.drew HWR.out
          clear hXP hgo hb hrd hxm hy hyi hx hO c3 c3d c6 c6d
          cases b with
          | false =>
            have HN : Hid (firstF g (row.drop (i + 1)) = firstF g row) := Lib.hid (by
              rw [← HF.out, HRD.out, firstF, HGX.out]
              simp)
            go_wp2
            go_region_held (fun a => Only (fun _ => False) w5 a ∧ a.cell? ⟨b3, o3 + i, none⟩ = some (encStr y) ∧ a.cell? ⟨b1, o1, none⟩ = some (encStr to)) (assumption)
              (first | (go_at_call 21; (with_reducible refine HHA.out.mono ?_); rintro e w7 ⟨rfl, hO7⟩; have hs7 := HK.out w7 (HWR.out.trans hO7)) | (go_at_call 57; (try rw [hwr]); (with_reducible refine (HBB.out w7 (HO5.out.trans hs7.1)).mono ?_); rintro e w9 ⟨rfl, hO9⟩; have hs9 := HK.out w9 (hs7.1.trans hO9)))
            all_goals
              go_wp2
              go_roundw
              case rel => exact ⟨i + 1, by omega, by go_num, HN, hs9.1⟩
              case measure => simp [intOf]; omega
          | true =>
            obtain ⟨F, hF⟩ : ∃ F, pathsF (grP l) s N (d + 1) (p ++ [x]) = F := ⟨_, rfl⟩
            obtain ⟨FN, hFN⟩ : ∃ FN, F.map (nAt (nsP l)) = FN := ⟨_, rfl⟩
            obtain ⟨f, hf⟩ : ∃ f, FN.length = f := ⟨_, rfl⟩
            have HIX : Hid (∀ wx oo cc, Only (fun _ => False) w wx → Strz wx oo (pn.length + 1) (pn ++ [y]) → Calls Tryz.prog 41 #[.slice oa n ca, .slice oo (pn.length + 1) cc, iV N] wx fun e w' => ∃ of cf, e = .returned (.slice of f cf) ∧ Strz w' of f FN ∧ Only (fun _ => False) wx w') := Lib.hid (fun wx oo cc ho hz => by
              have h8 := HIH.out wx oo cc x y ho HXM.out HYY.out hz
              rw [hF, hFN] at h8
              unfold NmR at h8
              rw [hf] at h8
              exact h8)
            have hgF : g x = F := by rw [HGX.out, hF]; rfl
            have hFl : F.length = f := by rw [← hf, ← hFN, List.length_map]
            have HFN := Lib.hid hFN
            have HFL := Lib.hid hf
            by_cases hf0 : 0 < f
            · have h05 : (0 : Int) < (f : Int) := by omega
              have HRES : Hid (firstF g row = F) := Lib.hid (by
                rw [← HF.out, HRD.out, firstF, hgF, if_pos (fun e => by rw [e] at hFl; simp at hFl; omega)])
              clear hF hFN hf hgF hFl
              go_wp2
              go_region_held (fun a => Only (fun _ => False) w5 a ∧ a.cell? ⟨b3, o3 + i, none⟩ = some (encStr y) ∧ a.cell? ⟨b1, o1, none⟩ = some (encStr to)) (assumption)
              (first | (go_at_call 21; (with_reducible refine HHA.out.mono ?_); rintro e w7 ⟨rfl, hO7⟩; have hs7 := HK.out w7 (HWR.out.trans hO7)) | (go_at_call 57; (try rw [hwr]); (with_reducible refine (HBB.out w7 (HO5.out.trans hs7.1)).mono ?_); rintro e w9 ⟨rfl, hO9⟩; have hs9 := HK.out w9 (hs7.1.trans hO9)))
              all_goals
                have HS9 := Lib.hid hs9
                have hc9 := hs9.2.1
                have HP9 := Lib.hid (HPW.out w9 (HO5.out.trans hs9.1))
                clear hs0 hs7 hs9 hO7 hO9
                go_wp2_with (first | (at_builtin; refine wpList_append_nm rfl _ _ rfl w9.heap.size (.slice none 0 0) [] rfl (SR.nil _ _) (some ⟨b1, o1, none⟩) (q + 1) cp pn rfl HP9.out (by simp; omega) (Nat.le_refl _) ?_; intro oq2 cq2 w12 hq; have hq1 : SR w12 w9.heap.size (.slice oq2 (q + 1) cq2) pn := (by have h8 := hq.1; simpa using h8); have HA2 := Lib.hid hq1; have HO2 := Lib.hid hq.2; have c12 := cell_in (w := w9) HS9.out.2.1 hq.2; have HZ2 : Hid (w9.heap.size ≤ w12.heap.size) := Lib.hid hq.2.size; clear hq hq1) | (at_builtin; refine wpList_append_nm rfl _ _ rfl w9.heap.size (.slice oq2 (q + 1) cq2) pn rfl (SR.al HA2.out _) _ 1 1 [y] rfl (strz_one w12 y _) (by rw [HPL.out]; omega) (al_le HZ2.out _) ?_; intro oq3 cq3 w13 hq; have HA3 := Lib.hid hq.1; have HO3 := Lib.hid ((HO2.out.alloc _).trans hq.2); clear hq) | (go_at_call 41; (with_reducible refine (HIX.out w13 oq3 cq3 (HO5.out.trans (HS9.out.1.trans HO3.out.new)) HA3.out.strz).mono ?_); rintro e w14 ⟨of, cf, rfl, hS14, hO14⟩; have HS14 := Lib.hid hS14; have HO14 := Lib.hid (HS9.out.1.trans (HO3.out.new.trans hO14)); clear hS14 hO14))
                go_ret
                unfold NmR
                rw [HR.out, HRES.out, HFN.out, HFL.out]
                exact ⟨of, cf, rfl, HS14.out, HO5.out.trans HO14.out⟩
            · have h05 : ¬ (0 : Int) < (f : Int) := by omega
              have HN : Hid (firstF g (row.drop (i + 1)) = firstF g row) := Lib.hid (by
                have hFe : F = [] := List.eq_nil_of_length_eq_zero (by omega)
                rw [← HF.out, HRD.out, firstF, hgF, hFe]
                simp)
              clear hF hFN hf hgF hFl
              go_wp2
              go_region_held (fun a => Only (fun _ => False) w5 a ∧ a.cell? ⟨b3, o3 + i, none⟩ = some (encStr y) ∧ a.cell? ⟨b1, o1, none⟩ = some (encStr to)) (assumption)
              (first | (go_at_call 21; (with_reducible refine HHA.out.mono ?_); rintro e w7 ⟨rfl, hO7⟩; have hs7 := HK.out w7 (HWR.out.trans hO7)) | (go_at_call 57; (try rw [hwr]); (with_reducible refine (HBB.out w7 (HO5.out.trans hs7.1)).mono ?_); rintro e w9 ⟨rfl, hO9⟩; have hs9 := HK.out w9 (hs7.1.trans hO9)))
              all_goals
                have HS9 := Lib.hid hs9
                have hc9 := hs9.2.1
                have HP9 := Lib.hid (HPW.out w9 (HO5.out.trans hs9.1))
                clear hs0 hs7 hs9 hO7 hO9
                go_wp2_with (first | (at_builtin; refine wpList_append_nm rfl _ _ rfl w9.heap.size (.slice none 0 0) [] rfl (SR.nil _ _) (some ⟨b1, o1, none⟩) (q + 1) cp pn rfl HP9.out (by simp; omega) (Nat.le_refl _) ?_; intro oq2 cq2 w12 hq; have hq1 : SR w12 w9.heap.size (.slice oq2 (q + 1) cq2) pn := (by have h8 := hq.1; simpa using h8); have HA2 := Lib.hid hq1; have HO2 := Lib.hid hq.2; have c12 := cell_in (w := w9) HS9.out.2.1 hq.2; have HZ2 : Hid (w9.heap.size ≤ w12.heap.size) := Lib.hid hq.2.size; clear hq hq1) | (at_builtin; refine wpList_append_nm rfl _ _ rfl w9.heap.size (.slice oq2 (q + 1) cq2) pn rfl (SR.al HA2.out _) _ 1 1 [y] rfl (strz_one w12 y _) (by rw [HPL.out]; omega) (al_le HZ2.out _) ?_; intro oq3 cq3 w13 hq; have HA3 := Lib.hid hq.1; have HO3 := Lib.hid ((HO2.out.alloc _).trans hq.2); clear hq) | (go_at_call 41; (with_reducible refine (HIX.out w13 oq3 cq3 (HO5.out.trans (HS9.out.1.trans HO3.out.new)) HA3.out.strz).mono ?_); rintro e w14 ⟨of, cf, rfl, hS14, hO14⟩; have HS14 := Lib.hid hS14; have HO14 := Lib.hid (HS9.out.1.trans (HO3.out.new.trans hO14)); clear hS14 hO14))
                go_roundw
                case rel => exact ⟨i + 1, by omega, by go_num, HN, HO14.out⟩
                case measure => simp [intOf]; omega
        · have h02 : ¬ (i : Int) < (row.length : Int) := by omega
          have HE : Hid (firstF g row = []) := Lib.hid (by rw [← HF.out, List.drop_of_length_le (by omega)]; rfl)
          go_wp2
          go_ret
          unfold NmR
          rw [HR.out, HE.out]
          exact ⟨none, 0, rfl, strz_nil _ 0 _, HO5.out.trans HO.out⟩

end Go.Proofs.YtigmdiagdlbdpaaGreat
namespace Go.Proofs.YtigmdiagdlbdpaaGreat
open Go.RowKit Go.Maps
theorem pathsF_none {G : List (List Nat)} {N N' s : Nat} (hmin : ∀ x k, 0 < k → Pth G x k x → N ≤ k) (h : N' + 1 < N) : pathsF G s (N' + 1) (N' + 1) [s] = [] := Classical.byContradiction fun hne => by
  obtain ⟨k, h1, h2, h3⟩ := pathsF_sound (N' + 1) [s] Nat.one_pos (by simp) (.nil _) hne
  have := hmin s k h1 h3
  omega
/-- What the search finds is the program's cycle. -/
theorem refC_found {G : List (List Nat)} (hG : ValidG G) {N i : Nat} (hi : i < G.length) (hN : N < G.length) (hmin : ∀ x k, 0 < k → Pth G x k x → N + 1 ≤ k) (hj : ∀ j, j < i → pathsF G j (N + 1) (N + 1) [j] = []) (hne : pathsF G i (N + 1) (N + 1) [i] ≠ []) : pathsF G i (N + 1) (N + 1) [i] = cyP G := by
  rw [← refC_eq hG]
  unfold refC
  obtain ⟨l1, h1⟩ := range_split hi
  obtain ⟨l2, h2⟩ := range_split hN
  have hin : firstF (fun s => pathsF G s (N + 1) (N + 1) [s]) (List.range G.length) = pathsF G i (N + 1) (N + 1) [i] := by
    rw [h1, firstF_at (g := fun s => pathsF G s (N + 1) (N + 1) [s]) hne (fun y hy => hj y (List.mem_range.1 hy))]
  obtain ⟨g, hg⟩ : ∃ g, g = fun n => firstF (fun s => pathsF G s (n + 1) (n + 1) [s]) (List.range G.length) := ⟨_, rfl⟩
  have hgN : g N = pathsF G i (N + 1) (N + 1) [i] := by rw [hg]; exact hin
  rw [← hg, h2, firstF_at (g := g) (x := N) (by rw [hgN]; exact hne) (fun y hy => ?_), hgN]
  have hy' := List.mem_range.1 hy
  rw [hg]
  exact firstF_nil (fun x _ => pathsF_none hmin (by omega))
theorem min_next {G : List (List Nat)} (hG : ValidG G) {N : Nat} (hN : N < G.length) (hmin : ∀ x k, 0 < k → Pth G x k x → N + 1 ≤ k) (hj : ∀ j, j < G.length → pathsF G j (N + 1) (N + 1) [j] = []) : ∀ x k, 0 < k → Pth G x k x → N + 1 + 1 ≤ k := fun x k hk hp => by
  apply Nat.lt_of_le_of_ne (hmin x k hk hp)
  intro e
  subst e
  have hx : x < G.length := by
    cases hp with
    | cons e _ =>
      obtain ⟨j, hj⟩ := nx_mem.2 e
      exact nx_lt hj
  exact (pathsF_greedy hG hx (by omega) hmin N (N + 1) (N + 1) [x] (PI.one hx) (by simp; omega) hp (by omega) (by omega)).2 (hj x hx)
theorem min_all {G : List (List Nat)} (hG : ValidG G) (hmin : ∀ x k, 0 < k → Pth G x k x → G.length + 1 ≤ k) : cyP G = [] := Classical.byContradiction fun hc => by
  have hP : ∀ k, k < G.length → (cyB G k = true ↔ Onc G k) := fun k hk => cyB_iff hG hk
  obtain ⟨s, h1, h2, -⟩ := cycS_best hG hP G.length (Nat.le_refl _) hc
  obtain ⟨c1, -, c3, c4⟩ := cycG_len hG h1 ((hP s h1).1 h2)
  have := hmin s _ c3 c1
  omega
set_option maxRecDepth 100000 in
set_option maxHeartbeats 8000000 in
theorem rCycle_p (w : World) (oa : Option Addr) (n ca : Nat) (l : List Md) (h : Mdz w oa n l) (him : n ≤ 32 → ∀ m ∈ l, m.im.length ≤ 100) : Calls Tryz.prog 20 #[.slice oa n ca] w (NmR (cycM l) w) := by
  have hl := h.len
  have HCO := Lib.hid (rConsistent_p w oa n ca l h him)
  cases hC : conA l with
  | some x =>
    obtain ⟨c, s⟩ := x
    have hcy : cycM l = [] := by unfold cycM; rw [hC]
    have hc0 := conA_pos hC
    have hcn : ¬ (c : Int) = 0 := by omega
    have hfd : ∀ wx, (Instr.field 28 (.agg #[iV c, encStr s, .int .i64 0, .int .i64 0]) 0).run Tryz.prog wx = .ok (iV c) wx := fun _ => by kernel_rfl
    have HCO2 : Hid (Calls Tryz.prog 40 #[.slice oa n ca] w fun e w' => e = .returned (faV c s) ∧ Only (fun _ => False) w w') := Lib.hid (by have h8 := HCO.out; rw [hC] at h8; exact h8)
    have HCY := Lib.hid hcy
    clear h him hC hcy hc0 HCO
    go_enter Tryz.func20, Tryz.ntmps20
    go_wp2_with (go_at_call 40; (with_reducible refine HCO2.out.mono ?_); rintro e w5 ⟨rfl, hO5⟩)
    go_ret
    unfold NmR
    rw [HCY.out]
    exact ⟨none, 0, rfl, strz_nil _ 0 _, hO5⟩
  | none =>
    obtain ⟨hl32, hnd, hinn⟩ := conA_small hC
    have h0 : Ok0 l := ⟨hnd, hinn⟩
    have hG := grP_valid l
    have hGL := grP_len l
    have hcy : cycM l = (cyP (grP l)).map (nAt (nsP l)) := by unfold cycM; rw [hC]
    have hn32 : n ≤ 32 := by omega
    have hfd : ∀ wx, (Instr.field 28 (.agg #[iV 0, encStr [], .int .i64 0, .int .i64 0]) 0).run Tryz.prog wx = .ok (.int .i64 0) wx := fun _ => by kernel_rfl
    have hfd2 : ∀ wx, (Instr.field 28 (.agg #[.int .i64 0, .string ⟨#[]⟩, .int .i64 0, .int .i64 0]) 0).run Tryz.prog wx = .ok (.int .i64 0) wx := fun _ => by kernel_rfl
    have HCO2 : Hid (Calls Tryz.prog 40 #[.slice oa n ca] w fun e w' => e = .returned (faV 0 []) ∧ Only (fun _ => False) w w') := Lib.hid (by have h8 := HCO.out; rw [hC] at h8; exact h8)
    have HNA : Hid (∀ wx, Only (fun _ => False) w wx → Calls Tryz.prog 29 #[.slice oa n ca] wx fun e w' => ∃ oo co, e = .returned (.slice oo n co) ∧ Strz w' oo n (nsP l) ∧ Only (fun _ => False) wx w') := Lib.hid (fun wx ho => (rNames_p wx oa n ca l (h.old ho (fun _ _ hc => hc)) (by omega) hnd).mono (by
      rintro e w' ⟨oo, co, h1, h2, h3⟩
      exact ⟨oo, co, h1, h2.strz, h3⟩))
    have HPA : Hid (∀ wx i N op cp, Only (fun _ => False) w wx → i < n → N < n → (∀ x k, 0 < k → Pth (grP l) x k x → N + 1 ≤ k) → Strz wx op 1 [nAt (nsP l) i] → Calls Tryz.prog 41 #[.slice oa n ca, .slice op 1 cp, .int .i64 ((N : Int) + 1)] wx fun e w' => ∃ oo cc, e = .returned (.slice oo (pathsF (grP l) i (N + 1) (N + 1) [i]).length cc) ∧ Strz w' oo (pathsF (grP l) i (N + 1) (N + 1) [i]).length ((pathsF (grP l) i (N + 1) (N + 1) [i]).map (nAt (nsP l))) ∧ Only (fun _ => False) wx w') := Lib.hid (fun wx i N op cp ho hi hN hmin hs => by
      have h8 := paths_p l n ca oa hl hn32 (him hn32) h0 i (N + 1) hi (by omega) hmin N wx [i] op cp (h.old ho (fun _ _ hc => hc)) hs (PI.one (by rw [hGL]; omega)) (by simp; omega)
      exact h8.mono (by
        rintro e w' ⟨oo, cc, h1, h2, h3⟩
        rw [List.length_map] at h1 h2
        exact ⟨oo, cc, h1, h2, h3⟩))
    have HMX : Hid (∀ N i, N < n → i < n → (∀ x k, 0 < k → Pth (grP l) x k x → N + 1 ≤ k) → (∀ j, j < i → pathsF (grP l) j (N + 1) (N + 1) [j] = []) → pathsF (grP l) i (N + 1) (N + 1) [i] ≠ [] → cycM l = (pathsF (grP l) i (N + 1) (N + 1) [i]).map (nAt (nsP l))) := Lib.hid (fun N i hN hi hmin hj hne => by
      rw [hcy, refC_found hG (by rw [hGL]; omega) (by rw [hGL]; omega) hmin hj hne])
    have HNX : Hid (∀ N, N < n → (∀ x k, 0 < k → Pth (grP l) x k x → N + 1 ≤ k) → (∀ j, j < n → pathsF (grP l) j (N + 1) (N + 1) [j] = []) → ∀ x k, 0 < k → Pth (grP l) x k x → N + 1 + 1 ≤ k) := Lib.hid (fun N hN hmin hj => min_next hG (by rw [hGL]; omega) hmin (fun j hj2 => hj j (by rw [hGL] at hj2; omega)))
    have HEN : Hid ((∀ x k, 0 < k → Pth (grP l) x k x → n + 1 ≤ k) → cycM l = []) := Lib.hid (fun hmin => by
      rw [hcy, min_all hG (by rw [hGL, hl]; exact hmin)]
      rfl)
    clear h him hC hnd hinn h0 hG hGL hcy HCO
    go_enter Tryz.func20, Tryz.ntmps20
    go_wp2_with (first | (go_at_call 40; (with_reducible refine HCO2.out.mono ?_); rintro e w5 ⟨rfl, hO5⟩; have HO5 := Lib.hid hO5; clear hO5) | (go_at_call 29; (with_reducible refine (HNA.out _ HO5.out).mono ?_); rintro e w6 ⟨oN, cN, rfl, hS6, hO6⟩; have HS6 := Lib.hid hS6; have HO6 := Lib.hid (HO5.out.trans hO6); clear hS6 hO6))
    go_loopw [4, 5, 6] (fun nv _ _ wr => ∃ N : Nat, N ≤ n ∧ nv = .int .i64 ((N : Int) + 1) ∧ Hid (∀ x k, 0 < k → Pth (grP l) x k x → N + 1 ≤ k) ∧ Only (fun _ => False) w6 wr) (fun nv _ _ _ => n + 1 - (intOf nv).toNat)
    case atStart => exact ⟨0, by omega, rfl, Lib.hid (fun x k hk _ => hk), Only.refl _ _⟩
    case round =>
      obtain ⟨N, hN, rfl, HMI, hO⟩ := hrel
      have HO := Lib.hid hO
      have hnl : (nsP l).length = n := by rw [nsP_len]; exact hl
      by_cases hNn : N < n
      · have h01 : (N : Int) + 1 ≤ (n : Int) := by omega
        obtain ⟨W0, rfl⟩ : ∃ W0, W0 = wr := ⟨_, rfl⟩
        clear hO
        go_wp2
        go_loopw [5, 6] (fun iv _ wr => ∃ i : Nat, i ≤ n ∧ iv = .int .i64 i ∧ Hid (∀ j, j < i → pathsF (grP l) j (N + 1) (N + 1) [j] = []) ∧ Only (fun _ => False) W0 wr) (fun iv _ _ => n - (intOf iv).toNat)
        case atStart => exact ⟨0, by omega, rfl, Lib.hid (fun j hj => absurd hj (Nat.not_lt_zero _)), Only.refl _ _⟩
        case round =>
          obtain ⟨i, hi, rfl, HJ, hO2⟩ := hrel
          have HO2 := Lib.hid hO2
          by_cases hin : i < n
          · obtain ⟨b1, o1, e1, c1⟩ := (HS6.out.old (HO.out.trans hO2) (fun _ _ hc => hc)).cell i (by omega)
            subst e1
            obtain ⟨y, hy⟩ : ∃ y, nAt (nsP l) i = y := ⟨_, rfl⟩
            rw [hy] at c1
            have h02 : (0 : Int) ≤ (i : Int) := Int.natCast_nonneg i
            have h03 : (i : Int) < (n : Int) := by omega
            have h04 : (i : Int).toNat = i := Int.toNat_natCast i
            have HPX : Hid (Calls Tryz.prog 41 #[.slice oa n ca, .slice (some ⟨wr.heap.size, 0, none⟩) 1 1, .int .i64 ((N : Int) + 1)] (wr.alloc (.cells #[encStr y] 9)) fun e w' => ∃ oo cc, e = .returned (.slice oo (pathsF (grP l) i (N + 1) (N + 1) [i]).length cc) ∧ Strz w' oo (pathsF (grP l) i (N + 1) (N + 1) [i]).length ((pathsF (grP l) i (N + 1) (N + 1) [i]).map (nAt (nsP l))) ∧ Only (fun _ => False) (wr.alloc (.cells #[encStr y] 9)) w') := Lib.hid (HPA.out _ i N _ 1 ((HO6.out.trans (HO.out.trans hO2)).alloc _) hin hNn HMI.out (by rw [hy]; exact strz_one wr y _))
            have HMY := Lib.hid (fun hne => HMX.out N i hNn hin HMI.out HJ.out hne)
            obtain ⟨F, hF⟩ : ∃ F, pathsF (grP l) i (N + 1) (N + 1) [i] = F := ⟨_, rfl⟩
            rw [hF] at HPX HMY
            obtain ⟨f, hf⟩ : ∃ f, F.length = f := ⟨_, rfl⟩
            have HF := Lib.hid hF
            have HFL := Lib.hid hf
            rw [hf] at HPX
            clear hy hO2 hF hf
            by_cases hf0 : 0 < f
            · have h05 : (0 : Int) < (f : Int) := by omega
              have HCY : Hid (cycM l = F.map (nAt (nsP l))) := Lib.hid (HMY.out (fun e => by have h8 := HFL.out; rw [e] at h8; simp at h8; omega))
              go_wp2_with (go_at_call 41; (with_reducible refine HPX.out.mono ?_); rintro e w7 ⟨oF, cF, rfl, hS7, hO7⟩; have HS7 := Lib.hid hS7; have HO7 := Lib.hid (((HO6.out.trans (HO.out.trans HO2.out)).alloc _).trans hO7); clear hS7 hO7)
              go_ret
              unfold NmR
              rw [HCY.out, List.length_map, HFL.out]
              exact ⟨oF, cF, rfl, HS7.out, HO7.out⟩
            · have h05 : ¬ (0 : Int) < (f : Int) := by omega
              have HJ2 : Hid (∀ j, j < i + 1 → pathsF (grP l) j (N + 1) (N + 1) [j] = []) := Lib.hid (fun j hj => by
                by_cases e : j = i
                · rw [e, HF.out]
                  exact List.eq_nil_of_length_eq_zero (by have := HFL.out; omega)
                · exact HJ.out j (by omega))
              go_wp2_with (go_at_call 41; (with_reducible refine HPX.out.mono ?_); rintro e w7 ⟨oF, cF, rfl, hS7, hO7⟩; have HO7 := Lib.hid ((HO2.out.alloc _).trans hO7); clear hS7 hO7)
              go_roundw
              case rel => exact ⟨i + 1, by omega, by go_num, HJ2, HO7.out⟩
              case measure => simp [intOf]; omega
          · have hie : i = n := by omega
            have h03 : ¬ (i : Int) < (n : Int) := by omega
            have HMI2 := Lib.hid (HNX.out N hNn HMI.out (fun j hj => HJ.out j (by omega)))
            clear hO2
            go_wp2
            go_roundw
            case rel => exact ⟨N + 1, by omega, by go_num, HMI2, HO.out.trans HO2.out⟩
            case measure => simp [intOf]; omega
      · have hNe : N = n := by omega
        subst hNe
        have h01 : ¬ (N : Int) + 1 ≤ (N : Int) := by omega
        have HCY := Lib.hid (HEN.out HMI.out)
        clear hO
        go_wp2
        go_ret
        unfold NmR
        rw [HCY.out]
        exact ⟨none, 0, rfl, strz_nil _ 0 _, HO6.out.trans HO.out⟩
end Go.Proofs.YtigmdiagdlbdpaaGreat
