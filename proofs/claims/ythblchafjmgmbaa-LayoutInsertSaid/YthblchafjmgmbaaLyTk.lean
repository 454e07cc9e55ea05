/-
  WALKS. The cells of tokens that are read.
-/
import Derived.Test.YthblchafjmgmbaaLyA
namespace Go.Proofs.Ythblchafjmgmbaa
open Go.RowKit Go.Maps
/-- The cells of tokens that are read. -/
theorem Tks.newz {w : World} {ad : Addr} {n : Nat} {ts : List Tok} (h : Tks w (some ad) n ts) : ∀ j u, (ts.flatMap tokCells)[j]? = some u → w.cell? (ad.add j) = some u := by
  intro j u hu
  have hj : j < (ts.flatMap tokCells).length := (List.getElem?_eq_some_iff.1 hu).1
  rw [flat_len 7 tokCells tokCells_len] at hj
  have hk : j / 7 < ts.length := by omega
  obtain ⟨b, o, ha, hc⟩ := h.cell (j / 7) hk
  cases ha
  have hi : j % 7 < 7 := Nat.mod_lt _ (by decide)
  have e : j = j / 7 * 7 + j % 7 := by omega
  rw [e, flat_getM 7 tokCells tokCells_len ts (j / 7) (j % 7) hk hi] at hu
  rw [add_plain]
  have e2 : o + j = o + j / 7 * 7 + j % 7 := by omega
  rw [e2]
  have key : ∀ i, i = j % 7 → (tokCells ts[j / 7])[i]? = some u → w.cell? ⟨b, o + j / 7 * 7 + i, none⟩ = some u := by
    intro i hie hu
    have hi7 : i < 7 := by omega
    clear hie
    match i, hi7 with
    | 0, _ => cases hu; exact hc.c0
    | 1, _ => cases hu; exact hc.c1
    | 2, _ => cases hu; exact hc.c2
    | 3, _ => cases hu; exact hc.c3
    | 4, _ => cases hu; exact hc.c4
    | 5, _ => cases hu; exact hc.c5
    | 6, _ => cases hu; exact hc.c6
  exact key _ rfl hu
theorem TR.tkz {w : World} {B n ca : Nat} {oa : Option Addr} {ts : List Tok} (h : TR w B (.slice oa n ca) ts) : Tks w oa n ts := by
  have hn : n = ts.length := by
    rcases h.2 with ⟨hv, hn⟩ | ⟨g, cap, cur, hv, -⟩
    · cases hv; exact hn.symm
    · cases hv; rfl
  subst hn
  exact TR.tks h
theorem one_tokz (ts : List Tok) : ∀ u ∈ ts.flatMap tokCells, u.oneCell' = true := by
  intro u hu
  obtain ⟨t, -, ht⟩ := List.mem_flatMap.1 hu
  exact one_tok t u ht
end Go.Proofs.Ythblchafjmgmbaa
