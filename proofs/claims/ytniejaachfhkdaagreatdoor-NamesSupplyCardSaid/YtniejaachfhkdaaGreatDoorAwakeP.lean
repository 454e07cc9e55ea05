/-
  PLAIN. The closed facts that the examples want.
-/
import Derived.Test.YtniejaachfhkdaaGreatDoorNewS
namespace Go.Proofs.YtniejaachfhkdaaGreatDoor
open Go.RowKit Go.Maps
theorem aw_c1 : cls ⟨#[120, 39]⟩ = 1 := by decide +kernel
theorem aw_c2 : cls ⟨#[58]⟩ = 4 := by decide +kernel
theorem aw_c3 : cls ⟨#[45, 45]⟩ = 0 := by decide +kernel
theorem aw_c4 : cls ⟨#[45, 45, 62]⟩ = 3 := by decide +kernel
theorem aw_c5 : cls ⟨#[119, 104, 101, 114, 101]⟩ = 5 := by decide +kernel
theorem aw_s1 : spl (⟨#[77, 46, 46]⟩ : ByteArray).data.toList = true := by decide +kernel
theorem aw_s2 : spM ⟨#[77, 46, 46]⟩ = ⟨#[77]⟩ := by decide +kernel
theorem aw_s3 : spN ⟨#[77, 46, 46]⟩ = ⟨#[46]⟩ := by decide +kernel
theorem aw_j : joinB ⟨#[77]⟩ ⟨#[43]⟩ = ⟨#[77, 46, 43]⟩ := by decide +kernel
theorem aw_b1 : basO ⟨#[43, 36, 36, 51]⟩ = some (⟨#[43, 36]⟩, 3) := by decide +kernel
theorem aw_m : mkB ⟨#[77, 46, 102]⟩ 0 = ⟨#[77, 46, 102, 36, 48]⟩ := by decide +kernel
theorem aw_f1 : fb ⟨#[120]⟩ = ⟨#[120]⟩ := by decide +kernel
theorem aw_f2 : fb ⟨#[120, 36, 55]⟩ = ⟨#[120]⟩ := by decide +kernel
theorem aw_f3 : fb ⟨#[121]⟩ = ⟨#[121]⟩ := by decide +kernel
theorem aw_x1 : madeB ⟨#[120]⟩ 1 = ⟨#[120, 36, 49]⟩ := by decide +kernel
theorem aw_x2 : madeB ⟨#[120]⟩ 2 = ⟨#[120, 36, 50]⟩ := by decide +kernel
theorem aw_x3 : madeB ⟨#[120]⟩ 3 = ⟨#[120, 36, 51]⟩ := by decide +kernel
theorem aw_y1 : madeB ⟨#[121]⟩ 1 = ⟨#[121, 36, 49]⟩ := by decide +kernel
theorem aw_st1 : stem (⟨#[120]⟩ : ByteArray).data.toList = true := by decide +kernel
theorem aw_st2 : stem (⟨#[121]⟩ : ByteArray).data.toList = true := by decide +kernel
end Go.Proofs.YtniejaachfhkdaaGreatDoor
