/-
  WALKS. GraphGroup.
-/
import Derived.Test.YtlnknkplebaioaaGbGo
namespace Go.Proofs.Ytlnknkplebaioaa
open Go.RowKit Go.Maps
theorem GraphGroup_walk (w : World) (oK : Option Addr) (n cK : Nat) (l : List Ky) (h : Kys w oK n l) : Calls Try.prog 6 #[.slice oK n cK] w fun e w' => e = .returned (.bool true) ∧ Only (fun _ => False) w w' := by
  by_cases hn : 60 < n
  · exact Group_many w oK n cK l h hn
  · by_cases hok : ∀ j, j < n → okKy (kAt l j)
    · exact Group_good w oK n cK l h (by omega) (okKy_of h.len hok)
    · obtain ⟨b, hb, h1, h2⟩ := first_bad hok
      exact Group_bad w oK n cK l h (by omega) b hb h1 h2
end Go.Proofs.Ytlnknkplebaioaa
