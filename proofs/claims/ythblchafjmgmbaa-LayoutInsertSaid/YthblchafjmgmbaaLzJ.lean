/-
  WALKS. The reference's word.
-/
import Derived.Test.YthblchafjmgmbaaLzI
import Derived.Test.YthblchafjmgmbaaLyT
namespace Go.Proofs.Ythblchafjmgmbaa
open Go.RowKit Go.Maps
set_option maxRecDepth 100000 in
theorem rword_p (t : Tok) (l : List UInt8) (w : World) : Calls Try.prog 48 #[tokV t, .string ⟨l.toArray⟩] w fun e w' => e = .returned (.bool (wdT t l)) ∧ Only (fun _ => False) w w' := by
  have HT := Lib.hid (Lib.toList_data t.text)
  have HS : Hid (wdT t l = ((t.op == 9) && (t.text.data.toList == l))) := Lib.hid rfl
  go_enter Try.func48, Try.ntmps48
  go_wp2
  all_goals (go_ret; exact ⟨ret_bool (by rw [HS.out]; simp [HT.out, *]), (Only.refl _ _).alloc _⟩)
theorem rword_v (t : Tok) (l : List UInt8) (v : Bool) (w : World) (hv : wdT t l = v) : Calls Try.prog 48 #[tokV t, .string ⟨l.toArray⟩] w fun e w' => e = .returned (.bool v) ∧ Only (fun _ => False) w w' := hv ▸ rword_p t l w
end Go.Proofs.Ythblchafjmgmbaa
