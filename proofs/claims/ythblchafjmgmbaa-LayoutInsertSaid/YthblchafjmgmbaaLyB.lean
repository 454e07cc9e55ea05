/-
  WALKS. The layout package's small functions: kinds, token tests, closures.
-/
import Derived.Test.YthblchafjmgmbaaLyA
namespace Go.Proofs.Ythblchafjmgmbaa
open Go.RowKit Go.Maps
theorem isBlock_p (k : Int) (w : World) : Calls Try.prog 60 #[.int .i64 k] w fun e w' => e = .returned (.bool (isBlk k)) ∧ w = w' := by
  go_enter Try.func60, Try.ntmps60
  go_wp2
  all_goals (go_ret; exact ⟨ret_bool (by simp [isBlk]), rfl⟩)
theorem isContext_p (k : Int) (w : World) : Calls Try.prog 61 #[.int .i64 k] w fun e w' => e = .returned (.bool (isCtx k)) ∧ w = w' := by
  go_enter Try.func61, Try.ntmps61
  go_wp2
  all_goals (go_ret; exact ⟨ret_bool (by simp [isCtx]), rfl⟩)
theorem isPending_p (k : Int) (w : World) : Calls Try.prog 63 #[.int .i64 k] w fun e w' => e = .returned (.bool (isPen k)) ∧ w = w' := by
  go_enter Try.func63, Try.ntmps63
  go_wp2
  all_goals (go_ret; exact ⟨ret_bool (by simp [isPen]), rfl⟩)
theorem isWritten_p (k : Int) (w : World) : Calls Try.prog 46 #[.int .i64 k] w fun e w' => e = .returned (.bool (isWri k)) ∧ w = w' := by
  go_enter Try.func46, Try.ntmps46
  go_wp2_with (go_at_call 61; refine (isContext_p _ _).mono ?_; rintro e w' ⟨rfl, rfl⟩)
  all_goals (go_ret; exact ⟨ret_bool (by simp [isWri, *]), rfl⟩)

def boolRes (v : Bool) (w : World) (e : Ending) (w' : World) : Prop := e = .returned (.bool v) ∧ Only (fun _ => False) w w'
set_option maxRecDepth 100000 in
theorem isSpecial_p (t : Tok) (l : List UInt8) (w : World) : Calls Try.prog 19 #[tokV t, .string ⟨l.toArray⟩] w fun e w' => e = .returned (.bool (spT t l)) ∧ Only (fun _ => False) w w' := by
  have HT := Lib.hid (Lib.toList_data t.text)
  have HS : Hid (spT t l = ((t.op == 8) && (t.text.data.toList == l))) := Lib.hid rfl
  go_enter Try.func19, Try.ntmps19
  go_wp2
  all_goals (go_ret; exact ⟨ret_bool (by rw [HS.out]; simp [HT.out, *]), (Only.refl _ _).alloc _⟩)
set_option maxRecDepth 100000 in
theorem isWord_p (t : Tok) (l : List UInt8) (w : World) : Calls Try.prog 34 #[tokV t, .string ⟨l.toArray⟩] w fun e w' => e = .returned (.bool (wdT t l)) ∧ Only (fun _ => False) w w' := by
  have HT := Lib.hid (Lib.toList_data t.text)
  have HS : Hid (wdT t l = ((t.op == 9) && (t.text.data.toList == l))) := Lib.hid rfl
  go_enter Try.func34, Try.ntmps34
  go_wp2
  all_goals (go_ret; exact ⟨ret_bool (by rw [HS.out]; simp [HT.out, *]), (Only.refl _ _).alloc _⟩)
theorem isSpecial_v (t : Tok) (l : List UInt8) (v : Bool) (w : World) (hv : spT t l = v) : Calls Try.prog 19 #[tokV t, .string ⟨l.toArray⟩] w fun e w' => e = .returned (.bool v) ∧ Only (fun _ => False) w w' := hv ▸ isSpecial_p t l w
theorem isWord_v (t : Tok) (l : List UInt8) (v : Bool) (w : World) (hv : wdT t l = v) : Calls Try.prog 34 #[tokV t, .string ⟨l.toArray⟩] w fun e w' => e = .returned (.bool v) ∧ Only (fun _ => False) w w' := hv ▸ isWord_p t l w
set_option maxRecDepth 100000 in
theorem isInserted_p (t : Tok) (w : World) : Calls Try.prog 11 #[tokV t] w fun e w' => e = .returned (.bool t.auto) ∧ Only (fun _ => False) w w' := by
  go_enter Try.func11, Try.ntmps11
  go_wp2
  all_goals (go_ret; exact ⟨rfl, (Only.refl _ _).alloc _⟩)
set_option maxRecDepth 100000 in
theorem faultAt_p (t : Tok) (w : World) : Calls Try.prog 13 #[tokV t] w fun e w' => e = .returned (.agg #[.int .i64 9, .string t.text, .int .i64 t.line, .int .i64 t.col]) ∧ Only (fun _ => False) w w' := by
  go_enter Try.func13, Try.ntmps13
  go_wp2
  refine bodyPost_ret (v := .agg #[.int .i64 9, .string t.text, .int .i64 t.line, .int .i64 t.col]) (by simp [results, Try.results13, go_sem]) rfl ⟨rfl, ?_⟩
  exact Only.of_below (((Below.refl _ _).alloc (Nat.le_refl _) _).alloc (by show w.heap.size ≤ (w.heap.push _).size; simp) _)
set_option maxRecDepth 100000 in
set_option maxHeartbeats 1000000 in
theorem opensBlock_p (t : Tok) (w : World) : Calls Try.prog 45 #[tokV t] w fun e w' => e = .returned (.bool (opens t)) ∧ Only (fun _ => False) w w' := by
  have HT := Lib.hid (Lib.toList_data t.text)
  have HS : Hid (opens t = ((t.op == 9) && ((t.text.data.toList == [119, 104, 101, 114, 101]) || (t.text.data.toList == [108, 101, 116]) || (t.text.data.toList == [100, 111]) || (t.text.data.toList == [111, 102])))) := Lib.hid rfl
  go_enter Try.func45, Try.ntmps45
  go_wp2
  all_goals (go_ret; exact ⟨ret_bool (by rw [HS.out, ← HT.out]; simp_all), (Only.refl _ _).alloc _⟩)
/-- The closure that isOf makes: its captured kind lies at g. -/
def Bx (w : World) (g : Nat) (k : Int) : Prop := w.heap[g]? = some (.cells #[.int .i64 k] 57 (0, 0))
theorem Bx.c (w : World) (g : Nat) (k : Int) (h : Bx w g k) : w.cell? ⟨g, 0, none⟩ = some (.int .i64 k) := by have h' := h; unfold Bx at h'; simp [World.cell?, h']
theorem Bx.only {w w' : World} {g : Nat} {k : Int} {K : Nat → Prop} (h : Bx w g k) (ho : Only K w w') (hk : ¬ K g) : Bx w' g k := (ho.block g (lt_of_block h) hk).trans h
theorem Bx.same {w w' : World} {g : Nat} {k : Int} (h : Bx w g k) (ho : Only (fun _ => False) w w') : Bx w' g k := h.only ho (fun hc => hc)
abbrev isOfV (g : Nat) : Value := .func (.func 62) #[] #[.pointer (some ⟨g, 0, none⟩)]
set_option maxRecDepth 100000 in
theorem isOf_p (k : Int) (w : World) : Calls Try.prog 39 #[.int .i64 k] w fun e w' => ∃ g, w.heap.size ≤ g ∧ e = .returned (isOfV g) ∧ Bx w' g k ∧ Only (fun _ => False) w w' := by
  have hmf : ∀ (fn : Fn) (first cap : Array Value) (w : World), (Instr.makeFunc fn first cap).run Try.prog w = .ok (.func fn first cap) w := fun _ _ _ _ => rfl
  go_enter Try.func39, Try.ntmps39
  go_wp2
  go_ret
  exact ⟨_, Nat.le_refl _, rfl, new_block _ _, (Only.refl _ _).alloc _⟩
set_option maxRecDepth 100000 in
theorem isOf1_p (e : El) (g : Nat) (k : Int) (w : World) (h : Bx w g k) : Calls Try.prog 62 #[elV e, .pointer (some ⟨g, 0, none⟩)] w fun r w' => r = .returned (.bool (isK k e)) ∧ Only (fun _ => False) w w' := by
  have c0 := Bx.c _ _ _ h
  have hg := lt_of_block h
  go_enter Try.func62, Try.ntmps62
  go_wp2
  go_ret
  exact ⟨rfl, (Only.refl _ _).alloc _⟩
set_option maxRecDepth 100000 in
theorem key1_p (e : El) (w : World) : Calls Try.prog 44 #[elV e] w fun r w' => r = .returned (.bool (letE e)) ∧ Only (fun _ => False) w w' := by
  have HT := Lib.hid (Lib.toList_data e.word)
  have HS : Hid (letE e = ((e.kind == 7) || ((e.kind == 0) && (e.word.data.toList == [108, 101, 116])))) := Lib.hid rfl
  go_enter Try.func44, Try.ntmps44
  go_wp2
  all_goals (go_ret; exact ⟨ret_bool (by rw [HS.out]; simp [HT.out, *]), (Only.refl _ _).alloc _⟩)
def closesE (e : El) : Bool := tx e.word bDo || tx e.word bOf || e.marked
set_option maxRecDepth 100000 in
theorem comma1_p (e : El) (w : World) : Calls Try.prog 65 #[elV e] w fun r w' => r = .returned (.bool (closesE e)) ∧ Only (fun _ => False) w w' := by
  have HT := Lib.hid (Lib.toList_data e.word)
  have HS : Hid (closesE e = ((e.word.data.toList == [100, 111]) || (e.word.data.toList == [111, 102]) || e.marked)) := Lib.hid rfl
  go_enter Try.func65, Try.ntmps65
  go_wp2
  all_goals (go_ret; exact ⟨ret_bool (by rw [HS.out, ← HT.out]; try simp [*]), (Only.refl _ _).alloc _⟩)
end Go.Proofs.Ythblchafjmgmbaa
