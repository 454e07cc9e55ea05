/-
  PLAIN. The bytes of names: which byte is upper, lower, a digit, a symbol; words, symbols, classes (no program).
-/
import Derived.WalkKit
import Derived.Lib.Strings
import Derived.Lib.Bytealg
import Derived.Lib.TrimByte
import Derived.Lib.IndexMore
import Derived.Lib.LastIndexByte
import Derived.Lib.AtoiAllCases
import Derived.Lib.ItoaNum
namespace Go.Proofs.YtelichlplblboaaGreatDoor
open Go.RowKit
theorem ret_bool {a b : Bool} (h : a = b) : Ending.returned (.bool a) = Ending.returned (.bool b) := by rw [h]
theorem ret_int {k : IntKind} {a b : Int} (h : a = b) : Ending.returned (.int k a) = Ending.returned (.int k b) := by rw [h]
def up (n : Int) : Bool := decide (65 ≤ n) && decide (n ≤ 90)
def lw (n : Int) : Bool := (decide (97 ≤ n) && decide (n ≤ 122)) || decide (n = 95)
def dg (n : Int) : Bool := decide (48 ≤ n) && decide (n ≤ 57)
def stt (n : Int) : Bool := lw n || up n
def wd (n : Int) : Bool := stt n || dg n || decide (n = 39)
def syms : List UInt8 := [33, 35, 36, 37, 38, 42, 43, 46, 47, 60, 61, 62, 63, 64, 92, 94, 124, 45, 126, 58]
def sy (n : Int) : Bool := decide (0 ≤ Lib.indexByte syms n.toNat.toUInt8)
def wdB (c : UInt8) : Bool := wd (c.toNat : Int)
def syB (c : UInt8) : Bool := sy (c.toNat : Int)
def sttB (c : UInt8) : Bool := stt (c.toNat : Int)
def mn (c : UInt8) : Bool := c == 45
theorem take_snoc (s : ByteArray) (k : Nat) (h : k < s.size) : s.data.toList.take (k + 1) = s.data.toList.take k ++ [s[k]] := by
  rw [List.take_succ_eq_append_getElem (by simpa using h)]; rfl
theorem all_step {s : ByteArray} {k : Nat} (h : k < s.size) {p : UInt8 → Bool} (hp : p s[k] = true) (ha : (s.data.toList.take k).all p = true) : (s.data.toList.take (k + 1)).all p = true := by
  rw [take_snoc s k h, List.all_append, ha]; simp [hp]
theorem all_stop {s : ByteArray} {k : Nat} (h : k < s.size) {p : UInt8 → Bool} (hp : p s[k] = false) : s.data.toList.all p = false := by
  rw [List.all_eq_false]
  exact ⟨s[k], by rw [show s[k] = s.data.toList[k]'(by simpa using h) from rfl]; exact List.getElem_mem _, by simp [hp]⟩
theorem take_end {s : ByteArray} {k : Nat} (h : s.size ≤ k) : s.data.toList.take k = s.data.toList := List.take_of_length_le (by simpa using h)
/-- The symbols' list, by one look. -/
theorem sy_mem (n : Int) (h0 : 0 ≤ n) (h1 : n ≤ 255) : sy n = syms.any (fun c => ((c.toNat : Int) == n)) := by
  obtain ⟨m, rfl⟩ := Int.eq_ofNat_of_zero_le h0
  have h : ∀ m : Fin 256, sy (m.val : Int) = syms.any (fun c => ((c.toNat : Int) == (m.val : Int))) := by decide +kernel
  exact h ⟨m, by omega⟩
/-- A word: 1 to 64 bytes, the first a letter or _, all of a word. -/
def wordB (l : List UInt8) : Bool := decide (1 ≤ l.length) && decide (l.length ≤ 64) && (l.take 1).all sttB && l.all wdB
/-- An operator: 1 to 64 symbols, not two or more minus signs alone. -/
def symbolB (l : List UInt8) : Bool := decide (1 ≤ l.length) && decide (l.length ≤ 64) && l.all syB && (!l.all mn || decide (l.length = 1))
def resWords : List (List UInt8) := [[97, 115], [99, 97, 115, 101], [99, 108, 97, 115, 115], [100, 97, 116, 97], [100, 101, 114, 105, 118, 105, 110, 103], [100, 111], [101, 108, 115, 101], [104, 105, 100, 105, 110, 103], [105, 102], [105, 109, 112, 111, 114, 116], [105, 110], [105, 110, 102, 105, 120], [105, 110, 102, 105, 120, 108], [105, 110, 102, 105, 120, 114], [105, 110, 115, 116, 97, 110, 99, 101], [108, 101, 116], [109, 111, 100, 117, 108, 101], [111, 102], [113, 117, 97, 108, 105, 102, 105, 101, 100], [116, 104, 101, 110], [119, 104, 101, 114, 101], [95]]
def resW (l : List UInt8) : Bool := resWords.any (fun x => l == x)
def resSyms : List (List UInt8) := [[46, 46], [58, 58], [61], [92], [124], [60, 45], [45, 62], [64], [126], [61, 62]]
def resS (l : List UInt8) : Bool := resSyms.any (fun x => l == x)
/-- How many of the bytes are minus signs. -/
def mns (l : List UInt8) : Nat := l.countP mn
theorem mns_le (l : List UInt8) : mns l ≤ l.length := List.countP_le_length
theorem mns_all (l : List UInt8) : l.all mn = decide (mns l = l.length) := by
  rw [Bool.eq_iff_iff]; simp [mns, List.countP_eq_length]
theorem mns_snoc {s : ByteArray} {k : Nat} (h : k < s.size) : mns (s.data.toList.take (k + 1)) = mns (s.data.toList.take k) + (if mn s[k] then 1 else 0) := by
  rw [take_snoc s k h, mns, List.countP_append]; simp [mns, List.countP_cons]
abbrev symsBA : ByteArray := { data := #[33, 35, 36, 37, 38, 42, 43, 46, 47, 60, 61, 62, 63, 64, 92, 94, 124, 45, 126, 58] }
/-- None of the first k symbols is n. -/
def NoSy (n : Int) (k : Nat) : Prop := (syms.take k).any (fun c => ((c.toNat : Int) == n)) = false
theorem NoSy.zero (n : Int) : NoSy n 0 := by simp [NoSy]
theorem NoSy.next {n : Int} {k : Nat} (h : NoSy n k) (hk : k < symsBA.size) (hm : ((symsBA[k].toNat : Int) == n) = false) : NoSy n (k + 1) := by
  have hk' : k < syms.length := hk
  unfold NoSy at h ⊢
  rw [List.take_succ_eq_append_getElem hk', List.any_append, h]
  have hm' : ((syms[k].toNat : Int) == n) = false := hm
  simp only [List.any_cons, List.any_nil, hm', Bool.or_false]
theorem NoSy.done {n : Int} (h0 : 0 ≤ n) (h1 : n ≤ 255) {k : Nat} (h : NoSy n k) (hk : 20 ≤ k) : sy n = false := by
  rw [sy_mem n h0 h1]
  unfold NoSy at h
  rwa [List.take_of_length_le (by simpa [syms] using hk)] at h
theorem sy_hit {n : Int} (h0 : 0 ≤ n) (h1 : n ≤ 255) {k : Nat} (hk : k < symsBA.size) (hm : ((symsBA[k].toNat : Int) == n) = true) : sy n = true := by
  rw [sy_mem n h0 h1, List.any_eq_true]
  exact ⟨symsBA[k], by show syms[k]'hk ∈ syms; exact List.getElem_mem _, hm⟩
end Go.Proofs.YtelichlplblboaaGreatDoor
