/-
  NARROWER THAN 'FOR EVERY INPUT', by the rows' own cells (each row's printed sentence says how): ModgraphOrder: loops · ModgraphNeeds: loops · ModgraphCycle: loops · ModgraphSorted: loops · ModgraphDual: loops.
  DERIVED. THE GIVEN ROWS OF THIS SEAT. 5 by the template 'for every input the law returns true; each argument reads behind the call as it read before'; 0 by the template 'total and deterministic' (their statements: YtigmdiagdlbdpaaGreatTotals.lean).
  GIVEN WITH THE SEED: the statements are not yours to turn. If you find one false, say at which input.
  Laid BY PROGRAM, IN A SANDBOX (cutbox-rows.mjs): the forced cells as the released guide's own fill.sh prints them over the translation d0e5829e4e1c8417… (all of the seat's roots in one cut). By AI agents, Wed Nov 11 2026. No macro, syntax, notation, axiom, sorry.
-/
import Derived.Test.YtigmdiagdlbdpaaGreatChecked
import GoSem.Claim
import GoSem.ClaimJoined
import GoSem.ClaimMapViews
import Derived.JoinedTies
import Derived.KernelRfl
namespace Go.Proofs.YtigmdiagdlbdpaaGreat
/- THE CELL 'sum', in the pinned program and in every row, IS THE sha256 OF THE DUMP (.gsa) THAT YtigmdiagdlbdpaaGreatProg.lean LOADS. Nothing in Lean hashes anything: it is a label: what it is worth is what the hold of that sum in a sandbox is worth. -/
noncomputable def Tryz.pinned : Pinned := { name := "ytigmdiagdlbdpaagreat", sum := "d0e5829e4e1c841768f77ad7573079eef643ca6d91a2c5f67333974037a25a38", checked := Tryz.checked }
namespace Rows
def none {H : Type} : Left H := { results := [], args := [] }

/-- 'lazyclaw10.ModgraphOrder': WHATEVER THE INPUT: true; the input reads as it did. -/
def modgraphOrderSpec : ChangeSpec := { name := "modgraphOrder", fn := fun _ => fun
  | [d] => { results := [.lit (.bool true)], args := [d] }
  | _ => none }
def modgraphOrderRow : OpenClaim := { program := "ytigmdiagdlbdpaagreat", sum := "d0e5829e4e1c841768f77ad7573079eef643ca6d91a2c5f67333974037a25a38", func := "lazyc/lazyclaw10.ModgraphOrder", spec := "modgraphOrder", unfollowed := true, recurses := true, loops := true, apart := false }
def ModgraphOrderSaid : Prop := modgraphOrderRow.holds Tryz.pinned (OpenSpec.ofChange modgraphOrderSpec)

/-- ITS FALSE NEIGHBOUR: 'it returns false'. Refute it at one input. -/
def modgraphOrderWrong : ChangeSpec := { name := "modgraphOrder", fn := fun _ => fun
  | [d] => { results := [.lit (.bool false)], args := [d] }
  | _ => none }
def ModgraphOrderWrongFalsely : Prop := modgraphOrderRow.holds Tryz.pinned (OpenSpec.ofChange modgraphOrderWrong)

/-- 'lazyclaw10.ModgraphNeeds': WHATEVER THE INPUT: true; the input reads as it did. -/
def modgraphNeedsSpec : ChangeSpec := { name := "modgraphNeeds", fn := fun _ => fun
  | [d1, d2] => { results := [.lit (.bool true)], args := [d1, d2] }
  | _ => none }
def modgraphNeedsRow : OpenClaim := { program := "ytigmdiagdlbdpaagreat", sum := "d0e5829e4e1c841768f77ad7573079eef643ca6d91a2c5f67333974037a25a38", func := "lazyc/lazyclaw10.ModgraphNeeds", spec := "modgraphNeeds", unfollowed := true, recurses := true, loops := true, apart := false }
def ModgraphNeedsSaid : Prop := modgraphNeedsRow.holds Tryz.pinned (OpenSpec.ofChange modgraphNeedsSpec)

/-- ITS FALSE NEIGHBOUR: 'it returns false'. Refute it at one input. -/
def modgraphNeedsWrong : ChangeSpec := { name := "modgraphNeeds", fn := fun _ => fun
  | [d1, d2] => { results := [.lit (.bool false)], args := [d1, d2] }
  | _ => none }
def ModgraphNeedsWrongFalsely : Prop := modgraphNeedsRow.holds Tryz.pinned (OpenSpec.ofChange modgraphNeedsWrong)

/-- 'lazyclaw10.ModgraphCycle': WHATEVER THE INPUT: true; the input reads as it did. -/
def modgraphCycleSpec : ChangeSpec := { name := "modgraphCycle", fn := fun _ => fun
  | [d] => { results := [.lit (.bool true)], args := [d] }
  | _ => none }
def modgraphCycleRow : OpenClaim := { program := "ytigmdiagdlbdpaagreat", sum := "d0e5829e4e1c841768f77ad7573079eef643ca6d91a2c5f67333974037a25a38", func := "lazyc/lazyclaw10.ModgraphCycle", spec := "modgraphCycle", unfollowed := true, recurses := true, loops := true, apart := false }
def ModgraphCycleSaid : Prop := modgraphCycleRow.holds Tryz.pinned (OpenSpec.ofChange modgraphCycleSpec)

/-- ITS FALSE NEIGHBOUR: 'it returns false'. Refute it at one input. -/
def modgraphCycleWrong : ChangeSpec := { name := "modgraphCycle", fn := fun _ => fun
  | [d] => { results := [.lit (.bool false)], args := [d] }
  | _ => none }
def ModgraphCycleWrongFalsely : Prop := modgraphCycleRow.holds Tryz.pinned (OpenSpec.ofChange modgraphCycleWrong)

/-- 'lazyclaw10.ModgraphSorted': WHATEVER THE INPUT: true; the input reads as it did. -/
def modgraphSortedSpec : ChangeSpec := { name := "modgraphSorted", fn := fun _ => fun
  | [d] => { results := [.lit (.bool true)], args := [d] }
  | _ => none }
def modgraphSortedRow : OpenClaim := { program := "ytigmdiagdlbdpaagreat", sum := "d0e5829e4e1c841768f77ad7573079eef643ca6d91a2c5f67333974037a25a38", func := "lazyc/lazyclaw10.ModgraphSorted", spec := "modgraphSorted", unfollowed := true, recurses := true, loops := true, apart := false }
def ModgraphSortedSaid : Prop := modgraphSortedRow.holds Tryz.pinned (OpenSpec.ofChange modgraphSortedSpec)

/-- ITS FALSE NEIGHBOUR: 'it returns false'. Refute it at one input. -/
def modgraphSortedWrong : ChangeSpec := { name := "modgraphSorted", fn := fun _ => fun
  | [d] => { results := [.lit (.bool false)], args := [d] }
  | _ => none }
def ModgraphSortedWrongFalsely : Prop := modgraphSortedRow.holds Tryz.pinned (OpenSpec.ofChange modgraphSortedWrong)

/-- 'lazyclaw10.ModgraphDual': WHATEVER THE INPUT: true; the input reads as it did. -/
def modgraphDualSpec : ChangeSpec := { name := "modgraphDual", fn := fun _ => fun
  | [d1, d2, d3] => { results := [.lit (.bool true)], args := [d1, d2, d3] }
  | _ => none }
def modgraphDualRow : OpenClaim := { program := "ytigmdiagdlbdpaagreat", sum := "d0e5829e4e1c841768f77ad7573079eef643ca6d91a2c5f67333974037a25a38", func := "lazyc/lazyclaw10.ModgraphDual", spec := "modgraphDual", unfollowed := true, recurses := true, loops := true, apart := false }
def ModgraphDualSaid : Prop := modgraphDualRow.holds Tryz.pinned (OpenSpec.ofChange modgraphDualSpec)

/-- ITS FALSE NEIGHBOUR: 'it returns false'. Refute it at one input. -/
def modgraphDualWrong : ChangeSpec := { name := "modgraphDual", fn := fun _ => fun
  | [d1, d2, d3] => { results := [.lit (.bool false)], args := [d1, d2, d3] }
  | _ => none }
def ModgraphDualWrongFalsely : Prop := modgraphDualRow.holds Tryz.pinned (OpenSpec.ofChange modgraphDualWrong)

/- THE SECOND FORM. 'bulk': how many values and letters a reading holds, each counted each time it is reached (what is shared counts as often as it is met; a slice's spare places count too). A statement '..UptoSaid' is the law's where the arguments, and the package variables that the reading takes, are together of bulk at most 1048576: NARROWER than '..Said'. Prove '..Said' where nothing that the law and all that it calls make is longer than what came in: it says more and counts as full. Else prove '..UptoSaid'. A law counts once. -/
mutual
def uptoBulk {H : Type} : DataW H → Nat
  | .lit (.string bytes) => bytes.length + 1
  | .lit _ => 1
  | .nil => 1
  | .ptr d => uptoBulk d + 1
  | .slice elems spare => uptoBulkAll elems + uptoBulkAll spare + 1
  | .agg parts => uptoBulkAll parts + 1
  | .iface _ d => uptoBulk d + 1
  | .map entries => uptoBulkEntries entries + 1
  | .held _ => 1
def uptoBulkAll {H : Type} : List (DataW H) → Nat
  | [] => 0
  | d :: r => uptoBulk d + uptoBulkAll r
def uptoBulkEntries {H : Type} : List (Lit × DataW H) → Nat
  | [] => 0
  | x :: r => uptoBulkEntry x + uptoBulkEntries r
def uptoBulkEntry {H : Type} : Lit × DataW H → Nat
  | (.string bytes, d) => bytes.length + uptoBulk d + 1
  | (_, d) => uptoBulk d + 1
 end
def uptoSmall : (H : Type) → List (DataW H) → Bool := fun _ ds => decide (uptoBulkAll ds ≤ 1048576)
def OpenSpec.upto (s : _root_.Go.ChangeSpec) : _root_.Go.OpenSpec := { _root_.Go.OpenSpec.ofChange s with cond := some uptoSmall }

/-- 'lazyclaw10.ModgraphOrder', WHERE WHAT IT READS IS OF BULK AT MOST 1048576: true; the input reads as it did. -/
def modgraphOrderUptoRow : OpenClaim := { program := "ytigmdiagdlbdpaagreat", sum := "d0e5829e4e1c841768f77ad7573079eef643ca6d91a2c5f67333974037a25a38", func := "lazyc/lazyclaw10.ModgraphOrder", spec := "modgraphOrder", unfollowed := true, recurses := true, loops := true, apart := false, narrowed := true }
def ModgraphOrderUptoSaid : Prop := modgraphOrderUptoRow.holds Tryz.pinned (OpenSpec.upto modgraphOrderSpec)

/-- 'lazyclaw10.ModgraphNeeds', WHERE WHAT IT READS IS OF BULK AT MOST 1048576: true; the input reads as it did. -/
def modgraphNeedsUptoRow : OpenClaim := { program := "ytigmdiagdlbdpaagreat", sum := "d0e5829e4e1c841768f77ad7573079eef643ca6d91a2c5f67333974037a25a38", func := "lazyc/lazyclaw10.ModgraphNeeds", spec := "modgraphNeeds", unfollowed := true, recurses := true, loops := true, apart := false, narrowed := true }
def ModgraphNeedsUptoSaid : Prop := modgraphNeedsUptoRow.holds Tryz.pinned (OpenSpec.upto modgraphNeedsSpec)

/-- 'lazyclaw10.ModgraphCycle', WHERE WHAT IT READS IS OF BULK AT MOST 1048576: true; the input reads as it did. -/
def modgraphCycleUptoRow : OpenClaim := { program := "ytigmdiagdlbdpaagreat", sum := "d0e5829e4e1c841768f77ad7573079eef643ca6d91a2c5f67333974037a25a38", func := "lazyc/lazyclaw10.ModgraphCycle", spec := "modgraphCycle", unfollowed := true, recurses := true, loops := true, apart := false, narrowed := true }
def ModgraphCycleUptoSaid : Prop := modgraphCycleUptoRow.holds Tryz.pinned (OpenSpec.upto modgraphCycleSpec)

/-- 'lazyclaw10.ModgraphSorted', WHERE WHAT IT READS IS OF BULK AT MOST 1048576: true; the input reads as it did. -/
def modgraphSortedUptoRow : OpenClaim := { program := "ytigmdiagdlbdpaagreat", sum := "d0e5829e4e1c841768f77ad7573079eef643ca6d91a2c5f67333974037a25a38", func := "lazyc/lazyclaw10.ModgraphSorted", spec := "modgraphSorted", unfollowed := true, recurses := true, loops := true, apart := false, narrowed := true }
def ModgraphSortedUptoSaid : Prop := modgraphSortedUptoRow.holds Tryz.pinned (OpenSpec.upto modgraphSortedSpec)

/-- 'lazyclaw10.ModgraphDual', WHERE WHAT IT READS IS OF BULK AT MOST 1048576: true; the input reads as it did. -/
def modgraphDualUptoRow : OpenClaim := { program := "ytigmdiagdlbdpaagreat", sum := "d0e5829e4e1c841768f77ad7573079eef643ca6d91a2c5f67333974037a25a38", func := "lazyc/lazyclaw10.ModgraphDual", spec := "modgraphDual", unfollowed := true, recurses := true, loops := true, apart := false, narrowed := true }
def ModgraphDualUptoSaid : Prop := modgraphDualUptoRow.holds Tryz.pinned (OpenSpec.upto modgraphDualSpec)

end Rows
end Go.Proofs.YtigmdiagdlbdpaaGreat
