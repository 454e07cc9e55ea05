/-
  No cell of these rows narrows 'for every input' (looked for: loops, veiled, ifaces, maps, wideKeys, modest, calm, conditions, laid).
  DERIVED. THE GIVEN ROWS OF THIS SEAT. 5 by the template 'for every input the law returns true; each argument reads behind the call as it read before'; 0 by the template 'total and deterministic' (their statements: YtkdogaomlocijaaTotals.lean).
  GIVEN WITH THE SEED: the statements are not yours to turn. If you find one false, say at which input.
  Laid BY PROGRAM, IN A SANDBOX (cutbox-rows.mjs): the forced cells as the released guide's own fill.sh prints them over the translation 1b67e30a4e8ebe83… (all of the seat's roots in one cut). By AI agents, Wed Nov 11 2026. No macro, syntax, notation, axiom, sorry.
-/
import Derived.Test.YtkdogaomlocijaaChecked
import GoSem.Claim
import GoSem.ClaimJoined
import GoSem.ClaimMapViews
import Derived.JoinedTies
import Derived.KernelRfl
namespace Go.Proofs.Ytkdogaomlocijaa
/- THE CELL 'sum', in the pinned program and in every row, IS THE sha256 OF THE DUMP (.gsa) THAT YtkdogaomlocijaaProg.lean LOADS. Nothing in Lean hashes anything: it is a label: what it is worth is what the hold of that sum in a sandbox is worth. -/
noncomputable def Try.pinned : Pinned := { name := "ytkdogaomlocijaa", sum := "1b67e30a4e8ebe83b9d4b4fac1de77456fbca99f4b91d37a6c4b222502f0cdec", checked := Try.checked }
namespace Rows
def none {H : Type} : Left H := { results := [], args := [] }

/-- 'lazyclaw03.LayoutInsert': WHATEVER THE INPUT: true; the input reads as it did. -/
def layoutInsertSpec : ChangeSpec := { name := "layoutInsert", fn := fun _ => fun
  | [d] => { results := [.lit (.bool true)], args := [d] }
  | _ => none }
def layoutInsertRow : OpenClaim := { program := "ytkdogaomlocijaa", sum := "1b67e30a4e8ebe83b9d4b4fac1de77456fbca99f4b91d37a6c4b222502f0cdec", func := "lazyc/lazyclaw03.LayoutInsert", spec := "layoutInsert", unfollowed := true, recurses := true, apart := false }
def LayoutInsertSaid : Prop := layoutInsertRow.holds Try.pinned (OpenSpec.ofChange layoutInsertSpec)

/-- ITS FALSE NEIGHBOUR: 'it returns false'. Refute it at one input. -/
def layoutInsertWrong : ChangeSpec := { name := "layoutInsert", fn := fun _ => fun
  | [d] => { results := [.lit (.bool false)], args := [d] }
  | _ => none }
def LayoutInsertWrongFalsely : Prop := layoutInsertRow.holds Try.pinned (OpenSpec.ofChange layoutInsertWrong)

/-- 'lazyclaw03.LayoutStrip': WHATEVER THE INPUT: true; the input reads as it did. -/
def layoutStripSpec : ChangeSpec := { name := "layoutStrip", fn := fun _ => fun
  | [d] => { results := [.lit (.bool true)], args := [d] }
  | _ => none }
def layoutStripRow : OpenClaim := { program := "ytkdogaomlocijaa", sum := "1b67e30a4e8ebe83b9d4b4fac1de77456fbca99f4b91d37a6c4b222502f0cdec", func := "lazyc/lazyclaw03.LayoutStrip", spec := "layoutStrip", unfollowed := true, recurses := true, apart := false }
def LayoutStripSaid : Prop := layoutStripRow.holds Try.pinned (OpenSpec.ofChange layoutStripSpec)

/-- ITS FALSE NEIGHBOUR: 'it returns false'. Refute it at one input. -/
def layoutStripWrong : ChangeSpec := { name := "layoutStrip", fn := fun _ => fun
  | [d] => { results := [.lit (.bool false)], args := [d] }
  | _ => none }
def LayoutStripWrongFalsely : Prop := layoutStripRow.holds Try.pinned (OpenSpec.ofChange layoutStripWrong)

/-- 'lazyclaw03.LayoutBalanced': WHATEVER THE INPUT: true; the input reads as it did. -/
def layoutBalancedSpec : ChangeSpec := { name := "layoutBalanced", fn := fun _ => fun
  | [d] => { results := [.lit (.bool true)], args := [d] }
  | _ => none }
def layoutBalancedRow : OpenClaim := { program := "ytkdogaomlocijaa", sum := "1b67e30a4e8ebe83b9d4b4fac1de77456fbca99f4b91d37a6c4b222502f0cdec", func := "lazyc/lazyclaw03.LayoutBalanced", spec := "layoutBalanced", unfollowed := true, recurses := true, apart := false }
def LayoutBalancedSaid : Prop := layoutBalancedRow.holds Try.pinned (OpenSpec.ofChange layoutBalancedSpec)

/-- ITS FALSE NEIGHBOUR: 'it returns false'. Refute it at one input. -/
def layoutBalancedWrong : ChangeSpec := { name := "layoutBalanced", fn := fun _ => fun
  | [d] => { results := [.lit (.bool false)], args := [d] }
  | _ => none }
def LayoutBalancedWrongFalsely : Prop := layoutBalancedRow.holds Try.pinned (OpenSpec.ofChange layoutBalancedWrong)

/-- 'lazyclaw03.LayoutExplicit': WHATEVER THE INPUT: true; the input reads as it did. -/
def layoutExplicitSpec : ChangeSpec := { name := "layoutExplicit", fn := fun _ => fun
  | [d] => { results := [.lit (.bool true)], args := [d] }
  | _ => none }
def layoutExplicitRow : OpenClaim := { program := "ytkdogaomlocijaa", sum := "1b67e30a4e8ebe83b9d4b4fac1de77456fbca99f4b91d37a6c4b222502f0cdec", func := "lazyc/lazyclaw03.LayoutExplicit", spec := "layoutExplicit", unfollowed := true, recurses := true, apart := false }
def LayoutExplicitSaid : Prop := layoutExplicitRow.holds Try.pinned (OpenSpec.ofChange layoutExplicitSpec)

/-- ITS FALSE NEIGHBOUR: 'it returns false'. Refute it at one input. -/
def layoutExplicitWrong : ChangeSpec := { name := "layoutExplicit", fn := fun _ => fun
  | [d] => { results := [.lit (.bool false)], args := [d] }
  | _ => none }
def LayoutExplicitWrongFalsely : Prop := layoutExplicitRow.holds Try.pinned (OpenSpec.ofChange layoutExplicitWrong)

/-- 'lazyclaw03.LayoutDepth': WHATEVER THE INPUT: true; the input reads as it did. -/
def layoutDepthSpec : ChangeSpec := { name := "layoutDepth", fn := fun _ => fun
  | [d] => { results := [.lit (.bool true)], args := [d] }
  | _ => none }
def layoutDepthRow : OpenClaim := { program := "ytkdogaomlocijaa", sum := "1b67e30a4e8ebe83b9d4b4fac1de77456fbca99f4b91d37a6c4b222502f0cdec", func := "lazyc/lazyclaw03.LayoutDepth", spec := "layoutDepth", unfollowed := true, recurses := true, apart := false }
def LayoutDepthSaid : Prop := layoutDepthRow.holds Try.pinned (OpenSpec.ofChange layoutDepthSpec)

/-- ITS FALSE NEIGHBOUR: 'it returns false'. Refute it at one input. -/
def layoutDepthWrong : ChangeSpec := { name := "layoutDepth", fn := fun _ => fun
  | [d] => { results := [.lit (.bool false)], args := [d] }
  | _ => none }
def LayoutDepthWrongFalsely : Prop := layoutDepthRow.holds Try.pinned (OpenSpec.ofChange layoutDepthWrong)

/- THE SECOND FORM. 'bulk': how many values and letters a reading holds, each counted each time it is reached (what is shared counts as often as it is met; a slice's spare places count too). A statement '..UptoSaid' is the law's where the arguments, and the package variables that the reading takes, are together of bulk at most 1048576: NARROWER than '..Said'. Prove '..Said' where nothing that the law and all that it calls make is longer than what came in: it says more and counts as full. Else prove '..UptoSaid'. A law counts once. -/
mutual
def uptoBulk {H : Type} : DataW H → Nat
  | .lit (.string bytes) => bytes.length + 1
  | .lit _ => 1
  | .nil => 1
  | .ptr d => uptoBulk d + 1
  | .slice elems spare => uptoBulkAll elems + uptoBulkAll spare + 1
  | .agg parts => uptoBulkAll parts + 1
  | .iface _ d => uptoBulk d + 1
  | .map entries => uptoBulkEntries entries + 1
  | .held _ => 1
def uptoBulkAll {H : Type} : List (DataW H) → Nat
  | [] => 0
  | d :: r => uptoBulk d + uptoBulkAll r
def uptoBulkEntries {H : Type} : List (Lit × DataW H) → Nat
  | [] => 0
  | x :: r => uptoBulkEntry x + uptoBulkEntries r
def uptoBulkEntry {H : Type} : Lit × DataW H → Nat
  | (.string bytes, d) => bytes.length + uptoBulk d + 1
  | (_, d) => uptoBulk d + 1
 end
def uptoSmall : (H : Type) → List (DataW H) → Bool := fun _ ds => decide (uptoBulkAll ds ≤ 1048576)
def OpenSpec.upto (s : _root_.Go.ChangeSpec) : _root_.Go.OpenSpec := { _root_.Go.OpenSpec.ofChange s with cond := some uptoSmall }

/-- 'lazyclaw03.LayoutInsert', WHERE WHAT IT READS IS OF BULK AT MOST 1048576: true; the input reads as it did. -/
def layoutInsertUptoRow : OpenClaim := { program := "ytkdogaomlocijaa", sum := "1b67e30a4e8ebe83b9d4b4fac1de77456fbca99f4b91d37a6c4b222502f0cdec", func := "lazyc/lazyclaw03.LayoutInsert", spec := "layoutInsert", unfollowed := true, recurses := true, apart := false, narrowed := true }
def LayoutInsertUptoSaid : Prop := layoutInsertUptoRow.holds Try.pinned (OpenSpec.upto layoutInsertSpec)

/-- 'lazyclaw03.LayoutStrip', WHERE WHAT IT READS IS OF BULK AT MOST 1048576: true; the input reads as it did. -/
def layoutStripUptoRow : OpenClaim := { program := "ytkdogaomlocijaa", sum := "1b67e30a4e8ebe83b9d4b4fac1de77456fbca99f4b91d37a6c4b222502f0cdec", func := "lazyc/lazyclaw03.LayoutStrip", spec := "layoutStrip", unfollowed := true, recurses := true, apart := false, narrowed := true }
def LayoutStripUptoSaid : Prop := layoutStripUptoRow.holds Try.pinned (OpenSpec.upto layoutStripSpec)

/-- 'lazyclaw03.LayoutBalanced', WHERE WHAT IT READS IS OF BULK AT MOST 1048576: true; the input reads as it did. -/
def layoutBalancedUptoRow : OpenClaim := { program := "ytkdogaomlocijaa", sum := "1b67e30a4e8ebe83b9d4b4fac1de77456fbca99f4b91d37a6c4b222502f0cdec", func := "lazyc/lazyclaw03.LayoutBalanced", spec := "layoutBalanced", unfollowed := true, recurses := true, apart := false, narrowed := true }
def LayoutBalancedUptoSaid : Prop := layoutBalancedUptoRow.holds Try.pinned (OpenSpec.upto layoutBalancedSpec)

/-- 'lazyclaw03.LayoutExplicit', WHERE WHAT IT READS IS OF BULK AT MOST 1048576: true; the input reads as it did. -/
def layoutExplicitUptoRow : OpenClaim := { program := "ytkdogaomlocijaa", sum := "1b67e30a4e8ebe83b9d4b4fac1de77456fbca99f4b91d37a6c4b222502f0cdec", func := "lazyc/lazyclaw03.LayoutExplicit", spec := "layoutExplicit", unfollowed := true, recurses := true, apart := false, narrowed := true }
def LayoutExplicitUptoSaid : Prop := layoutExplicitUptoRow.holds Try.pinned (OpenSpec.upto layoutExplicitSpec)

/-- 'lazyclaw03.LayoutDepth', WHERE WHAT IT READS IS OF BULK AT MOST 1048576: true; the input reads as it did. -/
def layoutDepthUptoRow : OpenClaim := { program := "ytkdogaomlocijaa", sum := "1b67e30a4e8ebe83b9d4b4fac1de77456fbca99f4b91d37a6c4b222502f0cdec", func := "lazyc/lazyclaw03.LayoutDepth", spec := "layoutDepth", unfollowed := true, recurses := true, apart := false, narrowed := true }
def LayoutDepthUptoSaid : Prop := layoutDepthUptoRow.holds Try.pinned (OpenSpec.upto layoutDepthSpec)

end Rows
end Go.Proofs.Ytkdogaomlocijaa
