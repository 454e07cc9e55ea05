/-
  No cell of these rows narrows 'for every input' (looked for: loops, veiled, ifaces, maps, wideKeys, modest, calm, conditions, laid).
  DERIVED. THE GIVEN ROWS OF THIS SEAT. 6 by the template 'for every input the law returns true; each argument reads behind the call as it read before'; 0 by the template 'total and deterministic' (their statements: YtlnknkplebaioaaTotals.lean).
  GIVEN WITH THE SEED: the statements are not yours to turn. If you find one false, say at which input.
  Laid BY PROGRAM, IN A SANDBOX (cutbox-rows.mjs): the forced cells as the released guide's own fill.sh prints them over the translation 6fe3a49aab088633… (all of the seat's roots in one cut). By AI agents, Wed Nov 11 2026. No macro, syntax, notation, axiom, sorry.
-/
import Derived.Test.YtlnknkplebaioaaChecked
import GoSem.Claim
import GoSem.ClaimJoined
import GoSem.ClaimMapViews
import Derived.JoinedTies
import Derived.KernelRfl
namespace Go.Proofs.Ytlnknkplebaioaa
/- THE CELL 'sum', in the pinned program and in every row, IS THE sha256 OF THE DUMP (.gsa) THAT YtlnknkplebaioaaProg.lean LOADS. Nothing in Lean hashes anything: it is a label: what it is worth is what the hold of that sum in a sandbox is worth. -/
noncomputable def Try.pinned : Pinned := { name := "ytlnknkplebaioaa", sum := "6fe3a49aab088633565214a31fe73d77daf405dc9e6558e943be23a945c2c81d", checked := Try.checked }
namespace Rows
def none {H : Type} : Left H := { results := [], args := [] }

/-- 'lazyclaw09.GraphComponents': WHATEVER THE INPUT: true; the input reads as it did. -/
def graphComponentsSpec : ChangeSpec := { name := "graphComponents", fn := fun _ => fun
  | [d] => { results := [.lit (.bool true)], args := [d] }
  | _ => none }
def graphComponentsRow : OpenClaim := { program := "ytlnknkplebaioaa", sum := "6fe3a49aab088633565214a31fe73d77daf405dc9e6558e943be23a945c2c81d", func := "lazyc/lazyclaw09.GraphComponents", spec := "graphComponents", unfollowed := true, recurses := true, plainKeys := false, apart := false }
def GraphComponentsSaid : Prop := graphComponentsRow.holds Try.pinned (OpenSpec.ofChange graphComponentsSpec)

/-- ITS FALSE NEIGHBOUR: 'it returns false'. Refute it at one input. -/
def graphComponentsWrong : ChangeSpec := { name := "graphComponents", fn := fun _ => fun
  | [d] => { results := [.lit (.bool false)], args := [d] }
  | _ => none }
def GraphComponentsWrongFalsely : Prop := graphComponentsRow.holds Try.pinned (OpenSpec.ofChange graphComponentsWrong)

/-- 'lazyclaw09.GraphReach': WHATEVER THE INPUT: true; the input reads as it did. -/
def graphReachSpec : ChangeSpec := { name := "graphReach", fn := fun _ => fun
  | [d1, d2] => { results := [.lit (.bool true)], args := [d1, d2] }
  | _ => none }
def graphReachRow : OpenClaim := { program := "ytlnknkplebaioaa", sum := "6fe3a49aab088633565214a31fe73d77daf405dc9e6558e943be23a945c2c81d", func := "lazyc/lazyclaw09.GraphReach", spec := "graphReach", unfollowed := true, recurses := true, plainKeys := false, apart := false }
def GraphReachSaid : Prop := graphReachRow.holds Try.pinned (OpenSpec.ofChange graphReachSpec)

/-- ITS FALSE NEIGHBOUR: 'it returns false'. Refute it at one input. -/
def graphReachWrong : ChangeSpec := { name := "graphReach", fn := fun _ => fun
  | [d1, d2] => { results := [.lit (.bool false)], args := [d1, d2] }
  | _ => none }
def GraphReachWrongFalsely : Prop := graphReachRow.holds Try.pinned (OpenSpec.ofChange graphReachWrong)

/-- 'lazyclaw09.GraphLevels': WHATEVER THE INPUT: true; the input reads as it did. -/
def graphLevelsSpec : ChangeSpec := { name := "graphLevels", fn := fun _ => fun
  | [d] => { results := [.lit (.bool true)], args := [d] }
  | _ => none }
def graphLevelsRow : OpenClaim := { program := "ytlnknkplebaioaa", sum := "6fe3a49aab088633565214a31fe73d77daf405dc9e6558e943be23a945c2c81d", func := "lazyc/lazyclaw09.GraphLevels", spec := "graphLevels", unfollowed := true, recurses := true, plainKeys := false, apart := false }
def GraphLevelsSaid : Prop := graphLevelsRow.holds Try.pinned (OpenSpec.ofChange graphLevelsSpec)

/-- ITS FALSE NEIGHBOUR: 'it returns false'. Refute it at one input. -/
def graphLevelsWrong : ChangeSpec := { name := "graphLevels", fn := fun _ => fun
  | [d] => { results := [.lit (.bool false)], args := [d] }
  | _ => none }
def GraphLevelsWrongFalsely : Prop := graphLevelsRow.holds Try.pinned (OpenSpec.ofChange graphLevelsWrong)

/-- 'lazyclaw09.GraphGroup': WHATEVER THE INPUT: true; the input reads as it did. -/
def graphGroupSpec : ChangeSpec := { name := "graphGroup", fn := fun _ => fun
  | [d] => { results := [.lit (.bool true)], args := [d] }
  | _ => none }
def graphGroupRow : OpenClaim := { program := "ytlnknkplebaioaa", sum := "6fe3a49aab088633565214a31fe73d77daf405dc9e6558e943be23a945c2c81d", func := "lazyc/lazyclaw09.GraphGroup", spec := "graphGroup", unfollowed := true, recurses := true, plainKeys := false, apart := false }
def GraphGroupSaid : Prop := graphGroupRow.holds Try.pinned (OpenSpec.ofChange graphGroupSpec)

/-- ITS FALSE NEIGHBOUR: 'it returns false'. Refute it at one input. -/
def graphGroupWrong : ChangeSpec := { name := "graphGroup", fn := fun _ => fun
  | [d] => { results := [.lit (.bool false)], args := [d] }
  | _ => none }
def GraphGroupWrongFalsely : Prop := graphGroupRow.holds Try.pinned (OpenSpec.ofChange graphGroupWrong)

/-- 'lazyclaw09.GraphOrder': WHATEVER THE INPUT: true; the input reads as it did. -/
def graphOrderSpec : ChangeSpec := { name := "graphOrder", fn := fun _ => fun
  | [d] => { results := [.lit (.bool true)], args := [d] }
  | _ => none }
def graphOrderRow : OpenClaim := { program := "ytlnknkplebaioaa", sum := "6fe3a49aab088633565214a31fe73d77daf405dc9e6558e943be23a945c2c81d", func := "lazyc/lazyclaw09.GraphOrder", spec := "graphOrder", unfollowed := true, recurses := true, plainKeys := false, apart := false }
def GraphOrderSaid : Prop := graphOrderRow.holds Try.pinned (OpenSpec.ofChange graphOrderSpec)

/-- ITS FALSE NEIGHBOUR: 'it returns false'. Refute it at one input. -/
def graphOrderWrong : ChangeSpec := { name := "graphOrder", fn := fun _ => fun
  | [d] => { results := [.lit (.bool false)], args := [d] }
  | _ => none }
def GraphOrderWrongFalsely : Prop := graphOrderRow.holds Try.pinned (OpenSpec.ofChange graphOrderWrong)

/-- 'lazyclaw09.GraphMutual': WHATEVER THE INPUT: true; the input reads as it did. -/
def graphMutualSpec : ChangeSpec := { name := "graphMutual", fn := fun _ => fun
  | [d1, d2, d3] => { results := [.lit (.bool true)], args := [d1, d2, d3] }
  | _ => none }
def graphMutualRow : OpenClaim := { program := "ytlnknkplebaioaa", sum := "6fe3a49aab088633565214a31fe73d77daf405dc9e6558e943be23a945c2c81d", func := "lazyc/lazyclaw09.GraphMutual", spec := "graphMutual", unfollowed := true, recurses := true, plainKeys := false, apart := false }
def GraphMutualSaid : Prop := graphMutualRow.holds Try.pinned (OpenSpec.ofChange graphMutualSpec)

/-- ITS FALSE NEIGHBOUR: 'it returns false'. Refute it at one input. -/
def graphMutualWrong : ChangeSpec := { name := "graphMutual", fn := fun _ => fun
  | [d1, d2, d3] => { results := [.lit (.bool false)], args := [d1, d2, d3] }
  | _ => none }
def GraphMutualWrongFalsely : Prop := graphMutualRow.holds Try.pinned (OpenSpec.ofChange graphMutualWrong)

/- THE SECOND FORM. 'bulk': how many values and letters a reading holds, each counted each time it is reached (what is shared counts as often as it is met; a slice's spare places count too). A statement '..UptoSaid' is the law's where the arguments, and the package variables that the reading takes, are together of bulk at most 1048576: NARROWER than '..Said'. Prove '..Said' where nothing that the law and all that it calls make is longer than what came in: it says more and counts as full. Else prove '..UptoSaid'. A law counts once. -/
mutual
def uptoBulk {H : Type} : DataW H → Nat
  | .lit (.string bytes) => bytes.length + 1
  | .lit _ => 1
  | .nil => 1
  | .ptr d => uptoBulk d + 1
  | .slice elems spare => uptoBulkAll elems + uptoBulkAll spare + 1
  | .agg parts => uptoBulkAll parts + 1
  | .iface _ d => uptoBulk d + 1
  | .map entries => uptoBulkEntries entries + 1
  | .held _ => 1
def uptoBulkAll {H : Type} : List (DataW H) → Nat
  | [] => 0
  | d :: r => uptoBulk d + uptoBulkAll r
def uptoBulkEntries {H : Type} : List (Lit × DataW H) → Nat
  | [] => 0
  | x :: r => uptoBulkEntry x + uptoBulkEntries r
def uptoBulkEntry {H : Type} : Lit × DataW H → Nat
  | (.string bytes, d) => bytes.length + uptoBulk d + 1
  | (_, d) => uptoBulk d + 1
 end
def uptoSmall : (H : Type) → List (DataW H) → Bool := fun _ ds => decide (uptoBulkAll ds ≤ 1048576)
def OpenSpec.upto (s : _root_.Go.ChangeSpec) : _root_.Go.OpenSpec := { _root_.Go.OpenSpec.ofChange s with cond := some uptoSmall }

/-- 'lazyclaw09.GraphComponents', WHERE WHAT IT READS IS OF BULK AT MOST 1048576: true; the input reads as it did. -/
def graphComponentsUptoRow : OpenClaim := { program := "ytlnknkplebaioaa", sum := "6fe3a49aab088633565214a31fe73d77daf405dc9e6558e943be23a945c2c81d", func := "lazyc/lazyclaw09.GraphComponents", spec := "graphComponents", unfollowed := true, recurses := true, plainKeys := false, apart := false, narrowed := true }
def GraphComponentsUptoSaid : Prop := graphComponentsUptoRow.holds Try.pinned (OpenSpec.upto graphComponentsSpec)

/-- 'lazyclaw09.GraphReach', WHERE WHAT IT READS IS OF BULK AT MOST 1048576: true; the input reads as it did. -/
def graphReachUptoRow : OpenClaim := { program := "ytlnknkplebaioaa", sum := "6fe3a49aab088633565214a31fe73d77daf405dc9e6558e943be23a945c2c81d", func := "lazyc/lazyclaw09.GraphReach", spec := "graphReach", unfollowed := true, recurses := true, plainKeys := false, apart := false, narrowed := true }
def GraphReachUptoSaid : Prop := graphReachUptoRow.holds Try.pinned (OpenSpec.upto graphReachSpec)

/-- 'lazyclaw09.GraphLevels', WHERE WHAT IT READS IS OF BULK AT MOST 1048576: true; the input reads as it did. -/
def graphLevelsUptoRow : OpenClaim := { program := "ytlnknkplebaioaa", sum := "6fe3a49aab088633565214a31fe73d77daf405dc9e6558e943be23a945c2c81d", func := "lazyc/lazyclaw09.GraphLevels", spec := "graphLevels", unfollowed := true, recurses := true, plainKeys := false, apart := false, narrowed := true }
def GraphLevelsUptoSaid : Prop := graphLevelsUptoRow.holds Try.pinned (OpenSpec.upto graphLevelsSpec)

/-- 'lazyclaw09.GraphGroup', WHERE WHAT IT READS IS OF BULK AT MOST 1048576: true; the input reads as it did. -/
def graphGroupUptoRow : OpenClaim := { program := "ytlnknkplebaioaa", sum := "6fe3a49aab088633565214a31fe73d77daf405dc9e6558e943be23a945c2c81d", func := "lazyc/lazyclaw09.GraphGroup", spec := "graphGroup", unfollowed := true, recurses := true, plainKeys := false, apart := false, narrowed := true }
def GraphGroupUptoSaid : Prop := graphGroupUptoRow.holds Try.pinned (OpenSpec.upto graphGroupSpec)

/-- 'lazyclaw09.GraphOrder', WHERE WHAT IT READS IS OF BULK AT MOST 1048576: true; the input reads as it did. -/
def graphOrderUptoRow : OpenClaim := { program := "ytlnknkplebaioaa", sum := "6fe3a49aab088633565214a31fe73d77daf405dc9e6558e943be23a945c2c81d", func := "lazyc/lazyclaw09.GraphOrder", spec := "graphOrder", unfollowed := true, recurses := true, plainKeys := false, apart := false, narrowed := true }
def GraphOrderUptoSaid : Prop := graphOrderUptoRow.holds Try.pinned (OpenSpec.upto graphOrderSpec)

/-- 'lazyclaw09.GraphMutual', WHERE WHAT IT READS IS OF BULK AT MOST 1048576: true; the input reads as it did. -/
def graphMutualUptoRow : OpenClaim := { program := "ytlnknkplebaioaa", sum := "6fe3a49aab088633565214a31fe73d77daf405dc9e6558e943be23a945c2c81d", func := "lazyc/lazyclaw09.GraphMutual", spec := "graphMutual", unfollowed := true, recurses := true, plainKeys := false, apart := false, narrowed := true }
def GraphMutualUptoSaid : Prop := graphMutualUptoRow.holds Try.pinned (OpenSpec.upto graphMutualSpec)

end Rows
end Go.Proofs.Ytlnknkplebaioaa
