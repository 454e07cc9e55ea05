/-
  FROM WHAT A ROW HAS (the listed variables as laid, the world's shape) TO THE WORLD OF THE WALKS; the wrap of a law's row.
-/
import Derived.Test.YtelichlplblboaaGreatDoorNma
import Derived.Test.YtelichlplblboaaGreatDoorRows
import Derived.ProofKit
import Derived.Lay
import Derived.LaidOnce
import Derived.HandedShaped
import Derived.Stop.LaidErr
import Derived.ShutString
import Derived.MakeChecks
import Derived.Shelf.Vars
namespace Go.Proofs.YtelichlplblboaaGreatDoor
open Go.ChangeShapes Go.WideShapes Go.ChangeAt Go.RowKit Go.Shelf
abbrev Rows.firstRow : OpenClaim := Rows.lexerLexesRow
theorem own : ownKnob Tryz.prog.godebug = none := by kernel_rfl
theorem starErr : "*" ++ "errors.errorString" = "*errors.errorString" := by decide
theorem rowErr (u : TypeId) (h : Tryz.prog.typeName? 3 u = some "*errors.errorString") : u = 167 :=
  typeName_ptr_named (nm := "errors.errorString") (by rw [starErr]; kernel_rfl) (by kernel_rfl) (by decide) u (by rw [starErr]; exact h)
theorem tySyn : (Tryz.prog.globals[4]?).map (·.type) = some 83 := by kernel_rfl
theorem tyRan : (Tryz.prog.globals[5]?).map (·.type) = some 83 := by kernel_rfl
theorem tyPow : (Tryz.prog.globals[3]?).map (·.type) = some 148 := by kernel_rfl
theorem cellsErr : Tryz.prog.cellsOf 169 = 1 := by kernel_rfl
theorem cellsStr : Tryz.prog.cellsOf 9 = 1 := by kernel_rfl
theorem powData : (Rows.laid_internal_strconv_uint64pow10 : DataW Unit) = Lib.tabData .u64 Lib.pow10Tab := by rfl
theorem maxCell {w : World} (h : w.ShapedOpen Tryz.prog) : ∃ m, w.cell? ⟨0, 0, none⟩ = some (.int .i64 m) := Tryz.laysM145.s1_3 w h
theorem q_of {W : World} (hL0 : laidMetH Tryz.prog Rows.firstRow.laid W) (hsh : W.ShapedOpen Tryz.prog) : Q W W := by
  rw [MakeChecks.laidMetH_plain _ _ _ (by kernel_rfl)] at hL0
  have hL : laidMet Tryz.prog Rows.firstRow.laid W := hL0
  have h2 := hL.tail.tail
  have hp : Lib.TabIs Tryz.prog W "internal/strconv.uint64pow10" .u64 Lib.pow10Tab :=
    Lib.tabIs_of_head gPow tyPow Tryz.underlying148 Tryz.underlying120 (by kernel_rfl) (by kernel_rfl) (powData ▸ h2)
  have h4 := h2.tail.tail
  obtain ⟨a0, s0, hr, -, -, -⟩ := laid_sentinel h4 gRan tyRan Tryz.underlying83 rowErr Tryz.underlying167 Tryz.underlying169 rfl rfl Tryz.underlying9 cellsErr cellsStr
  have h5 := h4.tail
  obtain ⟨a1, s1, hs, -, -, -⟩ := laid_sentinel h5 gSyn tySyn Tryz.underlying83 rowErr Tryz.underlying167 Tryz.underlying169 rfl rfl Tryz.underlying9 cellsErr cellsStr
  obtain ⟨m, hm⟩ := maxCell hsh
  exact { bel := Below.refl _ _, lo := ⟨cell_lt hm, var_lt gPow hp, var_lt gSyn hs, var_lt gRan hr⟩, m := ⟨m, hm⟩, tab := hp, es := ⟨_, _, hs⟩, er := ⟨_, _, hr⟩ }
set_option maxRecDepth 100000 in
/-- A LAW's ROW: the walk is handed the world's shape and the listed variables. -/
theorem lift_law {H : Type} {enc : TypeId × Value → H} {os : Os} {f : FuncId} {fn : Func} {s : ChangeSpec} (started : os.Started) (noInit : Tryz.checked.prog.inits.idxOf? f = none) (hfn : Tryz.prog.funcs[f]? = some fn)
    (witness : ∃ (w : World) (tape : Tape) (i : Input), w.os = os ∧ (w.forCall tape i).Shaped Tryz.checked.prog ∧ i.vars = [] ∧ Input.okWide Tryz.checked.prog (w.forCall tape i) .any w.heap.size f i ∧
      ((s.pre enc Tryz.checked.prog fn [] false (w.forCall tape i).memory i.args ∧ laidMetH Tryz.prog Rows.firstRow.laid (w.forCall tape i).memory) ∧ sizedMet enc Tryz.checked.prog fn (OpenSpec.ofChange s) false (w.forCall tape i).memory i.args) ∧ ({} : Assume).holds Tryz.checked.prog (lone (Frame.enter Tryz.checked.prog f i.args .normal) [] (w.forCall tape i)))
    (contract : ∀ (W : World) (base : Nat) (args : Array Value) (ds gs : List (DataW H)) (before : List MemPlace),
      (∀ (j : Nat) t v, fn.params[j]? = some t → args[j]? = some v → Value.okWide Tryz.prog W .any base t v) →
      DataW.Whole enc Tryz.prog fn.params.toList s.vars false W args.toList ds gs before →
      (DataW.weightsEach Tryz.prog (fn.params.toList ++ s.plain.varTypes Tryz.prog) (ds ++ gs)).all (· ≤ reachBytes) = true →
      Q W W →
      Calls Tryz.prog f args W fun e W' => ∃ v, e = .returned v ∧ s.post enc Tryz.prog fn false true false false W args v W') :
    ReturnsInHanded {} Tryz.checked os f .any (fun w args => (s.pre enc Tryz.prog fn [] false w args ∧ laidMetH Tryz.prog Rows.firstRow.laid w) ∧ sizedMet enc Tryz.prog fn (OpenSpec.ofChange s) false w args)
      (s.post enc Tryz.prog fn false true false false) := by
  refine returnsInHanded_of_calls (C := Tryz.checked) own started noInit witness ?_
  intro w tape i _ hsh _ hok hpre _
  obtain ⟨_, _, _, fn', hfn', _, _, _, _, hval⟩ := hok
  obtain rfl : fn' = fn := Option.some.inj (hfn'.symm.trans hfn)
  obtain ⟨⟨⟨ds, gs, before, hw, _⟩, hx⟩, hz⟩ := hpre
  have hl : laidMetH Tryz.prog Rows.firstRow.laid (w.forCall tape i) := hx.of_heap (by rfl)
  exact (contract (w.forCall tape i) w.heap.size i.args ds gs before hval (DataW.Whole.of_heap (w' := w.forCall tape i) (by rfl) hw) (hz.weights hw) (q_of hl hsh)).mono fun e W' ⟨v, he, hp⟩ => by
    subst he
    exact ChangeSpec.post_blind hp
end Go.Proofs.YtelichlplblboaaGreatDoor
