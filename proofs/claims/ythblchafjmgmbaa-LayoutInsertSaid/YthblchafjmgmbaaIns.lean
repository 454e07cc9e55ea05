/-
  PLAIN. The layout algorithm as the program has it, as functions on lists (no program): Insert, Strip, Explicit, Depth; Insert's balance.
-/
import Derived.WalkKit
import Derived.Lib.Strings
namespace Go.Proofs.Ythblchafjmgmbaa
open Go.RowKit
/-- A token. -/
structure Tok where
  op : Int
  qual : ByteArray
  text : ByteArray
  n : Int
  auto : Bool
  line : Int
  col : Int
/-- Is the text this one? -/
def tx (s : ByteArray) (l : List UInt8) : Bool := s.data.toList == l
def spT (t : Tok) (l : List UInt8) : Bool := (t.op == 8) && tx t.text l
def wdT (t : Tok) (l : List UInt8) : Bool := (t.op == 9) && tx t.text l
def bLet : List UInt8 := [108, 101, 116]
def bDo : List UInt8 := [100, 111]
def bOf : List UInt8 := [111, 102]
def bWhere : List UInt8 := [119, 104, 101, 114, 101]
def bModule : List UInt8 := [109, 111, 100, 117, 108, 101]
def bThen : List UInt8 := [116, 104, 101, 110]
def bElse : List UInt8 := [101, 108, 115, 101]
def bCase : List UInt8 := [99, 97, 115, 101]
def bIf : List UInt8 := [105, 102]
def bIn : List UInt8 := [105, 110]
def opens (t : Tok) : Bool := (t.op == 9) && (tx t.text bWhere || tx t.text bLet || tx t.text bDo || tx t.text bOf)
def stripL (l : List Tok) : List Tok := l.filter (fun t => !t.auto)
def explL (l : List Tok) : List Tok := l.map (fun t => { t with auto := false })
def dep1 (p : Int × Int) (t : Tok) : Int × Int :=
  let o := if spT t [123] then p.2 + 1 else if spT t [125] then p.2 - 1 else p.2
  (max p.1 o, o)
def depL (l : List Tok) : Int := (l.foldl dep1 (0, 0)).1
/-- An element of the stack; kinds: 0 implicit, 1 explicit, 2 parenthesis, 3 bracket, 4 case, 5 if, 6 then, 7 let. -/
structure El where
  kind : Int
  col : Int
  word : ByteArray
  marked : Bool
  blk : Int
  ctx : Int
structure St where
  els : List El
  written : Int
  out : List Tok
  exp : Bool
  word : ByteArray
def isBlk (k : Int) : Bool := decide (k ≤ 1)
def isCtx (k : Int) : Bool := decide (k ≤ 3)
def isPen (k : Int) : Bool := decide (3 < k)
def isWri (k : Int) : Bool := isCtx k && (k != 0)
def topB (l : List El) : Int := match l.getLast? with | none => -1 | some e => e.blk
def topC (l : List El) : Int := match l.getLast? with | none => -1 | some e => e.ctx
def pushE (s : St) (e : El) : St :=
  { s with els := s.els ++ [{ e with blk := if isBlk e.kind then s.els.length else topB s.els, ctx := if isCtx e.kind then s.els.length else topC s.els }], written := if isWri e.kind then s.written + 1 else s.written }
def popS (s : St) (e : El) : St := { s with els := s.els.dropLast, written := if isWri e.kind then s.written - 1 else s.written }
/-- The implicit block at a position. -/
def implAt (l : List El) (at' : Int) : Option El := if at' < 0 then none else match l[at'.toNat]? with | none => none | some e => if e.kind == 0 then some e else none
def markAt (l : List El) (at' : Int) (b : Bool) : List El := l.modify at'.toNat (fun e => { e with marked := b })
def insT (b : UInt8) : Tok := ⟨8, ⟨#[]⟩, ⟨#[b]⟩, 0, true, 0, 0⟩
def insS (s : St) (b : UInt8) : St := { s with out := s.out ++ [insT b] }
def elK (k : Int) : El := ⟨k, 0, ⟨#[]⟩, false, 0, 0⟩
def closedS (s : St) (w : ByteArray) : St := if tx w bLet then pushE s (elK 7) else s
/-- Where the wanted element is, in a stack that begins with its top. -/
def findR (p : El → Bool) : List El → Option Nat
  | [] => none
  | e :: r => if p e then some r.length else if isWri e.kind then none else findR p r
/-- The elements down to the wanted one are removed. -/
def closeN : Nat → St → Option (El × St)
  | 0, _ => none
  | n + 1, s => match s.els.getLast? with
    | none => none
    | some e =>
      let s1 := popS s e
      let s2 := if e.kind == 0 then insS s1 125 else s1
      if n = 0 then some (e, s2) else closeN n s2
def closeTo (s : St) (p : El → Bool) : Option (El × St) := match findR p s.els.reverse with
  | none => none
  | some at' => closeN (s.els.length - at') s
def isK (k : Int) (e : El) : Bool := e.kind == k
def closeB (s : St) (p : El → Bool) : Option St := (closeTo s p).map fun r => closedS r.2 r.1.word
/-- The state goes on, or it is a fault. -/
def lineS : Nat → St → Int → Option St
  | 0, s, _ => some s
  | k + 1, s, col => match implAt s.els (topB s.els) with
    | none => some s
    | some b => if b.col < col then some s else if col == b.col then some { insS s 59 with els := markAt s.els (topB s.els) false } else
      match closeB s (isK 0) with
      | none => none
      | some s' => lineS k s' col
def begC (s : St) : Int := match implAt s.els (topB s.els) with | none => 0 | some b => b.col
def beginS (s : St) (t : Tok) : Bool × St :=
  if spT t [123] then (true, s) else
  if s.word.data.toList.isEmpty && wdT t bModule then (false, s) else
  let s1 := insS s 123
  if begC s < t.col then (true, pushE s1 ⟨0, t.col, s.word, false, 0, 0⟩) else (false, closedS (insS s1 125) s.word)
def dropP (l : List El) : List El := (l.reverse.dropWhile (fun e => isPen e.kind)).reverse
def itemS (s : St) (t : Tok) : St := match s.out.getLast? with
  | none => s
  | some u => if spT u [59] && !wdT t bThen && !wdT t bElse && !spT t [59] then { s with els := dropP s.els } else s
def markS (s : St) (b : Bool) : St := match implAt s.els (topC s.els) with | none => s | some _ => { s with els := markAt s.els (topC s.els) b }
def commaS : Nat → St → St
  | 0, s => s
  | k + 1, s => if 0 < s.written then
      match implAt s.els (topC s.els) with
      | none => s
      | some b => if tx b.word bDo || tx b.word bOf || b.marked then commaS k ((closeB s (isK 0)).getD s) else s
    else s
def bracketS (s : St) (t : Tok) (w : ByteArray) : Option St :=
  let s := if (t.op == 10) && tx t.text [61] then markS s true else s
  if t.op == 8 then
    if tx t.text [40] then some (pushE s (elK 2))
    else if tx t.text [91] then some (pushE s (elK 3))
    else if tx t.text [123] then some (pushE s ⟨1, 0, w, false, 0, 0⟩)
    else if tx t.text [41] then closeB s (isK 2)
    else if tx t.text [93] then closeB s (isK 3)
    else if tx t.text [125] then closeB s (isK 1)
    else if tx t.text [44] then some (commaS (2 * s.els.length + 2) s)
    else if tx t.text [59] then some (markS s false)
    else some s
  else some s
def letE (e : El) : Bool := (e.kind == 7) || ((e.kind == 0) && tx e.word bLet)
def keyS (s : St) (t : Tok) : Option St :=
  if t.op == 9 then
    let r : Option St :=
      if tx t.text bCase then some (pushE s (elK 4))
      else if tx t.text bIf then some (pushE s (elK 5))
      else if tx t.text bOf then (closeTo s (isK 4)).map (·.2)
      else if tx t.text bThen then (closeTo s (isK 5)).map fun r => pushE r.2 (elK 6)
      else if tx t.text bElse then (closeTo s (isK 6)).map (·.2)
      else if tx t.text bIn then (closeTo s letE).map (·.2)
      else some s
    r.map fun s => if opens t then { s with exp := true, word := t.text } else s
  else some s
def tokenS (s : St) (t : Tok) (first : Bool) : Option St :=
  let w := s.word
  let b : Bool × St := if s.exp then beginS s t else (false, s)
  let s1 : St := { b.2 with exp := false, word := ⟨#[]⟩ }
  match (if first && !b.1 then lineS (s1.els.length + 1) s1 t.col else some s1) with
  | none => none
  | some s2 => match bracketS (itemS s2 t) t w with
    | none => none
    | some s3 => (keyS s3 t).map fun s4 => { s4 with out := s4.out ++ [t] }
/-- At the end: the blocks that are left, from the top on. -/
def endE : List El → Bool → List Tok → Option (List Tok)
  | [], _, out => some out
  | e :: r, inside, out =>
    if (e.kind == 2) || (e.kind == 3) then endE r true out
    else if e.kind == 0 then (if inside then none else endE r inside (out ++ [insT 125]))
    else endE r inside out
def endS (s : St) : Option (List Tok) := endE s.els.reverse false (if s.exp then s.out ++ [insT 123, insT 125] else s.out)
inductive II where
  | ok (l : List Tok)
  | bad (code : Int) (name : ByteArray) (line col : Int)
def fltT (t : Tok) : II := .bad 9 t.text t.line t.col
def insF : List Tok → Option Tok → St → II
  | [], last, s => match endS s with
    | none => (last.map fltT).getD (.bad 0 ⟨#[]⟩ 0 0)
    | some l => if 16384 < l.length then .bad 3 ⟨#[]⟩ 0 0 else .ok l
  | t :: ts, last, s => match tokenS s t (match last with | none => false | some p => decide (p.line < t.line)) with
    | none => fltT t
    | some s' => insF ts (some t) s'
def insP (l : List Tok) : II := if l.any (·.auto) then .bad 1 ⟨#[]⟩ 0 0 else insF l none ⟨[], 0, [], true, ⟨#[]⟩⟩
def exL : List Tok := [⟨1, ⟨#[]⟩, ⟨#[102]⟩, 0, false, 1, 1⟩, ⟨1, ⟨#[]⟩, ⟨#[120]⟩, 0, false, 1, 3⟩, ⟨10, ⟨#[]⟩, ⟨#[61]⟩, 0, false, 1, 5⟩, ⟨1, ⟨#[]⟩, ⟨#[120]⟩, 0, false, 1, 7⟩]
/-- The chapter's example. -/
theorem ins_ex : insP exL = .ok (insT 123 :: exL ++ [insT 125]) := by kernel_rfl
end Go.Proofs.Ythblchafjmgmbaa
