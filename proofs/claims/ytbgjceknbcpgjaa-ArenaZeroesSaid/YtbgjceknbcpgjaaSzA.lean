/-
  A WALKER THAT COMPUTES: values with unknowns, memory with numbered blocks of the call's own, and what each operation does to them.
-/
import Derived.Calls
import Derived.OrdersHeld
import Derived.Below
import Derived.KernelRfl
namespace Go.Sx

/-! ### Numbers and truths, of which some parts are unknown -/

/-- An unknown that came up on the way: a number, a text, a row of cells. -/
structure Fv where
  n : Int := 0
  s : List UInt8 := []
  r : List Value := []

/-- What the unknowns are: numbers, texts; 'fv': those that come up on the way; 'prd': what one's own predicates say. -/
structure Unk where
  num : Nat → Int
  str : Nat → List UInt8
  obj : Nat → Option Obj
  fv : List Fv
  prd : Nat → List Int → List (List UInt8) → List (List Value) → Prop

def Unk.fn (ι : Unk) (i : Nat) : Int := ((ι.fv[i]?).map Fv.n).getD 0
def Unk.ft (ι : Unk) (i : Nat) : List UInt8 := ((ι.fv[i]?).map Fv.s).getD []
def Unk.fr (ι : Unk) (i : Nat) : List Value := ((ι.fv[i]?).map Fv.r).getD []

/-- A cell as a number. -/
def cellInt : Option Value → Int
  | some (.int _ n) => n
  | some (.bool b) => if b then 1 else 0
  | _ => 0

inductive IE where
  | lit (n : Int)
  | var (i : Nat)
  /-- An unknown text's length. -/
  | slen (i : Nat)
  | bin (op : BinOp) (k : IntKind) (a b : IE)
  | wrap (k : IntKind) (a : IE)
  /-- Without wrapping: a sum, a difference, a multiple and a number. -/
  | off (a b : IE)
  | dif (a b : IE)
  | lin (a : IE) (z o : Nat)
  /-- One that came up on the way. -/
  | fv (i : Nat)
  /-- A cell of a row, a letter of a text, a text's length. -/
  | cell (r : Nat) (i : IE)
  | chr (s : Nat) (i : IE)
  | tlen (s : Nat)
  /-- A letter of a known text. -/
  | tab (s : List UInt8) (i : IE)
  deriving DecidableEq

/-- What an operation on integers comes to. -/
def intBin (op : BinOp) (k : IntKind) (x y : Int) : Option Int :=
  match op with
  | .add => some (k.wrap (x + y))
  | .sub => some (k.wrap (x - y))
  | .mul => some (k.wrap (x * y))
  | .quo => if y = 0 then none else some (k.wrap (x.tdiv y))
  | .rem => if y = 0 then none else some (x.tmod y)
  | .and => some (k.wrap (BitVec.ofInt k.bits x &&& BitVec.ofInt k.bits y).toNat)
  | .or => some (k.wrap (BitVec.ofInt k.bits x ||| BitVec.ofInt k.bits y).toNat)
  | .xor => some (k.wrap (BitVec.ofInt k.bits x ^^^ BitVec.ofInt k.bits y).toNat)
  | .andNot => some (k.wrap (BitVec.ofInt k.bits x &&& ~~~(BitVec.ofInt k.bits y)).toNat)
  | .shl => if y < 0 then none else some (k.wrap (x * 2 ^ (min y.toNat k.bits)))
  | .shr => if y < 0 then none else some (x.fdiv (2 ^ (min y.toNat k.bits)))
  | _ => none

def intCmp (op : BinOp) (x y : Int) : Option Bool :=
  match op with
  | .eql => some (x == y)
  | .neq => some (x != y)
  | .lss => some (x < y)
  | .leq => some (x ≤ y)
  | .gtr => some (x > y)
  | .geq => some (x ≥ y)
  | _ => none

def IE.den (ι : Unk) : IE → Int
  | .lit n => n
  | .var i => ι.num i
  | .slen i => ((ι.str i).length : Int)
  | .bin op k a b => (intBin op k (a.den ι) (b.den ι)).getD 0
  | .wrap k a => k.wrap (a.den ι)
  | .off a b => a.den ι + b.den ι
  | .dif a b => a.den ι - b.den ι
  | .lin a z o => a.den ι * z + o
  | .fv i => ι.fn i
  | .cell r i => cellInt (ι.fr r)[(i.den ι).toNat]?
  | .chr s i => (((ι.ft s)[(i.den ι).toNat]?).map fun (b : UInt8) => (b.toNat : Int)).getD 0
  | .tlen s => ((ι.ft s).length : Int)
  | .tab s i => ((s[(i.den ι).toNat]?).map fun (b : UInt8) => (b.toNat : Int)).getD 0

/-- What a cell may be. -/
inductive CK where
  | int (k : IntKind)
  | bool
  deriving DecidableEq

/-- Is it? -/
def CK.ok : CK → Value → Prop
  | .int k, v => ∃ n, v = .int k n ∧ k.min ≤ n ∧ n ≤ k.max
  | .bool, v => ∃ b, v = .bool b

def CK.val : CK → Int → Value
  | .int k, n => .int k n
  | .bool, n => .bool (n == 1)

/-- Texts: a part of a row of bytes among them. -/
inductive TX where
  | lit (s : List UInt8)
  | rig (i : Nat)
  | fv (i : Nat)
  | row (r : Nat) (o n : IE)
  | cat (x y : TX)
  | sub (x : TX) (o n : IE)
  /-- Of those bytes. -/
  | lits (es : List IE)
  deriving DecidableEq

/-- Cells' bytes. -/
def bytesOf (l : List Value) : List UInt8 := l.map fun
  | .int _ n => UInt8.ofNat n.toNat
  | _ => 0

/-- So long, whatever it is. -/
def padTo (n : Nat) (l : List UInt8) : List UInt8 := l.take n ++ List.replicate (n - l.length) 0

def TX.den (ι : Unk) : TX → List UInt8
  | .lit s => s
  | .rig i => ι.str i
  | .fv i => ι.ft i
  | .row r o n => padTo (n.den ι).toNat (bytesOf (((ι.fr r).drop (o.den ι).toNat).take (n.den ι).toNat))
  | .cat x y => x.den ι ++ y.den ι
  | .sub x o n => padTo (n.den ι).toNat (((x.den ι).drop (o.den ι).toNat).take (n.den ι).toNat)
  | .lits es => es.map fun e => UInt8.ofNat (e.den ι).toNat

/-- Rows of cells. -/
inductive RX where
  | row (r : Nat)
  | lits (vs : List (CK × IE))
  | txt (t : TX)
  | sub (x : RX) (o n : IE)
  | cat (x y : RX)
  /-- From a place on others. -/
  | set (x : RX) (o : IE) (y : RX)
  /-- So often. -/
  | rep (n : IE) (vs : List (CK × IE))
  deriving DecidableEq

def setAt (l : List Value) (o : Nat) (y : List Value) : List Value := l.take o ++ y ++ l.drop (o + y.length)

def RX.den (ι : Unk) : RX → List Value
  | .row r => ι.fr r
  | .lits vs => vs.map fun v => v.1.val (v.2.den ι)
  | .txt t => (t.den ι).map fun (b : UInt8) => Value.int .u8 (b.toNat : Int)
  | .sub x o n => ((x.den ι).drop (o.den ι).toNat).take (n.den ι).toNat
  | .cat x y => x.den ι ++ y.den ι
  | .set x o y => setAt (x.den ι) (o.den ι).toNat (y.den ι)
  | .rep n vs => (List.replicate (n.den ι).toNat (vs.map fun v => v.1.val (v.2.den ι))).flatten

inductive BE where
  | lit (b : Bool)
  | not (a : BE)
  | cmp (op : BinOp) (a b : IE)
  | same (a b : BE)
  /-- Is the unknown text that one? -/
  | seqs (i : Nat) (s : List UInt8)
  /-- Two texts are the same. -/
  | teq (x y : TX)
  /-- An unknown row is that. -/
  | isrow (r : Nat) (x : RX)
  /-- A row has so many cells. -/
  | rlen (x : RX) (n : IE)
  /-- What a function of the surroundings tells of two rows: 0: which of two rows of bytes is less; 1: is it one of bytes? -/
  | sys (k : Nat) (n : IE) (x y : RX)
  /-- One's own. -/
  | usr (k : Nat) (ns : List IE) (ss : List TX) (rs : List RX)
  deriving DecidableEq

/-- Bytes, each of them. -/
def isBytes (l : List Value) : Prop := ∀ v ∈ l, ∃ n : Int, v = .int .u8 n ∧ 0 ≤ n ∧ n ≤ 255
open Classical in
/-- What such a function tells; 1: a row is of bytes. -/
noncomputable def sysF : Nat → List Value → List Value → Int
  | 0, l, m => Extern.BytealgCompare.cmp ⟨(bytesOf l).toArray⟩ ⟨(bytesOf m).toArray⟩
  | 1, l, _ => if isBytes l then 1 else 0
  | _, _, _ => 0

open Classical in
noncomputable def BE.den (ι : Unk) : BE → Bool
  | .lit b => b
  | .not a => !(a.den ι)
  | .cmp op a b => (intCmp op (a.den ι) (b.den ι)).getD false
  | .same a b => a.den ι == b.den ι
  | .seqs i s => decide (ι.str i = s)
  | .teq x y => decide (x.den ι = y.den ι)
  | .isrow r x => decide (ι.fr r = x.den ι)
  | .rlen x n => decide (((x.den ι).length : Int) = n.den ι)
  | .sys k n x y => decide (n.den ι = sysF k (x.den ι) (y.den ι))
  | .usr k ns ss rs => decide (ι.prd k (ns.map (·.den ι)) (ss.map (·.den ι)) (rs.map (·.den ι)))

/-- What is known of a row by what its cells are. -/
def tyFact (k : Nat) (ks : List CK) : List BE := if ks = [.int .u8] then [.sys 1 (.lit 1) (.row k) (.row k)] else []

/-- It asks only of the first 'n' of those that came up. -/
def IE.upto (n : Nat) : IE → Bool
  | .bin _ _ a b => a.upto n && b.upto n
  | .wrap _ a => a.upto n
  | .off a b => a.upto n && b.upto n
  | .dif a b => a.upto n && b.upto n
  | .lin a _ _ => a.upto n
  | .fv i => Nat.blt i n
  | .cell r i => Nat.blt r n && i.upto n
  | .chr s i => Nat.blt s n && i.upto n
  | .tlen s => Nat.blt s n
  | .tab _ i => i.upto n
  | _ => true

def TX.upto (n : Nat) : TX → Bool
  | .lit _ => true
  | .rig _ => true
  | .fv i => Nat.blt i n
  | .row r o k => Nat.blt r n && (o.upto n && k.upto n)
  | .cat x y => x.upto n && y.upto n
  | .sub x o k => x.upto n && (o.upto n && k.upto n)
  | .lits es => es.all (·.upto n)

def RX.upto (n : Nat) : RX → Bool
  | .row r => Nat.blt r n
  | .lits vs => vs.all fun v => v.2.upto n
  | .txt t => t.upto n
  | .sub x o k => x.upto n && (o.upto n && k.upto n)
  | .cat x y => x.upto n && y.upto n
  | .set x o y => x.upto n && (o.upto n && y.upto n)
  | .rep k vs => k.upto n && vs.all fun v => v.2.upto n

def BE.upto (n : Nat) : BE → Bool
  | .not a => a.upto n
  | .cmp _ a b => a.upto n && b.upto n
  | .same a b => a.upto n && b.upto n
  | .teq x y => x.upto n && y.upto n
  | .isrow r x => Nat.blt r n && x.upto n
  | .rlen x k => x.upto n && k.upto n
  | .sys _ k x y => k.upto n && (x.upto n && y.upto n)
  | .usr _ ns ss rs => ns.all (·.upto n) && ss.all (·.upto n) && rs.all (·.upto n)
  | _ => true

def BE.mkNot : BE → BE
  | .lit b => .lit (!b)
  | .not a => a
  | a => .not a

def BE.mkSame : BE → BE → BE
  | .lit true, b => b
  | .lit false, b => b.mkNot
  | a, .lit true => a
  | a, .lit false => a.mkNot
  | a, b => if a = b then .lit true else .same a b

/-- Two known numbers that are added one behind the other are added at once. -/
def IE.fold (op : BinOp) (k : IntKind) (a : IE) (y : Int) : IE :=
  match op, a with
  | .add, .bin .add k' c (.lit x) => if k = k' then .bin .add k c (.lit (k.wrap (x + y))) else .bin .add k a (.lit y)
  | _, _ => .bin op k a (.lit y)

/-- Only operations that cannot fail, or whose second number is known, are kept open. -/
def IE.mkBin (op : BinOp) (k : IntKind) : IE → IE → Option IE
  | .lit x, .lit y => (intBin op k x y).map .lit
  | a, .lit y => if (intBin op k 0 y).isSome then some (IE.fold op k a y) else none
  | a, b =>
    match op with
    | .add | .sub | .mul | .and | .or | .xor | .andNot => some (.bin op k a b)
    | _ => none

def fits (k' k : IntKind) : Bool := k.min ≤ k'.min && k'.max ≤ k.max

/-- Without wrapping. -/
def IE.mkOff : IE → IE → IE
  | .lit a, .lit b => .lit (a + b)
  | a, b => if a = .lit 0 then b else if b = .lit 0 then a else .off a b
def IE.mkDif : IE → IE → IE
  | .lit a, .lit b => .lit (a - b)
  | a, b => if b = .lit 0 then a else if a = b then .lit 0 else .dif a b
def IE.mkLin (a : IE) (z o : Nat) : IE :=
  match a with
  | .lit n => .lit (n * z + o)
  | a => if z = 1 && o = 0 then a else .lin a z o

def IE.mkWrap (k : IntKind) : IE → IE
  | .lit n => .lit (k.wrap n)
  | .wrap k' a => if fits k' k then .wrap k' a else .wrap k (.wrap k' a)
  | a => .wrap k a

def flipOp : BinOp → BinOp
  | .lss => .gtr
  | .leq => .geq
  | .gtr => .lss
  | .geq => .leq
  | op => op

/-- Two ways to say the same are one. -/
def BE.cmpOf (op : BinOp) (a b : IE) : BE :=
  match b with
  | .lit n => .cmp op a (.lit n)
  | b =>
    match op with
    | .gtr => .cmp .lss b a
    | .geq => .not (.cmp .lss a b)
    | .leq => .not (.cmp .lss b a)
    | .neq => .not (.cmp .eql a b)
    | op => .cmp op a b
def BE.mkCmp (op : BinOp) : IE → IE → Option BE
  | .lit x, .lit y => (intCmp op x y).map .lit
  | .lit x, b => if (intCmp op 0 0).isSome then some (.cmp (flipOp op) b (.lit x)) else none
  | a, b => if (intCmp op 0 0).isSome then some (if a = b then .lit ((intCmp op 0 0).getD false) else BE.cmpOf op a b) else none

/-! ### Bounds -/

abbrev Bnd := Option Int × Option Int

def omax : Option Int → Option Int → Option Int
  | some a, some b => some (if a ≤ b then b else a)
  | some a, none => some a
  | none, b => b

def omin : Option Int → Option Int → Option Int
  | some a, some b => some (if a ≤ b then a else b)
  | some a, none => some a
  | none, b => b

def meet (a b : Bnd) : Bnd := (omax a.1 b.1, omin a.2 b.2)

/-- What a truth says of a number. -/
def fact (e : IE) : BE → Bnd
  | .cmp op a (.lit n) => if a = e then
      match op with
      | .eql => (some n, some n)
      | .lss => (none, some (n - 1))
      | .leq => (none, some n)
      | .gtr => (some (n + 1), none)
      | .geq => (some n, none)
      | _ => (none, none)
    else (none, none)
  | .not (.cmp op a (.lit n)) => if a = e then
      match op with
      | .neq => (some n, some n)
      | .lss => (some n, none)
      | .leq => (some (n + 1), none)
      | .gtr => (none, some n)
      | .geq => (none, some (n - 1))
      | _ => (none, none)
    else (none, none)
  | _ => (none, none)

def facts (e : IE) : List BE → Bnd
  | [] => (none, none)
  | b :: r => meet (fact e b) (facts e r)

/-- Kept where it fits its kind; else the kind's own. -/
def within (k : IntKind) (b : Bnd) : Bnd :=
  match b with
  | (some l, some h) => if k.min ≤ l && h ≤ k.max then (some l, some h) else (some k.min, some k.max)
  | _ => (some k.min, some k.max)

def oadd : Option Int → Option Int → Option Int
  | some a, some b => some (a + b)
  | _, _ => none

def osub : Option Int → Option Int → Option Int
  | some a, some b => some (a - b)
  | _, _ => none

/-- What an operation's wrapping says. -/
def wrapOp : BinOp → Bool
  | .add | .sub | .mul | .quo | .and | .or | .xor | .andNot | .shl => true
  | _ => false
def wrapsTo (op : BinOp) (k : IntKind) : Bnd := if wrapOp op then (some k.min, some k.max) else (none, none)

/-- Of a remainder, of bits by a known number, of a quotient, of a multiple. -/
def remBnd (b : Bnd) (n : Int) : Bnd :=
  if 0 < n then
    match b.1 with
    | some l => if 0 ≤ l then (some 0, some (n - 1)) else (some (1 - n), some (n - 1))
    | none => (some (1 - n), some (n - 1))
  else (none, none)
def andBnd (k : IntKind) (n : Int) : Bnd := if 0 ≤ n && n ≤ k.max then (some 0, some n) else (some k.min, some k.max)
def quoBnd (k : IntKind) (b : Bnd) (n : Int) : Bnd :=
  match b with
  | (some l, some h) => if 0 < n && 0 ≤ l && h ≤ k.max then (some 0, some h) else (some k.min, some k.max)
  | _ => (some k.min, some k.max)
def linBnd (b : Bnd) (z o : Nat) : Bnd := (b.1.map fun l => l * z + o, b.2.map fun h => h * z + o)

/-- Between which numbers it lies. -/
def bnd (pc : List BE) : IE → Bnd
  | .lit n => (some n, some n)
  | .var i => facts (.var i) pc
  | .wrap k a => meet (facts (.wrap k a) pc) (within k (bnd pc a))
  | .bin .add k a b => meet (facts (.bin .add k a b) pc) (within k (oadd (bnd pc a).1 (bnd pc b).1, oadd (bnd pc a).2 (bnd pc b).2))
  | .bin .sub k a b => meet (facts (.bin .sub k a b) pc) (within k (osub (bnd pc a).1 (bnd pc b).2, osub (bnd pc a).2 (bnd pc b).1))
  | .bin .rem k a (.lit n) => meet (facts (.bin .rem k a (.lit n)) pc) (remBnd (bnd pc a) n)
  | .bin .and k a (.lit n) => meet (facts (.bin .and k a (.lit n)) pc) (andBnd k n)
  | .bin .quo k a (.lit n) => meet (facts (.bin .quo k a (.lit n)) pc) (quoBnd k (bnd pc a) n)
  | .bin op k a b => meet (facts (.bin op k a b) pc) (wrapsTo op k)
  | .off a b => meet (facts (.off a b) pc) (oadd (bnd pc a).1 (bnd pc b).1, oadd (bnd pc a).2 (bnd pc b).2)
  | .dif a b => meet (facts (.dif a b) pc) (osub (bnd pc a).1 (bnd pc b).2, osub (bnd pc a).2 (bnd pc b).1)
  | .lin a z o => meet (facts (.lin a z o) pc) (linBnd (bnd pc a) z o)
  | .tlen s => meet (facts (.tlen s) pc) (some 0, none)
  | .chr s i => meet (facts (.chr s i) pc) (some 0, some 255)
  | .tab s i => meet (facts (.tab s i) pc) (some 0, some 255)
  | e => facts e pc

def decideB (op : BinOp) (n : Int) (b : Bnd) : Option Bool :=
  let below := match b.2 with | some h => decide (h < n) | none => false
  let above := match b.1 with | some l => decide (n < l) | none => false
  let most := match b.2 with | some h => decide (h ≤ n) | none => false
  let least := match b.1 with | some l => decide (n ≤ l) | none => false
  match op with
  | .eql => if below || above then some false else if most && least then some true else none
  | .neq => if below || above then some true else if most && least then some false else none
  | .lss => if below then some true else if least then some false else none
  | .leq => if most then some true else if above then some false else none
  | .gtr => if above then some true else if most then some false else none
  | .geq => if least then some true else if below then some false else none
  | _ => none

/-! ### Values -/

/-- 'var i s': the open capacity 'i', less 's'. -/
inductive Cap where
  | known (n : Nat)
  | var (i s : Nat)

inductive AV where
  | bool (b : BE)
  | int (k : IntKind) (e : IE)
  | str (s : List UInt8)
  | nilPtr
  | ptr (b o : Nat)
  | nilSlice
  | slice (b o len : Nat) (cap : Cap)
  | nilMap
  | map (b : Nat)
  | func (f : FuncId) (first captured : List AV)
  | nilFunc
  | iface (t : TypeId) (v : AV)
  | nilIface
  | agg (cs : List AV)
  | tuple (vs : List AV)
  /-- 'yield' of the range over a function whose record is that block. -/
  | yield (b : Nat)
  /-- An unknown text. -/
  | strv (i : Nat)
  /-- An open capacity's number, less 's'. -/
  | capv (i s : Nat)
  /-- A place in a package's variable. -/
  | glob (g o : Nat)
  /-- A text that came up on the way. -/
  | txt (x : TX)
  /-- A slice of elements of 'z' cells, behind the first 'q' cells of its block: from which on, how many, up to how many. -/
  | sl (b z : Nat) (q o len cap : IE)
  /-- The place 'o' of the element 'i' of 'z' cells, behind the first 'q' cells. -/
  | ptrs (b z : Nat) (q i : IE) (o : Nat)

inductive AObj where
  /-- 'more': behind what is told lie others, up to as many in all as the number 'more' says (that of the open capacity, times the size; the capacity is at least the third, and at most the fourth, if that is not nought). -/
  | cells (c : List (Option AV)) (t : TypeId) (more : Option (Nat × Nat × Nat × Nat)) (cls : Nat)
  | strIter (s : List UInt8) (pos : Nat)
  /-- A text of which not every letter is known is gone over. -/
  | txtIter (x : TX) (pos : Nat)
  | map (es : List (AV × AV × Nat)) (clock : Nat)
  | mapIter (m : Option Nat) (since : Nat) (seen : List Nat) (stepped : Nat)
  /-- The record of a range over a function; 'defers': the block for what its rounds defer. -/
  | loop (st : LoopState) (pend : Option Code) (tmps : List AV) (params : Array Tmp) (assign body : Code) (defers : Nat)
  | deferred (isOpen : Bool)
  /-- A row whose bytes a text shares: nothing more is done with it. -/
  | gone (cls : Nat)
  /-- A given row that is only read. -/
  | given (cs : List AV) (i : Nat)
  /-- A row of elements whose cells are of those kinds: its front is the row 'r', of 'n' elements; it has 'c' elements. -/
  | row (r : RX) (t : TypeId) (ks : List CK) (n c : IE)
  /-- Nothing is said of it, and nothing is done with it. -/
  | free
  /-- The same, given, and only read; it begins behind the first 'q' cells. -/
  | grow (r : Nat) (t : TypeId) (ks : List CK) (n : IE) (i : Nat) (q : IE)

/-- It is only read: others may be the same row. -/
def AObj.only : AObj → Bool
  | .grow _ _ _ _ _ _ => true
  | _ => false
def AObj.cls? : AObj → Option Nat
  | .cells _ _ _ k => some k
  | .gone k => some k
  | _ => none

/-- A row of things as a tree: the first at its root, every second of the others to the left. -/
inductive BT (α : Type) where
  | e
  | n (l : BT α) (v : α) (r : BT α)

def BT.get {α : Type} : BT α → Nat → Option α
  | .e, _ => none
  | .n l v r, i =>
    match Nat.beq i 0 with
    | true => some v
    | false =>
      match Nat.beq (i % 2) 1 with
      | true => l.get (i / 2)
      | false => r.get (i / 2 - 1)

def BT.ins {α : Type} : BT α → Nat → α → BT α
  | .e, _, x => .n .e x .e
  | .n l v r, i, x =>
    match Nat.beq i 0 with
    | true => .n l x r
    | false =>
      match Nat.beq (i % 2) 1 with
      | true => .n (l.ins (i / 2) x) v r
      | false => .n l v (r.ins (i / 2 - 1) x)

def BT.map {α β : Type} (f : α → β) : BT α → BT β
  | .e => .e
  | .n l v r => .n (l.map f) (f v) (r.map f)

/-- It has so many, none left out. -/
def BT.ok {α : Type} : BT α → Nat → Prop
  | .e, k => k = 0
  | .n l _ r, k => 0 < k ∧ l.ok (k / 2) ∧ r.ok ((k - 1) / 2)

theorem BT.get_some {α : Type} : ∀ (t : BT α) (k i : Nat), t.ok k → ((t.get i).isSome = true ↔ i < k)
  | .e, k, i, h => by simp only [BT.ok] at h; subst h; simp [BT.get]
  | .n l v r, k, i, h => by
    obtain ⟨h0, h1, h2⟩ := h
    simp only [BT.get]
    split
    · rename_i hb
      have := Nat.eq_of_beq_eq_true hb
      simp; omega
    · rename_i hb
      have hi : i ≠ 0 := fun h => by subst h; cases hb
      split
      · rename_i hc
        have := Nat.eq_of_beq_eq_true hc
        rw [BT.get_some l _ _ h1]; omega
      · rename_i hc
        have : i % 2 ≠ 1 := fun h => by rw [h] at hc; cases hc
        rw [BT.get_some r _ _ h2]; omega

theorem BT.get_ins {α : Type} : ∀ (t : BT α) (k i j : Nat) (x : α), t.ok k → i ≤ k → (t.ins i x).get j = if i = j then some x else t.get j
  | .e, k, i, j, x, h, hi => by
    simp only [BT.ok] at h
    have : i = 0 := by omega
    subst this
    simp only [BT.ins, BT.get]
    split
    · rename_i hb
      have := Nat.eq_of_beq_eq_true hb
      rw [if_pos (by omega)]
    · rename_i hb
      have : j ≠ 0 := fun h => by subst h; cases hb
      rw [if_neg (by omega)]
      split <;> rfl
  | .n l v r, k, i, j, x, h, hi => by
    obtain ⟨h0, h1, h2⟩ := h
    simp only [BT.ins]
    split
    · rename_i hb
      have := Nat.eq_of_beq_eq_true hb
      subst this
      simp only [BT.get]
      split
      · rename_i hb
        have := Nat.eq_of_beq_eq_true hb
        rw [if_pos (by omega)]
      · rename_i hb
        have : j ≠ 0 := fun h => by subst h; cases hb
        rw [if_neg (by omega)]
    · rename_i hb
      have hi0 : i ≠ 0 := fun h => by subst h; cases hb
      split
      · rename_i hc
        have hi1 := Nat.eq_of_beq_eq_true hc
        simp only [BT.get]
        split
        · rename_i hb
          have := Nat.eq_of_beq_eq_true hb
          rw [if_neg (by omega)]
        · rename_i hb
          have hj0 : j ≠ 0 := fun h => by subst h; cases hb
          split
          · rename_i hc
            have hj1 := Nat.eq_of_beq_eq_true hc
            rw [BT.get_ins l _ _ _ x h1 (by omega)]
            by_cases hij : i = j
            · subst hij; rw [if_pos rfl, if_pos rfl]
            · rw [if_neg (by omega), if_neg hij]
          · rename_i hc
            have : j % 2 ≠ 1 := fun h => by rw [h] at hc; cases hc
            rw [if_neg (by omega)]
      · rename_i hc
        have hi1 : i % 2 ≠ 1 := fun h => by rw [h] at hc; cases hc
        simp only [BT.get]
        split
        · rename_i hb
          have := Nat.eq_of_beq_eq_true hb
          rw [if_neg (by omega)]
        · rename_i hb
          have hj0 : j ≠ 0 := fun h => by subst h; cases hb
          split
          · rename_i hc
            have hj1 := Nat.eq_of_beq_eq_true hc
            rw [if_neg (by omega)]
          · rename_i hc
            have : j % 2 ≠ 1 := fun h => by rw [h] at hc; cases hc
            rw [BT.get_ins r _ _ _ x h2 (by omega)]
            by_cases hij : i = j
            · subst hij; rw [if_pos rfl, if_pos rfl]
            · rw [if_neg (by omega), if_neg hij]

theorem BT.ok_ins {α : Type} : ∀ (t : BT α) (k i : Nat) (x : α), t.ok k → i ≤ k → (t.ins i x).ok (if i = k then k + 1 else k)
  | .e, k, i, x, h, hi => by
    simp only [BT.ok] at h
    subst h
    have : i = 0 := by omega
    subst this
    simp [BT.ins, BT.ok]
  | .n l v r, k, i, x, h, hi => by
    obtain ⟨h0, h1, h2⟩ := h
    simp only [BT.ins]
    split
    · rename_i hb
      have := Nat.eq_of_beq_eq_true hb
      subst this
      rw [if_neg (by omega)]
      exact ⟨h0, h1, h2⟩
    · rename_i hb
      have hi0 : i ≠ 0 := fun h => by subst h; cases hb
      split
      · rename_i hc
        have hi1 := Nat.eq_of_beq_eq_true hc
        have := BT.ok_ins l _ (i / 2) x h1 (by omega)
        by_cases hik : i = k
        · rw [if_pos hik]
          rw [if_pos (by omega)] at this
          refine ⟨by omega, ?_, ?_⟩
          · rw [show (k + 1) / 2 = k / 2 + 1 by omega]; exact this
          · rw [show (k + 1 - 1) / 2 = (k - 1) / 2 by omega]; exact h2
        · rw [if_neg hik]
          refine ⟨h0, ?_, h2⟩
          by_cases h3 : i / 2 = k / 2
          · exfalso; omega
          · rw [if_neg h3] at this; exact this
      · rename_i hc
        have hi1 : i % 2 ≠ 1 := fun h => by rw [h] at hc; cases hc
        have := BT.ok_ins r _ (i / 2 - 1) x h2 (by omega)
        by_cases hik : i = k
        · rw [if_pos hik]
          rw [if_pos (by omega)] at this
          refine ⟨by omega, ?_, ?_⟩
          · rw [show (k + 1) / 2 = k / 2 by omega]; exact h1
          · rw [show (k + 1 - 1) / 2 = (k - 1) / 2 + 1 by omega]; exact this
        · rw [if_neg hik]
          refine ⟨h0, h1, ?_⟩
          by_cases h3 : i / 2 - 1 = (k - 1) / 2
          · exfalso; omega
          · rw [if_neg h3] at this; exact this

theorem BT.ok_map {α β : Type} (f : α → β) : ∀ (t : BT α) (k : Nat), t.ok k → (t.map f).ok k
  | .e, _, h => h
  | .n l _ r, _, ⟨h0, h1, h2⟩ => ⟨h0, BT.ok_map f l _ h1, BT.ok_map f r _ h2⟩

theorem BT.get_map {α β : Type} (f : α → β) : ∀ (t : BT α) (i : Nat), (t.map f).get i = (t.get i).map f
  | .e, _ => rfl
  | .n l v r, i => by
    simp only [BT.map, BT.get]
    split
    · rfl
    · split
      · exact BT.get_map f l _
      · exact BT.get_map f r _

theorem BT.ins_same {α : Type} : ∀ (t : BT α) (i : Nat) (x : α), t.get i = some x → t.ins i x = t
  | .e, i, x, h => by cases h
  | .n l v r, i, x, h => by
    simp only [BT.get] at h
    simp only [BT.ins]
    split at h
    · rename_i hb
      injection h with h
      rw [h]
    · rename_i hb
      split at h
      · rename_i hc
        simp only [BT.ins_same l _ x h]
      · rename_i hc
        simp only [BT.ins_same r _ x h]

/-- The blocks; 'm': which others may be the same row as that one. -/
structure Bl where
  t : BT AObj
  m : BT (List Nat)
  n : Nat
  okt : t.ok n
  okm : m.ok n

def Bl.nil : Bl := ⟨.e, .e, 0, rfl, rfl⟩

instance : GetElem? Bl Nat AObj (fun b i => i < b.n) where
  getElem b i h := (b.t.get i).get ((BT.get_some b.t b.n i b.okt).2 h)
  getElem? b i := b.t.get i

def Bl.length (b : Bl) : Nat := b.n

def Bl.set (b : Bl) (i : Nat) (o : AObj) : Bl :=
  match b with
  | ⟨t, m, n, okt, okm⟩ => if h : i < n then ⟨t.ins i o, m, n, by have := BT.ok_ins t n i o okt (Nat.le_of_lt h); rwa [if_neg (Nat.ne_of_lt h)] at this, okm⟩ else ⟨t, m, n, okt, okm⟩

theorem Bl.set_def (b : Bl) (i : Nat) (o : AObj) : b.set i o = if h : i < b.n then ⟨b.t.ins i o, b.m, b.n, by have := BT.ok_ins b.t b.n i o b.okt (Nat.le_of_lt h); rwa [if_neg (Nat.ne_of_lt h)] at this, b.okm⟩ else b := rfl

def Bl.push (b : Bl) (o : AObj) : Bl :=
  match b with
  | ⟨t, m, n, okt, okm⟩ => ⟨t.ins n o, m.ins n [], n + 1, by have := BT.ok_ins t n n o okt (Nat.le_refl _); rwa [if_pos rfl] at this, by have := BT.ok_ins m n n [] okm (Nat.le_refl _); rwa [if_pos rfl] at this⟩

instance : HAppend Bl (List AObj) Bl := ⟨fun b l => l.foldl Bl.push b⟩

def Bl.map (f : AObj → AObj) (b : Bl) : Bl := ⟨b.t.map f, b.m, b.n, BT.ok_map f b.t b.n b.okt, b.okm⟩

/-- The others of the class. -/
def Bl.members (b : Bl) (k : Nat) : List Nat := (b.m.get k).getD []

/-- Another one of the class. -/
def Bl.join (b : Bl) (k i : Nat) : Bl :=
  if h : k < b.n then ⟨b.t, b.m.ins k (i :: b.members k), b.n, b.okt, by have := BT.ok_ins b.m b.n k (i :: b.members k) b.okm (Nat.le_of_lt h); rwa [if_neg (Nat.ne_of_lt h)] at this⟩ else b

/-- Some of them, each turned. -/
def Bl.upd (f : AObj → AObj) : List Nat → Bl → Bl
  | [], b => b
  | j :: r, b =>
    match b[j]? with
    | some o => Bl.upd f r (b.set j (f o))
    | none => Bl.upd f r b

namespace Bl
variable {b : Bl} {i j k : Nat} {o : AObj}

theorem get_eq : b[i]? = b.t.get i := rfl
theorem lt_of_get (h : b[i]? = some o) : i < b.length := (BT.get_some b.t b.n i b.okt).1 (by rw [← get_eq, h]; rfl)
theorem get_of_lt (h : i < b.length) : ∃ o, b[i]? = some o := Option.isSome_iff_exists.1 ((BT.get_some b.t b.n i b.okt).2 h)
theorem getElem?_eq_none (h : b.length ≤ i) : b[i]? = none := by
  cases hb : b[i]? with
  | none => rfl
  | some o => have := lt_of_get hb; omega
theorem getElem?_set : (b.set i o)[j]? = if i = j then (if i < b.length then some o else none) else b[j]? := by
  rw [Bl.set_def]
  by_cases h : i < b.n
  · rw [dif_pos h]
    have := BT.get_ins b.t b.n i j o b.okt (Nat.le_of_lt h)
    rw [get_eq, this]
    have h' : i < b.length := h
    by_cases hij : i = j
    · rw [if_pos hij, if_pos hij, if_pos h']
    · rw [if_neg hij, if_neg hij]; rfl
  · rw [dif_neg h]
    have h' : ¬ i < b.length := h
    by_cases hij : i = j
    · subst hij; rw [if_pos rfl, if_neg h']; exact getElem?_eq_none (Nat.le_of_not_lt h)
    · rw [if_neg hij]
theorem getElem?_set_self (h : i < b.length) : (b.set i o)[i]? = some o := by rw [getElem?_set, if_pos rfl, if_pos h]
theorem getElem?_set_ne (h : i ≠ j) : (b.set i o)[j]? = b[j]? := by rw [getElem?_set, if_neg h]
theorem set_same (h : b[i]? = some o) : b.set i o = b := by
  rw [Bl.set_def]
  split
  · obtain ⟨t, m, n, okt, okm⟩ := b
    simp only [Bl.mk.injEq, and_self, and_true]
    exact BT.ins_same t i o h
  · rfl
@[simp] theorem length_set : (b.set i o).length = b.length := by rw [Bl.set_def]; split <;> rfl
@[simp] theorem members_set : (b.set i o).members k = b.members k := by rw [Bl.set_def]; split <;> rfl
theorem push_eq : b ++ [o] = b.push o := rfl
theorem append_two {o' : AObj} : b ++ [o, o'] = (b ++ [o]) ++ [o'] := rfl
@[simp] theorem length_append : (b ++ [o]).length = b.length + 1 := rfl
theorem getElem?_append : (b ++ [o])[j]? = if j = b.length then some o else b[j]? := by
  rw [push_eq, get_eq]
  have := BT.get_ins b.t b.n b.n j o b.okt (Nat.le_refl _)
  refine this.trans ?_
  by_cases h : b.n = j
  · have h' : j = b.length := h.symm
    rw [if_pos h, if_pos h']
  · have h' : ¬ j = b.length := fun e => h e.symm
    rw [if_neg h, if_neg h']; rfl
theorem getElem?_append_left (h : j < b.length) : (b ++ [o])[j]? = b[j]? := by rw [getElem?_append, if_neg (Nat.ne_of_lt h)]
theorem getElem?_append_self : (b ++ [o])[b.length]? = some o := by rw [getElem?_append, if_pos rfl]
@[simp] theorem members_append : (b ++ [o]).members k = b.members k := by
  have := BT.get_ins b.m b.n b.n k [] b.okm (Nat.le_refl _)
  show ((b.m.ins b.n []).get k).getD [] = (b.m.get k).getD []
  rw [this]
  by_cases h : b.n = k
  · subst h
    have hn : b.m.get b.n = none := by
      cases hb : b.m.get b.n with
      | none => rfl
      | some x => exfalso; have := (BT.get_some b.m b.n b.n b.okm).1 (by rw [hb]; rfl); omega
    rw [if_pos rfl, hn]
    rfl
  · rw [if_neg h]
@[simp] theorem getElem?_map {f : AObj → AObj} : (b.map f)[j]? = (b[j]?).map f := BT.get_map f b.t j
@[simp] theorem length_map {f : AObj → AObj} : (b.map f).length = b.length := rfl
@[simp] theorem members_map {f : AObj → AObj} : (b.map f).members k = b.members k := rfl
@[simp] theorem getElem?_join : (b.join k i)[j]? = b[j]? := by unfold Bl.join; split <;> rfl
@[simp] theorem length_join : (b.join k i).length = b.length := by unfold Bl.join; split <;> rfl
theorem members_join (h : k < b.length) : (b.join k i).members j = if j = k then i :: b.members k else b.members j := by
  unfold Bl.join
  have h' : k < b.n := h
  rw [dif_pos h']
  have := BT.get_ins b.m b.n k j (i :: b.members k) b.okm (Nat.le_of_lt h)
  show ((b.m.ins k (i :: b.members k)).get j).getD [] = _
  rw [this]
  by_cases hk : k = j
  · rw [if_pos hk, if_pos hk.symm]; rfl
  · rw [if_neg hk, if_neg (fun e => hk e.symm)]; rfl
theorem members_lt {x : Nat} (h : x ∈ b.members k) : k < b.length := by
  refine (BT.get_some b.m b.n k b.okm).1 ?_
  cases hb : b.m.get k with
  | none => unfold Bl.members at h; rw [hb] at h; cases h
  | some l => rfl
theorem length_upd {f : AObj → AObj} : ∀ {l : List Nat} {b : Bl}, (Bl.upd f l b).length = b.length
  | [], _ => rfl
  | j :: r, b => by
    simp only [Bl.upd]
    split
    · rw [length_upd, length_set]
    · exact length_upd
theorem members_upd {f : AObj → AObj} : ∀ {l : List Nat} {b : Bl}, (Bl.upd f l b).members k = b.members k
  | [], _ => rfl
  | j :: r, b => by
    simp only [Bl.upd]
    split
    · rw [members_upd, members_set]
    · exact members_upd
theorem getElem?_upd {f : AObj → AObj} (hf : ∀ x, f (f x) = f x) : ∀ {l : List Nat} {b : Bl} {j : Nat}, (Bl.upd f l b)[j]? = if j ∈ l then (b[j]?).map f else b[j]?
  | [], _, _ => by simp [Bl.upd]
  | i :: r, b, j => by
    simp only [Bl.upd]
    split
    · rename_i o ho
      rw [getElem?_upd hf, getElem?_set]
      have hl := lt_of_get ho
      by_cases hij : i = j
      · subst hij
        rw [if_pos rfl, if_pos hl, if_pos List.mem_cons_self, ho]
        by_cases hr : i ∈ r
        · rw [if_pos hr]; simp [hf]
        · rw [if_neg hr]; rfl
      · rw [if_neg hij]
        by_cases hr : j ∈ r
        · rw [if_pos hr, if_pos (List.mem_cons_of_mem _ hr)]
        · rw [if_neg hr, if_neg (fun h => by rcases List.mem_cons.1 h with h | h; exact hij h.symm; exact hr h)]
    · rename_i ho
      rw [getElem?_upd hf]
      by_cases hij : i = j
      · subst hij
        rw [ho]; simp
      · by_cases hr : j ∈ r
        · rw [if_pos hr, if_pos (List.mem_cons_of_mem _ hr)]
        · rw [if_neg hr, if_neg (fun h => by rcases List.mem_cons.1 h with h | h; exact hij h.symm; exact hr h)]
end Bl

/-- A rule of one's own: what follows of what. -/
structure Rule where
  pre : List BE
  con : BE
  /-- Its unknowns stand for whatever it may be: those are found by what it says, and by 'find', which is looked for among what is known. -/
  find : List BE := []
  pat : Bool := false
  /-- It is learnt wherever such a number is asked about. -/
  trig : Option IE := none

/-- Whence an unknown of a loop's head is taken: a slot's number, length, capacity, place; the row of its block, what it has of elements and room; a text; a cell of a block. -/
inductive Src where
  | int (t : Nat)
  | len (t : Nat)
  | cap (t : Nat)
  | row (t : Nat)
  | rn (t : Nat)
  | rc (t : Nat)
  | brow (b : Nat)
  | bn (b : Nat)
  | bc (b : Nat)
  | txt (t : Nat)
  | cell (b o : Nat)

/-- A loop's head as one has it: how many unknowns, whence each is taken, whose blocks the new blocks are; then, by the first number of an unknown and that of a new block: the slots that hold other things, the blocks that do, the new blocks, what is so, and what grows less. -/
structure Head where
  nf : Nat
  src : List Src
  bsrc : List Nat
  tm : Nat → Nat → List (Nat × AV)
  bl : Nat → Nat → List (Nat × AObj)
  nb : Nat → Nat → List AObj
  inv : Nat → Nat → List BE
  ms : Nat → Nat → IE
  /-- Of what was known ahead only that is kept which asks of so many of the first unknowns. -/
  keep : Option Nat := none

/-- A loop that is not gone through round by round: which (how many slots the function has, its first region, how many operations that has), and its heads. -/
structure Ann where
  key : Nat × Nat × Nat
  heads : List Head

/-- What the walk is told besides. -/
structure Cfg where
  rules : List Rule := []
  anns : List Ann := []
  /-- Rows that are appended to are rows of which it is not said where they are. -/
  grow : Bool := false
  /-- Calls whose ends are taken together where they are as one has them: of which function; slot 0 is what it answers. -/
  joins : List (Nat × Head) := []

/-- 'l': whose rows the first blocks are; 'nv': how many unknowns came up. -/
structure Misc where
  l : List Nat := []
  nv : Nat := 0
  cfg : Cfg := {}

structure Hp where
  bs : Bl
  /-- How many capacities are open. -/
  nk : Nat
  /-- What else is kept. -/
  giv : Misc

def Hp.nil : Hp := ⟨.nil, 0, {}⟩

/-- Which block is that package's variable's. -/
def spotIn (g : Nat) : List Nat → Nat → Option Nat
  | [], _ => none
  | x :: r, i => if Nat.beq x g then some i else spotIn g r (i + 1)

def AV.cells : AV → List AV
  | .agg cs => cs
  | v => [v]

/-- A closed value. -/
def ofValue : Nat → Value → Option AV
  | 0, _ => none
  | _ + 1, .bool b => some (.bool (.lit b))
  | _ + 1, .int k n => some (.int k (.lit n))
  | _ + 1, .string s => some (.str s.data.toList)
  | _ + 1, .pointer none => some .nilPtr
  | _ + 1, .slice none 0 0 => some .nilSlice
  | _ + 1, .map none => some .nilMap
  | _ + 1, .nilFunc => some .nilFunc
  | _ + 1, .nilIface => some .nilIface
  | d + 1, .iface t v => (ofValue d v).map (.iface t)
  | d + 1, .agg cs => (cs.toList.mapM (ofValue d)).map .agg
  | d + 1, .tuple vs => (vs.toList.mapM (ofValue d)).map .tuple
  | d + 1, .func (.func f) a b => do
    let a ← a.toList.mapM (ofValue d)
    let b ← b.toList.mapM (ofValue d)
    pure (.func f a b)
  | _ + 1, _ => none

def ofV (v : Value) : Option AV := ofValue 6 v

/-- What stands for no value: a slot of which nothing is known. -/
def AV.poison : AV := .slice 0 0 1 (.known 0)
def AV.isPoison : AV → Bool
  | .slice 0 0 1 (.known 0) => true
  | _ => false
def AV.told (v : AV) : Option AV := if v.isPoison then none else some v
-- SWAP
def tget : List AV → Nat → Option AV
  | [], _ => none
  | a :: _, 0 => some a
  | _ :: r, i + 1 => tget r i
def tset (v : AV) : List AV → Nat → List AV
  | [], _ => []
  | _ :: r, 0 => v :: r
  | a :: r, i + 1 => a :: tset v r i
def hasB (b : BE) : List BE → Bool
  | [] => false
  | f :: r =>
    match decEq f b with
    | isTrue _ => true
    | isFalse _ => hasB b r
-- END
theorem tget_eq : ∀ (l : List AV) (i : Nat), tget l i = l[i]?
  | [], _ => rfl
  | _ :: _, 0 => rfl
  | _ :: l, i + 1 => by
    rw [List.getElem?_cons_succ]
    exact tget_eq l i
theorem tset_eq (v : AV) : ∀ (l : List AV) (i : Nat), tset v l i = l.set i v
  | [], _ => rfl
  | _ :: _, 0 => rfl
  | a :: l, i + 1 => by
    rw [List.set_cons_succ]
    exact congrArg (a :: ·) (tset_eq v l i)
theorem hasB_mem {b : BE} : ∀ {l : List BE}, hasB b l = true → b ∈ l
  | [], h => by cases h
  | f :: l, h => by
    by_cases e : f = b
    · exact e ▸ List.mem_cons_self
    · have h2 : hasB b (f :: l) = hasB b l := by
        show (match decEq f b with | isTrue _ => true | isFalse _ => hasB b l) = hasB b l
        rw [show decEq f b = isFalse e from Subsingleton.elim _ _]
      rw [h2] at h
      exact List.mem_cons_of_mem _ (hasB_mem h)

def opnd (tmps : List AV) : Operand → Option AV
  | .tmp t => (tget tmps t).bind AV.told
  | .const v => ofV v
  | .global g => some (.glob g 0)
  | .func f => some (.func f [] [])

/-! ### Types -/

def zero (P : Program) (t : TypeId) : Option AV := do
  let i ← P.info? t
  let z ← i.zero
  ofV z

def size (P : Program) (t : TypeId) : Option Nat := (P.info? t).map (·.size)
def bytes (P : Program) (t : TypeId) : Option Nat := (P.info? t).map (·.bytes)

def isAggT (P : Program) (t : TypeId) : Option Bool :=
  (P.underlying t).map fun | .struct _ | .array _ _ => true | _ => false

/-! ### Memory -/

def Hp.new (h : Hp) (o : AObj) : Nat × Hp := (h.bs.length, { h with bs := h.bs ++ [o] })

def Hp.newCells (h : Hp) (t : TypeId) (c : List AV) : Nat × Hp := h.new (.cells (c.map some) t none h.bs.length)

def Hp.cell? (h : Hp) (b o : Nat) : Option AV :=
  match h.bs[b]? with
  | some (.cells c _ _ _) => (c[o]?).join
  | some (.given c _) => c[o]?
  | _ => none

def loadFrom (h : Hp) (b o : Nat) : Nat → Option (List AV)
  | 0 => some []
  | n + 1 => do
    let v ← h.cell? b o
    let r ← loadFrom h b (o + 1) n
    pure (v :: r)

def loadV (P : Program) (h : Hp) (t : TypeId) (b o : Nat) : Option AV := do
  if ← isAggT P t then
    let n ← size P t
    (loadFrom h b o n).map .agg
  else h.cell? b o

/-- Another block that may be the same as the one that is written: its cell there is no longer known. -/
def smudge (o : Nat) : AObj → AObj
  | .cells c t m k => .cells (c.set o none) t m k
  | x => x

def AV.one : AV → Bool
  | .agg _ | .tuple _ => false
  | _ => true

def Hp.setCell (h : Hp) (b o : Nat) (v : AV) : Option Hp :=
  match h.bs[b]? with
  | some (.cells c t m k) =>
    if o < c.length && v.one then some { h with bs := Bl.upd (smudge o) ((k :: h.bs.members k).filter fun i => !Nat.beq i b) (h.bs.set b (.cells (c.set o (some v)) t m k)) } else none
  | _ => none

def storeFrom (h : Hp) (b o : Nat) : List AV → Option Hp
  | [] => some h
  | v :: r => do
    let h ← h.setCell b o v
    storeFrom h b (o + 1) r

def storeV (P : Program) (h : Hp) (t : TypeId) (b o : Nat) (v : AV) : Option Hp := do
  if v.cells.length = (← size P t) then storeFrom h b o v.cells else none

/-! ### What an operation comes to -/

inductive ANext where
  | value (v : AV) (h : Hp)
  | skip (h : Hp)
  | enter (f : FuncId) (args : List AV) (h : Hp)

def lit? : AV → Option Int
  | .int _ (.lit n) => some n
  | _ => none

/-- A value without unknowns and addresses. -/
def toValue : Nat → AV → Option Value
  | 0, _ => none
  | _ + 1, .bool (.lit b) => some (.bool b)
  | _ + 1, .int k (.lit n) => some (.int k n)
  | _ + 1, .str s => some (.string ⟨s.toArray⟩)
  | _ + 1, .nilPtr => some (.pointer none)
  | _ + 1, .nilSlice => some (.slice none 0 0)
  | _ + 1, .nilMap => some (.map none)
  | _ + 1, .nilFunc => some .nilFunc
  | _ + 1, .nilIface => some .nilIface
  | d + 1, .iface t v => (toValue d v).map (.iface t)
  | d + 1, .agg cs => (cs.mapM (toValue d)).map fun l => .agg l.toArray
  | d + 1, .tuple vs => (vs.mapM (toValue d)).map fun l => .tuple l.toArray
  | _ + 1, _ => none

/-- What asks nothing of memory. -/
def runPure {α : Type} (P : Program) : Nat → Sem α → Option α
  | 0, _ => none
  | _ + 1, .pure a => some a
  | n + 1, .program k => runPure P n (k P)
  | n + 1, .mark _ k => runPure P n k
  | _ + 1, _ => none

def binOpA (P : Program) (op : BinOp) (t : TypeId) (cx cy : Bool) (x y : AV) : Option AV :=
  match x, y with
  | .int k a, .int k' b =>
    match op with
    | .shl | .shr => (IE.mkBin op k a b).map (.int k)
    | .add | .sub | .mul | .quo | .rem | .and | .or | .xor | .andNot => if k = k' then (IE.mkBin op k a b).map (.int k) else none
    | _ => if k = k' then (BE.mkCmp op a b).map .bool else none
  | .bool a, .bool b =>
    match P.underlying t with
    | some .bool =>
      match op, a, b with
      | .eql, .lit a, .lit b => some (.bool (.lit (a == b)))
      | .neq, .lit a, .lit b => some (.bool (.lit (!(a == b))))
      | .eql, a, b => some (.bool (BE.mkSame a b))
      | .neq, a, b => some (.bool (BE.mkSame a b).mkNot)
      | _, _, _ => none
    | _ => none
  | .ptr _ _, .nilPtr | .nilPtr, .ptr _ _ =>
    match P.underlying t with
    | some (.pointer _) =>
      match op with
      | .eql => some (.bool (.lit false))
      | .neq => some (.bool (.lit true))
      | _ => none
    | _ => none
  | .ptr b o, .ptr b' o' =>
    match P.underlying t with
    | some (.pointer e) =>
      if b == b' && o == o' && (P.info? e).isSome then
        match op with
        | .eql => some (.bool (.lit true))
        | .neq => some (.bool (.lit false))
        | _ => none
      else none
    | _ => none
  | .slice _ _ _ _, .nilSlice | .nilSlice, .slice _ _ _ _ =>
    match P.underlying t with
    | some (.slice _) =>
      match op with
      | .eql => some (.bool (.lit false))
      | .neq => some (.bool (.lit true))
      | _ => none
    | _ => none
  | .func _ _ _, .nilFunc | .nilFunc, .func _ _ _ =>
    match P.underlying t with
    | some (.func _ _ _) =>
      match op with
      | .eql => some (.bool (.lit false))
      | .neq => some (.bool (.lit true))
      | _ => none
    | _ => none
  | .map _, .nilMap | .nilMap, .map _ =>
    match P.underlying t with
    | some (.map _ _) =>
      match op with
      | .eql => some (.bool (.lit false))
      | .neq => some (.bool (.lit true))
      | _ => none
    | _ => none
  | .strv i, .str s | .str s, .strv i =>
    match P.underlying t with
    | some .string =>
      match op with
      | .eql => some (.bool (.seqs i s))
      | .neq => some (.bool (.not (.seqs i s)))
      | _ => none
    | _ => none
  | x, y => do
    let vx ← toValue 6 x
    let vy ← toValue 6 y
    let ox : Operand := if cx then .const vx else .tmp 0
    let oy : Operand := if cy then .const vy else .tmp 0
    let r ← runPure P 3000 (do eqGuard op t ox oy vx vy; binOp op t vx vy)
    ofV r

def unOpA (op : UnOp) (x : AV) : Option AV :=
  match op, x with
  | .neg, .int k e => (IE.mkBin .sub k (.lit 0) e).map (.int k)
  | .xor, .int k e => (IE.mkBin .xor k (.lit (if k.signed then -1 else k.max)) e).map (.int k)
  | .not, .bool b => some (.bool b.mkNot)
  | _, _ => none

/-- Bytes of cells. -/
def byteCells : List AV → Option (List UInt8)
  | [] => some []
  | .int .u8 (.lit n) :: r => do
    let r ← byteCells r
    pure (UInt8.ofNat n.toNat :: r)
  | _ => none

def bytesAV (s : List UInt8) : List AV := s.map fun b => .int .u8 (.lit b.toNat)

def convertA (P : Program) (h : Hp) (src dst : TypeId) (x : AV) : Option (AV × Hp) :=
  match P.underlying src, P.underlying dst, x with
  | some (.slice e), some .string, .nilSlice =>
    match P.underlying e with
    | some (.int .u8) => some (.str [], h)
    | _ => none
  | some (.slice e), some .string, .slice b o n _ =>
    match P.underlying e with
    | some (.int .u8) => do
      let l ← loadFrom h b o n
      let s ← byteCells l
      pure (.str s, h)
    | _ => none
  | some (.slice _), some (.slice e), .slice b o n c =>
    if src == dst then
      match P.underlying e, h.bs[b]? with
      | some (.int .u8), some (.cells _ _ _ _) => some (.slice b o n c, h)
      | _, _ => none
    else none
  | some (.pointer t), some .unsafePointer, .ptr b o =>
    match size P t, h.bs[b]? with
    | some (_ + 1), some (.cells c _ _ _) => if o < c.length then some (.ptr b o, h) else none
    | _, _ => none
  | some .unsafePointer, some (.pointer u), .ptr b o =>
    match size P u, h.bs[b]? with
    | some _, some (.cells c e none _) => if liesAt P P.depth e (c.length / P.cellsOf e) o u 1 then some (.ptr b o, h) else none
    | _, _ => none
  | _, _, _ => none

/-- Parts laid into cells. -/
def setMany (cs : List AV) (o : Nat) : List AV → List AV
  | [] => cs
  | v :: r => setMany (cs.set o v) (o + 1) r

def fillA (place : Nat → Option (Nat × Nat)) (cs : List AV) : List (Nat × AV) → Option (List AV)
  | [] => some cs
  | (i, v) :: r => do
    let (off, n) ← place i
    if v.cells.length ≠ n || off + v.cells.length > cs.length then none
    else fillA place (setMany cs off v.cells) r

def places (P : Program) (fs : List Field) : Option (List (Nat × Nat)) := fs.mapM fun f => (size P f.type).map fun n => (f.offset, n)

def buildA (P : Program) (t : TypeId) (parts : List (Nat × AV)) : Option AV := do
  let z ← zero P t
  match P.underlying t with
  | some (.struct fs) =>
    let pl ← places P fs.toList
    (fillA (fun i => pl[i]?) z.cells parts).map .agg
  | some (.array _ e) =>
    let n ← size P e
    (fillA (fun i => some (i * n, n)) z.cells parts).map .agg
  | _ => none

def copies (z : List AV) : Nat → List AV
  | 0 => []
  | n + 1 => z ++ copies z n

def buildSliceA (P : Program) (t : TypeId) (len : Nat) (parts : List (Nat × AV)) : Option (TypeId × List AV) :=
  match P.underlying t with
  | some (.slice e) => do
    let n ← size P e
    if len * n > 2 ^ 24 then none else
    let z ← zero P e
    if z.cells.length ≠ n then none else
    let cs ← fillA (fun i => some (i * n, n)) (copies z.cells len) parts
    pure (e, cs)
  | _ => none

def makeSliceA (P : Program) (t : TypeId) (l c : AV) : Option (TypeId × List AV × Nat × Nat) :=
  match P.underlying t with
  | some (.slice e) => do
    let l ← lit? l
    let c ← lit? c
    let y ← bytes P e
    let n ← size P e
    let z ← zero P e
    if l < 0 || c < l || c > 2 ^ 30 || y * c > 2 ^ 47 || z.cells.length ≠ n then none else
    pure (e, copies z.cells c.toNat, l.toNat, c.toNat)
  | _ => none

def partA (P : Program) (t : TypeId) (cs : List AV) (off : Nat) : Option AV := do
  if ← isAggT P t then
    let n ← size P t
    pure (.agg ((cs.drop off).take n))
  else cs[off]?

def fieldA (P : Program) (t : TypeId) (x : AV) (f : Nat) : Option AV :=
  match P.underlying t, x with
  | some (.struct fs), .agg cs => do
    let f ← fs[f]?
    partA P f.type cs f.offset
  | _, _ => none

def indexA (P : Program) (t : TypeId) (x i : AV) : Option AV :=
  match i with
  | .int _ (.lit i) =>
    match P.underlying t, x with
    | some (.array len e), .agg cs => do
      if 0 ≤ i && i < len then
        let n ← size P e
        partA P e cs (i.toNat * n)
      else none
    | some .string, .str s => do
      if 0 ≤ i then
        let b ← s[i.toNat]?
        pure (.int .u8 (.lit b.toNat))
      else none
    | _, _ => none
  | _ => none

def fieldAddrA (P : Program) (t : TypeId) (x : AV) (f : Nat) : Option AV :=
  match P.underlying t, x with
  | some (.struct fs), .ptr b o => do
    let f ← fs[f]?
    let n ← size P f.type
    if n = 0 then none else pure (.ptr b (o + f.offset))
  | some (.struct fs), .glob b o => do
    let f ← fs[f]?
    let n ← size P f.type
    if n = 0 then none else pure (.glob b (o + f.offset))
  | _, _ => none

def indexAddrA (P : Program) (t : TypeId) (x i : AV) : Option AV :=
  match i with
  | .int _ (.lit i) =>
    match P.underlying t, x with
    | some (.array len e), .ptr b o => do
      if 0 ≤ i && i < len then
        let n ← size P e
        pure (.ptr b (o + i.toNat * n))
      else none
    | some (.array len e), .glob b o => do
      if 0 ≤ i && i < len then
        let n ← size P e
        pure (.glob b (o + i.toNat * n))
      else none
    | some (.slice e), .slice b o len _ => do
      if 0 ≤ i && i < len then
        let n ← size P e
        pure (.ptr b (o + i.toNat * n))
      else none
    | _, _ => none
  | _ => none

/-- Bounds, of which those that are not there are the ends. -/
def bound (x : Option AV) (d y : Nat) : Option Nat :=
  match x with
  | none => some d
  | some (.int _ (.lit i)) => if 0 ≤ i && i ≤ y then some i.toNat else none
  | _ => none

def sliceA (P : Program) (t : TypeId) (x : AV) (lo hi mx : Option AV) : Option AV :=
  match P.underlying t, x with
  | some .string, .str s => do
    if mx.isSome then none else
    let h ← bound hi s.length s.length
    let l ← bound lo 0 h
    pure (.str ((s.drop l).take (h - l)))
  | some (.slice e), .slice b o len (.known cap) => do
    if mx.isSome && hi.isNone then none else
    let m ← bound mx cap cap
    let h ← bound hi len m
    let l ← bound lo 0 h
    let n ← size P e
    pure (.slice b (if m = l then o else o + l * n) (h - l) (.known (m - l)))
  | some (.slice e), .slice b o len (.var i s) => do
    -- of one whose capacity is open the front, or a part with a bound of its own
    let n ← size P e
    if mx.isSome then
      if hi.isNone then none else
      let m ← bound mx len len
      let h ← bound hi len m
      let l ← bound lo 0 h
      pure (.slice b (if m = l then o else o + l * n) (h - l) (.known (m - l)))
    else
    let h ← bound hi len len
    let l ← bound lo 0 h
    if l = 0 then pure (.slice b o h (.var i s))
    else if l < len then pure (.slice b (o + l * n) (h - l) (.var i (s + l))) else none
  | some (.slice e), .nilSlice => do
    if mx.isSome && hi.isNone then none else
    let _ ← size P e
    let m ← bound mx 0 0
    let h ← bound hi 0 m
    let _ ← bound lo 0 h
    pure .nilSlice
  | some (.array n e), .ptr b o => do
    if mx.isSome && hi.isNone then none else
    let m ← bound mx n n
    let h ← bound hi n m
    let l ← bound lo 0 h
    let z ← size P e
    pure (.slice b (if m = l then o else o + l * z) (h - l) (.known (m - l)))
  | _, _ => none

def lenOfA : AV → Option Nat
  | .slice _ _ n _ => some n
  | .nilSlice => some 0
  | .str s => some s.length
  | _ => none

def firstA (h : Hp) (n size : Nat) : AV → Option (List AV)
  | .slice b o _ _ => loadFrom h b o (n * size)
  | .nilSlice => some []
  | .str s => some (bytesAV (s.take n))
  | _ => none

/-- A row whose capacity is open, of these cells at first. -/
def Hp.newRow (h : Hp) (e : TypeId) (c : List AV) (size cls : Nat) (len : Nat) : AV × Hp :=
  (.slice h.bs.length 0 len (.var h.nk 0), { (h.new (.cells (c.map some) e (some (h.nk, size, len, 0)) cls)).2 with nk := h.nk + 1 })

/-- Another row of a class. -/
def Hp.newRowIn (h : Hp) (e : TypeId) (c : List AV) (size cls : Nat) (len : Nat) : AV × Hp :=
  ((h.newRow e c size cls len).1, { (h.newRow e c size cls len).2 with bs := (h.newRow e c size cls len).2.bs.join cls h.bs.length })

def dirtC (lo hi : Nat) : List (Option AV) → Nat → List (Option AV)
  | [], _ => []
  | v :: r, i => (if lo ≤ i && i < hi then none else v) :: dirtC lo hi r (i + 1)

/-- Cells from 'lo' to 'hi' of a block of a class: unknown from now on. -/
def dirt1 (k lo hi : Nat) : AObj → AObj
  | .cells c t m k' => if k' == k then .cells (dirtC lo hi c 0) t m k' else .cells c t m k'
  | x => x

def Hp.dirty (h : Hp) (k lo hi : Nat) : Hp := { h with bs := Bl.upd (dirt1 k lo hi) (k :: h.bs.members k) h.bs }

/-- Is it known that so many fit into a row, and are its cells told? -/
def fitsA (bs : Bl) (b i n m : Nat) : Bool :=
  match bs[b]? with
  | some (.cells c _ (some (j, _, lo, _)) _) => j = i && n ≤ lo && m ≤ c.length
  | _ => false

/-- Is it known that so many do not fit? -/
def growsA (bs : Bl) (b i n : Nat) : Bool :=
  match bs[b]? with
  | some (.cells _ _ (some (j, _, _, hi)) _) => j = i && hi ≠ 0 && hi < n
  | _ => false

/-- How many are appended, and which: those of a row, of a text, or so many zeros. -/
def partsA (P : Program) (h : Hp) (xt : TypeId) (x : AV) (z y : Nat) (zz : AV) : Option (Nat × List AV) :=
  match P.underlying xt with
  | some (.int _) => do
    let m ← lit? x
    if m < 0 || m > 2 ^ 24 || m.toNat * y > 2 ^ 47 then none else pure (m.toNat, copies zz.cells m.toNat)
  | some _ => do
    let n ← lenOfA x
    let new ← firstA h n z x
    pure (n, new)
  | none => none

def appendA (P : Program) (h : Hp) (ts : List TypeId) (s x : AV) : Option (AV × Hp) := do
  let st ← ts[0]?
  match P.underlying st with
  | some (.slice e) =>
    let z ← size P e
    let y ← bytes P e
    let zz ← zero P e
    let xt ← ts[1]?
    if zz.cells.length ≠ z then none else do
      let (n, new) ← partsA P h xt x z y zz
      if new.length ≠ n * z then none else
      match s with
      | .nilSlice =>
        if n = 0 then pure (.nilSlice, h) else
        if (8 * n + 4096) * y > 2 ^ 47 || y = 0 || n > 2 ^ 30 then none else
        pure (h.newRow e new z h.bs.length n)
      | .slice b o len (.known cap) =>
        if len + n ≤ cap then do
          let h ← storeFrom h b (o + len * z) new
          pure (.slice b o (len + n) (.known cap), h)
        else
          if (8 * (len + n) + 4096) * y > 2 ^ 47 || y = 0 || len + n > 2 ^ 30 then none else do
          let old ← loadFrom h b o (len * z)
          pure (h.newRow e (old ++ new) z h.bs.length (len + n))
      | .slice b o len (.var i sub) =>
        if o ≠ 0 || sub ≠ 0 then none else
        if n = 0 then pure (s, h) else
        if fitsA h.bs b i (len + n) ((len + n) * z) then do
          let h ← storeFrom h b (len * z) new
          pure (.slice b 0 (len + n) (.var i 0), h)
        else
        if (8 * (len + n) + 4096) * y > 2 ^ 47 || y = 0 || len + n > 2 ^ 30 then none else
        if growsA h.bs b i (len + n) then do
          let old ← loadFrom h b 0 (len * z)
          pure (h.newRow e (old ++ new) z h.bs.length (len + n))
        else
        match h.bs[b]? with
        | some (.cells _ t (some (j, z', _, _)) k) =>
          if j ≠ i || z' ≠ z || t ≠ e || !(new.all AV.one) then none else do
          let old ← loadFrom h b 0 (len * z)
          -- what others may see behind its end is no longer known
          pure ((h.dirty k (len * z) (len * z + new.length)).newRowIn e (old ++ new) z k (len + n))
        | _ => none
      | _ => none
  | _ => none

end Go.Sx
