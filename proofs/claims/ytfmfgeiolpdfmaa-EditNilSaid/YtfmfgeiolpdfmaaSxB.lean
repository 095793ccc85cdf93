/-
  A WALKER THAT COMPUTES, ITS SECOND PART: operations, regions, code, calls.
-/
import Derived.Test.YtfmfgeiolpdfmaaSxA
namespace Go.Sx

def undefA : AV := .tuple []

def isConst : Operand → Bool
  | .const _ => true
  | _ => false

def args1 (tmps : List AV) : List Operand → Option (List AV)
  | [] => some []
  | x :: r => do
    let v ← opnd tmps x
    let l ← args1 tmps r
    pure (v :: l)

def opt1 (tmps : List AV) : Option Operand → Option (Option AV)
  | none => some none
  | some x => (opnd tmps x).map some

def parts1 (tmps : List AV) : List (Nat × Operand) → Option (List (Nat × AV))
  | [] => some []
  | (i, x) :: r => do
    let v ← opnd tmps x
    let l ← parts1 tmps r
    pure ((i, v) :: l)

def capA : AV → Option Nat
  | .slice _ _ _ (.known n) => some n
  | .nilSlice => some 0
  | _ => none

def minInt (mx : Bool) : Int → List AV → IntKind → Option AV
  | n, [], k => some (.int k (.lit n))
  | n, .int _ (.lit m) :: r, k => minInt mx (if mx then (if m > n then m else n) else (if m < n then m else n)) r k
  | _, _, _ => none

/-- Operations that ask nothing of memory, and change nothing there. -/
def aopPure (P : Program) (tmps : List AV) (o : Oper) : Option AV :=
  match o.op with
  | .move x | .assign x => opnd tmps x
  | .pick c a b => do
    match ← opnd tmps c with
    | .bool (.lit c) => if c then opnd tmps a else opnd tmps b
    | _ => none
  | .build t ps => do
    let ps ← parts1 tmps ps.toList
    buildA P t ps
  | .nilCheck x => do
    match ← opnd tmps x with
    | .ptr b o => pure (.ptr b o)
    | .func f a b => pure (.func f a b)
    | _ => none
  | .binOp op t x y _ => do
    let a ← opnd tmps x
    let b ← opnd tmps y
    binOpA P op t (isConst x) (isConst y) a b
  | .unOp op _ x => do
    let a ← opnd tmps x
    unOpA op a
  | .makeInterface t x => do
    let v ← opnd tmps x
    match P.underlying t with
    | some (.interface _) => none
    | some _ => pure (.iface t v)
    | none => none
  | .makeFunc (.func f) a b => do
    let a ← args1 tmps a.toList
    let b ← args1 tmps b.toList
    pure (.func f a b)
  | .slice t x lo hi mx => do
    let x ← opnd tmps x
    let lo ← opt1 tmps lo
    let hi ← opt1 tmps hi
    let mx ← opt1 tmps mx
    sliceA P t x lo hi mx
  | .fieldAddr t x f => do
    let x ← opnd tmps x
    fieldAddrA P t x f
  | .field t x f => do
    let x ← opnd tmps x
    fieldA P t x f
  | .indexAddr t x i => do
    let x ← opnd tmps x
    let i ← opnd tmps i
    indexAddrA P t x i
  | .index t x i => do
    let x ← opnd tmps x
    let i ← opnd tmps i
    indexA P t x i
  | .extract t i => do
    match ← opnd tmps t with
    | .tuple vs => vs[i]?
    | _ => none
  | .convert src dst x => do
    let x ← opnd tmps x
    match P.underlying src, P.underlying dst, x with
    | some _, some (.int k), .int _ e => some (.int k (IE.mkWrap k e))
    | some _, some .string, .str s => some (.str s)
    | some _, some .string, .int _ (.lit n) => some (.str (Utf8.encode n).data.toList)
    | _, _, _ => none
  | .call { callee := .builtin .len, args, argTypes } => do
    let t ← argTypes[0]?
    let xs ← args1 tmps args.toList
    match P.underlying t, xs with
    | some .string, [.str s] => some (.int .i64 (.lit s.length))
    | some (.slice _), [.slice _ _ n _] => some (.int .i64 (.lit n))
    | some (.slice _), [.nilSlice] => some (.int .i64 (.lit 0))
    | some (.array n _), [_] => some (.int .i64 (.lit n))
    | some (.map _ _), [.nilMap] => some (.int .i64 (.lit 0))
    | _, _ => none
  | .call { callee := .builtin .cap, args, argTypes } => do
    let t ← argTypes[0]?
    let xs ← args1 tmps args.toList
    match P.underlying t, xs with
    | some (.slice _), [x] => (capA x).map fun (n : Nat) => AV.int .i64 (.lit (n : Int))
    | _, _ => none
  | .call { callee := .builtin .min, args, .. } => do
    match ← args1 tmps args.toList with
    | .int k (.lit n) :: r => minInt false n r k
    | _ => none
  | .call { callee := .builtin .max, args, .. } => do
    match ← args1 tmps args.toList with
    | .int k (.lit n) :: r => minInt true n r k
    | _ => none
  | _ => none

/-- Operations that lay one new block, and ask nothing else of memory: the value, the block ('b', 'k': the numbers that the block and the first open capacity get), how many capacities are open by it. -/
def allocA (P : Program) (tmps : List AV) (b k : Nat) (o : Oper) : Option (AV × AObj × Nat) :=
  match o.op with
  | .alloc t => do
    let z ← zero P t
    pure (.ptr b 0, .cells (z.cells.map some) t none b, 0)
  | .box t x => do
    let v ← opnd tmps x
    pure (.ptr b 0, .cells (v.cells.map some) t none b, 0)
  | .buildSlice t len ps => do
    let ps ← parts1 tmps ps.toList
    let (e, cs) ← buildSliceA P t len ps
    pure (.slice b 0 len (.known len), .cells (cs.map some) e none b, 0)
  | .makeSlice t l c => do
    let l ← opnd tmps l
    let c ← opnd tmps c
    let (e, cs, l, c) ← makeSliceA P t l c
    pure (.slice b 0 l (.known c), .cells (cs.map some) e none b, 0)
  | .convert src dst x => do
    match P.underlying src, P.underlying dst, ← opnd tmps x with
    | some _, some (.slice e), .str s =>
      match P.underlying e with
      | some (.int .u8) => pure (.slice b 0 s.length (.var k), .cells ((bytesAV s).map some) e (some (k, 1)) b, 1)
      | _ => none
    | _, _, _ => none
  | .range t x => do
    match P.underlying t, ← opnd tmps x with
    | some .string, .str s => pure (.ptr b 0, .strIter s 0, 0)
    | _, _ => none
  | .makeMap _ none => pure (.map b, .map [] 0, 0)
  | _ => none

/-- A text's bytes. -/
def bytesA (h : Hp) : AV → Option (List UInt8)
  | .str s => some s
  | .nilSlice => some []
  | .slice b o n _ => do
    let l ← loadFrom h b o n
    byteCells l
  | _ => none

def aopMem (P : Program) (tmps : List AV) (h : Hp) (o : Oper) : Option ANext :=
  match o.op with
  | .load t a => do
    match ← opnd tmps a with
    | .ptr b o => (loadV P h t b o).map (.value · h)
    | _ => none
  | .store t a x => do
    let v ← opnd tmps x
    match ← opnd tmps a with
    | .ptr b o => (storeV P h t b o v).map .skip
    | _ => none
  | .convert src dst x => do
    let x ← opnd tmps x
    let (v, h) ← convertA P h src dst x
    pure (.value v h)
  | .next it true => do
    match ← opnd tmps it with
    | .ptr b 0 =>
      match h.bs[b]? with
      | some (.strIter s pos) =>
        if pos < s.length then
          let (c, n) := Utf8.decode ⟨s.toArray⟩ pos
          pure (.value (.tuple [.bool (.lit true), .int .i64 (.lit pos), .int .i32 (.lit c)]) { h with bs := h.bs.set b (.strIter s (pos + n)) })
        else pure (.value (.tuple [.bool (.lit false)]) h)
      | _ => none
    | _ => none
  | .call { callee := .builtin .append, args, argTypes } => do
    match ← args1 tmps args.toList with
    | [s, x] =>
      let (v, h) ← appendA P h argTypes.toList s x
      pure (.value v h)
    | _ => none
  | .call { callee := .builtin .copy, args, argTypes } => do
    let t ← argTypes[0]?
    match P.underlying t, ← args1 tmps args.toList with
    | some (.slice e), [d, s] =>
      let z ← size P e
      let n ← lenOfA s
      match d with
      | .nilSlice => pure (.value (.int .i64 (.lit 0)) h)
      | .slice b o len _ =>
        let m := min n len
        let new ← firstA h m z s
        let h ← storeFrom h b o new
        pure (.value (.int .i64 (.lit m)) h)
      | _ => none
    | _, _ => none
  | .call { callee := .value f, args, .. } => do
    match ← opnd tmps f with
    | .func f a b =>
      let xs ← args1 tmps args.toList
      let fn ← P.funcs[f]?
      if fn.body.isSome then pure (.enter f (a ++ xs ++ b) h)
      else if fn.name == "internal/bytealg.Compare" && (Extern.findNext fn).isNone then
        match a ++ xs ++ b with
        | [x, y] =>
          let s ← bytesA h x
          let t ← bytesA h y
          pure (.value (.int .i64 (.lit (Extern.BytealgCompare.cmp ⟨s.toArray⟩ ⟨t.toArray⟩))) h)
        | _ => none
      else none
    | _ => none
  | _ => none

/-! ### States -/

structure St where
  tmps : List AV
  h : Hp
  pc : List BE

def St.put (σ : St) (d : Option Tmp) (v : AV) : St :=
  match d with
  | some d => { σ with tmps := σ.tmps.set d v }
  | none => σ

def St.with (σ : St) (b : BE) : St := { σ with pc := b :: σ.pc }

/-- Is it known which it is? -/
def truth (pc : List BE) : BE → Option Bool
  | .lit b => some b
  | b => if pc.contains b then some true else if pc.contains b.mkNot then some false else
    match b with
    | .cmp op e (.lit n) => decideB op n (bnd pc e)
    | .not (.cmp op e (.lit n)) => (decideB op n (bnd pc e)).map not
    | _ => none

/-- An open truth: both ways. -/
def split1 {α : Type} (σ : St) (b : BE) (yes no : St → Option (List α)) : Option (List α) :=
  match truth σ.pc b with
  | some true => yes σ
  | some false => no σ
  | none => do
    let l ← yes (σ.with b)
    let r ← no (σ.with b.mkNot)
    pure (l ++ r)

/-- Of two truths that are compared, the one and then the other. -/
def split {α : Type} (σ : St) (b : BE) (yes no : St → Option (List α)) : Option (List α) :=
  match b with
  | .same x y => split1 σ x (fun σ => split1 σ y yes no) (fun σ => split1 σ y no yes)
  | .not (.same x y) => split1 σ x (fun σ => split1 σ y no yes) (fun σ => split1 σ y yes no)
  | b => split1 σ b yes no

/-- One behind the other. -/
def each {α β : Type} (f : α → Option (List β)) : List α → Option (List β)
  | [] => some []
  | x :: r => do
    let l ← f x
    let m ← each f r
    pure (l ++ m)

abbrev CallF := FuncId → List AV → Hp → List BE → Option (List (AV × Hp × List BE))

def doOp (P : Program) (call : CallF) (o : Oper) (σ : St) : Option (List St) :=
  match o.op with
  | .pick c x y => do
    match ← opnd σ.tmps c with
    | .bool b => split σ b (fun σ => (opnd σ.tmps x).map fun v => [σ.put o.dst v]) (fun σ => (opnd σ.tmps y).map fun v => [σ.put o.dst v])
    | _ => none
  | _ =>
    match aopPure P σ.tmps o with
    | some v => some [σ.put o.dst v]
    | none =>
    match allocA P σ.tmps σ.h.bs.length σ.h.nk o with
    | some (v, ob, n) => some [{ σ with h := { bs := σ.h.bs ++ [ob], nk := σ.h.nk + n } }.put o.dst v]
    | none => do
      match ← aopMem P σ.tmps σ.h o with
      | .value v h => pure [{ σ with h }.put o.dst v]
      | .skip h => pure [{ σ with h }.put o.dst undefA]
      | .enter f args h =>
        let l ← call f args h σ.pc
        pure (l.map fun (v, h, pc) => { σ with h, pc }.put o.dst v)

/-- Whether an operation is to be done at all. -/
def guarded {α : Type} (ops : Array Oper) (o : Oper) (σ : St) (yes no : St → Option (List α)) : Option (List α) :=
  match o.guard with
  | none => yes σ
  | some (j, want) =>
    match ((ops[j]?).bind (·.dst)).bind (σ.tmps[·]?) with
    | some (.bool b) => if want then split σ b yes no else split σ b no yes
    | _ => no σ

def runOps (P : Program) (call : CallF) (ops : Array Oper) : List Oper → St → Option (List St)
  | [], σ => some [σ]
  | o :: r, σ =>
    guarded ops o σ (fun σ => do
      let l ← doOp P call o σ
      each (runOps P call ops r) l) (fun σ => runOps P call ops r (σ.put o.dst undefA))

/-! ### Regions whose order is drawn -/

mutual
def AV.beq : AV → AV → Bool
  | .bool a, .bool b => a = b
  | .int k a, .int l b => k = l && a = b
  | .str a, .str b => a = b
  | .nilPtr, .nilPtr | .nilSlice, .nilSlice | .nilMap, .nilMap | .nilFunc, .nilFunc | .nilIface, .nilIface => true
  | .ptr a b, .ptr c d => a = c && b = d
  | .slice a b c (.known n), .slice d e f (.known m) => a = d && b = e && c = f && n = m
  | .slice a b c (.var n), .slice d e f (.var m) => a = d && b = e && c = f && n = m
  | .map a, .map b => a = b
  | .func f a b, .func g c d => f = g && AV.beqL a c && AV.beqL b d
  | .iface t a, .iface u b => t = u && AV.beq a b
  | .agg a, .agg b => AV.beqL a b
  | .tuple a, .tuple b => AV.beqL a b
  | _, _ => false
def AV.beqL : List AV → List AV → Bool
  | [], [] => true
  | a :: r, b :: s => AV.beq a b && AV.beqL r s
  | _, _ => false
end

/-- What is held of memory while a region goes on. -/
abbrev Held := List (Nat × Nat × AV)

def keeps (h : Hp) : Held → Bool
  | [] => true
  | (b, o, v) :: r => (match h.cell? b o with | some u => AV.beq u v | none => false) && keeps h r

def heldFrom (b o : Nat) : List AV → Held
  | [] => []
  | v :: r => (b, o, v) :: heldFrom b (o + 1) r

/-- A load, and what it leans on. -/
def aopLoad (P : Program) (tmps : List AV) (h : Hp) (o : Oper) : Option (AV × Held) :=
  match o.op with
  | .load t a => do
    match ← opnd tmps a with
    | .ptr b o =>
      if ← isAggT P t then
        let n ← size P t
        let l ← loadFrom h b o n
        pure (.agg l, heldFrom b o l)
      else
        let v ← h.cell? b o
        pure (v, [(b, o, v)])
    | _ => none
  | _ => none

/-- Is it known whether an operation is to be done? -/
def gate (ops : Array Oper) (o : Oper) (σ : St) : Option Bool :=
  match o.guard with
  | none => some true
  | some (j, want) =>
    match ((ops[j]?).bind (·.dst)).bind (σ.tmps[·]?) with
    | some (.bool b) => (truth σ.pc b).map (· == want)
    | _ => some false

inductive Take where
  | idle                         -- it is not to be done
  | val (v : AV) (F : Held)      -- it yields that
  | pick (b : BE) (x y : AV)     -- it yields the one or the other

/-- An operation that may as well be taken first. -/
def takeOf (P : Program) (ops : Array Oper) (o : Oper) (σ : St) : Option Take :=
  match gate ops o σ with
  | none => none
  | some false => some .idle
  | some true =>
    match o.op with
    | .pick c x y =>
      match opnd σ.tmps c, opnd σ.tmps x, opnd σ.tmps y with
      | some (.bool (.lit b)), some x, some y => some (.val (if b then x else y) [])
      | some (.bool b), some x, some y => some (.pick b x y)
      | _, _, _ => none
    | _ =>
      match aopPure P σ.tmps o with
      | some v => some (.val v [])
      | none => (aopLoad P σ.tmps σ.h o).map fun (v, F) => .val v F

def freeOne (P : Program) (ops : Array Oper) (listed : Array Bool) (σ : St) : List Nat → Option (Nat × Oper × Take)
  | [] => none
  | i :: r =>
    match ops[i]? with
    | some o =>
      if Region.free .any ops listed i then
        match takeOf P ops o σ with
        | some t => some (i, o, t)
        | none => freeOne P ops listed σ r
      else freeOne P ops listed σ r
    | none => freeOne P ops listed σ r

/-- Does it lay a new block, and no more? -/
def lays (P : Program) (ops : Array Oper) (σ : St) (i : Nat) : Bool :=
  match ops[i]? with
  | some o => o.dst.isSome && decide (o.dst.getD 0 < σ.tmps.length) && (gate ops o σ == some true) && (allocA P σ.tmps 0 0 o).isSome && !((o.looksAt ops).contains (o.dst.getD 0)) && (aopPure P σ.tmps o).isNone
  | none => false

def listAll (listed : Array Bool) : List Nat → Array Bool
  | [] => listed
  | i :: r => listAll (listed.setIfInBounds i true) r

/-- Two operations that do not touch what the other one looks at. -/
def apart2 (ops : Array Oper) (i j : Nat) : Bool :=
  match ops[i]?, ops[j]? with
  | some x, some y => x.apart ops y && y.apart ops x
  | _, _ => false

def allApart (ops : Array Oper) : List Nat → Bool
  | [] => true
  | i :: r => r.all (apart2 ops i ·) && allApart ops r

/-- What is held, each until one of some operations has come up. -/
abbrev Tags := List (Held × List Nat)

def keepsT (h : Hp) (L : Array Bool) : Tags → Bool
  | [] => true
  | (F, D) :: r => (D.any (fun j => L.getD j false) || keeps h F) && keepsT h L r

/-- An operation that is never taken first. -/
def strong (o : Oper) : Bool :=
  match o.op with
  | .store _ _ _ => true
  | .mapUpdate _ _ _ _ => true
  | .call { callee := .value _, .. } => true
  | .call { callee := .builtin .append, .. } => true
  | .call { callee := .builtin .copy, .. } => true
  | _ => false

/-- Those that wait for it, and are never taken first. -/
def waiters (ops : Array Oper) (L : Array Bool) (i : Nat) : List Nat :=
  (List.range ops.size).filter fun j => match ops[j]? with
    | some o => !L.getD j true && strong o && o.after.any (fun e => Region.binds .any e && e.on == i)
    | none => false

def addTag (ops : Array Oper) (L : Array Bool) (i : Nat) (F : Held) (S : Tags) : Tags :=
  match F with
  | [] => S
  | f :: F => (f :: F, waiters ops L i) :: S

def untagged (i : Nat) (S : Tags) : Bool := S.all fun t => !t.2.contains i

/-- 'fl': those that may have come up already (they lay new blocks, and touch nothing that others look at). -/
def runAny (P : Program) (call : CallF) (ops : Array Oper) : Nat → Array Bool → Tags → List Nat → St → Option (List St)
  | 0, _, _, _, _ => none
  | n + 1, listed, S, fl, σ =>
    match Region.ready .any ops listed with
    | [] => some [σ]
    | rs =>
      match freeOne P ops listed σ rs with
      | some (i, o, t) =>
        if fl.contains i || !(fl.all (apart2 ops i ·)) || !untagged i S then none else
        match t with
        | .idle => runAny P call ops n (listed.setIfInBounds i true) S fl (σ.put o.dst undefA)
        | .val v F => if untagged i (addTag ops listed i F S) then runAny P call ops n (listed.setIfInBounds i true) (addTag ops listed i F S) fl (σ.put o.dst v) else none
        | .pick b x y =>
          split σ b (fun σ => runAny P call ops n (listed.setIfInBounds i true) S fl (σ.put o.dst x)) (fun σ => runAny P call ops n (listed.setIfInBounds i true) S fl (σ.put o.dst y))
      | none =>
        let fa := rs.filter (lays P ops σ)
        match rs.filter (fun i => !lays P ops σ i) with
        | [] =>
          match fa.find? (fun i => Region.ready .any ops (listAll listed (fa.filter (· != i))) == [i]) with
          | some i =>
            if allApart ops (i :: fa.filter (· != i)) && fl.all (fun e => e == i || (fa.filter (· != i)).contains e) then
              match ops[i]? with
              | some o =>
                match allocA P σ.tmps σ.h.bs.length σ.h.nk o with
                | some (v, ob, k) => runAny P call ops n (listed.setIfInBounds i true) S (fa.filter (· != i)) ({ σ with h := { bs := σ.h.bs ++ [ob], nk := σ.h.nk + k } }.put o.dst v)
                | none => none
              | none => none
            else none
          | none => none
        | [i] =>
          if (Region.ready .any ops (listAll listed fa) == [i]) && allApart ops (i :: fa) && fl.all fa.contains then
            match ops[i]? with
            | some o =>
              guarded ops o σ (fun σ => do
                let l ← doOp P call o σ
                each (fun σ => if keepsT σ.h (listed.setIfInBounds i true) S then runAny P call ops n (listed.setIfInBounds i true) S fa σ else none) l)
                (fun σ => runAny P call ops n (listed.setIfInBounds i true) S fa (σ.put o.dst undefA))
            | none => none
          else none
        | _ => none

/-! ### Code and calls -/

inductive AExit where
  | normal
  | exit (id : Nat)
  | goto (l : Nat)
  | ret

def thenA (f : St → Option (List (AExit × St))) : List (AExit × St) → Option (List (AExit × St))
  | [] => some []
  | (.normal, σ) :: r => do
    let l ← f σ
    let m ← thenA f r
    pure (l ++ m)
  | x :: r => do
    let m ← thenA f r
    pure (x :: m)

def inBlockA (id : Nat) : List (AExit × St) → List (AExit × St)
  | [] => []
  | (.exit i, σ) :: r => (if i = id then (.normal, σ) else (.exit i, σ)) :: inBlockA id r
  | x :: r => x :: inBlockA id r

/-- Jumps into a scope's own body. -/
def gotoA (body : Code) (f : Code → St → Option (List (AExit × St))) : List (AExit × St) → Option (List (AExit × St))
  | [] => some []
  | (.goto l, σ) :: r =>
    match findLabel body l with
    | some c => do
      let l ← f c σ
      let m ← gotoA body f r
      pure (l ++ m)
    | none => do
      let m ← gotoA body f r
      pure ((.goto l, σ) :: m)
  | x :: r => do
    let m ← gotoA body f r
    pure (x :: m)

/-- 'sc': the code is what is left of that scope's body. 'dr': whether regions whose order is drawn are walked. -/
def runCode (P : Program) (dr : Bool) (call : CallF) : Nat → Option Code → Code → St → Option (List (AExit × St))
  | 0, _, _, _ => none
  | n + 1, some body, c, σ => do
    let l ← runCode P dr call n none c σ
    gotoA body (fun c σ => runCode P dr call n (some body) c σ) l
  | n + 1, none, c, σ =>
    match c with
    | .skip | .label _ => some [(.normal, σ)]
    | .region _ ops false => (runOps P call ops ops.toList σ).map fun l => l.map fun σ => (.normal, σ)
    | .region _ ops true => if dr && Region.noSelect ops then (runAny P call ops (ops.size + 1) (Array.replicate ops.size false) [] [] σ).map fun l => l.map fun σ => (.normal, σ) else none
    | .seq x y => do
      let l ← runCode P dr call n none x σ
      thenA (runCode P dr call n none y) l
    | .cond c x y => do
      match ← opnd σ.tmps c with
      | .bool b => split σ b (runCode P dr call n none x) (runCode P dr call n none y)
      | _ => none
    | .block id c => (runCode P dr call n none c σ).map (inBlockA id)
    | .loop c => do
      let l ← runCode P dr call n none c σ
      thenA (runCode P dr call n none (.loop c)) l
    | .exit id => some [(.exit id, σ)]
    | .goto l => some [(.goto l, σ)]
    | .scope c => runCode P dr call n (some c) c σ
    | .ret => some [(.ret, σ)]
    | _ => none

def result1 (P : Program) (σ : St) : ResultVar → Option AV
  | .tmp t => σ.tmps[t]?
  | .cell a t => do
    match ← σ.tmps[a]? with
    | .ptr b o => loadV P σ.h t b o
    | _ => none

def resultsL (P : Program) (σ : St) : List ResultVar → Option (List AV)
  | [] => some []
  | x :: r => do
    let v ← result1 P σ x
    let l ← resultsL P σ r
    pure (v :: l)

def resultsA (P : Program) (fn : Func) (σ : St) : Option AV := do
  match ← resultsL P σ fn.results.toList with
  | [v] => pure v
  | l => pure (.tuple l)

def endsA (P : Program) (fn : Func) : List (AExit × St) → Option (List (AV × Hp × List BE))
  | [] => some []
  | (.normal, σ) :: r | (.ret, σ) :: r => do
    let v ← resultsA P fn σ
    let l ← endsA P fn r
    pure ((v, σ.h, σ.pc) :: l)
  | _ => none

def runCall (P : Program) (dr : Bool) (fuel : Nat) : Nat → CallF
  | 0, _, _, _, _ => none
  | d + 1, f, args, h, pc => do
    let fn ← P.funcs[f]?
    let c ← fn.body
    let l ← runCode P dr (runCall P dr fuel d) fuel none c ⟨args ++ List.replicate (fn.ntmps - args.length) undefA, h, pc⟩
    endsA P fn l

end Go.Sx
