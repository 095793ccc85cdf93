/-
  A WALKER THAT COMPUTES, ITS SECOND PART: operations, regions, code, calls.
-/
import Derived.Test.YtobmdlcdemolpaaGreatDoorSxA
namespace Go.Sx

def undefA : AV := .tuple []

def isConst : Operand → Bool
  | .const _ => true
  | _ => false

def args1 (tmps : List AV) : List Operand → Option (List AV)
  | [] => some []
  | x :: r => do
    let v ← opnd tmps x
    let l ← args1 tmps r
    pure (v :: l)

def opt1 (tmps : List AV) : Option Operand → Option (Option AV)
  | none => some none
  | some x => (opnd tmps x).map some

def parts1 (tmps : List AV) : List (Nat × Operand) → Option (List (Nat × AV))
  | [] => some []
  | (i, x) :: r => do
    let v ← opnd tmps x
    let l ← parts1 tmps r
    pure ((i, v) :: l)

def capA : AV → Option Nat
  | .slice _ _ _ (.known n) => some n
  | .nilSlice => some 0
  | _ => none

def minInt (mx : Bool) : Int → List AV → IntKind → Option AV
  | n, [], k => some (.int k (.lit n))
  | n, .int _ (.lit m) :: r, k => minInt mx (if mx then (if m > n then m else n) else (if m < n then m else n)) r k
  | _, _, _ => none

/-- Operations that ask nothing of memory, and change nothing there. -/
def aopPure (P : Program) (tmps : List AV) (o : Oper) : Option AV :=
  match o.op with
  | .move x | .assign x => opnd tmps x
  | .pick c a b => do
    match ← opnd tmps c with
    | .bool (.lit c) => if c then opnd tmps a else opnd tmps b
    | _ => none
  | .build t ps => do
    let ps ← parts1 tmps ps.toList
    buildA P t ps
  | .nilCheck x => do
    match ← opnd tmps x with
    | .ptr b o => pure (.ptr b o)
    | .func f a b => pure (.func f a b)
    | _ => none
  | .binOp op t x y _ => do
    let a ← opnd tmps x
    let b ← opnd tmps y
    binOpA P op t (isConst x) (isConst y) a b
  | .unOp op _ x => do
    let a ← opnd tmps x
    unOpA op a
  | .makeInterface t x => do
    let v ← opnd tmps x
    match P.underlying t with
    | some (.interface _) => none
    | some _ => pure (.iface t v)
    | none => none
  | .makeFunc (.func f) a b => do
    let a ← args1 tmps a.toList
    let b ← args1 tmps b.toList
    pure (.func f a b)
  | .slice t x lo hi mx => do
    let x ← opnd tmps x
    let lo ← opt1 tmps lo
    let hi ← opt1 tmps hi
    let mx ← opt1 tmps mx
    sliceA P t x lo hi mx
  | .fieldAddr t x f => do
    let x ← opnd tmps x
    fieldAddrA P t x f
  | .field t x f => do
    let x ← opnd tmps x
    fieldA P t x f
  | .indexAddr t x i => do
    let x ← opnd tmps x
    let i ← opnd tmps i
    indexAddrA P t x i
  | .index t x i => do
    let x ← opnd tmps x
    let i ← opnd tmps i
    indexA P t x i
  | .extract t i => do
    match ← opnd tmps t with
    | .tuple vs => vs[i]?
    | _ => none
  | .convert src dst x => do
    let x ← opnd tmps x
    match P.underlying src, P.underlying dst, x with
    | some _, some (.int k), .int _ e => some (.int k (IE.mkWrap k e))
    | some _, some .string, .str s => some (.str s)
    | some _, some .string, .int _ (.lit n) => some (.str (Utf8.encode n).data.toList)
    | _, _, _ => none
  | .call { callee := .builtin .len, args, argTypes } => do
    let t ← argTypes[0]?
    let xs ← args1 tmps args.toList
    match P.underlying t, xs with
    | some .string, [.str s] => some (.int .i64 (.lit s.length))
    | some .string, [.strv i] => some (.int .i64 (.slen i))
    | some (.slice _), [.slice _ _ n _] => some (.int .i64 (.lit n))
    | some (.slice _), [.nilSlice] => some (.int .i64 (.lit 0))
    | some (.array n _), [_] => some (.int .i64 (.lit n))
    | some (.map _ _), [.nilMap] => some (.int .i64 (.lit 0))
    | _, _ => none
  | .call { callee := .builtin .cap, args, argTypes } => do
    let t ← argTypes[0]?
    let xs ← args1 tmps args.toList
    match P.underlying t, xs with
    | some (.slice _), [.slice _ _ _ (.var i s)] => some (.capv i s)
    | some (.slice _), [x] => (capA x).map fun (n : Nat) => AV.int .i64 (.lit (n : Int))
    | _, _ => none
  | .call { callee := .builtin .unsafeSliceData, args, .. } => do
    match ← args1 tmps args.toList with
    | [.nilSlice] => some .nilPtr
    | [.slice b o (_ + 1) _] => some (.ptr b o)
    | _ => none
  | .call { callee := .builtin .min, args, .. } => do
    match ← args1 tmps args.toList with
    | .int k (.lit n) :: r => minInt false n r k
    | _ => none
  | .call { callee := .builtin .max, args, .. } => do
    match ← args1 tmps args.toList with
    | .int k (.lit n) :: r => minInt true n r k
    | _ => none
  | _ => none

/-- Operations that lay one new block, and ask nothing else of memory: the value, the block ('b', 'k': the numbers that the block and the first open capacity get), how many capacities are open by it. -/
def allocA (P : Program) (tmps : List AV) (b k : Nat) (o : Oper) : Option (AV × AObj × Nat) :=
  match o.op with
  | .alloc t => do
    let z ← zero P t
    pure (.ptr b 0, .cells (z.cells.map some) t none b, 0)
  | .box t x => do
    let v ← opnd tmps x
    pure (.ptr b 0, .cells (v.cells.map some) t none b, 0)
  | .buildSlice t len ps => do
    let ps ← parts1 tmps ps.toList
    let (e, cs) ← buildSliceA P t len ps
    pure (.slice b 0 len (.known len), .cells (cs.map some) e none b, 0)
  | .makeSlice t l c => do
    let l ← opnd tmps l
    let c ← opnd tmps c
    let (e, cs, l, c) ← makeSliceA P t l c
    pure (.slice b 0 l (.known c), .cells (cs.map some) e none b, 0)
  | .convert src dst x => do
    match P.underlying src, P.underlying dst, ← opnd tmps x with
    | some _, some (.slice e), .str s =>
      match P.underlying e with
      | some (.int .u8) => pure (.slice b 0 s.length (.var k 0), .cells ((bytesAV s).map some) e (some (k, 1, s.length, 0)) b, 1)
      | _ => none
    | _, _, _ => none
  | .range t x => do
    match P.underlying t, ← opnd tmps x with
    | some .string, .str s => pure (.ptr b 0, .strIter s 0, 0)
    | _, _ => none
  | .makeMap _ none => pure (.map b, .map [] 0, 0)
  | _ => none

/-- A text's bytes. -/
def bytesA (h : Hp) : AV → Option (List UInt8)
  | .str s => some s
  | .nilSlice => some []
  | .slice b o n _ => do
    let l ← loadFrom h b o n
    byteCells l
  | _ => none

/-- All of the class are gone. -/
def gone1 (k : Nat) : AObj → AObj
  | .cells c t m k' => if k' == k then .gone k' else .cells c t m k'
  | x => x

def goneA (k : Nat) (bs : Bl) : Bl := Bl.upd (gone1 k) (k :: bs.members k) bs

/-- Bytes that are known to be bytes. -/
def strictBytes : List AV → Option (List UInt8)
  | [] => some []
  | .int .u8 (.lit (.ofNat n)) :: r => if n < 256 then (strictBytes r).map (UInt8.ofNat n :: ·) else none
  | _ => none

/-- unsafe.String over the head of a row. -/
def textA (P : Program) (h : Hp) (t : TypeId) (p n : AV) : Option ANext :=
  match p, n with
  | .nilPtr, .int .i64 (.lit 0) => some (.value (.str []) h)
  | .ptr b 0, .int .i64 (.lit n) =>
    match P.underlying t, h.bs[b]? with
    | some (.pointer e), some (.cells _ e' _ k) => do
      if e != e' || P.cellsOf e != 1 || n ≤ 0 || n > 1073741824 then none else
      let l ← loadFrom h b 0 n.toNat
      let s ← strictBytes l
      pure (.value (.str s) { h with bs := goneA k h.bs })
    | _, _ => none
  | _, _ => none

/-- Functions outside the program that ask nothing of memory. -/
def pureExt (n : String) : Option (Array Value → Sem Value) :=
  if n == "internal/bytealg.CountString" then some Extern.BytealgCount.count
  else if n == "internal/bytealg.IndexByteString" then some Extern.BytealgIndexByte.indexByte
  else none

def pureExtA (P : Program) (h : Hp) (n : String) (l : List AV) : Option ANext := do
  let f ← pureExt n
  let vs ← l.mapM (toValue 6)
  let r ← runPure P 1000 (f vs.toArray)
  let v ← ofV r
  pure (.value v h)

/-- A new row of whatever bytes. -/
def freshA (P : Program) (h : Hp) (t : TypeId) (n : Int) : Option ANext :=
  match P.underlying t with
  | some (.slice e) =>
    if 0 ≤ n && n ≤ 1073741824 then
      some (.value (.slice h.bs.length 0 n.toNat (.var h.nk 0)) { bs := h.bs ++ [AObj.cells (List.replicate n.toNat none) e (some (h.nk, 1, n.toNat, 0)) h.bs.length], nk := h.nk + 1, giv := h.giv })
    else none
  | _ => none

def aopMem (P : Program) (tmps : List AV) (h : Hp) (o : Oper) : Option ANext :=
  match o.op with
  | .load t a => do
    match ← opnd tmps a with
    | .ptr b o => (loadV P h t b o).map (.value · h)
    | .glob g o => do
      let b ← spotIn g h.giv 0
      (loadV P h t b o).map (.value · h)
    | _ => none
  | .store t a x => do
    let v ← opnd tmps x
    match ← opnd tmps a with
    | .ptr b o => (storeV P h t b o v).map .skip
    | _ => none
  | .convert src dst x => do
    let x ← opnd tmps x
    let (v, h) ← convertA P h src dst x
    pure (.value v h)
  | .next it true => do
    match ← opnd tmps it with
    | .ptr b 0 =>
      match h.bs[b]? with
      | some (.strIter s pos) =>
        if pos < s.length then
          let (c, n) := Utf8.decode ⟨s.toArray⟩ pos
          pure (.value (.tuple [.bool (.lit true), .int .i64 (.lit pos), .int .i32 (.lit c)]) { h with bs := h.bs.set b (.strIter s (pos + n)) })
        else pure (.value (.tuple [.bool (.lit false)]) h)
      | _ => none
    | _ => none
  | .call { callee := .builtin .append, args, argTypes } => do
    match ← args1 tmps args.toList with
    | [s, x] =>
      let (v, h) ← appendA P h argTypes.toList s x
      pure (.value v h)
    | _ => none
  | .call { callee := .builtin .copy, args, argTypes } => do
    let t ← argTypes[0]?
    match P.underlying t, ← args1 tmps args.toList with
    | some (.slice e), [d, s] =>
      let z ← size P e
      let n ← lenOfA s
      match d with
      | .nilSlice => pure (.value (.int .i64 (.lit 0)) h)
      | .slice b o len _ =>
        let m := min n len
        let new ← firstA h m z s
        let h ← storeFrom h b o new
        pure (.value (.int .i64 (.lit m)) h)
      | _ => none
    | _, _ => none
  | .call { callee := .builtin .unsafeString, args, argTypes } => do
    match argTypes.toList, ← args1 tmps args.toList with
    | [t, _], [p, n] => textA P h t p n
    | _, _ => none
  | .call { callee := .value f, args, .. } => do
    match ← opnd tmps f with
    | .func f a b =>
      let xs ← args1 tmps args.toList
      let fn ← P.funcs[f]?
      if fn.body.isSome then pure (.enter f (a ++ xs ++ b) h)
      else if fn.name == "internal/bytealg.Compare" && (Extern.findNext fn).isNone then
        match a ++ xs ++ b with
        | [x, y] =>
          let s ← bytesA h x
          let t ← bytesA h y
          pure (.value (.int .i64 (.lit (Extern.BytealgCompare.cmp ⟨s.toArray⟩ ⟨t.toArray⟩))) h)
        | _ => none
      else if fn.name == "internal/abi.NoEscape" && (Extern.findNext fn).isNone then
        match a ++ xs ++ b with
        | [x] => pure (.value x h)
        | _ => none
      else if fn.name == "internal/bytealg.MakeNoZero" && (Extern.findNext fn).isNone then
        match a ++ xs ++ b, fn.resultTypes.toList with
        | [.int .i64 (.lit n)], [t] => freshA P h t n
        | _, _ => none
      else if (Extern.findNext fn).isNone then pureExtA P h fn.name (a ++ xs ++ b)
      else none
    | _ => none
  | _ => none

/-! ### Maps -/

/-- What a map has, its values left out. -/
def keysOf : List (AV × AV × Nat) → Option (List MapEntry)
  | [] => some []
  | (k, _, n) :: r => do
    let v ← toValue 6 k
    let l ← keysOf r
    pure ({ key := v, val := .tuple #[], born := n } :: l)

/-- Where an unknown number stands: at the front, or nowhere. -/
def findIE (kd : IntKind) (e : IE) : List (AV × AV × Nat) → Option (Option Nat)
  | [] => some none
  | (.int kd' e', _, _) :: _ => if kd' = kd && e' = e then some (some 0) else none
  | _ => none

/-- Where a key stands among them. -/
def placeA (P : Program) (kt : TypeId) (empty : Bool) (k : AV) (es : List (AV × AV × Nat)) : Option (Option Nat) :=
  match toValue 6 k with
  | some kv => do
    let l ← keysOf es
    let _ ← runPure P 3000 (Instr.checkKey empty 10000 kt kv)
    let r ← runPure P 3000 (Instr.findKey kt kv l)
    pure (r.map (·.1))
  | none =>
    match k, P.underlying kt with
    | .int kd e, some (.int _) => findIE kd e es
    | _, _ => none

def mapOf (h : Hp) : AV → Option (List (AV × AV × Nat))
  | .nilMap => some []
  | .map b =>
    match h.bs[b]? with
    | some (.map es _) => some es
    | _ => none
  | _ => none

def lookupA (P : Program) (h : Hp) (t : TypeId) (x k : AV) (ok : Bool) : Option AV := do
  match P.underlying t with
  | some (.map kt e) =>
    let es ← mapOf h x
    match ← placeA P kt es.isEmpty k es with
    | some i =>
      let (_, v, _) ← es[i]?
      pure (if ok then .tuple [v, .bool (.lit true)] else v)
    | none =>
      let z ← zero P e
      pure (if ok then .tuple [z, .bool (.lit false)] else z)
  | _ => none

def updateA (P : Program) (h : Hp) (t : TypeId) (x k v : AV) : Option Hp := do
  match P.underlying t, x with
  | some (.map kt _), .map b =>
    match h.bs[b]? with
    | some (.map es clock) =>
      match ← placeA P kt false k es with
      | some i =>
        let (k0, _, n) ← es[i]?
        let k0v ← toValue 6 k0
        let kv ← toValue 6 k
        if Instr.sameBits 10000 k0v kv then pure { h with bs := h.bs.set b (.map (es.set i (k, v, n)) clock) } else none
      | none => pure { h with bs := h.bs.set b (.map (es ++ [(k, v, clock)]) (clock + 1)) }
    | _ => none
  | _, _ => none

def entryA (P : Program) (h : Hp) (t : TypeId) (x k : AV) : Option (AV × Hp) := do
  match P.underlying t, x with
  | some (.map kt e), .map b =>
    match h.bs[b]? with
    | some (.map es clock) =>
      match ← placeA P kt false k es with
      | some i =>
        let (k0, v, n) ← es[i]?
        let k0v ← toValue 6 k0
        let kv ← toValue 6 k
        if Instr.sameBits 10000 k0v kv then pure (.tuple [v, .int .i64 (.lit n)], { h with bs := h.bs.set b (.map (es.set i (k, v, n)) clock) }) else none
      | none =>
        let z ← zero P e
        pure (.tuple [z, .int .i64 (.lit clock)], { h with bs := h.bs.set b (.map (es ++ [(k, z, clock)]) (clock + 1)) })
    | _ => none
  | _, _ => none

def entryStoreA (h : Hp) (x s v : AV) : Option Hp := do
  match x, s with
  | .map b, .int _ (.lit n) =>
    match h.bs[b]? with
    | some (.map es clock) =>
      let i ← es.findIdx? (fun e => (e.2.2 : Int) == n)
      let (k, _, m) ← es[i]?
      pure { h with bs := h.bs.set b (.map (es.set i (k, v, m)) clock) }
    | _ => none
  | _, _ => none

def deleteA (P : Program) (h : Hp) (t : TypeId) (x k : AV) : Option Hp := do
  match P.underlying t with
  | some (.map kt _) =>
    match x with
    | .nilMap =>
      let kv ← toValue 6 k
      let _ ← runPure P 3000 (Instr.checkKey true 10000 kt kv)
      pure h
    | .map b =>
      match h.bs[b]? with
      | some (.map es clock) =>
        match ← placeA P kt es.isEmpty k es with
        | some i => pure { h with bs := h.bs.set b (.map (es.eraseIdx i) clock) }
        | none => pure h
      | _ => none
    | _ => none
  | _ => none

/-- The next of a map's: whichever of those that have not come yet. -/
def nextA (h : Hp) (b : Nat) : Option (List (AV × Hp)) :=
  match h.bs[b]? with
  | some (.mapIter none _ _ _) => some [(.tuple [.bool (.lit false)], h)]
  | some (.mapIter (some m) since seen last) =>
    match h.bs[m]? with
    | some (.map es clock) =>
      if !seen.isEmpty && !es.isEmpty && es.all (fun e => last ≤ e.2.2) then none else
      let left := es.filter fun e => !seen.contains e.2.2
      let old := left.filter fun e => e.2.2 < since
      let new := left.filter fun e => since ≤ e.2.2
      some ((if old.isEmpty then [(.tuple [.bool (.lit false)], h)] else []) ++
        (old ++ new).map fun e => (.tuple [.bool (.lit true), e.1, e.2.1], { h with bs := h.bs.set b (.mapIter (some m) since (seen ++ [e.2.2]) clock) }))
    | _ => none
  | _ => none

/-- What an iteration's last step came to, as it is now. -/
def atA (h : Hp) (b : Nat) : Option AV := do
  match h.bs[b]? with
  | some (.mapIter (some m) _ seen stepped) =>
    let stamp ← seen.getLast?
    match h.bs[m]? with
    | some (.map es clock) =>
      if clock ≠ stepped then none else
      let e ← es.find? (fun e => e.2.2 == stamp)
      pure (.tuple [e.1, e.2.1])
    | _ => none
  | _ => none

def assertA (P : Program) (x : AV) (t : TypeId) (ok : Bool) : Option AV := do
  let fails : Option AV := do
    if ok then
      let z ← zero P t
      pure (.tuple [z, .bool (.lit false)])
    else none
  let holds (v : AV) : AV := if ok then .tuple [v, .bool (.lit true)] else v
  match P.underlying t, x with
  | none, _ => none
  | some (.interface _), .nilIface => fails
  | some (.interface want), .iface d v =>
    let i ← P.info? d
    match Instr.missingMethod want i.methods with
    | none => pure (holds (.iface d v))
    | some _ => fails
  | some _, .nilIface => fails
  | some _, .iface d v => if d = t then pure (holds v) else fails
  | _, _ => none

/-- Cells of which nothing is told, up to a number. -/
def wider (c : List (Option AV)) (n : Nat) : List (Option AV) := c ++ List.replicate (n - c.length) none

/-- What is known of an open capacity: at least, at most (nought: nothing). -/
def learn1 (i n m : Nat) : AObj → AObj
  | .cells c t (some (j, z, least, most)) k =>
    .cells c t (some (j, z, if j = i && least < n then n else least, if j = i && m ≠ 0 && (most = 0 || m < most) then m else most)) k
  | x => x

def learn (i n m : Nat) (bs : Bl) : Bl := bs.map (learn1 i n m)

/-- A part of a row whose capacity is open, beyond its length: as far as the capacity is known to go. -/
def farA (P : Program) (h : Hp) (t : TypeId) (x : AV) (lo hi : Option AV) : Option (List (AV × Hp)) := do
  match P.underlying t, x with
  | some (.slice e), .slice b o len (.var i s) =>
    let z ← size P e
    match h.bs[b]? with
    | some (.cells c t' (some (j, z', least, most)) k) =>
      if j ≠ i || z' ≠ z || least < s || o ≠ s * z then none else
      let u ← bound hi len (least - s)
      let l ← bound lo 0 u
      if l < least - s then
        pure [(.slice b (o + l * z) (u - l) (.var i (s + l)), { h with bs := h.bs.set b (.cells (wider c ((s + u) * z)) t' (some (j, z', least, most)) k) })]
      else if l = least - s && u = l then
        -- the capacity's end, or not
        pure [(.slice b o 0 (.known 0), h), (.slice b (o + l * z) 0 (.var i (s + l)), { h with bs := learn i (s + l + 1) 0 h.bs })]
      else none
    | _ => none
  | _, _ => none

/-- Are two rows known to be apart, and a cell of the first one told? -/
def apartA (bs : Bl) (b c o : Nat) : Bool :=
  match bs[b]?, bs[c]? with
  | some (.cells cs _ _ k), some (.cells _ _ _ l) => decide (k ≠ l) && decide (o < cs.length)
  | _, _ => false

/-- Operations on maps, and what else is asked of memory: each way that it may go. No value: nothing is yielded. -/
def aopMany (P : Program) (tmps : List AV) (h : Hp) (o : Oper) : Option (List (Option AV × Hp)) :=
  match o.op with
  | .slice t x lo hi none => do
    let x ← opnd tmps x
    let lo ← opt1 tmps lo
    let hi ← opt1 tmps hi
    let l ← farA P h t x lo hi
    pure (l.map fun (v, h) => (some v, h))
  | .lookup t x k ok => do
    let x ← opnd tmps x
    let k ← opnd tmps k
    let v ← lookupA P h t x k ok
    pure [(some v, h)]
  | .mapUpdate t x k v | .insert t x k v => do
    let x ← opnd tmps x
    let k ← opnd tmps k
    let v ← opnd tmps v
    let h ← updateA P h t x k v
    pure [(none, h)]
  | .mapEntry t x k => do
    let x ← opnd tmps x
    let k ← opnd tmps k
    let (v, h) ← entryA P h t x k
    pure [(some v, h)]
  | .entryStore _ x s v => do
    let x ← opnd tmps x
    let s ← opnd tmps s
    let v ← opnd tmps v
    let h ← entryStoreA h x s v
    pure [(none, h)]
  | .range t x => do
    match P.underlying t, ← opnd tmps x with
    | some (.map _ _), .nilMap => pure [(some (.ptr h.bs.length 0), { h with bs := h.bs ++ [AObj.mapIter none 0 [] 0] })]
    | some (.map _ _), .map m =>
      match h.bs[m]? with
      | some (.map _ clock) => pure [(some (.ptr h.bs.length 0), { h with bs := h.bs ++ [AObj.mapIter (some m) clock [] clock] })]
      | _ => none
    | _, _ => none
  | .next it false => do
    match ← opnd tmps it with
    | .ptr b 0 => (nextA h b).map fun l => l.map fun (v, h) => (some v, h)
    | _ => none
  | .entry it => do
    match ← opnd tmps it with
    | .ptr b 0 => (atA h b).map fun v => [(some v, h)]
    | _ => none
  | .typeAssert x _ t ok => do
    let x ← opnd tmps x
    let v ← assertA P x t ok
    pure [(some v, h)]
  | .call { callee := .builtin .len, args, argTypes } => do
    let t ← argTypes[0]?
    match P.underlying t, ← args1 tmps args.toList with
    | some (.map _ _), [.map b] =>
      match h.bs[b]? with
      | some (.map es _) => pure [(some (.int .i64 (.lit es.length)), h)]
      | _ => none
    | _, _ => none
  | .call { callee := .builtin .delete, args, argTypes } => do
    let t ← argTypes[0]?
    match ← args1 tmps args.toList with
    | [x, k] =>
      let h ← deleteA P h t x k
      pure [(some undefA, h)]
    | _ => none
  | .call { callee := .builtin .clear, args, argTypes } => do
    let t ← argTypes[0]?
    match P.underlying t, ← args1 tmps args.toList with
    | some (.map _ _), [.nilMap] => pure [(some undefA, h)]
    | some (.map _ _), [.map b] =>
      match h.bs[b]? with
      | some (.map _ clock) => pure [(some undefA, { h with bs := h.bs.set b (.map [] clock) })]
      | _ => none
    | some (.slice _), [.nilSlice] => pure [(some undefA, h)]
    | some (.slice e), [.slice b o n _] =>
      if n = 0 then pure [(some undefA, h)] else
      let z ← zero P e
      let h ← storeFrom h b o (copies z.cells n)
      pure [(some undefA, h)]
    | _, _ => none
  | .call { callee := .value f, args, .. } => do
    match ← opnd tmps f with
    | .func f a b =>
      let xs ← args1 tmps args.toList
      let fn ← P.funcs[f]?
      if fn.body.isNone && fn.origin == "slices.overlaps" && (Extern.findNext fn).isNone && (Extern.allGenericRows.lookup fn.name).isNone && (Extern.allTypedRows.lookup fn.name).isNone && (Extern.allRows.lookup fn.name).isNone then do
        let pt ← fn.params[0]?
        match a ++ xs ++ b, P.underlying pt with
        | [.slice b1 o1 n1 _, .slice b2 _ n2 _], some (.slice e) =>
          let z ← size P e
          if z = 0 then none else
          if n1 = 0 || n2 = 0 || b1 = b2 || !apartA h.bs b1 b2 o1 then none else
          pure [(some (.bool (.lit true)), h), (some (.bool (.lit false)), h)]
        | _, _ => none
      else if fn.body.isNone && fn.name == "maps.clone" && (Extern.findNext fn).isNone then
        match a ++ xs ++ b with
        | [.iface t (.map m)] =>
          match h.bs[m]? with
          | some (.map es clock) => pure [(some (.iface t (.map h.bs.length)), { h with bs := h.bs ++ [AObj.map es clock] })]
          | _ => none
        | _ => none
      else none
    | _ => none
  | _ => none

/-! ### States -/

/-- What is deferred: a block for what rounds of a range over a function defer (shut when the activation ends), or a call. -/
inductive Mark where
  | blk (b : Nat)
  | call (f : FuncId) (first captured : List AV)

/-- What stands for no value: a slot of which nothing is known. -/
def AV.poison : AV := .slice 0 0 1 (.known 0)

def AV.isPoison : AV → Bool
  | .slice 0 0 1 (.known 0) => true
  | _ => false

/-- An end by a panic, of that value. -/
def AV.pan (v : AV) : AV := .tuple [.poison, v]

def AV.pan? : AV → Option AV
  | .tuple [x, v] => if x.isPoison then some v else none
  | _ => none

structure St where
  tmps : List AV
  h : Hp
  pc : List BE
  /-- What is deferred. -/
  marks : List Mark := []
  /-- It panics. -/
  pan : Option AV := none

/-- The state taken apart first, so that what is computed with it does not go back through all that it came from. -/
def St.opened {α : Type} (σ : St) (f : St → α) : α :=
  match σ with
  | ⟨t, ⟨⟨bt, bm, bn, h1, h2⟩, nk, gv⟩, pc, m, p⟩ => f ⟨t, ⟨⟨bt, bm, bn, h1, h2⟩, nk, gv⟩, pc, m, p⟩

theorem St.opened_eq {α : Type} (σ : St) (f : St → α) : σ.opened f = f σ := rfl

def St.put (σ : St) (d : Option Tmp) (v : AV) : St :=
  match d with
  | some d => { σ with tmps := σ.tmps.set d v }
  | none => σ

/-- Of the slots that a region's operations set nothing is known. -/
def spoilT : List Oper → List AV → List AV
  | [], t => t
  | o :: r, t => spoilT r (match o.dst with | some d => t.set d .poison | none => t)

def St.spoil (σ : St) (ops : Array Oper) : St := { σ with tmps := spoilT ops.toList σ.tmps }

/-- A call's end comes in. -/
def St.land (σ : St) (d : Option Tmp) (v : AV) : St :=
  match v.pan? with
  | some x => { σ with pan := some x }
  | none => σ.put d v

def St.with (σ : St) (b : BE) : St := { σ with pc := b :: σ.pc }

/-- Is the unknown text known to be another one? -/
def other (pc : List BE) (i : Nat) (s : List UInt8) : Bool := pc.any fun
  | .seqs j t => j == i && t != s
  | _ => false

/-- Is it known which it is? -/
def truth (pc : List BE) : BE → Option Bool
  | .lit b => some b
  | b => if pc.contains b then some true else if pc.contains b.mkNot then some false else
    match b with
    | .cmp op e (.lit n) => decideB op n (bnd pc e)
    | .not (.cmp op e (.lit n)) => (decideB op n (bnd pc e)).map not
    | .seqs i s => if other pc i s then some false else none
    | .not (.seqs i s) => if other pc i s then some true else none
    | _ => none

/-- An open truth: both ways. -/
def split1 {α : Type} (σ : St) (b : BE) (yes no : St → Option (List α)) : Option (List α) :=
  match truth σ.pc b with
  | some true => yes σ
  | some false => no σ
  | none => do
    let l ← yes (σ.with b)
    let r ← no (σ.with b.mkNot)
    pure (l ++ r)

/-- Of two truths that are compared, the one and then the other. -/
def split {α : Type} (σ : St) (b : BE) (yes no : St → Option (List α)) : Option (List α) :=
  match b with
  | .same x y => split1 σ x (fun σ => split1 σ y yes no) (fun σ => split1 σ y no yes)
  | .not (.same x y) => split1 σ x (fun σ => split1 σ y no yes) (fun σ => split1 σ y yes no)
  | b => split1 σ b yes no

/-- One behind the other. -/
def each {α β : Type} (f : α → Option (List β)) : List α → Option (List β)
  | [] => some []
  | x :: r => do
    let l ← f x
    let m ← each f r
    pure (l ++ m)

/-- A number held against an open capacity: what is known where it is so, and where not: at least, at most. -/
def capTest (op : BinOp) (n : Int) : Option ((Int × Int) × (Int × Int)) :=
  match op with
  | .gtr => some ((0, n - 1), (n, 0))
  | .geq => some ((0, n), (n + 1, 0))
  | .lss => some ((n + 1, 0), (0, n))
  | .leq => some ((n, 0), (0, n - 1))
  | _ => none

/-- A bound of an open capacity less 's' is one of the capacity. -/
def liftB (s : Nat) (n : Int) : Nat := if n ≤ 0 then 0 else n.toNat + s

def capSplit (σ : St) (o : Oper) : Option (List St) :=
  match o.op with
  | .binOp op _ x y _ => do
    match ← opnd σ.tmps x, ← opnd σ.tmps y with
    | .int .i64 (.lit n), .capv i s =>
      let (p, q) ← capTest op n
      pure [{ σ with h := { σ.h with bs := learn i (liftB s p.1) (liftB s p.2) σ.h.bs } }.put o.dst (.bool (.lit true)), { σ with h := { σ.h with bs := learn i (liftB s q.1) (liftB s q.2) σ.h.bs } }.put o.dst (.bool (.lit false))]
    | _, _ => none
  | _ => none

/-- What calls come to: 'false': of a function; 'true': of the 'yield' whose record is that block. -/
abbrev CallF := Bool → Nat → List AV → Hp → List BE → Option (List (AV × Hp × List BE))

/-- The lesser, or the greater, of two numbers: the one or the other. -/
def minSplit (σ : St) (o : Oper) : Option (List St) :=
  match o.op with
  | .call { callee := .builtin .min, args, .. } => do
    match ← args1 σ.tmps args.toList with
    | [.int k a, .int k' b] =>
      if k = k' then
        let c ← BE.mkCmp .lss b a
        split σ c (fun σ => some [σ.put o.dst (.int k b)]) (fun σ => some [σ.put o.dst (.int k a)])
      else none
    | _ => none
  | .call { callee := .builtin .max, args, .. } => do
    match ← args1 σ.tmps args.toList with
    | [.int k a, .int k' b] =>
      if k = k' then
        let c ← BE.mkCmp .gtr b a
        split σ c (fun σ => some [σ.put o.dst (.int k b)]) (fun σ => some [σ.put o.dst (.int k a)])
      else none
    | _ => none
  | _ => none

/-- The parts of two values of a struct that are compared, in their order. -/
def eqFieldsA (P : Program) (f : TypeId → AV → AV → Option (List BE)) (xs ys : List AV) : List Field → Option (List BE)
  | [] => some []
  | d :: r =>
    if d.name = "_" then eqFieldsA P f xs ys r else do
      let x ← partA P d.type xs d.offset
      let y ← partA P d.type ys d.offset
      let l ← f d.type x y
      let m ← eqFieldsA P f xs ys r
      pure (l ++ m)

def eqItemsA (P : Program) (f : TypeId → AV → AV → Option (List BE)) (e : TypeId) (c : Nat) (xs ys : List AV) : List Nat → Option (List BE)
  | [] => some []
  | i :: r => do
    let x ← partA P e xs (i * c)
    let y ← partA P e ys (i * c)
    let l ← f e x y
    let m ← eqItemsA P f e c xs ys r
    pure (l ++ m)

/-- What has to be so for two values to be the same. -/
def eqA (P : Program) : Nat → TypeId → AV → AV → Option (List BE)
  | 0, _, _, _ => none
  | n + 1, t, x, y =>
    match P.underlying t with
    | some (.int _) =>
      match x, y with
      | .int k a, .int k' b => if k = k' then (BE.mkCmp .eql a b).map (fun c => [c]) else none
      | _, _ => none
    | some .bool =>
      match x, y with
      | .bool a, .bool b => some [BE.mkSame a b]
      | _, _ => none
    | some .string =>
      match x, y with
      | .str a, .str b => some [.lit (a == b)]
      | .strv i, .str s => some [.seqs i s]
      | .str s, .strv i => some [.seqs i s]
      | _, _ => none
    | some (.struct fs) =>
      match x, y with
      | .agg xs, .agg ys => if P.stoodInHeld t then none else eqFieldsA P (eqA P n) xs ys fs.toList
      | _, _ => none
    | some (.array len e) =>
      match x, y with
      | .agg xs, .agg ys => if (P.info? e).isSome then eqItemsA P (eqA P n) e (P.cellsOf e) xs ys (List.range len) else none
      | _, _ => none
    | _ => none

/-- One part behind the other: the first that differs tells. -/
def eqSplit (dst : Option Tmp) (same : Bool) : List BE → St → Option (List St)
  | [], σ => some [σ.put dst (.bool (.lit same))]
  | c :: r, σ => split σ c (fun σ => eqSplit dst same r σ) (fun σ => some [σ.put dst (.bool (.lit !same))])

/-- Are they asked to be the same, or not the same? -/
def sameOf : BinOp → Option Bool
  | .eql => some true
  | .neq => some false
  | _ => none

/-- Two structs with open parts, compared. -/
def sameSplit (P : Program) (σ : St) (o : Oper) : Option (List St) :=
  match o.op with
  | .binOp op t x y _ => do
    let same ← sameOf op
    if P.eqGuardType P.depth t then none else
    match ← opnd σ.tmps x, ← opnd σ.tmps y with
    | .agg xs, .agg ys =>
      let cs ← eqA P 10 t (.agg xs) (.agg ys)
      eqSplit o.dst same cs σ
    | _, _ => none
  | _ => none

def doOp (P : Program) (call : CallF) (o : Oper) (σ : St) : Option (List St) :=
  match o.op with
  | .panic x => do
    match ← opnd σ.tmps x with
    | .iface t v => some [{ σ with pan := some (.iface t v) }]
    | _ => none
  | .pick c x y => do
    match ← opnd σ.tmps c with
    | .bool b => split σ b (fun σ => (opnd σ.tmps x).map fun v => [σ.put o.dst v]) (fun σ => (opnd σ.tmps y).map fun v => [σ.put o.dst v])
    | _ => none
  | _ =>
    match aopPure P σ.tmps o with
    | some v => some [σ.put o.dst v]
    | none =>
    match allocA P σ.tmps σ.h.bs.length σ.h.nk o with
    | some (v, ob, n) => some [{ σ with h := { bs := σ.h.bs ++ [ob], nk := σ.h.nk + n, giv := σ.h.giv } }.put o.dst v]
    | none =>
      match aopMem P σ.tmps σ.h o with
      | some (.value v h) => some [{ σ with h }.put o.dst v]
      | some (.skip h) => some [{ σ with h }.put o.dst undefA]
      | some (.enter f args h) => (call false f args h σ.pc).map fun l => l.map fun (v, h, pc) => { σ with h, pc }.land o.dst v
      | none =>
        match aopMany P σ.tmps σ.h o with
        | some l => some (l.map fun (v, h) => { σ with h }.put o.dst (v.getD undefA))
        | none =>
          match capSplit σ o with
          | some l => some l
          | none =>
            match minSplit σ o with
            | some l => some l
            | none => sameSplit P σ o

/-- Whether an operation is to be done at all. -/
def guarded {α : Type} (ops : Array Oper) (o : Oper) (σ : St) (yes no : St → Option (List α)) : Option (List α) :=
  match o.guard with
  | none => yes σ
  | some (j, want) =>
    match ((ops[j]?).bind (·.dst)).bind (σ.tmps[·]?) with
    | some (.bool b) => if want then split σ b yes no else split σ b no yes
    | _ => no σ

/-- Is it a call of a 'yield'? -/
def yieldOf (tmps : List AV) (o : Oper) : Option (Nat × List AV) :=
  match o.op with
  | .call { callee := .value f, args, .. } => do
    match ← opnd tmps f with
    | .yield b =>
      let xs ← args1 tmps args.toList
      pure (b, xs)
    | _ => none
  | _ => none

/-- A call that is deferred. -/
def deferOf (tmps : List AV) (o : Oper) : Option Mark :=
  match o.op with
  | .defer { callee := .value f, args, .. } => do
    match ← opnd tmps f with
    | .func g a b =>
      let xs ← args1 tmps args.toList
      pure (.call g (a ++ xs) b)
    | _ => none
  | _ => none

/-- An operation where its order is not drawn: a 'yield' may be called, a call deferred (where no round of a range stands: 'ro'). -/
def doOpY (P : Program) (call : CallF) (ro : Option Nat) (o : Oper) (σ : St) : Option (List St) :=
  match deferOf σ.tmps o with
  | some m => if ro.isNone then some [{ σ with marks := m :: σ.marks }.put o.dst undefA] else none
  | none =>
  match yieldOf σ.tmps o with
  | some (b, xs) => (call true b xs σ.h σ.pc).map fun l => l.map fun (v, h, pc) => { σ with h, pc }.land o.dst v
  | none => doOp P call o σ

def runOps (P : Program) (call : CallF) (ro : Option Nat) (ops : Array Oper) : List Oper → St → Option (List St)
  | [], σ => some [σ]
  | o :: r, σ =>
    σ.opened fun σ => guarded ops o σ (fun σ => do
      let l ← doOpY P call ro o σ
      each (fun σ => if σ.pan.isSome then some [σ] else runOps P call ro ops r σ) l) (fun σ => runOps P call ro ops r (σ.put o.dst undefA))

/-! ### Regions whose order is drawn -/

mutual
def AV.beq : AV → AV → Bool
  | .bool a, .bool b => a = b
  | .int k a, .int l b => k = l && a = b
  | .str a, .str b => a = b
  | .strv a, .strv b => a = b
  | .nilPtr, .nilPtr | .nilSlice, .nilSlice | .nilMap, .nilMap | .nilFunc, .nilFunc | .nilIface, .nilIface => true
  | .ptr a b, .ptr c d => a = c && b = d
  | .slice a b c (.known n), .slice d e f (.known m) => a = d && b = e && c = f && n = m
  | .slice a b c (.var n p), .slice d e f (.var m q) => a = d && b = e && c = f && n = m && p = q
  | .capv a b, .capv c d => a = c && b = d
  | .glob a b, .glob c d => a = c && b = d
  | .map a, .map b => a = b
  | .func f a b, .func g c d => f = g && AV.beqL a c && AV.beqL b d
  | .iface t a, .iface u b => t = u && AV.beq a b
  | .agg a, .agg b => AV.beqL a b
  | .tuple a, .tuple b => AV.beqL a b
  | _, _ => false
def AV.beqL : List AV → List AV → Bool
  | [], [] => true
  | a :: r, b :: s => AV.beq a b && AV.beqL r s
  | _, _ => false
end

/-- What is held of memory while a region goes on. -/
abbrev Held := List (Nat × Nat × AV)

def keeps (h : Hp) : Held → Bool
  | [] => true
  | (b, o, v) :: r => (match h.cell? b o with | some u => AV.beq u v | none => false) && keeps h r

def heldFrom (b o : Nat) : List AV → Held
  | [] => []
  | v :: r => (b, o, v) :: heldFrom b (o + 1) r

/-- A load, and what it leans on. -/
def aopLoad (P : Program) (tmps : List AV) (h : Hp) (o : Oper) : Option (AV × Held) :=
  match o.op with
  | .load t a => do
    match ← opnd tmps a with
    | .ptr b o =>
      if ← isAggT P t then
        let n ← size P t
        let l ← loadFrom h b o n
        pure (.agg l, heldFrom b o l)
      else
        let v ← h.cell? b o
        pure (v, [(b, o, v)])
    | .glob g o => do
      let b ← spotIn g h.giv 0
      if ← isAggT P t then
        let n ← size P t
        let l ← loadFrom h b o n
        pure (.agg l, heldFrom b o l)
      else
        let v ← h.cell? b o
        pure (v, [(b, o, v)])
    | _ => none
  | .convert src dst x => do
    match P.underlying src, P.underlying dst, ← opnd tmps x with
    | some (.slice e), some .string, .slice b o n _ =>
      match P.underlying e with
      | some (.int .u8) => do
        let l ← loadFrom h b o n
        let s ← byteCells l
        pure (.str s, heldFrom b o l)
      | _ => none
    | _, _, _ => none
  | _ => none

/-- Is it known whether an operation is to be done? -/
def gate (ops : Array Oper) (o : Oper) (σ : St) : Option Bool :=
  match o.guard with
  | none => some true
  | some (j, want) =>
    match ((ops[j]?).bind (·.dst)).bind (σ.tmps[·]?) with
    | some (.bool b) => (truth σ.pc b).map (· == want)
    | _ => some false

inductive Take where
  | idle                         -- it is not to be done
  | val (v : AV) (F : Held)      -- it yields that
  | pick (b : BE) (x y : AV)     -- it yields the one or the other

/-- An operation that may as well be taken first. -/
def takeOf (P : Program) (ops : Array Oper) (o : Oper) (σ : St) : Option Take :=
  match gate ops o σ with
  | none => none
  | some false => some .idle
  | some true =>
    match o.op with
    | .pick c x y =>
      match opnd σ.tmps c, opnd σ.tmps x, opnd σ.tmps y with
      | some (.bool (.lit b)), some x, some y => some (.val (if b then x else y) [])
      | some (.bool b), some x, some y => some (.pick b x y)
      | _, _, _ => none
    | _ =>
      match aopPure P σ.tmps o with
      | some v => some (.val v [])
      | none => (aopLoad P σ.tmps σ.h o).map fun (v, F) => .val v F

def freeOne (P : Program) (ops : Array Oper) (listed : Array Bool) (σ : St) : List Nat → Option (Nat × Oper × Take)
  | [] => none
  | i :: r =>
    match ops[i]? with
    | some o =>
      if Region.free .any ops listed i then
        match takeOf P ops o σ with
        | some t => some (i, o, t)
        | none => freeOne P ops listed σ r
      else freeOne P ops listed σ r
    | none => freeOne P ops listed σ r

/-- Does it lay a new block, and no more? -/
def lays (P : Program) (ops : Array Oper) (σ : St) (i : Nat) : Bool :=
  match ops[i]? with
  | some o => o.dst.isSome && decide (o.dst.getD 0 < σ.tmps.length) && (gate ops o σ == some true) && (allocA P σ.tmps 0 0 o).isSome && !((o.looksAt ops).contains (o.dst.getD 0)) && (aopPure P σ.tmps o).isNone
  | none => false

def listAll (listed : Array Bool) : List Nat → Array Bool
  | [] => listed
  | i :: r => listAll (listed.setIfInBounds i true) r

/-- Two operations that do not touch what the other one looks at. -/
def apart2 (ops : Array Oper) (i j : Nat) : Bool :=
  match ops[i]?, ops[j]? with
  | some x, some y => x.apart ops y && y.apart ops x
  | _, _ => false

def allApart (ops : Array Oper) : List Nat → Bool
  | [] => true
  | i :: r => r.all (apart2 ops i ·) && allApart ops r

/-- What is held, each until one of some operations has come up. -/
abbrev Tags := List (Held × List Nat)

def keepsT (h : Hp) (L : Array Bool) : Tags → Bool
  | [] => true
  | (F, D) :: r => (D.any (fun j => L.getD j false) || keeps h F) && keepsT h L r

/-- An operation that is never taken first. -/
def strong (o : Oper) : Bool :=
  match o.op with
  | .store _ _ _ => true
  | .mapUpdate _ _ _ _ => true
  | .call { callee := .value _, .. } => true
  | .call { callee := .builtin .append, .. } => true
  | .call { callee := .builtin .copy, .. } => true
  | _ => false

/-- Those behind it: each waits for it, or for another one of them. -/
def behind (ops : Array Oper) (L : Array Bool) (i : Nat) : List Nat → List Nat → List Nat
  | [], V => V
  | j :: r, V => match ops[j]? with
    | some o => if !L.getD j true && o.after.any (fun e => Region.binds .any e && (e.on == i || V.contains e.on)) then behind ops L i r (j :: V) else behind ops L i r V
    | none => behind ops L i r V

/-- Those that wait for it, and are never taken first. -/
def waiters (ops : Array Oper) (L : Array Bool) (i : Nat) : List Nat :=
  (behind ops L i (List.range ops.size) []).filter fun j => match ops[j]? with
    | some o => strong o
    | none => false

def addTag (ops : Array Oper) (L : Array Bool) (i : Nat) (F : Held) (S : Tags) : Tags :=
  match F with
  | [] => S
  | f :: F => (f :: F, waiters ops L i) :: S

def untagged (i : Nat) (S : Tags) : Bool := S.all fun t => !t.2.contains i

/-- The first test, not decided, on which it hangs whether one of these is to be done. -/
def openGate (ops : Array Oper) (σ : St) : List Nat → Option BE
  | [] => none
  | i :: r =>
    match (ops[i]?).bind (·.guard) with
    | some (j, _) =>
      match ((ops[j]?).bind (·.dst)).bind (σ.tmps[·]?) with
      | some (.bool b) => if (truth σ.pc b).isNone then some b else openGate ops σ r
      | _ => openGate ops σ r
    | none => openGate ops σ r

/-- 'fl': those that may have come up already (they lay new blocks, and touch nothing that others look at). -/
def runAny (P : Program) (call : CallF) (ops : Array Oper) : Nat → Array Bool → Tags → List Nat → St → Option (List St)
  | 0, _, _, _, _ => none
  | n + 1, listed, S, fl, σ =>
    σ.opened fun σ => match Region.ready .any ops listed with
    | [] => some [σ]
    | rs =>
      match freeOne P ops listed σ (rs.filter (untagged · S)) with
      | some (i, o, t) =>
        if fl.contains i || !(fl.all (apart2 ops i ·)) || !untagged i S then none else
        match t with
        | .idle => runAny P call ops n (listed.setIfInBounds i true) S fl (σ.put o.dst undefA)
        | .val v F => if untagged i (addTag ops listed i F S) then runAny P call ops n (listed.setIfInBounds i true) (addTag ops listed i F S) fl (σ.put o.dst v) else none
        | .pick b x y =>
          split σ b (fun σ => runAny P call ops n (listed.setIfInBounds i true) S fl (σ.put o.dst x)) (fun σ => runAny P call ops n (listed.setIfInBounds i true) S fl (σ.put o.dst y))
      | none =>
        let fa := rs.filter (lays P ops σ)
        match rs.filter (fun i => !lays P ops σ i) with
        | [] =>
          match fa.find? (fun i => Region.ready .any ops (listAll listed (fa.filter (· != i))) == [i]) with
          | some i =>
            if allApart ops (i :: fa.filter (· != i)) && fl.all (fun e => e == i || (fa.filter (· != i)).contains e) then
              match ops[i]? with
              | some o =>
                match allocA P σ.tmps σ.h.bs.length σ.h.nk o with
                | some (v, ob, k) => runAny P call ops n (listed.setIfInBounds i true) S (fa.filter (· != i)) ({ σ with h := { bs := σ.h.bs ++ [ob], nk := σ.h.nk + k, giv := σ.h.giv } }.put o.dst v)
                | none => none
              | none => none
            else none
          | none => none
        | [i] =>
          if (Region.ready .any ops (listAll listed fa) == [i]) && allApart ops (i :: fa) && fl.all fa.contains then
            match ops[i]? with
            | some o =>
              guarded ops o σ (fun σ => do
                let l ← doOp P call o σ
                each (fun σ => if σ.pan.isSome then (if fa.isEmpty then some [σ.spoil ops] else none) else if keepsT σ.h (listed.setIfInBounds i true) S then runAny P call ops n (listed.setIfInBounds i true) S fa σ else none) l)
                (fun σ => runAny P call ops n (listed.setIfInBounds i true) S fa (σ.put o.dst undefA))
            | none => none
          else none
        | _ =>
          match openGate ops σ rs with
          | some b => split σ b (runAny P call ops n listed S fl) (runAny P call ops n listed S fl)
          | none => none

/-- No statement in it defers a call. -/
def noDefer (ops : Array Oper) : Bool := ops.toList.all fun o => match o.op with
  | .defer _ => false
  | _ => true

/-! ### Code and calls -/

inductive AExit where
  | normal
  | exit (id : Nat)
  | goto (l : Nat)
  | ret
  | panic (v : AV)

/-- How a region is left. -/
def St.out (σ : St) : AExit × St :=
  match σ.pan with
  | some v => (.panic v, σ)
  | none => (.normal, σ)

def thenA (f : St → Option (List (AExit × St))) : List (AExit × St) → Option (List (AExit × St))
  | [] => some []
  | (.normal, σ) :: r => do
    let l ← f σ
    let m ← thenA f r
    pure (l ++ m)
  | x :: r => do
    let m ← thenA f r
    pure (x :: m)

def inBlockA (id : Nat) : List (AExit × St) → List (AExit × St)
  | [] => []
  | (.exit i, σ) :: r => (if i = id then (.normal, σ) else (.exit i, σ)) :: inBlockA id r
  | x :: r => x :: inBlockA id r

/-- Jumps into a scope's own body. -/
def gotoA (body : Code) (f : Code → St → Option (List (AExit × St))) : List (AExit × St) → Option (List (AExit × St))
  | [] => some []
  | (.goto l, σ) :: r =>
    match findLabel body l with
    | some c => do
      let l ← f c σ
      let m ← gotoA body f r
      pure (l ++ m)
    | none => do
      let m ← gotoA body f r
      pure ((.goto l, σ) :: m)
  | x :: r => do
    let m ← gotoA body f r
    pure (x :: m)

/-- The blocks for what a range over a function's rounds defer, and its record, laid. 'ro': the record of the range in whose round this one stands. -/
def enterA (h : Hp) (ro : Option Nat) (tmps : List AV) (params : Array Tmp) (assign body : Code) : Option (Hp × Nat × List Mark) :=
  match ro with
  | none => some ({ h with bs := h.bs ++ [AObj.deferred true, AObj.loop .ready none tmps params assign body h.bs.length] }, h.bs.length + 1, [.blk h.bs.length])
  | some b =>
    match h.bs[b]? with
    | some (.loop _ _ _ _ _ _ d) => some ({ h with bs := h.bs ++ [AObj.loop .ready none tmps params assign body d] }, h.bs.length, [])
    | _ => none

/-- A range's record, with that state and jump. -/
def setLoop (h : Hp) (b : Nat) (st : LoopState) (pend : Option Code) : Option Hp :=
  match h.bs[b]? with
  | some (.loop _ _ tmps params assign body d) => some { h with bs := h.bs.set b (.loop st pend tmps params assign body d) }
  | _ => none

/-- A jump that a round left. -/
def jumpA : Option Code → Option AExit
  | none => some .normal
  | some .ret => some .ret
  | some (.exit id) => some (.exit id)
  | some (.goto l) => some (.goto l)
  | _ => none

/-- What comes behind the call of what is ranged over. -/
def afterA (b : Nat) (σ : St) (marks : List Mark) : List (AV × Hp × List BE) → Option (List (AExit × St))
  | [] => some []
  | (v, h, pc) :: r =>
    if v.pan?.isSome then none else
    match h.bs[b]? with
    | some (.loop st pend tmps params assign body d) => do
      if st = .busy then none else
      let e ← jumpA pend
      let m ← afterA b σ marks r
      pure ((e, { σ with h := { h with bs := h.bs.set b (.loop .exhausted pend tmps params assign body d) }, pc, marks := marks ++ σ.marks }) :: m)
    | _ => none

/-- 'sc': the code is what is left of that scope's body. 'dr': whether regions whose order is drawn are walked. 'ro': the range in whose round the code stands. -/
def runCode (P : Program) (dr : Bool) (call : CallF) (ro : Option Nat) : Nat → Option Code → Code → St → Option (List (AExit × St))
  | 0, _, _, _ => none
  | n + 1, some body, c, σ => do
    let l ← runCode P dr call ro n none c σ
    gotoA body (fun c σ => runCode P dr call ro n (some body) c σ) l
  | n + 1, none, c, σ =>
    match c with
    | .skip | .label _ => some [(.normal, σ)]
    | .region _ ops false => (runOps P call ro ops ops.toList σ).map fun l => l.map St.out
    | .region _ ops true => if dr && Region.noSelect ops && noDefer ops then (runAny P call ops (2 * ops.size + 1) (Array.replicate ops.size false) [] [] σ).map fun l => l.map St.out else none
    | .seq x y => do
      let l ← runCode P dr call ro n none x σ
      thenA (runCode P dr call ro n none y) l
    | .cond c x y => do
      match ← opnd σ.tmps c with
      | .bool b => split σ b (runCode P dr call ro n none x) (runCode P dr call ro n none y)
      | _ => none
    | .block id c => (runCode P dr call ro n none c σ).map (inBlockA id)
    | .loop c => do
      let l ← runCode P dr call ro n none c σ
      thenA (runCode P dr call ro n none (.loop c)) l
    | .exit id => some [(.exit id, σ)]
    | .goto l => some [(.goto l, σ)]
    | .scope c => runCode P dr call ro n (some c) c σ
    | .ret => some [(.ret, σ)]
    | .rangeFunc g params assign body => do
      match ← opnd σ.tmps g with
      | .func f first captured =>
        let (h, b, marks) ← enterA σ.h ro σ.tmps params assign body
        let fn ← P.funcs[f]?
        if fn.body.isSome then
          let l ← call false f (first ++ [.yield b] ++ captured) h σ.pc
          afterA b σ marks l
        else none
      | _ => none
    | _ => none

def result1 (P : Program) (σ : St) : ResultVar → Option AV
  | .tmp t => do
    let v ← σ.tmps[t]?
    if v.isPoison then none else some v
  | .cell a t => do
    match ← σ.tmps[a]? with
    | .ptr b o => loadV P σ.h t b o
    | _ => none

def resultsL (P : Program) (σ : St) : List ResultVar → Option (List AV)
  | [] => some []
  | x :: r => do
    let v ← result1 P σ x
    let l ← resultsL P σ r
    pure (v :: l)

def resultsA (P : Program) (fn : Func) (σ : St) : Option AV := do
  match ← resultsL P σ fn.results.toList with
  | [v] => pure v
  | l => pure (.tuple l)

/-- How an activation stands on its way out: it returns, or it panics (and has the panic been recovered from?). -/
inductive AMode where
  | ret
  | pan (v : AV) (recovered : Bool)

def AMode.settle : AMode → AMode
  | .pan _ true => .ret
  | m => m

/-- One operation of a deferred function: it may recover. -/
def doOpS (P : Program) (o : Oper) (p : St × AMode) : Option (St × AMode) :=
  match o.op with
  | .call { callee := .builtin .recover, .. } =>
    match p.2 with
    | .pan v false => some (p.1.put o.dst v, .pan v true)
    | u => some (p.1.put o.dst .nilIface, u)
  | _ => (aopPure P p.1.tmps o).map fun v => (p.1.put o.dst v, p.2)

def runOpsS (P : Program) (ops : Array Oper) : List Nat → St × AMode → Option (List (St × AMode))
  | [], p => some [p]
  | i :: r, p =>
    match ops[i]? with
    | some o =>
      guarded ops o p.1 (fun σ => do
        let q ← doOpS P o (σ, p.2)
        runOpsS P ops r q) (fun σ => runOpsS P ops r (σ.put o.dst undefA, p.2))
    | none => none

def thenS (f : St × AMode → Option (List (AExit × St × AMode))) : List (AExit × St × AMode) → Option (List (AExit × St × AMode))
  | [] => some []
  | (.normal, p) :: r => do
    let l ← f p
    let m ← thenS f r
    pure (l ++ m)
  | x :: r => do
    let m ← thenS f r
    pure (x :: m)

def hasRecover (ops : Array Oper) : Bool := ops.toList.any fun o => match o.op with
  | .call { callee := .builtin .recover, .. } => true
  | _ => false

/-- The text of a deferred function. -/
def runCodeS (P : Program) (dr : Bool) (call : CallF) : Nat → Code → St × AMode → Option (List (AExit × St × AMode))
  | 0, _, _ => none
  | n + 1, c, p =>
    match c with
    | .seq x y => do
      let l ← runCodeS P dr call n x p
      thenS (runCodeS P dr call n y) l
    | .cond c x y => do
      match ← opnd p.1.tmps c with
      | .bool b => split p.1 b (fun σ => runCodeS P dr call n x (σ, p.2)) (fun σ => runCodeS P dr call n y (σ, p.2))
      | _ => none
    | .region id ops false =>
      if hasRecover ops then (runOpsS P ops (List.range ops.size) p).map fun l => l.map fun q => (.normal, q.1, q.2)
      else (runCode P dr call none n none (.region id ops false) p.1).map fun l => l.map fun (e, σ) => (e, σ, p.2)
    | c => (runCode P dr call none n none c p.1).map fun l => l.map fun (e, σ) => (e, σ, p.2)

/-- A deferred call's ends: each the mode behind it, settled. -/
def settleA : List (AExit × St × AMode) → Option (List (AMode × Hp × List BE))
  | [] => some []
  | (.normal, σ, u) :: r | (.ret, σ, u) :: r => do
    if !σ.marks.isEmpty then none else
    let m ← settleA r
    pure ((u.settle, σ.h, σ.pc) :: m)
  | _ => none

def runDefer (P : Program) (dr : Bool) (call : CallF) (fuel : Nat) (f : FuncId) (args : List AV) (u : AMode) (h : Hp) (pc : List BE) : Option (List (AMode × Hp × List BE)) := do
  let fn ← P.funcs[f]?
  if !fn.results.isEmpty then none else
  let c ← fn.body
  let l ← runCodeS P dr call fuel c ({ tmps := args ++ List.replicate (fn.ntmps - args.length) undefA, h, pc }, u)
  settleA l

/-- The way out: what was deferred is done, the latest first. -/
def leaveA (P : Program) (dfr : FuncId → List AV → AMode → Hp → List BE → Option (List (AMode × Hp × List BE))) (fn : Func) (σ : St) : List Mark → AMode → Hp → List BE → Option (List (AV × Hp × List BE))
  | [], .ret, h, pc => do
    let v ← resultsA P fn { σ with h, pc }
    pure [(v, h, pc)]
  | [], .pan v false, h, pc => some [(v.pan, h, pc)]
  | [], .pan _ true, _, _ => none
  | .blk b :: r, u, h, pc =>
    match h.bs[b]? with
    | some (.deferred true) => leaveA P dfr fn σ r u { h with bs := h.bs.set b (.deferred false) } pc
    | _ => none
  | .call f first captured :: r, u, h, pc => do
    let g ← P.funcs[f]?
    if g.body.isNone then none else
    let l ← dfr f (first ++ captured) u h pc
    each (fun (u, h, pc) => leaveA P dfr fn σ r u h pc) l

def endsA (P : Program) (dfr : FuncId → List AV → AMode → Hp → List BE → Option (List (AMode × Hp × List BE))) (fn : Func) : List (AExit × St) → Option (List (AV × Hp × List BE))
  | [] => some []
  | (.normal, σ) :: r | (.ret, σ) :: r => do
    let l ← leaveA P dfr fn σ σ.marks .ret σ.h σ.pc
    let m ← endsA P dfr fn r
    pure (l ++ m)
  | (.panic v, σ) :: r => do
    let l ← leaveA P dfr fn σ σ.marks (.pan v false) σ.h σ.pc
    let m ← endsA P dfr fn r
    pure (l ++ m)
  | _ => none

/-- How a round is left. -/
def leftA : AExit → Option Code
  | .normal => none
  | .ret => some .ret
  | .exit id => some (.exit id)
  | .goto l => some (.goto l)
  | .panic _ => none

def roundsA (b : Nat) : List (AExit × St) → Option (List (AV × Hp × List BE))
  | [] => some []
  | (.panic _, _) :: _ => none
  | (e, σ) :: r => do
    let h ← setLoop σ.h b (if (leftA e).isNone then .ready else .done) (leftA e)
    let m ← roundsA b r
    pure ((.bool (.lit (leftA e).isNone), h, σ.pc) :: m)

def putMany (tmps : List AV) : List (Tmp × AV) → List AV
  | [] => tmps
  | (t, v) :: r => putMany (tmps.set t v) r

/-- A round's assignments have been made: its body. -/
def bodyA (b : Nat) (run : St → Option (List (AExit × St))) : List (AExit × St) → Option (List (AV × Hp × List BE))
  | [] => some []
  | (.normal, σ) :: r =>
    match σ.h.bs[b]? with
    | some (.loop .ready pend tmps params assign body d) => do
      let l ← run { σ with h := { σ.h with bs := σ.h.bs.set b (.loop .busy pend tmps params assign body d) } }
      let l ← roundsA b l
      let m ← bodyA b run r
      pure (l ++ m)
    | _ => none
  | _ => none

/-- 'kn': a function of nothing that is known to answer true (and to leave what was there as it was). -/
def runCall (P : Program) (dr : Bool) (kn : Option FuncId) (fuel : Nat) : Nat → CallF
  | 0, _, _, _, _, _ => none
  | d + 1, false, f, args, h, pc =>
    if kn == some f && args.isEmpty then some [(.bool (.lit true), h, pc)] else do
    let fn ← P.funcs[f]?
    let c ← fn.body
    let l ← runCode P dr (runCall P dr kn fuel d) none fuel none c { tmps := args ++ List.replicate (fn.ntmps - args.length) undefA, h, pc }
    endsA P (runDefer P dr (runCall P dr kn fuel d) fuel) fn l
  | d + 1, true, b, args, h, pc =>
    match h.bs[b]? with
    | some (.loop _ _ tmps params assign body _) => do
      if args.length ≠ params.size then none else
      let l ← runCode P dr (runCall P dr kn fuel d) (some b) fuel none assign { tmps := putMany tmps (params.toList.zip args), h, pc }
      bodyA b (fun σ => runCode P dr (runCall P dr kn fuel d) (some b) fuel none body σ) l
    | _ => none

end Go.Sx
