/-
  A WALKER THAT COMPUTES, ITS SECOND PART: operations, regions, code, calls.
-/
import Derived.Test.YtbgjceknbcpgjaaSzA
namespace Go.Sx

def undefA : AV := .tuple []

def isConst : Operand → Bool
  | .const _ => true
  | _ => false

def args1 (tmps : List AV) : List Operand → Option (List AV)
  | [] => some []
  | x :: r => do
    let v ← opnd tmps x
    let l ← args1 tmps r
    pure (v :: l)

def opt1 (tmps : List AV) : Option Operand → Option (Option AV)
  | none => some none
  | some x => (opnd tmps x).map some

def parts1 (tmps : List AV) : List (Nat × Operand) → Option (List (Nat × AV))
  | [] => some []
  | (i, x) :: r => do
    let v ← opnd tmps x
    let l ← parts1 tmps r
    pure ((i, v) :: l)

def capA : AV → Option Nat
  | .slice _ _ _ (.known n) => some n
  | .nilSlice => some 0
  | _ => none

def minInt (mx : Bool) : Int → List AV → IntKind → Option AV
  | n, [], k => some (.int k (.lit n))
  | n, .int _ (.lit m) :: r, k => minInt mx (if mx then (if m > n then m else n) else (if m < n then m else n)) r k
  | _, _, _ => none

/-- Operations that ask nothing of memory, and change nothing there. -/
def aopPure (P : Program) (tmps : List AV) (o : Oper) : Option AV :=
  match o.op with
  | .move x | .assign x => opnd tmps x
  | .pick c a b => do
    match ← opnd tmps c with
    | .bool (.lit c) => if c then opnd tmps a else opnd tmps b
    | _ => none
  | .build t ps => do
    let ps ← parts1 tmps ps.toList
    buildA P t ps
  | .nilCheck x => do
    match ← opnd tmps x with
    | .ptr b o => pure (.ptr b o)
    | .func f a b => pure (.func f a b)
    | .ptrs b z q i o => pure (.ptrs b z q i o)
    | _ => none
  | .binOp op t x y _ => do
    let a ← opnd tmps x
    let b ← opnd tmps y
    binOpA P op t (isConst x) (isConst y) a b
  | .unOp op _ x => do
    let a ← opnd tmps x
    unOpA op a
  | .makeInterface t x => do
    let v ← opnd tmps x
    match P.underlying t with
    | some (.interface _) => none
    | some _ => pure (.iface t v)
    | none => none
  | .makeFunc (.func f) a b => do
    let a ← args1 tmps a.toList
    let b ← args1 tmps b.toList
    pure (.func f a b)
  | .slice t x lo hi mx => do
    let x ← opnd tmps x
    let lo ← opt1 tmps lo
    let hi ← opt1 tmps hi
    let mx ← opt1 tmps mx
    sliceA P t x lo hi mx
  | .fieldAddr t x f => do
    let x ← opnd tmps x
    fieldAddrA P t x f
  | .field t x f => do
    let x ← opnd tmps x
    fieldA P t x f
  | .indexAddr t x i => do
    let x ← opnd tmps x
    let i ← opnd tmps i
    indexAddrA P t x i
  | .index t x i => do
    let x ← opnd tmps x
    let i ← opnd tmps i
    indexA P t x i
  | .extract t i => do
    match ← opnd tmps t with
    | .tuple vs => vs[i]?
    | _ => none
  | .convert src dst x => do
    let x ← opnd tmps x
    match P.underlying src, P.underlying dst, x with
    | some _, some (.int k), .int _ e => some (.int k (IE.mkWrap k e))
    | some _, some .string, .str s => some (.str s)
    | some _, some .string, .int _ (.lit n) => some (.str (Utf8.encode n).data.toList)
    | _, _, _ => none
  | .call { callee := .builtin .len, args, argTypes } => do
    let t ← argTypes[0]?
    let xs ← args1 tmps args.toList
    match P.underlying t, xs with
    | some .string, [.str s] => some (.int .i64 (.lit s.length))
    | some .string, [.strv i] => some (.int .i64 (.slen i))
    | some (.slice _), [.slice _ _ n _] => some (.int .i64 (.lit n))
    | some (.slice _), [.nilSlice] => some (.int .i64 (.lit 0))
    | some (.array n _), [_] => some (.int .i64 (.lit n))
    | some (.map _ _), [.nilMap] => some (.int .i64 (.lit 0))
    | _, _ => none
  | .call { callee := .builtin .cap, args, argTypes } => do
    let t ← argTypes[0]?
    let xs ← args1 tmps args.toList
    match P.underlying t, xs with
    | some (.slice _), [.slice _ _ _ (.var i s)] => some (.capv i s)
    | some (.slice _), [x] => (capA x).map fun (n : Nat) => AV.int .i64 (.lit (n : Int))
    | _, _ => none
  | .call { callee := .builtin .unsafeSliceData, args, .. } => do
    match ← args1 tmps args.toList with
    | [.nilSlice] => some .nilPtr
    | [.slice b o (_ + 1) _] => some (.ptr b o)
    | _ => none
  | .call { callee := .builtin .min, args, .. } => do
    match ← args1 tmps args.toList with
    | .int k (.lit n) :: r => minInt false n r k
    | _ => none
  | .call { callee := .builtin .max, args, .. } => do
    match ← args1 tmps args.toList with
    | .int k (.lit n) :: r => minInt true n r k
    | _ => none
  | _ => none

/-- Operations that lay one new block, and ask nothing else of memory: the value, the block ('b', 'k': the numbers that the block and the first open capacity get), how many capacities are open by it. -/
def allocA (P : Program) (tmps : List AV) (b k : Nat) (o : Oper) : Option (AV × AObj × Nat) :=
  match o.op with
  | .alloc t => do
    let z ← zero P t
    pure (.ptr b 0, .cells (z.cells.map some) t none b, 0)
  | .box t x => do
    let v ← opnd tmps x
    pure (.ptr b 0, .cells (v.cells.map some) t none b, 0)
  | .buildSlice t len ps => do
    let ps ← parts1 tmps ps.toList
    let (e, cs) ← buildSliceA P t len ps
    pure (.slice b 0 len (.known len), .cells (cs.map some) e none b, 0)
  | .makeSlice t l c => do
    let l ← opnd tmps l
    let c ← opnd tmps c
    let (e, cs, l, c) ← makeSliceA P t l c
    pure (.slice b 0 l (.known c), .cells (cs.map some) e none b, 0)
  | .convert src dst x => do
    match P.underlying src, P.underlying dst, ← opnd tmps x with
    | some _, some (.slice e), .str s =>
      match P.underlying e with
      | some (.int .u8) => pure (.slice b 0 s.length (.var k 0), .cells ((bytesAV s).map some) e (some (k, 1, s.length, 0)) b, 1)
      | _ => none
    | _, _, _ => none
  | .range t x => do
    match P.underlying t, ← opnd tmps x with
    | some .string, .str s => pure (.ptr b 0, .strIter s 0, 0)
    | _, _ => none
  | .makeMap _ none => pure (.map b, .map [] 0, 0)
  | _ => none

/-- A text's bytes. -/
def bytesA (h : Hp) : AV → Option (List UInt8)
  | .str s => some s
  | .nilSlice => some []
  | .slice b o n _ => do
    let l ← loadFrom h b o n
    byteCells l
  | _ => none

/-- All of the class are gone. -/
def gone1 (k : Nat) : AObj → AObj
  | .cells c t m k' => if k' == k then .gone k' else .cells c t m k'
  | x => x

def goneA (k : Nat) (bs : Bl) : Bl := Bl.upd (gone1 k) (k :: bs.members k) bs

/-- Bytes that are known to be bytes. -/
def strictBytes : List AV → Option (List UInt8)
  | [] => some []
  | .int .u8 (.lit (.ofNat n)) :: r => if n < 256 then (strictBytes r).map (UInt8.ofNat n :: ·) else none
  | _ => none

/-- unsafe.String over the head of a row. -/
def textA (P : Program) (h : Hp) (t : TypeId) (p n : AV) : Option ANext :=
  match p, n with
  | .nilPtr, .int .i64 (.lit 0) => some (.value (.str []) h)
  | .ptr b 0, .int .i64 (.lit n) =>
    match P.underlying t, h.bs[b]? with
    | some (.pointer e), some (.cells _ e' _ k) => do
      if e != e' || P.cellsOf e != 1 || n ≤ 0 || n > 1073741824 then none else
      let l ← loadFrom h b 0 n.toNat
      let s ← strictBytes l
      pure (.value (.str s) { h with bs := goneA k h.bs })
    | _, _ => none
  | _, _ => none

/-- Functions outside the program that ask nothing of memory. -/
def pureExt (n : String) : Option (Array Value → Sem Value) :=
  if n == "internal/bytealg.CountString" then some Extern.BytealgCount.count
  else if n == "internal/bytealg.IndexByteString" then some Extern.BytealgIndexByte.indexByte
  else none

def pureExtA (P : Program) (h : Hp) (n : String) (l : List AV) : Option ANext := do
  let f ← pureExt n
  let vs ← l.mapM (toValue 6)
  let r ← runPure P 1000 (f vs.toArray)
  let v ← ofV r
  pure (.value v h)

/-- A new row of whatever bytes. -/
def freshA (P : Program) (h : Hp) (t : TypeId) (n : Int) : Option ANext :=
  match P.underlying t with
  | some (.slice e) =>
    if 0 ≤ n && n ≤ 1073741824 then
      some (.value (.slice h.bs.length 0 n.toNat (.var h.nk 0)) { bs := h.bs ++ [AObj.cells (List.replicate n.toNat none) e (some (h.nk, 1, n.toNat, 0)) h.bs.length], nk := h.nk + 1, giv := h.giv })
    else none
  | _ => none

def aopMem (P : Program) (tmps : List AV) (h : Hp) (o : Oper) : Option ANext :=
  match o.op with
  | .load t a => do
    match ← opnd tmps a with
    | .ptr b o => (loadV P h t b o).map (.value · h)
    | .glob g o => do
      let b ← spotIn g h.giv.l 0
      (loadV P h t b o).map (.value · h)
    | _ => none
  | .store t a x => do
    let v ← opnd tmps x
    match ← opnd tmps a with
    | .ptr b o => (storeV P h t b o v).map .skip
    | _ => none
  | .convert src dst x => do
    let x ← opnd tmps x
    let (v, h) ← convertA P h src dst x
    pure (.value v h)
  | .next it true => do
    match ← opnd tmps it with
    | .ptr b 0 =>
      match h.bs[b]? with
      | some (.strIter s pos) =>
        if pos < s.length then
          let (c, n) := Utf8.decode ⟨s.toArray⟩ pos
          pure (.value (.tuple [.bool (.lit true), .int .i64 (.lit pos), .int .i32 (.lit c)]) { h with bs := h.bs.set b (.strIter s (pos + n)) })
        else pure (.value (.tuple [.bool (.lit false)]) h)
      | _ => none
    | _ => none
  | .call { callee := .builtin .append, args, argTypes } => do
    match ← args1 tmps args.toList with
    | [s, x] =>
      let (v, h) ← appendA P h argTypes.toList s x
      pure (.value v h)
    | _ => none
  | .call { callee := .builtin .copy, args, argTypes } => do
    let t ← argTypes[0]?
    match P.underlying t, ← args1 tmps args.toList with
    | some (.slice e), [d, s] =>
      let z ← size P e
      let n ← lenOfA s
      match d with
      | .nilSlice => pure (.value (.int .i64 (.lit 0)) h)
      | .slice b o len _ =>
        let m := min n len
        let new ← firstA h m z s
        let h ← storeFrom h b o new
        pure (.value (.int .i64 (.lit m)) h)
      | _ => none
    | _, _ => none
  | .call { callee := .builtin .unsafeString, args, argTypes } => do
    match argTypes.toList, ← args1 tmps args.toList with
    | [t, _], [p, n] => textA P h t p n
    | _, _ => none
  | .call { callee := .value f, args, .. } => do
    match ← opnd tmps f with
    | .func f a b =>
      let xs ← args1 tmps args.toList
      let fn ← P.funcs[f]?
      if fn.body.isSome then pure (.enter f (a ++ xs ++ b) h)
      else if fn.name == "internal/bytealg.Compare" && (Extern.findNext fn).isNone then
        match a ++ xs ++ b with
        | [x, y] =>
          let s ← bytesA h x
          let t ← bytesA h y
          pure (.value (.int .i64 (.lit (Extern.BytealgCompare.cmp ⟨s.toArray⟩ ⟨t.toArray⟩))) h)
        | _ => none
      else if fn.name == "internal/abi.NoEscape" && (Extern.findNext fn).isNone then
        match a ++ xs ++ b with
        | [x] => pure (.value x h)
        | _ => none
      else if fn.name == "internal/bytealg.MakeNoZero" && (Extern.findNext fn).isNone then
        match a ++ xs ++ b, fn.resultTypes.toList with
        | [.int .i64 (.lit n)], [t] => freshA P h t n
        | _, _ => none
      else if (Extern.findNext fn).isNone then pureExtA P h fn.name (a ++ xs ++ b)
      else none
    | _ => none
  | _ => none

/-! ### Maps -/

/-- What a map has, its values left out. -/
def keysOf : List (AV × AV × Nat) → Option (List MapEntry)
  | [] => some []
  | (k, _, n) :: r => do
    let v ← toValue 6 k
    let l ← keysOf r
    pure ({ key := v, val := .tuple #[], born := n } :: l)

/-- Where an unknown number stands: at the front, or nowhere. -/
def findIE (kd : IntKind) (e : IE) : List (AV × AV × Nat) → Option (Option Nat)
  | [] => some none
  | (.int kd' e', _, _) :: _ => if kd' = kd && e' = e then some (some 0) else none
  | _ => none

/-- Where a key stands among them. -/
def placeA (P : Program) (kt : TypeId) (empty : Bool) (k : AV) (es : List (AV × AV × Nat)) : Option (Option Nat) :=
  match toValue 6 k with
  | some kv => do
    let l ← keysOf es
    let _ ← runPure P 3000 (Instr.checkKey empty 10000 kt kv)
    let r ← runPure P 3000 (Instr.findKey kt kv l)
    pure (r.map (·.1))
  | none =>
    match k, P.underlying kt with
    | .int kd e, some (.int _) => findIE kd e es
    | _, _ => none

def mapOf (h : Hp) : AV → Option (List (AV × AV × Nat))
  | .nilMap => some []
  | .map b =>
    match h.bs[b]? with
    | some (.map es _) => some es
    | _ => none
  | _ => none

def lookupA (P : Program) (h : Hp) (t : TypeId) (x k : AV) (ok : Bool) : Option AV := do
  match P.underlying t with
  | some (.map kt e) =>
    let es ← mapOf h x
    match ← placeA P kt es.isEmpty k es with
    | some i =>
      let (_, v, _) ← es[i]?
      pure (if ok then .tuple [v, .bool (.lit true)] else v)
    | none =>
      let z ← zero P e
      pure (if ok then .tuple [z, .bool (.lit false)] else z)
  | _ => none

def updateA (P : Program) (h : Hp) (t : TypeId) (x k v : AV) : Option Hp := do
  match P.underlying t, x with
  | some (.map kt _), .map b =>
    match h.bs[b]? with
    | some (.map es clock) =>
      match ← placeA P kt false k es with
      | some i =>
        let (k0, _, n) ← es[i]?
        let k0v ← toValue 6 k0
        let kv ← toValue 6 k
        if Instr.sameBits 10000 k0v kv then pure { h with bs := h.bs.set b (.map (es.set i (k, v, n)) clock) } else none
      | none => pure { h with bs := h.bs.set b (.map (es ++ [(k, v, clock)]) (clock + 1)) }
    | _ => none
  | _, _ => none

def entryA (P : Program) (h : Hp) (t : TypeId) (x k : AV) : Option (AV × Hp) := do
  match P.underlying t, x with
  | some (.map kt e), .map b =>
    match h.bs[b]? with
    | some (.map es clock) =>
      match ← placeA P kt false k es with
      | some i =>
        let (k0, v, n) ← es[i]?
        let k0v ← toValue 6 k0
        let kv ← toValue 6 k
        if Instr.sameBits 10000 k0v kv then pure (.tuple [v, .int .i64 (.lit n)], { h with bs := h.bs.set b (.map (es.set i (k, v, n)) clock) }) else none
      | none =>
        let z ← zero P e
        pure (.tuple [z, .int .i64 (.lit clock)], { h with bs := h.bs.set b (.map (es ++ [(k, z, clock)]) (clock + 1)) })
    | _ => none
  | _, _ => none

def entryStoreA (h : Hp) (x s v : AV) : Option Hp := do
  match x, s with
  | .map b, .int _ (.lit n) =>
    match h.bs[b]? with
    | some (.map es clock) =>
      let i ← es.findIdx? (fun e => (e.2.2 : Int) == n)
      let (k, _, m) ← es[i]?
      pure { h with bs := h.bs.set b (.map (es.set i (k, v, m)) clock) }
    | _ => none
  | _, _ => none

def deleteA (P : Program) (h : Hp) (t : TypeId) (x k : AV) : Option Hp := do
  match P.underlying t with
  | some (.map kt _) =>
    match x with
    | .nilMap =>
      let kv ← toValue 6 k
      let _ ← runPure P 3000 (Instr.checkKey true 10000 kt kv)
      pure h
    | .map b =>
      match h.bs[b]? with
      | some (.map es clock) =>
        match ← placeA P kt es.isEmpty k es with
        | some i => pure { h with bs := h.bs.set b (.map (es.eraseIdx i) clock) }
        | none => pure h
      | _ => none
    | _ => none
  | _ => none

/-- The next of a map's: whichever of those that have not come yet. -/
def nextA (h : Hp) (b : Nat) : Option (List (AV × Hp)) :=
  match h.bs[b]? with
  | some (.mapIter none _ _ _) => some [(.tuple [.bool (.lit false)], h)]
  | some (.mapIter (some m) since seen last) =>
    match h.bs[m]? with
    | some (.map es clock) =>
      if !seen.isEmpty && !es.isEmpty && es.all (fun e => last ≤ e.2.2) then none else
      let left := es.filter fun e => !seen.contains e.2.2
      let old := left.filter fun e => e.2.2 < since
      let new := left.filter fun e => since ≤ e.2.2
      some ((if old.isEmpty then [(.tuple [.bool (.lit false)], h)] else []) ++
        (old ++ new).map fun e => (.tuple [.bool (.lit true), e.1, e.2.1], { h with bs := h.bs.set b (.mapIter (some m) since (seen ++ [e.2.2]) clock) }))
    | _ => none
  | _ => none

/-- What an iteration's last step came to, as it is now. -/
def atA (h : Hp) (b : Nat) : Option AV := do
  match h.bs[b]? with
  | some (.mapIter (some m) _ seen stepped) =>
    let stamp ← seen.getLast?
    match h.bs[m]? with
    | some (.map es clock) =>
      if clock ≠ stepped then none else
      let e ← es.find? (fun e => e.2.2 == stamp)
      pure (.tuple [e.1, e.2.1])
    | _ => none
  | _ => none

def assertA (P : Program) (x : AV) (t : TypeId) (ok : Bool) : Option AV := do
  let fails : Option AV := do
    if ok then
      let z ← zero P t
      pure (.tuple [z, .bool (.lit false)])
    else none
  let holds (v : AV) : AV := if ok then .tuple [v, .bool (.lit true)] else v
  match P.underlying t, x with
  | none, _ => none
  | some (.interface _), .nilIface => fails
  | some (.interface want), .iface d v =>
    let i ← P.info? d
    match Instr.missingMethod want i.methods with
    | none => pure (holds (.iface d v))
    | some _ => fails
  | some _, .nilIface => fails
  | some _, .iface d v => if d = t then pure (holds v) else fails
  | _, _ => none

/-- Cells of which nothing is told, up to a number. -/
def wider (c : List (Option AV)) (n : Nat) : List (Option AV) := c ++ List.replicate (n - c.length) none

/-- What is known of an open capacity: at least, at most (nought: nothing). -/
def learn1 (i n m : Nat) : AObj → AObj
  | .cells c t (some (j, z, least, most)) k =>
    .cells c t (some (j, z, if j = i && least < n then n else least, if j = i && m ≠ 0 && (most = 0 || m < most) then m else most)) k
  | x => x

def learn (i n m : Nat) (bs : Bl) : Bl := bs.map (learn1 i n m)

/-- A part of a row whose capacity is open, beyond its length: as far as the capacity is known to go. -/
def farA (P : Program) (h : Hp) (t : TypeId) (x : AV) (lo hi : Option AV) : Option (List (AV × Hp)) := do
  match P.underlying t, x with
  | some (.slice e), .slice b o len (.var i s) =>
    let z ← size P e
    match h.bs[b]? with
    | some (.cells c t' (some (j, z', least, most)) k) =>
      if j ≠ i || z' ≠ z || least < s || o ≠ s * z then none else
      let u ← bound hi len (least - s)
      let l ← bound lo 0 u
      if l < least - s then
        pure [(.slice b (o + l * z) (u - l) (.var i (s + l)), { h with bs := h.bs.set b (.cells (wider c ((s + u) * z)) t' (some (j, z', least, most)) k) })]
      else if l = least - s && u = l then
        -- the capacity's end, or not
        pure [(.slice b o 0 (.known 0), h), (.slice b (o + l * z) 0 (.var i (s + l)), { h with bs := learn i (s + l + 1) 0 h.bs })]
      else none
    | _ => none
  | _, _ => none

/-- Are two rows known to be apart, and a cell of the first one told? -/
def apartA (bs : Bl) (b c o : Nat) : Bool :=
  match bs[b]?, bs[c]? with
  | some (.cells cs _ _ k), some (.cells _ _ _ l) => decide (k ≠ l) && decide (o < cs.length)
  | _, _ => false

/-- Operations on maps, and what else is asked of memory: each way that it may go. No value: nothing is yielded. -/
def aopMany (P : Program) (tmps : List AV) (h : Hp) (o : Oper) : Option (List (Option AV × Hp)) :=
  match o.op with
  | .slice t x lo hi none => do
    let x ← opnd tmps x
    let lo ← opt1 tmps lo
    let hi ← opt1 tmps hi
    let l ← farA P h t x lo hi
    pure (l.map fun (v, h) => (some v, h))
  | .lookup t x k ok => do
    let x ← opnd tmps x
    let k ← opnd tmps k
    let v ← lookupA P h t x k ok
    pure [(some v, h)]
  | .mapUpdate t x k v | .insert t x k v => do
    let x ← opnd tmps x
    let k ← opnd tmps k
    let v ← opnd tmps v
    let h ← updateA P h t x k v
    pure [(none, h)]
  | .mapEntry t x k => do
    let x ← opnd tmps x
    let k ← opnd tmps k
    let (v, h) ← entryA P h t x k
    pure [(some v, h)]
  | .entryStore _ x s v => do
    let x ← opnd tmps x
    let s ← opnd tmps s
    let v ← opnd tmps v
    let h ← entryStoreA h x s v
    pure [(none, h)]
  | .range t x => do
    match P.underlying t, ← opnd tmps x with
    | some (.map _ _), .nilMap => pure [(some (.ptr h.bs.length 0), { h with bs := h.bs ++ [AObj.mapIter none 0 [] 0] })]
    | some (.map _ _), .map m =>
      match h.bs[m]? with
      | some (.map _ clock) => pure [(some (.ptr h.bs.length 0), { h with bs := h.bs ++ [AObj.mapIter (some m) clock [] clock] })]
      | _ => none
    | _, _ => none
  | .next it false => do
    match ← opnd tmps it with
    | .ptr b 0 => (nextA h b).map fun l => l.map fun (v, h) => (some v, h)
    | _ => none
  | .entry it => do
    match ← opnd tmps it with
    | .ptr b 0 => (atA h b).map fun v => [(some v, h)]
    | _ => none
  | .typeAssert x _ t ok => do
    let x ← opnd tmps x
    let v ← assertA P x t ok
    pure [(some v, h)]
  | .call { callee := .builtin .len, args, argTypes } => do
    let t ← argTypes[0]?
    match P.underlying t, ← args1 tmps args.toList with
    | some (.map _ _), [.map b] =>
      match h.bs[b]? with
      | some (.map es _) => pure [(some (.int .i64 (.lit es.length)), h)]
      | _ => none
    | _, _ => none
  | .call { callee := .builtin .delete, args, argTypes } => do
    let t ← argTypes[0]?
    match ← args1 tmps args.toList with
    | [x, k] =>
      let h ← deleteA P h t x k
      pure [(some undefA, h)]
    | _ => none
  | .call { callee := .builtin .clear, args, argTypes } => do
    let t ← argTypes[0]?
    match P.underlying t, ← args1 tmps args.toList with
    | some (.map _ _), [.nilMap] => pure [(some undefA, h)]
    | some (.map _ _), [.map b] =>
      match h.bs[b]? with
      | some (.map _ clock) => pure [(some undefA, { h with bs := h.bs.set b (.map [] clock) })]
      | _ => none
    | some (.slice _), [.nilSlice] => pure [(some undefA, h)]
    | some (.slice e), [.slice b o n _] =>
      if n = 0 then pure [(some undefA, h)] else
      let z ← zero P e
      let h ← storeFrom h b o (copies z.cells n)
      pure [(some undefA, h)]
    | _, _ => none
  | .call { callee := .value f, args, .. } => do
    match ← opnd tmps f with
    | .func f a b =>
      let xs ← args1 tmps args.toList
      let fn ← P.funcs[f]?
      if fn.body.isNone && fn.origin == "slices.overlaps" && (Extern.findNext fn).isNone && (Extern.allGenericRows.lookup fn.name).isNone && (Extern.allTypedRows.lookup fn.name).isNone && (Extern.allRows.lookup fn.name).isNone then do
        let pt ← fn.params[0]?
        match a ++ xs ++ b, P.underlying pt with
        | [.slice b1 o1 n1 _, .slice b2 _ n2 _], some (.slice e) =>
          let z ← size P e
          if z = 0 then none else
          if n1 = 0 || n2 = 0 || b1 = b2 || !apartA h.bs b1 b2 o1 then none else
          pure [(some (.bool (.lit true)), h), (some (.bool (.lit false)), h)]
        | _, _ => none
      else if fn.body.isNone && fn.name == "maps.clone" && (Extern.findNext fn).isNone then
        match a ++ xs ++ b with
        | [.iface t (.map m)] =>
          match h.bs[m]? with
          | some (.map es clock) => pure [(some (.iface t (.map h.bs.length)), { h with bs := h.bs ++ [AObj.map es clock] })]
          | _ => none
        | _ => none
      else none
    | _ => none
  | _ => none

/-! ### States -/

/-- What is deferred: a block for what rounds of a range over a function defer (shut when the activation ends), or a call. -/
inductive Mark where
  | blk (b : Nat)
  | call (f : FuncId) (first captured : List AV)

/-- An end by a panic, of that value. -/
def AV.pan (v : AV) : AV := .tuple [.poison, v]

def AV.pan? : AV → Option AV
  | .tuple [x, v] => if x.isPoison then some v else none
  | _ => none

structure St where
  tmps : List AV
  h : Hp
  pc : List BE
  /-- What is deferred. -/
  marks : List Mark := []
  /-- It panics. -/
  pan : Option AV := none

/-- The state taken apart first, so that what is computed with it does not go back through all that it came from. -/
def St.opened {α : Type} (σ : St) (f : St → α) : α :=
  match σ with
  | ⟨t, ⟨⟨bt, bm, bn, h1, h2⟩, nk, gv⟩, pc, m, p⟩ => f ⟨t, ⟨⟨bt, bm, bn, h1, h2⟩, nk, gv⟩, pc, m, p⟩

theorem St.opened_eq {α : Type} (σ : St) (f : St → α) : σ.opened f = f σ := rfl

def St.put (σ : St) (d : Option Tmp) (v : AV) : St :=
  match d with
  | some d => { σ with tmps := tset v σ.tmps d }
  | none => σ

/-- Of the slots that a region's operations set nothing is known. -/
def spoilT : List Oper → List AV → List AV
  | [], t => t
  | o :: r, t => spoilT r (match o.dst with | some d => t.set d .poison | none => t)

def St.spoil (σ : St) (ops : Array Oper) : St := { σ with tmps := spoilT ops.toList σ.tmps }

/-- A call's end comes in. -/
def St.land (σ : St) (d : Option Tmp) (v : AV) : St :=
  match v.pan? with
  | some x => { σ with pan := some x }
  | none => σ.put d v

def St.with (σ : St) (b : BE) : St := { σ with pc := b :: σ.pc }

/-- Is the unknown text known to be another one? -/
def other (pc : List BE) (i : Nat) (s : List UInt8) : Bool := pc.any fun
  | .seqs j t => j == i && t != s
  | _ => false

/-- Is it known which it is? -/
def truth (pc : List BE) : BE → Option Bool
  | .lit b => some b
  | b => if hasB b pc then some true else if hasB b.mkNot pc then some false else
    match b with
    | .cmp op e (.lit n) => decideB op n (bnd pc e)
    | .not (.cmp op e (.lit n)) => (decideB op n (bnd pc e)).map not
    | .seqs i s => if other pc i s then some false else none
    | .not (.seqs i s) => if other pc i s then some true else none
    | _ => none

/-- What an unknown of a head is, in terms of what there is. -/
inductive Th where
  | num (e : IE)
  | row (x : RX)
  | txt (x : TX)

def thAt (θ : List Th) (m i : Nat) : Option Th := if Nat.blt i m then none else θ[i - m]?

/-- A sum, of which known numbers are added at once. -/
def IE.plus : IE → IE → IE
  | .off a (.lit n), .lit m => IE.mkOff a (.lit (n + m))
  | .lin a z o, .lit (.ofNat m) => .lin a z (o + m)
  | .lit (.ofNat m), .lin a z o => .lin a z (o + m)
  | a, b => IE.mkOff a b
def IE.sub (θ : List Th) (m : Nat) : IE → Option IE
  | .bin op k a b => do
    let a ← a.sub θ m
    let b ← b.sub θ m
    pure (.bin op k a b)
  | .wrap k a => do
    let a ← a.sub θ m
    pure (.wrap k a)
  | .off a b => do
    let a ← a.sub θ m
    let b ← b.sub θ m
    pure (a.plus b)
  | .dif a b => do
    let a ← a.sub θ m
    let b ← b.sub θ m
    pure (IE.mkDif a b)
  | .lin a z o => do
    let a ← a.sub θ m
    pure (IE.mkLin a z o)
  | .fv i =>
    if Nat.blt i m then some (.fv i) else
    match θ[i - m]? with
    | some (.num e) => some e
    | _ => none
  | .cell r i => do
    let i ← i.sub θ m
    if Nat.blt r m then pure (.cell r i) else
    match θ[r - m]? with
    | some (.row (.row r')) => pure (.cell r' i)
    | _ => none
  | .chr s i => do
    let i ← i.sub θ m
    if Nat.blt s m then pure (.chr s i) else
    match θ[s - m]? with
    | some (.txt (.fv s')) => pure (.chr s' i)
    | _ => none
  | .tlen s =>
    if Nat.blt s m then some (.tlen s) else
    match θ[s - m]? with
    | some (.txt (.fv s')) => some (.tlen s')
    | some (.txt (.rig i)) => some (.slen i)
    | some (.txt (.lit l)) => some (.lit (l.length : Nat))
    | _ => none
  | .tab s i => do
    let i ← i.sub θ m
    pure (.tab s i)
  | .lit n => some (.lit n)
  | .var i => some (.var i)
  | .slen i => some (.slen i)
def rowSub (θ : List Th) (m r : Nat) : Option Nat :=
  if Nat.blt r m then some r else
  match θ[r - m]? with
  | some (.row (.row r')) => some r'
  | _ => none
def txtSub (θ : List Th) (m s : Nat) : Option Nat :=
  if Nat.blt s m then some s else
  match θ[s - m]? with
  | some (.txt (.fv s')) => some s'
  | _ => none
def rowTm (θ : List Th) (m r : Nat) : Option RX :=
  if Nat.blt r m then some (.row r) else
  match θ[r - m]? with
  | some (.row x) => some x
  | _ => none
def txtTm (θ : List Th) (m s : Nat) : Option TX :=
  if Nat.blt s m then some (.fv s) else
  match θ[s - m]? with
  | some (.txt x) => some x
  | _ => none
def iesSub (θ : List Th) (m : Nat) : List IE → Option (List IE)
  | [] => some []
  | e :: r => do
    let e ← e.sub θ m
    let l ← iesSub θ m r
    pure (e :: l)
def TX.sub' (θ : List Th) (m : Nat) : TX → Option TX
  | .lit s => some (.lit s)
  | .rig i => some (.rig i)
  | .fv i => txtTm θ m i
  | .lits es => (iesSub θ m es).map .lits
  | .row r o n => do
    let r ← rowSub θ m r
    let o ← o.sub θ m
    let n ← n.sub θ m
    pure (.row r o n)
  | .cat x y => do
    let x ← x.sub' θ m
    let y ← y.sub' θ m
    pure (.cat x y)
  | .sub x o n => do
    let x ← x.sub' θ m
    let o ← o.sub θ m
    let n ← n.sub θ m
    pure (.sub x o n)
def litsSub (θ : List Th) (m : Nat) : List (CK × IE) → Option (List (CK × IE))
  | [] => some []
  | (k, e) :: r => do
    let e ← e.sub θ m
    let l ← litsSub θ m r
    pure ((k, e) :: l)
def RX.sub' (θ : List Th) (m : Nat) : RX → Option RX
  | .row r => rowTm θ m r
  | .lits vs => (litsSub θ m vs).map .lits
  | .txt t => (t.sub' θ m).map .txt
  | .sub x o n => do
    let x ← x.sub' θ m
    let o ← o.sub θ m
    let n ← n.sub θ m
    pure (.sub x o n)
  | .cat x y => do
    let x ← x.sub' θ m
    let y ← y.sub' θ m
    pure (.cat x y)
  | .set x o y => do
    let x ← x.sub' θ m
    let o ← o.sub θ m
    let y ← y.sub' θ m
    pure (.set x o y)
  | .rep n vs => do
    let n ← n.sub θ m
    let vs ← litsSub θ m vs
    pure (.rep n vs)
def txtsSub (θ : List Th) (m : Nat) : List TX → Option (List TX)
  | [] => some []
  | e :: r => do
    let e ← e.sub' θ m
    let l ← txtsSub θ m r
    pure (e :: l)
def rowsSub (θ : List Th) (m : Nat) : List RX → Option (List RX)
  | [] => some []
  | e :: r => do
    let e ← e.sub' θ m
    let l ← rowsSub θ m r
    pure (e :: l)
def BE.sub (θ : List Th) (m : Nat) : BE → Option BE
  | .lit b => some (.lit b)
  | .not a => (a.sub θ m).map .not
  | .cmp op a b => do
    let a ← a.sub θ m
    let b ← b.sub θ m
    pure (.cmp op a b)
  | .same a b => do
    let a ← a.sub θ m
    let b ← b.sub θ m
    pure (.same a b)
  | .seqs i s => some (.seqs i s)
  | .teq x y => do
    let x ← x.sub' θ m
    let y ← y.sub' θ m
    pure (.teq x y)
  | .isrow r x => do
    let r ← rowSub θ m r
    let x ← x.sub' θ m
    pure (.isrow r x)
  | .rlen x n => do
    let x ← x.sub' θ m
    let n ← n.sub θ m
    pure (.rlen x n)
  | .sys k n x y => do
    let n ← n.sub θ m
    let x ← x.sub' θ m
    let y ← y.sub' θ m
    pure (.sys k n x y)
  | .usr k ns ss rs => do
    let ns ← iesSub θ m ns
    let ss ← txtsSub θ m ss
    let rs ← rowsSub θ m rs
    pure (.usr k ns ss rs)

/-! ### Differences -/

/-- A number as another one and so much. -/
def nrm : IE → IE × Int
  | .lit n => (.lit 0, n)
  | .off a (.lit n) => (a, n)
  | e => (e, 0)
/-- The first is at most the second and so much. -/
def dif3 (a b : IE) (k : Int) : IE × IE × Int := ((nrm a).1, (nrm b).1, k + (nrm b).2 - (nrm a).2)
/-- What a truth says of differences. -/
def difs : BE → List (IE × IE × Int)
  | .cmp .lss a b => [dif3 a b (-1)]
  | .cmp .leq a b => [dif3 a b 0]
  | .cmp .gtr a b => [dif3 b a (-1)]
  | .cmp .geq a b => [dif3 b a 0]
  | .cmp .eql a b => [dif3 a b 0, dif3 b a 0]
  | .not (.cmp .lss a b) => [dif3 b a 0]
  | .not (.cmp .leq a b) => [dif3 b a (-1)]
  | .not (.cmp .gtr a b) => [dif3 a b 0]
  | .not (.cmp .geq a b) => [dif3 a b (-1)]
  | _ => []
def allDifs (pc : List BE) : List (IE × IE × Int) := (pc.map difs).flatten
/-- By a row of these: 'a' is at most 'b' and so much. -/
def reach (l : List (IE × IE × Int)) : Nat → IE → IE → Int → Bool
  | 0, a, b, k => decide (a = b) && decide (0 ≤ k)
  | n + 1, a, b, k => (decide (a = b) && decide (0 ≤ k)) || l.any fun p => decide (p.1 = a) && reach l n p.2.1 b (k - p.2.2)
def isHub : IE → Bool
  | .lit _ => true
  | _ => false
/-- Bounds by numbers stand at a way's ends alone: what goes through them is known by intervals. -/
def between (L : List (IE × IE × Int)) : List (IE × IE × Int) := L.filter fun p => !(isHub p.1 || isHub p.2.1)
def dleIn (L M : List (IE × IE × Int)) (x y : IE) (c : Int) : Bool :=
  match isHub x, isHub y with
  | true, true => decide (x = y) && decide (0 ≤ c)
  | true, false => L.any fun p => isHub p.1 && (decide (p.1 = x) && reach M 2 p.2.1 y (c - p.2.2))
  | false, true => L.any fun p => isHub p.2.1 && (decide (p.2.1 = y) && reach M 2 x p.1 (c - p.2.2))
  | false, false => reach M 3 x y c || L.any fun p => isHub p.2.1 && (decide (p.1 = x) && L.any fun q => decide (q.1 = p.2.1) && (decide (q.2.1 = y) && decide (p.2.2 + q.2.2 ≤ c)))
def dle (pc : List BE) (a b : IE) (k : Int) : Bool :=
  let (x, y, c) := dif3 a b k
  dleIn (allDifs pc) (between (allDifs pc)) x y c
def difTruth (pc : List BE) : BE → Option Bool
  | .cmp .lss a b => if dle pc a b (-1) then some true else if dle pc b a 0 then some false else none
  | .cmp .leq a b => if dle pc a b 0 then some true else if dle pc b a (-1) then some false else none
  | .cmp .gtr a b => if dle pc b a (-1) then some true else if dle pc a b 0 then some false else none
  | .cmp .geq a b => if dle pc b a 0 then some true else if dle pc a b (-1) then some false else none
  | .cmp .eql a b => if dle pc a b (-1) || dle pc b a (-1) then some false else if dle pc a b 0 && dle pc b a 0 then some true else none
  | _ => none
def truthD (pc : List BE) (b : BE) : Option Bool :=
  match truth pc b with
  | some t => some t
  | none =>
    match b with
    | .not a => (difTruth pc a).map not
    | b => difTruth pc b
def difTrue (pc : List BE) : BE → Bool
  | .cmp .lss a b => dle pc a b (-1)
  | .cmp .leq a b => dle pc a b 0
  | .cmp .gtr a b => dle pc b a (-1)
  | .cmp .geq a b => dle pc b a 0
  | .cmp .eql a b => dle pc a b 0 && dle pc b a 0
  | .not (.cmp .lss a b) => dle pc b a 0
  | .not (.cmp .leq a b) => dle pc b a (-1)
  | .not (.cmp .gtr a b) => dle pc a b 0
  | .not (.cmp .geq a b) => dle pc a b (-1)
  | _ => false
/-- It is known. -/
def known (pc : List BE) (b : BE) : Bool :=
  match truth pc b with
  | some t => t
  | none => difTrue pc b
/-! ### Rules with places -/

/-- Which unknown of a rule stands for what. -/
abbrev Mt := List (Option Th)
def Mt.at : Mt → Nat → Option Th
  | [], _ => none
  | x :: _, 0 => x
  | _ :: r, i + 1 => Mt.at r i
def Mt.to : Mt → Nat → Th → Mt
  | [], 0, t => [some t]
  | [], i + 1, t => none :: Mt.to [] i t
  | _ :: r, 0, t => some t :: r
  | x :: r, i + 1, t => x :: Mt.to r i t
def Mt.num (σ : Mt) (i : Nat) (e : IE) : Option Mt :=
  match σ.at i with
  | none => some (σ.to i (.num e))
  | some (.num e') => if e' = e then some σ else none
  | _ => none
def Mt.row (σ : Mt) (i : Nat) (e : RX) : Option Mt :=
  match σ.at i with
  | none => some (σ.to i (.row e))
  | some (.row e') => if e' = e then some σ else none
  | _ => none
def Mt.txt (σ : Mt) (i : Nat) (e : TX) : Option Mt :=
  match σ.at i with
  | none => some (σ.to i (.txt e))
  | some (.txt e') => if e' = e then some σ else none
  | _ => none
/-- A pattern against what there is. -/
def mIE : IE → IE → Mt → Option Mt
  | .fv i, e, σ => σ.num i e
  | .lit n, .lit m, σ => if n = m then some σ else none
  | .var i, .var j, σ => if Nat.beq i j then some σ else none
  | .slen i, .slen j, σ => if Nat.beq i j then some σ else none
  | .bin op k a b, .bin op' k' a' b', σ => if op = op' ∧ k = k' then (mIE a a' σ).bind (mIE b b') else none
  | .wrap k a, .wrap k' a', σ => if k = k' then mIE a a' σ else none
  | .off a b, .off a' b', σ => (mIE a a' σ).bind (mIE b b')
  | .dif a b, .dif a' b', σ => (mIE a a' σ).bind (mIE b b')
  | .lin a z o, .lin a' z' o', σ => if Nat.beq z z' && Nat.beq o o' then mIE a a' σ else none
  | .cell r i, .cell r' i', σ => (σ.row r (.row r')).bind (mIE i i')
  | .chr r i, .chr r' i', σ => (σ.txt r (.fv r')).bind (mIE i i')
  | .tlen r, .tlen r', σ => σ.txt r (.fv r')
  | .tab s i, .tab s' i', σ => if s = s' then mIE i i' σ else none
  | _, _, _ => none
def mIEs : List IE → List IE → Mt → Option Mt
  | [], [], σ => some σ
  | a :: r, b :: s, σ => (mIE a b σ).bind (mIEs r s)
  | _, _, _ => none
def mTX : TX → TX → Mt → Option Mt
  | .fv i, e, σ => σ.txt i e
  | .lit s, .lit s', σ => if s = s' then some σ else none
  | .rig i, .rig j, σ => if Nat.beq i j then some σ else none
  | .row r o n, .row r' o' n', σ => ((σ.row r (.row r')).bind (mIE o o')).bind (mIE n n')
  | .cat x y, .cat x' y', σ => (mTX x x' σ).bind (mTX y y')
  | .sub x o n, .sub x' o' n', σ => ((mTX x x' σ).bind (mIE o o')).bind (mIE n n')
  | .lits es, .lits es', σ => mIEs es es' σ
  | _, _, _ => none
def mLits : List (CK × IE) → List (CK × IE) → Mt → Option Mt
  | [], [], σ => some σ
  | (k, a) :: r, (k', b) :: s, σ => if k = k' then (mIE a b σ).bind (mLits r s) else none
  | _, _, _ => none
def mRX : RX → RX → Mt → Option Mt
  | .row i, e, σ => σ.row i e
  | .lits vs, .lits vs', σ => mLits vs vs' σ
  | .txt t, .txt t', σ => mTX t t' σ
  | .sub x o n, .sub x' o' n', σ => ((mRX x x' σ).bind (mIE o o')).bind (mIE n n')
  | .cat x y, .cat x' y', σ => (mRX x x' σ).bind (mRX y y')
  | .set x o y, .set x' o' y', σ => ((mRX x x' σ).bind (mIE o o')).bind (mRX y y')
  | .rep n vs, .rep n' vs', σ => (mIE n n' σ).bind (mLits vs vs')
  | _, _, _ => none
def mTXs : List TX → List TX → Mt → Option Mt
  | [], [], σ => some σ
  | a :: r, b :: s, σ => (mTX a b σ).bind (mTXs r s)
  | _, _, _ => none
def mRXs : List RX → List RX → Mt → Option Mt
  | [], [], σ => some σ
  | a :: r, b :: s, σ => (mRX a b σ).bind (mRXs r s)
  | _, _, _ => none
def mBE : BE → BE → Mt → Option Mt
  | .lit a, .lit b, σ => if a == b then some σ else none
  | .not a, .not b, σ => mBE a b σ
  | .cmp op a b, .cmp op' a' b', σ => if op = op' then (mIE a a' σ).bind (mIE b b') else none
  | .same a b, .same a' b', σ => (mBE a a' σ).bind (mBE b b')
  | .seqs i s, .seqs j s', σ => if i = j ∧ s = s' then some σ else none
  | .teq x y, .teq x' y', σ => (mTX x x' σ).bind (mTX y y')
  | .isrow r x, .isrow r' x', σ => (σ.row r (.row r')).bind (mRX x x')
  | .rlen x n, .rlen x' n', σ => (mRX x x' σ).bind (mIE n n')
  | .sys k n x y, .sys k' n' x' y', σ => if Nat.beq k k' then ((mIE n n' σ).bind (mRX x x')).bind (mRX y y') else none
  | .usr k ns ss rs, .usr k' ns' ss' rs', σ => if Nat.beq k k' then ((mIEs ns ns' σ).bind (mTXs ss ss')).bind (mRXs rs rs') else none
  | _, _, _ => none
/-- All places are taken. -/
def Mt.full : Mt → Option (List Th)
  | [] => some []
  | none :: _ => none
  | some t :: r => (Mt.full r).map (t :: ·)
/-- A pattern's instance is known. -/
def knownAt (pc : List BE) (θ : List Th) (p : BE) : Bool :=
  match p.sub θ 0 with
  | some q => known pc q
  | none => false
/-! ### Sums -/

/-- A sum of multiples, and a number. -/
abbrev Lin := List (IE × Int) × Int
def linPut (e : IE) (k : Int) : List (IE × Int) → List (IE × Int)
  | [] => [(e, k)]
  | (f, j) :: r => if f = e then (if j + k = 0 then r else (f, j + k) :: r) else (f, j) :: linPut e k r
def linOf (k : Int) : IE → Lin → Lin
  | .lit n, s => (s.1, s.2 + k * n)
  | .off a b, s => linOf k b (linOf k a s)
  | .dif a b, s => linOf (-k) b (linOf k a s)
  | .lin a z o, s => linOf (k * z) a (s.1, s.2 + k * o)
  | e, s => (linPut e k s.1, s.2)
/-- The first less the second, and a number. -/
def lin2 (a b : IE) (c : Int) : Lin := linOf (-1) b (linOf 1 a ([], c))
/-- What a truth says: sums that are at most nought. -/
def linsOf : BE → List Lin
  | .cmp .lss a b => [lin2 a b 1]
  | .cmp .leq a b => [lin2 a b 0]
  | .cmp .gtr a b => [lin2 b a 1]
  | .cmp .geq a b => [lin2 b a 0]
  | .cmp .eql a b => [lin2 a b 0, lin2 b a 0]
  | .not (.cmp .lss a b) => [lin2 b a 0]
  | .not (.cmp .leq a b) => [lin2 b a 1]
  | .not (.cmp .gtr a b) => [lin2 a b 0]
  | .not (.cmp .geq a b) => [lin2 a b 1]
  | .not (.cmp .neq a b) => [lin2 a b 0, lin2 b a 0]
  | _ => []
def allLins : List BE → List Lin
  | [] => []
  | b :: r => linsOf b ++ allLins r
def coef (e : IE) : List (IE × Int) → Int
  | [] => 0
  | (f, k) :: r => if f = e then k else coef e r
def linScale (k : Int) : List (IE × Int) → List (IE × Int)
  | [] => []
  | (f, j) :: r => (f, k * j) :: linScale k r
def linPuts (k : Int) : List (IE × Int) → List (IE × Int) → List (IE × Int)
  | [], l => l
  | (f, j) :: r, l => linPuts k r (linPut f (k * j) l)
/-- So often the one, so often the other. -/
def linMix (j k : Int) (x y : Lin) : Lin := (linPuts k y.1 (if j = 1 then x.1 else linScale j x.1), j * x.2 + k * y.2)
/-- A sum that is at most nought cannot be. -/
def linRef (pc : List BE) (fs : List Lin) : Nat → Lin → Bool
  | 0, s => match s.1 with | [] => decide (0 < s.2) | _ => false
  | n + 1, s =>
    match s.1 with
    | [] => decide (0 < s.2)
    | (e, k) :: r =>
      if r.length ≤ 4 then
        (match (if 0 < k then (bnd pc e).1 else (bnd pc e).2) with
        | some v => linRef pc fs n (r, s.2 + k * v)
        | none => false) ||
        fs.any fun f =>
          if 0 < k then (if coef e f.1 < 0 then linRef pc fs n (linMix (-coef e f.1) k s f) else false)
          else (if 0 < coef e f.1 then linRef pc fs n (linMix (coef e f.1) (-k) s f) else false)
      else false
/-- By sums it is known. -/
def linKnown (pc : List BE) (fs : List Lin) (b : BE) : Bool :=
  (linsOf b.mkNot).any (fun s => linRef pc (linsOf b.mkNot ++ fs) 3 s) ||
  (match b with
  | .cmp .eql a b => linRef pc fs 3 (lin2 a b 1) && linRef pc fs 3 (lin2 b a 1)
  | .not (.cmp .neq a b) => linRef pc fs 3 (lin2 a b 1) && linRef pc fs 3 (lin2 b a 1)
  | _ => false)
/-- The numbers in one. -/
def IE.subs : IE → List IE → List IE
  | .off a b, l => a.subs (b.subs l)
  | .dif a b, l => a.subs (b.subs l)
  | .lin a _ _, l => a.subs l
  | .lit _, l => l
  | .wrap k a, l => if l.contains (.wrap k a) then l else .wrap k a :: a.subs l
  | .bin op k a b, l => if l.contains (.bin op k a b) then l else .bin op k a b :: a.subs (b.subs l)
  | .cell r i, l => if l.contains (.cell r i) then l else .cell r i :: i.subs l
  | e, l => if l.contains e then l else e :: l
def BE.ies : BE → List IE → List IE
  | .cmp _ a b, l => a.subs (b.subs l)
  | .not (.cmp _ a b), l => a.subs (b.subs l)
  | _, l => l
def iesOf : List BE → List IE → List IE
  | [], l => l
  | b :: r, l => b.ies (iesOf r l)
def isCmp : BE → Bool
  | .cmp _ _ _ => true
  | .not (.cmp _ _ _) => true
  | _ => false
/-- A pattern's instance is known by that. -/
def knownAtL (kn : BE → Bool) (θ : List Th) (p : BE) : Bool :=
  match p.sub θ 0 with
  | some q => kn q
  | none => false
/-- What comes of each that fits. -/
def fitIn (g : Mt → List BE) (p : BE) (σ : Mt) : List BE → List BE
  | [] => []
  | f :: l =>
    match mBE p f σ with
    | some σ' => g σ' ++ fitIn g p σ l
    | none => fitIn g p σ l
/-- What a rule says, by all that is found. -/
def collect (kn : BE → Bool) (pc : List BE) (r : Rule) : List BE → Mt → List BE
  | [], σ =>
    match σ.full with
    | some θ => if r.find.all (knownAt pc θ) && r.pre.all (knownAtL kn θ) then (match r.con.sub θ 0 with | some c => [c] | none => []) else []
    | none => []
  | p :: ps, σ => fitIn (collect kn pc r ps) p σ pc
def isEql : BE → Bool
  | .cmp .eql _ _ => true
  | _ => false
def trigIn (kn : BE → Bool) (pc : List BE) (r : Rule) (p : IE) : List IE → List BE
  | [] => []
  | t :: l =>
    match mIE p t [] with
    | some σ => collect kn pc r r.find σ ++ trigIn kn pc r p l
    | none => trigIn kn pc r p l
def learn1R (kn : BE → Bool) (pc : List BE) (ts : List IE) (r : Rule) : List BE :=
  match r.trig with
  | none => []
  | some p => if isEql r.con then [] else trigIn kn pc r p ts
def learnL (kn : BE → Bool) (pc : List BE) (ts : List IE) : List Rule → List BE
  | [] => []
  | r :: l => learn1R kn pc ts r ++ learnL kn pc ts l
/-- Known, by sums of what there is. -/
def knownS (pc : List BE) (fs : List Lin) (b : BE) : Bool := (truth pc b == some true) || (isCmp b && linKnown pc fs b)
def learnR (rs : List Rule) (pc : List BE) (ts : List IE) : List BE :=
  let fs := allLins pc
  learnL (knownS pc fs) pc ts rs
/-- Does one of them say what is learnt? -/
def learns (rs : List Rule) : Bool := rs.any fun r => r.trig.isSome
/-- Known, by sums too. -/
def knownL (rs : List Rule) (pc : List BE) (b : BE) : Bool :=
  if learns rs then (truth pc b == some true) || (isCmp b && linKnown pc (allLins pc) b) else known pc b
def truthL (rs : List Rule) (pc : List BE) (b : BE) : Option Bool :=
  if isCmp b && learns rs then
    if linKnown pc (allLins pc) b then some true else if linKnown pc (allLins pc) b.mkNot then some false else none
  else none
def fits1 (kn : BE → Bool) (pc : List BE) (r : Rule) (b : BE) (σ : Mt) : Bool :=
  match σ.full with
  | some θ => (match r.con.sub θ 0 with | some c => decide (c = b) | none => false) && r.find.all (knownAt pc θ) && r.pre.all (knownAtL kn θ)
  | none => false
/-- What is to be found among what is known, one behind the other. -/
def search (pc : List BE) (fin : Mt → Bool) : List BE → Mt → Bool
  | [], σ => fin σ
  | p :: ps, σ => pc.any fun f => match mBE p f σ with | some σ' => search pc fin ps σ' | none => false
def byPat (kn : BE → Bool) (pc : List BE) (r : Rule) (b : BE) : Bool :=
  match mBE r.con b [] with
  | some σ => search pc (fits1 kn pc r b) r.find σ
  | none => false
/-- What one's own rules say. -/
def byRule (kn : BE → Bool) (pc : List BE) (b : BE) : List Rule → Option Bool
  | [] => none
  | r :: l =>
    if r.pat then
      if byPat kn pc r b then some true
      else if byPat kn pc r b.mkNot then some false
      else byRule kn pc b l
    else if r.con = b && (r.find.all (known pc) && r.pre.all kn) then some true
    else if r.con = b.mkNot && (r.find.all (known pc) && r.pre.all kn) then some false
    else byRule kn pc b l
def truthR (rs : List Rule) (pc : List BE) (b : BE) : Option Bool :=
  match (match rs with | [] => truth pc b | _ => if learns rs then truth pc b else truthD pc b) with
  | some t => some t
  | none =>
    match truthL rs pc b with
    | some t => some t
    | none => byRule (knownL rs pc) pc b rs
/-- By one's own rules that cannot be. -/
def dead (rs : List Rule) (pc : List BE) : Bool := (byRule (knownL rs pc) pc (.lit false) rs) == some true
def unlessB {α : Type} (c : Bool) (x : Option (List α)) : Option (List α) := if c then some [] else x
/-- An open truth: both ways. -/
def split1 {α : Type} (σ : St) (b : BE) (yes no : St → Option (List α)) : Option (List α) :=
  match truthR σ.h.giv.cfg.rules σ.pc b with
  | some true => yes σ
  | some false => no σ
  | none => do
    let l ← unlessB (dead σ.h.giv.cfg.rules (b :: σ.pc)) (yes (σ.with b))
    let r ← unlessB (dead σ.h.giv.cfg.rules (b.mkNot :: σ.pc)) (no (σ.with b.mkNot))
    pure (l ++ r)

/-- Of two truths that are compared, the one and then the other. -/
def split {α : Type} (σ : St) (b : BE) (yes no : St → Option (List α)) : Option (List α) :=
  match b with
  | .same x y => split1 σ x (fun σ => split1 σ y yes no) (fun σ => split1 σ y no yes)
  | .not (.same x y) => split1 σ x (fun σ => split1 σ y no yes) (fun σ => split1 σ y yes no)
  | b => split1 σ b yes no

/-- One behind the other. -/
def each {α β : Type} (f : α → Option (List β)) : List α → Option (List β)
  | [] => some []
  | x :: r => do
    let l ← f x
    let m ← each f r
    pure (l ++ m)

/-- A number held against an open capacity: what is known where it is so, and where not: at least, at most. -/
def capTest (op : BinOp) (n : Int) : Option ((Int × Int) × (Int × Int)) :=
  match op with
  | .gtr => some ((0, n - 1), (n, 0))
  | .geq => some ((0, n), (n + 1, 0))
  | .lss => some ((n + 1, 0), (0, n))
  | .leq => some ((n, 0), (0, n - 1))
  | _ => none

/-- A bound of an open capacity less 's' is one of the capacity. -/
def liftB (s : Nat) (n : Int) : Nat := if n ≤ 0 then 0 else n.toNat + s

def capSplit (σ : St) (o : Oper) : Option (List St) :=
  match o.op with
  | .binOp op _ x y _ => do
    match ← opnd σ.tmps x, ← opnd σ.tmps y with
    | .int .i64 (.lit n), .capv i s =>
      let (p, q) ← capTest op n
      pure [{ σ with h := { σ.h with bs := learn i (liftB s p.1) (liftB s p.2) σ.h.bs } }.put o.dst (.bool (.lit true)), { σ with h := { σ.h with bs := learn i (liftB s q.1) (liftB s q.2) σ.h.bs } }.put o.dst (.bool (.lit false))]
    | _, _ => none
  | _ => none

/-- What calls come to: 'false': of a function; 'true': of the 'yield' whose record is that block. -/
abbrev CallF := Bool → Nat → List AV → Hp → List BE → Option (List (AV × Hp × List BE))

/-- The lesser, or the greater, of two numbers: the one or the other. -/
def minSplit (σ : St) (o : Oper) : Option (List St) :=
  match o.op with
  | .call { callee := .builtin .min, args, .. } => do
    match ← args1 σ.tmps args.toList with
    | [.int k a, .int k' b] =>
      if k = k' then
        let c ← BE.mkCmp .lss b a
        split σ c (fun σ => some [σ.put o.dst (.int k b)]) (fun σ => some [σ.put o.dst (.int k a)])
      else none
    | _ => none
  | .call { callee := .builtin .max, args, .. } => do
    match ← args1 σ.tmps args.toList with
    | [.int k a, .int k' b] =>
      if k = k' then
        let c ← BE.mkCmp .gtr b a
        split σ c (fun σ => some [σ.put o.dst (.int k b)]) (fun σ => some [σ.put o.dst (.int k a)])
      else none
    | _ => none
  | _ => none

/-- The parts of two values of a struct that are compared, in their order. -/
def eqFieldsA (P : Program) (f : TypeId → AV → AV → Option (List BE)) (xs ys : List AV) : List Field → Option (List BE)
  | [] => some []
  | d :: r =>
    if d.name = "_" then eqFieldsA P f xs ys r else do
      let x ← partA P d.type xs d.offset
      let y ← partA P d.type ys d.offset
      let l ← f d.type x y
      let m ← eqFieldsA P f xs ys r
      pure (l ++ m)

def eqItemsA (P : Program) (f : TypeId → AV → AV → Option (List BE)) (e : TypeId) (c : Nat) (xs ys : List AV) : List Nat → Option (List BE)
  | [] => some []
  | i :: r => do
    let x ← partA P e xs (i * c)
    let y ← partA P e ys (i * c)
    let l ← f e x y
    let m ← eqItemsA P f e c xs ys r
    pure (l ++ m)

/-- As a text. -/
def txOf : AV → Option TX
  | .str s => some (.lit s)
  | .strv i => some (.rig i)
  | .txt x => some x
  | _ => none
/-- What has to be so for two values to be the same. -/
def eqA (P : Program) : Nat → TypeId → AV → AV → Option (List BE)
  | 0, _, _, _ => none
  | n + 1, t, x, y =>
    match P.underlying t with
    | some (.int _) =>
      match x, y with
      | .int k a, .int k' b => if k = k' then (BE.mkCmp .eql a b).map (fun c => [c]) else none
      | _, _ => none
    | some .bool =>
      match x, y with
      | .bool a, .bool b => some [BE.mkSame a b]
      | _, _ => none
    | some .string =>
      match x, y with
      | .str a, .str b => some [.lit (a == b)]
      | .strv i, .str s => some [.seqs i s]
      | .str s, .strv i => some [.seqs i s]
      | x, y => do
        let a ← txOf x
        let b ← txOf y
        pure [if a = b then .lit true else .teq a b]
    | some (.struct fs) =>
      match x, y with
      | .agg xs, .agg ys => if P.stoodInHeld t then none else eqFieldsA P (eqA P n) xs ys fs.toList
      | _, _ => none
    | some (.array len e) =>
      match x, y with
      | .agg xs, .agg ys => if (P.info? e).isSome then eqItemsA P (eqA P n) e (P.cellsOf e) xs ys (List.range len) else none
      | _, _ => none
    | _ => none

/-- One part behind the other: the first that differs tells. -/
def eqSplit (dst : Option Tmp) (same : Bool) : List BE → St → Option (List St)
  | [], σ => some [σ.put dst (.bool (.lit same))]
  | c :: r, σ => split σ c (fun σ => eqSplit dst same r σ) (fun σ => some [σ.put dst (.bool (.lit !same))])

/-- Are they asked to be the same, or not the same? -/
def sameOf : BinOp → Option Bool
  | .eql => some true
  | .neq => some false
  | _ => none

/-- Two structs with open parts, compared. -/
def sameSplit (P : Program) (σ : St) (o : Oper) : Option (List St) :=
  match o.op with
  | .binOp op t x y _ => do
    let same ← sameOf op
    if P.eqGuardType P.depth t then none else
    match ← opnd σ.tmps x, ← opnd σ.tmps y with
    | .agg xs, .agg ys =>
      let cs ← eqA P 10 t (.agg xs) (.agg ys)
      eqSplit o.dst same cs σ
    | _, _ => none
  | _ => none

/-! ### Slices and texts of unknown lengths -/

/-- What is held of memory while a region goes on: a cell; or, of which row a block is. -/
abbrev Held := List (Nat × Nat × (AV ⊕ IE))


/-- Is it known that the one is at most, less than, the other? -/
def leB (rs : List Rule) (pc : List BE) (a b : IE) : Bool :=
  match BE.mkCmp .leq a b with
  | some c => truthR rs pc c == some true
  | none => false
def ltB (rs : List Rule) (pc : List BE) (a b : IE) : Bool :=
  match BE.mkCmp .lss a b with
  | some c => truthR rs pc c == some true
  | none => false
/-- Is it known to be a number of that kind? -/
def inR (rs : List Rule) (pc : List BE) (k : IntKind) (e : IE) : Bool := leB rs pc (.lit k.min) e && leB rs pc e (.lit k.max)
/-- Without wrapping, where it is known that nothing wraps. -/
def IE.tidy (rs : List Rule) (pc : List BE) : IE → IE
  | .bin .add k a b => if inR rs pc k (a.plus b) then a.plus b else .bin .add k a b
  | .bin .sub k a (.lit n) => if inR rs pc k (a.plus (.lit (-n))) then a.plus (.lit (-n)) else .bin .sub k a (.lit n)
  | .bin .sub k a b => if inR rs pc k (IE.mkDif a b) then IE.mkDif a b else .bin .sub k a b
  | .bin .mul k a (.lit (.ofNat n)) => if inR rs pc k (IE.mkLin a n 0) then IE.mkLin a n 0 else .bin .mul k a (.lit (.ofNat n))
  | .bin .mul k (.lit (.ofNat n)) a => if inR rs pc k (IE.mkLin a n 0) then IE.mkLin a n 0 else .bin .mul k (.lit (.ofNat n)) a
  | .wrap k (.cell r i) => .wrap k (.cell r i)
  | .wrap k (.var i) => .wrap k (.var i)
  | .wrap k a => if inR rs pc k a then a else .wrap k a
  | e => e
def AV.tidy (rs : List Rule) (pc : List BE) (v : AV) : AV :=
  match rs with
  | [] => v
  | _ => match v with
    | .int k e => .int k (e.tidy rs pc)
    | v => v
/-- After a computation. -/
def AV.tidyAt (o : Oper) (rs : List Rule) (pc : List BE) (v : AV) : AV :=
  match o.op with
  | .binOp _ _ _ _ _ => v.tidy rs pc
  | .convert _ _ _ => v.tidy rs pc
  | _ => v
/-- How long a text is. -/
def lenX (rs : List Rule) (pc : List BE) : TX → Option IE
  | .lit s => some (.lit (s.length : Nat))
  | .rig i => some (.slen i)
  | .fv i => some (.tlen i)
  | .lits es => some (.lit (es.length : Nat))
  | .row _ _ n => if leB rs pc (.lit 0) n then some n else none
  | .sub _ _ n => if leB rs pc (.lit 0) n then some n else none
  | .cat x y => do
    let a ← lenX rs pc x
    let b ← lenX rs pc y
    pure (IE.mkOff a b)
/-- A bound of a part, if it is told. -/
def bndOf (d : IE) : Option AV → Option IE
  | none => some d
  | some (.int _ e) => some e
  | _ => none
/-- What asks nothing of memory, but of what is known. -/
def symPure (P : Program) (rs : List Rule) (pc : List BE) (tmps : List AV) (o : Oper) : Option AV :=
  match o.op with
  | .indexAddr t x i => do
    match P.underlying t, ← opnd tmps x, ← opnd tmps i with
    | some (.slice e), .sl b z q o len _, .int _ i =>
      if size P e = some z && leB rs pc (.lit 0) i && ltB rs pc i len then some (.ptrs b z q (IE.mkOff o i) 0) else none
    | some (.slice e), .slice b o len (.known _), .int _ i => do
      let z ← size P e
      if z ≠ 0 && o % z = 0 && leB rs pc (.lit 0) i && ltB rs pc i (.lit len) then some (.ptrs b z (.lit 0) (IE.mkOff (.lit (o / z : Nat)) i) 0) else none
    | some (.array len e), .ptr b o, .int _ i => do
      let z ← size P e
      if z ≠ 0 && o % z = 0 && leB rs pc (.lit 0) i && ltB rs pc i (.lit len) then some (.ptrs b z (.lit 0) (IE.mkOff (.lit (o / z : Nat)) i) 0) else none
    | _, _, _ => none
  | .fieldAddr t x f => do
    match P.underlying t, ← opnd tmps x with
    | some (.struct fs), .ptrs b z q i o => do
      let f ← fs[f]?
      let n ← size P f.type
      if n = 0 then none else pure (.ptrs b z q i (o + f.offset))
    | _, _ => none
  | .index t x i => do
    match P.underlying t, ← opnd tmps x, ← opnd tmps i with
    | some .string, .txt (.fv s), .int _ i =>
      if leB rs pc (.lit 0) i && ltB rs pc i (.tlen s) then some (.int .u8 (.chr s i)) else none
    | some .string, .str s, .int _ i =>
      if leB rs pc (.lit 0) i && ltB rs pc i (.lit (s.length : Nat)) then some (.int .u8 (.tab s i)) else none
    | _, _, _ => none
  | .binOp .add t x y _ => do
    match P.underlying t with
    | some .string => do
      let x ← txOf (← opnd tmps x)
      let y ← txOf (← opnd tmps y)
      let a ← lenX rs pc x
      let b ← lenX rs pc y
      if leB rs pc (IE.mkOff a b) (.lit 9223372036854775807) then some (.txt (.cat x y)) else none
    | _ => none
  | .binOp op t x y _ => do
    match P.underlying t, ← opnd tmps x, ← opnd tmps y with
    | some (.slice _), .sl _ _ _ _ _ _, .nilSlice =>
      match op with
      | .eql => some (.bool (.lit false))
      | .neq => some (.bool (.lit true))
      | _ => none
    | some .string, .txt x, .txt y =>
      match op with
      | .eql => some (.bool (.teq x y))
      | .neq => some (.bool (.not (.teq x y)))
      | _ => none
    | some .string, .txt x, .str s =>
      match op with
      | .eql => some (.bool (.teq x (.lit s)))
      | .neq => some (.bool (.not (.teq x (.lit s))))
      | _ => none
    | some .string, .str s, .txt x =>
      match op with
      | .eql => some (.bool (.teq x (.lit s)))
      | .neq => some (.bool (.not (.teq x (.lit s))))
      | _ => none
    | some .string, .txt x, .strv i =>
      match op with
      | .eql => some (.bool (.teq x (.rig i)))
      | .neq => some (.bool (.not (.teq x (.rig i))))
      | _ => none
    | _, .int k a, .int k' b =>
      match op with
      | .quo | .rem => if k = k' && ltB rs pc (.lit 0) b then some (.int k (.bin op k a b)) else none
      | .shl | .shr => if leB rs pc (.lit 0) b then some (.int k (.bin op k a b)) else none
      | _ => none
    | _, _, _ => none
  | .call { callee := .builtin .len, args, argTypes } => do
    let t ← argTypes[0]?
    match P.underlying t, ← args1 tmps args.toList with
    | some (.slice _), [.sl _ _ _ _ n _] => some (.int .i64 n)
    | some .string, [.txt x] => (lenX rs pc x).map (.int .i64)
    | _, _ => none
  | .call { callee := .builtin .cap, args, argTypes } => do
    let t ← argTypes[0]?
    match P.underlying t, ← args1 tmps args.toList with
    | some (.slice _), [.sl _ _ _ _ _ c] => some (.int .i64 c)
    | _, _ => none
  | .convert src dst x => do
    match P.underlying src, P.underlying dst, ← opnd tmps x with
    | some (.slice e), some .string, .nilSlice =>
      match P.underlying e with
      | some (.int .u8) => some (.str [])
      | _ => none
    | _, _, _ => none
  | .slice t x lo hi none => do
    let x ← opnd tmps x
    let lo ← opt1 tmps lo
    let hi ← opt1 tmps hi
    match P.underlying t, x with
    | some (.slice e), .sl b z q o n c => do
      let l ← bndOf (.lit 0) lo
      let h ← bndOf n hi
      if size P e = some z && leB rs pc (.lit 0) l && leB rs pc l h && leB rs pc h c && (l = .lit 0 || ltB rs pc l c) then some (.sl b z q (IE.mkOff o l) (IE.mkDif h l) (IE.mkDif c l)) else none
    | some .string, .str s => do
      let l ← bndOf (.lit 0) lo
      let h ← bndOf (.lit (s.length : Nat)) hi
      if h = .off l (.lit 1) && leB rs pc (.lit 0) l && ltB rs pc l (.lit (s.length : Nat)) then some (.txt (.lits [.tab s l])) else none
    | _, _ => none
  | _ => none
/-- Another way to say a number, by one rule: the first that is found. -/
def rewFind (pc : List BE) (fs : List Lin) (nv : Nat) (e : IE) (r : Rule) : List BE → Mt → Option IE
  | [], σ =>
    match σ.full with
    | some θ =>
      if r.find.all (knownAt pc θ) && r.pre.all (knownAtL (knownS pc fs) θ) then
        match r.con.sub θ 0 with
        | some (.cmp .eql a b) => if a = e && b.upto nv then some b else none
        | _ => none
      else none
    | none => none
  | p :: ps, σ => pc.findSome? fun f => match mBE p f σ with | some σ' => rewFind pc fs nv e r ps σ' | none => none
def rew1 (pc : List BE) (fs : List Lin) (nv : Nat) (e : IE) : List Rule → Option IE
  | [] => none
  | r :: l =>
    match (if isEql r.con then (r.trig.bind fun p => mIE p e []).bind (rewFind pc fs nv e r r.find) else none) with
    | some e' => some e'
    | none => rew1 pc fs nv e l
def rewI (rs : List Rule) (pc : List BE) (fs : List Lin) (nv : Nat) : Nat → IE → IE
  | 0, e => e
  | n + 1, e =>
    match rew1 pc fs nv e rs with
    | some e' => rewI rs pc fs nv n e'
    | none => e
def AV.rew1 (rs : List Rule) (pc : List BE) (fs : List Lin) (nv : Nat) : AV → AV
  | .int k e => .int k (rewI rs pc fs nv 4 e)
  | v => v
/-- What was read, as one has it. -/
def AV.rewr (rs : List Rule) (pc : List BE) (nv : Nat) (v : AV) : AV :=
  if learns rs then
    let fs := allLins pc
    match v with
    | .agg cs => .agg (cs.map (AV.rew1 rs pc fs nv))
    | v => v.rew1 rs pc fs nv
  else v
/-- A cell of an unknown row. -/
def rowCell (r : Nat) (ks : List CK) (z : Nat) (i : IE) (o : Nat) : Option AV :=
  match ks[o]? with
  | some (.int k) => some (.int k (.wrap k (.cell r (IE.mkLin i z o))))
  | some .bool => some (.bool (.cmp .eql (.cell r (IE.mkLin i z o)) (.lit 1)))
  | none => none
def rowCells (r : Nat) (ks : List CK) (z : Nat) (i : IE) : Nat → Nat → Option (List AV)
  | _, 0 => some []
  | o, n + 1 => do
    let v ← rowCell r ks z i o
    let l ← rowCells r ks z i (o + 1) n
    pure (v :: l)
def rowOf (h : Hp) (b : Nat) : Option (Nat × List CK × IE × IE) :=
  match h.bs[b]? with
  | some (.row (.row r) _ ks n _) => some (r, ks, n, .lit 0)
  | some (.grow r _ ks n _ q) => some (r, ks, n, q)
  | _ => none
/-- What is read at the place 'o' of the element 'i'. -/
def symLoad (P : Program) (rs : List Rule) (pc : List BE) (h : Hp) (t : TypeId) (b z : Nat) (q i : IE) (o : Nat) : Option AV := do
  let (r, ks, n, q') ← rowOf h b
  if q = q' && ks.length = z && leB rs pc (.lit 0) i && ltB rs pc i n then
    if ← isAggT P t then
      let m ← size P t
      (rowCells r ks z i o m).map .agg
    else rowCell r ks z i o
  else none
/-- A text out of bytes of an unknown row. -/
def symText (P : Program) (rs : List Rule) (pc : List BE) (h : Hp) (src dst : TypeId) (x : AV) : Option AV :=
  match P.underlying src, P.underlying dst, x with
  | some (.slice e), some .string, .sl b z q o n _ =>
    match P.underlying e, rowOf h b with
    | some (.int .u8), some (r, [.int .u8], m, q') =>
      if q = q' && z = 1 && leB rs pc (IE.mkOff o n) m then some (.txt (.row r o n)) else none
    | _, _ => none
  | _, _, _ => none
/-- The numbers in a value. -/
def subsL : List AV → List IE → List IE
  | [], l => l
  | .int _ e :: r, l => e.subs (subsL r l)
  | _ :: r, l => subsL r l
def gainOf (rs : List Rule) (pc : List BE) (nv : Nat) (v : AV) : List BE :=
  if learns rs then
    (learnR rs pc (subsL v.cells [])).filter fun b => b.upto nv && !pc.contains b
  else []
/-- What is learnt of a value that was read. -/
def St.gain (σ : St) (v : AV) : St :=
  match gainOf σ.h.giv.cfg.rules σ.pc σ.h.giv.nv v with
  | [] => σ
  | l => { σ with pc := l ++ σ.pc }
/-- What reads memory, where what is known is asked. -/
def symRead (P : Program) (rs : List Rule) (pc : List BE) (tmps : List AV) (h : Hp) (o : Oper) : Option (AV × Held) :=
  match o.op with
  | .load t a => do
    match ← opnd tmps a with
    | .ptrs b z q i o => do
      let (r, _, _, k) ← rowOf h b
      let v ← symLoad P rs pc h t b z q i o
      pure (v.rewr rs pc h.giv.nv, [(b, r, .inr k)])
    | _ => none
  | .convert src dst x => do
    match ← opnd tmps x with
    | .sl b z q o n c => do
      let (r, _, _, k) ← rowOf h b
      let v ← symText P rs pc h src dst (.sl b z q o n c)
      pure (v, [(b, r, .inr k)])
    | _ => none
  | _ => none
/-- Are two numbers known to be the same? -/
def sameI (rs : List Rule) (pc : List BE) (a b : IE) : Bool :=
  if a = b then true else
  match BE.mkCmp .eql a b with
  | some c => truthR rs pc c == some true
  | none => false
/-- Is it a number of that kind? -/
def inKind (pc : List BE) (k : IntKind) (e : IE) : Bool :=
  match bnd pc e with
  | (some lo, some hi) => decide (k.min ≤ lo) && decide (hi ≤ k.max)
  | _ => false
def litOf (rs : List Rule) (pc : List BE) : AV → Option (CK × IE)
  | .int k e => if inKind pc k e || inR rs pc k e then some (.int k, e) else none
  | .bool (.lit b) => some (.bool, .lit (if b then 1 else 0))
  | _ => none
def litsOf (rs : List Rule) (pc : List BE) : List AV → Option (List (CK × IE))
  | [] => some []
  | v :: r => do
    let v ← litOf rs pc v
    let l ← litsOf rs pc r
    pure (v :: l)
/-- A new row, of a length or a capacity that is not known. -/
def newA (P : Program) (rs : List Rule) (pc : List BE) (tmps : List AV) (nb : Nat) (o : Oper) : Option (AV × AObj) :=
  match o.op with
  | .makeSlice t l c => do
    match P.underlying t, ← opnd tmps l, ← opnd tmps c with
    | some (.slice e), .int .i64 l, .int .i64 c => do
      let y ← bytes P e
      let n ← size P e
      let z ← zero P e
      let cs ← litsOf [] [] z.cells
      if z.cells.length = n && n ≠ 0 && y ≤ 131072 && leB rs pc (.lit 0) l && leB rs pc l c && leB rs pc c (.lit 1073741824) then
        some (.sl nb n (.lit 0) (.lit 0) l c, .row (.rep l cs) e (cs.map (·.1)) l c)
      else none
    | _, _, _ => none
  | .range t x => do
    match P.underlying t, ← opnd tmps x with
    | some .string, .txt s => some (.ptr nb 0, .txtIter s 0)
    | _, _ => none
  | _ => none
def symNew (P : Program) (σ : St) (o : Oper) : Option (AV × AObj) := newA P σ.h.giv.cfg.rules σ.pc σ.tmps σ.h.bs.length o
/-- Bytes that are known as terms, as a text. -/
def symBytes (P : Program) (σ : St) (o : Oper) : Option AV :=
  match o.op with
  | .convert src dst x => do
    match P.underlying src, P.underlying dst, ← opnd σ.tmps x with
    | some (.slice e), some .string, .slice b o n (.known _) => do
      match P.underlying e with
      | some (.int .u8) => do
        let cs ← loadFrom σ.h b o n
        let vs ← litsOf σ.h.giv.cfg.rules σ.pc cs
        if vs.map (·.1) = List.replicate n (.int .u8) then some (.txt (.lits (vs.map (·.2)))) else none
      | _ => none
    | _, _, _ => none
  | _ => none
/-- Onto a row whose room is known to do. -/
def symAppA (P : Program) (σ : St) (o : Oper) : Option (AV × Hp) :=
  match o.op with
  | .call { callee := .builtin .append, args, argTypes } => do
    let st ← argTypes[0]?
    match P.underlying st with
    | some (.slice e) => do
      let z ← size P e
      let y ← bytes P e
      let zz ← zero P e
      let xt ← argTypes[1]?
      match ← args1 σ.tmps args.toList with
      | [.sl b z' q o' n c, x] => do
        let (k, new) ← partsA P σ.h xt x z y zz
        let vs ← litsOf σ.h.giv.cfg.rules σ.pc new
        match σ.h.bs[b]? with
        | some (.row r t ks rn rc) =>
          if zz.cells.length = z && z' = z && ks.length = z && z ≠ 0 && new.length = k * z && q = .lit 0 && o' = .lit 0 && sameI σ.h.giv.cfg.rules σ.pc n rn && sameI σ.h.giv.cfg.rules σ.pc c rc &&
              vs.map (·.1) = (List.replicate k ks).flatten && leB σ.h.giv.cfg.rules σ.pc (IE.mkOff n (.lit (k : Nat))) c then
            some (.sl b z (.lit 0) (.lit 0) (IE.mkOff n (.lit (k : Nat))) c, { σ.h with bs := σ.h.bs.set b (.row (.cat r (.lits vs)) t ks (IE.mkOff n (.lit (k : Nat))) c) })
          else none
        | _ => none
      | _ => none
    | _ => none
  | _ => none
/-- A whole row over one's own row of the same length. -/
def symOver (P : Program) (σ : St) (o : Oper) : Option (AV × Hp) :=
  match o.op with
  | .call { callee := .builtin .copy, args, argTypes } => do
    let t ← argTypes[0]?
    match P.underlying t with
    | some (.slice e) => do
      let z ← size P e
      match ← args1 σ.tmps args.toList with
      | [.sl b z1 q1 o1 n1 _, .sl b2 z2 q2 o2 n2 _] => do
        let (r, ks2, m, q') ← rowOf σ.h b2
        match σ.h.bs[b]? with
        | some (.row _ t' ks rn rc) =>
          if q1 = .lit 0 && o1 = .lit 0 && q2 = q' && o2 = .lit 0 && Nat.beq z1 z && Nat.beq z2 z && Nat.beq ks.length z && ks2 = ks && sameI σ.h.giv.cfg.rules σ.pc n1 rn && sameI σ.h.giv.cfg.rules σ.pc n2 m && sameI σ.h.giv.cfg.rules σ.pc n1 n2 then
            some (.int .i64 n1, { σ.h with bs := σ.h.bs.set b (.row (.row r) t' ks rn rc) })
          else none
        | _ => none
      | _ => none
    | _ => none
  | _ => none
/-- An operation that writes into one's own row. -/
def symApp (P : Program) (σ : St) (o : Oper) : Option (AV × Hp) :=
  match symOver P σ o with
  | some r => some r
  | none => symAppA P σ o
/-- A row of none behind nothing is nothing. -/
def symNil (P : Program) (σ : St) (o : Oper) : Option AV :=
  match o.op with
  | .call { callee := .builtin .append, args, argTypes } => do
    let st ← argTypes[0]?
    let xt ← argTypes[1]?
    match P.underlying st, P.underlying xt with
    | some (.slice e), some (.slice _) => do
      let _ ← size P e
      match ← args1 σ.tmps args.toList with
      | [.nilSlice, .sl _ _ _ _ n _] => if sameI σ.h.giv.cfg.rules σ.pc n (.lit 0) then some .nilSlice else none
      | _ => none
    | _, _ => none
  | _ => none
/-- A whole row behind nothing: a new row, whose room is not known. -/
def symCopy (P : Program) (σ : St) (o : Oper) : Option St :=
  match o.op with
  | .call { callee := .builtin .append, args, argTypes } => do
    let st ← argTypes[0]?
    let xt ← argTypes[1]?
    match P.underlying st, P.underlying xt with
    | some (.slice e), some (.slice _) => do
      let z ← size P e
      let y ← bytes P e
      let zz ← zero P e
      match ← args1 σ.tmps args.toList with
      | [.nilSlice, .sl b z' q o' n _] => do
        let (r, ks, m, q') ← rowOf σ.h b
        if q = q' && o' = .lit 0 && z' = z && ks.length = z && zz.cells.length = z && decide (y ≤ 131072) && sameI σ.h.giv.cfg.rules σ.pc n m && leB σ.h.giv.cfg.rules σ.pc n (.lit 1073741824) && leB σ.h.giv.cfg.rules σ.pc (.lit 1) n then
          some ({ σ with h := { bs := σ.h.bs ++ [AObj.row (.row r) e ks n (.fv σ.h.giv.nv)], nk := σ.h.nk, giv := { σ.h.giv with nv := σ.h.giv.nv + 1 } }, pc := .not (.cmp .lss (.fv σ.h.giv.nv) n) :: σ.pc }.put o.dst (.sl σ.h.bs.length z (.lit 0) (.lit 0) n (.fv σ.h.giv.nv)))
        else none
      | _ => none
    | _, _ => none
  | _ => none
/-- What a block has of a row. -/
def rowX (h : Hp) (b : Nat) : Option (RX × List CK × IE × IE) :=
  match h.bs[b]? with
  | some (.row x _ ks n _) => some (x, ks, n, .lit 0)
  | some (.grow r _ ks n _ q) => some (.row r, ks, n, q)
  | _ => none
/-- A part of a row. -/
def partX (rs : List Rule) (pc : List BE) (z : Nat) (x : RX) (o n m : IE) : Option RX :=
  if o = .lit 0 && sameI rs pc n m then some x
  else if leB rs pc (IE.plus o n) m then some (.sub x (IE.mkLin o z 0) (IE.mkLin n z 0))
  else none
/-- What is appended: which cells, of how many. -/
def newOf (P : Program) (rs : List Rule) (pc : List BE) (h : Hp) (xt : TypeId) (x : AV) (z y : Nat) (zz : AV) (ks : List CK) : Option (RX × IE) :=
  match x with
  | .sl b z' q o n _ =>
    match P.underlying xt with
    | some (.slice _) => do
      let (rx, ks', m, q') ← rowX h b
      if q = q' && ks' = ks && Nat.beq z' z then (partX rs pc z rx o n m).map fun r => (r, n) else none
    | _ => none
  | x => do
    let (k, new) ← partsA P h xt x z y zz
    let vs ← litsOf rs pc new
    if new.length = k * z && vs.map (·.1) = (List.replicate k ks).flatten then some (.lits vs, .lit (k : Nat)) else none
/-- Bytes that are compared. -/
def cmpRow (rs : List Rule) (pc : List BE) (h : Hp) : AV → Option RX
  | .nilSlice => some (.lits [])
  | .sl b z q o n _ => do
    let (rx, ks, m, q') ← rowX h b
    if q = q' && ks = [.int .u8] && Nat.beq z 1 then partX rs pc 1 rx o n m else none
  | _ => none
/-- Which of two rows of bytes is less: a number of which that is known. -/
def symCmp (P : Program) (σ : St) (o : Oper) : Option St :=
  match o.op with
  | .call { callee := .value f, args, .. } => do
    match ← opnd σ.tmps f with
    | .func f a b => do
      let xs ← args1 σ.tmps args.toList
      let fn ← P.funcs[f]?
      if fn.body.isNone && fn.name == "internal/bytealg.Compare" && (Extern.findNext fn).isNone then
        match a ++ xs ++ b with
        | [x, y] => do
          let r ← cmpRow σ.h.giv.cfg.rules σ.pc σ.h x
          let s ← cmpRow σ.h.giv.cfg.rules σ.pc σ.h y
          some ({ σ with h := { bs := σ.h.bs, nk := σ.h.nk, giv := { σ.h.giv with nv := σ.h.giv.nv + 1 } }, pc := ([.sys 0 (.fv σ.h.giv.nv) r s, .cmp .geq (.fv σ.h.giv.nv) (.lit (-1)), .cmp .leq (.fv σ.h.giv.nv) (.lit 1)] : List BE) ++ σ.pc }.put o.dst (.int .i64 (.fv σ.h.giv.nv)))
        | _ => none
      else none
    | _ => none
  | _ => none
/-- A letter of a text. -/
def letter (x : TX) (i : Nat) : Option IE :=
  match x with
  | .fv s => some (.chr s (.lit i))
  | _ => none
/-- The next letter of a text; one that is no byte by itself is told as one that is 128 at least, and then nothing more is known. -/
def symNext (σ : St) (o : Oper) : Option St :=
  match o.op with
  | .next it true =>
    match opnd σ.tmps it with
    | some (.ptr b 0) =>
      match σ.h.bs[b]? with
      | some (.txtIter x pos) =>
        match lenX σ.h.giv.cfg.rules σ.pc x, letter x pos with
        | some n, some c =>
          if leB σ.h.giv.cfg.rules σ.pc n (.lit pos) then some (σ.put o.dst (.tuple [.bool (.lit false)]))
          else if ltB σ.h.giv.cfg.rules σ.pc (.lit pos) n then
            if ltB σ.h.giv.cfg.rules σ.pc c (.lit 128) then
              some ({ σ with h := { bs := σ.h.bs.set b (.txtIter x (pos + 1)), nk := σ.h.nk, giv := σ.h.giv } }.put o.dst (.tuple [.bool (.lit true), .int .i64 (.lit pos), .int .i32 c]))
            else if leB σ.h.giv.cfg.rules σ.pc (.lit 128) c then
              some ({ σ with h := { bs := σ.h.bs.set b .free, nk := σ.h.nk, giv := { σ.h.giv with nv := σ.h.giv.nv + 1 } }, pc := ([.cmp .geq (.fv σ.h.giv.nv) (.lit 128), .cmp .leq (.fv σ.h.giv.nv) (.lit 1114111)] : List BE) ++ σ.pc }.put o.dst (.tuple [.bool (.lit true), .int .i64 (.lit pos), .int .i32 (.fv σ.h.giv.nv)]))
            else none
          else none
        | _, _ => none
      | _ => none
    | _ => none
  | _ => none
def growSt (σ : St) (dst : Option Tmp) (fb : Option Nat) (rx : RX) (k : IE) (e : TypeId) (ks : List CK) (z : Nat) : St :=
  { σ with h := { bs := (match fb with | some b => σ.h.bs.set b .free | none => σ.h.bs) ++ [AObj.row (.row σ.h.giv.nv) e ks k (.fv (σ.h.giv.nv + 1))], nk := σ.h.nk, giv := { σ.h.giv with nv := σ.h.giv.nv + 2 } },
           pc := ([BE.isrow σ.h.giv.nv rx, BE.not (BE.cmp .lss (.fv (σ.h.giv.nv + 1)) k), BE.rlen (.row σ.h.giv.nv) (IE.mkLin k ks.length 0)] : List BE) ++ σ.pc }.put dst (.sl σ.h.bs.length z (.lit 0) (.lit 0) k (.fv (σ.h.giv.nv + 1)))
/-- A text's bytes, as a new row. -/
def symTxt (P : Program) (σ : St) (dst : Option Tmp) (e : TypeId) (t : TX) : Option St :=
  match P.underlying e with
  | some (.int .u8) => (lenX σ.h.giv.cfg.rules σ.pc t).map fun n => growSt σ dst none (.txt t) n e [.int .u8] 1
  | _ => none
/-- Behind nothing, or behind one's own row: a row of which it is not said where it is, nor how much room it has. -/
def symGrow (P : Program) (σ : St) (o : Oper) : Option St :=
  match o.op with
  | .call { callee := .builtin .append, args, argTypes } =>
    if !σ.h.giv.cfg.grow then none else do
    let st ← argTypes[0]?
    let xt ← argTypes[1]?
    match P.underlying st with
    | some (.slice e) => do
      let z ← size P e
      let y ← bytes P e
      let zz ← zero P e
      let cs ← litsOf [] [] zz.cells
      if !(zz.cells.length = z && z ≠ 0 && decide (y ≤ 131072)) then none else
      match ← args1 σ.tmps args.toList with
      | [s, x] => do
        let (rx, k) ← newOf P σ.h.giv.cfg.rules σ.pc σ.h xt x z y zz (cs.map (·.1))
        match s with
        | .nilSlice => if leB σ.h.giv.cfg.rules σ.pc (.lit 1) k && leB σ.h.giv.cfg.rules σ.pc k (.lit 1073741824) then some (growSt σ o.dst none rx k e (cs.map (·.1)) z) else none
        | .sl b z' q o' n c =>
          match σ.h.bs[b]? with
          | some (.row r t ks rn rc) =>
            if t = e && ks = cs.map (·.1) && Nat.beq z' z && q = .lit 0 && o' = .lit 0 && sameI σ.h.giv.cfg.rules σ.pc n rn && sameI σ.h.giv.cfg.rules σ.pc c rc && leB σ.h.giv.cfg.rules σ.pc (IE.plus n k) (.lit 1073741824) then
              some (growSt σ o.dst (some b) (.cat r rx) (IE.plus n k) e ks z)
            else none
          | _ => none
        | _ => none
      | _ => none
    | _ => none
  | .convert src dst x =>
    if !σ.h.giv.cfg.grow then none else do
    match P.underlying src, P.underlying dst, ← opnd σ.tmps x with
    | some _, some (.slice e), .txt t => symTxt P σ o.dst e t
    | some _, some (.slice e), .strv i => symTxt P σ o.dst e (.rig i)
    | _, _, _ => none
  | .buildSlice _ _ _ =>
    if !σ.h.giv.cfg.grow then none else
    match allocA P σ.tmps σ.h.bs.length σ.h.nk o with
    | some (.slice b 0 len (.known cap), .cells c e none _, 0) => do
      let z ← size P e
      let zz ← zero P e
      let ks ← litsOf [] [] zz.cells
      let vs ← litsOf σ.h.giv.cfg.rules σ.pc (c.filterMap id)
      if Nat.beq b σ.h.bs.length && Nat.beq len cap && Nat.beq c.length (len * z) && Nat.beq vs.length c.length && Nat.beq ks.length z && z ≠ 0 && vs.map (·.1) = (List.replicate len (ks.map fun (p : CK × IE) => p.1)).flatten then
        some ({ σ with h := { bs := σ.h.bs ++ [AObj.row (.lits vs) e (ks.map fun (p : CK × IE) => p.1) (.lit (len : Nat)) (.lit (len : Nat))], nk := σ.h.nk, giv := σ.h.giv } }.put o.dst (.sl b z (.lit 0) (.lit 0) (.lit (len : Nat)) (.lit (len : Nat))))
      else none
    | _ => none
  | _ => none
/-- A store at a place of one's own row. -/
def symStore (P : Program) (σ : St) (o : Oper) : Option Hp :=
  match o.op with
  | .store t x y => do
    match ← opnd σ.tmps x with
    | .ptrs b z q i off => do
      let v ← opnd σ.tmps y
      let m ← size P t
      let vs ← litsOf σ.h.giv.cfg.rules σ.pc v.cells
      match σ.h.bs[b]? with
      | some (.row r te ks n c) =>
        if q = .lit 0 && Nat.beq ks.length z && Nat.beq v.cells.length m && decide (off + m ≤ z) && leB σ.h.giv.cfg.rules σ.pc (.lit 0) i && ltB σ.h.giv.cfg.rules σ.pc i n && vs.map (·.1) = (ks.drop off).take m then
          some { σ.h with bs := σ.h.bs.set b (.row (.set r (IE.mkLin i z off) (.lits vs)) te ks n c) }
        else none
      | _ => none
    | _ => none
  | _ => none
/-- The block that an operation reads, if its row has no name. -/
def unnamed (σ : St) (o : Oper) : Option (Nat × RX × TypeId × List CK × IE × IE) :=
  match o.op with
  | .load _ a => do
    match ← opnd σ.tmps a with
    | .ptrs b _ _ _ _ =>
      match σ.h.bs[b]? with
      | some (.row (.row _) _ _ _ _) => none
      | some (.row r t ks n c) => some (b, r, t, ks, n, c)
      | _ => none
    | _ => none
  | .convert _ _ x => do
    match ← opnd σ.tmps x with
    | .sl b _ _ _ _ _ =>
      match σ.h.bs[b]? with
      | some (.row (.row _) _ _ _ _) => none
      | some (.row r t ks n c) => some (b, r, t, ks, n, c)
      | _ => none
    | _ => none
  | _ => none
/-- It gets one. -/
def naming (σ : St) (o : Oper) : Option St :=
  match unnamed σ o with
  | some (b, r, t, ks, n, c) => some { σ with h := { bs := σ.h.bs.set b (.row (.row σ.h.giv.nv) t ks n c), nk := σ.h.nk, giv := { σ.h.giv with nv := σ.h.giv.nv + 1 } }, pc := ([BE.isrow σ.h.giv.nv r, BE.rlen (.row σ.h.giv.nv) (IE.mkLin n ks.length 0)] : List BE) ++ σ.pc }
  | none => none
/-- What is done where all else does not serve. -/
def symOp (P : Program) (o : Oper) (σ : St) : Option (List St) :=
  match symPure P σ.h.giv.cfg.rules σ.pc σ.tmps o with
  | some v => some [σ.put o.dst v]
  | none =>
    match symRead P σ.h.giv.cfg.rules σ.pc σ.tmps σ.h o with
    | some (v, _) => some [(σ.gain v).put o.dst v]
    | none =>
      match symBytes P σ o with
      | some v => some [σ.put o.dst v]
      | none =>
        match symNew P σ o with
        | some (v, ob) => some [{ σ with h := { bs := σ.h.bs ++ [ob], nk := σ.h.nk, giv := σ.h.giv } }.put o.dst v]
        | none =>
          match symApp P σ o with
          | some (v, h) => some [{ σ with h }.put o.dst v]
          | none =>
            match symNil P σ o with
            | some v => some [σ.put o.dst v]
            | none =>
              match symCopy P σ o with
              | some σ => some [σ]
              | none =>
               match symCmp P σ o with
               | some σ => some [σ]
               | none =>
               match symNext σ o with
               | some σ => some [σ]
               | none =>
                match naming σ o with
                | some σ =>
                  match symRead P σ.h.giv.cfg.rules σ.pc σ.tmps σ.h o with
                  | some (v, _) => some [(σ.gain v).put o.dst v]
                  | none => none
                | none => none

def doOp (P : Program) (call : CallF) (o : Oper) (σ : St) : Option (List St) :=
  match o.op with
  | .panic x => do
    match ← opnd σ.tmps x with
    | .iface t v => some [{ σ with pan := some (.iface t v) }]
    | _ => none
  | .pick c x y => do
    match ← opnd σ.tmps c with
    | .bool b => split σ b (fun σ => (opnd σ.tmps x).map fun v => [σ.put o.dst v]) (fun σ => (opnd σ.tmps y).map fun v => [σ.put o.dst v])
    | _ => none
  | _ =>
    match symGrow P σ o with
    | some σ' => some [σ']
    | none =>
    match aopPure P σ.tmps o with
    | some v => some [σ.put o.dst (v.tidyAt o σ.h.giv.cfg.rules σ.pc)]
    | none =>
    match allocA P σ.tmps σ.h.bs.length σ.h.nk o with
    | some (v, ob, n) => some [{ σ with h := { bs := σ.h.bs ++ [ob], nk := σ.h.nk + n, giv := σ.h.giv } }.put o.dst v]
    | none =>
      match aopMem P σ.tmps σ.h o with
      | some (.value v h) => some [{ σ with h }.put o.dst v]
      | some (.skip h) => some [{ σ with h }.put o.dst undefA]
      | some (.enter f args h) => (call false f args h σ.pc).map fun l => l.map fun (v, h, pc) => { σ with h, pc }.land o.dst v
      | none =>
        match aopMany P σ.tmps σ.h o with
        | some l => some (l.map fun (v, h) => { σ with h }.put o.dst (v.getD undefA))
        | none =>
          match capSplit σ o with
          | some l => some l
          | none =>
            match minSplit σ o with
            | some l => some l
            | none =>
              match sameSplit P σ o with
              | some l => some l
              | none =>
                match symStore P σ o with
                | some h => some [{ σ with h }.put o.dst undefA]
                | none => symOp P o σ

/-! The same, for what is done most: small steps first. -/
def intOp (op : BinOp) (k k' : IntKind) (a b : IE) : Option AV :=
  match op with
  | .shl | .shr => (IE.mkBin op k a b).map (.int k)
  | .add | .sub | .mul | .quo | .rem | .and | .or | .xor | .andNot => if k = k' then (IE.mkBin op k a b).map (.int k) else none
  | _ => if k = k' then (BE.mkCmp op a b).map .bool else none
def exFast (tmps : List AV) (t : Operand) (i : Nat) : Option AV :=
  match opnd tmps t with
  | some (.tuple vs) => vs[i]?
  | _ => none
def faFast (P : Program) (tmps : List AV) (t : TypeId) (x : Operand) (f : Nat) : Option AV :=
  match opnd tmps x with
  | some v => fieldAddrA P t v f
  | none => none
def binFast (tmps : List AV) (op : BinOp) (x y : Operand) : Option AV :=
  match opnd tmps x with
  | some (.int k a) =>
    match opnd tmps y with
    | some (.int k' b) => intOp op k k' a b
    | _ => none
  | _ => none
def ixFast (P : Program) (tmps : List AV) (t : TypeId) (x i : Operand) : Option AV :=
  match opnd tmps x with
  | some v =>
    match opnd tmps i with
    | some w => indexAddrA P t v w
    | none => none
  | none => none
/-- What asks nothing of memory. -/
def pureFast (P : Program) (tmps : List AV) (op : Op) : Option AV :=
  match op with
  | .move x => opnd tmps x
  | .assign x => opnd tmps x
  | .extract t i => exFast tmps t i
  | .fieldAddr t x f => faFast P tmps t x f
  | .binOp op _ x y _ => binFast tmps op x y
  | .indexAddr t x i => ixFast P tmps t x i
  | _ => none
def loadFast (P : Program) (o : Oper) (σ : St) (t : TypeId) (a : Operand) : Option (List St) :=
  match opnd σ.tmps a with
  | some (.ptr b q) =>
    match loadV P σ.h t b q with
    | some v => some [{ σ with h := σ.h }.put o.dst v]
    | none => none
  | some (.ptrs _ _ _ _ _) =>
    match symRead P σ.h.giv.cfg.rules σ.pc σ.tmps σ.h o with
    | some (v, _) => some [(σ.gain v).put o.dst v]
    | none => none
  | _ => none
def storeFast (P : Program) (o : Oper) (σ : St) (t : TypeId) (a x : Operand) : Option (List St) :=
  match opnd σ.tmps x with
  | some v =>
    match opnd σ.tmps a with
    | some (.ptr b q) =>
      match storeV P σ.h t b q v with
      | some h => some [{ σ with h }.put o.dst undefA]
      | none => none
    | some (.ptrs _ _ _ _ _) =>
      match symStore P σ o with
      | some h => some [{ σ with h }.put o.dst undefA]
      | none => none
    | _ => none
  | none => none
def doFast (P : Program) (o : Oper) (σ : St) : Option (List St) :=
  match o.op with
  | .load t a => loadFast P o σ t a
  | .store t a x => storeFast P o σ t a x
  | op =>
    match pureFast P σ.tmps op with
    | some v => some [σ.put o.dst (v.tidyAt o σ.h.giv.cfg.rules σ.pc)]
    | none => none
def doOpF (P : Program) (call : CallF) (o : Oper) (σ : St) : Option (List St) :=
  match doFast P o σ with
  | some l => some l
  | none => doOp P call o σ

/-- Whether an operation is to be done at all. -/
def guarded {α : Type} (ops : Array Oper) (o : Oper) (σ : St) (yes no : St → Option (List α)) : Option (List α) :=
  match o.guard with
  | none => yes σ
  | some (j, want) =>
    match ((ops[j]?).bind (·.dst)).bind (σ.tmps[·]?) with
    | some (.bool b) => if want then split σ b yes no else split σ b no yes
    | some v => if v.isPoison then none else no σ
    | none => no σ

/-- Is it a call of a 'yield'? -/
def yieldOf (tmps : List AV) (o : Oper) : Option (Nat × List AV) :=
  match o.op with
  | .call { callee := .value f, args, .. } => do
    match ← opnd tmps f with
    | .yield b =>
      let xs ← args1 tmps args.toList
      pure (b, xs)
    | _ => none
  | _ => none

/-- A call that is deferred. -/
def deferOf (tmps : List AV) (o : Oper) : Option Mark :=
  match o.op with
  | .defer { callee := .value f, args, .. } => do
    match ← opnd tmps f with
    | .func g a b =>
      let xs ← args1 tmps args.toList
      pure (.call g (a ++ xs) b)
    | _ => none
  | _ => none

/-- An operation where its order is not drawn: a 'yield' may be called, a call deferred (where no round of a range stands: 'ro'). -/
def doOpY (P : Program) (call : CallF) (ro : Option Nat) (o : Oper) (σ : St) : Option (List St) :=
  match deferOf σ.tmps o with
  | some m => if ro.isNone then some [{ σ with marks := m :: σ.marks }.put o.dst undefA] else none
  | none =>
  match yieldOf σ.tmps o with
  | some (b, xs) => (call true b xs σ.h σ.pc).map fun l => l.map fun (v, h, pc) => { σ with h, pc }.land o.dst v
  | none => doOpF P call o σ

def runOps (P : Program) (call : CallF) (ro : Option Nat) (ops : Array Oper) : List Oper → St → Option (List St)
  | [], σ => some [σ]
  | o :: r, σ =>
    σ.opened fun σ => guarded ops o σ (fun σ => do
      let l ← doOpY P call ro o σ
      each (fun σ => if σ.pan.isSome then some [σ] else runOps P call ro ops r σ) l) (fun σ => runOps P call ro ops r (σ.put o.dst undefA))

/-! ### Regions whose order is drawn -/

mutual
def AV.beq : AV → AV → Bool
  | .bool a, .bool b => a = b
  | .int k a, .int l b => k = l && a = b
  | .str a, .str b => a = b
  | .strv a, .strv b => a = b
  | .txt a, .txt b => a = b
  | .sl a z q o n c, .sl a' z' q' o' n' c' => a = a' && z = z' && q = q' && o = o' && n = n' && c = c'
  | .ptrs a z q o n, .ptrs a' z' q' o' n' => a = a' && z = z' && q = q' && o = o' && n = n'
  | .nilPtr, .nilPtr | .nilSlice, .nilSlice | .nilMap, .nilMap | .nilFunc, .nilFunc | .nilIface, .nilIface => true
  | .ptr a b, .ptr c d => a = c && b = d
  | .slice a b c (.known n), .slice d e f (.known m) => a = d && b = e && c = f && n = m
  | .slice a b c (.var n p), .slice d e f (.var m q) => a = d && b = e && c = f && n = m && p = q
  | .capv a b, .capv c d => a = c && b = d
  | .glob a b, .glob c d => a = c && b = d
  | .map a, .map b => a = b
  | .func f a b, .func g c d => f = g && AV.beqL a c && AV.beqL b d
  | .iface t a, .iface u b => t = u && AV.beq a b
  | .agg a, .agg b => AV.beqL a b
  | .tuple a, .tuple b => AV.beqL a b
  | _, _ => false
def AV.beqL : List AV → List AV → Bool
  | [], [] => true
  | a :: r, b :: s => AV.beq a b && AV.beqL r s
  | _, _ => false
end

def keeps (h : Hp) : Held → Bool
  | [] => true
  | (b, o, .inl v) :: r => (match h.cell? b o with | some u => AV.beq u v | none => false) && keeps h r
  | (b, q, .inr k) :: r => (match rowOf h b with | some (q', _, _, k') => Nat.beq q' q && decide (k' = k) | none => false) && keeps h r

def heldFrom (b o : Nat) : List AV → Held
  | [] => []
  | v :: r => (b, o, .inl v) :: heldFrom b (o + 1) r

/-- A load, and what it leans on. -/
def aopLoad (P : Program) (tmps : List AV) (h : Hp) (o : Oper) : Option (AV × Held) :=
  match o.op with
  | .load t a => do
    match ← opnd tmps a with
    | .ptr b o =>
      if ← isAggT P t then
        let n ← size P t
        let l ← loadFrom h b o n
        pure (.agg l, heldFrom b o l)
      else
        let v ← h.cell? b o
        pure (v, [(b, o, .inl v)])
    | .glob g o => do
      let b ← spotIn g h.giv.l 0
      if ← isAggT P t then
        let n ← size P t
        let l ← loadFrom h b o n
        pure (.agg l, heldFrom b o l)
      else
        let v ← h.cell? b o
        pure (v, [(b, o, .inl v)])
    | _ => none
  | .convert src dst x => do
    match P.underlying src, P.underlying dst, ← opnd tmps x with
    | some (.slice e), some .string, .slice b o n _ =>
      match P.underlying e with
      | some (.int .u8) => do
        let l ← loadFrom h b o n
        let s ← byteCells l
        pure (.str s, heldFrom b o l)
      | _ => none
    | _, _, _ => none
  | _ => none

/-- Is it known whether an operation is to be done? -/
def gate (ops : Array Oper) (o : Oper) (σ : St) : Option Bool :=
  match o.guard with
  | none => some true
  | some (j, want) =>
    match ((ops[j]?).bind (·.dst)).bind (σ.tmps[·]?) with
    | some (.bool b) => (truthR σ.h.giv.cfg.rules σ.pc b).map (· == want)
    | some v => if v.isPoison then none else some false
    | none => some false

inductive Take where
  | idle                         -- it is not to be done
  | val (v : AV) (F : Held)      -- it yields that
  | pick (b : BE) (x y : AV)     -- it yields the one or the other

/-- An operation that may as well be taken first. -/
def takeOf (P : Program) (ops : Array Oper) (o : Oper) (σ : St) : Option Take :=
  match gate ops o σ with
  | none => none
  | some false => some .idle
  | some true =>
    match o.op with
    | .pick c x y =>
      match opnd σ.tmps c, opnd σ.tmps x, opnd σ.tmps y with
      | some (.bool (.lit b)), some x, some y => some (.val (if b then x else y) [])
      | some (.bool b), some x, some y => some (.pick b x y)
      | _, _, _ => none
    | _ =>
      match aopPure P σ.tmps o with
      | some v => some (.val (v.tidyAt o σ.h.giv.cfg.rules σ.pc) [])
      | none =>
        match aopLoad P σ.tmps σ.h o with
        | some (v, F) => some (.val v F)
        | none =>
          match symPure P σ.h.giv.cfg.rules σ.pc σ.tmps o with
          | some v => some (.val v [])
          | none => (symRead P σ.h.giv.cfg.rules σ.pc σ.tmps σ.h o).map fun (v, F) => .val v F

def takeFast (P : Program) (o : Oper) (σ : St) : Option Take :=
  match o.op with
  | .load _ a =>
    match opnd σ.tmps a with
    | some (.ptr _ _) => (aopLoad P σ.tmps σ.h o).map fun (v, F) => .val v F
    | some (.ptrs _ _ _ _ _) => (symRead P σ.h.giv.cfg.rules σ.pc σ.tmps σ.h o).map fun (v, F) => .val v F
    | _ => none
  | op =>
    match pureFast P σ.tmps op with
    | some v => some (.val (v.tidyAt o σ.h.giv.cfg.rules σ.pc) [])
    | none => none
def takeF (P : Program) (ops : Array Oper) (o : Oper) (σ : St) : Option Take :=
  match gate ops o σ with
  | none => none
  | some false => some .idle
  | some true =>
    match takeFast P o σ with
    | some t => some t
    | none => takeOf P ops o σ
/-! Which operations are ready, and which may be taken first: by numbers whose bits tell of each. -/
def bitsOf : List Bool → Nat
  | [] => 0
  | true :: r => Nat.add (Nat.mul 2 (bitsOf r)) 1
  | false :: r => Nat.mul 2 (bitsOf r)
def bit (m i : Nat) : Bool := Nat.beq (Nat.mod (Nat.shiftRight m i) 2) 1
def inBits (c m : Nat) : Bool := Nat.beq (Nat.land c m) c
def onBits : List Edge → Nat
  | [] => 0
  | e :: r =>
    match Region.binds .any e with
    | true => Nat.lor (Nat.pow 2 e.on) (onBits r)
    | false => onBits r
def readyGo (m : Nat) : List Oper → Nat → List Nat
  | [], _ => []
  | o :: r, i =>
    match bit m i with
    | true => readyGo m r (Nat.succ i)
    | false =>
      match inBits (onBits o.after.toList) m with
      | true => i :: readyGo m r (Nat.succ i)
      | false => readyGo m r (Nat.succ i)
def readyF (ops : Array Oper) (listed : Array Bool) : List Nat :=
  match Nat.beq listed.size ops.size with
  | true => readyGo (bitsOf listed.toList) ops.toList 0
  | false => Region.ready .any ops listed
/-- The slots that these are. -/
def slotBits : List Operand → Nat
  | [] => 0
  | .tmp t :: r => Nat.lor (Nat.pow 2 t) (slotBits r)
  | .const _ :: r => slotBits r
  | .global _ :: r => slotBits r
  | .func _ :: r => slotBits r
def looksBits (ops : Array Oper) (o : Oper) : Nat :=
  match o.guard with
  | none => slotBits o.op.operands.toList
  | some (g, _) =>
    match (ops[g]?).bind (·.dst) with
    | some d => Nat.lor (Nat.pow 2 d) (slotBits o.op.operands.toList)
    | none => slotBits o.op.operands.toList
def apartB (ops : Array Oper) (x y : Oper) : Bool :=
  match x.dst with
  | none =>
    match y.dst with
    | none => true
    | some e => !bit (looksBits ops x) e
  | some d =>
    match y.dst with
    | none => !bit (looksBits ops y) d
    | some e => !bit (looksBits ops y) d && (!Nat.beq e d && !bit (looksBits ops x) e)
def waitsOn (i : Nat) : List Edge → Bool
  | [] => false
  | e :: r =>
    match Nat.beq e.on i with
    | true => Region.binds .any e || waitsOn i r
    | false => waitsOn i r
def clashes (ops : Array Oper) (oi : Oper) (i j : Nat) (oj : Oper) : Bool :=
  match Nat.beq j i with
  | true => false
  | false =>
    match apartB ops oi oj with
    | true => false
    | false => !waitsOn i oj.after.toList
def clashGo (ops : Array Oper) (oi : Oper) (i : Nat) : List Oper → Nat → Nat
  | [], _ => 0
  | oj :: r, j =>
    match clashes ops oi i j oj with
    | true => Nat.lor (Nat.pow 2 j) (clashGo ops oi i r (Nat.succ j))
    | false => clashGo ops oi i r (Nat.succ j)
def freeF (ops : Array Oper) (listed : Array Bool) (i : Nat) : Bool :=
  match Nat.beq listed.size ops.size with
  | true =>
    match ops[i]? with
    | some oi => inBits (clashGo ops oi i ops.toList 0) (bitsOf listed.toList)
    | none => false
  | false => Region.free .any ops listed i

def freeOne (P : Program) (ops : Array Oper) (listed : Array Bool) (σ : St) : List Nat → Option (Nat × Oper × Take)
  | [] => none
  | i :: r =>
    match ops[i]? with
    | some o =>
      if freeF ops listed i then
        match takeF P ops o σ with
        | some t => some (i, o, t)
        | none => freeOne P ops listed σ r
      else freeOne P ops listed σ r
    | none => freeOne P ops listed σ r

/-- What is held, each until one of some operations has come up. -/
abbrev Tags := List (Held × List Nat)
def untagged (i : Nat) (S : Tags) : Bool := S.all fun t => !t.2.contains i
/-- Of those that nothing holds back. -/
def freeOneU (P : Program) (ops : Array Oper) (listed : Array Bool) (S : Tags) (σ : St) : List Nat → Option (Nat × Oper × Take)
  | [] => none
  | i :: r =>
    match untagged i S with
    | false => freeOneU P ops listed S σ r
    | true =>
    match ops[i]? with
    | some o =>
      if freeF ops listed i then
        match takeF P ops o σ with
        | some t => some (i, o, t)
        | none => freeOneU P ops listed S σ r
      else freeOneU P ops listed S σ r
    | none => freeOneU P ops listed S σ r

/-- A text that is not known. -/
def txOfU : AV → Option TX
  | .txt t => some t
  | .strv i => some (.rig i)
  | _ => none
/-- A text's bytes, as a new row whose capacity is an unknown that comes up. -/
def layT (P : Program) (rs : List Rule) (pc : List BE) (tmps : List AV) (b nv : Nat) (o : Oper) : Option (AV × AObj) :=
  match o.op with
  | .convert src dst x => do
    let v ← opnd tmps x
    let t ← txOfU v
    match P.underlying src, P.underlying dst with
    | some _, some (.slice e) =>
      match P.underlying e with
      | some (.int .u8) => (lenX rs pc t).map fun n => (.sl b 1 (.lit 0) (.lit 0) n (.fv nv), .row (.txt t) e [.int .u8] n (.fv nv))
      | _ => none
    | _, _ => none
  | _ => none

/-- One new block, of known or unknown size. -/
def allocN (P : Program) (rs : List Rule) (pc : List BE) (tmps : List AV) (b k : Nat) (o : Oper) : Option (AV × AObj × Nat) :=
  match allocA P tmps b k o with
  | some r => some r
  | none => (newA P rs pc tmps b o).map fun (v, ob) => (v, ob, 0)
/-- Does it lay a new block, and no more? -/
def lays (P : Program) (ops : Array Oper) (σ : St) (i : Nat) : Bool :=
  match ops[i]? with
  | some o => o.dst.isSome && decide (o.dst.getD 0 < σ.tmps.length) && (gate ops o σ == some true) && ((allocN P σ.h.giv.cfg.rules σ.pc σ.tmps 0 0 o).isSome || (layT P σ.h.giv.cfg.rules σ.pc σ.tmps 0 0 o).isSome) && !((o.looksAt ops).contains (o.dst.getD 0)) && (aopPure P σ.tmps o).isNone
  | none => false

def listAll (listed : Array Bool) : List Nat → Array Bool
  | [] => listed
  | i :: r => listAll (listed.setIfInBounds i true) r

/-- Two operations that do not touch what the other one looks at. -/
def apart2 (ops : Array Oper) (i j : Nat) : Bool :=
  match ops[i]?, ops[j]? with
  | some x, some y => x.apart ops y && y.apart ops x
  | _, _ => false

def allApart (ops : Array Oper) : List Nat → Bool
  | [] => true
  | i :: r => r.all (apart2 ops i ·) && allApart ops r

def keepsT (h : Hp) (L : Array Bool) : Tags → Bool
  | [] => true
  | (F, D) :: r => (D.any (fun j => L.getD j false) || keeps h F) && keepsT h L r

/-- An operation that is never taken first. -/
def strong (o : Oper) : Bool :=
  match o.op with
  | .store _ _ _ => true
  | .mapUpdate _ _ _ _ => true
  | .call { callee := .value _, .. } => true
  | .call { callee := .builtin .append, .. } => true
  | .call { callee := .builtin .copy, .. } => true
  | _ => false

/-- Those behind it: each waits for it, or for another one of them. -/
def behind (ops : Array Oper) (L : Array Bool) (i : Nat) : List Nat → List Nat → List Nat
  | [], V => V
  | j :: r, V => match ops[j]? with
    | some o => if !L.getD j true && o.after.any (fun e => Region.binds .any e && (e.on == i || V.contains e.on)) then behind ops L i r (j :: V) else behind ops L i r V
    | none => behind ops L i r V

/-- Those that wait for it, and are never taken first. -/
def waiters (ops : Array Oper) (L : Array Bool) (i : Nat) : List Nat :=
  (behind ops L i (List.range ops.size) []).filter fun j => match ops[j]? with
    | some o => strong o
    | none => false

def addTag (ops : Array Oper) (L : Array Bool) (i : Nat) (F : Held) (S : Tags) : Tags :=
  match F with
  | [] => S
  | f :: F => (f :: F, waiters ops L i) :: S


/-- The first test, not decided, on which it hangs whether one of these is to be done. -/
def openGate (ops : Array Oper) (σ : St) : List Nat → Option BE
  | [] => none
  | i :: r =>
    match (ops[i]?).bind (·.guard) with
    | some (j, _) =>
      match ((ops[j]?).bind (·.dst)).bind (σ.tmps[·]?) with
      | some (.bool b) => if (truthR σ.h.giv.cfg.rules σ.pc b).isNone && b.upto σ.h.giv.nv then some b else openGate ops σ r
      | _ => openGate ops σ r
    | none => openGate ops σ r

/-- 'fl': those that may have come up already (they lay new blocks, and touch nothing that others look at). -/
def runAny (P : Program) (call : CallF) (ops : Array Oper) : Nat → Array Bool → Tags → List Nat → St → Option (List St)
  | 0, _, _, _, _ => none
  | n + 1, listed, S, fl, σ =>
    σ.opened fun σ => match readyF ops listed with
    | [] => some [σ]
    | rs =>
      match freeOneU P ops listed S σ rs with
      | some (i, o, t) =>
        if fl.contains i || !(fl.all (apart2 ops i ·)) || !untagged i S then none else
        match t with
        | .idle => runAny P call ops n (listed.setIfInBounds i true) S fl (σ.put o.dst undefA)
        | .val v F => if untagged i (addTag ops listed i F S) then runAny P call ops n (listed.setIfInBounds i true) (addTag ops listed i F S) fl ((σ.gain v).put o.dst v) else none
        | .pick b x y =>
          split σ b (fun σ => runAny P call ops n (listed.setIfInBounds i true) S fl (σ.put o.dst x)) (fun σ => runAny P call ops n (listed.setIfInBounds i true) S fl (σ.put o.dst y))
      | none =>
        let fa := rs.filter (lays P ops σ)
        match rs.filter (fun i => !lays P ops σ i) with
        | [] =>
          match fa.find? (fun i => readyF ops (listAll listed (fa.filter (· != i))) == [i]) with
          | some i =>
            if allApart ops (i :: fa.filter (· != i)) && fl.all (fun e => e == i || (fa.filter (· != i)).contains e) then
              match ops[i]? with
              | some o =>
                match allocN P σ.h.giv.cfg.rules σ.pc σ.tmps σ.h.bs.length σ.h.nk o with
                | some (v, ob, k) => runAny P call ops n (listed.setIfInBounds i true) S (fa.filter (· != i)) ({ σ with h := { bs := σ.h.bs ++ [ob], nk := σ.h.nk + k, giv := σ.h.giv } }.put o.dst v)
                | none =>
                  match layT P σ.h.giv.cfg.rules σ.pc σ.tmps σ.h.bs.length σ.h.giv.nv o with
                  | some (v, ob) => runAny P call ops n (listed.setIfInBounds i true) S (fa.filter (· != i)) ({ σ with h := { bs := σ.h.bs ++ [ob], nk := σ.h.nk, giv := { σ.h.giv with nv := σ.h.giv.nv + 1 } } }.put o.dst v)
                  | none => none
              | none => none
            else none
          | none => none
        | [i] =>
          if (readyF ops (listAll listed fa) == [i]) && allApart ops (i :: fa) && fl.all fa.contains then
            match ops[i]? with
            | some o =>
              guarded ops o σ (fun σ => do
                let l ← doOpF P call o σ
                each (fun σ => if σ.pan.isSome then (if fa.isEmpty then some [σ.spoil ops] else none) else if keepsT σ.h (listed.setIfInBounds i true) S then runAny P call ops n (listed.setIfInBounds i true) S fa σ else none) l)
                (fun σ => runAny P call ops n (listed.setIfInBounds i true) S fa (σ.put o.dst undefA))
            | none => none
          else none
        | _ =>
          match openGate ops σ rs with
          | some b => split σ b (runAny P call ops n listed S fl) (runAny P call ops n listed S fl)
          | none => none

/-- No statement in it defers a call. -/
def noDefer (ops : Array Oper) : Bool := ops.toList.all fun o => match o.op with
  | .defer _ => false
  | _ => true

/-! ### Code and calls -/

inductive AExit where
  | normal
  | exit (id : Nat)
  | goto (l : Nat)
  | ret
  | panic (v : AV)

/-- How a region is left. -/
def St.out (σ : St) : AExit × St :=
  match σ.pan with
  | some v => (.panic v, σ)
  | none => (.normal, σ)

def thenA (f : St → Option (List (AExit × St))) : List (AExit × St) → Option (List (AExit × St))
  | [] => some []
  | (.normal, σ) :: r => do
    let l ← f σ
    let m ← thenA f r
    pure (l ++ m)
  | x :: r => do
    let m ← thenA f r
    pure (x :: m)

def inBlockA (id : Nat) : List (AExit × St) → List (AExit × St)
  | [] => []
  | (.exit i, σ) :: r => (if i = id then (.normal, σ) else (.exit i, σ)) :: inBlockA id r
  | x :: r => x :: inBlockA id r

/-- Jumps into a scope's own body. -/
def gotoA (body : Code) (f : Code → St → Option (List (AExit × St))) : List (AExit × St) → Option (List (AExit × St))
  | [] => some []
  | (.goto l, σ) :: r =>
    match findLabel body l with
    | some c => do
      let l ← f c σ
      let m ← gotoA body f r
      pure (l ++ m)
    | none => do
      let m ← gotoA body f r
      pure ((.goto l, σ) :: m)
  | x :: r => do
    let m ← gotoA body f r
    pure (x :: m)

/-- The blocks for what a range over a function's rounds defer, and its record, laid. 'ro': the record of the range in whose round this one stands. -/
def enterA (h : Hp) (ro : Option Nat) (tmps : List AV) (params : Array Tmp) (assign body : Code) : Option (Hp × Nat × List Mark) :=
  if tmps.any AV.isPoison then none else
  match ro with
  | none => some ({ h with bs := h.bs ++ [AObj.deferred true, AObj.loop .ready none tmps params assign body h.bs.length] }, h.bs.length + 1, [.blk h.bs.length])
  | some b =>
    match h.bs[b]? with
    | some (.loop _ _ _ _ _ _ d) => some ({ h with bs := h.bs ++ [AObj.loop .ready none tmps params assign body d] }, h.bs.length, [])
    | _ => none

/-- A range's record, with that state and jump. -/
def setLoop (h : Hp) (b : Nat) (st : LoopState) (pend : Option Code) : Option Hp :=
  match h.bs[b]? with
  | some (.loop _ _ tmps params assign body d) => some { h with bs := h.bs.set b (.loop st pend tmps params assign body d) }
  | _ => none

/-- A jump that a round left. -/
def jumpA : Option Code → Option AExit
  | none => some .normal
  | some .ret => some .ret
  | some (.exit id) => some (.exit id)
  | some (.goto l) => some (.goto l)
  | _ => none

/-- What comes behind the call of what is ranged over. -/
def afterA (b : Nat) (σ : St) (marks : List Mark) : List (AV × Hp × List BE) → Option (List (AExit × St))
  | [] => some []
  | (v, h, pc) :: r =>
    if v.pan?.isSome then none else
    match h.bs[b]? with
    | some (.loop st pend tmps params assign body d) => do
      if st = .busy then none else
      let e ← jumpA pend
      let m ← afterA b σ marks r
      pure ((e, { σ with h := { h with bs := h.bs.set b (.loop .exhausted pend tmps params assign body d) }, pc, marks := marks ++ σ.marks }) :: m)
    | _ => none

/-! ### Loops that are gone through once, from a head that is as one has it -/

/-- Which block of what there is a head's block is. -/
def blkOf (nB : Nat) (bl : List Nat) (b : Nat) : Option Nat := if Nat.blt b nB then some b else bl[b - nB]?

mutual
def AV.sub (θ : List Th) (m nB nk : Nat) (bl : List Nat) : AV → Option AV
  | .bool b => (b.sub θ m).map .bool
  | .int k e => (e.sub θ m).map (.int k)
  | .ptr b o => (blkOf nB bl b).map (.ptr · o)
  | .slice b o n (.known c) => (blkOf nB bl b).map (.slice · o n (.known c))
  | .slice b o n (.var i c) => if Nat.blt i nk then (blkOf nB bl b).map (.slice · o n (.var i c)) else none
  | .capv i c => if Nat.blt i nk then some (.capv i c) else none
  | .map b => (blkOf nB bl b).map .map
  | .func f a b => do
    let a ← AV.subL θ m nB nk bl a
    let b ← AV.subL θ m nB nk bl b
    pure (.func f a b)
  | .iface t v => (AV.sub θ m nB nk bl v).map (.iface t)
  | .agg cs => (AV.subL θ m nB nk bl cs).map .agg
  | .tuple cs => (AV.subL θ m nB nk bl cs).map .tuple
  | .yield b => (blkOf nB bl b).map .yield
  | .txt x => (x.sub' θ m).map .txt
  | .sl b z q o n c => do
    let b ← blkOf nB bl b
    let q ← q.sub θ m
    let o ← o.sub θ m
    let n ← n.sub θ m
    let c ← c.sub θ m
    pure (.sl b z q o n c)
  | .ptrs b z q i o => do
    let b ← blkOf nB bl b
    let q ← q.sub θ m
    let i ← i.sub θ m
    pure (.ptrs b z q i o)
  | v => some v
def AV.subL (θ : List Th) (m nB nk : Nat) (bl : List Nat) : List AV → Option (List AV)
  | [] => some []
  | v :: r => do
    let v ← AV.sub θ m nB nk bl v
    let l ← AV.subL θ m nB nk bl r
    pure (v :: l)
end

def sameAV (rs : List Rule) (pc : List BE) (a b : AV) : Bool :=
  match a, b with
  | .int k a, .int k' b => k = k' && sameI rs pc a b
  | .bool a, .bool b => if a = b then true else truthR rs pc (BE.mkSame a b) == some true
  | .txt (.lit s), .str s' => s = s'
  | .txt (.rig i), .strv j => i = j
  | .sl b z q o n c, .sl b' z' q' o' n' c' => Nat.beq b b' && Nat.beq z z' && sameI rs pc q q' && sameI rs pc o o' && sameI rs pc n n' && sameI rs pc c c'
  | a, b => AV.beq a b
/-- A head's slots against those that there are. -/
def sameSlots (rs : List Rule) (pc : List BE) (θ : List Th) (m nB nk : Nat) (bl : List Nat) : List AV → List AV → Bool
  | [], [] => true
  | u :: us, v :: vs =>
    (if u.isPoison then true else
      match AV.sub θ m nB nk bl u with
      | some u' => sameAV rs pc u' v && !v.isPoison
      | none => false) && sameSlots rs pc θ m nB nk bl us vs
  | _, _ => false
def sameCells (rs : List Rule) (pc : List BE) (θ : List Th) (m nB nk : Nat) (bl : List Nat) : List (Option AV) → List (Option AV) → Bool
  | [], [] => true
  | none :: us, _ :: vs => sameCells rs pc θ m nB nk bl us vs
  | some u :: us, some v :: vs =>
    (match AV.sub θ m nB nk bl u with
      | some u' => sameAV rs pc u' v
      | none => false) && sameCells rs pc θ m nB nk bl us vs
  | _, _ => false
/-- A head's block against one that there is. -/
def sameObj (rs : List Rule) (pc : List BE) (θ : List Th) (m nB nk : Nat) (bl : List Nat) (u v : AObj) : Bool :=
  match u, v with
  | .free, _ => true
  | .cells c t mo k, .cells c' t' mo' k' => t = t' && mo = mo' && (match mo with | some (j, _, _, _) => Nat.blt j nk | none => true) && k = k' && sameCells rs pc θ m nB nk bl c c'
  | .row r t ks n c, .row r' t' ks' n' c' =>
    (match r.sub' θ m, n.sub θ m, c.sub θ m with
    | some r2, some n2, some c2 => decide (r2 = r') && t = t' && ks = ks' && sameI rs pc n2 n' && sameI rs pc c2 c'
    | _, _, _ => false)
  | .grow r t ks n i q, .grow r' t' ks' n' i' q' => Nat.blt r m && n.upto m && q.upto m && q = q' && Nat.beq r r' && t = t' && ks = ks' && n = n' && i = i'
  | .given cs i, .given cs' i' => AV.beqL cs cs' && (AV.subL θ m nB nk bl cs).isSome && i = i' && (match AV.subL θ m nB nk bl cs with | some l => AV.beqL l cs | none => false)
  | .strIter s p, .strIter s' p' => s = s' && p = p'
  | .deferred b, .deferred b' => b = b'
  | _, _ => false
/-- All blocks of a head, each against the one that it is. -/
def sameBlks (rs : List Rule) (pc : List BE) (θ : List Th) (m nB nk : Nat) (bl : List Nat) (hb vb : Bl) : Nat → Bool
  | 0 => true
  | i + 1 =>
    (match hb[i]?, (blkOf nB bl i).bind (vb[·]?) with
    | some u, some v => sameObj rs pc θ m nB nk bl u v
    | _, _ => false) && sameBlks rs pc θ m nB nk bl hb vb i
def sliceBlk : AV → Option Nat
  | .sl b _ _ _ _ _ => some b
  | .ptr b _ => some b
  | .ptrs b _ _ _ _ => some b
  | .slice b _ _ _ => some b
  | .map b => some b
  | _ => none
/-- A slot; from 1000 on: a cell of a block (1000, and 100 for each block, and the cell's place). -/
def refOf (σ : St) (t : Nat) : Option AV := if t < 1000 then σ.tmps[t]? else σ.h.cell? ((t - 1000) / 100) ((t - 1000) % 100)
def thOf (σ : St) : Src → Option Th
  | .int t =>
    match refOf σ t with
    | some (.int _ e) => some (.num e)
    | _ => none
  | .len t =>
    match refOf σ t with
    | some (.sl _ _ _ _ n _) => some (.num n)
    | _ => none
  | .cap t =>
    match refOf σ t with
    | some (.sl _ _ _ _ _ c) => some (.num c)
    | _ => none
  | .row t =>
    match ((refOf σ t).bind sliceBlk).bind (σ.h.bs[·]?) with
    | some (.row r _ _ _ _) => some (.row r)
    | some (.grow r _ _ _ _ _) => some (.row (.row r))
    | _ => none
  | .rn t =>
    match ((refOf σ t).bind sliceBlk).bind (σ.h.bs[·]?) with
    | some (.row _ _ _ n _) => some (.num n)
    | _ => none
  | .rc t =>
    match ((refOf σ t).bind sliceBlk).bind (σ.h.bs[·]?) with
    | some (.row _ _ _ _ c) => some (.num c)
    | _ => none
  | .brow b =>
    match σ.h.bs[b]? with
    | some (.row r _ _ _ _) => some (.row r)
    | some (.grow r _ _ _ _ _) => some (.row (.row r))
    | _ => none
  | .bn b =>
    match σ.h.bs[b]? with
    | some (.row _ _ _ n _) => some (.num n)
    | _ => none
  | .bc b =>
    match σ.h.bs[b]? with
    | some (.row _ _ _ _ c) => some (.num c)
    | _ => none
  | .txt t =>
    match refOf σ t with
    | some (.txt x) => some (.txt x)
    | some (.str s) => some (.txt (.lit s))
    | some (.strv i) => some (.txt (.rig i))
    | _ => none
  | .cell b o =>
    match σ.h.cell? b o with
    | some (.int _ e) => some (.num e)
    | _ => none
def Th.upto (n : Nat) : Th → Bool
  | .num e => e.upto n
  | .row r => r.upto n
  | .txt s => s.upto n
/-- Is none there twice? -/
def apartL : List Nat → Bool
  | [] => true
  | x :: r => !(r.contains x) && apartL r
def putAll {α : Type} (f : α → Nat → AV → α) : List (Nat × AV) → α → α
  | [], a => a
  | (i, v) :: r, a => putAll f r (f a i v)
/-- The blocks replaced: each is of no class, or of the class of the one there. -/
def replB : List (Nat × AObj) → Bl → Option Bl
  | [], b => some b
  | (i, o) :: r, b =>
    match b[i]? with
    | some o' => if o.cls?.isNone || o.cls? == o'.cls? then replB r (b.set i o) else none
    | none => none
def pushB : List AObj → Bl → Option Bl
  | [], b => some b
  | o :: r, b => if o.cls?.isNone then pushB r (b ++ [o]) else none
/-- A head's state. -/
def headSt (σ : St) (hd : Head) : Option St := do
  let m := σ.h.giv.nv
  let nB := σ.h.bs.length
  let bs ← replB (hd.bl m nB) σ.h.bs
  let bs ← pushB (hd.nb m nB) bs
  if (hd.inv m nB).all (fun b => b.upto (m + hd.nf)) && (hd.ms m nB).upto (m + hd.nf) then
    some { tmps := putAll List.set (hd.tm m nB) σ.tmps, h := { bs, nk := σ.h.nk, giv := { σ.h.giv with nv := m + hd.nf } }, pc := hd.inv m nB ++ (match hd.keep with | none => σ.pc | some k => σ.pc.filter fun b => b.upto k), marks := [], pan := none }
  else none
/-- Is a state one of a head's? 'm', 'nB', 'nk': how many unknowns, blocks and open capacities there were ahead of the loop; 'l': the rows that the first blocks are; 'less': what its measure has to be less than. -/
def isHead (m nB nk : Nat) (hd : Head) (τ : St) (less : Option IE) (σ : St) : Bool :=
  match hd.src.mapM (thOf σ), hd.bsrc.mapM (fun t => (refOf σ t).bind sliceBlk) with
  | some θ, some bl =>
    θ.length == hd.nf && θ.all (·.upto σ.h.giv.nv) && bl.length + nB == τ.h.bs.length && apartL bl &&
    bl.all (fun b => Nat.blt b σ.h.bs.length && (if Nat.blt b nB then (match τ.h.bs[b]? with | some .free => true | _ => false) else true)) &&
    σ.marks.isEmpty && Nat.ble nk σ.h.nk && Nat.ble m σ.h.giv.nv &&
    sameSlots σ.h.giv.cfg.rules σ.pc θ m nB nk bl τ.tmps σ.tmps &&
    sameBlks σ.h.giv.cfg.rules σ.pc θ m nB nk bl τ.h.bs σ.h.bs τ.h.bs.length &&
    (hd.inv m nB).all (fun b => match b.sub θ m with | some c => truthR σ.h.giv.cfg.rules σ.pc c == some true | none => false) &&
    (match less with
    | none => true
    | some e => match (hd.ms m nB).sub θ m with | some e' => ltB σ.h.giv.cfg.rules σ.pc e' e | none => false)
  | _, _ => false
/-- At a glance: where a head has a number, a truth, no slice, has the state another one? -/
def quickHead (tmps : List AV) : List (Nat × AV) → Bool
  | [] => true
  | (t, .int _ (.lit a)) :: r => (match tmps[t]? with | some (.int _ (.lit b)) => decide (a = b) | _ => true) && quickHead tmps r
  | (t, .bool (.lit a)) :: r => (match tmps[t]? with | some (.bool (.lit b)) => a == b | _ => true) && quickHead tmps r
  | (t, .nilSlice) :: r => (match tmps[t]? with | some (.sl _ _ _ _ _ _) => false | _ => true) && quickHead tmps r
  | _ :: r => quickHead tmps r
def anyHead (m nB nk : Nat) (less : Option IE) (σ : St) : List (Head × St) → Bool
  | [] => false
  | (hd, τ) :: r => (quickHead σ.tmps (hd.tm m nB) && isHead m nB nk hd τ less σ) || anyHead m nB nk less σ r
/-- What comes out of a head's round: it goes on at a head, or it is out. -/
def roundOut (m nB nk : Nat) (ms : IE) (hs : List (Head × St)) : List (AExit × St) → Option (List (AExit × St))
  | [] => some []
  | (.normal, σ) :: r => if anyHead m nB nk (some ms) σ hs then roundOut m nB nk ms hs r else none
  | x :: r => do
    let l ← roundOut m nB nk ms hs r
    pure (x :: l)
def headsRun (run : St → Option (List (AExit × St))) (m nB nk : Nat) (hs : List (Head × St)) : List (Head × St) → Option (List (AExit × St))
  | [] => some []
  | (hd, τ) :: r => do
    if !leB τ.h.giv.cfg.rules τ.pc (.lit 0) (hd.ms m nB) then none else
    let l ← run τ
    let o ← roundOut m nB nk (hd.ms m nB) hs l
    let k ← headsRun run m nB nk hs r
    pure (o ++ k)
def loopA (run : St → Option (List (AExit × St))) (an : Ann) (σ : St) : Option (List (AExit × St)) := do
  let τs ← an.heads.mapM (headSt σ)
  let hs := an.heads.zip τs
  if σ.marks.isEmpty && σ.pan.isNone && anyHead σ.h.giv.nv σ.h.bs.length σ.h.nk none σ hs then headsRun run σ.h.giv.nv σ.h.bs.length σ.h.nk hs hs else none
/-- A loop's first region. -/
def firstRegion : Code → Option (Nat × Nat)
  | .region id ops _ => some (id, ops.size)
  | .seq x y => match firstRegion x with | some r => some r | none => firstRegion y
  | .block _ c | .loop c | .scope c => firstRegion c
  | .cond _ x y => match firstRegion x with | some r => some r | none => firstRegion y
  | _ => none
def annsOf (σ : St) (c : Code) : List Ann :=
  match σ.h.giv.cfg.anns with
  | [] => []
  | l =>
    match firstRegion c with
    | some (i, n) => l.filter fun a => a.key == (σ.tmps.length, i, n)
    | none => []
/-- From the first head that fits. -/
def loopAny (run : St → Option (List (AExit × St))) (σ : St) : List Ann → Option (List (AExit × St))
  | [] => none
  | a :: r =>
    match loopA run a σ with
    | some l => some l
    | none => loopAny run σ r
/-- Round by round. -/
def unrollA (run : St → Option (List (AExit × St))) : Nat → St → Option (List (AExit × St))
  | 0, _ => none
  | n + 1, σ => do
    let l ← run σ
    thenA (unrollA run n) l

/-- 'sc': the code is what is left of that scope's body. 'dr': whether regions whose order is drawn are walked. 'ro': the range in whose round the code stands. -/
def runCode (P : Program) (dr : Bool) (call : CallF) (ro : Option Nat) : Nat → Option Code → Code → St → Option (List (AExit × St))
  | 0, _, _, _ => none
  | n + 1, some body, c, σ => do
    let l ← runCode P dr call ro n none c σ
    gotoA body (fun c σ => runCode P dr call ro n (some body) c σ) l
  | n + 1, none, c, σ =>
    match c with
    | .skip | .label _ => some [(.normal, σ)]
    | .region _ ops false => (runOps P call ro ops ops.toList σ).map fun l => l.map St.out
    | .region _ ops true => if dr && Region.noSelect ops && noDefer ops then (runAny P call ops (2 * ops.size + 1) (Array.replicate ops.size false) [] [] σ).map fun l => l.map St.out else none
    | .seq x y => do
      let l ← runCode P dr call ro n none x σ
      thenA (runCode P dr call ro n none y) l
    | .cond c x y => do
      match ← opnd σ.tmps c with
      | .bool b => split σ b (runCode P dr call ro n none x) (runCode P dr call ro n none y)
      | _ => none
    | .block id c => (runCode P dr call ro n none c σ).map (inBlockA id)
    | .loop c =>
      match loopAny (runCode P dr call ro n none c) σ (annsOf σ c) with
      | some l => some l
      | none => unrollA (runCode P dr call ro n none c) n σ
    | .exit id => some [(.exit id, σ)]
    | .goto l => some [(.goto l, σ)]
    | .scope c => runCode P dr call ro n (some c) c σ
    | .ret => some [(.ret, σ)]
    | .rangeFunc g params assign body => do
      match ← opnd σ.tmps g with
      | .func f first captured =>
        let (h, b, marks) ← enterA σ.h ro σ.tmps params assign body
        let fn ← P.funcs[f]?
        if fn.body.isSome then
          let l ← call false f (first ++ [.yield b] ++ captured) h σ.pc
          afterA b σ marks l
        else none
      | _ => none
    | _ => none

def result1 (P : Program) (σ : St) : ResultVar → Option AV
  | .tmp t => do
    let v ← σ.tmps[t]?
    if v.isPoison then none else some v
  | .cell a t => do
    match ← σ.tmps[a]? with
    | .ptr b o => loadV P σ.h t b o
    | _ => none

def resultsL (P : Program) (σ : St) : List ResultVar → Option (List AV)
  | [] => some []
  | x :: r => do
    let v ← result1 P σ x
    let l ← resultsL P σ r
    pure (v :: l)

def resultsA (P : Program) (fn : Func) (σ : St) : Option AV := do
  match ← resultsL P σ fn.results.toList with
  | [v] => pure v
  | l => pure (.tuple l)

/-- How an activation stands on its way out: it returns, or it panics (and has the panic been recovered from?). -/
inductive AMode where
  | ret
  | pan (v : AV) (recovered : Bool)

def AMode.settle : AMode → AMode
  | .pan _ true => .ret
  | m => m

/-- One operation of a deferred function: it may recover. -/
def doOpS (P : Program) (o : Oper) (p : St × AMode) : Option (St × AMode) :=
  match o.op with
  | .call { callee := .builtin .recover, .. } =>
    match p.2 with
    | .pan v false => some (p.1.put o.dst v, .pan v true)
    | u => some (p.1.put o.dst .nilIface, u)
  | _ => (aopPure P p.1.tmps o).map fun v => (p.1.put o.dst v, p.2)

def runOpsS (P : Program) (ops : Array Oper) : List Nat → St × AMode → Option (List (St × AMode))
  | [], p => some [p]
  | i :: r, p =>
    match ops[i]? with
    | some o =>
      guarded ops o p.1 (fun σ => do
        let q ← doOpS P o (σ, p.2)
        runOpsS P ops r q) (fun σ => runOpsS P ops r (σ.put o.dst undefA, p.2))
    | none => none

def thenS (f : St × AMode → Option (List (AExit × St × AMode))) : List (AExit × St × AMode) → Option (List (AExit × St × AMode))
  | [] => some []
  | (.normal, p) :: r => do
    let l ← f p
    let m ← thenS f r
    pure (l ++ m)
  | x :: r => do
    let m ← thenS f r
    pure (x :: m)

def hasRecover (ops : Array Oper) : Bool := ops.toList.any fun o => match o.op with
  | .call { callee := .builtin .recover, .. } => true
  | _ => false

/-- The text of a deferred function. -/
def runCodeS (P : Program) (dr : Bool) (call : CallF) : Nat → Code → St × AMode → Option (List (AExit × St × AMode))
  | 0, _, _ => none
  | n + 1, c, p =>
    match c with
    | .seq x y => do
      let l ← runCodeS P dr call n x p
      thenS (runCodeS P dr call n y) l
    | .cond c x y => do
      match ← opnd p.1.tmps c with
      | .bool b => split p.1 b (fun σ => runCodeS P dr call n x (σ, p.2)) (fun σ => runCodeS P dr call n y (σ, p.2))
      | _ => none
    | .region id ops false =>
      if hasRecover ops then (runOpsS P ops (List.range ops.size) p).map fun l => l.map fun q => (.normal, q.1, q.2)
      else (runCode P dr call none n none (.region id ops false) p.1).map fun l => l.map fun (e, σ) => (e, σ, p.2)
    | c => (runCode P dr call none n none c p.1).map fun l => l.map fun (e, σ) => (e, σ, p.2)

/-- A deferred call's ends: each the mode behind it, settled. -/
def settleA : List (AExit × St × AMode) → Option (List (AMode × Hp × List BE))
  | [] => some []
  | (.normal, σ, u) :: r | (.ret, σ, u) :: r => do
    if !σ.marks.isEmpty then none else
    let m ← settleA r
    pure ((u.settle, σ.h, σ.pc) :: m)
  | _ => none

def runDefer (P : Program) (dr : Bool) (call : CallF) (fuel : Nat) (f : FuncId) (args : List AV) (u : AMode) (h : Hp) (pc : List BE) : Option (List (AMode × Hp × List BE)) := do
  let fn ← P.funcs[f]?
  if !fn.results.isEmpty then none else
  let c ← fn.body
  let l ← runCodeS P dr call fuel c ({ tmps := args ++ List.replicate (fn.ntmps - args.length) undefA, h, pc }, u)
  settleA l

/-- The way out: what was deferred is done, the latest first. -/
def leaveA (P : Program) (dfr : FuncId → List AV → AMode → Hp → List BE → Option (List (AMode × Hp × List BE))) (fn : Func) (σ : St) : List Mark → AMode → Hp → List BE → Option (List (AV × Hp × List BE))
  | [], .ret, h, pc => do
    let v ← resultsA P fn { σ with h, pc }
    pure [(v, h, pc)]
  | [], .pan v false, h, pc => some [(v.pan, h, pc)]
  | [], .pan _ true, _, _ => none
  | .blk b :: r, u, h, pc =>
    match h.bs[b]? with
    | some (.deferred true) => leaveA P dfr fn σ r u { h with bs := h.bs.set b (.deferred false) } pc
    | _ => none
  | .call f first captured :: r, u, h, pc => do
    let g ← P.funcs[f]?
    if g.body.isNone then none else
    let l ← dfr f (first ++ captured) u h pc
    each (fun (u, h, pc) => leaveA P dfr fn σ r u h pc) l

def endsA (P : Program) (dfr : FuncId → List AV → AMode → Hp → List BE → Option (List (AMode × Hp × List BE))) (fn : Func) : List (AExit × St) → Option (List (AV × Hp × List BE))
  | [] => some []
  | (.normal, σ) :: r | (.ret, σ) :: r => do
    let l ← leaveA P dfr fn σ σ.marks .ret σ.h σ.pc
    let m ← endsA P dfr fn r
    pure (l ++ m)
  | (.panic v, σ) :: r => do
    let l ← leaveA P dfr fn σ σ.marks (.pan v false) σ.h σ.pc
    let m ← endsA P dfr fn r
    pure (l ++ m)
  | _ => none

/-- How a round is left. -/
def leftA : AExit → Option Code
  | .normal => none
  | .ret => some .ret
  | .exit id => some (.exit id)
  | .goto l => some (.goto l)
  | .panic _ => none

def roundsA (b : Nat) : List (AExit × St) → Option (List (AV × Hp × List BE))
  | [] => some []
  | (.panic _, _) :: _ => none
  | (e, σ) :: r => do
    let h ← setLoop σ.h b (if (leftA e).isNone then .ready else .done) (leftA e)
    let m ← roundsA b r
    pure ((.bool (.lit (leftA e).isNone), h, σ.pc) :: m)

def putMany (tmps : List AV) : List (Tmp × AV) → List AV
  | [] => tmps
  | (t, v) :: r => putMany (tmps.set t v) r

/-- A round's assignments have been made: its body. -/
def bodyA (b : Nat) (run : St → Option (List (AExit × St))) : List (AExit × St) → Option (List (AV × Hp × List BE))
  | [] => some []
  | (.normal, σ) :: r =>
    match σ.h.bs[b]? with
    | some (.loop .ready pend tmps params assign body d) => do
      let l ← run { σ with h := { σ.h with bs := σ.h.bs.set b (.loop .busy pend tmps params assign body d) } }
      let l ← roundsA b l
      let m ← bodyA b run r
      pure (l ++ m)
    | _ => none
  | _ => none

/-- A function that is taken by what is said of it: its ends. -/
structure Con where
  f : FuncId
  tr : List AV → Hp → List BE → Option (List (AV × Hp × List BE))

/-- 'kn': a function of nothing that is known to answer true (and to leave what was there as it was); 'cons': functions that are taken by what is said of them. -/
structure Kn where
  kn : Option FuncId := none
  cons : List Con := []

def conRun (f : FuncId) (args : List AV) (h : Hp) (pc : List BE) : List Con → Option (List (AV × Hp × List BE))
  | [] => none
  | c :: r =>
    if c.f == f then
      match c.tr args h pc with
      | some L => some L
      | none => conRun f args h pc r
    else conRun f args h pc r

/-- Those that fit, and the others. -/
def cutFit {α : Type} (fit : α → Bool) : List α → Bool × List α
  | [] => (false, [])
  | x :: r =>
    match fit x with
    | true => (true, (cutFit fit r).2)
    | false => ((cutFit fit r).1, x :: (cutFit fit r).2)
/-- Ends that are as one has them are one. -/
def joinOne (h : Hp) (pc : List BE) (hd : Head) (L : List (AV × Hp × List BE)) : List (AV × Hp × List BE) :=
  match headSt { tmps := [undefA], h, pc } hd with
  | some τ =>
    match τ.tmps with
    | [v] =>
      if v.isPoison then L else
      match cutFit (fun l : AV × Hp × List BE => l.1.pan?.isNone && isHead h.giv.nv h.bs.length h.nk hd τ none { tmps := [l.1], h := l.2.1, pc := l.2.2 }) L with
      | (true, M) => (v, τ.h, τ.pc) :: M
      | (false, _) => L
    | _ => L
  | none => L
def joinAll (f : FuncId) (h : Hp) (pc : List BE) : List (Nat × Head) → List (AV × Hp × List BE) → List (AV × Hp × List BE)
  | [], L => L
  | (g, hd) :: r, L => joinAll f h pc r (if Nat.beq g f then joinOne h pc hd L else L)

def runCall (P : Program) (dr : Bool) (kn : Kn) (fuel : Nat) : Nat → CallF
  | 0, _, _, _, _, _ => none
  | d + 1, false, f, args, h, pc =>
    if kn.kn == some f && args.isEmpty then some [(.bool (.lit true), h, pc)] else
    match conRun f args h pc kn.cons with
    | some L => some L
    | none => do
    let fn ← P.funcs[f]?
    let c ← fn.body
    let l ← runCode P dr (runCall P dr kn fuel d) none fuel none c { tmps := args ++ List.replicate (fn.ntmps - args.length) undefA, h, pc }
    let L ← endsA P (runDefer P dr (runCall P dr kn fuel d) fuel) fn l
    pure (joinAll f h pc h.giv.cfg.joins L)
  | d + 1, true, b, args, h, pc =>
    match h.bs[b]? with
    | some (.loop _ _ tmps params assign body _) => do
      if args.length ≠ params.size then none else
      let l ← runCode P dr (runCall P dr kn fuel d) (some b) fuel none assign { tmps := putMany tmps (params.toList.zip args), h, pc }
      bodyA b (fun σ => runCode P dr (runCall P dr kn fuel d) (some b) fuel none body σ) l
    | _ => none

end Go.Sx
