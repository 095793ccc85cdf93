/-
  A WALKER THAT COMPUTES: a run that is cut into parts, each of which the kernel looks at alone.
-/
import Derived.Test.YtdeclnbmakggbaaSxW
namespace Go.Sx

/-- A part of a text, by its path. -/
def sub : Code → List Bool → Code
  | c, [] => c
  | .seq x y, b :: r => sub (if b then y else x) r
  | .cond _ x y, b :: r => sub (if b then y else x) r
  | .block _ c, _ :: r => sub c r
  | .loop c, _ :: r => sub c r
  | .scope c, _ :: r => sub c r
  | .rangeFunc _ _ a c, b :: r => sub (if b then c else a) r
  | c, _ => c

/-- The record of a range over a function, of the text where that stands. -/
def loopAt (st : LoopState) (pend : Option Code) (tmps : List AV) (d : Nat) : Code → AObj
  | .rangeFunc _ ps a c => .loop st pend tmps ps a c d
  | _ => .deferred false

/-- The one state that a run comes to. -/
def res : Option (List (AExit × St)) → St
  | some [(_, σ)] => σ
  | _ => { tmps := [], h := ⟨[], 0⟩, pc := [] }

/-- Cells of whole numbers. -/
def ci (l : List Nat) : List (Option AV) := l.map fun n => some (.int .i64 (.lit (.ofNat n)))

section
variable {P : Program} {dr : Bool} {call : CallF} {ro : Option Nat} {n : Nat} {c x y : Code} {σ σ' : St} {L : List (AExit × St)} {t : Operand} {id : Nat} {e : AExit}

theorem cut_seq (hc : c = .seq x y) (hx : runCode P dr call ro n none x σ = some [(.normal, σ')]) (hy : runCode P dr call ro n none y σ' = some L) : runCode P dr call ro (n + 1) none c σ = some L := by
  subst hc
  simp [runCode, hx, thenA, hy]

theorem cut_seq_left (hc : c = .seq x y) (he : e ≠ .normal) (hx : runCode P dr call ro n none x σ = some [(e, σ')]) : runCode P dr call ro (n + 1) none c σ = some [(e, σ')] := by
  subst hc
  cases e <;> first | exact absurd rfl he | simp [runCode, hx, thenA]

theorem cut_yes (hc : c = .cond t x y) (ht : opnd σ.tmps t = some (.bool (.lit true))) (hx : runCode P dr call ro n none x σ = some L) : runCode P dr call ro (n + 1) none c σ = some L := by
  subst hc
  simp [runCode, ht, split, split1, truth, hx]

theorem cut_no (hc : c = .cond t x y) (ht : opnd σ.tmps t = some (.bool (.lit false))) (hy : runCode P dr call ro n none y σ = some L) : runCode P dr call ro (n + 1) none c σ = some L := by
  subst hc
  simp [runCode, ht, split, split1, truth, hy]

theorem cut_block (hc : c = .block id x) (hx : runCode P dr call ro n none x σ = some L) : runCode P dr call ro (n + 1) none c σ = some (inBlockA id L) := by
  subst hc
  simp [runCode, hx]

theorem cut_loop (hc : c = .loop x) (hx : runCode P dr call ro n none x σ = some [(.normal, σ')]) (hy : runCode P dr call ro n none c σ' = some L) : runCode P dr call ro (n + 1) none c σ = some L := by
  subst hc
  simp [runCode, hx, thenA, hy]

theorem cut_loop_out (hc : c = .loop x) (he : e ≠ .normal) (hx : runCode P dr call ro n none x σ = some [(e, σ')]) : runCode P dr call ro (n + 1) none c σ = some [(e, σ')] := by
  subst hc
  cases e <;> first | exact absurd rfl he | simp [runCode, hx, thenA]

/-- The call of a function whose text has been gone through. -/
theorem cut_call {kn : Option FuncId} {fuel d : Nat} {f : FuncId} {args : List AV} {h : Hp} {pc : List BE} {fn : Func} {l : List (AExit × St)} {r : List (AV × Hp × List BE)} (hk : (kn == some f && args.isEmpty) = false) (hf : P.funcs[f]? = some fn) (hb : fn.body = some c)
    (hr : runCode P dr (runCall P dr kn fuel d) none fuel none c { tmps := args ++ List.replicate (fn.ntmps - args.length) undefA, h, pc } = some l) (he : endsA P fn l = some r) : runCall P dr kn fuel (d + 1) false f args h pc = some r := by
  unfold runCall
  rw [hk]
  simp [hf, hb, hr, he]

end
end Go.Sx
