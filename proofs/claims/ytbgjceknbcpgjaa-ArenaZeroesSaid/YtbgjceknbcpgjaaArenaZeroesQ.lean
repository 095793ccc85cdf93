/-
  What ArenaZeroes is proved by.
-/
import Derived.Test.YtbgjceknbcpgjaaRows
import Derived.Test.YtbgjceknbcpgjaaSzPf
import Derived.Test.YtbgjceknbcpgjaaSzMe
import Derived.WalkKit
import Derived.ProofKit
import Derived.OpenShut
namespace Go.Proofs.Ytbgjceknbcpgjaa.arenaZeroes
open Go.Sx Go.ChangeShapes Go.WideShapes Go.ChangeAt Go.RowKit
set_option linter.unusedVariables false

theorem own : ownKnob Try.prog.godebug = none := by kernel_rfl

theorem plain : plainNames Try.prog = true := by kernel_rfl

set_option maxRecDepth 100000 in
theorem ranKnown : allTrue (runCall Try.prog true {} 300 60 false 5 [] Hp.nil []) = true := by kernel_rfl

theorem knows1 : Known1 Try.prog (some 5) := by
  intro f hf w
  injection hf with hf
  subst hf
  exact calls_true (dr := true) (kn := {}) (fuel := 300) (d := 60) (args := []) (xs := []) (ι := io []) (pc := []) w plain known_none (fun _ call hC => anyOk (by kernel_rfl) plain hC) ranKnown rfl (fun _ h => by cases h)

abbrev ge (a : IE) (n : Int) : BE := .cmp .geq a (.lit n)
abbrev le (a : IE) (n : Int) : BE := .cmp .leq a (.lit n)
abbrev lt (a : IE) (n : Int) : BE := .cmp .lss a (.lit n)
abbrev gt (a : IE) (n : Int) : BE := .cmp .gtr a (.lit n)
abbrev v (i : Nat) : IE := .fv i
abbrev r (i : Nat) : RX := .row i
abbrev leI (a b : IE) : BE := .not (.cmp .lss b a)
abbrev ltI (a b : IE) : BE := .cmp .lss a b
abbrev eqI (a b : IE) : BE := .cmp .eql a b
abbrev neI (a b : IE) : BE := .not (.cmp .eql a b)
abbrev rule (find pre : List BE) (con : BE) : Rule := { pat := true, find, pre, con }
abbrev lrn (trig : IE) (find pre : List BE) (con : BE) : Rule := { pat := true, find, pre, con, trig := some trig }
abbrev bad (l : List Nat) : List (Nat × AV) := l.map fun i => (i, AV.poison)
abbrev upto (a b : Nat) : List Nat := (List.range (b + 1 - a)).map (· + a)
abbrev nV : IE := .wrap .i64 (.var 0)
abbrev TSl : Nat := 48
abbrev ksSl : List CK := [.int .u64, .bool, .int .i64]
/-- The first k slots of n are as they are at first. -/
abbrev pNew (k n : IE) (x : RX) : BE := .usr 1 [k, n] [] [x]
/-- B: the slots' block. -/
def newAnn (B : Nat) : Ann := { key := (33, 5, 1), heads := [{ nf := 2, src := [.int 21, .brow B], bsrc := [], tm := fun m _ => (21, .int .i64 (v m)) :: bad (5 :: upto 22 31), bl := fun m _ => [(B, .row (r (m + 1)) TSl ksSl nV nV)], nb := fun _ _ => [], inv := fun m _ => [ge (v m) 0, leI (v m) nV, pNew (v m) nV (r (m + 1))], ms := fun m _ => .dif nV (v m) }] }
abbrev pA (m n : IE) (x : RX) : BE := .usr 2 [m, n] [] [x]
abbrev pH (m : IE) (x : RX) : BE := .usr 3 [m] [] [x]
abbrev TH : Nat := 32
abbrev ksH : List CK := [.int .i64, .int .u64]
abbrev pB (m n : IE) (x : RX) : BE := .usr 4 [m, n] [] [x]
abbrev pK (m q : IE) (b x : RX) : BE := .usr 5 [m, q] [] [b, x]
/-- What is left of those that were given back. -/
abbrev pP (m q : IE) (b x : RX) : BE := .usr 7 [m, q] [] [b, x]
abbrev pZ (f n : IE) (x : RX) : BE := .usr 6 [f, n] [] [x]
abbrev at3 (x : Nat) (i : IE) (o : Nat) : IE := .cell x (.lin i 3 o)
abbrev gen (x : Nat) (i : IE) : IE := .wrap .u64 (at3 x i 0)
abbrev used (x : Nat) (i : IE) : BE := eqI (at3 x i 1) (.lit 1)
abbrev valu (x : Nat) (i : IE) : IE := .wrap .i64 (at3 x i 2)
abbrev one1 : RX := .lits [(.bool, .lit 1)]
abbrev gone3 : RX := .lits [(.int .u64, .lit 2), (.bool, .lit 0), (.int .i64, .lit 0)]
/-- i is among the first n: a place. -/
abbrev inN (i n : IE) : List BE := [ge i 0, ltI i n]
/-- Which handle is meant: a number of the list that is handed in, by how many there are; its place; its generation. -/
abbrev jx (a m : IE) : IE := .wrap .i64 (.bin .rem .u64 (.wrap .u64 a) m)
abbrev hx (h : Nat) (a m : IE) : IE := .wrap .i64 (.cell h (.lin (jx a m) 2 0))
abbrev hg (h : Nat) (a m : IE) : IE := .wrap .u64 (.cell h (.lin (jx a m) 2 1))
abbrev few (m : IE) : List BE := [ge m 1, le m 100]
/-- h 0, m 1, a 2; slots 3; n 4. -/
abbrev X0 : IE := hx 0 (v 2) (v 1)
/-- One that is given back: slots 3 behind slots 4. -/
abbrev gaveUp : BE := .isrow 3 (.set (r 4) (.lin X0 3 0) (.lits [(.int .u64, v 5), (.bool, .lit 0), (.int .i64, .lit 0)]))
def twoRules : List Rule := [
  rule [] (few (v 1)) (ge (jx (v 0) (v 1)) 0),
  rule [] (few (v 1)) (ltI (jx (v 0) (v 1)) (v 1)),
  rule [pH (v 1) (r 0)] (few (v 1)) (ge X0 0),
  rule [pH (v 1) (r 0)] (few (v 1)) (.not (lt X0 0)),
  rule [pH (v 1) (r 0)] (leI (v 1) (v 4) :: few (v 1)) (ltI X0 (v 4)),
  -- a handle that is one of a slot in use is of its generation
  rule [pB (v 1) (v 4) (r 3), used 3 X0, pH (v 1) (r 0)] (few (v 1)) (eqI (gen 3 X0) (hg 0 (v 2) (v 1))),
  -- a slot that is free is nought
  rule [pB (v 1) (v 2) (r 3), .not (used 3 (v 0))] [ge (v 0) 0, ltI (v 0) (v 2)] (eqI (valu 3 (v 0)) (.lit 0)),
  rule [pB (v 1) (v 2) (r 3), .not (used 3 (v 0))] [ge (v 0) 0, ltI (v 0) (v 2)] (.not (.cmp .neq (valu 3 (v 0)) (.lit 0))),
  rule [pB (v 1) (v 4) (r 3), .not (used 3 X0), pH (v 1) (r 0)] (leI (v 1) (v 4) :: few (v 1)) (.not (.cmp .neq (valu 3 X0) (.lit 0))),
  -- given back
  rule [gaveUp, pB (v 1) (v 6) (r 4), pH (v 1) (r 0)] (few (v 1)) (pB (v 1) (v 6) (r 3)),
  rule [gaveUp, pB (v 1) (v 6) (r 4), pH (v 1) (r 0)] (few (v 1)) (.not (used 3 X0)),
  rule [gaveUp, pB (v 1) (v 6) (r 4), pH (v 1) (r 0)] (few (v 1)) (.not (.cmp .neq (valu 3 X0) (.lit 0))),
  rule [gaveUp, .isrow 6 (.lits [(.int .i64, X0)]), pB (v 1) (v 7) (r 4), pH (v 1) (r 0)] (few (v 1)) (pK (v 1) (.lit 1) (r 6) (r 3)),
  rule [gaveUp, .isrow 6 (.cat (r 7) (.lits [(.int .i64, X0)])), pK (v 1) (v 8) (r 7) (r 4), used 4 X0, pB (v 1) (v 9) (r 4), pH (v 1) (r 0)] (few (v 1)) (pK (v 1) (.off (v 8) (.lit 1)) (r 6) (r 3)),
  rule [pK (v 1) (v 5) (r 4) (r 3), used 3 X0, pH (v 1) (r 0)] (few (v 1)) (leI (.off (v 5) (.lit 1)) (v 1)),
  rule [pK (v 1) (v 5) (r 4) (r 3), used 3 X0, pH (v 1) (r 0)] (few (v 1)) (le (.off (v 5) (.lit 1)) 100) ]
/-- What is told last of those that were given back: b 2, q 1. -/
abbrev yb : IE := .wrap .i64 (.cell 2 (.off (v 1) (.lit (-1))))
/-- f 0, q 1, b 2, slots 3, behind it 4, n 5. -/
def threeRules : List Rule := [
  rule [pB (v 0) (v 1) (r 2)] [] (pZ (v 0) (v 1) (r 2)),
  rule [pA (v 0) (v 1) (r 2)] [] (pZ (v 0) (v 1) (r 2)),
  rule [pK (v 0) (v 1) (r 2) (r 3)] [] (leI (v 1) (v 0)),
  rule [pK (v 0) (v 1) (r 2) (r 3)] [] (pP (v 0) (v 1) (r 2) (r 3)),
  rule [pP (v 0) (v 1) (r 2) (r 3)] [ge (v 1) 1] (ge yb 0),
  rule [pP (v 0) (v 1) (r 2) (r 3)] [ge (v 1) 1, leI (v 0) (v 4)] (ltI yb (v 4)),
  rule [pP (v 0) (v 1) (r 2) (r 3), .isrow 4 (.set (r 3) (.lin yb 3 1) one1), pZ (v 0) (v 5) (r 3)] [ge (v 1) 1, leI (v 0) (v 5)] (eqI (.cell 4 (.lin yb 3 1)) (.lit 1)),
  rule [pP (v 0) (v 1) (r 2) (r 3), .isrow 4 (.set (r 3) (.lin yb 3 1) one1), pZ (v 0) (v 5) (r 3)] [ge (v 1) 1, leI (v 0) (v 5)] (pP (v 0) (.off (v 1) (.lit (-1))) (r 2) (r 4)),
  rule [pP (v 0) (v 1) (r 2) (r 3), .isrow 4 (.set (r 3) (.lin yb 3 1) one1), pZ (v 0) (v 5) (r 3)] [ge (v 1) 1, leI (v 0) (v 5)] (pZ (v 0) (v 5) (r 4)),
  rule [pP (v 0) (v 1) (r 2) (r 3), .isrow 4 (.set (r 3) (.lin yb 3 1) one1), pZ (v 0) (v 5) (r 3)] [ge (v 1) 1, leI (v 0) (v 5)] (eqI (valu 4 yb) (.lit 0)),
  rule [pP (v 0) (v 1) (r 2) (r 3), .isrow 4 (.set (r 3) (.lin yb 3 1) one1), pZ (v 0) (v 5) (r 3)] [ge (v 1) 1, leI (v 0) (v 5)] (.not (.cmp .neq (valu 4 yb) (.lit 0))),
  rule [.isrow 1 (.set (r 2) (.lin (v 0) 3 1) one1), pZ (v 0) (v 3) (r 2), gt (.dif (v 3) (v 0)) 0] [ge (v 0) 0] (eqI (.cell 1 (.lin (v 0) 3 1)) (.lit 1)),
  rule [.isrow 1 (.set (r 2) (.lin (v 0) 3 1) one1), pZ (v 0) (v 3) (r 2), gt (.dif (.off (v 4) (v 3)) (v 0)) 0] [ge (v 0) 0, le (v 4) 0] (eqI (.cell 1 (.lin (v 0) 3 1)) (.lit 1)),
  rule [.isrow 1 (.set (r 2) (.lin (v 0) 3 1) one1), pZ (v 0) (v 3) (r 2), gt (.dif (v 3) (v 0)) 0] [ge (v 0) 0] (pZ (.off (v 0) (.lit 1)) (v 3) (r 1)),
  rule [.isrow 1 (.set (r 2) (.lin (v 0) 3 1) one1), pZ (v 0) (v 3) (r 2), gt (.dif (.off (v 4) (v 3)) (v 0)) 0] [ge (v 0) 0, le (v 4) 0] (pZ (.off (v 0) (.lit 1)) (v 3) (r 1)),
  rule [.isrow 1 (.set (r 2) (.lin (v 0) 3 1) one1), pZ (v 0) (v 3) (r 2), gt (.dif (v 3) (v 0)) 0] [ge (v 0) 0] (eqI (valu 1 (v 0)) (.lit 0)),
  rule [.isrow 1 (.set (r 2) (.lin (v 0) 3 1) one1), pZ (v 0) (v 3) (r 2), gt (.dif (.off (v 4) (v 3)) (v 0)) 0] [ge (v 0) 0, le (v 4) 0] (eqI (valu 1 (v 0)) (.lit 0)),
  rule [.isrow 1 (.set (r 2) (.lin (v 0) 3 1) one1), pZ (v 0) (v 3) (r 2), gt (.dif (v 3) (v 0)) 0] [ge (v 0) 0] (.not (.cmp .neq (valu 1 (v 0)) (.lit 0))),
  rule [.isrow 1 (.set (r 2) (.lin (v 0) 3 1) one1), pZ (v 0) (v 3) (r 2), gt (.dif (.off (v 4) (v 3)) (v 0)) 0] [ge (v 0) 0, le (v 4) 0] (.not (.cmp .neq (valu 1 (v 0)) (.lit 0))),
  rule [pP (v 0) (v 1) (r 2) (r 3)] [le (v 1) 0] (pP (v 4) (v 1) (r 2) (r 5)),
  rule [gt (.dif (v 0) (v 1)) 0] [] (ltI (v 1) (v 0)),
  rule [gt (.dif (.off (v 0) (v 1)) (v 2)) 0] [le (v 0) 0] (ltI (v 2) (v 1)),
  rule [gt (.dif (v 0) (v 1)) 0] [le (v 0) 100] (le (.off (v 1) (.lit 1)) 100),
  rule [gt (.dif (.off (v 0) (v 1)) (v 2)) 0] [le (v 0) 0, le (v 1) 100] (le (.off (v 2) (.lit 1)) 100),
  rule [gt (.dif (v 0) (v 1)) 0] [] (leI (.off (v 1) (.lit 1)) (v 0)),
  rule [gt (.dif (.off (v 0) (v 1)) (v 2)) 0] [le (v 0) 0] (leI (.off (v 2) (.lit 1)) (v 1)),
  rule [.not (gt (.dif (v 0) (v 1)) 0)] [leI (v 1) (v 0)] (eqI (.dif (v 0) (v 1)) (.lit 0)),
  rule [leI (.off (v 0) (v 1)) (v 2)] [ge (v 0) 1] (leI (.off (v 1) (.lit 1)) (v 2)),
  rule [leI (.off (v 0) (v 1)) (v 2)] [] (leI (.off (.off (v 0) (.lit (-1))) (.off (v 1) (.lit 1))) (v 2)),
  rule [leI (.off (v 0) (v 1)) (v 2)] [] (leI (.off (v 0) (.off (v 1) (.lit 1))) (.off (v 2) (.lit 1))),
  rule [.not (gt (.dif (.off (v 0) (v 1)) (v 2)) 0)] [ge (v 0) 0, leI (v 2) (v 1)] (eqI (.dif (.off (v 0) (v 1)) (v 2)) (.lit 0)) ]
def azRules : List Rule := [
  rule [] [] (ltI (.dif (v 0) (.lit 1)) (v 0)),
  rule [] [ltI (v 0) (v 1)] (ltI (.dif (v 1) (.off (v 0) (.lit 1))) (.dif (v 1) (v 0))),
  rule [] [leI (v 0) (v 1)] (ge (.dif (v 1) (v 0)) 0),
  rule [] [ge (v 0) 0] (pNew (.lit 0) (v 0) (.rep (v 0) [(.int .u64, .lit 0), (.bool, .lit 0), (.int .i64, .lit 0)])),
  rule [pNew (v 0) (v 1) (r 2)] [ge (v 0) 0, ltI (v 0) (v 1)] (pNew (.off (v 0) (.lit 1)) (v 1) (.set (r 2) (.lin (v 0) 3 0) (.lits [(.int .u64, .lit 1)]))),
  rule [pNew (v 2) (v 0) (r 1)] [leI (v 0) (v 2)] (pA (.lit 0) (v 0) (r 1)),
  rule [pA (v 0) (v 1) (r 2)] [] (pB (v 0) (v 1) (r 2)),
  rule [pNew (v 2) (v 0) (r 1)] [leI (v 0) (v 2)] (pZ (.lit 0) (v 0) (r 1)),
  -- a cell that was set
  rule [.isrow 0 (.set (r 1) (.lit 1) one1), pA (.lit 0) (v 2) (r 1)] [gt (v 2) 0] (eqI (.cell 0 (.lit 1)) (.lit 1)),
  rule [.isrow 0 (.set (r 1) (.lin (v 3) 3 1) one1), pA (v 3) (v 2) (r 1)] (inN (v 3) (v 2)) (eqI (.cell 0 (.lin (v 3) 3 1)) (.lit 1)),
  -- the first loop
  rule [.isrow 0 (.set (r 1) (.lit 1) one1), pA (.lit 0) (v 2) (r 1)] [gt (v 2) 0] (pA (.lit 1) (v 2) (.set (r 0) (.lit 2) (.lits [(.int .i64, v 3)]))),
  rule [.isrow 0 (.set (r 1) (.lin (v 4) 3 1) one1), pA (v 4) (v 2) (r 1)] (inN (v 4) (v 2)) (pA (.off (v 4) (.lit 1)) (v 2) (.set (r 0) (.lin (v 4) 3 2) (.lits [(.int .i64, v 3)]))),
  rule [.isrow 0 (.lits [(.int .i64, .lit 0), (.int .u64, .wrap .u64 (.cell 1 (.lit 0)))]), .isrow 1 (.set (r 2) (.lit 1) one1), pA (.lit 0) (v 3) (r 2)] [gt (v 3) 0] (pH (.lit 1) (r 0)),
  rule [.isrow 0 (.cat (r 4) (.lits [(.int .i64, v 5), (.int .u64, gen 1 (v 5))])), pH (v 5) (r 4), .isrow 1 (.set (r 2) (.lin (v 5) 3 1) one1), pA (v 5) (v 3) (r 2)] (inN (v 5) (v 3)) (pH (.off (v 5) (.lit 1)) (r 0)) ]
/-- Zero, gone over in the second loop. -/
def z2 (o : Nat) (m0 : IE) (b : Option Nat) : Head :=
  match b with
  | some B => { nf := 5, src := [.int 8, .brow o, .row (1101 + 100 * o), .len (1101 + 100 * o), .rc (1101 + 100 * o)], bsrc := [1101 + 100 * o], tm := fun m _ => (8, .int .i64 (v m)) :: bad (4 :: 5 :: upto 9 30), bl := fun m nB => [(B, .free), (o, .row (r (m + 1)) TSl ksSl nV nV), (o + 1, .cells [some (.sl o 3 (.lit 0) (.lit 0) nV nV), some (.sl nB 1 (.lit 0) (.lit 0) (v (m + 3)) (v (m + 4))), some (.int .i64 m0)] 46 none (o + 1))], nb := fun m _ => [.row (r (m + 2)) 3 [.int .i64] (v (m + 3)) (v (m + 4))], inv := fun m _ => [ge (v m) 0, leI (v m) nV, ge (v (m + 3)) 1, le (v (m + 3)) 100, leI (v (m + 3)) m0, leI (v (m + 3)) (v (m + 4)), pB m0 nV (r (m + 1)), pK m0 (v (m + 3)) (r (m + 2)) (r (m + 1))], ms := fun m _ => .dif nV (v m) }
  | none => { nf := 2, src := [.int 8, .brow o], bsrc := [], tm := fun m _ => (8, .int .i64 (v m)) :: bad (4 :: 5 :: upto 9 30), bl := fun m _ => [(o, .row (r (m + 1)) TSl ksSl nV nV), (o + 1, .cells [some (.sl o 3 (.lit 0) (.lit 0) nV nV), some .nilSlice, some (.int .i64 m0)] 46 none (o + 1))], nb := fun _ _ => [], inv := fun m _ => [ge (v m) 0, leI (v m) nV, pB m0 nV (r (m + 1))], ms := fun m _ => .dif nV (v m) }
def z2Ann (o : Nat) (m0 : IE) (b : Option Nat) : Ann := { key := (31, 3, 1), heads := [z2 o m0 b] }
/-- The third loop. bq: the back row's block, its row, its room. -/
def l3 (o : Nat) (bq : Option (Nat × Nat × IE × IE)) : Head :=
  match bq with
  | none => { nf := 3, src := [.int 18, .brow o, .cell (o + 1) 2], bsrc := [], tm := fun m _ => (18, .int .i64 (v m)) :: bad (upto 19 22 ++ upto 129 159), bl := fun m _ => [(o, .row (r (m + 1)) TSl ksSl nV nV), (o + 1, .cells [some (.sl o 3 (.lit 0) (.lit 0) nV nV), some .nilSlice, some (.int .i64 (v (m + 2)))] 46 none (o + 1))], nb := fun _ _ => [], inv := fun m _ => [ge (v m) 0, leI (v m) (v (m + 2)), ge (v (m + 2)) 0, le (v (m + 2)) 100, leI (v (m + 2)) nV, pZ (v (m + 2)) nV (r (m + 1))], ms := fun m _ => .dif (.off nV (.lit 1)) (v m) }
  | some (B, b, n0, c) => { nf := 4, src := [.int 18, .brow o, .cell (o + 1) 2, .len (1101 + 100 * o)], bsrc := [], tm := fun m _ => (18, .int .i64 (v m)) :: bad (upto 19 22 ++ upto 129 159), bl := fun m _ => [(o, .row (r (m + 1)) TSl ksSl nV nV), (o + 1, .cells [some (.sl o 3 (.lit 0) (.lit 0) nV nV), some (.sl B 1 (.lit 0) (.lit 0) (v (m + 3)) c), some (.int .i64 (v (m + 2)))] 46 none (o + 1))], nb := fun _ _ => [], inv := fun m _ => [ge (v m) 0, ge (v (m + 3)) 0, le (v (m + 3)) 100, leI (v (m + 3)) n0, leI (v m) (v (m + 2)), leI (.off (v (m + 3)) (v m)) (v (m + 2)), ge (v (m + 2)) 0, le (v (m + 2)) 100, leI (v (m + 2)) nV, pZ (v (m + 2)) nV (r (m + 1)), pP (v (m + 2)) (v (m + 3)) (r b) (r (m + 1))], ms := fun m _ => .dif (.off nV (.lit 1)) (v m) }
def l3Ann (o : Nat) (bq : Option (Nat × Nat × IE × IE)) : Ann := { key := (166, 23, 8), heads := [l3 o bq] }
/-- The second loop: b: are there some that were given back? m: how many handles there are. -/
def l2 (o : Nat) (m0 : IE) (b : Bool) : Head :=
  if b then { nf := 5, src := [.int 13, .brow o, .row (1101 + 100 * o), .len (1101 + 100 * o), .rc (1101 + 100 * o)], bsrc := [1101 + 100 * o], tm := fun m _ => (13, .int .i64 (v m)) :: bad (14 :: 15 :: 16 :: 17 :: upto 84 128), bl := fun m nB => [(o, .row (r (m + 1)) TSl ksSl nV nV), (o + 1, .cells [some (.sl o 3 (.lit 0) (.lit 0) nV nV), some (.sl nB 1 (.lit 0) (.lit 0) (v (m + 3)) (v (m + 4))), some (.int .i64 m0)] 46 none (o + 1))], nb := fun m _ => [.row (r (m + 2)) 3 [.int .i64] (v (m + 3)) (v (m + 4))], inv := fun m _ => [ge (v m) 0, leI (v m) (v 5), ge (v (m + 3)) 1, le (v (m + 3)) 100, leI (v (m + 3)) m0, leI (v (m + 3)) (v (m + 4)), pB m0 nV (r (m + 1)), pK m0 (v (m + 3)) (r (m + 2)) (r (m + 1))], ms := fun m _ => .dif (v 5) (v m) }
  else { nf := 2, src := [.int 13, .brow o], bsrc := [], tm := fun m _ => (13, .int .i64 (v m)) :: bad (14 :: 15 :: 16 :: 17 :: upto 84 128), bl := fun m _ => [(o, .row (r (m + 1)) TSl ksSl nV nV)], nb := fun _ _ => [], inv := fun m _ => [ge (v m) 0, leI (v m) (v 5), pB m0 nV (r (m + 1))], ms := fun m _ => .dif (v 5) (v m) }
def l2Ann (o : Nat) (m0 : IE) : Ann := { key := (166, 15, 9), heads := [l2 o m0 false, l2 o m0 true] }
/-- o: how many slices are handed in that are there; the slots' block o, the arena's o + 1. -/
def l1 (o : Nat) (first : Bool) : Head :=
  if first then { keep := some 8, nf := 1, src := [.brow o], bsrc := [], tm := fun _ _ => (10, .int .i64 (.lit 0)) :: (9, .nilSlice) :: [], bl := fun m _ => [(o, .row (r m) TSl ksSl nV nV)], nb := fun _ _ => [], inv := fun m _ => [pA (.lit 0) nV (r m)], ms := fun _ _ => v 1 }
  else { keep := some 8, nf := 4, src := [.int 10, .brow o, .row 9, .rc 9], bsrc := [9], tm := fun m nB => (10, .int .i64 (v m)) :: (9, .sl nB 2 (.lit 0) (.lit 0) (v m) (v (m + 3))) :: bad (11 :: 12 :: upto 52 83), bl := fun m _ => [(o, .row (r (m + 1)) TSl ksSl nV nV), (o + 1, .cells [some (.sl o 3 (.lit 0) (.lit 0) nV nV), some .nilSlice, some (.int .i64 (v m))] 46 none (o + 1))], nb := fun m _ => [.row (r (m + 2)) TH ksH (v m) (v (m + 3))], inv := fun m _ => [ge (v m) 1, le (v m) 100, leI (v m) (v 1), leI (v m) nV, leI (v m) (v (m + 3)), pA (v m) nV (r (m + 1)), pH (v m) (r (m + 2))], ms := fun m _ => .dif (v 1) (v m) }
def l1Ann (o : Nat) : Ann := { key := (166, 8, 9), heads := [l1 o true, l1 o false] }
def annsZ : List Bool → List Ann
  | [false, false] => [newAnn 2, l1Ann 2, l2Ann 2 (v 10), z2Ann 2 (v 10) none, z2Ann 2 (v 10) (some 10), z2Ann 2 (v 10) (some 11), z2Ann 2 (v 10) (some 5), l3Ann 2 none, l3Ann 2 (some (5, 16, v 17, v 18))]
  | [false, true] => [newAnn 1, l1Ann 1, l3Ann 1 none]
  | [true, false] => [newAnn 1, l3Ann 1 none]
  | _ => [newAnn 0, l3Ann 0 none]
def cfgZ (fl : List Bool) : Cfg := { rules := azRules ++ twoRules ++ threeRules, grow := true, anns := annsZ fl }
def azGrp : Nat → List (List BE)
  | 0 => [[leI (v 1) nV]]
  | _ => [[ltI nV (v 1)]]
def csZ : List Bool → List (List BE)
  | [false, false] => (List.range 2).flatMap azGrp
  | _ => [[]]
def numI (x : List Value) (j : Int) : Int := numAt x j.toNat
/-- Numbers below m, places that are not in use, each of them once. -/
def backs (m q : Int) (b x : List Value) : Prop := ∀ i, 0 ≤ i → i < q → 0 ≤ numI b i ∧ numI b i < m ∧ numI b i ≤ 100 ∧ numI x (numI b i * 3 + 1) ≠ 1 ∧ ∀ j, 0 ≤ j → j < i → numI b j ≠ numI b i
def prd : Nat → List Int → List (List UInt8) → List (List Value) → Prop
  | 1, [k, n], _, [x] => (x.length : Int) = n * 3 ∧ ∀ i, 0 ≤ i → i < n → (i < k → numI x (i * 3 + 0) = 1) ∧ numI x (i * 3 + 1) = 0 ∧ numI x (i * 3 + 2) = 0
  | 2, [m, n], _, [x] => (x.length : Int) = n * 3 ∧ 0 ≤ m ∧ m ≤ n ∧ ∀ i, 0 ≤ i → i < n → numI x (i * 3 + 0) = 1 ∧ (i < m → numI x (i * 3 + 1) = 1) ∧ (m ≤ i → numI x (i * 3 + 1) = 0 ∧ numI x (i * 3 + 2) = 0)
  | 3, [m], _, [h] => (h.length : Int) = m * 2 ∧ ∀ i, 0 ≤ i → i < m → numI h (i * 2 + 0) = i ∧ numI h (i * 2 + 1) = 1
  | 4, [m, n], _, [x] => (x.length : Int) = n * 3 ∧ 0 ≤ m ∧ m ≤ n ∧ ∀ i, 0 ≤ i → i < n → (numI x (i * 3 + 1) ≠ 1 → numI x (i * 3 + 2) = 0) ∧ (numI x (i * 3 + 1) = 1 → numI x (i * 3 + 0) = 1 ∧ i < m)
  | 5, [m, q], _, [b, x] => 1 ≤ q ∧ (b.length : Int) = q ∧ backs m q b x
  | 6, [f, n], _, [x] => (x.length : Int) = n * 3 ∧ ∀ i, 0 ≤ i → i < n → (numI x (i * 3 + 1) ≠ 1 → numI x (i * 3 + 2) = 0) ∧ (f ≤ i → numI x (i * 3 + 1) ≠ 1)
  | 7, [m, q], _, [b, x] => backs m q b x
  | _, _, _, _ => False
section
variable {ι : Unk} (hp : ι.prd = prd)
include hp
theorem d_new {k n : IE} {x : RX} : (pNew k n x).den ι = true ↔ prd 1 [k.den ι, n.den ι] [] [x.den ι] := n_usr hp
theorem d_a {k n : IE} {x : RX} : (pA k n x).den ι = true ↔ prd 2 [k.den ι, n.den ι] [] [x.den ι] := n_usr hp
theorem d_h {k : IE} {x : RX} : (pH k x).den ι = true ↔ prd 3 [k.den ι] [] [x.den ι] := n_usr hp
theorem d_b {k n : IE} {x : RX} : (pB k n x).den ι = true ↔ prd 4 [k.den ι, n.den ι] [] [x.den ι] := n_usr hp
theorem d_k {k n : IE} {b x : RX} : (pK k n b x).den ι = true ↔ prd 5 [k.den ι, n.den ι] [] [b.den ι, x.den ι] := n_usr hp
theorem d_z {k n : IE} {x : RX} : (pZ k n x).den ι = true ↔ prd 6 [k.den ι, n.den ι] [] [x.den ι] := n_usr hp
theorem d_p {k n : IE} {b x : RX} : (pP k n b x).den ι = true ↔ prd 7 [k.den ι, n.den ι] [] [b.den ι, x.den ι] := n_usr hp
end
theorem setI {l y : List Value} {p j : Int} (hp : 0 ≤ p) (hj : 0 ≤ j) (h : p + y.length ≤ l.length) : numI (setAt l p.toNat y) j = if p ≤ j ∧ j < p + y.length then numI y (j - p) else numI l j := by
  unfold numI
  rw [numAt_set (by omega)]
  by_cases hc : p ≤ j ∧ j < p + y.length
  · rw [if_pos hc, if_pos (by omega), show (j - p).toNat = j.toNat - p.toNat by omega]
  · rw [if_neg hc, if_neg (by omega)]
theorem set1 {l : List Value} {p : Int} {c : Value} (hp : 0 ≤ p) (h : p < l.length) : (setAt l p.toNat [c]).length = l.length ∧ numI (setAt l p.toNat [c]) p = cellInt (some c) ∧ ∀ j, 0 ≤ j → j ≠ p → numI (setAt l p.toNat [c]) j = numI l j := by
  have hl : p + ([c] : List Value).length ≤ l.length := by simp only [List.length_singleton]; omega
  refine ⟨setAt_length (by omega), ?_, fun j hj hn => ?_⟩
  · rw [setI hp hp hl, if_pos (by simp only [List.length_singleton]; omega), Int.sub_self]
    rfl
  · rw [setI hp hj hl, if_neg (by simp only [List.length_singleton]; omega)]
theorem set3 {l : List Value} {p : Int} {a b c : Value} (hp : 0 ≤ p) (h : p + 2 < l.length) : (setAt l p.toNat [a, b, c]).length = l.length ∧ numI (setAt l p.toNat [a, b, c]) (p + 1) = cellInt (some b) ∧ numI (setAt l p.toNat [a, b, c]) (p + 2) = cellInt (some c) ∧ ∀ j, 0 ≤ j → j ≠ p → j ≠ p + 1 → j ≠ p + 2 → numI (setAt l p.toNat [a, b, c]) j = numI l j := by
  have e : (([a, b, c] : List Value).length : Int) = 3 := rfl
  have hl : p + ([a, b, c] : List Value).length ≤ l.length := by omega
  refine ⟨setAt_length (by omega), ?_, ?_, fun j hj h1 h2 h3 => ?_⟩
  · rw [setI hp (by omega) hl, if_pos (by omega), show p + 1 - p = 1 by omega]
    rfl
  · rw [setI hp (by omega) hl, if_pos (by omega), show p + 2 - p = 2 by omega]
    rfl
  · rw [setI hp hj hl, if_neg (by omega)]
theorem catI {l y : List Value} {j : Int} (hj : 0 ≤ j) : numI (l ++ y) j = if j < l.length then numI l j else numI y (j - l.length) := by
  unfold numI numAt
  by_cases h : j < l.length
  · rw [if_pos h, List.getElem?_append_left (by omega)]
  · rw [if_neg h, List.getElem?_append_right (by omega), show (j - (l.length : Int)).toNat = j.toNat - l.length by omega]
theorem pigeon : ∀ (m q : Nat) (f : Nat → Nat), (∀ i, i < q → f i < m) → (∀ i j, j < i → i < q → f j ≠ f i) → q ≤ m
  | 0, q, f, h, _ => by
    rcases Nat.eq_zero_or_pos q with h0 | h0
    · omega
    · have := h 0 h0; omega
  | m + 1, 0, _, _, _ => by omega
  | m + 1, q + 1, f, h, hd => by
    -- what is m's place gets the last one's
    have := pigeon m q (fun i => if f i = m then f q else f i) (fun i hi => by
      have h1 := h i (by omega)
      have h2 := h q (by omega)
      have h3 := hd q i hi (by omega)
      show (if f i = m then f q else f i) < m
      split <;> omega) (fun i j hj hi => by
      have h1 := hd i j hj (by omega)
      have h2 := hd q i hi (by omega)
      have h3 := hd q j (by omega) (by omega)
      show (if f j = m then f q else f j) ≠ (if f i = m then f q else f i)
      split <;> split <;> omega)
    omega
theorem backs_le {m q : Int} {b x : List Value} (hm : 0 ≤ m) (h : backs m q b x) : q ≤ m := by
  have := pigeon m.toNat q.toNat (fun i => (numI b i).toNat) (fun i hi => by
    have := h i (by omega) (by omega)
    show (numI b i).toNat < m.toNat
    omega) (fun i j hj hi => by
    have h1 := h i (by omega) (by omega)
    have h2 := h j (by omega) (by omega)
    have := h1.2.2.2.2 j (by omega) (by omega)
    show (numI b j).toNat ≠ (numI b i).toNat
    omega)
  omega
theorem new_rep {n : Int} (h : 0 ≤ n) : prd 1 [0, n] [] [(List.replicate n.toNat [Value.int .u64 0, .bool false, .int .i64 0]).flatten] := by
  have hz : ∀ j, numI (List.replicate n.toNat [Value.int .u64 0, .bool false, .int .i64 0]).flatten j = 0 := by
    intro j
    unfold numI numAt
    cases e : ((List.replicate n.toNat [Value.int .u64 0, .bool false, .int .i64 0]).flatten)[j.toNat]? with
    | none => rfl
    | some v =>
      obtain ⟨l, hl, hv⟩ := List.mem_flatten.1 (List.mem_of_getElem? e)
      rw [List.eq_of_mem_replicate hl] at hv
      simp only [List.mem_cons, List.not_mem_nil, or_false] at hv
      rcases hv with rfl | rfl | rfl <;> rfl
  refine ⟨?_, fun i h0 h1 => ⟨fun h => by omega, hz _, hz _⟩⟩
  have : ((List.replicate n.toNat [Value.int .u64 0, .bool false, .int .i64 0]).flatten).length = n.toNat * 3 := by simp [List.length_flatten]
  omega
theorem new_set {k n : Int} {x : List Value} (h0 : 0 ≤ k) (h1 : k < n) (h : prd 1 [k, n] [] [x]) : prd 1 [k + 1, n] [] [setAt x (k * 3 + 0).toNat [.int .u64 1]] := by
  obtain ⟨hl, h⟩ := h
  obtain ⟨e, e1, e2⟩ := set1 (l := x) (p := k * 3 + 0) (c := .int .u64 1) (by omega) (by omega)
  refine ⟨by rw [e]; exact hl, fun i hi hn => ⟨fun h2 => ?_, ?_, ?_⟩⟩
  · by_cases h3 : i = k
    · subst h3; exact e1
    · rw [e2 _ (by omega) (by omega)]; exact (h i hi hn).1 (by omega)
  · rw [e2 _ (by omega) (by omega)]; exact (h i hi hn).2.1
  · rw [e2 _ (by omega) (by omega)]; exact (h i hi hn).2.2
theorem a_new {k n : Int} {x : List Value} (h1 : n ≤ k) (h : prd 1 [k, n] [] [x]) : prd 2 [0, n] [] [x] :=
  ⟨h.1, by omega, by have := h.1; omega, fun i hi hn => ⟨(h.2 i hi hn).1 (by omega), fun h3 => by omega, fun _ => (h.2 i hi hn).2⟩⟩
theorem b_a {m n : Int} {x : List Value} (h : prd 2 [m, n] [] [x]) : prd 4 [m, n] [] [x] := by
  obtain ⟨hl, h0, h1, h⟩ := h
  refine ⟨hl, h0, h1, fun i hi hn => ?_⟩
  obtain ⟨g0, g1, g2⟩ := h i hi hn
  by_cases hc : i < m
  · exact ⟨fun h3 => absurd (g1 hc) h3, fun _ => ⟨g0, hc⟩⟩
  · exact ⟨fun _ => (g2 (by omega)).2, fun h3 => by have := (g2 (by omega)).1; omega⟩
theorem z_b {m n : Int} {x : List Value} (h : prd 4 [m, n] [] [x]) : prd 6 [m, n] [] [x] := by
  obtain ⟨hl, h0, h1, h⟩ := h
  exact ⟨hl, fun i hi hn => ⟨(h i hi hn).1, fun h3 h4 => by have := ((h i hi hn).2 h4).2; omega⟩⟩
theorem z_new {k n : Int} {x : List Value} (_ : n ≤ k) (h : prd 1 [k, n] [] [x]) : prd 6 [0, n] [] [x] :=
  ⟨h.1, fun i hi hn => ⟨fun _ => (h.2 i hi hn).2.2, fun _ h3 => by have := (h.2 i hi hn).2.1; omega⟩⟩
theorem a_set {m n : Int} {x y : List Value} {w : Int} (h1 : m < n) (h : prd 2 [m, n] [] [x]) (hy : y = setAt x (m * 3 + 1).toNat [.bool true]) :
    numI y (m * 3 + 1) = 1 ∧ numI y (m * 3 + 0) = 1 ∧ prd 2 [m + 1, n] [] [setAt y (m * 3 + 2).toNat [.int .i64 w]] := by
  subst hy
  obtain ⟨hl, h0, _, h⟩ := h
  obtain ⟨e, e1, e2⟩ := set1 (l := x) (p := m * 3 + 1) (c := .bool true) (by omega) (by omega)
  obtain ⟨f, f1, f2⟩ := set1 (l := setAt x (m * 3 + 1).toNat [.bool true]) (p := m * 3 + 2) (c := .int .i64 w) (by omega) (by omega)
  refine ⟨e1, by rw [e2 _ (by omega) (by omega)]; exact (h m h0 h1).1, by rw [f, e]; exact hl, by omega, by omega, fun i hi hn => ⟨?_, fun h2 => ?_, fun h2 => ⟨?_, ?_⟩⟩⟩
  · rw [f2 _ (by omega) (by omega), e2 _ (by omega) (by omega)]; exact (h i hi hn).1
  · rw [f2 _ (by omega) (by omega)]
    by_cases h3 : i = m
    · subst h3; exact e1
    · rw [e2 _ (by omega) (by omega)]; exact (h i hi hn).2.1 (by omega)
  · rw [f2 _ (by omega) (by omega), e2 _ (by omega) (by omega)]; exact ((h i hi hn).2.2 (by omega)).1
  · rw [f2 _ (by omega) (by omega), e2 _ (by omega) (by omega)]; exact ((h i hi hn).2.2 (by omega)).2
theorem h_one : prd 3 [1] [] [[.int .i64 0, .int .u64 1]] := by
  refine ⟨rfl, fun i h0 h1 => ?_⟩
  obtain rfl : i = 0 := by omega
  exact ⟨rfl, rfl⟩
theorem h_cat {m : Int} {h : List Value} (h0 : 0 ≤ m) (hh : prd 3 [m] [] [h]) : prd 3 [m + 1] [] [h ++ [.int .i64 m, .int .u64 1]] := by
  obtain ⟨hl, hh⟩ := hh
  refine ⟨?_, fun i hi hn => ?_⟩
  · rw [List.length_append]
    show (((h.length + 2 : Nat) : Int)) = _
    omega
  · rw [catI (by omega), catI (by omega)]
    by_cases h3 : i = m
    · subst h3
      rw [if_neg (by omega), if_neg (by omega), show i * 2 + 0 - (h.length : Int) = 0 by omega, show i * 2 + 1 - (h.length : Int) = 1 by omega]
      exact ⟨rfl, rfl⟩
    · rw [if_pos (by omega), if_pos (by omega)]
      exact hh i hi (by omega)
theorem wrap1 : IntKind.u64.wrap 1 = 1 := by rw [wrap_u64]; rfl
theorem azRules_ok (ι : Unk) (hp : ι.prd = prd) : ∀ r ∈ azRules, ROk ι r := by
  refine all_cons ?_ (all_cons ?_ (all_cons ?_ (all_cons ?_ (all_cons ?_ (all_cons ?_ (all_cons ?_ (all_cons ?_ (all_cons ?_ (all_cons ?_ (all_cons ?_ (all_cons ?_ (all_cons ?_ (all_cons ?_ all_nil))))))))))))) <;> intro hf h <;>
    simp only [List.mem_cons, List.not_mem_nil, or_false, forall_eq_or_imp, forall_eq, n_isrow, d_new hp, d_a hp, d_h hp, n_not, n_lss, n_geq, n_gtr, n_n] at hf h
  · rw [n_lss, n_dif, n_n]; omega
  · rw [n_lss, n_dif, n_dif, n_off, n_n]; omega
  · rw [n_geq, n_dif, n_n]; omega
  · exact (d_new hp).2 (new_rep h)
  · exact (d_new hp).2 (new_set h.1 h.2 hf)
  · exact (d_a hp).2 (a_new (by omega) hf)
  · exact (d_b hp).2 (b_a hf)
  · exact (d_z hp).2 (z_new (by omega) hf)
  · exact n_eql.2 (a_set (m := 0) (w := 0) h hf.2 hf.1).1
  · exact n_eql.2 (a_set (w := 0) h.2 hf.2 hf.1).1
  · exact (d_a hp).2 (a_set (m := 0) h hf.2 hf.1).2.2
  · exact (d_a hp).2 (a_set h.2 hf.2 hf.1).2.2
  · obtain ⟨h1, h2, h3⟩ := hf
    refine (d_h hp).2 ?_
    have e := (a_set (m := 0) (w := 0) h h3 h2).2.1
    have : RX.den ι (r 0) = [.int .i64 0, .int .u64 (IntKind.u64.wrap (numI (ι.fr 1) (0 * 3 + 0)))] := h1
    rw [this, show numI (ι.fr 1) (0 * 3 + 0) = 1 from e, wrap1]
    exact h_one
  · obtain ⟨h1, h2, h3, h4⟩ := hf
    refine (d_h hp).2 ?_
    have e := (a_set (w := 0) h.2 h4 h3).2.1
    have : RX.den ι (r 0) = ι.fr 4 ++ [.int .i64 ((v 5).den ι), .int .u64 (IntKind.u64.wrap (numI (ι.fr 1) ((v 5).den ι * 3 + 0)))] := h1
    rw [this, show numI (ι.fr 1) ((v 5).den ι * 3 + 0) = 1 from e, wrap1]
    exact h_cat h.1 h2
theorem gave {m n X g : Int} {x y : List Value} (h0 : 0 ≤ X) (h1 : X < m) (h : prd 4 [m, n] [] [x]) (hy : y = setAt x (X * 3 + 0).toNat [.int .u64 g, .bool false, .int .i64 0]) :
    prd 4 [m, n] [] [y] ∧ numI y (X * 3 + 1) = 0 ∧ numI y (X * 3 + 2) = 0 ∧ ∀ i, 0 ≤ i → numI x (i * 3 + 1) ≠ 1 → numI y (i * 3 + 1) ≠ 1 := by
  subst hy
  obtain ⟨hl, hm, hn, h⟩ := h
  obtain ⟨e, e1, e2, e3⟩ := set3 (l := x) (p := X * 3 + 0) (a := .int .u64 g) (b := .bool false) (c := .int .i64 0) (by omega) (by omega)
  have k1 : numI (setAt x (X * 3 + 0).toNat [.int .u64 g, .bool false, .int .i64 0]) (X * 3 + 1) = 0 := by rw [show X * 3 + 1 = X * 3 + 0 + 1 by omega]; exact e1
  have k2 : numI (setAt x (X * 3 + 0).toNat [.int .u64 g, .bool false, .int .i64 0]) (X * 3 + 2) = 0 := by rw [show X * 3 + 2 = X * 3 + 0 + 2 by omega]; exact e2
  refine ⟨⟨by rw [e]; exact hl, hm, hn, fun i hi hi2 => ?_⟩, k1, k2, fun i hi h2 => ?_⟩
  · by_cases h3 : i = X
    · subst h3
      exact ⟨fun _ => k2, fun h4 => by omega⟩
    · rw [e3 _ (by omega) (by omega) (by omega) (by omega), e3 _ (by omega) (by omega) (by omega) (by omega), e3 _ (by omega) (by omega) (by omega) (by omega)]
      exact h i hi hi2
  · by_cases h3 : i = X
    · subst h3; omega
    · rw [e3 _ (by omega) (by omega) (by omega) (by omega)]; exact h2
theorem k_one {m X : Int} {y : List Value} (h0 : 0 ≤ X) (h1 : X < m) (h2 : m ≤ 100) (h3 : numI y (X * 3 + 1) ≠ 1) : prd 5 [m, 1] [] [[.int .i64 X], y] := by
  refine ⟨by omega, rfl, fun i hi hi2 => ?_⟩
  obtain rfl : i = 0 := by omega
  have e : numI [.int .i64 X] 0 = X := rfl
  rw [e]
  exact ⟨h0, h1, by omega, h3, fun j _ _ => by omega⟩
theorem k_cat {m q X : Int} {b x y : List Value} (h0 : 0 ≤ X) (h1 : X < m) (h2 : m ≤ 100) (h3 : numI y (X * 3 + 1) ≠ 1) (hx : numI x (X * 3 + 1) = 1) (hxy : ∀ i, 0 ≤ i → numI x (i * 3 + 1) ≠ 1 → numI y (i * 3 + 1) ≠ 1)
    (h : prd 5 [m, q] [] [b, x]) : prd 5 [m, q + 1] [] [b ++ [.int .i64 X], y] := by
  obtain ⟨hq, hl, h⟩ := h
  have old : ∀ i, 0 ≤ i → i < q → numI (b ++ [.int .i64 X]) i = numI b i := fun i hi hi2 => by rw [catI hi, if_pos (by omega)]
  have new : numI (b ++ [.int .i64 X]) q = X := by
    rw [catI (by omega), if_neg (by omega), show q - (b.length : Int) = 0 by omega]
    rfl
  refine ⟨by omega, ?_, fun i hi hi2 => ?_⟩
  · rw [List.length_append]
    show (((b.length + 1 : Nat) : Int)) = _
    omega
  · by_cases h4 : i = q
    · subst h4
      rw [new]
      refine ⟨h0, h1, by omega, h3, fun j hj hj2 => ?_⟩
      rw [old j hj hj2]
      intro e
      have := (h j hj hj2).2.2.2.1
      rw [e] at this
      exact this hx
    · rw [old i hi (by omega)]
      obtain ⟨g0, g1, g2, g3, g4⟩ := h i hi (by omega)
      refine ⟨g0, g1, g2, hxy _ g0 g3, fun j hj hj2 => ?_⟩
      rw [old j hj (by omega)]
      exact g4 j hj hj2
theorem k_le {m q X : Int} {b x : List Value} (h0 : 0 ≤ X) (h1 : X < m) (hx : numI x (X * 3 + 1) = 1) (h : prd 5 [m, q] [] [b, x]) : q + 1 ≤ m := by
  obtain ⟨hq, hl, h⟩ := h
  have ne : ∀ j, 0 ≤ j → j < q → numI b j ≠ X := fun j hj hj2 e => by
    have := (h j hj hj2).2.2.2.1
    rw [e] at this
    exact this hx
  have := pigeon m.toNat (q + 1).toNat (fun i => if (i : Int) < q then (numI b i).toNat else X.toNat) (fun i hi => by
    show (if (i : Int) < q then (numI b i).toNat else X.toNat) < m.toNat
    by_cases hc : (i : Int) < q
    · rw [if_pos hc]; have := h i (by omega) hc; omega
    · rw [if_neg hc]; omega) (fun i j hj hi => by
    show (if (j : Int) < q then (numI b j).toNat else X.toNat) ≠ (if (i : Int) < q then (numI b i).toNat else X.toNat)
    have h2 := h j (by omega) (by omega)
    rw [if_pos (by omega)]
    by_cases hc : (i : Int) < q
    · rw [if_pos hc]
      have h1 := h i (by omega) hc
      have := h1.2.2.2.2 j (by omega) (by omega)
      omega
    · rw [if_neg hc]
      have := ne j (by omega) (by omega)
      omega)
  omega
section
variable {ι : Unk}
theorem jx_ok {a m : IE} (h1 : 1 ≤ m.den ι) (h2 : m.den ι ≤ 100) : 0 ≤ (jx a m).den ι ∧ (jx a m).den ι < m.den ι := by
  have e : (jx a m).den ι = IntKind.i64.wrap (IntKind.u64.wrap (a.den ι) % m.den ι) := by
    show IntKind.i64.wrap ((intBin .rem .u64 (IntKind.u64.wrap (a.den ι)) (m.den ι)).getD 0) = _
    rw [rem_nat (by rw [wrap_u64]; omega) (by omega)]
  have a1 := Int.emod_nonneg (IntKind.u64.wrap (a.den ι)) (show m.den ι ≠ 0 by omega)
  have a2 := Int.emod_lt_of_pos (IntKind.u64.wrap (a.den ι)) (show 0 < m.den ι by omega)
  rw [e, wrap_i64 (by omega) (by omega)]
  exact ⟨a1, a2⟩
theorem x0_ok {a m : IE} {h : Nat} (h1 : 1 ≤ m.den ι) (h2 : m.den ι ≤ 100) (hh : prd 3 [m.den ι] [] [ι.fr h]) :
    0 ≤ (hx h a m).den ι ∧ (hx h a m).den ι < m.den ι ∧ (hg h a m).den ι = 1 := by
  obtain ⟨j0, j1⟩ := jx_ok (a := a) h1 h2
  obtain ⟨g0, g1⟩ := hh.2 _ j0 j1
  have e0 : (hx h a m).den ι = IntKind.i64.wrap (numI (ι.fr h) ((jx a m).den ι * 2 + 0)) := rfl
  have e1 : (hg h a m).den ι = IntKind.u64.wrap (numI (ι.fr h) ((jx a m).den ι * 2 + 1)) := rfl
  rw [e0, e1, g0, g1, wrap1, wrap_i64 (by omega) (by omega)]
  exact ⟨j0, j1, rfl⟩
theorem X_ok (h1 : 1 ≤ (v 1).den ι) (h2 : (v 1).den ι ≤ 100) (hh : prd 3 [(v 1).den ι] [] [ι.fr 0]) : 0 ≤ X0.den ι ∧ X0.den ι < (v 1).den ι ∧ (hg 0 (v 2) (v 1)).den ι = 1 := x0_ok h1 h2 hh
theorem gen_den {x : Nat} {i : IE} (h : numI (ι.fr x) (i.den ι * 3 + 0) = 1) : (gen x i).den ι = 1 := by
  show IntKind.u64.wrap (numI (ι.fr x) (i.den ι * 3 + 0)) = 1
  rw [h, wrap1]
theorem valu_den {x : Nat} {i : IE} (h : numI (ι.fr x) (i.den ι * 3 + 2) = 0) : (valu x i).den ι = 0 := by
  show IntKind.i64.wrap (numI (ι.fr x) (i.den ι * 3 + 2)) = 0
  rw [h, wrap_i64 (by omega) (by omega)]
theorem used_den {x : Nat} {i : IE} : (used x i).den ι = true ↔ numI (ι.fr x) (i.den ι * 3 + 1) = 1 := n_eql
theorem nought {x : Nat} {i : IE} (h : numI (ι.fr x) (i.den ι * 3 + 2) = 0) : (BE.not (.cmp .neq (valu x i) (.lit 0))).den ι = true := n_not.2 fun h2 => n_neq.1 h2 (valu_den h)
end
theorem twoRules_ok (ι : Unk) (hp : ι.prd = prd) : ∀ r ∈ twoRules, ROk ι r := by
  refine all_cons ?_ (all_cons ?_ (all_cons ?_ (all_cons ?_ (all_cons ?_ (all_cons ?_ (all_cons ?_ (all_cons ?_ (all_cons ?_ (all_cons ?_ (all_cons ?_ (all_cons ?_ (all_cons ?_ (all_cons ?_ (all_cons ?_ (all_cons ?_ all_nil))))))))))))))) <;> intro hf h <;>
    simp only [List.mem_cons, List.not_mem_nil, or_false, forall_eq_or_imp, forall_eq, n_isrow, d_h hp, d_b hp, d_k hp, used_den, n_not, n_lss, n_leq, n_geq, n_n] at hf h
  · exact n_geq.2 (jx_ok h.1 h.2).1
  · exact n_lss.2 (jx_ok h.1 h.2).2
  · exact n_geq.2 (X_ok h.1 h.2 hf).1
  · exact n_not.2 fun h3 => by have := n_lss.1 h3; have := (X_ok h.1 h.2 hf).1; rw [n_n] at *; omega
  · exact n_lss.2 (by have := (X_ok h.2.1 h.2.2 hf).2.1; omega)
  · obtain ⟨h1, h2, h3⟩ := hf
    obtain ⟨x0, x1, x2⟩ := X_ok h.1 h.2 h3
    refine n_eql.2 ?_
    rw [x2]
    exact gen_den ((h1.2.2.2 _ x0 (by have := h1.2.2.1; omega)).2 h2).1
  · exact n_eql.2 (valu_den ((hf.1.2.2.2 _ h.1 h.2).1 hf.2))
  · exact nought ((hf.1.2.2.2 _ h.1 h.2).1 hf.2)
  · obtain ⟨h1, h2, h3⟩ := hf
    obtain ⟨x0, x1, x2⟩ := X_ok h.2.1 h.2.2 h3
    exact nought ((h1.2.2.2 _ x0 (by have := h1.2.2.1; omega)).1 h2)
  · obtain ⟨h1, h2, h3⟩ := hf
    obtain ⟨x0, x1, x2⟩ := X_ok h.1 h.2 h3
    exact (d_b hp).2 (gave x0 x1 h2 h1).1
  · obtain ⟨h1, h2, h3⟩ := hf
    obtain ⟨x0, x1, x2⟩ := X_ok h.1 h.2 h3
    have g : numI (ι.fr 3) (X0.den ι * 3 + 1) = 0 := (gave x0 x1 h2 h1).2.1
    exact n_not.2 fun h4 => by have u : numI (ι.fr 3) (X0.den ι * 3 + 1) = 1 := used_den.1 h4; omega
  · obtain ⟨h1, h2, h3⟩ := hf
    obtain ⟨x0, x1, x2⟩ := X_ok h.1 h.2 h3
    exact nought (gave x0 x1 h2 h1).2.2.1
  · obtain ⟨h1, h2, h3, h4⟩ := hf
    obtain ⟨x0, x1, x2⟩ := X_ok h.1 h.2 h4
    refine (d_k hp).2 ?_
    rw [show RX.den ι (r 6) = _ from h2]
    exact k_one x0 x1 h.2 (by rw [show numI (RX.den ι (r 3)) _ = _ from (gave x0 x1 h3 h1).2.1]; omega)
  · obtain ⟨h1, h2, h3, h4, h5, h6⟩ := hf
    obtain ⟨x0, x1, x2⟩ := X_ok h.1 h.2 h6
    obtain ⟨_, g1, _, g3⟩ := gave x0 x1 h5 h1
    refine (d_k hp).2 ?_
    rw [show RX.den ι (r 6) = _ from h2]
    exact k_cat x0 x1 h.2 (by rw [show numI (RX.den ι (r 3)) _ = _ from g1]; omega) h4 g3 h3
  · obtain ⟨h1, h2, h3⟩ := hf
    obtain ⟨x0, x1, x2⟩ := X_ok h.1 h.2 h3
    have := k_le x0 x1 h2 h1
    exact n_not.2 fun h4 => by have := n_lss.1 h4; rw [n_off, n_n] at this; omega
  · obtain ⟨h1, h2, h3⟩ := hf
    obtain ⟨x0, x1, x2⟩ := X_ok h.1 h.2 h3
    have := k_le x0 x1 h2 h1
    exact n_leq.2 (by rw [n_off, n_n, n_n]; omega)
theorem pop {m q n : Int} {b x y : List Value} (hq : 1 ≤ q) (hmn : m ≤ n) (h : backs m q b x) (hz : prd 6 [m, n] [] [x]) (hy : y = setAt x (numI b (q + -1) * 3 + 1).toNat [.bool true]) :
    numI y (numI b (q + -1) * 3 + 1) = 1 ∧ backs m (q + -1) b y ∧ prd 6 [m, n] [] [y] ∧ numI y (numI b (q + -1) * 3 + 2) = 0 := by
  subst hy
  obtain ⟨hl, hz⟩ := hz
  obtain ⟨g0, g1, g2, g3, g4⟩ := h (q + -1) (by omega) (by omega)
  obtain ⟨e, e1, e2⟩ := set1 (l := x) (p := numI b (q + -1) * 3 + 1) (c := .bool true) (by omega) (by omega)
  refine ⟨e1, fun i hi hi2 => ?_, ⟨by rw [e]; exact hl, fun i hi hi2 => ?_⟩, ?_⟩
  · obtain ⟨k0, k1, k2, k3, k4⟩ := h i hi (by omega)
    have := g4 i hi hi2
    refine ⟨k0, k1, k2, ?_, k4⟩
    rw [e2 _ (by omega) (by omega)]
    exact k3
  · by_cases h3 : i = numI b (q + -1)
    · rw [h3]
      exact ⟨fun h4 => absurd e1 h4, fun h4 => by omega⟩
    · rw [e2 _ (by omega) (by omega), e2 _ (by omega) (by omega)]
      exact hz i hi hi2
  · rw [e2 _ (by omega) (by omega)]
    exact (hz _ g0 (by omega)).1 g3
theorem fresh {f n : Int} {x y : List Value} (h0 : 0 ≤ f) (h1 : f < n) (hz : prd 6 [f, n] [] [x]) (hy : y = setAt x (f * 3 + 1).toNat [.bool true]) :
    numI y (f * 3 + 1) = 1 ∧ prd 6 [f + 1, n] [] [y] ∧ numI y (f * 3 + 2) = 0 := by
  subst hy
  obtain ⟨hl, hz⟩ := hz
  obtain ⟨e, e1, e2⟩ := set1 (l := x) (p := f * 3 + 1) (c := .bool true) (by omega) (by omega)
  refine ⟨e1, ⟨by rw [e]; exact hl, fun i hi hi2 => ?_⟩, ?_⟩
  · by_cases h3 : i = f
    · rw [h3]
      exact ⟨fun h4 => absurd e1 h4, fun h4 => by omega⟩
    · rw [e2 _ (by omega) (by omega), e2 _ (by omega) (by omega)]
      exact ⟨(hz i hi hi2).1, fun h4 => (hz i hi hi2).2 (by omega)⟩
  · rw [e2 _ (by omega) (by omega)]
    exact (hz f h0 h1).1 ((hz f h0 h1).2 (by omega))
theorem yb_den {ι : Unk} {m : Int} {x : List Value} (h : backs m ((v 1).den ι) (ι.fr 2) x) (hq : 1 ≤ (v 1).den ι) : yb.den ι = numI (ι.fr 2) ((v 1).den ι + -1) ∧ 0 ≤ yb.den ι ∧ yb.den ι < m := by
  obtain ⟨g0, g1, g2, _⟩ := h ((v 1).den ι + -1) (by omega) (by omega)
  have e : yb.den ι = IntKind.i64.wrap (numI (ι.fr 2) ((v 1).den ι + -1)) := rfl
  rw [wrap_i64 (by omega) (by omega)] at e
  rw [e]
  exact ⟨rfl, g0, g1⟩
theorem yb_set {ι : Unk} {m : Int} {x : List Value} (h : backs m ((v 1).den ι) (ι.fr 2) x) (hq : 1 ≤ (v 1).den ι) (hs : ι.fr 4 = RX.den ι (.set (r 3) (.lin yb 3 1) one1)) : ι.fr 4 = setAt (ι.fr 3) (numI (ι.fr 2) ((v 1).den ι + -1) * 3 + 1).toNat [.bool true] := by
  rw [← (yb_den h hq).1]
  exact hs
theorem threeRules_ok (ι : Unk) (hp : ι.prd = prd) : ∀ r ∈ threeRules, ROk ι r := by
  refine all_cons ?_ (all_cons ?_ (all_cons ?_ (all_cons ?_ (all_cons ?_ (all_cons ?_ (all_cons ?_ (all_cons ?_ (all_cons ?_ (all_cons ?_ (all_cons ?_ (all_cons ?_ (all_cons ?_ (all_cons ?_ (all_cons ?_ (all_cons ?_ (all_cons ?_ (all_cons ?_ (all_cons ?_ (all_cons ?_ (all_cons ?_ (all_cons ?_ (all_cons ?_ (all_cons ?_ (all_cons ?_ (all_cons ?_ (all_cons ?_ (all_cons ?_ (all_cons ?_ (all_cons ?_ (all_cons ?_ all_nil)))))))))))))))))))))))))))))) <;> intro hf h <;>
    simp only [List.mem_cons, List.not_mem_nil, or_false, forall_eq_or_imp, forall_eq, n_isrow, d_a hp, d_b hp, d_k hp, d_z hp, d_p hp, n_not, n_lss, n_leq, n_geq, n_gtr, n_dif, n_off, n_n] at hf h
  · exact (d_z hp).2 (z_b hf)
  · exact (d_z hp).2 (z_b (b_a hf))
  · exact n_not.2 fun h4 => by
      have := n_lss.1 h4
      obtain ⟨hq, hl, hb⟩ := hf
      have g := hb 0 (by omega) (by omega)
      have := backs_le (by omega) hb
      omega
  · exact (d_p hp).2 hf.2.2
  · exact n_geq.2 (yb_den hf h).2.1
  · exact n_lss.2 (by have := (yb_den hf h.1).2.2; omega)
  · obtain ⟨h1, h2, h3⟩ := hf
    refine n_eql.2 ?_
    show numI (ι.fr 4) (yb.den ι * 3 + 1) = 1
    rw [(yb_den h1 h.1).1]
    exact (pop h.1 (by omega) h1 h3 (yb_set h1 h.1 h2)).1
  · obtain ⟨h1, h2, h3⟩ := hf
    exact (d_p hp).2 (pop h.1 (by omega) h1 h3 (yb_set h1 h.1 h2)).2.1
  · obtain ⟨h1, h2, h3⟩ := hf
    exact (d_z hp).2 (pop h.1 (by omega) h1 h3 (yb_set h1 h.1 h2)).2.2.1
  · obtain ⟨h1, h2, h3⟩ := hf
    exact n_eql.2 (valu_den (by rw [(yb_den h1 h.1).1]; exact (pop h.1 (by omega) h1 h3 (yb_set h1 h.1 h2)).2.2.2))
  · obtain ⟨h1, h2, h3⟩ := hf
    exact nought (by rw [(yb_den h1 h.1).1]; exact (pop h.1 (by omega) h1 h3 (yb_set h1 h.1 h2)).2.2.2)
  · obtain ⟨h1, h2, h3⟩ := hf
    exact n_eql.2 (fresh h (by omega) h2 h1).1
  · obtain ⟨h1, h2, h3⟩ := hf
    exact n_eql.2 (fresh h.1 (by omega) h2 h1).1
  · obtain ⟨h1, h2, h3⟩ := hf
    exact (d_z hp).2 (fresh h (by omega) h2 h1).2.1
  · obtain ⟨h1, h2, h3⟩ := hf
    exact (d_z hp).2 (fresh h.1 (by omega) h2 h1).2.1
  · obtain ⟨h1, h2, h3⟩ := hf
    exact n_eql.2 (valu_den (fresh h (by omega) h2 h1).2.2)
  · obtain ⟨h1, h2, h3⟩ := hf
    exact n_eql.2 (valu_den (fresh h.1 (by omega) h2 h1).2.2)
  · obtain ⟨h1, h2, h3⟩ := hf
    exact nought (fresh h (by omega) h2 h1).2.2
  · obtain ⟨h1, h2, h3⟩ := hf
    exact nought (fresh h.1 (by omega) h2 h1).2.2
  · exact (d_p hp).2 fun i hi hi2 => by omega
  · rw [n_lss]; omega
  · rw [n_lss]; omega
  · rw [n_leq, n_off, n_n, n_n]; omega
  · rw [n_leq, n_off, n_n, n_n]; omega
  · rw [n_not, n_lss, n_off, n_n]; omega
  · rw [n_not, n_lss, n_off, n_n]; omega
  · rw [n_eql, n_dif, n_n]; omega
  · rw [n_not, n_lss, n_off, n_n]; omega
  · rw [n_not, n_lss, n_off, n_off, n_off, n_n, n_n]; omega
  · rw [n_not, n_lss, n_off, n_off, n_off, n_n]; omega
  · rw [n_eql, n_dif, n_off, n_n]; omega
theorem allRules_ok (ι : Unk) (hp : ι.prd = prd) : ∀ r ∈ azRules ++ twoRules ++ threeRules, ROk ι r := all_append (all_append (azRules_ok ι hp) (twoRules_ok ι hp)) (threeRules_ok ι hp)
theorem csZ_ne (fl : List Bool) : csZ fl ≠ [] := by
  unfold csZ
  split
  · intro h
    have : [ltI nV (v 1)] ∈ (List.range 2).flatMap azGrp := List.mem_flatMap.2 ⟨1, List.mem_range.2 (by omega), List.mem_cons_self⟩
    rw [h] at this
    cases this
  · exact List.cons_ne_nil _ _
theorem csZ_ok (fl : List Bool) (ι : Unk) (_ : ι.prd = prd) : ∃ fs ∈ csZ fl, ∀ b ∈ fs, b.den ι = true := by
  unfold csZ
  split
  · by_cases h : nV.den ι < (v 1).den ι
    · exact ⟨[ltI nV (v 1)], List.mem_flatMap.2 ⟨1, List.mem_range.2 (by omega), List.mem_cons_self⟩, all_cons (n_lss.2 h) all_nil⟩
    · exact ⟨[leI (v 1) nV], List.mem_flatMap.2 ⟨0, List.mem_range.2 (by omega), List.mem_cons_self⟩, all_cons (n_not.2 fun h2 => h (n_lss.1 h2)) all_nil⟩
  · exact ⟨[], List.mem_cons_self, all_nil⟩

def lawCfg : List Bool → Cfg := cfgZ
def knLaw : Kn := { kn := some 5, cons := [] }
theorem knows : Known Try.prog knLaw ⟨0, prd⟩ := ⟨knows1, all_nil⟩

theorem lawRules (fl : List Bool) (ι : Unk) (hp : ι.prd = prd) : RulesOk (lawCfg fl).rules ι := (fun _ => rules_of allRules_ok) fl ι hp

def cs : List Bool → List (List BE) := csZ

theorem cs_ne (fl : List Bool) : cs fl ≠ [] := csZ_ne fl

theorem cs_ok (fl : List Bool) (ι : Unk) (hp : ι.prd = prd) : ∃ fs ∈ cs fl, ∀ b ∈ fs, b.den ι = true := csZ_ok fl ι hp

end Go.Proofs.Ytbgjceknbcpgjaa.arenaZeroes
