/-
  What QuotaCopies is proved by: what is said of functions, and calls that are walked on their own.
-/
import Derived.Test.YtaafdcimnmfakaaRows
import Derived.Test.YtaafdcimnmfakaaSzPf
import Derived.Test.YtaafdcimnmfakaaSzMe
import Derived.WalkKit
import Derived.ProofKit
import Derived.OpenShut
namespace Go.Proofs.Ytaafdcimnmfakaa.quotaCopies
open Go.Sx Go.ChangeShapes Go.WideShapes Go.ChangeAt Go.RowKit
set_option linter.unusedVariables false

theorem own : ownKnob Try.prog.godebug = none := by kernel_rfl

theorem plain : plainNames Try.prog = true := by kernel_rfl

set_option maxRecDepth 100000 in
theorem ranKnown : allTrue (runCall Try.prog true {} 300 60 false 7 [] Hp.nil []) = true := by kernel_rfl

theorem knows1 : Known1 Try.prog (some 7) := by
  intro f hf w
  injection hf with hf
  subst hf
  exact calls_true (dr := true) (kn := {}) (fuel := 300) (d := 60) (args := []) (xs := []) (ι := io []) (pc := []) w plain known_none (fun _ call hC => anyOk (by kernel_rfl) plain hC) ranKnown rfl (fun _ h => by cases h)

abbrev ge (a : IE) (n : Int) : BE := .cmp .geq a (.lit n)
abbrev le (a : IE) (n : Int) : BE := .cmp .leq a (.lit n)
abbrev lt (a : IE) (n : Int) : BE := .cmp .lss a (.lit n)
abbrev gt (a : IE) (n : Int) : BE := .cmp .gtr a (.lit n)
abbrev v (i : Nat) : IE := .fv i
abbrev t (i : Nat) : TX := .fv i
abbrev r (i : Nat) : RX := .row i
abbrev leI (a b : IE) : BE := .not (.cmp .lss b a)
abbrev ltI (a b : IE) : BE := .cmp .lss a b
abbrev eqI (a b : IE) : BE := .cmp .eql a b
abbrev neI (a b : IE) : BE := .not (.cmp .eql a b)
abbrev rule (find pre : List BE) (con : BE) : Rule := { pat := true, find, pre, con }
abbrev lrn (trig : IE) (find pre : List BE) (con : BE) : Rule := { pat := true, find, pre, con, trig := some trig }
abbrev bad (l : List Nat) : List (Nat × AV) := l.map fun i => (i, AV.poison)
abbrev upto (a b : Nat) : List Nat := (List.range (b + 1 - a)).map (· + a)
abbrev inI (i n : IE) : List BE := [ge i 0, ltI i n]
abbrev inU (x : IE) : List BE := [ge x 0, le x 18446744073709551615]
/-- A number of the row 'k', of elements of so many cells. -/
abbrev c1 (k : Nat) (i : IE) : IE := .wrap .u64 (.cell k i)
abbrev c2 (k : Nat) (i : IE) (o : Nat) : IE := .wrap .u64 (.cell k (.lin i 2 o))
abbrev u1 (x : IE) : RX := .lits [(.int .u64, x)]
abbrev u2 (x y : IE) : RX := .lits [(.int .u64, x), (.int .u64, y)]
/-- Accounts, limK, limB: of so many users, within these limits. -/
abbrev pRel (n k b : IE) (a x y : RX) : BE := .usr 0 [n, k, b] [] [a, x, y]
abbrev users : IE := .wrap .i64 (.var 0)
abbrev limK : IE := .wrap .u64 (.var 1)
abbrev limB : IE := .wrap .u64 (.var 2)
abbrev TU : Nat := 22
abbrev TA : Nat := 58
/-- An index in slot 's' runs up to 'n'; the three rows in the blocks from 'b' on are as they should. -/
def play (key : Nat × Nat × Nat) (s b : Nat) (n : IE) (bads : List Nat) : Ann :=
  { key := key, heads := [{ nf := 4, src := [.int s, .brow b, .brow (b + 2), .brow (b + 3)], bsrc := [], tm := fun m _ => (s, .int .i64 (v m)) :: bad bads, bl := fun m _ => [(b, .row (r (m + 1)) TA [.int .u64, .int .u64] users users), (b + 2, .row (r (m + 2)) TU [.int .u64] users users), (b + 3, .row (r (m + 3)) TU [.int .u64] users users)], nb := fun _ _ => [], inv := fun m _ => [ge (v m) 0, leI (v m) n, pRel users limK limB (r (m + 1)) (r (m + 2)) (r (m + 3))], ms := fun m _ => .dif n (v m) }] }
def relRules : List Rule := [
  rule [] [ge (v 0) 0, ge (v 1) 0, ge (v 2) 0] (pRel (v 0) (v 1) (v 2) (.rep (v 0) [(.int .u64, .lit 0), (.int .u64, .lit 0)]) (.rep (v 0) [(.int .u64, .lit 0)]) (.rep (v 0) [(.int .u64, .lit 0)])),
  rule [pRel (v 0) (v 1) (v 2) (r 3) (r 4) (r 5)] (inI (v 6) (v 0) ++ eqI (v 7) (v 9) :: eqI (v 8) (v 10) :: leI (v 9) (v 1) :: leI (v 10) (v 2) :: (inU (v 9) ++ inU (v 10))) (pRel (v 0) (v 1) (v 2) (.set (r 3) (.lin (v 6) 2 0) (u2 (v 7) (v 8))) (.set (r 4) (v 6) (u1 (v 9))) (.set (r 5) (v 6) (u1 (v 10)))),
  rule [pRel (v 0) (v 1) (v 2) (r 3) (r 4) (r 5), .isrow 11 (.set (r 4) (v 6) (u1 (v 13))), .isrow 12 (.set (r 5) (v 6) (u1 (v 14)))] (inI (v 6) (v 0) ++ eqI (v 7) (v 9) :: eqI (v 8) (v 10) :: leI (v 9) (v 1) :: leI (v 10) (v 2) :: (inU (v 9) ++ inU (v 10))) (pRel (v 0) (v 1) (v 2) (.set (r 3) (.lin (v 6) 2 0) (u2 (v 7) (v 8))) (.set (r 11) (v 6) (u1 (v 9))) (.set (r 12) (v 6) (u1 (v 10)))),
  rule [pRel (v 0) (v 1) (v 2) (r 3) (r 4) (r 5), .isrow 8 (.set (r 4) (v 6) (u1 (v 12))), .isrow 9 (.set (r 5) (v 6) (u1 (v 13)))] (inI (v 6) (v 0) ++ [eqI (v 6) (v 7), eqI (v 10) (c2 3 (v 6) 0), eqI (v 11) (c2 3 (v 6) 1)]) (pRel (v 0) (v 1) (v 2) (r 3) (.set (r 8) (v 7) (u1 (v 10))) (.set (r 9) (v 7) (u1 (v 11)))),
  rule [pRel (v 0) (v 1) (v 2) (r 3) (r 4) (r 5), .isrow 7 (.set (r 4) (v 6) (u1 (v 10))), .isrow 8 (.set (r 5) (v 6) (u1 (v 11)))] (inI (v 6) (v 0) ++ [eqI (v 10) (c2 3 (v 6) 0), eqI (v 9) (c2 3 (v 6) 1)]) (pRel (v 0) (v 1) (v 2) (r 3) (r 7) (.set (r 8) (v 6) (u1 (v 9)))),
  rule [pRel (v 0) (v 1) (v 2) (r 3) (r 4) (r 5), .isrow 8 (.set (r 4) (v 6) (u1 (v 14))), .isrow 9 (.set (r 5) (v 6) (u1 (v 15)))] (inI (v 6) (v 0) ++ inI (v 7) (v 0) ++ eqI (v 10) (v 14) :: eqI (v 11) (v 15) :: eqI (v 12) (v 16) :: eqI (v 13) (v 17) :: leI (v 14) (v 1) :: leI (v 15) (v 2) :: leI (v 16) (v 1) :: leI (v 17) (v 2) :: (inU (v 14) ++ inU (v 15) ++ inU (v 16) ++ inU (v 17))) (pRel (v 0) (v 1) (v 2) (.set (.set (r 3) (.lin (v 6) 2 0) (u2 (v 10) (v 11))) (.lin (v 7) 2 0) (u2 (v 12) (v 13))) (.set (r 8) (v 7) (u1 (v 16))) (.set (r 9) (v 7) (u1 (v 17)))) ]
def cellRules : List Rule := [
  lrn (c1 0 (v 1)) [pRel (v 2) (v 3) (v 4) (r 5) (r 0) (r 6)] (inI (v 1) (v 2)) (eqI (c1 0 (v 1)) (c2 5 (v 1) 0)),
  lrn (c1 0 (v 1)) [pRel (v 2) (v 3) (v 4) (r 5) (r 6) (r 0)] (inI (v 1) (v 2)) (eqI (c1 0 (v 1)) (c2 5 (v 1) 1)),
  lrn (c2 5 (v 1) 0) [pRel (v 2) (v 3) (v 4) (r 5) (r 6) (r 0)] (inI (v 1) (v 2)) (leI (c2 5 (v 1) 0) (v 3)),
  lrn (c2 5 (v 1) 1) [pRel (v 2) (v 3) (v 4) (r 5) (r 6) (r 0)] (inI (v 1) (v 2)) (leI (c2 5 (v 1) 1) (v 4)) ]
def setRules : List Rule := [
  lrn (c1 0 (v 1)) [.isrow 0 (.set (r 2) (v 3) (u1 (v 4))), .rlen (r 0) (v 5)] (eqI (v 1) (v 3) :: inI (v 3) (v 5) ++ inU (v 4)) (eqI (c1 0 (v 1)) (v 4)),
  lrn (c1 0 (v 1)) [.isrow 0 (.set (r 2) (v 3) (u1 (v 4))), .rlen (r 0) (v 5)] (neI (v 3) (v 1) :: inI (v 3) (v 5) ++ inI (v 1) (v 5)) (eqI (c1 0 (v 1)) (c1 2 (v 1))) ]
def rules : List Rule := cellRules ++ relRules ++ setRules
/-- Accounts: of so many users, within these limits. -/
abbrev pHold (n k b : IE) (a : RX) : BE := .usr 1 [n, k, b] [] [a]
/-- What the first 'i' of them have together; what those from 'i' on have. -/
abbrev pSum (o : Int) (i s : IE) (a : RX) : BE := .usr 2 [.lit o, i, s] [] [a]
abbrev pRest (o : Int) (n i s : IE) (a : RX) : BE := .usr 3 [.lit o, n, i, s] [] [a]
abbrev pSumV (o i s : IE) (a : RX) : BE := .usr 2 [o, i, s] [] [a]
abbrev pRestV (o n i s : IE) (a : RX) : BE := .usr 3 [o, n, i, s] [] [a]
/-- Sums were taken. -/
abbrev pMark : BE := .usr 5 [] [] []
abbrev acc (x : RX) : AObj := .row x TA [.int .u64, .int .u64] users users
def hold (key : Nat × Nat × Nat) (s b : Nat) (n : IE) (bads : List Nat) : Ann :=
  { key := key, heads := [{ nf := 2, src := [.int s, .brow b], bsrc := [], tm := fun m _ => (s, .int .i64 (v m)) :: bad bads, bl := fun m _ => [(b, acc (r (m + 1)))], nb := fun _ _ => [], inv := fun m _ => [ge (v m) 0, leI (v m) n, pHold users limK limB (r (m + 1))], ms := fun m _ => .dif n (v m) }] }
def joinH (f b : Nat) : Nat × Head := (f, { nf := 2, src := [.int 0, .brow b], bsrc := [], tm := fun m _ => [(0, .int .i64 (v m))], bl := fun m _ => [(b, acc (r (m + 1)))], nb := fun _ _ => [], inv := fun m _ => [pHold users limK limB (r (m + 1))], ms := fun _ _ => .lit 0 })
def holdRules : List Rule := [
  rule [] [ge (v 0) 0, ge (v 1) 0, ge (v 2) 0] (pHold (v 0) (v 1) (v 2) (.rep (v 0) [(.int .u64, .lit 0), (.int .u64, .lit 0)])),
  rule [pHold (v 0) (v 1) (v 2) (r 3)] (inI (v 4) (v 0) ++ leI (v 5) (v 1) :: leI (v 6) (v 2) :: (inU (v 5) ++ inU (v 6))) (pHold (v 0) (v 1) (v 2) (.set (r 3) (.lin (v 4) 2 0) (u2 (v 5) (v 6)))),
  rule [pHold (v 0) (v 1) (v 2) (r 3)] (inI (v 4) (v 0) ++ inI (v 7) (v 0) ++ leI (v 5) (v 1) :: leI (v 6) (v 2) :: leI (v 8) (v 1) :: leI (v 9) (v 2) :: (inU (v 5) ++ inU (v 6) ++ inU (v 8) ++ inU (v 9))) (pHold (v 0) (v 1) (v 2) (.set (.set (r 3) (.lin (v 4) 2 0) (u2 (v 5) (v 6))) (.lin (v 7) 2 0) (u2 (v 8) (v 9)))),
  lrn (c2 0 (v 1) 0) [pHold (v 2) (v 3) (v 4) (r 0)] (inI (v 1) (v 2)) (leI (c2 0 (v 1) 0) (v 3)),
  lrn (c2 0 (v 1) 1) [pHold (v 2) (v 3) (v 4) (r 0)] (inI (v 1) (v 2)) (leI (c2 0 (v 1) 1) (v 4)) ]
def sumRules : List Rule := [
  rule [pSum 0 (v 0) (v 1) (r 2)] [] pMark,
  rule [] [] (pSumV (v 0) (.lit 0) (.lit 0) (r 1)),
  rule [pSum 0 (v 0) (v 1) (r 2)] [ge (v 0) 0] (pSum 0 (.off (v 0) (.lit 1)) (.bin .add .u64 (v 1) (c2 2 (v 0) 0)) (r 2)),
  rule [pSum 1 (v 0) (v 1) (r 2)] [ge (v 0) 0] (pSum 1 (.off (v 0) (.lit 1)) (.bin .add .u64 (v 1) (c2 2 (v 0) 1)) (r 2)),
  rule [pSumV (v 0) (v 1) (v 2) (r 3)] [leI (v 1) (v 4), leI (v 4) (v 1)] (pRestV (v 0) (v 4) (.lit 0) (v 2) (r 3)),
  rule [.rlen (r 1) (.lin (v 0) 2 0), pSum 0 (v 2) (v 3) (r 1)] (inI (v 6) (v 0) ++ inI (v 7) (v 0) ++ [neI (v 6) (v 7), leI (v 2) (v 0), leI (v 0) (v 2), eqI (.off (v 4) (v 8)) (.off (c2 1 (v 6) 0) (c2 1 (v 7) 0))]) (pRest 0 (v 0) (.lit 0) (v 3) (.set (.set (r 1) (.lin (v 6) 2 0) (u2 (v 4) (v 5))) (.lin (v 7) 2 0) (u2 (v 8) (v 9)))),
  rule [.rlen (r 1) (.lin (v 0) 2 0), pSum 1 (v 2) (v 3) (r 1)] (inI (v 6) (v 0) ++ inI (v 7) (v 0) ++ [neI (v 6) (v 7), leI (v 2) (v 0), leI (v 0) (v 2), eqI (.off (v 5) (v 9)) (.off (c2 1 (v 6) 1) (c2 1 (v 7) 1))]) (pRest 1 (v 0) (.lit 0) (v 3) (.set (.set (r 1) (.lin (v 6) 2 0) (u2 (v 4) (v 5))) (.lin (v 7) 2 0) (u2 (v 8) (v 9)))),
  rule [pRel (v 0) (v 1) (v 2) (r 3) (r 4) (r 5)] [] (.rlen (r 3) (.lin (v 0) 2 0)),
  rule [pRest 0 (v 3) (v 0) (v 1) (r 2)] [ge (v 0) 0, ltI (v 0) (v 3)] (pRest 0 (v 3) (.off (v 0) (.lit 1)) (.bin .sub .u64 (v 1) (c2 2 (v 0) 0)) (r 2)),
  rule [pRest 1 (v 3) (v 0) (v 1) (r 2)] [ge (v 0) 0, ltI (v 0) (v 3)] (pRest 1 (v 3) (.off (v 0) (.lit 1)) (.bin .sub .u64 (v 1) (c2 2 (v 0) 1)) (r 2)),
  rule [pRestV (v 0) (v 1) (v 2) (v 3) (r 4)] [leI (v 2) (v 1), leI (v 1) (v 2)] (eqI (v 3) (.lit 0)) ]
abbrev base (fl : List Bool) : Nat := if fl == [false] then 1 else 0
abbrev num (fl : List Bool) : IE := if fl == [false] then v 1 else .lit 0
/-- An index in slot 's' runs up to 'n'. -/
def upTo (key : Nat × Nat × Nat) (s : Nat) (n : IE) (bads : List Nat) : Ann :=
  { key := key, heads := [{ nf := 1, src := [.int s], bsrc := [], tm := fun m _ => (s, .int .i64 (v m)) :: bad bads, bl := fun _ _ => [], nb := fun _ _ => [], inv := fun m _ => [ge (v m) 0, leI (v m) n], ms := fun m _ => .dif n (v m) }] }
def same : Ann := upTo (74, 5, 7) 7 users (8 :: 9 :: upto 39 73)
abbrev rows3 (b m : Nat) : List (Nat × AObj) := [(b, .row (r m) TA [.int .u64, .int .u64] users users), (b + 2, .row (r (m + 1)) TU [.int .u64] users users), (b + 3, .row (r (m + 2)) TU [.int .u64] users users)]
def play2 (key : Nat × Nat × Nat) (s b c : Nat) (n : IE) (bads : List Nat) : Ann :=
  { key := key, heads := [{ nf := 4, src := [.int s, .brow b, .brow (b + 2), .brow (b + 3)], bsrc := [], tm := fun m _ => (s, .int .i64 (v m)) :: bad bads, bl := fun m _ => [(b, .row (r (m + 1)) TA [.int .u64, .int .u64] users users), (b + 2, .row (r (m + 2)) TU [.int .u64] users (v c)), (b + 3, .row (r (m + 3)) TU [.int .u64] users (v (c + 1)))], nb := fun _ _ => [], inv := fun m _ => [ge (v m) 0, leI (v m) n, pRel users limK limB (r (m + 1)) (r (m + 2)) (r (m + 3))], ms := fun m _ => .dif n (v m) }] }
def joinDo (b : Nat) : Nat × Head := (9, { nf := 3, src := [.brow b, .brow (b + 2), .brow (b + 3)], bsrc := [], tm := fun _ _ => [(0, .bool (.lit true))], bl := fun m _ => rows3 b m, nb := fun _ _ => [], inv := fun m _ => [pRel users limK limB (r m) (r (m + 1)) (r (m + 2))], ms := fun _ _ => .lit 0 })
/-- Sums that go on over the accounts, in slots 'k' and 'b'. -/
def sums (key : Nat × Nat × Nat) (s k b bk : Nat) (bads : List Nat) (inv : IE → IE → IE → RX → List BE) : Ann :=
  { key := key, heads := [{ nf := 4, src := [.int s, .int k, .int b, .brow bk], bsrc := [], tm := fun m _ => (s, .int .i64 (v m)) :: (k, .int .u64 (v (m + 1))) :: (b, .int .u64 (v (m + 2))) :: bad bads, bl := fun m _ => [(bk, acc (r (m + 3)))], nb := fun _ _ => [], inv := fun m _ => [ge (v m) 0, leI (v m) users] ++ inv (v m) (v (m + 1)) (v (m + 2)) (r (m + 3)), ms := fun m _ => .dif users (v m) }] }
def ranA (fl : List Bool) (b : Nat) : Ann := play (75, 8, 4) 17 b (num fl) (upto 59 72)
/-- A move that is refused. -/
def joinE : Nat × Head := (14, { nf := 1, src := [.int 0], bsrc := [], tm := fun m _ => [(0, .int .i64 (v m))], bl := fun _ _ => [], nb := fun _ _ => [], inv := fun m _ => [.cmp .neq (v m) (.lit 0), pMark], ms := fun _ _ => .lit 0 })
def cfgR (fl : List Bool) : Cfg := { rules, anns := [ranA fl (base fl)] }
def cfgQ (fl : List Bool) : Cfg := { rules, anns := [ranA fl (base fl + 1)] }
def cfgM (fl : List Bool) : Cfg := { joins := [joinE], rules := rules ++ sumRules, anns := [ranA fl (base fl), sums (119, 6, 3) 22 20 21 (base fl) (23 :: 24 :: upto 48 64) fun i x y a => [.rlen a (.lin users 2 0), pSum 0 i x a, pSum 1 i y a], sums (119, 12, 3) 26 20 21 (base fl) (27 :: 28 :: upto 71 87) fun i x y a => [pRest 0 users i x a, pRest 1 users i y a]] }
def cfgH (fl : List Bool) : Cfg := { rules := holdRules, anns := [hold (114, 5, 4) 12 (base fl) (num fl) (13 :: 14 :: 15 :: 16 :: upto 40 112), upTo (114, 18, 3) 14 users (15 :: 16 :: upto 94 112)], joins := [19, 21, 20, 14].map fun f => joinH f (base fl) }
abbrev actK : IE := .wrap .i64 (.var 3)
abbrev actA : IE := .wrap .i64 (.var 4)
/-- An act that is one of the four, of a user that is there: whatever it comes to. -/
def joinHas (b : Nat) : Nat × Head := (9, { nf := 3, src := [.brow b, .brow (b + 2), .brow (b + 3)], bsrc := [], tm := fun _ _ => [(0, .bool (.lit true))], bl := fun m _ => rows3 b m, nb := fun _ _ => [], inv := fun m _ => [pRel users limK limB (r m) (r (m + 1)) (r (m + 2)), ge actK 1, le actK 4, ge actA 0, ltI actA users], ms := fun _ _ => .lit 0 })
/-- Nothing is another one. -/
def joinStill : Nat × Head := (9, { nf := 0, src := [], bsrc := [], tm := fun _ _ => [(0, .bool (.lit true))], bl := fun _ _ => [], nb := fun _ _ => [], inv := fun _ _ => [], ms := fun _ _ => .lit 0 })
def cfgX (fl : List Bool) : Cfg := { rules, anns := [same, upTo (80, 4, 7) 5 users (upto 39 79)], joins := [joinHas (base fl + 1), joinStill] }
/-- The accounts of both are the same so far; they aren't. -/
abbrev pEqA (i : IE) (a c : RX) : BE := .usr 6 [i] [] [a, c]
abbrev pNeA (n : IE) (a c : RX) : BE := .usr 7 [n] [] [a, c]
abbrev numOf : List Bool → Nat
  | [] => 0
  | true :: r => numOf r
  | false :: r => numOf r + 1
abbrev lenAt (fl : List Bool) (i : Nat) : IE := if (fl[i]?).getD true then .lit 0 else v (4 * numOf (fl.take i) + 1)
/-- QuotaCopies: the first unknown behind the slices. -/
abbrev K4 (fl : List Bool) : Nat := 4 * numOf fl
def joinR (fl : List Bool) : Nat × Head := (9, { nf := 3, src := [.brow (numOf fl), .brow (numOf fl + 2), .brow (numOf fl + 3)], bsrc := [], tm := fun _ _ => [(0, .bool (.lit true))], bl := fun m _ => rows3 (numOf fl) m, nb := fun _ _ => [], inv := fun m _ => [pRel users limK limB (r m) (r (m + 1)) (r (m + 2))], ms := fun _ _ => .lit 0 })
def cfgC0 (fl : List Bool) : Cfg := { rules, joins := [joinR fl], anns := [play (75, 8, 4) 17 (numOf fl) (lenAt fl 0) (upto 59 72)] }
def joinA (fl : List Bool) : Nat × Head := (9, { nf := 3, src := [.brow (numOf fl), .brow (numOf fl + 2), .brow (numOf fl + 3)], bsrc := [], tm := fun _ _ => [(0, .bool (.lit true))], bl := fun m _ => rows3 (numOf fl) m, nb := fun _ _ => [], inv := fun m _ => [pRel users limK limB (r m) (r (m + 1)) (r (m + 2)), ltI (v (K4 fl + 7)) (lenAt fl 1)], ms := fun _ _ => .lit 0 })
def joinB (fl : List Bool) : Nat × Head := (9, { nf := 3, src := [.brow (numOf fl + 5), .brow (numOf fl + 7), .brow (numOf fl + 8)], bsrc := [], tm := fun _ _ => [(0, .bool (.lit true))], bl := fun m _ => [(numOf fl + 5, acc (r m)), (numOf fl + 7, .row (r (m + 1)) TU [.int .u64] users (v (K4 fl + 4))), (numOf fl + 8, .row (r (m + 2)) TU [.int .u64] users (v (K4 fl + 5)))], nb := fun _ _ => [], inv := fun m _ => [pRel users limK limB (r m) (r (m + 1)) (r (m + 2)), ltI (v (K4 fl + 11)) (lenAt fl 2)], ms := fun _ _ => .lit 0 })
/-- Both are another one; whatever the document's answer says: no. -/
def joinN (fl : List Bool) : Nat × Head := (16, { nf := 0, src := [], bsrc := [], tm := fun _ _ => [(0, .bool (.lit false))], bl := fun _ _ => [], nb := fun _ _ => [], inv := fun _ _ => [pNeA users (r (K4 fl + 8)) (r (K4 fl + 12))], ms := fun _ _ => .lit 0 })
def joinM : Nat × Head := (11, { nf := 0, src := [], bsrc := [], tm := fun _ _ => [(0, .bool (.lit false))], bl := fun _ _ => [], nb := fun _ _ => [], inv := fun _ _ => [], ms := fun _ _ => .lit 0 })
def upToE (key : Nat × Nat × Nat) (s a c : Nat) (n : IE) (bads : List Nat) : Ann :=
  { key := key, heads := [{ nf := 1, src := [.int s], bsrc := [], tm := fun m _ => (s, .int .i64 (v m)) :: bad bads, bl := fun _ _ => [], nb := fun _ _ => [], inv := fun m _ => [ge (v m) 0, leI (v m) n, pEqA (v m) (r a) (r c)], ms := fun m _ => .dif n (v m) }] }
def eqRules : List Rule := [
  lrn (c2 0 (v 1) 0) [pEqA (v 2) (r 0) (r 3)] (inI (v 1) (v 2)) (eqI (c2 0 (v 1) 0) (c2 3 (v 1) 0)),
  lrn (c2 0 (v 1) 1) [pEqA (v 2) (r 0) (r 3)] (inI (v 1) (v 2)) (eqI (c2 0 (v 1) 1) (c2 3 (v 1) 1)),
  rule [] [] (pEqA (.lit 0) (r 0) (r 1)),
  rule [pEqA (v 0) (r 1) (r 2)] [ge (v 0) 0, eqI (c2 1 (v 0) 0) (c2 2 (v 0) 0), eqI (c2 1 (v 0) 1) (c2 2 (v 0) 1)] (pEqA (.off (v 0) (.lit 1)) (r 1) (r 2)),
  rule [pEqA (v 3) (r 1) (r 2)] [leI (v 0) (v 3)] (pEqA (v 0) (r 1) (r 2)),
  rule [pEqA (v 0) (r 1) (r 2), pNeA (v 3) (r 1) (r 2)] [leI (v 3) (v 0)] (.lit false),
  rule [neI (c2 1 (v 3) 0) (c2 2 (v 3) 0)] (inI (v 3) (v 0)) (pNeA (v 0) (r 1) (r 2)),
  rule [neI (c2 1 (v 3) 1) (c2 2 (v 3) 1)] (inI (v 3) (v 0)) (pNeA (v 0) (r 1) (r 2)),
  rule [neI (c2 2 (v 3) 0) (c2 1 (v 3) 0)] (inI (v 3) (v 0)) (pNeA (v 0) (r 1) (r 2)),
  rule [neI (c2 2 (v 3) 1) (c2 1 (v 3) 1)] (inI (v 3) (v 0)) (pNeA (v 0) (r 1) (r 2)) ]
def cfgC (fl : List Bool) : Cfg := { rules := rules ++ eqRules, joins := [joinA fl, joinB fl, joinN fl, joinM], anns := [play (75, 8, 4) 17 (numOf fl) (lenAt fl 0) (upto 59 72), same, upToE (80, 4, 7) 5 (K4 fl + 8) (K4 fl + 12) users (upto 39 79), upTo (80, 4, 7) 5 users (upto 39 79), upToE (61, 6, 1) 46 (K4 fl + 8) (K4 fl + 12) users (5 :: 6 :: upto 47 60), upTo (61, 6, 1) 46 users (5 :: 6 :: upto 47 60), play (118, 8, 4) 18 (numOf fl) (lenAt fl 1) (upto 61 117), play2 (118, 13, 4) 19 (numOf fl + 5) (K4 fl + 4) (lenAt fl 2) (upto 75 117)] }
/-- Of which kind the act is that such a call is of. -/
def kindOf (M : Memo) : IE := match M.args with | [_, _, .agg (.int _ e :: _)] => e | _ => .lit 0
abbrev A2 : List Lf := [.int .u64, .int .u64]
def fOf : Fs := { f := 30, shs := [.agg (A2 ++ A2 ++ A2), .agg A2], alts := [
  { rets := [.agg A2, .leaf (.int .i64)], post := [eqI (v 10) (.lit 0), leI (v 0) (v 6), leI (v 1) (v 7), leI (.off (.dif (v 6) (v 0)) (v 2)) (v 4), leI (.off (.dif (v 7) (v 1)) (v 3)) (v 5), eqI (v 8) (.off (.dif (v 6) (v 0)) (v 2)), eqI (v 9) (.off (.dif (v 7) (v 1)) (v 3))] },
  { rets := [.agg A2, .leaf (.int .i64)], post := [eqI (v 10) (.lit 18), ltI (v 6) (v 0)] },
  { rets := [.agg A2, .leaf (.int .i64)], post := [eqI (v 10) (.lit 18), leI (v 0) (v 6), ltI (v 7) (v 1)] },
  { rets := [.agg A2, .leaf (.int .i64)], post := [eqI (v 10) (.lit 7), leI (v 0) (v 6), leI (v 1) (v 7), ltI (v 4) (.off (.dif (v 6) (v 0)) (v 2))] },
  { rets := [.agg A2, .leaf (.int .i64)], post := [eqI (v 10) (.lit 7), leI (v 0) (v 6), leI (v 1) (v 7), leI (.off (.dif (v 6) (v 0)) (v 2)) (v 4), ltI (v 5) (.off (.dif (v 7) (v 1)) (v 3))] }] }
def cfgOf : Cfg := { rules }
def fRoom : Fs := { f := 32, shs := [.leaf (.int .u64), .leaf (.int .u64), .leaf (.int .u64)], res := some (leI (.off (v 0) (v 1)) (v 2)) }
def cfgP (fl : List Bool) : Cfg := { rules, anns := [play (57, 5, 4) 12 (base fl) (num fl) (upto 36 55), same], joins := [joinDo (base fl)] }
def mCRFFF : Memo := { f := 9, args := [(.ptr 4 0), (.ptr 7 0), (.agg [(.int .i64 (.wrap .i64 (.cell 0 (.lin (.fv 12) 5 0)))), (.int .i64 (.wrap .i64 (.cell 0 (.lin (.fv 12) 5 1)))), (.int .i64 (.wrap .i64 (.cell 0 (.lin (.fv 12) 5 2)))), (.int .u64 (.wrap .u64 (.cell 0 (.lin (.fv 12) 5 3)))), (.int .u64 (.wrap .u64 (.cell 0 (.lin (.fv 12) 5 4))))])], os := [(.grow 0 0 [.int .i64, .int .i64, .int .i64, .int .u64, .int .u64] (.fv 1) 0 (.fv 3)), (.grow 4 0 [.int .i64, .int .i64, .int .i64, .int .u64, .int .u64] (.fv 5) 1 (.fv 7)), (.grow 8 0 [.int .i64, .int .i64, .int .i64, .int .u64, .int .u64] (.fv 9) 2 (.fv 11)), (.row (.row 13) 58 [.int .u64, .int .u64] (.wrap .i64 (.var 0)) (.wrap .i64 (.var 0))), (.cells [some (.sl 3 2 (.lit 0) (.lit 0) (.wrap .i64 (.var 0)) (.wrap .i64 (.var 0))), some (.int .u64 (.wrap .u64 (.var 1))), some (.int .u64 (.wrap .u64 (.var 2)))] 61 none 4), (.row (.row 14) 22 [.int .u64] (.wrap .i64 (.var 0)) (.wrap .i64 (.var 0))), (.row (.row 15) 22 [.int .u64] (.wrap .i64 (.var 0)) (.wrap .i64 (.var 0))), (.cells [some (.sl 5 1 (.lit 0) (.lit 0) (.wrap .i64 (.var 0)) (.wrap .i64 (.var 0))), some (.sl 6 1 (.lit 0) (.lit 0) (.wrap .i64 (.var 0)) (.wrap .i64 (.var 0))), some (.int .u64 (.wrap .u64 (.var 1))), some (.int .u64 (.wrap .u64 (.var 2)))] 52 none 7)], nk := 0, nv := 16, pc := [(.cmp .lss (.fv 12) (.fv 1)), (.cmp .geq (.fv 12) (.lit 0)), (.not (.cmp .lss (.fv 1) (.fv 12))), (.usr 0 [(.wrap .i64 (.var 0)), (.wrap .u64 (.var 1)), (.wrap .u64 (.var 2))] [] [(.row 13), (.row 14), (.row 15)]), (.not (.cmp .gtr (.fv 1) (.lit 300))), (.not (.cmp .gtr (.wrap .u64 (.var 2)) (.lit 1073741824))), (.not (.cmp .gtr (.wrap .u64 (.var 1)) (.lit 1073741824))), (.not (.cmp .gtr (.wrap .i64 (.var 0)) (.lit 16))), (.not (.cmp .lss (.wrap .i64 (.var 0)) (.lit 1))), (.cmp .geq (.fv 1) (.lit 0)), (.cmp .leq (.fv 1) (.fv 2)), (.cmp .leq (.fv 2) (.lit 9223372036854775807)), (.cmp .geq (.fv 3) (.lit 0)), (.cmp .geq (.fv 5) (.lit 0)), (.cmp .leq (.fv 5) (.fv 6)), (.cmp .leq (.fv 6) (.lit 9223372036854775807)), (.cmp .geq (.fv 7) (.lit 0)), (.cmp .geq (.fv 9) (.lit 0)), (.cmp .leq (.fv 9) (.fv 10)), (.cmp .leq (.fv 10) (.lit 9223372036854775807)), (.cmp .geq (.fv 11) (.lit 0))], ends := [{ v := (.bool (.lit true)), os := [(.grow 0 0 [.int .i64, .int .i64, .int .i64, .int .u64, .int .u64] (.fv 1) 0 (.fv 3)), (.grow 4 0 [.int .i64, .int .i64, .int .i64, .int .u64, .int .u64] (.fv 5) 1 (.fv 7)), (.grow 8 0 [.int .i64, .int .i64, .int .i64, .int .u64, .int .u64] (.fv 9) 2 (.fv 11)), (.row (.row 16) 58 [.int .u64, .int .u64] (.wrap .i64 (.var 0)) (.wrap .i64 (.var 0))), (.cells [some (.sl 3 2 (.lit 0) (.lit 0) (.wrap .i64 (.var 0)) (.wrap .i64 (.var 0))), some (.int .u64 (.wrap .u64 (.var 1))), some (.int .u64 (.wrap .u64 (.var 2)))] 61 none 4), (.row (.row 17) 22 [.int .u64] (.wrap .i64 (.var 0)) (.wrap .i64 (.var 0))), (.row (.row 18) 22 [.int .u64] (.wrap .i64 (.var 0)) (.wrap .i64 (.var 0))), (.cells [some (.sl 5 1 (.lit 0) (.lit 0) (.wrap .i64 (.var 0)) (.wrap .i64 (.var 0))), some (.sl 6 1 (.lit 0) (.lit 0) (.wrap .i64 (.var 0)) (.wrap .i64 (.var 0))), some (.int .u64 (.wrap .u64 (.var 1))), some (.int .u64 (.wrap .u64 (.var 2)))] 52 none 7)], nk := 0, nv := 19, pc := [(.usr 0 [(.wrap .i64 (.var 0)), (.wrap .u64 (.var 1)), (.wrap .u64 (.var 2))] [] [(.row 16), (.row 17), (.row 18)])] }] }
def mC0FFF : Memo := { f := 6, args := [(.int .i64 (.wrap .i64 (.var 0))), (.int .u64 (.wrap .u64 (.var 1))), (.int .u64 (.wrap .u64 (.var 2))), (.sl 0 5 (.fv 3) (.lit 0) (.fv 1) (.fv 2)), (.int .i64 (.lit 300))], os := [(.grow 0 0 [.int .i64, .int .i64, .int .i64, .int .u64, .int .u64] (.fv 1) 0 (.fv 3)), (.grow 4 0 [.int .i64, .int .i64, .int .i64, .int .u64, .int .u64] (.fv 5) 1 (.fv 7)), (.grow 8 0 [.int .i64, .int .i64, .int .i64, .int .u64, .int .u64] (.fv 9) 2 (.fv 11))], nk := 0, nv := 12, pc := [(.cmp .geq (.fv 1) (.lit 0)), (.cmp .leq (.fv 1) (.fv 2)), (.cmp .leq (.fv 2) (.lit 9223372036854775807)), (.cmp .geq (.fv 3) (.lit 0)), (.cmp .geq (.fv 5) (.lit 0)), (.cmp .leq (.fv 5) (.fv 6)), (.cmp .leq (.fv 6) (.lit 9223372036854775807)), (.cmp .geq (.fv 7) (.lit 0)), (.cmp .geq (.fv 9) (.lit 0)), (.cmp .leq (.fv 9) (.fv 10)), (.cmp .leq (.fv 10) (.lit 9223372036854775807)), (.cmp .geq (.fv 11) (.lit 0))], ends := [{ v := (.tuple [.nilPtr, .nilPtr, (.bool (.lit true))]), os := [(.grow 0 0 [.int .i64, .int .i64, .int .i64, .int .u64, .int .u64] (.fv 1) 0 (.fv 3)), (.grow 4 0 [.int .i64, .int .i64, .int .i64, .int .u64, .int .u64] (.fv 5) 1 (.fv 7)), (.grow 8 0 [.int .i64, .int .i64, .int .i64, .int .u64, .int .u64] (.fv 9) 2 (.fv 11))], nk := 0, nv := 12, pc := [] }, { v := (.tuple [.nilPtr, .nilPtr, (.bool (.lit true))]), os := [(.grow 0 0 [.int .i64, .int .i64, .int .i64, .int .u64, .int .u64] (.fv 1) 0 (.fv 3)), (.grow 4 0 [.int .i64, .int .i64, .int .i64, .int .u64, .int .u64] (.fv 5) 1 (.fv 7)), (.grow 8 0 [.int .i64, .int .i64, .int .i64, .int .u64, .int .u64] (.fv 9) 2 (.fv 11)), (.row (.rep (.wrap .i64 (.var 0)) [(.int .u64, (.lit 0)), (.int .u64, (.lit 0))]) 58 [.int .u64, .int .u64] (.wrap .i64 (.var 0)) (.wrap .i64 (.var 0))), (.cells [some (.sl 3 2 (.lit 0) (.lit 0) (.wrap .i64 (.var 0)) (.wrap .i64 (.var 0))), some (.int .u64 (.wrap .u64 (.var 1))), some (.int .u64 (.wrap .u64 (.var 2)))] 61 none 4), (.row (.rep (.wrap .i64 (.var 0)) [(.int .u64, (.lit 0))]) 22 [.int .u64] (.wrap .i64 (.var 0)) (.wrap .i64 (.var 0))), (.row (.rep (.wrap .i64 (.var 0)) [(.int .u64, (.lit 0))]) 22 [.int .u64] (.wrap .i64 (.var 0)) (.wrap .i64 (.var 0))), (.cells [some (.sl 5 1 (.lit 0) (.lit 0) (.wrap .i64 (.var 0)) (.wrap .i64 (.var 0))), some (.sl 6 1 (.lit 0) (.lit 0) (.wrap .i64 (.var 0)) (.wrap .i64 (.var 0))), some (.int .u64 (.wrap .u64 (.var 1))), some (.int .u64 (.wrap .u64 (.var 2)))] 52 none 7)], nk := 0, nv := 12, pc := [(.cmp .gtr (.fv 1) (.lit 300)), (.not (.cmp .gtr (.wrap .u64 (.var 2)) (.lit 1073741824))), (.not (.cmp .gtr (.wrap .u64 (.var 1)) (.lit 1073741824))), (.not (.cmp .gtr (.wrap .i64 (.var 0)) (.lit 16))), (.not (.cmp .lss (.wrap .i64 (.var 0)) (.lit 1)))] }, { v := (.tuple [(.ptr 4 0), (.ptr 7 0), (.bool (.lit true))]), os := [(.grow 0 0 [.int .i64, .int .i64, .int .i64, .int .u64, .int .u64] (.fv 1) 0 (.fv 3)), (.grow 4 0 [.int .i64, .int .i64, .int .i64, .int .u64, .int .u64] (.fv 5) 1 (.fv 7)), (.grow 8 0 [.int .i64, .int .i64, .int .i64, .int .u64, .int .u64] (.fv 9) 2 (.fv 11)), (.row (.row 13) 58 [.int .u64, .int .u64] (.wrap .i64 (.var 0)) (.wrap .i64 (.var 0))), (.cells [some (.sl 3 2 (.lit 0) (.lit 0) (.wrap .i64 (.var 0)) (.wrap .i64 (.var 0))), some (.int .u64 (.wrap .u64 (.var 1))), some (.int .u64 (.wrap .u64 (.var 2)))] 61 none 4), (.row (.row 14) 22 [.int .u64] (.wrap .i64 (.var 0)) (.wrap .i64 (.var 0))), (.row (.row 15) 22 [.int .u64] (.wrap .i64 (.var 0)) (.wrap .i64 (.var 0))), (.cells [some (.sl 5 1 (.lit 0) (.lit 0) (.wrap .i64 (.var 0)) (.wrap .i64 (.var 0))), some (.sl 6 1 (.lit 0) (.lit 0) (.wrap .i64 (.var 0)) (.wrap .i64 (.var 0))), some (.int .u64 (.wrap .u64 (.var 1))), some (.int .u64 (.wrap .u64 (.var 2)))] 52 none 7)], nk := 0, nv := 16, pc := [(.not (.cmp .lss (.fv 12) (.fv 1))), (.cmp .geq (.fv 12) (.lit 0)), (.not (.cmp .lss (.fv 1) (.fv 12))), (.usr 0 [(.wrap .i64 (.var 0)), (.wrap .u64 (.var 1)), (.wrap .u64 (.var 2))] [] [(.row 13), (.row 14), (.row 15)]), (.not (.cmp .gtr (.fv 1) (.lit 300))), (.not (.cmp .gtr (.wrap .u64 (.var 2)) (.lit 1073741824))), (.not (.cmp .gtr (.wrap .u64 (.var 1)) (.lit 1073741824))), (.not (.cmp .gtr (.wrap .i64 (.var 0)) (.lit 16))), (.not (.cmp .lss (.wrap .i64 (.var 0)) (.lit 1)))] }] }
def mCAFFF : Memo := { f := 9, args := [(.ptr 4 0), (.ptr 7 0), (.agg [(.int .i64 (.wrap .i64 (.cell 4 (.lin (.fv 19) 5 0)))), (.int .i64 (.wrap .i64 (.cell 4 (.lin (.fv 19) 5 1)))), (.int .i64 (.wrap .i64 (.cell 4 (.lin (.fv 19) 5 2)))), (.int .u64 (.wrap .u64 (.cell 4 (.lin (.fv 19) 5 3)))), (.int .u64 (.wrap .u64 (.cell 4 (.lin (.fv 19) 5 4))))])], os := [(.grow 0 0 [.int .i64, .int .i64, .int .i64, .int .u64, .int .u64] (.fv 1) 0 (.fv 3)), (.grow 4 0 [.int .i64, .int .i64, .int .i64, .int .u64, .int .u64] (.fv 5) 1 (.fv 7)), (.grow 8 0 [.int .i64, .int .i64, .int .i64, .int .u64, .int .u64] (.fv 9) 2 (.fv 11)), (.row (.row 20) 58 [.int .u64, .int .u64] (.wrap .i64 (.var 0)) (.wrap .i64 (.var 0))), (.cells [some (.sl 3 2 (.lit 0) (.lit 0) (.wrap .i64 (.var 0)) (.wrap .i64 (.var 0))), some (.int .u64 (.wrap .u64 (.var 1))), some (.int .u64 (.wrap .u64 (.var 2)))] 61 none 4), (.row (.row 21) 22 [.int .u64] (.wrap .i64 (.var 0)) (.wrap .i64 (.var 0))), (.row (.row 22) 22 [.int .u64] (.wrap .i64 (.var 0)) (.wrap .i64 (.var 0))), (.cells [some (.sl 5 1 (.lit 0) (.lit 0) (.wrap .i64 (.var 0)) (.wrap .i64 (.var 0))), some (.sl 6 1 (.lit 0) (.lit 0) (.wrap .i64 (.var 0)) (.wrap .i64 (.var 0))), some (.int .u64 (.wrap .u64 (.var 1))), some (.int .u64 (.wrap .u64 (.var 2)))] 52 none 7), (.row (.row 13) 58 [.int .u64, .int .u64] (.wrap .i64 (.var 0)) (.wrap .i64 (.var 0))), (.cells [some (.sl 8 2 (.lit 0) (.lit 0) (.wrap .i64 (.var 0)) (.wrap .i64 (.var 0))), some (.int .u64 (.wrap .u64 (.var 1))), some (.int .u64 (.wrap .u64 (.var 2)))] 61 none 9), (.row (.row 14) 22 [.int .u64] (.wrap .i64 (.var 0)) (.fv 16)), (.row (.row 15) 22 [.int .u64] (.wrap .i64 (.var 0)) (.fv 17)), (.cells [some (.sl 10 1 (.lit 0) (.lit 0) (.wrap .i64 (.var 0)) (.fv 16)), some (.sl 11 1 (.lit 0) (.lit 0) (.wrap .i64 (.var 0)) (.fv 17)), some (.int .u64 (.wrap .u64 (.var 1))), some (.int .u64 (.wrap .u64 (.var 2)))] 52 none 12)], nk := 0, nv := 23, pc := [(.cmp .lss (.fv 19) (.fv 5)), (.cmp .geq (.fv 19) (.lit 0)), (.not (.cmp .lss (.fv 5) (.fv 19))), (.usr 0 [(.wrap .i64 (.var 0)), (.wrap .u64 (.var 1)), (.wrap .u64 (.var 2))] [] [(.row 20), (.row 21), (.row 22)]), (.not (.cmp .lss (.fv 18) (.wrap .i64 (.var 0)))), (.cmp .geq (.fv 18) (.lit 0)), (.not (.cmp .lss (.wrap .i64 (.var 0)) (.fv 18))), (.not (.cmp .lss (.fv 17) (.wrap .i64 (.var 0)))), (.not (.cmp .lss (.fv 16) (.wrap .i64 (.var 0)))), (.not (.cmp .gtr (.fv 9) (.lit 100))), (.not (.cmp .gtr (.fv 5) (.lit 100))), (.not (.cmp .lss (.fv 12) (.fv 1))), (.cmp .geq (.fv 12) (.lit 0)), (.not (.cmp .lss (.fv 1) (.fv 12))), (.usr 0 [(.wrap .i64 (.var 0)), (.wrap .u64 (.var 1)), (.wrap .u64 (.var 2))] [] [(.row 13), (.row 14), (.row 15)]), (.not (.cmp .gtr (.fv 1) (.lit 300))), (.not (.cmp .gtr (.wrap .u64 (.var 2)) (.lit 1073741824))), (.not (.cmp .gtr (.wrap .u64 (.var 1)) (.lit 1073741824))), (.not (.cmp .gtr (.wrap .i64 (.var 0)) (.lit 16))), (.not (.cmp .lss (.wrap .i64 (.var 0)) (.lit 1))), (.cmp .geq (.fv 1) (.lit 0)), (.cmp .leq (.fv 1) (.fv 2)), (.cmp .leq (.fv 2) (.lit 9223372036854775807)), (.cmp .geq (.fv 3) (.lit 0)), (.cmp .geq (.fv 5) (.lit 0)), (.cmp .leq (.fv 5) (.fv 6)), (.cmp .leq (.fv 6) (.lit 9223372036854775807)), (.cmp .geq (.fv 7) (.lit 0)), (.cmp .geq (.fv 9) (.lit 0)), (.cmp .leq (.fv 9) (.fv 10)), (.cmp .leq (.fv 10) (.lit 9223372036854775807)), (.cmp .geq (.fv 11) (.lit 0))], ends := [{ v := (.bool (.lit true)), os := [(.grow 0 0 [.int .i64, .int .i64, .int .i64, .int .u64, .int .u64] (.fv 1) 0 (.fv 3)), (.grow 4 0 [.int .i64, .int .i64, .int .i64, .int .u64, .int .u64] (.fv 5) 1 (.fv 7)), (.grow 8 0 [.int .i64, .int .i64, .int .i64, .int .u64, .int .u64] (.fv 9) 2 (.fv 11)), (.row (.row 23) 58 [.int .u64, .int .u64] (.wrap .i64 (.var 0)) (.wrap .i64 (.var 0))), (.cells [some (.sl 3 2 (.lit 0) (.lit 0) (.wrap .i64 (.var 0)) (.wrap .i64 (.var 0))), some (.int .u64 (.wrap .u64 (.var 1))), some (.int .u64 (.wrap .u64 (.var 2)))] 61 none 4), (.row (.row 24) 22 [.int .u64] (.wrap .i64 (.var 0)) (.wrap .i64 (.var 0))), (.row (.row 25) 22 [.int .u64] (.wrap .i64 (.var 0)) (.wrap .i64 (.var 0))), (.cells [some (.sl 5 1 (.lit 0) (.lit 0) (.wrap .i64 (.var 0)) (.wrap .i64 (.var 0))), some (.sl 6 1 (.lit 0) (.lit 0) (.wrap .i64 (.var 0)) (.wrap .i64 (.var 0))), some (.int .u64 (.wrap .u64 (.var 1))), some (.int .u64 (.wrap .u64 (.var 2)))] 52 none 7), (.row (.row 13) 58 [.int .u64, .int .u64] (.wrap .i64 (.var 0)) (.wrap .i64 (.var 0))), (.cells [some (.sl 8 2 (.lit 0) (.lit 0) (.wrap .i64 (.var 0)) (.wrap .i64 (.var 0))), some (.int .u64 (.wrap .u64 (.var 1))), some (.int .u64 (.wrap .u64 (.var 2)))] 61 none 9), (.row (.row 14) 22 [.int .u64] (.wrap .i64 (.var 0)) (.fv 16)), (.row (.row 15) 22 [.int .u64] (.wrap .i64 (.var 0)) (.fv 17)), (.cells [some (.sl 10 1 (.lit 0) (.lit 0) (.wrap .i64 (.var 0)) (.fv 16)), some (.sl 11 1 (.lit 0) (.lit 0) (.wrap .i64 (.var 0)) (.fv 17)), some (.int .u64 (.wrap .u64 (.var 1))), some (.int .u64 (.wrap .u64 (.var 2)))] 52 none 12)], nk := 0, nv := 26, pc := [(.usr 0 [(.wrap .i64 (.var 0)), (.wrap .u64 (.var 1)), (.wrap .u64 (.var 2))] [] [(.row 23), (.row 24), (.row 25)])] }] }
def mCBFFF : Memo := { f := 9, args := [(.ptr 9 0), (.ptr 12 0), (.agg [(.int .i64 (.wrap .i64 (.cell 8 (.lin (.fv 23) 5 0)))), (.int .i64 (.wrap .i64 (.cell 8 (.lin (.fv 23) 5 1)))), (.int .i64 (.wrap .i64 (.cell 8 (.lin (.fv 23) 5 2)))), (.int .u64 (.wrap .u64 (.cell 8 (.lin (.fv 23) 5 3)))), (.int .u64 (.wrap .u64 (.cell 8 (.lin (.fv 23) 5 4))))])], os := [(.grow 0 0 [.int .i64, .int .i64, .int .i64, .int .u64, .int .u64] (.fv 1) 0 (.fv 3)), (.grow 4 0 [.int .i64, .int .i64, .int .i64, .int .u64, .int .u64] (.fv 5) 1 (.fv 7)), (.grow 8 0 [.int .i64, .int .i64, .int .i64, .int .u64, .int .u64] (.fv 9) 2 (.fv 11)), (.row (.row 20) 58 [.int .u64, .int .u64] (.wrap .i64 (.var 0)) (.wrap .i64 (.var 0))), (.cells [some (.sl 3 2 (.lit 0) (.lit 0) (.wrap .i64 (.var 0)) (.wrap .i64 (.var 0))), some (.int .u64 (.wrap .u64 (.var 1))), some (.int .u64 (.wrap .u64 (.var 2)))] 61 none 4), (.row (.row 21) 22 [.int .u64] (.wrap .i64 (.var 0)) (.wrap .i64 (.var 0))), (.row (.row 22) 22 [.int .u64] (.wrap .i64 (.var 0)) (.wrap .i64 (.var 0))), (.cells [some (.sl 5 1 (.lit 0) (.lit 0) (.wrap .i64 (.var 0)) (.wrap .i64 (.var 0))), some (.sl 6 1 (.lit 0) (.lit 0) (.wrap .i64 (.var 0)) (.wrap .i64 (.var 0))), some (.int .u64 (.wrap .u64 (.var 1))), some (.int .u64 (.wrap .u64 (.var 2)))] 52 none 7), (.row (.row 24) 58 [.int .u64, .int .u64] (.wrap .i64 (.var 0)) (.wrap .i64 (.var 0))), (.cells [some (.sl 8 2 (.lit 0) (.lit 0) (.wrap .i64 (.var 0)) (.wrap .i64 (.var 0))), some (.int .u64 (.wrap .u64 (.var 1))), some (.int .u64 (.wrap .u64 (.var 2)))] 61 none 9), (.row (.row 25) 22 [.int .u64] (.wrap .i64 (.var 0)) (.fv 16)), (.row (.row 26) 22 [.int .u64] (.wrap .i64 (.var 0)) (.fv 17)), (.cells [some (.sl 10 1 (.lit 0) (.lit 0) (.wrap .i64 (.var 0)) (.fv 16)), some (.sl 11 1 (.lit 0) (.lit 0) (.wrap .i64 (.var 0)) (.fv 17)), some (.int .u64 (.wrap .u64 (.var 1))), some (.int .u64 (.wrap .u64 (.var 2)))] 52 none 12)], nk := 0, nv := 27, pc := [(.cmp .lss (.fv 23) (.fv 9)), (.cmp .geq (.fv 23) (.lit 0)), (.not (.cmp .lss (.fv 9) (.fv 23))), (.usr 0 [(.wrap .i64 (.var 0)), (.wrap .u64 (.var 1)), (.wrap .u64 (.var 2))] [] [(.row 24), (.row 25), (.row 26)]), (.not (.cmp .lss (.fv 19) (.fv 5))), (.cmp .geq (.fv 19) (.lit 0)), (.not (.cmp .lss (.fv 5) (.fv 19))), (.usr 0 [(.wrap .i64 (.var 0)), (.wrap .u64 (.var 1)), (.wrap .u64 (.var 2))] [] [(.row 20), (.row 21), (.row 22)]), (.not (.cmp .lss (.fv 18) (.wrap .i64 (.var 0)))), (.cmp .geq (.fv 18) (.lit 0)), (.not (.cmp .lss (.wrap .i64 (.var 0)) (.fv 18))), (.not (.cmp .lss (.fv 17) (.wrap .i64 (.var 0)))), (.not (.cmp .lss (.fv 16) (.wrap .i64 (.var 0)))), (.not (.cmp .gtr (.fv 9) (.lit 100))), (.not (.cmp .gtr (.fv 5) (.lit 100))), (.not (.cmp .lss (.fv 12) (.fv 1))), (.cmp .geq (.fv 12) (.lit 0)), (.not (.cmp .lss (.fv 1) (.fv 12))), (.usr 0 [(.wrap .i64 (.var 0)), (.wrap .u64 (.var 1)), (.wrap .u64 (.var 2))] [] [(.row 13), (.row 14), (.row 15)]), (.not (.cmp .gtr (.fv 1) (.lit 300))), (.not (.cmp .gtr (.wrap .u64 (.var 2)) (.lit 1073741824))), (.not (.cmp .gtr (.wrap .u64 (.var 1)) (.lit 1073741824))), (.not (.cmp .gtr (.wrap .i64 (.var 0)) (.lit 16))), (.not (.cmp .lss (.wrap .i64 (.var 0)) (.lit 1))), (.cmp .geq (.fv 1) (.lit 0)), (.cmp .leq (.fv 1) (.fv 2)), (.cmp .leq (.fv 2) (.lit 9223372036854775807)), (.cmp .geq (.fv 3) (.lit 0)), (.cmp .geq (.fv 5) (.lit 0)), (.cmp .leq (.fv 5) (.fv 6)), (.cmp .leq (.fv 6) (.lit 9223372036854775807)), (.cmp .geq (.fv 7) (.lit 0)), (.cmp .geq (.fv 9) (.lit 0)), (.cmp .leq (.fv 9) (.fv 10)), (.cmp .leq (.fv 10) (.lit 9223372036854775807)), (.cmp .geq (.fv 11) (.lit 0))], ends := [{ v := (.bool (.lit true)), os := [(.grow 0 0 [.int .i64, .int .i64, .int .i64, .int .u64, .int .u64] (.fv 1) 0 (.fv 3)), (.grow 4 0 [.int .i64, .int .i64, .int .i64, .int .u64, .int .u64] (.fv 5) 1 (.fv 7)), (.grow 8 0 [.int .i64, .int .i64, .int .i64, .int .u64, .int .u64] (.fv 9) 2 (.fv 11)), (.row (.row 20) 58 [.int .u64, .int .u64] (.wrap .i64 (.var 0)) (.wrap .i64 (.var 0))), (.cells [some (.sl 3 2 (.lit 0) (.lit 0) (.wrap .i64 (.var 0)) (.wrap .i64 (.var 0))), some (.int .u64 (.wrap .u64 (.var 1))), some (.int .u64 (.wrap .u64 (.var 2)))] 61 none 4), (.row (.row 21) 22 [.int .u64] (.wrap .i64 (.var 0)) (.wrap .i64 (.var 0))), (.row (.row 22) 22 [.int .u64] (.wrap .i64 (.var 0)) (.wrap .i64 (.var 0))), (.cells [some (.sl 5 1 (.lit 0) (.lit 0) (.wrap .i64 (.var 0)) (.wrap .i64 (.var 0))), some (.sl 6 1 (.lit 0) (.lit 0) (.wrap .i64 (.var 0)) (.wrap .i64 (.var 0))), some (.int .u64 (.wrap .u64 (.var 1))), some (.int .u64 (.wrap .u64 (.var 2)))] 52 none 7), (.row (.row 27) 58 [.int .u64, .int .u64] (.wrap .i64 (.var 0)) (.wrap .i64 (.var 0))), (.cells [some (.sl 8 2 (.lit 0) (.lit 0) (.wrap .i64 (.var 0)) (.wrap .i64 (.var 0))), some (.int .u64 (.wrap .u64 (.var 1))), some (.int .u64 (.wrap .u64 (.var 2)))] 61 none 9), (.row (.row 28) 22 [.int .u64] (.wrap .i64 (.var 0)) (.fv 16)), (.row (.row 29) 22 [.int .u64] (.wrap .i64 (.var 0)) (.fv 17)), (.cells [some (.sl 10 1 (.lit 0) (.lit 0) (.wrap .i64 (.var 0)) (.fv 16)), some (.sl 11 1 (.lit 0) (.lit 0) (.wrap .i64 (.var 0)) (.fv 17)), some (.int .u64 (.wrap .u64 (.var 1))), some (.int .u64 (.wrap .u64 (.var 2)))] 52 none 12)], nk := 0, nv := 30, pc := [(.usr 0 [(.wrap .i64 (.var 0)), (.wrap .u64 (.var 1)), (.wrap .u64 (.var 2))] [] [(.row 27), (.row 28), (.row 29)])] }] }
def mCRFFT : Memo := { f := 9, args := [(.ptr 3 0), (.ptr 6 0), (.agg [(.int .i64 (.wrap .i64 (.cell 0 (.lin (.fv 8) 5 0)))), (.int .i64 (.wrap .i64 (.cell 0 (.lin (.fv 8) 5 1)))), (.int .i64 (.wrap .i64 (.cell 0 (.lin (.fv 8) 5 2)))), (.int .u64 (.wrap .u64 (.cell 0 (.lin (.fv 8) 5 3)))), (.int .u64 (.wrap .u64 (.cell 0 (.lin (.fv 8) 5 4))))])], os := [(.grow 0 0 [.int .i64, .int .i64, .int .i64, .int .u64, .int .u64] (.fv 1) 0 (.fv 3)), (.grow 4 0 [.int .i64, .int .i64, .int .i64, .int .u64, .int .u64] (.fv 5) 1 (.fv 7)), (.row (.row 9) 58 [.int .u64, .int .u64] (.wrap .i64 (.var 0)) (.wrap .i64 (.var 0))), (.cells [some (.sl 2 2 (.lit 0) (.lit 0) (.wrap .i64 (.var 0)) (.wrap .i64 (.var 0))), some (.int .u64 (.wrap .u64 (.var 1))), some (.int .u64 (.wrap .u64 (.var 2)))] 61 none 3), (.row (.row 10) 22 [.int .u64] (.wrap .i64 (.var 0)) (.wrap .i64 (.var 0))), (.row (.row 11) 22 [.int .u64] (.wrap .i64 (.var 0)) (.wrap .i64 (.var 0))), (.cells [some (.sl 4 1 (.lit 0) (.lit 0) (.wrap .i64 (.var 0)) (.wrap .i64 (.var 0))), some (.sl 5 1 (.lit 0) (.lit 0) (.wrap .i64 (.var 0)) (.wrap .i64 (.var 0))), some (.int .u64 (.wrap .u64 (.var 1))), some (.int .u64 (.wrap .u64 (.var 2)))] 52 none 6)], nk := 0, nv := 12, pc := [(.cmp .lss (.fv 8) (.fv 1)), (.cmp .geq (.fv 8) (.lit 0)), (.not (.cmp .lss (.fv 1) (.fv 8))), (.usr 0 [(.wrap .i64 (.var 0)), (.wrap .u64 (.var 1)), (.wrap .u64 (.var 2))] [] [(.row 9), (.row 10), (.row 11)]), (.not (.cmp .gtr (.fv 1) (.lit 300))), (.not (.cmp .gtr (.wrap .u64 (.var 2)) (.lit 1073741824))), (.not (.cmp .gtr (.wrap .u64 (.var 1)) (.lit 1073741824))), (.not (.cmp .gtr (.wrap .i64 (.var 0)) (.lit 16))), (.not (.cmp .lss (.wrap .i64 (.var 0)) (.lit 1))), (.cmp .geq (.fv 1) (.lit 0)), (.cmp .leq (.fv 1) (.fv 2)), (.cmp .leq (.fv 2) (.lit 9223372036854775807)), (.cmp .geq (.fv 3) (.lit 0)), (.cmp .geq (.fv 5) (.lit 0)), (.cmp .leq (.fv 5) (.fv 6)), (.cmp .leq (.fv 6) (.lit 9223372036854775807)), (.cmp .geq (.fv 7) (.lit 0))], ends := [{ v := (.bool (.lit true)), os := [(.grow 0 0 [.int .i64, .int .i64, .int .i64, .int .u64, .int .u64] (.fv 1) 0 (.fv 3)), (.grow 4 0 [.int .i64, .int .i64, .int .i64, .int .u64, .int .u64] (.fv 5) 1 (.fv 7)), (.row (.row 12) 58 [.int .u64, .int .u64] (.wrap .i64 (.var 0)) (.wrap .i64 (.var 0))), (.cells [some (.sl 2 2 (.lit 0) (.lit 0) (.wrap .i64 (.var 0)) (.wrap .i64 (.var 0))), some (.int .u64 (.wrap .u64 (.var 1))), some (.int .u64 (.wrap .u64 (.var 2)))] 61 none 3), (.row (.row 13) 22 [.int .u64] (.wrap .i64 (.var 0)) (.wrap .i64 (.var 0))), (.row (.row 14) 22 [.int .u64] (.wrap .i64 (.var 0)) (.wrap .i64 (.var 0))), (.cells [some (.sl 4 1 (.lit 0) (.lit 0) (.wrap .i64 (.var 0)) (.wrap .i64 (.var 0))), some (.sl 5 1 (.lit 0) (.lit 0) (.wrap .i64 (.var 0)) (.wrap .i64 (.var 0))), some (.int .u64 (.wrap .u64 (.var 1))), some (.int .u64 (.wrap .u64 (.var 2)))] 52 none 6)], nk := 0, nv := 15, pc := [(.usr 0 [(.wrap .i64 (.var 0)), (.wrap .u64 (.var 1)), (.wrap .u64 (.var 2))] [] [(.row 12), (.row 13), (.row 14)])] }] }
def mC0FFT : Memo := { f := 6, args := [(.int .i64 (.wrap .i64 (.var 0))), (.int .u64 (.wrap .u64 (.var 1))), (.int .u64 (.wrap .u64 (.var 2))), (.sl 0 5 (.fv 3) (.lit 0) (.fv 1) (.fv 2)), (.int .i64 (.lit 300))], os := [(.grow 0 0 [.int .i64, .int .i64, .int .i64, .int .u64, .int .u64] (.fv 1) 0 (.fv 3)), (.grow 4 0 [.int .i64, .int .i64, .int .i64, .int .u64, .int .u64] (.fv 5) 1 (.fv 7))], nk := 0, nv := 8, pc := [(.cmp .geq (.fv 1) (.lit 0)), (.cmp .leq (.fv 1) (.fv 2)), (.cmp .leq (.fv 2) (.lit 9223372036854775807)), (.cmp .geq (.fv 3) (.lit 0)), (.cmp .geq (.fv 5) (.lit 0)), (.cmp .leq (.fv 5) (.fv 6)), (.cmp .leq (.fv 6) (.lit 9223372036854775807)), (.cmp .geq (.fv 7) (.lit 0))], ends := [{ v := (.tuple [.nilPtr, .nilPtr, (.bool (.lit true))]), os := [(.grow 0 0 [.int .i64, .int .i64, .int .i64, .int .u64, .int .u64] (.fv 1) 0 (.fv 3)), (.grow 4 0 [.int .i64, .int .i64, .int .i64, .int .u64, .int .u64] (.fv 5) 1 (.fv 7))], nk := 0, nv := 8, pc := [] }, { v := (.tuple [.nilPtr, .nilPtr, (.bool (.lit true))]), os := [(.grow 0 0 [.int .i64, .int .i64, .int .i64, .int .u64, .int .u64] (.fv 1) 0 (.fv 3)), (.grow 4 0 [.int .i64, .int .i64, .int .i64, .int .u64, .int .u64] (.fv 5) 1 (.fv 7)), (.row (.rep (.wrap .i64 (.var 0)) [(.int .u64, (.lit 0)), (.int .u64, (.lit 0))]) 58 [.int .u64, .int .u64] (.wrap .i64 (.var 0)) (.wrap .i64 (.var 0))), (.cells [some (.sl 2 2 (.lit 0) (.lit 0) (.wrap .i64 (.var 0)) (.wrap .i64 (.var 0))), some (.int .u64 (.wrap .u64 (.var 1))), some (.int .u64 (.wrap .u64 (.var 2)))] 61 none 3), (.row (.rep (.wrap .i64 (.var 0)) [(.int .u64, (.lit 0))]) 22 [.int .u64] (.wrap .i64 (.var 0)) (.wrap .i64 (.var 0))), (.row (.rep (.wrap .i64 (.var 0)) [(.int .u64, (.lit 0))]) 22 [.int .u64] (.wrap .i64 (.var 0)) (.wrap .i64 (.var 0))), (.cells [some (.sl 4 1 (.lit 0) (.lit 0) (.wrap .i64 (.var 0)) (.wrap .i64 (.var 0))), some (.sl 5 1 (.lit 0) (.lit 0) (.wrap .i64 (.var 0)) (.wrap .i64 (.var 0))), some (.int .u64 (.wrap .u64 (.var 1))), some (.int .u64 (.wrap .u64 (.var 2)))] 52 none 6)], nk := 0, nv := 8, pc := [(.cmp .gtr (.fv 1) (.lit 300)), (.not (.cmp .gtr (.wrap .u64 (.var 2)) (.lit 1073741824))), (.not (.cmp .gtr (.wrap .u64 (.var 1)) (.lit 1073741824))), (.not (.cmp .gtr (.wrap .i64 (.var 0)) (.lit 16))), (.not (.cmp .lss (.wrap .i64 (.var 0)) (.lit 1)))] }, { v := (.tuple [(.ptr 3 0), (.ptr 6 0), (.bool (.lit true))]), os := [(.grow 0 0 [.int .i64, .int .i64, .int .i64, .int .u64, .int .u64] (.fv 1) 0 (.fv 3)), (.grow 4 0 [.int .i64, .int .i64, .int .i64, .int .u64, .int .u64] (.fv 5) 1 (.fv 7)), (.row (.row 9) 58 [.int .u64, .int .u64] (.wrap .i64 (.var 0)) (.wrap .i64 (.var 0))), (.cells [some (.sl 2 2 (.lit 0) (.lit 0) (.wrap .i64 (.var 0)) (.wrap .i64 (.var 0))), some (.int .u64 (.wrap .u64 (.var 1))), some (.int .u64 (.wrap .u64 (.var 2)))] 61 none 3), (.row (.row 10) 22 [.int .u64] (.wrap .i64 (.var 0)) (.wrap .i64 (.var 0))), (.row (.row 11) 22 [.int .u64] (.wrap .i64 (.var 0)) (.wrap .i64 (.var 0))), (.cells [some (.sl 4 1 (.lit 0) (.lit 0) (.wrap .i64 (.var 0)) (.wrap .i64 (.var 0))), some (.sl 5 1 (.lit 0) (.lit 0) (.wrap .i64 (.var 0)) (.wrap .i64 (.var 0))), some (.int .u64 (.wrap .u64 (.var 1))), some (.int .u64 (.wrap .u64 (.var 2)))] 52 none 6)], nk := 0, nv := 12, pc := [(.not (.cmp .lss (.fv 8) (.fv 1))), (.cmp .geq (.fv 8) (.lit 0)), (.not (.cmp .lss (.fv 1) (.fv 8))), (.usr 0 [(.wrap .i64 (.var 0)), (.wrap .u64 (.var 1)), (.wrap .u64 (.var 2))] [] [(.row 9), (.row 10), (.row 11)]), (.not (.cmp .gtr (.fv 1) (.lit 300))), (.not (.cmp .gtr (.wrap .u64 (.var 2)) (.lit 1073741824))), (.not (.cmp .gtr (.wrap .u64 (.var 1)) (.lit 1073741824))), (.not (.cmp .gtr (.wrap .i64 (.var 0)) (.lit 16))), (.not (.cmp .lss (.wrap .i64 (.var 0)) (.lit 1)))] }] }
def mCAFFT : Memo := { f := 9, args := [(.ptr 3 0), (.ptr 6 0), (.agg [(.int .i64 (.wrap .i64 (.cell 4 (.lin (.fv 15) 5 0)))), (.int .i64 (.wrap .i64 (.cell 4 (.lin (.fv 15) 5 1)))), (.int .i64 (.wrap .i64 (.cell 4 (.lin (.fv 15) 5 2)))), (.int .u64 (.wrap .u64 (.cell 4 (.lin (.fv 15) 5 3)))), (.int .u64 (.wrap .u64 (.cell 4 (.lin (.fv 15) 5 4))))])], os := [(.grow 0 0 [.int .i64, .int .i64, .int .i64, .int .u64, .int .u64] (.fv 1) 0 (.fv 3)), (.grow 4 0 [.int .i64, .int .i64, .int .i64, .int .u64, .int .u64] (.fv 5) 1 (.fv 7)), (.row (.row 16) 58 [.int .u64, .int .u64] (.wrap .i64 (.var 0)) (.wrap .i64 (.var 0))), (.cells [some (.sl 2 2 (.lit 0) (.lit 0) (.wrap .i64 (.var 0)) (.wrap .i64 (.var 0))), some (.int .u64 (.wrap .u64 (.var 1))), some (.int .u64 (.wrap .u64 (.var 2)))] 61 none 3), (.row (.row 17) 22 [.int .u64] (.wrap .i64 (.var 0)) (.wrap .i64 (.var 0))), (.row (.row 18) 22 [.int .u64] (.wrap .i64 (.var 0)) (.wrap .i64 (.var 0))), (.cells [some (.sl 4 1 (.lit 0) (.lit 0) (.wrap .i64 (.var 0)) (.wrap .i64 (.var 0))), some (.sl 5 1 (.lit 0) (.lit 0) (.wrap .i64 (.var 0)) (.wrap .i64 (.var 0))), some (.int .u64 (.wrap .u64 (.var 1))), some (.int .u64 (.wrap .u64 (.var 2)))] 52 none 6), (.row (.row 9) 58 [.int .u64, .int .u64] (.wrap .i64 (.var 0)) (.wrap .i64 (.var 0))), (.cells [some (.sl 7 2 (.lit 0) (.lit 0) (.wrap .i64 (.var 0)) (.wrap .i64 (.var 0))), some (.int .u64 (.wrap .u64 (.var 1))), some (.int .u64 (.wrap .u64 (.var 2)))] 61 none 8), (.row (.row 10) 22 [.int .u64] (.wrap .i64 (.var 0)) (.fv 12)), (.row (.row 11) 22 [.int .u64] (.wrap .i64 (.var 0)) (.fv 13)), (.cells [some (.sl 9 1 (.lit 0) (.lit 0) (.wrap .i64 (.var 0)) (.fv 12)), some (.sl 10 1 (.lit 0) (.lit 0) (.wrap .i64 (.var 0)) (.fv 13)), some (.int .u64 (.wrap .u64 (.var 1))), some (.int .u64 (.wrap .u64 (.var 2)))] 52 none 11)], nk := 0, nv := 19, pc := [(.cmp .lss (.fv 15) (.fv 5)), (.cmp .geq (.fv 15) (.lit 0)), (.not (.cmp .lss (.fv 5) (.fv 15))), (.usr 0 [(.wrap .i64 (.var 0)), (.wrap .u64 (.var 1)), (.wrap .u64 (.var 2))] [] [(.row 16), (.row 17), (.row 18)]), (.not (.cmp .lss (.fv 14) (.wrap .i64 (.var 0)))), (.cmp .geq (.fv 14) (.lit 0)), (.not (.cmp .lss (.wrap .i64 (.var 0)) (.fv 14))), (.not (.cmp .lss (.fv 13) (.wrap .i64 (.var 0)))), (.not (.cmp .lss (.fv 12) (.wrap .i64 (.var 0)))), (.not (.cmp .gtr (.fv 5) (.lit 100))), (.not (.cmp .lss (.fv 8) (.fv 1))), (.cmp .geq (.fv 8) (.lit 0)), (.not (.cmp .lss (.fv 1) (.fv 8))), (.usr 0 [(.wrap .i64 (.var 0)), (.wrap .u64 (.var 1)), (.wrap .u64 (.var 2))] [] [(.row 9), (.row 10), (.row 11)]), (.not (.cmp .gtr (.fv 1) (.lit 300))), (.not (.cmp .gtr (.wrap .u64 (.var 2)) (.lit 1073741824))), (.not (.cmp .gtr (.wrap .u64 (.var 1)) (.lit 1073741824))), (.not (.cmp .gtr (.wrap .i64 (.var 0)) (.lit 16))), (.not (.cmp .lss (.wrap .i64 (.var 0)) (.lit 1))), (.cmp .geq (.fv 1) (.lit 0)), (.cmp .leq (.fv 1) (.fv 2)), (.cmp .leq (.fv 2) (.lit 9223372036854775807)), (.cmp .geq (.fv 3) (.lit 0)), (.cmp .geq (.fv 5) (.lit 0)), (.cmp .leq (.fv 5) (.fv 6)), (.cmp .leq (.fv 6) (.lit 9223372036854775807)), (.cmp .geq (.fv 7) (.lit 0))], ends := [{ v := (.bool (.lit true)), os := [(.grow 0 0 [.int .i64, .int .i64, .int .i64, .int .u64, .int .u64] (.fv 1) 0 (.fv 3)), (.grow 4 0 [.int .i64, .int .i64, .int .i64, .int .u64, .int .u64] (.fv 5) 1 (.fv 7)), (.row (.row 19) 58 [.int .u64, .int .u64] (.wrap .i64 (.var 0)) (.wrap .i64 (.var 0))), (.cells [some (.sl 2 2 (.lit 0) (.lit 0) (.wrap .i64 (.var 0)) (.wrap .i64 (.var 0))), some (.int .u64 (.wrap .u64 (.var 1))), some (.int .u64 (.wrap .u64 (.var 2)))] 61 none 3), (.row (.row 20) 22 [.int .u64] (.wrap .i64 (.var 0)) (.wrap .i64 (.var 0))), (.row (.row 21) 22 [.int .u64] (.wrap .i64 (.var 0)) (.wrap .i64 (.var 0))), (.cells [some (.sl 4 1 (.lit 0) (.lit 0) (.wrap .i64 (.var 0)) (.wrap .i64 (.var 0))), some (.sl 5 1 (.lit 0) (.lit 0) (.wrap .i64 (.var 0)) (.wrap .i64 (.var 0))), some (.int .u64 (.wrap .u64 (.var 1))), some (.int .u64 (.wrap .u64 (.var 2)))] 52 none 6), (.row (.row 9) 58 [.int .u64, .int .u64] (.wrap .i64 (.var 0)) (.wrap .i64 (.var 0))), (.cells [some (.sl 7 2 (.lit 0) (.lit 0) (.wrap .i64 (.var 0)) (.wrap .i64 (.var 0))), some (.int .u64 (.wrap .u64 (.var 1))), some (.int .u64 (.wrap .u64 (.var 2)))] 61 none 8), (.row (.row 10) 22 [.int .u64] (.wrap .i64 (.var 0)) (.fv 12)), (.row (.row 11) 22 [.int .u64] (.wrap .i64 (.var 0)) (.fv 13)), (.cells [some (.sl 9 1 (.lit 0) (.lit 0) (.wrap .i64 (.var 0)) (.fv 12)), some (.sl 10 1 (.lit 0) (.lit 0) (.wrap .i64 (.var 0)) (.fv 13)), some (.int .u64 (.wrap .u64 (.var 1))), some (.int .u64 (.wrap .u64 (.var 2)))] 52 none 11)], nk := 0, nv := 22, pc := [(.usr 0 [(.wrap .i64 (.var 0)), (.wrap .u64 (.var 1)), (.wrap .u64 (.var 2))] [] [(.row 19), (.row 20), (.row 21)])] }] }
def mCBFTF : Memo := { f := 9, args := [(.ptr 8 0), (.ptr 11 0), (.agg [(.int .i64 (.wrap .i64 (.cell 4 (.lin (.fv 19) 5 0)))), (.int .i64 (.wrap .i64 (.cell 4 (.lin (.fv 19) 5 1)))), (.int .i64 (.wrap .i64 (.cell 4 (.lin (.fv 19) 5 2)))), (.int .u64 (.wrap .u64 (.cell 4 (.lin (.fv 19) 5 3)))), (.int .u64 (.wrap .u64 (.cell 4 (.lin (.fv 19) 5 4))))])], os := [(.grow 0 0 [.int .i64, .int .i64, .int .i64, .int .u64, .int .u64] (.fv 1) 0 (.fv 3)), (.grow 4 0 [.int .i64, .int .i64, .int .i64, .int .u64, .int .u64] (.fv 5) 1 (.fv 7)), (.row (.row 16) 58 [.int .u64, .int .u64] (.wrap .i64 (.var 0)) (.wrap .i64 (.var 0))), (.cells [some (.sl 2 2 (.lit 0) (.lit 0) (.wrap .i64 (.var 0)) (.wrap .i64 (.var 0))), some (.int .u64 (.wrap .u64 (.var 1))), some (.int .u64 (.wrap .u64 (.var 2)))] 61 none 3), (.row (.row 17) 22 [.int .u64] (.wrap .i64 (.var 0)) (.wrap .i64 (.var 0))), (.row (.row 18) 22 [.int .u64] (.wrap .i64 (.var 0)) (.wrap .i64 (.var 0))), (.cells [some (.sl 4 1 (.lit 0) (.lit 0) (.wrap .i64 (.var 0)) (.wrap .i64 (.var 0))), some (.sl 5 1 (.lit 0) (.lit 0) (.wrap .i64 (.var 0)) (.wrap .i64 (.var 0))), some (.int .u64 (.wrap .u64 (.var 1))), some (.int .u64 (.wrap .u64 (.var 2)))] 52 none 6), (.row (.row 20) 58 [.int .u64, .int .u64] (.wrap .i64 (.var 0)) (.wrap .i64 (.var 0))), (.cells [some (.sl 7 2 (.lit 0) (.lit 0) (.wrap .i64 (.var 0)) (.wrap .i64 (.var 0))), some (.int .u64 (.wrap .u64 (.var 1))), some (.int .u64 (.wrap .u64 (.var 2)))] 61 none 8), (.row (.row 21) 22 [.int .u64] (.wrap .i64 (.var 0)) (.fv 12)), (.row (.row 22) 22 [.int .u64] (.wrap .i64 (.var 0)) (.fv 13)), (.cells [some (.sl 9 1 (.lit 0) (.lit 0) (.wrap .i64 (.var 0)) (.fv 12)), some (.sl 10 1 (.lit 0) (.lit 0) (.wrap .i64 (.var 0)) (.fv 13)), some (.int .u64 (.wrap .u64 (.var 1))), some (.int .u64 (.wrap .u64 (.var 2)))] 52 none 11)], nk := 0, nv := 23, pc := [(.cmp .lss (.fv 19) (.fv 5)), (.cmp .geq (.fv 19) (.lit 0)), (.not (.cmp .lss (.fv 5) (.fv 19))), (.usr 0 [(.wrap .i64 (.var 0)), (.wrap .u64 (.var 1)), (.wrap .u64 (.var 2))] [] [(.row 20), (.row 21), (.row 22)]), (.cmp .geq (.fv 15) (.lit 0)), (.not (.cmp .lss (.lit 0) (.fv 15))), (.usr 0 [(.wrap .i64 (.var 0)), (.wrap .u64 (.var 1)), (.wrap .u64 (.var 2))] [] [(.row 16), (.row 17), (.row 18)]), (.not (.cmp .lss (.fv 14) (.wrap .i64 (.var 0)))), (.cmp .geq (.fv 14) (.lit 0)), (.not (.cmp .lss (.wrap .i64 (.var 0)) (.fv 14))), (.not (.cmp .lss (.fv 13) (.wrap .i64 (.var 0)))), (.not (.cmp .lss (.fv 12) (.wrap .i64 (.var 0)))), (.not (.cmp .gtr (.fv 5) (.lit 100))), (.not (.cmp .lss (.fv 8) (.fv 1))), (.cmp .geq (.fv 8) (.lit 0)), (.not (.cmp .lss (.fv 1) (.fv 8))), (.usr 0 [(.wrap .i64 (.var 0)), (.wrap .u64 (.var 1)), (.wrap .u64 (.var 2))] [] [(.row 9), (.row 10), (.row 11)]), (.not (.cmp .gtr (.fv 1) (.lit 300))), (.not (.cmp .gtr (.wrap .u64 (.var 2)) (.lit 1073741824))), (.not (.cmp .gtr (.wrap .u64 (.var 1)) (.lit 1073741824))), (.not (.cmp .gtr (.wrap .i64 (.var 0)) (.lit 16))), (.not (.cmp .lss (.wrap .i64 (.var 0)) (.lit 1))), (.cmp .geq (.fv 1) (.lit 0)), (.cmp .leq (.fv 1) (.fv 2)), (.cmp .leq (.fv 2) (.lit 9223372036854775807)), (.cmp .geq (.fv 3) (.lit 0)), (.cmp .geq (.fv 5) (.lit 0)), (.cmp .leq (.fv 5) (.fv 6)), (.cmp .leq (.fv 6) (.lit 9223372036854775807)), (.cmp .geq (.fv 7) (.lit 0))], ends := [{ v := (.bool (.lit true)), os := [(.grow 0 0 [.int .i64, .int .i64, .int .i64, .int .u64, .int .u64] (.fv 1) 0 (.fv 3)), (.grow 4 0 [.int .i64, .int .i64, .int .i64, .int .u64, .int .u64] (.fv 5) 1 (.fv 7)), (.row (.row 16) 58 [.int .u64, .int .u64] (.wrap .i64 (.var 0)) (.wrap .i64 (.var 0))), (.cells [some (.sl 2 2 (.lit 0) (.lit 0) (.wrap .i64 (.var 0)) (.wrap .i64 (.var 0))), some (.int .u64 (.wrap .u64 (.var 1))), some (.int .u64 (.wrap .u64 (.var 2)))] 61 none 3), (.row (.row 17) 22 [.int .u64] (.wrap .i64 (.var 0)) (.wrap .i64 (.var 0))), (.row (.row 18) 22 [.int .u64] (.wrap .i64 (.var 0)) (.wrap .i64 (.var 0))), (.cells [some (.sl 4 1 (.lit 0) (.lit 0) (.wrap .i64 (.var 0)) (.wrap .i64 (.var 0))), some (.sl 5 1 (.lit 0) (.lit 0) (.wrap .i64 (.var 0)) (.wrap .i64 (.var 0))), some (.int .u64 (.wrap .u64 (.var 1))), some (.int .u64 (.wrap .u64 (.var 2)))] 52 none 6), (.row (.row 23) 58 [.int .u64, .int .u64] (.wrap .i64 (.var 0)) (.wrap .i64 (.var 0))), (.cells [some (.sl 7 2 (.lit 0) (.lit 0) (.wrap .i64 (.var 0)) (.wrap .i64 (.var 0))), some (.int .u64 (.wrap .u64 (.var 1))), some (.int .u64 (.wrap .u64 (.var 2)))] 61 none 8), (.row (.row 24) 22 [.int .u64] (.wrap .i64 (.var 0)) (.fv 12)), (.row (.row 25) 22 [.int .u64] (.wrap .i64 (.var 0)) (.fv 13)), (.cells [some (.sl 9 1 (.lit 0) (.lit 0) (.wrap .i64 (.var 0)) (.fv 12)), some (.sl 10 1 (.lit 0) (.lit 0) (.wrap .i64 (.var 0)) (.fv 13)), some (.int .u64 (.wrap .u64 (.var 1))), some (.int .u64 (.wrap .u64 (.var 2)))] 52 none 11)], nk := 0, nv := 26, pc := [(.usr 0 [(.wrap .i64 (.var 0)), (.wrap .u64 (.var 1)), (.wrap .u64 (.var 2))] [] [(.row 23), (.row 24), (.row 25)])] }] }
def mCRFTT : Memo := { f := 9, args := [(.ptr 2 0), (.ptr 5 0), (.agg [(.int .i64 (.wrap .i64 (.cell 0 (.lin (.fv 4) 5 0)))), (.int .i64 (.wrap .i64 (.cell 0 (.lin (.fv 4) 5 1)))), (.int .i64 (.wrap .i64 (.cell 0 (.lin (.fv 4) 5 2)))), (.int .u64 (.wrap .u64 (.cell 0 (.lin (.fv 4) 5 3)))), (.int .u64 (.wrap .u64 (.cell 0 (.lin (.fv 4) 5 4))))])], os := [(.grow 0 0 [.int .i64, .int .i64, .int .i64, .int .u64, .int .u64] (.fv 1) 0 (.fv 3)), (.row (.row 5) 58 [.int .u64, .int .u64] (.wrap .i64 (.var 0)) (.wrap .i64 (.var 0))), (.cells [some (.sl 1 2 (.lit 0) (.lit 0) (.wrap .i64 (.var 0)) (.wrap .i64 (.var 0))), some (.int .u64 (.wrap .u64 (.var 1))), some (.int .u64 (.wrap .u64 (.var 2)))] 61 none 2), (.row (.row 6) 22 [.int .u64] (.wrap .i64 (.var 0)) (.wrap .i64 (.var 0))), (.row (.row 7) 22 [.int .u64] (.wrap .i64 (.var 0)) (.wrap .i64 (.var 0))), (.cells [some (.sl 3 1 (.lit 0) (.lit 0) (.wrap .i64 (.var 0)) (.wrap .i64 (.var 0))), some (.sl 4 1 (.lit 0) (.lit 0) (.wrap .i64 (.var 0)) (.wrap .i64 (.var 0))), some (.int .u64 (.wrap .u64 (.var 1))), some (.int .u64 (.wrap .u64 (.var 2)))] 52 none 5)], nk := 0, nv := 8, pc := [(.cmp .lss (.fv 4) (.fv 1)), (.cmp .geq (.fv 4) (.lit 0)), (.not (.cmp .lss (.fv 1) (.fv 4))), (.usr 0 [(.wrap .i64 (.var 0)), (.wrap .u64 (.var 1)), (.wrap .u64 (.var 2))] [] [(.row 5), (.row 6), (.row 7)]), (.not (.cmp .gtr (.fv 1) (.lit 300))), (.not (.cmp .gtr (.wrap .u64 (.var 2)) (.lit 1073741824))), (.not (.cmp .gtr (.wrap .u64 (.var 1)) (.lit 1073741824))), (.not (.cmp .gtr (.wrap .i64 (.var 0)) (.lit 16))), (.not (.cmp .lss (.wrap .i64 (.var 0)) (.lit 1))), (.cmp .geq (.fv 1) (.lit 0)), (.cmp .leq (.fv 1) (.fv 2)), (.cmp .leq (.fv 2) (.lit 9223372036854775807)), (.cmp .geq (.fv 3) (.lit 0))], ends := [{ v := (.bool (.lit true)), os := [(.grow 0 0 [.int .i64, .int .i64, .int .i64, .int .u64, .int .u64] (.fv 1) 0 (.fv 3)), (.row (.row 8) 58 [.int .u64, .int .u64] (.wrap .i64 (.var 0)) (.wrap .i64 (.var 0))), (.cells [some (.sl 1 2 (.lit 0) (.lit 0) (.wrap .i64 (.var 0)) (.wrap .i64 (.var 0))), some (.int .u64 (.wrap .u64 (.var 1))), some (.int .u64 (.wrap .u64 (.var 2)))] 61 none 2), (.row (.row 9) 22 [.int .u64] (.wrap .i64 (.var 0)) (.wrap .i64 (.var 0))), (.row (.row 10) 22 [.int .u64] (.wrap .i64 (.var 0)) (.wrap .i64 (.var 0))), (.cells [some (.sl 3 1 (.lit 0) (.lit 0) (.wrap .i64 (.var 0)) (.wrap .i64 (.var 0))), some (.sl 4 1 (.lit 0) (.lit 0) (.wrap .i64 (.var 0)) (.wrap .i64 (.var 0))), some (.int .u64 (.wrap .u64 (.var 1))), some (.int .u64 (.wrap .u64 (.var 2)))] 52 none 5)], nk := 0, nv := 11, pc := [(.usr 0 [(.wrap .i64 (.var 0)), (.wrap .u64 (.var 1)), (.wrap .u64 (.var 2))] [] [(.row 8), (.row 9), (.row 10)])] }] }
def mC0FTT : Memo := { f := 6, args := [(.int .i64 (.wrap .i64 (.var 0))), (.int .u64 (.wrap .u64 (.var 1))), (.int .u64 (.wrap .u64 (.var 2))), (.sl 0 5 (.fv 3) (.lit 0) (.fv 1) (.fv 2)), (.int .i64 (.lit 300))], os := [(.grow 0 0 [.int .i64, .int .i64, .int .i64, .int .u64, .int .u64] (.fv 1) 0 (.fv 3))], nk := 0, nv := 4, pc := [(.cmp .geq (.fv 1) (.lit 0)), (.cmp .leq (.fv 1) (.fv 2)), (.cmp .leq (.fv 2) (.lit 9223372036854775807)), (.cmp .geq (.fv 3) (.lit 0))], ends := [{ v := (.tuple [.nilPtr, .nilPtr, (.bool (.lit true))]), os := [(.grow 0 0 [.int .i64, .int .i64, .int .i64, .int .u64, .int .u64] (.fv 1) 0 (.fv 3))], nk := 0, nv := 4, pc := [] }, { v := (.tuple [.nilPtr, .nilPtr, (.bool (.lit true))]), os := [(.grow 0 0 [.int .i64, .int .i64, .int .i64, .int .u64, .int .u64] (.fv 1) 0 (.fv 3)), (.row (.rep (.wrap .i64 (.var 0)) [(.int .u64, (.lit 0)), (.int .u64, (.lit 0))]) 58 [.int .u64, .int .u64] (.wrap .i64 (.var 0)) (.wrap .i64 (.var 0))), (.cells [some (.sl 1 2 (.lit 0) (.lit 0) (.wrap .i64 (.var 0)) (.wrap .i64 (.var 0))), some (.int .u64 (.wrap .u64 (.var 1))), some (.int .u64 (.wrap .u64 (.var 2)))] 61 none 2), (.row (.rep (.wrap .i64 (.var 0)) [(.int .u64, (.lit 0))]) 22 [.int .u64] (.wrap .i64 (.var 0)) (.wrap .i64 (.var 0))), (.row (.rep (.wrap .i64 (.var 0)) [(.int .u64, (.lit 0))]) 22 [.int .u64] (.wrap .i64 (.var 0)) (.wrap .i64 (.var 0))), (.cells [some (.sl 3 1 (.lit 0) (.lit 0) (.wrap .i64 (.var 0)) (.wrap .i64 (.var 0))), some (.sl 4 1 (.lit 0) (.lit 0) (.wrap .i64 (.var 0)) (.wrap .i64 (.var 0))), some (.int .u64 (.wrap .u64 (.var 1))), some (.int .u64 (.wrap .u64 (.var 2)))] 52 none 5)], nk := 0, nv := 4, pc := [(.cmp .gtr (.fv 1) (.lit 300)), (.not (.cmp .gtr (.wrap .u64 (.var 2)) (.lit 1073741824))), (.not (.cmp .gtr (.wrap .u64 (.var 1)) (.lit 1073741824))), (.not (.cmp .gtr (.wrap .i64 (.var 0)) (.lit 16))), (.not (.cmp .lss (.wrap .i64 (.var 0)) (.lit 1)))] }, { v := (.tuple [(.ptr 2 0), (.ptr 5 0), (.bool (.lit true))]), os := [(.grow 0 0 [.int .i64, .int .i64, .int .i64, .int .u64, .int .u64] (.fv 1) 0 (.fv 3)), (.row (.row 5) 58 [.int .u64, .int .u64] (.wrap .i64 (.var 0)) (.wrap .i64 (.var 0))), (.cells [some (.sl 1 2 (.lit 0) (.lit 0) (.wrap .i64 (.var 0)) (.wrap .i64 (.var 0))), some (.int .u64 (.wrap .u64 (.var 1))), some (.int .u64 (.wrap .u64 (.var 2)))] 61 none 2), (.row (.row 6) 22 [.int .u64] (.wrap .i64 (.var 0)) (.wrap .i64 (.var 0))), (.row (.row 7) 22 [.int .u64] (.wrap .i64 (.var 0)) (.wrap .i64 (.var 0))), (.cells [some (.sl 3 1 (.lit 0) (.lit 0) (.wrap .i64 (.var 0)) (.wrap .i64 (.var 0))), some (.sl 4 1 (.lit 0) (.lit 0) (.wrap .i64 (.var 0)) (.wrap .i64 (.var 0))), some (.int .u64 (.wrap .u64 (.var 1))), some (.int .u64 (.wrap .u64 (.var 2)))] 52 none 5)], nk := 0, nv := 8, pc := [(.not (.cmp .lss (.fv 4) (.fv 1))), (.cmp .geq (.fv 4) (.lit 0)), (.not (.cmp .lss (.fv 1) (.fv 4))), (.usr 0 [(.wrap .i64 (.var 0)), (.wrap .u64 (.var 1)), (.wrap .u64 (.var 2))] [] [(.row 5), (.row 6), (.row 7)]), (.not (.cmp .gtr (.fv 1) (.lit 300))), (.not (.cmp .gtr (.wrap .u64 (.var 2)) (.lit 1073741824))), (.not (.cmp .gtr (.wrap .u64 (.var 1)) (.lit 1073741824))), (.not (.cmp .gtr (.wrap .i64 (.var 0)) (.lit 16))), (.not (.cmp .lss (.wrap .i64 (.var 0)) (.lit 1)))] }] }
def mC0TFF : Memo := { f := 6, args := [(.int .i64 (.wrap .i64 (.var 0))), (.int .u64 (.wrap .u64 (.var 1))), (.int .u64 (.wrap .u64 (.var 2))), .nilSlice, (.int .i64 (.lit 300))], os := [(.grow 0 0 [.int .i64, .int .i64, .int .i64, .int .u64, .int .u64] (.fv 1) 0 (.fv 3)), (.grow 4 0 [.int .i64, .int .i64, .int .i64, .int .u64, .int .u64] (.fv 5) 1 (.fv 7))], nk := 0, nv := 8, pc := [(.cmp .geq (.fv 1) (.lit 0)), (.cmp .leq (.fv 1) (.fv 2)), (.cmp .leq (.fv 2) (.lit 9223372036854775807)), (.cmp .geq (.fv 3) (.lit 0)), (.cmp .geq (.fv 5) (.lit 0)), (.cmp .leq (.fv 5) (.fv 6)), (.cmp .leq (.fv 6) (.lit 9223372036854775807)), (.cmp .geq (.fv 7) (.lit 0))], ends := [{ v := (.tuple [.nilPtr, .nilPtr, (.bool (.lit true))]), os := [(.grow 0 0 [.int .i64, .int .i64, .int .i64, .int .u64, .int .u64] (.fv 1) 0 (.fv 3)), (.grow 4 0 [.int .i64, .int .i64, .int .i64, .int .u64, .int .u64] (.fv 5) 1 (.fv 7))], nk := 0, nv := 8, pc := [] }, { v := (.tuple [(.ptr 3 0), (.ptr 6 0), (.bool (.lit true))]), os := [(.grow 0 0 [.int .i64, .int .i64, .int .i64, .int .u64, .int .u64] (.fv 1) 0 (.fv 3)), (.grow 4 0 [.int .i64, .int .i64, .int .i64, .int .u64, .int .u64] (.fv 5) 1 (.fv 7)), (.row (.row 9) 58 [.int .u64, .int .u64] (.wrap .i64 (.var 0)) (.wrap .i64 (.var 0))), (.cells [some (.sl 2 2 (.lit 0) (.lit 0) (.wrap .i64 (.var 0)) (.wrap .i64 (.var 0))), some (.int .u64 (.wrap .u64 (.var 1))), some (.int .u64 (.wrap .u64 (.var 2)))] 61 none 3), (.row (.row 10) 22 [.int .u64] (.wrap .i64 (.var 0)) (.wrap .i64 (.var 0))), (.row (.row 11) 22 [.int .u64] (.wrap .i64 (.var 0)) (.wrap .i64 (.var 0))), (.cells [some (.sl 4 1 (.lit 0) (.lit 0) (.wrap .i64 (.var 0)) (.wrap .i64 (.var 0))), some (.sl 5 1 (.lit 0) (.lit 0) (.wrap .i64 (.var 0)) (.wrap .i64 (.var 0))), some (.int .u64 (.wrap .u64 (.var 1))), some (.int .u64 (.wrap .u64 (.var 2)))] 52 none 6)], nk := 0, nv := 12, pc := [(.cmp .geq (.fv 8) (.lit 0)), (.not (.cmp .lss (.lit 0) (.fv 8))), (.usr 0 [(.wrap .i64 (.var 0)), (.wrap .u64 (.var 1)), (.wrap .u64 (.var 2))] [] [(.row 9), (.row 10), (.row 11)]), (.not (.cmp .gtr (.wrap .u64 (.var 2)) (.lit 1073741824))), (.not (.cmp .gtr (.wrap .u64 (.var 1)) (.lit 1073741824))), (.not (.cmp .gtr (.wrap .i64 (.var 0)) (.lit 16))), (.not (.cmp .lss (.wrap .i64 (.var 0)) (.lit 1)))] }] }
def mCATFF : Memo := { f := 9, args := [(.ptr 3 0), (.ptr 6 0), (.agg [(.int .i64 (.wrap .i64 (.cell 0 (.lin (.fv 15) 5 0)))), (.int .i64 (.wrap .i64 (.cell 0 (.lin (.fv 15) 5 1)))), (.int .i64 (.wrap .i64 (.cell 0 (.lin (.fv 15) 5 2)))), (.int .u64 (.wrap .u64 (.cell 0 (.lin (.fv 15) 5 3)))), (.int .u64 (.wrap .u64 (.cell 0 (.lin (.fv 15) 5 4))))])], os := [(.grow 0 0 [.int .i64, .int .i64, .int .i64, .int .u64, .int .u64] (.fv 1) 0 (.fv 3)), (.grow 4 0 [.int .i64, .int .i64, .int .i64, .int .u64, .int .u64] (.fv 5) 1 (.fv 7)), (.row (.row 16) 58 [.int .u64, .int .u64] (.wrap .i64 (.var 0)) (.wrap .i64 (.var 0))), (.cells [some (.sl 2 2 (.lit 0) (.lit 0) (.wrap .i64 (.var 0)) (.wrap .i64 (.var 0))), some (.int .u64 (.wrap .u64 (.var 1))), some (.int .u64 (.wrap .u64 (.var 2)))] 61 none 3), (.row (.row 17) 22 [.int .u64] (.wrap .i64 (.var 0)) (.wrap .i64 (.var 0))), (.row (.row 18) 22 [.int .u64] (.wrap .i64 (.var 0)) (.wrap .i64 (.var 0))), (.cells [some (.sl 4 1 (.lit 0) (.lit 0) (.wrap .i64 (.var 0)) (.wrap .i64 (.var 0))), some (.sl 5 1 (.lit 0) (.lit 0) (.wrap .i64 (.var 0)) (.wrap .i64 (.var 0))), some (.int .u64 (.wrap .u64 (.var 1))), some (.int .u64 (.wrap .u64 (.var 2)))] 52 none 6), (.row (.row 9) 58 [.int .u64, .int .u64] (.wrap .i64 (.var 0)) (.wrap .i64 (.var 0))), (.cells [some (.sl 7 2 (.lit 0) (.lit 0) (.wrap .i64 (.var 0)) (.wrap .i64 (.var 0))), some (.int .u64 (.wrap .u64 (.var 1))), some (.int .u64 (.wrap .u64 (.var 2)))] 61 none 8), (.row (.row 10) 22 [.int .u64] (.wrap .i64 (.var 0)) (.fv 12)), (.row (.row 11) 22 [.int .u64] (.wrap .i64 (.var 0)) (.fv 13)), (.cells [some (.sl 9 1 (.lit 0) (.lit 0) (.wrap .i64 (.var 0)) (.fv 12)), some (.sl 10 1 (.lit 0) (.lit 0) (.wrap .i64 (.var 0)) (.fv 13)), some (.int .u64 (.wrap .u64 (.var 1))), some (.int .u64 (.wrap .u64 (.var 2)))] 52 none 11)], nk := 0, nv := 19, pc := [(.cmp .lss (.fv 15) (.fv 1)), (.cmp .geq (.fv 15) (.lit 0)), (.not (.cmp .lss (.fv 1) (.fv 15))), (.usr 0 [(.wrap .i64 (.var 0)), (.wrap .u64 (.var 1)), (.wrap .u64 (.var 2))] [] [(.row 16), (.row 17), (.row 18)]), (.not (.cmp .lss (.fv 14) (.wrap .i64 (.var 0)))), (.cmp .geq (.fv 14) (.lit 0)), (.not (.cmp .lss (.wrap .i64 (.var 0)) (.fv 14))), (.not (.cmp .lss (.fv 13) (.wrap .i64 (.var 0)))), (.not (.cmp .lss (.fv 12) (.wrap .i64 (.var 0)))), (.not (.cmp .gtr (.fv 5) (.lit 100))), (.not (.cmp .gtr (.fv 1) (.lit 100))), (.cmp .geq (.fv 8) (.lit 0)), (.not (.cmp .lss (.lit 0) (.fv 8))), (.usr 0 [(.wrap .i64 (.var 0)), (.wrap .u64 (.var 1)), (.wrap .u64 (.var 2))] [] [(.row 9), (.row 10), (.row 11)]), (.not (.cmp .gtr (.wrap .u64 (.var 2)) (.lit 1073741824))), (.not (.cmp .gtr (.wrap .u64 (.var 1)) (.lit 1073741824))), (.not (.cmp .gtr (.wrap .i64 (.var 0)) (.lit 16))), (.not (.cmp .lss (.wrap .i64 (.var 0)) (.lit 1))), (.cmp .geq (.fv 1) (.lit 0)), (.cmp .leq (.fv 1) (.fv 2)), (.cmp .leq (.fv 2) (.lit 9223372036854775807)), (.cmp .geq (.fv 3) (.lit 0)), (.cmp .geq (.fv 5) (.lit 0)), (.cmp .leq (.fv 5) (.fv 6)), (.cmp .leq (.fv 6) (.lit 9223372036854775807)), (.cmp .geq (.fv 7) (.lit 0))], ends := [{ v := (.bool (.lit true)), os := [(.grow 0 0 [.int .i64, .int .i64, .int .i64, .int .u64, .int .u64] (.fv 1) 0 (.fv 3)), (.grow 4 0 [.int .i64, .int .i64, .int .i64, .int .u64, .int .u64] (.fv 5) 1 (.fv 7)), (.row (.row 19) 58 [.int .u64, .int .u64] (.wrap .i64 (.var 0)) (.wrap .i64 (.var 0))), (.cells [some (.sl 2 2 (.lit 0) (.lit 0) (.wrap .i64 (.var 0)) (.wrap .i64 (.var 0))), some (.int .u64 (.wrap .u64 (.var 1))), some (.int .u64 (.wrap .u64 (.var 2)))] 61 none 3), (.row (.row 20) 22 [.int .u64] (.wrap .i64 (.var 0)) (.wrap .i64 (.var 0))), (.row (.row 21) 22 [.int .u64] (.wrap .i64 (.var 0)) (.wrap .i64 (.var 0))), (.cells [some (.sl 4 1 (.lit 0) (.lit 0) (.wrap .i64 (.var 0)) (.wrap .i64 (.var 0))), some (.sl 5 1 (.lit 0) (.lit 0) (.wrap .i64 (.var 0)) (.wrap .i64 (.var 0))), some (.int .u64 (.wrap .u64 (.var 1))), some (.int .u64 (.wrap .u64 (.var 2)))] 52 none 6), (.row (.row 9) 58 [.int .u64, .int .u64] (.wrap .i64 (.var 0)) (.wrap .i64 (.var 0))), (.cells [some (.sl 7 2 (.lit 0) (.lit 0) (.wrap .i64 (.var 0)) (.wrap .i64 (.var 0))), some (.int .u64 (.wrap .u64 (.var 1))), some (.int .u64 (.wrap .u64 (.var 2)))] 61 none 8), (.row (.row 10) 22 [.int .u64] (.wrap .i64 (.var 0)) (.fv 12)), (.row (.row 11) 22 [.int .u64] (.wrap .i64 (.var 0)) (.fv 13)), (.cells [some (.sl 9 1 (.lit 0) (.lit 0) (.wrap .i64 (.var 0)) (.fv 12)), some (.sl 10 1 (.lit 0) (.lit 0) (.wrap .i64 (.var 0)) (.fv 13)), some (.int .u64 (.wrap .u64 (.var 1))), some (.int .u64 (.wrap .u64 (.var 2)))] 52 none 11)], nk := 0, nv := 22, pc := [(.usr 0 [(.wrap .i64 (.var 0)), (.wrap .u64 (.var 1)), (.wrap .u64 (.var 2))] [] [(.row 19), (.row 20), (.row 21)])] }] }
def mCBTFF : Memo := { f := 9, args := [(.ptr 8 0), (.ptr 11 0), (.agg [(.int .i64 (.wrap .i64 (.cell 4 (.lin (.fv 19) 5 0)))), (.int .i64 (.wrap .i64 (.cell 4 (.lin (.fv 19) 5 1)))), (.int .i64 (.wrap .i64 (.cell 4 (.lin (.fv 19) 5 2)))), (.int .u64 (.wrap .u64 (.cell 4 (.lin (.fv 19) 5 3)))), (.int .u64 (.wrap .u64 (.cell 4 (.lin (.fv 19) 5 4))))])], os := [(.grow 0 0 [.int .i64, .int .i64, .int .i64, .int .u64, .int .u64] (.fv 1) 0 (.fv 3)), (.grow 4 0 [.int .i64, .int .i64, .int .i64, .int .u64, .int .u64] (.fv 5) 1 (.fv 7)), (.row (.row 16) 58 [.int .u64, .int .u64] (.wrap .i64 (.var 0)) (.wrap .i64 (.var 0))), (.cells [some (.sl 2 2 (.lit 0) (.lit 0) (.wrap .i64 (.var 0)) (.wrap .i64 (.var 0))), some (.int .u64 (.wrap .u64 (.var 1))), some (.int .u64 (.wrap .u64 (.var 2)))] 61 none 3), (.row (.row 17) 22 [.int .u64] (.wrap .i64 (.var 0)) (.wrap .i64 (.var 0))), (.row (.row 18) 22 [.int .u64] (.wrap .i64 (.var 0)) (.wrap .i64 (.var 0))), (.cells [some (.sl 4 1 (.lit 0) (.lit 0) (.wrap .i64 (.var 0)) (.wrap .i64 (.var 0))), some (.sl 5 1 (.lit 0) (.lit 0) (.wrap .i64 (.var 0)) (.wrap .i64 (.var 0))), some (.int .u64 (.wrap .u64 (.var 1))), some (.int .u64 (.wrap .u64 (.var 2)))] 52 none 6), (.row (.row 20) 58 [.int .u64, .int .u64] (.wrap .i64 (.var 0)) (.wrap .i64 (.var 0))), (.cells [some (.sl 7 2 (.lit 0) (.lit 0) (.wrap .i64 (.var 0)) (.wrap .i64 (.var 0))), some (.int .u64 (.wrap .u64 (.var 1))), some (.int .u64 (.wrap .u64 (.var 2)))] 61 none 8), (.row (.row 21) 22 [.int .u64] (.wrap .i64 (.var 0)) (.fv 12)), (.row (.row 22) 22 [.int .u64] (.wrap .i64 (.var 0)) (.fv 13)), (.cells [some (.sl 9 1 (.lit 0) (.lit 0) (.wrap .i64 (.var 0)) (.fv 12)), some (.sl 10 1 (.lit 0) (.lit 0) (.wrap .i64 (.var 0)) (.fv 13)), some (.int .u64 (.wrap .u64 (.var 1))), some (.int .u64 (.wrap .u64 (.var 2)))] 52 none 11)], nk := 0, nv := 23, pc := [(.cmp .lss (.fv 19) (.fv 5)), (.cmp .geq (.fv 19) (.lit 0)), (.not (.cmp .lss (.fv 5) (.fv 19))), (.usr 0 [(.wrap .i64 (.var 0)), (.wrap .u64 (.var 1)), (.wrap .u64 (.var 2))] [] [(.row 20), (.row 21), (.row 22)]), (.not (.cmp .lss (.fv 15) (.fv 1))), (.cmp .geq (.fv 15) (.lit 0)), (.not (.cmp .lss (.fv 1) (.fv 15))), (.usr 0 [(.wrap .i64 (.var 0)), (.wrap .u64 (.var 1)), (.wrap .u64 (.var 2))] [] [(.row 16), (.row 17), (.row 18)]), (.not (.cmp .lss (.fv 14) (.wrap .i64 (.var 0)))), (.cmp .geq (.fv 14) (.lit 0)), (.not (.cmp .lss (.wrap .i64 (.var 0)) (.fv 14))), (.not (.cmp .lss (.fv 13) (.wrap .i64 (.var 0)))), (.not (.cmp .lss (.fv 12) (.wrap .i64 (.var 0)))), (.not (.cmp .gtr (.fv 5) (.lit 100))), (.not (.cmp .gtr (.fv 1) (.lit 100))), (.cmp .geq (.fv 8) (.lit 0)), (.not (.cmp .lss (.lit 0) (.fv 8))), (.usr 0 [(.wrap .i64 (.var 0)), (.wrap .u64 (.var 1)), (.wrap .u64 (.var 2))] [] [(.row 9), (.row 10), (.row 11)]), (.not (.cmp .gtr (.wrap .u64 (.var 2)) (.lit 1073741824))), (.not (.cmp .gtr (.wrap .u64 (.var 1)) (.lit 1073741824))), (.not (.cmp .gtr (.wrap .i64 (.var 0)) (.lit 16))), (.not (.cmp .lss (.wrap .i64 (.var 0)) (.lit 1))), (.cmp .geq (.fv 1) (.lit 0)), (.cmp .leq (.fv 1) (.fv 2)), (.cmp .leq (.fv 2) (.lit 9223372036854775807)), (.cmp .geq (.fv 3) (.lit 0)), (.cmp .geq (.fv 5) (.lit 0)), (.cmp .leq (.fv 5) (.fv 6)), (.cmp .leq (.fv 6) (.lit 9223372036854775807)), (.cmp .geq (.fv 7) (.lit 0))], ends := [{ v := (.bool (.lit true)), os := [(.grow 0 0 [.int .i64, .int .i64, .int .i64, .int .u64, .int .u64] (.fv 1) 0 (.fv 3)), (.grow 4 0 [.int .i64, .int .i64, .int .i64, .int .u64, .int .u64] (.fv 5) 1 (.fv 7)), (.row (.row 16) 58 [.int .u64, .int .u64] (.wrap .i64 (.var 0)) (.wrap .i64 (.var 0))), (.cells [some (.sl 2 2 (.lit 0) (.lit 0) (.wrap .i64 (.var 0)) (.wrap .i64 (.var 0))), some (.int .u64 (.wrap .u64 (.var 1))), some (.int .u64 (.wrap .u64 (.var 2)))] 61 none 3), (.row (.row 17) 22 [.int .u64] (.wrap .i64 (.var 0)) (.wrap .i64 (.var 0))), (.row (.row 18) 22 [.int .u64] (.wrap .i64 (.var 0)) (.wrap .i64 (.var 0))), (.cells [some (.sl 4 1 (.lit 0) (.lit 0) (.wrap .i64 (.var 0)) (.wrap .i64 (.var 0))), some (.sl 5 1 (.lit 0) (.lit 0) (.wrap .i64 (.var 0)) (.wrap .i64 (.var 0))), some (.int .u64 (.wrap .u64 (.var 1))), some (.int .u64 (.wrap .u64 (.var 2)))] 52 none 6), (.row (.row 23) 58 [.int .u64, .int .u64] (.wrap .i64 (.var 0)) (.wrap .i64 (.var 0))), (.cells [some (.sl 7 2 (.lit 0) (.lit 0) (.wrap .i64 (.var 0)) (.wrap .i64 (.var 0))), some (.int .u64 (.wrap .u64 (.var 1))), some (.int .u64 (.wrap .u64 (.var 2)))] 61 none 8), (.row (.row 24) 22 [.int .u64] (.wrap .i64 (.var 0)) (.fv 12)), (.row (.row 25) 22 [.int .u64] (.wrap .i64 (.var 0)) (.fv 13)), (.cells [some (.sl 9 1 (.lit 0) (.lit 0) (.wrap .i64 (.var 0)) (.fv 12)), some (.sl 10 1 (.lit 0) (.lit 0) (.wrap .i64 (.var 0)) (.fv 13)), some (.int .u64 (.wrap .u64 (.var 1))), some (.int .u64 (.wrap .u64 (.var 2)))] 52 none 11)], nk := 0, nv := 26, pc := [(.usr 0 [(.wrap .i64 (.var 0)), (.wrap .u64 (.var 1)), (.wrap .u64 (.var 2))] [] [(.row 23), (.row 24), (.row 25)])] }] }
def mC0TFT : Memo := { f := 6, args := [(.int .i64 (.wrap .i64 (.var 0))), (.int .u64 (.wrap .u64 (.var 1))), (.int .u64 (.wrap .u64 (.var 2))), .nilSlice, (.int .i64 (.lit 300))], os := [(.grow 0 0 [.int .i64, .int .i64, .int .i64, .int .u64, .int .u64] (.fv 1) 0 (.fv 3))], nk := 0, nv := 4, pc := [(.cmp .geq (.fv 1) (.lit 0)), (.cmp .leq (.fv 1) (.fv 2)), (.cmp .leq (.fv 2) (.lit 9223372036854775807)), (.cmp .geq (.fv 3) (.lit 0))], ends := [{ v := (.tuple [.nilPtr, .nilPtr, (.bool (.lit true))]), os := [(.grow 0 0 [.int .i64, .int .i64, .int .i64, .int .u64, .int .u64] (.fv 1) 0 (.fv 3))], nk := 0, nv := 4, pc := [] }, { v := (.tuple [(.ptr 2 0), (.ptr 5 0), (.bool (.lit true))]), os := [(.grow 0 0 [.int .i64, .int .i64, .int .i64, .int .u64, .int .u64] (.fv 1) 0 (.fv 3)), (.row (.row 5) 58 [.int .u64, .int .u64] (.wrap .i64 (.var 0)) (.wrap .i64 (.var 0))), (.cells [some (.sl 1 2 (.lit 0) (.lit 0) (.wrap .i64 (.var 0)) (.wrap .i64 (.var 0))), some (.int .u64 (.wrap .u64 (.var 1))), some (.int .u64 (.wrap .u64 (.var 2)))] 61 none 2), (.row (.row 6) 22 [.int .u64] (.wrap .i64 (.var 0)) (.wrap .i64 (.var 0))), (.row (.row 7) 22 [.int .u64] (.wrap .i64 (.var 0)) (.wrap .i64 (.var 0))), (.cells [some (.sl 3 1 (.lit 0) (.lit 0) (.wrap .i64 (.var 0)) (.wrap .i64 (.var 0))), some (.sl 4 1 (.lit 0) (.lit 0) (.wrap .i64 (.var 0)) (.wrap .i64 (.var 0))), some (.int .u64 (.wrap .u64 (.var 1))), some (.int .u64 (.wrap .u64 (.var 2)))] 52 none 5)], nk := 0, nv := 8, pc := [(.cmp .geq (.fv 4) (.lit 0)), (.not (.cmp .lss (.lit 0) (.fv 4))), (.usr 0 [(.wrap .i64 (.var 0)), (.wrap .u64 (.var 1)), (.wrap .u64 (.var 2))] [] [(.row 5), (.row 6), (.row 7)]), (.not (.cmp .gtr (.wrap .u64 (.var 2)) (.lit 1073741824))), (.not (.cmp .gtr (.wrap .u64 (.var 1)) (.lit 1073741824))), (.not (.cmp .gtr (.wrap .i64 (.var 0)) (.lit 16))), (.not (.cmp .lss (.wrap .i64 (.var 0)) (.lit 1)))] }] }
def mCATFT : Memo := { f := 9, args := [(.ptr 2 0), (.ptr 5 0), (.agg [(.int .i64 (.wrap .i64 (.cell 0 (.lin (.fv 11) 5 0)))), (.int .i64 (.wrap .i64 (.cell 0 (.lin (.fv 11) 5 1)))), (.int .i64 (.wrap .i64 (.cell 0 (.lin (.fv 11) 5 2)))), (.int .u64 (.wrap .u64 (.cell 0 (.lin (.fv 11) 5 3)))), (.int .u64 (.wrap .u64 (.cell 0 (.lin (.fv 11) 5 4))))])], os := [(.grow 0 0 [.int .i64, .int .i64, .int .i64, .int .u64, .int .u64] (.fv 1) 0 (.fv 3)), (.row (.row 12) 58 [.int .u64, .int .u64] (.wrap .i64 (.var 0)) (.wrap .i64 (.var 0))), (.cells [some (.sl 1 2 (.lit 0) (.lit 0) (.wrap .i64 (.var 0)) (.wrap .i64 (.var 0))), some (.int .u64 (.wrap .u64 (.var 1))), some (.int .u64 (.wrap .u64 (.var 2)))] 61 none 2), (.row (.row 13) 22 [.int .u64] (.wrap .i64 (.var 0)) (.wrap .i64 (.var 0))), (.row (.row 14) 22 [.int .u64] (.wrap .i64 (.var 0)) (.wrap .i64 (.var 0))), (.cells [some (.sl 3 1 (.lit 0) (.lit 0) (.wrap .i64 (.var 0)) (.wrap .i64 (.var 0))), some (.sl 4 1 (.lit 0) (.lit 0) (.wrap .i64 (.var 0)) (.wrap .i64 (.var 0))), some (.int .u64 (.wrap .u64 (.var 1))), some (.int .u64 (.wrap .u64 (.var 2)))] 52 none 5), (.row (.row 5) 58 [.int .u64, .int .u64] (.wrap .i64 (.var 0)) (.wrap .i64 (.var 0))), (.cells [some (.sl 6 2 (.lit 0) (.lit 0) (.wrap .i64 (.var 0)) (.wrap .i64 (.var 0))), some (.int .u64 (.wrap .u64 (.var 1))), some (.int .u64 (.wrap .u64 (.var 2)))] 61 none 7), (.row (.row 6) 22 [.int .u64] (.wrap .i64 (.var 0)) (.fv 8)), (.row (.row 7) 22 [.int .u64] (.wrap .i64 (.var 0)) (.fv 9)), (.cells [some (.sl 8 1 (.lit 0) (.lit 0) (.wrap .i64 (.var 0)) (.fv 8)), some (.sl 9 1 (.lit 0) (.lit 0) (.wrap .i64 (.var 0)) (.fv 9)), some (.int .u64 (.wrap .u64 (.var 1))), some (.int .u64 (.wrap .u64 (.var 2)))] 52 none 10)], nk := 0, nv := 15, pc := [(.cmp .lss (.fv 11) (.fv 1)), (.cmp .geq (.fv 11) (.lit 0)), (.not (.cmp .lss (.fv 1) (.fv 11))), (.usr 0 [(.wrap .i64 (.var 0)), (.wrap .u64 (.var 1)), (.wrap .u64 (.var 2))] [] [(.row 12), (.row 13), (.row 14)]), (.not (.cmp .lss (.fv 10) (.wrap .i64 (.var 0)))), (.cmp .geq (.fv 10) (.lit 0)), (.not (.cmp .lss (.wrap .i64 (.var 0)) (.fv 10))), (.not (.cmp .lss (.fv 9) (.wrap .i64 (.var 0)))), (.not (.cmp .lss (.fv 8) (.wrap .i64 (.var 0)))), (.not (.cmp .gtr (.fv 1) (.lit 100))), (.cmp .geq (.fv 4) (.lit 0)), (.not (.cmp .lss (.lit 0) (.fv 4))), (.usr 0 [(.wrap .i64 (.var 0)), (.wrap .u64 (.var 1)), (.wrap .u64 (.var 2))] [] [(.row 5), (.row 6), (.row 7)]), (.not (.cmp .gtr (.wrap .u64 (.var 2)) (.lit 1073741824))), (.not (.cmp .gtr (.wrap .u64 (.var 1)) (.lit 1073741824))), (.not (.cmp .gtr (.wrap .i64 (.var 0)) (.lit 16))), (.not (.cmp .lss (.wrap .i64 (.var 0)) (.lit 1))), (.cmp .geq (.fv 1) (.lit 0)), (.cmp .leq (.fv 1) (.fv 2)), (.cmp .leq (.fv 2) (.lit 9223372036854775807)), (.cmp .geq (.fv 3) (.lit 0))], ends := [{ v := (.bool (.lit true)), os := [(.grow 0 0 [.int .i64, .int .i64, .int .i64, .int .u64, .int .u64] (.fv 1) 0 (.fv 3)), (.row (.row 15) 58 [.int .u64, .int .u64] (.wrap .i64 (.var 0)) (.wrap .i64 (.var 0))), (.cells [some (.sl 1 2 (.lit 0) (.lit 0) (.wrap .i64 (.var 0)) (.wrap .i64 (.var 0))), some (.int .u64 (.wrap .u64 (.var 1))), some (.int .u64 (.wrap .u64 (.var 2)))] 61 none 2), (.row (.row 16) 22 [.int .u64] (.wrap .i64 (.var 0)) (.wrap .i64 (.var 0))), (.row (.row 17) 22 [.int .u64] (.wrap .i64 (.var 0)) (.wrap .i64 (.var 0))), (.cells [some (.sl 3 1 (.lit 0) (.lit 0) (.wrap .i64 (.var 0)) (.wrap .i64 (.var 0))), some (.sl 4 1 (.lit 0) (.lit 0) (.wrap .i64 (.var 0)) (.wrap .i64 (.var 0))), some (.int .u64 (.wrap .u64 (.var 1))), some (.int .u64 (.wrap .u64 (.var 2)))] 52 none 5), (.row (.row 5) 58 [.int .u64, .int .u64] (.wrap .i64 (.var 0)) (.wrap .i64 (.var 0))), (.cells [some (.sl 6 2 (.lit 0) (.lit 0) (.wrap .i64 (.var 0)) (.wrap .i64 (.var 0))), some (.int .u64 (.wrap .u64 (.var 1))), some (.int .u64 (.wrap .u64 (.var 2)))] 61 none 7), (.row (.row 6) 22 [.int .u64] (.wrap .i64 (.var 0)) (.fv 8)), (.row (.row 7) 22 [.int .u64] (.wrap .i64 (.var 0)) (.fv 9)), (.cells [some (.sl 8 1 (.lit 0) (.lit 0) (.wrap .i64 (.var 0)) (.fv 8)), some (.sl 9 1 (.lit 0) (.lit 0) (.wrap .i64 (.var 0)) (.fv 9)), some (.int .u64 (.wrap .u64 (.var 1))), some (.int .u64 (.wrap .u64 (.var 2)))] 52 none 10)], nk := 0, nv := 18, pc := [(.usr 0 [(.wrap .i64 (.var 0)), (.wrap .u64 (.var 1)), (.wrap .u64 (.var 2))] [] [(.row 15), (.row 16), (.row 17)])] }] }
def mCBTTF : Memo := { f := 9, args := [(.ptr 7 0), (.ptr 10 0), (.agg [(.int .i64 (.wrap .i64 (.cell 0 (.lin (.fv 15) 5 0)))), (.int .i64 (.wrap .i64 (.cell 0 (.lin (.fv 15) 5 1)))), (.int .i64 (.wrap .i64 (.cell 0 (.lin (.fv 15) 5 2)))), (.int .u64 (.wrap .u64 (.cell 0 (.lin (.fv 15) 5 3)))), (.int .u64 (.wrap .u64 (.cell 0 (.lin (.fv 15) 5 4))))])], os := [(.grow 0 0 [.int .i64, .int .i64, .int .i64, .int .u64, .int .u64] (.fv 1) 0 (.fv 3)), (.row (.row 12) 58 [.int .u64, .int .u64] (.wrap .i64 (.var 0)) (.wrap .i64 (.var 0))), (.cells [some (.sl 1 2 (.lit 0) (.lit 0) (.wrap .i64 (.var 0)) (.wrap .i64 (.var 0))), some (.int .u64 (.wrap .u64 (.var 1))), some (.int .u64 (.wrap .u64 (.var 2)))] 61 none 2), (.row (.row 13) 22 [.int .u64] (.wrap .i64 (.var 0)) (.wrap .i64 (.var 0))), (.row (.row 14) 22 [.int .u64] (.wrap .i64 (.var 0)) (.wrap .i64 (.var 0))), (.cells [some (.sl 3 1 (.lit 0) (.lit 0) (.wrap .i64 (.var 0)) (.wrap .i64 (.var 0))), some (.sl 4 1 (.lit 0) (.lit 0) (.wrap .i64 (.var 0)) (.wrap .i64 (.var 0))), some (.int .u64 (.wrap .u64 (.var 1))), some (.int .u64 (.wrap .u64 (.var 2)))] 52 none 5), (.row (.row 16) 58 [.int .u64, .int .u64] (.wrap .i64 (.var 0)) (.wrap .i64 (.var 0))), (.cells [some (.sl 6 2 (.lit 0) (.lit 0) (.wrap .i64 (.var 0)) (.wrap .i64 (.var 0))), some (.int .u64 (.wrap .u64 (.var 1))), some (.int .u64 (.wrap .u64 (.var 2)))] 61 none 7), (.row (.row 17) 22 [.int .u64] (.wrap .i64 (.var 0)) (.fv 8)), (.row (.row 18) 22 [.int .u64] (.wrap .i64 (.var 0)) (.fv 9)), (.cells [some (.sl 8 1 (.lit 0) (.lit 0) (.wrap .i64 (.var 0)) (.fv 8)), some (.sl 9 1 (.lit 0) (.lit 0) (.wrap .i64 (.var 0)) (.fv 9)), some (.int .u64 (.wrap .u64 (.var 1))), some (.int .u64 (.wrap .u64 (.var 2)))] 52 none 10)], nk := 0, nv := 19, pc := [(.cmp .lss (.fv 15) (.fv 1)), (.cmp .geq (.fv 15) (.lit 0)), (.not (.cmp .lss (.fv 1) (.fv 15))), (.usr 0 [(.wrap .i64 (.var 0)), (.wrap .u64 (.var 1)), (.wrap .u64 (.var 2))] [] [(.row 16), (.row 17), (.row 18)]), (.cmp .geq (.fv 11) (.lit 0)), (.not (.cmp .lss (.lit 0) (.fv 11))), (.usr 0 [(.wrap .i64 (.var 0)), (.wrap .u64 (.var 1)), (.wrap .u64 (.var 2))] [] [(.row 12), (.row 13), (.row 14)]), (.not (.cmp .lss (.fv 10) (.wrap .i64 (.var 0)))), (.cmp .geq (.fv 10) (.lit 0)), (.not (.cmp .lss (.wrap .i64 (.var 0)) (.fv 10))), (.not (.cmp .lss (.fv 9) (.wrap .i64 (.var 0)))), (.not (.cmp .lss (.fv 8) (.wrap .i64 (.var 0)))), (.not (.cmp .gtr (.fv 1) (.lit 100))), (.cmp .geq (.fv 4) (.lit 0)), (.not (.cmp .lss (.lit 0) (.fv 4))), (.usr 0 [(.wrap .i64 (.var 0)), (.wrap .u64 (.var 1)), (.wrap .u64 (.var 2))] [] [(.row 5), (.row 6), (.row 7)]), (.not (.cmp .gtr (.wrap .u64 (.var 2)) (.lit 1073741824))), (.not (.cmp .gtr (.wrap .u64 (.var 1)) (.lit 1073741824))), (.not (.cmp .gtr (.wrap .i64 (.var 0)) (.lit 16))), (.not (.cmp .lss (.wrap .i64 (.var 0)) (.lit 1))), (.cmp .geq (.fv 1) (.lit 0)), (.cmp .leq (.fv 1) (.fv 2)), (.cmp .leq (.fv 2) (.lit 9223372036854775807)), (.cmp .geq (.fv 3) (.lit 0))], ends := [{ v := (.bool (.lit true)), os := [(.grow 0 0 [.int .i64, .int .i64, .int .i64, .int .u64, .int .u64] (.fv 1) 0 (.fv 3)), (.row (.row 12) 58 [.int .u64, .int .u64] (.wrap .i64 (.var 0)) (.wrap .i64 (.var 0))), (.cells [some (.sl 1 2 (.lit 0) (.lit 0) (.wrap .i64 (.var 0)) (.wrap .i64 (.var 0))), some (.int .u64 (.wrap .u64 (.var 1))), some (.int .u64 (.wrap .u64 (.var 2)))] 61 none 2), (.row (.row 13) 22 [.int .u64] (.wrap .i64 (.var 0)) (.wrap .i64 (.var 0))), (.row (.row 14) 22 [.int .u64] (.wrap .i64 (.var 0)) (.wrap .i64 (.var 0))), (.cells [some (.sl 3 1 (.lit 0) (.lit 0) (.wrap .i64 (.var 0)) (.wrap .i64 (.var 0))), some (.sl 4 1 (.lit 0) (.lit 0) (.wrap .i64 (.var 0)) (.wrap .i64 (.var 0))), some (.int .u64 (.wrap .u64 (.var 1))), some (.int .u64 (.wrap .u64 (.var 2)))] 52 none 5), (.row (.row 19) 58 [.int .u64, .int .u64] (.wrap .i64 (.var 0)) (.wrap .i64 (.var 0))), (.cells [some (.sl 6 2 (.lit 0) (.lit 0) (.wrap .i64 (.var 0)) (.wrap .i64 (.var 0))), some (.int .u64 (.wrap .u64 (.var 1))), some (.int .u64 (.wrap .u64 (.var 2)))] 61 none 7), (.row (.row 20) 22 [.int .u64] (.wrap .i64 (.var 0)) (.fv 8)), (.row (.row 21) 22 [.int .u64] (.wrap .i64 (.var 0)) (.fv 9)), (.cells [some (.sl 8 1 (.lit 0) (.lit 0) (.wrap .i64 (.var 0)) (.fv 8)), some (.sl 9 1 (.lit 0) (.lit 0) (.wrap .i64 (.var 0)) (.fv 9)), some (.int .u64 (.wrap .u64 (.var 1))), some (.int .u64 (.wrap .u64 (.var 2)))] 52 none 10)], nk := 0, nv := 22, pc := [(.usr 0 [(.wrap .i64 (.var 0)), (.wrap .u64 (.var 1)), (.wrap .u64 (.var 2))] [] [(.row 19), (.row 20), (.row 21)])] }] }
def mC0TTT : Memo := { f := 6, args := [(.int .i64 (.wrap .i64 (.var 0))), (.int .u64 (.wrap .u64 (.var 1))), (.int .u64 (.wrap .u64 (.var 2))), .nilSlice, (.int .i64 (.lit 300))], os := [], nk := 0, nv := 0, pc := [], ends := [{ v := (.tuple [.nilPtr, .nilPtr, (.bool (.lit true))]), os := [], nk := 0, nv := 0, pc := [] }, { v := (.tuple [(.ptr 1 0), (.ptr 4 0), (.bool (.lit true))]), os := [(.row (.row 1) 58 [.int .u64, .int .u64] (.wrap .i64 (.var 0)) (.wrap .i64 (.var 0))), (.cells [some (.sl 0 2 (.lit 0) (.lit 0) (.wrap .i64 (.var 0)) (.wrap .i64 (.var 0))), some (.int .u64 (.wrap .u64 (.var 1))), some (.int .u64 (.wrap .u64 (.var 2)))] 61 none 1), (.row (.row 2) 22 [.int .u64] (.wrap .i64 (.var 0)) (.wrap .i64 (.var 0))), (.row (.row 3) 22 [.int .u64] (.wrap .i64 (.var 0)) (.wrap .i64 (.var 0))), (.cells [some (.sl 2 1 (.lit 0) (.lit 0) (.wrap .i64 (.var 0)) (.wrap .i64 (.var 0))), some (.sl 3 1 (.lit 0) (.lit 0) (.wrap .i64 (.var 0)) (.wrap .i64 (.var 0))), some (.int .u64 (.wrap .u64 (.var 1))), some (.int .u64 (.wrap .u64 (.var 2)))] 52 none 4)], nk := 0, nv := 4, pc := [(.cmp .geq (.fv 0) (.lit 0)), (.not (.cmp .lss (.lit 0) (.fv 0))), (.usr 0 [(.wrap .i64 (.var 0)), (.wrap .u64 (.var 1)), (.wrap .u64 (.var 2))] [] [(.row 1), (.row 2), (.row 3)]), (.not (.cmp .gtr (.wrap .u64 (.var 2)) (.lit 1073741824))), (.not (.cmp .gtr (.wrap .u64 (.var 1)) (.lit 1073741824))), (.not (.cmp .gtr (.wrap .i64 (.var 0)) (.lit 16))), (.not (.cmp .lss (.wrap .i64 (.var 0)) (.lit 1)))] }] }
def Rel (n k b : Int) (a x y : List Value) : Prop :=
  (a.length : Int) = 2 * n ∧ (x.length : Int) = n ∧ (y.length : Int) = n ∧ ∀ i : Nat, (i : Int) < n → numAt a (2 * i) = numAt x i ∧ numAt a (2 * i + 1) = numAt y i ∧ 0 ≤ numAt x i ∧ numAt x i ≤ k ∧ numAt x i ≤ 18446744073709551615 ∧ 0 ≤ numAt y i ∧ numAt y i ≤ b ∧ numAt y i ≤ 18446744073709551615
def Hold (n k b : Int) (a : List Value) : Prop :=
  (a.length : Int) = 2 * n ∧ ∀ i : Nat, (i : Int) < n → 0 ≤ numAt a (2 * i) ∧ numAt a (2 * i) ≤ k ∧ numAt a (2 * i) ≤ 18446744073709551615 ∧ 0 ≤ numAt a (2 * i + 1) ∧ numAt a (2 * i + 1) ≤ b ∧ numAt a (2 * i + 1) ≤ 18446744073709551615
def sumN (a : List Value) (o : Nat) : Nat → Int
  | 0 => 0
  | i + 1 => sumN a o i + numAt a (2 * i + o)
def cellN (a : List Value) (i : Nat) : Int := numAt a i % 18446744073709551616
def EqAt (a c : List Value) (j : Nat) : Prop := cellN a (2 * j) = cellN c (2 * j) ∧ cellN a (2 * j + 1) = cellN c (2 * j + 1)
def prd : Nat → List Int → List (List UInt8) → List (List Value) → Prop
  | 0, [n, k, b], _, [a, x, y] => Rel n k b a x y
  | 1, [n, k, b], _, [a] => Hold n k b a
  | 2, [o, i, s], _, [a] => s = sumN a o.toNat i.toNat % 18446744073709551616
  | 5, [], _, [] => True
  | 6, [i], _, [a, c] => ∀ j : Nat, (j : Int) < i → EqAt a c j
  | 7, [n], _, [a, c] => ∃ j : Nat, (j : Int) < n ∧ ¬ EqAt a c j
  | 3, [o, n, i, s], _, [a] => s = (sumN a o.toNat n.toNat - sumN a o.toNat i.toNat) % 18446744073709551616
  | _, _, _, _ => False
def u64 (x : Int) : Value := .int .u64 x
theorem Rel.set {n k b p q : Int} {a x y : List Value} {i : Nat} (h : Rel n k b a x y) (hi : (i : Int) < n) (hp : 0 ≤ p ∧ p ≤ k ∧ p ≤ 18446744073709551615) (hq : 0 ≤ q ∧ q ≤ b ∧ q ≤ 18446744073709551615) : Rel n k b (setAt a (2 * i) [u64 p, u64 q]) (setAt x i [u64 p]) (setAt y i [u64 q]) := by
  obtain ⟨h1, h2, h3, h4⟩ := h
  have l1 : 2 * i + [u64 p, u64 q].length ≤ a.length := by simp only [List.length_cons, List.length_nil]; omega
  have l2 : i + [u64 p].length ≤ x.length := by simp only [List.length_cons, List.length_nil]; omega
  have l3 : i + [u64 q].length ≤ y.length := by simp only [List.length_cons, List.length_nil]; omega
  refine ⟨by rw [setAt_length l1]; exact h1, by rw [setAt_length l2]; exact h2, by rw [setAt_length l3]; exact h3, fun j hj => ?_⟩
  have := h4 j hj
  rw [numAt_set l1, numAt_set l1, numAt_set l2, numAt_set l3]
  simp only [List.length_cons, List.length_nil]
  by_cases e : j = i
  · subst e
    have e1 : 2 * j - 2 * j = 0 := by omega
    have e2 : 2 * j + 1 - 2 * j = 1 := by omega
    have e3 : j - j = 0 := by omega
    rw [if_pos (by omega), if_pos (by omega), if_pos (by omega), if_pos (by omega), e1, e2, e3]
    exact ⟨rfl, rfl, hp.1, hp.2.1, hp.2.2, hq.1, hq.2.1, hq.2.2⟩
  · rw [if_neg (by omega), if_neg (by omega), if_neg (by omega), if_neg (by omega)]
    exact this
theorem Rel.congr {n k b : Int} {a x y x' y' : List Value} (h : Rel n k b a x y) (l1 : x'.length = x.length) (l2 : y'.length = y.length) (h1 : ∀ i : Nat, (i : Int) < n → numAt x' i = numAt x i) (h2 : ∀ i : Nat, (i : Int) < n → numAt y' i = numAt y i) : Rel n k b a x' y' :=
  ⟨h.1, by rw [l1]; exact h.2.1, by rw [l2]; exact h.2.2.1, fun i hi => by rw [h1 i hi, h2 i hi]; exact h.2.2.2 i hi⟩
theorem set_old {x : List Value} {i : Nat} {p : Int} {n : Int} (hl : (x.length : Int) = n) (hi : (i : Int) < n) (hp : p = numAt x i) : (setAt x i [u64 p]).length = x.length ∧ ∀ j : Nat, (j : Int) < n → numAt (setAt x i [u64 p]) j = numAt x j := by
  have l2 : i + [u64 p].length ≤ x.length := by simp only [List.length_cons, List.length_nil]; omega
  refine ⟨setAt_length l2, fun j hj => ?_⟩
  rw [numAt_set l2]
  simp only [List.length_cons, List.length_nil]
  split
  · have : j = i := by omega
    subst this
    rw [Nat.sub_self, hp]; rfl
  · rfl
section
variable {ι : Unk}
theorem d_rel (hp : ι.prd = prd) {n k b : IE} {a x y : RX} : (pRel n k b a x y).den ι = true ↔ Rel (n.den ι) (k.den ι) (b.den ι) (a.den ι) (x.den ι) (y.den ι) := n_usr hp
theorem n_r {s : Nat} : (r s).den ι = ι.fr s := rfl
theorem n_set1 {x : RX} {i p : IE} : (RX.set x i (u1 p)).den ι = setAt (x.den ι) (i.den ι).toNat [u64 (p.den ι)] := rfl
theorem n_set2 {x : RX} {i p q : IE} : (RX.set x i (u2 p q)).den ι = setAt (x.den ι) (i.den ι).toNat [u64 (p.den ι), u64 (q.den ι)] := rfl
theorem n_c1 {k : Nat} {i : IE} : (c1 k i).den ι = numAt (ι.fr k) (i.den ι).toNat % 18446744073709551616 := by rw [n_wrap, wrap_u64, n_cell]; rfl
theorem n_c2 {k o : Nat} {i : IE} : (c2 k i o).den ι = numAt (ι.fr k) (i.den ι * (2 : Nat) + o).toNat % 18446744073709551616 := by rw [n_wrap, wrap_u64, n_cell]; rfl
end
theorem lin2N {i : Int} (h : 0 ≤ i) : (i * (2 : Nat) + (0 : Nat)).toNat = 2 * i.toNat ∧ (i * (2 : Nat) + (1 : Nat)).toNat = 2 * i.toNat + 1 := by omega
theorem setAgain {x : List Value} {i : Nat} {p q : Int} (h : i < x.length) : setAt (setAt x i [u64 p]) i [u64 q] = setAt x i [u64 q] :=
  setAt_again (by simp only [List.length_cons, List.length_nil]; omega) rfl

theorem relRules_ok (ι : Unk) (hp : ι.prd = prd) : ∀ r ∈ relRules, ROk ι r := by
  refine all_cons ?_ (all_cons ?_ (all_cons ?_ (all_cons ?_ (all_cons ?_ (all_cons ?_ all_nil))))) <;> intro hf h <;>
    simp only [ inU, List.mem_cons, List.mem_append, List.not_mem_nil, or_false, forall_eq, or_imp, forall_and, n_not, n_geq, n_leq, n_lss, n_eql, n_n, n_isrow, n_set1, d_rel hp, n_r] at hf h <;>
    refine (d_rel hp).2 ?_
  · obtain ⟨h0, h1, h2⟩ := h
    have hz : ∀ (m i : Nat), numAt ((List.replicate m [Value.int .u64 0]).flatten) i = 0 := by
      intro m
      induction m with
      | zero => intro i; rfl
      | succ m ih =>
        intro i
        rw [List.replicate_succ]
        cases i with
        | zero => rfl
        | succ i => exact ih i
    have hz2 : ∀ (m i : Nat), numAt ((List.replicate m [Value.int .u64 0, Value.int .u64 0]).flatten) i = 0 := by
      intro m
      induction m with
      | zero => intro i; rfl
      | succ m ih =>
        intro i
        rw [List.replicate_succ]
        match i with
        | 0 => rfl
        | 1 => rfl
        | i + 2 => exact ih i
    show Rel _ _ _ ((List.replicate _ [Value.int .u64 0, Value.int .u64 0]).flatten) ((List.replicate _ [Value.int .u64 0]).flatten) ((List.replicate _ [Value.int .u64 0]).flatten)
    refine ⟨?_, ?_, ?_, fun i hi => ?_⟩
    · rw [List.length_flatten, List.map_replicate, List.sum_replicate_nat]
      simp only [List.length_cons, List.length_nil]
      omega
    · rw [List.length_flatten, List.map_replicate, List.sum_replicate_nat]
      simp only [List.length_cons, List.length_nil]
      omega
    · rw [List.length_flatten, List.map_replicate, List.sum_replicate_nat]
      simp only [List.length_cons, List.length_nil]
      omega
    · rw [hz, hz2, hz2]
      exact ⟨rfl, rfl, by omega, h1, by decide, by omega, h2, by decide⟩
  · obtain ⟨⟨g1, g2⟩, g3, g4, g5, g6, ⟨g7, g8⟩, g9, g10⟩ := h
    rw [n_set2, n_set1, n_set1, g3, g4, n_lin, (lin2N g1).1]
    exact Rel.set hf (by omega) ⟨g7, by omega, g8⟩ ⟨g9, by omega, g10⟩
  · obtain ⟨f1, f2, f3⟩ := hf
    obtain ⟨⟨g1, g2⟩, g3, g4, g5, g6, ⟨g7, g8⟩, g9, g10⟩ := h
    have e1 := f1.2.1
    have e2 := f1.2.2.1
    rw [n_set2, n_set1, n_set1, g3, g4, n_lin, (lin2N g1).1]
    simp only [n_r]
    rw [f2, f3, setAgain (by omega), setAgain (by omega)]
    exact Rel.set f1 (by omega) ⟨g7, by omega, g8⟩ ⟨g9, by omega, g10⟩
  · obtain ⟨f1, f2, f3⟩ := hf
    obtain ⟨⟨g1, g2⟩, g3, g4, g5⟩ := h
    have e1 := f1.2.1
    have e2 := f1.2.2.1
    have q := f1.2.2.2 ((v 6).den ι).toNat (by omega)
    have l := lin2N g1
    rw [n_c2, l.1, q.1] at g4
    rw [n_c2, l.2, q.2.1] at g5
    rw [n_set1, n_set1]
    simp only [n_r]
    rw [f2, f3, ← g3, setAgain (by omega), setAgain (by omega)]
    have s1 := set_old (p := (v 10).den ι) e1 (show (((v 6).den ι).toNat : Int) < _ by omega) (by omega)
    have s2 := set_old (p := (v 11).den ι) e2 (show (((v 6).den ι).toNat : Int) < _ by omega) (by omega)
    exact f1.congr s1.1 s2.1 s1.2 s2.2
  · obtain ⟨f1, f2, f3⟩ := hf
    obtain ⟨⟨g1, g2⟩, g4, g5⟩ := h
    have e1 := f1.2.1
    have e2 := f1.2.2.1
    have q := f1.2.2.2 ((v 6).den ι).toNat (by omega)
    have l := lin2N g1
    rw [n_c2, l.1, q.1] at g4
    rw [n_c2, l.2, q.2.1] at g5
    rw [n_set1]
    simp only [n_r]
    rw [f2, f3, setAgain (by omega)]
    have s1 := set_old (p := (v 10).den ι) e1 (show (((v 6).den ι).toNat : Int) < _ by omega) (by omega)
    have s2 := set_old (p := (v 9).den ι) e2 (show (((v 6).den ι).toNat : Int) < _ by omega) (by omega)
    exact f1.congr s1.1 s2.1 s1.2 s2.2
  · obtain ⟨f1, f2, f3⟩ := hf
    obtain ⟨⟨⟨g1, g2⟩, g3, g4⟩, k1, k2, k3, k4, k5, k6, k7, k8, ⟨⟨⟨k9, k10⟩, k11, k12⟩, k13, k14⟩, k15, k16⟩ := h
    have s := Rel.set f1 (i := ((v 6).den ι).toNat) (by omega) ⟨k9, by omega, k10⟩ ⟨k11, by omega, k12⟩
    have s2 := Rel.set s (i := ((v 7).den ι).toNat) (by omega) ⟨k13, by omega, k14⟩ ⟨k15, by omega, k16⟩
    rw [n_set2, n_set2, n_set1, n_set1, n_lin, n_lin, (lin2N g1).1, (lin2N g3).1]
    simp only [n_r]
    rw [f2, f3, k1, k2, k3, k4]
    exact s2

theorem cellRules_ok (ι : Unk) (hp : ι.prd = prd) : ∀ r ∈ cellRules, ROk ι r := by
  refine all_cons ?_ (all_cons ?_ (all_cons ?_ (all_cons ?_ all_nil))) <;> intro hf h <;>
    simp only [inI, List.mem_cons, List.not_mem_nil, or_false, forall_eq_or_imp, forall_eq, n_geq, n_lss, n_n, d_rel hp, n_r] at hf h <;>
    have q := hf.2.2.2 ((v 1).den ι).toNat (by omega) <;> have l := lin2N h.1
  · rw [n_eql, n_c1, n_c2, l.1, q.1]
  · rw [n_eql, n_c1, n_c2, l.2, q.2.1]
  · rw [n_not, n_lss, n_c2, l.1, q.1]; omega
  · rw [n_not, n_lss, n_c2, l.2, q.2.1]; omega
theorem numAt_set1 {l : List Value} {o i : Nat} {x : Int} (h : o ≤ l.length) : numAt (setAt l o [u64 x]) i = if i = o then x else numAt l i := by
  by_cases hl : o < l.length
  · rw [numAt_set (by simp only [List.length_cons, List.length_nil]; omega)]
    simp only [List.length_cons, List.length_nil]
    by_cases e : i = o
    · subst e
      rw [if_pos (by omega), if_pos rfl, Nat.sub_self]; rfl
    · rw [if_neg (by omega), if_neg e]
  · have hs : setAt l o [u64 x] = l ++ [u64 x] := by
      simp only [setAt, List.length_cons, List.length_nil]
      rw [List.take_of_length_le (by omega), List.drop_eq_nil_of_le (by omega), List.append_nil]
    rw [hs]
    simp only [numAt]
    by_cases e : i = o
    · subst e
      rw [if_pos rfl, List.getElem?_append_right (by omega), show i - l.length = 0 by omega]; rfl
    · rw [if_neg e]
      by_cases g : i < l.length
      · rw [List.getElem?_append_left g]
      · rw [List.getElem?_append_right (by omega), List.getElem?_eq_none (by omega : l.length ≤ i), List.getElem?_eq_none (by simp only [List.length_cons, List.length_nil]; omega)]
theorem set_fits {l : List Value} {o : Nat} {x n : Int} (h : ((setAt l o [u64 x]).length : Int) = n) (ho : (o : Int) < n) : o ≤ l.length := by
  by_cases hl : o ≤ l.length
  · exact hl
  · exfalso
    simp only [setAt, List.length_append, List.length_take, List.length_drop, List.length_cons, List.length_nil] at h
    rw [Nat.min_eq_right (by omega)] at h
    omega
theorem setRules_ok (ι : Unk) (_ : ι.prd = prd) : ∀ r ∈ setRules, ROk ι r := by
  refine all_cons ?_ (all_cons ?_ all_nil) <;> intro hf h <;>
    simp only [inI, inU, List.mem_cons, List.mem_append, List.not_mem_nil, or_false, forall_eq, or_imp, forall_and, n_not, n_geq, n_leq, n_lss, n_eql, n_n, n_isrow, n_rlen, n_set1, n_r] at hf h
  · obtain ⟨f1, f2⟩ := hf
    obtain ⟨⟨g0, g1, g2⟩, g3, g4⟩ := h
    rw [f1] at f2
    rw [n_eql, n_c1, f1, numAt_set1 (set_fits f2 (by omega)), if_pos (by rw [g0]), Int.emod_eq_of_lt (by omega) (by omega)]
  · obtain ⟨f1, f2⟩ := hf
    obtain ⟨⟨g0, g1, g2⟩, g3, g4⟩ := h
    rw [f1] at f2
    rw [n_eql, n_c1, n_c1, f1, numAt_set1 (set_fits f2 (by omega)), if_neg (by omega)]
theorem rules_ok (ι : Unk) (hp : ι.prd = prd) : ∀ r ∈ rules, ROk ι r := all_append (all_append (cellRules_ok ι hp) (relRules_ok ι hp)) (setRules_ok ι hp)
theorem d_hold {ι : Unk} (hp : ι.prd = prd) {n k b : IE} {a : RX} : (pHold n k b a).den ι = true ↔ Hold (n.den ι) (k.den ι) (b.den ι) (a.den ι) := n_usr hp
theorem d_sum {ι : Unk} (hp : ι.prd = prd) {o i s : IE} {a : RX} : (pSumV o i s a).den ι = true ↔ s.den ι = sumN (a.den ι) (o.den ι).toNat (i.den ι).toNat % 18446744073709551616 := n_usr hp
theorem d_rest {ι : Unk} (hp : ι.prd = prd) {o n i s : IE} {a : RX} : (pRestV o n i s a).den ι = true ↔ s.den ι = (sumN (a.den ι) (o.den ι).toNat (n.den ι).toNat - sumN (a.den ι) (o.den ι).toNat (i.den ι).toNat) % 18446744073709551616 := n_usr hp
theorem Hold.set {n k b p q : Int} {a : List Value} {i : Nat} (h : Hold n k b a) (hi : (i : Int) < n) (hp : 0 ≤ p ∧ p ≤ k ∧ p ≤ 18446744073709551615) (hq : 0 ≤ q ∧ q ≤ b ∧ q ≤ 18446744073709551615) : Hold n k b (setAt a (2 * i) [u64 p, u64 q]) := by
  obtain ⟨h1, h4⟩ := h
  have l1 : 2 * i + [u64 p, u64 q].length ≤ a.length := by simp only [List.length_cons, List.length_nil]; omega
  refine ⟨by rw [setAt_length l1]; exact h1, fun j hj => ?_⟩
  have := h4 j hj
  rw [numAt_set l1, numAt_set l1]
  simp only [List.length_cons, List.length_nil]
  by_cases e : j = i
  · subst e
    have e1 : 2 * j - 2 * j = 0 := by omega
    have e2 : 2 * j + 1 - 2 * j = 1 := by omega
    rw [if_pos (by omega), if_pos (by omega), e1, e2]
    exact ⟨hp.1, hp.2.1, hp.2.2, hq.1, hq.2.1, hq.2.2⟩
  · rw [if_neg (by omega), if_neg (by omega)]
    exact this
theorem zeros2 : ∀ (m i : Nat), numAt ((List.replicate m [Value.int .u64 0, Value.int .u64 0]).flatten) i = 0
  | 0, _ => rfl
  | _ + 1, 0 => rfl
  | _ + 1, 1 => rfl
  | m + 1, i + 2 => zeros2 m i
theorem holdRules_ok (ι : Unk) (hp : ι.prd = prd) : ∀ r ∈ holdRules, ROk ι r := by
  refine all_cons ?_ (all_cons ?_ (all_cons ?_ (all_cons ?_ (all_cons ?_ all_nil)))) <;> intro hf h <;>
    simp only [inI, inU, List.mem_cons, List.mem_append, List.not_mem_nil, or_false, forall_eq, or_imp, forall_and, n_not, n_geq, n_leq, n_lss, n_n, d_hold hp, n_r] at hf h
  · refine (d_hold hp).2 ?_
    obtain ⟨h0, h1, h2⟩ := h
    show Hold _ _ _ ((List.replicate _ [Value.int .u64 0, Value.int .u64 0]).flatten)
    refine ⟨?_, fun i hi => ?_⟩
    · rw [List.length_flatten, List.map_replicate, List.sum_replicate_nat]
      simp only [List.length_cons, List.length_nil]
      omega
    · rw [zeros2, zeros2]
      exact ⟨by omega, h1, by decide, by omega, h2, by decide⟩
  · refine (d_hold hp).2 ?_
    obtain ⟨⟨g1, g2⟩, g5, g6, ⟨g7, g8⟩, g9, g10⟩ := h
    rw [n_set2, n_lin, (lin2N g1).1]
    exact Hold.set hf (by omega) ⟨g7, by omega, g8⟩ ⟨g9, by omega, g10⟩
  · refine (d_hold hp).2 ?_
    obtain ⟨⟨⟨g1, g2⟩, g3, g4⟩, k5, k6, k7, k8, ⟨⟨⟨k9, k10⟩, k11, k12⟩, k13, k14⟩, k15, k16⟩ := h
    rw [n_set2, n_set2, n_lin, n_lin, (lin2N g1).1, (lin2N g3).1]
    exact Hold.set (Hold.set hf (by omega) ⟨k9, by omega, k10⟩ ⟨k11, by omega, k12⟩) (by omega) ⟨k13, by omega, k14⟩ ⟨k15, by omega, k16⟩
  · have q := hf.2 ((v 1).den ι).toNat (by omega)
    have l := lin2N h.1
    rw [n_not, n_lss, n_c2, l.1]; omega
  · have q := hf.2 ((v 1).den ι).toNat (by omega)
    have l := lin2N h.1
    rw [n_not, n_lss, n_c2, l.2]; omega
theorem sumN_set {a : List Value} {f o : Nat} {p q : Int} (h : 2 * f + 2 ≤ a.length) (ho : o < 2) : ∀ m : Nat, sumN (setAt a (2 * f) [u64 p, u64 q]) o m = sumN a o m + (if f < m then (if o = 0 then p else q) - numAt a (2 * f + o) else 0)
  | 0 => by simp [sumN]
  | m + 1 => by
    simp only [sumN]
    rw [sumN_set h ho m, numAt_set (by simp only [List.length_cons, List.length_nil]; omega)]
    simp only [List.length_cons, List.length_nil]
    by_cases e : m = f
    · subst e
      have h2 : numAt [u64 p, u64 q] (2 * m + o - 2 * m) = if o = 0 then p else q := by
        rw [show 2 * m + o - 2 * m = o by omega]
        rcases (show o = 0 ∨ o = 1 by omega) with rfl | rfl <;> rfl
      rw [if_neg (show ¬ m < m by omega), if_pos (show 2 * m ≤ 2 * m + o ∧ 2 * m + o < 2 * m + (0 + 1 + 1) by omega), if_pos (show m < m + 1 by omega), h2]
      omega
    · rw [if_neg (show ¬ (2 * f ≤ 2 * m + o ∧ 2 * m + o < 2 * f + (0 + 1 + 1)) by omega)]
      by_cases g : f < m
      · rw [if_pos g, if_pos (show f < m + 1 by omega)]; omega
      · rw [if_neg g, if_neg (show ¬ f < m + 1 by omega)]; omega
theorem sumN_moves {a : List Value} {f t o n : Nat} {p q p' q' : Int} (hf : f < n) (ht : t < n) (hn : 2 * n ≤ a.length) (hne : f ≠ t) (ho : o < 2) : sumN (setAt (setAt a (2 * f) [u64 p, u64 q]) (2 * t) [u64 p', u64 q']) o n = sumN a o n + ((if o = 0 then p else q) - numAt a (2 * f + o)) + ((if o = 0 then p' else q') - numAt a (2 * t + o)) := by
  have l1 : 2 * f + [u64 p, u64 q].length ≤ a.length := by simp only [List.length_cons, List.length_nil]; omega
  have e : numAt (setAt a (2 * f) [u64 p, u64 q]) (2 * t + o) = numAt a (2 * t + o) := by rw [numAt_set l1, if_neg (by simp only [List.length_cons, List.length_nil]; omega)]
  rw [sumN_set (by rw [setAt_length l1]; omega) ho, sumN_set (by omega) ho, if_pos ht, if_pos hf, e]
theorem sumRules_ok (ι : Unk) (hp : ι.prd = prd) : ∀ r ∈ sumRules, ROk ι r := by
  refine all_cons ?_ (all_cons ?_ (all_cons ?_ (all_cons ?_ (all_cons ?_ (all_cons ?_ (all_cons ?_ (all_cons ?_ (all_cons ?_ (all_cons ?_ (all_cons ?_ all_nil)))))))))) <;> intro hf h <;>
    simp only [inI, List.mem_cons, List.mem_append, List.not_mem_nil, or_false, forall_eq, or_imp, forall_and, n_not, n_geq, n_lss, n_eql, n_n, n_off, n_rlen, n_lin, d_sum hp, d_rest hp, d_rel hp, n_r] at hf h
  · exact (n_usr (prd := prd) hp).2 trivial
  · refine (d_sum hp).2 ?_
    simp only [n_n, Int.toNat_zero, sumN]; rfl
  · refine (d_sum hp).2 ?_
    have l := lin2N h
    rw [n_bin, n_c2, l.1, n_off, n_n, n_n, show ((v 0).den ι + 1).toNat = ((v 0).den ι).toNat + 1 by omega, hf]
    simp only [intBin, Option.getD_some, wrap_u64, sumN, n_r, Int.toNat_zero, Nat.add_zero]
    omega
  · refine (d_sum hp).2 ?_
    have l := lin2N h
    rw [n_bin, n_c2, l.2, n_off, n_n, show ((v 0).den ι + 1).toNat = ((v 0).den ι).toNat + 1 by omega, hf]
    simp only [intBin, Option.getD_some, wrap_u64, sumN, n_r, show (1 : Int).toNat = 1 by decide]
    omega
  · refine (d_rest hp).2 ?_
    rw [hf, show ((v 4).den ι).toNat = ((v 1).den ι).toNat by omega]
    simp only [n_n, Int.toNat_zero, sumN, n_r, Int.sub_zero]
  · refine (d_rest hp).2 ?_
    obtain ⟨e1, f2⟩ := hf
    obtain ⟨⟨⟨g1, g2⟩, g3, g4⟩, g5, g6, g7, g8⟩ := h
    have lf := lin2N g1
    have lt := lin2N g3
    rw [n_c2, n_c2, lf.1, lt.1] at g8
    rw [f2, n_set2, n_set2, n_lin, n_lin, lf.1, lt.1, show ((v 2).den ι).toNat = ((v 0).den ι).toNat by omega]
    simp only [n_n, n_r, Int.toNat_zero]
    rw [sumN_moves (by omega) (by omega) (by omega) (by omega) (by decide)]
    simp only [sumN, Nat.add_zero, if_true]
    omega
  · refine (d_rest hp).2 ?_
    obtain ⟨e1, f2⟩ := hf
    obtain ⟨⟨⟨g1, g2⟩, g3, g4⟩, g5, g6, g7, g8⟩ := h
    have lf := lin2N g1
    have lt := lin2N g3
    rw [n_c2, n_c2, lf.2, lt.2] at g8
    rw [f2, n_set2, n_set2, n_lin, n_lin, lf.1, lt.1, show ((v 2).den ι).toNat = ((v 0).den ι).toNat by omega]
    simp only [n_n, n_r, show (1 : Int).toNat = 1 by decide, Int.toNat_zero]
    rw [sumN_moves (by omega) (by omega) (by omega) (by omega) (by decide)]
    simp only [sumN, if_neg (show ¬ (1 = 0) by decide)]
    omega
  · rw [n_rlen, n_lin, n_r, hf.1]; omega
  · refine (d_rest hp).2 ?_
    have l := lin2N h.1
    rw [n_bin, n_c2, l.1, n_off, n_n, n_n, show ((v 0).den ι + 1).toNat = ((v 0).den ι).toNat + 1 by omega, hf]
    simp only [intBin, Option.getD_some, wrap_u64, sumN, n_r, Int.toNat_zero, Nat.add_zero]
    omega
  · refine (d_rest hp).2 ?_
    have l := lin2N h.1
    rw [n_bin, n_c2, l.2, n_off, n_n, show ((v 0).den ι + 1).toNat = ((v 0).den ι).toNat + 1 by omega, hf]
    simp only [intBin, Option.getD_some, wrap_u64, sumN, n_r, show (1 : Int).toNat = 1 by decide]
    omega
  · rw [n_eql, n_n, hf, show ((v 1).den ι).toNat = ((v 2).den ι).toNat by omega, Int.sub_self]; rfl
theorem movesRules_ok (ι : Unk) (hp : ι.prd = prd) : ∀ r ∈ rules ++ sumRules, ROk ι r := all_append (rules_ok ι hp) (sumRules_ok ι hp)
theorem d_eqA {ι : Unk} (hp : ι.prd = prd) {i : IE} {a c : RX} : (pEqA i a c).den ι = true ↔ ∀ j : Nat, (j : Int) < i.den ι → EqAt (a.den ι) (c.den ι) j := n_usr hp
theorem d_neA {ι : Unk} (hp : ι.prd = prd) {n : IE} {a c : RX} : (pNeA n a c).den ι = true ↔ ∃ j : Nat, (j : Int) < n.den ι ∧ ¬ EqAt (a.den ι) (c.den ι) j := n_usr hp
theorem c2_at {ι : Unk} {k : Nat} {i : IE} (h : 0 ≤ i.den ι) : (c2 k i 0).den ι = cellN (ι.fr k) (2 * (i.den ι).toNat) ∧ (c2 k i 1).den ι = cellN (ι.fr k) (2 * (i.den ι).toNat + 1) := by
  rw [n_c2, n_c2, (lin2N h).1, (lin2N h).2]
  exact ⟨rfl, rfl⟩
theorem ne_one {ι : Unk} (hp : ι.prd = prd) {n i : IE} {a c : Nat} (h0 : 0 ≤ i.den ι) (h1 : i.den ι < n.den ι) (h : ¬ EqAt (ι.fr a) (ι.fr c) (i.den ι).toNat) : (pNeA n (r a) (r c)).den ι = true :=
  (d_neA hp).2 ⟨(i.den ι).toNat, by omega, h⟩
theorem eqRules_ok (ι : Unk) (hp : ι.prd = prd) : ∀ r ∈ eqRules, ROk ι r := by
  refine all_cons ?_ (all_cons ?_ (all_cons ?_ (all_cons ?_ (all_cons ?_ (all_cons ?_ (all_cons ?_ (all_cons ?_ (all_cons ?_ (all_cons ?_ all_nil))))))))) <;> intro hf h <;>
    simp only [inI, List.mem_cons, List.not_mem_nil, or_false, forall_eq_or_imp, forall_eq, n_not, n_geq, n_lss, n_eql, n_n, d_eqA hp, d_neA hp, n_r] at hf h
  · rw [n_eql, (c2_at h.1).1, (c2_at h.1).1]
    exact (hf _ (by omega)).1
  · rw [n_eql, (c2_at h.1).2, (c2_at h.1).2]
    exact (hf _ (by omega)).2
  · refine (d_eqA hp).2 fun j hj => ?_
    rw [n_n] at hj
    omega
  · refine (d_eqA hp).2 fun j hj => ?_
    rw [n_off, n_n] at hj
    obtain ⟨g0, g1, g2⟩ := h
    by_cases e : (j : Int) < (v 0).den ι
    · exact hf j e
    · rw [(c2_at g0).1, (c2_at g0).1] at g1
      rw [(c2_at g0).2, (c2_at g0).2] at g2
      rw [show j = ((v 0).den ι).toNat by omega]
      exact ⟨g1, g2⟩
  · exact (d_eqA hp).2 fun j hj => hf j (by omega)
  · obtain ⟨j, hj, hn⟩ := hf.2
    exact absurd (hf.1 j (by omega)) hn
  · exact ne_one hp h.1 h.2 fun e => hf (by rw [(c2_at h.1).1, (c2_at h.1).1]; exact e.1)
  · exact ne_one hp h.1 h.2 fun e => hf (by rw [(c2_at h.1).2, (c2_at h.1).2]; exact e.2)
  · exact ne_one hp h.1 h.2 fun e => hf (by rw [(c2_at h.1).1, (c2_at h.1).1]; exact e.1.symm)
  · exact ne_one hp h.1 h.2 fun e => hf (by rw [(c2_at h.1).2, (c2_at h.1).2]; exact e.2.symm)
theorem rulesC_ok (ι : Unk) (hp : ι.prd = prd) : ∀ r ∈ rules ++ eqRules, ROk ι r := all_append (rules_ok ι hp) (eqRules_ok ι hp)

def kn_fOf : Kn := { cons := [] }
theorem known_fOf : Known Try.prog kn_fOf ⟨0, prd⟩ := ⟨fun f hf => (by cases hf), all_nil⟩
set_option maxRecDepth 100000 in
theorem ran_fOf_0 : fnRun Try.prog true kn_fOf 300 60 fOf cfgOf [] = true := by kernel_rfl
theorem ok_fOf : FnOk Try.prog prd fOf := fn_ok (dr := true) (kn := kn_fOf) (fuel := 300) (d := 60) (cfg := cfgOf) plain known_fOf (fun _ call hC => anyOk (by kernel_rfl) plain hC) (rules_of rules_ok) (cs := [[]]) (fun _ _ _ _ => cov_one trivial) (all_cons ran_fOf_0 all_nil)

def kn_fRoom : Kn := { cons := [] }
theorem known_fRoom : Known Try.prog kn_fRoom ⟨0, prd⟩ := ⟨fun f hf => (by cases hf), all_nil⟩
set_option maxRecDepth 100000 in
theorem ran_fRoom_0 : fnRun Try.prog true kn_fRoom 300 60 fRoom cfgOf [] = true := by kernel_rfl
theorem ok_fRoom : FnOk Try.prog prd fRoom := fn_ok (dr := true) (kn := kn_fRoom) (fuel := 300) (d := 60) (cfg := cfgOf) plain known_fRoom (fun _ call hC => anyOk (by kernel_rfl) plain hC) (rules_of rules_ok) (cs := [[]]) (fun _ _ _ _ => cov_one trivial) (all_cons ran_fRoom_0 all_nil)

end Go.Proofs.Ytaafdcimnmfakaa.quotaCopies
