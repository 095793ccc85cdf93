/-
  NibbleBack holds: whatever the input, the call returns true and what it was given reads as before; by a walker that computes in the kernel with unknowns, and whose soundness is proved in the texts beside this one.
-/
import Derived.Test.YtjchkjkpcmdelaaRows
import Derived.Test.YtjchkjkpcmdelaaSzPf
import Derived.Test.YtjchkjkpcmdelaaSzMe
import Derived.WalkKit
import Derived.ProofKit
import Derived.OpenShut
namespace Go.Proofs.Ytjchkjkpcmdelaa.nibbleBack
open Go.Sx Go.ChangeShapes Go.WideShapes Go.ChangeAt Go.RowKit
set_option linter.unusedVariables false

theorem own : ownKnob Try.prog.godebug = none := by kernel_rfl

theorem plain : plainNames Try.prog = true := by kernel_rfl

set_option maxRecDepth 100000 in
theorem ranKnown : allTrue (runCall Try.prog true {} 300 60 false 7 [] Hp.nil []) = true := by kernel_rfl

theorem knows1 : Known1 Try.prog (some 7) := by
  intro f hf w
  injection hf with hf
  subst hf
  exact calls_true (dr := true) (kn := {}) (fuel := 300) (d := 60) (args := []) (xs := []) (ι := io []) (pc := []) w plain known_none (fun _ call hC => anyOk (by kernel_rfl) plain hC) ranKnown rfl (fun _ h => by cases h)

abbrev ge (a : IE) (n : Int) : BE := .cmp .geq a (.lit n)
abbrev le (a : IE) (n : Int) : BE := .cmp .leq a (.lit n)
abbrev lt (a : IE) (n : Int) : BE := .cmp .lss a (.lit n)
abbrev gt (a : IE) (n : Int) : BE := .cmp .gtr a (.lit n)
abbrev v (i : Nat) : IE := .fv i
abbrev t (i : Nat) : TX := .fv i
abbrev r (i : Nat) : RX := .row i
abbrev leI (a b : IE) : BE := .not (.cmp .lss b a)
abbrev ltI (a b : IE) : BE := .cmp .lss a b
abbrev rule (find pre : List BE) (con : BE) : Rule := { pat := true, find, pre, con }
abbrev bad (l : List Nat) : List (Nat × AV) := l.map fun i => (i, AV.poison)
abbrev upto (a b : Nat) : List Nat := (List.range (b + 1 - a)).map (· + a)
abbrev i64 : Sh := .leaf (.int .i64)
abbrev u64 : Sh := .leaf (.int .u64)
abbrev rowB : Sh := .row 5 [.int .u8]
/-- An index: its type, its text. -/
abbrev index : Sh := .agg [.int .i64, .txt]
abbrev pMay (k : IE) (d : TX) : BE := .usr 0 [k] [d] []
abbrev pMayI (i : IE) (d : TX) : BE := .usr 1 [i] [d] []
abbrev pMix (a n b : IE) (x : RX) : BE := .usr 2 [a, n, b] [] [x]
abbrev pHash (k h : IE) (d : TX) : BE := .usr 4 [k, h] [d] []
abbrev pHashI (k i h : IE) (d : TX) : BE := .usr 5 [k, i, h] [d] []
abbrev pFold (k n h : IE) (d : TX) : BE := .usr 6 [k, n, h] [d] []
def fMay : Fs := { f := 20, shs := [index], res := some (pMay (v 0) (t 1)) }
def fRMay : Fs := { f := 11, shs := [index], res := some (pMay (v 0) (t 1)) }
def fMix : Fs := { f := 27, shs := [u64, rowB], alts := [{ rets := [u64], post := [pMix (v 0) (v 2) (v 3) (r 1)] }] }
def fHash : Fs := { f := 16, shs := [index], pre := [le (.tlen 1) 2000], alts := [{ rets := [.leaf (.int .u16)], post := [pHash (v 0) (v 2) (t 1)] }] }
def fRHash : Fs := { f := 28, shs := [index], pre := [le (.tlen 1) 2000], alts := [{ rets := [i64], post := [pHash (v 0) (v 2) (t 1), ge (v 2) 0, le (v 2) 65535] }] }
abbrev pOf (k n : IE) (d : TX) (x : RX) : BE := .usr 7 [k, n] [d] [x]
abbrev pOfI (k i : IE) (d : TX) (x : RX) : BE := .usr 8 [k, i] [d] [x]
def ofAlts : List Alt := [{ rets := [.nil], post := [.not (pMay (v 0) (t 1))] }, { rets := [rowB], post := [pMay (v 0) (t 1), pOf (v 0) (v 3) (t 1) (r 2), .cmp .eql (v 3) (.lin (.tlen 1) 2 7), le (v 3) 71] }]
def fOf : Fs := { f := 10, shs := [index], pre := [le (.tlen 1) 2000], alts := ofAlts }
def fROf : Fs := { f := 19, shs := [index], pre := [le (.tlen 1) 2000], alts := ofAlts }
/-- A grown row in slot 's', an index in slot 'u'. -/
def ofAnn (key : Nat × Nat × Nat) (u s : Nat) (bads : List Nat) : Ann := { key := key, heads := [{ nf := 4, src := [.int u, .row s, .len s, .rc s], bsrc := [s], tm := fun m nB => (u, .int .i64 (v m)) :: (s, .sl nB 1 (.lit 0) (.lit 0) (v (m + 2)) (v (m + 3))) :: bad bads, bl := fun _ nB => [(nB - 1, .free)], nb := fun m _ => [.row (.row (m + 1)) 5 [.int .u8] (v (m + 2)) (v (m + 3))], inv := fun m _ => [ge (v m) 0, leI (v m) (.tlen 1), .cmp .eql (v (m + 2)) (.lin (v m) 2 7), leI (v (m + 2)) (v (m + 3)), ge (v (m + 2)) 0, le (v (m + 2)) 71, pOfI (v 0) (v m) (t 1) (r (m + 1))], ms := fun m _ => .dif (.tlen 1) (v m) }] }
def pOfAnn : Ann := ofAnn (41, 8, 5) 4 3 (upto 27 39)
def rOfAnn : Ann := ofAnn (58, 6, 3) 6 5 (upto 39 56)
/-- An index 'i' in slot 's' runs up to 'n'. -/
def upTo (key : Nat × Nat × Nat) (s : Nat) (n : IE) (bads : List Nat) (inv : IE → List BE) : Ann :=
  { key := key, heads := [{ nf := 1, src := [.int s], bsrc := [], tm := fun m _ => (s, .int .i64 (v m)) :: bad bads, bl := fun _ _ => [], nb := fun _ _ => [], inv := fun m _ => ge (v m) 0 :: leI (v m) n :: inv (v m), ms := fun m _ => .dif n (v m) }] }
/-- And a number in another slot goes on with it. -/
def upTo2 (key : Nat × Nat × Nat) (s u : Nat) (k : IntKind) (n : IE) (bads : List Nat) (inv : IE → IE → List BE) : Ann :=
  { key := key, heads := [{ nf := 2, src := [.int s, .int u], bsrc := [], tm := fun m _ => (s, .int .i64 (v m)) :: (u, .int k (v (m + 1))) :: bad bads, bl := fun _ _ => [], nb := fun _ _ => [], inv := fun m _ => ge (v m) 0 :: leI (v m) n :: ge (v (m + 1)) k.min :: le (v (m + 1)) k.max :: inv (v m) (v (m + 1)), ms := fun m _ => .dif n (v m) }] }
def mayAnn : Ann := upTo (37, 7, 5) 4 (.tlen 1) (upto 23 36) fun i => [pMayI i (t 1)]
def rmayAnn : Ann := upTo (50, 4, 5) 3 (.tlen 1) (upto 24 49) fun i => [pMayI i (t 1)]
def mixAnn : Ann := upTo2 (20, 2, 1) 9 0 .u64 (v 2) ([6] ++ upto 10 18) fun i h => [pMix (v 0) i h (r 1)]
def rhashAnn : Ann := upTo2 (38, 4, 5) 4 3 .u64 (.tlen 1) (upto 13 27) fun i h => [pHashI (v 0) i h (t 1)]
/-- The numbers in slots 5 and 3: what is folded, and what is left. -/
def foldAnn : Ann := { key := (38, 8, 2), heads := [{ nf := 2, src := [.int 5, .int 3], bsrc := [], tm := fun m _ => (5, .int .u64 (v m)) :: (3, .int .u64 (v (m + 1))) :: bad (upto 28 35), bl := fun _ _ => [], nb := fun _ _ => [],  inv := fun m _ => [ge (v m) 0, le (v m) 65535, ge (v (m + 1)) 0, le (v (m + 1)) 18446744073709551615, pFold (v 0) (v m) (v (m + 1)) (t 1)], ms := fun m _ => v (m + 1) }] }
def stepRules : List Rule := [
  rule [] [ltI (v 0) (v 1)] (ltI (.dif (v 1) (.off (v 0) (.lit 1))) (.dif (v 1) (v 0))),
  rule [] [leI (v 0) (v 1)] (ge (.dif (v 1) (v 0)) 0) ]
def mayRules : List Rule := [
  rule [] [lt (v 0) 1] (.not (pMay (v 0) (t 1))),
  rule [] [gt (v 0) 4] (.not (pMay (v 0) (t 1))),
  rule [] [lt (.tlen 1) 1] (.not (pMay (v 0) (t 1))),
  rule [] [gt (.tlen 1) 32] (.not (pMay (v 0) (t 1))),
  rule [] [] (pMayI (.lit 0) (t 0)),
  rule [pMayI (v 0) (t 1)] [ge (v 0) 0, ge (.chr 1 (v 0)) 33, le (.chr 1 (v 0)) 126, .cmp .neq (.chr 1 (v 0)) (.lit 59)] (pMayI (.off (v 0) (.lit 1)) (t 1)),
  rule [pMayI (v 0) (t 1)] [ge (v 0) 0, .not (lt (.chr 1 (v 0)) 33), .not (gt (.chr 1 (v 0)) 126), .not (.cmp .eql (.chr 1 (v 0)) (.lit 59))] (pMayI (.off (v 0) (.lit 1)) (t 1)),
  rule [pMayI (v 2) (t 1)] [lt (.chr 1 (v 2)) 33, ge (v 2) 0, ltI (v 2) (.tlen 1)] (.not (pMay (v 0) (t 1))),
  rule [pMayI (v 2) (t 1)] [gt (.chr 1 (v 2)) 126, ge (v 2) 0, ltI (v 2) (.tlen 1)] (.not (pMay (v 0) (t 1))),
  rule [pMayI (v 2) (t 1)] [.cmp .eql (.chr 1 (v 2)) (.lit 59), ge (v 2) 0, ltI (v 2) (.tlen 1)] (.not (pMay (v 0) (t 1))),
  rule [pMayI (v 2) (t 1)] [.not (ltI (v 2) (.tlen 1)), ge (v 0) 1, le (v 0) 4, ge (.tlen 1) 1, le (.tlen 1) 32] (pMay (v 0) (t 1)) ]
abbrev START : IE := .lit 14695981039346656037
abbrev step (h b : IE) : IE := .bin .mul .u64 (.bin .xor .u64 h b) (.lit 1099511628211)
abbrev shr (h : IE) (n : Int) : IE := .bin .shr .u64 h (.lit n)
abbrev xor (a b : IE) : IE := .bin .xor .u64 a b
def hashRules : List Rule := [
  rule [] [] (pMix (v 0) (.lit 0) (v 0) (r 1)),
  rule [pMix (v 0) (v 1) (v 2) (r 3)] [ge (v 1) 0] (pMix (v 0) (.off (v 1) (.lit 1)) (step (v 2) (.wrap .u8 (.cell 3 (v 1)))) (r 3)),
  rule [pMix START (.lit 1) (v 3) (.lits [(.int .u8, .wrap .u8 (v 0))]), pMix (v 3) (.tlen 2) (v 1) (.txt (t 2))] [] (pHash (v 0) (.wrap .u16 (xor (xor (xor (v 1) (shr (v 1) 16)) (shr (v 1) 32)) (shr (v 1) 48))) (t 2)),
  rule [] [] (pHashI (v 0) (.lit 0) (step START (.bin .rem .u64 (.wrap .u64 (v 0)) (.lit 256))) (t 1)),
  rule [pHashI (v 0) (v 1) (v 2) (t 3)] [ge (v 1) 0, ltI (v 1) (.tlen 3)] (pHashI (v 0) (.off (v 1) (.lit 1)) (step (v 2) (.chr 3 (v 1))) (t 3)),
  rule [pMix (v 0) (v 1) (v 2) (r 3)] [.not (ltI (v 1) (v 4)), .not (ltI (v 4) (v 1))] (pMix (v 0) (v 4) (v 2) (r 3)),
  rule [pHashI (v 0) (v 3) (v 1) (t 2)] [.not (ltI (v 3) (.tlen 2)), .not (ltI (.tlen 2) (v 3))] (pFold (v 0) (.lit 0) (v 1) (t 2)),
  rule [pFold (v 0) (v 1) (v 2) (t 3)] [ge (v 2) 0] (pFold (v 0) (xor (v 1) (.bin .rem .u64 (v 2) (.lit 65536))) (.bin .quo .u64 (v 2) (.lit 65536)) (t 3)),
  rule [pFold (v 2) (v 0) (v 1) (t 3)] [ge (v 1) 0] (le (xor (v 0) (.bin .rem .u64 (v 1) (.lit 65536))) 65535),
  rule [] [gt (v 0) 0] (ltI (.bin .quo .u64 (v 0) (.lit 65536)) (v 0)),
  rule [pFold (v 0) (v 1) (v 2) (t 3)] [.not (gt (v 2) 0), ge (v 2) 0] (pHash (v 0) (v 1) (t 3)),
  rule [pHash (v 0) (v 1) (t 2), pHash (v 0) (v 3) (t 2)] [] (.cmp .eql (v 1) (v 3)) ]
abbrev low (k : IntKind) (n : IE) (s : Int) : IE := .bin .and .u8 (.wrap .u8 (.bin .shr k n (.lit s))) (.lit 15)
abbrev quo (a : IE) (n : Int) : IE := .bin .quo .i64 a (.lit n)
abbrev rem (a : IE) (n : Int) : IE := .bin .rem .i64 a (.lit n)
abbrev u8s (l : List IE) : RX := .lits (l.map fun e => (.int .u8, e))
abbrev hashIn (h : IE) : List BE := [ge h 0, le h 65535]
def ofRules : List Rule := [
  rule [pMay (v 0) (t 1)] [] (le (.tlen 1) 32),
  rule [pHash (v 0) (v 2) (t 1), .isrow 9 (.cat (r 8) (u8s [low .i64 (v 0) 0])), .isrow 8 (.cat (r 7) (u8s [low .i64 (.tlen 1) 0])), .isrow 7 (.cat (r 6) (u8s [low .i64 (.tlen 1) 4])), .isrow 6 (.cat (r 5) (u8s [low .u16 (v 2) 0])), .isrow 5 (.cat (r 4) (u8s [low .u16 (v 2) 4])), .isrow 4 (.cat (r 3) (u8s [low .u16 (v 2) 8])), .isrow 3 (.cat (.rep (.lit 0) [(.int .u8, .lit 0)]) (u8s [low .u16 (v 2) 12]))] (pMay (v 0) (t 1) :: hashIn (v 2)) (pOfI (v 0) (.lit 0) (t 1) (r 9)),
  rule [pHash (v 0) (v 2) (t 1)] (pMay (v 0) (t 1) :: hashIn (v 2)) (pOfI (v 0) (.lit 0) (t 1) (u8s [.wrap .u8 (quo (v 2) 4096), rem (quo (v 2) 256) 16, rem (quo (v 2) 16) 16, rem (v 2) 16, .wrap .u8 (quo (.tlen 1) 16), rem (.tlen 1) 16, .wrap .u8 (v 0)])),
  rule [pOfI (v 0) (v 3) (t 1) (r 2), .cmp .eql (v 4) (.lin (v 3) 2 7)] [.not (ltI (v 3) (.tlen 1)), .not (ltI (.tlen 1) (v 3))] (pOf (v 0) (v 4) (t 1) (r 2)),
  rule [pOfI (v 0) (v 1) (t 2) (r 3), .isrow 5 (.cat (r 4) (u8s [.bin .and .u8 (.bin .shr .u8 (.chr 2 (v 1)) (.lit 0)) (.lit 15)])), .isrow 4 (.cat (r 3) (u8s [.bin .and .u8 (.bin .shr .u8 (.chr 2 (v 1)) (.lit 4)) (.lit 15)]))] [ge (v 1) 0] (pOfI (v 0) (.off (v 1) (.lit 1)) (t 2) (r 5)),
  rule [pOfI (v 0) (v 1) (t 2) (r 3), .isrow 4 (.cat (r 3) (u8s [.bin .quo .u8 (.chr 2 (v 1)) (.lit 16), .bin .rem .u8 (.chr 2 (v 1)) (.lit 16)]))] [ge (v 1) 0] (pOfI (v 0) (.off (v 1) (.lit 1)) (t 2) (r 4)),
  rule [.cmp .eql (v 0) (.lin (v 1) 2 7)] [] (.cmp .eql (.off (v 0) (.lit 2)) (.lin (.off (v 1) (.lit 1)) 2 7)),
  rule [.cmp .eql (v 0) (.lin (v 2) 2 7)] [.not (ltI (v 2) (.tlen 1)), .not (ltI (.tlen 1) (v 2))] (.cmp .eql (v 0) (.lin (.tlen 1) 2 7)),
  rule [.cmp .eql (v 0) (.lin (v 2) 2 7), pMay (v 3) (t 1)] [ltI (v 2) (.tlen 1)] (le (.off (v 0) (.lit 2)) 71) ]
def endRules : List Rule := [
  rule [pOf (v 0) (v 3) (t 1) (r 2), pOf (v 0) (v 5) (t 1) (r 4)] [] (.teq (.row 2 (.lit 0) (v 3)) (.row 4 (.lit 0) (v 5))),
  rule [pOf (v 1) (v 0) (t 2) (r 3)] [] (gt (v 0) 0),
  rule [pMay (v 0) (t 1), .not (pMay (v 0) (t 1))] [] (.lit false) ]
/-- The first one's nibbles are less. -/
abbrev pLess (k m : IE) (d e : TX) : BE := .usr 9 [k, m] [d, e] []
def fLess : Fs := { f := 12, shs := [index, index], pre := [le (.tlen 1) 2000, le (.tlen 3) 2000], res := some (pLess (v 0) (v 2) (t 1) (t 3)) }
abbrev cmp0 (x : IE) (a b : RX) : BE := .sys 0 x a b
def lessRules : List Rule := [
  rule [cmp0 (v 4) (r 5) (r 6), pOf (v 0) (v 7) (t 2) (r 5), pMay (v 0) (t 2), pOf (v 1) (v 8) (t 3) (r 6), pMay (v 1) (t 3)] [] (.same (lt (v 4) 0) (pLess (v 0) (v 1) (t 2) (t 3))),
  rule [cmp0 (v 4) (.lits []) (r 5), .not (pMay (v 0) (t 2)), pOf (v 1) (v 6) (t 3) (r 5), pMay (v 1) (t 3)] [] (.same (lt (v 4) 0) (pLess (v 0) (v 1) (t 2) (t 3))),
  rule [cmp0 (v 4) (r 5) (.lits []), pOf (v 0) (v 6) (t 2) (r 5), pMay (v 0) (t 2), .not (pMay (v 1) (t 3))] [] (.same (lt (v 4) 0) (pLess (v 0) (v 1) (t 2) (t 3))),
  rule [.not (pMay (v 0) (t 2)), .not (pMay (v 1) (t 3))] [] (.not (pLess (v 0) (v 1) (t 2) (t 3))),
  rule [] [] (.not (pLess (v 0) (v 0) (t 1) (t 1))),
  rule [pLess (v 0) (v 4) (t 2) (t 5), pLess (v 4) (v 1) (t 5) (t 3)] [] (pLess (v 0) (v 1) (t 2) (t 3)) ]
abbrev eqI (a b : IE) : BE := .cmp .eql a b
abbrev neI (a b : IE) : BE := .not (.cmp .eql a b)
abbrev c8 (k : Nat) (i : IE) : IE := .wrap .u8 (.cell k i)
/-- The first cells of both are the same; where two rows differ first. -/
abbrev pPre (i : IE) (x y : RX) : BE := .usr 10 [i] [] [x, y]
abbrev pDiff (d n m : IE) (x y : RX) : BE := .usr 11 [d, n, m] [] [x, y]
def fDiff : Fs := { f := 14, shs := [rowB, rowB], alts := [{ rets := [i64], post := [pDiff (v 4) (v 1) (v 3) (r 0) (r 2), ge (v 4) (-1)] }] }
def fRDiff : Fs := { f := 26, shs := [rowB, rowB], alts := [{ rets := [i64], post := [pDiff (v 4) (v 1) (v 3) (r 0) (r 2), ge (v 4) (-1)] }] }
def fRLess : Fs := { f := 13, shs := [index, index], pre := [le (.tlen 1) 2000, le (.tlen 3) 2000], res := some (pLess (v 0) (v 2) (t 1) (t 3)) }
def diffRules : List Rule := [
  rule [] [] (pPre (.lit 0) (r 0) (r 1)),
  rule [pPre (v 0) (r 1) (r 2)] [ge (v 0) 0, eqI (c8 1 (v 0)) (c8 2 (v 0))] (pPre (.off (v 0) (.lit 1)) (r 1) (r 2)),
  rule [pPre (v 0) (r 3) (r 4)] [ge (v 0) 0, ltI (v 0) (v 1), ltI (v 0) (v 2), neI (c8 3 (v 0)) (c8 4 (v 0))] (pDiff (v 0) (v 1) (v 2) (r 3) (r 4)),
  rule [pPre (v 4) (r 2) (r 3)] [leI (v 0) (v 4), leI (v 1) (v 0), leI (v 0) (v 1)] (pDiff (.lit (-1)) (v 0) (v 1) (r 2) (r 3)),
  rule [pPre (v 5) (r 3) (r 4)] [leI (v 0) (v 5), ge (v 0) 0, leI (v 0) (v 2), leI (v 1) (v 0), leI (v 0) (v 1), neI (v 0) (v 2)] (pDiff (v 0) (v 1) (v 2) (r 3) (r 4)),
  rule [pPre (v 5) (r 3) (r 4)] [leI (v 0) (v 5), ge (v 0) 0, leI (v 0) (v 1), leI (v 2) (v 0), leI (v 0) (v 2), neI (v 0) (v 1)] (pDiff (v 0) (v 1) (v 2) (r 3) (r 4)),
  rule [pPre (v 5) (r 3) (r 4)] [leI (v 0) (v 5), ge (v 0) 0, leI (v 0) (v 2), leI (v 1) (v 0), leI (v 0) (v 1), ltI (v 0) (v 2)] (pDiff (v 0) (v 1) (v 2) (r 3) (r 4)),
  rule [pPre (v 5) (r 3) (r 4)] [leI (v 0) (v 5), ge (v 0) 0, leI (v 0) (v 1), leI (v 2) (v 0), leI (v 0) (v 2), ltI (v 0) (v 1)] (pDiff (v 0) (v 1) (v 2) (r 3) (r 4)) ]
/-- Both are nibbles: of indexes 'k', 't'. -/
abbrev twoOf (k n m i d e x y : Nat) : List BE := [pOf (v k) (v i) (t d) (r x), pMay (v k) (t d), pOf (v n) (v m) (t e) (r y), pMay (v n) (t e)]
def rlessRules : List Rule := [
  rule [pOf (v 1) (v 0) (t 2) (r 3)] [] (neI (v 0) (.lit 0)),
  rule [pOf (v 1) (v 0) (t 2) (r 3)] [] (.not (le (v 0) 0)),
  rule [.not (pMay (v 1) (t 3))] [] (.not (pLess (v 0) (v 1) (t 2) (t 3))),
  rule [.not (pMay (v 0) (t 2)), pMay (v 1) (t 3)] [] (pLess (v 0) (v 1) (t 2) (t 3)),
  rule (pDiff (v 4) (v 5) (v 6) (r 7) (r 8) :: twoOf 0 1 6 5 2 3 7 8) [lt (v 4) 0] (.not (pLess (v 0) (v 1) (t 2) (t 3))),
  rule (pDiff (v 4) (v 5) (v 6) (r 7) (r 8) :: twoOf 0 1 6 5 2 3 7 8) [ge (v 4) 0, leI (v 6) (v 4)] (.not (pLess (v 0) (v 1) (t 2) (t 3))),
  rule (pDiff (v 4) (v 5) (v 6) (r 7) (r 8) :: twoOf 0 1 6 5 2 3 7 8) [ge (v 4) 0, leI (v 5) (v 4), ltI (v 4) (v 6)] (pLess (v 0) (v 1) (t 2) (t 3)),
  rule (pDiff (v 4) (v 5) (v 6) (r 7) (r 8) :: twoOf 0 1 6 5 2 3 7 8) [ge (v 4) 0, ltI (v 4) (v 5), ltI (v 4) (v 6)] (.same (ltI (c8 7 (v 4)) (c8 8 (v 4))) (pLess (v 0) (v 1) (t 2) (t 3))) ]
def diffAnn : Ann := { key := (33, 3, 3), heads := [{ nf := 1, src := [.int 6], bsrc := [], tm := fun m _ => (6, .int .i64 (v m)) :: bad (upto 12 32), bl := fun _ _ => [], nb := fun _ _ => [], inv := fun m _ => [ge (v m) 0, leI (v m) (v 1), leI (v m) (v 3), pPre (v m) (r 0) (r 2)], ms := fun m _ => .dif (v 1) (v m) }] }
def rdiffAnn : Ann := { key := (40, 2, 21), heads := [{ nf := 1, src := [.int 5], bsrc := [], tm := fun m _ => (5, .int .i64 (v m)) :: bad (upto 6 38), bl := fun _ _ => [], nb := fun _ _ => [], inv := fun m _ => [ge (v m) 0, leI (v m) (v 1), leI (v m) (v 3), pPre (v m) (r 0) (r 2)], ms := fun m _ => .dif (v 1) (v m) }] }
def rules : List Rule := stepRules ++ mayRules ++ hashRules ++ ofRules ++ endRules
/-- They are not the same: another type, or another text. -/
abbrev D7 : List BE := pDiff (v 4) (v 5) (v 6) (r 7) (r 8) :: twoOf 0 1 6 5 2 3 7 8
abbrev T7 : List BE := twoOf 0 1 6 5 2 3 7 8
def apart (q : BE) : List Rule := [
  rule (pDiff (v 4) (v 5) (v 6) (r 7) (r 8) :: q :: twoOf 0 1 6 5 2 3 7 8) [lt (v 4) 0] (.lit false),
  rule (pDiff (v 4) (v 5) (v 6) (r 7) (r 8) :: q :: twoOf 0 1 6 5 2 3 7 8) [leI (v 5) (v 4)] (.lit false),
  rule (pDiff (v 4) (v 5) (v 6) (r 7) (r 8) :: q :: twoOf 0 1 6 5 2 3 7 8) [leI (v 6) (v 4)] (.lit false),
  rule [.not (pLess (v 0) (v 1) (t 2) (t 3)), .not (pLess (v 1) (v 0) (t 3) (t 2)), q, pMay (v 0) (t 2), pMay (v 1) (t 3)] [] (.lit false) ]
/-- Nor does the one's begin the other's. -/
abbrev apartT (q : BE) : Rule := rule (.teq (.row 7 (.lit 0) (v 4)) (.row 6 (.lit 0) (v 4)) :: q :: [pOf (v 0) (v 4) (t 2) (r 6), pMay (v 0) (t 2), pOf (v 1) (v 5) (t 3) (r 7), pMay (v 1) (t 3)]) [leI (v 4) (v 5)] (.lit false)
def apartRules : List Rule := apart (neI (v 0) (v 1)) ++ (apart (.not (.teq (t 2) (t 3))) ++ [apartT (neI (v 0) (v 1)), apartT (neI (v 1) (v 0)), apartT (.not (.teq (t 2) (t 3))), apartT (.not (.teq (t 3) (t 2))),
  rule (pLess (v 0) (v 1) (t 2) (t 3) :: pDiff (v 4) (v 5) (v 6) (r 7) (r 8) :: twoOf 0 1 6 5 2 3 7 8) [ge (v 4) 0, ltI (v 4) (v 5), ltI (v 4) (v 6)] (ltI (c8 7 (v 4)) (c8 8 (v 4))),
  rule (.not (pLess (v 0) (v 1) (t 2) (t 3)) :: pDiff (v 4) (v 5) (v 6) (r 7) (r 8) :: twoOf 0 1 6 5 2 3 7 8) [ge (v 4) 0, ltI (v 4) (v 5), ltI (v 4) (v 6)] (.not (ltI (c8 7 (v 4)) (c8 8 (v 4)))),
  rule (pDiff (v 4) (v 5) (v 6) (r 7) (r 8) :: .cmp .eql (v 0) (v 1) :: .teq (t 2) (t 3) :: twoOf 0 1 6 5 2 3 7 8) [ge (v 4) 0] (.lit false),
  rule [pLess (v 0) (v 1) (t 2) (t 3), pLess (v 1) (v 0) (t 3) (t 2)] [] (.lit false),
  rule [pLess (v 0) (v 1) (t 2) (t 3), .cmp .eql (v 0) (v 1), .teq (t 2) (t 3)] [] (.lit false),
  rule [pLess (v 1) (v 0) (t 3) (t 2), .cmp .eql (v 0) (v 1), .teq (t 2) (t 3)] [] (.lit false) ])
def rulesA : List Rule := rlessRules ++ apartRules ++ lessRules ++ endRules
def cfgA : Cfg := { rules := rulesA, grow := true }
/-- That row is of bytes; what is read of the first 'q' pairs; these are all low; no index has these nibbles. -/
abbrev pRow (x : RX) : BE := .sys 1 (.lit 1) x x
abbrev pDec (q : IE) (x y : RX) : BE := .usr 12 [q] [] [x, y]
abbrev pLow (q : IE) (x : RX) : BE := .usr 13 [q] [] [x]
abbrev pNone (n : IE) (x : RX) : BE := .usr 14 [n] [] [x]
def ofAlts2 : List Alt := [{ rets := [.nil], post := [.not (pMay (v 0) (t 1))] }, { rets := [rowB], post := [pMay (v 0) (t 1), pOf (v 0) (v 3) (t 1) (r 2), le (v 3) 71] }]
def fOf2 : Fs := { f := 10, shs := [index], alts := ofAlts2 }
def fROf2 : Fs := { f := 19, shs := [index], alts := ofAlts2 }
def readAlts : List Alt := [
  { rets := [index, i64], post := [.cmp .eql (v 4) (.lit 0), pMay (v 2) (t 3), pOf (v 2) (v 1) (t 3) (r 0)] },
  { rets := [index, i64], post := [.cmp .eql (v 4) (.lit 16), .cmp .eql (v 2) (.lit 0), .teq (t 3) (.lit []), pNone (v 1) (r 0)] }]
def fRead : Fs := { f := 8, shs := [rowB], pre := [le (v 1) 2000], alts := readAlts }
def fRRead : Fs := { f := 9, shs := [rowB], pre := [le (v 1) 2000], alts := readAlts }
def readAnn : Ann := { key := (62, 5, 4), heads := [{ nf := 4, src := [.int 5, .row 4, .len 4, .rc 4], bsrc := [4], tm := fun m nB => (5, .int .i64 (v m)) :: (4, .sl nB 1 (.lit 0) (.lit 0) (v (m + 2)) (v (m + 3))) :: bad (upto 27 47), bl := fun _ nB => [(nB - 1, .free)], nb := fun m _ => [.row (.row (m + 1)) 5 [.int .u8] (v (m + 2)) (v (m + 3))], inv := fun m _ => [ge (v (m + 2)) 0, le (v (m + 2)) 32, .cmp .eql (v m) (.lin (v (m + 2)) 2 7), ge (v m) 7, leI (v m) (v 1), leI (v (m + 2)) (v (m + 3)), pDec (v (m + 2)) (r 0) (r (m + 1))], ms := fun m _ => .dif (v 1) (v m) }] }
def rreadAnn : Ann := { key := (88, 8, 3), heads := [
  { nf := 1, src := [.int 4], bsrc := [], tm := fun m _ => (4, .int .i64 (v m)) :: (5, .nilSlice) :: (6, .int .i64 (.lit 0)) :: bad (upto 29 67), bl := fun _ _ => [], nb := fun _ _ => [], inv := fun m _ => [ge (v m) 0, le (v m) 4335, .cmp .eql (v 1) (.lin (v m) 2 7)], ms := fun m _ => v m },
  { nf := 4, src := [.int 4, .int 6, .row 5, .rc 5], bsrc := [5], tm := fun m nB => (4, .int .i64 (v m)) :: (6, .int .i64 (v (m + 1))) :: (5, .sl nB 1 (.lit 0) (.lit 0) (v (m + 1)) (v (m + 3))) :: bad (upto 29 67), bl := fun _ _ => [], nb := fun m _ => [.row (.row (m + 2)) 5 [.int .u8] (v (m + 1)) (v (m + 3))], inv := fun m _ => [ge (v m) 0, le (v m) 4335, ge (v (m + 1)) 1, le (v (m + 1)) 4335, leI (v (m + 1)) (v m), .cmp .eql (v 1) (.lin (v m) 2 7), leI (v (m + 1)) (v (m + 3)), pDec (v (m + 1)) (r 0) (r (m + 2))], ms := fun m _ => .dif (v m) (v (m + 1)) }] }
abbrev dec1 (x : Nat) (i : IE) : IE := .bin .or .u8 (.bin .shl .u8 (c8 x i) (.lit 4)) (.bin .and .u8 (c8 x (.off i (.lit 1))) (.lit 15))
def readRules : List Rule := [
  rule [.cmp .eql (v 1) (.lin (v 2) 2 7)] [ltI (v 0) (v 2)] (ltI (.lin (v 0) 2 7) (v 1)),
  rule [.cmp .eql (v 1) (.lin (v 2) 2 7)] [ltI (v 0) (v 2)] (ltI (.lin (v 0) 2 8) (v 1)),
  rule [.cmp .eql (v 0) (.lin (v 1) 2 7)] [gt (v 1) 0] (gt (v 0) 7),
  rule [.cmp .eql (v 0) (.lin (v 1) 2 7)] [gt (v 1) 0] (gt (v 0) 8),
  rule [] [] (ltI (.dif (v 1) (.off (v 0) (.lit 2))) (.dif (v 1) (v 0))),
  rule [] [lt (v 0) 7] (pNone (v 0) (r 1)),
  rule [] [gt (v 0) 71] (pNone (v 0) (r 1)),
  rule [] [] (pDec (.lit 0) (r 0) (.rep (.lit 0) [(.int .u8, .lit 0)])),
  rule [.cmp .eql (v 0) (.lin (v 2) 2 7), .not (.cmp .neq (.bin .rem .i64 (.off (v 1) (.lit (-7))) (.lit 2)) (.lit 0))] [ltI (v 0) (v 1), ge (v 1) 7] (ltI (.off (v 0) (.lit 1)) (v 1)),
  rule [.cmp .eql (v 0) (.lin (v 2) 2 7), .not (.cmp .neq (.bin .rem .i64 (.off (v 1) (.lit (-7))) (.lit 2)) (.lit 0))] [ltI (v 0) (v 1), ge (v 1) 7] (leI (.off (v 0) (.lit 2)) (v 1)),
  rule [.cmp .eql (v 1) (.lin (v 0) 2 7)] [lt (v 1) 71] (le (.off (v 0) (.lit 1)) 32),
  rule [.cmp .neq (.bin .rem .i64 (.off (v 0) (.lit (-7))) (.lit 2)) (.lit 0)] [] (pNone (v 0) (r 1)),
  rule [pDec (v 0) (r 1) (r 3), .isrow 2 (.cat (r 3) (.lits [(.int .u8, dec1 1 (v 4))])), .cmp .eql (v 4) (.lin (v 0) 2 7)] [ge (v 0) 0] (pDec (.off (v 0) (.lit 1)) (r 1) (r 2)) ]
abbrev txtOf (y : Nat) (n : IE) : TX := .row y (.lit 0) n
abbrev dec2 (x : Nat) (i j : IE) : IE := .off (.lin (c8 x i) 16 0) (c8 x j)
def refRules : List Rule := [
  rule [] [ge (v 1) 1] (ltI (.dif (v 0) (v 1)) (v 0)),
  rule [.isrow 1 (.lits [(.int .u8, dec2 0 (.lit 7) (.lit 8))])] [le (c8 0 (.lit 7)) 15, le (c8 0 (.lit 8)) 15] (pDec (.lit 1) (r 0) (r 1)),
  rule [pDec (v 0) (r 1) (r 3), .isrow 2 (.cat (r 3) (.lits [(.int .u8, dec2 1 (.lin (v 0) 2 7) (.lin (v 0) 2 8))]))] [ge (v 0) 0, le (c8 1 (.lin (v 0) 2 7)) 15, le (c8 1 (.lin (v 0) 2 8)) 15] (pDec (.off (v 0) (.lit 1)) (r 1) (r 2)),
  rule [.cmp .gtr (c8 1 (.lin (v 2) 2 7)) (.lit 15), .cmp .eql (v 0) (.lin (v 3) 2 7)] [ge (v 2) 0, ltI (v 2) (v 3)] (pNone (v 0) (r 1)),
  rule [.cmp .gtr (c8 1 (.lin (v 2) 2 8)) (.lit 15), .cmp .eql (v 0) (.lin (v 3) 2 7)] [ge (v 2) 0, ltI (v 2) (v 3)] (pNone (v 0) (r 1)),
  rule [.cmp .gtr (c8 1 (.lit 7)) (.lit 15), .cmp .eql (v 0) (.lin (v 2) 2 7)] [gt (v 2) 0] (pNone (v 0) (r 1)),
  rule [.cmp .gtr (c8 1 (.lit 8)) (.lit 15), .cmp .eql (v 0) (.lin (v 2) 2 7)] [gt (v 2) 0] (pNone (v 0) (r 1)),
  rule [.not (.cmp .eql (v 0) (.lin (dec2 1 (.lit 4) (.lit 5)) 2 7))] [] (pNone (v 0) (r 1)),
  rule [.cmp .eql (v 0) (.lin (v 2) 2 7)] [le (v 2) 0] (pNone (v 0) (r 1)),
  rule [pDec (v 2) (r 1) (r 3), .not (pMay (c8 1 (.lit 6)) (txtOf 3 (v 2))), .cmp .eql (v 0) (.lin (v 4) 2 7)] [leI (v 2) (v 4), leI (v 4) (v 2)] (pNone (v 0) (r 1)),
  rule [pDec (v 2) (r 1) (r 3), .cmp .eql (v 0) (.lin (v 4) 2 7), pOf (c8 1 (.lit 6)) (v 5) (txtOf 3 (v 2)) (r 6), .not (.teq (txtOf 6 (v 5)) (txtOf 1 (v 0))), .rlen (r 1) (v 0)] [leI (v 2) (v 4), leI (v 4) (v 2)] (pNone (v 0) (r 1)) ]
def endRules2 : List Rule := [
  rule [] [] (.teq (t 0) (t 0)),
  rule [.teq (txtOf 0 (v 1)) (.lit [])] [ge (v 1) 1] (.lit false),
  rule [pDec (v 2) (r 1) (r 3), .not (pMay (c8 1 (.lit 6)) (txtOf 3 (v 2))), .cmp .eql (v 4) (.lin (v 2) 2 7)] [leI (v 0) (v 4), leI (v 4) (v 0)] (pNone (v 0) (r 1)),
  rule [pDec (v 2) (r 1) (r 3), .cmp .eql (v 4) (.lin (v 2) 2 7), pOf (c8 1 (.lit 6)) (v 5) (txtOf 3 (v 2)) (r 6), .not (.teq (txtOf 6 (v 5)) (txtOf 1 (v 0))), .rlen (r 1) (v 0)] [leI (v 0) (v 4), leI (v 4) (v 0)] (pNone (v 0) (r 1)),
  rule [pOf (v 0) (v 4) (t 2) (r 5), .teq (txtOf 5 (v 4)) (txtOf 3 (v 1)), pRow (r 3), .rlen (r 3) (v 1)] [] (pOf (v 0) (v 1) (t 2) (r 3)) ]
def rulesRd : List Rule := stepRules ++ mayRules ++ ofRules ++ readRules ++ refRules ++ endRules2 ++ endRules
def cfgRead : Cfg := { rules := rulesRd, grow := true, anns := [readAnn, rreadAnn] }
def bothRules : List Rule := [
  rule [pOf (v 0) (v 4) (t 2) (r 5), pMay (v 0) (t 2), pOf (v 1) (v 6) (t 3) (r 5), pMay (v 1) (t 3)] [] (.cmp .eql (v 0) (v 1)),
  rule [pOf (v 2) (v 4) (t 0) (r 5), pMay (v 2) (t 0), pOf (v 3) (v 6) (t 1) (r 5), pMay (v 3) (t 1)] [] (.teq (t 0) (t 1)),
  rule [pNone (v 0) (r 1), pOf (v 2) (v 0) (t 3) (r 1), pMay (v 2) (t 3)] [] (.lit false),
  rule [.teq (t 0) (.lit []), .teq (t 1) (.lit [])] [] (.teq (t 0) (t 1)),
  rule [pOf (v 0) (v 1) (t 2) (r 3)] [lt (v 1) 7] (.lit false),
  rule [.teq (t 0) (.lit [])] [] (.teq (.lit []) (t 0)),
  rule [] [lt (v 1) 1] (.teq (txtOf 0 (v 1)) (.lit [])) ]
def cfgReads (fl : List Bool) : Cfg := match fl with | [false] => { rules := endRules2 ++ bothRules ++ endRules } | _ => { rules := endRules2 }
def csR (fl : List Bool) : List (List BE) := match fl with | [false] => [[ge (v 1) 1], [.not (ge (v 1) 1)]] | _ => [[]]
abbrev K (a b : IE) : IE := .wrap .i64 (.bin .rem .u64 a b)
abbrev kk : IE := K (v 0) (v 1)
/-- That row with another cell. -/
abbrev setR (k : Nat) (i e : IE) : RX := .set (r k) i (.lits [(.int .u8, .bin .add .u8 (c8 k i) e)])
def backRules : List Rule := [
  rule [pOf (v 1) (v 0) (t 2) (r 3)] [] (neI (v 0) (.lit 0)),
  rule [pOf (v 1) (v 0) (t 2) (r 3)] [] (ge (v 0) 1),
  rule [pOf (v 1) (v 0) (t 2) (r 3)] [] (ge (.off (v 0) (.lit (-1))) 0),
  rule [pOf (v 2) (v 1) (t 3) (r 4)] [ge (v 0) 0, le (v 1) 71] (ge kk 0),
  rule [pOf (v 2) (v 1) (t 3) (r 4)] [ge (v 0) 0, le (v 1) 71] (ltI kk (v 1)),
  rule [pOf (v 0) (v 1) (t 2) (r 3), pMay (v 0) (t 2), pOf (v 4) (v 5) (t 6) (.sub (r 3) (.lit 0) (v 5)), pMay (v 4) (t 6)] [ltI (v 5) (v 1)] (.lit false),
  rule [pOf (v 0) (v 1) (t 2) (r 3), pMay (v 0) (t 2), .isrow 4 (.cat (r 5) (.lits [(.int .u8, .lit 0)])), .isrow 5 (r 3), pOf (v 6) (v 7) (t 8) (r 4), pMay (v 6) (t 8)] [ltI (v 1) (v 7)] (.lit false),
  rule [pOf (v 2) (v 3) (t 0) (setR 4 (K (v 5) (v 3)) (v 6)), pMay (v 2) (t 0), pOf (v 7) (v 3) (t 1) (r 4), pMay (v 7) (t 1), .cmp .eql (v 6) (.lit 0)] [ge (v 5) 0] (.teq (t 0) (t 1)),
  rule [pOf (v 0) (v 2) (t 3) (setR 4 (K (v 5) (v 2)) (v 6)), pMay (v 0) (t 3), pOf (v 1) (v 2) (t 7) (r 4), pMay (v 1) (t 7), .cmp .eql (v 6) (.lit 0)] [ge (v 5) 0] (.cmp .eql (v 0) (v 1)),
  rule [pOf (v 0) (v 1) (t 2) (setR 3 (K (v 4) (v 1)) (v 5)), pMay (v 0) (t 2), pOf (v 6) (v 1) (t 7) (r 3), pMay (v 6) (t 7), .cmp .eql (v 0) (v 6), .teq (t 2) (t 7), .not (.cmp .eql (v 5) (.lit 0))] [ge (v 4) 0, ge (v 5) 0, le (v 5) 255] (.lit false),
  rule [.not (.cmp .neq (v 0) (.lit 0)), .not (.cmp .eql (v 0) (.lit 0))] [] (.lit false),
  rule [pNone (v 0) (setR 1 (K (v 2) (v 0)) (v 3)), pOf (v 4) (v 0) (t 5) (r 1), pMay (v 4) (t 5), .cmp .eql (v 3) (.lit 0)] [ge (v 2) 0] (.lit false) ]
def cfgBack : Cfg := { rules := backRules ++ endRules2 ++ bothRules ++ endRules, grow := true }
abbrev lessXY : BE := pLess (.wrap .i64 (.var 0)) (.wrap .i64 (.var 1)) (.rig 0) (.rig 1)
abbrev lessYX : BE := pLess (.wrap .i64 (.var 1)) (.wrap .i64 (.var 0)) (.rig 1) (.rig 0)
def csA (_ : List Bool) : List (List BE) := [[lessXY], [.not lessXY, lessYX], [.not lessXY, .not lessYX]]
def rules2 : List Rule := lessRules ++ endRules
def rulesD : List Rule := stepRules ++ diffRules
def cfgDiff : Cfg := { rules := rulesD, grow := true, anns := [diffAnn, rdiffAnn] }
def rulesL : List Rule := rlessRules ++ lessRules ++ endRules
def cfgRLess : Cfg := { rules := rulesL, grow := true }
def cfgLess : Cfg := { rules := rules2, grow := true }
def cfg : Cfg := { rules, grow := true }
def cfgMay : Cfg := { rules, grow := true, anns := [mayAnn] }
def cfgRMay : Cfg := { rules, grow := true, anns := [rmayAnn] }
def cfgMix : Cfg := { rules, grow := true, anns := [mixAnn] }
def cfgRHash : Cfg := { rules, grow := true, anns := [rhashAnn, foldAnn] }
def cfgOf : Cfg := { rules, grow := true, anns := [pOfAnn] }
def cfgROf : Cfg := { rules, grow := true, anns := [rOfAnn] }
def letter (d : List UInt8) (i : Nat) : Int := ((d[i]?).map fun (b : UInt8) => (b.toNat : Int)).getD 0
def good (c : Int) : Prop := 33 ≤ c ∧ c ≤ 126 ∧ c ≠ 59
def stepI (h b : Int) : Int := (intBin .mul .u64 ((intBin .xor .u64 h b).getD 0) 1099511628211).getD 0
def foldI (a : Int) (f : Nat → Int) : Nat → Int
  | 0 => a
  | n + 1 => stepI (foldI a f n) (f n)
def cellAt (x : List Value) (i : Nat) : Int := cellInt x[i]? % 256
def startI (k : Int) : Int := stepI 14695981039346656037 (k % 256)
def fullI (k : Int) (d : List UInt8) (n : Nat) : Int := foldI (startI k) (letter d) n
/-- The first 'j' sixteens of bits. -/
def xs (m : Nat) : Nat → Nat
  | 0 => 0
  | j + 1 => xs m j ^^^ (m / 65536 ^ j % 65536)
def hashI (k : Int) (d : List UInt8) : Int := (xs (fullI k d d.length).toNat 4 : Nat)
def headV (k : Int) (d : List UInt8) : List Value :=
  [.int .u8 (hashI k d / 4096 % 16), .int .u8 (hashI k d / 256 % 16), .int .u8 (hashI k d / 16 % 16), .int .u8 (hashI k d % 16), .int .u8 ((d.length : Int) / 16 % 16), .int .u8 ((d.length : Int) % 16), .int .u8 (k % 16)]
def bodyV (d : List UInt8) : Nat → List Value
  | 0 => []
  | i + 1 => bodyV d i ++ [.int .u8 (letter d i / 16), .int .u8 (letter d i % 16)]
def MayP (k : Int) (d : List UInt8) : Prop := 1 ≤ k ∧ k ≤ 4 ∧ 1 ≤ d.length ∧ d.length ≤ 32 ∧ ∀ i : Nat, i < d.length → good (letter d i)
open Classical in
noncomputable def nibV (k : Int) (d : List UInt8) : List Value := if MayP k d then headV k d ++ bodyV d d.length else []
def cellB (x : List Value) (j : Nat) : Int := IntKind.u8.wrap (cellInt x[j]?)
def Differ (d n m : Int) (x y : List Value) : Prop :=
  (d < 0 ∧ n = m ∧ ∀ j : Nat, (j : Int) < n → cellB x j = cellB y j) ∨
    (0 ≤ d ∧ d ≤ n ∧ d ≤ m ∧ (d < n ∨ d < m) ∧ (∀ j : Nat, (j : Int) < d → cellB x j = cellB y j) ∧ (d < n → d < m → cellB x d.toNat ≠ cellB y d.toNat))
def decB (x : List Value) (j : Nat) : Int := cellB x (7 + 2 * j) % 16 * 16 + cellB x (8 + 2 * j) % 16
def decV (x : List Value) : Nat → List Value
  | 0 => []
  | q + 1 => decV x q ++ [.int .u8 (decB x q)]
def prd : Nat → List Int → List (List UInt8) → List (List Value) → Prop
  | 0, [k], [d], _ => 1 ≤ k ∧ k ≤ 4 ∧ 1 ≤ d.length ∧ d.length ≤ 32 ∧ ∀ i : Nat, i < d.length → good (letter d i)
  | 1, [i], [d], _ => ∀ j : Nat, (j : Int) < i → good (letter d j)
  | 2, [a, n, b], _, [x] => b = foldI a (cellAt x) n.toNat
  | 4, [k, h], [d], _ => h = hashI k d
  | 5, [k, i, h], [d], _ => h = fullI k d i.toNat
  | 6, [k, n, h], [d], _ => ∃ j : Nat, n = ((xs (fullI k d d.length).toNat j : Nat) : Int) ∧ h = (((fullI k d d.length).toNat / 65536 ^ j : Nat) : Int)
  | 7, [k, n], [d], [x] => x = headV k d ++ bodyV d d.length ∧ n = (d.length : Int) * 2 + 7
  | 8, [k, i], [d], [x] => x = headV k d ++ bodyV d i.toNat
  | 9, [k, m], [d, e], _ => sysF 0 (nibV k d) (nibV m e) < 0
  | 10, [i], _, [x, y] => ∀ j : Nat, (j : Int) < i → cellB x j = cellB y j
  | 11, [d, n, m], _, [x, y] => Differ d n m x y
  | 12, [q], _, [x, y] => y = decV x q.toNat
  | 14, [n], _, [x] => ∀ (k : Int) (d : List UInt8), MayP k d → ¬ (x = headV k d ++ bodyV d d.length ∧ n = (d.length : Int) * 2 + 7)
  | _, _, _, _ => False

section
variable {ι : Unk} (hp : ι.prd = prd)
include hp
theorem d_may {k : IE} {d : TX} : (pMay k d).den ι = true ↔ 1 ≤ k.den ι ∧ k.den ι ≤ 4 ∧ 1 ≤ (d.den ι).length ∧ (d.den ι).length ≤ 32 ∧ ∀ i : Nat, i < (d.den ι).length → good (letter (d.den ι) i) := n_usr hp
theorem d_mayI {i : IE} {d : TX} : (pMayI i d).den ι = true ↔ ∀ j : Nat, (j : Int) < i.den ι → good (letter (d.den ι) j) := n_usr hp
theorem d_mix {a n b : IE} {x : RX} : (pMix a n b x).den ι = true ↔ b.den ι = foldI (a.den ι) (cellAt (x.den ι)) (n.den ι).toNat := n_usr hp
theorem d_hash {k h : IE} {d : TX} : (pHash k h d).den ι = true ↔ h.den ι = hashI (k.den ι) (d.den ι) := n_usr hp
theorem d_hashI {k i h : IE} {d : TX} : (pHashI k i h d).den ι = true ↔ h.den ι = fullI (k.den ι) (d.den ι) (i.den ι).toNat := n_usr hp
theorem d_fold {k n h : IE} {d : TX} : (pFold k n h d).den ι = true ↔ ∃ j : Nat, n.den ι = ((xs (fullI (k.den ι) (d.den ι) (d.den ι).length).toNat j : Nat) : Int) ∧ h.den ι = (((fullI (k.den ι) (d.den ι) (d.den ι).length).toNat / 65536 ^ j : Nat) : Int) := n_usr hp
theorem d_of {k n : IE} {d : TX} {x : RX} : (pOf k n d x).den ι = true ↔ x.den ι = headV (k.den ι) (d.den ι) ++ bodyV (d.den ι) (d.den ι).length ∧ n.den ι = ((d.den ι).length : Int) * 2 + 7 := n_usr hp
theorem d_ofI {k i : IE} {d : TX} {x : RX} : (pOfI k i d x).den ι = true ↔ x.den ι = headV (k.den ι) (d.den ι) ++ bodyV (d.den ι) (i.den ι).toNat := n_usr hp
end
theorem n_chr {ι : Unk} {s : Nat} {i : IE} : (IE.chr s i).den ι = letter (ι.ft s) (i.den ι).toNat := rfl
theorem n_t {ι : Unk} {s : Nat} : (t s).den ι = ι.ft s := rfl
theorem n_r {ι : Unk} {s : Nat} : (r s).den ι = ι.fr s := rfl

theorem letter_range (d : List UInt8) (i : Nat) : 0 ≤ letter d i ∧ letter d i ≤ 255 := by
  unfold letter
  cases d[i]? with
  | none => decide
  | some b =>
    have := b.toNat_lt
    simp only [Option.map_some, Option.getD_some]
    omega
theorem cellAt_txt (d : List UInt8) : cellAt (d.map fun (b : UInt8) => Value.int .u8 (b.toNat : Int)) = letter d := by
  funext i
  have := letter_range d i
  unfold cellAt
  have e : cellInt (d.map fun (b : UInt8) => Value.int .u8 (b.toNat : Int))[i]? = letter d i := by
    unfold letter
    rw [List.getElem?_map]
    cases d[i]? <;> rfl
  rw [e]
  omega
theorem stepI_range (h b : Int) : 0 ≤ stepI h b ∧ stepI h b < 18446744073709551616 := by
  unfold stepI
  simp only [intBin, Option.getD_some]
  rw [wrap_u64]
  omega
theorem fullI_range (k : Int) (d : List UInt8) (n : Nat) : 0 ≤ fullI k d n ∧ fullI k d n < 18446744073709551616 := by
  cases n with
  | zero => exact stepI_range _ _
  | succ n => exact stepI_range _ _
theorem xs_lt (m : Nat) : ∀ j, xs m j < 2 ^ 16
  | 0 => by show (0 : Nat) < 2 ^ 16; decide
  | j + 1 => Nat.xor_lt_two_pow (xs_lt m j) (Nat.mod_lt _ (by decide))
theorem xs_stay {m j : Nat} (h : m / 65536 ^ j = 0) : ∀ i, xs m (j + i) = xs m j
  | 0 => rfl
  | i + 1 => by
    have h2 : m / 65536 ^ (j + i) = 0 := by rw [Nat.pow_add, ← Nat.div_div_eq_div_mul, h, Nat.zero_div]
    show xs m (j + i) ^^^ (m / 65536 ^ (j + i) % 65536) = _
    rw [h2, xs_stay h i]
    simp
theorem xs_done {m j : Nat} (hm : m < 18446744073709551616) (h : m / 65536 ^ j = 0) : xs m j = xs m 4 := by
  have h1 := xs_stay h 4
  have h2 := xs_stay (m := m) (j := 4) (by rw [show (65536 : Nat) ^ 4 = 18446744073709551616 by decide]; exact Nat.div_eq_of_lt hm) j
  rw [← h1, Nat.add_comm, h2]
theorem xor_u64 {x n : Int} (hx : 0 ≤ x) (hx2 : x < 18446744073709551616) (hn : 0 ≤ n) (hn2 : n < 18446744073709551616) : (intBin .xor .u64 x n).getD 0 = ((x.toNat ^^^ n.toNat : Nat) : Int) := by
  simp only [intBin, Option.getD_some]
  have e : (BitVec.ofInt IntKind.u64.bits x ^^^ BitVec.ofInt IntKind.u64.bits n).toNat = x.toNat ^^^ n.toNat := by
    rw [BitVec.toNat_xor, BitVec.toNat_ofInt, BitVec.toNat_ofInt, show ((2 ^ IntKind.u64.bits : Nat) : Int) = 18446744073709551616 by decide, Int.emod_eq_of_lt hx hx2, Int.emod_eq_of_lt hn hn2]
  rw [e, wrap_u64]
  have : x.toNat ^^^ n.toNat < 2 ^ 64 := Nat.xor_lt_two_pow (by omega) (by omega)
  omega
theorem shr_div {k : IntKind} {x : Int} {s : Nat} (hs : s ≤ k.bits) : (intBin .shr k x (s : Nat)).getD 0 = x / 2 ^ s := by
  simp only [intBin]
  rw [if_neg (by omega), Option.getD_some, Int.toNat_natCast, Nat.min_eq_left hs, Int.fdiv_eq_ediv_of_nonneg _ (Int.pow_nonneg (by decide))]
theorem low_den {ι : Unk} {k : IntKind} {n : IE} {s : Nat} (hs : s ≤ k.bits) : (low k n (s : Nat)).den ι = n.den ι / 2 ^ s % 16 := by
  have h0 := Int.emod_nonneg (n.den ι / 2 ^ s) (show (256 : Int) ≠ 0 by decide)
  have h1 := Int.emod_lt_of_pos (n.den ι / 2 ^ s) (show (0 : Int) < 256 by decide)
  rw [n_bin, n_wrap, n_bin, n_n, n_n, shr_div hs, wrap_u8, and_u8 h0 (by omega) (by decide) (by decide), show ((15 : Int).toNat) = 2 ^ 4 - 1 by decide, Nat.and_two_pow_sub_one_eq_mod]
  omega
theorem hashI_range (k : Int) (d : List UInt8) : 0 ≤ hashI k d ∧ hashI k d ≤ 65535 := by
  have := xs_lt (fullI k d d.length).toNat 4
  unfold hashI
  omega
theorem fold4 {m : Int} (h0 : 0 ≤ m) (h1 : m < 18446744073709551616) :
    IntKind.u16.wrap ((intBin .xor .u64 ((intBin .xor .u64 ((intBin .xor .u64 m ((intBin .shr .u64 m 16).getD 0)).getD 0) ((intBin .shr .u64 m 32).getD 0)).getD 0) ((intBin .shr .u64 m 48).getD 0)).getD 0) = ((xs m.toNat 4 : Nat) : Int) := by
  have p1 : (2 : Int) ^ 16 = 65536 := by decide
  have p2 : (2 : Int) ^ 32 = 4294967296 := by decide
  have p3 : (2 : Int) ^ 48 = 281474976710656 := by decide
  have e1 : (intBin .shr .u64 m 16).getD 0 = m / 65536 := by
    have h := shr_div (k := .u64) (x := m) (s := 16) (by decide)
    rw [p1] at h; exact h
  have e2 : (intBin .shr .u64 m 32).getD 0 = m / 4294967296 := by
    have h := shr_div (k := .u64) (x := m) (s := 32) (by decide)
    rw [p2] at h; exact h
  have e3 : (intBin .shr .u64 m 48).getD 0 = m / 281474976710656 := by
    have h := shr_div (k := .u64) (x := m) (s := 48) (by decide)
    rw [p3] at h; exact h
  have x1 := xor_u64 (x := m) (n := m / 65536) h0 h1 (by omega) (by omega)
  have l1 : m.toNat ^^^ (m / 65536).toNat < 2 ^ 64 := Nat.xor_lt_two_pow (by omega) (by omega)
  have x2 := xor_u64 (x := ((m.toNat ^^^ (m / 65536).toNat : Nat) : Int)) (n := m / 4294967296) (by omega) (by omega) (by omega) (by omega)
  have l2 : (m.toNat ^^^ (m / 65536).toNat) ^^^ (m / 4294967296).toNat < 2 ^ 64 := Nat.xor_lt_two_pow l1 (by omega)
  rw [Int.toNat_natCast] at x2
  have x3 := xor_u64 (x := (((m.toNat ^^^ (m / 65536).toNat) ^^^ (m / 4294967296).toNat : Nat) : Int)) (n := m / 281474976710656) (by omega) (by omega) (by omega) (by omega)
  rw [Int.toNat_natCast] at x3
  rw [e1, e2, e3, x1, x2, x3, wrap_u16]
  have q1 : (m / 65536).toNat = m.toNat / 65536 := by omega
  have q2 : (m / 4294967296).toNat = m.toNat / 4294967296 := by omega
  have q3 : (m / 281474976710656).toNat = m.toNat / 281474976710656 := by omega
  rw [q1, q2, q3]
  have hx : (((m.toNat ^^^ (m.toNat / 65536)) ^^^ (m.toNat / 4294967296)) ^^^ (m.toNat / 281474976710656)) % 2 ^ 16 = xs m.toNat 4 := by
    simp only [Nat.xor_mod_two_pow, xs, Nat.zero_xor]
    rw [show (65536 : Nat) ^ 0 = 1 by decide, Nat.div_one, show (65536 : Nat) ^ 1 = 65536 by decide, show (65536 : Nat) ^ 2 = 4294967296 by decide, show (65536 : Nat) ^ 3 = 281474976710656 by decide]
  omega

theorem stepRules_ok (ι : Unk) (_ : ι.prd = prd) : ∀ r ∈ stepRules, ROk ι r := by
  refine all_cons ?_ (all_cons ?_ all_nil) <;> intro hf h <;>
    simp only [List.mem_cons, List.not_mem_nil, or_false, forall_eq, n_not, n_lss] at hf h
  · rw [n_lss, n_dif, n_dif, n_off, n_n]; omega
  · rw [n_geq, n_dif, n_n]; omega

theorem mayRules_ok (ι : Unk) (hp : ι.prd = prd) : ∀ r ∈ mayRules, ROk ι r := by
  refine all_cons ?_ (all_cons ?_ (all_cons ?_ (all_cons ?_ (all_cons ?_ (all_cons ?_ (all_cons ?_ (all_cons ?_ (all_cons ?_ (all_cons ?_ (all_cons ?_ all_nil)))))))))) <;> intro hf h <;>
    simp only [List.mem_cons, List.not_mem_nil, or_false, forall_eq_or_imp, forall_eq, n_not, n_gtr, n_geq, n_leq, n_lss, n_eql, n_neq, n_n, n_chr, n_tlen, n_t, d_mayI hp] at hf h
  · refine n_not.2 fun hm => ?_
    have := (d_may hp).1 hm
    omega
  · refine n_not.2 fun hm => ?_
    have := (d_may hp).1 hm
    omega
  · refine n_not.2 fun hm => ?_
    have := (d_may hp).1 hm
    simp only [n_t] at this
    omega
  · refine n_not.2 fun hm => ?_
    have := (d_may hp).1 hm
    simp only [n_t] at this
    omega
  · refine (d_mayI hp).2 fun j hj => ?_
    rw [n_n] at hj
    omega
  · refine (d_mayI hp).2 fun j hj => ?_
    rw [n_off, n_n] at hj
    by_cases e : (j : Int) < (v 0).den ι
    · exact hf j e
    · have : j = ((v 0).den ι).toNat := by omega
      rw [this]
      exact ⟨h.2.1, h.2.2.1, h.2.2.2⟩
  · refine (d_mayI hp).2 fun j hj => ?_
    rw [n_off, n_n] at hj
    by_cases e : (j : Int) < (v 0).den ι
    · exact hf j e
    · have : j = ((v 0).den ι).toNat := by omega
      rw [this]
      obtain ⟨h0, h1, h2, h3⟩ := h
      exact ⟨by simp only [n_t]; omega, by simp only [n_t]; omega, h3⟩
  · refine n_not.2 fun hm => ?_
    have hg := ((d_may hp).1 hm).2.2.2.2 ((v 2).den ι).toNat (by simp only [n_t]; omega)
    simp only [n_t] at hg
    have := hg.1
    omega
  · refine n_not.2 fun hm => ?_
    have hg := ((d_may hp).1 hm).2.2.2.2 ((v 2).den ι).toNat (by simp only [n_t]; omega)
    simp only [n_t] at hg
    have := hg.2.1
    omega
  · refine n_not.2 fun hm => ?_
    have hg := ((d_may hp).1 hm).2.2.2.2 ((v 2).den ι).toNat (by simp only [n_t]; omega)
    simp only [n_t] at hg
    exact hg.2.2 h.1
  · refine (d_may hp).2 ⟨h.2.1, h.2.2.1, ?_, ?_, fun i hi => ?_⟩
    · simp only [n_t]; omega
    · simp only [n_t]; omega
    · simp only [n_t] at hi
      exact hf i (by omega)

theorem step_den {ι : Unk} {h b : IE} : (step h b).den ι = stepI (h.den ι) (b.den ι) := rfl
theorem foldI_step {a b : Int} {f : Nat → Int} {i : Int} (h0 : 0 ≤ i) (h : b = foldI a f i.toNat) : stepI b (f i.toNat) = foldI a f (i + 1).toNat := by
  rw [show (i + 1).toNat = i.toNat + 1 by omega, h]
  rfl

theorem hashRules_ok (ι : Unk) (hp : ι.prd = prd) : ∀ r ∈ hashRules, ROk ι r := by
  refine all_cons ?_ (all_cons ?_ (all_cons ?_ (all_cons ?_ (all_cons ?_ (all_cons ?_ (all_cons ?_ (all_cons ?_ (all_cons ?_ (all_cons ?_ (all_cons ?_ (all_cons ?_ all_nil))))))))))) <;> intro hf h <;>
    simp only [List.mem_cons, List.not_mem_nil, or_false, forall_eq_or_imp, forall_eq, n_not, n_gtr, n_geq, n_lss, n_n, n_tlen, n_t, n_r, d_mix hp, d_hash hp, d_hashI hp, d_fold hp] at hf h
  · exact (d_mix hp).2 rfl
  · refine (d_mix hp).2 ?_
    rw [step_den, n_off, n_n, n_r, ← foldI_step h hf, n_wrap, n_cell, wrap_u8]
    rfl
  · obtain ⟨h1, h2⟩ := hf
    refine (d_hash hp).2 ?_
    have e1 : (v 3).den ι = startI ((v 0).den ι) := by
      rw [h1]
      show stepI _ (cellAt _ 0) = _
      unfold startI
      congr 1
      show cellInt (some (Value.int .u8 (IntKind.u8.wrap ((v 0).den ι)))) % 256 = _
      rw [wrap_u8]
      show (v 0).den ι % 256 % 256 = _
      omega
    have e2 : (RX.txt (t 2)).den ι = (ι.ft 2).map fun (b : UInt8) => Value.int .u8 (b.toNat : Int) := rfl
    rw [e1, e2, cellAt_txt, Int.toNat_natCast] at h2
    have e3 : (v 1).den ι = fullI ((v 0).den ι) (ι.ft 2) (ι.ft 2).length := h2
    obtain ⟨r1, r2⟩ := fullI_range ((v 0).den ι) (ι.ft 2) (ι.ft 2).length
    show IntKind.u16.wrap _ = _
    simp only [n_bin, n_n, e3]
    exact fold4 r1 r2
  · refine (d_hashI hp).2 ?_
    rw [step_den]
    show stepI _ _ = startI _
    unfold startI
    congr 1
    rw [n_bin, n_wrap, n_n, wrap_u64, rem_nat (by omega) (by decide)]
    omega
  · refine (d_hashI hp).2 ?_
    rw [step_den, n_off, n_n, n_chr, n_t]
    unfold fullI at hf ⊢
    exact foldI_step (f := letter (ι.ft 3)) h.1 hf
  · refine (d_mix hp).2 ?_
    rw [show (v 4).den ι = (v 1).den ι by omega]
    exact hf
  · refine (d_fold hp).2 ⟨0, by rw [n_n]; simp only [xs]; rfl, ?_⟩
    obtain ⟨r1, r2⟩ := fullI_range ((v 0).den ι) (ι.ft 2) (ι.ft 2).length
    rw [show ((v 3).den ι).toNat = (ι.ft 2).length by omega] at hf
    rw [hf, n_t, Nat.pow_zero, Nat.div_one]
    omega
  · obtain ⟨j, h1, h2⟩ := hf
    refine (d_fold hp).2 ⟨j + 1, ?_, ?_⟩
    · have hl := xs_lt (fullI ((v 0).den ι) (ι.ft 3) (ι.ft 3).length).toNat j
      have hr : (IE.bin .rem .u64 (v 2) (.lit 65536)).den ι = (v 2).den ι % 65536 := by rw [n_bin, n_n, rem_nat h (by decide)]
      rw [n_bin, hr, xor_u64 (by omega) (by omega) (by omega) (by omega), h1, h2, Int.toNat_natCast]
      show _ = ((xs _ j ^^^ (_ / 65536 ^ j % 65536) : Nat) : Int)
      congr 2
    · have hr : (IE.bin .quo .u64 (v 2) (.lit 65536)).den ι = (v 2).den ι / 65536 := by
        rw [n_bin, n_n, h2]
        obtain ⟨r1, r2⟩ := fullI_range ((v 0).den ι) (ι.ft 3) (ι.ft 3).length
        have := Nat.div_le_self (fullI ((v 0).den ι) (ι.ft 3) (ι.ft 3).length).toNat (65536 ^ j)
        simp only [intBin]
        rw [if_neg (by decide), Option.getD_some, Int.tdiv_eq_ediv_of_nonneg (by omega), wrap_u64]
        omega
      rw [hr, h2, n_t, Nat.pow_succ, ← Nat.div_div_eq_div_mul]
      omega
  · obtain ⟨j, h1, h2⟩ := hf
    have hl := xs_lt (fullI ((v 2).den ι) (ι.ft 3) (ι.ft 3).length).toNat j
    have hr : (IE.bin .rem .u64 (v 1) (.lit 65536)).den ι = (v 1).den ι % 65536 := by rw [n_bin, n_n, rem_nat h (by decide)]
    rw [n_leq, n_n, n_bin, hr, xor_u64 (by omega) (by omega) (by omega) (by omega)]
    have : ((v 0).den ι).toNat ^^^ ((v 1).den ι % 65536).toNat < 2 ^ 16 := Nat.xor_lt_two_pow (by omega) (by omega)
    omega
  · rw [n_lss, n_bin, n_n]
    simp only [intBin]
    rw [if_neg (by decide), Option.getD_some, Int.tdiv_eq_ediv_of_nonneg (by omega), wrap_u64]
    omega
  · obtain ⟨j, h1, h2⟩ := hf
    obtain ⟨r1, r2⟩ := fullI_range ((v 0).den ι) (ι.ft 3) (ι.ft 3).length
    refine (d_hash hp).2 ?_
    rw [h1, xs_done (by omega) (by omega)]
    rfl
  · exact n_eql.2 (hf.1.trans hf.2.symm)

theorem shr8 {ι : Unk} {n : IE} {s : Nat} (hs : s ≤ 8) (h0 : 0 ≤ n.den ι) (h1 : n.den ι ≤ 255) : (IE.bin .and .u8 (.bin .shr .u8 n (.lit (s : Nat))) (.lit 15)).den ι = n.den ι / 2 ^ s % 16 := by
  have hd := Int.ediv_nonneg h0 (Int.pow_nonneg (m := s) (show (0 : Int) ≤ 2 by decide))
  have hd2 := Int.ediv_le_self (2 ^ s) h0
  rw [n_bin, n_bin, n_n, n_n, shr_div (k := .u8) hs, and_u8 hd (by omega) (by decide) (by decide), show ((15 : Int).toNat) = 2 ^ 4 - 1 by decide, Nat.and_two_pow_sub_one_eq_mod]
  omega

theorem cons8 {x y : Int} {l m : List Value} (h : x = y) (h' : l = m) : Value.int .u8 x :: l = Value.int .u8 y :: m := by rw [h, h']

theorem ofRules_ok (ι : Unk) (hp : ι.prd = prd) : ∀ r ∈ ofRules, ROk ι r := by
  refine all_cons ?_ (all_cons ?_ (all_cons ?_ (all_cons ?_ (all_cons ?_ (all_cons ?_ (all_cons ?_ (all_cons ?_ (all_cons ?_ all_nil)))))))) <;> intro hf h <;>
    simp only [hashIn, List.mem_cons, List.not_mem_nil, or_false, forall_eq_or_imp, forall_eq, n_not, n_geq, n_leq, n_lss, n_eql, n_n, n_tlen, n_t, n_r, n_lin, n_isrow, d_may hp, d_hash hp, d_ofI hp] at hf h
  · rw [n_leq, n_n, n_tlen]; omega
  · obtain ⟨hh, i9, i8, i7, i6, i5, i4, i3⟩ := hf
    obtain ⟨hm, h0, h1⟩ := h
    refine (d_ofI hp).2 ?_
    have a1 := low_den (ι := ι) (k := .u16) (n := v 2) (s := 12) (by decide)
    have a2 := low_den (ι := ι) (k := .u16) (n := v 2) (s := 8) (by decide)
    have a3 := low_den (ι := ι) (k := .u16) (n := v 2) (s := 4) (by decide)
    have a4 := low_den (ι := ι) (k := .u16) (n := v 2) (s := 0) (by decide)
    have a5 := low_den (ι := ι) (k := .i64) (n := .tlen 1) (s := 4) (by decide)
    have a6 := low_den (ι := ι) (k := .i64) (n := .tlen 1) (s := 0) (by decide)
    have a7 := low_den (ι := ι) (k := .i64) (n := v 0) (s := 0) (by decide)
    rw [show (2 : Int) ^ 12 = 4096 by decide, hh] at a1
    rw [show (2 : Int) ^ 8 = 256 by decide, hh] at a2
    rw [show (2 : Int) ^ 4 = 16 by decide, hh] at a3
    rw [show (2 : Int) ^ 0 = 1 by decide, Int.ediv_one, hh] at a4
    rw [show (2 : Int) ^ 4 = 16 by decide, n_tlen] at a5
    rw [show (2 : Int) ^ 0 = 1 by decide, Int.ediv_one, n_tlen] at a6
    rw [show (2 : Int) ^ 0 = 1 by decide, Int.ediv_one] at a7
    have c1 : ∀ {x : RX} {e : IE}, (RX.cat x (u8s [e])).den ι = x.den ι ++ [Value.int .u8 (e.den ι)] := fun {x e} => rfl
    rw [c1] at i9 i8 i7 i6 i5 i4 i3
    have c0 : (RX.rep (.lit 0) [(.int .u8, .lit 0)]).den ι = [] := rfl
    rw [c0] at i3
    simp only [n_r] at i9 i8 i7 i6 i5 i4 i3 ⊢
    rw [i9, i8, i7, i6, i5, i4, i3]
    have b1 := a1; have b2 := a2; have b3 := a3; have b4 := a4; have b5 := a5; have b6 := a6; have b7 := a7
    simp only [List.nil_append, List.cons_append, headV, n_n, Int.toNat_zero, bodyV, List.append_nil]
    refine cons8 (a1) (cons8 (a2) (cons8 (a3) (cons8 (a4) (cons8 (a5) (cons8 (a6) (cons8 (a7) rfl))))))
  · obtain ⟨hm, h0, h1⟩ := h
    refine (d_ofI hp).2 ?_
    have q : ∀ n : Int, 0 < n → (quo (v 2) n).den ι = (v 2).den ι / n := fun n hn => by rw [n_bin, n_n, quo_i64 h0 (by omega) hn]
    have ql : (quo (.tlen 1) 16).den ι = ((ι.ft 1).length : Int) / 16 := by rw [n_bin, n_n, n_tlen, quo_i64 (by omega) (by omega) (by decide)]
    have m : ∀ (e : IE) (n : Int), 0 ≤ e.den ι → 0 < n → (rem e n).den ι = e.den ι % n := fun e n he hn => by rw [n_bin, n_n, rem_nat he hn]
    have a1 : (IE.wrap .u8 (quo (v 2) 4096)).den ι = hashI ((v 0).den ι) (ι.ft 1) / 4096 % 16 := by rw [n_wrap, q _ (by decide), wrap_u8, ← hf]; omega
    have a2 : (rem (quo (v 2) 256) 16).den ι = hashI ((v 0).den ι) (ι.ft 1) / 256 % 16 := by rw [m _ _ (by rw [q _ (by decide)]; omega) (by decide), q _ (by decide), hf]
    have a3 : (rem (quo (v 2) 16) 16).den ι = hashI ((v 0).den ι) (ι.ft 1) / 16 % 16 := by rw [m _ _ (by rw [q _ (by decide)]; omega) (by decide), q _ (by decide), hf]
    have a4 : (rem (v 2) 16).den ι = hashI ((v 0).den ι) (ι.ft 1) % 16 := by rw [m _ _ h0 (by decide), hf]
    have a5 : (IE.wrap .u8 (quo (.tlen 1) 16)).den ι = ((ι.ft 1).length : Int) / 16 % 16 := by rw [n_wrap, ql, wrap_u8]; omega
    have a6 : (rem (.tlen 1) 16).den ι = ((ι.ft 1).length : Int) % 16 := by rw [m _ _ (by rw [n_tlen]; omega) (by decide), n_tlen]
    have a7 : (IE.wrap .u8 (v 0)).den ι = (v 0).den ι % 16 := by rw [n_wrap, wrap_u8]; omega
    simp only [headV, n_n, n_t, Int.toNat_zero, bodyV, List.append_nil]
    show [_, _, _, _, _, _, _] = _
    refine cons8 (a1) (cons8 (a2) (cons8 (a3) (cons8 (a4) (cons8 (a5) (cons8 (a6) (cons8 (a7) rfl))))))
  · obtain ⟨h1, h2⟩ := hf
    refine (d_of hp).2 ⟨?_, ?_⟩
    · rw [n_r, h1, n_t, show ((v 3).den ι).toNat = (ι.ft 1).length by omega]
    · rw [n_t, h2]; omega
  · obtain ⟨h1, i5, i4⟩ := hf
    refine (d_ofI hp).2 ?_
    have hc : (IE.chr 2 (v 1)).den ι = letter (ι.ft 2) ((v 1).den ι).toNat := n_chr
    obtain ⟨l0, l1⟩ := letter_range (ι.ft 2) ((v 1).den ι).toNat
    have a1 := shr8 (ι := ι) (n := .chr 2 (v 1)) (s := 4) (by decide) (by rw [hc]; exact l0) (by rw [hc]; exact l1)
    have a2 := shr8 (ι := ι) (n := .chr 2 (v 1)) (s := 0) (by decide) (by rw [hc]; exact l0) (by rw [hc]; exact l1)
    rw [show (2 : Int) ^ 4 = 16 by decide, hc] at a1
    rw [show (2 : Int) ^ 0 = 1 by decide, Int.ediv_one, hc] at a2
    have c1 : ∀ {x : RX} {e : IE}, (RX.cat x (u8s [e])).den ι = x.den ι ++ [Value.int .u8 (e.den ι)] := fun {x e} => rfl
    rw [c1] at i5 i4
    simp only [n_r] at i5 i4 ⊢
    rw [i5, i4, h1, n_off, n_n, show ((v 1).den ι + 1).toNat = ((v 1).den ι).toNat + 1 by omega]
    simp only [n_t, bodyV, List.append_assoc, List.cons_append, List.nil_append]
    congr 2
    refine cons8 (a1.trans ?_) (cons8 (a2) rfl)
    omega
  · obtain ⟨h1, i4⟩ := hf
    refine (d_ofI hp).2 ?_
    have hc : (IE.chr 2 (v 1)).den ι = letter (ι.ft 2) ((v 1).den ι).toNat := n_chr
    obtain ⟨l0, l1⟩ := letter_range (ι.ft 2) ((v 1).den ι).toNat
    have a1 : (IE.bin .quo .u8 (.chr 2 (v 1)) (.lit 16)).den ι = letter (ι.ft 2) ((v 1).den ι).toNat / 16 := by
      rw [n_bin, n_n, hc]
      simp only [intBin]
      rw [if_neg (by decide), Option.getD_some, Int.tdiv_eq_ediv_of_nonneg l0, wrap_u8]
      omega
    have a2 : (IE.bin .rem .u8 (.chr 2 (v 1)) (.lit 16)).den ι = letter (ι.ft 2) ((v 1).den ι).toNat % 16 := by
      rw [n_bin, n_n, hc, rem_nat l0 (by decide)]
    have c1 : ∀ {x : RX} {e f : IE}, (RX.cat x (u8s [e, f])).den ι = x.den ι ++ [Value.int .u8 (e.den ι), Value.int .u8 (f.den ι)] := fun {x e f} => rfl
    rw [c1] at i4
    simp only [n_r] at i4 ⊢
    rw [i4, h1, n_off, n_n, show ((v 1).den ι + 1).toNat = ((v 1).den ι).toNat + 1 by omega]
    simp only [n_t, bodyV, List.append_assoc]
    congr 2
    refine cons8 (a1) (cons8 (a2) rfl)
  · rw [n_eql, n_off, n_lin, n_off, n_n, n_n]; omega
  · rw [n_eql, n_lin, n_tlen]; omega
  · rw [n_leq, n_off, n_n, n_n]; omega

theorem endRules_ok (ι : Unk) (hp : ι.prd = prd) : ∀ r ∈ endRules, ROk ι r := by
  refine all_cons ?_ (all_cons ?_ (all_cons ?_ all_nil)) <;> intro hf _ <;>
    simp only [List.mem_cons, List.not_mem_nil, or_false, forall_eq_or_imp, forall_eq, n_not, n_t, n_r, d_of hp] at hf
  · obtain ⟨⟨a1, a2⟩, b1, b2⟩ := hf
    refine n_teq.2 ?_
    simp only [TX.den]
    rw [a1, b1, a2, b2]
  · rw [n_gtr, n_n, hf.2]; omega
  · exact absurd hf.1 hf.2

theorem rules_ok (ι : Unk) (hp : ι.prd = prd) : ∀ r ∈ rules, ROk ι r :=
  all_append (all_append (all_append (all_append (stepRules_ok ι hp) (mayRules_ok ι hp)) (hashRules_ok ι hp)) (ofRules_ok ι hp)) (endRules_ok ι hp)
theorem cmp_neg {a b : ByteArray} : Go.Extern.BytealgCompare.cmp a b < 0 ↔ ∃ i, i ≤ a.size ∧ i < b.size ∧ (∀ j, j < i → a[j]! = b[j]!) ∧ (i < a.size → a[i]! < b[i]!) := by
  unfold Go.Extern.BytealgCompare.cmp
  constructor
  · intro h
    split at h
    · rename_i i hi
      obtain ⟨h1, h2, h3⟩ := List.find?_range_eq_some.1 hi
      have h2 := List.mem_range.1 h2
      split at h
      · rename_i hlt
        exact ⟨i, by omega, by omega, fun j hj => by simpa using h3 j hj, fun _ => hlt⟩
      · exact absurd h (by decide)
    · rename_i hn
      have hn := List.find?_range_eq_none.1 hn
      split at h
      · exact ⟨a.size, Nat.le_refl _, by assumption, fun j hj => by simpa using hn j (by omega), fun hh => absurd hh (Nat.lt_irrefl _)⟩
      · split at h <;> exact absurd h (by decide)
  · rintro ⟨i, h1, h2, h3, h4⟩
    by_cases hi : i < a.size
    · have h5 := h4 hi
      have : (List.range (min a.size b.size)).find? (fun i => a[i]! != b[i]!) = some i := by
        refine List.find?_range_eq_some.2 ⟨?_, List.mem_range.2 (by omega), fun j hj => by simpa using h3 j hj⟩
        simp only [bne_iff_ne, ne_eq]
        intro e
        rw [e] at h5
        exact absurd h5 (UInt8.lt_irrefl _)
      rw [this]
      simp only [if_pos h5]
      decide
    · have : (List.range (min a.size b.size)).find? (fun i => a[i]! != b[i]!) = none :=
        List.find?_range_eq_none.2 fun j hj => by simpa using h3 j (by omega)
      rw [this]
      simp only [if_pos (show a.size < b.size by omega)]
      decide
theorem sys_irr (l : List Value) : ¬ sysF 0 l l < 0 := by
  intro h
  obtain ⟨i, h1, h2, _, h4⟩ := cmp_neg.1 h
  exact absurd (h4 h2) (UInt8.lt_irrefl _)
theorem sys_trans {l m n : List Value} (h : sysF 0 l m < 0) (k : sysF 0 m n < 0) : sysF 0 l n < 0 := by
  obtain ⟨i, a1, a2, a3, a4⟩ := cmp_neg.1 h
  obtain ⟨j, b1, b2, b3, b4⟩ := cmp_neg.1 k
  refine cmp_neg.2 ?_
  rcases Nat.lt_trichotomy i j with hij | rfl | hij
  · exact ⟨i, a1, by omega, fun q hq => (a3 q hq).trans (b3 q (by omega)), fun hi => by rw [← b3 i hij]; exact a4 hi⟩
  · exact ⟨i, a1, b2, fun q hq => (a3 q hq).trans (b3 q hq), fun hi => UInt8.lt_trans (a4 hi) (b4 a2)⟩
  · exact ⟨j, by omega, b2, fun q hq => (a3 q (by omega)).trans (b3 q hq), fun _ => by rw [a3 j hij]; exact b4 (by omega)⟩
section
variable {ι : Unk} (hp : ι.prd = prd)
include hp
theorem d_less {k m : IE} {d e : TX} : (pLess k m d e).den ι = true ↔ sysF 0 (nibV (k.den ι) (d.den ι)) (nibV (m.den ι) (e.den ι)) < 0 := n_usr hp
theorem d_mayP {k : IE} {d : TX} : (pMay k d).den ι = true ↔ MayP (k.den ι) (d.den ι) := n_usr hp
end
theorem nib_yes {k : Int} {d : List UInt8} (h : MayP k d) : nibV k d = headV k d ++ bodyV d d.length := by unfold nibV; rw [if_pos h]
theorem nib_no {k : Int} {d : List UInt8} (h : ¬ MayP k d) : nibV k d = [] := by unfold nibV; rw [if_neg h]
theorem n_lits0 {ι : Unk} : (RX.lits []).den ι = [] := rfl
theorem lessRules_ok (ι : Unk) (hp : ι.prd = prd) : ∀ r ∈ lessRules, ROk ι r := by
  refine all_cons ?_ (all_cons ?_ (all_cons ?_ (all_cons ?_ (all_cons ?_ (all_cons ?_ all_nil))))) <;> intro hf _ <;>
    simp only [List.mem_cons, List.not_mem_nil, or_false, forall_eq_or_imp, forall_eq, n_not, n_sys, n_t, n_r, n_lits0, d_of hp, d_mayP hp, d_less hp] at hf
  · obtain ⟨h1, ⟨h2, _⟩, h3, ⟨h4, _⟩, h5⟩ := hf
    rw [n_same, d_less hp, n_lss, n_n, h1, h2, h4, n_t, n_t, nib_yes h3, nib_yes h5]
  · obtain ⟨h1, h3, ⟨h4, _⟩, h5⟩ := hf
    rw [n_same, d_less hp, n_lss, n_n, h1, h4, n_t, n_t, nib_no h3, nib_yes h5]
  · obtain ⟨h1, ⟨h2, _⟩, h3, h5⟩ := hf
    rw [n_same, d_less hp, n_lss, n_n, h1, h2, n_t, n_t, nib_yes h3, nib_no h5]
  · rw [n_not, d_less hp, n_t, n_t, nib_no hf.1, nib_no hf.2]
    exact sys_irr _
  · rw [n_not, d_less hp]
    exact sys_irr _
  · exact (d_less hp).2 (sys_trans hf.1 hf.2)
theorem rules2_ok (ι : Unk) (hp : ι.prd = prd) : ∀ r ∈ rules2, ROk ι r := all_append (lessRules_ok ι hp) (endRules_ok ι hp)
theorem n_c8 {ι : Unk} {k : Nat} {i : IE} : (c8 k i).den ι = cellB (ι.fr k) (i.den ι).toNat := rfl
section
variable {ι : Unk} (hp : ι.prd = prd)
include hp
theorem d_pre {i : IE} {x y : RX} : (pPre i x y).den ι = true ↔ ∀ j : Nat, (j : Int) < i.den ι → cellB (x.den ι) j = cellB (y.den ι) j := n_usr hp
theorem d_diff {d n m : IE} {x y : RX} : (pDiff d n m x y).den ι = true ↔ Differ (d.den ι) (n.den ι) (m.den ι) (x.den ι) (y.den ι) := n_usr hp
end
theorem diffRules_ok (ι : Unk) (hp : ι.prd = prd) : ∀ r ∈ diffRules, ROk ι r := by
  refine all_cons ?_ (all_cons ?_ (all_cons ?_ (all_cons ?_ (all_cons ?_ (all_cons ?_ (all_cons ?_ (all_cons ?_ all_nil))))))) <;> intro hf h <;>
    simp only [List.mem_cons, List.not_mem_nil, or_false, forall_eq_or_imp, forall_eq, n_not, n_geq, n_lss, n_eql, n_n, n_r, n_c8, d_pre hp] at hf h
  · refine (d_pre hp).2 fun j hj => ?_
    rw [n_n] at hj
    omega
  · refine (d_pre hp).2 fun j hj => ?_
    rw [n_off, n_n] at hj
    by_cases e : (j : Int) < (v 0).den ι
    · exact hf j e
    · rw [show j = ((v 0).den ι).toNat by omega]
      exact h.2
  · exact (d_diff hp).2 (Or.inr ⟨h.1, by omega, by omega, Or.inl h.2.1, hf, fun _ _ => h.2.2.2⟩)
  · refine (d_diff hp).2 (Or.inl ⟨by rw [n_n]; decide, by omega, fun j hj => hf j (by omega)⟩)
  · refine (d_diff hp).2 (Or.inr ⟨by omega, by omega, by omega, Or.inr ?_, fun j hj => hf j (by omega), fun _ _ => by omega⟩)
    obtain ⟨h1, h2, h3, h4, h5, h6⟩ := h
    omega
  · refine (d_diff hp).2 (Or.inr ⟨by omega, by omega, by omega, Or.inl ?_, fun j hj => hf j (by omega), fun _ _ => by omega⟩)
    obtain ⟨h1, h2, h3, h4, h5, h6⟩ := h
    omega
  · exact (d_diff hp).2 (Or.inr ⟨by omega, by omega, by omega, Or.inr (by omega), fun j hj => hf j (by omega), fun _ _ => by omega⟩)
  · exact (d_diff hp).2 (Or.inr ⟨by omega, by omega, by omega, Or.inl (by omega), fun j hj => hf j (by omega), fun _ _ => by omega⟩)
theorem rulesD_ok (ι : Unk) (hp : ι.prd = prd) : ∀ r ∈ rulesD, ROk ι r := all_append (stepRules_ok ι hp) (diffRules_ok ι hp)
/-- Rows of bytes. -/
def bv (b : UInt8) : Value := .int .u8 (b.toNat : Int)
theorem bytesOf_bv : ∀ bs : List UInt8, bytesOf (bs.map bv) = bs
  | [] => rfl
  | b :: r => by
    have ih := bytesOf_bv r
    simp only [bytesOf, List.map_cons, bv] at ih ⊢
    rw [ih]
    simp
theorem cellB_bv (bs : List UInt8) (j : Nat) : cellB (bs.map bv) j = (((⟨bs.toArray⟩ : ByteArray)[j]!.toNat : Nat) : Int) := by
  unfold cellB
  rw [List.getElem?_map]
  by_cases h : j < bs.length
  · rw [List.getElem?_eq_getElem h]
    have hs : j < (⟨bs.toArray⟩ : ByteArray).size := by simpa [ByteArray.size] using h
    rw [getElem!_pos (⟨bs.toArray⟩ : ByteArray) j hs]
    have e : (⟨bs.toArray⟩ : ByteArray)[j] = bs[j] := rfl
    rw [e]
    simp only [Option.map_some, bv, cellInt, wrap_u8]
    have := bs[j].toNat_lt
    omega
  · rw [List.getElem?_eq_none (by omega)]
    have hs : ¬ j < (⟨bs.toArray⟩ : ByteArray).size := by simpa [ByteArray.size] using h
    rw [getElem!_neg (⟨bs.toArray⟩ : ByteArray) j hs]
    rfl
theorem u8_eq {a b : UInt8} : a = b ↔ (a.toNat : Int) = (b.toNat : Int) := by
  rw [← UInt8.toNat_inj]; omega
theorem sys_lt {x y : List Value} (hx : ∃ bs : List UInt8, x = bs.map bv) (hy : ∃ bs : List UInt8, y = bs.map bv) :
    sysF 0 x y < 0 ↔ ∃ i : Nat, i ≤ x.length ∧ i < y.length ∧ (∀ j : Nat, j < i → cellB x j = cellB y j) ∧ (i < x.length → cellB x i < cellB y i) := by
  obtain ⟨bs, rfl⟩ := hx
  obtain ⟨cs, rfl⟩ := hy
  simp only [sysF, bytesOf_bv, cellB_bv, List.length_map]
  rw [cmp_neg]
  have s1 : (⟨bs.toArray⟩ : ByteArray).size = bs.length := by simp [ByteArray.size]
  have s2 : (⟨cs.toArray⟩ : ByteArray).size = cs.length := by simp [ByteArray.size]
  rw [s1, s2]
  constructor
  · rintro ⟨i, a1, a2, a3, a4⟩
    exact ⟨i, a1, a2, fun j hj => by rw [a3 j hj], fun hi => by have := UInt8.lt_iff_toNat_lt.1 (a4 hi); omega⟩
  · rintro ⟨i, a1, a2, a3, a4⟩
    exact ⟨i, a1, a2, fun j hj => u8_eq.2 (a3 j hj), fun hi => UInt8.lt_iff_toNat_lt.2 (by have := a4 hi; omega)⟩
theorem bv_of : ∀ {x : List Value}, (∀ v ∈ x, ∃ n : Int, v = .int .u8 n ∧ 0 ≤ n ∧ n ≤ 255) → ∃ bs : List UInt8, x = bs.map bv
  | [], _ => ⟨[], rfl⟩
  | v :: r, h => by
    obtain ⟨n, rfl, h0, h1⟩ := h v List.mem_cons_self
    obtain ⟨bs, hb⟩ := bv_of (x := r) fun v hv => h v (List.mem_cons_of_mem _ hv)
    refine ⟨UInt8.ofNat n.toNat :: bs, ?_⟩
    rw [hb, List.map_cons]
    congr 1
    simp only [bv, UInt8.toNat_ofNat']
    congr 1
    omega
def nibW (k : Int) (d : List UInt8) : List Value := headV k d ++ bodyV d d.length
theorem body_len (d : List UInt8) : ∀ n : Nat, (bodyV d n).length = 2 * n
  | 0 => rfl
  | n + 1 => by
    rw [bodyV, List.length_append, body_len d n]
    simp only [List.length_cons, List.length_nil]
    omega
theorem nibW_len (k : Int) (d : List UInt8) : (nibW k d).length = 7 + 2 * d.length := by
  rw [nibW, List.length_append, body_len]
  rfl
theorem body_mem (d : List UInt8) : ∀ (n : Nat) (v : Value), v ∈ bodyV d n → ∃ m : Int, v = .int .u8 m ∧ 0 ≤ m ∧ m ≤ 255
  | 0, v, h => by cases h
  | n + 1, v, h => by
    rw [bodyV] at h
    have := letter_range d n
    rcases List.mem_append.1 h with h | h
    · exact body_mem d n v h
    · rcases List.mem_cons.1 h with rfl | h
      · exact ⟨_, rfl, by omega, by omega⟩
      · rw [List.mem_singleton.1 h]
        exact ⟨_, rfl, by omega, by omega⟩
theorem nibW_bv (k : Int) (d : List UInt8) : ∃ bs : List UInt8, nibW k d = bs.map bv := by
  refine bv_of fun v hv => ?_
  rcases List.mem_append.1 hv with h | h
  · simp only [headV, List.mem_cons, List.not_mem_nil, or_false] at h
    rcases h with rfl | rfl | rfl | rfl | rfl | rfl | rfl <;> exact ⟨_, rfl, by omega, by omega⟩
  · exact body_mem d _ v h
theorem body_get (d : List UInt8) : ∀ (n i : Nat), i < n → (bodyV d n)[2 * i]? = some (.int .u8 (letter d i / 16)) ∧ (bodyV d n)[2 * i + 1]? = some (.int .u8 (letter d i % 16))
  | 0, i, h => by omega
  | n + 1, i, h => by
    rw [bodyV]
    have hl := body_len d n
    by_cases e : i = n
    · subst e
      rw [List.getElem?_append_right (by omega), List.getElem?_append_right (by omega), hl, Nat.sub_self, show 2 * i + 1 - 2 * i = 1 by omega]
      exact ⟨rfl, rfl⟩
    · rw [List.getElem?_append_left (by omega), List.getElem?_append_left (by omega)]
      exact body_get d n i (by omega)
theorem nibW_at {k : Int} {d : List UInt8} {i : Nat} (h : i < d.length) : cellB (nibW k d) (7 + 2 * i) = letter d i / 16 ∧ cellB (nibW k d) (7 + 2 * i + 1) = letter d i % 16 := by
  have hh : (headV k d).length = 7 := rfl
  obtain ⟨b1, b2⟩ := body_get d d.length i h
  have := letter_range d i
  unfold cellB nibW
  rw [List.getElem?_append_right (by omega), List.getElem?_append_right (by omega), hh, show 7 + 2 * i - 7 = 2 * i by omega, show 7 + 2 * i + 1 - 7 = 2 * i + 1 by omega, b1, b2]
  simp only [cellInt, wrap_u8]
  omega
/-- Where all that both have is the same, they are of one index. -/
theorem nib_apart {k m : Int} {d e : List UInt8} (hk : MayP k d) (hm : MayP m e) (h : ∀ j : Nat, j < (nibW k d).length → j < (nibW m e).length → cellB (nibW k d) j = cellB (nibW m e) j) : k = m ∧ d = e := by
  rw [nibW_len, nibW_len] at h
  obtain ⟨k1, k2, k3, k4, _⟩ := hk
  obtain ⟨m1, m2, m3, m4, _⟩ := hm
  have h4 : ((d.length : Int) / 16 % 16) % 256 = ((e.length : Int) / 16 % 16) % 256 := h 4 (by omega) (by omega)
  have h5 : ((d.length : Int) % 16) % 256 = ((e.length : Int) % 16) % 256 := h 5 (by omega) (by omega)
  have h6 : (k % 16) % 256 = (m % 16) % 256 := h 6 (by omega) (by omega)
  have hl : d.length = e.length := by omega
  refine ⟨by omega, List.ext_getElem? fun i => ?_⟩
  by_cases hi : i < d.length
  · obtain ⟨a1, a2⟩ := nibW_at (k := k) hi
    obtain ⟨b1, b2⟩ := nibW_at (k := m) (d := e) (i := i) (by omega)
    have c1 := h (7 + 2 * i) (by omega) (by omega)
    have c2 := h (7 + 2 * i + 1) (by omega) (by omega)
    rw [a1, b1] at c1
    rw [a2, b2] at c2
    have c3 : letter d i = letter e i := by omega
    have hi' : i < e.length := by omega
    rw [List.getElem?_eq_getElem hi, List.getElem?_eq_getElem hi']
    simp only [letter, List.getElem?_eq_getElem hi, List.getElem?_eq_getElem hi', Option.map_some, Option.getD_some] at c3
    rw [u8_eq.2 c3]
  · rw [List.getElem?_eq_none (by omega), List.getElem?_eq_none (by omega)]
theorem may_w {k : Int} {d : List UInt8} (h : MayP k d) : nibV k d = nibW k d := nib_yes h
theorem nil_bv : ∃ bs : List UInt8, ([] : List Value) = bs.map bv := ⟨[], rfl⟩
section
variable {k m : Int} {d e : List UInt8} {q n l : Int} {x y : List Value} (hx : x = nibW k d ∧ n = (d.length : Int) * 2 + 7) (hy : y = nibW m e ∧ l = (e.length : Int) * 2 + 7) (hk : MayP k d) (hm : MayP m e) (hd : Differ q n l x y)
include hx hy
theorem lens : (x.length : Int) = n ∧ (y.length : Int) = l := by
  rw [hx.1, hy.1, nibW_len, nibW_len, hx.2, hy.2]
  omega
theorem two_lt : sysF 0 x y < 0 ↔ ∃ i : Nat, i ≤ x.length ∧ i < y.length ∧ (∀ j : Nat, j < i → cellB x j = cellB y j) ∧ (i < x.length → cellB x i < cellB y i) := by
  rw [hx.1, hy.1]
  exact sys_lt (nibW_bv k d) (nibW_bv m e)
include hd
theorem less_neg (h : q < 0) : ¬ sysF 0 x y < 0 := by
  intro hlt
  obtain ⟨l1, l2⟩ := lens hx hy
  obtain ⟨i, a1, a2, a3, a4⟩ := (two_lt hx hy).1 hlt
  rcases hd with ⟨_, b2, b3⟩ | ⟨b1, _⟩
  · have := a4 (by omega)
    have := b3 i (by omega)
    omega
  · omega
theorem less_over (h : 0 ≤ q) (h2 : l ≤ q) : ¬ sysF 0 x y < 0 := by
  intro hlt
  obtain ⟨l1, l2⟩ := lens hx hy
  obtain ⟨i, a1, a2, a3, a4⟩ := (two_lt hx hy).1 hlt
  rcases hd with ⟨b1, _⟩ | ⟨_, b2, b3, b4, b5, _⟩
  · omega
  · have := a4 (by omega)
    have := b5 i (by omega)
    omega
theorem less_out (h : 0 ≤ q) (h1 : n ≤ q) (h2 : q < l) : sysF 0 x y < 0 := by
  obtain ⟨l1, l2⟩ := lens hx hy
  rcases hd with ⟨b1, _⟩ | ⟨_, b2, b3, b4, b5, _⟩
  · omega
  · exact (two_lt hx hy).2 ⟨q.toNat, by omega, by omega, fun j hj => b5 j (by omega), fun hi => by omega⟩
theorem less_at (h : 0 ≤ q) (h1 : q < n) (h2 : q < l) : sysF 0 x y < 0 ↔ cellB x q.toNat < cellB y q.toNat := by
  obtain ⟨l1, l2⟩ := lens hx hy
  rcases hd with ⟨b1, _⟩ | ⟨_, b2, b3, b4, b5, b6⟩
  · omega
  · rw [two_lt hx hy]
    constructor
    · rintro ⟨i, a1, a2, a3, a4⟩
      rcases Nat.lt_trichotomy i q.toNat with hi | hi | hi
      · have := a4 (by omega)
        have := b5 i (by omega)
        omega
      · rw [hi] at a4
        exact a4 (by omega)
      · exact absurd (a3 _ hi) (b6 h1 h2)
    · intro hc
      exact ⟨q.toNat, by omega, by omega, fun j hj => b5 j (by omega), fun _ => hc⟩
include hk hm
theorem apart_neg (h : q < 0 ∨ n ≤ q ∨ l ≤ q) : k = m ∧ d = e := by
  obtain ⟨l1, l2⟩ := lens hx hy
  refine nib_apart hk hm fun j h1 h2 => ?_
  rw [← hx.1] at h1 ⊢
  rw [← hy.1] at h2 ⊢
  rcases hd with ⟨b1, b2, b3⟩ | ⟨b1, b2, b3, b4, b5, _⟩
  · exact b3 j (by omega)
  · exact b5 j (by omega)
end
theorem less_total {k m : Int} {d e : List UInt8} (hk : MayP k d) (hm : MayP m e) (h1 : ¬ sysF 0 (nibV k d) (nibV m e) < 0) (h2 : ¬ sysF 0 (nibV m e) (nibV k d) < 0) : k = m ∧ d = e := by
  rw [may_w hk, may_w hm] at h1 h2
  refine nib_apart hk hm fun j => ?_
  induction j using Nat.strongRecOn with
  | _ j ih =>
    intro a1 a2
    have hpre : ∀ i : Nat, i < j → cellB (nibW k d) i = cellB (nibW m e) i := fun i hi => ih i hi (by omega) (by omega)
    rcases Int.lt_trichotomy (cellB (nibW k d) j) (cellB (nibW m e) j) with h | h | h
    · exact absurd ((sys_lt (nibW_bv k d) (nibW_bv m e)).2 ⟨j, by omega, a2, hpre, fun _ => h⟩) h1
    · exact h
    · exact absurd ((sys_lt (nibW_bv m e) (nibW_bv k d)).2 ⟨j, by omega, a1, fun i hi => (hpre i hi).symm, fun _ => h⟩) h2
theorem d_ofW {ι : Unk} (hp : ι.prd = prd) {k n : IE} {d : TX} {x : RX} : (pOf k n d x).den ι = true ↔ x.den ι = nibW (k.den ι) (d.den ι) ∧ n.den ι = ((d.den ι).length : Int) * 2 + 7 := n_usr hp
theorem rlessRules_ok (ι : Unk) (hp : ι.prd = prd) : ∀ r ∈ rlessRules, ROk ι r := by
  refine all_cons ?_ (all_cons ?_ (all_cons ?_ (all_cons ?_ (all_cons ?_ (all_cons ?_ (all_cons ?_ (all_cons ?_ all_nil))))))) <;> intro hf h <;>
    simp only [List.mem_cons, List.not_mem_nil, or_false, forall_eq_or_imp, forall_eq, n_not, n_geq, n_lss, n_n, n_t, n_r, d_ofW hp, d_mayP hp, d_diff hp] at hf h
  · rw [n_not, n_eql, n_n]
    omega
  · rw [n_not, n_leq, n_n]
    omega
  · rw [n_not, d_less hp, n_t, n_t, nib_no hf]
    intro hlt
    by_cases hm : MayP ((v 0).den ι) (ι.ft 2)
    · rw [may_w hm, sys_lt (nibW_bv _ _) nil_bv] at hlt
      obtain ⟨i, _, a2, _⟩ := hlt
      exact absurd a2 (Nat.not_lt_zero _)
    · rw [nib_no hm] at hlt
      exact sys_irr _ hlt
  · rw [d_less hp, n_t, n_t, nib_no hf.1, may_w hf.2, sys_lt nil_bv (nibW_bv _ _)]
    exact ⟨0, Nat.le_refl _, by rw [nibW_len]; omega, fun j hj => by omega, fun hh => absurd hh (Nat.lt_irrefl _)⟩
  · obtain ⟨h1, h2, h3, h4, h5⟩ := hf
    rw [n_not, d_less hp, n_t, n_t, may_w h3, may_w h5, ← h2.1, ← h4.1]
    exact less_neg h2 h4 h1 h
  · obtain ⟨h1, h2, h3, h4, h5⟩ := hf
    rw [n_not, d_less hp, n_t, n_t, may_w h3, may_w h5, ← h2.1, ← h4.1]
    exact less_over h2 h4 h1 h.1 (by omega)
  · obtain ⟨h1, h2, h3, h4, h5⟩ := hf
    rw [d_less hp, n_t, n_t, may_w h3, may_w h5, ← h2.1, ← h4.1]
    exact less_out h2 h4 h1 h.1 (by omega) (by omega)
  · obtain ⟨h1, h2, h3, h4, h5⟩ := hf
    rw [n_same, d_less hp, n_t, n_t, may_w h3, may_w h5, ← h2.1, ← h4.1, less_at h2 h4 h1 h.1 (by omega) (by omega), n_lss, n_c8, n_c8]
theorem rulesL_ok (ι : Unk) (hp : ι.prd = prd) : ∀ r ∈ rulesL, ROk ι r := all_append (all_append (rlessRules_ok ι hp) (lessRules_ok ι hp)) (endRules_ok ι hp)
theorem apart_ok {ι : Unk} (hp : ι.prd = prd) {q : BE} (hq : q.den ι = true → ¬ ((v 0).den ι = (v 1).den ι ∧ ι.ft 2 = ι.ft 3)) : ∀ r ∈ apart q, ROk ι r := by
  refine all_cons ?_ (all_cons ?_ (all_cons ?_ (all_cons ?_ all_nil))) <;> intro hf h <;>
    simp only [List.mem_cons, List.not_mem_nil, or_false, forall_eq_or_imp, forall_eq, n_not, n_lss, n_n, n_t, n_r, d_ofW hp, d_mayP hp, d_diff hp, d_less hp] at hf h
  · obtain ⟨h1, h0, h2, h3, h4, h5⟩ := hf
    exact (hq h0 (apart_neg h2 h4 h3 h5 h1 (Or.inl h))).elim
  · obtain ⟨h1, h0, h2, h3, h4, h5⟩ := hf
    exact (hq h0 (apart_neg h2 h4 h3 h5 h1 (Or.inr (Or.inl (by omega))))).elim
  · obtain ⟨h1, h0, h2, h3, h4, h5⟩ := hf
    exact (hq h0 (apart_neg h2 h4 h3 h5 h1 (Or.inr (Or.inr (by omega))))).elim
  · obtain ⟨h1, h2, h0, h3, h5⟩ := hf
    exact (hq h0 (less_total h3 h5 h1 h2)).elim
theorem begins_apart {ι : Unk} {a c : Nat} {n l k m : Int} {d e : List UInt8} {i : IE} (hx : ι.fr a = nibW k d ∧ n = (d.length : Int) * 2 + 7) (hy : ι.fr c = nibW m e ∧ l = (e.length : Int) * 2 + 7) (hk : MayP k d) (hm : MayP m e) (hi : i.den ι = n) (hl : n ≤ l)
    (ht : (TX.row c (.lit 0) i).den ι = (TX.row a (.lit 0) i).den ι) : k = m ∧ d = e := by
  obtain ⟨l1, l2⟩ := lens hx hy
  obtain ⟨bs, hb⟩ := nibW_bv k d
  obtain ⟨cs, hc⟩ := nibW_bv m e
  have hbl : (bs.length : Int) = n := by rw [← l1, hx.1, hb, List.length_map]
  have hcl : (cs.length : Int) = l := by rw [← l2, hy.1, hc, List.length_map]
  have key : ∀ (k : Nat) (zs : List UInt8), ι.fr k = zs.map bv → n.toNat ≤ zs.length → (TX.row k (.lit 0) i).den ι = zs.take n.toNat := fun k zs hz hn => by
    simp only [TX.den, IE.den, hi, hz, Int.toNat_zero, List.drop_zero]
    rw [← List.map_take, bytesOf_bv]
    exact padTo_self (by rw [List.length_take]; omega)
  rw [key a bs (hx.1.trans hb) (by omega), key c cs (hy.1.trans hc) (by omega)] at ht
  refine nib_apart hk hm fun j h1 h2 => ?_
  rw [nibW_len] at h1
  have hj : j < n.toNat := by omega
  have e1 : (nibW k d)[j]? = (nibW m e)[j]? := by
    rw [hb, hc, List.getElem?_map, List.getElem?_map]
    have := congrArg (fun l : List UInt8 => l[j]?) ht
    simp only [List.getElem?_take, if_pos hj] at this
    rw [this]
  unfold cellB
  rw [e1]
theorem apartT_ok {ι : Unk} (hp : ι.prd = prd) {q : BE} (hq : q.den ι = true → ¬ ((v 0).den ι = (v 1).den ι ∧ ι.ft 2 = ι.ft 3)) : ROk ι (apartT q) := by
  intro hf h
  simp only [List.mem_cons, List.not_mem_nil, or_false, forall_eq_or_imp, forall_eq, n_not, n_lss, n_teq, n_t, n_r, d_ofW hp, d_mayP hp] at hf h
  obtain ⟨h1, h0, h2, h3, h4, h5⟩ := hf
  exact (hq h0 (begins_apart h2 h4 h3 h5 rfl (by omega) h1)).elim
theorem apartRules_ok (ι : Unk) (hp : ι.prd = prd) : ∀ r ∈ apartRules, ROk ι r := by
  have q1 : (neI (v 0) (v 1)).den ι = true → ¬ ((v 0).den ι = (v 1).den ι ∧ ι.ft 2 = ι.ft 3) := fun h e => n_not.1 h (n_eql.2 e.1)
  have q2 : (neI (v 1) (v 0)).den ι = true → ¬ ((v 0).den ι = (v 1).den ι ∧ ι.ft 2 = ι.ft 3) := fun h e => n_not.1 h (n_eql.2 e.1.symm)
  have q3 : (BE.not (.teq (t 2) (t 3))).den ι = true → ¬ ((v 0).den ι = (v 1).den ι ∧ ι.ft 2 = ι.ft 3) := fun h e => n_not.1 h (n_teq.2 e.2)
  have q4 : (BE.not (.teq (t 3) (t 2))).den ι = true → ¬ ((v 0).den ι = (v 1).den ι ∧ ι.ft 2 = ι.ft 3) := fun h e => n_not.1 h (n_teq.2 e.2.symm)
  refine all_append (apart_ok hp q1) (all_append (apart_ok hp q3) (all_cons (apartT_ok hp q1) (all_cons (apartT_ok hp q2) (all_cons (apartT_ok hp q3) (all_cons (apartT_ok hp q4) (all_cons ?_ (all_cons ?_ (all_cons ?_ (all_cons ?_ (all_cons ?_ (all_cons ?_ all_nil))))))))))) <;> intro hf h <;>
    simp only [List.mem_cons, List.not_mem_nil, or_false, forall_eq_or_imp, forall_eq, n_not, n_geq, n_lss, n_eql, n_teq, n_n, n_t, n_r, d_ofW hp, d_mayP hp, d_diff hp, d_less hp] at hf h
  · obtain ⟨h0, h1, h2, h3, h4, h5⟩ := hf
    rw [may_w h3, may_w h5, ← h2.1, ← h4.1] at h0
    rw [n_lss, n_c8, n_c8]
    exact (less_at h2 h4 h1 h.1 (by omega) (by omega)).1 h0
  · obtain ⟨h0, h1, h2, h3, h4, h5⟩ := hf
    rw [may_w h3, may_w h5, ← h2.1, ← h4.1] at h0
    rw [n_not, n_lss, n_c8, n_c8]
    exact fun e => h0 ((less_at h2 h4 h1 h.1 (by omega) (by omega)).2 e)
  · obtain ⟨h1, e1, e2, h2, h3, h4, h5⟩ := hf
    have hxy : ι.fr 7 = ι.fr 8 := by rw [h2.1, h4.1, e1, e2]
    have hnl : (v 5).den ι = (v 6).den ι := by rw [h2.2, h4.2, e2]
    rcases h1 with ⟨b1, _⟩ | ⟨_, b2, b3, b4, _, b6⟩
    · omega
    · exact absurd (by rw [hxy]) (b6 (by omega) (by omega))
  · exact (sys_irr _ (sys_trans hf.1 hf.2)).elim
  · obtain ⟨h1, e1, e2⟩ := hf
    rw [e1, e2] at h1
    exact (sys_irr _ h1).elim
  · obtain ⟨h1, e1, e2⟩ := hf
    rw [e1, e2] at h1
    exact (sys_irr _ h1).elim
theorem rulesA_ok (ι : Unk) (hp : ι.prd = prd) : ∀ r ∈ rulesA, ROk ι r := all_append (all_append (all_append (rlessRules_ok ι hp) (apartRules_ok ι hp)) (lessRules_ok ι hp)) (endRules_ok ι hp)
theorem csA_ne (fl : List Bool) : csA fl ≠ [] := List.cons_ne_nil _ _
theorem csA_ok (fl : List Bool) (ι : Unk) (_ : ι.prd = prd) : ∃ fs ∈ csA fl, ∀ b ∈ fs, b.den ι = true := by
  by_cases h1 : lessXY.den ι = true
  · exact ⟨_, List.mem_cons_self, all_cons h1 all_nil⟩
  · by_cases h2 : lessYX.den ι = true
    · exact ⟨_, List.mem_cons_of_mem _ List.mem_cons_self, all_cons (n_not.2 h1) (all_cons h2 all_nil)⟩
    · exact ⟨_, List.mem_cons_of_mem _ (List.mem_cons_of_mem _ List.mem_cons_self), all_cons (n_not.2 h1) (all_cons (n_not.2 h2) all_nil)⟩
theorem d_dec {ι : Unk} (hp : ι.prd = prd) {q : IE} {x y : RX} : (pDec q x y).den ι = true ↔ y.den ι = decV (x.den ι) (q.den ι).toNat := n_usr hp
theorem d_none {ι : Unk} (hp : ι.prd = prd) {n : IE} {x : RX} : (pNone n x).den ι = true ↔ ∀ (k : Int) (d : List UInt8), MayP k d → ¬ (x.den ι = nibW k d ∧ n.den ι = (d.length : Int) * 2 + 7) := n_usr hp
theorem d_row {ι : Unk} {x : RX} : (pRow x).den ι = true ↔ isBytes (x.den ι) := by
  rw [n_sys, n_n]
  simp only [sysF]
  split
  · rename_i h
    exact ⟨fun _ => h, fun _ => rfl⟩
  · rename_i h
    exact ⟨fun e => by omega, fun e => absurd e h⟩
theorem cell_range (x : List Value) (j : Nat) : 0 ≤ cellB x j ∧ cellB x j ≤ 255 := by
  unfold cellB
  rw [wrap_u8]
  omega
theorem dec_nib {k : Int} {d : List UInt8} {i : Nat} (h : i < d.length) : decB (nibW k d) i = letter d i := by
  obtain ⟨a, b⟩ := nibW_at (k := k) h
  have := letter_range d i
  unfold decB
  rw [show 8 + 2 * i = 7 + 2 * i + 1 by omega, a, b]
  omega
theorem decV_len (x : List Value) : ∀ q : Nat, (decV x q).length = q
  | 0 => rfl
  | q + 1 => by rw [decV, List.length_append, decV_len x q]; rfl
theorem decV_get (x : List Value) : ∀ (q i : Nat), i < q → (decV x q)[i]? = some (.int .u8 (decB x i))
  | 0, i, h => by omega
  | q + 1, i, h => by
    rw [decV]
    have hl := decV_len x q
    by_cases e : i = q
    · subst e
      rw [List.getElem?_append_right (by omega), hl, Nat.sub_self]
      rfl
    · rw [List.getElem?_append_left (by omega)]
      exact decV_get x q i (by omega)
/-- What is read of an index' nibbles is its text. -/
theorem dec_text {k : Int} {d : List UInt8} : bytesOf (decV (nibW k d) d.length) = d := by
  apply List.ext_getElem?
  intro i
  simp only [bytesOf, List.getElem?_map]
  by_cases h : i < d.length
  · rw [decV_get _ _ _ h, dec_nib h, List.getElem?_eq_getElem h]
    simp only [Option.map_some, letter, List.getElem?_eq_getElem h, Option.getD_some, Int.toNat_natCast, UInt8.ofNat_toNat]
  · rw [List.getElem?_eq_none (by rw [decV_len]; omega), List.getElem?_eq_none (by omega)]
    rfl
theorem cell6 {k : Int} {d : List UInt8} (h : MayP k d) : cellB (nibW k d) 6 = k := by
  have e : cellB (nibW k d) 6 = IntKind.u8.wrap (k % 16) := rfl
  obtain ⟨k1, k2, _⟩ := h
  rw [e, wrap_u8]
  omega
theorem txt_den {ι : Unk} {y : Nat} {n : IE} (h : (ι.fr y).length = (n.den ι).toNat) : (txtOf y n).den ι = bytesOf (ι.fr y) := by
  simp only [TX.den, IE.den, Int.toNat_zero, List.drop_zero]
  rw [← h, List.take_length]
  exact padTo_self (by rw [bytesOf, List.length_map])
theorem rows_same {l m : List Value} (hl : isBytes l) (hm : isBytes m) (h : bytesOf l = bytesOf m) : l = m := by
  obtain ⟨bs, rfl⟩ := bv_of hl
  obtain ⟨cs, rfl⟩ := bv_of hm
  rw [bytesOf_bv, bytesOf_bv] at h
  rw [h]
theorem nib_bytes (k : Int) (d : List UInt8) : isBytes (nibW k d) := by
  obtain ⟨bs, hb⟩ := nibW_bv k d
  rw [hb]
  intro v hv
  obtain ⟨b, _, rfl⟩ := List.mem_map.1 hv
  have := b.toNat_lt
  exact ⟨_, rfl, by omega, by omega⟩
/-- What is read of a row that is an index' nibbles. -/
theorem read_is {ι : Unk} {x y : Nat} {q n : IE} {k : Int} {d : List UInt8} (hy : ι.fr y = decV (ι.fr x) (q.den ι).toNat) (hq : n.den ι = q.den ι * 2 + 7) (hm : MayP k d) (hx : ι.fr x = nibW k d ∧ n.den ι = (d.length : Int) * 2 + 7) : (txtOf y q).den ι = d ∧ (c8 x (.lit 6)).den ι = k := by
  have hl : (q.den ι).toNat = d.length := by omega
  refine ⟨?_, ?_⟩
  · rw [txt_den (by rw [hy, decV_len]), hy, hx.1, hl]
    exact dec_text
  · rw [n_c8, n_n, hx.1]
    exact cell6 hm
theorem none_may {ι : Unk} (hp : ι.prd = prd) {x y : Nat} {q n : IE} (hy : ι.fr y = decV (ι.fr x) (q.den ι).toNat) (hq : n.den ι = q.den ι * 2 + 7) (h : ¬ MayP ((c8 x (.lit 6)).den ι) ((txtOf y q).den ι)) : (pNone n (r x)).den ι = true :=
  (d_none hp).2 fun k d hm hx => by
    obtain ⟨a, b⟩ := read_is hy hq hm hx
    rw [a, b] at h
    exact h hm
theorem none_eq {ι : Unk} (hp : ι.prd = prd) {x y z : Nat} {q n m : IE} (hy : ι.fr y = decV (ι.fr x) (q.den ι).toNat) (hq : n.den ι = q.den ι * 2 + 7) (hz : ι.fr z = nibW ((c8 x (.lit 6)).den ι) ((txtOf y q).den ι) ∧ m.den ι = (((txtOf y q).den ι).length : Int) * 2 + 7) (h : ¬ (txtOf z m).den ι = (txtOf x n).den ι) : (pNone n (r x)).den ι = true :=
  (d_none hp).2 fun k d hm hx => by
    obtain ⟨a, b⟩ := read_is hy hq hm hx
    rw [a, b] at hz
    have e1 : ι.fr z = ι.fr x := by rw [hz.1]; exact hx.1.symm
    have e2 : m.den ι = n.den ι := by rw [hz.2, hx.2]
    refine h ?_
    simp only [TX.den, e1, e2]
theorem or_sum {p q : Nat} (h : q < 16) : 16 * p ||| q = 16 * p + q := (Nat.two_pow_add_eq_or_of_lt (i := 4) h p).symm
theorem dec1_den {ι : Unk} {x : Nat} {i : IE} {q : Int} (h0 : 0 ≤ q) (hi : i.den ι = q * 2 + 7) : (dec1 x i).den ι = decB (ι.fr x) q.toNat := by
  obtain ⟨a0, a1⟩ := cell_range (ι.fr x) (7 + 2 * q.toNat)
  obtain ⟨b0, b1⟩ := cell_range (ι.fr x) (8 + 2 * q.toNat)
  have e1 : (c8 x i).den ι = cellB (ι.fr x) (7 + 2 * q.toNat) := by rw [n_c8, show (i.den ι).toNat = 7 + 2 * q.toNat by omega]
  have e2 : (c8 x (.off i (.lit 1))).den ι = cellB (ι.fr x) (8 + 2 * q.toNat) := by rw [n_c8, n_off, n_n, show (i.den ι + 1).toNat = 8 + 2 * q.toNat by omega]
  have f1 : (IE.bin .shl .u8 (c8 x i) (.lit 4)).den ι = ((16 * (cellB (ι.fr x) (7 + 2 * q.toNat)).toNat % 256 : Nat) : Int) := by
    rw [n_bin, n_n, e1]
    simp only [intBin]
    rw [if_neg (by decide), Option.getD_some, show (min (4 : Int).toNat IntKind.u8.bits) = 4 by decide, wrap_u8, show (2 : Int) ^ 4 = 16 by decide]
    omega
  have f2 : (IE.bin .and .u8 (c8 x (.off i (.lit 1))) (.lit 15)).den ι = (((cellB (ι.fr x) (8 + 2 * q.toNat)).toNat % 16 : Nat) : Int) := by
    rw [n_bin, n_n, e2, and_u8 b0 b1 (by decide) (by decide)]
    have := Nat.and_two_pow_sub_one_eq_mod (cellB (ι.fr x) (8 + 2 * q.toNat)).toNat 4
    rw [show (15 : Int).toNat = 2 ^ 4 - 1 by decide, this]
  rw [n_bin, f1, f2, or_u8 (by omega) (by omega) (by omega) (by omega), Int.toNat_natCast, Int.toNat_natCast, show 16 * (cellB (ι.fr x) (7 + 2 * q.toNat)).toNat % 256 = 16 * ((cellB (ι.fr x) (7 + 2 * q.toNat)).toNat % 16) by omega, or_sum (by omega)]
  unfold decB
  omega
theorem dec2_den {ι : Unk} {x : Nat} {i j : IE} {q : Int} (h0 : 0 ≤ q) (hi : i.den ι = q * 2 + 7) (hj : j.den ι = q * 2 + 8) (l1 : (c8 x i).den ι ≤ 15) (l2 : (c8 x j).den ι ≤ 15) : (dec2 x i j).den ι = decB (ι.fr x) q.toNat := by
  rw [n_c8, show (i.den ι).toNat = 7 + 2 * q.toNat by omega] at l1
  rw [n_c8, show (j.den ι).toNat = 8 + 2 * q.toNat by omega] at l2
  rw [n_off, n_lin, n_c8, n_c8, show (i.den ι).toNat = 7 + 2 * q.toNat by omega, show (j.den ι).toNat = 8 + 2 * q.toNat by omega]
  have := cell_range (ι.fr x) (7 + 2 * q.toNat)
  have := cell_range (ι.fr x) (8 + 2 * q.toNat)
  unfold decB
  omega
theorem dec_suc {ι : Unk} (hp : ι.prd = prd) {x y z : Nat} {q e : IE} (h0 : 0 ≤ q.den ι) (hy : ι.fr y = decV (ι.fr x) (q.den ι).toNat) (hz : ι.fr z = ι.fr y ++ [.int .u8 (e.den ι)]) (he : e.den ι = decB (ι.fr x) (q.den ι).toNat) : (pDec (.off q (.lit 1)) (r x) (r z)).den ι = true := by
  refine (d_dec hp).2 ?_
  rw [n_off, n_n, n_r, n_r, hz, hy, he, show (q.den ι + 1).toNat = (q.den ι).toNat + 1 by omega]
  rfl
theorem n_cat1 {ι : Unk} {y : Nat} {e : IE} : (RX.cat (r y) (.lits [(.int .u8, e)])).den ι = ι.fr y ++ [.int .u8 (e.den ι)] := rfl
theorem n_lits1 {ι : Unk} {e : IE} : (RX.lits [(.int .u8, e)]).den ι = [.int .u8 (e.den ι)] := rfl
theorem rem2 {ι : Unk} {n : IE} (h : 7 ≤ n.den ι) : (IE.bin .rem .i64 (.off n (.lit (-7))) (.lit 2)).den ι = (n.den ι - 7) % 2 := by
  rw [n_bin, n_off, n_n, n_n, rem_nat (by omega) (by decide), show n.den ι + -7 = n.den ι - 7 by omega]
theorem readRules_ok (ι : Unk) (hp : ι.prd = prd) : ∀ r ∈ readRules, ROk ι r := by
  refine all_cons ?_ (all_cons ?_ (all_cons ?_ (all_cons ?_ (all_cons ?_ (all_cons ?_ (all_cons ?_ (all_cons ?_ (all_cons ?_ (all_cons ?_ (all_cons ?_ (all_cons ?_ (all_cons ?_ all_nil)))))))))))) <;> intro hf h <;>
    simp only [List.mem_cons, List.not_mem_nil, or_false, forall_eq_or_imp, forall_eq, n_not, n_geq, n_gtr, n_lss, n_eql, n_neq, n_n, n_r, n_lin, n_isrow, n_cat1, d_dec hp, Decidable.not_not] at hf h
  · rw [n_lss, n_lin]; omega
  · rw [n_lss, n_lin]; omega
  · rw [n_gtr, n_n]; omega
  · rw [n_gtr, n_n]; omega
  · rw [n_lss, n_dif, n_off, n_dif, n_n]; omega
  · exact (d_none hp).2 fun k d hm hx => by omega
  · exact (d_none hp).2 fun k d hm hx => by
      have := hm.2.2.2.1
      omega
  · exact (d_dec hp).2 rfl
  · rw [rem2 h.2] at hf
    rw [n_lss, n_off, n_n]; omega
  · rw [rem2 h.2] at hf
    rw [n_not, n_lss, n_off, n_n]; omega
  · rw [n_leq, n_off, n_n, n_n]; omega
  · refine (d_none hp).2 fun k d hm hx => hf ?_
    rw [rem2 (by omega)]
    omega
  · obtain ⟨h1, h2, h3⟩ := hf
    exact dec_suc hp h h1 h2 (dec1_den h (by omega))
theorem refRules_ok (ι : Unk) (hp : ι.prd = prd) : ∀ r ∈ refRules, ROk ι r := by
  have hi : ∀ {i j : Nat} {k : Int} {d : List UInt8} {n : Int}, ι.fr 1 = nibW k d ∧ n = (d.length : Int) * 2 + 7 → i < d.length → j = 7 + 2 * i ∨ j = 8 + 2 * i → cellB (ι.fr 1) j ≤ 15 := fun {i j k d n} hx hl hj => by
    obtain ⟨a, b⟩ := nibW_at (k := k) hl
    have := letter_range d i
    rw [hx.1]
    rcases hj with rfl | rfl
    · omega
    · rw [show 8 + 2 * i = 7 + 2 * i + 1 by omega]
      omega
  refine all_cons ?_ (all_cons ?_ (all_cons ?_ (all_cons ?_ (all_cons ?_ (all_cons ?_ (all_cons ?_ (all_cons ?_ (all_cons ?_ (all_cons ?_ (all_cons ?_ all_nil)))))))))) <;> intro hf h <;>
    simp only [List.mem_cons, List.not_mem_nil, or_false, forall_eq_or_imp, forall_eq, n_not, n_geq, n_gtr, n_leq, n_lss, n_eql, n_n, n_r, n_lin, n_isrow, n_rlen, n_teq, n_cat1, n_lits1, d_dec hp, d_mayP hp, d_ofW hp] at hf h
  · rw [n_lss, n_dif]; omega
  · refine (d_dec hp).2 ?_
    rw [n_n, n_r, n_r, hf, dec2_den (q := 0) (by decide) rfl rfl h.1 h.2]
    rfl
  · exact dec_suc hp h.1 hf.1 hf.2 (dec2_den h.1 (by rw [n_lin]; omega) (by rw [n_lin]; omega) h.2.1 h.2.2)
  · refine (d_none hp).2 fun k d hm hx => ?_
    have := hi (i := ((v 2).den ι).toNat) (j := ((v 2).den ι * (2 : Nat) + (7 : Nat)).toNat) hx (by omega) (Or.inl (by omega))
    have h0 := hf.1
    rw [n_c8, n_lin] at h0
    omega
  · refine (d_none hp).2 fun k d hm hx => ?_
    have := hi (i := ((v 2).den ι).toNat) (j := ((v 2).den ι * (2 : Nat) + (8 : Nat)).toNat) hx (by omega) (Or.inr (by omega))
    have h0 := hf.1
    rw [n_c8, n_lin] at h0
    omega
  · refine (d_none hp).2 fun k d hm hx => ?_
    have := hi (i := 0) (j := 7) hx (by omega) (Or.inl rfl)
    have h0 : 15 < cellB (ι.fr 1) 7 := hf.1
    omega
  · refine (d_none hp).2 fun k d hm hx => ?_
    have := hi (i := 0) (j := 8) hx (by omega) (Or.inr rfl)
    have h0 : 15 < cellB (ι.fr 1) 8 := hf.1
    omega
  · refine (d_none hp).2 fun k d hm hx => hf ?_
    have c4 : cellB (nibW k d) 4 = ((d.length : Int) / 16 % 16) % 256 := rfl
    have c5 : cellB (nibW k d) 5 = ((d.length : Int) % 16) % 256 := rfl
    have hx1 : ι.fr 1 = nibW k d := hx.1
    have := hm.2.2.2.1
    rw [n_off, n_lin, n_c8, n_c8, n_n, n_n, hx1, hx.2, show (4 : Int).toNat = 4 by decide, show (5 : Int).toNat = 5 by decide, c4, c5]
    omega
  · refine (d_none hp).2 fun k d hm hx => ?_
    have := hm.2.2.1
    omega
  · exact none_may hp hf.1 (by omega) hf.2.1
  · exact none_eq hp hf.1 (by omega) hf.2.2.1 hf.2.2.2.1
theorem endRules2_ok (ι : Unk) (hp : ι.prd = prd) : ∀ r ∈ endRules2, ROk ι r := by
  refine all_cons ?_ (all_cons ?_ (all_cons ?_ (all_cons ?_ (all_cons ?_ all_nil)))) <;> intro hf h <;>
    simp only [List.mem_cons, List.not_mem_nil, or_false, forall_eq_or_imp, forall_eq, n_not, n_geq, n_lss, n_eql, n_n, n_r, n_lin, n_rlen, n_teq, d_dec hp, d_mayP hp, d_ofW hp, d_row] at hf h
  · exact n_teq.2 rfl
  · exfalso
    have e : ((txtOf 0 (v 1)).den ι).length = ((v 1).den ι).toNat := by
      simp only [TX.den]
      exact padTo_length _ _
    rw [hf] at e
    simp only [TX.den, List.length_nil] at e
    omega
  · exact none_may hp (n := v 0) hf.1 (by omega) hf.2.1
  · exact none_eq hp (n := v 0) hf.1 (by omega) hf.2.2.1 hf.2.2.2.1
  · obtain ⟨h1, h2, h3, h4⟩ := hf
    have e5 : (ι.fr 5).length = ((v 4).den ι).toNat := by
      rw [h1.1, nibW_len, h1.2]
      omega
    have e3 : (ι.fr 3).length = ((v 1).den ι).toNat := by omega
    rw [txt_den e5, txt_den e3] at h2
    have e := rows_same (by rw [h1.1]; exact nib_bytes _ _) h3 h2
    refine (d_ofW hp).2 ⟨?_, ?_⟩
    · rw [n_r, ← e]; exact h1.1
    · rw [← h1.2, ← h4, ← e, e5]
      have := h1.2
      omega
theorem rulesRd_ok (ι : Unk) (hp : ι.prd = prd) : ∀ r ∈ rulesRd, ROk ι r :=
  all_append (all_append (all_append (all_append (all_append (all_append (stepRules_ok ι hp) (mayRules_ok ι hp)) (ofRules_ok ι hp)) (readRules_ok ι hp)) (refRules_ok ι hp)) (endRules2_ok ι hp)) (endRules_ok ι hp)
theorem one_index {k m : Int} {d e : List UInt8} (hk : MayP k d) (hm : MayP m e) (h : nibW k d = nibW m e) : k = m ∧ d = e := nib_apart hk hm fun j _ _ => by rw [h]
theorem bothRules_ok (ι : Unk) (hp : ι.prd = prd) : ∀ r ∈ bothRules, ROk ι r := by
  refine all_cons ?_ (all_cons ?_ (all_cons ?_ (all_cons ?_ (all_cons ?_ (all_cons ?_ (all_cons ?_ all_nil)))))) <;> intro hf h <;>
    simp only [List.mem_cons, List.not_mem_nil, or_false, forall_eq_or_imp, forall_eq, n_lss, n_n, n_t, n_r, n_teq, d_mayP hp, d_ofW hp, d_none hp] at hf h
  · obtain ⟨h1, h2, h3, h4⟩ := hf
    exact n_eql.2 (one_index h2 h4 (h1.1.symm.trans h3.1)).1
  · obtain ⟨h1, h2, h3, h4⟩ := hf
    exact n_teq.2 (one_index h2 h4 (h1.1.symm.trans h3.1)).2
  · obtain ⟨h1, h2, h3⟩ := hf
    exact (h1 _ _ h3 h2).elim
  · exact n_teq.2 (hf.1.trans hf.2.symm)
  · exfalso
    have := hf.2
    omega
  · exact n_teq.2 hf.symm
  · refine n_teq.2 ?_
    simp only [TX.den]
    rw [show ((v 1).den ι).toNat = 0 by omega]
    rfl
theorem cov32 {p q : Prop} (ι : Unk) (_ : ι.prd = prd) (_ : p) (_ : q) : ∃ fs ∈ [[le (.tlen 1) 2000], [BE.not (le (.tlen 1) 2000)]], ∀ b ∈ fs, b.den ι = true := by
  by_cases h : (le (.tlen 1) 2000).den ι = true
  · exact ⟨_, List.mem_cons_self, all_cons h all_nil⟩
  · exact ⟨_, List.mem_cons_of_mem _ List.mem_cons_self, all_cons (n_not.2 h) all_nil⟩
theorem cfgReads_ok (fl : List Bool) (ι : Unk) (hp : ι.prd = prd) : RulesOk (cfgReads fl).rules ι := by
  unfold cfgReads
  split
  · exact rules_of (fun ι hp => all_append (all_append (endRules2_ok ι hp) (bothRules_ok ι hp)) (endRules_ok ι hp)) ι hp
  · exact rules_of endRules2_ok ι hp
theorem csR_ne (fl : List Bool) : csR fl ≠ [] := by
  unfold csR
  split <;> exact List.cons_ne_nil _ _
theorem csR_ok (fl : List Bool) (ι : Unk) (_ : ι.prd = prd) : ∃ fs ∈ csR fl, ∀ b ∈ fs, b.den ι = true := by
  unfold csR
  split
  · by_cases h : (ge (v 1) 1).den ι = true
    · exact ⟨_, List.mem_cons_self, all_cons h all_nil⟩
    · exact ⟨_, List.mem_cons_of_mem _ List.mem_cons_self, all_cons (n_not.2 h) all_nil⟩
  · exact ⟨_, List.mem_cons_self, all_nil⟩
theorem kk_den {ι : Unk} {a b : IE} (h0 : 0 ≤ a.den ι) (h1 : 1 ≤ b.den ι) (h2 : b.den ι ≤ 71) : 0 ≤ (K a b).den ι ∧ (K a b).den ι < b.den ι := by
  have e : (IE.bin .rem .u64 a b).den ι = a.den ι % b.den ι := by rw [n_bin, rem_nat h0 (by omega)]
  have l1 := Int.emod_nonneg (a.den ι) (show b.den ι ≠ 0 by omega)
  have l2 := Int.emod_lt_of_pos (a.den ι) (show 0 < b.den ι by omega)
  rw [n_wrap, e, wrap_i64 (by omega) (by omega)]
  exact ⟨l1, l2⟩
theorem n_set {ι : Unk} {k : Nat} {i e : IE} : (setR k i e).den ι = setAt (ι.fr k) (i.den ι).toNat [.int .u8 ((cellB (ι.fr k) (i.den ι).toNat + e.den ι) % 256)] := by
  have h : (IE.bin .add .u8 (c8 k i) e).den ι = (cellB (ι.fr k) (i.den ι).toNat + e.den ι) % 256 := by
    rw [n_bin, n_c8]
    simp only [intBin, Option.getD_some, wrap_u8]
  show setAt (ι.fr k) (i.den ι).toNat [.int .u8 ((IE.bin .add .u8 (c8 k i) e).den ι)] = _
  rw [h]
theorem set_zero {x : List Value} {i : Nat} (hx : ∃ bs : List UInt8, x = bs.map bv) (hi : i < x.length) : setAt x i [.int .u8 ((cellB x i + 0) % 256)] = x := by
  obtain ⟨bs, rfl⟩ := hx
  have hl : i + [Value.int .u8 ((cellB (bs.map bv) i + 0) % 256)].length ≤ (bs.map bv).length := by simp only [List.length_cons, List.length_nil]; omega
  apply List.ext_getElem?
  intro j
  rw [setAt_get hl]
  split
  · rename_i h
    simp only [List.length_cons, List.length_nil] at h
    have e : j = i := by omega
    subst e
    rw [List.length_map] at hi
    have hb := bs[j].toNat_lt
    rw [Nat.sub_self, List.getElem?_map, List.getElem?_eq_getElem hi]
    unfold cellB
    rw [List.getElem?_map, List.getElem?_eq_getElem hi]
    simp only [Option.map_some, bv, cellInt, wrap_u8, List.getElem?_cons_zero, Option.some.injEq]
    congr 1
    omega
  · rfl
theorem set_cell {x : List Value} {i : Nat} {m : Int} (hi : i < x.length) : cellB (setAt x i [.int .u8 m]) i = m % 256 := by
  have hl : i + [Value.int .u8 m].length ≤ x.length := by simp only [List.length_cons, List.length_nil]; omega
  unfold cellB
  rw [setAt_get hl, if_pos (by simp only [List.length_cons, List.length_nil]; omega), Nat.sub_self, wrap_u8]
  rfl
theorem n_part {ι : Unk} {k : Nat} {n : IE} : (RX.sub (r k) (.lit 0) n).den ι = (ι.fr k).take (n.den ι).toNat := by
  simp only [RX.den, IE.den, Int.toNat_zero, List.drop_zero]
theorem n_cat0 {ι : Unk} {k : Nat} : (RX.cat (r k) (.lits [(.int .u8, .lit 0)])).den ι = ι.fr k ++ [.int .u8 0] := rfl
/-- None's nibbles begin another one's. -/
theorem begun {k m : Int} {d e : List UInt8} {tail : List Value} (hk : MayP k d) (hm : MayP m e) (h : nibW m e = nibW k d ++ tail) : tail = [] := by
  obtain ⟨_, rfl⟩ := nib_apart hk hm fun j h1 _ => by
    unfold cellB
    rw [h, List.getElem?_append_left h1]
  have := congrArg List.length h
  rw [List.length_append, nibW_len, nibW_len] at this
  exact List.length_eq_zero_iff.1 (by omega)
theorem backRules_ok (ι : Unk) (hp : ι.prd = prd) : ∀ r ∈ backRules, ROk ι r := by
  have kin : ∀ {a n : IE} {k : Int} {d : List UInt8}, MayP k d → n.den ι = (d.length : Int) * 2 + 7 → 0 ≤ a.den ι → ((K a n).den ι).toNat < (nibW k d).length := fun {a n k d} hm hn h0 => by
    have := hm.2.2.2.1
    have := kk_den h0 (b := n) (by omega) (by omega)
    rw [nibW_len]
    omega
  refine all_cons ?_ (all_cons ?_ (all_cons ?_ (all_cons ?_ (all_cons ?_ (all_cons ?_ (all_cons ?_ (all_cons ?_ (all_cons ?_ (all_cons ?_ (all_cons ?_ (all_cons ?_ all_nil))))))))))) <;> intro hf h <;>
    simp only [List.mem_cons, List.not_mem_nil, or_false, forall_eq_or_imp, forall_eq, n_not, n_geq, n_leq, n_lss, n_eql, n_neq, n_teq, n_n, n_t, n_r, n_isrow, n_set, n_part, n_cat0, d_mayP hp, d_ofW hp, d_none hp, Decidable.not_not] at hf h
  · rw [n_not, n_eql, n_n]; omega
  · rw [n_geq, n_n]; omega
  · rw [n_geq, n_off, n_n, n_n]; omega
  · have : 0 ≤ kk.den ι ∧ kk.den ι < (v 1).den ι := kk_den h.1 (by omega) h.2
    rw [n_geq, n_n]; omega
  · have : 0 ≤ kk.den ι ∧ kk.den ι < (v 1).den ι := kk_den h.1 (by omega) h.2
    rw [n_lss]; omega
  · exfalso
    obtain ⟨h1, h2, h3, h4⟩ := hf
    have hl : (ι.fr 3).length = ((v 1).den ι).toNat := by
      rw [h1.1, nibW_len, h1.2]
      omega
    have ht := begun h4 h2 (tail := (ι.fr 3).drop ((v 5).den ι).toNat) (by rw [← h3.1, List.take_append_drop]; exact h1.1.symm)
    have := congrArg List.length ht
    rw [List.length_drop, hl, List.length_nil] at this
    have := h3.2
    have := h1.2
    omega
  · exfalso
    obtain ⟨h1, h2, h3, h4, h5, h6⟩ := hf
    rw [h4, h1.1] at h3
    have ht := begun h2 h6 (tail := [.int .u8 0]) (by rw [← h5.1]; exact h3)
    cases ht
  · obtain ⟨h1, h2, h3, h4, h5⟩ := hf
    rw [h5, h3.1, set_zero (nibW_bv _ _) (kin h4 h3.2 h)] at h1
    exact n_teq.2 (one_index h2 h4 h1.1.symm).2
  · obtain ⟨h1, h2, h3, h4, h5⟩ := hf
    rw [h5, h3.1, set_zero (nibW_bv _ _) (kin h4 h3.2 h)] at h1
    exact n_eql.2 (one_index h2 h4 h1.1.symm).1
  · exfalso
    obtain ⟨h1, h2, h3, h4, h5, h6, h7⟩ := hf
    have hi := kin h4 h3.2 h.1
    have hc := set_cell (x := nibW ((v 6).den ι) (ι.ft 7)) (m := (cellB (nibW ((v 6).den ι) (ι.ft 7)) ((K (v 4) (v 1)).den ι).toNat + (v 5).den ι) % 256) hi
    rw [h3.1] at h1
    rw [h1.1, h5, h6] at hc
    have := cell_range (nibW ((v 6).den ι) (ι.ft 7)) ((K (v 4) (v 1)).den ι).toNat
    omega
  · exact absurd hf.1 hf.2
  · exfalso
    obtain ⟨h1, h3, h4, h5⟩ := hf
    rw [h5, h3.1, set_zero (nibW_bv _ _) (kin h4 h3.2 h)] at h1
    exact h1 _ _ h4 ⟨rfl, h3.2⟩
theorem backAll_ok (ι : Unk) (hp : ι.prd = prd) : ∀ r ∈ backRules ++ endRules2 ++ bothRules ++ endRules, ROk ι r := all_append (all_append (all_append (backRules_ok ι hp) (endRules2_ok ι hp)) (bothRules_ok ι hp)) (endRules_ok ι hp)
-- CASE NibbleReads F: [ge (v 1) 1]
-- CASE NibbleReads F: [.not (ge (v 1) 1)]
-- CASE NibbleReads T: []
-- CASE NibbleApart : [lessXY]
-- CASE NibbleApart : [.not lessXY, lessYX]
-- CASE NibbleApart : [.not lessXY, .not lessYX]

def kn_fMay : Kn := { cons := [] }
theorem known_fMay : Known Try.prog kn_fMay ⟨0, prd⟩ := ⟨fun f hf => (by cases hf), all_nil⟩
set_option maxRecDepth 100000 in
theorem ran_fMay_0 : fnRun Try.prog true kn_fMay 300 60 fMay cfgMay [] = true := by kernel_rfl
theorem ok_fMay : FnOk Try.prog prd fMay := fn_ok (dr := true) (kn := kn_fMay) (fuel := 300) (d := 60) (cfg := cfgMay) plain known_fMay (fun _ call hC => anyOk (by kernel_rfl) plain hC) (rules_of rules_ok) (cs := [[]]) (fun _ _ _ _ => cov_one trivial) (all_cons ran_fMay_0 all_nil)

def kn_fRMay : Kn := { cons := [] }
theorem known_fRMay : Known Try.prog kn_fRMay ⟨0, prd⟩ := ⟨fun f hf => (by cases hf), all_nil⟩
set_option maxRecDepth 100000 in
theorem ran_fRMay_0 : fnRun Try.prog true kn_fRMay 300 60 fRMay cfgRMay [] = true := by kernel_rfl
theorem ok_fRMay : FnOk Try.prog prd fRMay := fn_ok (dr := true) (kn := kn_fRMay) (fuel := 300) (d := 60) (cfg := cfgRMay) plain known_fRMay (fun _ call hC => anyOk (by kernel_rfl) plain hC) (rules_of rules_ok) (cs := [[]]) (fun _ _ _ _ => cov_one trivial) (all_cons ran_fRMay_0 all_nil)

def kn_fMix : Kn := { cons := [] }
theorem known_fMix : Known Try.prog kn_fMix ⟨0, prd⟩ := ⟨fun f hf => (by cases hf), all_nil⟩
set_option maxRecDepth 100000 in
theorem ran_fMix_0 : fnRun Try.prog true kn_fMix 300 60 fMix cfgMix [] = true := by kernel_rfl
theorem ok_fMix : FnOk Try.prog prd fMix := fn_ok (dr := true) (kn := kn_fMix) (fuel := 300) (d := 60) (cfg := cfgMix) plain known_fMix (fun _ call hC => anyOk (by kernel_rfl) plain hC) (rules_of rules_ok) (cs := [[]]) (fun _ _ _ _ => cov_one trivial) (all_cons ran_fMix_0 all_nil)

def kn_fHash : Kn := { cons := [fMix.con] }
theorem known_fHash : Known Try.prog kn_fHash ⟨0, prd⟩ := ⟨fun f hf => (by cases hf), (all_cons (con_ok ok_fMix) all_nil)⟩
set_option maxRecDepth 100000 in
theorem ran_fHash_0 : fnRun Try.prog true kn_fHash 300 60 fHash cfg [] = true := by kernel_rfl
theorem ok_fHash : FnOk Try.prog prd fHash := fn_ok (dr := true) (kn := kn_fHash) (fuel := 300) (d := 60) (cfg := cfg) plain known_fHash (fun _ call hC => anyOk (by kernel_rfl) plain hC) (rules_of rules_ok) (cs := [[]]) (fun _ _ _ _ => cov_one trivial) (all_cons ran_fHash_0 all_nil)

def kn_fOf2 : Kn := { cons := [fMay.con, fHash.con] }
theorem known_fOf2 : Known Try.prog kn_fOf2 ⟨0, prd⟩ := ⟨fun f hf => (by cases hf), (all_cons (con_ok ok_fMay) (all_cons (con_ok ok_fHash) all_nil))⟩
set_option maxRecDepth 100000 in
theorem ran_fOf2_0 : fnRun Try.prog true kn_fOf2 300 60 fOf2 cfgOf [le (.tlen 1) 2000] = true := by kernel_rfl
set_option maxRecDepth 100000 in
theorem ran_fOf2_1 : fnRun Try.prog true kn_fOf2 300 60 fOf2 cfgOf [.not (le (.tlen 1) 2000)] = true := by kernel_rfl
theorem ok_fOf2 : FnOk Try.prog prd fOf2 := fn_ok (dr := true) (kn := kn_fOf2) (fuel := 300) (d := 60) (cfg := cfgOf) plain known_fOf2 (fun _ call hC => anyOk (by kernel_rfl) plain hC) (rules_of rules_ok) (cs := [[le (.tlen 1) 2000], [.not (le (.tlen 1) 2000)]]) (fun ι h a b => cov32 ι h a b) (all_cons ran_fOf2_0 (all_cons ran_fOf2_1 all_nil))

def kn_fRead : Kn := { cons := [fOf2.con] }
theorem known_fRead : Known Try.prog kn_fRead ⟨0, prd⟩ := ⟨fun f hf => (by cases hf), (all_cons (con_ok ok_fOf2) all_nil)⟩
set_option maxRecDepth 100000 in
theorem ran_fRead_0 : fnRun Try.prog true kn_fRead 300 60 fRead cfgRead [] = true := by kernel_rfl
theorem ok_fRead : FnOk Try.prog prd fRead := fn_ok (dr := true) (kn := kn_fRead) (fuel := 300) (d := 60) (cfg := cfgRead) plain known_fRead (fun _ call hC => anyOk (by kernel_rfl) plain hC) (rules_of rulesRd_ok) (cs := [[]]) (fun _ _ _ _ => cov_one trivial) (all_cons ran_fRead_0 all_nil)

def lawCfg : List Bool → Cfg := fun _ => cfgBack
def knLaw : Kn := { kn := some 7, cons := [fRead.con, fOf2.con, fRMay.con] }
theorem knows : Known Try.prog knLaw ⟨0, prd⟩ := ⟨knows1, (all_cons (con_ok ok_fRead) (all_cons (con_ok ok_fOf2) (all_cons (con_ok ok_fRMay) all_nil)))⟩

theorem lawRules (fl : List Bool) (ι : Unk) (hp : ι.prd = prd) : RulesOk (lawCfg fl).rules ι := (fun _ => rules_of backAll_ok) fl ι hp

def cs (_ : List Bool) : List (List BE) := [[]]

theorem cs_ne (fl : List Bool) : cs fl ≠ [] := List.cons_ne_nil _ _

theorem cs_ok (fl : List Bool) (ι : Unk) (_ : ι.prd = prd) : ∃ fs ∈ cs fl, ∀ b ∈ fs, b.den ι = true := ⟨[], List.mem_cons_self, fun b hb => by cases hb⟩

set_option maxRecDepth 100000 in
theorem ran0 : runFl Try.prog true knLaw 300 60 4 [26, 3, 5] [] (lawCfg []) [] = true := by kernel_rfl

theorem ok : ∀ fs ∈ cs [], runFl Try.prog true knLaw 300 60 4 [26, 3, 5] [] (lawCfg []) fs = true := by
  intro fs h
  simp only [cs, List.mem_cons, List.not_mem_nil, or_false] at h
  rcases h with rfl
  · exact ran0

theorem runs : ∀ fl : List Bool, fl.length = 0 → ∀ fs ∈ cs fl, runFl Try.prog true knLaw 300 60 4 [26, 3, 5] fl (lawCfg fl) fs = true
  | [], _ => ok

set_option maxRecDepth 100000 in
theorem lifted (os : Os) (started : os.Started) (H : Type) (enc : TypeId × Value → H) :
    ReturnsInHanded {} Try.checked os 4 .any (Rows.nibbleBackSpec.pre6 enc Try.prog Try.f4 Rows.nibbleBackRow.domain false) (Rows.nibbleBackSpec.post enc Try.prog Try.f4 false true false false) := by
  refine returnsInHanded_of_change (C := Try.checked) own started (by kernel_rfl) Try.func4
    (ChangeSpec.witness6 (enc := enc) (C := Try.checked) false ⟨#[], #[.agg #[.int .i64 0, .string ⟨#[]⟩], .int .i64 0, .int .u8 0], []⟩ 8 (by kernel_rfl) (by kernel_rfl) (by kernel_rfl) (by kernel_rfl)) ?_
  intro W base args ds gs before hval0 hW hcnd _
  have hval : ∀ (j : Nat) t v, Try.f4.params[j]? = some t → args[j]? = some v → Value.okWide Try.prog W .any base t v := hval0
  have hW' := hW
  obtain ⟨p, q, hA0, hV, hpq, hfz, hnd⟩ := hW
  have hA : DataW.TrodAll enc Try.prog W 0 (fun _ => true) true Try.f4.params.toList args.toList ds p := hA0
  rw [Try.params4] at hA hval
  have hrun := calls_runs (dr := true) (kn := knLaw) (fuel := 300) (d := 60) (f := 4) (ts := [26, 3, 5]) (cfg := lawCfg) (prd := prd) (cs := cs) plain knows (fun _ call hC => anyOk (by kernel_rfl) plain hC) lawRules cs_ok cs_ne (fun fl hfl => runs fl (hfl.trans (by kernel_rfl))) (fun j t v h h' => hval j t v (by simpa using h) (by simpa using h')) hA
  obtain ⟨v0, vs0, d0, ds0, p0, q0, hargs, rfl, hp0, h0, r0⟩ := trodAll_cons hA
  obtain ⟨v1, vs1, d1, ds1, p1, q1, rfl, rfl, hp1, h1, r1⟩ := trodAll_cons r0
  obtain ⟨v2, vs2, d2, ds2, p2, q2, rfl, rfl, hp2, h2, r2⟩ := trodAll_cons r1
  obtain ⟨rfl, rfl, hpz⟩ := trodAll_nil r2
  obtain rfl : args = #[v0, v1, v2] := by cases args; simp_all
  obtain ⟨rfl, rfl⟩ := trodVars_none hV
  refine hrun.mono fun e W' ⟨he, hg⟩ => ?_
  subst he
  exact ⟨_, rfl, post_of_below hW' hg (by kernel_rfl) (by rw [Try.params4]; kernel_rfl) rfl rfl rfl (fun _ _ _ => (trodAll_cons_mk (shut_bool Try.underlying4 _) trodAll_mk0)) (ok_one (by kernel_rfl) rfl (okWide_bool_mk Try.underlying4 _))⟩

theorem over : Rows.nibbleBackRow.holds Try.pinned (OpenSpec.ofChange Rows.nibbleBackSpec) :=
  OpenClaim.holds_of_wide 4 Try.f4 rfl rfl rfl rfl rfl rfl rfl ⟨rfl, rfl, rfl, rfl, rfl⟩ rfl rfl rfl rfl rfl (by kernel_rfl) Try.func4 (by kernel_rfl)
    (of_decide_eq_true (by kernel_rfl)) (by unfold Func.isWrapper; first | (rw [if_pos (by decide +kernel)]; kernel_rfl) | (rw [if_neg (by decide +kernel)]; exact ⟨rfl, rfl⟩))
    (fun os started H enc _ => lifted os started H enc)

/-- THE STATEMENT -/
theorem proved : Rows.NibbleBackSaid :=
  over
#print axioms proved
end Go.Proofs.Ytjchkjkpcmdelaa.nibbleBack
