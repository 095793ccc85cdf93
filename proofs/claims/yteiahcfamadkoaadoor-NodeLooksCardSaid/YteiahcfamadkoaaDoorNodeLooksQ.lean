/-
  What NodeLooks is proved by.
-/
import Derived.Test.YteiahcfamadkoaaDoorRows
import Derived.Test.YteiahcfamadkoaaDoorTie
import Derived.Test.YteiahcfamadkoaaDoorCards
import Derived.Test.YteiahcfamadkoaaDoorSzPf
import Derived.Test.YteiahcfamadkoaaDoorSzMe
import Derived.WalkKit
import Derived.ProofKit
import Derived.OpenShut
import Derived.LaidMore
import Derived.Stop.Joined
import Derived.SevenTiedAt
namespace Go.Proofs.YteiahcfamadkoaaDoor.nodeLooks
open Go.Sx Go.ChangeShapes Go.WideShapes Go.ChangeAt Go.RowKit
set_option linter.unusedVariables false

theorem own : ownKnob Tryd.prog.godebug = none := by kernel_rfl

theorem plain : plainNames Tryd.prog = true := by kernel_rfl

set_option maxRecDepth 100000 in
theorem ranKnown : allTrue (runCall Tryd.prog true {} 300 60 false 14 [] Hp.nil []) = true := by kernel_rfl

theorem knows1 : Known1 Tryd.prog (some 14) := by
  intro f hf w
  injection hf with hf
  subst hf
  exact calls_true (dr := true) (kn := {}) (fuel := 300) (d := 60) (args := []) (xs := []) (ι := io []) (pc := []) w plain known_none (fun _ call hC => anyOk (by kernel_rfl) plain hC) ranKnown rfl (fun _ h => by cases h)

abbrev ge (a : IE) (n : Int) : BE := .cmp .geq a (.lit n)
abbrev le (a : IE) (n : Int) : BE := .cmp .leq a (.lit n)
abbrev lt (a : IE) (n : Int) : BE := .cmp .lss a (.lit n)
abbrev gt (a : IE) (n : Int) : BE := .cmp .gtr a (.lit n)
abbrev v (i : Nat) : IE := .fv i
abbrev t (i : Nat) : TX := .fv i
abbrev r (i : Nat) : RX := .row i
abbrev leI (a b : IE) : BE := .not (.cmp .lss b a)
abbrev ltI (a b : IE) : BE := .cmp .lss a b
abbrev eqI (a b : IE) : BE := .cmp .eql a b
abbrev neI (a b : IE) : BE := .not (.cmp .eql a b)
abbrev rule (find pre : List BE) (con : BE) : Rule := { pat := true, find, pre, con }
abbrev lrn (trig : IE) (find pre : List BE) (con : BE) : Rule := { pat := true, find, pre, con, trig := some trig }
abbrev bad (l : List Nat) : List (Nat × AV) := l.map fun i => (i, AV.poison)
abbrev upto (a b : Nat) : List Nat := (List.range (b + 1 - a)).map (· + a)
abbrev inI (i n : IE) : List BE := [ge i 0, ltI i n]
abbrev inU (x : IE) : List BE := [ge x 0, le x 18446744073709551615]
abbrev i64 : Sh := .leaf (.int .i64)
abbrev link : Sh := .agg [.int .i64, .int .i64, .int .i64, .int .u64]
abbrev nodeL : List Lf := .int .i64 :: (List.replicate 16 [Lf.int .i64, .int .i64, .int .i64, .int .u64]).flatten
abbrev node : Sh := .agg nodeL
abbrev mlP (k s i g : IE) : BE := .usr 1 [k, s, i, g] [] []
abbrev cntP (c : IE) (l : List IE) : BE := .usr 2 (.lit l.length :: c :: l) [] []
/-- The kinds of the first links of a node. -/
abbrev kinds (k : Nat) : List IE := (List.range k).map fun i => v (1 + 4 * i)
abbrev plcs (k : Nat) : List IE := (List.range k).map fun i => v (1 + i)
def fMay : Fs := { f := 8, shs := [link], res := some (mlP (v 0) (v 1) (v 2) (v 3)) }
def fRMay : Fs := { f := 9, shs := [link], res := some (mlP (v 0) (v 1) (v 2) (v 3)) }
def fCount : Fs := { f := 19, shs := [node], alts := [{ rets := [i64], post := [cntP (v 65) (kinds 16), ge (v 65) 0, le (v 65) 16] }] }
def fRCount : Fs := { f := 17, shs := [node], alts := [{ rets := [i64], post := [cntP (v 65) (kinds 16), ge (v 65) 0, le (v 65) 16] }] }
def gHead (k : Nat) : Head :=
  { nf := 3, src := [.row 7, .len 7, .rc 7], bsrc := [7], tm := fun m nB => (12, .int .i64 (.lit k)) :: (7, .sl nB 4 (.lit 0) (.lit 0) (v (m + 1)) (v (m + 2))) :: bad (9 :: upto 13 25), bl := fun _ _ => [], nb := fun m _ => [.row (.row m) 28 [.int .i64, .int .i64, .int .i64, .int .u64] (v (m + 1)) (v (m + 2))], inv := fun m _ => [ge (v (m + 1)) 1, le (v (m + 1)) k, leI (v (m + 1)) (v (m + 2)), cntP (v (m + 1)) (kinds k)], ms := fun _ _ => .lit (16 - k) }
def nHead (k : Nat) : Head :=
  { nf := 0, src := [], bsrc := [], tm := fun _ _ => (12, .int .i64 (.lit k)) :: (7, .nilSlice) :: bad (9 :: upto 13 25), bl := fun _ _ => [], nb := fun _ _ => [], inv := fun _ _ => [cntP (.lit 0) (kinds k)], ms := fun _ _ => .lit (16 - k) }
def rHead (k : Nat) : Head :=
  { nf := 1, src := [.int 3], bsrc := [], tm := fun m _ => (4, .int .i64 (.lit k)) :: (3, .int .i64 (v m)) :: bad (upto 5 16), bl := fun _ _ => [], nb := fun _ _ => [], inv := fun m _ => [ge (v m) 0, le (v m) k, cntP (v m) (kinds k)], ms := fun _ _ => .lit (16 - k) }
def gAnn : Ann := { key := (26, 3, 1), heads := (List.range 17).map nHead ++ (List.range 16).map fun i => gHead (i + 1) }
def rAnn : Ann := { key := (18, 3, 2), heads := (List.range 17).map rHead }
def mlRules : List Rule := [
  rule [] [eqI (v 0) (.lit 0), eqI (v 1) (.lit 0), eqI (v 2) (.lit 0), eqI (v 3) (.lit 0)] (mlP (v 0) (v 1) (v 2) (v 3)),
  rule [] [eqI (v 0) (.lit 1), ge (v 1) 1, le (v 1) 1073741824, eqI (v 2) (.lit 0), eqI (v 3) (.lit 0)] (mlP (v 0) (v 1) (v 2) (v 3)),
  rule [] [eqI (v 0) (.lit 2), eqI (v 1) (.lit 0), ge (v 2) 0, ge (v 3) 1] (mlP (v 0) (v 1) (v 2) (v 3)),
  rule [] [eqI (v 0) (.lit 0), neI (v 1) (.lit 0)] (.not (mlP (v 0) (v 1) (v 2) (v 3))),
  rule [] [eqI (v 0) (.lit 0), neI (v 2) (.lit 0)] (.not (mlP (v 0) (v 1) (v 2) (v 3))),
  rule [] [eqI (v 0) (.lit 0), neI (v 3) (.lit 0)] (.not (mlP (v 0) (v 1) (v 2) (v 3))),
  rule [] [eqI (v 0) (.lit 1), lt (v 1) 1] (.not (mlP (v 0) (v 1) (v 2) (v 3))),
  rule [] [eqI (v 0) (.lit 1), gt (v 1) 1073741824] (.not (mlP (v 0) (v 1) (v 2) (v 3))),
  rule [] [eqI (v 0) (.lit 1), neI (v 2) (.lit 0)] (.not (mlP (v 0) (v 1) (v 2) (v 3))),
  rule [] [eqI (v 0) (.lit 1), neI (v 3) (.lit 0)] (.not (mlP (v 0) (v 1) (v 2) (v 3))),
  rule [] [eqI (v 0) (.lit 2), neI (v 1) (.lit 0)] (.not (mlP (v 0) (v 1) (v 2) (v 3))),
  rule [] [eqI (v 0) (.lit 2), lt (v 2) 0] (.not (mlP (v 0) (v 1) (v 2) (v 3))),
  rule [] [eqI (v 0) (.lit 2), lt (v 3) 1] (.not (mlP (v 0) (v 1) (v 2) (v 3))),
  rule [] [neI (v 0) (.lit 0), neI (v 0) (.lit 1), neI (v 0) (.lit 2)] (.not (mlP (v 0) (v 1) (v 2) (v 3))) ]
def cntRules : List Rule :=
  rule [] [] (cntP (.lit 0) []) ::
  ((List.range 16).map fun k => rule [cntP (v 0) (plcs k)] [.cmp .neq (v (k + 1)) (.lit 0)] (cntP (.off (v 0) (.lit 1)) (plcs (k + 1)))) ++
  ((List.range 16).map fun k => rule [cntP (v 0) (plcs k)] [eqI (v (k + 1)) (.lit 0)] (cntP (v 0) (plcs (k + 1)))) ++
  ((List.range 16).map fun k => rule [cntP (.lit 0) ((List.range k).map fun i => v i)] [.cmp .neq (v k) (.lit 0)] (cntP (.lit 1) ((List.range (k + 1)).map fun i => v i)))
abbrev mlAt (i : Nat) : BE := mlP (v (1 + 4 * i)) (v (2 + 4 * i)) (v (3 + 4 * i)) (v (4 + 4 * i))
abbrev mayV : BE := .usr 3 ((List.range 65).map fun i => v i) [] []
def fMayN : Fs := { f := 10, shs := [node], res := some mayV }
def fRMayN : Fs := { f := 11, shs := [node], res := some mayV }
/-- In the walk of its own function the leaves are just these. -/
abbrev ruleF (find pre : List BE) (con : BE) : Rule := { find, pre, con }
def mayRules : List Rule :=
  ruleF [] [lt (v 0) 0] (.not mayV) :: ruleF [] [gt (v 0) 70] (.not mayV) ::
  ruleF [cntP (v 65) (kinds 16)] [lt (v 65) 2] (.not mayV) ::
  ruleF (((List.range 16).map fun i => mlAt i) ++ [cntP (v 65) (kinds 16)]) [ge (v 0) 0, le (v 0) 70, ge (v 65) 2] mayV ::
  ((List.range 16).map fun i => ruleF [.not (mlAt i)] [] (.not mayV))
def cfgMay : Cfg := { rules := mayRules }
def cfgMl : Cfg := { rules := mlRules }
def cfgCnt : Cfg := { rules := cntRules, grow := true, anns := [gAnn, rAnn] }
abbrev aV : IE := .wrap .i64 (.var 1)
abbrev bV : IE := .wrap .i64 (.var 6)
/-- Where a number is: below, above, or just one. -/
def where1 (e : IE) (i : Nat) : BE := if i = 16 then lt e 0 else if i = 17 then gt e 15 else eqI e (.lit i)
def partGrp (i : Nat) : List (List BE) := (List.range 18).map fun j => [where1 aV i, where1 bV j]
def csParts (_ : List Bool) : List (List BE) := (List.range 18).flatMap partGrp
/-! NodeLooks -/
abbrev TL : Nat := 28
abbrev TS : Nat := 23
abbrev TH : Nat := 26
abbrev ksL : List CK := [.int .i64, .int .i64, .int .i64, .int .u64]
abbrev ksS : List CK := [.int .i64]
abbrev ksH : List CK := [.int .i64, .int .u64]
/-- The leaves of the first k links, from the place o on; their kinds and serials; their kinds and nodes. -/
abbrev lk (o k : Nat) : List IE := (List.range (4 * k)).map fun i => v (o + i)
abbrev pr2 (k : Nat) : List IE := (List.range k).flatMap fun i => [v (1 + 4 * i), v (2 + 4 * i)]
abbrev pr3 (k : Nat) : List IE := (List.range k).flatMap fun i => [v (1 + 4 * i), v (3 + 4 * i), v (4 + 4 * i)]
abbrev rngV (o n : Nat) : List IE := (List.range n).map fun i => v (o + i)
abbrev linksP (k : Nat) (x : RX) (l : List IE) : BE := .usr 4 (.lit k :: l) [] [x]
abbrev cntE (c : IE) (κ : Int) (l : List IE) : BE := .usr 5 (.lit l.length :: .lit κ :: c :: l) [] []
abbrev nfP (k : Nat) (a b c d : IE) (l : List IE) : BE := .usr 6 (.lit k :: a :: b :: c :: d :: l) [] []
abbrev keysP (k : Nat) (x : RX) (l : List IE) : BE := .usr 7 (.lit k :: l) [] [x]
abbrev nodesP (k : Nat) (x : RX) (l : List IE) : BE := .usr 8 (.lit k :: l) [] [x]
abbrev amongP (a b c d : IE) (l : List IE) : BE := .usr 9 (a :: b :: c :: d :: l) [] []
/-- Heads of a loop that gathers: tk has the round, tr the row. -/
def gatherHs (tk tr : Nat) (bd : List Nat) (ty : TypeId) (ks : List CK) (none0 : Nat → List BE) (some1 : Nat → Nat → List BE) : List Head :=
  ((List.range 17).map fun k => { nf := 0, src := [], bsrc := [], tm := fun _ _ => (tk, .int .i64 (.lit k)) :: (tr, .nilSlice) :: bad bd, bl := fun _ _ => [], nb := fun _ _ => [], inv := fun _ _ => none0 k, ms := fun _ _ => .lit (16 - k) }) ++
  ((List.range 16).map fun j => { nf := 3, src := [.row tr, .len tr, .rc tr], bsrc := [tr], tm := fun m nB => (tk, .int .i64 (.lit (j + 1))) :: (tr, .sl nB ks.length (.lit 0) (.lit 0) (v (m + 1)) (v (m + 2))) :: bad bd, bl := fun _ _ => [], nb := fun m _ => [.row (.row m) ty ks (v (m + 1)) (v (m + 2))], inv := fun m _ => [ge (v (m + 1)) 1, le (v (m + 1)) (j + 1), leI (v (m + 1)) (v (m + 2))] ++ some1 (j + 1) m, ms := fun _ _ => .lit (16 - (j + 1)) })
def bdP : List Nat := 9 :: upto 13 25
def bdR : List Nat := upto 5 22
def cfgOnly : Cfg := { grow := true, anns := [{ key := (26, 3, 1), heads := gatherHs 12 7 bdP TL ksL (fun k => [cntP (.lit 0) (kinds k)]) (fun k m => [cntP (v (m + 1)) (kinds k), linksP k (r m) (lk 1 k)]) }], rules :=
  cntRules ++
  ((List.range 16).map fun k => rule [.isrow 0 (.lits [(.int .i64, v (1 + 4 * k)), (.int .i64, v (2 + 4 * k)), (.int .i64, v (3 + 4 * k)), (.int .u64, v (4 + 4 * k))]), cntP (.lit 0) (kinds k)] [.cmp .neq (v (1 + 4 * k)) (.lit 0)] (linksP (k + 1) (r 0) (lk 1 (k + 1)))) ++
  ((List.range 16).map fun k => rule [.isrow 0 (.cat (r (5 + 4 * k)) (.lits [(.int .i64, v (1 + 4 * k)), (.int .i64, v (2 + 4 * k)), (.int .i64, v (3 + 4 * k)), (.int .u64, v (4 + 4 * k))])), linksP k (r (5 + 4 * k)) (lk 1 k)] [.cmp .neq (v (1 + 4 * k)) (.lit 0)] (linksP (k + 1) (r 0) (lk 1 (k + 1)))) ++
  ((List.range 16).map fun k => rule [linksP k (r 0) (lk 1 k)] [eqI (v (1 + 4 * k)) (.lit 0)] (linksP (k + 1) (r 0) (lk 1 (k + 1)))) ++ [
  rule [cntP (.lit 0) (rngV 0 16)] [] (.not (cntP (.lit 1) (rngV 0 16))),
  rule [cntP (v 16) (rngV 0 16)] [neI (v 16) (.lit 1)] (.not (cntP (.lit 1) (rngV 0 16))),
  rule [cntP (v 16) (rngV 0 16)] [eqI (v 16) (.lit 1)] (cntP (.lit 1) (rngV 0 16)),
  rule [linksP 16 (r 0) (lk 1 16), cntP (v 65) (kinds 16)] [ge (v 65) 1] (amongP (.wrap .i64 (.cell 0 (.lit 0))) (.wrap .i64 (.cell 0 (.lit 1))) (.wrap .i64 (.cell 0 (.lit 2))) (.wrap .u64 (.cell 0 (.lit 3))) (lk 1 16)) ] }
def fOnly : Fs := { f := 18, shs := [node], alts := [
  { rets := [link, .leaf .bool], post := [eqI (v 69) (.lit 1), cntP (.lit 1) (kinds 16), amongP (v 65) (v 66) (v 67) (v 68) (lk 1 16)] },
  { rets := [link, .leaf .bool], post := [eqI (v 69) (.lit 0), .not (cntP (.lit 1) (kinds 16)), eqI (v 65) (.lit 0), eqI (v 66) (.lit 0), eqI (v 67) (.lit 0), eqI (v 68) (.lit 0)] }] }
def cntEs (κ : Int) : List Rule :=
  rule [] [] (cntE (.lit 0) κ []) ::
  ((List.range 16).map fun k => rule [cntE (v 0) κ (plcs k)] [eqI (v (k + 1)) (.lit κ)] (cntE (.off (v 0) (.lit 1)) κ (plcs (k + 1)))) ++
  ((List.range 16).map fun k => rule [cntE (v 0) κ (plcs k)] [neI (v (k + 1)) (.lit κ)] (cntE (v 0) κ (plcs (k + 1)))) ++
  ((List.range 16).map fun k => rule [cntE (.lit 0) κ (rngV 0 k)] [eqI (v k) (.lit κ)] (cntE (.lit 1) κ (rngV 0 (k + 1)))) ++
  [rule [cntE (v 16) κ (rngV 0 16)] [ge (v 16) 1] (.not (cntE (.lit 0) κ (rngV 0 16)))]
/-- Of pairs, of triples: the kinds. -/
abbrev by2 (k : Nat) : List IE := (List.range k).map fun i => v (1 + 2 * i)
abbrev by3 (k : Nat) : List IE := (List.range k).map fun i => v (1 + 3 * i)
def keysRules : List Rule :=
  ((List.range 16).map fun k => rule [.isrow 0 (.lits [(.int .i64, v (2 + 2 * k))]), cntE (.lit 0) 1 (by2 k)] [eqI (v (1 + 2 * k)) (.lit 1)] (keysP (k + 1) (r 0) (rngV 1 (2 * k + 2)))) ++
  ((List.range 16).map fun k => rule [.isrow 0 (.cat (r (2 * k + 3)) (.lits [(.int .i64, v (2 + 2 * k))])), keysP k (r (2 * k + 3)) (rngV 1 (2 * k))] [eqI (v (1 + 2 * k)) (.lit 1)] (keysP (k + 1) (r 0) (rngV 1 (2 * k + 2)))) ++
  ((List.range 16).map fun k => rule [keysP k (r 0) (rngV 1 (2 * k))] [neI (v (1 + 2 * k)) (.lit 1)] (keysP (k + 1) (r 0) (rngV 1 (2 * k + 2)))) ++ cntEs 1
def nodesRules : List Rule :=
  ((List.range 16).map fun k => rule [.isrow 0 (.lits [(.int .i64, v (2 + 3 * k)), (.int .u64, v (3 + 3 * k))]), cntE (.lit 0) 2 (by3 k)] [eqI (v (1 + 3 * k)) (.lit 2)] (nodesP (k + 1) (r 0) (rngV 1 (3 * k + 3)))) ++
  ((List.range 16).map fun k => rule [.isrow 0 (.cat (r (3 * k + 4)) (.lits [(.int .i64, v (2 + 3 * k)), (.int .u64, v (3 + 3 * k))])), nodesP k (r (3 * k + 4)) (rngV 1 (3 * k))] [eqI (v (1 + 3 * k)) (.lit 2)] (nodesP (k + 1) (r 0) (rngV 1 (3 * k + 3)))) ++
  ((List.range 16).map fun k => rule [nodesP k (r 0) (rngV 1 (3 * k))] [neI (v (1 + 3 * k)) (.lit 2)] (nodesP (k + 1) (r 0) (rngV 1 (3 * k + 3)))) ++ cntEs 2
def cfgKeys (key : Nat × Nat × Nat) (tk tr : Nat) (bd : List Nat) : Cfg := { grow := true, rules := keysRules, anns := [{ key := key, heads := gatherHs tk tr bd TS ksS (fun k => [cntE (.lit 0) 1 (kinds k)]) (fun k m => [cntE (v (m + 1)) 1 (kinds k), keysP k (r m) (pr2 k)]) }] }
def cfgNodes (key : Nat × Nat × Nat) (tk tr : Nat) (bd : List Nat) : Cfg := { grow := true, rules := nodesRules, anns := [{ key := key, heads := gatherHs tk tr bd TH ksH (fun k => [cntE (.lit 0) 2 (kinds k)]) (fun k m => [cntE (v (m + 1)) 2 (kinds k), nodesP k (r m) (pr3 k)]) }] }
def keyAlts : List Alt := [
  { rets := [.nil], post := [cntE (.lit 0) 1 (kinds 16)] },
  { rets := [.row TS ksS], post := [cntE (v 66) 1 (kinds 16), .not (cntE (.lit 0) 1 (kinds 16)), ge (v 66) 1, le (v 66) 16, keysP 16 (r 65) (pr2 16)] }]
def nodeAlts : List Alt := [
  { rets := [.nil], post := [cntE (.lit 0) 2 (kinds 16)] },
  { rets := [.row TH ksH], post := [cntE (v 66) 2 (kinds 16), .not (cntE (.lit 0) 2 (kinds 16)), ge (v 66) 1, le (v 66) 16, nodesP 16 (r 65) (pr3 16)] }]
def fKeys : Fs := { f := 20, shs := [node], alts := keyAlts }
def fRKeys : Fs := { f := 22, shs := [node], alts := keyAlts }
def fNodes : Fs := { f := 21, shs := [node], alts := nodeAlts }
def fRNodes : Fs := { f := 23, shs := [node], alts := nodeAlts }
/-- The law's own leaves. -/
abbrev lkind (i : Nat) : IntKind := if i % 4 = 0 && i > 0 then .u64 else .i64
abbrev L0 (i : Nat) : IE := .wrap (lkind i) (.var i)
abbrev lawLk : List IE := (List.range 64).map fun i => L0 (i + 1)
abbrev lawK : List IE := (List.range 16).map fun i => L0 (1 + 4 * i)
abbrev one1 : BE := cntP (.lit 1) lawK
/-- There is no only one: nothing is found. -/
def nfHead (k : Nat) : Head := { nf := 0, src := [], bsrc := [], tm := fun _ _ => (7, .int .i64 (.lit k)) :: (6, .bool (.lit false)) :: bad (upto 40 60), bl := fun _ _ => [], nb := fun _ _ => [], inv := fun _ _ => [.not one1, eqI (v 2) (.lit 0)], ms := fun _ _ => .lit (16 - k) }
abbrev kk (o : Nat) : List IE := (List.range 16).map fun i => v (o + 1 + 4 * i)
abbrev mayAt (o : Nat) : BE := .usr 3 (rngV o 65) [] []
def looksRules : List Rule :=
  ((List.range 16).flatMap fun k => (List.range 4).map fun j => ruleF [amongP (v 2) (v 3) (v 4) (v 5) lawLk, one1] [.cmp .neq (L0 (1 + 4 * k)) (.lit 0)] (eqI (L0 (1 + 4 * k + j)) (v (2 + j)))) ++ [
  ruleF [one1] ((List.range 16).map fun k => .not (.cmp .neq (L0 (1 + 4 * k)) (.lit 0))) (.lit false),
  rule [] [eqI (v 1) (.lit 0), .cmp .neq (v 0) (.lit 0)] (neI (v 0) (v 1)),
  rule [] [ltI (v 0) (v 1)] (ltI (.dif (v 1) (.off (v 0) (.lit 1))) (.dif (v 1) (v 0))),
  rule [] [leI (v 0) (v 1)] (ge (.dif (v 1) (v 0)) 0),
  rule [cntP (v 0) (rngV 2 16), cntP (v 1) (rngV 2 16)] [] (eqI (v 0) (v 1)),
  rule [cntP (.lit 1) (rngV 1 16), cntP (v 0) (rngV 1 16)] [] (eqI (v 0) (.lit 1)),
  rule [.not (cntP (.lit 1) (rngV 1 16)), cntP (v 0) (rngV 1 16)] [] (neI (v 0) (.lit 1)),
  rule [cntE (v 0) 1 (rngV 2 16), cntE (v 1) 1 (rngV 2 16)] [] (eqI (v 0) (v 1)),
  rule [cntE (v 0) 2 (rngV 2 16), cntE (v 1) 2 (rngV 2 16)] [] (eqI (v 0) (v 1)),
  rule [cntE (.lit 0) 1 (rngV 1 16), cntE (v 0) 1 (rngV 1 16)] [ge (v 0) 1] (.lit false),
  rule [cntE (.lit 0) 2 (rngV 1 16), cntE (v 0) 2 (rngV 1 16)] [ge (v 0) 1] (.lit false),
  rule [mayAt 3, cntE (v 0) 1 (kk 3), cntE (v 1) 2 (kk 3), cntP (v 2) (kk 3)] [] (eqI (.off (v 0) (v 1)) (v 2)),
  rule [mayAt 2, cntE (.lit 0) 1 (kk 2), cntE (v 0) 2 (kk 2), cntP (v 1) (kk 2)] [] (eqI (v 0) (v 1)),
  rule [mayAt 2, cntE (v 0) 1 (kk 2), cntE (.lit 0) 2 (kk 2), cntP (v 1) (kk 2)] [] (eqI (v 0) (v 1)),
  rule [mayAt 1, cntE (.lit 0) 1 (kk 1), cntE (.lit 0) 2 (kk 1), cntP (v 0) (kk 1)] [] (.not (.cmp .neq (v 0) (.lit 0))),
  rule [keysP 16 (r 1) (rngV 3 32), keysP 16 (r 2) (rngV 3 32)] [] (eqI (.wrap .i64 (.cell 1 (v 0))) (.wrap .i64 (.cell 2 (v 0)))),
  rule [nodesP 16 (r 1) (rngV 3 48), nodesP 16 (r 2) (rngV 3 48)] [] (eqI (.wrap .i64 (.cell 1 (.lin (v 0) 2 0))) (.wrap .i64 (.cell 2 (.lin (v 0) 2 0)))),
  rule [nodesP 16 (r 1) (rngV 3 48), nodesP 16 (r 2) (rngV 3 48)] [] (eqI (.wrap .u64 (.cell 1 (.lin (v 0) 2 1))) (.wrap .u64 (.cell 2 (.lin (v 0) 2 1)))) ]
/-- Two rows are gone through: slot t has the place, a and b are their lengths. -/
def cmpAnn (key : Nat × Nat × Nat) (t a b p q : Nat) : Ann := { key := key, heads := [{ nf := 1, src := [.int t], bsrc := [], tm := fun m _ => (t, .int .i64 (v m)) :: bad (upto p q), bl := fun _ _ => [], nb := fun _ _ => [], inv := fun m _ => [ge (v m) 0, leI (v m) (v a), eqI (v a) (v b)], ms := fun m _ => .dif (v a) (v m) }] }
def cfgLooks : Cfg := { rules := looksRules, anns := [{ key := (130, 7, 2), heads := (List.range 17).map nfHead }, cmpAnn (130, 17, 4) 12 11 17 99 113, cmpAnn (130, 22, 4) 13 14 20 114 128] }
abbrev no1 : BE := cntE (.lit 0) 1 lawK
abbrev no2 : BE := cntE (.lit 0) 2 lawK
/-- Which is the first that leads to something, 16: none does. -/
def first1 (i : Nat) : List BE := ((List.range i).map fun k => .not (.cmp .neq (L0 (1 + 4 * k)) (.lit 0))) ++ (if i < 16 then [.cmp .neq (L0 (1 + 4 * i)) (.lit 0)] else [])
def lead1 (g : Nat) : List BE := if g < 17 then one1 :: first1 g else [.not one1]
def looksGrp (g : Nat) : List (List BE) := [(if g % 4 / 2 = 0 then no1 else .not no1) :: (if g % 2 = 0 then no2 else .not no2) :: lead1 (g / 4)]
def csLooks (_ : List Bool) : List (List BE) := (List.range 72).flatMap looksGrp
def Ml (k s i g : Int) : Prop := (k = 0 ∧ s = 0 ∧ i = 0 ∧ g = 0) ∨ (k = 1 ∧ 1 ≤ s ∧ s ≤ 1073741824 ∧ i = 0 ∧ g = 0) ∨ (k = 2 ∧ s = 0 ∧ 0 ≤ i ∧ 1 ≤ g)
/-- How many are so. -/
def cntQ (p : Int → Bool) : List Int → Int
  | [] => 0
  | x :: l => (if p x then 1 else 0) + cntQ p l
theorem cntQ_append (p : Int → Bool) : ∀ (l m : List Int), cntQ p (l ++ m) = cntQ p l + cntQ p m
  | [], m => by simp [cntQ]
  | x :: l, m => by
    rw [List.cons_append, cntQ, cntQ, cntQ_append p l m]
    omega
theorem cntQ_nonneg (p : Int → Bool) : ∀ l : List Int, 0 ≤ cntQ p l
  | [] => by simp [cntQ]
  | x :: l => by
    have := cntQ_nonneg p l
    rw [cntQ]
    split <;> omega
theorem cntQ_pos {p : Int → Bool} (h0 : p 0 = false) : ∀ {l : List Int} {i : Nat}, p (l.getD i 0) = true → 1 ≤ cntQ p l
  | [], i, h => by
    rw [List.getD_nil, h0] at h
    cases h
  | x :: l, 0, h => by
    have := cntQ_nonneg p l
    rw [cntQ, if_pos (by simpa using h)]
    omega
  | x :: l, i + 1, h => by
    have := cntQ_pos h0 (l := l) (i := i) (by simpa using h)
    rw [cntQ]
    split <;> omega
theorem cntQ_one {p : Int → Bool} (h0 : p 0 = false) : ∀ {l : List Int} {i k : Nat}, cntQ p l = 1 → p (l.getD i 0) = true → p (l.getD k 0) = true → i = k
  | [], i, k, h, _, _ => by simp [cntQ] at h
  | x :: l, 0, 0, _, _, _ => rfl
  | x :: l, 0, k + 1, h, h1, h2 => by
    have := cntQ_pos h0 (l := l) (i := k) (by simpa using h2)
    rw [cntQ, if_pos (by simpa using h1)] at h
    omega
  | x :: l, i + 1, 0, h, h1, h2 => by
    have := cntQ_pos h0 (l := l) (i := i) (by simpa using h1)
    rw [cntQ, if_pos (by simpa using h2)] at h
    omega
  | x :: l, i + 1, k + 1, h, h1, h2 => by
    have hp := cntQ_pos h0 (l := l) (i := i) (by simpa using h1)
    have := cntQ_nonneg p l
    rw [cntQ] at h
    split at h
    · omega
    · rw [cntQ_one h0 (l := l) (i := i) (k := k) (by omega) (by simpa using h1) (by simpa using h2)]
theorem cntQ_t {p : Int → Bool} {x : Int} (h : p x = true) : cntQ p [x] = 1 := by rw [cntQ, cntQ, if_pos h]; rfl
theorem cntQ_f {p : Int → Bool} {x : Int} (h : ¬ p x = true) : cntQ p [x] = 0 := by rw [cntQ, cntQ, if_neg h]; rfl
def nz (x : Int) : Bool := decide (x ≠ 0)
def iz (κ x : Int) : Bool := decide (x = κ)
theorem nz_t {x : Int} : nz x = true ↔ x ≠ 0 := by unfold nz; exact decide_eq_true_iff
theorem iz_t {κ x : Int} : iz κ x = true ↔ x = κ := by unfold iz; exact decide_eq_true_iff
theorem cnt_kinds : ∀ {l : List Int}, (∀ x ∈ l, x = 0 ∨ x = 1 ∨ x = 2) → cntQ nz l = cntQ (iz 1) l + cntQ (iz 2) l
  | [], _ => by simp [cntQ]
  | x :: l, h => by
    have ih := cnt_kinds fun y hy => h y (List.mem_cons_of_mem _ hy)
    rw [cntQ, cntQ, cntQ, ih]
    rcases h x List.mem_cons_self with rfl | rfl | rfl
    · rw [if_neg (by decide), if_neg (by decide), if_neg (by decide)]; omega
    · rw [if_pos (by decide), if_pos (by decide), if_neg (by decide)]; omega
    · rw [if_pos (by decide), if_neg (by decide), if_pos (by decide)]; omega
/-- What is told of those that are wanted: c numbers each. -/
def sel (c : Nat) (p : Int → Bool) (m : (Nat → Int) → List Value) (f : Nat → Int) (K : Nat) : List Value :=
  (List.range K).flatMap fun i => if p (f (c * i)) then m (fun j => f (c * i + j)) else []
theorem sel_suc {c : Nat} {p : Int → Bool} {m : (Nat → Int) → List Value} {f : Nat → Int} {K : Nat} :
    sel c p m f (K + 1) = sel c p m f K ++ (if p (f (c * K)) then m (fun j => f (c * K + j)) else []) := by
  unfold sel
  rw [List.range_succ, List.flatMap_append, List.flatMap_singleton]
theorem sel_none {c : Nat} {p : Int → Bool} {m : (Nat → Int) → List Value} {f : Nat → Int} : ∀ {K : Nat}, cntQ p ((List.range K).map fun i => f (c * i)) = 0 → sel c p m f K = []
  | 0, _ => rfl
  | K + 1, h => by
    have h1 := cntQ_nonneg p ((List.range K).map fun i => f (c * i))
    rw [List.range_succ, List.map_append, cntQ_append, List.map_singleton, cntQ, cntQ] at h
    rw [sel_suc]
    split at h
    · omega
    · rename_i hn
      rw [sel_none (K := K) (by omega), if_neg hn]
      rfl
theorem sel_some {c : Nat} {p : Int → Bool} {m : (Nat → Int) → List Value} {f : Nat → Int} (hm : ∀ g, m g ≠ []) : ∀ {K : Nat}, 1 ≤ cntQ p ((List.range K).map fun i => f (c * i)) → ∃ i, i < K ∧ p (f (c * i)) = true ∧ ∃ r, sel c p m f K = m (fun j => f (c * i + j)) ++ r
  | 0, h => by simp [cntQ] at h
  | K + 1, h => by
    rw [sel_suc]
    by_cases h1 : 1 ≤ cntQ p ((List.range K).map fun i => f (c * i))
    · obtain ⟨i, hi, hp, r, hr⟩ := sel_some hm h1
      exact ⟨i, by omega, hp, _, by rw [hr, List.append_assoc]⟩
    · have h0 := cntQ_nonneg p ((List.range K).map fun i => f (c * i))
      rw [List.range_succ, List.map_append, cntQ_append, List.map_singleton, cntQ, cntQ] at h
      split at h
      · rename_i hp
        exact ⟨K, by omega, hp, [], by rw [sel_none (by omega), if_pos hp, List.append_nil]; rfl⟩
      · omega
def mL (g : Nat → Int) : List Value := [.int .i64 (g 0), .int .i64 (g 1), .int .i64 (g 2), .int .u64 (g 3)]
def mK (g : Nat → Int) : List Value := [.int .i64 (g 1)]
def mN (g : Nat → Int) : List Value := [.int .i64 (g 1), .int .u64 (g 2)]
def AmongL (a b c d : Int) (l : List Int) : Prop :=
  ∃ i, i < 16 ∧ l.getD (4 * i) 0 ≠ 0 ∧ a = IntKind.i64.wrap (l.getD (4 * i) 0) ∧ b = IntKind.i64.wrap (l.getD (4 * i + 1) 0) ∧ c = IntKind.i64.wrap (l.getD (4 * i + 2) 0) ∧ d = IntKind.u64.wrap (l.getD (4 * i + 3) 0)
def MayN (l : List Int) : Prop :=
  0 ≤ l.getD 0 0 ∧ l.getD 0 0 ≤ 70 ∧ (∀ i : Nat, i < 16 → Ml (l.getD (1 + 4 * i) 0) (l.getD (2 + 4 * i) 0) (l.getD (3 + 4 * i) 0) (l.getD (4 + 4 * i) 0)) ∧ 2 ≤ cntQ nz ((List.range 16).map fun i => l.getD (1 + 4 * i) 0)
def prd : Nat → List Int → List (List UInt8) → List (List Value) → Prop
  | 1, [k, s, i, g], _, _ => Ml k s i g
  | 2, _ :: c :: l, _, _ => c = cntQ nz l
  | 3, l, _, _ => MayN l
  | 4, k :: l, _, [x] => x = sel 4 nz mL (fun i => l.getD i 0) k.toNat
  | 5, _ :: κ :: c :: l, _, _ => c = cntQ (iz κ) l
  | 7, k :: l, _, [x] => x = sel 2 (iz 1) mK (fun i => l.getD i 0) k.toNat
  | 8, k :: l, _, [x] => x = sel 3 (iz 2) mN (fun i => l.getD i 0) k.toNat
  | 9, a :: b :: c :: d :: l, _, _ => AmongL a b c d l
  | _, _, _, _ => False
theorem leaf {ι : Unk} {k : Nat} (h : k < 65) : ((((List.range 65).map fun i => v i).map (·.den ι)).getD k 0) = (v k).den ι := by
  rw [List.map_map, List.getD_eq_getElem?_getD, List.getElem?_map, List.getElem?_range h]
  rfl
theorem all_map {p : Rule → Prop} {f : Nat → Rule} {n : Nat} (h : ∀ k, k < n → p (f k)) : ∀ x ∈ (List.range n).map f, p x := by
  intro x hx
  obtain ⟨k, hk, rfl⟩ := List.mem_map.1 hx
  exact h k (List.mem_range.1 hk)
section
variable {ι : Unk} (hp : ι.prd = prd)
include hp
theorem d_ml {k s i g : IE} : (mlP k s i g).den ι = true ↔ Ml (k.den ι) (s.den ι) (i.den ι) (g.den ι) := n_usr hp
theorem d_cnt {c : IE} {l : List IE} : (cntP c l).den ι = true ↔ c.den ι = cntQ nz (l.map (·.den ι)) := n_usr hp
theorem d_may0 {l : List IE} : (BE.usr 3 l [] []).den ι = true ↔ MayN (l.map (·.den ι)) := (n_usr hp).trans (by cases l <;> exact Iff.rfl)
theorem d_may : mayV.den ι = true ↔ 0 ≤ (v 0).den ι ∧ (v 0).den ι ≤ 70 ∧ (∀ i : Nat, i < 16 → (mlAt i).den ι = true) ∧ 2 ≤ cntQ nz ((kinds 16).map (·.den ι)) := by
  rw [d_may0 hp]
  unfold MayN
  have e0 : (((List.range 65).map fun i => v i).map (·.den ι)).getD 0 0 = (v 0).den ι := leaf (by omega)
  have e1 : ((List.range 16).map fun i => (((List.range 65).map fun i => v i).map (·.den ι)).getD (1 + 4 * i) 0) = (kinds 16).map (·.den ι) := by
    refine Eq.trans (List.map_congr_left fun i hi => ?_) List.map_map.symm
    have := List.mem_range.1 hi
    exact leaf (by omega)
  rw [e0, e1]
  refine and_congr_right fun _ => and_congr_right fun _ => and_congr_left fun _ => forall_congr' fun i => forall_congr' fun hi => ?_
  rw [leaf (by omega), leaf (by omega), leaf (by omega), leaf (by omega)]
  exact (d_ml hp).symm
end
theorem mlRules_ok (ι : Unk) (hp : ι.prd = prd) : ∀ r ∈ mlRules, ROk ι r := by
  refine all_cons ?_ (all_cons ?_ (all_cons ?_ (all_cons ?_ (all_cons ?_ (all_cons ?_ (all_cons ?_ (all_cons ?_ (all_cons ?_ (all_cons ?_ (all_cons ?_ (all_cons ?_ (all_cons ?_ (all_cons ?_ all_nil))))))))))))) <;> intro hf h <;>
    simp only [List.mem_cons, List.not_mem_nil, or_false, forall_eq_or_imp, forall_eq, n_not, n_geq, n_gtr, n_leq, n_lss, n_eql, n_n, d_ml hp, Ml] at hf h ⊢ <;> omega
theorem den_off {k : Nat} : plcs (k + 1) = plcs k ++ [v (1 + k)] := by
  unfold plcs
  rw [List.range_succ, List.map_append, List.map_singleton]
theorem den_plain {k : Nat} : ((List.range (k + 1)).map fun i => v i) = ((List.range k).map fun i => v i) ++ [v k] := by
  rw [List.range_succ, List.map_append, List.map_singleton]
theorem cntRules_ok (ι : Unk) (hp : ι.prd = prd) : ∀ r ∈ cntRules, ROk ι r := by
  refine all_cons ?_ (all_append (all_append (all_map ?_) (all_map ?_)) (all_map ?_))
  · intro _ _
    exact (d_cnt hp).2 rfl
  · intro k _ hf h
    simp only [List.mem_cons, List.not_mem_nil, or_false, forall_eq, n_neq, n_n, d_cnt hp] at hf h
    rw [d_cnt hp, den_off, List.map_append, cntQ_append, n_off, n_n, hf, Nat.add_comm 1 k]
    rw [List.map_singleton, cntQ_t (nz_t.2 h)]
  · intro k _ hf h
    simp only [List.mem_cons, List.not_mem_nil, or_false, forall_eq, n_eql, n_n, d_cnt hp] at hf h
    rw [d_cnt hp, den_off, List.map_append, cntQ_append, hf, Nat.add_comm 1 k]
    rw [List.map_singleton, cntQ_f (fun e => nz_t.1 e h), Int.add_zero]
  · intro k _ hf h
    simp only [List.mem_cons, List.not_mem_nil, or_false, forall_eq, n_neq, n_n, d_cnt hp] at hf h
    rw [d_cnt hp, den_plain, List.map_append, cntQ_append, n_n, ← hf]
    rw [List.map_singleton, cntQ_t (nz_t.2 h)]
    rfl
theorem mayRules_ok (ι : Unk) (hp : ι.prd = prd) : ∀ r ∈ mayRules, ROk ι r := by
  refine all_cons ?_ (all_cons ?_ (all_cons ?_ (all_cons ?_ (all_map ?_))))
  · intro _ h
    simp only [List.mem_cons, List.not_mem_nil, or_false, forall_eq, n_lss, n_n] at h
    rw [n_not, d_may hp]
    intro e
    omega
  · intro _ h
    simp only [List.mem_cons, List.not_mem_nil, or_false, forall_eq, n_gtr, n_n] at h
    rw [n_not, d_may hp]
    intro e
    omega
  · intro hf h
    simp only [List.mem_cons, List.not_mem_nil, or_false, forall_eq, n_lss, n_n, d_cnt hp] at hf h
    rw [n_not, d_may hp]
    intro e
    omega
  · intro hf h
    simp only [List.mem_cons, List.not_mem_nil, or_false, forall_eq_or_imp, forall_eq, n_geq, n_leq, n_n] at h
    refine (d_may hp).2 ⟨h.1, h.2.1, fun i hi => hf _ (List.mem_append_left _ (List.mem_map.2 ⟨i, List.mem_range.2 hi, rfl⟩)), ?_⟩
    have := (d_cnt hp).1 (hf _ (List.mem_append_right _ List.mem_cons_self))
    omega
  · intro k hk hf _
    have h := hf _ List.mem_cons_self
    rw [n_not] at h ⊢
    rw [d_may hp]
    exact fun e => h (e.2.2.1 k hk)
theorem rng_get {ι : Unk} {o n i : Nat} (h : i < n) : (((rngV o n).map (·.den ι)).getD i 0) = (v (o + i)).den ι := by
  rw [List.map_map, List.getD_eq_getElem?_getD, List.getElem?_map, List.getElem?_range h]
  rfl
theorem sel_congr {c : Nat} {p : Int → Bool} {m : (Nat → Int) → List Value} (hm : ∀ f g : Nat → Int, (∀ j, j < c → f j = g j) → m f = m g) (hc : 0 < c) {f g : Nat → Int} {K : Nat} (h : ∀ i, i < c * K → f i = g i) : sel c p m f K = sel c p m g K := by
  induction K with
  | zero => rfl
  | succ K ih =>
    have hK : c * (K + 1) = c * K + c := Nat.mul_succ c K
    rw [sel_suc, sel_suc, ih (fun i hi => h i (by omega)), h (c * K) (by omega), hm _ (fun j => g (c * K + j)) fun j hj => h _ (by omega)]
theorem mL_c : ∀ f g : Nat → Int, (∀ j, j < 4 → f j = g j) → mL f = mL g := fun f g h => by simp only [mL, h 0 (by omega), h 1 (by omega), h 2 (by omega), h 3 (by omega)]
theorem mK_c : ∀ f g : Nat → Int, (∀ j, j < 2 → f j = g j) → mK f = mK g := fun f g h => by simp only [mK, h 1 (by omega)]
theorem mN_c : ∀ f g : Nat → Int, (∀ j, j < 3 → f j = g j) → mN f = mN g := fun f g h => by simp only [mN, h 1 (by omega), h 2 (by omega)]
/-- The leaves from a place on. -/
def fr (ι : Unk) (o i : Nat) : Int := (v (o + i)).den ι
theorem n_r {ι : Unk} {k : Nat} : (r k).den ι = ι.fr k := rfl
section
variable {ι : Unk} (hp : ι.prd = prd)
include hp
theorem d_links {k o : Nat} {x : RX} : (linksP k x (rngV o (4 * k))).den ι = true ↔ x.den ι = sel 4 nz mL (fr ι o) k := by
  refine (n_usr hp).trans ?_
  show x.den ι = sel 4 nz mL (fun i => ((rngV o (4 * k)).map (·.den ι)).getD i 0) k ↔ _
  rw [sel_congr mL_c (by omega) (g := fr ι o) fun i hi => rng_get hi]
theorem d_keys {k o : Nat} {x : RX} : (keysP k x (rngV o (2 * k))).den ι = true ↔ x.den ι = sel 2 (iz 1) mK (fr ι o) k := by
  refine (n_usr hp).trans ?_
  show x.den ι = sel 2 (iz 1) mK (fun i => ((rngV o (2 * k)).map (·.den ι)).getD i 0) k ↔ _
  rw [sel_congr mK_c (by omega) (g := fr ι o) fun i hi => rng_get hi]
theorem d_nodes {k o : Nat} {x : RX} : (nodesP k x (rngV o (3 * k))).den ι = true ↔ x.den ι = sel 3 (iz 2) mN (fr ι o) k := by
  refine (n_usr hp).trans ?_
  show x.den ι = sel 3 (iz 2) mN (fun i => ((rngV o (3 * k)).map (·.den ι)).getD i 0) k ↔ _
  rw [sel_congr mN_c (by omega) (g := fr ι o) fun i hi => rng_get hi]
theorem d_cntE {c : IE} {κ : Int} {l : List IE} : (cntE c κ l).den ι = true ↔ c.den ι = cntQ (iz κ) (l.map (·.den ι)) := n_usr hp
theorem d_among {a b c d : IE} {l : List IE} : (amongP a b c d l).den ι = true ↔ AmongL (a.den ι) (b.den ι) (c.den ι) (d.den ι) (l.map (·.den ι)) := n_usr hp
end
theorem cntEs_ok {κ : Int} (ι : Unk) (hp : ι.prd = prd) : ∀ r ∈ cntEs κ, ROk ι r := by
  refine all_cons ?_ (all_append (all_append (all_append (all_map ?_) (all_map ?_)) (all_map ?_)) (all_cons ?_ all_nil))
  · intro _ _
    exact (d_cntE hp).2 rfl
  · intro k _ hf h
    simp only [List.mem_cons, List.not_mem_nil, or_false, forall_eq, n_eql, n_n, d_cntE hp] at hf h
    rw [d_cntE hp, den_off, List.map_append, cntQ_append, n_off, n_n, hf, Nat.add_comm 1 k]
    rw [List.map_singleton, cntQ_t (iz_t.2 h)]
  · intro k _ hf h
    simp only [List.mem_cons, List.not_mem_nil, or_false, forall_eq, n_not, n_eql, n_n, d_cntE hp] at hf h
    rw [d_cntE hp, den_off, List.map_append, cntQ_append, hf, Nat.add_comm 1 k]
    rw [List.map_singleton, cntQ_f (fun e => h (iz_t.1 e)), Int.add_zero]
  · intro k _ hf h
    simp only [List.mem_cons, List.not_mem_nil, or_false, forall_eq, n_eql, n_n, d_cntE hp] at hf h
    rw [d_cntE hp, show rngV 0 (k + 1) = rngV 0 k ++ [v (0 + k)] by unfold rngV; rw [List.range_succ, List.map_append, List.map_singleton], List.map_append, cntQ_append, n_n, ← hf, Nat.zero_add, List.map_singleton, cntQ_t (iz_t.2 h)]
    rfl
  · intro hf h
    simp only [List.mem_cons, List.not_mem_nil, or_false, forall_eq, n_geq, n_not, n_n, d_cntE hp] at hf h ⊢
    omega
theorem den_map {ι : Unk} {K : Nat} {g : Nat → Nat} {o c : Nat} (h : ∀ i, g i = o + c * i) : (((List.range K).map fun i => v (g i)).map (·.den ι)) = (List.range K).map fun i => fr ι o (c * i) := by
  rw [List.map_map]
  refine List.map_congr_left fun i _ => ?_
  show (v (g i)).den ι = (v (o + c * i)).den ι
  rw [h]
theorem mL_at {ι : Unk} {k : Nat} : (RX.lits [(.int .i64, v (1 + 4 * k)), (.int .i64, v (2 + 4 * k)), (.int .i64, v (3 + 4 * k)), (.int .u64, v (4 + 4 * k))]).den ι = mL (fun j => fr ι 1 (4 * k + j)) := by
  show [Value.int .i64 ((v (1 + 4 * k)).den ι), .int .i64 ((v (2 + 4 * k)).den ι), .int .i64 ((v (3 + 4 * k)).den ι), .int .u64 ((v (4 + 4 * k)).den ι)] = [Value.int .i64 ((v (1 + (4 * k + 0))).den ι), .int .i64 ((v (1 + (4 * k + 1))).den ι), .int .i64 ((v (1 + (4 * k + 2))).den ι), .int .u64 ((v (1 + (4 * k + 3))).den ι)]
  rw [show 1 + (4 * k + 0) = 1 + 4 * k by omega, show 1 + (4 * k + 1) = 2 + 4 * k by omega, show 1 + (4 * k + 2) = 3 + 4 * k by omega, show 1 + (4 * k + 3) = 4 + 4 * k by omega]
theorem onlyRules_ok (ι : Unk) (hp : ι.prd = prd) : ∀ r ∈ cfgOnly.rules, ROk ι r := by
  refine all_append (all_append (all_append (all_append (cntRules_ok ι hp) (all_map ?_)) (all_map ?_)) (all_map ?_)) (all_cons ?_ (all_cons ?_ (all_cons ?_ (all_cons ?_ all_nil))))
  · intro k _ hf h
    simp only [List.mem_cons, List.not_mem_nil, or_false, forall_eq_or_imp, forall_eq, n_neq, n_n, n_isrow, d_cnt hp] at hf h
    have e := hf.2
    rw [show (kinds k).map (·.den ι) = _ from den_map (o := 1) (c := 4) fun _ => rfl] at e
    refine (d_links hp (k := k + 1) (o := 1)).2 ?_
    rw [n_r, hf.1, sel_suc, sel_none e.symm, if_pos (nz_t.2 (show fr ι 1 (4 * k) ≠ 0 from h)), ← mL_at]
    rfl
  · intro k _ hf h
    simp only [List.mem_cons, List.not_mem_nil, or_false, forall_eq_or_imp, forall_eq, n_neq, n_n, n_isrow] at hf h
    have e := (d_links hp (k := k) (o := 1)).1 hf.2
    refine (d_links hp (k := k + 1) (o := 1)).2 ?_
    rw [n_r, hf.1, sel_suc, ← e, if_pos (nz_t.2 (show fr ι 1 (4 * k) ≠ 0 from h)), ← mL_at]
    rfl
  · intro k _ hf h
    simp only [List.mem_cons, List.not_mem_nil, or_false, forall_eq, n_eql, n_n] at hf h
    have e := (d_links hp (k := k) (o := 1)).1 hf
    refine (d_links hp (k := k + 1) (o := 1)).2 ?_
    rw [e, sel_suc, if_neg (fun e => nz_t.1 e (show fr ι 1 (4 * k) = 0 from h)), List.append_nil]
  · intro hf h
    simp only [List.mem_cons, List.not_mem_nil, or_false, forall_eq, n_not, n_n, d_cnt hp] at hf ⊢
    omega
  · intro hf h
    simp only [List.mem_cons, List.not_mem_nil, or_false, forall_eq, n_not, n_eql, n_n, d_cnt hp] at hf h ⊢
    omega
  · intro hf h
    simp only [List.mem_cons, List.not_mem_nil, or_false, forall_eq, n_eql, n_n, d_cnt hp] at hf h ⊢
    omega
  · intro hf h
    simp only [List.mem_cons, List.not_mem_nil, or_false, forall_eq_or_imp, forall_eq, n_geq, n_n, d_cnt hp] at hf h
    have e := (d_links hp (k := 16) (o := 1)).1 hf.1
    have hc := hf.2
    rw [show (kinds 16).map (·.den ι) = _ from den_map (o := 1) (c := 4) fun _ => rfl] at hc
    obtain ⟨i, hi, hpz, w, hw⟩ := sel_some (c := 4) (p := nz) (m := mL) (f := fr ι 1) (K := 16) (fun g => List.cons_ne_nil _ _) (by omega)
    rw [hw] at e
    have e' : ι.fr 0 = mL (fun j => fr ι 1 (4 * i + j)) ++ w := e
    refine (d_among hp).2 ⟨i, hi, ?_, ?_, ?_, ?_, ?_⟩
    · rw [rng_get (o := 1) (n := 4 * 16) (by omega)]
      exact nz_t.1 hpz
    · rw [rng_get (o := 1) (n := 4 * 16) (by omega), n_wrap, n_cell, e']
      rfl
    · rw [rng_get (o := 1) (n := 4 * 16) (by omega), n_wrap, n_cell, e']
      rfl
    · rw [rng_get (o := 1) (n := 4 * 16) (by omega), n_wrap, n_cell, e']
      rfl
    · rw [rng_get (o := 1) (n := 4 * 16) (by omega), n_wrap, n_cell, e']
      rfl
theorem keysRules_ok (ι : Unk) (hp : ι.prd = prd) : ∀ r ∈ keysRules, ROk ι r := by
  refine all_append (all_append (all_append (all_map ?_) (all_map ?_)) (all_map ?_)) (cntEs_ok ι hp)
  · intro k _ hf h
    simp only [List.mem_cons, List.not_mem_nil, or_false, forall_eq_or_imp, forall_eq, n_eql, n_n, n_isrow, d_cntE hp] at hf h
    have e := hf.2
    rw [show (by2 k).map (·.den ι) = _ from den_map (o := 1) (c := 2) fun _ => rfl] at e
    refine (d_keys hp (k := k + 1) (o := 1)).2 ?_
    rw [n_r, hf.1, sel_suc, sel_none e.symm, if_pos (iz_t.2 (show fr ι 1 (2 * k) = 1 from h))]
    show [Value.int .i64 ((v (2 + 2 * k)).den ι)] = [] ++ [Value.int .i64 ((v (1 + (2 * k + 1))).den ι)]
    rw [show 1 + (2 * k + 1) = 2 + 2 * k by omega]
    rfl
  · intro k _ hf h
    simp only [List.mem_cons, List.not_mem_nil, or_false, forall_eq_or_imp, forall_eq, n_eql, n_n, n_isrow] at hf h
    have e := (d_keys hp (k := k) (o := 1)).1 hf.2
    refine (d_keys hp (k := k + 1) (o := 1)).2 ?_
    rw [n_r, hf.1, sel_suc, ← e, if_pos (iz_t.2 (show fr ι 1 (2 * k) = 1 from h))]
    show ι.fr (2 * k + 3) ++ [Value.int .i64 ((v (2 + 2 * k)).den ι)] = ι.fr (2 * k + 3) ++ [Value.int .i64 ((v (1 + (2 * k + 1))).den ι)]
    rw [show 1 + (2 * k + 1) = 2 + 2 * k by omega]
  · intro k _ hf h
    simp only [List.mem_cons, List.not_mem_nil, or_false, forall_eq, n_not, n_eql, n_n] at hf h
    have e := (d_keys hp (k := k) (o := 1)).1 hf
    refine (d_keys hp (k := k + 1) (o := 1)).2 ?_
    rw [e, sel_suc, if_neg (fun e => h (show fr ι 1 (2 * k) = 1 from iz_t.1 e)), List.append_nil]
theorem nodesRules_ok (ι : Unk) (hp : ι.prd = prd) : ∀ r ∈ nodesRules, ROk ι r := by
  refine all_append (all_append (all_append (all_map ?_) (all_map ?_)) (all_map ?_)) (cntEs_ok ι hp)
  · intro k _ hf h
    simp only [List.mem_cons, List.not_mem_nil, or_false, forall_eq_or_imp, forall_eq, n_eql, n_n, n_isrow, d_cntE hp] at hf h
    have e := hf.2
    rw [show (by3 k).map (·.den ι) = _ from den_map (o := 1) (c := 3) fun _ => rfl] at e
    refine (d_nodes hp (k := k + 1) (o := 1)).2 ?_
    rw [n_r, hf.1, sel_suc, sel_none e.symm, if_pos (iz_t.2 (show fr ι 1 (3 * k) = 2 from h))]
    show [Value.int .i64 ((v (2 + 3 * k)).den ι), Value.int .u64 ((v (3 + 3 * k)).den ι)] = [] ++ [Value.int .i64 ((v (1 + (3 * k + 1))).den ι), Value.int .u64 ((v (1 + (3 * k + 2))).den ι)]
    rw [show 1 + (3 * k + 1) = 2 + 3 * k by omega, show 1 + (3 * k + 2) = 3 + 3 * k by omega]
    rfl
  · intro k _ hf h
    simp only [List.mem_cons, List.not_mem_nil, or_false, forall_eq_or_imp, forall_eq, n_eql, n_n, n_isrow] at hf h
    have e := (d_nodes hp (k := k) (o := 1)).1 hf.2
    refine (d_nodes hp (k := k + 1) (o := 1)).2 ?_
    rw [n_r, hf.1, sel_suc, ← e, if_pos (iz_t.2 (show fr ι 1 (3 * k) = 2 from h))]
    show ι.fr (3 * k + 4) ++ [Value.int .i64 ((v (2 + 3 * k)).den ι), Value.int .u64 ((v (3 + 3 * k)).den ι)] = ι.fr (3 * k + 4) ++ [Value.int .i64 ((v (1 + (3 * k + 1))).den ι), Value.int .u64 ((v (1 + (3 * k + 2))).den ι)]
    rw [show 1 + (3 * k + 1) = 2 + 3 * k by omega, show 1 + (3 * k + 2) = 3 + 3 * k by omega]
  · intro k _ hf h
    simp only [List.mem_cons, List.not_mem_nil, or_false, forall_eq, n_not, n_eql, n_n] at hf h
    have e := (d_nodes hp (k := k) (o := 1)).1 hf
    refine (d_nodes hp (k := k + 1) (o := 1)).2 ?_
    rw [e, sel_suc, if_neg (fun e => h (show fr ι 1 (3 * k) = 2 from iz_t.1 e)), List.append_nil]
theorem wrap2 (k : IntKind) (n : Int) : k.wrap (k.wrap n) = k.wrap n := wrap_in k (wrap_range k n).1 (wrap_range k n).2
theorem law_get {ι : Unk} {i : Nat} (h : i < 64) : ((lawLk.map (·.den ι)).getD i 0) = (L0 (i + 1)).den ι := by
  rw [List.map_map, List.getD_eq_getElem?_getD, List.getElem?_map, List.getElem?_range h]
  rfl
theorem lawK_get {ι : Unk} {i : Nat} (h : i < 16) : ((lawK.map (·.den ι)).getD i 0) = (L0 (1 + 4 * i)).den ι := by
  rw [List.map_map, List.getD_eq_getElem?_getD, List.getElem?_map, List.getElem?_range h]
  rfl
theorem may_kinds {ι : Unk} (hp : ι.prd = prd) {o : Nat} (h : (mayAt o).den ι = true) : cntQ nz ((kk o).map (·.den ι)) = cntQ (iz 1) ((kk o).map (·.den ι)) + cntQ (iz 2) ((kk o).map (·.den ι)) := by
  have hm := (d_may0 hp).1 h
  refine cnt_kinds fun x hx => ?_
  rw [List.map_map] at hx
  obtain ⟨i, hi, rfl⟩ := List.mem_map.1 hx
  have := hm.2.2.1 i (List.mem_range.1 hi)
  rw [rng_get (by have := List.mem_range.1 hi; omega)] at this
  have e : (v (o + (1 + 4 * i))).den ι = (v (o + 1 + 4 * i)).den ι := by rw [Nat.add_assoc]
  rw [e] at this
  rcases this with h | h | h
  · exact Or.inl h.1
  · exact Or.inr (Or.inl h.1)
  · exact Or.inr (Or.inr h.1)
theorem cntQ_zero {p : Int → Bool} : ∀ {l : List Int}, (∀ x ∈ l, ¬ p x = true) → cntQ p l = 0
  | [], _ => rfl
  | x :: l, h => by
    rw [cntQ, if_neg (h x List.mem_cons_self), cntQ_zero fun y hy => h y (List.mem_cons_of_mem _ hy)]
    rfl
theorem cell_same {ι : Unk} {a b : Nat} {i : IE} {k : IntKind} (h : ι.fr a = ι.fr b) : (eqI (.wrap k (.cell a i)) (.wrap k (.cell b i))).den ι = true := by
  rw [n_eql, n_wrap, n_wrap, n_cell, n_cell, h]
theorem lkind_i {i : Nat} (h : i % 4 ≠ 0) : lkind i = .i64 := by
  unfold lkind
  rw [if_neg (by simp [h])]
theorem lkind_u {i : Nat} (h : i % 4 = 0) (h0 : 0 < i) : lkind i = .u64 := by
  unfold lkind
  rw [if_pos (by simp [h, h0])]
theorem looksRules_ok (ι : Unk) (hp : ι.prd = prd) : ∀ r ∈ looksRules, ROk ι r := by
  refine all_append (fun x hx => ?_) (all_cons ?_ (all_cons ?_ (all_cons ?_ (all_cons ?_ (all_cons ?_ (all_cons ?_ (all_cons ?_ (all_cons ?_ (all_cons ?_ (all_cons ?_ (all_cons ?_ (all_cons ?_ (all_cons ?_ (all_cons ?_ (all_cons ?_ (all_cons ?_ (all_cons ?_ (all_cons ?_ all_nil))))))))))))))))))
  · obtain ⟨k, hk, hx⟩ := List.mem_flatMap.1 hx
    obtain ⟨j, hj, rfl⟩ := List.mem_map.1 hx
    have hk := List.mem_range.1 hk
    have hj := List.mem_range.1 hj
    intro hf h
    simp only [List.mem_cons, List.not_mem_nil, or_false, forall_eq_or_imp, forall_eq, n_neq, n_n, d_among hp, d_cnt hp] at hf h
    obtain ⟨⟨i, hi, h0, h1, h2, h3, h4⟩, hc⟩ := hf
    rw [law_get (by omega)] at h0 h1 h2 h3 h4
    have hik : i = k := cntQ_one (p := nz) (by decide) hc.symm (nz_t.2 (by rw [lawK_get hi, Nat.add_comm]; exact h0)) (nz_t.2 (by rw [lawK_get hk]; exact h))
    subst hik
    rw [n_eql]
    have e : j = 0 ∨ j = 1 ∨ j = 2 ∨ j = 3 := by omega
    rcases e with rfl | rfl | rfl | rfl
    · rw [show v (2 + 0) = v 2 from rfl, h1, show 1 + 4 * i + 0 = 4 * i + 1 by omega]
      have hk : lkind (4 * i + 1) = .i64 := lkind_i (by omega)
      rw [n_wrap, hk, wrap2]
    · rw [show v (2 + 1) = v 3 from rfl, h2, show 1 + 4 * i + 1 = 4 * i + 1 + 1 by omega]
      have hk : lkind (4 * i + 1 + 1) = .i64 := lkind_i (by omega)
      rw [n_wrap, hk, wrap2]
    · rw [show v (2 + 2) = v 4 from rfl, h3, show 1 + 4 * i + 2 = 4 * i + 2 + 1 by omega]
      have hk : lkind (4 * i + 2 + 1) = .i64 := lkind_i (by omega)
      rw [n_wrap, hk, wrap2]
    · rw [show v (2 + 3) = v 5 from rfl, h4, show 1 + 4 * i + 3 = 4 * i + 3 + 1 by omega]
      have hk : lkind (4 * i + 3 + 1) = .u64 := lkind_u (by omega) (by omega)
      rw [n_wrap, hk, wrap2]
  · intro hf h
    simp only [List.mem_cons, List.not_mem_nil, or_false, forall_eq, n_n, d_cnt hp] at hf
    rw [cntQ_zero] at hf
    · cases hf
    · intro x hx
      rw [List.map_map] at hx
      obtain ⟨i, hi, rfl⟩ := List.mem_map.1 hx
      have := h _ (List.mem_map.2 ⟨i, hi, rfl⟩)
      rw [n_not, n_neq, n_n] at this
      exact fun e => this (nz_t.1 e)
  all_goals intro hf h
  all_goals simp only [List.mem_cons, List.not_mem_nil, or_false, forall_eq_or_imp, forall_eq, n_not, n_eql, n_neq, n_geq, n_lss, n_n, d_cnt hp, d_cntE hp] at hf h
  · rw [n_not, n_eql]
    intro e
    rw [e] at h
    exact h.2 h.1
  · rw [n_lss, n_dif, n_dif, n_off, n_n]; omega
  · rw [n_geq, n_dif, n_n]; omega
  · rw [n_eql, hf.1, hf.2]
  · rw [n_eql, hf.2, ← hf.1]; rfl
  · rw [n_not, n_eql, hf.2, n_n]
    exact fun e => hf.1 e.symm
  · rw [n_eql, hf.1, hf.2]
  · rw [n_eql, hf.1, hf.2]
  · exact absurd h (by omega)
  · exact absurd h (by omega)
  · have := may_kinds hp hf.1
    rw [n_eql, n_off]; omega
  · have := may_kinds hp hf.1
    rw [n_eql]; omega
  · have := may_kinds hp hf.1
    rw [n_eql]; omega
  · have := may_kinds hp hf.1
    rw [n_not, n_neq, n_n]; omega
  · have h1 := (d_keys hp (k := 16) (o := 3)).1 hf.1
    have h2 := (d_keys hp (k := 16) (o := 3)).1 hf.2
    exact cell_same (h1.trans h2.symm)
  · have h1 := (d_nodes hp (k := 16) (o := 3)).1 hf.1
    have h2 := (d_nodes hp (k := 16) (o := 3)).1 hf.2
    exact cell_same (h1.trans h2.symm)
  · have h1 := (d_nodes hp (k := 16) (o := 3)).1 hf.1
    have h2 := (d_nodes hp (k := 16) (o := 3)).1 hf.2
    exact cell_same (h1.trans h2.symm)
theorem pick {ι : Unk} (b : BE) : b.den ι = true ∨ (BE.not b).den ι = true := by
  cases h : b.den ι with
  | true => exact Or.inl rfl
  | false => exact Or.inr (n_not.2 (by rw [h]; decide))
theorem first_ok {ι : Unk} : ∀ K : Nat, K ≤ 16 → (∃ i, i < K ∧ ∀ b ∈ first1 i, b.den ι = true) ∨ ∀ k, k < K → (BE.not (.cmp .neq (L0 (1 + 4 * k)) (.lit 0))).den ι = true
  | 0, _ => Or.inr fun k hk => by omega
  | K + 1, hK => by
    rcases first_ok K (by omega) with ⟨i, hi, h⟩ | h
    · exact Or.inl ⟨i, by omega, h⟩
    · rcases pick (ι := ι) (.cmp .neq (L0 (1 + 4 * K)) (.lit 0)) with h1 | h1
      · refine Or.inl ⟨K, by omega, ?_⟩
        unfold first1
        rw [if_pos (by omega)]
        refine all_append (fun b hb => ?_) (all_cons h1 all_nil)
        obtain ⟨k, hk, rfl⟩ := List.mem_map.1 hb
        exact h k (List.mem_range.1 hk)
      · refine Or.inr fun k hk => ?_
        by_cases e : k = K
        · subst e; exact h1
        · exact h k (by omega)
theorem lead_ok {ι : Unk} : ∃ g, g < 18 ∧ ∀ b ∈ lead1 g, b.den ι = true := by
  rcases pick (ι := ι) one1 with h1 | h1
  · rcases first_ok (ι := ι) 16 (Nat.le_refl _) with ⟨i, hi, h⟩ | h
    · refine ⟨i, by omega, ?_⟩
      unfold lead1
      rw [if_pos (by omega)]
      exact all_cons h1 h
    · refine ⟨16, by omega, ?_⟩
      unfold lead1
      rw [if_pos (by omega)]
      refine all_cons h1 ?_
      unfold first1
      rw [if_neg (by omega), List.append_nil]
      intro b hb
      obtain ⟨k, hk, rfl⟩ := List.mem_map.1 hb
      exact h k (List.mem_range.1 hk)
  · refine ⟨17, by omega, ?_⟩
    unfold lead1
    rw [if_neg (by omega)]
    exact all_cons h1 all_nil
theorem csLooks_ne (fl : List Bool) : csLooks fl ≠ [] := by
  intro h
  have : (looksGrp 0).head? = none := by
    have hm : ∀ x ∈ looksGrp 0, x ∈ csLooks fl := fun x hx => List.mem_flatMap.2 ⟨0, List.mem_range.2 (by omega), hx⟩
    rw [h] at hm
    exact absurd (hm _ List.mem_cons_self) (List.not_mem_nil)
  cases this
theorem csLooks_ok (fl : List Bool) (ι : Unk) (_ : ι.prd = prd) : ∃ fs ∈ csLooks fl, ∀ b ∈ fs, b.den ι = true := by
  obtain ⟨g, hg, h⟩ := lead_ok (ι := ι)
  rcases pick (ι := ι) no1 with h1 | h1 <;> rcases pick (ι := ι) no2 with h2 | h2
  · refine ⟨_, List.mem_flatMap.2 ⟨4 * g, List.mem_range.2 (by omega), List.mem_cons_self⟩, ?_⟩
    rw [if_pos (by omega), if_pos (by omega), show 4 * g / 4 = g by omega]
    exact all_cons h1 (all_cons h2 h)
  · refine ⟨_, List.mem_flatMap.2 ⟨4 * g + 1, List.mem_range.2 (by omega), List.mem_cons_self⟩, ?_⟩
    rw [if_pos (by omega), if_neg (by omega), show (4 * g + 1) / 4 = g by omega]
    exact all_cons h1 (all_cons h2 h)
  · refine ⟨_, List.mem_flatMap.2 ⟨4 * g + 2, List.mem_range.2 (by omega), List.mem_cons_self⟩, ?_⟩
    rw [if_neg (by omega), if_pos (by omega), show (4 * g + 2) / 4 = g by omega]
    exact all_cons h1 (all_cons h2 h)
  · refine ⟨_, List.mem_flatMap.2 ⟨4 * g + 3, List.mem_range.2 (by omega), List.mem_cons_self⟩, ?_⟩
    rw [if_neg (by omega), if_neg (by omega), show (4 * g + 3) / 4 = g by omega]
    exact all_cons h1 (all_cons h2 h)
theorem where_ok {ι : Unk} (e : IE) : ∃ i, i < 18 ∧ (where1 e i).den ι = true := by
  by_cases h0 : e.den ι < 0
  · exact ⟨16, by omega, n_lss.2 h0⟩
  · by_cases h1 : 15 < e.den ι
    · exact ⟨17, by omega, n_gtr.2 h1⟩
    · refine ⟨(e.den ι).toNat, by omega, ?_⟩
      unfold where1
      rw [if_neg (by omega), if_neg (by omega), n_eql, n_n]
      omega
theorem csParts_ne (fl : List Bool) : csParts fl ≠ [] := by
  intro h
  have : [where1 aV 0, where1 bV 0] ∈ csParts fl := List.mem_flatMap.2 ⟨0, List.mem_range.2 (by omega), List.mem_map.2 ⟨0, List.mem_range.2 (by omega), rfl⟩⟩
  rw [h] at this
  cases this
theorem csParts_ok (fl : List Bool) (ι : Unk) (_ : ι.prd = prd) : ∃ fs ∈ csParts fl, ∀ b ∈ fs, b.den ι = true := by
  obtain ⟨i, hi, h1⟩ := where_ok (ι := ι) aV
  obtain ⟨j, hj, h2⟩ := where_ok (ι := ι) bV
  exact ⟨_, List.mem_flatMap.2 ⟨i, List.mem_range.2 hi, List.mem_map.2 ⟨j, List.mem_range.2 hj, rfl⟩⟩, all_cons h1 (all_cons h2 all_nil)⟩

def kn_fMay : Kn := { cons := [] }
theorem known_fMay : Known Tryd.prog kn_fMay ⟨0, prd⟩ := ⟨fun f hf => (by cases hf), all_nil⟩
set_option maxRecDepth 100000 in
theorem ran_fMay_0 : fnRun Tryd.prog true kn_fMay 300 60 fMay cfgMl [] = true := by kernel_rfl
theorem ok_fMay : FnOk Tryd.prog prd fMay := fn_ok (dr := true) (kn := kn_fMay) (fuel := 300) (d := 60) (cfg := cfgMl) plain known_fMay (fun _ call hC => anyOk (by kernel_rfl) plain hC) (rules_of mlRules_ok) (cs := [[]]) (fun _ _ _ _ => cov_one trivial) (all_cons ran_fMay_0 all_nil)

def kn_fRMay : Kn := { cons := [] }
theorem known_fRMay : Known Tryd.prog kn_fRMay ⟨0, prd⟩ := ⟨fun f hf => (by cases hf), all_nil⟩
set_option maxRecDepth 100000 in
theorem ran_fRMay_0 : fnRun Tryd.prog true kn_fRMay 300 60 fRMay cfgMl [] = true := by kernel_rfl
theorem ok_fRMay : FnOk Tryd.prog prd fRMay := fn_ok (dr := true) (kn := kn_fRMay) (fuel := 300) (d := 60) (cfg := cfgMl) plain known_fRMay (fun _ call hC => anyOk (by kernel_rfl) plain hC) (rules_of mlRules_ok) (cs := [[]]) (fun _ _ _ _ => cov_one trivial) (all_cons ran_fRMay_0 all_nil)

def kn_fCount : Kn := { cons := [] }
theorem known_fCount : Known Tryd.prog kn_fCount ⟨0, prd⟩ := ⟨fun f hf => (by cases hf), all_nil⟩
set_option maxRecDepth 100000 in
theorem ran_fCount_0 : fnRun Tryd.prog true kn_fCount 300 60 fCount cfgCnt [] = true := by kernel_rfl
theorem ok_fCount : FnOk Tryd.prog prd fCount := fn_ok (dr := true) (kn := kn_fCount) (fuel := 300) (d := 60) (cfg := cfgCnt) plain known_fCount (fun _ call hC => anyOk (by kernel_rfl) plain hC) (rules_of cntRules_ok) (cs := [[]]) (fun _ _ _ _ => cov_one trivial) (all_cons ran_fCount_0 all_nil)

def kn_fRCount : Kn := { cons := [] }
theorem known_fRCount : Known Tryd.prog kn_fRCount ⟨0, prd⟩ := ⟨fun f hf => (by cases hf), all_nil⟩
set_option maxRecDepth 100000 in
theorem ran_fRCount_0 : fnRun Tryd.prog true kn_fRCount 300 60 fRCount cfgCnt [] = true := by kernel_rfl
theorem ok_fRCount : FnOk Tryd.prog prd fRCount := fn_ok (dr := true) (kn := kn_fRCount) (fuel := 300) (d := 60) (cfg := cfgCnt) plain known_fRCount (fun _ call hC => anyOk (by kernel_rfl) plain hC) (rules_of cntRules_ok) (cs := [[]]) (fun _ _ _ _ => cov_one trivial) (all_cons ran_fRCount_0 all_nil)

def kn_fMayN : Kn := { cons := [fMay.con, fCount.con] }
theorem known_fMayN : Known Tryd.prog kn_fMayN ⟨0, prd⟩ := ⟨fun f hf => (by cases hf), (all_cons (con_ok ok_fMay) (all_cons (con_ok ok_fCount) all_nil))⟩
set_option maxRecDepth 100000 in
theorem ran_fMayN_0 : fnRun Tryd.prog true kn_fMayN 300 60 fMayN cfgMay [] = true := by kernel_rfl
theorem ok_fMayN : FnOk Tryd.prog prd fMayN := fn_ok (dr := true) (kn := kn_fMayN) (fuel := 300) (d := 60) (cfg := cfgMay) plain known_fMayN (fun _ call hC => anyOk (by kernel_rfl) plain hC) (rules_of mayRules_ok) (cs := [[]]) (fun _ _ _ _ => cov_one trivial) (all_cons ran_fMayN_0 all_nil)

def kn_fRMayN : Kn := { cons := [fRMay.con, fRCount.con] }
theorem known_fRMayN : Known Tryd.prog kn_fRMayN ⟨0, prd⟩ := ⟨fun f hf => (by cases hf), (all_cons (con_ok ok_fRMay) (all_cons (con_ok ok_fRCount) all_nil))⟩
set_option maxRecDepth 100000 in
theorem ran_fRMayN_0 : fnRun Tryd.prog true kn_fRMayN 300 60 fRMayN cfgMay [] = true := by kernel_rfl
theorem ok_fRMayN : FnOk Tryd.prog prd fRMayN := fn_ok (dr := true) (kn := kn_fRMayN) (fuel := 300) (d := 60) (cfg := cfgMay) plain known_fRMayN (fun _ call hC => anyOk (by kernel_rfl) plain hC) (rules_of mayRules_ok) (cs := [[]]) (fun _ _ _ _ => cov_one trivial) (all_cons ran_fRMayN_0 all_nil)

def kn_fOnly : Kn := { cons := [] }
theorem known_fOnly : Known Tryd.prog kn_fOnly ⟨0, prd⟩ := ⟨fun f hf => (by cases hf), all_nil⟩
set_option maxRecDepth 100000 in
theorem ran_fOnly_0 : fnRun Tryd.prog true kn_fOnly 300 60 fOnly cfgOnly [] = true := by kernel_rfl
theorem ok_fOnly : FnOk Tryd.prog prd fOnly := fn_ok (dr := true) (kn := kn_fOnly) (fuel := 300) (d := 60) (cfg := cfgOnly) plain known_fOnly (fun _ call hC => anyOk (by kernel_rfl) plain hC) (rules_of onlyRules_ok) (cs := [[]]) (fun _ _ _ _ => cov_one trivial) (all_cons ran_fOnly_0 all_nil)

def kn_fKeys : Kn := { cons := [] }
theorem known_fKeys : Known Tryd.prog kn_fKeys ⟨0, prd⟩ := ⟨fun f hf => (by cases hf), all_nil⟩
set_option maxRecDepth 100000 in
theorem ran_fKeys_0 : fnRun Tryd.prog true kn_fKeys 300 60 fKeys (cfgKeys (26, 3, 1) 12 7 bdP) [] = true := by kernel_rfl
theorem ok_fKeys : FnOk Tryd.prog prd fKeys := fn_ok (dr := true) (kn := kn_fKeys) (fuel := 300) (d := 60) (cfg := (cfgKeys (26, 3, 1) 12 7 bdP)) plain known_fKeys (fun _ call hC => anyOk (by kernel_rfl) plain hC) (rules_of keysRules_ok) (cs := [[]]) (fun _ _ _ _ => cov_one trivial) (all_cons ran_fKeys_0 all_nil)

def kn_fRKeys : Kn := { cons := [] }
theorem known_fRKeys : Known Tryd.prog kn_fRKeys ⟨0, prd⟩ := ⟨fun f hf => (by cases hf), all_nil⟩
set_option maxRecDepth 100000 in
theorem ran_fRKeys_0 : fnRun Tryd.prog true kn_fRKeys 300 60 fRKeys (cfgKeys (24, 3, 2) 4 3 bdR) [] = true := by kernel_rfl
theorem ok_fRKeys : FnOk Tryd.prog prd fRKeys := fn_ok (dr := true) (kn := kn_fRKeys) (fuel := 300) (d := 60) (cfg := (cfgKeys (24, 3, 2) 4 3 bdR)) plain known_fRKeys (fun _ call hC => anyOk (by kernel_rfl) plain hC) (rules_of keysRules_ok) (cs := [[]]) (fun _ _ _ _ => cov_one trivial) (all_cons ran_fRKeys_0 all_nil)

def kn_fNodes : Kn := { cons := [] }
theorem known_fNodes : Known Tryd.prog kn_fNodes ⟨0, prd⟩ := ⟨fun f hf => (by cases hf), all_nil⟩
set_option maxRecDepth 100000 in
theorem ran_fNodes_0 : fnRun Tryd.prog true kn_fNodes 300 60 fNodes (cfgNodes (26, 3, 1) 12 7 bdP) [] = true := by kernel_rfl
theorem ok_fNodes : FnOk Tryd.prog prd fNodes := fn_ok (dr := true) (kn := kn_fNodes) (fuel := 300) (d := 60) (cfg := (cfgNodes (26, 3, 1) 12 7 bdP)) plain known_fNodes (fun _ call hC => anyOk (by kernel_rfl) plain hC) (rules_of nodesRules_ok) (cs := [[]]) (fun _ _ _ _ => cov_one trivial) (all_cons ran_fNodes_0 all_nil)

def kn_fRNodes : Kn := { cons := [] }
theorem known_fRNodes : Known Tryd.prog kn_fRNodes ⟨0, prd⟩ := ⟨fun f hf => (by cases hf), all_nil⟩
set_option maxRecDepth 100000 in
theorem ran_fRNodes_0 : fnRun Tryd.prog true kn_fRNodes 300 60 fRNodes (cfgNodes (24, 3, 2) 4 3 bdR) [] = true := by kernel_rfl
theorem ok_fRNodes : FnOk Tryd.prog prd fRNodes := fn_ok (dr := true) (kn := kn_fRNodes) (fuel := 300) (d := 60) (cfg := (cfgNodes (24, 3, 2) 4 3 bdR)) plain known_fRNodes (fun _ call hC => anyOk (by kernel_rfl) plain hC) (rules_of nodesRules_ok) (cs := [[]]) (fun _ _ _ _ => cov_one trivial) (all_cons ran_fRNodes_0 all_nil)

def lawCfg : List Bool → Cfg := fun _ => cfgLooks
def knLaw : Kn := { kn := some 14, cons := [fMayN.con, fRMayN.con, fCount.con, fRCount.con, fOnly.con, fKeys.con, fRKeys.con, fNodes.con, fRNodes.con] }
theorem knows : Known Tryd.prog knLaw ⟨0, prd⟩ := ⟨knows1, (all_cons (con_ok ok_fMayN) (all_cons (con_ok ok_fRMayN) (all_cons (con_ok ok_fCount) (all_cons (con_ok ok_fRCount) (all_cons (con_ok ok_fOnly) (all_cons (con_ok ok_fKeys) (all_cons (con_ok ok_fRKeys) (all_cons (con_ok ok_fNodes) (all_cons (con_ok ok_fRNodes) all_nil)))))))))⟩

theorem lawRules (fl : List Bool) (ι : Unk) (hp : ι.prd = prd) : RulesOk (lawCfg fl).rules ι := (fun _ => rules_of looksRules_ok) fl ι hp

def cs : List Bool → List (List BE) := csLooks

theorem cs_ne (fl : List Bool) : cs fl ≠ [] := csLooks_ne fl

theorem cs_ok (fl : List Bool) (ι : Unk) (hp : ι.prd = prd) : ∃ fs ∈ cs fl, ∀ b ∈ fs, b.den ι = true := csLooks_ok fl ι hp

end Go.Proofs.YteiahcfamadkoaaDoor.nodeLooks
