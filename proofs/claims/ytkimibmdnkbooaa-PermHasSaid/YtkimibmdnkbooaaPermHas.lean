/-
  PermHas holds: whatever the input, the call returns true and what it was given reads as before; by a walker that computes in the kernel with unknowns, and whose soundness is proved in the texts beside this one.
-/
import Derived.Test.YtkimibmdnkbooaaRows
import Derived.Test.YtkimibmdnkbooaaSzPf
import Derived.WalkKit
import Derived.ProofKit
import Derived.OpenShut
namespace Go.Proofs.Ytkimibmdnkbooaa.permHas
open Go.Sx Go.ChangeShapes Go.WideShapes Go.ChangeAt Go.RowKit
set_option linter.unusedVariables false

theorem own : ownKnob Try.prog.godebug = none := by kernel_rfl

theorem plain : plainNames Try.prog = true := by kernel_rfl

set_option maxRecDepth 100000 in
theorem ranKnown : allTrue (runCall Try.prog true {} 300 60 false 12 [] Hp.nil []) = true := by kernel_rfl

theorem knows1 : Known1 Try.prog (some 12) := by
  intro f hf w
  injection hf with hf
  subst hf
  exact calls_true (dr := true) (kn := {}) (fuel := 300) (d := 60) (args := []) (xs := []) (ι := io []) (pc := []) w plain known_none (fun _ call hC => anyOk (by kernel_rfl) plain hC) ranKnown rfl (fun _ h => by cases h)

abbrev ge (a : IE) (n : Int) : BE := .cmp .geq a (.lit n)
abbrev le (a : IE) (n : Int) : BE := .cmp .leq a (.lit n)
abbrev lt (a : IE) (n : Int) : BE := .cmp .lss a (.lit n)
abbrev v (i : Nat) : IE := .fv i
abbrev pByte (p i r : IE) : BE := .usr 0 [p, i, r] [] []
abbrev pHas (b r : IE) : BE := .usr 1 [b, r] [] []
abbrev pInv (R out p at' q : IE) : BE := .usr 2 [R, out, p, at', q] [] []
abbrev pRights (p U G u g q r : IE) : BE := .usr 4 [p, U, G, u, g, q, r] [] []
abbrev pAt (at' U u G g : IE) : BE := .usr 5 [at', U, u, G, g] [] []
abbrev pMay (p : IE) : BE := .usr 6 [p] [] []
abbrev i64 : Sh := .leaf (.int .i64)
abbrev u32 : Sh := .leaf (.int .u32)
def fByte : Fs := { f := 25, shs := [u32, i64], pre := [ge (v 1) 0, le (v 1) 3], alts := [{ rets := [i64], post := [pByte (v 0) (v 1) (v 2), ge (v 2) 0, le (v 2) 255] }] }
def fHas : Fs := { f := 26, shs := [i64, i64], pre := [ge (v 0) 0, ge (v 1) 1], res := some (pHas (v 0) (v 1)) }
def rightsShs : List Sh := [u32, .agg [.int .i64, .int .i64, .int .i64], i64, i64, .leaf .bool]
def fRef : Fs := { f := 11, shs := rightsShs, alts := [{ rets := [i64], post := [pRights (v 0) (v 1) (v 2) (v 4) (v 5) (v 6) (v 7), ge (v 7) 0, le (v 7) 63] }] }
def fRights : Fs := { f := 10, shs := rightsShs, alts := [{ rets := [.leaf (.int .u8)], post := [pRights (v 0) (v 1) (v 2) (v 4) (v 5) (v 6) (v 7)] }] }
def fMay : Fs := { f := 8, shs := [u32], res := some (pMay (v 0)) }
def fRefMay : Fs := { f := 9, shs := [u32], res := some (pMay (v 0)) }
abbrev bad (l : List Nat) : List (Nat × AV) := l.map fun i => (i, AV.poison)
abbrev upto (a b : Nat) : List Nat := (List.range (b + 1 - a)).map (· + a)
def refHead : Ann := { key := (44, 8, 2), heads := [{ nf := 3, src := [.int 13, .int 12, .int 11], bsrc := [], tm := fun m _ => (13, .int .i64 (v m)) :: (12, .int .i64 (v (m + 1))) :: (11, .int .i64 (v (m + 2))) :: bad (upto 22 42), bl := fun _ _ => [], nb := fun _ _ => [], inv := fun m _ => [ge (v m) 1, le (v m) 64, ge (v (m + 1)) 0, le (v (m + 1)) 64, ge (v (m + 2)) 1, le (v (m + 2)) 3, pInv (v m) (v (m + 1)) (v 0) (v (m + 2)) (v 6), pAt (v (m + 2)) (v 1) (v 4) (v 2) (v 5)], ms := fun m _ => .dif (.lit 64) (v m) }] }
def quo (a : IE) : IE := .bin .quo .i64 a (.lit 256)
abbrev rule (find pre : List BE) (con : BE) : Rule := { pat := true, find, pre, con }
def byteRules : List Rule := [
  rule [] [.cmp .eql (v 1) (.lit 0), ge (v 0) 0, le (v 0) 4294967295] (pByte (v 0) (v 1) (.bin .rem .i64 (quo (quo (quo (v 0)))) (.lit 256))),
  rule [] [.cmp .eql (v 1) (.lit 1), ge (v 0) 0, le (v 0) 4294967295] (pByte (v 0) (v 1) (.bin .rem .i64 (quo (quo (v 0))) (.lit 256))),
  rule [] [.cmp .eql (v 1) (.lit 2), ge (v 0) 0, le (v 0) 4294967295] (pByte (v 0) (v 1) (.bin .rem .i64 (quo (v 0)) (.lit 256))),
  rule [] [.cmp .eql (v 1) (.lit 3), ge (v 0) 0, le (v 0) 4294967295] (pByte (v 0) (v 1) (.bin .rem .i64 (v 0) (.lit 256))) ]
abbrev big : Int := 9223372036854775807
abbrev u32max : Int := 4294967295
def hasRules : List Rule := [
  rule [] [ge (v 0) 0, ge (v 1) 1, le (v 0) big] (.same (.cmp .eql (.bin .rem .i64 (.bin .quo .i64 (v 0) (v 1)) (.lit 2)) (.lit 1)) (pHas (v 0) (v 1))) ]
/-- A byte, as the program cuts it. -/
abbrev cutB (p : IE) (n : Nat) : IE := if n = 0 then .wrap .u8 p else .wrap .u8 (.bin .shr .u32 p (.lit (n : Nat)))
abbrev gt63 (a : IE) : BE := .cmp .gtr a (.lit 63)
abbrev isU32 (p : IE) : List BE := [ge p 0, le p u32max]
def mayRules : List Rule := [
  rule [] (gt63 (cutB (v 0) 24) :: isU32 (v 0)) (.not (pMay (v 0))),
  rule [] (gt63 (cutB (v 0) 16) :: isU32 (v 0)) (.not (pMay (v 0))),
  rule [] (gt63 (cutB (v 0) 8) :: isU32 (v 0)) (.not (pMay (v 0))),
  rule [] (gt63 (cutB (v 0) 0) :: isU32 (v 0)) (.not (pMay (v 0))),
  rule [] (.not (gt63 (cutB (v 0) 24)) :: .not (gt63 (cutB (v 0) 16)) :: .not (gt63 (cutB (v 0) 8)) :: .not (gt63 (cutB (v 0) 0)) :: isU32 (v 0)) (pMay (v 0)),
  rule [pByte (v 0) (v 1) (v 2)] [gt63 (v 2), ge (v 1) 0, le (v 1) 3] (.not (pMay (v 0))),
  rule [pByte (v 0) (.lit 0) (v 1), pByte (v 0) (.lit 1) (v 2), pByte (v 0) (.lit 2) (v 3), pByte (v 0) (.lit 3) (v 4)] [.not (gt63 (v 1)), .not (gt63 (v 2)), .not (gt63 (v 3)), .not (gt63 (v 4))] (pMay (v 0)) ]
/-- Of a mask, a user, a group, an owner, the key's group, who possesses: by which byte. -/
abbrev whose (n : Nat) : List BE := if n = 16 then [.cmp .eql (v 1) (v 3)] else if n = 8 then [.not (.cmp .eql (v 1) (v 3)), .cmp .eql (v 2) (v 4)] else [.not (.cmp .eql (v 1) (v 3)), .not (.cmp .eql (v 2) (v 4))]
abbrev isQ (q : IE) : BE := .cmp .eql q (.lit 1)
def rightsRule (n : Nat) (q : Bool) : Rule :=
  rule [] ((if q then isQ (v 5) else .not (isQ (v 5))) :: whose n ++ isU32 (v 0)) (pRights (v 0) (v 1) (v 2) (v 3) (v 4) (v 5) (.bin .and .u8 (if q then .bin .or .u8 (cutB (v 0) n) (cutB (v 0) 24) else cutB (v 0) n) (.lit 63)))
def rightsRules : List Rule := [rightsRule 16 true, rightsRule 16 false, rightsRule 8 true, rightsRule 8 false, rightsRule 0 true, rightsRule 0 false,
  rule [pRights (v 0) (v 1) (v 2) (v 3) (v 4) (v 5) (v 6), pRights (v 0) (v 1) (v 2) (v 3) (v 4) (v 5) (v 7)] [] (.cmp .eql (v 6) (v 7))]
/-- R 0, out 1, p 2, at 3, q 4; bytes 5, 6. -/
def stepRules : List Rule := [
  rule [] [ge (v 0) 1] (.cmp .lss (.dif (.lit 64) (.lin (v 0) 2 0)) (.dif (.lit 64) (v 0))),
  rule [pInv (v 0) (v 1) (v 2) (v 3) (v 4)] [lt (v 0) 64] (le (.lin (v 0) 2 0) 64),
  rule [pInv (v 0) (v 1) (v 2) (v 3) (v 4)] [lt (v 0) 64] (le (.off (v 1) (v 0)) 64),
  rule [] [] (pInv (.lit 1) (.lit 0) (v 0) (v 1) (v 2)),
  rule [pInv (v 0) (v 1) (v 2) (v 3) (v 4), pByte (v 2) (v 3) (v 5)] [lt (v 0) 64, pHas (v 5) (v 0)] (pInv (.lin (v 0) 2 0) (.off (v 1) (v 0)) (v 2) (v 3) (v 4)),
  rule [pInv (v 0) (v 1) (v 2) (v 3) (v 4), pByte (v 2) (.lit 0) (v 5)] [lt (v 0) 64, isQ (v 4), pHas (v 5) (v 0)] (pInv (.lin (v 0) 2 0) (.off (v 1) (v 0)) (v 2) (v 3) (v 4)),
  rule [pInv (v 0) (v 1) (v 2) (v 3) (v 4), pByte (v 2) (v 3) (v 5)] [lt (v 0) 64, .not (pHas (v 5) (v 0)), .not (isQ (v 4))] (pInv (.lin (v 0) 2 0) (v 1) (v 2) (v 3) (v 4)),
  rule [pInv (v 0) (v 1) (v 2) (v 3) (v 4), pByte (v 2) (v 3) (v 5), pByte (v 2) (.lit 0) (v 6)] [lt (v 0) 64, .not (pHas (v 5) (v 0)), .not (pHas (v 6) (v 0))] (pInv (.lin (v 0) 2 0) (v 1) (v 2) (v 3) (v 4)),
  rule [] [.cmp .eql (v 0) (v 1)] (pAt (.lit 1) (v 0) (v 1) (v 2) (v 3)),
  rule [] [.not (.cmp .eql (v 0) (v 1)), .cmp .eql (v 2) (v 3)] (pAt (.lit 2) (v 0) (v 1) (v 2) (v 3)),
  rule [] [.not (.cmp .eql (v 0) (v 1)), .not (.cmp .eql (v 2) (v 3))] (pAt (.lit 3) (v 0) (v 1) (v 2) (v 3)),
  rule [pInv (v 7) (v 6) (v 0) (v 8) (v 5), pAt (v 8) (v 1) (v 3) (v 2) (v 4)] [.not (lt (v 7) 64)] (pRights (v 0) (v 1) (v 2) (v 3) (v 4) (v 5) (v 6)),
  rule [pInv (v 1) (v 0) (v 2) (v 3) (v 4)] [.not (lt (v 1) 64)] (le (v 0) 63) ]
def rules : List Rule := byteRules ++ hasRules ++ mayRules ++ rightsRules ++ stepRules
def cfg : Cfg := { rules }
def cfgRef : Cfg := { rules, anns := [refHead] }
/-! ### Among -/
abbrev u8 : Sh := .leaf (.int .u8)
abbrev pSub (r w : IE) : BE := .usr 7 [r, w] [] []
abbrev pHInv (R r w : IE) : BE := .usr 8 [R, r, w] [] []
abbrev pName (r : IE) (t : TX) : BE := .usr 9 [r] [t] []
abbrev pAmong (p q : IE) : BE := .usr 10 [p, q] [] []
def fPHas : Fs := { f := 13, shs := [u8, u8], res := some (pSub (v 0) (v 1)) }
def fRHas : Fs := { f := 14, shs := [i64, i64], pre := [ge (v 0) 0, le (v 0) 255, ge (v 1) 0, le (v 1) 255], res := some (pSub (v 0) (v 1)) }
def fName : Fs := { f := 15, shs := [u8], alts := [{ rets := [.leaf .txt], post := [pName (v 0) (.fv 1)] }] }
def fRName : Fs := { f := 16, shs := [i64], pre := [ge (v 0) 0, le (v 0) 255], alts := [{ rets := [.leaf .txt], post := [pName (v 0) (.fv 1)] }] }
def fAmong : Fs := { f := 21, shs := [u32, u32], res := some (pAmong (v 0) (v 1)) }
def fRAmong : Fs := { f := 22, shs := [u32, u32], res := some (pAmong (v 0) (v 1)) }
def hasHead : Ann := { key := (19, 2, 2), heads := [{ nf := 1, src := [.int 5], bsrc := [], tm := fun m _ => (5, .int .i64 (v m)) :: bad (upto 6 18), bl := fun _ _ => [], nb := fun _ _ => [], inv := fun m _ => [ge (v m) 1, le (v m) 256, pHInv (v m) (v 0) (v 1)], ms := fun m _ => .dif (.lit 256) (v m) }] }
abbrev isU8 (p : IE) : List BE := [ge p 0, le p 255]
def subRules : List Rule := [
  rule [] [ge (v 0) 1] (.cmp .lss (.dif (.lit 256) (.lin (v 0) 2 0)) (.dif (.lit 256) (v 0))),
  rule [pHInv (v 0) (v 1) (v 2)] [lt (v 0) 256] (le (.lin (v 0) 2 0) 256),
  rule [] [] (pHInv (.lit 1) (v 0) (v 1)),
  rule [pHInv (v 0) (v 1) (v 2)] [lt (v 0) 256, pHas (v 1) (v 0), ge (v 1) 0] (pHInv (.lin (v 0) 2 0) (v 1) (v 2)),
  rule [pHInv (v 0) (v 1) (v 2)] [lt (v 0) 256, .not (pHas (v 2) (v 0)), ge (v 2) 0] (pHInv (.lin (v 0) 2 0) (v 1) (v 2)),
  rule [pHInv (v 0) (v 1) (v 2)] [lt (v 0) 256, pHas (v 2) (v 0), .not (pHas (v 1) (v 0)), ge (v 1) 0, ge (v 2) 0] (.not (pSub (v 1) (v 2))),
  rule [pHInv (v 0) (v 1) (v 2)] [.not (lt (v 0) 256), ge (v 2) 0, le (v 2) 255] (pSub (v 1) (v 2)),
  rule [] (isU8 (v 0) ++ isU8 (v 1)) (.same (.cmp .eql (.bin .and .u8 (v 0) (v 1)) (v 1)) (pSub (v 0) (v 1))),
  rule [] (isU8 (v 0) ++ isU8 (v 1)) (pSub (.bin .or .u8 (v 0) (v 1)) (v 1)),
  rule [] [] (pSub (v 0) (.lit 0)),
  rule [pName (v 0) (.fv 1), pName (v 0) (.fv 2)] [] (.teq (.fv 1) (.fv 2)) ]
def letterL : List UInt8 := [118, 114, 119, 115, 108, 97]
def nameOf (n : Nat) : List UInt8 := (List.range 6).map fun i => if n.testBit i then letterL.getD i 0 else 45
def sixBits (b : Nat → BE) (k : Nat) : List BE := (List.range 6).map fun i => if k.testBit i then b i else .not (b i)
def nameRule1 (k : Nat) : Rule := rule [] (ge (v 0) 0 :: sixBits (fun i => pSub (v 0) (.lit (2 ^ i : Nat))) k) (pName (v 0) (.lit (nameOf k)))
def nameRule2 (k : Nat) : Rule := rule [] (ge (v 0) 0 :: sixBits (fun i => pHas (v 0) (.lit (2 ^ i : Nat))) k) (pName (v 0) (.lit (nameOf k)))
def rules2 : List Rule := hasRules ++ subRules
def rulesN1 : List Rule := (List.range 64).map nameRule1
def rulesN2 : List Rule := (List.range 64).map nameRule2
def cfg2 : Cfg := { rules := rules2 }
def cfgHas : Cfg := { rules := rules2, anns := [hasHead] }
def amongRules : List Rule := [
  rule [] (.not (pSub (cutB (v 1) 24) (cutB (v 0) 24)) :: isU32 (v 0) ++ isU32 (v 1)) (.not (pAmong (v 0) (v 1))),
  rule [] (.not (pSub (cutB (v 1) 16) (cutB (v 0) 16)) :: isU32 (v 0) ++ isU32 (v 1)) (.not (pAmong (v 0) (v 1))),
  rule [] (.not (pSub (cutB (v 1) 8) (cutB (v 0) 8)) :: isU32 (v 0) ++ isU32 (v 1)) (.not (pAmong (v 0) (v 1))),
  rule [] (.not (pSub (cutB (v 1) 0) (cutB (v 0) 0)) :: isU32 (v 0) ++ isU32 (v 1)) (.not (pAmong (v 0) (v 1))),
  rule [] (pSub (cutB (v 1) 24) (cutB (v 0) 24) :: pSub (cutB (v 1) 16) (cutB (v 0) 16) :: pSub (cutB (v 1) 8) (cutB (v 0) 8) :: pSub (cutB (v 1) 0) (cutB (v 0) 0) :: isU32 (v 0) ++ isU32 (v 1)) (pAmong (v 0) (v 1)),
  rule [pByte (v 0) (v 2) (v 3), pByte (v 1) (v 2) (v 4)] [.not (pSub (v 4) (v 3)), ge (v 2) 0, le (v 2) 3] (.not (pAmong (v 0) (v 1))),
  rule [pByte (v 0) (.lit 0) (v 2), pByte (v 1) (.lit 0) (v 3), pByte (v 0) (.lit 1) (v 4), pByte (v 1) (.lit 1) (v 5), pByte (v 0) (.lit 2) (v 6), pByte (v 1) (.lit 2) (v 7), pByte (v 0) (.lit 3) (v 8), pByte (v 1) (.lit 3) (v 9)]
    [pSub (v 3) (v 2), pSub (v 5) (v 4), pSub (v 7) (v 6), pSub (v 9) (v 8)] (pAmong (v 0) (v 1)),
  rule [] [] (pAmong (v 0) (v 0)),
  rule [] [] (pAmong (.lit 0) (v 0)),
  rule [pRights (v 0) (v 1) (v 2) (v 3) (v 4) (v 5) (v 6), pRights (v 0) (v 1) (v 2) (v 3) (v 4) (.lit 1) (v 7)] [] (pSub (v 7) (v 6)),
  rule [pRights (v 0) (v 1) (v 2) (v 3) (v 4) (v 5) (v 6), pRights (v 8) (v 1) (v 2) (v 3) (v 4) (v 5) (v 7)] [pAmong (v 0) (v 8)] (pSub (v 7) (v 6)) ]
def rules3 : List Rule := subRules ++ amongRules
def cfg3 : Cfg := { rules := rules3 }
def byteN (p i : Int) : Int := p / 256 ^ (3 - i).toNat % 256
/-- The byte of whoever asks, and who possesses has another one beside it. -/
def comb (p i q : Int) : Nat := (byteN p i).toNat ||| (if q = 1 then (byteN p 0).toNat else 0)
def atOf (U u G g : Int) : Int := if U = u then 1 else if G = g then 2 else 3
def prd : Nat → List Int → List (List UInt8) → List (List Value) → Prop
  | 0, [p, i, r], _, _ => r = byteN p i
  | 1, [b, r], _, _ => b / r % 2 = 1
  | 2, [R, out, p, i, q], _, _ => ∃ j : Nat, j ≤ 6 ∧ R = 2 ^ j ∧ out = ((comb p i q % 2 ^ j : Nat) : Int)
  | 4, [p, U, G, u, g, q, r], _, _ => r = ((comb p (atOf U u G g) q % 64 : Nat) : Int)
  | 5, [i, U, u, G, g], _, _ => i = atOf U u G g
  | 6, [p], _, _ => ∀ i : Nat, i < 4 → byteN p i ≤ 63
  | 7, [r, w], _, _ => ∀ i : Nat, w.toNat.testBit i = true → r.toNat.testBit i = true
  | 8, [R, r, w], _, _ => ∃ j : Nat, j ≤ 8 ∧ R = 2 ^ j ∧ ∀ i : Nat, i < j → w.toNat.testBit i = true → r.toNat.testBit i = true
  | 9, [r], [t], _ => t = nameOf r.toNat
  | 10, [p, q], _, _ => ∀ i : Nat, i < 4 → ∀ k : Nat, (byteN p i).toNat.testBit k = true → (byteN q i).toNat.testBit k = true
  | _, _, _, _ => False

section
variable {ι : Unk} (hp : ι.prd = prd)
include hp
theorem d_byte {p i r : IE} : (pByte p i r).den ι = true ↔ r.den ι = byteN (p.den ι) (i.den ι) := n_usr hp
theorem d_has {b r : IE} : (pHas b r).den ι = true ↔ b.den ι / r.den ι % 2 = 1 := n_usr hp
theorem d_inv {R out p i q : IE} : (pInv R out p i q).den ι = true ↔ ∃ j : Nat, j ≤ 6 ∧ R.den ι = 2 ^ j ∧ out.den ι = ((comb (p.den ι) (i.den ι) (q.den ι) % 2 ^ j : Nat) : Int) := n_usr hp
theorem d_rights {p U G u g q r : IE} : (pRights p U G u g q r).den ι = true ↔ r.den ι = ((comb (p.den ι) (atOf (U.den ι) (u.den ι) (G.den ι) (g.den ι)) (q.den ι) % 64 : Nat) : Int) := n_usr hp
theorem d_at {i U u G g : IE} : (pAt i U u G g).den ι = true ↔ i.den ι = atOf (U.den ι) (u.den ι) (G.den ι) (g.den ι) := n_usr hp
theorem d_sub {r w : IE} : (pSub r w).den ι = true ↔ ∀ i : Nat, (w.den ι).toNat.testBit i = true → (r.den ι).toNat.testBit i = true := n_usr hp
theorem d_hinv {R r w : IE} : (pHInv R r w).den ι = true ↔ ∃ j : Nat, j ≤ 8 ∧ R.den ι = 2 ^ j ∧ ∀ i : Nat, i < j → (w.den ι).toNat.testBit i = true → (r.den ι).toNat.testBit i = true := n_usr hp
theorem d_name {r : IE} {t : TX} : (pName r t).den ι = true ↔ t.den ι = nameOf (r.den ι).toNat := n_usr hp
theorem d_among {p q : IE} : (pAmong p q).den ι = true ↔ ∀ i : Nat, i < 4 → ∀ k : Nat, (byteN (p.den ι) i).toNat.testBit k = true → (byteN (q.den ι) i).toNat.testBit k = true := n_usr hp
theorem d_may {p : IE} : (pMay p).den ι = true ↔ ∀ i : Nat, i < 4 → byteN (p.den ι) i ≤ 63 := n_usr hp
end

theorem byteN_range (p i : Int) : 0 ≤ byteN p i ∧ byteN p i ≤ 255 := by
  have := Int.emod_nonneg (p / 256 ^ (3 - i).toNat) (show (256 : Int) ≠ 0 by decide)
  have := Int.emod_lt_of_pos (p / 256 ^ (3 - i).toNat) (show (0 : Int) < 256 by decide)
  simp only [byteN]
  omega
theorem byteN0 (p : Int) : byteN p 0 = p / 16777216 % 256 := rfl
theorem byteN1 (p : Int) : byteN p 1 = p / 65536 % 256 := rfl
theorem byteN2 (p : Int) : byteN p 2 = p / 256 % 256 := rfl
theorem byteN3 (p : Int) : byteN p 3 = p % 256 := by
  show p / 1 % 256 = _
  rw [Int.ediv_one]

section
variable {ι : Unk}
theorem quo_den {a : IE} (h0 : 0 ≤ a.den ι) (h1 : a.den ι ≤ 4294967295) : (quo a).den ι = a.den ι / 256 := by
  exact quo_i64 (y := 256) h0 (by omega) (by decide)
theorem rem_den {a : IE} (h0 : 0 ≤ a.den ι) : (IE.bin .rem .i64 a (.lit 256)).den ι = a.den ι % 256 := by
  exact rem_nat (y := 256) h0 (by decide)
theorem cut_den {p : IE} (h0 : 0 ≤ p.den ι) (h1 : p.den ι ≤ 4294967295) : (cutB p 24).den ι = byteN (p.den ι) 0 ∧ (cutB p 16).den ι = byteN (p.den ι) 1 ∧ (cutB p 8).den ι = byteN (p.den ι) 2 ∧ (cutB p 0).den ι = byteN (p.den ι) 3 := by
  refine ⟨?_, ?_, ?_, ?_⟩
  · rw [byteN0]
    show IntKind.u8.wrap ((intBin .shr .u32 (p.den ι) 24).getD 0) = _
    rw [wrap_u8, show (intBin .shr .u32 (p.den ι) 24).getD 0 = (p.den ι).fdiv 16777216 from rfl, Int.fdiv_eq_ediv_of_nonneg _ (by decide)]
  · rw [byteN1]
    show IntKind.u8.wrap ((intBin .shr .u32 (p.den ι) 16).getD 0) = _
    rw [wrap_u8, show (intBin .shr .u32 (p.den ι) 16).getD 0 = (p.den ι).fdiv 65536 from rfl, Int.fdiv_eq_ediv_of_nonneg _ (by decide)]
  · rw [byteN2]
    show IntKind.u8.wrap ((intBin .shr .u32 (p.den ι) 8).getD 0) = _
    rw [wrap_u8, show (intBin .shr .u32 (p.den ι) 8).getD 0 = (p.den ι).fdiv 256 from rfl, Int.fdiv_eq_ediv_of_nonneg _ (by decide)]
  · rw [byteN3]
    exact wrap_u8 _
end

theorem byteRules_ok (ι : Unk) (hp : ι.prd = prd) : ∀ r ∈ byteRules, ROk ι r := by
  refine all_cons ?_ (all_cons ?_ (all_cons ?_ (all_cons ?_ all_nil))) <;> intro _ h <;> simp only [rule, List.mem_cons, List.not_mem_nil, or_false, forall_eq_or_imp, forall_eq, n_eql, n_geq, n_leq, n_n] at h <;> obtain ⟨h1, h2, h3⟩ := h <;> refine (d_byte hp).2 ?_ <;> rw [h1]
  · have e1 := quo_den h2 h3
    have e2 := quo_den (a := quo (v 0)) (by rw [e1]; omega) (by rw [e1]; omega)
    have e3 := quo_den (a := quo (quo (v 0))) (by rw [e2, e1]; omega) (by rw [e2, e1]; omega)
    rw [rem_den (by rw [e3, e2, e1]; omega), e3, e2, e1, byteN0]
    omega
  · have e1 := quo_den h2 h3
    have e2 := quo_den (a := quo (v 0)) (by rw [e1]; omega) (by rw [e1]; omega)
    rw [rem_den (by rw [e2, e1]; omega), e2, e1, byteN1]
    omega
  · have e1 := quo_den h2 h3
    rw [rem_den (by rw [e1]; omega), e1, byteN2]
  · rw [rem_den h2, byteN3]

theorem hasRules_ok (ι : Unk) (hp : ι.prd = prd) : ∀ r ∈ hasRules, ROk ι r := by
  refine all_cons ?_ all_nil
  intro _ h
  simp only [rule, List.mem_cons, List.not_mem_nil, or_false, forall_eq_or_imp, forall_eq, n_geq, n_leq, n_n] at h
  obtain ⟨h1, h2, h3⟩ := h
  refine n_same.2 ?_
  rw [n_eql, d_has hp]
  simp only [big] at h3
  have e1 : (IE.bin .quo .i64 (v 0) (v 1)).den ι = (v 0).den ι / (v 1).den ι := quo_i64 h1 h3 (by omega)
  have e2 : (IE.bin .rem .i64 (.bin .quo .i64 (v 0) (v 1)) (.lit 2)).den ι = (v 0).den ι / (v 1).den ι % 2 := by
    rw [n_bin, e1, n_n]
    exact rem_nat (y := 2) (Int.ediv_nonneg h1 (by omega)) (by decide)
  rw [e2, n_n]

theorem mayRules_ok (ι : Unk) (hp : ι.prd = prd) : ∀ r ∈ mayRules, ROk ι r := by
  refine all_cons ?_ (all_cons ?_ (all_cons ?_ (all_cons ?_ (all_cons ?_ (all_cons ?_ (all_cons ?_ all_nil)))))) <;> intro hf h <;> simp only [rule, isU32, List.mem_cons, List.not_mem_nil, or_false, forall_eq_or_imp, forall_eq, n_not, n_gtr, n_geq, n_leq, n_n, d_byte hp] at hf h
  · obtain ⟨h1, h2, h3⟩ := h
    rw [(cut_den h2 h3).1] at h1
    exact n_not.2 fun hm => by have : byteN ((v 0).den ι) 0 ≤ 63 := (d_may hp).1 hm 0 (by omega); omega
  · obtain ⟨h1, h2, h3⟩ := h
    rw [(cut_den h2 h3).2.1] at h1
    exact n_not.2 fun hm => by have : byteN ((v 0).den ι) 1 ≤ 63 := (d_may hp).1 hm 1 (by omega); omega
  · obtain ⟨h1, h2, h3⟩ := h
    rw [(cut_den h2 h3).2.2.1] at h1
    exact n_not.2 fun hm => by have : byteN ((v 0).den ι) 2 ≤ 63 := (d_may hp).1 hm 2 (by omega); omega
  · obtain ⟨h1, h2, h3⟩ := h
    rw [(cut_den h2 h3).2.2.2] at h1
    exact n_not.2 fun hm => by have : byteN ((v 0).den ι) 3 ≤ 63 := (d_may hp).1 hm 3 (by omega); omega
  · obtain ⟨a0, a1, a2, a3, h2, h3⟩ := h
    obtain ⟨c0, c1, c2, c3⟩ := cut_den h2 h3
    rw [c0] at a0
    rw [c1] at a1
    rw [c2] at a2
    rw [c3] at a3
    refine (d_may hp).2 fun i hi => ?_
    match i, hi with
    | 0, _ => show byteN ((v 0).den ι) 0 ≤ 63; omega
    | 1, _ => show byteN ((v 0).den ι) 1 ≤ 63; omega
    | 2, _ => show byteN ((v 0).den ι) 2 ≤ 63; omega
    | 3, _ => show byteN ((v 0).den ι) 3 ≤ 63; omega
  · obtain ⟨h1, h2, h3⟩ := h
    refine n_not.2 fun hm => ?_
    have := (d_may hp).1 hm ((v 1).den ι).toNat (by omega)
    rw [Int.toNat_of_nonneg h2] at this
    omega
  · obtain ⟨b0, b1, b2, b3⟩ := hf
    obtain ⟨a0, a1, a2, a3⟩ := h
    refine (d_may hp).2 fun i hi => ?_
    match i, hi with
    | 0, _ => show byteN ((v 0).den ι) 0 ≤ 63; omega
    | 1, _ => show byteN ((v 0).den ι) 1 ≤ 63; omega
    | 2, _ => show byteN ((v 0).den ι) 2 ≤ 63; omega
    | 3, _ => show byteN ((v 0).den ι) 3 ≤ 63; omega

theorem and63 {x : Int} (h0 : 0 ≤ x) (h1 : x ≤ 255) : (intBin .and .u8 x 63).getD 0 = ((x.toNat % 64 : Nat) : Int) := by
  rw [and_u8 h0 h1 (by decide) (by decide)]
  congr 1
  exact Nat.and_two_pow_sub_one_eq_mod x.toNat 6

theorem rightsRule_ok (n : Nat) (i : Int) (q : Bool) (hn : (n = 16 ∧ i = 1) ∨ (n = 8 ∧ i = 2) ∨ (n = 0 ∧ i = 3)) (ι : Unk) (hp : ι.prd = prd) : ROk ι (rightsRule n q) := by
  intro _ h
  obtain ⟨h0, h1, h2⟩ : ((if q then isQ (v 5) else BE.not (isQ (v 5))).den ι = true) ∧ (∀ b ∈ whose n, b.den ι = true) ∧ ∀ b ∈ isU32 (v 0), b.den ι = true :=
    ⟨h _ List.mem_cons_self, fun b hb => h b (List.mem_cons_of_mem _ (List.mem_append_left _ hb)), fun b hb => h b (List.mem_cons_of_mem _ (List.mem_append_right _ hb))⟩
  simp only [isU32, List.mem_cons, List.not_mem_nil, or_false, forall_eq_or_imp, forall_eq, n_geq, n_leq, n_n] at h2
  obtain ⟨c0, c1, c2, c3⟩ := cut_den h2.1 h2.2
  have hat : atOf ((v 1).den ι) ((v 3).den ι) ((v 2).den ι) ((v 4).den ι) = i := by
    rcases hn with ⟨rfl, rfl⟩ | ⟨rfl, rfl⟩ | ⟨rfl, rfl⟩ <;> simp [whose, n_not, n_eql] at h1 <;> simp only [atOf] <;> simp [h1]
  have hcut : (cutB (v 0) n).den ι = byteN ((v 0).den ι) i := by
    rcases hn with ⟨rfl, rfl⟩ | ⟨rfl, rfl⟩ | ⟨rfl, rfl⟩
    · exact c1
    · exact c2
    · exact c3
  have hr := byteN_range ((v 0).den ι) i
  have hr0 := byteN_range ((v 0).den ι) 0
  refine (d_rights hp).2 ?_
  rw [hat]
  cases q with
  | true =>
    simp only [if_true, isQ, n_eql, n_n] at h0
    show (intBin .and .u8 ((intBin .or .u8 ((cutB (v 0) n).den ι) ((cutB (v 0) 24).den ι)).getD 0) 63).getD 0 = _
    rw [hcut, c0, or_u8 hr.1 hr.2 hr0.1 hr0.2]
    have : (byteN ((v 0).den ι) i).toNat ||| (byteN ((v 0).den ι) 0).toNat < 2 ^ 8 := Nat.or_lt_two_pow (by omega) (by omega)
    rw [and63 (by omega) (by omega)]
    simp only [comb, h0, if_true, Int.toNat_natCast]
  | false =>
    simp only [Bool.false_eq_true, if_false, isQ, n_not, n_eql, n_n] at h0
    show (intBin .and .u8 ((cutB (v 0) n).den ι) 63).getD 0 = _
    rw [hcut, and63 hr.1 hr.2]
    simp only [comb, if_neg h0, Nat.or_zero]

theorem rightsRules_ok (ι : Unk) (hp : ι.prd = prd) : ∀ r ∈ rightsRules, ROk ι r := by
  refine all_cons (rightsRule_ok 16 1 true (by simp) ι hp) (all_cons (rightsRule_ok 16 1 false (by simp) ι hp) (all_cons (rightsRule_ok 8 2 true (by simp) ι hp) (all_cons (rightsRule_ok 8 2 false (by simp) ι hp)
    (all_cons (rightsRule_ok 0 3 true (by simp) ι hp) (all_cons (rightsRule_ok 0 3 false (by simp) ι hp) (all_cons ?_ all_nil))))))
  intro hf _
  simp only [rule, List.mem_cons, List.not_mem_nil, or_false, forall_eq_or_imp, forall_eq, d_rights hp] at hf
  exact n_eql.2 (hf.1.trans hf.2.symm)

theorem pow_pos2 (j : Nat) : (0 : Int) < 2 ^ j := Int.pow_pos (by decide)

/-- One bit more. -/
theorem step_bit {x j : Nat} : x % 2 ^ (j + 1) = x % 2 ^ j + 2 ^ j * (x.testBit j).toNat := by
  rw [Nat.toNat_testBit, Nat.pow_succ, Nat.mod_mul]
theorem bit_iff {b : Int} {j : Nat} (h : 0 ≤ b) : b / 2 ^ j % 2 = 1 ↔ b.toNat.testBit j = true := by
  obtain ⟨n, rfl⟩ := Int.eq_ofNat_of_zero_le h
  rw [Int.toNat_natCast, Nat.testBit_eq_decide_div_mod_eq, decide_eq_true_eq]
  constructor
  · intro h
    have : ((n / 2 ^ j % 2 : Nat) : Int) = 1 := by simpa using h
    omega
  · intro h
    have : ((n / 2 ^ j % 2 : Nat) : Int) = 1 := by rw [h]; rfl
    simpa using this

theorem comb_bit (p i q : Int) (j : Nat) : (comb p i q).testBit j = (decide (byteN p i / 2 ^ j % 2 = 1) || (decide (q = 1) && decide (byteN p 0 / 2 ^ j % 2 = 1))) := by
  have e1 : decide (byteN p i / 2 ^ j % 2 = 1) = (byteN p i).toNat.testBit j := by
    have := bit_iff (j := j) (byteN_range p i).1
    cases h : (byteN p i).toNat.testBit j <;> simp [this, h]
  have e2 : decide (byteN p 0 / 2 ^ j % 2 = 1) = (byteN p 0).toNat.testBit j := by
    have := bit_iff (j := j) (byteN_range p 0).1
    cases h : (byteN p 0).toNat.testBit j <;> simp [this, h]
  rw [e1, e2, comb, Nat.testBit_or]
  by_cases hq : q = 1 <;> simp [hq]

theorem step_ok {p i q R out : Int} {j : Nat} (hj : j ≤ 6) (hR : R = 2 ^ j) (ho : out = ((comb p i q % 2 ^ j : Nat) : Int)) (hlt : R < 64) (t : Bool) (ht : (comb p i q).testBit j = t) :
    ∃ k : Nat, k ≤ 6 ∧ R * 2 = 2 ^ k ∧ out + (if t then R else 0) = ((comb p i q % 2 ^ k : Nat) : Int) := by
  refine ⟨j + 1, ?_, ?_, ?_⟩
  · rcases Nat.lt_or_ge j 6 with h | h
    · omega
    · have : j = 6 := by omega
      subst this
      rw [hR] at hlt
      exact absurd hlt (by decide)
  · rw [hR, Int.pow_succ]
  · rw [step_bit, ht, hR, ho]
    cases t
    · simp
    · simp

theorem inv_out {p i q R out : Int} {j : Nat} (hj : j ≤ 6) (hR : R = 2 ^ j) (ho : out = ((comb p i q % 2 ^ j : Nat) : Int)) : 0 ≤ out ∧ out < R ∧ (R < 64 → R ≤ 32) := by
  have hm : comb p i q % 2 ^ j < 2 ^ j := Nat.mod_lt _ (Nat.two_pow_pos j)
  have e : ((2 ^ j : Nat) : Int) = 2 ^ j := by simp
  refine ⟨by omega, by rw [hR, ho, ← e]; exact Int.ofNat_lt.2 hm, fun h => ?_⟩
  match j, hj with
  | 0, _ => rw [hR]; decide
  | 1, _ => rw [hR]; decide
  | 2, _ => rw [hR]; decide
  | 3, _ => rw [hR]; decide
  | 4, _ => rw [hR]; decide
  | 5, _ => rw [hR]; decide
  | 6, _ => rw [hR] at h; exact absurd h (by decide)

theorem stepRules_ok (ι : Unk) (hp : ι.prd = prd) : ∀ r ∈ stepRules, ROk ι r := by
  refine all_cons ?_ (all_cons ?_ (all_cons ?_ (all_cons ?_ (all_cons ?_ (all_cons ?_ (all_cons ?_ (all_cons ?_ (all_cons ?_ (all_cons ?_ (all_cons ?_ (all_cons ?_ (all_cons ?_ all_nil)))))))))))) <;> intro hf h <;>
    simp only [rule, List.mem_cons, List.not_mem_nil, or_false, forall_eq_or_imp, forall_eq, n_not, n_gtr, n_geq, n_leq, n_lss, n_eql, n_n, d_byte hp, d_inv hp, d_has hp, d_at hp] at hf h
  · rw [n_lss, n_dif, n_dif, n_lin, n_n]; omega
  · obtain ⟨j, h1, h2, h3⟩ := hf
    have := (inv_out h1 h2 h3).2.2 h
    rw [n_leq, n_lin, n_n]; omega
  · obtain ⟨j, h1, h2, h3⟩ := hf
    obtain ⟨k1, k2, k3⟩ := inv_out h1 h2 h3
    have := k3 h
    rw [n_leq, n_off, n_n]; omega
  · exact (d_inv hp).2 ⟨0, by decide, rfl, by simp [IE.den, Nat.mod_one]⟩
  · obtain ⟨⟨j, h1, h2, h3⟩, hb⟩ := hf
    obtain ⟨hl, hh⟩ := h
    rw [hb, h2] at hh
    obtain ⟨k, k1, k2, k3⟩ := step_ok h1 h2 h3 hl true (by rw [comb_bit, decide_eq_true hh, Bool.true_or])
    exact (d_inv hp).2 ⟨k, k1, by rw [n_lin, ← k2]; simp, by rw [n_off]; simpa using k3⟩
  · obtain ⟨⟨j, h1, h2, h3⟩, hb⟩ := hf
    obtain ⟨hl, hq, hh⟩ := h
    rw [hb, h2] at hh
    obtain ⟨k, k1, k2, k3⟩ := step_ok h1 h2 h3 hl true (by rw [comb_bit, decide_eq_true hq, decide_eq_true hh, Bool.true_and, Bool.or_true])
    exact (d_inv hp).2 ⟨k, k1, by rw [n_lin, ← k2]; simp, by rw [n_off]; simpa using k3⟩
  · obtain ⟨⟨j, h1, h2, h3⟩, hb⟩ := hf
    obtain ⟨hl, hh, hq⟩ := h
    rw [hb, h2] at hh
    obtain ⟨k, k1, k2, k3⟩ := step_ok h1 h2 h3 hl false (by rw [comb_bit, decide_eq_false hh, decide_eq_false hq]; rfl)
    exact (d_inv hp).2 ⟨k, k1, by rw [n_lin, ← k2]; simp, by simpa using k3⟩
  · obtain ⟨⟨j, h1, h2, h3⟩, hb, hb0⟩ := hf
    obtain ⟨hl, hh, hh0⟩ := h
    rw [hb, h2] at hh
    rw [hb0, h2] at hh0
    obtain ⟨k, k1, k2, k3⟩ := step_ok h1 h2 h3 hl false (by rw [comb_bit, decide_eq_false hh, decide_eq_false hh0, Bool.and_false]; rfl)
    exact (d_inv hp).2 ⟨k, k1, by rw [n_lin, ← k2]; simp, by simpa using k3⟩
  · exact (d_at hp).2 (by simp [atOf, h, n_n])
  · exact (d_at hp).2 (by simp [atOf, h, n_n])
  · exact (d_at hp).2 (by simp [atOf, h, n_n])
  · obtain ⟨⟨j, h1, h2, h3⟩, hat⟩ := hf
    obtain ⟨k1, k2, k3⟩ := inv_out h1 h2 h3
    have hj : j = 6 := by
      rcases Nat.lt_or_ge j 6 with hlt | hge
      · exfalso
        have : (2 : Int) ^ j < 2 ^ 6 := Int.pow_lt_pow_of_lt (by decide) hlt
        rw [h2] at h
        exact h (by simpa using this)
      · omega
    subst hj
    refine (d_rights hp).2 ?_
    rw [h3, hat]
  · obtain ⟨j, h1, h2, h3⟩ := hf
    obtain ⟨k1, k2, k3⟩ := inv_out h1 h2 h3
    have : (v 1).den ι ≤ 64 := by
      rw [h2]
      match j, h1 with
      | 0, _ => decide
      | 1, _ => decide
      | 2, _ => decide
      | 3, _ => decide
      | 4, _ => decide
      | 5, _ => decide
      | 6, _ => decide
    rw [n_leq, n_n]; omega

theorem rules_ok (ι : Unk) (hp : ι.prd = prd) : ∀ r ∈ rules, ROk ι r :=
  all_append (all_append (all_append (all_append (byteRules_ok ι hp) (hasRules_ok ι hp)) (mayRules_ok ι hp)) (rightsRules_ok ι hp)) (stepRules_ok ι hp)
theorem hinv_pow {R : Int} {j : Nat} (hj : j ≤ 8) (hR : R = 2 ^ j) : R ≤ 256 ∧ (R < 256 → j < 8 ∧ R ≤ 128) := by
  subst hR
  match j, hj with
  | 0, _ => decide
  | 1, _ => decide
  | 2, _ => decide
  | 3, _ => decide
  | 4, _ => decide
  | 5, _ => decide
  | 6, _ => decide
  | 7, _ => decide
  | 8, _ => decide

theorem sub_iff {r w : Nat} : (r &&& w = w) ↔ ∀ i : Nat, w.testBit i = true → r.testBit i = true := by
  constructor
  · intro h i hi
    rw [← h, Nat.testBit_and, Bool.and_eq_true] at hi
    exact hi.1
  · intro h
    refine Nat.eq_of_testBit_eq fun i => ?_
    rw [Nat.testBit_and]
    cases hi : w.testBit i with
    | false => simp
    | true => simp [h i hi]

theorem subRules_ok (ι : Unk) (hp : ι.prd = prd) : ∀ r ∈ subRules, ROk ι r := by
  refine all_cons ?_ (all_cons ?_ (all_cons ?_ (all_cons ?_ (all_cons ?_ (all_cons ?_ (all_cons ?_ (all_cons ?_ (all_cons ?_ (all_cons ?_ (all_cons ?_ all_nil)))))))))) <;> intro hf h <;>
    simp only [rule, isU8, List.cons_append, List.nil_append, List.mem_cons, List.not_mem_nil, or_false, forall_eq_or_imp, forall_eq, n_not, n_gtr, n_geq, n_leq, n_lss, n_eql, n_n, d_hinv hp, d_has hp, d_name hp] at hf h
  · rw [n_lss, n_dif, n_dif, n_lin, n_n]; omega
  · obtain ⟨j, h1, h2, h3⟩ := hf
    have := ((hinv_pow h1 h2).2 h).2
    rw [n_leq, n_lin, n_n]; omega
  · exact (d_hinv hp).2 ⟨0, by decide, rfl, fun i hi => by omega⟩
  · obtain ⟨j, h1, h2, h3⟩ := hf
    obtain ⟨hl, hb, h0⟩ := h
    rw [h2] at hb
    have hb := (bit_iff h0).1 hb
    refine (d_hinv hp).2 ⟨j + 1, ((hinv_pow h1 h2).2 hl).1, by rw [n_lin, h2, Int.pow_succ]; simp, fun i hi hw => ?_⟩
    by_cases e : i = j
    · rw [e]; exact hb
    · exact h3 i (by omega) hw
  · obtain ⟨j, h1, h2, h3⟩ := hf
    obtain ⟨hl, hb, h0⟩ := h
    rw [h2] at hb
    have hb := fun hh => hb ((bit_iff h0).2 hh)
    refine (d_hinv hp).2 ⟨j + 1, ((hinv_pow h1 h2).2 hl).1, by rw [n_lin, h2, Int.pow_succ]; simp, fun i hi hw => ?_⟩
    by_cases e : i = j
    · rw [e] at hw; exact absurd hw hb
    · exact h3 i (by omega) hw
  · obtain ⟨j, h1, h2, h3⟩ := hf
    obtain ⟨hl, hb, hb2, h0, h4⟩ := h
    rw [h2] at hb hb2
    refine n_not.2 fun hs => hb2 ((bit_iff h0).2 ((d_sub hp).1 hs j ((bit_iff h4).1 hb)))
  · obtain ⟨j, h1, h2, h3⟩ := hf
    obtain ⟨hl, h0, h4⟩ := h
    have hj : j = 8 := by
      rcases Nat.lt_or_ge j 8 with hlt | hge
      · exfalso
        have : (2 : Int) ^ j < 2 ^ 8 := Int.pow_lt_pow_of_lt (by decide) hlt
        rw [h2] at hl
        exact hl (by simpa using this)
      · omega
    refine (d_sub hp).2 fun i hi => ?_
    rcases Nat.lt_or_ge i 8 with hlt | hge
    · exact h3 i (by omega) hi
    · have : ((v 2).den ι).toNat < 2 ^ i := Nat.lt_of_lt_of_le (show _ < 2 ^ 8 by omega) (Nat.pow_le_pow_right (by decide) hge)
      rw [Nat.testBit_lt_two_pow this] at hi
      cases hi
  · obtain ⟨a1, a2, b1, b2⟩ := h
    refine n_same.2 ?_
    rw [n_eql, d_sub hp, n_bin, and_u8 a1 a2 b1 b2, ← sub_iff]
    omega
  · obtain ⟨a1, a2, b1, b2⟩ := h
    refine (d_sub hp).2 fun i hi => ?_
    rw [n_bin, or_u8 a1 a2 b1 b2, Int.toNat_natCast, Nat.testBit_or, hi, Bool.or_true]
  · refine (d_sub hp).2 fun i hi => ?_
    rw [n_n, Int.toNat_zero, Nat.zero_testBit] at hi
    cases hi
  · exact n_teq.2 (hf.1.trans hf.2.symm)

theorem rules2_ok (ι : Unk) (hp : ι.prd = prd) : ∀ r ∈ rules2, ROk ι r := all_append (hasRules_ok ι hp) (subRules_ok ι hp)

theorem name_same {r k : Nat} (h : ∀ i, i < 6 → r.testBit i = k.testBit i) : nameOf k = nameOf r := by
  refine List.map_congr_left fun i hi => ?_
  rw [h i (List.mem_range.1 hi)]

theorem rulesN1_ok (ι : Unk) (hp : ι.prd = prd) : ∀ r ∈ rulesN1, ROk ι r := by
  intro r hr
  obtain ⟨k, _, rfl⟩ := List.mem_map.1 hr
  intro _ h
  refine (d_name hp).2 (name_same fun i hi => ?_)
  have hm := h _ (List.mem_cons_of_mem _ (List.mem_map.2 ⟨i, List.mem_range.2 hi, rfl⟩))
  have key : (pSub (v 0) (.lit (2 ^ i : Nat))).den ι = true ↔ ((v 0).den ι).toNat.testBit i = true := by
    rw [d_sub hp, n_n, Int.toNat_natCast]
    constructor
    · intro h; exact h i (by rw [Nat.testBit_two_pow, decide_eq_true rfl])
    · intro h b hb
      rw [Nat.testBit_two_pow, decide_eq_true_eq] at hb
      exact hb ▸ h
  cases hk : k.testBit i with
  | true => rw [hk, if_pos rfl] at hm; exact key.1 hm
  | false =>
    rw [hk, if_neg (by decide), n_not] at hm
    cases hb : ((v 0).den ι).toNat.testBit i with
    | false => rfl
    | true => exact absurd (key.2 hb) hm

theorem rulesN2_ok (ι : Unk) (hp : ι.prd = prd) : ∀ r ∈ rulesN2, ROk ι r := by
  intro r hr
  obtain ⟨k, _, rfl⟩ := List.mem_map.1 hr
  intro _ h
  refine (d_name hp).2 (name_same fun i hi => ?_)
  have h0 : 0 ≤ (v 0).den ι := n_geq.1 (h _ List.mem_cons_self)
  have hm := h _ (List.mem_cons_of_mem _ (List.mem_map.2 ⟨i, List.mem_range.2 hi, rfl⟩))
  have key : (pHas (v 0) (.lit (2 ^ i : Nat))).den ι = true ↔ ((v 0).den ι).toNat.testBit i = true := by
    rw [d_has hp, n_n, Int.natCast_pow]
    exact bit_iff h0
  cases hk : k.testBit i with
  | true => rw [hk, if_pos rfl] at hm; exact key.1 hm
  | false =>
    rw [hk, if_neg (by decide), n_not] at hm
    cases hb : ((v 0).den ι).toNat.testBit i with
    | false => rfl
    | true => exact absurd (key.2 hb) hm

theorem four {P : Nat → Prop} (h0 : P 0) (h1 : P 1) (h2 : P 2) (h3 : P 3) : ∀ i, i < 4 → P i
  | 0, _ => h0
  | 1, _ => h1
  | 2, _ => h2
  | 3, _ => h3

theorem amongRules_ok (ι : Unk) (hp : ι.prd = prd) : ∀ r ∈ amongRules, ROk ι r := by
  refine all_cons ?_ (all_cons ?_ (all_cons ?_ (all_cons ?_ (all_cons ?_ (all_cons ?_ (all_cons ?_ (all_cons ?_ (all_cons ?_ (all_cons ?_ (all_cons ?_ all_nil)))))))))) <;> intro hf h <;>
    simp only [rule, isU32, List.cons_append, List.nil_append, List.mem_cons, List.not_mem_nil, or_false, forall_eq_or_imp, forall_eq, n_not, n_geq, n_leq, n_n, d_byte hp, d_sub hp, d_among hp, d_rights hp] at hf h
  · obtain ⟨h1, a1, a2, b1, b2⟩ := h
    rw [(cut_den a1 a2).1, (cut_den b1 b2).1] at h1
    exact n_not.2 fun hm => h1 ((d_among hp).1 hm 0 (by decide))
  · obtain ⟨h1, a1, a2, b1, b2⟩ := h
    rw [(cut_den a1 a2).2.1, (cut_den b1 b2).2.1] at h1
    exact n_not.2 fun hm => h1 ((d_among hp).1 hm 1 (by decide))
  · obtain ⟨h1, a1, a2, b1, b2⟩ := h
    rw [(cut_den a1 a2).2.2.1, (cut_den b1 b2).2.2.1] at h1
    exact n_not.2 fun hm => h1 ((d_among hp).1 hm 2 (by decide))
  · obtain ⟨h1, a1, a2, b1, b2⟩ := h
    rw [(cut_den a1 a2).2.2.2, (cut_den b1 b2).2.2.2] at h1
    exact n_not.2 fun hm => h1 ((d_among hp).1 hm 3 (by decide))
  · obtain ⟨c0, c1, c2, c3, a1, a2, b1, b2⟩ := h
    rw [(cut_den a1 a2).1, (cut_den b1 b2).1] at c0
    rw [(cut_den a1 a2).2.1, (cut_den b1 b2).2.1] at c1
    rw [(cut_den a1 a2).2.2.1, (cut_den b1 b2).2.2.1] at c2
    rw [(cut_den a1 a2).2.2.2, (cut_den b1 b2).2.2.2] at c3
    exact (d_among hp).2 (four c0 c1 c2 c3)
  · obtain ⟨hb1, hb2⟩ := hf
    obtain ⟨h1, h2, h3⟩ := h
    rw [hb1, hb2] at h1
    refine n_not.2 fun hm => h1 ?_
    have := (d_among hp).1 hm ((v 2).den ι).toNat (by omega)
    rwa [Int.toNat_of_nonneg h2] at this
  · obtain ⟨e2, e3, e4, e5, e6, e7, e8, e9⟩ := hf
    obtain ⟨c0, c1, c2, c3⟩ := h
    rw [e3, e2] at c0
    rw [e5, e4] at c1
    rw [e7, e6] at c2
    rw [e9, e8] at c3
    exact (d_among hp).2 (four c0 c1 c2 c3)
  · exact (d_among hp).2 fun i _ k hk => hk
  · refine (d_among hp).2 fun i _ k hk => ?_
    have : byteN ((IE.lit 0).den ι) i = 0 := by rw [n_n]; simp [byteN]
    rw [this, Int.toNat_zero, Nat.zero_testBit] at hk
    cases hk
  · refine (d_sub hp).2 fun i hi => ?_
    rw [hf.1, Int.toNat_natCast, show (64 : Nat) = 2 ^ 6 from rfl, Nat.testBit_mod_two_pow, Bool.and_eq_true] at hi
    rw [hf.2, Int.toNat_natCast, show (64 : Nat) = 2 ^ 6 from rfl, Nat.testBit_mod_two_pow, Bool.and_eq_true]
    refine ⟨hi.1, ?_⟩
    have h2 := hi.2
    simp only [comb, Nat.testBit_or, Bool.or_eq_true, if_true] at h2 ⊢
    rcases h2 with h2 | h2
    · exact Or.inl h2
    · split at h2
      · exact Or.inr h2
      · rw [Nat.zero_testBit] at h2; cases h2
  · refine (d_sub hp).2 fun i hi => ?_
    rw [hf.1, Int.toNat_natCast, show (64 : Nat) = 2 ^ 6 from rfl, Nat.testBit_mod_two_pow, Bool.and_eq_true] at hi
    rw [hf.2, Int.toNat_natCast, show (64 : Nat) = 2 ^ 6 from rfl, Nat.testBit_mod_two_pow, Bool.and_eq_true]
    refine ⟨hi.1, ?_⟩
    have h2 := hi.2
    simp only [comb, Nat.testBit_or, Bool.or_eq_true] at h2 ⊢
    rcases h2 with h2 | h2
    · left
      have hat : ∀ a b c d : Int, atOf a b c d = ((atOf a b c d).toNat : Int) ∧ (atOf a b c d).toNat < 4 := fun a b c d => by
        simp only [atOf]
        split
        · decide
        · split <;> decide
      obtain ⟨t1, t2⟩ := hat ((v 1).den ι) ((v 3).den ι) ((v 2).den ι) ((v 4).den ι)
      rw [t1] at h2 ⊢
      exact h _ t2 i h2
    · right
      split at h2
      · rename_i hq
        rw [if_pos hq]
        exact h 0 (by decide) i h2
      · rw [Nat.zero_testBit] at h2; cases h2

theorem rules3_ok (ι : Unk) (hp : ι.prd = prd) : ∀ r ∈ rules3, ROk ι r := all_append (subRules_ok ι hp) (amongRules_ok ι hp)

theorem cov_byte (ι : Unk) (_ : ι.prd = prd) (h : ∀ qs, subAll (shsForm 0 (dns fByte.shs) 0 fByte.shs).2.2.2 fByte.pre = some qs → ∀ q ∈ qs, q.den ι = true) (_ : ∀ p ∈ (shsForm 0 (dns fByte.shs) 0 fByte.shs).2.2.1, p.den ι = true) :
    ∃ fs ∈ [[BE.cmp .eql (v 1) (.lit 0)], [BE.cmp .eql (v 1) (.lit 1)], [BE.cmp .eql (v 1) (.lit 2)], [BE.cmp .eql (v 1) (.lit 3)]], ∀ b ∈ fs, b.den ι = true := by
  have h := h _ rfl
  have a1 : 0 ≤ (v 1).den ι := n_geq.1 (h _ List.mem_cons_self)
  have a2 : (v 1).den ι ≤ 3 := n_leq.1 (h _ (List.mem_cons_of_mem _ List.mem_cons_self))
  have h1 : (v 1).den ι = 0 ∨ (v 1).den ι = 1 ∨ (v 1).den ι = 2 ∨ (v 1).den ι = 3 := by omega
  rcases h1 with h1 | h1 | h1 | h1
  · exact ⟨_, List.mem_cons_self, fun b hb => by rw [List.mem_singleton.1 hb]; exact n_eql.2 h1⟩
  · exact ⟨_, List.mem_cons_of_mem _ List.mem_cons_self, fun b hb => by rw [List.mem_singleton.1 hb]; exact n_eql.2 h1⟩
  · exact ⟨_, List.mem_cons_of_mem _ (List.mem_cons_of_mem _ List.mem_cons_self), fun b hb => by rw [List.mem_singleton.1 hb]; exact n_eql.2 h1⟩
  · exact ⟨_, List.mem_cons_of_mem _ (List.mem_cons_of_mem _ (List.mem_cons_of_mem _ List.mem_cons_self)), fun b hb => by rw [List.mem_singleton.1 hb]; exact n_eql.2 h1⟩

def kn_fHas : Kn := { cons := [] }
theorem known_fHas : Known Try.prog kn_fHas ⟨0, prd⟩ := ⟨fun f hf => (by cases hf), all_nil⟩
set_option maxRecDepth 100000 in
theorem ran_fHas_0 : fnRun Try.prog true kn_fHas 300 60 fHas cfg [] = true := by kernel_rfl
theorem ok_fHas : FnOk Try.prog prd fHas := fn_ok (dr := true) (kn := kn_fHas) (fuel := 300) (d := 60) (cfg := cfg) plain known_fHas (fun _ call hC => anyOk (by kernel_rfl) plain hC) (rules_of rules_ok) (cs := [[]]) (fun _ _ _ _ => cov_one trivial) (all_cons ran_fHas_0 all_nil)

def kn_fPHas : Kn := { cons := [] }
theorem known_fPHas : Known Try.prog kn_fPHas ⟨0, prd⟩ := ⟨fun f hf => (by cases hf), all_nil⟩
set_option maxRecDepth 100000 in
theorem ran_fPHas_0 : fnRun Try.prog true kn_fPHas 300 60 fPHas cfg2 [] = true := by kernel_rfl
theorem ok_fPHas : FnOk Try.prog prd fPHas := fn_ok (dr := true) (kn := kn_fPHas) (fuel := 300) (d := 60) (cfg := cfg2) plain known_fPHas (fun _ call hC => anyOk (by kernel_rfl) plain hC) (rules_of rules2_ok) (cs := [[]]) (fun _ _ _ _ => cov_one trivial) (all_cons ran_fPHas_0 all_nil)

def kn_fRHas : Kn := { cons := [fHas.con] }
theorem known_fRHas : Known Try.prog kn_fRHas ⟨0, prd⟩ := ⟨fun f hf => (by cases hf), (all_cons (con_ok ok_fHas) all_nil)⟩
set_option maxRecDepth 100000 in
theorem ran_fRHas_0 : fnRun Try.prog true kn_fRHas 300 60 fRHas cfgHas [] = true := by kernel_rfl
theorem ok_fRHas : FnOk Try.prog prd fRHas := fn_ok (dr := true) (kn := kn_fRHas) (fuel := 300) (d := 60) (cfg := cfgHas) plain known_fRHas (fun _ call hC => anyOk (by kernel_rfl) plain hC) (rules_of rules2_ok) (cs := [[]]) (fun _ _ _ _ => cov_one trivial) (all_cons ran_fRHas_0 all_nil)

def kn_fName : Kn := { cons := [fPHas.con] }
theorem known_fName : Known Try.prog kn_fName ⟨0, prd⟩ := ⟨fun f hf => (by cases hf), (all_cons (con_ok ok_fPHas) all_nil)⟩
set_option maxRecDepth 100000 in
theorem ran_fName_0 : fnRun Try.prog true kn_fName 300 60 fName { rules := rulesN1 } [] = true := by kernel_rfl
theorem ok_fName : FnOk Try.prog prd fName := fn_ok (dr := true) (kn := kn_fName) (fuel := 300) (d := 60) (cfg := { rules := rulesN1 }) plain known_fName (fun _ call hC => anyOk (by kernel_rfl) plain hC) (rules_of rulesN1_ok) (cs := [[]]) (fun _ _ _ _ => cov_one trivial) (all_cons ran_fName_0 all_nil)

def kn_fRName : Kn := { cons := [fHas.con] }
theorem known_fRName : Known Try.prog kn_fRName ⟨0, prd⟩ := ⟨fun f hf => (by cases hf), (all_cons (con_ok ok_fHas) all_nil)⟩
set_option maxRecDepth 100000 in
theorem ran_fRName_0 : fnRun Try.prog true kn_fRName 300 60 fRName { rules := rulesN2 } [] = true := by kernel_rfl
theorem ok_fRName : FnOk Try.prog prd fRName := fn_ok (dr := true) (kn := kn_fRName) (fuel := 300) (d := 60) (cfg := { rules := rulesN2 }) plain known_fRName (fun _ call hC => anyOk (by kernel_rfl) plain hC) (rules_of rulesN2_ok) (cs := [[]]) (fun _ _ _ _ => cov_one trivial) (all_cons ran_fRName_0 all_nil)

def lawCfg : List Bool → Cfg := fun _ => cfg2
def knLaw : Kn := { kn := some 12, cons := [fPHas.con, fRHas.con, fName.con, fRName.con] }
theorem knows : Known Try.prog knLaw ⟨0, prd⟩ := ⟨knows1, (all_cons (con_ok ok_fPHas) (all_cons (con_ok ok_fRHas) (all_cons (con_ok ok_fName) (all_cons (con_ok ok_fRName) all_nil))))⟩

theorem lawRules (fl : List Bool) (ι : Unk) (hp : ι.prd = prd) : RulesOk (lawCfg fl).rules ι := (fun _ => rules_of rules2_ok) fl ι hp

def cs (_ : List Bool) : List (List BE) := [[]]

theorem cs_ne (fl : List Bool) : cs fl ≠ [] := List.cons_ne_nil _ _

theorem cs_ok (fl : List Bool) (ι : Unk) (_ : ι.prd = prd) : ∃ fs ∈ cs fl, ∀ b ∈ fs, b.den ι = true := ⟨[], List.mem_cons_self, fun b hb => by cases hb⟩

set_option maxRecDepth 100000 in
theorem ran0 : runFl Try.prog true knLaw 300 60 4 [27, 27] [] (lawCfg []) [] = true := by kernel_rfl

theorem ok : ∀ fs ∈ cs [], runFl Try.prog true knLaw 300 60 4 [27, 27] [] (lawCfg []) fs = true := by
  intro fs h
  simp only [cs, List.mem_cons, List.not_mem_nil, or_false] at h
  rcases h with rfl
  · exact ran0

theorem runs : ∀ fl : List Bool, fl.length = 0 → ∀ fs ∈ cs fl, runFl Try.prog true knLaw 300 60 4 [27, 27] fl (lawCfg fl) fs = true
  | [], _ => ok

set_option maxRecDepth 100000 in
theorem lifted (os : Os) (started : os.Started) (H : Type) (enc : TypeId × Value → H) :
    ReturnsInHanded {} Try.checked os 4 .any (Rows.permHasSpec.pre6 enc Try.prog Try.f4 Rows.permHasRow.domain false) (Rows.permHasSpec.post enc Try.prog Try.f4 false true false false) := by
  refine returnsInHanded_of_change (C := Try.checked) own started (by kernel_rfl) Try.func4
    (ChangeSpec.witness6 (enc := enc) (C := Try.checked) false ⟨#[], #[.int .u8 0, .int .u8 0], []⟩ 8 (by kernel_rfl) (by kernel_rfl) (by kernel_rfl) (by kernel_rfl)) ?_
  intro W base args ds gs before hval0 hW hcnd _
  have hval : ∀ (j : Nat) t v, Try.f4.params[j]? = some t → args[j]? = some v → Value.okWide Try.prog W .any base t v := hval0
  have hW' := hW
  obtain ⟨p, q, hA0, hV, hpq, hfz, hnd⟩ := hW
  have hA : DataW.TrodAll enc Try.prog W 0 (fun _ => true) true Try.f4.params.toList args.toList ds p := hA0
  rw [Try.params4] at hA hval
  have hrun := calls_runs (dr := true) (kn := knLaw) (fuel := 300) (d := 60) (f := 4) (ts := [27, 27]) (cfg := lawCfg) (prd := prd) (cs := cs) plain knows (fun _ call hC => anyOk (by kernel_rfl) plain hC) lawRules cs_ok cs_ne (fun fl hfl => runs fl (hfl.trans (by kernel_rfl))) (fun j t v h h' => hval j t v (by simpa using h) (by simpa using h')) hA
  obtain ⟨v0, vs0, d0, ds0, p0, q0, hargs, rfl, hp0, h0, r0⟩ := trodAll_cons hA
  obtain ⟨v1, vs1, d1, ds1, p1, q1, rfl, rfl, hp1, h1, r1⟩ := trodAll_cons r0
  obtain ⟨rfl, rfl, hpz⟩ := trodAll_nil r1
  obtain rfl : args = #[v0, v1] := by cases args; simp_all
  obtain ⟨rfl, rfl⟩ := trodVars_none hV
  refine hrun.mono fun e W' ⟨he, hg⟩ => ?_
  subst he
  exact ⟨_, rfl, post_of_below hW' hg (by kernel_rfl) (by rw [Try.params4]; kernel_rfl) rfl rfl rfl (fun _ _ _ => (trodAll_cons_mk (shut_bool Try.underlying4 _) trodAll_mk0)) (ok_one (by kernel_rfl) rfl (okWide_bool_mk Try.underlying4 _))⟩

theorem over : Rows.permHasRow.holds Try.pinned (OpenSpec.ofChange Rows.permHasSpec) :=
  OpenClaim.holds_of_wide 4 Try.f4 rfl rfl rfl rfl rfl rfl rfl ⟨rfl, rfl, rfl, rfl, rfl⟩ rfl rfl rfl rfl rfl (by kernel_rfl) Try.func4 (by kernel_rfl)
    (of_decide_eq_true (by kernel_rfl)) (by unfold Func.isWrapper; first | (rw [if_pos (by decide +kernel)]; kernel_rfl) | (rw [if_neg (by decide +kernel)]; exact ⟨rfl, rfl⟩))
    (fun os started H enc _ => lifted os started H enc)

/-- THE STATEMENT -/
theorem proved : Rows.PermHasSaid :=
  over
#print axioms proved
end Go.Proofs.Ytkimibmdnkbooaa.permHas
