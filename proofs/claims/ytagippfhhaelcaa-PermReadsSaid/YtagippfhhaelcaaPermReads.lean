/-
  PermReads holds: whatever the input, the call returns true and what it was given reads as before; by a walker that computes in the kernel with unknowns, and whose soundness is proved in the texts beside this one.
-/
import Derived.Test.YtagippfhhaelcaaRows
import Derived.Test.YtagippfhhaelcaaSzPf
import Derived.Test.YtagippfhhaelcaaSzMe
import Derived.WalkKit
import Derived.ProofKit
import Derived.OpenShut
namespace Go.Proofs.Ytagippfhhaelcaa.permReads
open Go.Sx Go.ChangeShapes Go.WideShapes Go.ChangeAt Go.RowKit
set_option linter.unusedVariables false

theorem own : ownKnob Try.prog.godebug = none := by kernel_rfl

theorem plain : plainNames Try.prog = true := by kernel_rfl

set_option maxRecDepth 100000 in
theorem ranKnown : allTrue (runCall Try.prog true {} 300 60 false 8 [] Hp.nil []) = true := by kernel_rfl

theorem knows1 : Known1 Try.prog (some 8) := by
  intro f hf w
  injection hf with hf
  subst hf
  exact calls_true (dr := true) (kn := {}) (fuel := 300) (d := 60) (args := []) (xs := []) (ι := io []) (pc := []) w plain known_none (fun _ call hC => anyOk (by kernel_rfl) plain hC) ranKnown rfl (fun _ h => by cases h)

abbrev ge (a : IE) (n : Int) : BE := .cmp .geq a (.lit n)
abbrev le (a : IE) (n : Int) : BE := .cmp .leq a (.lit n)
abbrev lt (a : IE) (n : Int) : BE := .cmp .lss a (.lit n)
abbrev v (i : Nat) : IE := .fv i
abbrev pByte (p i r : IE) : BE := .usr 0 [p, i, r] [] []
abbrev pMay (p : IE) : BE := .usr 6 [p] [] []
abbrev i64 : Sh := .leaf (.int .i64)
abbrev u32 : Sh := .leaf (.int .u32)
def fByte : Fs := { f := 21, shs := [u32, i64], pre := [ge (v 1) 0, le (v 1) 3], alts := [{ rets := [i64], post := [pByte (v 0) (v 1) (v 2), ge (v 2) 0, le (v 2) 255] }] }
def fMay : Fs := { f := 20, shs := [u32], res := some (pMay (v 0)) }
def fRefMay : Fs := { f := 7, shs := [u32], res := some (pMay (v 0)) }
abbrev bad (l : List Nat) : List (Nat × AV) := l.map fun i => (i, AV.poison)
abbrev upto (a b : Nat) : List Nat := (List.range (b + 1 - a)).map (· + a)
def quo (a : IE) : IE := .bin .quo .i64 a (.lit 256)
abbrev rule (find pre : List BE) (con : BE) : Rule := { pat := true, find, pre, con }
def byteRules : List Rule := [
  rule [] [.cmp .eql (v 1) (.lit 0), ge (v 0) 0, le (v 0) 4294967295] (pByte (v 0) (v 1) (.bin .rem .i64 (quo (quo (quo (v 0)))) (.lit 256))),
  rule [] [.cmp .eql (v 1) (.lit 1), ge (v 0) 0, le (v 0) 4294967295] (pByte (v 0) (v 1) (.bin .rem .i64 (quo (quo (v 0))) (.lit 256))),
  rule [] [.cmp .eql (v 1) (.lit 2), ge (v 0) 0, le (v 0) 4294967295] (pByte (v 0) (v 1) (.bin .rem .i64 (quo (v 0)) (.lit 256))),
  rule [] [.cmp .eql (v 1) (.lit 3), ge (v 0) 0, le (v 0) 4294967295] (pByte (v 0) (v 1) (.bin .rem .i64 (v 0) (.lit 256))) ]
abbrev big : Int := 9223372036854775807
abbrev u32max : Int := 4294967295
abbrev cutB (p : IE) (n : Nat) : IE := if n = 0 then .wrap .u8 p else .wrap .u8 (.bin .shr .u32 p (.lit (n : Nat)))
abbrev gt63 (a : IE) : BE := .cmp .gtr a (.lit 63)
abbrev isU32 (p : IE) : List BE := [ge p 0, le p u32max]
def mayRules : List Rule := [
  rule [] (gt63 (cutB (v 0) 24) :: isU32 (v 0)) (.not (pMay (v 0))),
  rule [] (gt63 (cutB (v 0) 16) :: isU32 (v 0)) (.not (pMay (v 0))),
  rule [] (gt63 (cutB (v 0) 8) :: isU32 (v 0)) (.not (pMay (v 0))),
  rule [] (gt63 (cutB (v 0) 0) :: isU32 (v 0)) (.not (pMay (v 0))),
  rule [] (.not (gt63 (cutB (v 0) 24)) :: .not (gt63 (cutB (v 0) 16)) :: .not (gt63 (cutB (v 0) 8)) :: .not (gt63 (cutB (v 0) 0)) :: isU32 (v 0)) (pMay (v 0)),
  rule [pByte (v 0) (v 1) (v 2)] [gt63 (v 2), ge (v 1) 0, le (v 1) 3] (.not (pMay (v 0))),
  rule [pByte (v 0) (.lit 0) (v 1), pByte (v 0) (.lit 1) (v 2), pByte (v 0) (.lit 2) (v 3), pByte (v 0) (.lit 3) (v 4)] [.not (gt63 (v 1)), .not (gt63 (v 2)), .not (gt63 (v 3)), .not (gt63 (v 4))] (pMay (v 0)) ]
/-! ### Texts -/
abbrev t (i : Nat) : TX := .fv i
abbrev eqI (a b : IE) : BE := .cmp .eql a b
abbrev neI (a b : IE) : BE := .not (.cmp .eql a b)
abbrev i32 : Sh := .leaf (.int .i32)
abbrev hexL : List Nat := [48, 49, 50, 51, 52, 53, 54, 55, 56, 57, 97, 98, 99, 100, 101, 102]
abbrev pHex (p : IE) (x : TX) : BE := .usr 20 [p] [x] []
abbrev pDig (c d : IE) : BE := .usr 21 [c, d] [] []
abbrev pOk (x : TX) : BE := .usr 22 [] [x] []
abbrev pVal (k : Nat) (n : IE) (x : TX) : BE := .usr 23 [.lit k, n] [x] []
def fDigit : Fs := { f := 24, shs := [i32], alts := [{ rets := [i64], post := [pDig (v 0) (v 1), ge (v 1) (-1), le (v 1) 15] }] }
def fTextP : Fs := { f := 6, shs := [u32], alts := [
  { rets := [.leaf .txt, i64], post := [eqI (v 2) (.lit 0), pMay (v 0), pHex (v 0) (t 1)] },
  { rets := [.leaf .txt, i64], post := [eqI (v 2) (.lit 2), .not (pMay (v 0)), .teq (t 1) (.lit [])] }] }
def fRText : Fs := { f := 10, shs := [u32], alts := [{ rets := [.leaf .txt], post := [pHex (v 0) (t 1)] }] }
def ofAlts : List Alt := [
  { rets := [u32, i64], post := [eqI (v 2) (.lit 0), pHex (v 1) (t 0), pMay (v 1)] },
  { rets := [u32, i64], post := [eqI (v 2) (.lit 16), eqI (v 1) (.lit 0), .not (pOk (t 0))] }]
def fOfT : Fs := { f := 9, shs := [.leaf .txt], alts := ofAlts }
def fROfT : Fs := { f := 11, shs := [.leaf .txt], alts := ofAlts }
def digRules : List Rule :=
  ((List.range 16).map fun d => rule [] [eqI (v 0) (.lit (hexL.getD d 0 : Nat))] (pDig (v 0) (.lit d))) ++
  [rule [] (hexL.map fun (c : Nat) => neI (v 0) (.lit c)) (pDig (v 0) (.lit (-1)))]
def cfgDig : Cfg := { rules := digRules }
abbrev tabH (p : IE) (n : Nat) : IE := .tab [48, 49, 50, 51, 52, 53, 54, 55, 56, 57, 97, 98, 99, 100, 101, 102] (.bin .and .u32 (.bin .shr .u32 p (.lit (n : Nat))) (.lit 15))
def textRules : List Rule := [
  rule [] [] (.teq (t 0) (t 0)),
  rule [] [ge (v 0) 0, le (v 0) 4294967295] (pHex (v 0) (.lits [tabH (v 0) 28, tabH (v 0) 24, tabH (v 0) 20, tabH (v 0) 16, tabH (v 0) 12, tabH (v 0) 8, tabH (v 0) 4, tabH (v 0) 0])) ]
def partRules : List Rule := [
  rule [] [ge (v 0) 0, le (v 0) 255] (le (.off (.bin .quo .i64 (v 0) (.lit 16)) (.lit 1)) big),
  rule [] [ge (v 0) 0, le (v 0) 255] (ge (.off (.bin .quo .i64 (v 0) (.lit 16)) (.lit 1)) (-9223372036854775808)),
  rule [] [ge (v 0) 0, le (v 0) 255] (.not (lt (.bin .quo .i64 (v 0) (.lit 16)) 0)),
  rule [] [ge (v 0) 0, le (v 0) 255] (lt (.bin .quo .i64 (v 0) (.lit 16)) 16),
  rule [] [ge (v 0) 0, le (v 0) 255] (le (.off (.bin .rem .i64 (v 0) (.lit 16)) (.lit 1)) big),
  rule [] [ge (v 0) 0, le (v 0) 255] (ge (.off (.bin .rem .i64 (v 0) (.lit 16)) (.lit 1)) (-9223372036854775808)),
  rule [] [ge (v 0) 0, le (v 0) 255] (.not (lt (.bin .rem .i64 (v 0) (.lit 16)) 0)),
  rule [] [ge (v 0) 0, le (v 0) 255] (lt (.bin .rem .i64 (v 0) (.lit 16)) 16) ]
abbrev hexS : List UInt8 := [48, 49, 50, 51, 52, 53, 54, 55, 56, 57, 97, 98, 99, 100, 101, 102]
abbrev two (x : TX) (b : IE) : TX := .cat (.cat x (.lits [.tab hexS (.bin .quo .i64 b (.lit 16))])) (.lits [.tab hexS (.bin .rem .i64 b (.lit 16))])
abbrev is8 (b : IE) : List BE := [ge b 0, le b 255]
def rtextRules : List Rule := partRules ++ [
  rule [pByte (v 0) (.lit 0) (v 1), pByte (v 0) (.lit 1) (v 2), pByte (v 0) (.lit 2) (v 3), pByte (v 0) (.lit 3) (v 4)] (ge (v 0) 0 :: le (v 0) 4294967295 :: is8 (v 1) ++ is8 (v 2) ++ is8 (v 3) ++ is8 (v 4)) (pHex (v 0) (two (two (two (two (.lit []) (v 1)) (v 2)) (v 3)) (v 4))) ]
def cfgRText : Cfg := { rules := rtextRules }
def cfgText : Cfg := { rules := mayRules ++ textRules }
abbrev c0 (k : Nat) : IE := .chr 0 (.lit (k : Nat))
def ofCase (k : Nat) : List BE := if k = 9 then [.cmp .neq (.tlen 0) (.lit 8)] else eqI (.tlen 0) (.lit 8) :: ((List.range k).map fun j => lt (c0 j) 128) ++ (if k < 8 then [.not (lt (c0 k) 128)] else [])
def badRules : List Rule :=
  rule [] [.cmp .neq (.tlen 0) (.lit 8)] (.not (pOk (t 0))) ::
  rule [pDig (v 0) (v 1)] [ge (v 0) 128] (lt (v 1) 0) ::
  ((List.range 8).map fun k => rule [pDig (c0 k) (v 1)] [lt (v 1) 0] (.not (pOk (t 0)))) ++
  ((List.range 8).map fun k => rule [] [ge (c0 k) 128] (.not (pOk (t 0))))
def nest : Nat → IE
  | 0 => .bin .or .u32 (.lit 0) (v 1)
  | k + 1 => .bin .or .u32 (.bin .shl .u32 (nest k) (.lit 4)) (v (k + 2))
abbrev digs : List BE := (List.range 8).map fun k => pDig (c0 k) (v (k + 1))
abbrev fine : List BE := (List.range 8).map fun k => .not (lt (v (k + 1)) 0)
abbrev low : List BE := (List.range 8).map fun k => le (v (k + 1)) 15
def ofRules : List Rule := badRules ++ [
  rule digs (eqI (.tlen 0) (.lit 8) :: (fine ++ low)) (pHex (nest 7) (t 0)),
  rule (.not (pMay (nest 7)) :: digs) (eqI (.tlen 0) (.lit 8) :: (fine ++ low)) (.not (pOk (t 0))) ]
def cfgOf : Cfg := { rules := ofRules }
def roHead (k : Nat) : Head := { nf := 1, src := [.int 4], bsrc := [], tm := fun m _ => (5, .int .i64 (.lit k)) :: (4, .int .i64 (v m)) :: bad (6 :: 7 :: upto 11 51), bl := fun _ _ => [], nb := fun _ _ => [], inv := fun m _ => [ge (v m) 0, le (v m) (16 ^ k - 1), pVal k (v m) (t 0)], ms := fun _ _ => .lit (8 - k) }
abbrev gt (a : IE) (n : Int) : BE := .cmp .gtr a (.lit n)
abbrev dg (k : Nat) (z : Int) : IE := .off (c0 k) (.lit z)
def rofRules : List Rule :=
  rule [] [.cmp .neq (.tlen 0) (.lit 8)] (.not (pOk (t 0))) ::
  rule [] [eqI (.tlen 0) (.lit 8)] (pVal 0 (.lit 0) (t 0)) ::
  rule [pVal 8 (v 0) (t 1)] [] (pHex (v 0) (t 1)) ::
  rule [pVal 8 (v 0) (t 1)] [] (pMay (v 0)) ::
  ((List.range 8).map fun k => rule [] [lt (c0 k) 48] (.not (pOk (t 0)))) ++
  ((List.range 8).map fun k => rule [] [gt (c0 k) 57, lt (c0 k) 97] (.not (pOk (t 0)))) ++
  ((List.range 8).map fun k => rule [] [gt (c0 k) 102] (.not (pOk (t 0)))) ++
  ((List.range 4).map fun k => rule [] [ge (c0 (2 * k)) 48, le (c0 (2 * k)) 57, gt (dg (2 * k) (-48)) 3] (.not (pOk (t 0)))) ++
  ((List.range 4).map fun k => rule [] [ge (c0 (2 * k)) 97, le (c0 (2 * k)) 102] (.not (pOk (t 0)))) ++
  ((List.range 4).map fun k => rule [pVal (2 * k) (v 1) (t 0)] [ge (c0 (2 * k)) 48, le (c0 (2 * k)) 57, .not (gt (dg (2 * k) (-48)) 3)] (pVal (2 * k + 1) (.off (.lin (v 1) 16 0) (dg (2 * k) (-48))) (t 0))) ++
  ((List.range 4).map fun k => rule [pVal (2 * k + 1) (v 1) (t 0)] [ge (c0 (2 * k + 1)) 48, le (c0 (2 * k + 1)) 57] (pVal (2 * k + 2) (.off (.lin (v 1) 16 0) (dg (2 * k + 1) (-48))) (t 0))) ++
  ((List.range 4).map fun k => rule [pVal (2 * k + 1) (v 1) (t 0)] [ge (c0 (2 * k + 1)) 97, le (c0 (2 * k + 1)) 102] (pVal (2 * k + 2) (.off (.lin (v 1) 16 0) (dg (2 * k + 1) (-87))) (t 0)))
def cfgROf : Cfg := { rules := rofRules, anns := [{ key := (54, 5, 2), heads := (List.range 9).map roHead }] }
def lawTRules : List Rule := [
  rule [pHex (v 0) (t 1), pMay (v 0), .not (pOk (t 1))] [] (.lit false),
  rule [pHex (v 0) (t 2), pHex (v 1) (t 2)] [] (eqI (v 0) (v 1)),
  rule [pHex (v 0) (t 1), pHex (v 0) (t 2)] [] (.teq (t 1) (t 2)),
  rule [] [eqI (v 0) (.lit 0), eqI (v 1) (.lit 0)] (eqI (v 0) (v 1)),
  rule [] [eqI (v 0) (.lit 16), eqI (v 1) (.lit 16)] (eqI (v 0) (v 1)) ]
def byteN (p i : Int) : Int := p / 256 ^ (3 - i).toNat % 256
/-- What a letter stands for. -/
def digV (c : Int) : Int := if 48 ≤ c ∧ c ≤ 57 then c - 48 else if 97 ≤ c ∧ c ≤ 102 then c - 87 else -1
def at8 (x : List UInt8) (i : Nat) : Int := ((x[i]?).map fun (b : UInt8) => (b.toNat : Int)).getD 0
def val (x : List UInt8) : Nat → Int
  | 0 => 0
  | k + 1 => 16 * val x k + digV (at8 x k)
def AllD (x : List UInt8) : Prop := ∀ j, j < 8 → 0 ≤ digV (at8 x j)
def prd : Nat → List Int → List (List UInt8) → List (List Value) → Prop
  | 0, [p, i, r], _, _ => r = byteN p i
  | 6, [p], _, _ => ∀ i : Nat, i < 4 → byteN p i ≤ 63
  | 20, [p], [x], _ => x.length = 8 ∧ AllD x ∧ val x 8 = p
  | 21, [c, d], _, _ => d = digV c
  | 22, [], [x], _ => x.length = 8 ∧ AllD x ∧ ∀ i : Nat, i < 4 → byteN (val x 8) i ≤ 63
  | 23, [k, n], [x], _ => x.length = 8 ∧ n = val x k.toNat ∧ ∀ j, j < k.toNat → 0 ≤ digV (at8 x j) ∧ (j % 2 = 0 → digV (at8 x j) ≤ 3)
  | _, _, _, _ => False
section
variable {ι : Unk} (hp : ι.prd = prd)
include hp
theorem d_byte {p i r : IE} : (pByte p i r).den ι = true ↔ r.den ι = byteN (p.den ι) (i.den ι) := n_usr hp
theorem d_may {p : IE} : (pMay p).den ι = true ↔ ∀ i : Nat, i < 4 → byteN (p.den ι) i ≤ 63 := n_usr hp
theorem d_hex {p : IE} {x : TX} : (pHex p x).den ι = true ↔ (x.den ι).length = 8 ∧ AllD (x.den ι) ∧ val (x.den ι) 8 = p.den ι := n_usr hp
theorem d_dig {c d : IE} : (pDig c d).den ι = true ↔ d.den ι = digV (c.den ι) := n_usr hp
theorem d_ok {x : TX} : (pOk x).den ι = true ↔ (x.den ι).length = 8 ∧ AllD (x.den ι) ∧ ∀ i : Nat, i < 4 → byteN (val (x.den ι) 8) i ≤ 63 := n_usr hp
theorem d_val {k : Nat} {n : IE} {x : TX} : (pVal k n x).den ι = true ↔ (x.den ι).length = 8 ∧ n.den ι = val (x.den ι) k ∧ ∀ j, j < k → 0 ≤ digV (at8 (x.den ι) j) ∧ (j % 2 = 0 → digV (at8 (x.den ι) j) ≤ 3) := n_usr hp
end
theorem byteN_range (p i : Int) : 0 ≤ byteN p i ∧ byteN p i ≤ 255 := by
  have := Int.emod_nonneg (p / 256 ^ (3 - i).toNat) (show (256 : Int) ≠ 0 by decide)
  have := Int.emod_lt_of_pos (p / 256 ^ (3 - i).toNat) (show (0 : Int) < 256 by decide)
  simp only [byteN]
  omega
theorem byteN0 (p : Int) : byteN p 0 = p / 16777216 % 256 := rfl
theorem byteN1 (p : Int) : byteN p 1 = p / 65536 % 256 := rfl
theorem byteN2 (p : Int) : byteN p 2 = p / 256 % 256 := rfl
theorem byteN3 (p : Int) : byteN p 3 = p % 256 := by
  show p / 1 % 256 = _
  rw [Int.ediv_one]

section
variable {ι : Unk}
theorem quo_den {a : IE} (h0 : 0 ≤ a.den ι) (h1 : a.den ι ≤ 4294967295) : (quo a).den ι = a.den ι / 256 := by
  exact quo_i64 (y := 256) h0 (by omega) (by decide)
theorem rem_den {a : IE} (h0 : 0 ≤ a.den ι) : (IE.bin .rem .i64 a (.lit 256)).den ι = a.den ι % 256 := by
  exact rem_nat (y := 256) h0 (by decide)
theorem cut_den {p : IE} : (cutB p 24).den ι = byteN (p.den ι) 0 ∧ (cutB p 16).den ι = byteN (p.den ι) 1 ∧ (cutB p 8).den ι = byteN (p.den ι) 2 ∧ (cutB p 0).den ι = byteN (p.den ι) 3 := by
  refine ⟨?_, ?_, ?_, ?_⟩
  · rw [byteN0]
    show IntKind.u8.wrap ((intBin .shr .u32 (p.den ι) 24).getD 0) = _
    rw [wrap_u8, show (intBin .shr .u32 (p.den ι) 24).getD 0 = (p.den ι).fdiv 16777216 from rfl, Int.fdiv_eq_ediv_of_nonneg _ (by decide)]
  · rw [byteN1]
    show IntKind.u8.wrap ((intBin .shr .u32 (p.den ι) 16).getD 0) = _
    rw [wrap_u8, show (intBin .shr .u32 (p.den ι) 16).getD 0 = (p.den ι).fdiv 65536 from rfl, Int.fdiv_eq_ediv_of_nonneg _ (by decide)]
  · rw [byteN2]
    show IntKind.u8.wrap ((intBin .shr .u32 (p.den ι) 8).getD 0) = _
    rw [wrap_u8, show (intBin .shr .u32 (p.den ι) 8).getD 0 = (p.den ι).fdiv 256 from rfl, Int.fdiv_eq_ediv_of_nonneg _ (by decide)]
  · rw [byteN3]
    exact wrap_u8 _
end

theorem byteRules_ok (ι : Unk) (hp : ι.prd = prd) : ∀ r ∈ byteRules, ROk ι r := by
  refine all_cons ?_ (all_cons ?_ (all_cons ?_ (all_cons ?_ all_nil))) <;> intro _ h <;> simp only [List.mem_cons, List.not_mem_nil, or_false, forall_eq_or_imp, forall_eq, n_eql, n_geq, n_leq, n_n] at h <;> obtain ⟨h1, h2, h3⟩ := h <;> refine (d_byte hp).2 ?_ <;> rw [h1]
  · have e1 := quo_den h2 h3
    have e2 := quo_den (a := quo (v 0)) (by rw [e1]; omega) (by rw [e1]; omega)
    have e3 := quo_den (a := quo (quo (v 0))) (by rw [e2, e1]; omega) (by rw [e2, e1]; omega)
    rw [rem_den (by rw [e3, e2, e1]; omega), e3, e2, e1, byteN0]
    omega
  · have e1 := quo_den h2 h3
    have e2 := quo_den (a := quo (v 0)) (by rw [e1]; omega) (by rw [e1]; omega)
    rw [rem_den (by rw [e2, e1]; omega), e2, e1, byteN1]
    omega
  · have e1 := quo_den h2 h3
    rw [rem_den (by rw [e1]; omega), e1, byteN2]
  · rw [rem_den h2, byteN3]

theorem mayRules_ok (ι : Unk) (hp : ι.prd = prd) : ∀ r ∈ mayRules, ROk ι r := by
  refine all_cons ?_ (all_cons ?_ (all_cons ?_ (all_cons ?_ (all_cons ?_ (all_cons ?_ (all_cons ?_ all_nil)))))) <;> intro hf h <;> simp only [isU32, List.mem_cons, List.not_mem_nil, or_false, forall_eq_or_imp, forall_eq, n_not, n_gtr, n_geq, n_leq, n_n, d_byte hp] at hf h
  · obtain ⟨h1, h2, h3⟩ := h
    rw [(cut_den (ι := ι) (p := v 0)).1] at h1
    exact n_not.2 fun hm => by have : byteN ((v 0).den ι) 0 ≤ 63 := (d_may hp).1 hm 0 (by omega); omega
  · obtain ⟨h1, h2, h3⟩ := h
    rw [(cut_den (ι := ι) (p := v 0)).2.1] at h1
    exact n_not.2 fun hm => by have : byteN ((v 0).den ι) 1 ≤ 63 := (d_may hp).1 hm 1 (by omega); omega
  · obtain ⟨h1, h2, h3⟩ := h
    rw [(cut_den (ι := ι) (p := v 0)).2.2.1] at h1
    exact n_not.2 fun hm => by have : byteN ((v 0).den ι) 2 ≤ 63 := (d_may hp).1 hm 2 (by omega); omega
  · obtain ⟨h1, h2, h3⟩ := h
    rw [(cut_den (ι := ι) (p := v 0)).2.2.2] at h1
    exact n_not.2 fun hm => by have : byteN ((v 0).den ι) 3 ≤ 63 := (d_may hp).1 hm 3 (by omega); omega
  · obtain ⟨a0, a1, a2, a3, h2, h3⟩ := h
    obtain ⟨c0, c1, c2, c3⟩ := cut_den (ι := ι) (p := v 0)
    rw [c0] at a0
    rw [c1] at a1
    rw [c2] at a2
    rw [c3] at a3
    refine (d_may hp).2 fun i hi => ?_
    match i, hi with
    | 0, _ => show byteN ((v 0).den ι) 0 ≤ 63; omega
    | 1, _ => show byteN ((v 0).den ι) 1 ≤ 63; omega
    | 2, _ => show byteN ((v 0).den ι) 2 ≤ 63; omega
    | 3, _ => show byteN ((v 0).den ι) 3 ≤ 63; omega
  · obtain ⟨h1, h2, h3⟩ := h
    refine n_not.2 fun hm => ?_
    have := (d_may hp).1 hm ((v 1).den ι).toNat (by omega)
    rw [Int.toNat_of_nonneg h2] at this
    omega
  · obtain ⟨b0, b1, b2, b3⟩ := hf
    obtain ⟨a0, a1, a2, a3⟩ := h
    refine (d_may hp).2 fun i hi => ?_
    match i, hi with
    | 0, _ => show byteN ((v 0).den ι) 0 ≤ 63; omega
    | 1, _ => show byteN ((v 0).den ι) 1 ≤ 63; omega
    | 2, _ => show byteN ((v 0).den ι) 2 ≤ 63; omega
    | 3, _ => show byteN ((v 0).den ι) 3 ≤ 63; omega
theorem cov_byte (ι : Unk) (_ : ι.prd = prd) (h : ∀ qs, subAll (shsForm 0 (dns fByte.shs) 0 fByte.shs).2.2.2 fByte.pre = some qs → ∀ q ∈ qs, q.den ι = true) (_ : ∀ p ∈ (shsForm 0 (dns fByte.shs) 0 fByte.shs).2.2.1, p.den ι = true) :
    ∃ fs ∈ [[BE.cmp .eql (v 1) (.lit 0)], [BE.cmp .eql (v 1) (.lit 1)], [BE.cmp .eql (v 1) (.lit 2)], [BE.cmp .eql (v 1) (.lit 3)]], ∀ b ∈ fs, b.den ι = true := by
  have h := h _ rfl
  have a1 : 0 ≤ (v 1).den ι := n_geq.1 (h _ List.mem_cons_self)
  have a2 : (v 1).den ι ≤ 3 := n_leq.1 (h _ (List.mem_cons_of_mem _ List.mem_cons_self))
  have h1 : (v 1).den ι = 0 ∨ (v 1).den ι = 1 ∨ (v 1).den ι = 2 ∨ (v 1).den ι = 3 := by omega
  rcases h1 with h1 | h1 | h1 | h1
  · exact ⟨_, List.mem_cons_self, fun b hb => by rw [List.mem_singleton.1 hb]; exact n_eql.2 h1⟩
  · exact ⟨_, List.mem_cons_of_mem _ List.mem_cons_self, fun b hb => by rw [List.mem_singleton.1 hb]; exact n_eql.2 h1⟩
  · exact ⟨_, List.mem_cons_of_mem _ (List.mem_cons_of_mem _ List.mem_cons_self), fun b hb => by rw [List.mem_singleton.1 hb]; exact n_eql.2 h1⟩
  · exact ⟨_, List.mem_cons_of_mem _ (List.mem_cons_of_mem _ (List.mem_cons_of_mem _ List.mem_cons_self)), fun b hb => by rw [List.mem_singleton.1 hb]; exact n_eql.2 h1⟩
theorem all_map {p : Rule → Prop} {f : Nat → Rule} {n : Nat} (h : ∀ k, k < n → p (f k)) : ∀ x ∈ (List.range n).map f, p x := by
  intro x hx
  obtain ⟨k, hk, rfl⟩ := List.mem_map.1 hx
  exact h k (List.mem_range.1 hk)
theorem dig_range (c : Int) : -1 ≤ digV c ∧ digV c ≤ 15 := by
  unfold digV
  split
  · omega
  · split <;> omega
theorem dig_inj {a b : Int} (h : digV a = digV b) (h0 : 0 ≤ digV a) : a = b := by
  unfold digV at h h0
  split at h
  · split at h
    · omega
    · split at h <;> omega
  · split at h
    · split at h
      · omega
      · split at h <;> omega
    · rename_i h1 h2
      rw [if_neg h1, if_neg h2] at h0
      omega
theorem val8 (x : List UInt8) : val x 8 = 268435456 * digV (at8 x 0) + 16777216 * digV (at8 x 1) + 1048576 * digV (at8 x 2) + 65536 * digV (at8 x 3) + 4096 * digV (at8 x 4) + 256 * digV (at8 x 5) + 16 * digV (at8 x 6) + digV (at8 x 7) := by
  simp only [val]
  omega
theorem all8 {x : List UInt8} (h : AllD x) : (0 ≤ digV (at8 x 0) ∧ digV (at8 x 0) ≤ 15) ∧ (0 ≤ digV (at8 x 1) ∧ digV (at8 x 1) ≤ 15) ∧ (0 ≤ digV (at8 x 2) ∧ digV (at8 x 2) ≤ 15) ∧ (0 ≤ digV (at8 x 3) ∧ digV (at8 x 3) ≤ 15) ∧ (0 ≤ digV (at8 x 4) ∧ digV (at8 x 4) ≤ 15) ∧ (0 ≤ digV (at8 x 5) ∧ digV (at8 x 5) ≤ 15) ∧ (0 ≤ digV (at8 x 6) ∧ digV (at8 x 6) ≤ 15) ∧ (0 ≤ digV (at8 x 7) ∧ digV (at8 x 7) ≤ 15) :=
  ⟨⟨h 0 (by omega), (dig_range _).2⟩, ⟨h 1 (by omega), (dig_range _).2⟩, ⟨h 2 (by omega), (dig_range _).2⟩, ⟨h 3 (by omega), (dig_range _).2⟩, ⟨h 4 (by omega), (dig_range _).2⟩, ⟨h 5 (by omega), (dig_range _).2⟩, ⟨h 6 (by omega), (dig_range _).2⟩, ⟨h 7 (by omega), (dig_range _).2⟩⟩
theorem eight {P : Nat → Prop} (h0 : P 0) (h1 : P 1) (h2 : P 2) (h3 : P 3) (h4 : P 4) (h5 : P 5) (h6 : P 6) (h7 : P 7) : ∀ i, i < 8 → P i
  | 0, _ => h0 | 1, _ => h1 | 2, _ => h2 | 3, _ => h3 | 4, _ => h4 | 5, _ => h5 | 6, _ => h6 | 7, _ => h7
  | n + 8, h => absurd h (by omega)
theorem four {P : Nat → Prop} (h0 : P 0) (h1 : P 1) (h2 : P 2) (h3 : P 3) : ∀ i, i < 4 → P i
  | 0, _ => h0 | 1, _ => h1 | 2, _ => h2 | 3, _ => h3
  | n + 4, h => absurd h (by omega)
/-- One text for one number. -/
theorem hex_one {x y : List UInt8} (hx : x.length = 8) (hy : y.length = 8) (ax : AllD x) (ay : AllD y) (h : val x 8 = val y 8) : x = y := by
  obtain ⟨a0, a1, a2, a3, a4, a5, a6, a7⟩ := all8 ax
  obtain ⟨b0, b1, b2, b3, b4, b5, b6, b7⟩ := all8 ay
  rw [val8, val8] at h
  have e7 : digV (at8 x 7) = digV (at8 y 7) := by omega
  rw [e7] at h
  have e6 : digV (at8 x 6) = digV (at8 y 6) := by omega
  rw [e6] at h
  have e5 : digV (at8 x 5) = digV (at8 y 5) := by omega
  rw [e5] at h
  have e4 : digV (at8 x 4) = digV (at8 y 4) := by omega
  rw [e4] at h
  have e3 : digV (at8 x 3) = digV (at8 y 3) := by omega
  rw [e3] at h
  have e2 : digV (at8 x 2) = digV (at8 y 2) := by omega
  rw [e2] at h
  have e1 : digV (at8 x 1) = digV (at8 y 1) := by omega
  rw [e1] at h
  have e0 : digV (at8 x 0) = digV (at8 y 0) := by omega
  have key : ∀ i, i < 8 → digV (at8 x i) = digV (at8 y i) := eight e0 e1 e2 e3 e4 e5 e6 e7
  refine List.ext_getElem? fun i => ?_
  by_cases hi : i < 8
  · have e := dig_inj (key i hi) (ax i hi)
    unfold at8 at e
    rw [List.getElem?_eq_getElem (by omega : i < x.length), List.getElem?_eq_getElem (by omega : i < y.length)] at e ⊢
    simp only [Option.map_some, Option.getD_some] at e
    congr 1
    exact UInt8.toNat_inj.1 (by omega)
  · rw [List.getElem?_eq_none (by omega), List.getElem?_eq_none (by omega)]
theorem digRules_ok (ι : Unk) (hp : ι.prd = prd) : ∀ r ∈ digRules, ROk ι r := by
  refine all_append (all_map ?_) (all_cons ?_ all_nil)
  · intro k hk _ h
    simp only [List.mem_cons, List.not_mem_nil, or_false, forall_eq, n_eql, n_n] at h
    rw [d_dig hp, h, n_n]
    have : ∀ k : Nat, k < 16 → ((k : Nat) : Int) = digV ((hexL.getD k 0 : Nat) : Int) := by decide
    exact this k hk
  · intro _ h
    rw [d_dig hp, n_n]
    have hne : ∀ c : Nat, c ∈ hexL → (v 0).den ι ≠ (c : Int) := fun c hc => by
      have := h _ (List.mem_map.2 ⟨c, hc, rfl⟩)
      rw [n_not, n_eql] at this
      exact this
    have hne' : ∀ c : Nat, c ∈ hexL → (v 0).den ι ≠ ((c : Nat) : Int) := hne
    simp only [hexL, List.mem_cons, List.not_mem_nil, or_false, forall_eq_or_imp, forall_eq] at hne'
    unfold digV
    split
    · omega
    · split <;> omega
/-- A digit's letter. -/
def ch (d : Int) : UInt8 := UInt8.ofNat ((((hexS[d.toNat]?).map fun (b : UInt8) => (b.toNat : Int)).getD 0).toNat)
theorem dig_ch {d : Int} (h0 : 0 ≤ d) (h1 : d < 16) : digV ((ch d).toNat : Int) = d := by
  have : ∀ n : Nat, n < 16 → digV ((ch ((n : Nat) : Int)).toNat : Int) = ((n : Nat) : Int) := by decide
  have e := this d.toNat (by omega)
  rwa [Int.toNat_of_nonneg h0] at e
theorem hex8 {x : List UInt8} {d0 d1 d2 d3 d4 d5 d6 d7 : Int} (e : x = [ch d0, ch d1, ch d2, ch d3, ch d4, ch d5, ch d6, ch d7])
    (h0 : 0 ≤ d0 ∧ d0 < 16) (h1 : 0 ≤ d1 ∧ d1 < 16) (h2 : 0 ≤ d2 ∧ d2 < 16) (h3 : 0 ≤ d3 ∧ d3 < 16) (h4 : 0 ≤ d4 ∧ d4 < 16) (h5 : 0 ≤ d5 ∧ d5 < 16) (h6 : 0 ≤ d6 ∧ d6 < 16) (h7 : 0 ≤ d7 ∧ d7 < 16) :
    x.length = 8 ∧ AllD x ∧ val x 8 = 268435456 * d0 + 16777216 * d1 + 1048576 * d2 + 65536 * d3 + 4096 * d4 + 256 * d5 + 16 * d6 + d7 := by
  have a0 : digV (at8 x 0) = d0 := by rw [e]; exact dig_ch h0.1 h0.2
  have a1 : digV (at8 x 1) = d1 := by rw [e]; exact dig_ch h1.1 h1.2
  have a2 : digV (at8 x 2) = d2 := by rw [e]; exact dig_ch h2.1 h2.2
  have a3 : digV (at8 x 3) = d3 := by rw [e]; exact dig_ch h3.1 h3.2
  have a4 : digV (at8 x 4) = d4 := by rw [e]; exact dig_ch h4.1 h4.2
  have a5 : digV (at8 x 5) = d5 := by rw [e]; exact dig_ch h5.1 h5.2
  have a6 : digV (at8 x 6) = d6 := by rw [e]; exact dig_ch h6.1 h6.2
  have a7 : digV (at8 x 7) = d7 := by rw [e]; exact dig_ch h7.1 h7.2
  refine ⟨by rw [e]; rfl, ?_, by rw [val8, a0, a1, a2, a3, a4, a5, a6, a7]⟩
  exact eight (by omega) (by omega) (by omega) (by omega) (by omega) (by omega) (by omega) (by omega)
theorem and15 {x : Int} (h0 : 0 ≤ x) (h1 : x ≤ 4294967295) : (intBin .and .u32 x 15).getD 0 = x % 16 := by
  simp only [intBin, Option.getD_some]
  have e : (BitVec.ofInt IntKind.u32.bits x &&& BitVec.ofInt IntKind.u32.bits 15).toNat = x.toNat &&& 15 := by
    rw [BitVec.toNat_and, BitVec.toNat_ofInt, BitVec.toNat_ofInt, show ((2 ^ IntKind.u32.bits : Nat) : Int) = 4294967296 by decide, Int.emod_eq_of_lt h0 (by omega)]
    rfl
  rw [e, show (15 : Nat) = 2 ^ 4 - 1 by decide, Nat.and_two_pow_sub_one_eq_mod, wrap_u32]
  omega
abbrev nib (n : Nat) : IE := .bin .and .u32 (.bin .shr .u32 (v 0) (.lit (n : Nat))) (.lit 15)
theorem tab_den {ι : Unk} {n : Nat} (h0 : 0 ≤ (v 0).den ι) (h1 : (v 0).den ι ≤ 4294967295) (hn : n ≤ 32) : (IE.bin .and .u32 (.bin .shr .u32 (v 0) (.lit (n : Nat))) (.lit 15)).den ι = (v 0).den ι / 2 ^ n % 16 := by
  have e : (IE.bin .shr .u32 (v 0) (.lit (n : Nat))).den ι = (v 0).den ι / 2 ^ n := by
    rw [n_bin, n_n]
    simp only [intBin]
    rw [if_neg (by omega), Option.getD_some, Int.toNat_natCast, Nat.min_eq_left (by rw [show IntKind.u32.bits = 32 by decide]; exact hn), Int.fdiv_eq_ediv_of_nonneg _ (Int.le_of_lt (Int.pow_pos (by decide)))]
  have hp := Int.pow_pos (show (0 : Int) < 2 by decide) (m := n)
  have a := Int.ediv_nonneg h0 (Int.le_of_lt hp)
  have b := Int.ediv_le_self (2 ^ n) h0
  rw [n_bin, n_n, e, and15 a (by omega)]
theorem n_txt {ι : Unk} {s : Nat} : (t s).den ι = ι.ft s := rfl
theorem hex_sum {x y : Int} (h0 : 0 ≤ x) (h1 : x ≤ 4294967295) (h : y = 268435456 * (x / 268435456 % 16) + 16777216 * (x / 16777216 % 16) + 1048576 * (x / 1048576 % 16) + 65536 * (x / 65536 % 16) + 4096 * (x / 4096 % 16) + 256 * (x / 256 % 16) + 16 * (x / 16 % 16) + x / 1 % 16) : y = x := by omega
theorem tab_ch {ι : Unk} {e : IE} : UInt8.ofNat ((IE.tab hexS e).den ι).toNat = ch (e.den ι) := rfl
theorem textRules_ok' (ι : Unk) (hp : ι.prd = prd) : ∀ r ∈ textRules, ROk ι r := by
  refine all_cons ?_ (all_cons ?_ all_nil)
  · intro _ _
    exact n_teq.2 rfl
  · intro _ h
    simp only [List.mem_cons, List.not_mem_nil, or_false, forall_eq_or_imp, forall_eq, n_geq, n_leq, n_n] at h
    obtain ⟨h0, h1⟩ := h
    have e7 := tab_den (n := 28) h0 h1 (by omega)
    have e6 := tab_den (n := 24) h0 h1 (by omega)
    have e5 := tab_den (n := 20) h0 h1 (by omega)
    have e4 := tab_den (n := 16) h0 h1 (by omega)
    have e3 := tab_den (n := 12) h0 h1 (by omega)
    have e2 := tab_den (n := 8) h0 h1 (by omega)
    have e1 := tab_den (n := 4) h0 h1 (by omega)
    have e0 := tab_den (n := 0) h0 h1 (by omega)
    have hd := hex8 (x := TX.den ι (.lits [tabH (v 0) 28, tabH (v 0) 24, tabH (v 0) 20, tabH (v 0) 16, tabH (v 0) 12, tabH (v 0) 8, tabH (v 0) 4, tabH (v 0) 0])) (d0 := (nib 28).den ι) (d1 := (nib 24).den ι) (d2 := (nib 20).den ι) (d3 := (nib 16).den ι) (d4 := (nib 12).den ι) (d5 := (nib 8).den ι) (d6 := (nib 4).den ι) (d7 := (nib 0).den ι) (by simp only [TX.den, List.map_cons, List.map_nil, tab_ch])
      (by rw [e7]; omega) (by rw [e6]; omega) (by rw [e5]; omega) (by rw [e4]; omega) (by rw [e3]; omega) (by rw [e2]; omega) (by rw [e1]; omega) (by rw [e0]; omega)
    refine (d_hex hp).2 ⟨hd.1, hd.2.1, ?_⟩
    have h2 := hd.2.2
    rw [e7, e6, e5, e4, e3, e2, e1, e0] at h2
    simp only [Int.reducePow] at h2
    exact hex_sum h0 h1 h2
theorem textRules_ok (ι : Unk) (hp : ι.prd = prd) : ∀ r ∈ mayRules ++ textRules, ROk ι r := all_append (mayRules_ok ι hp) (textRules_ok' ι hp)
theorem q16 {ι : Unk} {b : IE} (h0 : 0 ≤ b.den ι) (h1 : b.den ι ≤ 255) : (IE.bin .quo .i64 b (.lit 16)).den ι = b.den ι / 16 := by
  rw [n_bin, n_n, quo_i64 h0 (by omega) (by decide)]
theorem r16 {ι : Unk} {b : IE} (h0 : 0 ≤ b.den ι) : (IE.bin .rem .i64 b (.lit 16)).den ι = b.den ι % 16 := by
  rw [n_bin, n_n, rem_nat h0 (by decide)]
theorem rtextRules_ok (ι : Unk) (hp : ι.prd = prd) : ∀ r ∈ rtextRules, ROk ι r := by
  refine all_append (all_cons ?_ (all_cons ?_ (all_cons ?_ (all_cons ?_ (all_cons ?_ (all_cons ?_ (all_cons ?_ (all_cons ?_ all_nil)))))))) (all_cons ?_ all_nil)
  iterate 4
    · intro _ h
      simp only [List.mem_cons, List.not_mem_nil, or_false, forall_eq_or_imp, forall_eq, n_geq, n_leq, n_n] at h
      simp only [n_not, n_geq, n_leq, n_lss, n_off, n_n, q16 h.1 h.2, big]
      omega
  iterate 4
    · intro _ h
      simp only [List.mem_cons, List.not_mem_nil, or_false, forall_eq_or_imp, forall_eq, n_geq, n_leq, n_n] at h
      simp only [n_not, n_geq, n_leq, n_lss, n_off, n_n, r16 h.1, big]
      omega
  · intro hf h
    simp only [List.mem_cons, List.mem_append, List.not_mem_nil, or_false, forall_eq, n_geq, n_leq, n_n, d_byte hp, or_imp, forall_and] at hf h
    obtain ⟨f0, f1, f2, f3⟩ := hf
    rw [byteN0] at f0
    rw [byteN1] at f1
    rw [byteN2] at f2
    rw [byteN3] at f3
    have hd := hex8 (x := TX.den ι (two (two (two (two (.lit []) (v 1)) (v 2)) (v 3)) (v 4))) (d0 := (IE.bin .quo .i64 (v 1) (.lit 16)).den ι) (d1 := (IE.bin .rem .i64 (v 1) (.lit 16)).den ι) (d2 := (IE.bin .quo .i64 (v 2) (.lit 16)).den ι) (d3 := (IE.bin .rem .i64 (v 2) (.lit 16)).den ι) (d4 := (IE.bin .quo .i64 (v 3) (.lit 16)).den ι) (d5 := (IE.bin .rem .i64 (v 3) (.lit 16)).den ι) (d6 := (IE.bin .quo .i64 (v 4) (.lit 16)).den ι) (d7 := (IE.bin .rem .i64 (v 4) (.lit 16)).den ι) rfl
      (by rw [q16 (by omega) (by omega)]; omega) (by rw [r16 (by omega)]; omega) (by rw [q16 (by omega) (by omega)]; omega) (by rw [r16 (by omega)]; omega) (by rw [q16 (by omega) (by omega)]; omega) (by rw [r16 (by omega)]; omega) (by rw [q16 (by omega) (by omega)]; omega) (by rw [r16 (by omega)]; omega)
    refine (d_hex hp).2 ⟨hd.1, hd.2.1, ?_⟩
    rw [hd.2.2, q16 (by omega) (by omega), q16 (by omega) (by omega), q16 (by omega) (by omega), q16 (by omega) (by omega), r16 (by omega), r16 (by omega), r16 (by omega), r16 (by omega)]
    omega
theorem lawTRules_ok (ι : Unk) (hp : ι.prd = prd) : ∀ r ∈ lawTRules, ROk ι r := by
  refine all_cons ?_ (all_cons ?_ (all_cons ?_ (all_cons ?_ (all_cons ?_ all_nil)))) <;> intro hf h <;>
    simp only [List.mem_cons, List.not_mem_nil, or_false, forall_eq_or_imp, forall_eq, n_not, n_eql, n_n, d_hex hp, d_may hp, d_ok hp] at hf h
  · obtain ⟨⟨h1, h2, h3⟩, h4, h5⟩ := hf
    exact absurd ⟨h1, h2, by rw [h3]; exact h4⟩ h5
  · rw [n_eql, ← hf.1.2.2, ← hf.2.2.2]
  · obtain ⟨⟨h1, h2, h3⟩, h4, h5, h6⟩ := hf
    exact n_teq.2 (hex_one h1 h4 h2 h5 (h3.trans h6.symm))
  · rw [n_eql, h.1, h.2]
  · rw [n_eql, h.1, h.2]
theorem c0_den {ι : Unk} {k : Nat} : (c0 k).den ι = at8 (ι.ft 0) k := rfl
theorem badRules_ok (ι : Unk) (hp : ι.prd = prd) : ∀ r ∈ badRules, ROk ι r := by
  refine all_cons ?_ (all_cons ?_ (all_append (all_map ?_) (all_map ?_)))
  · intro _ h
    simp only [List.mem_cons, List.not_mem_nil, or_false, forall_eq, n_neq, n_n, n_tlen] at h
    rw [n_not, d_ok hp]
    intro e
    have := e.1
    rw [n_txt] at this
    omega
  · intro hf h
    simp only [List.mem_cons, List.not_mem_nil, or_false, forall_eq, n_geq, n_n, d_dig hp] at hf h
    rw [n_lss, hf, n_n]
    unfold digV
    split
    · omega
    · split <;> omega
  · intro k hk hf h
    simp only [List.mem_cons, List.not_mem_nil, or_false, forall_eq, n_lss, n_n, d_dig hp, c0_den] at hf h
    rw [n_not, d_ok hp]
    intro e
    have := e.2.1 k hk
    rw [n_txt] at this
    omega
  · intro k hk _ h
    simp only [List.mem_cons, List.not_mem_nil, or_false, forall_eq, n_geq, n_n, c0_den] at h
    rw [n_not, d_ok hp]
    intro e
    have := e.2.1 k hk
    rw [n_txt] at this
    unfold digV at this
    split at this
    · omega
    · split at this <;> omega
theorem or_den {x d : Int} (h0 : 0 ≤ x) (h1 : x < 268435456) (h2 : 0 ≤ d) (h3 : d < 16) : (intBin .or .u32 ((intBin .shl .u32 x 4).getD 0) d).getD 0 = 16 * x + d := by
  have e1 : (intBin .shl .u32 x 4).getD 0 = 16 * x := by
    simp only [intBin]
    rw [if_neg (by decide), Option.getD_some, wrap_u32, show min (4 : Int).toNat IntKind.u32.bits = 4 by decide]
    omega
  rw [e1]
  simp only [intBin, Option.getD_some]
  have e : (BitVec.ofInt IntKind.u32.bits (16 * x) ||| BitVec.ofInt IntKind.u32.bits d).toNat = (16 * x).toNat ||| d.toNat := by
    rw [BitVec.toNat_or, BitVec.toNat_ofInt, BitVec.toNat_ofInt, show ((2 ^ IntKind.u32.bits : Nat) : Int) = 4294967296 by decide, Int.emod_eq_of_lt (by omega) (by omega), Int.emod_eq_of_lt (by omega) (by omega)]
  have e2 : (16 * x).toNat ||| d.toNat = 2 ^ 4 * x.toNat + d.toNat := by
    rw [Nat.two_pow_add_eq_or_of_lt (show d.toNat < 2 ^ 4 by omega), show 2 ^ 4 * x.toNat = (16 * x).toNat by omega]
  rw [e, e2, wrap_u32]
  omega
theorem or_zero {d : Int} (h2 : 0 ≤ d) (h3 : d < 16) : (intBin .or .u32 0 d).getD 0 = d := by
  have := or_den (x := 0) (by decide) (by decide) h2 h3
  rwa [show (intBin .shl .u32 0 4).getD 0 = 0 by decide, Int.mul_zero, Int.zero_add] at this
theorem nest_den {ι : Unk} : ∀ k, k < 8 → (∀ j, j ≤ k → (v (j + 1)).den ι = digV (at8 (ι.ft 0) j) ∧ 0 ≤ (v (j + 1)).den ι) → (nest k).den ι = val (ι.ft 0) (k + 1) ∧ 0 ≤ val (ι.ft 0) (k + 1) ∧ val (ι.ft 0) (k + 1) < 16 ^ (k + 1)
  | 0, _, h => by
    obtain ⟨e, h0⟩ := h 0 (by omega)
    have hr := dig_range (at8 (ι.ft 0) 0)
    have e1 : (nest 0).den ι = digV (at8 (ι.ft 0) 0) := by
      show (intBin .or .u32 0 ((v 1).den ι)).getD 0 = _
      rw [or_zero h0 (by omega), e]
    have e2 : val (ι.ft 0) (0 + 1) = digV (at8 (ι.ft 0) 0) := by simp only [val]; omega
    rw [e1, e2, show (16 : Int) ^ (0 + 1) = 16 by decide]
    exact ⟨rfl, by omega, by omega⟩
  | k + 1, hk, h => by
    obtain ⟨ih, i0, i1⟩ := nest_den k (by omega) fun j hj => h j (by omega)
    obtain ⟨e, h0⟩ := h (k + 1) (by omega)
    have hr := dig_range (at8 (ι.ft 0) (k + 1))
    have hb : val (ι.ft 0) (k + 1) < 268435456 := by
      have : (16 : Int) ^ (k + 1) ≤ 268435456 := by
        rw [show (268435456 : Int) = 16 ^ 7 by decide]
        exact_mod_cast Nat.pow_le_pow_right (show 16 > 0 by decide) (show k + 1 ≤ 7 by omega)
      omega
    have e1 : (nest (k + 1)).den ι = 16 * val (ι.ft 0) (k + 1) + digV (at8 (ι.ft 0) (k + 1)) := by
      show (intBin .or .u32 ((intBin .shl .u32 ((nest k).den ι) 4).getD 0) ((v (k + 2)).den ι)).getD 0 = _
      have e' : (v (k + 2)).den ι = digV (at8 (ι.ft 0) (k + 1)) := e
      rw [ih, e', or_den i0 hb (by rw [← e]; exact h0) (by omega)]
    have h0' : 0 ≤ digV (at8 (ι.ft 0) (k + 1)) := by rw [← e]; exact h0
    refine ⟨e1, ?_, ?_⟩
    · show 0 ≤ 16 * val (ι.ft 0) (k + 1) + digV (at8 (ι.ft 0) (k + 1))
      omega
    · show 16 * val (ι.ft 0) (k + 1) + digV (at8 (ι.ft 0) (k + 1)) < 16 ^ (k + 1 + 1)
      rw [Int.pow_succ]
      omega
theorem digs_get {ι : Unk} (hp : ι.prd = prd) (hf : ∀ b ∈ digs, b.den ι = true) (h : ∀ b ∈ fine, b.den ι = true) : ∀ j, j < 8 → (v (j + 1)).den ι = digV (at8 (ι.ft 0) j) ∧ 0 ≤ (v (j + 1)).den ι := by
  intro j hj
  have h1 := hf _ (List.mem_map.2 ⟨j, List.mem_range.2 hj, rfl⟩)
  have h2 := h _ (List.mem_map.2 ⟨j, List.mem_range.2 hj, rfl⟩)
  rw [d_dig hp, c0_den] at h1
  rw [n_not, n_lss, n_n] at h2
  exact ⟨h1, by omega⟩
theorem ofRules_ok (ι : Unk) (hp : ι.prd = prd) : ∀ r ∈ ofRules, ROk ι r := by
  refine all_append (badRules_ok ι hp) (all_cons ?_ (all_cons ?_ all_nil))
  · intro hf h
    have hl := h _ List.mem_cons_self
    rw [n_eql, n_tlen, n_n] at hl
    have hg := digs_get hp hf fun b hb => h b (List.mem_cons_of_mem _ (List.mem_append_left _ hb))
    obtain ⟨e, _, _⟩ := nest_den 7 (by omega) fun j hj => hg j (by omega)
    refine (d_hex hp).2 ⟨?_, fun j hj => ?_, ?_⟩
    · rw [n_txt]; omega
    · rw [n_txt, ← (hg j hj).1]
      exact (hg j hj).2
    · rw [n_txt, e]
  · intro hf h
    have hm := hf _ List.mem_cons_self
    have hg := digs_get hp (fun b hb => hf b (List.mem_cons_of_mem _ hb)) fun b hb => h b (List.mem_cons_of_mem _ (List.mem_append_left _ hb))
    obtain ⟨e, _, _⟩ := nest_den 7 (by omega) fun j hj => hg j (by omega)
    rw [n_not, d_may hp, e] at hm
    rw [n_not, d_ok hp, n_txt]
    exact fun o => hm o.2.2
theorem even_low {x : List UInt8} (hx : AllD x) (hm : ∀ i : Nat, i < 4 → byteN (val x 8) i ≤ 63) : ∀ k, k < 4 → digV (at8 x (2 * k)) ≤ 3 := by
  obtain ⟨a0, a1, a2, a3, a4, a5, a6, a7⟩ := all8 hx
  have m0 := hm 0 (by omega)
  have m1 := hm 1 (by omega)
  have m2 := hm 2 (by omega)
  have m3 := hm 3 (by omega)
  have m0' : byteN (val x 8) 0 ≤ 63 := m0
  have m1' : byteN (val x 8) 1 ≤ 63 := m1
  have m2' : byteN (val x 8) 2 ≤ 63 := m2
  have m3' : byteN (val x 8) 3 ≤ 63 := m3
  rw [byteN0, val8] at m0'
  rw [byteN1, val8] at m1'
  rw [byteN2, val8] at m2'
  rw [byteN3, val8] at m3'
  exact four (P := fun k => digV (at8 x (2 * k)) ≤ 3) (by show digV (at8 x 0) ≤ 3; omega) (by show digV (at8 x 2) ≤ 3; omega) (by show digV (at8 x 4) ≤ 3; omega) (by show digV (at8 x 6) ≤ 3; omega)
theorem low_may {x : List UInt8} (hx : AllD x) (h : ∀ k, k < 4 → digV (at8 x (2 * k)) ≤ 3) : ∀ i : Nat, i < 4 → byteN (val x 8) i ≤ 63 := by
  obtain ⟨a0, a1, a2, a3, a4, a5, a6, a7⟩ := all8 hx
  have h0 : digV (at8 x 0) ≤ 3 := h 0 (by omega)
  have h2 : digV (at8 x 2) ≤ 3 := h 1 (by omega)
  have h4 : digV (at8 x 4) ≤ 3 := h 2 (by omega)
  have h6 : digV (at8 x 6) ≤ 3 := h 3 (by omega)
  refine four ?_ ?_ ?_ ?_
  · show byteN (val x 8) 0 ≤ 63
    rw [byteN0, val8]; omega
  · show byteN (val x 8) 1 ≤ 63
    rw [byteN1, val8]; omega
  · show byteN (val x 8) 2 ≤ 63
    rw [byteN2, val8]; omega
  · show byteN (val x 8) 3 ≤ 63
    rw [byteN3, val8]; omega
theorem dig_no {c : Int} (h : c < 48 ∨ (57 < c ∧ c < 97) ∨ 102 < c) : digV c = -1 := by
  unfold digV
  split
  · omega
  · split
    · omega
    · rfl
theorem dig_num {c : Int} (h : 48 ≤ c) (h1 : c ≤ 57) : digV c = c - 48 := by
  unfold digV
  rw [if_pos ⟨h, h1⟩]
theorem dig_let {c : Int} (h : 97 ≤ c) (h1 : c ≤ 102) : digV c = c - 87 := by
  unfold digV
  rw [if_neg (by omega), if_pos ⟨h, h1⟩]
theorem rofRules_ok (ι : Unk) (hp : ι.prd = prd) : ∀ r ∈ rofRules, ROk ι r := by
  refine all_cons ?_ (all_cons ?_ (all_cons ?_ (all_cons ?_ (all_append (all_append (all_append (all_append (all_append (all_append (all_append (all_map ?_) (all_map ?_)) (all_map ?_)) (all_map ?_)) (all_map ?_)) (all_map ?_)) (all_map ?_)) (all_map ?_)))))
  · exact (badRules_ok ι hp) _ List.mem_cons_self
  · intro _ h
    simp only [List.mem_cons, List.not_mem_nil, or_false, forall_eq, n_eql, n_n, n_tlen] at h
    exact (d_val hp).2 ⟨by rw [n_txt]; omega, rfl, fun j hj => absurd hj (by omega)⟩
  · intro hf _
    simp only [List.mem_cons, List.not_mem_nil, or_false, forall_eq, d_val hp] at hf
    exact (d_hex hp).2 ⟨hf.1, fun j hj => (hf.2.2 j hj).1, hf.2.1.symm⟩
  · intro hf _
    simp only [List.mem_cons, List.not_mem_nil, or_false, forall_eq, d_val hp] at hf
    rw [d_may hp, hf.2.1]
    exact low_may (fun j hj => (hf.2.2 j hj).1) fun k hk => (hf.2.2 (2 * k) (by omega)).2 (by omega)
  · intro k hk _ h
    simp only [List.mem_cons, List.not_mem_nil, or_false, forall_eq, n_lss, n_n, c0_den] at h
    rw [n_not, d_ok hp, n_txt]
    intro e
    have := e.2.1 k hk
    rw [dig_no (Or.inl h)] at this
    omega
  · intro k hk _ h
    simp only [List.mem_cons, List.not_mem_nil, or_false, forall_eq_or_imp, forall_eq, n_lss, n_gtr, n_n, c0_den] at h
    rw [n_not, d_ok hp, n_txt]
    intro e
    have := e.2.1 k hk
    rw [dig_no (Or.inr (Or.inl h))] at this
    omega
  · intro k hk _ h
    simp only [List.mem_cons, List.not_mem_nil, or_false, forall_eq, n_gtr, n_n, c0_den] at h
    rw [n_not, d_ok hp, n_txt]
    intro e
    have := e.2.1 k hk
    rw [dig_no (Or.inr (Or.inr h))] at this
    omega
  · intro k hk _ h
    simp only [List.mem_cons, List.not_mem_nil, or_false, forall_eq_or_imp, forall_eq, n_geq, n_leq, n_gtr, n_off, n_n, c0_den] at h
    rw [n_not, d_ok hp, n_txt]
    intro e
    have := even_low e.2.1 e.2.2 k hk
    rw [dig_num h.1 h.2.1] at this
    omega
  · intro k hk _ h
    simp only [List.mem_cons, List.not_mem_nil, or_false, forall_eq_or_imp, forall_eq, n_geq, n_leq, n_n, c0_den] at h
    rw [n_not, d_ok hp, n_txt]
    intro e
    have := even_low e.2.1 e.2.2 k hk
    rw [dig_let h.1 h.2] at this
    omega
  · intro k hk hf h
    simp only [List.mem_cons, List.not_mem_nil, or_false, forall_eq_or_imp, forall_eq, n_not, n_geq, n_leq, n_gtr, n_off, n_n, c0_den, d_val hp] at hf h
    rw [n_txt] at hf
    have e := dig_num h.1 h.2.1
    refine (d_val hp).2 ⟨by rw [n_txt]; exact hf.1, ?_, fun j hj => ?_⟩
    · rw [n_off, n_lin, n_off, n_n, c0_den, n_txt, hf.2.1]
      show _ = 16 * val (ι.ft 0) (2 * k) + digV (at8 (ι.ft 0) (2 * k))
      omega
    · rw [n_txt]
      by_cases hj' : j < 2 * k
      · exact hf.2.2 j hj'
      · rw [show j = 2 * k by omega]
        exact ⟨by omega, fun _ => by omega⟩
  · intro k hk hf h
    simp only [List.mem_cons, List.not_mem_nil, or_false, forall_eq_or_imp, forall_eq, n_geq, n_leq, n_n, c0_den, d_val hp] at hf h
    rw [n_txt] at hf
    have e := dig_num h.1 h.2
    refine (d_val hp).2 ⟨by rw [n_txt]; exact hf.1, ?_, fun j hj => ?_⟩
    · rw [n_off, n_lin, n_off, n_n, c0_den, n_txt, hf.2.1]
      show _ = 16 * val (ι.ft 0) (2 * k + 1) + digV (at8 (ι.ft 0) (2 * k + 1))
      omega
    · rw [n_txt]
      by_cases hj' : j < 2 * k + 1
      · exact hf.2.2 j hj'
      · rw [show j = 2 * k + 1 by omega]
        exact ⟨by omega, fun hz => by omega⟩
  · intro k hk hf h
    simp only [List.mem_cons, List.not_mem_nil, or_false, forall_eq_or_imp, forall_eq, n_geq, n_leq, n_n, c0_den, d_val hp] at hf h
    rw [n_txt] at hf
    have e := dig_let h.1 h.2
    refine (d_val hp).2 ⟨by rw [n_txt]; exact hf.1, ?_, fun j hj => ?_⟩
    · rw [n_off, n_lin, n_off, n_n, c0_den, n_txt, hf.2.1]
      show _ = 16 * val (ι.ft 0) (2 * k + 1) + digV (at8 (ι.ft 0) (2 * k + 1))
      omega
    · rw [n_txt]
      by_cases hj' : j < 2 * k + 1
      · exact hf.2.2 j hj'
      · rw [show j = 2 * k + 1 by omega]
        exact ⟨by omega, fun hz => by omega⟩
theorem first_high {ι : Unk} : ∀ K, K ≤ 8 → (∃ k, k < K ∧ (∀ j, j < k → (lt (c0 j) 128).den ι = true) ∧ (BE.not (lt (c0 k) 128)).den ι = true) ∨ ∀ j, j < K → (lt (c0 j) 128).den ι = true
  | 0, _ => Or.inr fun j hj => absurd hj (by omega)
  | K + 1, hK => by
    rcases first_high (ι := ι) K (by omega) with ⟨k, hk, h⟩ | h
    · exact Or.inl ⟨k, by omega, h⟩
    · by_cases hl : (lt (c0 K) 128).den ι = true
      · refine Or.inr fun j hj => ?_
        by_cases e : j = K
        · rw [e]; exact hl
        · exact h j (by omega)
      · exact Or.inl ⟨K, by omega, h, n_not.2 hl⟩
theorem cov_of {p q : Prop} (ι : Unk) (_ : ι.prd = prd) (_ : p) (_ : q) : ∃ fs ∈ [ofCase 0, ofCase 1, ofCase 2, ofCase 3, ofCase 4, ofCase 5, ofCase 6, ofCase 7, ofCase 8, ofCase 9], ∀ b ∈ fs, b.den ι = true := by
  have hm : ∀ k, k < 10 → ofCase k ∈ [ofCase 0, ofCase 1, ofCase 2, ofCase 3, ofCase 4, ofCase 5, ofCase 6, ofCase 7, ofCase 8, ofCase 9] := by
    intro k hk
    have : (List.range 10).map ofCase = [ofCase 0, ofCase 1, ofCase 2, ofCase 3, ofCase 4, ofCase 5, ofCase 6, ofCase 7, ofCase 8, ofCase 9] := rfl
    rw [← this]
    exact List.mem_map.2 ⟨k, List.mem_range.2 hk, rfl⟩
  by_cases hl : (IE.tlen 0).den ι = 8
  · rcases first_high (ι := ι) 8 (Nat.le_refl _) with ⟨k, hk, h1, h2⟩ | h
    · refine ⟨ofCase k, hm k (by omega), ?_⟩
      unfold ofCase
      rw [if_neg (by omega), if_pos hk]
      refine all_append (all_cons (n_eql.2 hl) fun b hb => ?_) (all_cons h2 all_nil)
      obtain ⟨j, hj, rfl⟩ := List.mem_map.1 hb
      exact h1 j (List.mem_range.1 hj)
    · refine ⟨ofCase 8, hm 8 (by omega), ?_⟩
      unfold ofCase
      rw [if_neg (by omega), if_neg (by omega), List.append_nil]
      refine all_cons (n_eql.2 hl) fun b hb => ?_
      obtain ⟨j, hj, rfl⟩ := List.mem_map.1 hb
      exact h j (List.mem_range.1 hj)
  · refine ⟨ofCase 9, hm 9 (by omega), ?_⟩
    unfold ofCase
    rw [if_pos rfl]
    exact all_cons (n_neq.2 hl) all_nil

def kn_fMay : Kn := { cons := [] }
theorem known_fMay : Known Try.prog kn_fMay ⟨0, prd⟩ := ⟨fun f hf => (by cases hf), all_nil⟩
set_option maxRecDepth 100000 in
theorem ran_fMay_0 : fnRun Try.prog true kn_fMay 300 60 fMay { rules := mayRules } [] = true := by kernel_rfl
theorem ok_fMay : FnOk Try.prog prd fMay := fn_ok (dr := true) (kn := kn_fMay) (fuel := 300) (d := 60) (cfg := { rules := mayRules }) plain known_fMay (fun _ call hC => anyOk (by kernel_rfl) plain hC) (rules_of mayRules_ok) (cs := [[]]) (fun _ _ _ _ => cov_one trivial) (all_cons ran_fMay_0 all_nil)

def kn_fDigit : Kn := { cons := [] }
theorem known_fDigit : Known Try.prog kn_fDigit ⟨0, prd⟩ := ⟨fun f hf => (by cases hf), all_nil⟩
set_option maxRecDepth 100000 in
theorem ran_fDigit_0 : fnRun Try.prog true kn_fDigit 300 60 fDigit cfgDig [] = true := by kernel_rfl
theorem ok_fDigit : FnOk Try.prog prd fDigit := fn_ok (dr := true) (kn := kn_fDigit) (fuel := 300) (d := 60) (cfg := cfgDig) plain known_fDigit (fun _ call hC => anyOk (by kernel_rfl) plain hC) (rules_of digRules_ok) (cs := [[]]) (fun _ _ _ _ => cov_one trivial) (all_cons ran_fDigit_0 all_nil)

def kn_fTextP : Kn := { cons := [fMay.con] }
theorem known_fTextP : Known Try.prog kn_fTextP ⟨0, prd⟩ := ⟨fun f hf => (by cases hf), (all_cons (con_ok ok_fMay) all_nil)⟩
set_option maxRecDepth 100000 in
theorem ran_fTextP_0 : fnRun Try.prog true kn_fTextP 300 60 fTextP cfgText [] = true := by kernel_rfl
theorem ok_fTextP : FnOk Try.prog prd fTextP := fn_ok (dr := true) (kn := kn_fTextP) (fuel := 300) (d := 60) (cfg := cfgText) plain known_fTextP (fun _ call hC => anyOk (by kernel_rfl) plain hC) (rules_of textRules_ok) (cs := [[]]) (fun _ _ _ _ => cov_one trivial) (all_cons ran_fTextP_0 all_nil)

def kn_fOfT : Kn := { cons := [fMay.con, fDigit.con] }
theorem known_fOfT : Known Try.prog kn_fOfT ⟨0, prd⟩ := ⟨fun f hf => (by cases hf), (all_cons (con_ok ok_fMay) (all_cons (con_ok ok_fDigit) all_nil))⟩
set_option maxRecDepth 100000 in
theorem ran_fOfT_0 : fnRun Try.prog true kn_fOfT 300 60 fOfT cfgOf (ofCase 0) = true := by kernel_rfl
set_option maxRecDepth 100000 in
theorem ran_fOfT_1 : fnRun Try.prog true kn_fOfT 300 60 fOfT cfgOf (ofCase 1) = true := by kernel_rfl
set_option maxRecDepth 100000 in
theorem ran_fOfT_2 : fnRun Try.prog true kn_fOfT 300 60 fOfT cfgOf (ofCase 2) = true := by kernel_rfl
set_option maxRecDepth 100000 in
theorem ran_fOfT_3 : fnRun Try.prog true kn_fOfT 300 60 fOfT cfgOf (ofCase 3) = true := by kernel_rfl
set_option maxRecDepth 100000 in
theorem ran_fOfT_4 : fnRun Try.prog true kn_fOfT 300 60 fOfT cfgOf (ofCase 4) = true := by kernel_rfl
set_option maxRecDepth 100000 in
theorem ran_fOfT_5 : fnRun Try.prog true kn_fOfT 300 60 fOfT cfgOf (ofCase 5) = true := by kernel_rfl
set_option maxRecDepth 100000 in
theorem ran_fOfT_6 : fnRun Try.prog true kn_fOfT 300 60 fOfT cfgOf (ofCase 6) = true := by kernel_rfl
set_option maxRecDepth 100000 in
theorem ran_fOfT_7 : fnRun Try.prog true kn_fOfT 300 60 fOfT cfgOf (ofCase 7) = true := by kernel_rfl
set_option maxRecDepth 100000 in
theorem ran_fOfT_8 : fnRun Try.prog true kn_fOfT 300 60 fOfT cfgOf (ofCase 8) = true := by kernel_rfl
set_option maxRecDepth 100000 in
theorem ran_fOfT_9 : fnRun Try.prog true kn_fOfT 300 60 fOfT cfgOf (ofCase 9) = true := by kernel_rfl
theorem ok_fOfT : FnOk Try.prog prd fOfT := fn_ok (dr := true) (kn := kn_fOfT) (fuel := 300) (d := 60) (cfg := cfgOf) plain known_fOfT (fun _ call hC => anyOk (by kernel_rfl) plain hC) (rules_of ofRules_ok) (cs := [(ofCase 0), (ofCase 1), (ofCase 2), (ofCase 3), (ofCase 4), (ofCase 5), (ofCase 6), (ofCase 7), (ofCase 8), (ofCase 9)]) (fun ι h a b => cov_of ι h a b) (all_cons ran_fOfT_0 (all_cons ran_fOfT_1 (all_cons ran_fOfT_2 (all_cons ran_fOfT_3 (all_cons ran_fOfT_4 (all_cons ran_fOfT_5 (all_cons ran_fOfT_6 (all_cons ran_fOfT_7 (all_cons ran_fOfT_8 (all_cons ran_fOfT_9 all_nil))))))))))

def kn_fROfT : Kn := { cons := [] }
theorem known_fROfT : Known Try.prog kn_fROfT ⟨0, prd⟩ := ⟨fun f hf => (by cases hf), all_nil⟩
set_option maxRecDepth 100000 in
theorem ran_fROfT_0 : fnRun Try.prog true kn_fROfT 300 60 fROfT cfgROf [] = true := by kernel_rfl
theorem ok_fROfT : FnOk Try.prog prd fROfT := fn_ok (dr := true) (kn := kn_fROfT) (fuel := 300) (d := 60) (cfg := cfgROf) plain known_fROfT (fun _ call hC => anyOk (by kernel_rfl) plain hC) (rules_of rofRules_ok) (cs := [[]]) (fun _ _ _ _ => cov_one trivial) (all_cons ran_fROfT_0 all_nil)

def lawCfg : List Bool → Cfg := fun _ => { rules := lawTRules }
def knLaw : Kn := { kn := some 8, cons := [fMay.con, fTextP.con, fOfT.con, fROfT.con] }
theorem knows : Known Try.prog knLaw ⟨0, prd⟩ := ⟨knows1, (all_cons (con_ok ok_fMay) (all_cons (con_ok ok_fTextP) (all_cons (con_ok ok_fOfT) (all_cons (con_ok ok_fROfT) all_nil))))⟩

theorem lawRules (fl : List Bool) (ι : Unk) (hp : ι.prd = prd) : RulesOk (lawCfg fl).rules ι := (fun _ => rules_of lawTRules_ok) fl ι hp

def cs (_ : List Bool) : List (List BE) := [[]]

theorem cs_ne (fl : List Bool) : cs fl ≠ [] := List.cons_ne_nil _ _

theorem cs_ok (fl : List Bool) (ι : Unk) (_ : ι.prd = prd) : ∃ fs ∈ cs fl, ∀ b ∈ fs, b.den ι = true := ⟨[], List.mem_cons_self, fun b hb => by cases hb⟩

set_option maxRecDepth 100000 in
theorem ran0 : runFl Try.prog true knLaw 300 60 4 [9] [] (lawCfg []) [] = true := by kernel_rfl

theorem ok : ∀ fs ∈ cs [], runFl Try.prog true knLaw 300 60 4 [9] [] (lawCfg []) fs = true := by
  intro fs h
  simp only [cs, List.mem_cons, List.not_mem_nil, or_false] at h
  rcases h with rfl
  · exact ran0

theorem runs : ∀ fl : List Bool, fl.length = 0 → ∀ fs ∈ cs fl, runFl Try.prog true knLaw 300 60 4 [9] fl (lawCfg fl) fs = true
  | [], _ => ok

set_option maxRecDepth 100000 in
theorem lifted (os : Os) (started : os.Started) (H : Type) (enc : TypeId × Value → H) :
    ReturnsInHanded {} Try.checked os 4 .any (Rows.permReadsSpec.pre6 enc Try.prog Try.f4 Rows.permReadsRow.domain false) (Rows.permReadsSpec.post enc Try.prog Try.f4 false true false false) := by
  refine returnsInHanded_of_change (C := Try.checked) own started (by kernel_rfl) Try.func4
    (ChangeSpec.witness6 (enc := enc) (C := Try.checked) false ⟨#[], #[.string ⟨#[]⟩], []⟩ 8 (by kernel_rfl) (by kernel_rfl) (by kernel_rfl) (by kernel_rfl)) ?_
  intro W base args ds gs before hval0 hW hcnd _
  have hval : ∀ (j : Nat) t v, Try.f4.params[j]? = some t → args[j]? = some v → Value.okWide Try.prog W .any base t v := hval0
  have hW' := hW
  obtain ⟨p, q, hA0, hV, hpq, hfz, hnd⟩ := hW
  have hA : DataW.TrodAll enc Try.prog W 0 (fun _ => true) true Try.f4.params.toList args.toList ds p := hA0
  rw [Try.params4] at hA hval
  have hrun := calls_runs (dr := true) (kn := knLaw) (fuel := 300) (d := 60) (f := 4) (ts := [9]) (cfg := lawCfg) (prd := prd) (cs := cs) plain knows (fun _ call hC => anyOk (by kernel_rfl) plain hC) lawRules cs_ok cs_ne (fun fl hfl => runs fl (hfl.trans (by kernel_rfl))) (fun j t v h h' => hval j t v (by simpa using h) (by simpa using h')) hA
  obtain ⟨v0, vs0, d0, ds0, p0, q0, hargs, rfl, hp0, h0, r0⟩ := trodAll_cons hA
  obtain ⟨rfl, rfl, hpz⟩ := trodAll_nil r0
  obtain rfl : args = #[v0] := by cases args; simp_all
  obtain ⟨rfl, rfl⟩ := trodVars_none hV
  refine hrun.mono fun e W' ⟨he, hg⟩ => ?_
  subst he
  exact ⟨_, rfl, post_of_below hW' hg (by kernel_rfl) (by rw [Try.params4]; kernel_rfl) rfl rfl rfl (fun _ _ _ => (trodAll_cons_mk (shut_bool Try.underlying4 _) trodAll_mk0)) (ok_one (by kernel_rfl) rfl (okWide_bool_mk Try.underlying4 _))⟩

theorem over : Rows.permReadsRow.holds Try.pinned (OpenSpec.ofChange Rows.permReadsSpec) :=
  OpenClaim.holds_of_wide 4 Try.f4 rfl rfl rfl rfl rfl rfl rfl ⟨rfl, rfl, rfl, rfl, rfl⟩ rfl rfl rfl rfl rfl (by kernel_rfl) Try.func4 (by kernel_rfl)
    (of_decide_eq_true (by kernel_rfl)) (by unfold Func.isWrapper; first | (rw [if_pos (by decide +kernel)]; kernel_rfl) | (rw [if_neg (by decide +kernel)]; exact ⟨rfl, rfl⟩))
    (fun os started H enc _ => lifted os started H enc)

/-- THE STATEMENT -/
theorem proved : Rows.PermReadsSaid :=
  over
#print axioms proved
end Go.Proofs.Ytagippfhhaelcaa.permReads
