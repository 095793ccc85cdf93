/-
  WirePuts holds: whatever the input, the call returns true and what it was given reads as before; by a walker that computes in the kernel with unknowns, and whose soundness is proved in the texts beside this one.
-/
import Derived.Test.YtickflbbidihiaaRows
import Derived.Test.YtickflbbidihiaaSzPf
import Derived.Test.YtickflbbidihiaaSzMe
import Derived.WalkKit
import Derived.ProofKit
import Derived.OpenShut
namespace Go.Proofs.Ytickflbbidihiaa.wirePuts
open Go.Sx Go.ChangeShapes Go.WideShapes Go.ChangeAt Go.RowKit
set_option linter.unusedVariables false

theorem own : ownKnob Try.prog.godebug = none := by kernel_rfl

theorem plain : plainNames Try.prog = true := by kernel_rfl

set_option maxRecDepth 100000 in
theorem ranKnown : allTrue (runCall Try.prog true {} 300 60 false 4 [] Hp.nil []) = true := by kernel_rfl

theorem knows1 : Known1 Try.prog (some 4) := by
  intro f hf w
  injection hf with hf
  subst hf
  exact calls_true (dr := true) (kn := {}) (fuel := 300) (d := 60) (args := []) (xs := []) (ι := io []) (pc := []) w plain known_none (fun _ call hC => anyOk (by kernel_rfl) plain hC) ranKnown rfl (fun _ h => by cases h)

abbrev ge (a : IE) (n : Int) : BE := .cmp .geq a (.lit n)
abbrev le (a : IE) (n : Int) : BE := .cmp .leq a (.lit n)
abbrev lt (a : IE) (n : Int) : BE := .cmp .lss a (.lit n)
abbrev gt (a : IE) (n : Int) : BE := .cmp .gtr a (.lit n)
abbrev v (i : Nat) : IE := .fv i
abbrev t (i : Nat) : TX := .fv i
abbrev r (i : Nat) : RX := .row i
abbrev leI (a b : IE) : BE := .not (.cmp .lss b a)
abbrev ltI (a b : IE) : BE := .cmp .lss a b
abbrev rule (find pre : List BE) (con : BE) : Rule := { pat := true, find, pre, con }
abbrev bad (l : List Nat) : List (Nat × AV) := l.map fun i => (i, AV.poison)
abbrev upto (a b : Nat) : List Nat := (List.range (b + 1 - a)).map (· + a)
abbrev eqI (a b : IE) : BE := .cmp .eql a b
abbrev neI (a b : IE) : BE := .not (.cmp .eql a b)
abbrev lrn (trig : IE) (find pre : List BE) (con : BE) : Rule := { pat := true, find, pre, con, trig := some trig }
abbrev i64 : Sh := .leaf (.int .i64)
abbrev u64 : Sh := .leaf (.int .u64)
abbrev TU : Nat := 5
abbrev rowB : Sh := .row TU [.int .u8]
abbrev c8 (k : Nat) (i : IE) : IE := .wrap .u8 (.cell k i)
abbrev txtOf (y : Nat) (n : IE) : TX := .row y (.lit 0) n
/-- A number fits into so many bytes; these are its bytes; the first of them stand in a row of so many; what is left of it behind so many bytes. -/
abbrev pF (n k : IE) : BE := .usr 0 [n, k] [] []
abbrev pPut (n k : IE) (x : RX) : BE := .usr 1 [n, k] [] [x]
abbrev pPutI (i k n : IE) (x : RX) : BE := .usr 2 [i, k, n] [] [x]
abbrev pRest (i n q : IE) : BE := .usr 3 [i, n, q] [] []
def putAlts : List Alt := [
  { rets := [rowB, i64], post := [eqI (v 4) (.lit 0), eqI (v 3) (v 1), ge (v 3) 1, le (v 3) 8, pF (v 0) (v 1), pPut (v 0) (v 1) (r 2)] },
  { rets := [.nil, i64], post := [eqI (v 4) (.lit 2), .not (pF (v 0) (v 1))] }]
def fPut : Fs := { f := 5, shs := [u64, i64], alts := putAlts }
def fRPut : Fs := { f := 6, shs := [u64, i64], alts := putAlts }
def putAnn : Ann := { key := (40, 7, 1), heads := [{ nf := 2, src := [.int 27, .brow 0], bsrc := [], tm := fun m _ => (27, .int .i64 (v m)) :: bad (7 :: upto 28 38), bl := fun m _ => [(0, .row (r (m + 1)) TU [.int .u8] (v 1) (v 1))], nb := fun _ _ => [], inv := fun m _ => [ge (v m) 0, le (v m) 8, leI (v m) (v 1), pPutI (v m) (v 1) (v 0) (r (m + 1))], ms := fun m _ => .dif (v 1) (v m) }] }
def rputAnn : Ann := { key := (30, 5, 3), heads := [
  { nf := 0, src := [], bsrc := [], tm := fun _ _ => (7, .int .i64 (.lit 0)) :: (6, .nilSlice) :: bad (upto 14 26), bl := fun _ _ => [], nb := fun _ _ => [], inv := fun _ _ => [], ms := fun _ _ => v 1 },
  { nf := 4, src := [.int 7, .int 0, .row 6, .rc 6], bsrc := [6], tm := fun m nB => (7, .int .i64 (v m)) :: (0, .int .u64 (v (m + 1))) :: (6, .sl nB 1 (.lit 0) (.lit 0) (v m) (v (m + 3))) :: bad (upto 14 26), bl := fun _ _ => [], nb := fun m _ => [.row (.row (m + 2)) TU [.int .u8] (v m) (v (m + 3))], inv := fun m _ => [ge (v m) 1, leI (v m) (v 1), le (v m) 8, leI (v m) (v (m + 3)), ge (v (m + 1)) 0, le (v (m + 1)) 18446744073709551615, pRest (v m) (v 0) (v (m + 1)), pPut (v 0) (v m) (r (m + 2))], ms := fun m _ => .dif (v 1) (v m) }] }
abbrev byte1 (n i : IE) : IE := .wrap .u8 (.bin .shr .u64 n (.lin i 8 0))
def putRules : List Rule := [
  rule [] [ltI (v 0) (v 1)] (ltI (.dif (v 1) (.off (v 0) (.lit 1))) (.dif (v 1) (v 0))),
  rule [] [leI (v 0) (v 1)] (ge (.dif (v 1) (v 0)) 0),
  rule [] [lt (v 1) 1] (.not (pF (v 0) (v 1))),
  rule [] [gt (v 1) 8] (.not (pF (v 0) (v 1))),
  rule [.cmp .neq (.bin .shr .u64 (v 0) (.lin (v 1) 8 0)) (.lit 0)] [lt (v 1) 8, ge (v 1) 1, ge (v 0) 0] (.not (pF (v 0) (v 1))),
  rule [.not (.cmp .neq (.bin .shr .u64 (v 0) (.lin (v 1) 8 0)) (.lit 0))] [lt (v 1) 8, ge (v 1) 1, ge (v 0) 0] (pF (v 0) (v 1)),
  rule [] [ge (v 1) 8, le (v 1) 8, ge (v 0) 0, le (v 0) 18446744073709551615] (pF (v 0) (v 1)),
  rule [] [ge (v 0) 0] (pPutI (.lit 0) (v 0) (v 1) (.rep (v 0) [(.int .u8, .lit 0)])),
  rule [pPutI (v 0) (v 1) (v 2) (r 3)] [ge (v 0) 0, ltI (v 0) (v 1), le (v 1) 8, ge (v 2) 0] (pPutI (.off (v 0) (.lit 1)) (v 1) (v 2) (.set (r 3) (v 0) (.lits [(.int .u8, byte1 (v 2) (v 0))]))),
  rule [pPutI (v 3) (v 1) (v 0) (r 2)] [leI (v 1) (v 3), ge (v 1) 0] (pPut (v 0) (v 1) (r 2)),
  rule [] [ge (v 0) 0, le (v 0) 18446744073709551615] (pRest (.lit 1) (v 0) (.bin .quo .u64 (v 0) (.lit 256))),
  rule [pRest (v 0) (v 1) (v 2)] [ge (v 0) 0, ge (v 2) 0, le (v 2) 18446744073709551615] (pRest (.off (v 0) (.lit 1)) (v 1) (.bin .quo .u64 (v 2) (.lit 256))),
  rule [.isrow 1 (.lits [(.int .u8, .bin .rem .u64 (v 0) (.lit 256))])] [ge (v 0) 0] (pPut (v 0) (.lit 1) (r 1)),
  rule [pPut (v 0) (v 1) (r 3), pRest (v 1) (v 0) (v 4), .isrow 2 (.cat (r 3) (.lits [(.int .u8, .bin .rem .u64 (v 4) (.lit 256))]))] [ge (v 1) 0, ge (v 4) 0] (pPut (v 0) (.off (v 1) (.lit 1)) (r 2)),
  rule [pPut (v 0) (v 3) (r 2)] [leI (v 1) (v 3), leI (v 3) (v 1)] (pPut (v 0) (v 1) (r 2)),
  rule [pRest (v 2) (v 0) (v 3)] [leI (v 1) (v 2), leI (v 2) (v 1), gt (v 3) 0] (.not (pF (v 0) (v 1))),
  rule [pRest (v 2) (v 0) (v 3)] [leI (v 1) (v 2), leI (v 2) (v 1), le (v 3) 0, ge (v 1) 1, le (v 1) 8, ge (v 0) 0] (pF (v 0) (v 1)),
  rule [] [ge (v 1) 1] (ltI (.dif (v 0) (v 1)) (v 0)) ]
abbrev w32 (n : IE) : IE := .wrap .u64 (.wrap .u32 (.wrap .i32 n))
def wireRules : List Rule := [
  rule [] [] (.teq (t 0) (t 0)),
  rule [.isrow 0 (r 2)] [] (.teq (txtOf 0 (v 1)) (txtOf 2 (v 1))),
  rule [.isrow 0 (.cat (r 4) (r 5)), .isrow 4 (.cat (.rep (.lit 0) [(.int .u8, .lit 0)]) (r 6)), .isrow 5 (r 7), .isrow 2 (.cat (r 8) (r 7)), pPut (v 9) (v 10) (r 6), pPut (v 9) (v 10) (r 8), eqI (v 1) (v 10), eqI (v 3) (v 10)] [] (.teq (txtOf 0 (.off (v 1) (v 11))) (txtOf 2 (.off (v 3) (v 11)))),
  rule [.isrow 0 (.cat (r 4) (.lits [])), .isrow 4 (.cat (.rep (.lit 0) [(.int .u8, .lit 0)]) (r 5)), .isrow 2 (.cat (r 6) (.lits [])), pPut (v 7) (v 8) (r 5), pPut (v 7) (v 8) (r 6), eqI (v 1) (v 8), eqI (v 3) (v 8)] [] (.teq (txtOf 0 (v 1)) (txtOf 2 (v 3))),
  rule [] [lt (v 1) 1] (.teq (txtOf 0 (v 1)) (.lit [])),
  rule [.isrow 0 (.cat (r 4) (.lits [])), .isrow 4 (.cat (.rep (.lit 0) [(.int .u8, .lit 0)]) (r 5)), .isrow 2 (.cat (r 6) (r 7)), .rlen (r 7) (v 8), pPut (v 9) (v 10) (r 5), pPut (v 11) (v 10) (r 6), eqI (v 1) (v 10), eqI (v 3) (v 10)] [lt (v 8) 1, eqI (v 9) (.lit 0), le (v 11) 0, ge (v 11) 0] (.teq (txtOf 0 (v 1)) (txtOf 2 (.off (v 3) (v 8)))),
  rule [pF (v 0) (v 1), .not (pF (v 0) (v 1))] [] (.lit false),
  rule [pPut (v 4) (v 5) (r 0), pPut (v 4) (v 5) (r 2), eqI (v 1) (v 5), eqI (v 3) (v 5)] [] (.teq (txtOf 0 (v 1)) (txtOf 2 (v 3))),
  rule [pPut (.wrap .u32 (v 4)) (v 5) (r 0), pPut (.off (v 4) (.lit 4294967296)) (v 5) (r 2), eqI (v 1) (v 5), eqI (v 3) (v 5)] [lt (v 4) 0, ge (v 4) (-2147483648)] (.teq (txtOf 0 (v 1)) (txtOf 2 (v 3))),
  rule [] [ge (v 0) 0, le (v 0) 4294967295] (pF (v 0) (.lit 4)),
  rule [.not (pF (v 0) (.lit 4))] [ge (v 0) 0, le (v 0) 4294967295] (.lit false),
  rule [] [eqI (v 1) (.lit 1), ge (v 0) 0, le (v 0) 255] (pF (v 0) (v 1)),
  rule [] [eqI (v 1) (.lit 2), ge (v 0) 0, le (v 0) 65535] (pF (v 0) (v 1)),
  rule [] [eqI (v 1) (.lit 1), gt (v 0) 255] (.not (pF (v 0) (v 1))),
  rule [] [eqI (v 1) (.lit 2), gt (v 0) 65535] (.not (pF (v 0) (v 1))) ]
abbrev sizeV : IE := .wrap .i64 (.var 1)
abbrev numV : IE := .wrap .u64 (.var 0)
abbrev wholeV : IE := .wrap .i64 (.var 2)
def bls (fl : List Bool) : IE := match fl with | [false] => v 1 | _ => .lit 0
/-- The bytes in block 'b' are each one more. -/
def addAnn (b : Nat) : Ann := { key := (105, 17, 4), heads := [{ nf := 4, src := [.int 14, .row 9, .len 9, .cap 9], bsrc := [], tm := fun m _ => (14, .int .i64 (v m)) :: (9, .sl b 1 (.lit 0) (.lit 0) (v (m + 2)) (v (m + 3))) :: bad (upto 85 96), bl := fun m _ => [(b, .row (r (m + 1)) TU [.int .u8] (v (m + 2)) (v (m + 3)))], nb := fun _ _ => [], inv := fun m _ => [ge (v m) 0, leI (v m) (v (m + 2)), le (v (m + 2)) 70010], ms := fun m _ => .dif (v (m + 2)) (v m) }] }
def cfgW (fl : List Bool) : Cfg := { rules := wireRules ++ putRules, grow := true, anns := [10, 8, 6, 9, 7, 5, 4].map addAnn }
abbrev fitsV : BE := pF numV sizeV
def csW (fl : List Bool) : List (List BE) := match fl with | [false] => [[ge (v 1) 1, ge wholeV 0, fitsV], [ge (v 1) 1, ge wholeV 0, .not fitsV], [ge (v 1) 1, .not (ge wholeV 0), fitsV], [ge (v 1) 1, .not (ge wholeV 0), .not fitsV], [.not (ge (v 1) 1), ge wholeV 0, fitsV], [.not (ge (v 1) 1), ge wholeV 0, .not fitsV], [.not (ge (v 1) 1), .not (ge wholeV 0), fitsV], [.not (ge (v 1) 1), .not (ge wholeV 0), .not fitsV]] | _ => [[ge wholeV 0, fitsV], [ge wholeV 0, .not fitsV], [.not (ge wholeV 0), fitsV], [.not (ge wholeV 0), .not fitsV]]
def cfgPut : Cfg := { rules := putRules, grow := true, anns := [putAnn, rputAnn] }
def byteN (n : Int) (j : Nat) : Int := n / 256 ^ j % 256
def putV (n : Int) : Nat → List Value
  | 0 => []
  | q + 1 => putV n q ++ [.int .u8 (byteN n q)]
def Fits (n k : Int) : Prop := 1 ≤ k ∧ k ≤ 8 ∧ 0 ≤ n ∧ n < 256 ^ k.toNat
def prd : Nat → List Int → List (List UInt8) → List (List Value) → Prop
  | 0, [n, k], _, _ => Fits n k
  | 1, [n, k], _, [x] => x = putV n k.toNat
  | 2, [i, k, n], _, [x] => (x.length : Int) = k ∧ ∀ j : Nat, (j : Int) < i → x[j]? = some (.int .u8 (byteN n j))
  | 3, [i, n, q], _, _ => q = n / 256 ^ i.toNat
  | _, _, _, _ => False
section
variable {ι : Unk} (hp : ι.prd = prd)
include hp
theorem d_f {n k : IE} : (pF n k).den ι = true ↔ Fits (n.den ι) (k.den ι) := n_usr hp
theorem d_put {n k : IE} {x : RX} : (pPut n k x).den ι = true ↔ x.den ι = putV (n.den ι) (k.den ι).toNat := n_usr hp
theorem d_putI {i k n : IE} {x : RX} : (pPutI i k n x).den ι = true ↔ ((x.den ι).length : Int) = k.den ι ∧ ∀ j : Nat, (j : Int) < i.den ι → (x.den ι)[j]? = some (.int .u8 (byteN (n.den ι) j)) := n_usr hp
theorem d_rest {i n q : IE} : (pRest i n q).den ι = true ↔ q.den ι = n.den ι / 256 ^ (i.den ι).toNat := n_usr hp
end
theorem n_r {ι : Unk} {k : Nat} : (r k).den ι = ι.fr k := rfl
theorem n_t {ι : Unk} {s : Nat} : (t s).den ι = ι.ft s := rfl
theorem put_len (n : Int) : ∀ q : Nat, (putV n q).length = q
  | 0 => rfl
  | q + 1 => by rw [putV, List.length_append, put_len n q]; rfl
theorem put_get (n : Int) : ∀ (q i : Nat), i < q → (putV n q)[i]? = some (.int .u8 (byteN n i))
  | 0, i, h => by omega
  | q + 1, i, h => by
    rw [putV]
    have hl := put_len n q
    by_cases e : i = q
    · subst e
      rw [List.getElem?_append_right (by omega), hl, Nat.sub_self]
      rfl
    · rw [List.getElem?_append_left (by omega)]
      exact put_get n q i (by omega)
theorem p256 : ∀ k : Nat, (2 : Int) ^ (8 * k) = 256 ^ k
  | 0 => rfl
  | k + 1 => by
    have ih := p256 k
    show (2 : Int) ^ (8 * k + 1 + 1 + 1 + 1 + 1 + 1 + 1 + 1) = _
    simp only [Int.pow_succ]
    rw [ih]
    omega
theorem pos256 : ∀ k : Nat, (0 : Int) < 256 ^ k
  | 0 => by decide
  | k + 1 => by
    have := pos256 k
    rw [Int.pow_succ]
    omega
theorem shr_den {ι : Unk} {n i : IE} (h0 : 0 ≤ i.den ι) (h1 : i.den ι ≤ 8) : (IE.bin .shr .u64 n (.lin i 8 0)).den ι = n.den ι / 256 ^ (i.den ι).toNat := by
  rw [n_bin, n_lin]
  simp only [intBin]
  rw [if_neg (by omega), Option.getD_some]
  have e : min (i.den ι * (8 : Nat) + (0 : Nat)).toNat IntKind.u64.bits = 8 * (i.den ι).toNat := by
    rw [show IntKind.u64.bits = 64 by decide]
    omega
  rw [e, p256, Int.fdiv_eq_ediv_of_nonneg _ (Int.le_of_lt (pos256 _))]
theorem big_of {n : Int} {k : Nat} (h0 : 0 ≤ n) (h : n / 256 ^ k ≠ 0) : ¬ n < 256 ^ k := fun e => h (Int.ediv_eq_zero_of_lt h0 e)
theorem small_of {n : Int} {k : Nat} (h : n / 256 ^ k ≤ 0) : n < 256 ^ k := by
  have := Int.lt_ediv_add_one_mul_self n (pos256 k)
  have hp := pos256 k
  by_cases e : n < 256 ^ k
  · exact e
  · have h1 : (n / 256 ^ k + 1) * 256 ^ k ≤ 1 * 256 ^ k := Int.mul_le_mul_of_nonneg_right (by omega) (Int.le_of_lt hp)
    omega
theorem quo_u64 {x : Int} (h0 : 0 ≤ x) (h1 : x ≤ 18446744073709551615) : (intBin .quo .u64 x 256).getD 0 = x / 256 := by
  simp only [intBin]
  rw [if_neg (by decide), Option.getD_some, Int.tdiv_eq_ediv_of_nonneg h0, wrap_u64]
  omega
theorem rest_suc {n : Int} {i : Nat} : n / 256 ^ i / 256 = n / 256 ^ (i + 1) := by
  rw [Int.pow_succ, Int.ediv_ediv_of_nonneg (Int.le_of_lt (pos256 i))]
theorem n_cat1 {ι : Unk} {y : Nat} {e : IE} : (RX.cat (r y) (.lits [(.int .u8, e)])).den ι = ι.fr y ++ [.int .u8 (e.den ι)] := rfl
theorem n_lits1 {ι : Unk} {e : IE} : (RX.lits [(.int .u8, e)]).den ι = [.int .u8 (e.den ι)] := rfl
theorem n_set1 {ι : Unk} {k : Nat} {i e : IE} : (RX.set (r k) i (.lits [(.int .u8, e)])).den ι = setAt (ι.fr k) (i.den ι).toNat [.int .u8 (e.den ι)] := rfl
theorem putRules_ok (ι : Unk) (hp : ι.prd = prd) : ∀ r ∈ putRules, ROk ι r := by
  refine all_cons ?_ (all_cons ?_ (all_cons ?_ (all_cons ?_ (all_cons ?_ (all_cons ?_ (all_cons ?_ (all_cons ?_ (all_cons ?_ (all_cons ?_ (all_cons ?_ (all_cons ?_ (all_cons ?_ (all_cons ?_ (all_cons ?_ (all_cons ?_ (all_cons ?_ (all_cons ?_ all_nil))))))))))))))))) <;> intro hf h <;>
    simp only [List.mem_cons, List.not_mem_nil, or_false, forall_eq_or_imp, forall_eq, n_not, n_geq, n_gtr, n_leq, n_lss, n_neq, n_n, n_r, n_isrow, n_cat1, n_lits1, d_put hp, d_putI hp, d_rest hp, Decidable.not_not] at hf h
  · rw [n_lss, n_dif, n_dif, n_off, n_n]; omega
  · rw [n_geq, n_dif, n_n]; omega
  · rw [n_not, d_f hp]
    exact fun e => by have := e.1; omega
  · rw [n_not, d_f hp]
    exact fun e => by have := e.2.1; omega
  · rw [shr_den (by omega) (by omega)] at hf
    rw [n_not, d_f hp]
    exact fun e => big_of h.2.2 hf e.2.2.2
  · rw [shr_den (by omega) (by omega)] at hf
    exact (d_f hp).2 ⟨h.2.1, by omega, h.2.2, small_of (by omega)⟩
  · refine (d_f hp).2 ⟨by omega, h.2.1, h.2.2.1, ?_⟩
    rw [show ((v 1).den ι).toNat = 8 by omega, show (256 : Int) ^ 8 = 18446744073709551616 by decide]
    omega
  · refine (d_putI hp).2 ⟨?_, fun j hj => by rw [n_n] at hj; omega⟩
    show (((List.replicate ((v 0).den ι).toNat [Value.int .u8 0]).flatten).length : Int) = _
    rw [List.length_flatten, List.map_replicate, List.sum_replicate_nat]
    simp only [List.length_cons, List.length_nil]
    omega
  · obtain ⟨f1, f2⟩ := hf
    obtain ⟨g1, g2, g3, g4⟩ := h
    have hl : ((v 0).den ι).toNat + [Value.int .u8 ((byte1 (v 2) (v 0)).den ι)].length ≤ (ι.fr 3).length := by simp only [List.length_cons, List.length_nil]; omega
    refine (d_putI hp).2 ⟨by rw [n_set1, setAt_length hl]; exact f1, fun j hj => ?_⟩
    rw [n_off, n_n] at hj
    rw [n_set1, setAt_get hl]
    split
    · rename_i hc
      simp only [List.length_cons, List.length_nil] at hc
      rw [show j = ((v 0).den ι).toNat by omega, Nat.sub_self, n_wrap, shr_den g1 (by omega), wrap_u8]
      rfl
    · rename_i hc
      simp only [List.length_cons, List.length_nil] at hc
      exact f2 j (by omega)
  · obtain ⟨f1, f2⟩ := hf
    refine (d_put hp).2 (List.ext_getElem? fun j => ?_)
    rw [n_r]
    by_cases hj : j < ((v 1).den ι).toNat
    · rw [put_get _ _ _ hj]
      exact f2 j (by omega)
    · rw [List.getElem?_eq_none (by omega), List.getElem?_eq_none (by rw [put_len]; omega)]
  · refine (d_rest hp).2 ?_
    rw [n_bin, n_n, n_n, quo_u64 h.1 h.2]
    rfl
  · refine (d_rest hp).2 ?_
    rw [n_bin, n_n, n_off, n_n, quo_u64 h.2.1 h.2.2, hf, rest_suc, show ((v 0).den ι + 1).toNat = ((v 0).den ι).toNat + 1 by omega]
  · refine (d_put hp).2 ?_
    have e : byteN ((v 0).den ι) 0 = (v 0).den ι % 256 := by
      unfold byteN
      rw [show (256 : Int) ^ 0 = 1 by decide, Int.ediv_one]
    rw [n_n, n_r, hf, n_bin, n_n, rem_nat h (by decide), ← e]
    rfl
  · obtain ⟨f1, f2, f3⟩ := hf
    refine (d_put hp).2 ?_
    rw [n_r, n_off, n_n, f3, f1, n_bin, n_n, rem_nat h.2 (by decide), f2, show ((v 1).den ι + 1).toNat = ((v 1).den ι).toNat + 1 by omega]
    rfl
  · refine (d_put hp).2 ?_
    rw [n_r, hf, show (v 1).den ι = (v 3).den ι by omega]
  · rw [n_not, d_f hp]
    refine fun e => big_of e.2.2.1 ?_ e.2.2.2
    rw [show (v 1).den ι = (v 2).den ι by omega, ← hf]
    omega
  · refine (d_f hp).2 ⟨h.2.2.2.1, h.2.2.2.2.1, h.2.2.2.2.2, small_of ?_⟩
    rw [show (v 1).den ι = (v 2).den ι by omega, ← hf]
    omega
  · rw [n_lss, n_dif]; omega
theorem txt_same {ι : Unk} {a c : Nat} {n m : IE} (h : ι.fr a = ι.fr c) (hn : n.den ι = m.den ι) : (BE.teq (txtOf a n) (txtOf c m)).den ι = true := n_teq.2 (by simp only [TX.den, h, hn])
theorem n_cat {ι : Unk} {x y : RX} : (RX.cat x y).den ι = x.den ι ++ y.den ι := rfl
theorem n_rep0 {ι : Unk} : (RX.rep (.lit 0) [(.int .u8, .lit 0)]).den ι = [] := rfl
theorem n_lits0 {ι : Unk} : (RX.lits []).den ι = [] := rfl
theorem wrap_low {n : Int} (h0 : -2147483648 ≤ n) (h1 : n < 0) : IntKind.u32.wrap n = n + 4294967296 := by
  rw [wrap_u32]
  omega
theorem wireRules_ok (ι : Unk) (hp : ι.prd = prd) : ∀ r ∈ wireRules, ROk ι r := by
  refine all_cons ?_ (all_cons ?_ (all_cons ?_ (all_cons ?_ (all_cons ?_ (all_cons ?_ (all_cons ?_ (all_cons ?_ (all_cons ?_ (all_cons ?_ (all_cons ?_ (all_cons ?_ (all_cons ?_ (all_cons ?_ (all_cons ?_ all_nil)))))))))))))) <;> intro hf h <;>
    simp only [List.mem_cons, List.not_mem_nil, or_false, forall_eq_or_imp, forall_eq, n_not, n_geq, n_gtr, n_leq, n_lss, n_eql, n_n, n_r, n_isrow, n_rlen, n_cat, n_rep0, n_lits0, List.nil_append, List.append_nil, d_put hp, d_f hp] at hf h
  · exact n_teq.2 rfl
  · exact txt_same hf rfl
  · obtain ⟨f1, f2, f3, f4, f5, f6, f7, f8⟩ := hf
    refine txt_same ?_ (by rw [n_off, n_off, f7, f8])
    rw [f1, f2, f3, f4, f5, f6]
  · obtain ⟨f1, f2, f3, f4, f5, f6, f7⟩ := hf
    refine txt_same ?_ (by rw [f6, f7])
    rw [f1, f2, f3, f4, f5]
  · refine n_teq.2 ?_
    simp only [TX.den]
    rw [show ((v 1).den ι).toNat = 0 by omega]
    rfl
  · obtain ⟨f1, f2, f3, f4, f5, f6, f7, f8⟩ := hf
    obtain ⟨g1, g2, g3, g4⟩ := h
    have e7 : ι.fr 7 = [] := List.length_eq_zero_iff.1 (by omega)
    refine txt_same ?_ (by rw [n_off]; omega)
    rw [f1, f2, f3, f5, f6, e7, List.append_nil, g2, show (v 11).den ι = 0 by omega]
  · exact absurd hf.1 hf.2
  · obtain ⟨f1, f2, f3, f4⟩ := hf
    exact txt_same (f1.trans f2.symm) (f3.trans f4.symm)
  · obtain ⟨f1, f2, f3, f4⟩ := hf
    rw [n_wrap, wrap_low h.2 h.1] at f1
    rw [n_off, n_n] at f2
    exact txt_same (f1.trans f2.symm) (f3.trans f4.symm)
  · refine (d_f hp).2 ⟨by rw [n_n]; decide, by rw [n_n]; decide, h.1, ?_⟩
    rw [n_n, show (4 : Int).toNat = 4 by decide, show (256 : Int) ^ 4 = 4294967296 by decide]
    omega
  · refine absurd ?_ hf
    refine ⟨by decide, by decide, h.1, ?_⟩
    rw [show (4 : Int).toNat = 4 by decide, show (256 : Int) ^ 4 = 4294967296 by decide]
    omega
  · refine (d_f hp).2 ⟨by omega, by omega, h.2.1, ?_⟩
    rw [h.1, show (1 : Int).toNat = 1 by decide, show (256 : Int) ^ 1 = 256 by decide]
    omega
  · refine (d_f hp).2 ⟨by omega, by omega, h.2.1, ?_⟩
    rw [h.1, show (2 : Int).toNat = 2 by decide, show (256 : Int) ^ 2 = 65536 by decide]
    omega
  · rw [n_not, d_f hp]
    rintro ⟨_, _, _, e⟩
    rw [h.1, show (1 : Int).toNat = 1 by decide, show (256 : Int) ^ 1 = 256 by decide] at e
    omega
  · rw [n_not, d_f hp]
    rintro ⟨_, _, _, e⟩
    rw [h.1, show (2 : Int).toNat = 2 by decide, show (256 : Int) ^ 2 = 65536 by decide] at e
    omega
theorem cfgW_ok (fl : List Bool) (ι : Unk) (hp : ι.prd = prd) : RulesOk (cfgW fl).rules ι := rules_of (fun ι hp => all_append (wireRules_ok ι hp) (putRules_ok ι hp)) ι hp
theorem csW_ne (fl : List Bool) : csW fl ≠ [] := by
  unfold csW
  split <;> exact List.cons_ne_nil _ _
theorem pick {ι : Unk} (b : BE) : b.den ι = true ∨ (BE.not b).den ι = true := by
  cases h : b.den ι with
  | true => exact Or.inl rfl
  | false => exact Or.inr (n_not.2 (by rw [h]; decide))
theorem csW_ok (fl : List Bool) (ι : Unk) (_ : ι.prd = prd) : ∃ fs ∈ csW fl, ∀ b ∈ fs, b.den ι = true := by
  unfold csW
  split
  · rcases pick (ι := ι) (ge (v 1) 1) with h1 | h1 <;> rcases pick (ι := ι) (ge wholeV 0) with h2 | h2 <;> rcases pick (ι := ι) fitsV with h3 | h3 <;>
      exact ⟨_, by simp only [List.mem_cons, true_or, or_true], all_cons h1 (all_cons h2 (all_cons h3 all_nil))⟩
  · rcases pick (ι := ι) (ge wholeV 0) with h2 | h2 <;> rcases pick (ι := ι) fitsV with h3 | h3 <;>
      exact ⟨_, by simp only [List.mem_cons, true_or, or_true], all_cons h2 (all_cons h3 all_nil)⟩
-- CASE WirePuts F: [ge (v 1) 1, ge wholeV 0, fitsV]
-- CASE WirePuts F: [ge (v 1) 1, ge wholeV 0, .not fitsV]
-- CASE WirePuts F: [ge (v 1) 1, .not (ge wholeV 0), fitsV]
-- CASE WirePuts F: [ge (v 1) 1, .not (ge wholeV 0), .not fitsV]
-- CASE WirePuts F: [.not (ge (v 1) 1), ge wholeV 0, fitsV]
-- CASE WirePuts F: [.not (ge (v 1) 1), ge wholeV 0, .not fitsV]
-- CASE WirePuts F: [.not (ge (v 1) 1), .not (ge wholeV 0), fitsV]
-- CASE WirePuts F: [.not (ge (v 1) 1), .not (ge wholeV 0), .not fitsV]
-- CASE WirePuts T: [ge wholeV 0, fitsV]
-- CASE WirePuts T: [ge wholeV 0, .not fitsV]
-- CASE WirePuts T: [.not (ge wholeV 0), fitsV]
-- CASE WirePuts T: [.not (ge wholeV 0), .not fitsV]

def kn_fPut : Kn := { cons := [] }
theorem known_fPut : Known Try.prog kn_fPut ⟨0, prd⟩ := ⟨fun f hf => (by cases hf), all_nil⟩
set_option maxRecDepth 100000 in
theorem ran_fPut_0 : fnRun Try.prog true kn_fPut 300 60 fPut cfgPut [] = true := by kernel_rfl
theorem ok_fPut : FnOk Try.prog prd fPut := fn_ok (dr := true) (kn := kn_fPut) (fuel := 300) (d := 60) (cfg := cfgPut) plain known_fPut (fun _ call hC => anyOk (by kernel_rfl) plain hC) (rules_of putRules_ok) (cs := [[]]) (fun _ _ _ _ => cov_one trivial) (all_cons ran_fPut_0 all_nil)

def kn_fRPut : Kn := { cons := [] }
theorem known_fRPut : Known Try.prog kn_fRPut ⟨0, prd⟩ := ⟨fun f hf => (by cases hf), all_nil⟩
set_option maxRecDepth 100000 in
theorem ran_fRPut_0 : fnRun Try.prog true kn_fRPut 300 60 fRPut cfgPut [] = true := by kernel_rfl
theorem ok_fRPut : FnOk Try.prog prd fRPut := fn_ok (dr := true) (kn := kn_fRPut) (fuel := 300) (d := 60) (cfg := cfgPut) plain known_fRPut (fun _ call hC => anyOk (by kernel_rfl) plain hC) (rules_of putRules_ok) (cs := [[]]) (fun _ _ _ _ => cov_one trivial) (all_cons ran_fRPut_0 all_nil)

def lawCfg : List Bool → Cfg := cfgW
def knLaw : Kn := { kn := some 4, cons := [fPut.con, fRPut.con] }
theorem knows : Known Try.prog knLaw ⟨0, prd⟩ := ⟨knows1, (all_cons (con_ok ok_fPut) (all_cons (con_ok ok_fRPut) all_nil))⟩

theorem lawRules (fl : List Bool) (ι : Unk) (hp : ι.prd = prd) : RulesOk (lawCfg fl).rules ι := (cfgW_ok) fl ι hp

def cs : List Bool → List (List BE) := csW

theorem cs_ne (fl : List Bool) : cs fl ≠ [] := csW_ne fl

theorem cs_ok (fl : List Bool) (ι : Unk) (hp : ι.prd = prd) : ∃ fs ∈ cs fl, ∀ b ∈ fs, b.den ι = true := csW_ok fl ι hp

end Go.Proofs.Ytickflbbidihiaa.wirePuts
