/-
  NibbleDiffs holds: whatever the input, the call returns true and what it was given reads as before; by a walker that computes in the kernel with unknowns, and whose soundness is proved in the texts beside this one.
-/
import Derived.Test.YtoipaoaoiabfcaaRows
import Derived.Test.YtoipaoaoiabfcaaSzWb
import Derived.WalkKit
import Derived.ProofKit
import Derived.OpenShut
namespace Go.Proofs.Ytoipaoaoiabfcaa.nibbleDiffs
open Go.Sx Go.ChangeShapes Go.WideShapes Go.ChangeAt Go.RowKit
set_option linter.unusedVariables false

theorem own : ownKnob Try.prog.godebug = none := by kernel_rfl

theorem plain : plainNames Try.prog = true := by kernel_rfl

set_option maxRecDepth 100000 in
theorem ranKnown : allTrue (runCall Try.prog true none 300 60 false 4 [] Hp.nil []) = true := by kernel_rfl

theorem knows : Known Try.prog (some 4) := by
  intro f hf w
  injection hf with hf
  subst hf
  exact calls_true (dr := true) (kn := none) (fuel := 300) (d := 60) (args := []) (xs := []) (ι := io []) (pc := []) w plain known_none (fun _ call hC => anyOk (by kernel_rfl) plain hC) ranKnown rfl (fun _ h => by cases h)

/-- Shorthands. -/
abbrev u8c (r : Nat) (i : IE) : IE := .wrap .u8 (.cell r i)
abbrev suc (i : IE) : IE := .bin .add .i64 i (.lit 1)
abbrev ge0 (i : IE) : BE := .cmp .geq i (.lit 0)
abbrev ltI (a b : IE) : BE := .cmp .lss a b
abbrev leI (a b : IE) : BE := .not (.cmp .lss b a)
abbrev small (n : IE) : BE := .not (.cmp .gtr n (.lit 500))
abbrev agree (i : IE) : BE := .usr 0 [i] [] [.row 0, .row 4]
abbrev cellsEq (i : IE) : BE := .cmp .eql (u8c 0 i) (u8c 4 i)
abbrev cellsEq' (i : IE) : BE := .cmp .eql (u8c 4 i) (u8c 0 i)
abbrev slA : AV := .sl 0 1 (.fv 3) (.lit 0) (.fv 1) (.fv 2)
abbrev slB : AV := .sl 1 1 (.fv 7) (.lit 0) (.fv 5) (.fv 6)
abbrev bad (l : List Nat) : List (Nat × AV) := l.map fun i => (i, AV.poison)
/-- A loop of an index 'i' in slot 's' up to 'n'. -/
def upTo (key : Nat × Nat × Nat) (s : Nat) (n : IE) (slots : List (Nat × AV)) (inv : IE → List BE) : Ann :=
  { key := key, heads := [{ nf := 1, src := [.int s], bsrc := [], tm := fun m _ => (s, .int .i64 (.fv m)) :: slots, bl := fun _ _ => [], nb := fun _ _ => [], inv := fun m _ => ge0 (.fv m) :: leI (.fv m) n :: inv (.fv m), ms := fun m _ => .dif n (.fv m) }] }
def bodyDiff : List (Nat × AV) := bad [12,13,14,15,16,17,18,19,20,21,22,23,24,25,26]
def anns : List Ann :=
  [ upTo (33, 3, 3) 6 (.fv 1) ((0, slA) :: (1, slA) :: bodyDiff) (fun _ => []),
    upTo (33, 3, 3) 6 (.fv 5) ((0, slA) :: (1, slB) :: (5, .int .i64 (.fv 5)) :: bodyDiff) (fun i => [agree i]),
    upTo (33, 3, 3) 6 (.fv 1) ((0, slA) :: (1, slB) :: (5, .int .i64 (.fv 1)) :: bodyDiff) (fun i => [agree i]),
    upTo (33, 3, 3) 6 (.fv 5) ((0, slB) :: (1, slA) :: (5, .int .i64 (.fv 5)) :: bodyDiff) (fun i => [agree i]),
    upTo (33, 3, 3) 6 (.fv 1) ((0, slB) :: (1, slA) :: (5, .int .i64 (.fv 1)) :: bodyDiff) (fun i => [agree i]),
    upTo (40, 2, 21) 5 (.fv 1) ((0, slA) :: (1, slB) :: bad [6,7,8,9,10,11,12,13,14,15,16,17,18,19,20,21,22,23,24,25,26,27,28]) (fun i => [leI i (.fv 5), agree i]) ]
/-- Of an index 'i' and a bound 'n'. -/
def loopRules (i n : IE) : List Rule :=
  [ ⟨[leI i n], .cmp .geq (.dif n i) (.lit 0)⟩,
    ⟨[ge0 i, ltI i n, small n], ge0 (suc i)⟩,
    ⟨[ge0 i, ltI i n, small n], leI (suc i) n⟩,
    ⟨[ge0 i, ltI i n, small n], ltI (.dif n (suc i)) (.dif n i)⟩ ]
abbrev cellsNe (i : IE) : BE := .not (cellsEq i)
abbrev cellsNe' (i : IE) : BE := .not (cellsEq' i)
/-- Of two indexes: the lists part at the one, and agree below the other. -/
def meetRules (i j : IE) : List Rule :=
  [ ⟨[agree j, cellsNe i, ge0 i, ltI i j], .lit false⟩,
    ⟨[agree j, cellsNe' i, ge0 i, ltI i j], .lit false⟩,
    ⟨[agree i, agree j, cellsNe i, cellsNe j, ge0 i, ge0 j], .cmp .eql i j⟩,
    ⟨[agree i, agree j, cellsNe i, cellsNe' j, ge0 i, ge0 j], .cmp .eql i j⟩,
    ⟨[agree i, agree j, cellsNe' i, cellsNe j, ge0 i, ge0 j], .cmp .eql i j⟩ ]
def pairRules (i : IE) : List Rule :=
  [ ⟨[ge0 i, ltI i (.fv 5), small (.fv 5)], leI (suc i) (.fv 5)⟩,
    ⟨[ge0 i, ltI i (.fv 1), small (.fv 1)], leI (suc i) (.fv 1)⟩,
    ⟨[ge0 i, ltI i (.fv 1), small (.fv 1), agree i, cellsEq i], agree (suc i)⟩,
    ⟨[ge0 i, ltI i (.fv 1), small (.fv 1), agree i, cellsEq' i], agree (suc i)⟩ ]

/-! ### The texts -/
abbrev digits : List UInt8 := [48, 49, 50, 51, 52, 53, 54, 55, 56, 57, 97, 98, 99, 100, 101, 102]
abbrev low (x : IE) : BE := .not (.cmp .gtr x (.lit 15))
abbrev outP (i : IE) (x : RX) (r : Nat) : BE := .usr 1 [i] [] [x, .row r]
abbrev strP (i : IE) (s : TX) (r : Nat) : BE := .usr 2 [i] [s] [.row r]
def textAnn (n : IE) (r : Nat) : Ann :=
  { key := (28, 3, 1), heads := [{ nf := 2, src := [.int 11, .row 3], bsrc := [], tm := fun m nB => (11, .int .i64 (.fv m)) :: (10, .int .i64 n) :: (3, .sl (nB - 1) 1 (.lit 0) (.lit 0) (.fv m) n) :: bad [5,12,13,14,15,16,17,18,19,20,21,22,23,24,25], bl := fun m nB => [(nB - 1, .row (.row (m + 1)) 5 [.int .u8] (.fv m) n)], nb := fun _ _ => [], inv := fun m _ => [ge0 (.fv m), leI (.fv m) n, outP (.fv m) (.row (m + 1)) r], ms := fun m _ => .dif n (.fv m) }] }
def refAnn (n : IE) (sl : AV) (r : Nat) : Ann :=
  { key := (39, 3, 4), heads := [{ nf := 2, src := [.int 4, .txt 3], bsrc := [], tm := fun m _ => (0, sl) :: (4, .int .i64 (.fv m)) :: (3, .txt (.fv (m + 1))) :: bad [5,6,7,8,9,10,11,12,13,14,15,16,17,18,19,20,21,22,23,24,25,26,27,28,29,30,31,32,33,34,35,36,37], bl := fun _ _ => [], nb := fun _ _ => [], inv := fun m _ => [ge0 (.fv m), leI (.fv m) n, strP (.fv m) (.fv (m + 1)) r], ms := fun m _ => .dif n (.fv m) }] }
def textRules (m : Nat) (n : IE) (r : Nat) : List Rule :=
  let i : IE := .fv m
  let c := u8c r i
  loopRules i n ++
  [ ⟨[ge0 i, ltI i n, small n], .cmp .eql (suc i) (.off i (.lit 1))⟩,
    ⟨[], outP (.lit 0) (.rep (.lit 0) [(.int .u8, .lit 0)]) r⟩,
    ⟨[ge0 i, ltI i n, small n, outP i (.row (m + 1)) r, .cmp .gtr c (.lit 15)], outP (suc i) (.cat (.row (m + 1)) (.lits [(.int .u8, .lit 63)])) r⟩,
    ⟨[ge0 i, ltI i n, small n, outP i (.row (m + 1)) r, low c], outP (suc i) (.cat (.row (m + 1)) (.lits [(.int .u8, .tab digits c)])) r⟩ ]
def refRules (m : Nat) (n : IE) (r : Nat) : List Rule :=
  let i : IE := .fv m
  let c := u8c r i
  loopRules i n ++
  [ ⟨[ltI i n, small n, strP i (.fv (m + 1)) r], .cmp .leq (.off (.tlen (m + 1)) (.lit 1)) (.lit 9223372036854775807)⟩,
    ⟨[], strP (.lit 0) (.lit []) r⟩,
    ⟨[ge0 i, ltI i n, small n, strP i (.fv (m + 1)) r, .cmp .lss c (.lit 10)], strP (suc i) (.cat (.fv (m + 1)) (.lits [.bin .add .u8 (.lit 48) c])) r⟩,
    ⟨[ge0 i, ltI i n, small n, strP i (.fv (m + 1)) r, .not (.cmp .lss c (.lit 10)), .cmp .lss c (.lit 16)], strP (suc i) (.cat (.fv (m + 1)) (.lits [.bin .sub .u8 (.bin .add .u8 (.lit 97) c) (.lit 10)])) r⟩,
    ⟨[ge0 i, ltI i n, small n, strP i (.fv (m + 1)) r, .not (.cmp .lss c (.lit 16))], strP (suc i) (.cat (.fv (m + 1)) (.lit [63])) r⟩ ]
def sameRule (m k : Nat) (n : IE) (r : Nat) : Rule :=
  ⟨[outP (.fv m) (.row (m + 1)) r, .not (ltI (.fv m) n), leI (.fv m) n, strP (.fv k) (.fv (k + 1)) r, .not (ltI (.fv k) n), leI (.fv k) n], .teq (.row (m + 1) (.lit 0) (.fv m)) (.fv (k + 1))⟩
def startRules (n : IE) : List Rule := [⟨[ge0 n, .not (.cmp .gtr n (.lit 0)), .not (.cmp .eql n (.lit 0))], .lit false⟩]
def rulesFF : List Rule :=
  ⟨[], agree (.lit 0)⟩ :: startRules (.fv 1) ++ startRules (.fv 5)
  ++ ([8,9,10,11].map fun m => loopRules (.fv m) (.fv 1) ++ loopRules (.fv m) (.fv 5) ++ pairRules (.fv m)).flatten
  ++ ([(8,9),(9,8),(8,10),(10,8),(9,10),(10,9)].map fun p => meetRules (.fv p.1) (.fv p.2)).flatten
  ++ [⟨[.not (.cmp .eql (.fv 1) (.fv 5)), leI (.fv 1) (.fv 5), leI (.fv 5) (.fv 1)], .lit false⟩, ⟨[.not (.cmp .eql (.fv 5) (.fv 1)), leI (.fv 1) (.fv 5), leI (.fv 5) (.fv 1)], .lit false⟩]
  ++ textRules 12 (.fv 1) 0 ++ refRules 14 (.fv 1) 0 ++ textRules 16 (.fv 5) 4 ++ [sameRule 12 14 (.fv 1) 0]
def cfg (fl : List Bool) : Cfg :=
  match fl with
  | [false, false] => { rules := rulesFF, anns := anns ++ [textAnn (.fv 1) 0, textAnn (.fv 5) 4, refAnn (.fv 1) slA 0] }
  | [false, true] => { rules := startRules (.fv 1) ++ loopRules (.fv 4) (.fv 1) ++ textRules 5 (.fv 1) 0 ++ refRules 7 (.fv 1) 0 ++ [sameRule 5 7 (.fv 1) 0], anns := [anns.headD { key := (0, 0, 0), heads := [] }, textAnn (.fv 1) 0, refAnn (.fv 1) slA 0] }
  | [true, false] => { rules := startRules (.fv 1) ++ textRules 4 (.fv 1) 0, anns := [textAnn (.fv 1) 0] }
  | _ => {}
-- PROOFS
/-- A cell's number. -/
def wc (l : List Value) (j : Nat) : Int := IntKind.u8.wrap (cellInt l[j]?)
/-- A nibble's letter. -/
def dig (c : Int) : Int := if 15 < c then 63 else ((digits[c.toNat]?).map fun (b : UInt8) => (b.toNat : Int)).getD 0
/-- Two lists agree below 'i'; a row, and a text, are the letters of a list's first 'i'. -/
def prd : Nat → List Int → List (List UInt8) → List (List Value) → Prop
  | 0, [i], [], [a, b] => ∀ j : Nat, (j : Int) < i → wc a j = wc b j
  | 1, [i], [], [x, a] => (x.length : Int) = i ∧ ∀ j : Nat, (j : Int) < i → x[j]? = some (.int .u8 (dig (wc a j)))
  | 2, [i], [s], [a] => (s.length : Int) = i ∧ ∀ j : Nat, (j : Int) < i → s[j]? = some (UInt8.ofNat (dig (wc a j)).toNat)
  | _, _, _, _ => False

def ROk (ι : Unk) (r : Rule) : Prop := (∀ b ∈ r.pre, b.den ι = true) → r.con.den ι = true

section
variable {ι : Unk}

theorem d_ge0 {i : IE} : (ge0 i).den ι = true ↔ 0 ≤ i.den ι := by simp [BE.den, intCmp, IE.den]
theorem d_ltI {a b : IE} : (ltI a b).den ι = true ↔ a.den ι < b.den ι := by simp [BE.den, intCmp]
theorem d_leI {a b : IE} : (leI a b).den ι = true ↔ a.den ι ≤ b.den ι := by simp [BE.den, intCmp]
theorem d_small {n : IE} : (small n).den ι = true ↔ n.den ι ≤ 500 := by simp [BE.den, intCmp, IE.den]
theorem d_u8c {r : Nat} {i : IE} : (u8c r i).den ι = wc (ι.fr r) (i.den ι).toNat := rfl
theorem d_eq {i : IE} : (cellsEq i).den ι = true ↔ wc (ι.fr 0) (i.den ι).toNat = wc (ι.fr 4) (i.den ι).toNat := by simp [BE.den, intCmp, d_u8c]
theorem d_eq' {i : IE} : (cellsEq' i).den ι = true ↔ wc (ι.fr 4) (i.den ι).toNat = wc (ι.fr 0) (i.den ι).toNat := by simp [BE.den, intCmp, d_u8c]
theorem d_gtrL {a : IE} {k : Int} : (BE.cmp .gtr a (.lit k)).den ι = true ↔ k < a.den ι := by simp [BE.den, intCmp, IE.den]
theorem d_lssL {a : IE} {k : Int} : (BE.cmp .lss a (.lit k)).den ι = true ↔ a.den ι < k := by
  simp only [BE.den, intCmp, IE.den, Option.getD_some]
  exact decide_eq_true_iff
theorem d_leqL {a : IE} {k : Int} : (BE.cmp .leq a (.lit k)).den ι = true ↔ a.den ι ≤ k := by
  simp only [BE.den, intCmp, IE.den, Option.getD_some]
  exact decide_eq_true_iff
theorem d_eqL {a : IE} {k : Int} : (BE.cmp .eql a (.lit k)).den ι = true ↔ a.den ι = k := by simp [BE.den, intCmp, IE.den]
theorem d_not {b : BE} : (BE.not b).den ι = true ↔ ¬ (b.den ι = true) := by simp [BE.den]
theorem d_lit {b : Bool} : (BE.lit b).den ι = true ↔ b = true := Iff.rfl
theorem d_agree (hp : ι.prd = prd) {i : IE} : (agree i).den ι = true ↔ ∀ j : Nat, (j : Int) < i.den ι → wc (ι.fr 0) j = wc (ι.fr 4) j := by
  simp [BE.den, hp, prd, RX.den]
theorem d_out (hp : ι.prd = prd) {i : IE} {x : RX} {r : Nat} : (outP i x r).den ι = true ↔ ((x.den ι).length : Int) = i.den ι ∧ ∀ j : Nat, (j : Int) < i.den ι → (x.den ι)[j]? = some (.int .u8 (dig (wc (ι.fr r) j))) := by
  simp [BE.den, hp, prd, RX.den]
theorem d_str (hp : ι.prd = prd) {i : IE} {s : TX} {r : Nat} : (strP i s r).den ι = true ↔ ((s.den ι).length : Int) = i.den ι ∧ ∀ j : Nat, (j : Int) < i.den ι → (s.den ι)[j]? = some (UInt8.ofNat (dig (wc (ι.fr r) j)).toNat) := by
  simp [BE.den, hp, prd, RX.den]
theorem suc_den {i n : IE} (h0 : 0 ≤ i.den ι) (h1 : i.den ι < n.den ι) (h2 : n.den ι ≤ 500) : (suc i).den ι = i.den ι + 1 := by
  simp only [suc, IE.den, intBin, Option.getD_some]
  exact IntWalk.i64_in _ (by omega)
theorem pre1 {p : BE → Prop} {a : BE} {l : List BE} (h : ∀ b ∈ a :: l, p b) : p a ∧ ∀ b ∈ l, p b := ⟨h a List.mem_cons_self, fun b hb => h b (List.mem_cons_of_mem _ hb)⟩

theorem loopRules_ok (i n : IE) : ∀ r ∈ loopRules i n, ROk ι r := by
  intro r hr
  simp only [loopRules, List.mem_cons, List.not_mem_nil, or_false] at hr
  rcases hr with rfl | rfl | rfl | rfl <;> intro h
  · have h1 := d_leI.1 (pre1 h).1
    refine d_ge0.2 ?_
    show 0 ≤ n.den ι - i.den ι
    omega
  all_goals
    obtain ⟨h1, h⟩ := pre1 h
    obtain ⟨h2, h⟩ := pre1 h
    obtain ⟨h3, h⟩ := pre1 h
    have h1 := d_ge0.1 h1
    have h2 := d_ltI.1 h2
    have h3 := d_small.1 h3
    have hs := suc_den h1 h2 h3
  · exact d_ge0.2 (by rw [hs]; omega)
  · exact d_leI.2 (by rw [hs]; omega)
  · refine d_ltI.2 ?_
    show n.den ι - (suc i).den ι < n.den ι - i.den ι
    rw [hs]; omega

theorem agree_lt (hp : ι.prd = prd) {i j : IE} (h1 : (agree j).den ι = true) (h0 : 0 ≤ i.den ι) (h : i.den ι < j.den ι) : wc (ι.fr 0) (i.den ι).toNat = wc (ι.fr 4) (i.den ι).toNat :=
  (d_agree hp).1 h1 _ (by omega)

theorem ne_of {i : IE} (h : (cellsNe i).den ι = true) : wc (ι.fr 0) (i.den ι).toNat ≠ wc (ι.fr 4) (i.den ι).toNat := fun e => d_not.1 h (d_eq.2 e)
theorem ne_of' {i : IE} (h : (cellsNe' i).den ι = true) : wc (ι.fr 0) (i.den ι).toNat ≠ wc (ι.fr 4) (i.den ι).toNat := fun e => d_not.1 h (d_eq'.2 e.symm)

theorem meet_eq (hp : ι.prd = prd) {i j : IE} (hi : (agree i).den ι = true) (hj : (agree j).den ι = true) (ni : wc (ι.fr 0) (i.den ι).toNat ≠ wc (ι.fr 4) (i.den ι).toNat) (nj : wc (ι.fr 0) (j.den ι).toNat ≠ wc (ι.fr 4) (j.den ι).toNat)
    (h0 : 0 ≤ i.den ι) (h1 : 0 ≤ j.den ι) : (BE.cmp .eql i j).den ι = true := by
  have e1 : ¬ i.den ι < j.den ι := fun h => ni (agree_lt hp hj h0 h)
  have e2 : ¬ j.den ι < i.den ι := fun h => nj (agree_lt hp hi h1 h)
  simp only [BE.den, intCmp, Option.getD_some, beq_iff_eq]
  omega

theorem meetRules_ok (hp : ι.prd = prd) (i j : IE) : ∀ r ∈ meetRules i j, ROk ι r := by
  intro r hr
  simp only [meetRules, List.mem_cons, List.not_mem_nil, or_false] at hr
  rcases hr with rfl | rfl | rfl | rfl | rfl <;> intro h <;> obtain ⟨h1, h⟩ := pre1 h <;> obtain ⟨h2, h⟩ := pre1 h <;> obtain ⟨h3, h⟩ := pre1 h <;> obtain ⟨h4, h⟩ := pre1 h
  · exact (ne_of h2 (agree_lt hp h1 (d_ge0.1 h3) (d_ltI.1 h4))).elim
  · exact (ne_of' h2 (agree_lt hp h1 (d_ge0.1 h3) (d_ltI.1 h4))).elim
  · obtain ⟨h5, h⟩ := pre1 h
    exact meet_eq hp h1 h2 (ne_of h3) (ne_of h4) (d_ge0.1 h5) (d_ge0.1 (pre1 h).1)
  · obtain ⟨h5, h⟩ := pre1 h
    exact meet_eq hp h1 h2 (ne_of h3) (ne_of' h4) (d_ge0.1 h5) (d_ge0.1 (pre1 h).1)
  · obtain ⟨h5, h⟩ := pre1 h
    exact meet_eq hp h1 h2 (ne_of' h3) (ne_of h4) (d_ge0.1 h5) (d_ge0.1 (pre1 h).1)

theorem agree_suc (hp : ι.prd = prd) {i n : IE} (h1 : 0 ≤ i.den ι) (h2 : i.den ι < n.den ι) (h3 : n.den ι ≤ 500) (h4 : (agree i).den ι = true) (h5 : wc (ι.fr 0) (i.den ι).toNat = wc (ι.fr 4) (i.den ι).toNat) : (agree (suc i)).den ι = true := by
  refine (d_agree hp).2 fun j hj => ?_
  rw [suc_den h1 h2 h3] at hj
  by_cases e : (j : Int) < i.den ι
  · exact (d_agree hp).1 h4 j e
  · have : j = (i.den ι).toNat := by omega
    rw [this]; exact h5

theorem pairRules_ok (hp : ι.prd = prd) (i : IE) : ∀ r ∈ pairRules i, ROk ι r := by
  intro r hr
  simp only [pairRules, List.mem_cons, List.not_mem_nil, or_false] at hr
  rcases hr with rfl | rfl | rfl | rfl <;> intro h <;> obtain ⟨h1, h⟩ := pre1 h <;> obtain ⟨h2, h⟩ := pre1 h <;> obtain ⟨h3, h⟩ := pre1 h <;> have h1 := d_ge0.1 h1 <;> have h2 := d_ltI.1 h2 <;> have h3 := d_small.1 h3
  · exact d_leI.2 (by rw [suc_den h1 h2 h3]; omega)
  · exact d_leI.2 (by rw [suc_den h1 h2 h3]; omega)
  · obtain ⟨h4, h⟩ := pre1 h
    exact agree_suc hp h1 h2 h3 h4 (d_eq.1 (pre1 h).1)
  · obtain ⟨h4, h⟩ := pre1 h
    exact agree_suc hp h1 h2 h3 h4 (d_eq'.1 (pre1 h).1).symm

theorem snoc_get {α : Type} {l : List α} {x : α} {f : Nat → α} {i : Int} (hl : (l.length : Int) = i) (hg : ∀ j : Nat, (j : Int) < i → l[j]? = some (f j)) (hx : x = f i.toNat) : ((l ++ [x]).length : Int) = i + 1 ∧ ∀ j : Nat, (j : Int) < i + 1 → (l ++ [x])[j]? = some (f j) := by
  refine ⟨by simp; omega, fun j hj => ?_⟩
  by_cases h : (j : Int) < i
  · rw [List.getElem?_append_left (by omega)]; exact hg j h
  · have : j = l.length := by omega
    subst this
    rw [List.getElem?_append_right (Nat.le_refl _), Nat.sub_self, List.getElem?_cons_zero, hx]
    congr 2
    omega

theorem wc_range (l : List Value) (j : Nat) : 0 ≤ wc l j ∧ wc l j ≤ 255 := by
  have := wrap_range .u8 (cellInt l[j]?)
  rw [show IntKind.u8.min = 0 by decide, show IntKind.u8.max = 255 by decide] at this
  exact this

theorem out_suc (hp : ι.prd = prd) {i n e : IE} {m r : Nat} (h1 : 0 ≤ i.den ι) (h2 : i.den ι < n.den ι) (h3 : n.den ι ≤ 500) (h4 : (outP i (.row m) r).den ι = true) (he : e.den ι = dig (wc (ι.fr r) (i.den ι).toNat)) :
    (outP (suc i) (.cat (.row m) (.lits [(.int .u8, e)])) r).den ι = true := by
  obtain ⟨a, b⟩ := (d_out hp).1 h4
  refine (d_out hp).2 ?_
  rw [suc_den h1 h2 h3]
  simp only [RX.den, List.map_cons, List.map_nil, CK.val] at a b ⊢
  exact snoc_get (f := fun j => Value.int .u8 (dig (wc (ι.fr r) j))) a b (by rw [he])

theorem textRules_ok (hp : ι.prd = prd) (m : Nat) (n : IE) (r : Nat) : ∀ x ∈ textRules m n r, ROk ι x := by
  intro x hx
  simp only [textRules, List.mem_append, List.mem_cons, List.not_mem_nil, or_false] at hx
  rcases hx with hx | rfl | rfl | rfl | rfl
  · exact loopRules_ok _ _ x hx
  · intro h
    obtain ⟨h1, h⟩ := pre1 h
    obtain ⟨h2, h⟩ := pre1 h
    obtain ⟨h3, h⟩ := pre1 h
    have := suc_den (d_ge0.1 h1) (d_ltI.1 h2) (d_small.1 h3)
    show (BE.cmp .eql (suc (.fv m)) (.off (.fv m) (.lit 1))).den ι = true
    simp only [BE.den, intCmp, Option.getD_some, beq_iff_eq]
    rw [this]
    rfl
  · intro _
    refine (d_out hp).2 ⟨?_, fun j hj => ?_⟩
    · simp [RX.den, IE.den]
    · simp only [IE.den] at hj; omega
  · intro h
    obtain ⟨h1, h⟩ := pre1 h
    obtain ⟨h2, h⟩ := pre1 h
    obtain ⟨h3, h⟩ := pre1 h
    obtain ⟨h4, h⟩ := pre1 h
    have h5 : 15 < wc (ι.fr r) ((IE.fv m).den ι).toNat := d_gtrL.1 (pre1 h).1
    refine out_suc hp (d_ge0.1 h1) (d_ltI.1 h2) (d_small.1 h3) h4 ?_
    show (63 : Int) = dig _
    unfold dig
    rw [if_pos h5]
  · intro h
    obtain ⟨h1, h⟩ := pre1 h
    obtain ⟨h2, h⟩ := pre1 h
    obtain ⟨h3, h⟩ := pre1 h
    obtain ⟨h4, h⟩ := pre1 h
    have h5 : ¬ 15 < wc (ι.fr r) ((IE.fv m).den ι).toNat := fun h5 => d_not.1 (pre1 h).1 (d_gtrL.2 h5)
    refine out_suc hp (d_ge0.1 h1) (d_ltI.1 h2) (d_small.1 h3) h4 ?_
    unfold dig
    rw [if_neg h5]
    rfl

theorem str_suc (hp : ι.prd = prd) {i n : IE} {m r : Nat} {b : UInt8} {x : TX} (h1 : 0 ≤ i.den ι) (h2 : i.den ι < n.den ι) (h3 : n.den ι ≤ 500) (h4 : (strP i (.fv m) r).den ι = true) (hx : x.den ι = [b]) (he : b = UInt8.ofNat (dig (wc (ι.fr r) (i.den ι).toNat)).toNat) :
    (strP (suc i) (.cat (.fv m) x) r).den ι = true := by
  obtain ⟨c, d⟩ := (d_str hp).1 h4
  refine (d_str hp).2 ?_
  rw [suc_den h1 h2 h3]
  simp only [TX.den, hx] at c d ⊢
  exact snoc_get (f := fun j => UInt8.ofNat (dig (wc (ι.fr r) j)).toNat) c d he

theorem dig_low {c : Int} (h0 : 0 ≤ c) (h : c < 10) : dig c = IntKind.u8.wrap (48 + c) := by
  have : c = 0 ∨ c = 1 ∨ c = 2 ∨ c = 3 ∨ c = 4 ∨ c = 5 ∨ c = 6 ∨ c = 7 ∨ c = 8 ∨ c = 9 := by omega
  rcases this with rfl | rfl | rfl | rfl | rfl | rfl | rfl | rfl | rfl | rfl <;> decide
theorem dig_mid {c : Int} (h0 : ¬ c < 10) (h : c < 16) : dig c = IntKind.u8.wrap (IntKind.u8.wrap (97 + c) - 10) := by
  have : c = 10 ∨ c = 11 ∨ c = 12 ∨ c = 13 ∨ c = 14 ∨ c = 15 := by omega
  rcases this with rfl | rfl | rfl | rfl | rfl | rfl <;> decide

theorem refRules_ok (hp : ι.prd = prd) (m : Nat) (n : IE) (r : Nat) : ∀ x ∈ refRules m n r, ROk ι x := by
  intro x hx
  simp only [refRules, List.mem_append, List.mem_cons, List.not_mem_nil, or_false] at hx
  rcases hx with hx | rfl | rfl | rfl | rfl | rfl
  · exact loopRules_ok _ _ x hx
  · intro h
    obtain ⟨h1, h⟩ := pre1 h
    obtain ⟨h2, h⟩ := pre1 h
    have h1 := d_ltI.1 h1
    have h2 := d_small.1 h2
    have h3 := ((d_str hp).1 (pre1 h).1).1
    have h1 : (IE.fv m).den ι < n.den ι := h1
    have h3 : ((ι.ft (m + 1)).length : Int) = (IE.fv m).den ι := h3
    refine d_leqL.2 ?_
    have e : (IE.off (.tlen (m + 1)) (.lit 1)).den ι = ((ι.ft (m + 1)).length : Int) + 1 := by simp only [IE.den]
    rw [e]
    omega
  · intro _
    refine (d_str hp).2 ⟨?_, fun j hj => ?_⟩
    · simp [TX.den, IE.den]
    · simp only [IE.den] at hj; omega
  all_goals
    intro h
    obtain ⟨h1, h⟩ := pre1 h
    obtain ⟨h2, h⟩ := pre1 h
    obtain ⟨h3, h⟩ := pre1 h
    obtain ⟨h4, h⟩ := pre1 h
    obtain ⟨h5, h⟩ := pre1 h
    have hr := wc_range (ι.fr r) ((IE.fv m).den ι).toNat
  · have h5 : wc (ι.fr r) ((IE.fv m).den ι).toNat < 10 := d_lssL.1 h5
    refine str_suc hp (d_ge0.1 h1) (d_ltI.1 h2) (d_small.1 h3) h4 rfl ?_
    rw [dig_low hr.1 h5]
    rfl
  · have h6 : wc (ι.fr r) ((IE.fv m).den ι).toNat < 16 := d_lssL.1 (pre1 h).1
    have h5 : ¬ wc (ι.fr r) ((IE.fv m).den ι).toNat < 10 := fun e => d_not.1 h5 (d_lssL.2 e)
    refine str_suc hp (d_ge0.1 h1) (d_ltI.1 h2) (d_small.1 h3) h4 rfl ?_
    rw [dig_mid h5 h6]
    rfl
  · have h5 : ¬ wc (ι.fr r) ((IE.fv m).den ι).toNat < 16 := fun e => d_not.1 h5 (d_lssL.2 e)
    refine str_suc hp (d_ge0.1 h1) (d_ltI.1 h2) (d_small.1 h3) h4 rfl ?_
    unfold dig
    rw [if_pos (by omega)]
    rfl

theorem sameRule_ok (hp : ι.prd = prd) (m k : Nat) (n : IE) (r : Nat) : ROk ι (sameRule m k n r) := by
  intro h
  obtain ⟨h1, h⟩ := pre1 h
  obtain ⟨h2, h⟩ := pre1 h
  obtain ⟨h3, h⟩ := pre1 h
  obtain ⟨h4, h⟩ := pre1 h
  obtain ⟨h5, h⟩ := pre1 h
  have h6 := d_leI.1 (pre1 h).1
  have h2 := mt d_ltI.2 (d_not.1 h2)
  have h3 := d_leI.1 h3
  have h5 := mt d_ltI.2 (d_not.1 h5)
  obtain ⟨a, b⟩ := (d_out hp).1 h1
  obtain ⟨c, d⟩ := (d_str hp).1 h4
  have hn : (IE.fv m).den ι = (IE.fv k).den ι := by omega
  show (BE.teq (.row (m + 1) (.lit 0) (.fv m)) (.fv (k + 1))).den ι = true
  simp only [BE.den, decide_eq_true_eq]
  rw [← hn] at c d
  simp only [RX.den] at a b
  simp only [TX.den] at c d
  have hlen : (((ι.fr (m + 1)).drop ((IE.lit 0).den ι).toNat).take ((IE.fv m).den ι).toNat) = ι.fr (m + 1) := by
    simp only [IE.den, Int.toNat_zero, List.drop_zero] at a ⊢
    exact List.take_of_length_le (by omega)
  simp only [TX.den]
  rw [hlen, padTo_self (by rw [bytesOf, List.length_map]; omega)]
  apply List.ext_getElem?
  intro j
  by_cases hj : (j : Int) < (IE.fv m).den ι
  · rw [d j hj, bytesOf, List.getElem?_map, b j hj]
    rfl
  · rw [List.getElem?_eq_none (by rw [bytesOf, List.length_map]; omega), List.getElem?_eq_none (by omega)]

theorem startRules_ok (n : IE) : ∀ r ∈ startRules n, ROk ι r := by
  intro r hr
  simp only [startRules, List.mem_singleton] at hr
  subst hr
  intro h
  obtain ⟨h1, h⟩ := pre1 h
  obtain ⟨h2, h⟩ := pre1 h
  have h1 := d_ge0.1 h1
  have h2 : ¬ 0 < n.den ι := fun e => d_not.1 h2 (d_gtrL.2 e)
  have h3 : ¬ n.den ι = 0 := fun e => d_not.1 (pre1 h).1 (d_eqL.2 e)
  omega

theorem rulesFF_ok (hp : ι.prd = prd) : ∀ r ∈ rulesFF, ROk ι r := by
  intro r hr
  simp only [rulesFF, List.cons_append, List.mem_cons, List.mem_append, List.not_mem_nil, or_false, List.mem_flatten, List.mem_map] at hr
  rcases hr with rfl | (((((((hr | hr) | hr) | hr) | hr) | hr) | hr) | hr) | hr
  · intro _
    exact (d_agree hp).2 fun j hj => by simp only [IE.den] at hj; omega
  all_goals first
    | exact startRules_ok _ r hr
    | exact textRules_ok hp _ _ _ r hr
    | exact refRules_ok hp _ _ _ r hr
    | (subst hr; exact sameRule_ok hp _ _ _ _)
    | (obtain ⟨l, ⟨m, _, rfl⟩, hr⟩ := hr
       first
        | exact meetRules_ok hp _ _ r hr
        | (rcases List.mem_append.1 hr with hr | hr
           · rcases List.mem_append.1 hr with hr | hr
             · exact loopRules_ok _ _ r hr
             · exact loopRules_ok _ _ r hr
           · exact pairRules_ok hp _ r hr))
    | (rcases hr with rfl | rfl <;> intro h <;> obtain ⟨h1, h⟩ := pre1 h <;> obtain ⟨h2, h⟩ := pre1 h <;> have h2 := d_leI.1 h2 <;> have h3 := d_leI.1 (pre1 h).1 <;> have h1 := d_not.1 h1 <;>
        simp only [BE.den, intCmp, Option.getD_some, beq_iff_eq] at h1 <;> omega)
end

theorem rules (fl : List Bool) (ι : Unk) (hp : ι.prd = prd) : RulesOk (cfg fl).rules ι := by
  intro ι' _ _ _ h4
  have hp : ι'.prd = prd := h4.trans hp
  show ∀ r ∈ (cfg fl).rules, ROk ι' r
  unfold cfg
  split
  · exact rulesFF_ok hp
  · intro r hr
    simp only [List.mem_append, List.mem_singleton] at hr
    rcases hr with (((hr | hr) | hr) | hr) | rfl
    · exact startRules_ok _ r hr
    · exact loopRules_ok _ _ r hr
    · exact textRules_ok hp _ _ _ r hr
    · exact refRules_ok hp _ _ _ r hr
    · exact sameRule_ok hp _ _ _ _
  · intro r hr
    rcases List.mem_append.1 hr with hr | hr
    · exact startRules_ok _ r hr
    · exact textRules_ok hp _ _ _ r hr
  · intro r hr
    cases hr

/-- Which list is the longer one. -/
def cs (fl : List Bool) : List (List BE) :=
  match fl with
  | [false, false] => [[ltI (.fv 5) (.fv 1)], [ltI (.fv 1) (.fv 5)], [.cmp .eql (.fv 1) (.fv 5)]]
  | _ => [[]]
theorem cs_ne (fl : List Bool) : cs fl ≠ [] := by
  unfold cs
  split <;> exact List.cons_ne_nil _ _
theorem cs_ok (fl : List Bool) (ι : Unk) : ∃ fs ∈ cs fl, ∀ b ∈ fs, b.den ι = true := by
  unfold cs
  split
  · have : (IE.fv 5).den ι < (IE.fv 1).den ι ∨ (IE.fv 1).den ι < (IE.fv 5).den ι ∨ (IE.fv 1).den ι = (IE.fv 5).den ι := by omega
    rcases this with h | h | h
    · exact ⟨_, List.mem_cons_self, fun b hb => by rw [List.mem_singleton] at hb; subst hb; exact d_ltI.2 h⟩
    · exact ⟨_, List.mem_cons_of_mem _ List.mem_cons_self, fun b hb => by rw [List.mem_singleton] at hb; subst hb; exact d_ltI.2 h⟩
    · exact ⟨_, List.mem_cons_of_mem _ (List.mem_cons_of_mem _ List.mem_cons_self), fun b hb => by
        rw [List.mem_singleton] at hb; subst hb; simp only [BE.den, intCmp, Option.getD_some, beq_iff_eq]; exact h⟩
  · exact ⟨[], List.mem_cons_self, fun b hb => by cases hb⟩
-- CASE FF: [ltI (.fv 5) (.fv 1)]
-- CASE FF: [ltI (.fv 1) (.fv 5)]
-- CASE FF: [.cmp .eql (.fv 1) (.fv 5)]

set_option maxRecDepth 100000 in
theorem ranTT0 : runFl Try.prog true (some 4) 300 60 3 [22, 22] [true, true] (cfg [true, true]) [] = true := by kernel_rfl

theorem okTT : ∀ fs ∈ cs [true, true], runFl Try.prog true (some 4) 300 60 3 [22, 22] [true, true] (cfg [true, true]) fs = true := by
  intro fs h
  simp only [cs, List.mem_cons, List.not_mem_nil, or_false] at h
  rcases h with rfl
  · exact ranTT0

set_option maxRecDepth 100000 in
theorem ranTF0 : runFl Try.prog true (some 4) 300 60 3 [22, 22] [true, false] (cfg [true, false]) [] = true := by kernel_rfl

theorem okTF : ∀ fs ∈ cs [true, false], runFl Try.prog true (some 4) 300 60 3 [22, 22] [true, false] (cfg [true, false]) fs = true := by
  intro fs h
  simp only [cs, List.mem_cons, List.not_mem_nil, or_false] at h
  rcases h with rfl
  · exact ranTF0

set_option maxRecDepth 100000 in
theorem ranFT0 : runFl Try.prog true (some 4) 300 60 3 [22, 22] [false, true] (cfg [false, true]) [] = true := by kernel_rfl

theorem okFT : ∀ fs ∈ cs [false, true], runFl Try.prog true (some 4) 300 60 3 [22, 22] [false, true] (cfg [false, true]) fs = true := by
  intro fs h
  simp only [cs, List.mem_cons, List.not_mem_nil, or_false] at h
  rcases h with rfl
  · exact ranFT0

set_option maxRecDepth 100000 in
theorem ranFF0 : runFl Try.prog true (some 4) 300 60 3 [22, 22] [false, false] (cfg [false, false]) [ltI (.fv 5) (.fv 1)] = true := by kernel_rfl

set_option maxRecDepth 100000 in
theorem ranFF1 : runFl Try.prog true (some 4) 300 60 3 [22, 22] [false, false] (cfg [false, false]) [ltI (.fv 1) (.fv 5)] = true := by kernel_rfl

set_option maxRecDepth 100000 in
theorem ranFF2 : runFl Try.prog true (some 4) 300 60 3 [22, 22] [false, false] (cfg [false, false]) [.cmp .eql (.fv 1) (.fv 5)] = true := by kernel_rfl

theorem okFF : ∀ fs ∈ cs [false, false], runFl Try.prog true (some 4) 300 60 3 [22, 22] [false, false] (cfg [false, false]) fs = true := by
  intro fs h
  simp only [cs, List.mem_cons, List.not_mem_nil, or_false] at h
  rcases h with rfl | rfl | rfl
  · exact ranFF0
  · exact ranFF1
  · exact ranFF2

theorem runs : ∀ fl : List Bool, fl.length = 2 → ∀ fs ∈ cs fl, runFl Try.prog true (some 4) 300 60 3 [22, 22] fl (cfg fl) fs = true
  | [true, true], _ => okTT
  | [true, false], _ => okTF
  | [false, true], _ => okFT
  | [false, false], _ => okFF

set_option maxRecDepth 100000 in
theorem lifted (os : Os) (started : os.Started) (H : Type) (enc : TypeId × Value → H) :
    ReturnsInHanded {} Try.checked os 3 .any (Rows.nibbleDiffsSpec.pre6 enc Try.prog Try.f3 Rows.nibbleDiffsRow.domain false) (Rows.nibbleDiffsSpec.post enc Try.prog Try.f3 false true false false) := by
  refine returnsInHanded_of_change (C := Try.checked) own started (by kernel_rfl) Try.func3
    (ChangeSpec.witness6 (enc := enc) (C := Try.checked) false ⟨#[], #[.slice none 0 0, .slice none 0 0], []⟩ 8 (by kernel_rfl) (by kernel_rfl) (by kernel_rfl) (by kernel_rfl)) ?_
  intro W base args ds gs before hval0 hW hcnd _
  have hval : ∀ (j : Nat) t v, Try.f3.params[j]? = some t → args[j]? = some v → Value.okWide Try.prog W .any base t v := hval0
  have hW' := hW
  obtain ⟨p, q, hA0, hV, hpq, hfz, hnd⟩ := hW
  have hA : DataW.TrodAll enc Try.prog W 0 (fun _ => true) true Try.f3.params.toList args.toList ds p := hA0
  rw [Try.params3] at hA hval
  have hrun := calls_runs (dr := true) (kn := (some 4)) (fuel := 300) (d := 60) (f := 3) (ts := [22, 22]) (cfg := cfg) (prd := prd) (cs := cs) plain knows (fun _ call hC => anyOk (by kernel_rfl) plain hC) rules cs_ok cs_ne (fun fl hfl => runs fl (hfl.trans (by kernel_rfl))) (fun j t v h h' => hval j t v (by simpa using h) (by simpa using h')) hA
  obtain ⟨v0, vs0, d0, ds0, p0, q0, hargs, rfl, hp0, h0, r0⟩ := trodAll_cons hA
  obtain ⟨v1, vs1, d1, ds1, p1, q1, rfl, rfl, hp1, h1, r1⟩ := trodAll_cons r0
  obtain ⟨rfl, rfl, hpz⟩ := trodAll_nil r1
  obtain rfl : args = #[v0, v1] := by cases args; simp_all
  obtain ⟨rfl, rfl⟩ := trodVars_none hV
  refine hrun.mono fun e W' ⟨he, hg⟩ => ?_
  subst he
  exact ⟨_, rfl, post_of_below hW' hg (by kernel_rfl) (by rw [Try.params3]; kernel_rfl) rfl rfl rfl (fun _ _ _ => (trodAll_cons_mk (shut_bool Try.underlying4 _) trodAll_mk0)) (ok_one (by kernel_rfl) rfl (okWide_bool_mk Try.underlying4 _))⟩

theorem over : Rows.nibbleDiffsRow.holds Try.pinned (OpenSpec.ofChange Rows.nibbleDiffsSpec) :=
  OpenClaim.holds_of_wide 3 Try.f3 rfl rfl rfl rfl rfl rfl rfl ⟨rfl, rfl, rfl, rfl, rfl⟩ rfl rfl rfl rfl rfl (by kernel_rfl) Try.func3 (by kernel_rfl)
    (of_decide_eq_true (by kernel_rfl)) (by unfold Func.isWrapper; first | (rw [if_pos (by decide +kernel)]; kernel_rfl) | (rw [if_neg (by decide +kernel)]; exact ⟨rfl, rfl⟩))
    (fun os started H enc _ => lifted os started H enc)

/-- THE STATEMENT -/
theorem proved : Rows.NibbleDiffsSaid :=
  over
#print axioms proved
end Go.Proofs.Ytoipaoaoiabfcaa.nibbleDiffs
