/-
  RestrictAmong holds: whatever the input, the call returns true and what it was given reads as before; by a walker that computes in the kernel with unknowns, and whose soundness is proved in the texts beside this one.
-/
import Derived.Test.YtjeflpnofdkigaaRows
import Derived.Test.YtjeflpnofdkigaaSzPf
import Derived.Test.YtjeflpnofdkigaaSzMe
import Derived.WalkKit
import Derived.ProofKit
import Derived.OpenShut
namespace Go.Proofs.Ytjeflpnofdkigaa.restrictAmong
open Go.Sx Go.ChangeShapes Go.WideShapes Go.ChangeAt Go.RowKit
set_option linter.unusedVariables false

theorem own : ownKnob Try.prog.godebug = none := by kernel_rfl

theorem plain : plainNames Try.prog = true := by kernel_rfl

set_option maxRecDepth 100000 in
theorem ranKnown : allTrue (runCall Try.prog true {} 300 60 false 5 [] Hp.nil []) = true := by kernel_rfl

theorem knows1 : Known1 Try.prog (some 5) := by
  intro f hf w
  injection hf with hf
  subst hf
  exact calls_true (dr := true) (kn := {}) (fuel := 300) (d := 60) (args := []) (xs := []) (ι := io []) (pc := []) w plain known_none (fun _ call hC => anyOk (by kernel_rfl) plain hC) ranKnown rfl (fun _ h => by cases h)

abbrev ge (a : IE) (n : Int) : BE := .cmp .geq a (.lit n)
abbrev le (a : IE) (n : Int) : BE := .cmp .leq a (.lit n)
abbrev lt (a : IE) (n : Int) : BE := .cmp .lss a (.lit n)
abbrev gt (a : IE) (n : Int) : BE := .cmp .gtr a (.lit n)
abbrev v (i : Nat) : IE := .fv i
abbrev t (i : Nat) : TX := .fv i
abbrev r (i : Nat) : RX := .row i
abbrev leI (a b : IE) : BE := .not (.cmp .lss b a)
abbrev ltI (a b : IE) : BE := .cmp .lss a b
abbrev eqI (a b : IE) : BE := .cmp .eql a b
abbrev neI (a b : IE) : BE := .not (.cmp .eql a b)
abbrev rule (find pre : List BE) (con : BE) : Rule := { pat := true, find, pre, con }
abbrev lrn (trig : IE) (find pre : List BE) (con : BE) : Rule := { pat := true, find, pre, con, trig := some trig }
abbrev bad (l : List Nat) : List (Nat × AV) := l.map fun i => (i, AV.poison)
abbrev upto (a b : Nat) : List Nat := (List.range (b + 1 - a)).map (· + a)
abbrev inI (i n : IE) : List BE := [ge i 0, ltI i n]
abbrev inU (x : IE) : List BE := [ge x 0, le x 18446744073709551615]
/-- A restriction of the row 'k'. -/
abbrev w (k : Nat) (i : IE) : IE := .wrap .i64 (.cell k i)
abbrev metP (i m : IE) (x : RX) : BE := .usr 1 [i, m] [] [x]
abbrev mayP (i : IE) (x : RX) : BE := .usr 4 [i] [] [x]
abbrev isP (c n : IE) (x : RX) : BE := .usr 5 [c, n] [] [x]
abbrev badP (n : IE) (x : RX) : BE := .usr 7 [n] [] [x]
/-- One is among another one; among all of the first ones. -/
abbrev amP (x y : IE) : BE := .usr 8 [x, y] [] []
abbrev allP (i x : IE) (l : RX) : BE := .usr 9 [i, x] [] [l]
abbrev n1 : IE := v 1
abbrev l0 : RX := r 0
abbrev is0 (a : IE) : BE := eqI a (.lit 0)
abbrev no0 (a : IE) : BE := neI a (.lit 0)
abbrev rowR : Sh := .row 24 [.int .i64]
abbrev i64 : Sh := .leaf (.int .i64)
def fMeet : Fs := { f := 6, shs := [rowR], alts := [{ rets := [i64, i64], post := [isP (v 2) (v 1) (r 0), mayP (v 1) (r 0), eqI (v 3) (.lit 0)] }, { rets := [i64, i64], post := [eqI (v 2) (.lit 0), eqI (v 3) (.lit 2), badP (v 1) (r 0)] }] }
def fAm : Fs := { f := 8, shs := [i64, i64], res := some (amP (v 0) (v 1)) }
def fRAm : Fs := { f := 9, shs := [i64, i64], res := some (amP (v 0) (v 1)) }
def meetAnn : Ann :=
  { key := (21, 3, 1), heads := [{ nf := 2, src := [.int 9, .int 4], bsrc := [], tm := fun m _ => (9, .int .i64 (v m)) :: (4, .int .i64 (v (m + 1))) :: bad (6 :: upto 10 19), bl := fun _ _ => [], nb := fun _ _ => [], inv := fun m _ => [ge (v m) 0, leI (v m) n1, ge (v (m + 1)) 0, le (v (m + 1)) 5, metP (v m) (v (m + 1)) l0, mayP (v m) l0], ms := fun m _ => .dif n1 (v m) }] }
def mayRules : List Rule := [
  lrn (w 0 (v 1)) [mayP (v 2) (r 0)] [ge (v 1) 0, ltI (v 1) (v 2)] (ge (w 0 (v 1)) 0),
  lrn (w 0 (v 1)) [mayP (v 2) (r 0)] [ge (v 1) 0, ltI (v 1) (v 2)] (le (w 0 (v 1)) 5),
  rule [] [] (mayP (.lit 0) (r 0)),
  rule [mayP (v 0) (r 1)] [ge (v 0) 0, ge (w 1 (v 0)) 0, le (w 1 (v 0)) 5] (mayP (.off (v 0) (.lit 1)) (r 1)),
  rule [mayP (v 2) (r 1)] [leI (v 0) (v 2)] (mayP (v 0) (r 1)),
  rule [.not (le (w 1 (v 2)) 5)] [ge (v 2) 0, ltI (v 2) (v 0)] (badP (v 0) (r 1)),
  rule [.not (ge (w 1 (v 2)) 0)] [ge (v 2) 0, ltI (v 2) (v 0)] (badP (v 0) (r 1)) ]
def metRules : List Rule := [
  rule [] [] (metP (.lit 0) (.lit 0) (r 0)),
  rule [metP (v 0) (v 1) (r 2)] [ge (v 0) 0, is0 (v 1)] (metP (.off (v 0) (.lit 1)) (w 2 (v 0)) (r 2)),
  rule [metP (v 0) (v 1) (r 2)] [ge (v 0) 0, no0 (v 1), is0 (w 2 (v 0))] (metP (.off (v 0) (.lit 1)) (v 1) (r 2)),
  rule [metP (v 0) (v 1) (r 2)] [ge (v 0) 0, no0 (v 1), eqI (v 1) (w 2 (v 0))] (metP (.off (v 0) (.lit 1)) (v 1) (r 2)),
  rule [metP (v 0) (v 1) (r 2)] [ge (v 0) 0, no0 (v 1), no0 (w 2 (v 0)), neI (v 1) (w 2 (v 0))] (metP (.off (v 0) (.lit 1)) (.lit 5) (r 2)),
  rule [metP (v 3) (v 0) (r 2), mayP (v 3) (r 2)] [leI (v 3) (v 1), leI (v 1) (v 3), ge (v 1) 0] (isP (v 0) (v 1) (r 2)) ]
def meetRules : List Rule := mayRules ++ metRules
def cfgMeet : Cfg := { rules := meetRules, anns := [meetAnn] }
def amRules : List Rule := [
  rule [] [is0 (v 1)] (amP (v 0) (v 1)),
  rule [] [neI (v 0) (.lit 0), neI (v 0) (.lit 1), neI (v 0) (.lit 2), neI (v 0) (.lit 3), neI (v 0) (.lit 4)] (amP (v 0) (v 1)),
  rule [] [is0 (v 0), no0 (v 1)] (.not (amP (v 0) (v 1))),
  rule [] [eqI (v 0) (.lit 1), eqI (v 1) (.lit 1)] (amP (v 0) (v 1)),
  rule [] [eqI (v 0) (.lit 2), eqI (v 1) (.lit 2)] (amP (v 0) (v 1)),
  rule [] [eqI (v 0) (.lit 3), eqI (v 1) (.lit 3)] (amP (v 0) (v 1)),
  rule [] [eqI (v 0) (.lit 4), eqI (v 1) (.lit 4)] (amP (v 0) (v 1)),
  rule [] [eqI (v 0) (.lit 1), no0 (v 1), neI (v 1) (.lit 1)] (.not (amP (v 0) (v 1))),
  rule [] [eqI (v 0) (.lit 2), no0 (v 1), neI (v 1) (.lit 2)] (.not (amP (v 0) (v 1))),
  rule [] [eqI (v 0) (.lit 3), no0 (v 1), neI (v 1) (.lit 3)] (.not (amP (v 0) (v 1))),
  rule [] [eqI (v 0) (.lit 4), no0 (v 1), neI (v 1) (.lit 4)] (.not (amP (v 0) (v 1))) ]
def cfgAm : Cfg := { rules := amRules }
abbrev X : IE := .wrap .i64 (.var 0)
def allAnn (n : IE) : Ann :=
  { key := (106, 8, 4), heads := [{ nf := 1, src := [.int 10], bsrc := [], tm := fun m _ => (10, .int .i64 (v m)) :: (9, .bool (allP (v m) X l0)) :: bad (upto 30 66), bl := fun _ _ => [], nb := fun _ _ => [], inv := fun m _ => [ge (v m) 0, leI (v m) n], ms := fun m _ => .dif n (v m) }] }
abbrev K (a b : IE) : IE := .wrap .i64 (.bin .rem .u64 a b)
def lawRules1 : List Rule := [
  rule [isP (v 0) (v 1) (r 2)] [lt (v 1) 1] (eqI (v 0) (.lit 0)),
  rule [] [] (allP (.lit 0) (v 0) (r 1)),
  rule [.not (allP (v 0) (v 1) (r 2))] [ge (v 0) 0] (.not (allP (.off (v 0) (.lit 1)) (v 1) (r 2))),
  rule [allP (v 0) (v 1) (r 2)] [ge (v 0) 0] (.same (allP (.off (v 0) (.lit 1)) (v 1) (r 2)) (amP (v 1) (w 2 (v 0)))),
  rule [isP (v 0) (v 3) (r 2)] [ge (v 1) 0, ltI (v 1) (v 3)] (amP (v 0) (w 2 (v 1))),
  rule [isP (v 1) (v 2) (r 3), allP (v 4) (v 0) (r 3)] [leI (v 2) (v 4), leI (v 4) (v 2)] (amP (v 0) (v 1)),
  rule [isP (v 1) (v 2) (r 3), .not (allP (v 4) (v 0) (r 3))] [leI (v 2) (v 4), leI (v 4) (v 2)] (.not (amP (v 0) (v 1))),
  rule [isP (v 0) (v 2) (r 3), isP (v 1) (v 4) (r 5), .isrow 3 (.cat (r 6) (.sub (r 5) (.lit 0) (v 7))), .isrow 6 (.cat (r 8) (r 5)), .isrow 8 (.sub (r 5) (v 7) (v 9)), .rlen (r 8) (v 9), .rlen (r 6) (.off (v 9) (v 4)), .rlen (r 3) (v 2)] [] (eqI (v 0) (v 1)),
  rule [badP (v 0) (r 1), .isrow 1 (.cat (r 4) (.sub (r 3) (.lit 0) (v 5))), mayP (v 2) (r 3), .isrow 4 (.cat (r 6) (r 3)), .isrow 6 (.sub (r 3) (v 5) (v 7)), .rlen (r 6) (v 7), .rlen (r 4) (.off (v 7) (v 2)), .rlen (r 1) (v 0)] [] (.lit false) ]
abbrev ok1 : List BE := [ge (v 0) 0, ge (v 1) 1, le (v 1) 20]
abbrev kk : IE := K (v 0) (v 1)
def kRules : List Rule := [
  rule [] ok1 (ge kk 0),
  rule [] ok1 (leI kk (v 1)),
  rule [.cmp .leq (v 1) (v 2)] ok1 (ltI kk (v 2)),
  rule [.cmp .leq (v 1) (v 2)] ok1 (leI kk (v 2)),
  rule [] ok1 (ge (.dif (v 1) kk) 1),
  rule [] ok1 (le (.dif (v 1) kk) 1073741824),
  rule [] ok1 (leI (.off kk (.dif (v 1) kk)) (v 1)),
  rule [] ok1 (le (.off (.dif (v 1) kk) (v 1)) 1073741824),
  rule [] ok1 (le (.off (.off (.dif (v 1) kk) (v 1)) kk) 1073741824) ]
def cfgAmong (fl : List Bool) : Cfg := match fl with | [false] => { rules := mayRules ++ lawRules1 ++ kRules, grow := true, anns := [allAnn n1] } | _ => { rules := amRules, grow := true }
def csK (fl : List Bool) : List (List BE) := match fl with | [false] => [[ge n1 1], [.not (ge n1 1)]] | _ => [[]]
def vl (l : List Value) (j : Nat) : Int := IntKind.i64.wrap (cellInt l[j]?)
def both (a b : Int) : Int := if a = 0 then b else if b = 0 then a else if a = b then a else 5
def fold (l : List Value) : Nat → Int
  | 0 => 0
  | i + 1 => both (fold l i) (vl l i)
/-- That restriction lets that type in. -/
def al (x t : Int) : Prop := x = 0 ∨ x = t
def Am (x y : Int) : Prop := ∀ t : Int, 1 ≤ t → t ≤ 4 → al x t → al y t
def Is (l : List Value) (c n : Int) : Prop := (0 ≤ c ∧ c ≤ 5) ∧ ∀ t : Int, 1 ≤ t → t ≤ 4 → (al c t ↔ ∀ j : Nat, (j : Int) < n → al (vl l j) t)
def prd : Nat → List Int → List (List UInt8) → List (List Value) → Prop
  | 1, [i, m], [], [l] => fold l i.toNat = m
  | 4, [i], [], [l] => ∀ j : Nat, (j : Int) < i → 0 ≤ vl l j ∧ vl l j ≤ 5
  | 5, [c, n], [], [l] => Is l c n
  | 7, [n], [], [l] => ∃ j : Nat, (j : Int) < n ∧ ¬ (0 ≤ vl l j ∧ vl l j ≤ 5)
  | 8, [x, y], [], [] => Am x y
  | 9, [i, x], [], [l] => ∀ j : Nat, (j : Int) < i → Am x (vl l j)
  | _, _, _, _ => False
theorem al_both {a b t : Int} (ha : 0 ≤ a ∧ a ≤ 5) (hb : 0 ≤ b ∧ b ≤ 5) (ht : 1 ≤ t ∧ t ≤ 4) : al (both a b) t ↔ al a t ∧ al b t := by
  unfold al both
  split
  · omega
  · split
    · omega
    · split <;> omega
theorem both_in {a b : Int} (ha : 0 ≤ a ∧ a ≤ 5) (hb : 0 ≤ b ∧ b ≤ 5) : 0 ≤ both a b ∧ both a b ≤ 5 := by
  unfold both
  split
  · exact hb
  · split
    · exact ha
    · split <;> omega
theorem fold_is {l : List Value} : ∀ {i : Nat}, (∀ j : Nat, j < i → 0 ≤ vl l j ∧ vl l j ≤ 5) → Is l (fold l i) i
  | 0, _ => ⟨by simp [fold], fun t _ _ => ⟨fun _ j hj => by omega, fun _ => Or.inl rfl⟩⟩
  | i + 1, h => by
    obtain ⟨h1, h2⟩ := fold_is (i := i) fun j hj => h j (by omega)
    have hi := h i (by omega)
    refine ⟨both_in h1 hi, fun t t1 t2 => ?_⟩
    rw [fold, al_both h1 hi ⟨t1, t2⟩, h2 t t1 t2]
    constructor
    · rintro ⟨a, b⟩ j hj
      by_cases e : j = i
      · rw [e]; exact b
      · exact a j (by omega)
    · intro a
      exact ⟨fun j hj => a j (by omega), a i (by omega)⟩
theorem al_ext {c e : Int} (hc : 0 ≤ c ∧ c ≤ 5) (he : 0 ≤ e ∧ e ≤ 5) (h : ∀ t : Int, 1 ≤ t → t ≤ 4 → (al c t ↔ al e t)) : c = e := by
  have h1 := h 1 (by decide) (by decide)
  have h2 := h 2 (by decide) (by decide)
  have h3 := h 3 (by decide) (by decide)
  have h4 := h 4 (by decide) (by decide)
  unfold al at h1 h2 h3 h4
  omega
section
variable {ι : Unk} (hp : ι.prd = prd)
include hp
theorem d_met {i m : IE} {x : RX} : (metP i m x).den ι = true ↔ fold (x.den ι) (i.den ι).toNat = m.den ι := n_usr hp
theorem d_may {i : IE} {x : RX} : (mayP i x).den ι = true ↔ ∀ j : Nat, (j : Int) < i.den ι → 0 ≤ vl (x.den ι) j ∧ vl (x.den ι) j ≤ 5 := n_usr hp
theorem d_is {c n : IE} {x : RX} : (isP c n x).den ι = true ↔ Is (x.den ι) (c.den ι) (n.den ι) := n_usr hp
theorem d_bad {n : IE} {x : RX} : (badP n x).den ι = true ↔ ∃ j : Nat, (j : Int) < n.den ι ∧ ¬ (0 ≤ vl (x.den ι) j ∧ vl (x.den ι) j ≤ 5) := n_usr hp
theorem d_am {x y : IE} : (amP x y).den ι = true ↔ Am (x.den ι) (y.den ι) := n_usr hp
theorem d_all {i x : IE} {l : RX} : (allP i x l).den ι = true ↔ ∀ j : Nat, (j : Int) < i.den ι → Am (x.den ι) (vl (l.den ι) j) := n_usr hp
end
theorem n_w {ι : Unk} {k : Nat} {i : IE} : (w k i).den ι = vl (ι.fr k) (i.den ι).toNat := rfl
theorem n_r {ι : Unk} {k : Nat} : (r k).den ι = ι.fr k := rfl
theorem mayRules_ok (ι : Unk) (hp : ι.prd = prd) : ∀ r ∈ mayRules, ROk ι r := by
  refine all_cons ?_ (all_cons ?_ (all_cons ?_ (all_cons ?_ (all_cons ?_ (all_cons ?_ (all_cons ?_ all_nil)))))) <;> intro hf h <;>
    simp only [List.mem_cons, List.not_mem_nil, or_false, forall_eq_or_imp, forall_eq, n_not, n_geq, n_leq, n_lss, n_n, n_w, d_may hp, n_r] at hf h
  · have := hf ((v 1).den ι).toNat (by omega)
    rw [n_geq, n_n, n_w]; omega
  · have := hf ((v 1).den ι).toNat (by omega)
    rw [n_leq, n_n, n_w]; omega
  · refine (d_may hp).2 fun j hj => ?_
    rw [n_n] at hj; omega
  · refine (d_may hp).2 fun j hj => ?_
    rw [n_off, n_n] at hj
    by_cases e : (j : Int) < (v 0).den ι
    · exact hf j e
    · rw [show j = ((v 0).den ι).toNat by omega]
      exact ⟨h.2.1, h.2.2⟩
  · exact (d_may hp).2 fun j hj => hf j (by omega)
  · refine (d_bad hp).2 ⟨((v 2).den ι).toNat, by omega, fun e => hf e.2⟩
  · refine (d_bad hp).2 ⟨((v 2).den ι).toNat, by omega, fun e => hf e.1⟩
theorem met_suc {ι : Unk} (hp : ι.prd = prd) {i m m' : IE} {k : Nat} (h0 : 0 ≤ i.den ι) (h : fold (ι.fr k) (i.den ι).toNat = m.den ι) (he : m'.den ι = both (m.den ι) (vl (ι.fr k) (i.den ι).toNat)) : (metP (.off i (.lit 1)) m' (r k)).den ι = true := by
  refine (d_met hp).2 ?_
  rw [n_off, n_n, n_r, show (i.den ι + 1).toNat = (i.den ι).toNat + 1 by omega, he, ← h]
  rfl
theorem metRules_ok (ι : Unk) (hp : ι.prd = prd) : ∀ r ∈ metRules, ROk ι r := by
  refine all_cons ?_ (all_cons ?_ (all_cons ?_ (all_cons ?_ (all_cons ?_ (all_cons ?_ all_nil))))) <;> intro hf h <;>
    simp only [List.mem_cons, List.not_mem_nil, or_false, forall_eq_or_imp, forall_eq, n_not, n_geq, n_eql, n_lss, n_n, n_w, d_may hp, d_met hp, n_r] at hf h
  · exact (d_met hp).2 rfl
  · refine met_suc hp h.1 hf ?_
    rw [n_w]; unfold both; rw [if_pos h.2]
  · refine met_suc hp h.1 hf ?_
    unfold both; rw [if_neg h.2.1, if_pos h.2.2]
  · refine met_suc hp h.1 hf ?_
    unfold both; rw [if_neg h.2.1]
    split
    · rfl
    · rw [if_pos h.2.2]
  · refine met_suc hp h.1 hf ?_
    unfold both; rw [if_neg h.2.1, if_neg h.2.2.1, if_neg h.2.2.2]; rfl
  · obtain ⟨f1, f2⟩ := hf
    obtain ⟨g1, g2, g3⟩ := h
    have e : (v 3).den ι = (v 1).den ι := by omega
    rw [e] at f1 f2
    have := fold_is (l := ι.fr 2) (i := ((v 1).den ι).toNat) fun j hj => f2 j (by omega)
    rw [f1, Int.toNat_of_nonneg g3] at this
    exact (d_is hp).2 this
theorem meetRules_ok (ι : Unk) (hp : ι.prd = prd) : ∀ r ∈ meetRules, ROk ι r := all_append (mayRules_ok ι hp) (metRules_ok ι hp)
theorem am_no {x y t : Int} (t1 : 1 ≤ t) (t2 : t ≤ 4) (h1 : al x t) (h2 : ¬ al y t) : ¬ Am x y := fun h => h2 (h t t1 t2 h1)
theorem amRules_ok (ι : Unk) (hp : ι.prd = prd) : ∀ r ∈ amRules, ROk ι r := by
  refine all_cons ?_ (all_cons ?_ (all_cons ?_ (all_cons ?_ (all_cons ?_ (all_cons ?_ (all_cons ?_ (all_cons ?_ (all_cons ?_ (all_cons ?_ (all_cons ?_ all_nil)))))))))) <;> intro _ h <;>
    simp only [List.mem_cons, List.not_mem_nil, or_false, forall_eq_or_imp, forall_eq, n_not, n_eql, n_n] at h
  · exact (d_am hp).2 fun t _ _ _ => Or.inl h
  · refine (d_am hp).2 fun t t1 t2 ha => ?_
    unfold al at ha
    omega
  · rw [n_not, d_am hp]
    by_cases e : (v 1).den ι = 1
    · exact am_no (t := 2) (by decide) (by decide) (Or.inl h.1) (by unfold al; omega)
    · exact am_no (t := 1) (by decide) (by decide) (Or.inl h.1) (by unfold al; omega)
  · refine (d_am hp).2 fun t t1 t2 ha => ?_
    unfold al at ha ⊢
    omega
  · refine (d_am hp).2 fun t t1 t2 ha => ?_
    unfold al at ha ⊢
    omega
  · refine (d_am hp).2 fun t t1 t2 ha => ?_
    unfold al at ha ⊢
    omega
  · refine (d_am hp).2 fun t t1 t2 ha => ?_
    unfold al at ha ⊢
    omega
  · rw [n_not, d_am hp]
    exact am_no (t := 1) (by decide) (by decide) (Or.inr h.1) (by unfold al; omega)
  · rw [n_not, d_am hp]
    exact am_no (t := 2) (by decide) (by decide) (Or.inr h.1) (by unfold al; omega)
  · rw [n_not, d_am hp]
    exact am_no (t := 3) (by decide) (by decide) (Or.inr h.1) (by unfold al; omega)
  · rw [n_not, d_am hp]
    exact am_no (t := 4) (by decide) (by decide) (Or.inr h.1) (by unfold al; omega)
/-- Turned: what all of the one have all of the other do. -/
theorem turned {L a b c : List Value} {k d n m : Int} (hc : c = b ++ (L.drop 0).take k.toNat) (hb : b = a ++ L) (ha : a = (L.drop k.toNat).take d.toNat) (la : (a.length : Int) = d) (lb : (b.length : Int) = d + n) (lc : (c.length : Int) = m) (p : Int → Prop) :
    (∀ j : Nat, (j : Int) < m → p (vl c j)) ↔ ∀ j : Nat, (j : Int) < n → p (vl L j) := by
  have hL : (L.length : Int) = n := by
    have := congrArg List.length hb
    rw [List.length_append] at this
    omega
  have mem : ∀ v : Value, v ∈ c ↔ v ∈ L := by
    intro v
    rw [hc, hb, ha, List.mem_append, List.mem_append]
    constructor
    · rintro ((h | h) | h)
      · exact List.mem_of_mem_drop (List.mem_of_mem_take h)
      · exact h
      · exact List.mem_of_mem_drop (List.mem_of_mem_take h)
    · exact fun h => Or.inl (Or.inr h)
  have key : ∀ (x : List Value) (q : Int), (x.length : Int) = q → ((∀ j : Nat, (j : Int) < q → p (vl x j)) ↔ ∀ v ∈ x, p (IntKind.i64.wrap (cellInt (some v)))) := by
    intro x q hq
    constructor
    · intro h v hv
      obtain ⟨j, hj, e⟩ := List.getElem_of_mem hv
      have := h j (by omega)
      rw [vl, List.getElem?_eq_getElem hj, e] at this
      exact this
    · intro h j hj
      have hj' : j < x.length := by omega
      rw [vl, List.getElem?_eq_getElem hj']
      exact h _ (List.getElem_mem hj')
  rw [key c m lc, key L n hL]
  exact ⟨fun h v hv => h v ((mem v).2 hv), fun h v hv => h v ((mem v).1 hv)⟩
theorem n_sub {ι : Unk} {k : Nat} {o n : IE} : (RX.sub (r k) o n).den ι = ((ι.fr k).drop (o.den ι).toNat).take (n.den ι).toNat := rfl
theorem n_cat {ι : Unk} {x y : RX} : (RX.cat x y).den ι = x.den ι ++ y.den ι := rfl
theorem lawRules1_ok (ι : Unk) (hp : ι.prd = prd) : ∀ r ∈ lawRules1, ROk ι r := by
  refine all_cons ?_ (all_cons ?_ (all_cons ?_ (all_cons ?_ (all_cons ?_ (all_cons ?_ (all_cons ?_ (all_cons ?_ (all_cons ?_ all_nil)))))))) <;> intro hf h <;>
    simp only [List.mem_cons, List.not_mem_nil, or_false, forall_eq_or_imp, forall_eq, n_not, n_geq, n_lss, n_n, n_off, n_isrow, n_rlen, n_sub, n_cat, d_may hp, d_is hp, d_bad hp, d_all hp, n_r] at hf h
  · rw [n_eql, n_n]
    exact al_ext hf.1 ⟨Int.le_refl _, by decide⟩ fun t t1 t2 => ⟨fun _ => Or.inl rfl, fun _ => (hf.2 t t1 t2).2 fun j hj => by omega⟩
  · refine (d_all hp).2 fun j hj => ?_
    rw [n_n] at hj; omega
  · rw [n_not, d_all hp]
    exact fun e => hf fun j hj => e j (by rw [n_off, n_n]; omega)
  · rw [n_same, d_all hp, d_am hp, n_off, n_n, n_w, n_r]
    constructor
    · exact fun e => e ((v 0).den ι).toNat (by omega)
    · intro e j hj
      by_cases hj2 : (j : Int) < (v 0).den ι
      · exact hf j hj2
      · rw [show j = ((v 0).den ι).toNat by omega]
        exact e
  · refine (d_am hp).2 fun t t1 t2 ha => ?_
    rw [n_w]
    exact (hf.2 t t1 t2).1 ha _ (by omega)
  · obtain ⟨f1, f2⟩ := hf
    refine (d_am hp).2 fun t t1 t2 ha => (f1.2 t t1 t2).2 fun j hj => f2 j (by omega) t t1 t2 ha
  · obtain ⟨f1, f2⟩ := hf
    rw [n_not, d_am hp]
    exact fun e => f2 fun j hj t t1 t2 ha => (f1.2 t t1 t2).1 (e t t1 t2 ha) j (by omega)
  · obtain ⟨f1, f2, f3, f4, f5, f6, f7, f8⟩ := hf
    rw [n_eql]
    refine al_ext f1.1 f2.1 fun t t1 t2 => ?_
    rw [f1.2 t t1 t2, f2.2 t t1 t2]
    exact turned f3 f4 f5 f6 f7 f8 fun x => al x t
  · obtain ⟨⟨j, hj, hn⟩, f3, f2, f4, f5, f6, f7, f8⟩ := hf
    exact absurd ((turned f3 f4 f5 f6 f7 f8 fun x => 0 ≤ x ∧ x ≤ 5).2 f2 j hj) hn
theorem kk_den {ι : Unk} {a b : IE} (h0 : 0 ≤ a.den ι) (h1 : 1 ≤ b.den ι) (h2 : b.den ι ≤ 20) : 0 ≤ (K a b).den ι ∧ (K a b).den ι < b.den ι := by
  have e : (IE.bin .rem .u64 a b).den ι = a.den ι % b.den ι := by rw [n_bin, rem_nat h0 (by omega)]
  have l1 := Int.emod_nonneg (a.den ι) (show b.den ι ≠ 0 by omega)
  have l2 := Int.emod_lt_of_pos (a.den ι) (show 0 < b.den ι by omega)
  rw [n_wrap, e, wrap_i64 (by omega) (by omega)]
  exact ⟨l1, l2⟩
theorem kRules_ok (ι : Unk) (hp : ι.prd = prd) : ∀ r ∈ kRules, ROk ι r := by
  refine all_cons ?_ (all_cons ?_ (all_cons ?_ (all_cons ?_ (all_cons ?_ (all_cons ?_ (all_cons ?_ (all_cons ?_ (all_cons ?_ all_nil)))))))) <;> intro hf h <;>
    simp only [List.mem_cons, List.not_mem_nil, or_false, forall_eq_or_imp, forall_eq, n_geq, n_leq, n_n] at hf h
  · have : 0 ≤ kk.den ι ∧ kk.den ι < (v 1).den ι := kk_den h.1 h.2.1 h.2.2
    rw [n_geq, n_n]; omega
  · have : 0 ≤ kk.den ι ∧ kk.den ι < (v 1).den ι := kk_den h.1 h.2.1 h.2.2
    rw [n_not, n_lss]; omega
  · have : 0 ≤ kk.den ι ∧ kk.den ι < (v 1).den ι := kk_den h.1 h.2.1 h.2.2
    rw [n_lss]; omega
  · have : 0 ≤ kk.den ι ∧ kk.den ι < (v 1).den ι := kk_den h.1 h.2.1 h.2.2
    rw [n_not, n_lss]; omega
  · have : 0 ≤ kk.den ι ∧ kk.den ι < (v 1).den ι := kk_den h.1 h.2.1 h.2.2
    rw [n_geq, n_n, n_dif]; omega
  · have : 0 ≤ kk.den ι ∧ kk.den ι < (v 1).den ι := kk_den h.1 h.2.1 h.2.2
    rw [n_leq, n_n, n_dif]; omega
  · have : 0 ≤ kk.den ι ∧ kk.den ι < (v 1).den ι := kk_den h.1 h.2.1 h.2.2
    rw [n_not, n_lss, n_off, n_dif]; omega
  · have : 0 ≤ kk.den ι ∧ kk.den ι < (v 1).den ι := kk_den h.1 h.2.1 h.2.2
    rw [n_leq, n_n, n_off, n_dif]; omega
  · have : 0 ≤ kk.den ι ∧ kk.den ι < (v 1).den ι := kk_den h.1 h.2.1 h.2.2
    rw [n_leq, n_n, n_off, n_off, n_dif]; omega
theorem cfgAmong_ok (fl : List Bool) (ι : Unk) (hp : ι.prd = prd) : RulesOk (cfgAmong fl).rules ι := by
  unfold cfgAmong
  split
  · exact rules_of (fun ι hp => all_append (all_append (mayRules_ok ι hp) (lawRules1_ok ι hp)) (kRules_ok ι hp)) ι hp
  · exact rules_of amRules_ok ι hp
theorem csK_ne (fl : List Bool) : csK fl ≠ [] := by
  unfold csK
  split <;> exact List.cons_ne_nil _ _
theorem csK_ok (fl : List Bool) (ι : Unk) (_ : ι.prd = prd) : ∃ fs ∈ csK fl, ∀ b ∈ fs, b.den ι = true := by
  unfold csK
  split
  · by_cases h : (ge n1 1).den ι = true
    · exact ⟨_, List.mem_cons_self, all_cons h all_nil⟩
    · exact ⟨_, List.mem_cons_of_mem _ List.mem_cons_self, all_cons (n_not.2 h) all_nil⟩
  · exact ⟨_, List.mem_cons_self, all_nil⟩
-- CASE RestrictAmong F: [ge n1 1]
-- CASE RestrictAmong F: [.not (ge n1 1)]
-- CASE RestrictAmong T: []

def kn_fMeet : Kn := { cons := [] }
theorem known_fMeet : Known Try.prog kn_fMeet ⟨0, prd⟩ := ⟨fun f hf => (by cases hf), all_nil⟩
set_option maxRecDepth 100000 in
theorem ran_fMeet_0 : fnRun Try.prog true kn_fMeet 300 60 fMeet cfgMeet [] = true := by kernel_rfl
theorem ok_fMeet : FnOk Try.prog prd fMeet := fn_ok (dr := true) (kn := kn_fMeet) (fuel := 300) (d := 60) (cfg := cfgMeet) plain known_fMeet (fun _ call hC => anyOk (by kernel_rfl) plain hC) (rules_of meetRules_ok) (cs := [[]]) (fun _ _ _ _ => cov_one trivial) (all_cons ran_fMeet_0 all_nil)

def kn_fAm : Kn := { cons := [] }
theorem known_fAm : Known Try.prog kn_fAm ⟨0, prd⟩ := ⟨fun f hf => (by cases hf), all_nil⟩
set_option maxRecDepth 100000 in
theorem ran_fAm_0 : fnRun Try.prog true kn_fAm 300 60 fAm cfgAm [] = true := by kernel_rfl
theorem ok_fAm : FnOk Try.prog prd fAm := fn_ok (dr := true) (kn := kn_fAm) (fuel := 300) (d := 60) (cfg := cfgAm) plain known_fAm (fun _ call hC => anyOk (by kernel_rfl) plain hC) (rules_of amRules_ok) (cs := [[]]) (fun _ _ _ _ => cov_one trivial) (all_cons ran_fAm_0 all_nil)

def kn_fRAm : Kn := { cons := [] }
theorem known_fRAm : Known Try.prog kn_fRAm ⟨0, prd⟩ := ⟨fun f hf => (by cases hf), all_nil⟩
set_option maxRecDepth 100000 in
theorem ran_fRAm_0 : fnRun Try.prog true kn_fRAm 300 60 fRAm cfgAm [] = true := by kernel_rfl
theorem ok_fRAm : FnOk Try.prog prd fRAm := fn_ok (dr := true) (kn := kn_fRAm) (fuel := 300) (d := 60) (cfg := cfgAm) plain known_fRAm (fun _ call hC => anyOk (by kernel_rfl) plain hC) (rules_of amRules_ok) (cs := [[]]) (fun _ _ _ _ => cov_one trivial) (all_cons ran_fRAm_0 all_nil)

def lawCfg : List Bool → Cfg := cfgAmong
def knLaw : Kn := { kn := some 5, cons := [fMeet.con, fAm.con, fRAm.con] }
theorem knows : Known Try.prog knLaw ⟨0, prd⟩ := ⟨knows1, (all_cons (con_ok ok_fMeet) (all_cons (con_ok ok_fAm) (all_cons (con_ok ok_fRAm) all_nil)))⟩

theorem lawRules (fl : List Bool) (ι : Unk) (hp : ι.prd = prd) : RulesOk (lawCfg fl).rules ι := (cfgAmong_ok) fl ι hp

def cs : List Bool → List (List BE) := csK

theorem cs_ne (fl : List Bool) : cs fl ≠ [] := csK_ne fl

theorem cs_ok (fl : List Bool) (ι : Unk) (hp : ι.prd = prd) : ∃ fs ∈ cs fl, ∀ b ∈ fs, b.den ι = true := csK_ok fl ι hp

set_option maxRecDepth 100000 in
theorem ranT0 : runFl Try.prog true knLaw 300 60 4 [22, 24, 3] [true] (lawCfg [true]) [] = true := by kernel_rfl

theorem okT : ∀ fs ∈ cs [true], runFl Try.prog true knLaw 300 60 4 [22, 24, 3] [true] (lawCfg [true]) fs = true := by
  intro fs h
  simp only [cs, csK, List.mem_cons, List.not_mem_nil, or_false] at h
  rcases h with rfl
  · exact ranT0

set_option maxRecDepth 100000 in
theorem ranF0 : runFl Try.prog true knLaw 300 60 4 [22, 24, 3] [false] (lawCfg [false]) [ge n1 1] = true := by kernel_rfl

set_option maxRecDepth 100000 in
theorem ranF1 : runFl Try.prog true knLaw 300 60 4 [22, 24, 3] [false] (lawCfg [false]) [.not (ge n1 1)] = true := by kernel_rfl

theorem okF : ∀ fs ∈ cs [false], runFl Try.prog true knLaw 300 60 4 [22, 24, 3] [false] (lawCfg [false]) fs = true := by
  intro fs h
  simp only [cs, csK, List.mem_cons, List.not_mem_nil, or_false] at h
  rcases h with rfl | rfl
  · exact ranF0
  · exact ranF1

theorem runs : ∀ fl : List Bool, fl.length = 1 → ∀ fs ∈ cs fl, runFl Try.prog true knLaw 300 60 4 [22, 24, 3] fl (lawCfg fl) fs = true
  | [true], _ => okT
  | [false], _ => okF

set_option maxRecDepth 100000 in
theorem lifted (os : Os) (started : os.Started) (H : Type) (enc : TypeId × Value → H) :
    ReturnsInHanded {} Try.checked os 4 .any (Rows.restrictAmongSpec.pre6 enc Try.prog Try.f4 Rows.restrictAmongRow.domain false) (Rows.restrictAmongSpec.post enc Try.prog Try.f4 false true false false) := by
  refine returnsInHanded_of_change (C := Try.checked) own started (by kernel_rfl) Try.func4
    (ChangeSpec.witness6 (enc := enc) (C := Try.checked) false ⟨#[], #[.slice none 0 0, .int .i64 0, .int .i64 0], []⟩ 8 (by kernel_rfl) (by kernel_rfl) (by kernel_rfl) (by kernel_rfl)) ?_
  intro W base args ds gs before hval0 hW hcnd _
  have hval : ∀ (j : Nat) t v, Try.f4.params[j]? = some t → args[j]? = some v → Value.okWide Try.prog W .any base t v := hval0
  have hW' := hW
  obtain ⟨p, q, hA0, hV, hpq, hfz, hnd⟩ := hW
  have hA : DataW.TrodAll enc Try.prog W 0 (fun _ => true) true Try.f4.params.toList args.toList ds p := hA0
  rw [Try.params4] at hA hval
  have hrun := calls_runs (dr := true) (kn := knLaw) (fuel := 300) (d := 60) (f := 4) (ts := [22, 24, 3]) (cfg := lawCfg) (prd := prd) (cs := cs) plain knows (fun _ call hC => anyOk (by kernel_rfl) plain hC) lawRules cs_ok cs_ne (fun fl hfl => runs fl (hfl.trans (by kernel_rfl))) (fun j t v h h' => hval j t v (by simpa using h) (by simpa using h')) hA
  obtain ⟨v0, vs0, d0, ds0, p0, q0, hargs, rfl, hp0, h0, r0⟩ := trodAll_cons hA
  obtain ⟨v1, vs1, d1, ds1, p1, q1, rfl, rfl, hp1, h1, r1⟩ := trodAll_cons r0
  obtain ⟨v2, vs2, d2, ds2, p2, q2, rfl, rfl, hp2, h2, r2⟩ := trodAll_cons r1
  obtain ⟨rfl, rfl, hpz⟩ := trodAll_nil r2
  obtain rfl : args = #[v0, v1, v2] := by cases args; simp_all
  obtain ⟨rfl, rfl⟩ := trodVars_none hV
  refine hrun.mono fun e W' ⟨he, hg⟩ => ?_
  subst he
  exact ⟨_, rfl, post_of_below hW' hg (by kernel_rfl) (by rw [Try.params4]; kernel_rfl) rfl rfl rfl (fun _ _ _ => (trodAll_cons_mk (shut_bool Try.underlying4 _) trodAll_mk0)) (ok_one (by kernel_rfl) rfl (okWide_bool_mk Try.underlying4 _))⟩

theorem over : Rows.restrictAmongRow.holds Try.pinned (OpenSpec.ofChange Rows.restrictAmongSpec) :=
  OpenClaim.holds_of_wide 4 Try.f4 rfl rfl rfl rfl rfl rfl rfl ⟨rfl, rfl, rfl, rfl, rfl⟩ rfl rfl rfl rfl rfl (by kernel_rfl) Try.func4 (by kernel_rfl)
    (of_decide_eq_true (by kernel_rfl)) (by unfold Func.isWrapper; first | (rw [if_pos (by decide +kernel)]; kernel_rfl) | (rw [if_neg (by decide +kernel)]; exact ⟨rfl, rfl⟩))
    (fun os started H enc _ => lifted os started H enc)

/-- THE STATEMENT -/
theorem proved : Rows.RestrictAmongSaid :=
  over
#print axioms proved
end Go.Proofs.Ytjeflpnofdkigaa.restrictAmong
