/-
  RestrictMeets holds: whatever the input, the call returns true and what it was given reads as before; by a walker that computes in the kernel with unknowns, and whose soundness is proved in the texts beside this one.
-/
import Derived.Test.YtjeflpnofdkigaaRows
import Derived.Test.YtjeflpnofdkigaaSzPf
import Derived.Test.YtjeflpnofdkigaaSzMe
import Derived.WalkKit
import Derived.ProofKit
import Derived.OpenShut
namespace Go.Proofs.Ytjeflpnofdkigaa.restrictMeets
open Go.Sx Go.ChangeShapes Go.WideShapes Go.ChangeAt Go.RowKit
set_option linter.unusedVariables false

theorem own : ownKnob Try.prog.godebug = none := by kernel_rfl

theorem plain : plainNames Try.prog = true := by kernel_rfl

set_option maxRecDepth 100000 in
theorem ranKnown : allTrue (runCall Try.prog true {} 300 60 false 5 [] Hp.nil []) = true := by kernel_rfl

theorem knows1 : Known1 Try.prog (some 5) := by
  intro f hf w
  injection hf with hf
  subst hf
  exact calls_true (dr := true) (kn := {}) (fuel := 300) (d := 60) (args := []) (xs := []) (ι := io []) (pc := []) w plain known_none (fun _ call hC => anyOk (by kernel_rfl) plain hC) ranKnown rfl (fun _ h => by cases h)

abbrev ge (a : IE) (n : Int) : BE := .cmp .geq a (.lit n)
abbrev le (a : IE) (n : Int) : BE := .cmp .leq a (.lit n)
abbrev lt (a : IE) (n : Int) : BE := .cmp .lss a (.lit n)
abbrev gt (a : IE) (n : Int) : BE := .cmp .gtr a (.lit n)
abbrev v (i : Nat) : IE := .fv i
abbrev t (i : Nat) : TX := .fv i
abbrev r (i : Nat) : RX := .row i
abbrev leI (a b : IE) : BE := .not (.cmp .lss b a)
abbrev ltI (a b : IE) : BE := .cmp .lss a b
abbrev eqI (a b : IE) : BE := .cmp .eql a b
abbrev neI (a b : IE) : BE := .not (.cmp .eql a b)
abbrev rule (find pre : List BE) (con : BE) : Rule := { pat := true, find, pre, con }
abbrev lrn (trig : IE) (find pre : List BE) (con : BE) : Rule := { pat := true, find, pre, con, trig := some trig }
abbrev bad (l : List Nat) : List (Nat × AV) := l.map fun i => (i, AV.poison)
abbrev upto (a b : Nat) : List Nat := (List.range (b + 1 - a)).map (· + a)
abbrev inI (i n : IE) : List BE := [ge i 0, ltI i n]
abbrev inU (x : IE) : List BE := [ge x 0, le x 18446744073709551615]
/-- A restriction of the row 'k'. -/
abbrev w (k : Nat) (i : IE) : IE := .wrap .i64 (.cell k i)
/-- So far they meet in 'm'; all so far let 't' in; those so far may be; what all come to. -/
abbrev metP (i m : IE) (x : RX) : BE := .usr 1 [i, m] [] [x]
abbrev letP (i t : IE) (x : RX) : BE := .usr 2 [i, t] [] [x]
abbrev mayP (i : IE) (x : RX) : BE := .usr 4 [i] [] [x]
abbrev isP (c n : IE) (x : RX) : BE := .usr 5 [c, n] [] [x]
/-- That restriction lets that type in. -/
abbrev alP (x t : IE) : BE := .usr 6 [x, t] [] []
abbrev n1 : IE := v 1
abbrev l0 : RX := r 0
abbrev is0 (a : IE) : BE := eqI a (.lit 0)
abbrev no0 (a : IE) : BE := neI a (.lit 0)
def upTo (key : Nat × Nat × Nat) (s : Nat) (n : IE) (tm : Nat → List (Nat × AV)) (bads : List Nat) (inv : IE → List BE) : Ann :=
  { key := key, heads := [{ nf := 1, src := [.int s], bsrc := [], tm := fun m _ => (s, .int .i64 (v m)) :: (tm m ++ bad bads), bl := fun _ _ => [], nb := fun _ _ => [], inv := fun m _ => [ge (v m) 0, leI (v m) n] ++ inv (v m), ms := fun m _ => .dif n (v m), keep := some 8 }] }
def meetAnn : Ann :=
  { key := (21, 3, 1), heads := [{ nf := 2, src := [.int 9, .int 4], bsrc := [], tm := fun m _ => (9, .int .i64 (v m)) :: (4, .int .i64 (v (m + 1))) :: bad (6 :: upto 10 19), bl := fun _ _ => [], nb := fun _ _ => [], inv := fun m _ => [ge (v m) 0, leI (v m) n1, metP (v m) (v (m + 1)) l0, mayP (v m) l0], ms := fun m _ => .dif n1 (v m) }] }
def firstAnn : Ann := upTo (55, 2, 4) 4 n1 (fun _ => []) (upto 10 21) fun i => [mayP i l0]
def letAnn (t : Int) (b : Bool) : Ann := upTo (55, 15, 4) 9 n1 (fun m => [(6, .bool (.lit b)), (7, .int .i64 (.lit t)), (8, .bool (letP (v m) (.lit t) l0))]) (upto 30 44) fun _ => []
def lastAnn : Ann := upTo (49, 9, 4) 8 n1 (fun _ => []) (upto 33 47) fun _ => []
def may1 : List Rule := [
  lrn (w 0 (v 1)) [mayP (v 2) (r 0)] [ge (v 1) 0, ltI (v 1) (v 2)] (ge (w 0 (v 1)) 0),
  lrn (w 0 (v 1)) [mayP (v 2) (r 0)] [ge (v 1) 0, ltI (v 1) (v 2)] (le (w 0 (v 1)) 5),
  rule [] [] (mayP (.lit 0) (r 0)),
  rule [mayP (v 0) (r 1)] [ge (v 0) 0, ge (w 1 (v 0)) 0, le (w 1 (v 0)) 5] (mayP (.off (v 0) (.lit 1)) (r 1)),
  rule [mayP (v 0) (r 1), .not (ge (w 1 (v 2)) 0)] [ge (v 2) 0, ltI (v 2) (v 0)] (.lit false),
  rule [mayP (v 0) (r 1), .not (le (w 1 (v 2)) 5)] [ge (v 2) 0, ltI (v 2) (v 0)] (.lit false) ]
def metRules : List Rule := [
  rule [] [] (metP (.lit 0) (.lit 0) (r 0)),
  rule [metP (v 0) (v 1) (r 2)] [ge (v 0) 0, is0 (v 1)] (metP (.off (v 0) (.lit 1)) (w 2 (v 0)) (r 2)),
  rule [metP (v 0) (v 1) (r 2)] [ge (v 0) 0, no0 (v 1), is0 (w 2 (v 0))] (metP (.off (v 0) (.lit 1)) (v 1) (r 2)),
  rule [metP (v 0) (v 1) (r 2)] [ge (v 0) 0, no0 (v 1), eqI (v 1) (w 2 (v 0))] (metP (.off (v 0) (.lit 1)) (v 1) (r 2)),
  rule [metP (v 0) (v 1) (r 2)] [ge (v 0) 0, no0 (v 1), no0 (w 2 (v 0)), neI (v 1) (w 2 (v 0))] (metP (.off (v 0) (.lit 1)) (.lit 5) (r 2)),
  rule [isP (v 3) (v 4) (r 2), metP (v 0) (v 1) (r 2), mayP (v 0) (r 2)] [leI (v 0) (v 4), leI (v 4) (v 0), ge (v 0) 0] (.not (.cmp .neq (v 1) (v 3))) ]
def letRules : List Rule := [
  rule [] [] (letP (.lit 0) (v 0) (r 1)),
  rule [.not (letP (v 0) (v 1) (r 2))] [ge (v 0) 0] (.not (letP (.off (v 0) (.lit 1)) (v 1) (r 2))),
  rule [letP (v 0) (v 1) (r 2)] [ge (v 0) 0, ge (v 1) 1, le (v 1) 4] (.same (letP (.off (v 0) (.lit 1)) (v 1) (r 2)) (alP (w 2 (v 0)) (v 1))),
  rule [isP (v 3) (v 4) (r 2)] [leI (v 0) (v 4), is0 (v 3), ge (v 1) 1, le (v 1) 4] (letP (v 0) (v 1) (r 2)),
  rule [isP (v 3) (v 4) (r 2)] [leI (v 0) (v 4), eqI (v 3) (v 1), ge (v 1) 1, le (v 1) 4] (letP (v 0) (v 1) (r 2)),
  rule [isP (v 3) (v 4) (r 2)] [leI (v 4) (v 0), no0 (v 3), neI (v 3) (v 1), ge (v 1) 1, le (v 1) 4] (.not (letP (v 0) (v 1) (r 2))),
  rule [isP (v 3) (v 4) (r 2)] [ge (v 0) 0, ltI (v 0) (v 4), is0 (v 3), ge (v 1) 1, le (v 1) 4] (.same (letP (.off (v 0) (.lit 1)) (v 1) (r 2)) (alP (w 2 (v 0)) (v 1))),
  rule [isP (v 3) (v 4) (r 2)] [ge (v 0) 0, ltI (v 0) (v 4), eqI (v 3) (v 1), ge (v 1) 1, le (v 1) 4] (.same (letP (.off (v 0) (.lit 1)) (v 1) (r 2)) (alP (w 2 (v 0)) (v 1))) ]
def alRules : List Rule := [
  rule [] [lt (v 1) 1] (.not (alP (v 0) (v 1))),
  rule [] [gt (v 1) 4] (.not (alP (v 0) (v 1))),
  rule [] [ge (v 1) 1, le (v 1) 4, is0 (v 0)] (alP (v 0) (v 1)),
  rule [] [ge (v 1) 1, le (v 1) 4, eqI (v 0) (v 1)] (alP (v 0) (v 1)),
  rule [] [no0 (v 0), neI (v 0) (v 1)] (.not (alP (v 0) (v 1))) ]
def sameRules : List Rule := [
  rule [isP (v 3) (v 4) (r 2)] [leI (v 4) (v 0), leI (v 0) (v 4), ge (v 1) 1, le (v 1) 4, is0 (v 3), is0 (v 5)] (.same (alP (v 5) (v 1)) (letP (v 0) (v 1) (r 2))),
  rule [isP (v 3) (v 4) (r 2)] [leI (v 4) (v 0), leI (v 0) (v 4), ge (v 1) 1, le (v 1) 4, is0 (v 3), eqI (v 5) (v 1)] (.same (alP (v 5) (v 1)) (letP (v 0) (v 1) (r 2))),
  rule [isP (v 3) (v 4) (r 2)] [leI (v 4) (v 0), leI (v 0) (v 4), ge (v 1) 1, le (v 1) 4, eqI (v 3) (v 1), is0 (v 5)] (.same (alP (v 5) (v 1)) (letP (v 0) (v 1) (r 2))),
  rule [isP (v 3) (v 4) (r 2)] [leI (v 4) (v 0), leI (v 0) (v 4), ge (v 1) 1, le (v 1) 4, eqI (v 3) (v 1), eqI (v 5) (v 1)] (.same (alP (v 5) (v 1)) (letP (v 0) (v 1) (r 2))),
  rule [isP (v 3) (v 4) (r 2)] [leI (v 4) (v 0), leI (v 0) (v 4), ge (v 1) 1, le (v 1) 4, no0 (v 3), neI (v 3) (v 1), no0 (v 5), neI (v 5) (v 1)] (.same (alP (v 5) (v 1)) (letP (v 0) (v 1) (r 2))),
  rule [isP (v 3) (v 4) (r 2)] [leI (v 4) (v 0), leI (v 0) (v 4), ge (v 1) 1, le (v 1) 4, is0 (v 3), no0 (v 5), neI (v 5) (v 1)] (.not (.same (alP (v 5) (v 1)) (letP (v 0) (v 1) (r 2)))),
  rule [isP (v 3) (v 4) (r 2)] [leI (v 4) (v 0), leI (v 0) (v 4), ge (v 1) 1, le (v 1) 4, eqI (v 3) (v 1), no0 (v 5), neI (v 5) (v 1)] (.not (.same (alP (v 5) (v 1)) (letP (v 0) (v 1) (r 2)))),
  rule [isP (v 3) (v 4) (r 2)] [leI (v 4) (v 0), leI (v 0) (v 4), ge (v 1) 1, le (v 1) 4, no0 (v 3), neI (v 3) (v 1), is0 (v 5)] (.not (.same (alP (v 5) (v 1)) (letP (v 0) (v 1) (r 2)))),
  rule [isP (v 3) (v 4) (r 2)] [leI (v 4) (v 0), leI (v 0) (v 4), ge (v 1) 1, le (v 1) 4, no0 (v 3), neI (v 3) (v 1), eqI (v 5) (v 1)] (.not (.same (alP (v 5) (v 1)) (letP (v 0) (v 1) (r 2)))) ]
def fAl : Fs := { f := 14, shs := [.leaf (.int .i64), .leaf (.int .i64)], res := some (alP (v 0) (v 1)) }
def rules : List Rule := may1 ++ metRules ++ letRules ++ alRules ++ sameRules
def cfgA : Cfg := { rules }
def cfg (fl : List Bool) : Cfg := match fl with | [false] => { rules, anns := [meetAnn, firstAnn, lastAnn, letAnn 1 true, letAnn 2 true, letAnn 2 false, letAnn 3 true, letAnn 3 false, letAnn 4 true, letAnn 4 false] } | _ => { rules := alRules }
abbrev some1 : BE := ge n1 1
def cs (fl : List Bool) : List (List BE) :=
  match fl with
  | [false] => [[some1, isP (.lit 0) n1 l0], [some1, isP (.lit 1) n1 l0], [some1, isP (.lit 2) n1 l0], [some1, isP (.lit 3) n1 l0], [some1, isP (.lit 4) n1 l0], [some1, isP (.lit 5) n1 l0], [.not some1, isP (.lit 0) n1 l0]]
  | _ => [[]]
def vl (l : List Value) (j : Nat) : Int := IntKind.i64.wrap (cellInt l[j]?)
def both (a b : Int) : Int := if a = 0 then b else if b = 0 then a else if a = b then a else 5
def fold (l : List Value) : Nat → Int
  | 0 => 0
  | i + 1 => both (fold l i) (vl l i)
/-- What all of the first 'n' come to. -/
def Comes (l : List Value) (c n : Int) : Prop :=
  (c = 0 ∧ ∀ j : Nat, (j : Int) < n → vl l j = 0) ∨ ((1 ≤ c ∧ c ≤ 4) ∧ (∀ j : Nat, (j : Int) < n → vl l j = 0 ∨ vl l j = c) ∧ ∃ j : Nat, (j : Int) < n ∧ vl l j = c) ∨
    (c = 5 ∧ ∀ t : Int, 1 ≤ t → t ≤ 4 → ∃ j : Nat, (j : Int) < n ∧ vl l j ≠ 0 ∧ vl l j ≠ t)
def prd : Nat → List Int → List (List UInt8) → List (List Value) → Prop
  | 1, [i, m], [], [l] => fold l i.toNat = m
  | 2, [i, t], [], [l] => ∀ j : Nat, (j : Int) < i → vl l j = 0 ∨ vl l j = t
  | 4, [i], [], [l] => ∀ j : Nat, (j : Int) < i → 0 ≤ vl l j ∧ vl l j ≤ 5
  | 5, [c, n], [], [l] => Comes l c n
  | 6, [x, t], [], [] => 1 ≤ t ∧ t ≤ 4 ∧ (x = 0 ∨ x = t)
  | _, _, _, _ => False

theorem f_in {l : List Value} {t : Int} : ∀ {i : Nat}, (∀ j : Nat, j < i → vl l j = 0 ∨ vl l j = t) → fold l i = 0 ∨ fold l i = t
  | 0, _ => Or.inl rfl
  | i + 1, h => by
    have ih := f_in (i := i) fun j hj => h j (by omega)
    have hi := h i (by omega)
    simp only [fold, both]
    split
    · exact hi
    · split
      · exact ih
      · split
        · exact ih
        · omega
theorem f_all {l : List Value} : ∀ {i : Nat}, fold l i = 5 ∨ ∀ j : Nat, j < i → vl l j = 0 ∨ vl l j = fold l i
  | 0 => Or.inr fun j hj => by omega
  | i + 1 => by
    have ih := f_all (l := l) (i := i)
    simp only [fold, both]
    split
    · rename_i h0
      refine Or.inr fun j hj => ?_
      by_cases hji : j = i
      · subst hji; exact Or.inr rfl
      · rcases ih with ih | ih
        · omega
        · have := ih j (by omega); rw [h0] at this; omega
    · split
      · rename_i h1
        rcases ih with ih | ih
        · exact Or.inl ih
        · refine Or.inr fun j hj => ?_
          by_cases hji : j = i
          · subst hji; exact Or.inl h1
          · exact ih j (by omega)
      · split
        · rename_i h2
          rcases ih with ih | ih
          · exact Or.inl ih
          · refine Or.inr fun j hj => ?_
            by_cases hji : j = i
            · subst hji; exact Or.inr h2.symm
            · exact ih j (by omega)
        · exact Or.inl rfl
theorem f_range {l : List Value} : ∀ {i : Nat}, (∀ j : Nat, j < i → 0 ≤ vl l j ∧ vl l j ≤ 5) → 0 ≤ fold l i ∧ fold l i ≤ 5
  | 0, _ => by simp [fold]
  | i + 1, h => by
    have ih := f_range (i := i) fun j hj => h j (by omega)
    have hi := h i (by omega)
    simp only [fold, both]
    split
    · exact hi
    · split
      · exact ih
      · split
        · exact ih
        · omega
theorem comes_f {l : List Value} {c n : Int} (h : Comes l c n) (hv : ∀ j : Nat, (j : Int) < n → 0 ≤ vl l j ∧ vl l j ≤ 5) (hn : 0 ≤ n) : fold l n.toNat = c := by
  have hlt : ∀ j : Nat, j < n.toNat → (j : Int) < n := fun j hj => by omega
  rcases h with ⟨rfl, h⟩ | ⟨h1, h, j, hj, hjc⟩ | ⟨rfl, h⟩
  · have := f_in (l := l) (t := 0) (i := n.toNat) fun j hj => Or.inl (h j (hlt j hj))
    omega
  · have a := f_in (l := l) (t := c) (i := n.toNat) fun j hj => h j (hlt j hj)
    rcases f_all (l := l) (i := n.toNat) with b | b
    · omega
    · have := b j (by omega)
      omega
  · have r := f_range (l := l) (i := n.toNat) fun j hj => hv j (hlt j hj)
    rcases f_all (l := l) (i := n.toNat) with b | b
    · exact b
    · by_cases h5 : fold l n.toNat = 5
      · exact h5
      · by_cases h0 : fold l n.toNat = 0
        · obtain ⟨j, hj, a1, a2⟩ := h 1 (by omega) (by omega)
          have := b j (by omega)
          omega
        · obtain ⟨j, hj, a1, a2⟩ := h (fold l n.toNat) (by omega) (by omega)
          have := b j (by omega)
          omega
theorem comes_ex (l : List Value) (n : Int) : ∃ c : Int, (0 ≤ c ∧ c ≤ 5) ∧ Comes l c n := by
  by_cases h0 : ∀ j : Nat, (j : Int) < n → vl l j = 0
  · exact ⟨0, by omega, Or.inl ⟨rfl, h0⟩⟩
  · by_cases h1 : ∃ t : Int, (1 ≤ t ∧ t ≤ 4) ∧ ∀ j : Nat, (j : Int) < n → vl l j = 0 ∨ vl l j = t
    · obtain ⟨t, ht, h1⟩ := h1
      refine ⟨t, by omega, Or.inr (Or.inl ⟨ht, h1, ?_⟩)⟩
      obtain ⟨j, hj⟩ := Classical.not_forall.1 h0
      have hjn : (j : Int) < n := Classical.byContradiction fun e => hj fun e' => absurd e' e
      have hjv : vl l j ≠ 0 := fun e => hj fun _ => e
      exact ⟨j, hjn, (h1 j hjn).resolve_left hjv⟩
    · refine ⟨5, by omega, Or.inr (Or.inr ⟨rfl, fun t t1 t2 => Classical.byContradiction fun e => h1 ⟨t, ⟨t1, t2⟩, fun j hj => Classical.byContradiction fun e' => e ⟨j, hj, ?_, ?_⟩⟩⟩)⟩
      · exact fun a => e' (Or.inl a)
      · exact fun a => e' (Or.inr a)
theorem comes_let {l : List Value} {c n t i : Int} (h : Comes l c n) (hc : c = 0 ∨ c = t) (ht : 1 ≤ t ∧ t ≤ 4) (hi : i ≤ n) : ∀ j : Nat, (j : Int) < i → vl l j = 0 ∨ vl l j = t := by
  intro j hj
  rcases h with ⟨rfl, h⟩ | ⟨h1, h, _⟩ | ⟨rfl, _⟩
  · exact Or.inl (h j (by omega))
  · have := h j (by omega)
    omega
  · omega
theorem comes_not {l : List Value} {c n t i : Int} (h : Comes l c n) (hc : ¬ (c = 0 ∨ c = t)) (ht : 1 ≤ t ∧ t ≤ 4) (hi : n ≤ i) : ¬ ∀ j : Nat, (j : Int) < i → vl l j = 0 ∨ vl l j = t := by
  intro hall
  rcases h with ⟨rfl, _⟩ | ⟨h1, _, j, hj, hjc⟩ | ⟨rfl, h⟩
  · omega
  · have := hall j (by omega)
    omega
  · obtain ⟨j, hj, a1, a2⟩ := h t ht.1 ht.2
    have := hall j (by omega)
    omega
section
variable {ι : Unk} (hp : ι.prd = prd)
include hp
theorem d_met {i m : IE} {x : RX} : (metP i m x).den ι = true ↔ fold (x.den ι) (i.den ι).toNat = m.den ι := n_usr hp
theorem d_let {i t : IE} {x : RX} : (letP i t x).den ι = true ↔ ∀ j : Nat, (j : Int) < i.den ι → vl (x.den ι) j = 0 ∨ vl (x.den ι) j = t.den ι := n_usr hp
theorem d_may {i : IE} {x : RX} : (mayP i x).den ι = true ↔ ∀ j : Nat, (j : Int) < i.den ι → 0 ≤ vl (x.den ι) j ∧ vl (x.den ι) j ≤ 5 := n_usr hp
theorem d_is {c n : IE} {x : RX} : (isP c n x).den ι = true ↔ Comes (x.den ι) (c.den ι) (n.den ι) := n_usr hp
theorem d_al {x t : IE} : (alP x t).den ι = true ↔ 1 ≤ t.den ι ∧ t.den ι ≤ 4 ∧ (x.den ι = 0 ∨ x.den ι = t.den ι) := n_usr hp
end
theorem n_w {ι : Unk} {k : Nat} {i : IE} : (w k i).den ι = vl (ι.fr k) (i.den ι).toNat := rfl
theorem n_r {ι : Unk} {k : Nat} : (r k).den ι = ι.fr k := rfl
theorem may1_ok (ι : Unk) (hp : ι.prd = prd) : ∀ r ∈ may1, ROk ι r := by
  refine all_cons ?_ (all_cons ?_ (all_cons ?_ (all_cons ?_ (all_cons ?_ (all_cons ?_ all_nil))))) <;> intro hf h <;>
    simp only [List.mem_cons, List.not_mem_nil, or_false, forall_eq_or_imp, forall_eq, n_not, n_geq, n_leq, n_lss, n_n, n_w, d_may hp, n_r] at hf h
  · have := hf ((v 1).den ι).toNat (by omega)
    rw [n_geq, n_n, n_w]; omega
  · have := hf ((v 1).den ι).toNat (by omega)
    rw [n_leq, n_n, n_w]; omega
  · refine (d_may hp).2 fun j hj => ?_
    rw [n_n] at hj; omega
  · refine (d_may hp).2 fun j hj => ?_
    rw [n_off, n_n] at hj
    by_cases e : (j : Int) < (v 0).den ι
    · exact hf j e
    · rw [show j = ((v 0).den ι).toNat by omega]
      exact ⟨h.2.1, h.2.2⟩
  · have := hf.1 ((v 2).den ι).toNat (by omega)
    exact absurd this.1 hf.2
  · have := hf.1 ((v 2).den ι).toNat (by omega)
    exact absurd this.2 hf.2
theorem met_suc {ι : Unk} (hp : ι.prd = prd) {i m m' : IE} {k : Nat} (h0 : 0 ≤ i.den ι) (h : fold (ι.fr k) (i.den ι).toNat = m.den ι) (he : m'.den ι = both (m.den ι) (vl (ι.fr k) (i.den ι).toNat)) : (metP (.off i (.lit 1)) m' (r k)).den ι = true := by
  refine (d_met hp).2 ?_
  rw [n_off, n_n, n_r, show (i.den ι + 1).toNat = (i.den ι).toNat + 1 by omega, he, ← h]
  rfl
theorem metRules_ok (ι : Unk) (hp : ι.prd = prd) : ∀ r ∈ metRules, ROk ι r := by
  refine all_cons ?_ (all_cons ?_ (all_cons ?_ (all_cons ?_ (all_cons ?_ (all_cons ?_ all_nil))))) <;> intro hf h <;>
    simp only [List.mem_cons, List.not_mem_nil, or_false, forall_eq_or_imp, forall_eq, n_not, n_geq, n_eql, n_lss, n_n, n_w, d_may hp, d_met hp, d_is hp, n_r] at hf h
  · exact (d_met hp).2 rfl
  · refine met_suc hp h.1 hf ?_
    rw [n_w]; unfold both; rw [if_pos h.2]
  · refine met_suc hp h.1 hf ?_
    unfold both; rw [if_neg h.2.1, if_pos h.2.2]
  · refine met_suc hp h.1 hf ?_
    unfold both; rw [if_neg h.2.1]
    split
    · rfl
    · rw [if_pos h.2.2]
  · refine met_suc hp h.1 hf ?_
    unfold both; rw [if_neg h.2.1, if_neg h.2.2.1, if_neg h.2.2.2]; rfl
  · obtain ⟨f1, f2, f3⟩ := hf
    obtain ⟨g1, g2, g3⟩ := h
    rw [n_not, n_neq, Decidable.not_not]
    have e : (v 0).den ι = (v 4).den ι := by omega
    rw [e] at f2 f3
    rw [← f2]
    exact comes_f f1 f3 (by omega)
theorem let_iff {ι : Unk} (hp : ι.prd = prd) {i t : IE} {k : Nat} (h0 : 0 ≤ i.den ι) : (letP (.off i (.lit 1)) t (r k)).den ι = true ↔ (∀ j : Nat, (j : Int) < i.den ι → vl (ι.fr k) j = 0 ∨ vl (ι.fr k) j = t.den ι) ∧ (vl (ι.fr k) (i.den ι).toNat = 0 ∨ vl (ι.fr k) (i.den ι).toNat = t.den ι) := by
  rw [d_let hp, n_off, n_n, n_r]
  constructor
  · intro h
    exact ⟨fun j hj => h j (by omega), h (i.den ι).toNat (by omega)⟩
  · rintro ⟨h, hw⟩ j hj
    by_cases e : (j : Int) < i.den ι
    · exact h j e
    · rw [show j = (i.den ι).toNat by omega]
      exact hw
theorem letRules_ok (ι : Unk) (hp : ι.prd = prd) : ∀ r ∈ letRules, ROk ι r := by
  refine all_cons ?_ (all_cons ?_ (all_cons ?_ (all_cons ?_ (all_cons ?_ (all_cons ?_ (all_cons ?_ (all_cons ?_ all_nil))))))) <;> intro hf h <;>
    simp only [List.mem_cons, List.not_mem_nil, or_false, forall_eq_or_imp, forall_eq, n_not, n_geq, n_leq, n_eql, n_lss, n_n, d_let hp, d_is hp, n_r] at hf h
  · refine (d_let hp).2 fun j hj => ?_
    rw [n_n] at hj; omega
  · exact n_not.2 fun e => hf ((let_iff hp h).1 e).1
  · refine n_same.2 ?_
    rw [let_iff hp h.1, d_al hp, n_w]
    exact ⟨fun e => ⟨h.2.1, h.2.2, e.2⟩, fun e => ⟨hf, e.2.2⟩⟩
  · exact (d_let hp).2 (comes_let hf (Or.inl h.2.1) ⟨h.2.2.1, h.2.2.2⟩ (by omega))
  · exact (d_let hp).2 (comes_let hf (Or.inr h.2.1) ⟨h.2.2.1, h.2.2.2⟩ (by omega))
  · refine n_not.2 fun e => comes_not hf (fun o => ?_) ⟨h.2.2.2.1, h.2.2.2.2⟩ (by omega) ((d_let hp).1 e)
    rcases o with o | o
    · exact h.2.1 o
    · exact h.2.2.1 o
  · have hl := comes_let hf (Or.inl h.2.2.1) ⟨h.2.2.2.1, h.2.2.2.2⟩ (Int.le_refl _)
    have hi := hl ((v 0).den ι).toNat (by omega)
    refine n_same.2 ⟨fun _ => (d_al hp).2 ⟨h.2.2.2.1, h.2.2.2.2, hi⟩, fun _ => (let_iff hp h.1).2 ⟨fun j hj => hl j (by omega), hi⟩⟩
  · have hl := comes_let hf (Or.inr h.2.2.1) ⟨h.2.2.2.1, h.2.2.2.2⟩ (Int.le_refl _)
    have hi := hl ((v 0).den ι).toNat (by omega)
    refine n_same.2 ⟨fun _ => (d_al hp).2 ⟨h.2.2.2.1, h.2.2.2.2, hi⟩, fun _ => (let_iff hp h.1).2 ⟨fun j hj => hl j (by omega), hi⟩⟩
theorem alRules_ok (ι : Unk) (hp : ι.prd = prd) : ∀ r ∈ alRules, ROk ι r := by
  refine all_cons ?_ (all_cons ?_ (all_cons ?_ (all_cons ?_ (all_cons ?_ all_nil)))) <;> intro _ h <;>
    simp only [List.mem_cons, List.not_mem_nil, or_false, forall_eq_or_imp, forall_eq, n_not, n_geq, n_leq, n_eql, n_lss, n_gtr, n_n] at h
  · exact n_not.2 fun e => by have := (d_al hp).1 e; omega
  · exact n_not.2 fun e => by have := (d_al hp).1 e; omega
  · exact (d_al hp).2 ⟨h.1, h.2.1, Or.inl h.2.2⟩
  · exact (d_al hp).2 ⟨h.1, h.2.1, Or.inr h.2.2⟩
  · exact n_not.2 fun e => by
      rcases ((d_al hp).1 e).2.2 with o | o
      · exact h.1 o
      · exact h.2 o
theorem sameRules_ok (ι : Unk) (hp : ι.prd = prd) : ∀ r ∈ sameRules, ROk ι r := by
  refine all_cons ?_ (all_cons ?_ (all_cons ?_ (all_cons ?_ (all_cons ?_ (all_cons ?_ (all_cons ?_ (all_cons ?_ (all_cons ?_ all_nil)))))))) <;> intro hf h <;>
    simp only [List.mem_cons, List.not_mem_nil, or_false, forall_eq_or_imp, forall_eq, n_not, n_geq, n_leq, n_eql, n_lss, n_n, d_is hp, n_r] at hf h
  · have hl := comes_let hf (Or.inl h.2.2.2.2.1) ⟨h.2.2.1, h.2.2.2.1⟩ (show (v 0).den ι ≤ (v 4).den ι by omega)
    exact n_same.2 ⟨fun _ => (d_let hp).2 hl, fun _ => (d_al hp).2 ⟨h.2.2.1, h.2.2.2.1, Or.inl h.2.2.2.2.2⟩⟩
  · have hl := comes_let hf (Or.inl h.2.2.2.2.1) ⟨h.2.2.1, h.2.2.2.1⟩ (show (v 0).den ι ≤ (v 4).den ι by omega)
    exact n_same.2 ⟨fun _ => (d_let hp).2 hl, fun _ => (d_al hp).2 ⟨h.2.2.1, h.2.2.2.1, Or.inr h.2.2.2.2.2⟩⟩
  · have hl := comes_let hf (Or.inr h.2.2.2.2.1) ⟨h.2.2.1, h.2.2.2.1⟩ (show (v 0).den ι ≤ (v 4).den ι by omega)
    exact n_same.2 ⟨fun _ => (d_let hp).2 hl, fun _ => (d_al hp).2 ⟨h.2.2.1, h.2.2.2.1, Or.inl h.2.2.2.2.2⟩⟩
  · have hl := comes_let hf (Or.inr h.2.2.2.2.1) ⟨h.2.2.1, h.2.2.2.1⟩ (show (v 0).den ι ≤ (v 4).den ι by omega)
    exact n_same.2 ⟨fun _ => (d_let hp).2 hl, fun _ => (d_al hp).2 ⟨h.2.2.1, h.2.2.2.1, Or.inr h.2.2.2.2.2⟩⟩
  · have hl := comes_not hf (fun o => o.elim h.2.2.2.2.1 h.2.2.2.2.2.1) ⟨h.2.2.1, h.2.2.2.1⟩ (show (v 4).den ι ≤ (v 0).den ι by omega)
    exact n_same.2 ⟨fun e => (((d_al hp).1 e).2.2.elim h.2.2.2.2.2.2.1 h.2.2.2.2.2.2.2).elim, fun e => (hl ((d_let hp).1 e)).elim⟩
  · have hl := comes_let hf (Or.inl h.2.2.2.2.1) ⟨h.2.2.1, h.2.2.2.1⟩ (show (v 0).den ι ≤ (v 4).den ι by omega)
    exact n_not.2 fun e => (((d_al hp).1 ((n_same.1 e).2 ((d_let hp).2 hl))).2.2.elim h.2.2.2.2.2.1 h.2.2.2.2.2.2)
  · have hl := comes_let hf (Or.inr h.2.2.2.2.1) ⟨h.2.2.1, h.2.2.2.1⟩ (show (v 0).den ι ≤ (v 4).den ι by omega)
    exact n_not.2 fun e => (((d_al hp).1 ((n_same.1 e).2 ((d_let hp).2 hl))).2.2.elim h.2.2.2.2.2.1 h.2.2.2.2.2.2)
  · have hl := comes_not hf (fun o => o.elim h.2.2.2.2.1 h.2.2.2.2.2.1) ⟨h.2.2.1, h.2.2.2.1⟩ (show (v 4).den ι ≤ (v 0).den ι by omega)
    exact n_not.2 fun e => hl ((d_let hp).1 ((n_same.1 e).1 ((d_al hp).2 ⟨h.2.2.1, h.2.2.2.1, Or.inl h.2.2.2.2.2.2⟩)))
  · have hl := comes_not hf (fun o => o.elim h.2.2.2.2.1 h.2.2.2.2.2.1) ⟨h.2.2.1, h.2.2.2.1⟩ (show (v 4).den ι ≤ (v 0).den ι by omega)
    exact n_not.2 fun e => hl ((d_let hp).1 ((n_same.1 e).1 ((d_al hp).2 ⟨h.2.2.1, h.2.2.2.1, Or.inr h.2.2.2.2.2.2⟩)))
theorem rules_ok (ι : Unk) (hp : ι.prd = prd) : ∀ r ∈ rules, ROk ι r := all_append (all_append (all_append (all_append (may1_ok ι hp) (metRules_ok ι hp)) (letRules_ok ι hp)) (alRules_ok ι hp)) (sameRules_ok ι hp)
theorem cfg_ok (fl : List Bool) (ι : Unk) (hp : ι.prd = prd) : RulesOk (cfg fl).rules ι := by
  unfold cfg
  split
  · exact rules_of rules_ok ι hp
  · exact rules_of alRules_ok ι hp
theorem cs_ne (fl : List Bool) : cs fl ≠ [] := by
  unfold cs
  split <;> exact List.cons_ne_nil _ _
theorem cs_ok (fl : List Bool) (ι : Unk) (hp : ι.prd = prd) : ∃ fs ∈ cs fl, ∀ b ∈ fs, b.den ι = true := by
  unfold cs
  split
  · by_cases hn : 1 ≤ n1.den ι
    · have h1 : some1.den ι = true := n_geq.2 hn
      obtain ⟨c, hc, h⟩ := comes_ex (ι.fr 0) (n1.den ι)
      have h2 : (isP (.lit c) n1 l0).den ι = true := (d_is hp).2 h
      have : c = 0 ∨ c = 1 ∨ c = 2 ∨ c = 3 ∨ c = 4 ∨ c = 5 := by omega
      rcases this with rfl | rfl | rfl | rfl | rfl | rfl <;> exact ⟨_, by simp only [List.mem_cons, true_or, or_true], all_cons h1 (all_cons h2 all_nil)⟩
    · have h1 : (BE.not some1).den ι = true := n_not.2 fun e => hn (n_geq.1 e)
      have h2 : (isP (.lit 0) n1 l0).den ι = true := (d_is hp).2 (Or.inl ⟨rfl, fun j hj => by omega⟩)
      exact ⟨_, by simp only [List.mem_cons, true_or, or_true], all_cons h1 (all_cons h2 all_nil)⟩
  · exact ⟨[], List.mem_cons_self, fun b hb => by cases hb⟩
-- CASE RestrictMeets F: [some1, isP (.lit 0) n1 l0]
-- CASE RestrictMeets F: [some1, isP (.lit 1) n1 l0]
-- CASE RestrictMeets F: [some1, isP (.lit 2) n1 l0]
-- CASE RestrictMeets F: [some1, isP (.lit 3) n1 l0]
-- CASE RestrictMeets F: [some1, isP (.lit 4) n1 l0]
-- CASE RestrictMeets F: [some1, isP (.lit 5) n1 l0]
-- CASE RestrictMeets F: [.not some1, isP (.lit 0) n1 l0]
-- CASE RestrictMeets T: []

def kn_fAl : Kn := { cons := [] }
theorem known_fAl : Known Try.prog kn_fAl ⟨0, prd⟩ := ⟨fun f hf => (by cases hf), all_nil⟩
set_option maxRecDepth 100000 in
theorem ran_fAl_0 : fnRun Try.prog true kn_fAl 300 60 fAl cfgA [] = true := by kernel_rfl
theorem ok_fAl : FnOk Try.prog prd fAl := fn_ok (dr := true) (kn := kn_fAl) (fuel := 300) (d := 60) (cfg := cfgA) plain known_fAl (fun _ call hC => anyOk (by kernel_rfl) plain hC) (rules_of rules_ok) (cs := [[]]) (fun _ _ _ _ => cov_one trivial) (all_cons ran_fAl_0 all_nil)

def lawCfg : List Bool → Cfg := cfg
def knLaw : Kn := { kn := some 5, cons := [fAl.con] }
theorem knows : Known Try.prog knLaw ⟨0, prd⟩ := ⟨knows1, (all_cons (con_ok ok_fAl) all_nil)⟩

theorem lawRules (fl : List Bool) (ι : Unk) (hp : ι.prd = prd) : RulesOk (lawCfg fl).rules ι := (cfg_ok) fl ι hp

set_option maxRecDepth 100000 in
theorem ranT0 : runFl Try.prog true knLaw 300 60 3 [22] [true] (lawCfg [true]) [] = true := by kernel_rfl

theorem okT : ∀ fs ∈ cs [true], runFl Try.prog true knLaw 300 60 3 [22] [true] (lawCfg [true]) fs = true := by
  intro fs h
  simp only [cs, List.mem_cons, List.not_mem_nil, or_false] at h
  rcases h with rfl
  · exact ranT0

set_option maxRecDepth 100000 in
theorem ranF0 : runFl Try.prog true knLaw 300 60 3 [22] [false] (lawCfg [false]) [some1, isP (.lit 0) n1 l0] = true := by kernel_rfl

set_option maxRecDepth 100000 in
theorem ranF1 : runFl Try.prog true knLaw 300 60 3 [22] [false] (lawCfg [false]) [some1, isP (.lit 1) n1 l0] = true := by kernel_rfl

set_option maxRecDepth 100000 in
theorem ranF2 : runFl Try.prog true knLaw 300 60 3 [22] [false] (lawCfg [false]) [some1, isP (.lit 2) n1 l0] = true := by kernel_rfl

set_option maxRecDepth 100000 in
theorem ranF3 : runFl Try.prog true knLaw 300 60 3 [22] [false] (lawCfg [false]) [some1, isP (.lit 3) n1 l0] = true := by kernel_rfl

set_option maxRecDepth 100000 in
theorem ranF4 : runFl Try.prog true knLaw 300 60 3 [22] [false] (lawCfg [false]) [some1, isP (.lit 4) n1 l0] = true := by kernel_rfl

set_option maxRecDepth 100000 in
theorem ranF5 : runFl Try.prog true knLaw 300 60 3 [22] [false] (lawCfg [false]) [some1, isP (.lit 5) n1 l0] = true := by kernel_rfl

set_option maxRecDepth 100000 in
theorem ranF6 : runFl Try.prog true knLaw 300 60 3 [22] [false] (lawCfg [false]) [.not some1, isP (.lit 0) n1 l0] = true := by kernel_rfl

theorem okF : ∀ fs ∈ cs [false], runFl Try.prog true knLaw 300 60 3 [22] [false] (lawCfg [false]) fs = true := by
  intro fs h
  simp only [cs, List.mem_cons, List.not_mem_nil, or_false] at h
  rcases h with rfl | rfl | rfl | rfl | rfl | rfl | rfl
  · exact ranF0
  · exact ranF1
  · exact ranF2
  · exact ranF3
  · exact ranF4
  · exact ranF5
  · exact ranF6

theorem runs : ∀ fl : List Bool, fl.length = 1 → ∀ fs ∈ cs fl, runFl Try.prog true knLaw 300 60 3 [22] fl (lawCfg fl) fs = true
  | [true], _ => okT
  | [false], _ => okF

set_option maxRecDepth 100000 in
theorem lifted (os : Os) (started : os.Started) (H : Type) (enc : TypeId × Value → H) :
    ReturnsInHanded {} Try.checked os 3 .any (Rows.restrictMeetsSpec.pre6 enc Try.prog Try.f3 Rows.restrictMeetsRow.domain false) (Rows.restrictMeetsSpec.post enc Try.prog Try.f3 false true false false) := by
  refine returnsInHanded_of_change (C := Try.checked) own started (by kernel_rfl) Try.func3
    (ChangeSpec.witness6 (enc := enc) (C := Try.checked) false ⟨#[], #[.slice none 0 0], []⟩ 8 (by kernel_rfl) (by kernel_rfl) (by kernel_rfl) (by kernel_rfl)) ?_
  intro W base args ds gs before hval0 hW hcnd _
  have hval : ∀ (j : Nat) t v, Try.f3.params[j]? = some t → args[j]? = some v → Value.okWide Try.prog W .any base t v := hval0
  have hW' := hW
  obtain ⟨p, q, hA0, hV, hpq, hfz, hnd⟩ := hW
  have hA : DataW.TrodAll enc Try.prog W 0 (fun _ => true) true Try.f3.params.toList args.toList ds p := hA0
  rw [Try.params3] at hA hval
  have hrun := calls_runs (dr := true) (kn := knLaw) (fuel := 300) (d := 60) (f := 3) (ts := [22]) (cfg := lawCfg) (prd := prd) (cs := cs) plain knows (fun _ call hC => anyOk (by kernel_rfl) plain hC) lawRules cs_ok cs_ne (fun fl hfl => runs fl (hfl.trans (by kernel_rfl))) (fun j t v h h' => hval j t v (by simpa using h) (by simpa using h')) hA
  obtain ⟨v0, vs0, d0, ds0, p0, q0, hargs, rfl, hp0, h0, r0⟩ := trodAll_cons hA
  obtain ⟨rfl, rfl, hpz⟩ := trodAll_nil r0
  obtain rfl : args = #[v0] := by cases args; simp_all
  obtain ⟨rfl, rfl⟩ := trodVars_none hV
  refine hrun.mono fun e W' ⟨he, hg⟩ => ?_
  subst he
  exact ⟨_, rfl, post_of_below hW' hg (by kernel_rfl) (by rw [Try.params3]; kernel_rfl) rfl rfl rfl (fun _ _ _ => (trodAll_cons_mk (shut_bool Try.underlying4 _) trodAll_mk0)) (ok_one (by kernel_rfl) rfl (okWide_bool_mk Try.underlying4 _))⟩

theorem over : Rows.restrictMeetsRow.holds Try.pinned (OpenSpec.ofChange Rows.restrictMeetsSpec) :=
  OpenClaim.holds_of_wide 3 Try.f3 rfl rfl rfl rfl rfl rfl rfl ⟨rfl, rfl, rfl, rfl, rfl⟩ rfl rfl rfl rfl rfl (by kernel_rfl) Try.func3 (by kernel_rfl)
    (of_decide_eq_true (by kernel_rfl)) (by unfold Func.isWrapper; first | (rw [if_pos (by decide +kernel)]; kernel_rfl) | (rw [if_neg (by decide +kernel)]; exact ⟨rfl, rfl⟩))
    (fun os started H enc _ => lifted os started H enc)

/-- THE STATEMENT -/
theorem proved : Rows.RestrictMeetsSaid :=
  over
#print axioms proved
end Go.Proofs.Ytjeflpnofdkigaa.restrictMeets
