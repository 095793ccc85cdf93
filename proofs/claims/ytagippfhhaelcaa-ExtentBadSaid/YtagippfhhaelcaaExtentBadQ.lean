/-
  What ExtentBad is proved by.
-/
import Derived.Test.YtagippfhhaelcaaRows
import Derived.Test.YtagippfhhaelcaaSzPf
import Derived.Test.YtagippfhhaelcaaSzMe
import Derived.WalkKit
import Derived.ProofKit
import Derived.OpenShut
namespace Go.Proofs.Ytagippfhhaelcaa.extentBad
open Go.Sx Go.ChangeShapes Go.WideShapes Go.ChangeAt Go.RowKit
set_option linter.unusedVariables false

theorem own : ownKnob Try.prog.godebug = none := by kernel_rfl

theorem plain : plainNames Try.prog = true := by kernel_rfl

set_option maxRecDepth 100000 in
theorem ranKnown : allTrue (runCall Try.prog true {} 300 60 false 19 [] Hp.nil []) = true := by kernel_rfl

theorem knows1 : Known1 Try.prog (some 19) := by
  intro f hf w
  injection hf with hf
  subst hf
  exact calls_true (dr := true) (kn := {}) (fuel := 300) (d := 60) (args := []) (xs := []) (ι := io []) (pc := []) w plain known_none (fun _ call hC => anyOk (by kernel_rfl) plain hC) ranKnown rfl (fun _ h => by cases h)

abbrev ge (a : IE) (n : Int) : BE := .cmp .geq a (.lit n)
abbrev le (a : IE) (n : Int) : BE := .cmp .leq a (.lit n)
abbrev lt (a : IE) (n : Int) : BE := .cmp .lss a (.lit n)
abbrev gt (a : IE) (n : Int) : BE := .cmp .gtr a (.lit n)
abbrev v (i : Nat) : IE := .fv i
abbrev r (i : Nat) : RX := .row i
abbrev leI (a b : IE) : BE := .not (.cmp .lss b a)
abbrev ltI (a b : IE) : BE := .cmp .lss a b
abbrev eqI (a b : IE) : BE := .cmp .eql a b
abbrev rule (find pre : List BE) (con : BE) : Rule := { pat := true, find, pre, con }
abbrev bad (l : List Nat) : List (Nat × AV) := l.map fun i => (i, AV.poison)
abbrev upto (a b : Nat) : List Nat := (List.range (b + 1 - a)).map (· + a)
abbrev nV : IE := .wrap .i64 (.var 0)
def where1 (i : Nat) : BE := if i = 0 then lt nV 1 else if i = 17 then gt nV 16 else eqI nV (.lit i)
def badGrp (i : Nat) : List (List BE) := [[where1 i]]
def csBad (_ : List Bool) : List (List BE) := (List.range 18).flatMap badGrp
abbrev TH : Nat := 41
abbrev TU : Nat := 5
/-- The reader's block, and its bytes. -/
def chHead (e : Int) : Head := { nf := 6, src := [.row 8, .len 8, .rc 8, .row 2103, .len 2103, .rc 2103], bsrc := [8, 2103], tm := fun m nB => (7, .int .i64 (.lit e)) :: (9, .bool (.lit false)) :: (8, .sl nB 2 (.lit 0) (.lit 0) (v (m + 1)) (v (m + 2))) :: bad (upto 19 36), bl := fun m nB => [(11, .cells [some (.ptr 1 0), some (.int .i64 (.lit 0)), some (.int .u64 (.lit 1)), some (.sl (nB + 1) 1 (.lit 0) (.lit 0) (v (m + 4)) (v (m + 5)))] 77 none 11)], nb := fun m _ => [.row (.row m) TH [.int .i64, .int .u64] (v (m + 1)) (v (m + 2)), .row (.row (m + 3)) TU [.int .u8] (v (m + 4)) (v (m + 5))], inv := fun m _ => [ge (v (m + 1)) 1, le (v (m + 1)) (257 + e), leI (v (m + 1)) (v (m + 2)), ge (v (m + 4)) 1, le (v (m + 4)) 256, leI (v (m + 4)) (v (m + 5))] ++ (if e = 0 then [leI (v (m + 1)) (v (m + 4))] else []), ms := fun m _ => if e = 0 then .dif (.lit 257) (v (m + 4)) else .lit 0 }
def chAnn : Ann := { key := (41, 4, 6), heads := [{ nf := 0, src := [], bsrc := [], tm := fun _ _ => [(8, .nilSlice), (9, .bool (.lit false))], bl := fun _ _ => [], nb := fun _ _ => [], inv := fun _ _ => [], ms := fun _ _ => .lit 257 }, chHead 0, chHead 16] }
def badRules : List Rule := [
  rule [] [ge (v 1) 1] (ltI (.dif (.lit 257) (.off (v 0) (v 1))) (.dif (.lit 257) (v 0))),
  rule [] [le (v 0) 256] (ltI (.lit 0) (.dif (.lit 257) (v 0))),
  rule [] [le (v 0) 256] (ge (.dif (.lit 257) (v 0)) 0),
  rule [] [ge (v 0) 1] (ltI (.dif (.lit 257) (v 0)) (.lit 257)) ]
def cfgBad : Cfg := { rules := badRules, grow := true, anns := [chAnn] }
def prd : Nat → List Int → List (List UInt8) → List (List Value) → Prop := fun _ _ _ _ => False
theorem badRules_ok (ι : Unk) (_ : ι.prd = prd) : ∀ r ∈ badRules, ROk ι r := by
  refine all_cons ?_ (all_cons ?_ (all_cons ?_ (all_cons ?_ all_nil))) <;> intro _ h <;>
    simp only [List.mem_cons, List.not_mem_nil, or_false, forall_eq, n_geq, n_leq, n_n] at h
  · rw [n_lss, n_dif, n_dif, n_off]; omega
  · rw [n_lss, n_dif, n_n, n_n]; omega
  · rw [n_geq, n_dif, n_n, n_n]; omega
  · rw [n_lss, n_dif, n_n]; omega
theorem where_ok {ι : Unk} : ∃ i, i < 18 ∧ (where1 i).den ι = true := by
  by_cases h0 : nV.den ι < 1
  · exact ⟨0, by omega, n_lss.2 h0⟩
  · by_cases h1 : 16 < nV.den ι
    · exact ⟨17, by omega, n_gtr.2 h1⟩
    · refine ⟨(nV.den ι).toNat, by omega, ?_⟩
      unfold where1
      rw [if_neg (by omega), if_neg (by omega), n_eql, n_n]
      omega
theorem csBad_ne (fl : List Bool) : csBad fl ≠ [] := by
  intro h
  have : [where1 0] ∈ csBad fl := List.mem_flatMap.2 ⟨0, List.mem_range.2 (by omega), List.mem_cons_self⟩
  rw [h] at this
  cases this
theorem csBad_ok (fl : List Bool) (ι : Unk) (_ : ι.prd = prd) : ∃ fs ∈ csBad fl, ∀ b ∈ fs, b.den ι = true := by
  obtain ⟨i, hi, h1⟩ := where_ok (ι := ι)
  exact ⟨_, List.mem_flatMap.2 ⟨i, List.mem_range.2 hi, List.mem_cons_self⟩, all_cons h1 all_nil⟩

def lawCfg : List Bool → Cfg := fun _ => cfgBad
def knLaw : Kn := { kn := some 19, cons := [] }
theorem knows : Known Try.prog knLaw ⟨0, prd⟩ := ⟨knows1, all_nil⟩

theorem lawRules (fl : List Bool) (ι : Unk) (hp : ι.prd = prd) : RulesOk (lawCfg fl).rules ι := (fun _ => rules_of badRules_ok) fl ι hp

def cs : List Bool → List (List BE) := csBad

theorem cs_ne (fl : List Bool) : cs fl ≠ [] := csBad_ne fl

theorem cs_ok (fl : List Bool) (ι : Unk) (hp : ι.prd = prd) : ∃ fs ∈ cs fl, ∀ b ∈ fs, b.den ι = true := csBad_ok fl ι hp

end Go.Proofs.Ytagippfhhaelcaa.extentBad
