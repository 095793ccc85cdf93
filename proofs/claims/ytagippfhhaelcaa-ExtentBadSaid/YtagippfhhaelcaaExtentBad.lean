/-
  ExtentBad holds: whatever the input, the call returns true and what it was given reads as before; by a walker that computes in the kernel with unknowns, and whose soundness is proved in the texts beside this one.
-/
import Derived.Test.YtagippfhhaelcaaRows
import Derived.Test.YtagippfhhaelcaaSzPf
import Derived.Test.YtagippfhhaelcaaSzMe
import Derived.WalkKit
import Derived.ProofKit
import Derived.OpenShut
import Derived.Test.YtagippfhhaelcaaExtentBadQ
import Derived.Test.YtagippfhhaelcaaExtentBadR0
import Derived.Test.YtagippfhhaelcaaExtentBadR3
import Derived.Test.YtagippfhhaelcaaExtentBadR6
import Derived.Test.YtagippfhhaelcaaExtentBadR9
import Derived.Test.YtagippfhhaelcaaExtentBadR12
import Derived.Test.YtagippfhhaelcaaExtentBadR15
namespace Go.Proofs.Ytagippfhhaelcaa.extentBad
open Go.Sx Go.ChangeShapes Go.WideShapes Go.ChangeAt Go.RowKit
set_option linter.unusedVariables false

theorem allG : ∀ k, k < 18 → (badGrp k).all (fun fs => runFl Try.prog true knLaw 300 60 5 [3, 4] [] (lawCfg []) fs) = true
  | 0, _ => ranG0
  | 1, _ => ranG1
  | 2, _ => ranG2
  | 3, _ => ranG3
  | 4, _ => ranG4
  | 5, _ => ranG5
  | 6, _ => ranG6
  | 7, _ => ranG7
  | 8, _ => ranG8
  | 9, _ => ranG9
  | 10, _ => ranG10
  | 11, _ => ranG11
  | 12, _ => ranG12
  | 13, _ => ranG13
  | 14, _ => ranG14
  | 15, _ => ranG15
  | 16, _ => ranG16
  | 17, _ => ranG17
  | k + 18, h => absurd h (by omega)

theorem ok : ∀ fs ∈ cs [], runFl Try.prog true knLaw 300 60 5 [3, 4] [] (lawCfg []) fs = true := by
  intro fs h
  obtain ⟨k, hk, hm⟩ := List.mem_flatMap.1 (show fs ∈ (List.range 18).flatMap badGrp from h)
  exact List.all_eq_true.1 (allG k (List.mem_range.1 hk)) fs hm

theorem runs : ∀ fl : List Bool, fl.length = 0 → ∀ fs ∈ cs fl, runFl Try.prog true knLaw 300 60 5 [3, 4] fl (lawCfg fl) fs = true
  | [], _ => ok

set_option maxRecDepth 100000 in
theorem lifted (os : Os) (started : os.Started) (H : Type) (enc : TypeId × Value → H) :
    ReturnsInHanded {} Try.checked os 5 .any (Rows.extentBadSpec.pre6 enc Try.prog Try.f5 Rows.extentBadRow.domain false) (Rows.extentBadSpec.post enc Try.prog Try.f5 false true false false) := by
  refine returnsInHanded_of_change (C := Try.checked) own started (by kernel_rfl) Try.func5
    (ChangeSpec.witness6 (enc := enc) (C := Try.checked) false ⟨#[], #[.int .i64 0, .bool false], []⟩ 8 (by kernel_rfl) (by kernel_rfl) (by kernel_rfl) (by kernel_rfl)) ?_
  intro W base args ds gs before hval0 hW hcnd _
  have hval : ∀ (j : Nat) t v, Try.f5.params[j]? = some t → args[j]? = some v → Value.okWide Try.prog W .any base t v := hval0
  have hW' := hW
  obtain ⟨p, q, hA0, hV, hpq, hfz, hnd⟩ := hW
  have hA : DataW.TrodAll enc Try.prog W 0 (fun _ => true) true Try.f5.params.toList args.toList ds p := hA0
  rw [Try.params5] at hA hval
  have hrun := calls_runs (dr := true) (kn := knLaw) (fuel := 300) (d := 60) (f := 5) (ts := [3, 4]) (cfg := lawCfg) (prd := prd) (cs := cs) plain knows (fun _ call hC => anyOk (by kernel_rfl) plain hC) lawRules cs_ok cs_ne (fun fl hfl => runs fl (hfl.trans (by kernel_rfl))) (fun j t v h h' => hval j t v (by simpa using h) (by simpa using h')) hA
  obtain ⟨v0, vs0, d0, ds0, p0, q0, hargs, rfl, hp0, h0, r0⟩ := trodAll_cons hA
  obtain ⟨v1, vs1, d1, ds1, p1, q1, rfl, rfl, hp1, h1, r1⟩ := trodAll_cons r0
  obtain ⟨rfl, rfl, hpz⟩ := trodAll_nil r1
  obtain rfl : args = #[v0, v1] := by cases args; simp_all
  obtain ⟨rfl, rfl⟩ := trodVars_none hV
  refine hrun.mono fun e W' ⟨he, hg⟩ => ?_
  subst he
  exact ⟨_, rfl, post_of_below hW' hg (by kernel_rfl) (by rw [Try.params5]; kernel_rfl) rfl rfl rfl (fun _ _ _ => (trodAll_cons_mk (shut_bool Try.underlying4 _) trodAll_mk0)) (ok_one (by kernel_rfl) rfl (okWide_bool_mk Try.underlying4 _))⟩

theorem over : Rows.extentBadRow.holds Try.pinned (OpenSpec.ofChange Rows.extentBadSpec) :=
  OpenClaim.holds_of_wide 5 Try.f5 rfl rfl rfl rfl rfl rfl rfl ⟨rfl, rfl, rfl, rfl, rfl⟩ rfl rfl rfl rfl rfl (by kernel_rfl) Try.func5 (by kernel_rfl)
    (of_decide_eq_true (by kernel_rfl)) (by unfold Func.isWrapper; first | (rw [if_pos (by decide +kernel)]; kernel_rfl) | (rw [if_neg (by decide +kernel)]; exact ⟨rfl, rfl⟩))
    (fun os started H enc _ => lifted os started H enc)

/-- THE STATEMENT -/
theorem proved : Rows.ExtentBadSaid :=
  over
#print axioms proved
end Go.Proofs.Ytagippfhhaelcaa.extentBad
