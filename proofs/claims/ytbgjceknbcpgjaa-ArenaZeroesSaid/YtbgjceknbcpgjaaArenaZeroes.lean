/-
  ArenaZeroes holds: whatever the input, the call returns true and what it was given reads as before; by a walker that computes in the kernel with unknowns, and whose soundness is proved in the texts beside this one.
-/
import Derived.Test.YtbgjceknbcpgjaaRows
import Derived.Test.YtbgjceknbcpgjaaSzPf
import Derived.Test.YtbgjceknbcpgjaaSzMe
import Derived.WalkKit
import Derived.ProofKit
import Derived.OpenShut
import Derived.Test.YtbgjceknbcpgjaaArenaZeroesQ
import Derived.Test.YtbgjceknbcpgjaaArenaZeroesRFF0
import Derived.Test.YtbgjceknbcpgjaaArenaZeroesRFF1
namespace Go.Proofs.Ytbgjceknbcpgjaa.arenaZeroes
open Go.Sx Go.ChangeShapes Go.WideShapes Go.ChangeAt Go.RowKit
set_option linter.unusedVariables false

theorem allGFF : ∀ k, k < 2 → (azGrp k).all (fun fs => runFl Try.prog true knLaw 300 60 3 [3, 22, 22] [false, false] (lawCfg [false, false]) fs) = true
  | 0, _ => ranGFF0
  | 1, _ => ranGFF1
  | k + 2, h => absurd h (by omega)

theorem okFF : ∀ fs ∈ cs [false, false], runFl Try.prog true knLaw 300 60 3 [3, 22, 22] [false, false] (lawCfg [false, false]) fs = true := by
  intro fs h
  obtain ⟨k, hk, hm⟩ := List.mem_flatMap.1 (show fs ∈ (List.range 2).flatMap azGrp from h)
  exact List.all_eq_true.1 (allGFF k (List.mem_range.1 hk)) fs hm

set_option maxRecDepth 100000 in
theorem ranTT : runFl Try.prog true knLaw 300 60 3 [3, 22, 22] [true, true] (lawCfg [true, true]) [] = true := by kernel_rfl

theorem okTT : ∀ fs ∈ cs [true, true], runFl Try.prog true knLaw 300 60 3 [3, 22, 22] [true, true] (lawCfg [true, true]) fs = true := by
  intro fs h
  have h2 : fs ∈ ([[]] : List (List BE)) := h
  rw [List.mem_singleton.1 h2]
  exact ranTT

set_option maxRecDepth 100000 in
theorem ranTF : runFl Try.prog true knLaw 300 60 3 [3, 22, 22] [true, false] (lawCfg [true, false]) [] = true := by kernel_rfl

theorem okTF : ∀ fs ∈ cs [true, false], runFl Try.prog true knLaw 300 60 3 [3, 22, 22] [true, false] (lawCfg [true, false]) fs = true := by
  intro fs h
  have h2 : fs ∈ ([[]] : List (List BE)) := h
  rw [List.mem_singleton.1 h2]
  exact ranTF

set_option maxRecDepth 100000 in
theorem ranFT : runFl Try.prog true knLaw 300 60 3 [3, 22, 22] [false, true] (lawCfg [false, true]) [] = true := by kernel_rfl

theorem okFT : ∀ fs ∈ cs [false, true], runFl Try.prog true knLaw 300 60 3 [3, 22, 22] [false, true] (lawCfg [false, true]) fs = true := by
  intro fs h
  have h2 : fs ∈ ([[]] : List (List BE)) := h
  rw [List.mem_singleton.1 h2]
  exact ranFT

theorem runs : ∀ fl : List Bool, fl.length = 2 → ∀ fs ∈ cs fl, runFl Try.prog true knLaw 300 60 3 [3, 22, 22] fl (lawCfg fl) fs = true
  | [true, true], _ => okTT
  | [true, false], _ => okTF
  | [false, true], _ => okFT
  | [false, false], _ => okFF

set_option maxRecDepth 100000 in
theorem lifted (os : Os) (started : os.Started) (H : Type) (enc : TypeId × Value → H) :
    ReturnsInHanded {} Try.checked os 3 .any (Rows.arenaZeroesSpec.pre6 enc Try.prog Try.f3 Rows.arenaZeroesRow.domain false) (Rows.arenaZeroesSpec.post enc Try.prog Try.f3 false true false false) := by
  refine returnsInHanded_of_change (C := Try.checked) own started (by kernel_rfl) Try.func3
    (ChangeSpec.witness6 (enc := enc) (C := Try.checked) false ⟨#[], #[.int .i64 0, .slice none 0 0, .slice none 0 0], []⟩ 8 (by kernel_rfl) (by kernel_rfl) (by kernel_rfl) (by kernel_rfl)) ?_
  intro W base args ds gs before hval0 hW hcnd _
  have hval : ∀ (j : Nat) t v, Try.f3.params[j]? = some t → args[j]? = some v → Value.okWide Try.prog W .any base t v := hval0
  have hW' := hW
  obtain ⟨p, q, hA0, hV, hpq, hfz, hnd⟩ := hW
  have hA : DataW.TrodAll enc Try.prog W 0 (fun _ => true) true Try.f3.params.toList args.toList ds p := hA0
  rw [Try.params3] at hA hval
  have hrun := calls_runs (dr := true) (kn := knLaw) (fuel := 300) (d := 60) (f := 3) (ts := [3, 22, 22]) (cfg := lawCfg) (prd := prd) (cs := cs) plain knows (fun _ call hC => anyOk (by kernel_rfl) plain hC) lawRules cs_ok cs_ne (fun fl hfl => runs fl (hfl.trans (by kernel_rfl))) (fun j t v h h' => hval j t v (by simpa using h) (by simpa using h')) hA
  obtain ⟨v0, vs0, d0, ds0, p0, q0, hargs, rfl, hp0, h0, r0⟩ := trodAll_cons hA
  obtain ⟨v1, vs1, d1, ds1, p1, q1, rfl, rfl, hp1, h1, r1⟩ := trodAll_cons r0
  obtain ⟨v2, vs2, d2, ds2, p2, q2, rfl, rfl, hp2, h2, r2⟩ := trodAll_cons r1
  obtain ⟨rfl, rfl, hpz⟩ := trodAll_nil r2
  obtain rfl : args = #[v0, v1, v2] := by cases args; simp_all
  obtain ⟨rfl, rfl⟩ := trodVars_none hV
  refine hrun.mono fun e W' ⟨he, hg⟩ => ?_
  subst he
  exact ⟨_, rfl, post_of_below hW' hg (by kernel_rfl) (by rw [Try.params3]; kernel_rfl) rfl rfl rfl (fun _ _ _ => (trodAll_cons_mk (shut_bool Try.underlying4 _) trodAll_mk0)) (ok_one (by kernel_rfl) rfl (okWide_bool_mk Try.underlying4 _))⟩

theorem over : Rows.arenaZeroesRow.holds Try.pinned (OpenSpec.ofChange Rows.arenaZeroesSpec) :=
  OpenClaim.holds_of_wide 3 Try.f3 rfl rfl rfl rfl rfl rfl rfl ⟨rfl, rfl, rfl, rfl, rfl⟩ rfl rfl rfl rfl rfl (by kernel_rfl) Try.func3 (by kernel_rfl)
    (of_decide_eq_true (by kernel_rfl)) (by unfold Func.isWrapper; first | (rw [if_pos (by decide +kernel)]; kernel_rfl) | (rw [if_neg (by decide +kernel)]; exact ⟨rfl, rfl⟩))
    (fun os started H enc _ => lifted os started H enc)

/-- THE STATEMENT -/
theorem proved : Rows.ArenaZeroesSaid :=
  over
#print axioms proved
end Go.Proofs.Ytbgjceknbcpgjaa.arenaZeroes
