/-
  NodeLooks holds: whatever the input, the call returns true and what it was given reads as before; by a walker that computes in the kernel with unknowns, and whose soundness is proved in the texts beside this one.
-/
import Derived.Test.YteiahcfamadkoaaDoorRows
import Derived.Test.YteiahcfamadkoaaDoorTie
import Derived.Test.YteiahcfamadkoaaDoorCards
import Derived.Test.YteiahcfamadkoaaDoorSzPf
import Derived.Test.YteiahcfamadkoaaDoorSzMe
import Derived.WalkKit
import Derived.ProofKit
import Derived.OpenShut
import Derived.LaidMore
import Derived.Stop.Joined
import Derived.SevenTiedAt
import Derived.Test.YteiahcfamadkoaaDoorNodeLooksQ
import Derived.Test.YteiahcfamadkoaaDoorNodeLooksR0
import Derived.Test.YteiahcfamadkoaaDoorNodeLooksR6
import Derived.Test.YteiahcfamadkoaaDoorNodeLooksR12
import Derived.Test.YteiahcfamadkoaaDoorNodeLooksR18
import Derived.Test.YteiahcfamadkoaaDoorNodeLooksR24
import Derived.Test.YteiahcfamadkoaaDoorNodeLooksR30
import Derived.Test.YteiahcfamadkoaaDoorNodeLooksR36
import Derived.Test.YteiahcfamadkoaaDoorNodeLooksR42
import Derived.Test.YteiahcfamadkoaaDoorNodeLooksR48
import Derived.Test.YteiahcfamadkoaaDoorNodeLooksR54
import Derived.Test.YteiahcfamadkoaaDoorNodeLooksR60
import Derived.Test.YteiahcfamadkoaaDoorNodeLooksR66
namespace Go.Proofs.YteiahcfamadkoaaDoor.nodeLooks
open Go.Sx Go.ChangeShapes Go.WideShapes Go.ChangeAt Go.RowKit
set_option linter.unusedVariables false

theorem allG : ∀ k, k < 72 → (looksGrp k).all (fun fs => runFl Tryd.prog true knLaw 300 60 5 [31] [] (lawCfg []) fs) = true
  | 0, _ => ranG0
  | 1, _ => ranG1
  | 2, _ => ranG2
  | 3, _ => ranG3
  | 4, _ => ranG4
  | 5, _ => ranG5
  | 6, _ => ranG6
  | 7, _ => ranG7
  | 8, _ => ranG8
  | 9, _ => ranG9
  | 10, _ => ranG10
  | 11, _ => ranG11
  | 12, _ => ranG12
  | 13, _ => ranG13
  | 14, _ => ranG14
  | 15, _ => ranG15
  | 16, _ => ranG16
  | 17, _ => ranG17
  | 18, _ => ranG18
  | 19, _ => ranG19
  | 20, _ => ranG20
  | 21, _ => ranG21
  | 22, _ => ranG22
  | 23, _ => ranG23
  | 24, _ => ranG24
  | 25, _ => ranG25
  | 26, _ => ranG26
  | 27, _ => ranG27
  | 28, _ => ranG28
  | 29, _ => ranG29
  | 30, _ => ranG30
  | 31, _ => ranG31
  | 32, _ => ranG32
  | 33, _ => ranG33
  | 34, _ => ranG34
  | 35, _ => ranG35
  | 36, _ => ranG36
  | 37, _ => ranG37
  | 38, _ => ranG38
  | 39, _ => ranG39
  | 40, _ => ranG40
  | 41, _ => ranG41
  | 42, _ => ranG42
  | 43, _ => ranG43
  | 44, _ => ranG44
  | 45, _ => ranG45
  | 46, _ => ranG46
  | 47, _ => ranG47
  | 48, _ => ranG48
  | 49, _ => ranG49
  | 50, _ => ranG50
  | 51, _ => ranG51
  | 52, _ => ranG52
  | 53, _ => ranG53
  | 54, _ => ranG54
  | 55, _ => ranG55
  | 56, _ => ranG56
  | 57, _ => ranG57
  | 58, _ => ranG58
  | 59, _ => ranG59
  | 60, _ => ranG60
  | 61, _ => ranG61
  | 62, _ => ranG62
  | 63, _ => ranG63
  | 64, _ => ranG64
  | 65, _ => ranG65
  | 66, _ => ranG66
  | 67, _ => ranG67
  | 68, _ => ranG68
  | 69, _ => ranG69
  | 70, _ => ranG70
  | 71, _ => ranG71
  | k + 72, h => absurd h (by omega)

theorem ok : ∀ fs ∈ cs [], runFl Tryd.prog true knLaw 300 60 5 [31] [] (lawCfg []) fs = true := by
  intro fs h
  obtain ⟨k, hk, hm⟩ := List.mem_flatMap.1 (show fs ∈ (List.range 72).flatMap looksGrp from h)
  exact List.all_eq_true.1 (allG k (List.mem_range.1 hk)) fs hm

theorem runs : ∀ fl : List Bool, fl.length = 0 → ∀ fs ∈ cs fl, runFl Tryd.prog true knLaw 300 60 5 [31] fl (lawCfg fl) fs = true
  | [], _ => ok

/-- What is listed. -/
def listed : List (String × DataW Unit) := [("math/bits.deBruijn32tab", Rows.laid_math_bits_deBruijn32tab), ("math/bits.deBruijn64tab", Rows.laid_math_bits_deBruijn64tab), ("internal/strconv.uint64pow10", Rows.laid_internal_strconv_uint64pow10)]

/-- The door's own heap meets the condition: closed facts. -/
theorem door_met (os : Os) (args : Array Value) : laidMetH Tryd.prog listed ((World.doorLaid Tryd.prog 400 os).forCall (fun _ _ => 0) ⟨#[], args, []⟩).memory :=
  laidMetH_of_parts3 (fuel := 100) (laidMet_of_run' 100 (by kernel_rfl) (by kernel_rfl)) (by kernel_rfl) (by kernel_rfl)

set_option maxRecDepth 100000 in
theorem lifted (os : Os) (started : os.Started) (H : Type) (enc : TypeId × Value → H) :
    ReturnsInHanded {} Tryd.checked os 5 .any (fun w args => (Rows.nodeLooksSpec.pre enc Tryd.prog Tryd.f5 [] false w args ∧ laidMetH Tryd.prog listed w) ∧ sizedMet enc Tryd.prog Tryd.f5 (OpenSpec.ofChange Rows.nodeLooksSpec) false w args)
      (Rows.nodeLooksSpec.post enc Tryd.prog Tryd.f5 false true false false) := by
  refine returnsInHanded_of_change_and (C := Tryd.checked) (X := fun w _ => laidMetH Tryd.prog listed w) (fun _ _ _ hh h => h.of_heap hh) own started (by kernel_rfl) Tryd.func5
    (ChangeSpec.witness_shaped (enc := enc) (C := Tryd.checked) (os := os) (X := fun w _ => laidMetH Tryd.prog listed w) false (World.doorLaid Tryd.prog 400 os) #[.agg #[.int .i64 0, .int .i64 0, .int .i64 0, .int .i64 0, .int .u64 0, .int .i64 0, .int .i64 0, .int .i64 0, .int .u64 0, .int .i64 0, .int .i64 0, .int .i64 0, .int .u64 0, .int .i64 0, .int .i64 0, .int .i64 0, .int .u64 0, .int .i64 0, .int .i64 0, .int .i64 0, .int .u64 0, .int .i64 0, .int .i64 0, .int .i64 0, .int .u64 0, .int .i64 0, .int .i64 0, .int .i64 0, .int .u64 0, .int .i64 0, .int .i64 0, .int .i64 0, .int .u64 0, .int .i64 0, .int .i64 0, .int .i64 0, .int .u64 0, .int .i64 0, .int .i64 0, .int .i64 0, .int .u64 0, .int .i64 0, .int .i64 0, .int .i64 0, .int .u64 0, .int .i64 0, .int .i64 0, .int .i64 0, .int .u64 0, .int .i64 0, .int .i64 0, .int .i64 0, .int .u64 0, .int .i64 0, .int .i64 0, .int .i64 0, .int .u64 0, .int .i64 0, .int .i64 0, .int .i64 0, .int .u64 0, .int .i64 0, .int .i64 0, .int .i64 0, .int .u64 0]] 8 rfl (World.shaped_of_RefB (by kernel_rfl) (by kernel_rfl)) (by kernel_rfl) (by kernel_rfl) (by kernel_rfl) (door_met os _)) ?_
  intro W base args ds gs before hval0 hW _ _ _ _
  have hval : ∀ (j : Nat) t v, Tryd.f5.params[j]? = some t → args[j]? = some v → Value.okWide Tryd.prog W .any base t v := hval0
  have hW' := hW
  obtain ⟨p, q, hA0, hV, hpq, hfz, hnd⟩ := hW
  have hA : DataW.TrodAll enc Tryd.prog W 0 (fun _ => true) true Tryd.f5.params.toList args.toList ds p := hA0
  rw [Tryd.params5] at hA hval
  have hrun := calls_runs (dr := true) (kn := knLaw) (fuel := 300) (d := 60) (f := 5) (ts := [31]) (cfg := lawCfg) (prd := prd) (cs := cs) plain knows (fun _ call hC => anyOk (by kernel_rfl) plain hC) lawRules cs_ok cs_ne (fun fl hfl => runs fl (hfl.trans (by kernel_rfl))) (fun j t v h h' => hval j t v (by simpa using h) (by simpa using h')) hA
  obtain ⟨v0, vs0, d0, ds0, p0, q0, hargs, rfl, hp0, h0, r0⟩ := trodAll_cons hA
  obtain ⟨rfl, rfl, hpz⟩ := trodAll_nil r0
  obtain rfl : args = #[v0] := by cases args; simp_all
  obtain ⟨rfl, rfl⟩ := trodVars_none hV
  refine hrun.mono fun e W' ⟨he, hg⟩ => ?_
  subst he
  exact ⟨_, rfl, post_of_below hW' hg (by kernel_rfl) (by rw [Tryd.params5]; kernel_rfl) rfl rfl rfl (fun _ _ _ => (trodAll_cons_mk (shut_bool Tryd.underlying4 _) trodAll_mk0)) (ok_one (by kernel_rfl) rfl (okWide_bool_mk Tryd.underlying4 _))⟩

theorem over : Rows.nodeLooksRow.holds Tryd.pinned (OpenSpec.ofChange Rows.nodeLooksSpec) :=
  OpenClaim.holds_of_wide 5 Tryd.f5 rfl rfl rfl rfl rfl rfl rfl ⟨rfl, rfl, rfl, rfl, rfl⟩ rfl rfl rfl rfl rfl (by kernel_rfl) Tryd.func5 (by kernel_rfl)
    (of_decide_eq_true (by kernel_rfl)) (by unfold Func.isWrapper; first | (rw [if_pos (by decide +kernel)]; kernel_rfl) | (rw [if_neg (by decide +kernel)]; exact ⟨rfl, rfl⟩))
    (fun os started H enc _ => lifted os started H enc)

/-- THE STATEMENT -/
theorem proved : Rows.NodeLooksCardSaid :=
  Claim7.holds_tied_plain_at .later [] [.data, .data, .data] true (true, "e1beeed3f3a02236054e97e06e4de67d70cc6dffd3975d32908fb1c452ba196f") true
    over (fun _ h => by cases h) (by kernel_rfl) (fun _ h => by cases h) nodeLooks_row_tie rfl ⟨rfl, rfl⟩ (by kernel_rfl) rfl
    (fun f fn hf hfn => by
      obtain rfl : f = 5 := Option.some.inj ((show Tryd.prog.funcNamed Rows.nodeLooksRow.func = some 5 by kernel_rfl).symm.trans hf) |>.symm
      obtain rfl : fn = Tryd.f5 := (Option.some.inj (Tryd.func5.symm.trans hfn)).symm
      exact ⟨by kernel_rfl, fun j t ht => by
        rw [Tryd.params5] at ht
        have hm : t ∈ [31] := by simpa using Array.mem_of_getElem? ht
        have hall : ([31].all fun u => !Tryd.prog.wantsStandIn u) = true := by kernel_rfl
        exact (show Tryd.prog.wantsStandIn t = false by simpa using List.all_eq_true.1 hall t hm)⟩)
    (by kernel_rfl)
#print axioms proved
end Go.Proofs.YteiahcfamadkoaaDoor.nodeLooks
