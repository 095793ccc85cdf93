import Derived.Test.YtickflbbidihiaaRows
import Derived.Test.YtickflbbidihiaaSzPf
import Derived.Test.YtickflbbidihiaaSzMe
import Derived.WalkKit
import Derived.ProofKit
import Derived.OpenShut
import Derived.Test.YtickflbbidihiaaWireD0
import Derived.Test.YtickflbbidihiaaWireD1
import Derived.Test.YtickflbbidihiaaWireD2
import Derived.Test.YtickflbbidihiaaWireD3
import Derived.Test.YtickflbbidihiaaWireD4
import Derived.Test.YtickflbbidihiaaWireB1
import Derived.Test.YtickflbbidihiaaWireB2
import Derived.Test.YtickflbbidihiaaWireB3
namespace Go.Proofs.Ytickflbbidihiaa.wirePuts
open Go.Sx Go.ChangeShapes Go.WideShapes Go.ChangeAt Go.RowKit
set_option linter.unusedVariables false
def cs2 (fl : List Bool) : List (List BE) := match fl with | [false] => [[ge (v 1) 1, ge wholeV 0, fitsV, lt sizeV 2], [ge (v 1) 1, ge wholeV 0, fitsV, .not (lt sizeV 2), lt sizeV 3], [ge (v 1) 1, ge wholeV 0, fitsV, .not (lt sizeV 2), .not (lt sizeV 3)], [ge (v 1) 1, ge wholeV 0, .not fitsV], [ge (v 1) 1, .not (ge wholeV 0), fitsV, lt sizeV 2], [ge (v 1) 1, .not (ge wholeV 0), fitsV, .not (lt sizeV 2), lt sizeV 3], [ge (v 1) 1, .not (ge wholeV 0), fitsV, .not (lt sizeV 2), .not (lt sizeV 3)], [ge (v 1) 1, .not (ge wholeV 0), .not fitsV], [.not (ge (v 1) 1), ge wholeV 0, fitsV], [.not (ge (v 1) 1), ge wholeV 0, .not fitsV], [.not (ge (v 1) 1), .not (ge wholeV 0), fitsV], [.not (ge (v 1) 1), .not (ge wholeV 0), .not fitsV]] | _ => [[ge wholeV 0, fitsV], [ge wholeV 0, .not fitsV], [.not (ge wholeV 0), fitsV], [.not (ge wholeV 0), .not fitsV]]

theorem cs2_ne (fl : List Bool) : cs2 fl ≠ [] := by
  unfold cs2
  split <;> exact List.cons_ne_nil _ _

theorem cs2_ok (fl : List Bool) (ι : Unk) (_ : ι.prd = prd) : ∃ fs ∈ cs2 fl, ∀ b ∈ fs, b.den ι = true := by
  unfold cs2
  split
  · rcases pick (ι := ι) (ge (v 1) 1) with h1 | h1 <;> rcases pick (ι := ι) (ge wholeV 0) with h2 | h2 <;> rcases pick (ι := ι) fitsV with h3 | h3
    case inl.inl.inl | inl.inr.inl =>
      rcases pick (ι := ι) (lt sizeV 2) with h4 | h4
      · exact ⟨_, by simp only [List.mem_cons, true_or, or_true], all_cons h1 (all_cons h2 (all_cons h3 (all_cons h4 all_nil)))⟩
      · rcases pick (ι := ι) (lt sizeV 3) with h5 | h5 <;>
          exact ⟨_, by simp only [List.mem_cons, true_or, or_true], all_cons h1 (all_cons h2 (all_cons h3 (all_cons h4 (all_cons h5 all_nil))))⟩
    all_goals exact ⟨_, by simp only [List.mem_cons, true_or, or_true], all_cons h1 (all_cons h2 (all_cons h3 all_nil))⟩
  · rcases pick (ι := ι) (ge wholeV 0) with h2 | h2 <;> rcases pick (ι := ι) fitsV with h3 | h3 <;>
      exact ⟨_, by simp only [List.mem_cons, true_or, or_true], all_cons h2 (all_cons h3 all_nil)⟩

theorem okT : ∀ fs ∈ cs2 [true], runFl Try.prog true knLaw 300 60 3 [22, 3, 3, 23] [true] (lawCfg [true]) fs = true := by
  intro fs h
  simp only [cs2, List.mem_cons, List.not_mem_nil, or_false] at h
  rcases h with rfl | rfl | rfl | rfl
  · exact ranT0
  · exact ranT1
  · exact ranT2
  · exact ranT3

theorem okF : ∀ fs ∈ cs2 [false], runFl Try.prog true knLaw 300 60 3 [22, 3, 3, 23] [false] (lawCfg [false]) fs = true := by
  intro fs h
  simp only [cs2, List.mem_cons, List.not_mem_nil, or_false] at h
  rcases h with rfl | rfl | rfl | rfl | rfl | rfl | rfl | rfl | rfl | rfl | rfl | rfl
  · exact ranF0a
  · exact ranF0b
  · exact ranF0c
  · exact ranF1
  · exact ranF2a
  · exact ranF2b
  · exact ranF2c
  · exact ranF3
  · exact ranF4
  · exact ranF5
  · exact ranF6
  · exact ranF7

theorem runs : ∀ fl : List Bool, fl.length = 1 → ∀ fs ∈ cs2 fl, runFl Try.prog true knLaw 300 60 3 [22, 3, 3, 23] fl (lawCfg fl) fs = true
  | [true], _ => okT
  | [false], _ => okF

set_option maxRecDepth 100000 in
theorem lifted (os : Os) (started : os.Started) (H : Type) (enc : TypeId × Value → H) :
    ReturnsInHanded {} Try.checked os 3 .any (Rows.wirePutsSpec.pre6 enc Try.prog Try.f3 Rows.wirePutsRow.domain false) (Rows.wirePutsSpec.post enc Try.prog Try.f3 false true false false) := by
  refine returnsInHanded_of_change (C := Try.checked) own started (by kernel_rfl) Try.func3
    (ChangeSpec.witness6 (enc := enc) (C := Try.checked) false ⟨#[], #[.int .u64 0, .int .i64 0, .int .i64 0, .slice none 0 0], []⟩ 8 (by kernel_rfl) (by kernel_rfl) (by kernel_rfl) (by kernel_rfl)) ?_
  intro W base args ds gs before hval0 hW hcnd _
  have hval : ∀ (j : Nat) t v, Try.f3.params[j]? = some t → args[j]? = some v → Value.okWide Try.prog W .any base t v := hval0
  have hW' := hW
  obtain ⟨p, q, hA0, hV, hpq, hfz, hnd⟩ := hW
  have hA : DataW.TrodAll enc Try.prog W 0 (fun _ => true) true Try.f3.params.toList args.toList ds p := hA0
  rw [Try.params3] at hA hval
  have hrun := calls_runs (dr := true) (kn := knLaw) (fuel := 300) (d := 60) (f := 3) (ts := [22, 3, 3, 23]) (cfg := lawCfg) (prd := prd) (cs := cs2) plain knows (fun _ call hC => anyOk (by kernel_rfl) plain hC) lawRules cs2_ok cs2_ne (fun fl hfl => runs fl (hfl.trans (by kernel_rfl))) (fun j t v h h' => hval j t v (by simpa using h) (by simpa using h')) hA
  obtain ⟨v0, vs0, d0, ds0, p0, q0, hargs, rfl, hp0, h0, r0⟩ := trodAll_cons hA
  obtain ⟨v1, vs1, d1, ds1, p1, q1, rfl, rfl, hp1, h1, r1⟩ := trodAll_cons r0
  obtain ⟨v2, vs2, d2, ds2, p2, q2, rfl, rfl, hp2, h2, r2⟩ := trodAll_cons r1
  obtain ⟨v3, vs3, d3, ds3, p3, q3, rfl, rfl, hp3, h3, r3⟩ := trodAll_cons r2
  obtain ⟨rfl, rfl, hpz⟩ := trodAll_nil r3
  obtain rfl : args = #[v0, v1, v2, v3] := by cases args; simp_all
  obtain ⟨rfl, rfl⟩ := trodVars_none hV
  refine hrun.mono fun e W' ⟨he, hg⟩ => ?_
  subst he
  exact ⟨_, rfl, post_of_below hW' hg (by kernel_rfl) (by rw [Try.params3]; kernel_rfl) rfl rfl rfl (fun _ _ _ => (trodAll_cons_mk (shut_bool Try.underlying4 _) trodAll_mk0)) (ok_one (by kernel_rfl) rfl (okWide_bool_mk Try.underlying4 _))⟩

theorem over : Rows.wirePutsRow.holds Try.pinned (OpenSpec.ofChange Rows.wirePutsSpec) :=
  OpenClaim.holds_of_wide 3 Try.f3 rfl rfl rfl rfl rfl rfl rfl ⟨rfl, rfl, rfl, rfl, rfl⟩ rfl rfl rfl rfl rfl (by kernel_rfl) Try.func3 (by kernel_rfl)
    (of_decide_eq_true (by kernel_rfl)) (by unfold Func.isWrapper; first | (rw [if_pos (by decide +kernel)]; kernel_rfl) | (rw [if_neg (by decide +kernel)]; exact ⟨rfl, rfl⟩))
    (fun os started H enc _ => lifted os started H enc)

/-- THE STATEMENT -/
theorem proved : Rows.WirePutsSaid :=
  over
#print axioms proved
end Go.Proofs.Ytickflbbidihiaa.wirePuts
