/-
  QuotaCopies holds: whatever the input, the call returns true and what it was given reads as before; by a walker that computes in the kernel with unknowns, and whose soundness is proved in the texts beside this one.
-/
import Derived.Test.YtaafdcimnmfakaaRows
import Derived.Test.YtaafdcimnmfakaaSzPf
import Derived.Test.YtaafdcimnmfakaaSzMe
import Derived.WalkKit
import Derived.ProofKit
import Derived.OpenShut
import Derived.Test.YtaafdcimnmfakaaQuotaCopiesG
namespace Go.Proofs.Ytaafdcimnmfakaa.quotaCopies
open Go.Sx Go.ChangeShapes Go.WideShapes Go.ChangeAt Go.RowKit
set_option linter.unusedVariables false

def lawCfg : List Bool → Cfg := cfgC
def knLaw : Kn := { kn := some 7, cons := [fOf.con, fRoom.con, mC0FFF.con, mCAFFF.con, mCBFFF.con, mC0FFT.con, mCAFFT.con, mCBFTF.con, mC0FTT.con, mC0TFF.con, mCATFF.con, mCBTFF.con, mC0TFT.con, mCATFT.con, mCBTTF.con, mC0TTT.con] }
theorem knows : Known Try.prog knLaw ⟨0, prd⟩ := ⟨knows1, (all_cons (con_ok ok_fOf) (all_cons (con_ok ok_fRoom) (all_cons ok_mC0FFF (all_cons ok_mCAFFF (all_cons ok_mCBFFF (all_cons ok_mC0FFT (all_cons ok_mCAFFT (all_cons ok_mCBFTF (all_cons ok_mC0FTT (all_cons ok_mC0TFF (all_cons ok_mCATFF (all_cons ok_mCBTFF (all_cons ok_mC0TFT (all_cons ok_mCATFT (all_cons ok_mCBTTF (all_cons ok_mC0TTT all_nil))))))))))))))))⟩

theorem lawRules (fl : List Bool) (ι : Unk) (hp : ι.prd = prd) : RulesOk (lawCfg fl).rules ι := (fun fl => rules_of rulesC_ok) fl ι hp

def cs (_ : List Bool) : List (List BE) := [[]]

theorem cs_ne (fl : List Bool) : cs fl ≠ [] := List.cons_ne_nil _ _

theorem cs_ok (fl : List Bool) (ι : Unk) (_ : ι.prd = prd) : ∃ fs ∈ cs fl, ∀ b ∈ fs, b.den ι = true := ⟨[], List.mem_cons_self, fun b hb => by cases hb⟩

set_option maxRecDepth 100000 in
theorem ranTTT0 : runFl Try.prog true knLaw 300 60 5 [3, 22, 22, 23, 23, 23] [true, true, true] (lawCfg [true, true, true]) [] = true := by kernel_rfl

theorem okTTT : ∀ fs ∈ cs [true, true, true], runFl Try.prog true knLaw 300 60 5 [3, 22, 22, 23, 23, 23] [true, true, true] (lawCfg [true, true, true]) fs = true := by
  intro fs h
  simp only [cs, List.mem_cons, List.not_mem_nil, or_false] at h
  rcases h with rfl
  · exact ranTTT0

set_option maxRecDepth 100000 in
theorem ranTTF0 : runFl Try.prog true knLaw 300 60 5 [3, 22, 22, 23, 23, 23] [true, true, false] (lawCfg [true, true, false]) [] = true := by kernel_rfl

theorem okTTF : ∀ fs ∈ cs [true, true, false], runFl Try.prog true knLaw 300 60 5 [3, 22, 22, 23, 23, 23] [true, true, false] (lawCfg [true, true, false]) fs = true := by
  intro fs h
  simp only [cs, List.mem_cons, List.not_mem_nil, or_false] at h
  rcases h with rfl
  · exact ranTTF0

set_option maxRecDepth 100000 in
theorem ranTFT0 : runFl Try.prog true knLaw 300 60 5 [3, 22, 22, 23, 23, 23] [true, false, true] (lawCfg [true, false, true]) [] = true := by kernel_rfl

theorem okTFT : ∀ fs ∈ cs [true, false, true], runFl Try.prog true knLaw 300 60 5 [3, 22, 22, 23, 23, 23] [true, false, true] (lawCfg [true, false, true]) fs = true := by
  intro fs h
  simp only [cs, List.mem_cons, List.not_mem_nil, or_false] at h
  rcases h with rfl
  · exact ranTFT0

set_option maxRecDepth 100000 in
theorem ranTFF0 : runFl Try.prog true knLaw 300 60 5 [3, 22, 22, 23, 23, 23] [true, false, false] (lawCfg [true, false, false]) [] = true := by kernel_rfl

theorem okTFF : ∀ fs ∈ cs [true, false, false], runFl Try.prog true knLaw 300 60 5 [3, 22, 22, 23, 23, 23] [true, false, false] (lawCfg [true, false, false]) fs = true := by
  intro fs h
  simp only [cs, List.mem_cons, List.not_mem_nil, or_false] at h
  rcases h with rfl
  · exact ranTFF0

set_option maxRecDepth 100000 in
theorem ranFTT0 : runFl Try.prog true knLaw 300 60 5 [3, 22, 22, 23, 23, 23] [false, true, true] (lawCfg [false, true, true]) [] = true := by kernel_rfl

theorem okFTT : ∀ fs ∈ cs [false, true, true], runFl Try.prog true knLaw 300 60 5 [3, 22, 22, 23, 23, 23] [false, true, true] (lawCfg [false, true, true]) fs = true := by
  intro fs h
  simp only [cs, List.mem_cons, List.not_mem_nil, or_false] at h
  rcases h with rfl
  · exact ranFTT0

set_option maxRecDepth 100000 in
theorem ranFTF0 : runFl Try.prog true knLaw 300 60 5 [3, 22, 22, 23, 23, 23] [false, true, false] (lawCfg [false, true, false]) [] = true := by kernel_rfl

theorem okFTF : ∀ fs ∈ cs [false, true, false], runFl Try.prog true knLaw 300 60 5 [3, 22, 22, 23, 23, 23] [false, true, false] (lawCfg [false, true, false]) fs = true := by
  intro fs h
  simp only [cs, List.mem_cons, List.not_mem_nil, or_false] at h
  rcases h with rfl
  · exact ranFTF0

set_option maxRecDepth 100000 in
theorem ranFFT0 : runFl Try.prog true knLaw 300 60 5 [3, 22, 22, 23, 23, 23] [false, false, true] (lawCfg [false, false, true]) [] = true := by kernel_rfl

theorem okFFT : ∀ fs ∈ cs [false, false, true], runFl Try.prog true knLaw 300 60 5 [3, 22, 22, 23, 23, 23] [false, false, true] (lawCfg [false, false, true]) fs = true := by
  intro fs h
  simp only [cs, List.mem_cons, List.not_mem_nil, or_false] at h
  rcases h with rfl
  · exact ranFFT0

set_option maxRecDepth 100000 in
theorem ranFFF0 : runFl Try.prog true knLaw 300 60 5 [3, 22, 22, 23, 23, 23] [false, false, false] (lawCfg [false, false, false]) [] = true := by kernel_rfl

theorem okFFF : ∀ fs ∈ cs [false, false, false], runFl Try.prog true knLaw 300 60 5 [3, 22, 22, 23, 23, 23] [false, false, false] (lawCfg [false, false, false]) fs = true := by
  intro fs h
  simp only [cs, List.mem_cons, List.not_mem_nil, or_false] at h
  rcases h with rfl
  · exact ranFFF0

theorem runs : ∀ fl : List Bool, fl.length = 3 → ∀ fs ∈ cs fl, runFl Try.prog true knLaw 300 60 5 [3, 22, 22, 23, 23, 23] fl (lawCfg fl) fs = true
  | [true, true, true], _ => okTTT
  | [true, true, false], _ => okTTF
  | [true, false, true], _ => okTFT
  | [true, false, false], _ => okTFF
  | [false, true, true], _ => okFTT
  | [false, true, false], _ => okFTF
  | [false, false, true], _ => okFFT
  | [false, false, false], _ => okFFF

set_option maxRecDepth 100000 in
theorem lifted (os : Os) (started : os.Started) (H : Type) (enc : TypeId × Value → H) :
    ReturnsInHanded {} Try.checked os 5 .any (Rows.quotaCopiesSpec.pre6 enc Try.prog Try.f5 Rows.quotaCopiesRow.domain false) (Rows.quotaCopiesSpec.post enc Try.prog Try.f5 false true false false) := by
  refine returnsInHanded_of_change (C := Try.checked) own started (by kernel_rfl) Try.func5
    (ChangeSpec.witness6 (enc := enc) (C := Try.checked) false ⟨#[], #[.int .i64 0, .int .u64 0, .int .u64 0, .slice none 0 0, .slice none 0 0, .slice none 0 0], []⟩ 8 (by kernel_rfl) (by kernel_rfl) (by kernel_rfl) (by kernel_rfl)) ?_
  intro W base args ds gs before hval0 hW hcnd _
  have hval : ∀ (j : Nat) t v, Try.f5.params[j]? = some t → args[j]? = some v → Value.okWide Try.prog W .any base t v := hval0
  have hW' := hW
  obtain ⟨p, q, hA0, hV, hpq, hfz, hnd⟩ := hW
  have hA : DataW.TrodAll enc Try.prog W 0 (fun _ => true) true Try.f5.params.toList args.toList ds p := hA0
  rw [Try.params5] at hA hval
  have hrun := calls_runs (dr := true) (kn := knLaw) (fuel := 300) (d := 60) (f := 5) (ts := [3, 22, 22, 23, 23, 23]) (cfg := lawCfg) (prd := prd) (cs := cs) plain knows (fun _ call hC => anyOk (by kernel_rfl) plain hC) lawRules cs_ok cs_ne (fun fl hfl => runs fl (hfl.trans (by kernel_rfl))) (fun j t v h h' => hval j t v (by simpa using h) (by simpa using h')) hA
  obtain ⟨v0, vs0, d0, ds0, p0, q0, hargs, rfl, hp0, h0, r0⟩ := trodAll_cons hA
  obtain ⟨v1, vs1, d1, ds1, p1, q1, rfl, rfl, hp1, h1, r1⟩ := trodAll_cons r0
  obtain ⟨v2, vs2, d2, ds2, p2, q2, rfl, rfl, hp2, h2, r2⟩ := trodAll_cons r1
  obtain ⟨v3, vs3, d3, ds3, p3, q3, rfl, rfl, hp3, h3, r3⟩ := trodAll_cons r2
  obtain ⟨v4, vs4, d4, ds4, p4, q4, rfl, rfl, hp4, h4, r4⟩ := trodAll_cons r3
  obtain ⟨v5, vs5, d5, ds5, p5, q5, rfl, rfl, hp5, h5, r5⟩ := trodAll_cons r4
  obtain ⟨rfl, rfl, hpz⟩ := trodAll_nil r5
  obtain rfl : args = #[v0, v1, v2, v3, v4, v5] := by cases args; simp_all
  obtain ⟨rfl, rfl⟩ := trodVars_none hV
  refine hrun.mono fun e W' ⟨he, hg⟩ => ?_
  subst he
  exact ⟨_, rfl, post_of_below hW' hg (by kernel_rfl) (by rw [Try.params5]; kernel_rfl) rfl rfl rfl (fun _ _ _ => (trodAll_cons_mk (shut_bool Try.underlying4 _) trodAll_mk0)) (ok_one (by kernel_rfl) rfl (okWide_bool_mk Try.underlying4 _))⟩

theorem over : Rows.quotaCopiesRow.holds Try.pinned (OpenSpec.ofChange Rows.quotaCopiesSpec) :=
  OpenClaim.holds_of_wide 5 Try.f5 rfl rfl rfl rfl rfl rfl rfl ⟨rfl, rfl, rfl, rfl, rfl⟩ rfl rfl rfl rfl rfl (by kernel_rfl) Try.func5 (by kernel_rfl)
    (of_decide_eq_true (by kernel_rfl)) (by unfold Func.isWrapper; first | (rw [if_pos (by decide +kernel)]; kernel_rfl) | (rw [if_neg (by decide +kernel)]; exact ⟨rfl, rfl⟩))
    (fun os started H enc _ => lifted os started H enc)

/-- THE STATEMENT -/
theorem proved : Rows.QuotaCopiesSaid :=
  over
#print axioms proved
end Go.Proofs.Ytaafdcimnmfakaa.quotaCopies
