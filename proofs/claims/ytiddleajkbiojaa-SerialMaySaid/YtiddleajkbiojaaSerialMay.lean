/-
  SerialMay holds: whatever the input, the call returns true and what it was given reads as before; by a walker that computes in the kernel with unknowns, and whose soundness is proved in the texts beside this one.
-/
import Derived.Test.YtiddleajkbiojaaRows
import Derived.Test.YtiddleajkbiojaaSxW
import Derived.WalkKit
import Derived.ProofKit
import Derived.OpenShut
namespace Go.Proofs.Ytiddleajkbiojaa.serialMay
open Go.Sx Go.ChangeShapes Go.WideShapes Go.ChangeAt Go.RowKit
set_option linter.unusedVariables false

theorem own : ownKnob Try.prog.godebug = none := by kernel_rfl

theorem plain : plainNames Try.prog = true := by kernel_rfl

set_option maxRecDepth 100000 in
theorem ranKnown : allTrue (runCall Try.prog true none 300 60 false 20 [] ⟨[], 0⟩ []) = true := by kernel_rfl

theorem knows : Known Try.prog (some 20) := by
  intro f hf w
  injection hf with hf
  subst hf
  exact calls_true (dr := true) (kn := none) (fuel := 300) (d := 60) (args := []) (xs := []) (ι := io []) (pc := []) w plain known_none (fun _ call hC => anyOk (by kernel_rfl) plain hC) ranKnown rfl (fun _ h => by cases h)

set_option maxRecDepth 100000 in
theorem ran : openEnds (runCall Try.prog true (some 20) 300 60 false 5 [.int .i64 (.wrap .i64 (.var 0)), .agg [.int .i64 (.wrap .i64 (.var 1)), .int .u64 (.wrap .u64 (.var 2))]] ⟨[], 0⟩ []) = some [((.lit false), [(.not (.cmp .gtr (.wrap .u64 (.var 2)) (.lit (0)))), (.not (.cmp .eql (.wrap .u64 (.var 2)) (.lit (0)))), (.cmp .leq (.wrap .i64 (.var 0)) (.lit (1073741824))), (.cmp .geq (.wrap .i64 (.var 0)) (.lit (1)))])] := by kernel_rfl

theorem ends (ι : Unk) : ∀ q ∈ ([((.lit false), [(.not (.cmp .gtr (.wrap .u64 (.var 2)) (.lit (0)))), (.not (.cmp .eql (.wrap .u64 (.var 2)) (.lit (0)))), (.cmp .leq (.wrap .i64 (.var 0)) (.lit (1073741824))), (.cmp .geq (.wrap .i64 (.var 0)) (.lit (1)))])] : List (BE × List BE)), (∀ c ∈ q.2, c.den ι = true) → q.1.den ι = true := by
  have h1 : 0 ≤ IntKind.u64.wrap (ι.num 2) ∧ IntKind.u64.wrap (ι.num 2) ≤ 18446744073709551615 := by
    have := wrap_range .u64 (ι.num 2)
    simpa [IntKind.min, IntKind.max, IntKind.signed, IntKind.bits] using this
  simp only [List.forall_mem_cons, List.not_mem_nil, false_implies, implies_true, and_true, den_not, den_lit, den_leq, den_gtr, den_geq, den_eql, ie_lit, ie_wrap, ie_var]
  generalize IntKind.u64.wrap (ι.num 2) = x1 at *
  intro hc
  exfalso
  omega


theorem walk (vs : List Value) (ι : Unk) (hv : AV.denL ⟨[], [], ι⟩ [.int .i64 (.wrap .i64 (.var 0)), .agg [.int .i64 (.wrap .i64 (.var 1)), .int .u64 (.wrap .u64 (.var 2))]] = some vs) (w : World) :
    Calls Try.prog 5 vs.toArray w fun e w' => e = .returned (.bool true) ∧ Below w.heap.size w w' := by
  exact calls_open (ι := ι) w plain knows (fun _ call hC => anyOk (by kernel_rfl) plain hC) ran (ends ι) hv (fun _ h => by cases h)

set_option maxRecDepth 100000 in
theorem lifted (os : Os) (started : os.Started) (H : Type) (enc : TypeId × Value → H) :
    ReturnsInHanded {} Try.checked os 5 .any (Rows.serialMaySpec.pre6 enc Try.prog Try.f5 Rows.serialMayRow.domain false) (Rows.serialMaySpec.post enc Try.prog Try.f5 false true false false) := by
  refine returnsInHanded_of_change (C := Try.checked) own started (by kernel_rfl) Try.func5
    (ChangeSpec.witness6 (enc := enc) (C := Try.checked) false ⟨#[], #[.int .i64 0, .agg #[.int .i64 0, .int .u64 0]], []⟩ 8 (by kernel_rfl) (by kernel_rfl) (by kernel_rfl) (by kernel_rfl)) ?_
  intro W base args ds gs before hval0 hW hcnd _
  have hval : ∀ (j : Nat) t v, Try.f5.params[j]? = some t → args[j]? = some v → Value.okWide Try.prog W .any base t v := hval0
  have hW' := hW
  obtain ⟨p, q, hA0, hV, rfl, hfz, hnd⟩ := hW
  have hA : DataW.TrodAll enc Try.prog W 0 (fun _ => true) true Try.f5.params.toList args.toList ds p := hA0
  rw [Try.params5] at hA hval
  obtain ⟨⟨ι, hι⟩, hpn, hshut⟩ := args_unknowns (show argsA Try.prog 0 0 [22, 31] = some [.int .i64 (.wrap .i64 (.var 0)), .agg [.int .i64 (.wrap .i64 (.var 1)), .int .u64 (.wrap .u64 (.var 2))]] by kernel_rfl) (fun j t v h h' => hval j t v (by simpa using h) (by simpa using h')) hA
  obtain ⟨v0, vs0, d0, ds0, p0, q0, hargs, rfl, hp0, h0, r0⟩ := trodAll_cons hA
  obtain ⟨v1, vs1, d1, ds1, p1, q1, rfl, rfl, hp1, h1, r1⟩ := trodAll_cons r0
  obtain ⟨rfl, rfl, hpz⟩ := trodAll_nil r1
  obtain rfl : args = #[v0, v1] := by cases args; simp_all
  obtain ⟨rfl, rfl⟩ := trodVars_none hV
  subst hpn
  refine (walk _ ι hι W).mono fun e W' ⟨he, hg⟩ => ?_
  subst he
  exact ⟨_, rfl, post_of_none hW' (fun _ _ _ => (trodAll_cons_mk (shut_bool Try.underlying4 _) trodAll_mk0)) (fun sp => hshut W' 0 sp true) (fun _ => rfl)
    (hg.frame _) (ok_one (by kernel_rfl) rfl (okWide_bool_mk Try.underlying4 _))⟩

theorem over : Rows.serialMayRow.holds Try.pinned (OpenSpec.ofChange Rows.serialMaySpec) :=
  OpenClaim.holds_of_wide 5 Try.f5 rfl rfl rfl rfl rfl rfl rfl ⟨rfl, rfl, rfl, rfl, rfl⟩ rfl rfl rfl rfl rfl (by kernel_rfl) Try.func5 (by kernel_rfl)
    (of_decide_eq_true (by kernel_rfl)) (by unfold Func.isWrapper; first | (rw [if_pos (by decide +kernel)]; kernel_rfl) | (rw [if_neg (by decide +kernel)]; exact ⟨rfl, rfl⟩))
    (fun os started H enc _ => lifted os started H enc)

/-- THE STATEMENT -/
theorem proved : Rows.SerialMaySaid :=
  over
#print axioms proved
end Go.Proofs.Ytiddleajkbiojaa.serialMay
