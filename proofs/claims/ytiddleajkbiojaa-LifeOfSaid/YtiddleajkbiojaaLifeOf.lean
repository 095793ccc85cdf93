/-
  LifeOf holds: whatever the input, the call returns true and what it was given reads as before; by a walker that computes in the kernel with unknowns, and whose soundness is proved in the texts beside this one.
-/
import Derived.Test.YtiddleajkbiojaaRows
import Derived.Test.YtiddleajkbiojaaSxW
import Derived.WalkKit
import Derived.ProofKit
import Derived.OpenShut
namespace Go.Proofs.Ytiddleajkbiojaa.lifeOf
open Go.Sx Go.ChangeShapes Go.WideShapes Go.ChangeAt Go.RowKit
set_option linter.unusedVariables false

theorem own : ownKnob Try.prog.godebug = none := by kernel_rfl

theorem plain : plainNames Try.prog = true := by kernel_rfl

set_option maxRecDepth 100000 in
theorem ranKnown : allTrue (runCall Try.prog true none 300 60 false 15 [] ⟨[], 0⟩ []) = true := by kernel_rfl

theorem knows : Known Try.prog (some 15) := by
  intro f hf w
  injection hf with hf
  subst hf
  exact calls_true (dr := true) (kn := none) (fuel := 300) (d := 60) (args := []) (xs := []) (ι := io []) (pc := []) w plain known_none (fun _ call hC => anyOk (by kernel_rfl) plain hC) ranKnown rfl (fun _ h => by cases h)

set_option maxRecDepth 100000 in
theorem ran : openEnds (runCall Try.prog true (some 15) 300 60 false 3 [.agg [.int .i64 (.wrap .i64 (.var 0)), .int .i64 (.wrap .i64 (.var 1)), .strv 0, .int .i64 (.wrap .i64 (.var 2)), .int .i64 (.wrap .i64 (.var 3)), .int .u32 (.wrap .u32 (.var 4)), .bool (.cmp .neq (.var 5) (.lit (0))), .bool (.cmp .neq (.var 6) (.lit (0))), .int .u64 (.wrap .u64 (.var 7)), .int .i64 (.wrap .i64 (.var 8)), .int .i64 (.wrap .i64 (.var 9)), .int .i64 (.wrap .i64 (.var 10)), .int .u64 (.wrap .u64 (.var 11)), .int .i64 (.wrap .i64 (.var 12)), .int .i64 (.wrap .i64 (.var 13)), .int .i64 (.wrap .i64 (.var 14)), .int .u64 (.wrap .u64 (.var 15)), .int .i64 (.wrap .i64 (.var 16)), .int .i64 (.wrap .i64 (.var 17)), .int .u64 (.wrap .u64 (.var 18)), .int .u64 (.wrap .u64 (.var 19)), .int .u64 (.wrap .u64 (.var 20))], .int .u64 (.wrap .u64 (.var 21))] ⟨[], 0⟩ []) = some [((.lit false), [(.not (.cmp .geq (.wrap .u64 (.var 21)) (.wrap .u64 (.var 7)))), (.cmp .leq (.wrap .u64 (.var 7)) (.wrap .u64 (.var 21))), (.not (.cmp .neq (.var 5) (.lit (0)))), (.not (.cmp .neq (.var 6) (.lit (0)))), (.cmp .gtr (.wrap .u64 (.var 7)) (.lit (1099511627776))), (.not (.cmp .eql (.wrap .u64 (.var 7)) (.lit (0))))]), ((.lit false), [(.cmp .geq (.wrap .u64 (.var 21)) (.wrap .u64 (.var 7))), (.not (.cmp .leq (.wrap .u64 (.var 7)) (.wrap .u64 (.var 21)))), (.not (.cmp .neq (.var 5) (.lit (0)))), (.not (.cmp .neq (.var 6) (.lit (0)))), (.cmp .gtr (.wrap .u64 (.var 7)) (.lit (1099511627776))), (.not (.cmp .eql (.wrap .u64 (.var 7)) (.lit (0))))]), ((.lit false), [(.not (.cmp .gtr (.wrap .u64 (.var 7)) (.lit (0)))), (.cmp .neq (.var 6) (.lit (0))), (.not (.cmp .gtr (.wrap .u64 (.var 7)) (.lit (1099511627776)))), (.not (.cmp .eql (.wrap .u64 (.var 7)) (.lit (0))))]), ((.lit false), [(.not (.cmp .gtr (.wrap .u64 (.var 7)) (.lit (0)))), (.cmp .neq (.var 5) (.lit (0))), (.not (.cmp .neq (.var 6) (.lit (0)))), (.not (.cmp .gtr (.wrap .u64 (.var 7)) (.lit (1099511627776)))), (.not (.cmp .eql (.wrap .u64 (.var 7)) (.lit (0))))]), ((.lit false), [(.not (.cmp .geq (.wrap .u64 (.var 21)) (.wrap .u64 (.var 7)))), (.cmp .gtr (.wrap .u64 (.var 7)) (.lit (0))), (.cmp .leq (.wrap .u64 (.var 7)) (.wrap .u64 (.var 21))), (.cmp .neq (.wrap .u64 (.var 7)) (.lit (0))), (.not (.cmp .neq (.var 5) (.lit (0)))), (.not (.cmp .neq (.var 6) (.lit (0)))), (.not (.cmp .gtr (.wrap .u64 (.var 7)) (.lit (1099511627776)))), (.not (.cmp .eql (.wrap .u64 (.var 7)) (.lit (0))))]), ((.lit false), [(.not (.cmp .gtr (.wrap .u64 (.var 7)) (.lit (0)))), (.cmp .leq (.wrap .u64 (.var 7)) (.wrap .u64 (.var 21))), (.cmp .neq (.wrap .u64 (.var 7)) (.lit (0))), (.not (.cmp .neq (.var 5) (.lit (0)))), (.not (.cmp .neq (.var 6) (.lit (0)))), (.not (.cmp .gtr (.wrap .u64 (.var 7)) (.lit (1099511627776)))), (.not (.cmp .eql (.wrap .u64 (.var 7)) (.lit (0))))]), ((.lit false), [(.cmp .geq (.wrap .u64 (.var 21)) (.wrap .u64 (.var 7))), (.cmp .gtr (.wrap .u64 (.var 7)) (.lit (0))), (.not (.cmp .leq (.wrap .u64 (.var 7)) (.wrap .u64 (.var 21)))), (.cmp .neq (.wrap .u64 (.var 7)) (.lit (0))), (.not (.cmp .neq (.var 5) (.lit (0)))), (.not (.cmp .neq (.var 6) (.lit (0)))), (.not (.cmp .gtr (.wrap .u64 (.var 7)) (.lit (1099511627776)))), (.not (.cmp .eql (.wrap .u64 (.var 7)) (.lit (0))))]), ((.lit false), [(.not (.cmp .gtr (.wrap .u64 (.var 7)) (.lit (0)))), (.not (.cmp .leq (.wrap .u64 (.var 7)) (.wrap .u64 (.var 21)))), (.cmp .neq (.wrap .u64 (.var 7)) (.lit (0))), (.not (.cmp .neq (.var 5) (.lit (0)))), (.not (.cmp .neq (.var 6) (.lit (0)))), (.not (.cmp .gtr (.wrap .u64 (.var 7)) (.lit (1099511627776)))), (.not (.cmp .eql (.wrap .u64 (.var 7)) (.lit (0))))]), ((.lit false), [(.not (.cmp .neq (.wrap .u64 (.var 7)) (.lit (0)))), (.not (.cmp .neq (.var 5) (.lit (0)))), (.not (.cmp .neq (.var 6) (.lit (0)))), (.not (.cmp .gtr (.wrap .u64 (.var 7)) (.lit (1099511627776)))), (.not (.cmp .eql (.wrap .u64 (.var 7)) (.lit (0))))])] := by kernel_rfl

theorem ends (ι : Unk) : ∀ q ∈ ([((.lit false), [(.not (.cmp .geq (.wrap .u64 (.var 21)) (.wrap .u64 (.var 7)))), (.cmp .leq (.wrap .u64 (.var 7)) (.wrap .u64 (.var 21))), (.not (.cmp .neq (.var 5) (.lit (0)))), (.not (.cmp .neq (.var 6) (.lit (0)))), (.cmp .gtr (.wrap .u64 (.var 7)) (.lit (1099511627776))), (.not (.cmp .eql (.wrap .u64 (.var 7)) (.lit (0))))]), ((.lit false), [(.cmp .geq (.wrap .u64 (.var 21)) (.wrap .u64 (.var 7))), (.not (.cmp .leq (.wrap .u64 (.var 7)) (.wrap .u64 (.var 21)))), (.not (.cmp .neq (.var 5) (.lit (0)))), (.not (.cmp .neq (.var 6) (.lit (0)))), (.cmp .gtr (.wrap .u64 (.var 7)) (.lit (1099511627776))), (.not (.cmp .eql (.wrap .u64 (.var 7)) (.lit (0))))]), ((.lit false), [(.not (.cmp .gtr (.wrap .u64 (.var 7)) (.lit (0)))), (.cmp .neq (.var 6) (.lit (0))), (.not (.cmp .gtr (.wrap .u64 (.var 7)) (.lit (1099511627776)))), (.not (.cmp .eql (.wrap .u64 (.var 7)) (.lit (0))))]), ((.lit false), [(.not (.cmp .gtr (.wrap .u64 (.var 7)) (.lit (0)))), (.cmp .neq (.var 5) (.lit (0))), (.not (.cmp .neq (.var 6) (.lit (0)))), (.not (.cmp .gtr (.wrap .u64 (.var 7)) (.lit (1099511627776)))), (.not (.cmp .eql (.wrap .u64 (.var 7)) (.lit (0))))]), ((.lit false), [(.not (.cmp .geq (.wrap .u64 (.var 21)) (.wrap .u64 (.var 7)))), (.cmp .gtr (.wrap .u64 (.var 7)) (.lit (0))), (.cmp .leq (.wrap .u64 (.var 7)) (.wrap .u64 (.var 21))), (.cmp .neq (.wrap .u64 (.var 7)) (.lit (0))), (.not (.cmp .neq (.var 5) (.lit (0)))), (.not (.cmp .neq (.var 6) (.lit (0)))), (.not (.cmp .gtr (.wrap .u64 (.var 7)) (.lit (1099511627776)))), (.not (.cmp .eql (.wrap .u64 (.var 7)) (.lit (0))))]), ((.lit false), [(.not (.cmp .gtr (.wrap .u64 (.var 7)) (.lit (0)))), (.cmp .leq (.wrap .u64 (.var 7)) (.wrap .u64 (.var 21))), (.cmp .neq (.wrap .u64 (.var 7)) (.lit (0))), (.not (.cmp .neq (.var 5) (.lit (0)))), (.not (.cmp .neq (.var 6) (.lit (0)))), (.not (.cmp .gtr (.wrap .u64 (.var 7)) (.lit (1099511627776)))), (.not (.cmp .eql (.wrap .u64 (.var 7)) (.lit (0))))]), ((.lit false), [(.cmp .geq (.wrap .u64 (.var 21)) (.wrap .u64 (.var 7))), (.cmp .gtr (.wrap .u64 (.var 7)) (.lit (0))), (.not (.cmp .leq (.wrap .u64 (.var 7)) (.wrap .u64 (.var 21)))), (.cmp .neq (.wrap .u64 (.var 7)) (.lit (0))), (.not (.cmp .neq (.var 5) (.lit (0)))), (.not (.cmp .neq (.var 6) (.lit (0)))), (.not (.cmp .gtr (.wrap .u64 (.var 7)) (.lit (1099511627776)))), (.not (.cmp .eql (.wrap .u64 (.var 7)) (.lit (0))))]), ((.lit false), [(.not (.cmp .gtr (.wrap .u64 (.var 7)) (.lit (0)))), (.not (.cmp .leq (.wrap .u64 (.var 7)) (.wrap .u64 (.var 21)))), (.cmp .neq (.wrap .u64 (.var 7)) (.lit (0))), (.not (.cmp .neq (.var 5) (.lit (0)))), (.not (.cmp .neq (.var 6) (.lit (0)))), (.not (.cmp .gtr (.wrap .u64 (.var 7)) (.lit (1099511627776)))), (.not (.cmp .eql (.wrap .u64 (.var 7)) (.lit (0))))]), ((.lit false), [(.not (.cmp .neq (.wrap .u64 (.var 7)) (.lit (0)))), (.not (.cmp .neq (.var 5) (.lit (0)))), (.not (.cmp .neq (.var 6) (.lit (0)))), (.not (.cmp .gtr (.wrap .u64 (.var 7)) (.lit (1099511627776)))), (.not (.cmp .eql (.wrap .u64 (.var 7)) (.lit (0))))])] : List (BE × List BE)), (∀ c ∈ q.2, c.den ι = true) → q.1.den ι = true := by
  have h1 : 0 ≤ IntKind.u64.wrap (ι.num 7) ∧ IntKind.u64.wrap (ι.num 7) ≤ 18446744073709551615 := by
    have := wrap_range .u64 (ι.num 7)
    simpa [IntKind.min, IntKind.max, IntKind.signed, IntKind.bits] using this
  have h2 : 0 ≤ IntKind.u64.wrap (ι.num 21) ∧ IntKind.u64.wrap (ι.num 21) ≤ 18446744073709551615 := by
    have := wrap_range .u64 (ι.num 21)
    simpa [IntKind.min, IntKind.max, IntKind.signed, IntKind.bits] using this
  have h3 : 0 ≤ IntKind.u64.wrap (ι.num 22) ∧ IntKind.u64.wrap (ι.num 22) ≤ 18446744073709551615 := by
    have := wrap_range .u64 (ι.num 22)
    simpa [IntKind.min, IntKind.max, IntKind.signed, IntKind.bits] using this
  simp only [List.forall_mem_cons, List.not_mem_nil, false_implies, implies_true, and_true, den_not, den_lit, den_lss, den_leq, den_gtr, den_geq, den_eql, den_neq, ie_lit, ie_wrap, ie_var, ie_add, ie_sub]
  generalize IntKind.u64.wrap (ι.num 7) = x1 at *
  generalize IntKind.u64.wrap (ι.num 21) = x2 at *
  generalize IntKind.u64.wrap (ι.num 22) = x3 at *
  refine ⟨?_, ?_, ?_, ?_, ?_, ?_, ?_, ?_, ?_⟩ <;> (intro hc; exfalso; omega)


theorem walk (vs : List Value) (ι : Unk) (hv : AV.denL ⟨[], [], ι⟩ [.agg [.int .i64 (.wrap .i64 (.var 0)), .int .i64 (.wrap .i64 (.var 1)), .strv 0, .int .i64 (.wrap .i64 (.var 2)), .int .i64 (.wrap .i64 (.var 3)), .int .u32 (.wrap .u32 (.var 4)), .bool (.cmp .neq (.var 5) (.lit (0))), .bool (.cmp .neq (.var 6) (.lit (0))), .int .u64 (.wrap .u64 (.var 7)), .int .i64 (.wrap .i64 (.var 8)), .int .i64 (.wrap .i64 (.var 9)), .int .i64 (.wrap .i64 (.var 10)), .int .u64 (.wrap .u64 (.var 11)), .int .i64 (.wrap .i64 (.var 12)), .int .i64 (.wrap .i64 (.var 13)), .int .i64 (.wrap .i64 (.var 14)), .int .u64 (.wrap .u64 (.var 15)), .int .i64 (.wrap .i64 (.var 16)), .int .i64 (.wrap .i64 (.var 17)), .int .u64 (.wrap .u64 (.var 18)), .int .u64 (.wrap .u64 (.var 19)), .int .u64 (.wrap .u64 (.var 20))], .int .u64 (.wrap .u64 (.var 21))] = some vs) (w : World) :
    Calls Try.prog 3 vs.toArray w fun e w' => e = .returned (.bool true) ∧ Below w.heap.size w w' := by
  exact calls_open (ι := ι) w plain knows (fun _ call hC => anyOk (by kernel_rfl) plain hC) ran (ends ι) hv (fun _ h => by cases h)

set_option maxRecDepth 100000 in
theorem lifted (os : Os) (started : os.Started) (H : Type) (enc : TypeId × Value → H) :
    ReturnsInHanded {} Try.checked os 3 .any (Rows.lifeOfSpec.pre6 enc Try.prog Try.f3 Rows.lifeOfRow.domain false) (Rows.lifeOfSpec.post enc Try.prog Try.f3 false true false false) := by
  refine returnsInHanded_of_change (C := Try.checked) own started (by kernel_rfl) Try.func3
    (ChangeSpec.witness6 (enc := enc) (C := Try.checked) false ⟨#[], #[.agg #[.int .i64 0, .int .i64 0, .string ⟨#[]⟩, .int .i64 0, .int .i64 0, .int .u32 0, .bool false, .bool false, .int .u64 0, .int .i64 0, .int .i64 0, .int .i64 0, .int .u64 0, .int .i64 0, .int .i64 0, .int .i64 0, .int .u64 0, .int .i64 0, .int .i64 0, .int .u64 0, .int .u64 0, .int .u64 0], .int .u64 0], []⟩ 8 (by kernel_rfl) (by kernel_rfl) (by kernel_rfl) (by kernel_rfl)) ?_
  intro W base args ds gs before hval0 hW hcnd _
  have hval : ∀ (j : Nat) t v, Try.f3.params[j]? = some t → args[j]? = some v → Value.okWide Try.prog W .any base t v := hval0
  have hW' := hW
  obtain ⟨p, q, hA0, hV, rfl, hfz, hnd⟩ := hW
  have hA : DataW.TrodAll enc Try.prog W 0 (fun _ => true) true Try.f3.params.toList args.toList ds p := hA0
  rw [Try.params3] at hA hval
  obtain ⟨⟨ι, hι⟩, hpn, hshut⟩ := args_unknowns (show argsA Try.prog 0 0 [36, 28] = some [.agg [.int .i64 (.wrap .i64 (.var 0)), .int .i64 (.wrap .i64 (.var 1)), .strv 0, .int .i64 (.wrap .i64 (.var 2)), .int .i64 (.wrap .i64 (.var 3)), .int .u32 (.wrap .u32 (.var 4)), .bool (.cmp .neq (.var 5) (.lit (0))), .bool (.cmp .neq (.var 6) (.lit (0))), .int .u64 (.wrap .u64 (.var 7)), .int .i64 (.wrap .i64 (.var 8)), .int .i64 (.wrap .i64 (.var 9)), .int .i64 (.wrap .i64 (.var 10)), .int .u64 (.wrap .u64 (.var 11)), .int .i64 (.wrap .i64 (.var 12)), .int .i64 (.wrap .i64 (.var 13)), .int .i64 (.wrap .i64 (.var 14)), .int .u64 (.wrap .u64 (.var 15)), .int .i64 (.wrap .i64 (.var 16)), .int .i64 (.wrap .i64 (.var 17)), .int .u64 (.wrap .u64 (.var 18)), .int .u64 (.wrap .u64 (.var 19)), .int .u64 (.wrap .u64 (.var 20))], .int .u64 (.wrap .u64 (.var 21))] by kernel_rfl) (fun j t v h h' => hval j t v (by simpa using h) (by simpa using h')) hA
  obtain ⟨v0, vs0, d0, ds0, p0, q0, hargs, rfl, hp0, h0, r0⟩ := trodAll_cons hA
  obtain ⟨v1, vs1, d1, ds1, p1, q1, rfl, rfl, hp1, h1, r1⟩ := trodAll_cons r0
  obtain ⟨rfl, rfl, hpz⟩ := trodAll_nil r1
  obtain rfl : args = #[v0, v1] := by cases args; simp_all
  obtain ⟨rfl, rfl⟩ := trodVars_none hV
  subst hpn
  refine (walk _ ι hι W).mono fun e W' ⟨he, hg⟩ => ?_
  subst he
  exact ⟨_, rfl, post_of_none hW' (fun _ _ _ => (trodAll_cons_mk (shut_bool Try.underlying4 _) trodAll_mk0)) (fun sp => hshut W' 0 sp true) (fun _ => rfl)
    (hg.frame _) (ok_one (by kernel_rfl) rfl (okWide_bool_mk Try.underlying4 _))⟩

theorem over : Rows.lifeOfRow.holds Try.pinned (OpenSpec.ofChange Rows.lifeOfSpec) :=
  OpenClaim.holds_of_wide 3 Try.f3 rfl rfl rfl rfl rfl rfl rfl ⟨rfl, rfl, rfl, rfl, rfl⟩ rfl rfl rfl rfl rfl (by kernel_rfl) Try.func3 (by kernel_rfl)
    (of_decide_eq_true (by kernel_rfl)) (by unfold Func.isWrapper; first | (rw [if_pos (by decide +kernel)]; kernel_rfl) | (rw [if_neg (by decide +kernel)]; exact ⟨rfl, rfl⟩))
    (fun os started H enc _ => lifted os started H enc)

/-- THE STATEMENT -/
theorem proved : Rows.LifeOfSaid :=
  over
#print axioms proved
end Go.Proofs.Ytiddleajkbiojaa.lifeOf
