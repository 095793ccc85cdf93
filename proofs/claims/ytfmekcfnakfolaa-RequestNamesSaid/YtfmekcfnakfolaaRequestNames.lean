/-
  RequestNames holds: whatever the input, the call returns true and what it was given reads as before; by a walker that computes in the kernel with unknowns, and whose soundness is proved in the texts beside this one.
-/
import Derived.Test.YtfmekcfnakfolaaRows
import Derived.Test.YtfmekcfnakfolaaSxW
import Derived.WalkKit
import Derived.ProofKit
import Derived.OpenShut
namespace Go.Proofs.Ytfmekcfnakfolaa.requestNames
open Go.Sx Go.ChangeShapes Go.WideShapes Go.ChangeAt Go.RowKit
set_option linter.unusedVariables false

theorem own : ownKnob Try.prog.godebug = none := by kernel_rfl

theorem plain : plainNames Try.prog = true := by kernel_rfl

set_option maxRecDepth 100000 in
theorem ranKnown : allTrue (runCall Try.prog true none 300 60 false 24 [] Hp.nil []) = true := by kernel_rfl

theorem knows : Known Try.prog (some 24) := by
  intro f hf w
  injection hf with hf
  subst hf
  exact calls_true (dr := true) (kn := none) (fuel := 300) (d := 60) (args := []) (xs := []) (ι := io []) (pc := []) w plain known_none (fun _ call hC => anyOk (by kernel_rfl) plain hC) ranKnown rfl (fun _ h => by cases h)

set_option maxRecDepth 100000 in
theorem ranLow : openEnds (runCall Try.prog true (some 24) 300 60 false 5 [.int .i64 (.wrap .i64 (.var 0)), .strv 0] Hp.nil [.cmp .lss (.wrap .i64 (.var 0)) (.lit (0))]) = some [] := by kernel_rfl

set_option maxRecDepth 100000 in
theorem ran0 : openEnds (runCall Try.prog true (some 24) 300 60 false 5 [.int .i64 (.lit (0)), .strv 0] Hp.nil []) = some [] := by kernel_rfl

set_option maxRecDepth 100000 in
theorem ran1 : openEnds (runCall Try.prog true (some 24) 300 60 false 5 [.int .i64 (.lit (1)), .strv 0] Hp.nil []) = some [] := by kernel_rfl

set_option maxRecDepth 100000 in
theorem ran2 : openEnds (runCall Try.prog true (some 24) 300 60 false 5 [.int .i64 (.lit (2)), .strv 0] Hp.nil []) = some [] := by kernel_rfl

set_option maxRecDepth 100000 in
theorem ran3 : openEnds (runCall Try.prog true (some 24) 300 60 false 5 [.int .i64 (.lit (3)), .strv 0] Hp.nil []) = some [] := by kernel_rfl

set_option maxRecDepth 100000 in
theorem ran4 : openEnds (runCall Try.prog true (some 24) 300 60 false 5 [.int .i64 (.lit (4)), .strv 0] Hp.nil []) = some [] := by kernel_rfl

set_option maxRecDepth 100000 in
theorem ran5 : openEnds (runCall Try.prog true (some 24) 300 60 false 5 [.int .i64 (.lit (5)), .strv 0] Hp.nil []) = some [] := by kernel_rfl

set_option maxRecDepth 100000 in
theorem ran6 : openEnds (runCall Try.prog true (some 24) 300 60 false 5 [.int .i64 (.lit (6)), .strv 0] Hp.nil []) = some [] := by kernel_rfl

set_option maxRecDepth 100000 in
theorem ran7 : openEnds (runCall Try.prog true (some 24) 300 60 false 5 [.int .i64 (.lit (7)), .strv 0] Hp.nil []) = some [] := by kernel_rfl

set_option maxRecDepth 100000 in
theorem ran8 : openEnds (runCall Try.prog true (some 24) 300 60 false 5 [.int .i64 (.lit (8)), .strv 0] Hp.nil []) = some [] := by kernel_rfl

set_option maxRecDepth 100000 in
theorem ran9 : openEnds (runCall Try.prog true (some 24) 300 60 false 5 [.int .i64 (.lit (9)), .strv 0] Hp.nil []) = some [] := by kernel_rfl

set_option maxRecDepth 100000 in
theorem ran10 : openEnds (runCall Try.prog true (some 24) 300 60 false 5 [.int .i64 (.lit (10)), .strv 0] Hp.nil []) = some [] := by kernel_rfl

set_option maxRecDepth 100000 in
theorem ran11 : openEnds (runCall Try.prog true (some 24) 300 60 false 5 [.int .i64 (.lit (11)), .strv 0] Hp.nil []) = some [] := by kernel_rfl

set_option maxRecDepth 100000 in
theorem ran12 : openEnds (runCall Try.prog true (some 24) 300 60 false 5 [.int .i64 (.lit (12)), .strv 0] Hp.nil []) = some [] := by kernel_rfl

set_option maxRecDepth 100000 in
theorem ran13 : openEnds (runCall Try.prog true (some 24) 300 60 false 5 [.int .i64 (.lit (13)), .strv 0] Hp.nil []) = some [] := by kernel_rfl

set_option maxRecDepth 100000 in
theorem ran14 : openEnds (runCall Try.prog true (some 24) 300 60 false 5 [.int .i64 (.lit (14)), .strv 0] Hp.nil []) = some [] := by kernel_rfl

set_option maxRecDepth 100000 in
theorem ran15 : openEnds (runCall Try.prog true (some 24) 300 60 false 5 [.int .i64 (.lit (15)), .strv 0] Hp.nil []) = some [] := by kernel_rfl

set_option maxRecDepth 100000 in
theorem ran16 : openEnds (runCall Try.prog true (some 24) 300 60 false 5 [.int .i64 (.lit (16)), .strv 0] Hp.nil []) = some [] := by kernel_rfl

set_option maxRecDepth 100000 in
theorem ran17 : openEnds (runCall Try.prog true (some 24) 300 60 false 5 [.int .i64 (.lit (17)), .strv 0] Hp.nil []) = some [] := by kernel_rfl

set_option maxRecDepth 100000 in
theorem ran18 : openEnds (runCall Try.prog true (some 24) 300 60 false 5 [.int .i64 (.lit (18)), .strv 0] Hp.nil []) = some [] := by kernel_rfl

set_option maxRecDepth 100000 in
theorem ranHigh : openEnds (runCall Try.prog true (some 24) 300 60 false 5 [.int .i64 (.wrap .i64 (.var 0)), .strv 0] Hp.nil [.cmp .gtr (.wrap .i64 (.var 0)) (.lit (18))]) = some [] := by kernel_rfl

theorem walk (vs : List Value) (ι : Unk) (hv : AV.denL ⟨[], [], ι⟩ [.int .i64 (.wrap .i64 (.var 0)), .strv 0] = some vs) (w : World) :
    Calls Try.prog 5 vs.toArray w fun e w' => e = .returned (.bool true) ∧ Below w.heap.size w w' := by
  have hcase : (IE.wrap .i64 (.var 0)).den ι < 0 ∨ (IE.wrap .i64 (.var 0)).den ι = 0 ∨ (IE.wrap .i64 (.var 0)).den ι = 1 ∨ (IE.wrap .i64 (.var 0)).den ι = 2 ∨ (IE.wrap .i64 (.var 0)).den ι = 3 ∨ (IE.wrap .i64 (.var 0)).den ι = 4 ∨ (IE.wrap .i64 (.var 0)).den ι = 5 ∨ (IE.wrap .i64 (.var 0)).den ι = 6 ∨ (IE.wrap .i64 (.var 0)).den ι = 7 ∨ (IE.wrap .i64 (.var 0)).den ι = 8 ∨ (IE.wrap .i64 (.var 0)).den ι = 9 ∨ (IE.wrap .i64 (.var 0)).den ι = 10 ∨ (IE.wrap .i64 (.var 0)).den ι = 11 ∨ (IE.wrap .i64 (.var 0)).den ι = 12 ∨ (IE.wrap .i64 (.var 0)).den ι = 13 ∨ (IE.wrap .i64 (.var 0)).den ι = 14 ∨ (IE.wrap .i64 (.var 0)).den ι = 15 ∨ (IE.wrap .i64 (.var 0)).den ι = 16 ∨ (IE.wrap .i64 (.var 0)).den ι = 17 ∨ (IE.wrap .i64 (.var 0)).den ι = 18 ∨ 18 < (IE.wrap .i64 (.var 0)).den ι := by omega
  rcases hcase with h | h | h | h | h | h | h | h | h | h | h | h | h | h | h | h | h | h | h | h | h
  · exact calls_open (ι := ι) w plain knows (fun _ call hC => anyOk (by kernel_rfl) plain hC) ranLow (fun _ h => by cases h) hv (fun c hc => by rw [List.mem_singleton] at hc; subst hc; exact den_lss.2 (by rw [ie_lit]; exact h))
  · exact calls_open (ι := ι) w plain knows (fun _ call hC => anyOk (by kernel_rfl) plain hC) ran0 (fun _ h => by cases h) (by rw [← hv]; simp only [AV.denL, AV.den, h, ie_lit]) (fun _ h => by cases h)
  · exact calls_open (ι := ι) w plain knows (fun _ call hC => anyOk (by kernel_rfl) plain hC) ran1 (fun _ h => by cases h) (by rw [← hv]; simp only [AV.denL, AV.den, h, ie_lit]) (fun _ h => by cases h)
  · exact calls_open (ι := ι) w plain knows (fun _ call hC => anyOk (by kernel_rfl) plain hC) ran2 (fun _ h => by cases h) (by rw [← hv]; simp only [AV.denL, AV.den, h, ie_lit]) (fun _ h => by cases h)
  · exact calls_open (ι := ι) w plain knows (fun _ call hC => anyOk (by kernel_rfl) plain hC) ran3 (fun _ h => by cases h) (by rw [← hv]; simp only [AV.denL, AV.den, h, ie_lit]) (fun _ h => by cases h)
  · exact calls_open (ι := ι) w plain knows (fun _ call hC => anyOk (by kernel_rfl) plain hC) ran4 (fun _ h => by cases h) (by rw [← hv]; simp only [AV.denL, AV.den, h, ie_lit]) (fun _ h => by cases h)
  · exact calls_open (ι := ι) w plain knows (fun _ call hC => anyOk (by kernel_rfl) plain hC) ran5 (fun _ h => by cases h) (by rw [← hv]; simp only [AV.denL, AV.den, h, ie_lit]) (fun _ h => by cases h)
  · exact calls_open (ι := ι) w plain knows (fun _ call hC => anyOk (by kernel_rfl) plain hC) ran6 (fun _ h => by cases h) (by rw [← hv]; simp only [AV.denL, AV.den, h, ie_lit]) (fun _ h => by cases h)
  · exact calls_open (ι := ι) w plain knows (fun _ call hC => anyOk (by kernel_rfl) plain hC) ran7 (fun _ h => by cases h) (by rw [← hv]; simp only [AV.denL, AV.den, h, ie_lit]) (fun _ h => by cases h)
  · exact calls_open (ι := ι) w plain knows (fun _ call hC => anyOk (by kernel_rfl) plain hC) ran8 (fun _ h => by cases h) (by rw [← hv]; simp only [AV.denL, AV.den, h, ie_lit]) (fun _ h => by cases h)
  · exact calls_open (ι := ι) w plain knows (fun _ call hC => anyOk (by kernel_rfl) plain hC) ran9 (fun _ h => by cases h) (by rw [← hv]; simp only [AV.denL, AV.den, h, ie_lit]) (fun _ h => by cases h)
  · exact calls_open (ι := ι) w plain knows (fun _ call hC => anyOk (by kernel_rfl) plain hC) ran10 (fun _ h => by cases h) (by rw [← hv]; simp only [AV.denL, AV.den, h, ie_lit]) (fun _ h => by cases h)
  · exact calls_open (ι := ι) w plain knows (fun _ call hC => anyOk (by kernel_rfl) plain hC) ran11 (fun _ h => by cases h) (by rw [← hv]; simp only [AV.denL, AV.den, h, ie_lit]) (fun _ h => by cases h)
  · exact calls_open (ι := ι) w plain knows (fun _ call hC => anyOk (by kernel_rfl) plain hC) ran12 (fun _ h => by cases h) (by rw [← hv]; simp only [AV.denL, AV.den, h, ie_lit]) (fun _ h => by cases h)
  · exact calls_open (ι := ι) w plain knows (fun _ call hC => anyOk (by kernel_rfl) plain hC) ran13 (fun _ h => by cases h) (by rw [← hv]; simp only [AV.denL, AV.den, h, ie_lit]) (fun _ h => by cases h)
  · exact calls_open (ι := ι) w plain knows (fun _ call hC => anyOk (by kernel_rfl) plain hC) ran14 (fun _ h => by cases h) (by rw [← hv]; simp only [AV.denL, AV.den, h, ie_lit]) (fun _ h => by cases h)
  · exact calls_open (ι := ι) w plain knows (fun _ call hC => anyOk (by kernel_rfl) plain hC) ran15 (fun _ h => by cases h) (by rw [← hv]; simp only [AV.denL, AV.den, h, ie_lit]) (fun _ h => by cases h)
  · exact calls_open (ι := ι) w plain knows (fun _ call hC => anyOk (by kernel_rfl) plain hC) ran16 (fun _ h => by cases h) (by rw [← hv]; simp only [AV.denL, AV.den, h, ie_lit]) (fun _ h => by cases h)
  · exact calls_open (ι := ι) w plain knows (fun _ call hC => anyOk (by kernel_rfl) plain hC) ran17 (fun _ h => by cases h) (by rw [← hv]; simp only [AV.denL, AV.den, h, ie_lit]) (fun _ h => by cases h)
  · exact calls_open (ι := ι) w plain knows (fun _ call hC => anyOk (by kernel_rfl) plain hC) ran18 (fun _ h => by cases h) (by rw [← hv]; simp only [AV.denL, AV.den, h, ie_lit]) (fun _ h => by cases h)
  · exact calls_open (ι := ι) w plain knows (fun _ call hC => anyOk (by kernel_rfl) plain hC) ranHigh (fun _ h => by cases h) hv (fun c hc => by rw [List.mem_singleton] at hc; subst hc; exact den_gtr.2 (by rw [ie_lit]; exact h))

set_option maxRecDepth 100000 in
theorem lifted (os : Os) (started : os.Started) (H : Type) (enc : TypeId × Value → H) :
    ReturnsInHanded {} Try.checked os 5 .any (Rows.requestNamesSpec.pre6 enc Try.prog Try.f5 Rows.requestNamesRow.domain false) (Rows.requestNamesSpec.post enc Try.prog Try.f5 false true false false) := by
  refine returnsInHanded_of_change (C := Try.checked) own started (by kernel_rfl) Try.func5
    (ChangeSpec.witness6 (enc := enc) (C := Try.checked) false ⟨#[], #[.int .i64 0, .string ⟨#[]⟩], []⟩ 8 (by kernel_rfl) (by kernel_rfl) (by kernel_rfl) (by kernel_rfl)) ?_
  intro W base args ds gs before hval0 hW hcnd _
  have hval : ∀ (j : Nat) t v, Try.f5.params[j]? = some t → args[j]? = some v → Value.okWide Try.prog W .any base t v := hval0
  have hW' := hW
  obtain ⟨p, q, hA0, hV, rfl, hfz, hnd⟩ := hW
  have hA : DataW.TrodAll enc Try.prog W 0 (fun _ => true) true Try.f5.params.toList args.toList ds p := hA0
  rw [Try.params5] at hA hval
  obtain ⟨⟨ι, hι⟩, hpn, hshut⟩ := args_unknowns (show argsA Try.prog 0 0 [3, 9] = some [.int .i64 (.wrap .i64 (.var 0)), .strv 0] by kernel_rfl) (fun j t v h h' => hval j t v (by simpa using h) (by simpa using h')) hA
  obtain ⟨v0, vs0, d0, ds0, p0, q0, hargs, rfl, hp0, h0, r0⟩ := trodAll_cons hA
  obtain ⟨v1, vs1, d1, ds1, p1, q1, rfl, rfl, hp1, h1, r1⟩ := trodAll_cons r0
  obtain ⟨rfl, rfl, hpz⟩ := trodAll_nil r1
  obtain rfl : args = #[v0, v1] := by cases args; simp_all
  obtain ⟨rfl, rfl⟩ := trodVars_none hV
  subst hpn
  refine (walk _ ι hι W).mono fun e W' ⟨he, hg⟩ => ?_
  subst he
  exact ⟨_, rfl, post_of_none hW' (fun _ _ _ => (trodAll_cons_mk (shut_bool Try.underlying4 _) trodAll_mk0)) (fun sp => hshut W' 0 sp true) (fun _ => rfl)
    (hg.frame _) (ok_one (by kernel_rfl) rfl (okWide_bool_mk Try.underlying4 _))⟩

theorem over : Rows.requestNamesRow.holds Try.pinned (OpenSpec.ofChange Rows.requestNamesSpec) :=
  OpenClaim.holds_of_wide 5 Try.f5 rfl rfl rfl rfl rfl rfl rfl ⟨rfl, rfl, rfl, rfl, rfl⟩ rfl rfl rfl rfl rfl (by kernel_rfl) Try.func5 (by kernel_rfl)
    (of_decide_eq_true (by kernel_rfl)) (by unfold Func.isWrapper; first | (rw [if_pos (by decide +kernel)]; kernel_rfl) | (rw [if_neg (by decide +kernel)]; exact ⟨rfl, rfl⟩))
    (fun os started H enc _ => lifted os started H enc)

/-- THE STATEMENT -/
theorem proved : Rows.RequestNamesSaid :=
  over
#print axioms proved
end Go.Proofs.Ytfmekcfnakfolaa.requestNames
