/-
  AssocNil holds: the call returns true and what was there reads as before; by a walker that computes in the kernel (its run cut into parts), and whose soundness is proved in the texts beside this one.
-/
import Derived.Test.YtbnnnekapjbjpaaGreatRows
import Derived.Test.YtbnnnekapjbjpaaGreatSxR
import Derived.Test.YtbnnnekapjbjpaaGreatSxS
import Derived.Test.YtbnnnekapjbjpaaGreatCutAssocNilK1
import Derived.Test.YtbnnnekapjbjpaaGreatCutAssocNilM1
import Derived.WalkKit
import Derived.ProofKit
import Derived.OpenShut
namespace Go.Proofs.YtbnnnekapjbjpaaGreat.assocNil
open Go.Sx Go.ChangeShapes Go.WideShapes Go.ChangeAt Go.RowKit
set_option linter.unusedVariables false

theorem own : ownKnob Tryz.prog.godebug = none := by kernel_rfl

theorem plain : plainNames Tryz.prog = true := by kernel_rfl

theorem ranKnown : allTrue (runCall Tryz.prog true none 300 60 false 20 [] Hp.nil []) = true := Go.Proofs.YtbnnnekapjbjpaaGreat.assocNilCutK.ranCut

theorem knows : Known Tryz.prog (some 20) := by
  intro f hf w
  injection hf with hf
  subst hf
  exact calls_true (dr := true) (kn := none) (fuel := 300) (d := 60) (args := []) (xs := []) (ι := io []) (pc := []) w plain known_none (fun _ call hC => anyOk (by kernel_rfl) plain hC) ranKnown rfl (fun _ h => by cases h)

theorem ran : allTrue (runCall Tryz.prog true (some 20) 300 60 false 3 [] Hp.nil []) = true := Go.Proofs.YtbnnnekapjbjpaaGreat.assocNilCutM.ranCut

theorem walk (w : World) : Calls Tryz.prog 3 #[] w fun e w' => e = .returned (.bool true) ∧ Below w.heap.size w w' := by
  exact calls_true (dr := true) (kn := some 20) (fuel := 300) (d := 60) (args := []) (xs := []) (ι := io []) (pc := []) w plain knows (fun _ call hC => anyOk (by kernel_rfl) plain hC) ran rfl (fun _ h => by cases h)

set_option maxRecDepth 100000 in
theorem lifted (os : Os) (started : os.Started) (H : Type) (enc : TypeId × Value → H) :
    ReturnsInHanded {} Tryz.checked os 3 .any (Rows.assocNilSpec.pre6 enc Tryz.prog Tryz.f3 Rows.assocNilRow.domain false) (Rows.assocNilSpec.post enc Tryz.prog Tryz.f3 false true false false) := by
  refine returnsInHanded_of_change (C := Tryz.checked) own started (by kernel_rfl) Tryz.func3
    (ChangeSpec.witness6 (enc := enc) (C := Tryz.checked) false ⟨#[], #[], []⟩ 8 (by kernel_rfl) (by kernel_rfl) (by kernel_rfl) (by kernel_rfl)) ?_
  intro W base args ds gs before hval0 hW hcnd _
  have hval : ∀ (j : Nat) t v, Tryz.f3.params[j]? = some t → args[j]? = some v → Value.okWide Tryz.prog W .any base t v := hval0
  have hW' := hW
  obtain ⟨p, q, hA0, hV, rfl, hfz, hnd⟩ := hW
  have hA : DataW.TrodAll enc Tryz.prog W 0 (fun _ => true) true Tryz.f3.params.toList args.toList ds p := hA0
  rw [Tryz.params3] at hA hval
  obtain ⟨rfl, rfl, rfl⟩ := trodAll_none hA
  obtain ⟨rfl, rfl⟩ := trodVars_none hV
  clear hA0 hval0
  simp only [List.append_nil] at hW'
  refine (walk W).mono fun e W' ⟨he, hg⟩ => ?_
  subst he
  exact ⟨_, rfl, post_of_none hW' (fun _ _ _ => (trodAll_cons_mk (shut_bool Tryz.underlying4 _) trodAll_mk0)) (fun sp => rfl) (fun _ => rfl)
    (hg.frame _) (ok_one (by kernel_rfl) rfl (okWide_bool_mk Tryz.underlying4 _))⟩

theorem over : Rows.assocNilRow.holds Tryz.pinned (OpenSpec.ofChange Rows.assocNilSpec) :=
  OpenClaim.holds_of_wide 3 Tryz.f3 rfl rfl rfl rfl rfl rfl rfl ⟨rfl, rfl, rfl, rfl, rfl⟩ rfl rfl rfl rfl rfl (by kernel_rfl) Tryz.func3 (by kernel_rfl)
    (of_decide_eq_true (by kernel_rfl)) (by unfold Func.isWrapper; first | (rw [if_pos (by decide +kernel)]; kernel_rfl) | (rw [if_neg (by decide +kernel)]; exact ⟨rfl, rfl⟩))
    (fun os started H enc _ => lifted os started H enc)

/-- THE STATEMENT -/
theorem proved : Rows.AssocNilSaid :=
  over
#print axioms proved
end Go.Proofs.YtbnnnekapjbjpaaGreat.assocNil
