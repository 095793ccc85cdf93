/-
  No function of a great program starts another run.
-/
import Derived.Test.YtobmdlcdemolpaaGreatDoorRows
import Derived.WalkKit
import Derived.ProofKit
import Derived.OpenShut
import Derived.JoinedOf
import GoSem.ClaimGoes
import Derived.Test.YtobmdlcdemolpaaGreatDoorLaidMachineNil
namespace Go.Proofs.YtobmdlcdemolpaaGreatDoor.machineNilGoes
theorem part0 : (List.range' 0 80).all (fun g => !(Tryz.prog.funcs[g]?).any Func.goes) = true := by kernel_rfl
theorem part1 : (List.range' 80 80).all (fun g => !(Tryz.prog.funcs[g]?).any Func.goes) = true := by kernel_rfl
theorem part2 : (List.range' 160 80).all (fun g => !(Tryz.prog.funcs[g]?).any Func.goes) = true := by kernel_rfl
theorem part3 : (List.range' 240 80).all (fun g => !(Tryz.prog.funcs[g]?).any Func.goes) = true := by kernel_rfl
theorem part4 : (List.range' 320 80).all (fun g => !(Tryz.prog.funcs[g]?).any Func.goes) = true := by kernel_rfl
theorem part5 : (List.range' 400 80).all (fun g => !(Tryz.prog.funcs[g]?).any Func.goes) = true := by kernel_rfl
theorem part6 : (List.range' 480 80).all (fun g => !(Tryz.prog.funcs[g]?).any Func.goes) = true := by kernel_rfl
theorem part7 : (List.range' 560 69).all (fun g => !(Tryz.prog.funcs[g]?).any Func.goes) = true := by kernel_rfl
theorem size : Tryz.prog.funcs.size = 629 := by kernel_rfl
theorem upto0 : (List.range' 0 80).all (fun g => !(Tryz.prog.funcs[g]?).any Func.goes) = true := part0
theorem upto1 : (List.range' 0 160).all (fun g => !(Tryz.prog.funcs[g]?).any Func.goes) = true := machineNilRows.more (a := 0) (n := 80) (m := 80) upto0 part1
theorem upto2 : (List.range' 0 240).all (fun g => !(Tryz.prog.funcs[g]?).any Func.goes) = true := machineNilRows.more (a := 0) (n := 160) (m := 80) upto1 part2
theorem upto3 : (List.range' 0 320).all (fun g => !(Tryz.prog.funcs[g]?).any Func.goes) = true := machineNilRows.more (a := 0) (n := 240) (m := 80) upto2 part3
theorem upto4 : (List.range' 0 400).all (fun g => !(Tryz.prog.funcs[g]?).any Func.goes) = true := machineNilRows.more (a := 0) (n := 320) (m := 80) upto3 part4
theorem upto5 : (List.range' 0 480).all (fun g => !(Tryz.prog.funcs[g]?).any Func.goes) = true := machineNilRows.more (a := 0) (n := 400) (m := 80) upto4 part5
theorem upto6 : (List.range' 0 560).all (fun g => !(Tryz.prog.funcs[g]?).any Func.goes) = true := machineNilRows.more (a := 0) (n := 480) (m := 80) upto5 part6
theorem upto7 : (List.range' 0 629).all (fun g => !(Tryz.prog.funcs[g]?).any Func.goes) = true := machineNilRows.more (a := 0) (n := 560) (m := 69) upto6 part7
theorem none_goes (g : Nat) : (Tryz.prog.funcs[g]?).any Func.goes = false := by
  by_cases h : g < 629
  · have := List.all_eq_true.1 upto7 g (List.mem_range'_1.2 ⟨Nat.zero_le _, by omega⟩)
    simpa using this
  · have : Tryz.prog.funcs[g]? = none := Array.getElem?_eq_none (by rw [size]; omega)
    rw [this]
    rfl
theorem goes_none {P : Program} {c : OpenClaim} {f : FuncId} (hn : P.funcNamed c.func = some f) (hs : c.start = .entering) (h : ∀ g : Nat, (P.funcs[g]?).any Func.goes = false) : false = c.goesBy P := by
  have hf : P.funcs.any Func.goes = false := by
    rw [Array.any_eq_false]
    intro i hi
    have := h i
    rw [Array.getElem?_eq_getElem hi] at this
    simpa using this
  have hg : P.goes f = false := by
    unfold Program.goes
    rw [hf, Bool.and_false, Bool.or_false, List.any_eq_false]
    intro g _
    rw [h g]
    decide
  unfold OpenClaim.goesBy Program.goesAt Program.goesFrom
  rw [hn, hs]
  simp [hg]
end Go.Proofs.YtobmdlcdemolpaaGreatDoor.machineNilGoes
