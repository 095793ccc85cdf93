/-
  The closed facts of a great program: its rows, part by part.
-/
import Derived.Test.YtobmdlcdemolpaaGreatDoorRows
import Derived.WalkKit
import Derived.ProofKit
import Derived.OpenShut
import Derived.JoinedOf
namespace Go.Proofs.YtobmdlcdemolpaaGreatDoor.machineNilRows
theorem rows0 : (List.range' 0 60).all (rowFine Tryz.prog) = true := by kernel_rfl
theorem rows1 : (List.range' 60 60).all (rowFine Tryz.prog) = true := by kernel_rfl
theorem rows2 : (List.range' 120 60).all (rowFine Tryz.prog) = true := by kernel_rfl
theorem rows3 : (List.range' 180 60).all (rowFine Tryz.prog) = true := by kernel_rfl
theorem rows4 : (List.range' 240 60).all (rowFine Tryz.prog) = true := by kernel_rfl
theorem rows5 : (List.range' 300 60).all (rowFine Tryz.prog) = true := by kernel_rfl
theorem rows6 : (List.range' 360 60).all (rowFine Tryz.prog) = true := by kernel_rfl
theorem rows7 : (List.range' 420 60).all (rowFine Tryz.prog) = true := by kernel_rfl
theorem rows8 : (List.range' 480 60).all (rowFine Tryz.prog) = true := by kernel_rfl
theorem rows9 : (List.range' 540 60).all (rowFine Tryz.prog) = true := by kernel_rfl
theorem rows10 : (List.range' 600 60).all (rowFine Tryz.prog) = true := by kernel_rfl
theorem rows11 : (List.range' 660 56).all (rowFine Tryz.prog) = true := by kernel_rfl
theorem size : Tryz.prog.types.size = 716 := by kernel_rfl
theorem globals : Tryz.prog.globals.all (fun g => decide (g.type < Tryz.prog.types.size)) = true := by kernel_rfl
theorem funcs : Tryz.prog.funcs.all (fun f => f.params.all fun t => decide (t < Tryz.prog.types.size)) = true := by kernel_rfl
theorem more {a n m : Nat} {f : Nat → Bool} (h : (List.range' a n).all f = true) (h' : (List.range' (a + n) m).all f = true) : (List.range' a (n + m)).all f = true := by
  rw [← List.range'_append_1, List.all_append, h, h']; rfl
theorem upto0 : (List.range' 0 60).all (rowFine Tryz.prog) = true := rows0
theorem upto1 : (List.range' 0 120).all (rowFine Tryz.prog) = true := more (a := 0) (n := 60) (m := 60) upto0 rows1
theorem upto2 : (List.range' 0 180).all (rowFine Tryz.prog) = true := more (a := 0) (n := 120) (m := 60) upto1 rows2
theorem upto3 : (List.range' 0 240).all (rowFine Tryz.prog) = true := more (a := 0) (n := 180) (m := 60) upto2 rows3
theorem upto4 : (List.range' 0 300).all (rowFine Tryz.prog) = true := more (a := 0) (n := 240) (m := 60) upto3 rows4
theorem upto5 : (List.range' 0 360).all (rowFine Tryz.prog) = true := more (a := 0) (n := 300) (m := 60) upto4 rows5
theorem upto6 : (List.range' 0 420).all (rowFine Tryz.prog) = true := more (a := 0) (n := 360) (m := 60) upto5 rows6
theorem upto7 : (List.range' 0 480).all (rowFine Tryz.prog) = true := more (a := 0) (n := 420) (m := 60) upto6 rows7
theorem upto8 : (List.range' 0 540).all (rowFine Tryz.prog) = true := more (a := 0) (n := 480) (m := 60) upto7 rows8
theorem upto9 : (List.range' 0 600).all (rowFine Tryz.prog) = true := more (a := 0) (n := 540) (m := 60) upto8 rows9
theorem upto10 : (List.range' 0 660).all (rowFine Tryz.prog) = true := more (a := 0) (n := 600) (m := 60) upto9 rows10
theorem upto11 : (List.range' 0 716).all (rowFine Tryz.prog) = true := more (a := 0) (n := 660) (m := 56) upto10 rows11
theorem three {a b c : Bool} (h : a = true) (hb : b = true) (hc : c = true) : (a && b && c) = true := by rw [h, hb, hc]; rfl
theorem laidOut : laidOutB Tryz.prog = true := by
  unfold laidOutB
  refine three ?_ globals funcs
  rw [size, List.range_eq_range']
  exact upto11
end Go.Proofs.YtobmdlcdemolpaaGreatDoor.machineNilRows
