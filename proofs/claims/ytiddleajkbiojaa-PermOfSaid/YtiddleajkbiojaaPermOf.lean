/-
  PermOf holds: whatever the input, the call returns true and what it was given reads as before; by a walker that computes in the kernel with unknowns, and whose soundness is proved in the texts beside this one.
-/
import Derived.Test.YtiddleajkbiojaaRows
import Derived.Test.YtiddleajkbiojaaSxW
import Derived.WalkKit
import Derived.ProofKit
import Derived.OpenShut
namespace Go.Proofs.Ytiddleajkbiojaa.permOf
open Go.Sx Go.ChangeShapes Go.WideShapes Go.ChangeAt Go.RowKit
set_option linter.unusedVariables false

theorem own : ownKnob Try.prog.godebug = none := by kernel_rfl

theorem plain : plainNames Try.prog = true := by kernel_rfl

set_option maxRecDepth 100000 in
theorem ranKnown : allTrue (runCall Try.prog true none 300 60 false 28 [] ⟨[], 0⟩ []) = true := by kernel_rfl

theorem knows : Known Try.prog (some 28) := by
  intro f hf w
  injection hf with hf
  subst hf
  exact calls_true (dr := true) (kn := none) (fuel := 300) (d := 60) (args := []) (xs := []) (ι := io []) (pc := []) w plain known_none (fun _ call hC => anyOk (by kernel_rfl) plain hC) ranKnown rfl (fun _ h => by cases h)

set_option maxRecDepth 100000 in
theorem ran : openEnds (runCall Try.prog true (some 28) 300 60 false 9 [.agg [.int .u8 (.wrap .u8 (.var 0)), .int .u8 (.wrap .u8 (.var 1)), .int .u8 (.wrap .u8 (.var 2)), .int .u8 (.wrap .u8 (.var 3))], .int .i64 (.wrap .i64 (.var 4))] ⟨[], 0⟩ []) = some [((.lit false), [(.cmp .neq (.bin .or .u32 (.bin .shl .u32 (.bin .or .u32 (.bin .shl .u32 (.bin .or .u32 (.bin .shl .u32 (.bin .or .u32 (.lit (0)) (.wrap .u8 (.var 0))) (.lit (8))) (.wrap .u8 (.var 1))) (.lit (8))) (.wrap .u8 (.var 2))) (.lit (8))) (.wrap .u8 (.var 3))) (.wrap .u32 (.bin .add .i64 (.bin .mul .i64 (.lit (256)) (.bin .add .i64 (.bin .mul .i64 (.lit (256)) (.bin .add .i64 (.bin .mul .i64 (.lit (256)) (.bin .add .i64 (.lit (0)) (.wrap .u8 (.var 0)))) (.wrap .u8 (.var 1)))) (.wrap .u8 (.var 2)))) (.wrap .u8 (.var 3))))), (.not (.cmp .gtr (.wrap .u8 (.var 3)) (.lit (63)))), (.not (.cmp .gtr (.wrap .u8 (.var 2)) (.lit (63)))), (.not (.cmp .gtr (.wrap .u8 (.var 1)) (.lit (63)))), (.not (.cmp .gtr (.wrap .u8 (.var 0)) (.lit (63))))]), ((.lit false), [(.cmp .gtr (.wrap .u8 (.bin .shr .u32 (.bin .or .u32 (.bin .shl .u32 (.bin .or .u32 (.bin .shl .u32 (.bin .or .u32 (.bin .shl .u32 (.bin .or .u32 (.lit (0)) (.wrap .u8 (.var 0))) (.lit (8))) (.wrap .u8 (.var 1))) (.lit (8))) (.wrap .u8 (.var 2))) (.lit (8))) (.wrap .u8 (.var 3))) (.lit (24)))) (.lit (63))), (.not (.cmp .neq (.bin .or .u32 (.bin .shl .u32 (.bin .or .u32 (.bin .shl .u32 (.bin .or .u32 (.bin .shl .u32 (.bin .or .u32 (.lit (0)) (.wrap .u8 (.var 0))) (.lit (8))) (.wrap .u8 (.var 1))) (.lit (8))) (.wrap .u8 (.var 2))) (.lit (8))) (.wrap .u8 (.var 3))) (.wrap .u32 (.bin .add .i64 (.bin .mul .i64 (.lit (256)) (.bin .add .i64 (.bin .mul .i64 (.lit (256)) (.bin .add .i64 (.bin .mul .i64 (.lit (256)) (.bin .add .i64 (.lit (0)) (.wrap .u8 (.var 0)))) (.wrap .u8 (.var 1)))) (.wrap .u8 (.var 2)))) (.wrap .u8 (.var 3)))))), (.not (.cmp .gtr (.wrap .u8 (.var 3)) (.lit (63)))), (.not (.cmp .gtr (.wrap .u8 (.var 2)) (.lit (63)))), (.not (.cmp .gtr (.wrap .u8 (.var 1)) (.lit (63)))), (.not (.cmp .gtr (.wrap .u8 (.var 0)) (.lit (63))))]), ((.lit false), [(.cmp .gtr (.wrap .u8 (.bin .shr .u32 (.bin .or .u32 (.bin .shl .u32 (.bin .or .u32 (.bin .shl .u32 (.bin .or .u32 (.bin .shl .u32 (.bin .or .u32 (.lit (0)) (.wrap .u8 (.var 0))) (.lit (8))) (.wrap .u8 (.var 1))) (.lit (8))) (.wrap .u8 (.var 2))) (.lit (8))) (.wrap .u8 (.var 3))) (.lit (16)))) (.lit (63))), (.not (.cmp .gtr (.wrap .u8 (.bin .shr .u32 (.bin .or .u32 (.bin .shl .u32 (.bin .or .u32 (.bin .shl .u32 (.bin .or .u32 (.bin .shl .u32 (.bin .or .u32 (.lit (0)) (.wrap .u8 (.var 0))) (.lit (8))) (.wrap .u8 (.var 1))) (.lit (8))) (.wrap .u8 (.var 2))) (.lit (8))) (.wrap .u8 (.var 3))) (.lit (24)))) (.lit (63)))), (.not (.cmp .neq (.bin .or .u32 (.bin .shl .u32 (.bin .or .u32 (.bin .shl .u32 (.bin .or .u32 (.bin .shl .u32 (.bin .or .u32 (.lit (0)) (.wrap .u8 (.var 0))) (.lit (8))) (.wrap .u8 (.var 1))) (.lit (8))) (.wrap .u8 (.var 2))) (.lit (8))) (.wrap .u8 (.var 3))) (.wrap .u32 (.bin .add .i64 (.bin .mul .i64 (.lit (256)) (.bin .add .i64 (.bin .mul .i64 (.lit (256)) (.bin .add .i64 (.bin .mul .i64 (.lit (256)) (.bin .add .i64 (.lit (0)) (.wrap .u8 (.var 0)))) (.wrap .u8 (.var 1)))) (.wrap .u8 (.var 2)))) (.wrap .u8 (.var 3)))))), (.not (.cmp .gtr (.wrap .u8 (.var 3)) (.lit (63)))), (.not (.cmp .gtr (.wrap .u8 (.var 2)) (.lit (63)))), (.not (.cmp .gtr (.wrap .u8 (.var 1)) (.lit (63)))), (.not (.cmp .gtr (.wrap .u8 (.var 0)) (.lit (63))))]), ((.lit false), [(.cmp .gtr (.wrap .u8 (.bin .shr .u32 (.bin .or .u32 (.bin .shl .u32 (.bin .or .u32 (.bin .shl .u32 (.bin .or .u32 (.bin .shl .u32 (.bin .or .u32 (.lit (0)) (.wrap .u8 (.var 0))) (.lit (8))) (.wrap .u8 (.var 1))) (.lit (8))) (.wrap .u8 (.var 2))) (.lit (8))) (.wrap .u8 (.var 3))) (.lit (8)))) (.lit (63))), (.not (.cmp .gtr (.wrap .u8 (.bin .shr .u32 (.bin .or .u32 (.bin .shl .u32 (.bin .or .u32 (.bin .shl .u32 (.bin .or .u32 (.bin .shl .u32 (.bin .or .u32 (.lit (0)) (.wrap .u8 (.var 0))) (.lit (8))) (.wrap .u8 (.var 1))) (.lit (8))) (.wrap .u8 (.var 2))) (.lit (8))) (.wrap .u8 (.var 3))) (.lit (16)))) (.lit (63)))), (.not (.cmp .gtr (.wrap .u8 (.bin .shr .u32 (.bin .or .u32 (.bin .shl .u32 (.bin .or .u32 (.bin .shl .u32 (.bin .or .u32 (.bin .shl .u32 (.bin .or .u32 (.lit (0)) (.wrap .u8 (.var 0))) (.lit (8))) (.wrap .u8 (.var 1))) (.lit (8))) (.wrap .u8 (.var 2))) (.lit (8))) (.wrap .u8 (.var 3))) (.lit (24)))) (.lit (63)))), (.not (.cmp .neq (.bin .or .u32 (.bin .shl .u32 (.bin .or .u32 (.bin .shl .u32 (.bin .or .u32 (.bin .shl .u32 (.bin .or .u32 (.lit (0)) (.wrap .u8 (.var 0))) (.lit (8))) (.wrap .u8 (.var 1))) (.lit (8))) (.wrap .u8 (.var 2))) (.lit (8))) (.wrap .u8 (.var 3))) (.wrap .u32 (.bin .add .i64 (.bin .mul .i64 (.lit (256)) (.bin .add .i64 (.bin .mul .i64 (.lit (256)) (.bin .add .i64 (.bin .mul .i64 (.lit (256)) (.bin .add .i64 (.lit (0)) (.wrap .u8 (.var 0)))) (.wrap .u8 (.var 1)))) (.wrap .u8 (.var 2)))) (.wrap .u8 (.var 3)))))), (.not (.cmp .gtr (.wrap .u8 (.var 3)) (.lit (63)))), (.not (.cmp .gtr (.wrap .u8 (.var 2)) (.lit (63)))), (.not (.cmp .gtr (.wrap .u8 (.var 1)) (.lit (63)))), (.not (.cmp .gtr (.wrap .u8 (.var 0)) (.lit (63))))]), ((.lit false), [(.cmp .gtr (.wrap .u8 (.bin .or .u32 (.bin .shl .u32 (.bin .or .u32 (.bin .shl .u32 (.bin .or .u32 (.bin .shl .u32 (.bin .or .u32 (.lit (0)) (.wrap .u8 (.var 0))) (.lit (8))) (.wrap .u8 (.var 1))) (.lit (8))) (.wrap .u8 (.var 2))) (.lit (8))) (.wrap .u8 (.var 3)))) (.lit (63))), (.not (.cmp .gtr (.wrap .u8 (.bin .shr .u32 (.bin .or .u32 (.bin .shl .u32 (.bin .or .u32 (.bin .shl .u32 (.bin .or .u32 (.bin .shl .u32 (.bin .or .u32 (.lit (0)) (.wrap .u8 (.var 0))) (.lit (8))) (.wrap .u8 (.var 1))) (.lit (8))) (.wrap .u8 (.var 2))) (.lit (8))) (.wrap .u8 (.var 3))) (.lit (8)))) (.lit (63)))), (.not (.cmp .gtr (.wrap .u8 (.bin .shr .u32 (.bin .or .u32 (.bin .shl .u32 (.bin .or .u32 (.bin .shl .u32 (.bin .or .u32 (.bin .shl .u32 (.bin .or .u32 (.lit (0)) (.wrap .u8 (.var 0))) (.lit (8))) (.wrap .u8 (.var 1))) (.lit (8))) (.wrap .u8 (.var 2))) (.lit (8))) (.wrap .u8 (.var 3))) (.lit (16)))) (.lit (63)))), (.not (.cmp .gtr (.wrap .u8 (.bin .shr .u32 (.bin .or .u32 (.bin .shl .u32 (.bin .or .u32 (.bin .shl .u32 (.bin .or .u32 (.bin .shl .u32 (.bin .or .u32 (.lit (0)) (.wrap .u8 (.var 0))) (.lit (8))) (.wrap .u8 (.var 1))) (.lit (8))) (.wrap .u8 (.var 2))) (.lit (8))) (.wrap .u8 (.var 3))) (.lit (24)))) (.lit (63)))), (.not (.cmp .neq (.bin .or .u32 (.bin .shl .u32 (.bin .or .u32 (.bin .shl .u32 (.bin .or .u32 (.bin .shl .u32 (.bin .or .u32 (.lit (0)) (.wrap .u8 (.var 0))) (.lit (8))) (.wrap .u8 (.var 1))) (.lit (8))) (.wrap .u8 (.var 2))) (.lit (8))) (.wrap .u8 (.var 3))) (.wrap .u32 (.bin .add .i64 (.bin .mul .i64 (.lit (256)) (.bin .add .i64 (.bin .mul .i64 (.lit (256)) (.bin .add .i64 (.bin .mul .i64 (.lit (256)) (.bin .add .i64 (.lit (0)) (.wrap .u8 (.var 0)))) (.wrap .u8 (.var 1)))) (.wrap .u8 (.var 2)))) (.wrap .u8 (.var 3)))))), (.not (.cmp .gtr (.wrap .u8 (.var 3)) (.lit (63)))), (.not (.cmp .gtr (.wrap .u8 (.var 2)) (.lit (63)))), (.not (.cmp .gtr (.wrap .u8 (.var 1)) (.lit (63)))), (.not (.cmp .gtr (.wrap .u8 (.var 0)) (.lit (63))))])] := by kernel_rfl

theorem or_low {x y : Int} (hx : 0 ≤ x) (hx1 : x < 16777216) (hy : 0 ≤ y) (hy1 : y < 256) : (intBin .or .u32 ((intBin .shl .u32 x 8).getD 0) y).getD 0 = x * 256 + y := by
  obtain ⟨a, rfl⟩ := Int.eq_ofNat_of_zero_le hx
  obtain ⟨b, rfl⟩ := Int.eq_ofNat_of_zero_le hy
  have hb : b < 2 ^ 8 := by omega
  have h1 : (intBin .shl .u32 (a : Int) 8).getD 0 = ((a * 256 : Nat) : Int) := by
    simp only [intBin]
    rw [if_neg (by omega)]
    simp only [Option.getD_some, IntKind.wrap_u32, IntKind.bits]
    have : min (Int.toNat 8) 32 = 8 := rfl
    rw [this]
    omega
  rw [h1]
  have h3 : (intBin .or .u32 ((a * 256 : Nat) : Int) (b : Int)).getD 0 = IntKind.u32.wrap ((BitVec.ofInt 32 ((a * 256 : Nat) : Int) ||| BitVec.ofInt 32 (b : Int)).toNat : Int) := rfl
  have h2 : (BitVec.ofInt 32 ((a * 256 : Nat) : Int) ||| BitVec.ofInt 32 (b : Int)).toNat = a * 256 + b := by
    rw [BitVec.toNat_or, BitVec.toNat_ofInt, BitVec.toNat_ofInt]
    have e1 : (((a * 256 : Nat) : Int) % ((2 ^ 32 : Nat) : Int)).toNat = a <<< 8 := by
      rw [Nat.shiftLeft_eq]
      omega
    have e2 : (((b : Nat) : Int) % ((2 ^ 32 : Nat) : Int)).toNat = b := by omega
    rw [e1, e2, ← Nat.shiftLeft_add_eq_or_of_lt hb, Nat.shiftLeft_eq]
  rw [h3, h2, IntKind.wrap_u32]
  omega

theorem or_first {y : Int} (hy : 0 ≤ y) (hy1 : y < 256) : (intBin .or .u32 0 y).getD 0 = y := by
  obtain ⟨b, rfl⟩ := Int.eq_ofNat_of_zero_le hy
  have h3 : (intBin .or .u32 0 (b : Int)).getD 0 = IntKind.u32.wrap ((BitVec.ofInt 32 0 ||| BitVec.ofInt 32 (b : Int)).toNat : Int) := rfl
  have h2 : (BitVec.ofInt 32 0 ||| BitVec.ofInt 32 (b : Int)).toNat = b := by
    rw [BitVec.toNat_or, BitVec.toNat_ofInt, BitVec.toNat_ofInt]
    have e2 : (((b : Nat) : Int) % ((2 ^ 32 : Nat) : Int)).toNat = b := by omega
    rw [e2]
    simp
  rw [h3, h2, IntKind.wrap_u32]
  omega

theorem shr_den {x : Int} (hx : 0 ≤ x) (n : Nat) (hn : n ≤ 32) : (intBin .shr .u32 x n).getD 0 = x / (2 ^ n : Nat) := by
  simp only [intBin]
  rw [if_neg (by omega)]
  simp only [Option.getD_some, Int.toNat_natCast]
  have hm : min n IntKind.u32.bits = n := Nat.min_eq_left hn
  rw [hm, Int.fdiv_eq_ediv_of_nonneg _ (by exact_mod_cast Nat.zero_le _)]
  norm_cast

theorem ends (ι : Unk) : ∀ q ∈ ([((.lit false), [(.cmp .neq (.bin .or .u32 (.bin .shl .u32 (.bin .or .u32 (.bin .shl .u32 (.bin .or .u32 (.bin .shl .u32 (.bin .or .u32 (.lit (0)) (.wrap .u8 (.var 0))) (.lit (8))) (.wrap .u8 (.var 1))) (.lit (8))) (.wrap .u8 (.var 2))) (.lit (8))) (.wrap .u8 (.var 3))) (.wrap .u32 (.bin .add .i64 (.bin .mul .i64 (.lit (256)) (.bin .add .i64 (.bin .mul .i64 (.lit (256)) (.bin .add .i64 (.bin .mul .i64 (.lit (256)) (.bin .add .i64 (.lit (0)) (.wrap .u8 (.var 0)))) (.wrap .u8 (.var 1)))) (.wrap .u8 (.var 2)))) (.wrap .u8 (.var 3))))), (.not (.cmp .gtr (.wrap .u8 (.var 3)) (.lit (63)))), (.not (.cmp .gtr (.wrap .u8 (.var 2)) (.lit (63)))), (.not (.cmp .gtr (.wrap .u8 (.var 1)) (.lit (63)))), (.not (.cmp .gtr (.wrap .u8 (.var 0)) (.lit (63))))]), ((.lit false), [(.cmp .gtr (.wrap .u8 (.bin .shr .u32 (.bin .or .u32 (.bin .shl .u32 (.bin .or .u32 (.bin .shl .u32 (.bin .or .u32 (.bin .shl .u32 (.bin .or .u32 (.lit (0)) (.wrap .u8 (.var 0))) (.lit (8))) (.wrap .u8 (.var 1))) (.lit (8))) (.wrap .u8 (.var 2))) (.lit (8))) (.wrap .u8 (.var 3))) (.lit (24)))) (.lit (63))), (.not (.cmp .neq (.bin .or .u32 (.bin .shl .u32 (.bin .or .u32 (.bin .shl .u32 (.bin .or .u32 (.bin .shl .u32 (.bin .or .u32 (.lit (0)) (.wrap .u8 (.var 0))) (.lit (8))) (.wrap .u8 (.var 1))) (.lit (8))) (.wrap .u8 (.var 2))) (.lit (8))) (.wrap .u8 (.var 3))) (.wrap .u32 (.bin .add .i64 (.bin .mul .i64 (.lit (256)) (.bin .add .i64 (.bin .mul .i64 (.lit (256)) (.bin .add .i64 (.bin .mul .i64 (.lit (256)) (.bin .add .i64 (.lit (0)) (.wrap .u8 (.var 0)))) (.wrap .u8 (.var 1)))) (.wrap .u8 (.var 2)))) (.wrap .u8 (.var 3)))))), (.not (.cmp .gtr (.wrap .u8 (.var 3)) (.lit (63)))), (.not (.cmp .gtr (.wrap .u8 (.var 2)) (.lit (63)))), (.not (.cmp .gtr (.wrap .u8 (.var 1)) (.lit (63)))), (.not (.cmp .gtr (.wrap .u8 (.var 0)) (.lit (63))))]), ((.lit false), [(.cmp .gtr (.wrap .u8 (.bin .shr .u32 (.bin .or .u32 (.bin .shl .u32 (.bin .or .u32 (.bin .shl .u32 (.bin .or .u32 (.bin .shl .u32 (.bin .or .u32 (.lit (0)) (.wrap .u8 (.var 0))) (.lit (8))) (.wrap .u8 (.var 1))) (.lit (8))) (.wrap .u8 (.var 2))) (.lit (8))) (.wrap .u8 (.var 3))) (.lit (16)))) (.lit (63))), (.not (.cmp .gtr (.wrap .u8 (.bin .shr .u32 (.bin .or .u32 (.bin .shl .u32 (.bin .or .u32 (.bin .shl .u32 (.bin .or .u32 (.bin .shl .u32 (.bin .or .u32 (.lit (0)) (.wrap .u8 (.var 0))) (.lit (8))) (.wrap .u8 (.var 1))) (.lit (8))) (.wrap .u8 (.var 2))) (.lit (8))) (.wrap .u8 (.var 3))) (.lit (24)))) (.lit (63)))), (.not (.cmp .neq (.bin .or .u32 (.bin .shl .u32 (.bin .or .u32 (.bin .shl .u32 (.bin .or .u32 (.bin .shl .u32 (.bin .or .u32 (.lit (0)) (.wrap .u8 (.var 0))) (.lit (8))) (.wrap .u8 (.var 1))) (.lit (8))) (.wrap .u8 (.var 2))) (.lit (8))) (.wrap .u8 (.var 3))) (.wrap .u32 (.bin .add .i64 (.bin .mul .i64 (.lit (256)) (.bin .add .i64 (.bin .mul .i64 (.lit (256)) (.bin .add .i64 (.bin .mul .i64 (.lit (256)) (.bin .add .i64 (.lit (0)) (.wrap .u8 (.var 0)))) (.wrap .u8 (.var 1)))) (.wrap .u8 (.var 2)))) (.wrap .u8 (.var 3)))))), (.not (.cmp .gtr (.wrap .u8 (.var 3)) (.lit (63)))), (.not (.cmp .gtr (.wrap .u8 (.var 2)) (.lit (63)))), (.not (.cmp .gtr (.wrap .u8 (.var 1)) (.lit (63)))), (.not (.cmp .gtr (.wrap .u8 (.var 0)) (.lit (63))))]), ((.lit false), [(.cmp .gtr (.wrap .u8 (.bin .shr .u32 (.bin .or .u32 (.bin .shl .u32 (.bin .or .u32 (.bin .shl .u32 (.bin .or .u32 (.bin .shl .u32 (.bin .or .u32 (.lit (0)) (.wrap .u8 (.var 0))) (.lit (8))) (.wrap .u8 (.var 1))) (.lit (8))) (.wrap .u8 (.var 2))) (.lit (8))) (.wrap .u8 (.var 3))) (.lit (8)))) (.lit (63))), (.not (.cmp .gtr (.wrap .u8 (.bin .shr .u32 (.bin .or .u32 (.bin .shl .u32 (.bin .or .u32 (.bin .shl .u32 (.bin .or .u32 (.bin .shl .u32 (.bin .or .u32 (.lit (0)) (.wrap .u8 (.var 0))) (.lit (8))) (.wrap .u8 (.var 1))) (.lit (8))) (.wrap .u8 (.var 2))) (.lit (8))) (.wrap .u8 (.var 3))) (.lit (16)))) (.lit (63)))), (.not (.cmp .gtr (.wrap .u8 (.bin .shr .u32 (.bin .or .u32 (.bin .shl .u32 (.bin .or .u32 (.bin .shl .u32 (.bin .or .u32 (.bin .shl .u32 (.bin .or .u32 (.lit (0)) (.wrap .u8 (.var 0))) (.lit (8))) (.wrap .u8 (.var 1))) (.lit (8))) (.wrap .u8 (.var 2))) (.lit (8))) (.wrap .u8 (.var 3))) (.lit (24)))) (.lit (63)))), (.not (.cmp .neq (.bin .or .u32 (.bin .shl .u32 (.bin .or .u32 (.bin .shl .u32 (.bin .or .u32 (.bin .shl .u32 (.bin .or .u32 (.lit (0)) (.wrap .u8 (.var 0))) (.lit (8))) (.wrap .u8 (.var 1))) (.lit (8))) (.wrap .u8 (.var 2))) (.lit (8))) (.wrap .u8 (.var 3))) (.wrap .u32 (.bin .add .i64 (.bin .mul .i64 (.lit (256)) (.bin .add .i64 (.bin .mul .i64 (.lit (256)) (.bin .add .i64 (.bin .mul .i64 (.lit (256)) (.bin .add .i64 (.lit (0)) (.wrap .u8 (.var 0)))) (.wrap .u8 (.var 1)))) (.wrap .u8 (.var 2)))) (.wrap .u8 (.var 3)))))), (.not (.cmp .gtr (.wrap .u8 (.var 3)) (.lit (63)))), (.not (.cmp .gtr (.wrap .u8 (.var 2)) (.lit (63)))), (.not (.cmp .gtr (.wrap .u8 (.var 1)) (.lit (63)))), (.not (.cmp .gtr (.wrap .u8 (.var 0)) (.lit (63))))]), ((.lit false), [(.cmp .gtr (.wrap .u8 (.bin .or .u32 (.bin .shl .u32 (.bin .or .u32 (.bin .shl .u32 (.bin .or .u32 (.bin .shl .u32 (.bin .or .u32 (.lit (0)) (.wrap .u8 (.var 0))) (.lit (8))) (.wrap .u8 (.var 1))) (.lit (8))) (.wrap .u8 (.var 2))) (.lit (8))) (.wrap .u8 (.var 3)))) (.lit (63))), (.not (.cmp .gtr (.wrap .u8 (.bin .shr .u32 (.bin .or .u32 (.bin .shl .u32 (.bin .or .u32 (.bin .shl .u32 (.bin .or .u32 (.bin .shl .u32 (.bin .or .u32 (.lit (0)) (.wrap .u8 (.var 0))) (.lit (8))) (.wrap .u8 (.var 1))) (.lit (8))) (.wrap .u8 (.var 2))) (.lit (8))) (.wrap .u8 (.var 3))) (.lit (8)))) (.lit (63)))), (.not (.cmp .gtr (.wrap .u8 (.bin .shr .u32 (.bin .or .u32 (.bin .shl .u32 (.bin .or .u32 (.bin .shl .u32 (.bin .or .u32 (.bin .shl .u32 (.bin .or .u32 (.lit (0)) (.wrap .u8 (.var 0))) (.lit (8))) (.wrap .u8 (.var 1))) (.lit (8))) (.wrap .u8 (.var 2))) (.lit (8))) (.wrap .u8 (.var 3))) (.lit (16)))) (.lit (63)))), (.not (.cmp .gtr (.wrap .u8 (.bin .shr .u32 (.bin .or .u32 (.bin .shl .u32 (.bin .or .u32 (.bin .shl .u32 (.bin .or .u32 (.bin .shl .u32 (.bin .or .u32 (.lit (0)) (.wrap .u8 (.var 0))) (.lit (8))) (.wrap .u8 (.var 1))) (.lit (8))) (.wrap .u8 (.var 2))) (.lit (8))) (.wrap .u8 (.var 3))) (.lit (24)))) (.lit (63)))), (.not (.cmp .neq (.bin .or .u32 (.bin .shl .u32 (.bin .or .u32 (.bin .shl .u32 (.bin .or .u32 (.bin .shl .u32 (.bin .or .u32 (.lit (0)) (.wrap .u8 (.var 0))) (.lit (8))) (.wrap .u8 (.var 1))) (.lit (8))) (.wrap .u8 (.var 2))) (.lit (8))) (.wrap .u8 (.var 3))) (.wrap .u32 (.bin .add .i64 (.bin .mul .i64 (.lit (256)) (.bin .add .i64 (.bin .mul .i64 (.lit (256)) (.bin .add .i64 (.bin .mul .i64 (.lit (256)) (.bin .add .i64 (.lit (0)) (.wrap .u8 (.var 0)))) (.wrap .u8 (.var 1)))) (.wrap .u8 (.var 2)))) (.wrap .u8 (.var 3)))))), (.not (.cmp .gtr (.wrap .u8 (.var 3)) (.lit (63)))), (.not (.cmp .gtr (.wrap .u8 (.var 2)) (.lit (63)))), (.not (.cmp .gtr (.wrap .u8 (.var 1)) (.lit (63)))), (.not (.cmp .gtr (.wrap .u8 (.var 0)) (.lit (63))))])] : List (BE × List BE)), (∀ c ∈ q.2, c.den ι = true) → q.1.den ι = true := by
  have h0 : 0 ≤ IntKind.u8.wrap (ι.num 0) ∧ IntKind.u8.wrap (ι.num 0) ≤ 255 := by
    have := wrap_range .u8 (ι.num 0)
    simpa [IntKind.min, IntKind.max, IntKind.signed, IntKind.bits] using this
  have h1 : 0 ≤ IntKind.u8.wrap (ι.num 1) ∧ IntKind.u8.wrap (ι.num 1) ≤ 255 := by
    have := wrap_range .u8 (ι.num 1)
    simpa [IntKind.min, IntKind.max, IntKind.signed, IntKind.bits] using this
  have h2 : 0 ≤ IntKind.u8.wrap (ι.num 2) ∧ IntKind.u8.wrap (ι.num 2) ≤ 255 := by
    have := wrap_range .u8 (ι.num 2)
    simpa [IntKind.min, IntKind.max, IntKind.signed, IntKind.bits] using this
  have h3 : 0 ≤ IntKind.u8.wrap (ι.num 3) ∧ IntKind.u8.wrap (ι.num 3) ≤ 255 := by
    have := wrap_range .u8 (ι.num 3)
    simpa [IntKind.min, IntKind.max, IntKind.signed, IntKind.bits] using this
  have e0 := or_first h0.1 (by omega)
  have e1 := or_low h0.1 (by omega) h1.1 (by omega)
  have e2 := or_low (x := IntKind.u8.wrap (ι.num 0) * 256 + IntKind.u8.wrap (ι.num 1)) (by omega) (by omega) h2.1 (by omega)
  have e3 := or_low (x := (IntKind.u8.wrap (ι.num 0) * 256 + IntKind.u8.wrap (ι.num 1)) * 256 + IntKind.u8.wrap (ι.num 2)) (by omega) (by omega) h3.1 (by omega)
  have s24 : (intBin .shr .u32 (((IntKind.u8.wrap (ι.num 0) * 256 + IntKind.u8.wrap (ι.num 1)) * 256 + IntKind.u8.wrap (ι.num 2)) * 256 + IntKind.u8.wrap (ι.num 3)) 24).getD 0 = (((IntKind.u8.wrap (ι.num 0) * 256 + IntKind.u8.wrap (ι.num 1)) * 256 + IntKind.u8.wrap (ι.num 2)) * 256 + IntKind.u8.wrap (ι.num 3)) / 16777216 := shr_den (by omega) 24 (by omega)
  have s16 : (intBin .shr .u32 (((IntKind.u8.wrap (ι.num 0) * 256 + IntKind.u8.wrap (ι.num 1)) * 256 + IntKind.u8.wrap (ι.num 2)) * 256 + IntKind.u8.wrap (ι.num 3)) 16).getD 0 = (((IntKind.u8.wrap (ι.num 0) * 256 + IntKind.u8.wrap (ι.num 1)) * 256 + IntKind.u8.wrap (ι.num 2)) * 256 + IntKind.u8.wrap (ι.num 3)) / 65536 := shr_den (by omega) 16 (by omega)
  have s8 : (intBin .shr .u32 (((IntKind.u8.wrap (ι.num 0) * 256 + IntKind.u8.wrap (ι.num 1)) * 256 + IntKind.u8.wrap (ι.num 2)) * 256 + IntKind.u8.wrap (ι.num 3)) 8).getD 0 = (((IntKind.u8.wrap (ι.num 0) * 256 + IntKind.u8.wrap (ι.num 1)) * 256 + IntKind.u8.wrap (ι.num 2)) * 256 + IntKind.u8.wrap (ι.num 3)) / 256 := shr_den (by omega) 8 (by omega)
  simp only [List.forall_mem_cons, List.not_mem_nil, false_implies, implies_true, and_true, den_not, den_lit, den_lss, den_leq, den_gtr, den_geq, den_eql, den_neq, ie_lit, ie_wrap, ie_var, ie_add, ie_sub, ie_mul]
  simp only [BE.den, IE.den, intCmp, Option.getD_some] at *
  simp only [e0, e1, e2, e3, s24, s16, s8]
  clear e0 e1 e2 e3 s24 s16 s8
  generalize IntKind.u8.wrap (ι.num 0) = x0 at *
  generalize IntKind.u8.wrap (ι.num 1) = x1 at *
  generalize IntKind.u8.wrap (ι.num 2) = x2 at *
  generalize IntKind.u8.wrap (ι.num 3) = x3 at *
  simp only [IntKind.wrap_u32, IntKind.wrap_i64, IntKind.wrap_u8]
  refine ⟨?_, ?_, ?_, ?_, ?_⟩ <;> (intro hc; exfalso; omega)


theorem walk (vs : List Value) (ι : Unk) (hv : AV.denL ⟨[], [], ι⟩ [.agg [.int .u8 (.wrap .u8 (.var 0)), .int .u8 (.wrap .u8 (.var 1)), .int .u8 (.wrap .u8 (.var 2)), .int .u8 (.wrap .u8 (.var 3))], .int .i64 (.wrap .i64 (.var 4))] = some vs) (w : World) :
    Calls Try.prog 9 vs.toArray w fun e w' => e = .returned (.bool true) ∧ Below w.heap.size w w' := by
  exact calls_open (ι := ι) w plain knows (fun _ call hC => anyOk (by kernel_rfl) plain hC) ran (ends ι) hv (fun _ h => by cases h)

set_option maxRecDepth 100000 in
theorem lifted (os : Os) (started : os.Started) (H : Type) (enc : TypeId × Value → H) :
    ReturnsInHanded {} Try.checked os 9 .any (Rows.permOfSpec.pre6 enc Try.prog Try.f9 Rows.permOfRow.domain false) (Rows.permOfSpec.post enc Try.prog Try.f9 false true false false) := by
  refine returnsInHanded_of_change (C := Try.checked) own started (by kernel_rfl) Try.func9
    (ChangeSpec.witness6 (enc := enc) (C := Try.checked) false ⟨#[], #[.agg #[.int .u8 0, .int .u8 0, .int .u8 0, .int .u8 0], .int .i64 0], []⟩ 8 (by kernel_rfl) (by kernel_rfl) (by kernel_rfl) (by kernel_rfl)) ?_
  intro W base args ds gs before hval0 hW hcnd _
  have hval : ∀ (j : Nat) t v, Try.f9.params[j]? = some t → args[j]? = some v → Value.okWide Try.prog W .any base t v := hval0
  have hW' := hW
  obtain ⟨p, q, hA0, hV, rfl, hfz, hnd⟩ := hW
  have hA : DataW.TrodAll enc Try.prog W 0 (fun _ => true) true Try.f9.params.toList args.toList ds p := hA0
  rw [Try.params9] at hA hval
  obtain ⟨⟨ι, hι⟩, hpn, hshut⟩ := args_unknowns (show argsA Try.prog 0 0 [69, 3] = some [.agg [.int .u8 (.wrap .u8 (.var 0)), .int .u8 (.wrap .u8 (.var 1)), .int .u8 (.wrap .u8 (.var 2)), .int .u8 (.wrap .u8 (.var 3))], .int .i64 (.wrap .i64 (.var 4))] by kernel_rfl) (fun j t v h h' => hval j t v (by simpa using h) (by simpa using h')) hA
  obtain ⟨v0, vs0, d0, ds0, p0, q0, hargs, rfl, hp0, h0, r0⟩ := trodAll_cons hA
  obtain ⟨v1, vs1, d1, ds1, p1, q1, rfl, rfl, hp1, h1, r1⟩ := trodAll_cons r0
  obtain ⟨rfl, rfl, hpz⟩ := trodAll_nil r1
  obtain rfl : args = #[v0, v1] := by cases args; simp_all
  obtain ⟨rfl, rfl⟩ := trodVars_none hV
  subst hpn
  refine (walk _ ι hι W).mono fun e W' ⟨he, hg⟩ => ?_
  subst he
  exact ⟨_, rfl, post_of_none hW' (fun _ _ _ => (trodAll_cons_mk (shut_bool Try.underlying4 _) trodAll_mk0)) (fun sp => hshut W' 0 sp true) (fun _ => rfl)
    (hg.frame _) (ok_one (by kernel_rfl) rfl (okWide_bool_mk Try.underlying4 _))⟩

theorem over : Rows.permOfRow.holds Try.pinned (OpenSpec.ofChange Rows.permOfSpec) :=
  OpenClaim.holds_of_wide 9 Try.f9 rfl rfl rfl rfl rfl rfl rfl ⟨rfl, rfl, rfl, rfl, rfl⟩ rfl rfl rfl rfl rfl (by kernel_rfl) Try.func9 (by kernel_rfl)
    (of_decide_eq_true (by kernel_rfl)) (by unfold Func.isWrapper; first | (rw [if_pos (by decide +kernel)]; kernel_rfl) | (rw [if_neg (by decide +kernel)]; exact ⟨rfl, rfl⟩))
    (fun os started H enc _ => lifted os started H enc)

/-- THE STATEMENT -/
theorem proved : Rows.PermOfSaid :=
  over
#print axioms proved
end Go.Proofs.Ytiddleajkbiojaa.permOf
