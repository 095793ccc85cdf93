/-
  A WALKER THAT COMPUTES: what rules are shown by.
-/
import Derived.Test.YtbgjceknbcpgjaaSzCp
namespace Go.Sx

def ROk (ι : Unk) (r : Rule) : Prop := (∀ b ∈ r.find, b.den ι = true) → (∀ b ∈ r.pre, b.den ι = true) → r.con.den ι = true

theorem rules_of {rs : List Rule} {prd : Nat → List Int → List (List UInt8) → List (List Value) → Prop} (h : ∀ ι : Unk, ι.prd = prd → ∀ r ∈ rs, ROk ι r) (ι : Unk) (hι : ι.prd = prd) : RulesOk rs ι :=
  fun ι' _ _ h3 r hr hf hp => h ι' (h3.trans hι) r hr hf hp

theorem all_append {α : Type} {p : α → Prop} {l m : List α} (h1 : ∀ x ∈ l, p x) (h2 : ∀ x ∈ m, p x) : ∀ x ∈ l ++ m, p x := fun x hx => (List.mem_append.1 hx).elim (h1 x) (h2 x)
theorem all_nil {α : Type} {p : α → Prop} : ∀ x ∈ ([] : List α), p x := fun _ h => by cases h
theorem all_cons {α : Type} {p : α → Prop} {a : α} {l : List α} (h1 : p a) (h2 : ∀ x ∈ l, p x) : ∀ x ∈ a :: l, p x := fun x hx => (List.mem_cons.1 hx).elim (fun e => e ▸ h1) (h2 x)

section
variable {ι : Unk} {a b : IE} {x y : BE}
theorem n_not : (BE.not x).den ι = true ↔ ¬ (x.den ι = true) := by simp [BE.den]
theorem n_same : (BE.same x y).den ι = true ↔ (x.den ι = true ↔ y.den ι = true) := by cases h : x.den ι <;> cases h' : y.den ι <;> simp [BE.den, h, h']
theorem n_lit {c : Bool} : (BE.lit c).den ι = true ↔ c = true := Iff.rfl
theorem n_lss : (BE.cmp .lss a b).den ι = true ↔ a.den ι < b.den ι := by simp only [BE.den, intCmp, Option.getD_some]; exact decide_eq_true_iff
theorem n_leq : (BE.cmp .leq a b).den ι = true ↔ a.den ι ≤ b.den ι := by simp only [BE.den, intCmp, Option.getD_some]; exact decide_eq_true_iff
theorem n_gtr : (BE.cmp .gtr a b).den ι = true ↔ b.den ι < a.den ι := by simp only [BE.den, intCmp, Option.getD_some]; exact decide_eq_true_iff
theorem n_geq : (BE.cmp .geq a b).den ι = true ↔ b.den ι ≤ a.den ι := by simp only [BE.den, intCmp, Option.getD_some]; exact decide_eq_true_iff
theorem n_eql : (BE.cmp .eql a b).den ι = true ↔ a.den ι = b.den ι := by simp [BE.den, intCmp]
theorem n_neq : (BE.cmp .neq a b).den ι = true ↔ a.den ι ≠ b.den ι := by simp [BE.den, intCmp]
theorem n_teq {x y : TX} : (BE.teq x y).den ι = true ↔ x.den ι = y.den ι := by simp [BE.den]
theorem n_isrow {r : Nat} {x : RX} : (BE.isrow r x).den ι = true ↔ ι.fr r = x.den ι := by simp [BE.den]
theorem n_sys {k : Nat} {n : IE} {x y : RX} : (BE.sys k n x y).den ι = true ↔ n.den ι = sysF k (x.den ι) (y.den ι) := by simp [BE.den]
theorem n_rlen {x : RX} : (BE.rlen x a).den ι = true ↔ ((x.den ι).length : Int) = a.den ι := by simp [BE.den]
theorem n_usr {prd : Nat → List Int → List (List UInt8) → List (List Value) → Prop} (hp : ι.prd = prd) {k : Nat} {ns : List IE} {ss : List TX} {rs : List RX} :
    (BE.usr k ns ss rs).den ι = true ↔ prd k (ns.map (·.den ι)) (ss.map (·.den ι)) (rs.map (·.den ι)) := by simp [BE.den, hp]
theorem n_n {n : Int} : (IE.lit n).den ι = n := rfl
theorem n_off : (IE.off a b).den ι = a.den ι + b.den ι := rfl
theorem n_dif : (IE.dif a b).den ι = a.den ι - b.den ι := rfl
theorem n_lin {z o : Nat} : (IE.lin a z o).den ι = a.den ι * z + o := rfl
theorem n_wrap {k : IntKind} : (IE.wrap k a).den ι = k.wrap (a.den ι) := rfl
theorem n_cell {r : Nat} : (IE.cell r a).den ι = cellInt (ι.fr r)[(a.den ι).toNat]? := rfl
theorem n_tlen {r : Nat} : (IE.tlen r).den ι = ((ι.ft r).length : Int) := rfl
end

theorem wrap_u8 (n : Int) : IntKind.u8.wrap n = n % 256 := by
  simp [IntKind.wrap, IntKind.signed, IntKind.bits]
theorem wrap_u16 (n : Int) : IntKind.u16.wrap n = n % 65536 := by
  simp [IntKind.wrap, IntKind.signed, IntKind.bits]
theorem wrap_u32 (n : Int) : IntKind.u32.wrap n = n % 4294967296 := by
  simp [IntKind.wrap, IntKind.signed, IntKind.bits]
theorem wrap_u64 (n : Int) : IntKind.u64.wrap n = n % 18446744073709551616 := by
  simp [IntKind.wrap, IntKind.signed, IntKind.bits]
theorem wrap_i64 {n : Int} (h1 : -9223372036854775808 ≤ n) (h2 : n ≤ 9223372036854775807) : IntKind.i64.wrap n = n :=
  wrap_in .i64 (by rw [show IntKind.i64.min = -9223372036854775808 by decide]; exact h1) (by rw [show IntKind.i64.max = 9223372036854775807 by decide]; exact h2)

/-- What bits come to. -/
theorem and_u8 {x n : Int} (hx : 0 ≤ x) (hx2 : x ≤ 255) (hn : 0 ≤ n) (hn2 : n ≤ 255) : (intBin .and .u8 x n).getD 0 = ((x.toNat &&& n.toNat : Nat) : Int) := by
  simp only [intBin, Option.getD_some]
  have e : (BitVec.ofInt IntKind.u8.bits x &&& BitVec.ofInt IntKind.u8.bits n).toNat = x.toNat &&& n.toNat := by
    rw [BitVec.toNat_and, BitVec.toNat_ofInt, BitVec.toNat_ofInt, show ((2 ^ IntKind.u8.bits : Nat) : Int) = 256 by decide, Int.emod_eq_of_lt hx (by omega), Int.emod_eq_of_lt hn (by omega)]
  rw [e, wrap_u8]
  have : x.toNat &&& n.toNat ≤ x.toNat := Nat.and_le_left
  omega
theorem or_u8 {x n : Int} (hx : 0 ≤ x) (hx2 : x ≤ 255) (hn : 0 ≤ n) (hn2 : n ≤ 255) : (intBin .or .u8 x n).getD 0 = ((x.toNat ||| n.toNat : Nat) : Int) := by
  simp only [intBin, Option.getD_some]
  have e : (BitVec.ofInt IntKind.u8.bits x ||| BitVec.ofInt IntKind.u8.bits n).toNat = x.toNat ||| n.toNat := by
    rw [BitVec.toNat_or, BitVec.toNat_ofInt, BitVec.toNat_ofInt, show ((2 ^ IntKind.u8.bits : Nat) : Int) = 256 by decide, Int.emod_eq_of_lt hx (by omega), Int.emod_eq_of_lt hn (by omega)]
  rw [e, wrap_u8]
  have : x.toNat ||| n.toNat < 2 ^ 8 := Nat.or_lt_two_pow (by omega) (by omega)
  omega

theorem n_bin {ι : Unk} {op : BinOp} {k : IntKind} {a b : IE} : (IE.bin op k a b).den ι = (intBin op k (a.den ι) (b.den ι)).getD 0 := rfl
theorem quo_i64 {x y : Int} (hx : 0 ≤ x) (hx2 : x ≤ 9223372036854775807) (hy : 0 < y) : (intBin .quo .i64 x y).getD 0 = x / y := by
  have a1 := Int.ediv_nonneg hx (by omega : 0 ≤ y)
  have a2 := Int.ediv_le_self y hx
  simp only [intBin]
  rw [if_neg (by omega), Option.getD_some, Int.tdiv_eq_ediv_of_nonneg hx, wrap_i64 (by omega) (by omega)]
theorem rem_nat {k : IntKind} {x y : Int} (hx : 0 ≤ x) (hy : 0 < y) : (intBin .rem k x y).getD 0 = x % y := by
  simp only [intBin]
  rw [if_neg (by omega), Option.getD_some, Int.tmod_eq_emod_of_nonneg hx]

/-! ### Rows of numbers -/

/-- A number of a row. -/
def numAt (l : List Value) (i : Nat) : Int := cellInt l[i]?
theorem numAt_set {l y : List Value} {o i : Nat} (h : o + y.length ≤ l.length) : numAt (setAt l o y) i = if o ≤ i ∧ i < o + y.length then numAt y (i - o) else numAt l i := by
  simp only [numAt]
  rw [setAt_get h]
  split <;> rfl
theorem setAt_again {l y z : List Value} {o : Nat} (h : o + y.length ≤ l.length) (hz : z.length = y.length) : setAt (setAt l o y) o z = setAt l o z := by
  have h2 : o + z.length ≤ (setAt l o y).length := by rw [setAt_length h]; omega
  apply List.ext_getElem?
  intro i
  rw [setAt_get h2, setAt_get h, setAt_get (by omega), hz]
  split <;> rfl
end Go.Sx
