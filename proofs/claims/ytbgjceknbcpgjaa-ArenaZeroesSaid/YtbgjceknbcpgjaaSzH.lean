/-
  A WALKER THAT COMPUTES, ITS EIGHTH PART: new rows, conversions, appends.
-/
import Derived.Test.YtbgjceknbcpgjaaSzG
namespace Go.Sx
section
variable {P : Program} {E : Env} {B : Bd} {h : Hp} {w : World}

def copiesV (z : List Value) : Nat → List Value
  | 0 => []
  | n + 1 => z ++ copiesV z n

theorem copiesV_length (z : List Value) : ∀ n, (copiesV z n).length = n * z.length
  | 0 => by simp [copiesV]
  | n + 1 => by simp [copiesV, copiesV_length z n, Nat.add_mul, Nat.add_comm]

theorem denL_copies {z : List AV} {l : List Value} (hz : AV.denL E z = some l) : ∀ n, AV.denL E (copies z n) = some (copiesV l n)
  | 0 => by simp [copies, copiesV, AV.denL]
  | n + 1 => denL_append hz (denL_copies hz n)

theorem copiesV_get (z : List Value) : ∀ (n i : Nat), i < n * z.length → (copiesV z n)[i]? = z[i % z.length]?
  | 0, i, hi => by simp at hi
  | n + 1, i, hi => by
    simp only [copiesV]
    by_cases h : i < z.length
    · rw [List.getElem?_append_left h, Nat.mod_eq_of_lt h]
    · rw [List.getElem?_append_right (by omega), copiesV_get z n (i - z.length) (by rw [Nat.add_mul] at hi; omega)]
      rw [← Nat.mod_eq_sub_mod (by omega)]

theorem range_copies (z : Array Value) (n m : Nat) (hm : m = n * z.size) : (Array.range m).map (fun i => z[i % z.size]!) = (copiesV z.toList n).toArray := by
  subst hm
  apply Array.ext'
  apply List.ext_getElem?
  intro i
  by_cases hi : i < n * z.size
  · have hz : 0 < z.size := by
      rcases Nat.eq_zero_or_pos z.size with h0 | h0
      · rw [h0] at hi; simp at hi
      · exact h0
    have hlt := Nat.mod_lt i hz
    have := copiesV_get z.toList n i (by simpa using hi)
    simp only [Array.length_toList] at this
    simp [hi, this, hlt]
  · have := copiesV_length z.toList n
    simp only [Array.length_toList] at this
    rw [List.getElem?_eq_none (by simp; omega), List.getElem?_eq_none (by simp [this]; omega)]

/-- The zero value's cells. -/
theorem zero_cells {t : TypeId} {z : AV} (hz : zero P t = some z) : ∃ i v, P.info? t = some i ∧ i.zero = some v ∧ AV.denL E z.cells = some v.cells.toList ∧ (∀ w, (zeroValue t).run P w = .ok v w) := by
  obtain ⟨i, v, hi, hv, hd⟩ := zero_den (E := E) hz
  exact ⟨i, v, hi, hv, cells_den hd, fun w => run_zeroValue hi hv w⟩

theorem buildSliceA_sound {t : TypeId} {len : Nat} {ps : List (Nat × AV)} {qs : List (Nat × Value)} {e : TypeId} {cs : List AV} (hs : buildSliceA P t len ps = some (e, cs))
    (hp : denP E ps = some qs) : ∃ l, AV.denL E cs = some l ∧ ∀ w, (Instr.buildSlice t len qs.toArray).run P w = .ok (.slice (some ⟨w.heap.size, 0, none⟩) len len) (w.alloc (.cells l.toArray e)) := by
  unfold buildSliceA at hs
  split at hs
  · rename_i e hd
    simp only [Option.bind_eq_bind, Option.bind_eq_some_iff] at hs
    obtain ⟨n, hn, hs⟩ := hs
    split at hs
    · cases hs
    · rename_i hbig
      simp only [Option.bind_eq_some_iff] at hs
      obtain ⟨z, hz, hs⟩ := hs
      split at hs
      · cases hs
      · rename_i hzl
        simp only [Decidable.not_not] at hzl
        simp only [Option.bind_eq_some_iff, Option.pure_def] at hs
        obtain ⟨cs', hcs, hs⟩ := hs
        injection hs with hs
        injection hs with hs1 hs2
        subst hs1
        subst hs2
        obtain ⟨i, zv, hi, hv, hzd, hzr⟩ := zero_cells (P := P) (E := E) hz
        have hzs : zv.cells.size = n := by have := denL_length hzd; simp at this; omega
        obtain ⟨m, hm, hf⟩ := fillA_sound _ _ _ _ _ hcs (denL_copies hzd len) hp
        refine ⟨m, hm, fun w => ?_⟩
        by_cases h0 : len * n = 0
        · have hc0 : copiesV zv.cells.toList len = [] := by
            apply List.eq_nil_of_length_eq_zero
            rw [copiesV_length]
            simp [hzs, h0]
          rw [hc0] at hf
          simp only [Instr.buildSlice, Sem.run_bind, run_underlying hd, Result.andThen_ok, run_size hn, h0, if_true]
          simp [hf, newRow, Array.range_zero']
        · have hr := range_copies zv.cells len (len * n) (by rw [hzs])
          simp only [Instr.buildSlice, Sem.run_bind, run_underlying hd, Result.andThen_ok, run_size hn, if_neg hbig, Sem.run_pure, h0, if_false, hzr]
          simp [hr, hf, newRow]
  · cases hs

theorem wrap_small (n : Int) (h0 : 0 ≤ n) (h1 : n ≤ 2 ^ 30) : IntKind.i64.wrap n = n := IntWalk.i64_in n (by omega)

theorem lit_den {l : AV} {n : Int} {v : Value} (h : lit? l = some n) (hl : l.den E = some v) : ∃ k, v = .int k n := by
  unfold lit? at h
  split at h
  · injection h with h
    subst h
    exact ⟨_, denInt hl⟩
  · cases h

theorem makeSliceA_sound {t : TypeId} {l c : AV} {lv cv : Value} {e : TypeId} {cs : List AV} {ln' cn' : Nat} (hs : makeSliceA P t l c = some (e, cs, ln', cn'))
    (hl : l.den E = some lv) (hc : c.den E = some cv) : ln' ≤ cn' ∧ ∃ m, AV.denL E cs = some m ∧
      ∀ w, (Instr.makeSlice t lv cv).run P w = .ok (.slice (some ⟨w.heap.size, 0, none⟩) ln' cn') (w.alloc (.cells m.toArray e)) := by
  unfold makeSliceA at hs
  split at hs
  · rename_i e hd
    simp only [Option.bind_eq_bind, Option.bind_eq_some_iff] at hs
    obtain ⟨ln, hln, cn, hcn, y, hy, n, hn, z, hz, hs⟩ := hs
    split at hs
    · cases hs
    · rename_i hcond
      simp only [Bool.or_eq_true, decide_eq_true_eq, not_or, Decidable.not_not] at hcond
      obtain ⟨⟨⟨⟨h1, h2⟩, h3⟩, h4⟩, h5⟩ := hcond
      simp only [Option.pure_def, Option.some.injEq, Prod.mk.injEq] at hs
      obtain ⟨rfl, rfl, rfl, rfl⟩ := hs
      obtain ⟨k1, rfl⟩ := lit_den hln hl
      obtain ⟨k2, rfl⟩ := lit_den hcn hc
      obtain ⟨i, hi, hiy⟩ := run_bytes hy
      obtain ⟨i', zv, hi', hv, hzd, hzr⟩ := zero_cells (P := P) (E := E) hz
      have hzs : zv.cells.size = n := by have := denL_length hzd; simp at this; omega
      have hw1 : IntKind.i64.wrap ln = ln := wrap_small ln (by omega) (by omega)
      have hw2 : IntKind.i64.wrap cn = cn := wrap_small cn (by omega) (by omega)
      refine ⟨by omega, _, denL_copies hzd cn.toNat, fun w => ?_⟩
      have hbig : ((i.bytes : Nat) : Int) * cn ≤ 2 ^ 48 := by rw [hiy]; omega
      have hcond2 : ((decide (cn < 0) || decide (((i.bytes : Nat) : Int) * cn > 2 ^ 48)) || decide (ln < 0) || decide (ln > cn)) = false := by
        simp only [Bool.or_eq_false_iff, decide_eq_false_iff_not]
        omega
      simp only [Instr.makeSlice, Sem.run_bind, run_underlying hd, Result.andThen_ok, asInt, asIntOf, Sem.run_pure, typeInfo, run_program, hi, hw1, hw2, hcond2, Bool.false_eq_true, if_false,
        run_askRoom, run_size hn]
      by_cases h0 : cn.toNat * n = 0
      · have hc0 : copiesV zv.cells.toList cn.toNat = [] := by
          apply List.eq_nil_of_length_eq_zero
          rw [copiesV_length]
          simp [hzs, h0]
        simp [newRow, h0, hc0, Array.range_zero']
      · have hr := range_copies zv.cells cn.toNat (cn.toNat * n) (by rw [hzs])
        simp [newRow, h0, hzr, hr]
  · cases hs

end
end Go.Sx
