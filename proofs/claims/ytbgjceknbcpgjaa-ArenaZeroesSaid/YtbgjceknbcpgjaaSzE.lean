/-
  A WALKER THAT COMPUTES, ITS FIFTH PART: parts, bounds, addresses: what asks nothing of memory, to its end.
-/
import Derived.Test.YtbgjceknbcpgjaaSzD
namespace Go.Sx
section
variable {P : Program} {E : Env}

theorem run_size {t : TypeId} {n : Nat} (h : size P t = some n) (w : World) : (sizeOf t).run P w = .ok n w := by
  unfold size at h
  simp only [Option.map_eq_some_iff] at h
  obtain ⟨i, hi, rfl⟩ := h
  simp [sizeOf, typeInfo, hi]

theorem run_bytes {t : TypeId} {n : Nat} (h : bytes P t = some n) : ∃ i, P.info? t = some i ∧ i.bytes = n := by
  unfold bytes at h
  simp only [Option.map_eq_some_iff] at h
  exact h

theorem run_isAgg {t : TypeId} {b : Bool} (h : isAggT P t = some b) (w : World) : (isAgg t).run P w = .ok b w := by
  unfold isAggT at h
  simp only [Option.map_eq_some_iff] at h
  obtain ⟨d, hd, rfl⟩ := h
  cases d <;> simp [isAgg, run_underlying hd]

theorem zero_den {t : TypeId} {z : AV} (h : zero P t = some z) : ∃ i v, P.info? t = some i ∧ i.zero = some v ∧ z.den E = some v := by
  unfold zero at h
  simp only [Option.bind_eq_bind, Option.bind_eq_some_iff] at h
  obtain ⟨i, hi, v, hv, hz⟩ := h
  exact ⟨i, v, hi, hv, ofV_den E hz⟩

theorem run_zeroValue {t : TypeId} {i : TypeInfo} {v : Value} (hi : P.info? t = some i) (hv : i.zero = some v) (w : World) : (zeroValue t).run P w = .ok v w := by
  simp [zeroValue, typeInfo, hi, hv]

theorem partA_sound {t : TypeId} {cs : List AV} {off : Nat} {r : AV} {l : List Value} (h : partA P t cs off = some r) (hl : AV.denL E cs = some l) :
    ∃ z, r.den E = some z ∧ ∀ w, (part t l.toArray off).run P w = .ok z w := by
  unfold partA at h
  simp only [Option.bind_eq_bind, Option.bind_eq_some_iff] at h
  obtain ⟨b, hb, h⟩ := h
  split at h
  · rename_i ht
    simp only [Option.bind_eq_some_iff, Option.pure_def] at h
    obtain ⟨n, hn, h⟩ := h
    injection h with h
    subst h
    refine ⟨_, by simp only [AV.den, denL_take (denL_drop hl off) n, Option.map_some]; rfl, fun w => ?_⟩
    simp [part, run_isAgg hb, ht, run_size hn, List.extract_toArray, List.extract_eq_take_drop]
  · rename_i ht
    obtain ⟨x, hx, hlx⟩ := denL_get hl off r h
    refine ⟨x, hx, fun w => ?_⟩
    simp [part, run_isAgg hb, ht, hlx]

theorem fieldA_sound {t : TypeId} {x r : AV} {f : Nat} {u : Value} (h : fieldA P t x f = some r) (hx : x.den E = some u) :
    ∃ z, r.den E = some z ∧ ∀ w, (Instr.field t u f).run P w = .ok z w := by
  unfold fieldA at h
  split at h
  · rename_i fs cs hd
    obtain ⟨l, hl, rfl⟩ := denAgg hx
    simp only [Option.bind_eq_bind, Option.bind_eq_some_iff] at h
    obtain ⟨fd, hf, h⟩ := h
    obtain ⟨z, hz, hr⟩ := partA_sound h hl
    exact ⟨z, hz, fun w => by simp [Instr.field, run_underlying hd, hf, asAgg, hr]⟩
  · cases h

theorem bytes_get (s : List UInt8) (i : Nat) : (⟨s.toArray⟩ : ByteArray)[i]? = s[i]? := by
  by_cases h : i < s.length
  · have h' : i < (⟨s.toArray⟩ : ByteArray).size := by simpa [ByteArray.size] using h
    rw [getElem?_pos _ i h', getElem?_pos s i h]
    rfl
  · have h' : ¬ i < (⟨s.toArray⟩ : ByteArray).size := by simpa [ByteArray.size] using h
    rw [getElem?_neg _ i h', getElem?_neg s i h]

theorem indexA_sound {t : TypeId} {x i r : AV} {u v : Value} (h : indexA P t x i = some r) (hx : x.den E = some u) (hi : i.den E = some v) :
    ∃ z, r.den E = some z ∧ ∀ w, (Instr.index t u v).run P w = .ok z w := by
  unfold indexA at h
  split at h
  · rename_i k n
    obtain rfl := denInt hi
    simp only [IE.den]
    split at h
    · rename_i len e cs hd
      obtain ⟨l, hl, rfl⟩ := denAgg hx
      split at h
      · rename_i hb
        simp only [Bool.and_eq_true, decide_eq_true_eq] at hb
        simp only [Option.bind_eq_bind, Option.bind_eq_some_iff] at h
        obtain ⟨m, hm, h⟩ := h
        obtain ⟨z, hz, hr⟩ := partA_sound h hl
        exact ⟨z, hz, fun w => by simp [Instr.index, asIntOf, run_underlying hd, hb, run_size hm, hr]⟩
      · cases h
    · rename_i s hd
      obtain rfl := denStr hx
      split at h
      · rename_i hb
        simp only [Option.bind_eq_bind, Option.bind_eq_some_iff, Option.pure_def] at h
        obtain ⟨b, hb', h⟩ := h
        injection h with h
        subst h
        have hb0 : 0 ≤ n := by simpa using hb
        refine ⟨_, by simp [AV.den, IE.den]; rfl, fun w => ?_⟩
        simp [Instr.index, asIntOf, run_underlying hd, hb0, bytes_get, hb']
      · cases h
    · cases h
  · cases h

theorem fieldAddrA_sound {t : TypeId} {x r : AV} {f : Nat} {u : Value} (h : fieldAddrA P t x f = some r) (hx : x.den E = some u) :
    ∃ z, r.den E = some z ∧ ∀ w, (Instr.fieldAt t u f).run P w = .ok z w := by
  unfold fieldAddrA at h
  split at h
  · rename_i fs b o hd
    obtain ⟨c, hc, rfl⟩ := denPtr hx
    simp only [Option.bind_eq_bind, Option.bind_eq_some_iff] at h
    obtain ⟨fd, hf, n, hn, h⟩ := h
    split at h
    · cases h
    · rename_i hn0
      simp only [Option.pure_def] at h
      injection h with h
      subst h
      refine ⟨_, by simp [AV.den, hc]; rfl, fun w => ?_⟩
      simp [Instr.fieldAt, run_underlying hd, hf, Instr.sureAddr, fieldPlace, run_size hn, hn0, Addr.add_lit]
  · rename_i fs b o hd
    obtain rfl := denGlob hx
    simp only [Option.bind_eq_bind, Option.bind_eq_some_iff] at h
    obtain ⟨fd, hf, n, hn, h⟩ := h
    split at h
    · cases h
    · rename_i hn0
      simp only [Option.pure_def] at h
      injection h with h
      subst h
      refine ⟨_, by simp [AV.den]; rfl, fun w => ?_⟩
      simp [Instr.fieldAt, run_underlying hd, hf, Instr.sureAddr, fieldPlace, run_size hn, hn0, Addr.add_lit]
  · cases h

theorem indexAddrA_sound {t : TypeId} {x i r : AV} {u v : Value} (h : indexAddrA P t x i = some r) (hx : x.den E = some u) (hi : i.den E = some v) :
    ∃ z, r.den E = some z ∧ ∀ w, (Instr.indexAt t u v).run P w = .ok z w := by
  unfold indexAddrA at h
  split at h
  · rename_i k n
    obtain rfl := denInt hi
    simp only [IE.den]
    split at h
    · rename_i len e b o hd
      obtain ⟨c, hc, rfl⟩ := denPtr hx
      split at h
      · rename_i hb
        simp only [Bool.and_eq_true, decide_eq_true_eq] at hb
        simp only [Option.bind_eq_bind, Option.bind_eq_some_iff, Option.pure_def] at h
        obtain ⟨m, hm, h⟩ := h
        injection h with h
        subst h
        refine ⟨_, by simp [AV.den, hc]; rfl, fun w => ?_⟩
        simp [Instr.indexAt, asIntOf, run_underlying hd, Instr.sureAddr, hb, run_size hm, Addr.add_lit]
      · cases h
    · rename_i len e b o hd
      obtain rfl := denGlob hx
      split at h
      · rename_i hb
        simp only [Bool.and_eq_true, decide_eq_true_eq] at hb
        simp only [Option.bind_eq_bind, Option.bind_eq_some_iff, Option.pure_def] at h
        obtain ⟨m, hm, h⟩ := h
        injection h with h
        subst h
        refine ⟨_, by simp [AV.den]; rfl, fun w => ?_⟩
        simp [Instr.indexAt, asIntOf, run_underlying hd, Instr.sureAddr, hb, run_size hm, Addr.add_lit]
      · cases h
    · rename_i e b o len cap hd
      obtain ⟨c, m', hc, hm', hl, rfl⟩ := denSlice hx
      split at h
      · rename_i hb
        simp only [Bool.and_eq_true, decide_eq_true_eq] at hb
        simp only [Option.bind_eq_bind, Option.bind_eq_some_iff, Option.pure_def] at h
        obtain ⟨m, hm, h⟩ := h
        injection h with h
        subst h
        refine ⟨_, by simp [AV.den, hc]; rfl, fun w => ?_⟩
        simp [Instr.indexAt, asIntOf, run_underlying hd, hb, run_size hm, Addr.add_lit]
      · cases h
    · cases h
  · cases h

/-! ### Bounds -/

/-- An operand that may be missing. -/
def denO (E : Env) : Option AV → Option Value → Prop
  | none, none => True
  | some a, some v => a.den E = some v
  | _, _ => False

theorem bound_le {x : Option AV} {d y n : Nat} (h : bound x d y = some n) (hd : d ≤ y) : n ≤ y := by
  unfold bound at h
  split at h
  · injection h with h; omega
  · split at h
    · rename_i hb
      simp only [Bool.and_eq_true, decide_eq_true_eq] at hb
      injection h with h
      omega
    · cases h
  · cases h

theorem bound_run {a : AV} {v : Value} {d y y' n : Nat} (h : bound (some a) d y = some n) (ha : a.den E = some v) (hy : y ≤ y') (code : BoundsCode) (w : World) :
    (Instr.sliceBound v y' code).run P w = .ok n w := by
  unfold bound at h
  split at h
  · rename_i h0; cases h0
  · rename_i k i h0
    injection h0 with h0
    subst h0
    obtain rfl := denInt ha
    split at h
    · rename_i hb
      simp only [Bool.and_eq_true, decide_eq_true_eq] at hb
      injection h with h
      subst h
      have h1 : i ≤ (y' : Int) := by omega
      simp [Instr.sliceBound, asIntOf, IE.den, hb, h1]
    · cases h
  · cases h

theorem bounds_run {isSlice : Bool} {len cap : Nat} {lo hi mx : Option AV} {lo' hi' mx' : Option Value} {l h m : Nat} (hlo : denO E lo lo') (hhi : denO E hi hi') (hmx : denO E mx mx')
    (hn : (mx.isSome && hi.isNone) = false) (hm : bound mx cap cap = some m) (hh : bound hi len m = some h) (hl : bound lo 0 h = some l) (w : World) :
    (Instr.sliceBounds isSlice len cap lo' hi' mx').run P w = .ok (l, h, m) w := by
  cases mx with
  | none =>
    cases mx' with
    | some v => exact hmx.elim
    | none =>
      simp only [bound, Option.some.injEq] at hm
      subst hm
      cases hi with
      | none =>
        cases hi' with
        | some v => exact hhi.elim
        | none =>
          simp only [bound, Option.some.injEq] at hh
          subst hh
          cases lo with
          | none =>
            cases lo' with
            | some v => exact hlo.elim
            | none =>
              simp only [bound, Option.some.injEq] at hl
              subst hl
              simp [Instr.sliceBounds]
          | some a =>
            cases lo' with
            | none => exact hlo.elim
            | some v => simp [Instr.sliceBounds, bound_run hl hlo (Nat.le_refl _)]
      | some b =>
        cases hi' with
        | none => exact hhi.elim
        | some u =>
          cases lo with
          | none =>
            cases lo' with
            | some v => exact hlo.elim
            | none =>
              simp only [bound, Option.some.injEq] at hl
              subst hl
              simp [Instr.sliceBounds, bound_run hh hhi (Nat.le_refl _)]
          | some a =>
            cases lo' with
            | none => exact hlo.elim
            | some v => simp [Instr.sliceBounds, bound_run hh hhi (Nat.le_refl _), bound_run hl hlo (Nat.le_refl _)]
  | some c =>
    cases mx' with
    | none => exact hmx.elim
    | some z =>
      cases hi with
      | none => simp at hn
      | some b =>
        cases hi' with
        | none => exact hhi.elim
        | some u =>
          cases lo with
          | none =>
            cases lo' with
            | some v => exact hlo.elim
            | none =>
              simp only [bound, Option.some.injEq] at hl
              subst hl
              simp [Instr.sliceBounds, bound_run hm hmx (Nat.le_refl _), bound_run hh hhi (Nat.le_refl _)]
          | some a =>
            cases lo' with
            | none => exact hlo.elim
            | some v => simp [Instr.sliceBounds, bound_run hm hmx (Nat.le_refl _), bound_run hh hhi (Nat.le_refl _), bound_run hl hlo (Nat.le_refl _)]

/-- The front of a row whose capacity is open. -/
theorem bounds_front {isSlice : Bool} {len cap : Nat} {lo hi : Option AV} {lo' hi' : Option Value} {l h : Nat} (hlo : denO E lo lo') (hhi : denO E hi hi') (hc : len ≤ cap)
    (hh : bound hi len len = some h) (hl : bound lo 0 h = some l) (w : World) :
    (Instr.sliceBounds isSlice len cap lo' hi' none).run P w = .ok (l, h, cap) w := by
  cases hi with
  | none =>
    cases hi' with
    | some v => exact hhi.elim
    | none =>
      simp only [bound, Option.some.injEq] at hh
      subst hh
      cases lo with
      | none =>
        cases lo' with
        | some v => exact hlo.elim
        | none =>
          simp only [bound, Option.some.injEq] at hl
          subst hl
          simp [Instr.sliceBounds]
      | some a =>
        cases lo' with
        | none => exact hlo.elim
        | some v => simp [Instr.sliceBounds, bound_run hl hlo (Nat.le_refl _)]
  | some b =>
    cases hi' with
    | none => exact hhi.elim
    | some u =>
      cases lo with
      | none =>
        cases lo' with
        | some v => exact hlo.elim
        | none =>
          simp only [bound, Option.some.injEq] at hl
          subst hl
          simp [Instr.sliceBounds, bound_run hh hhi hc]
      | some a =>
        cases lo' with
        | none => exact hlo.elim
        | some v => simp [Instr.sliceBounds, bound_run hh hhi hc, bound_run hl hlo (Nat.le_refl _)]

theorem bytes_extract (s : List UInt8) (l h : Nat) : (⟨s.toArray⟩ : ByteArray).extract l h = ⟨((s.drop l).take (h - l)).toArray⟩ := by
  apply ByteArray.ext
  simp [ByteArray.data_extract, List.extract_toArray, List.extract_eq_take_drop]

theorem bound_some_le {a : AV} {d y n : Nat} (h : bound (some a) d y = some n) : n ≤ y := by
  unfold bound at h
  split at h
  · rename_i h0; cases h0
  · split at h
    · rename_i hb
      simp only [Bool.and_eq_true, decide_eq_true_eq] at hb
      injection h with h
      omega
    · cases h
  · cases h

theorem bounds_le {hi mx : Option AV} {len cap h m : Nat} (hc : len ≤ cap) (hn : (mx.isSome && hi.isNone) = false) (hm : bound mx cap cap = some m) (hh : bound hi len m = some h) : h ≤ m := by
  cases hi with
  | some a => exact bound_some_le hh
  | none =>
    cases mx with
    | some q => simp at hn
    | none => simp only [bound, Option.some.injEq] at hm hh; omega

theorem sliceA_sound {t : TypeId} {x r : AV} {lo hi mx : Option AV} {u : Value} {lo' hi' mx' : Option Value} (h : sliceA P t x lo hi mx = some r) (hx : x.den E = some u)
    (hlo : denO E lo lo') (hhi : denO E hi hi') (hmx : denO E mx mx') :
    ∃ z, r.den E = some z ∧ ∀ w, (Instr.sliceAt t u lo' hi' mx').run P w = .ok z w := by
  unfold sliceA at h
  split at h
  · -- a string
    rename_i s hd
    obtain rfl := denStr hx
    split at h
    · cases h
    · rename_i hn
      simp only [Option.bind_eq_bind, Option.bind_eq_some_iff, Option.pure_def] at h
      obtain ⟨e, he, l, hl, h⟩ := h
      injection h with h
      subst h
      cases mx with
      | some a => simp at hn
      | none =>
        cases mx' with
        | some v => exact hmx.elim
        | none =>
          refine ⟨_, by simp [AV.den]; rfl, fun w => ?_⟩
          have hb := bounds_run (P := P) (E := E) (isSlice := false) (mx := none) (mx' := none) hlo hhi trivial (by simp) (by simp [bound]; rfl) he hl w
          have hs : (⟨s.toArray⟩ : ByteArray).size = s.length := by simp [ByteArray.size]
          simp [Instr.sliceAt, Instr.slice, run_underlying hd, hs, hb, bytes_extract]
  · -- a row
    rename_i e b o len cap hd
    obtain ⟨c, n, hc, hn, hle, rfl⟩ := denSlice hx
    simp only [Cap.den, Option.some.injEq] at hn
    subst hn
    split at h
    · cases h
    · rename_i hno
      replace hno := Bool.eq_false_iff.2 hno
      simp only [Option.bind_eq_bind, Option.bind_eq_some_iff, Option.pure_def] at h
      obtain ⟨m, hm, e', he, l, hl, z, hz, h⟩ := h
      injection h with h
      subst h
      have hb := fun w => bounds_run (P := P) (E := E) (isSlice := true) hlo hhi hmx hno hm he hl w
      have hem : e' ≤ m := bounds_le hle hno hm he
      refine ⟨_, by
        simp only [AV.den, hc, Cap.den]
        rw [if_pos (by omega)], fun w => ?_⟩
      simp [Instr.sliceAt, Instr.slice, run_underlying hd, hb, run_size hz]
      split
      · rfl
      · simp [Addr.add_lit]
  · -- a row whose capacity is open
    rename_i e b o len i sb hd
    obtain ⟨c, n, hc, hn, hle, rfl⟩ := denSlice hx
    simp only [Option.bind_eq_bind, Option.bind_eq_some_iff, Option.pure_def] at h
    obtain ⟨z, hz, h⟩ := h
    split at h
    · -- with a bound of its own
      rename_i hmxs
      split at h
      · cases h
      · rename_i hhis
        simp only [Option.bind_eq_some_iff] at h
        obtain ⟨m, hm, e', he, l, hl, h⟩ := h
        injection h with h
        subst h
        cases mx with
        | none => simp at hmxs
        | some q =>
          cases mx' with
          | none => exact hmx.elim
          | some q' =>
            cases hi with
            | none => simp at hhis
            | some u =>
              cases hi' with
              | none => exact hhi.elim
              | some u' =>
                have hb : ∀ w, (Instr.sliceBounds true len n lo' (some u') (some q')).run P w = .ok (l, e', m) w := by
                  intro w
                  cases lo with
                  | none =>
                    cases lo' with
                    | some v => exact hlo.elim
                    | none =>
                      simp only [bound, Option.some.injEq] at hl
                      subst hl
                      simp [Instr.sliceBounds, bound_run hm hmx hle, bound_run he hhi (Nat.le_refl _)]
                  | some a =>
                    cases lo' with
                    | none => exact hlo.elim
                    | some v => simp [Instr.sliceBounds, bound_run hm hmx hle, bound_run he hhi (Nat.le_refl _), bound_run hl hlo (Nat.le_refl _)]
                have hem : e' ≤ m := bound_some_le he
                refine ⟨_, by
                  simp only [AV.den, hc, Cap.den]
                  rw [if_pos (by omega)], fun w => ?_⟩
                simp [Instr.sliceAt, Instr.slice, run_underlying hd, hb, run_size hz]
                split
                · rfl
                · simp [Addr.add_lit]
    · rename_i hno
      simp only [Option.bind_eq_some_iff] at h
      obtain ⟨e', he, l, hl, h⟩ := h
      cases mx with
      | some a => simp at hno
      | none =>
        cases mx' with
        | some v => exact hmx.elim
        | none =>
          have hb := fun w => bounds_front (P := P) (E := E) (isSlice := true) hlo hhi hle he hl w
          have hel := bound_le he (Nat.le_refl _)
          split at h
          · rename_i hl0
            subst hl0
            injection h with h
            subst h
            refine ⟨_, by
              simp only [AV.den, hc, hn]
              rw [if_pos (by omega)], fun w => ?_⟩
            simp [Instr.sliceAt, Instr.slice, run_underlying hd, hb, run_size hz]
            intro _
            simp [Addr.add_lit]
          · split at h
            · rename_i hl0 hll
              injection h with h
              subst h
              have hle' : l ≤ e' := bound_le hl (by omega)
              obtain ⟨k, hk, hs, rfl⟩ := Cap.den_var.1 hn
              have hd2 : (Cap.var i (sb + l)).den E = some (k - sb - l) := Cap.den_var.2 ⟨k, hk, by omega, by omega⟩
              refine ⟨_, by
                simp only [AV.den, hc, hd2]
                rw [if_pos (by omega)], fun w => ?_⟩
              simp [Instr.sliceAt, Instr.slice, run_underlying hd, hb, run_size hz]
              rw [if_neg (by omega)]
              simp [Addr.add_lit]
            · cases h
  · -- no row
    rename_i e hd
    obtain rfl := denNilSlice hx
    split at h
    · cases h
    · rename_i hno
      replace hno := Bool.eq_false_iff.2 hno
      simp only [Option.bind_eq_bind, Option.bind_eq_some_iff, Option.pure_def] at h
      obtain ⟨z, hz, m, hm, e', he, l, hl, h⟩ := h
      injection h with h
      subst h
      have hm0 : m = 0 := by have := bound_le hm (Nat.le_refl _); omega
      subst hm0
      have he0 : e' = 0 := by have := bound_le he (Nat.le_refl _); omega
      subst he0
      have hl0 : l = 0 := by have := bound_le hl (Nat.le_refl _); omega
      subst hl0
      refine ⟨.slice none 0 0, by simp only [AV.den], fun w => ?_⟩
      have hb := bounds_run (P := P) (E := E) (isSlice := true) hlo hhi hmx hno hm he hl w
      simp [Instr.sliceAt, Instr.slice, run_underlying hd, hb, run_size hz]
  · -- an array
    rename_i n e b o hd
    obtain ⟨c, hc, rfl⟩ := denPtr hx
    split at h
    · cases h
    · rename_i hno
      replace hno := Bool.eq_false_iff.2 hno
      simp only [Option.bind_eq_bind, Option.bind_eq_some_iff, Option.pure_def] at h
      obtain ⟨m, hm, e', he, l, hl, z, hz, h⟩ := h
      injection h with h
      subst h
      have hb := fun w => bounds_run (P := P) (E := E) (isSlice := false) hlo hhi hmx hno hm he hl w
      have hem : e' ≤ m := bounds_le (Nat.le_refl _) hno hm he
      refine ⟨_, by
        simp only [AV.den, hc, Cap.den]
        rw [if_pos (by omega)], fun w => ?_⟩
      simp [Instr.sliceAt, Instr.sureAddr, run_underlying hd, hb, run_size hz]
      split
      · rfl
      · simp [Addr.add_lit]
  · cases h

/-! ### Parts laid into cells -/

theorem cells_den {v : AV} {x : Value} (h : v.den E = some x) : AV.denL E v.cells = some x.cells.toList := by
  cases v with
  | agg cs =>
    obtain ⟨l, hl, rfl⟩ := denAgg h
    simpa [AV.cells, Value.cells] using hl
  | bool b => obtain rfl := denBool h; simp [AV.cells, AV.denL, h, Value.cells]
  | int k e => obtain rfl := denInt h; simp [AV.cells, AV.denL, h, Value.cells]
  | str s => obtain rfl := denStr h; simp [AV.cells, AV.denL, h, Value.cells]
  | nilPtr => obtain rfl := denNilPtr h; simp [AV.cells, AV.denL, h, Value.cells]
  | ptr b o => obtain ⟨c, hc, rfl⟩ := denPtr h; simp [AV.cells, AV.denL, h, Value.cells]
  | nilSlice => obtain rfl := denNilSlice h; simp [AV.cells, AV.denL, h, Value.cells]
  | slice b o l c => obtain ⟨c, n, hc, hn, hl, rfl⟩ := denSlice h; simp [AV.cells, AV.denL, h, Value.cells]
  | nilMap => obtain rfl := denNilMap h; simp [AV.cells, AV.denL, h, Value.cells]
  | map b => obtain ⟨c, hc, rfl⟩ := denMap h; simp [AV.cells, AV.denL, h, Value.cells]
  | func f a b => obtain ⟨c, n, hc, hn, rfl⟩ := denFunc h; simp [AV.cells, AV.denL, h, Value.cells]
  | nilFunc => obtain rfl := denNilFunc h; simp [AV.cells, AV.denL, h, Value.cells]
  | iface t v => obtain ⟨c, hc, rfl⟩ := denIface h; simp [AV.cells, AV.denL, h, Value.cells]
  | nilIface => obtain rfl := denNilIface h; simp [AV.cells, AV.denL, h, Value.cells]
  | tuple vs => obtain ⟨c, hc, rfl⟩ := denTuple h; simp [AV.cells, AV.denL, h, Value.cells]
  | yield b => obtain ⟨c, hc, rfl⟩ := denYield h; simp [AV.cells, AV.denL, h, Value.cells]
  | strv i => obtain rfl := denStrv h; simp [AV.cells, AV.denL, h, Value.cells]
  | capv i s => obtain ⟨c, hc, rfl⟩ := denCapv h; simp [AV.cells, AV.denL, h, Value.cells]
  | glob g o => obtain rfl := denGlob h; simp [AV.cells, AV.denL, h, Value.cells]
  | txt x => obtain ⟨rfl, _⟩ := denTxt h; simp [AV.cells, AV.denL, h, Value.cells]
  | sl b z q o l c => obtain ⟨_, _, c, hc, rfl⟩ := denSl h; simp [AV.cells, AV.denL, h, Value.cells]
  | ptrs b z q i o => obtain ⟨_, _, c, hc, rfl⟩ := denPtrs h; simp [AV.cells, AV.denL, h, Value.cells]

theorem cells_length {v : AV} {x : Value} (h : v.den E = some x) : x.cells.size = v.cells.length := by
  have := denL_length (cells_den h)
  simpa using this

/-- Values laid from a place on. -/
def setL (l : List Value) (o : Nat) : List Value → List Value
  | [] => l
  | x :: r => setL (l.set o x) (o + 1) r

theorem denL_setMany : ∀ (vs : List AV) (o : Nat) (xs : List Value) (cs : List AV) (l : List Value), AV.denL E vs = some xs → AV.denL E cs = some l →
    AV.denL E (setMany cs o vs) = some (setL l o xs)
  | [], o, xs, cs, l, hv, hc => by simp [AV.denL] at hv; subst hv; simpa [setMany, setL] using hc
  | v :: r, o, xs, cs, l, hv, hc => by
    obtain ⟨x, m, hx, hm, rfl⟩ := denL_cons.1 hv
    exact denL_setMany r (o + 1) m _ _ hm (denL_set hc o v x hx)

theorem foldl_setL (off : Nat) : ∀ (xs : List Value) (k : Nat) (c : Array Value),
    (xs.zipIdx k).foldl (fun cs (p : Value × Nat) => cs.setIfInBounds (off + p.2) p.1) c = (setL c.toList (off + k) xs).toArray
  | [], k, c => by simp [setL]
  | x :: r, k, c => by
    simp only [List.zipIdx_cons, List.foldl_cons, setL]
    rw [foldl_setL off r (k + 1)]
    simp [Nat.add_assoc]

theorem fillA_sound {place : Nat → Option (Nat × Nat)} : ∀ (ps : List (Nat × AV)) (cs r : List AV) (l : List Value) (qs : List (Nat × Value)), fillA place cs ps = some r → AV.denL E cs = some l →
    denP E ps = some qs → ∃ m, AV.denL E r = some m ∧ Instr.fill place l.toArray qs = some m.toArray
  | [], cs, r, l, qs, h, hl, hp => by
    simp [fillA] at h
    simp [denP] at hp
    subst h
    subst hp
    exact ⟨l, hl, by simp [Instr.fill]⟩
  | (i, v) :: ps, cs, r, l, qs, h, hl, hp => by
    obtain ⟨x, m, hx, hm, rfl⟩ := denP_cons.1 hp
    simp only [fillA, Option.bind_eq_bind, Option.bind_eq_some_iff] at h
    obtain ⟨⟨off, n⟩, hpl, h⟩ := h
    simp only at h
    split at h
    · cases h
    · rename_i hc
      simp only [Bool.or_eq_true, decide_eq_true_eq, not_or, Decidable.not_not] at hc
      have hlen := denL_length hl
      have hxc := cells_length hx
      have hset := denL_setMany v.cells off _ _ _ (cells_den hx) hl
      obtain ⟨k, hk, hf⟩ := fillA_sound ps _ r _ m h hset hm
      refine ⟨k, hk, ?_⟩
      have h1 : ¬ ((decide (x.cells.size ≠ n) || decide (off + x.cells.size > l.toArray.size)) = true) := by
        rw [hxc]
        simp only [List.size_toArray, hlen, Bool.or_eq_true, decide_eq_true_eq]
        omega
      simp only [Instr.fill, hpl]
      rw [if_neg h1]
      have hz : (x.cells.zipIdx.foldl (fun cs (p : Value × Nat) => cs.setIfInBounds (off + p.2) p.1) l.toArray) = (setL l off x.cells.toList).toArray := by
        have := foldl_setL off x.cells.toList 0 l.toArray
        rw [← Array.foldl_toList]
        simpa using this
      rw [← hf, ← hz]

theorem run_places : ∀ (fs : List Field) (pl : List (Nat × Nat)), places P fs = some pl → ∀ w,
    (fs.mapM fun f => Prod.mk f.offset <$> sizeOf f.type : Sem (List (Nat × Nat))).run P w = .ok pl w
  | [], pl, h, w => by
    simp [places] at h
    subst h
    simp
  | f :: fs, pl, h, w => by
    simp only [places, List.mapM_cons, Option.bind_eq_bind, Option.bind_eq_some_iff, Option.pure_def, Option.map_eq_some_iff] at h
    obtain ⟨a, ⟨n, hn, rfl⟩, l, hl, h⟩ := h
    injection h with h
    subst h
    have ih := run_places fs l (by simpa [places] using hl) w
    simp [run_size hn, ih]

theorem buildA_sound {t : TypeId} {ps : List (Nat × AV)} {r : AV} {qs : List (Nat × Value)} (h : buildA P t ps = some r) (hp : denP E ps = some qs) :
    ∃ z, r.den E = some z ∧ ∀ w, (Instr.build t qs.toArray).run P w = .ok z w := by
  unfold buildA at h
  simp only [Option.bind_eq_bind, Option.bind_eq_some_iff] at h
  obtain ⟨z, hz, h⟩ := h
  obtain ⟨i, v, hi, hv, hzd⟩ := zero_den (E := E) hz
  have hzc := cells_den hzd
  split at h
  · rename_i fs hd
    simp only [Option.bind_eq_some_iff, Option.map_eq_some_iff] at h
    obtain ⟨pl, hpl, cs, hcs, rfl⟩ := h
    obtain ⟨m, hm, hf⟩ := fillA_sound _ _ _ _ _ hcs hzc hp
    refine ⟨.agg m.toArray, by simp [AV.den, hm], fun w => ?_⟩
    have hpl' := run_places fs.toList pl hpl
    simp only [Array.toArray_toList] at hf
    have e : fs.mapM (m := Sem) (fun f => do pure (f.offset, ← sizeOf f.type)) = List.toArray <$> fs.toList.mapM (fun f => do pure (f.offset, ← sizeOf f.type)) := by
      rw [Array.mapM_eq_mapM_toList]
    simp only [Instr.build, Sem.run_bind, run_zeroValue hi hv, Result.andThen_ok, run_underlying hd]
    rw [e]
    simp [hpl', hf]
  · rename_i n e hd
    simp only [Option.bind_eq_some_iff, Option.map_eq_some_iff] at h
    obtain ⟨k, hk, cs, hcs, rfl⟩ := h
    obtain ⟨m, hm, hf⟩ := fillA_sound _ _ _ _ _ hcs hzc hp
    refine ⟨.agg m.toArray, by simp [AV.den, hm], fun w => ?_⟩
    simp only [Array.toArray_toList] at hf
    simp [Instr.build, run_zeroValue hi hv, run_underlying hd, run_size hk, hf]
  · cases h

end
end Go.Sx
