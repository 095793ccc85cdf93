/-
  A WALKER THAT COMPUTES, ITS TENTH PART: append.
-/
import Derived.Test.YtbgjceknbcpgjaaSzI
namespace Go.Sx
set_option linter.unusedVariables false
section
variable {P : Program} {E : Env} {B : Bd} {h : Hp} {w : World}

def notInt : TypeDesc → Bool
  | .int _ => false
  | _ => true

theorem zeroCells_eq (z : Array Value) (n : Nat) : Builtin.zeroCells z n = (copiesV z.toList n).toArray := range_copies z n _ rfl

theorem append_grow {ts : Array TypeId} {ty st xt e : TypeId} {d : TypeDesc} {i : TypeInfo} {zv : Value} (h0 : ts[0]? = some st) (h1 : ts[1]? = some xt) (hst : P.underlying st = some (.slice e))
    (hxt : P.underlying xt = some d) (hd : notInt d = true) (hi : P.info? e = some i) (hz : i.zero = some zv) {u : Value} {base : Option Addr} {sLen sCap n : Nat} {old new : Array Value}
    (hlen : ∀ w, (Builtin.lenOf u).run P w = .ok n w) (hnew : (Builtin.firstCells i.size n u).run P w.drew = .ok new w.drew)
    (hold : (Builtin.firstCells i.size sLen (.slice base sLen sCap)).run P w.drew = .ok old w.drew) (hfit : sCap < sLen + n) (hsmall : sLen + n ≤ 2 ^ 30) (hb : (sLen + n) * i.bytes ≤ 2 ^ 47) :
    ∃ cap, sLen + n ≤ cap ∧ (Builtin.append_ ts ty #[.slice base sLen sCap, u]).run P w =
      .ok (.slice (some ⟨w.heap.size, 0, none⟩) (sLen + n) cap) (w.drew.alloc (.cells (old ++ new ++ (copiesV zv.cells.toList (cap - (sLen + n))).toArray) e)) := by
  refine ⟨(Question.appendCap (sLen + n) sCap e).cut (w.tape w.drawn (.appendCap (sLen + n) sCap e)), by simp [Question.cut], ?_⟩
  generalize hcap : (Question.appendCap (sLen + n) sCap e).cut (w.tape w.drawn (.appendCap (sLen + n) sCap e)) = cap
  have hb' : (sLen + n) * i.bytes ≤ 140737488355328 := by simpa using hb
  have hg := growslice_fits hfit hb'
  have hnf : ¬ sLen + n ≤ sCap := by omega
  have hm : ¬ (((sLen + n : Nat) : Int) > 9223372036854775807) := by omega
  have hm' : ¬ ((9223372036854775807 : Int) < (sLen : Int) + (n : Int)) := by omega
  have hg' : ¬ (281474976710656 < Builtin.nextslicecap (sLen + n) sCap * i.bytes) := by omega
  have hxi : (underlying xt).run P w = .ok d w := run_underlying hxt w
  have hzr : (zeroValue e).run P w.drew = .ok zv w.drew := run_zeroValue hi hz _
  have hdi : (match d with | .int _ => true | _ => false) = false := by cases d <;> first | rfl | simp [notInt] at hd
  have hsz : (sizeOf e).run P w = .ok i.size w := by simp [sizeOf, typeInfo, hi]
  unfold Builtin.append_
  simp only [h0, List.getElem?_toArray, List.getElem?_cons_zero, List.getElem?_cons_succ, Sem.run_bind, run_underlying hst, Result.andThen_ok, hsz, h1, hxi, Sem.run_pure]
  cases d with
  | int k => simp [notInt] at hd
  | _ =>
    simp [hlen, hnf, hm', typeInfo, hi, hg', Question.forced, hcap, hold, hnew, hzr, zeroCells_eq, newRow]

theorem append_fits {ts : Array TypeId} {ty st xt e : TypeId} {d : TypeDesc} {i : TypeInfo} (h0 : ts[0]? = some st) (h1 : ts[1]? = some xt) (hst : P.underlying st = some (.slice e))
    (hxt : P.underlying xt = some d) (hd : notInt d = true) (hi : P.info? e = some i) {u : Value} {a : Addr} {sLen sCap n : Nat} {new : Array Value} {w' : World}
    (hlen : ∀ w, (Builtin.lenOf u).run P w = .ok n w) (hnew : (Builtin.firstCells i.size n u).run P w = .ok new w) (hfit : sLen + n ≤ sCap)
    (hs : (storeCells (a.add (sLen * i.size)) new.toList).run P w = .ok () w') :
    (Builtin.append_ ts ty #[.slice (some a) sLen sCap, u]).run P w = .ok (.slice (some a) (sLen + n) sCap) w' := by
  have hxi : (underlying xt).run P w = .ok d w := run_underlying hxt w
  have hsz : (sizeOf e).run P w = .ok i.size w := by simp [sizeOf, typeInfo, hi]
  unfold Builtin.append_
  simp only [h0, List.getElem?_toArray, List.getElem?_cons_zero, List.getElem?_cons_succ, Sem.run_bind, run_underlying hst, Result.andThen_ok, hsz, h1, hxi, Sem.run_pure]
  cases d with
  | int k => simp [notInt] at hd
  | _ => simp [hlen, hfit, hnew, hs]

theorem append_none {ts : Array TypeId} {ty st xt e : TypeId} {d : TypeDesc} {i : TypeInfo} (h0 : ts[0]? = some st) (h1 : ts[1]? = some xt) (hst : P.underlying st = some (.slice e))
    (hxt : P.underlying xt = some d) (hd : notInt d = true) (hi : P.info? e = some i) {u : Value} {new : Array Value}
    (hlen : ∀ w, (Builtin.lenOf u).run P w = .ok 0 w) (hnew : (Builtin.firstCells i.size 0 u).run P w = .ok new w) :
    (Builtin.append_ ts ty #[.slice none 0 0, u]).run P w = .ok (.slice none 0 0) w := by
  have hxi : (underlying xt).run P w = .ok d w := run_underlying hxt w
  have hsz : (sizeOf e).run P w = .ok i.size w := by simp [sizeOf, typeInfo, hi]
  unfold Builtin.append_
  simp only [h0, List.getElem?_toArray, List.getElem?_cons_zero, List.getElem?_cons_succ, Sem.run_bind, run_underlying hst, Result.andThen_ok, hsz, h1, hxi, Sem.run_pure]
  cases d with
  | int k => simp [notInt] at hd
  | _ => simp [hlen, hnew]

/-- What an append of these comes to. -/
structure AppOk (P : Program) (ts : Array TypeId) (ty e : TypeId) (i : TypeInfo) (zv : Value) (w : World) (u : Value) (n : Nat) (nl : List Value) : Prop where
  grow : ∀ {base : Option Addr} {sLen sCap : Nat} {old : Array Value}, (Builtin.firstCells i.size sLen (.slice base sLen sCap)).run P w.drew = .ok old w.drew → sCap < sLen + n → sLen + n ≤ 2 ^ 30 → (sLen + n) * i.bytes ≤ 2 ^ 47 →
    ∃ cap, sLen + n ≤ cap ∧ (Builtin.append_ ts ty #[.slice base sLen sCap, u]).run P w =
      .ok (.slice (some ⟨w.heap.size, 0, none⟩) (sLen + n) cap) (w.drew.alloc (.cells (old ++ nl.toArray ++ (copiesV zv.cells.toList (cap - (sLen + n))).toArray) e))
  fits : ∀ {a : Addr} {sLen sCap : Nat} {w' : World}, sLen + n ≤ sCap → (storeCells (a.add (sLen * i.size)) nl).run P w = .ok () w' →
    (Builtin.append_ ts ty #[.slice (some a) sLen sCap, u]).run P w = .ok (.slice (some a) (sLen + n) sCap) w'
  none : n = 0 → (Builtin.append_ ts ty #[.slice none 0 0, u]).run P w = .ok (.slice none 0 0) w

/-- So many zeros. -/
theorem append_zeros {ts : Array TypeId} {ty st xt e : TypeId} {k k' : IntKind} {i : TypeInfo} {zv : Value} {m : Int} (h0 : ts[0]? = some st) (h1 : ts[1]? = some xt) (hst : P.underlying st = some (.slice e))
    (hxt : P.underlying xt = some (.int k)) (hi : P.info? e = some i) (hz : i.zero = some zv) (hzs : zv.cells.toList.length = i.size) (hm0 : 0 ≤ m) (hm1 : m ≤ 2 ^ 24) (hmb : m.toNat * i.bytes ≤ 2 ^ 47) :
    AppOk P ts ty e i zv w (.int k' m) m.toNat (copiesV zv.cells.toList m.toNat) := by
  have hw : IntKind.i64.wrap m = m := wrap_small m hm0 (by omega)
  have hmb' : ¬ (281474976710656 < m * (i.bytes : Int)) := by
    have : m * (i.bytes : Int) = ((m.toNat * i.bytes : Nat) : Int) := by
      rw [Int.natCast_mul, Int.toNat_of_nonneg hm0]
    omega
  have hneg : ¬ m < 0 := by omega
  have hsz : ∀ w, (sizeOf e).run P w = .ok i.size w := fun w => by simp [sizeOf, typeInfo, hi]
  have hzr : ∀ w, (zeroValue e).run P w = .ok zv w := fun w => run_zeroValue hi hz w
  have hnil : m.toNat * i.size = 0 → copiesV zv.cells.toList m.toNat = [] := fun h => List.eq_nil_of_length_eq_zero (by rw [copiesV_length, hzs, h])
  refine ⟨?_, ?_, ?_⟩
  · intro base sLen sCap old hold hfit hsmall hb
    refine ⟨(Question.appendCap (sLen + m.toNat) sCap e).cut (w.tape w.drawn (.appendCap (sLen + m.toNat) sCap e)), by simp [Question.cut], ?_⟩
    generalize hcap : (Question.appendCap (sLen + m.toNat) sCap e).cut (w.tape w.drawn (.appendCap (sLen + m.toNat) sCap e)) = cap
    have hb' : (sLen + m.toNat) * i.bytes ≤ 140737488355328 := by simpa using hb
    have hg := growslice_fits hfit hb'
    have hnf : ¬ sLen + m.toNat ≤ sCap := by omega
    have hmx : ¬ ((9223372036854775807 : Int) < (sLen : Int) + max m 0) := by omega
    have hg' : ¬ (281474976710656 < Builtin.nextslicecap (sLen + m.toNat) sCap * i.bytes) := by omega
    unfold Builtin.append_
    simp only [h0, List.getElem?_toArray, List.getElem?_cons_zero, List.getElem?_cons_succ, Sem.run_bind, run_underlying hst, Result.andThen_ok, hsz, h1, run_underlying hxt, Sem.run_pure, if_true, asInt, asIntOf, hw, hneg, if_false, typeInfo,
      run_program, hi, gt_iff_lt]
    by_cases hcs : m.toNat * i.size = 0
    · simp [hmb', hnf, hmx, hg', hi, Question.forced, hcap, hold, hcs, hnil hcs, hzr, zeroCells_eq, newRow]
    · simp [hmb', hnf, hmx, hg', hi, Question.forced, hcap, hold, hcs, hzr, zeroCells_eq, newRow]
  · intro a sLen sCap w' hfit hs
    unfold Builtin.append_
    simp only [h0, List.getElem?_toArray, List.getElem?_cons_zero, List.getElem?_cons_succ, Sem.run_bind, run_underlying hst, Result.andThen_ok, hsz, h1, run_underlying hxt, Sem.run_pure, if_true, asInt, asIntOf, hw, hneg, if_false, typeInfo,
      run_program, hi, gt_iff_lt]
    by_cases hcs : m.toNat * i.size = 0
    · rw [hnil hcs] at hs
      simp [hmb', hfit, hcs, hs]
    · simp [hmb', hfit, hcs, hs, hzr, zeroCells_eq]
  · intro hn
    unfold Builtin.append_
    simp only [h0, List.getElem?_toArray, List.getElem?_cons_zero, List.getElem?_cons_succ, Sem.run_bind, run_underlying hst, Result.andThen_ok, hsz, h1, run_underlying hxt, Sem.run_pure, if_true, asInt, asIntOf, hw, hneg, if_false, typeInfo,
      run_program, hi, gt_iff_lt]
    simp [hmb', hn]

/-- Cells stored one behind the other into a row. -/
theorem storeCells_row (c : Nat) (t : TypeId) (fz : Nat × Nat) : ∀ (vs : List Value) (o i : Nat) (cur : Array Value) (w : World), w.heap[c]? = some (.cells cur t fz) →
    (∀ j, j < cur.size → ¬ (fz.1 ≤ j ∧ j < fz.2)) → o + i + vs.length ≤ cur.size → (∀ v ∈ vs, v.oneCell' = true) →
    ∃ w', (storeCells ⟨c, o, none⟩ vs i).run P w = .ok () w' ∧ w'.heap[c]? = some (.cells (setL cur.toList (o + i) vs).toArray t fz) ∧ (∀ k, k ≠ c → w'.heap[k]? = w.heap[k]?) ∧
      w'.heap.size = w.heap.size ∧ w'.os = w.os ∧ w'.tape = w.tape ∧ w'.output = w.output
  | [], o, i, cur, w, hg, _, _, _ => ⟨w, by simp [storeCells], by simpa [setL] using hg, fun _ _ => rfl, rfl, rfl, rfl, rfl⟩
  | v :: r, o, i, cur, w, hg, hf, hl, h1 => by
    simp only [List.length_cons] at hl
    have ho : o + i < cur.size := by omega
    have hcell : w.cell? ⟨c, o + i, none⟩ = some cur[o + i] := by rw [cell_of_row w c (o + i) cur t fz hg]; simp [ho]
    have hfr : w.frozen? ⟨c, o + i, none⟩ = false := by
      have := hf (o + i) ho
      obtain ⟨lo, hi⟩ := fz
      simp only [World.frozen?, hg]
      simpa using this
    have hst : (store ⟨c, o + i, none⟩ v).run P w = .ok () (w.setCell ⟨c, o + i, none⟩ v) := by
      rw [run_store P w _ v .plain (h1 v (by simp)), hcell]
      simp [hfr]
    have hg' := setCell_heap w c (o + i) v cur t fz hg
    obtain ⟨w', hr, hc, hk, hs, e1, e2, e3⟩ := storeCells_row c t fz r o (i + 1) (cur.setIfInBounds (o + i) v) _ hg' (fun j hj => hf j (by simpa using hj)) (by simp; omega) (fun x hx => h1 x (by simp [hx]))
    refine ⟨w', by simp [storeCells, Addr.add_lit, hst, hr], ?_, fun k hkc => ?_, by simpa using hs, e1, e2, e3⟩
    · simpa [setL, Nat.add_assoc] using hc
    · rw [hk k hkc, heap_setCell_other w ⟨c, o + i, none⟩ k v hkc]

theorem setL_get (l : List Value) : ∀ (vs : List Value) (o j : Nat) (l : List Value), (setL l o vs)[j]? = if o ≤ j ∧ j < o + vs.length ∧ j < l.length then vs[j - o]? else l[j]?
  | [], o, j, l => by
    simp only [setL, List.length_nil, Nat.add_zero]
    rw [if_neg (by omega)]
  | v :: r, o, j, l => by
    simp only [setL]
    rw [setL_get (l := l) r (o + 1) j (l.set o v)]
    simp only [List.length_set, List.length_cons]
    by_cases hj : j = o
    · subst hj
      rw [if_neg (by omega)]
      by_cases hl : j < l.length
      · rw [if_pos (by omega), List.getElem?_set_self hl]; simp
      · rw [if_neg (by omega), List.getElem?_eq_none (by simp; omega), List.getElem?_eq_none (by omega)]
    · by_cases h2 : o + 1 ≤ j ∧ j < o + 1 + r.length ∧ j < l.length
      · rw [if_pos h2, if_pos (by omega), show j - o = (j - (o + 1)) + 1 by omega]; simp
      · rw [if_neg h2, if_neg (by omega), List.getElem?_set_ne (Ne.symm hj)]

theorem setL_length : ∀ (vs : List Value) (o : Nat) (l : List Value), (setL l o vs).length = l.length
  | [], o, l => rfl
  | v :: r, o, l => by simp [setL, setL_length r]

theorem dirtC_get (lo hi : Nat) : ∀ (c : List (Option AV)) (i j : Nat), (dirtC lo hi c i)[j]? = (c[j]?).map fun v => if lo ≤ i + j && i + j < hi then none else v
  | [], i, j => by simp [dirtC]
  | v :: r, i, j => by
    cases j with
    | zero => simp [dirtC]
    | succ j =>
      have := dirtC_get lo hi r (i + 1) j
      rw [show i + 1 + j = i + (j + 1) by omega] at this
      simp only [dirtC, List.getElem?_cons_succ, this]

theorem dirtC_length (lo hi : Nat) : ∀ (c : List (Option AV)) (i : Nat), (dirtC lo hi c i).length = c.length
  | [], i => rfl
  | v :: r, i => by simp [dirtC, dirtC_length lo hi r]

theorem dirtC_idem (lo hi : Nat) (l : List (Option AV)) (i : Nat) : dirtC lo hi (dirtC lo hi l i) i = dirtC lo hi l i := by
  induction l generalizing i with
  | nil => rfl
  | cons v r ih =>
    simp only [dirtC, ih]
    congr 1
    split <;> rfl

theorem dirt1_idem (k lo hi : Nat) (x : AObj) : dirt1 k lo hi (dirt1 k lo hi x) = dirt1 k lo hi x := by
  cases x with
  | cells c t m k' =>
    by_cases h : (k' == k) = true
    · simp [dirt1, h, dirtC_idem]
    · simp [dirt1, h]
  | _ => rfl

theorem dirt1_other {k lo hi : Nat} {x : AObj} (h : x.cls? ≠ some k) : dirt1 k lo hi x = x := by
  cases x with
  | cells c t m k' =>
    have : (k' == k) = false := by simpa [AObj.cls?] using h
    simp [dirt1, this]
  | _ => rfl

theorem dirty_get {E : Env} {B : Bd} {h : Hp} {w : World} (hw : WR E B h w) (k lo hi j : Nat) : (h.dirty k lo hi).bs[j]? = (h.bs[j]?).map (dirt1 k lo hi) := by
  simp only [Hp.dirty]
  rw [Bl.getElem?_upd (dirt1_idem k lo hi)]
  split
  · rfl
  · rename_i hn
    cases ho : h.bs[j]? with
    | none => rfl
    | some o =>
      simp only [Option.map_some]
      rw [dirt1_other]
      intro hk
      rcases hw.cls j o k ho hk with rfl | hm
      · exact hn List.mem_cons_self
      · exact hn (List.mem_cons_of_mem _ hm)

theorem dirty_len (h : Hp) (k lo hi : Nat) : (h.dirty k lo hi).bs.length = h.bs.length := Bl.length_upd
theorem dirty_mem (h : Hp) (k lo hi j : Nat) : (h.dirty k lo hi).bs.members j = h.bs.members j := Bl.members_upd

theorem dirt1_only (k lo hi : Nat) (o : AObj) : (dirt1 k lo hi o).only = o.only := by
  cases o <;> simp only [dirt1] <;> (try rfl)
  split <;> rfl

theorem dirt1_cls (k lo hi : Nat) (o : AObj) : (dirt1 k lo hi o).cls? = o.cls? := by
  cases o <;> simp only [dirt1] <;> (try rfl)
  split <;> rfl

/-- Cells that are no longer known: the relation stands, also where they have changed. -/
theorem dirt_rel {o : AObj} {ob : Obj} (k lo hi : Nat) (hr : ORel E o ob) : ORel E (dirt1 k lo hi o) ob := by
  cases o with
  | cells c t m k' =>
    simp only [dirt1]
    split
    · obtain ⟨c', fz, e, hf, hl, hv, hm⟩ := hr
      refine ⟨c', fz, e, hf, by rw [dirtC_length]; exact hl, ?_, ?_⟩
      · intro i v hi'
        rw [dirtC_get] at hi'
        simp only [Option.map_eq_some_iff] at hi'
        obtain ⟨u, hu, e'⟩ := hi'
        split at e'
        · cases e'
        · subst e'; exact hv i v hu
      · cases m with
        | none => rw [dirtC_length]; exact hm
        | some p => exact hm
    · exact hr
  | strIter s p => exact hr
  | txtIter s p => exact hr
  | map es n => exact hr
  | mapIter m s l n => exact hr
  | loop => exact hr
  | deferred => exact hr
  | gone k' => exact hr
  | given cs i => exact hr
  | free => exact hr
  | row => exact hr
  | grow => exact hr

theorem dirt_rel_set {c : List (Option AV)} {t t' : TypeId} {m : Option (Nat × Nat × Nat × Nat)} {k : Nat} {cur : Array Value} {fz : Nat × Nat} (lo : Nat) (vs : List Value)
    (hr : ORel E (.cells c t m k) (.cells cur t' fz)) : ORel E (dirt1 k lo (lo + vs.length) (.cells c t m k)) (.cells (setL cur.toList lo vs).toArray t' fz) := by
  simp only [dirt1, beq_self_eq_true, if_true]
  obtain ⟨c', fz', e, hf, hl, hv, hm⟩ := hr
  injection e with e1 e2 e3
  subst e1
  subst e2
  subst e3
  refine ⟨(setL cur.toList lo vs).toArray, fz, rfl, fun i hi => hf i (by simpa [setL_length] using hi), by simp [dirtC_length, setL_length]; exact hl, ?_, ?_⟩
  · intro i v hi
    rw [dirtC_get] at hi
    simp only [Option.map_eq_some_iff] at hi
    obtain ⟨u, hu, e'⟩ := hi
    split at e'
    · cases e'
    · rename_i hn
      subst e'
      obtain ⟨x, hx, hc⟩ := hv i v hu
      refine ⟨x, hx, ?_⟩
      simp only [Nat.zero_add, Bool.and_eq_true, decide_eq_true_eq] at hn
      simp only [List.getElem?_toArray]
      rw [setL_get [], if_neg (by omega)]
      simpa using hc
  · cases m with
    | none => simpa [dirtC_length, setL_length] using hm
    | some p => simpa [setL_length] using hm

end
end Go.Sx
