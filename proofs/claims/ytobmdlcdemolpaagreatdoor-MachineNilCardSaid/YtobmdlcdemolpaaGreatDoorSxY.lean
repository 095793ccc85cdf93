/-
  A WALKER THAT COMPUTES, A FURTHER PART: what packages' tables hold at the start.
-/
import Derived.Test.YtobmdlcdemolpaaGreatDoorSxX
import Derived.OpenShut
import Derived.LaidLaws
namespace Go.Sx

/-- A table of numbers that is laid. -/
theorem laid_ints {P : Program} {w : World} {E : Env} {k : IntKind} {n : String} {ns : List Int} {g : Nat} {t e : TypeId} (hg : P.globalNamed n = some g) (ht : (P.globals[g]?).map (·.type) = some t)
    (hu : P.underlying t = some (.array ns.length e)) (he : P.underlying e = some (.int k)) (hc : P.cellsOf e = 1) :
    ∀ {l : List (String × DataW Unit)} {ps : List MemPlace}, DataW.LaidVars P w l ps → (n, DataW.agg (ns.map fun m => .lit (.int k m))) ∈ l →
    ∃ (c' : Array Value) (t' : TypeId) (fz : Nat × Nat), w.heap[g]? = some (.cells c' t' fz) ∧ ∀ (j : Nat) (v : AV), (ns.map fun m => AV.int k (.lit m))[j]? = some v → ∃ x, v.den E = some x ∧ c'[j]? = some x
  | [], _, _, hm => by cases hm
  | (n', d) :: r, ps, hl, hm => by
    obtain ⟨g', t2, cs, fuel, p, q, h1, h2, h3, h4, h5, _⟩ := hl
    rcases List.mem_cons.1 hm with hm | hm
    · injection hm with e1 e2
      subst e1 e2
      rw [hg] at h1
      injection h1 with h1
      subst h1
      rw [ht] at h2
      injection h2 with h2
      subst h2
      simp only [World.var?, hg, Option.bind_some] at h3
      split at h3
      · rename_i cs2 t' fz hh
        injection h3 with h3
        subst h3
        refine ⟨cs2, t', fz, hh, fun j v hj => ?_⟩
        obtain ⟨xs, m, _, hx, _, hxl, hall⟩ := DataW.trod_array hu h4
        simp only [Prod.mk.injEq, DataW.agg.injEq] at hx
        simp only [List.getElem?_map, Option.map_eq_some_iff] at hj
        obtain ⟨m0, hm0, rfl⟩ := hj
        have hjl : j < ns.length := (List.getElem?_eq_some_iff.1 hm0).1
        have hj2 := congrArg (fun l => l[j]?) hx.1
        simp only [List.getElem?_map, hm0, Option.map_some] at hj2
        obtain ⟨y, hy, hy1⟩ : ∃ y, xs[j]? = some y ∧ y.1 = .lit (.int k m0) := by
          cases hxj : xs[j]? with
          | none => rw [hxj] at hj2; cases hj2
          | some y => rw [hxj] at hj2; injection hj2 with hj2; exact ⟨y, rfl, hj2.symm⟩
        have ha := hall j hjl
        rw [hy, hc, Nat.mul_one] at ha
        obtain ⟨n0, hcs, hy2, _⟩ := DataW.trod_int he ha
        rw [hy2] at hy1
        injection hy1 with hy1
        injection hy1 with _ hy1
        subst hy1
        refine ⟨_, rfl, ?_⟩
        have := congrArg (fun l => l[0]?) hcs
        simpa [List.getElem?_take, List.getElem?_drop, AV.den, IE.den] using this
      · cases h3
    · exact laid_ints hg ht hu he hc h5 hm

/-- Is it known that an operation is to be done? -/
def litGate (ops : Array Oper) (o : Oper) (σ : St) : Bool :=
  match o.guard with
  | none => true
  | some (j, want) =>
    match ((ops[j]?).bind (·.dst)).bind (σ.tmps[·]?) with
    | some (.bool (.lit v)) => v == want
    | _ => false

theorem guarded_lit {α : Type} {ops : Array Oper} {o : Oper} {σ : St} {yes no : St → Option (List α)} (h : litGate ops o σ = true) : guarded ops o σ yes no = yes σ := by
  unfold litGate at h
  unfold guarded
  split at h
  · rename_i hg
    simp only [hg]
  · rename_i j want hg
    simp only [hg]
    split at h
    · rename_i v hv
      simp only [hv]
      have : v = want := by simpa using h
      subst this
      cases v <;> simp [split, split1, truth]
    · cases h

/-- Which call an operation is, where it is known that it is to be done. -/
def callOfG (P : Program) (ops : Array Oper) (σ : St) (o : Oper) : Option (FuncId × List AV) :=
  if litGate ops o σ then callOf P σ { o with guard := none } else none

theorem cut_callsegG {P : Program} {call : CallF} {ro : Option Nat} {c : Code} {σ : St} {i : Nat} {f : FuncId} {args : List AV} {rs : List (AV × Hp × List BE)} (hs : seg c i 1 = [opAt c i]) (hc : callOfG P (arrOf c) σ (opAt c i) = some (f, args)) (h : call false f args σ.h σ.pc = some rs) :
    runOps P call ro (arrOf c) (seg c i 1) σ = some (rs.map fun (v, h, pc) => ({ σ with h, pc } : St).land (opAt c i).dst v) := by
  rw [hs]
  unfold callOfG at hc
  split at hc
  · rename_i hg
    have h1 := cut_callop (ops := arrOf c) (ro := ro) hc h
    unfold runOps at h1 ⊢
    rw [St.opened_eq] at h1 ⊢
    rw [guarded_lit hg]
    rw [guarded_lit (by rfl)] at h1
    exact h1
  · cases hc

end Go.Sx
