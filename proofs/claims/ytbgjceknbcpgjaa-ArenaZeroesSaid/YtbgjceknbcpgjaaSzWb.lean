/-
  A WALKER THAT COMPUTES: from the runs to what is said of a law whose slices are among what is handed in.
-/
import Derived.Test.YtbgjceknbcpgjaaSzWa
import Derived.ChangeSame
import Derived.Below
namespace Go.Sx
open Go.ChangeShapes Go.WideShapes Go.RowKit

section
variable {H : Type} {enc : TypeId × Value → H} {P : Program}

/-- One run: which slices are nil is said. -/
def runFl (P : Program) (dr : Bool) (kn : Kn) (fuel d : Nat) (f : FuncId) (ts : List TypeId) (fl : List Bool) (cfg : Cfg) (fs : List BE) : Bool :=
  match argsS P fl 0 0 0 0 ts with
  | some (as, os, ps, k) => fs.all (·.upto k) && allSym os.length (runCall P dr kn fuel d false f (as.map (AV.fixI fs)) (Hp.args os k cfg) (fs ++ ps))
  | none => false

theorem calls_runs {w : World} {base b0 : Nat} {held : Bool} {dr : Bool} {kn : Kn} {fuel d : Nat} {f : FuncId} {ts : List TypeId} {vs : List Value} {ds : List (DataW H)} {p : List MemPlace} {cfg : List Bool → Cfg}
    {prd : Nat → List Int → List (List UInt8) → List (List Value) → Prop} (hN : plainNames P = true) (hK : Known P kn ⟨0, prd⟩) (hA : dr = true → ∀ call, CallOk P call ⟨0, prd⟩ → AnyOk P call ⟨0, prd⟩)
    (hR : ∀ (fl : List Bool) (ι : Unk), ι.prd = prd → RulesOk (cfg fl).rules ι) {cs : List Bool → List (List BE)} (hcs : ∀ (fl : List Bool) (ι : Unk), ι.prd = prd → ∃ fs ∈ cs fl, ∀ b ∈ fs, b.den ι = true) (hne : ∀ fl, cs fl ≠ []) (hr : ∀ fl : List Bool, fl.length = slicesIn P ts → ∀ fs ∈ cs fl, runFl P dr kn fuel d f ts fl (cfg fl) fs = true)
    (hv : ∀ (j : Nat) (t : TypeId) (v : Value), ts[j]? = some t → vs[j]? = some v → Value.okWide P w .any b0 t v) (hd : DataW.TrodAll enc P w base (fun _ => true) held ts vs ds p) :
    Calls P f vs.toArray w fun e w' => e = .returned (.bool true) ∧ Below w.heap.size w w' := by
  obtain ⟨fl, hfl, hm⟩ := argsS_sound ts 0 0 0 0 vs ds p hv hd
  have h := hr fl hfl
  cases ha : argsS P fl 0 0 0 0 ts with
  | none =>
    exfalso
    obtain ⟨fs, hfs⟩ := List.exists_mem_of_ne_nil _ (hne fl)
    have := h fs hfs
    simp only [runFl, ha] at this
    cases this
  | some p =>
    obtain ⟨as, os, ps, k⟩ := p
    obtain ⟨n', m', b', hM⟩ := hm as os ps k ha
    have h' : ∀ fs ∈ cs fl, (fs.all (·.upto k)) = true ∧ allSym os.length (runCall P dr kn fuel d false f (as.map (AV.fixI fs)) (Hp.args os k (cfg fl)) (fs ++ ps)) = true := fun fs hfs => by
      have := h fs hfs
      simp only [runFl, ha, Bool.and_eq_true] at this
      exact this
    exact calls_args hM hN hK hA (hR fl) (hcs fl) (fun fs hfs => (h' fs hfs).1) (fun fs hfs => (h' fs hfs).2)

/-- What is read before is read behind. -/
theorem trodAll_stays {W W' : World} {base : Nat} {sp : Nat → Bool} (hl : laidOutB P = true) : ∀ {ts : List TypeId} {vs : List Value} {ds : List (DataW H)} {p : List MemPlace}, (ts.all fun t => P.readableRec t && decide (t < P.types.size)) = true →
    DataW.TrodAll enc P W base (fun _ => true) true ts vs ds p → (∀ x ∈ p, W.sameAt W' x) → (∀ x ∈ p, sp x.block = true) → DataW.TrodAll enc P W' base sp true ts vs ds p
  | [], vs, ds, p, _, h, _, _ => by
    obtain ⟨rfl, rfl, rfl⟩ := trodAll_nil h
    exact trodAll_mk0
  | t :: ts, vs, ds, p, ha, h, h1, h2 => by
    obtain ⟨v, vs1, d, ds1, a, b, rfl, rfl, rfl, h3, h4⟩ := trodAll_cons h
    simp only [List.all_cons, Bool.and_eq_true, decide_eq_true_eq] at ha
    exact ⟨a, b, Go.WideElems.Trod_stays hl ha.1.1 ha.1.2 h3 (fun x hx => h1 x (List.mem_append_left _ hx)) (fun x hx => h2 x (List.mem_append_left _ hx)),
      trodAll_stays hl ha.2 h4 (fun x hx => h1 x (List.mem_append_right _ hx)) (fun x hx => h2 x (List.mem_append_right _ hx)), rfl⟩

/-- The step behind a walk that leaves all that was there as it was. -/
theorem post_of_below {f : Func} {s : ChangeSpec} {apart fresh handsOn again : Bool} {W W' : World} {args : Array Value} {v : Value} {ds gs : List (DataW H)} {before : List MemPlace}
    (hW : DataW.Whole enc P f.params.toList s.vars apart W args.toList ds gs before) (hb : Below W.heap.size W W') (hl : laidOutB P = true) (ht : (f.params.toList.all fun t => P.readableRec t && decide (t < P.types.size)) = true)
    (hv : s.vars = []) (hfa : (s.fn H (ds ++ gs)).args = ds) (hfv : (s.fn H (ds ++ gs)).vars = [])
    (hres : ∀ (b : Nat) (sp : Nat → Bool) (hd : Bool), DataW.TrodAll enc P W' b sp hd f.resultTypes.toList (v.resultList f.resultTypes.size) (s.fn H (ds ++ gs)).results [])
    (hok : ∀ (j : Nat) (t : TypeId) (r : Value), f.resultTypes[j]? = some t → (v.resultList f.resultTypes.size)[j]? = some r → Value.okWide P W' .any 0 t r) :
    s.post enc P f apart fresh handsOn again W args v W' := by
  have hlt : ∀ p ∈ before, p.block < W.heap.size := fun p hp => hW.lt p hp
  obtain ⟨p, q, hA, hV, hpq, hz, hn⟩ := id hW
  have hq : q = [] := by
    rw [hv] at hV
    exact (trodVars_none hV).2
  subst hq
  rw [List.append_nil] at hpq
  subst hpq
  have hsame : ∀ x ∈ before, W.sameAt W' x := fun x hx => hb.same (hlt x hx)
  have hargs : ∀ sp : Nat → Bool, (∀ p ∈ before, sp p.block = true) → DataW.TrodAll enc P W' 0 sp true f.params.toList args.toList (s.fn H (ds ++ gs)).args before := fun sp hsp => by
    rw [hfa]
    exact trodAll_stays hl ht hA hsame hsp
  have hvars : ∀ sp : Nat → Bool, DataW.TrodVars enc P W' sp s.vars (s.fn H (ds ++ gs)).vars [] := fun sp => by
    rw [hfv, hv]
    exact rfl
  have hold : ∀ p ∈ before, (fun b => decide (b < W.heap.size)) p.block = true := fun p hp => by simpa using hlt p hp
  refine ⟨ds, gs, before, [], before, [], hW, hres _ _ _, hargs _ hold, hvars _, World.keptBut_mono (fun p hp => ?_) (hb.frame (fun _ => False)), fun _ => ?_⟩
  · exact hp.elim
  · refine ⟨hok, _, _, ([] ++ before) ++ [], ⟨[] ++ before, [], trodAll_append (hargs _ (fun _ _ => rfl)) (hres _ _ _), hvars _, rfl, ?_, ?_⟩, ?_⟩
    · intro b off hp
      have hp' : MemPlace.cell b off ∈ before := by simpa using hp
      rw [hb.frozen (by exact hlt _ hp')]
      exact hz b off hp'
    · intro ha
      simpa using hn ha
    · intro p hp _
      simpa using hp

end
end Go.Sx
