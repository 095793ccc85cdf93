/-
  A WALKER THAT COMPUTES, ITS LAST PART: a call of plain values, out of nothing.
-/
import Derived.Test.YtbnnnekapjbjpaaGreatSxP
import Derived.Below
import Derived.ChangeSame
namespace Go.Sx
open Go.ChangeShapes Go.WideShapes Go.RowKit

/-- It is known to be true. -/
def isTrue (r : AV × Hp × List BE) : Bool :=
  match r with
  | (.bool b, _, pc) => truth pc b == some true
  | _ => false

/-- Whatever it comes to, it is true. -/
def allTrue : Option (List (AV × Hp × List BE)) → Bool
  | some l => l.all isTrue
  | none => false

theorem calls_true {P : Program} {dr : Bool} {kn : Option FuncId} {fuel d : Nat} {f : FuncId} {args : List AV} {xs : List Value} {ι : Unk} {pc : List BE} (w : World) (hN : plainNames P = true) (hK : Known P kn)
    (hA : dr = true → ∀ call, CallOk P call w.heap.size → AnyOk P call w.heap.size)
    (h : allTrue (runCall P dr kn fuel d false f args Hp.nil pc) = true) (hx : AV.denL ⟨[], [], ι⟩ args = some xs) (hp : ∀ b ∈ pc, b.den ι = true) :
    Calls P f xs.toArray w fun e w' => e = .returned (.bool true) ∧ Below w.heap.size w w' := by
  unfold allTrue at h
  split at h
  · rename_i l hl
    have hw : WR ⟨[], [], ι⟩ w.heap.size Hp.nil w :=
      ⟨rfl, rfl, fun b c o hb => by simp at hb, fun b c hb => by simp at hb, fun b b' c o o' _ hb => by simp at hb, Nat.le_refl _, fun b o k ho => by cases ho⟩
    refine Calls.mono ((runCall_sound hN hK fuel hA d).1 f args Hp.nil pc l hl ⟨[], [], ι⟩ w xs hw hp hx) ?_
    rintro e w' ⟨r, E', hend, hr, hxt, hpc⟩
    have ht := List.all_eq_true.1 h r hr
    obtain ⟨v, h', pc'⟩ := r
    unfold isTrue at ht
    split at ht
    · rename_i b h2 pc2 heq
      injection heq with h1 h3
      injection h3 with h3 h4
      subst h1 h3 h4
      obtain ⟨z, rfl, hz⟩ : ∃ z, e = .returned z ∧ (AV.bool b).den E' = some z := by
        rcases hend with h0 | ⟨y, x, hy, _⟩
        · exact h0
        · cases hy
      have hb := truth_sound hpc (by simpa using ht : truth pc' b = some true)
      have hz' := denBool hz
      rw [hb] at hz'
      subst hz'
      exact ⟨rfl, hxt.fr.os, hxt.fr.tape, hxt.fr.output, hxt.fr.size, fun k hk => hxt.fr.block k hk (fun b hb => by simp at hb)⟩
    · cases ht
  · cases h

/-- Those of which it is not known. -/
def openEnds : Option (List (AV × Hp × List BE)) → Option (List (BE × List BE))
  | none => none
  | some l => leave l
where
  leave : List (AV × Hp × List BE) → Option (List (BE × List BE))
    | [] => some []
    | (.bool b, _, pc) :: r =>
      match truth pc b with
      | some true => leave r
      | _ => (leave r).map fun l => (b, pc) :: l
    | _ => none

theorem leave_mem {ι : Unk} : ∀ {l : List (AV × Hp × List BE)} {L : List (BE × List BE)}, openEnds.leave l = some L → (∀ q ∈ L, (∀ c ∈ q.2, c.den ι = true) → q.1.den ι = true) →
    ∀ r ∈ l, (∀ c ∈ r.2.2, c.den ι = true) → ∃ b, r.1 = .bool b ∧ b.den ι = true
  | [], _, _, _, r, hr, _ => by cases hr
  | (v, h, pc) :: l, L, hl, hL, r, hr, hp => by
    unfold openEnds.leave at hl
    split at hl
    · rename_i h0; cases h0
    · rename_i b h' pc' r' heq
      injection heq with e1 e2
      injection e1 with e1 e3
      injection e3 with e3 e4
      subst e1 e2 e3 e4
      split at hl
      · rename_i ht
        rcases List.mem_cons.1 hr with rfl | hr
        · exact ⟨b, rfl, truth_sound hp ht⟩
        · exact leave_mem hl hL r hr hp
      · simp only [Option.map_eq_some_iff] at hl
        obtain ⟨L', hl', rfl⟩ := hl
        rcases List.mem_cons.1 hr with rfl | hr
        · exact ⟨b, rfl, hL _ List.mem_cons_self hp⟩
        · exact leave_mem hl' (fun q hq => hL q (List.mem_cons_of_mem _ hq)) r hr hp
    · cases hl

/-- Whatever is left open holds: then all that it comes to is true. -/
theorem calls_open {P : Program} {dr : Bool} {kn : Option FuncId} {fuel d : Nat} {f : FuncId} {args : List AV} {xs : List Value} {ι : Unk} {pc : List BE} {L : List (BE × List BE)} (w : World) (hN : plainNames P = true) (hK : Known P kn)
    (hA : dr = true → ∀ call, CallOk P call w.heap.size → AnyOk P call w.heap.size)
    (h : openEnds (runCall P dr kn fuel d false f args Hp.nil pc) = some L) (hL : ∀ q ∈ L, (∀ c ∈ q.2, c.den ι = true) → q.1.den ι = true) (hx : AV.denL ⟨[], [], ι⟩ args = some xs) (hp : ∀ b ∈ pc, b.den ι = true) :
    Calls P f xs.toArray w fun e w' => e = .returned (.bool true) ∧ Below w.heap.size w w' := by
  unfold openEnds at h
  split at h
  · cases h
  · rename_i l hl
    have hw : WR ⟨[], [], ι⟩ w.heap.size Hp.nil w :=
      ⟨rfl, rfl, fun b c o hb => by simp at hb, fun b c hb => by simp at hb, fun b b' c o o' _ hb => by simp at hb, Nat.le_refl _, fun b o k ho => by cases ho⟩
    refine Calls.mono ((runCall_sound hN hK fuel hA d).1 f args Hp.nil pc l hl ⟨[], [], ι⟩ w xs hw hp hx) ?_
    rintro e w' ⟨r, E', hend, hr, hxt, hpc⟩
    rw [hxt.le.ι] at hpc
    obtain ⟨b, hb, ht⟩ := leave_mem h hL r hr hpc
    obtain ⟨z, rfl, hz⟩ : ∃ z, e = .returned z ∧ r.1.den E' = some z := by
      rcases hend with h0 | ⟨y, x, hy, _⟩
      · exact h0
      · rw [hb] at hy; cases hy
    rw [hb] at hz
    have hz' := denBool hz
    rw [hxt.le.ι, ht] at hz'
    subst hz'
    exact ⟨rfl, hxt.fr.os, hxt.fr.tape, hxt.fr.output, hxt.fr.size, fun k hk => hxt.fr.block k hk (fun b hb => by simp at hb)⟩

/-- What the unknowns are. -/
def io (l : List Int) (s : List (List UInt8) := []) : Unk := ⟨fun i => l.getD i 0, fun i => s.getD i []⟩

theorem wrap_wf {k : IntKind} {n : Int} (h : (Lit.int k n).wf = true) : k.wrap n = n := by
  simp only [Lit.wf, Bool.and_eq_true, decide_eq_true_eq] at h
  exact wrap_in k h.1 h.2

section
variable {ι : Unk} {a b : IE} {x y : BE}
theorem den_not : (BE.not x).den ι = true ↔ ¬ (x.den ι = true) := by simp [BE.den]
theorem den_same : (BE.same x y).den ι = true ↔ (x.den ι = true ↔ y.den ι = true) := by cases h : x.den ι <;> cases h' : y.den ι <;> simp [BE.den, h, h']
theorem den_lit {c : Bool} : (BE.lit c).den ι = true ↔ c = true := Iff.rfl
theorem den_lss : (BE.cmp .lss a b).den ι = true ↔ a.den ι < b.den ι := by simp [BE.den, intCmp]
theorem den_leq : (BE.cmp .leq a b).den ι = true ↔ a.den ι ≤ b.den ι := by simp [BE.den, intCmp]
theorem den_gtr : (BE.cmp .gtr a b).den ι = true ↔ b.den ι < a.den ι := by simp [BE.den, intCmp]
theorem den_geq : (BE.cmp .geq a b).den ι = true ↔ b.den ι ≤ a.den ι := by simp [BE.den, intCmp]
theorem den_eql : (BE.cmp .eql a b).den ι = true ↔ a.den ι = b.den ι := by simp [BE.den, intCmp]
theorem den_neq : (BE.cmp .neq a b).den ι = true ↔ a.den ι ≠ b.den ι := by simp [BE.den, intCmp]
theorem ie_lit {n : Int} : (IE.lit n).den ι = n := rfl
theorem ie_wrap {k : IntKind} : (IE.wrap k a).den ι = k.wrap (a.den ι) := rfl
theorem ie_var {i : Nat} : (IE.var i).den ι = ι.num i := rfl
theorem ie_slen {i : Nat} : (IE.slen i).den ι = ((ι.str i).length : Int) := rfl
theorem den_seqs {i : Nat} {s : List UInt8} : (BE.seqs i s).den ι = true ↔ ι.str i = s := by simp [BE.den]
theorem ie_add {k : IntKind} : (IE.bin .add k a b).den ι = k.wrap (a.den ι + b.den ι) := rfl
theorem ie_sub {k : IntKind} : (IE.bin .sub k a b).den ι = k.wrap (a.den ι - b.den ι) := rfl
theorem ie_mul {k : IntKind} : (IE.bin .mul k a b).den ι = k.wrap (a.den ι * b.den ι) := rfl
end

/-- The step behind a walk that leaves all as it was, of a function that reads no memory. -/
theorem post_of_none {H : Type} {enc : TypeId × Value → H} {P : Program} {f : Func} {s : ChangeSpec} {apart fresh handsOn again : Bool} {W W' : World} {args : Array Value} {v : Value} {ds gs : List (DataW H)}
    (hW : DataW.Whole enc P f.params.toList s.vars apart W args.toList ds gs [])
    (hres : ∀ (b : Nat) (sp : Nat → Bool) (hd : Bool), DataW.TrodAll enc P W' b sp hd f.resultTypes.toList (v.resultList f.resultTypes.size) (s.fn H (ds ++ gs)).results [])
    (hargs : ∀ sp : Nat → Bool, DataW.TrodAll enc P W' 0 sp true f.params.toList args.toList (s.fn H (ds ++ gs)).args [])
    (hvars : ∀ sp : Nat → Bool, DataW.TrodVars enc P W' sp s.vars (s.fn H (ds ++ gs)).vars [])
    (hk : W.keptBut W' (fun _ => False))
    (hok : ∀ (j : Nat) (t : TypeId) (r : Value), f.resultTypes[j]? = some t → (v.resultList f.resultTypes.size)[j]? = some r → Value.okWide P W' .any 0 t r) :
    s.post enc P f apart fresh handsOn again W args v W' :=
  ⟨ds, gs, [], [], [], [], hW, hres _ _ _, hargs _, hvars _, World.keptBut_mono (fun _ hp => hp.elim) hk, fun _ =>
    ⟨hok, _, _, [], ⟨[], [], trodAll_append (hargs _) (hres _ _ _), hvars (fun _ => true), rfl, fun _ _ hp => (by cases hp), fun _ => List.nodup_nil⟩, fun _ hp => by cases hp⟩⟩

end Go.Sx
