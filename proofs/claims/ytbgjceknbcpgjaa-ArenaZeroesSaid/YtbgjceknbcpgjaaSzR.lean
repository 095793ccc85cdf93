/-
  A WALKER THAT COMPUTES, ITS LAST PART: a call of plain values, out of nothing.
-/
import Derived.Test.YtbgjceknbcpgjaaSzP
import Derived.Below
import Derived.ChangeSame
namespace Go.Sx
open Go.ChangeShapes Go.WideShapes Go.RowKit

theorem holds_first {ι : Unk} {pc : List BE} (hfv : ι.fv = []) (hbl : (pc.all fun b => b.upto 0) = true) (hp : ∀ b ∈ pc, b.den ι = true) : ∀ b ∈ pc, b.holds ι := fun b hb =>
  ⟨by have := List.all_eq_true.1 hbl b hb; simpa [Unk.nv, hfv] using this, hp b hb⟩

theorem le_nil {a b : Unk} (h : a.Le b) (ha : a.fv = []) (hb : b.nv = 0) : b = a := by
  have : b.fv = [] := List.eq_nil_of_length_eq_zero hb
  cases a; cases b
  simp only at ha this
  have h1 := h.num; have h2 := h.str; have h3 := h.obj; have h4 := h.prd
  simp only at h1 h2 h3 h4
  simp [ha, this, h1, h2, h3, h4]

/-- It is known to be true. -/
def isTrue (r : AV × Hp × List BE) : Bool :=
  match r with
  | (.bool b, _, pc) => truth pc b == some true
  | _ => false

/-- Whatever it comes to, it is true. -/
def allTrue : Option (List (AV × Hp × List BE)) → Bool
  | some l => l.all isTrue
  | none => false

theorem calls_true {P : Program} {dr : Bool} {kn : Kn} {fuel d : Nat} {f : FuncId} {args : List AV} {xs : List Value} {ι : Unk} {pc : List BE} (w : World) (hN : plainNames P = true) (hK : Known P kn ⟨w.heap.size, ι.prd⟩)
    (hA : dr = true → ∀ call, CallOk P call ⟨w.heap.size, ι.prd⟩ → AnyOk P call ⟨w.heap.size, ι.prd⟩)
    (h : allTrue (runCall P dr kn fuel d false f args Hp.nil pc) = true) (hx : AV.denL ⟨[], [], ι⟩ args = some xs) (hp : ∀ b ∈ pc, b.den ι = true)
    (hfv : ι.fv = [] := by rfl) (hbl : (pc.all fun b => b.upto 0) = true := by rfl) :
    Calls P f xs.toArray w fun e w' => e = .returned (.bool true) ∧ Below w.heap.size w w' := by
  unfold allTrue at h
  split at h
  · rename_i l hl
    have hw : WR ⟨[], [], ι⟩ ⟨w.heap.size, ι.prd⟩ Hp.nil w :=
      ⟨rfl, rfl, fun b c o hb => by simp at hb, fun b c hb => by simp at hb, fun b b' c o o' _ hb => by simp at hb, Nat.le_refl _, fun b o k ho => (by cases ho), ⟨fun i g hi => by simp [Hp.nil] at hi, by simp [Unk.nv, hfv, Hp.nil], rules_nil _, rfl⟩⟩
    refine Calls.mono ((runCall_sound hN hK fuel hA d).1 f args Hp.nil pc l hl ⟨[], [], ι⟩ w xs hw (holds_first hfv hbl hp) hx) ?_
    rintro e w' ⟨r, E', hend, hr, hxt, hpc⟩
    have ht := List.all_eq_true.1 h r hr
    obtain ⟨v, h', pc'⟩ := r
    unfold isTrue at ht
    split at ht
    · rename_i b h2 pc2 heq
      injection heq with h1 h3
      injection h3 with h3 h4
      subst h1 h3 h4
      obtain ⟨z, rfl, hz⟩ : ∃ z, e = .returned z ∧ (AV.bool b).den E' = some z := by
        rcases hend with h0 | ⟨y, x, hy, _⟩
        · exact h0
        · cases hy
      have hb := truth_sound (holds_den hpc) (by simpa using ht : truth pc' b = some true)
      have hz' := denBool hz
      rw [hb] at hz'
      subst hz'
      exact ⟨rfl, hxt.fr.os, hxt.fr.tape, hxt.fr.output, hxt.fr.size, fun k hk => hxt.fr.block k hk (fun b hb => by simp at hb)⟩
    · cases ht
  · cases h

/-- Memory that begins with what packages' variables hold, which is only read. -/
def givenFrom : Nat → List (List AV) → List AObj
  | _, [] => []
  | i, c :: r => .given c i :: givenFrom (i + 1) r
def Hp.given (gs : List Nat) (cs : List (List AV)) : Hp := ⟨Bl.nil ++ givenFrom 0 cs, 0, { l := gs }⟩

theorem givenFrom_get : ∀ (cs : List (List AV)) (i j : Nat), (givenFrom i cs)[j]? = (cs[j]?).map fun c => .given c (i + j)
  | [], _, _ => by simp [givenFrom]
  | c :: r, i, 0 => by simp [givenFrom]
  | c :: r, i, j + 1 => by
    simp only [givenFrom, List.getElem?_cons_succ, givenFrom_get r (i + 1) j]
    rw [show i + 1 + j = i + (j + 1) by omega]

theorem appends_get : ∀ (l : List AObj) (b : Bl) (j : Nat), (b ++ l)[j]? = if j < b.length then b[j]? else l[j - b.length]?
  | [], b, j => by
    show b[j]? = _
    split
    · rfl
    · rename_i hj
      simp only [List.getElem?_nil]
      exact Bl.getElem?_eq_none (by omega)
  | o :: l, b, j => by
    show ((b ++ [o]) ++ l)[j]? = _
    have e : (b ++ [o]).length = b.length + 1 := rfl
    rw [appends_get l (b ++ [o]) j]
    by_cases h1 : j < b.length
    · rw [if_pos (by rw [e]; omega), if_pos h1, Bl.getElem?_append_left h1]
    · by_cases h2 : j = b.length
      · subst h2
        rw [if_pos (by rw [e]; omega), if_neg h1, Bl.getElem?_append_self, Nat.sub_self]
        rfl
      · rw [if_neg (by rw [e]; omega), if_neg h1]
        obtain ⟨k, rfl⟩ : ∃ k, j = b.length + (k + 1) := ⟨j - b.length - 1, by omega⟩
        rw [show b.length + (k + 1) - b.length = k + 1 by omega, List.getElem?_cons_succ, show b.length + (k + 1) - (b ++ [o]).length = k by rw [e]; omega]

theorem appends_length : ∀ (l : List AObj) (b : Bl), (b ++ l).length = b.length + l.length
  | [], _ => rfl
  | o :: l, b => by
    show ((b ++ [o]) ++ l).length = _
    rw [appends_length l (b ++ [o])]
    simp
    omega

theorem given_get (gs : List Nat) (cs : List (List AV)) (j : Nat) : (Hp.given gs cs).bs[j]? = (cs[j]?).map fun c => .given c j := by
  simp only [Hp.given, appends_get]
  rw [if_neg (by exact Nat.not_lt_zero _)]
  have := givenFrom_get cs 0 j
  rw [Nat.zero_add] at this
  exact this

/-- Nothing of it has changed. -/
def stays (h : Hp) : Nat → Bool
  | 0 => true
  | k + 1 => (match h.bs[k]? with | some (.given _ j) => Nat.beq k j | _ => false) && stays h k

theorem stays_get {h : Hp} : ∀ {k i : Nat}, stays h k = true → i < k → ∃ c, h.bs[i]? = some (.given c i)
  | 0, _, _, hi => by omega
  | k + 1, i, hs, hi => by
    simp only [stays, Bool.and_eq_true] at hs
    by_cases hk : i = k
    · subst hk
      have h1 := hs.1
      split at h1
      · rename_i c j hj
        have := Nat.eq_of_beq_eq_true h1
        subst this
        exact ⟨c, hj⟩
      · cases h1
    · exact stays_get hs.2 (by omega)

def allStay (k : Nat) : Option (List (AV × Hp × List BE)) → Bool
  | some l => l.all fun r => isTrue r && stays r.2.1 k
  | none => false

theorem calls_given {P : Program} {dr : Bool} {kn : Kn} {fuel d : Nat} {f : FuncId} {args : List AV} {xs : List Value} {ι : Unk} {pc : List BE} {gs : List Nat} {cs : List (List AV)} (w : World) (hN : plainNames P = true) (hK : Known P kn ⟨0, ι.prd⟩)
    (hA : dr = true → ∀ call, CallOk P call ⟨0, ι.prd⟩ → AnyOk P call ⟨0, ι.prd⟩) (hlen : cs.length = gs.length) (hnd : gs.Nodup)
    (hgs : ∀ (i g : Nat) (c : List AV), gs[i]? = some g → cs[i]? = some c → ∃ (c' : Array Value) (t : TypeId) (fz : Nat × Nat), w.heap[g]? = some (.cells c' t fz) ∧ ι.obj i = some (.cells c' t fz) ∧ ∀ (j : Nat) (v : AV), c[j]? = some v → ∃ x, v.den ⟨gs, [], ι⟩ = some x ∧ c'[j]? = some x)
    (h : allStay gs.length (runCall P dr kn fuel d false f args (Hp.given gs cs) pc) = true) (hx : AV.denL ⟨gs, [], ι⟩ args = some xs) (hp : ∀ b ∈ pc, b.den ι = true)
    (hfv : ι.fv = [] := by rfl) (hbl : (pc.all fun b => b.upto 0) = true := by rfl) :
    Calls P f xs.toArray w fun e w' => e = .returned (.bool true) ∧ Below w.heap.size w w' := by
  unfold allStay at h
  split at h
  · rename_i l hl
    have hat : ∀ (b : Nat) (o : AObj), (Hp.given gs cs).bs[b]? = some o → ∃ c, cs[b]? = some c ∧ o = .given c b := fun b o ho => by
      rw [given_get, Option.map_eq_some_iff] at ho
      obtain ⟨c, hc, rfl⟩ := ho
      exact ⟨c, hc, rfl⟩
    have hw : WR ⟨gs, [], ι⟩ ⟨0, ι.prd⟩ (Hp.given gs cs) w := by
      refine ⟨?_, rfl, ?_, fun _ _ _ => Nat.zero_le _, ?_, Nat.zero_le _, ?_, ⟨fun i g hi => hi, by simp [Unk.nv, hfv, Hp.given], rules_nil _, rfl⟩⟩
      · show gs.length = (Bl.nil ++ givenFrom 0 cs).length
        rw [appends_length]
        have : ∀ (cs : List (List AV)) (i : Nat), (givenFrom i cs).length = cs.length := by
          intro cs
          induction cs with
          | nil => intro i; rfl
          | cons c r ih => intro i; simp [givenFrom, ih]
        rw [this, hlen]
        exact (Nat.zero_add _).symm
      · intro b c o hb ho
        obtain ⟨cc, hcc, rfl⟩ := hat b o ho
        obtain ⟨c', t, fz, h1, h2, h3⟩ := hgs b c cc hb hcc
        exact ⟨_, h1, h2, c', t, fz, rfl, h3⟩
      · intro b b' c o o' hne hb hb'
        exact absurd ((List.getElem?_inj (by have := (List.getElem?_eq_some_iff.1 hb).1; exact this) hnd).1 (hb.trans hb'.symm)) hne
      · intro b o k ho hk
        obtain ⟨cc, hcc, rfl⟩ := hat b o ho
        cases hk
    refine Calls.mono ((runCall_sound hN hK fuel hA d).1 f args _ pc l hl ⟨gs, [], ι⟩ w xs hw (holds_first hfv hbl hp) hx) ?_
    rintro e w' ⟨r, E', hend, hr, hxt, hpc⟩
    have ht := List.all_eq_true.1 h r hr
    rw [Bool.and_eq_true] at ht
    obtain ⟨ht, hst⟩ := ht
    obtain ⟨v, h', pc'⟩ := r
    unfold isTrue at ht
    split at ht
    · rename_i b h2 pc2 heq
      injection heq with h1 h3
      injection h3 with h3 h4
      subst h1 h3 h4
      obtain ⟨z, rfl, hz⟩ : ∃ z, e = .returned z ∧ (AV.bool b).den E' = some z := by
        rcases hend with h0 | ⟨y, x, hy, _⟩
        · exact h0
        · cases hy
      have hb := truth_sound (holds_den hpc) (by simpa using ht : truth pc' b = some true)
      have hz' := denBool hz
      rw [hb] at hz'
      subst hz'
      refine ⟨rfl, hxt.fr.os, hxt.fr.tape, hxt.fr.output, hxt.fr.size, fun k hk => ?_⟩
      by_cases hkg : ∃ b : Nat, gs[b]? = some k
      · obtain ⟨b, hb⟩ := hkg
        have hblt := (List.getElem?_eq_some_iff.1 hb).1
        obtain ⟨c, hc⟩ := stays_get hst hblt
        obtain ⟨ob, ho1, ho2, _⟩ := hxt.wr.obj b k _ (hxt.le.ρ b k hb) hc
        obtain ⟨cc, hcc⟩ : ∃ cc, cs[b]? = some cc := ⟨cs[b]'(by omega), List.getElem?_eq_getElem _⟩
        obtain ⟨c', t, fz, h1, h2, _⟩ := hgs b k cc hb hcc
        rw [hxt.le.ι.obj, h2] at ho2
        rw [ho1, h1, ← ho2]
      · exact hxt.fr.block k hk (fun b hb => hkg ⟨b, hb⟩)
    · cases ht
  · cases h

/-- Those of which it is not known. -/
def openEnds : Option (List (AV × Hp × List BE)) → Option (List (BE × List BE))
  | none => none
  | some l => leave l
where
  leave : List (AV × Hp × List BE) → Option (List (BE × List BE))
    | [] => some []
    | (.bool b, h, pc) :: r =>
      if h.giv.nv != 0 then none else
      match truth pc b with
      | some true => leave r
      | _ => (leave r).map fun l => (b, pc) :: l
    | _ => none

theorem leave_mem {ι : Unk} : ∀ {l : List (AV × Hp × List BE)} {L : List (BE × List BE)}, openEnds.leave l = some L → (∀ q ∈ L, (∀ c ∈ q.2, c.den ι = true) → q.1.den ι = true) →
    ∀ r ∈ l, (r.2.1.giv.nv = 0 → ∀ c ∈ r.2.2, c.den ι = true) → ∃ b, r.1 = .bool b ∧ b.den ι = true ∧ r.2.1.giv.nv = 0
  | [], _, _, _, r, hr, _ => by cases hr
  | (v, h, pc) :: l, L, hl, hL, r, hr, hp => by
    unfold openEnds.leave at hl
    split at hl
    · rename_i h0; cases h0
    · rename_i b h' pc' r' heq
      injection heq with e1 e2
      injection e1 with e1 e3
      injection e3 with e3 e4
      subst e1 e2 e3 e4
      split at hl
      · cases hl
      rename_i hnv
      have hnv : h.giv.nv = 0 := by simpa using hnv
      split at hl
      · rename_i ht
        rcases List.mem_cons.1 hr with rfl | hr
        · exact ⟨b, rfl, truth_sound (hp hnv) ht, hnv⟩
        · exact leave_mem hl hL r hr hp
      · simp only [Option.map_eq_some_iff] at hl
        obtain ⟨L', hl', rfl⟩ := hl
        rcases List.mem_cons.1 hr with rfl | hr
        · exact ⟨b, rfl, hL _ List.mem_cons_self (hp hnv), hnv⟩
        · exact leave_mem hl' (fun q hq => hL q (List.mem_cons_of_mem _ hq)) r hr hp
    · cases hl

/-- Whatever is left open holds: then all that it comes to is true. -/
theorem calls_open {P : Program} {dr : Bool} {kn : Kn} {fuel d : Nat} {f : FuncId} {args : List AV} {xs : List Value} {ι : Unk} {pc : List BE} {L : List (BE × List BE)} (w : World) (hN : plainNames P = true) (hK : Known P kn ⟨w.heap.size, ι.prd⟩)
    (hA : dr = true → ∀ call, CallOk P call ⟨w.heap.size, ι.prd⟩ → AnyOk P call ⟨w.heap.size, ι.prd⟩)
    (h : openEnds (runCall P dr kn fuel d false f args Hp.nil pc) = some L) (hL : ∀ q ∈ L, (∀ c ∈ q.2, c.den ι = true) → q.1.den ι = true) (hx : AV.denL ⟨[], [], ι⟩ args = some xs) (hp : ∀ b ∈ pc, b.den ι = true)
    (hfv : ι.fv = [] := by rfl) (hbl : (pc.all fun b => b.upto 0) = true := by rfl) :
    Calls P f xs.toArray w fun e w' => e = .returned (.bool true) ∧ Below w.heap.size w w' := by
  unfold openEnds at h
  split at h
  · cases h
  · rename_i l hl
    have hw : WR ⟨[], [], ι⟩ ⟨w.heap.size, ι.prd⟩ Hp.nil w :=
      ⟨rfl, rfl, fun b c o hb => by simp at hb, fun b c hb => by simp at hb, fun b b' c o o' _ hb => by simp at hb, Nat.le_refl _, fun b o k ho => (by cases ho), ⟨fun i g hi => by simp [Hp.nil] at hi, by simp [Unk.nv, hfv, Hp.nil], rules_nil _, rfl⟩⟩
    refine Calls.mono ((runCall_sound hN hK fuel hA d).1 f args Hp.nil pc l hl ⟨[], [], ι⟩ w xs hw (holds_first hfv hbl hp) hx) ?_
    rintro e w' ⟨r, E', hend, hr, hxt, hpc⟩
    have hEι : r.2.1.giv.nv = 0 → E'.ι = ι := fun h0 => le_nil hxt.le.ι hfv (by rw [hxt.wr.giv.nv]; exact h0)
    obtain ⟨b, hb, ht, h0⟩ := leave_mem h hL r hr (fun h0 c hc => by have := (hpc c hc).2; rwa [hEι h0] at this)
    obtain ⟨z, rfl, hz⟩ : ∃ z, e = .returned z ∧ r.1.den E' = some z := by
      rcases hend with h0 | ⟨y, x, hy, _⟩
      · exact h0
      · rw [hb] at hy; cases hy
    rw [hb] at hz
    have hz' := denBool hz
    rw [hEι h0, ht] at hz'
    subst hz'
    exact ⟨rfl, hxt.fr.os, hxt.fr.tape, hxt.fr.output, hxt.fr.size, fun k hk => hxt.fr.block k hk (fun b hb => by simp at hb)⟩

/-- What the unknowns are. -/
def io (l : List Int) (s : List (List UInt8) := []) : Unk := ⟨fun i => l.getD i 0, fun i => s.getD i [], fun _ => none, [], fun _ _ _ _ => True⟩

theorem wrap_wf {k : IntKind} {n : Int} (h : (Lit.int k n).wf = true) : k.wrap n = n := by
  simp only [Lit.wf, Bool.and_eq_true, decide_eq_true_eq] at h
  exact wrap_in k h.1 h.2

section
variable {ι : Unk} {a b : IE} {x y : BE}
theorem den_not : (BE.not x).den ι = true ↔ ¬ (x.den ι = true) := by simp [BE.den]
theorem den_same : (BE.same x y).den ι = true ↔ (x.den ι = true ↔ y.den ι = true) := by cases h : x.den ι <;> cases h' : y.den ι <;> simp [BE.den, h, h']
theorem den_lit {c : Bool} : (BE.lit c).den ι = true ↔ c = true := Iff.rfl
theorem den_lss : (BE.cmp .lss a b).den ι = true ↔ a.den ι < b.den ι := by simp [BE.den, intCmp]
theorem den_leq : (BE.cmp .leq a b).den ι = true ↔ a.den ι ≤ b.den ι := by simp [BE.den, intCmp]
theorem den_gtr : (BE.cmp .gtr a b).den ι = true ↔ b.den ι < a.den ι := by simp [BE.den, intCmp]
theorem den_geq : (BE.cmp .geq a b).den ι = true ↔ b.den ι ≤ a.den ι := by simp [BE.den, intCmp]
theorem den_eql : (BE.cmp .eql a b).den ι = true ↔ a.den ι = b.den ι := by simp [BE.den, intCmp]
theorem den_neq : (BE.cmp .neq a b).den ι = true ↔ a.den ι ≠ b.den ι := by simp [BE.den, intCmp]
theorem ie_lit {n : Int} : (IE.lit n).den ι = n := rfl
theorem ie_wrap {k : IntKind} : (IE.wrap k a).den ι = k.wrap (a.den ι) := rfl
theorem ie_var {i : Nat} : (IE.var i).den ι = ι.num i := rfl
theorem ie_slen {i : Nat} : (IE.slen i).den ι = ((ι.str i).length : Int) := rfl
theorem den_seqs {i : Nat} {s : List UInt8} : (BE.seqs i s).den ι = true ↔ ι.str i = s := by simp [BE.den]
theorem ie_add {k : IntKind} : (IE.bin .add k a b).den ι = k.wrap (a.den ι + b.den ι) := rfl
theorem ie_sub {k : IntKind} : (IE.bin .sub k a b).den ι = k.wrap (a.den ι - b.den ι) := rfl
theorem ie_mul {k : IntKind} : (IE.bin .mul k a b).den ι = k.wrap (a.den ι * b.den ι) := rfl
end

/-- The step behind a walk that leaves all as it was, of a function that reads no memory. -/
theorem post_of_none {H : Type} {enc : TypeId × Value → H} {P : Program} {f : Func} {s : ChangeSpec} {apart fresh handsOn again : Bool} {W W' : World} {args : Array Value} {v : Value} {ds gs : List (DataW H)}
    (hW : DataW.Whole enc P f.params.toList s.vars apart W args.toList ds gs [])
    (hres : ∀ (b : Nat) (sp : Nat → Bool) (hd : Bool), DataW.TrodAll enc P W' b sp hd f.resultTypes.toList (v.resultList f.resultTypes.size) (s.fn H (ds ++ gs)).results [])
    (hargs : ∀ sp : Nat → Bool, DataW.TrodAll enc P W' 0 sp true f.params.toList args.toList (s.fn H (ds ++ gs)).args [])
    (hvars : ∀ sp : Nat → Bool, DataW.TrodVars enc P W' sp s.vars (s.fn H (ds ++ gs)).vars [])
    (hk : W.keptBut W' (fun _ => False))
    (hok : ∀ (j : Nat) (t : TypeId) (r : Value), f.resultTypes[j]? = some t → (v.resultList f.resultTypes.size)[j]? = some r → Value.okWide P W' .any 0 t r) :
    s.post enc P f apart fresh handsOn again W args v W' :=
  ⟨ds, gs, [], [], [], [], hW, hres _ _ _, hargs _, hvars _, World.keptBut_mono (fun _ hp => hp.elim) hk, fun _ =>
    ⟨hok, _, _, [], ⟨[], [], trodAll_append (hargs _) (hres _ _ _), hvars (fun _ => true), rfl, fun _ _ hp => (by cases hp), fun _ => List.nodup_nil⟩, fun _ hp => by cases hp⟩⟩

end Go.Sx
