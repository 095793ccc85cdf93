/-
  A WALKER THAT COMPUTES, ITS FOURTEENTH PART: operations one behind the other.
-/
import Derived.ChangeKeysEq
import Derived.Test.YtbgjceknbcpgjaaSzV
import Derived.Test.YtbgjceknbcpgjaaSzSy
import Derived.Test.YtbgjceknbcpgjaaSzGr
import Derived.Tactics
import Derived.TacticsIn
import Derived.OwnWalkIn
import Derived.OrdersIn
import Derived.Laws.StructEq
namespace Go.Sx

section
variable {P : Program} {E : Env} {D : Nat → Prop} {σ : St} {a : Act} {B : Bd} {w : World}

/-- What is deferred, in the model. -/
noncomputable def Mark.den (E : Env) : Mark → Option Deferred
  | .blk b => (E.ρ[b]?).map fun c => { target := .collected c, args := #[] }
  | .call f a b =>
    match AV.denL E a, AV.denL E b with
    | some x, some y => some { target := .fn (.func f) y.toArray, args := x.toArray }
    | _, _ => none

theorem Mark.den_blk {E : Env} {b : Nat} {d : Deferred} : (Mark.blk b).den E = some d ↔ ∃ c, E.ρ[b]? = some c ∧ d = { target := .collected c, args := #[] } := by
  simp only [Mark.den, Option.map_eq_some_iff]
  constructor
  · rintro ⟨c, h, rfl⟩; exact ⟨c, h, rfl⟩
  · rintro ⟨c, h, rfl⟩; exact ⟨c, h, rfl⟩

theorem Mark.den_call {E : Env} {f : FuncId} {a b : List AV} {d : Deferred} : (Mark.call f a b).den E = some d ↔ ∃ x y, AV.denL E a = some x ∧ AV.denL E b = some y ∧ d = { target := .fn (.func f) y.toArray, args := x.toArray } := by
  simp only [Mark.den]
  constructor
  · intro h
    split at h
    · rename_i x y hx hy
      injection h with h
      exact ⟨x, y, hx, hy, h.symm⟩
    · cases h
  · rintro ⟨x, y, hx, hy, rfl⟩
    simp [hx, hy]

theorem Mark.den_mono {E E' : Env} (h : E.Le E') {m : Mark} {d : Deferred} (hm : m.den E = some d) : m.den E' = some d := by
  cases m with
  | blk b => obtain ⟨c, hc, rfl⟩ := Mark.den_blk.1 hm; exact Mark.den_blk.2 ⟨c, h.ρ _ _ hc, rfl⟩
  | call f a b => obtain ⟨x, y, hx, hy, rfl⟩ := Mark.den_call.1 hm; exact Mark.den_call.2 ⟨x, y, AV.denL_mono h _ _ hx, AV.denL_mono h _ _ hy, rfl⟩

noncomputable def marksDen (E : Env) : List Mark → Option (List Deferred)
  | [] => some []
  | m :: r =>
    match m.den E, marksDen E r with
    | some d, some l => some (d :: l)
    | _, _ => none

theorem marksDen_cons {E : Env} {m : Mark} {r : List Mark} {l : List Deferred} : marksDen E (m :: r) = some l ↔ ∃ d k, m.den E = some d ∧ marksDen E r = some k ∧ l = d :: k := by
  simp only [marksDen]
  constructor
  · intro h
    split at h
    · rename_i d k hd hk
      exact ⟨d, k, hd, hk, by injection h with h; exact h.symm⟩
    · cases h
  · rintro ⟨d, k, hd, hk, rfl⟩
    simp [hd, hk]

theorem marksDen_mono {E E' : Env} (h : E.Le E') : ∀ {l : List Mark} {m : List Deferred}, marksDen E l = some m → marksDen E' l = some m
  | [], m, hm => by simpa [marksDen] using hm
  | b :: r, m, hm => by
    obtain ⟨d, k, hd, hk, rfl⟩ := marksDen_cons.1 hm
    exact marksDen_cons.2 ⟨d, k, Mark.den_mono h hd, marksDen_mono h hk, rfl⟩

theorem marksDen_append {E : Env} : ∀ {l k : List Mark} {m n : List Deferred}, marksDen E l = some m → marksDen E k = some n → marksDen E (l ++ k) = some (m ++ n)
  | [], k, m, n, hm, hn => by simp only [marksDen, Option.some.injEq] at hm; subst hm; simpa using hn
  | b :: r, k, m, n, hm, hn => by
    obtain ⟨d, j, hd, hj, rfl⟩ := marksDen_cons.1 hm
    exact marksDen_cons.2 ⟨d, j ++ n, hd, marksDen_append hj hn, rfl⟩

theorem isPoison_den {E : Env} {v : AV} (h : v.isPoison = true) : v.den E = none := by
  unfold AV.isPoison at h
  split at h
  · simp only [AV.den, Cap.den]
    split
    · rename_i c n hc hn
      injection hn with hn
      subst hn
      simp
    · rfl
  · cases h

theorem pan_den {E : Env} {v x : AV} (h : v.pan? = some x) : v.den E = none := by
  unfold AV.pan? at h
  split at h
  · split at h
    · rename_i hp
      simp only [AV.den, AV.denL, isPoison_den hp, Option.map_none]
    · cases h
  · cases h

theorem pan_none {E : Env} {v : AV} {z : Value} (h : v.den E = some z) : v.pan? = none := by
  cases hp : v.pan? with
  | none => rfl
  | some x => rw [pan_den hp] at h; cases h

theorem pan_pan (v : AV) : v.pan.pan? = some v := rfl

/-- A state stands for an activation and a world. -/
structure SR (E : Env) (B : Bd) (D : Nat → Prop) (σ : St) (a : Act) (w : World) : Prop where
  slots : Slots E D σ.tmps a
  defers : marksDen E σ.marks = some a.defers
  wr : WR E B σ.h w
  pc : ∀ b ∈ σ.pc, b.holds E.ι
  pan : σ.pan = none

theorem SR.gain {E : Env} {B : Bd} {D : Nat → Prop} {σ : St} {a : Act} {w : World} (h : SR E B D σ a w) (v : AV) : SR E B D (σ.gain v) a w := by
  unfold St.gain
  split
  · exact h
  · exact ⟨h.slots, h.defers, h.wr, fun b hb => (List.mem_append.1 hb).elim (fun hb => gainOf_ok h.wr.giv.nv h.wr.giv.rules (fun b hb => (h.pc b hb).2) b hb) (h.pc b), h.pan⟩

/-- One of the states that it may come to. -/
def Aft (E : Env) (B : Bd) (D : Nat → Prop) (w : World) (l : List St) (a' : Act) (w' : World) : Prop :=
  ∃ σ' ∈ l, ∃ E', SR E' B D σ' a' w' ∧ E.Le E' ∧ Fr E E' w w'

/-- A panic, as the model tells it. -/
def panicOf (x : Value) : List PanicEntry := [{ v := x, recovered := false }]

/-- One of the states that it may come to by a panic. -/
def PAft (E : Env) (B : Bd) (D : Nat → Prop) (w : World) (l : List St) (x : Value) (a' : Act) (w' : World) : Prop :=
  ∃ σ' ∈ l, ∃ v E', σ'.pan = some v ∧ v.den E' = some x ∧ SR E' B D { σ' with pan := none } a' w' ∧ E.Le E' ∧ Fr E E' w w'

/-- How a call ends. -/
def EndR (E : Env) (v : AV) (e : Ending) : Prop :=
  (∃ z, e = .returned z ∧ v.den E = some z) ∨ (∃ y x, v.pan? = some y ∧ e = .panicked (panicOf x) ∧ y.den E = some x)

/-- What the walker says of calls holds. -/
def CallOk (P : Program) (call : CallF) (B : Bd) : Prop :=
  ∀ (f : FuncId) (args : List AV) (h : Hp) (pc : List BE) (L : List (AV × Hp × List BE)), call false f args h pc = some L →
    ∀ (E : Env) (w : World) (xs : List Value), WR E B h w → (∀ b ∈ pc, b.holds E.ι) → AV.denL E args = some xs →
      Calls P f xs.toArray w fun e w' => ∃ l E', EndR E' l.1 e ∧ l ∈ L ∧ Ext E B w E' l.2.1 w' ∧ ∀ b ∈ l.2.2, b.holds E'.ι

/-- The fence that lets in everything, in a round or not. -/
def Fw (ro : Option Nat) : Fence := { Fence.wide with round := ro }

/-- What the walker says of calls of 'yield' holds. -/
def RndOk (P : Program) (call : CallF) (B : Bd) : Prop :=
  ∀ (b : Nat) (args : List AV) (h : Hp) (pc : List BE) (L : List (AV × Hp × List BE)), call true b args h pc = some L →
    ∀ (E : Env) (w : World) (xs : List Value) (c : Nat), WR E B h w → (∀ b ∈ pc, b.holds E.ι) → AV.denL E args = some xs → E.ρ[b]? = some c →
      ∃ (fn : FuncId) (tmps : Array Value) (assign body : Code), (Instr.yield c xs.toArray).run P w = .ok (.round c fn tmps assign body) w ∧
        RoundIn Fence.wide 0 P c fn tmps assign body w fun e w' => ∃ z l E', e = .returned z ∧ l ∈ L ∧ l.1.den E' = some z ∧ Ext E B w E' l.2.1 w' ∧ ∀ b ∈ l.2.2, b.holds E'.ι

theorem Slots.put (hS : Slots E D σ.tmps a) (d : Option Tmp) {v : AV} {x : Value} (hv : v.den E = some x) : Slots E D (σ.put d v).tmps (a.put d x) := by
  cases d with
  | none => exact hS
  | some d =>
    refine ⟨by simp [St.put, tset_eq, Act.put, hS.1], fun t u ht hp hu => ?_⟩
    simp only [St.put, tset_eq, Act.put] at hu ⊢
    rw [List.getElem?_set] at hu
    rw [Array.getElem?_setIfInBounds]
    split at hu
    · rename_i he
      split at hu
      · rename_i hl
        injection hu with hu
        subst hu
        rw [if_pos he]
        rw [if_pos (by rw [← hS.1]; exact hl)]
        exact ⟨x, hv, rfl⟩
      · cases hu
    · rename_i he
      rw [if_neg he]
      exact hS.2 t u ht hp hu

theorem Act.put_defers (a : Act) (d : Option Tmp) (x : Value) : (a.put d x).defers = a.defers := by cases d <;> rfl
theorem St.put_h (σ : St) (d : Option Tmp) (v : AV) : (σ.put d v).h = σ.h := by cases d <;> rfl
theorem St.put_pc (σ : St) (d : Option Tmp) (v : AV) : (σ.put d v).pc = σ.pc := by cases d <;> rfl

theorem St.put_pan (σ : St) (d : Option Tmp) (v : AV) : (σ.put d v).pan = σ.pan := by cases d <;> rfl

theorem St.put_marks (σ : St) (d : Option Tmp) (v : AV) : (σ.put d v).marks = σ.marks := by cases d <;> rfl

theorem SR.put (hS : SR E B D σ a w) (d : Option Tmp) {v : AV} {x : Value} (hv : v.den E = some x) : SR E B D (σ.put d v) (a.put d x) w :=
  ⟨hS.slots.put d hv, by rw [St.put_marks, Act.put_defers]; exact hS.defers, by rw [St.put_h]; exact hS.wr, by rw [St.put_pc]; exact hS.pc, by rw [St.put_pan]; exact hS.pan⟩

theorem SR.ext (hS : SR E B D σ a w) {E' : Env} {h' : Hp} {w' : World} (hx : Ext E B w E' h' w') : SR E' B D { σ with h := h' } a w' :=
  ⟨hS.slots.mono hx.le, marksDen_mono hx.le hS.defers, hx.wr, fun b hb => BE.holds_le hx.le.ι (hS.pc b hb), hS.pan⟩

theorem SR.with (hS : SR E B D σ a w) {b : BE} (hb : b.holds E.ι) : SR E B D (σ.with b) a w :=
  ⟨hS.slots, hS.defers, hS.wr, fun c hc => by
    simp only [St.with, List.mem_cons] at hc
    rcases hc with rfl | hc
    · exact hb
    · exact hS.pc c hc, hS.pan⟩

theorem Aft.one {σ' : St} {a' : Act} {w' : World} {E' : Env} {l : List St} (hm : σ' ∈ l) (hS : SR E' B D σ' a' w') (hle : E.Le E') (hf : Fr E E' w w') : Aft E B D w l a' w' :=
  ⟨σ', hm, E', hS, hle, hf⟩

theorem Aft.sub {l l' : List St} {a' : Act} {w' : World} (h : Aft E B D w l a' w') (hl : ∀ x ∈ l, x ∈ l') : Aft E B D w l' a' w' := by
  obtain ⟨σ', hm, r⟩ := h
  exact ⟨σ', hl _ hm, r⟩

theorem split1_sound {α : Type} {b : BE} {yes no : St → Option (List α)} {l : List α} (hB : b.upto E.ι.nv = true) (hS : SR E B D σ a w) (h : split1 σ b yes no = some l) :
    ∃ σ' l', SR E B D σ' a w ∧ (∀ x ∈ l', x ∈ l) ∧ ((b.den E.ι = true ∧ yes σ' = some l') ∨ (b.den E.ι = false ∧ no σ' = some l')) := by
  unfold split1 at h
  split at h
  · rename_i ht
    exact ⟨σ, l, hS, fun _ h => h, Or.inl ⟨truthR_sound hS.wr.giv.rules (holds_den hS.pc) ht, h⟩⟩
  · rename_i ht
    exact ⟨σ, l, hS, fun _ h => h, Or.inr ⟨truthR_sound hS.wr.giv.rules (holds_den hS.pc) ht, h⟩⟩
  · simp only [Option.bind_eq_bind, Option.bind_eq_some_iff, Option.pure_def, Option.some.injEq] at h
    obtain ⟨l1, h1, l2, h2, rfl⟩ := h
    by_cases hb : b.den E.ι = true
    · have hw := hS.with ⟨hB, hb⟩
      unfold unlessB at h1
      split at h1
      · rename_i hd
        exact (dead_sound hS.wr.giv.rules (holds_den hw.pc) hd).elim
      · exact ⟨σ.with b, l1, hw, fun x hx => List.mem_append_left _ hx, Or.inl ⟨hb, h1⟩⟩
    · have hb' : b.den E.ι = false := by simpa using hb
      have hw := hS.with (b := b.mkNot) ⟨mkNot_below hB, by rw [BE.mkNot_den, hb']; rfl⟩
      unfold unlessB at h2
      split at h2
      · rename_i hd
        exact (dead_sound hS.wr.giv.rules (holds_den hw.pc) hd).elim
      · exact ⟨σ.with b.mkNot, l2, hw, fun x hx => List.mem_append_right _ hx, Or.inr ⟨hb', h2⟩⟩

theorem split_sound {α : Type} {b : BE} {yes no : St → Option (List α)} {l : List α} (hB : b.upto E.ι.nv = true) (hS : SR E B D σ a w) (h : split σ b yes no = some l) :
    ∃ σ' l', SR E B D σ' a w ∧ (∀ x ∈ l', x ∈ l) ∧ ((b.den E.ι = true ∧ yes σ' = some l') ∨ (b.den E.ι = false ∧ no σ' = some l')) := by
  unfold split at h
  split at h
  · rename_i x y
    simp only [BE.upto, Bool.and_eq_true] at hB
    obtain ⟨σ1, l1, hS1, hl1, hr1⟩ := split1_sound hB.1 hS h
    rcases hr1 with ⟨hx, hr1⟩ | ⟨hx, hr1⟩
    · obtain ⟨σ2, l2, hS2, hl2, hr2⟩ := split1_sound hB.2 hS1 hr1
      exact ⟨σ2, l2, hS2, fun z hz => hl1 _ (hl2 z hz), by rcases hr2 with ⟨h1, h2⟩ | ⟨h1, h2⟩ <;> simp [BE.den, hx, h1, h2]⟩
    · obtain ⟨σ2, l2, hS2, hl2, hr2⟩ := split1_sound hB.2 hS1 hr1
      exact ⟨σ2, l2, hS2, fun z hz => hl1 _ (hl2 z hz), by rcases hr2 with ⟨h1, h2⟩ | ⟨h1, h2⟩ <;> simp [BE.den, hx, h1, h2]⟩
  · rename_i x y
    simp only [BE.upto, Bool.and_eq_true] at hB
    obtain ⟨σ1, l1, hS1, hl1, hr1⟩ := split1_sound hB.1 hS h
    rcases hr1 with ⟨hx, hr1⟩ | ⟨hx, hr1⟩
    · obtain ⟨σ2, l2, hS2, hl2, hr2⟩ := split1_sound hB.2 hS1 hr1
      exact ⟨σ2, l2, hS2, fun z hz => hl1 _ (hl2 z hz), by rcases hr2 with ⟨h1, h2⟩ | ⟨h1, h2⟩ <;> simp [BE.den, hx, h1, h2]⟩
    · obtain ⟨σ2, l2, hS2, hl2, hr2⟩ := split1_sound hB.2 hS1 hr1
      exact ⟨σ2, l2, hS2, fun z hz => hl1 _ (hl2 z hz), by rcases hr2 with ⟨h1, h2⟩ | ⟨h1, h2⟩ <;> simp [BE.den, hx, h1, h2]⟩
  · exact split1_sound hB hS h

/-- The slot that an operation's guard looks at is none of 'D'. -/
def GuardClear (ops : Array Oper) (D : Nat → Prop) (o : Oper) : Prop :=
  ∀ (j : Nat) (want : Bool) (d : Tmp), o.guard = some (j, want) → (ops[j]?).bind (·.dst) = some d → ¬ D d

theorem yielded_of {ops : Array Oper} {j : Nat} (hS : Slots E D σ.tmps a) (hD : ∀ d, (ops[j]?).bind (·.dst) = some d → ¬ D d) (hP : ∀ v, ((ops[j]?).bind (·.dst)).bind (σ.tmps[·]?) = some v → v.isPoison = false) :
    yielded ops a.tmps j = match ((ops[j]?).bind (·.dst)).bind (σ.tmps[·]?) with
      | some (.bool b) => some (b.den E.ι)
      | _ => none := by
  unfold yielded
  cases hd : (ops[j]?).bind (·.dst) with
  | none => simp
  | some d =>
    simp only [Option.bind_some]
    cases hv : σ.tmps[d]? with
    | none =>
      have : a.tmps[d]? = none := by
        rw [Array.getElem?_eq_none_iff, ← hS.1]
        simpa using hv
      rw [this]
    | some v =>
      obtain ⟨x, hx, hax⟩ := hS.2 d v (hD d hd) (hP v (by rw [hd]; exact hv)) hv
      rw [hax]
      cases v <;> simp only [AV.den] at hx
      case bool b =>
        split at hx
        · injection hx with hx; subst hx; rfl
        · cases hx
      case txt => split at hx <;> first | (injection hx with hx; subst hx; rfl) | cases hx
      case int => split at hx <;> first | (injection hx with hx; subst hx; rfl) | cases hx
      case sl =>
        split at hx
        · simp only [Option.map_eq_some_iff] at hx
          obtain ⟨c, hc, rfl⟩ := hx
          rfl
        · cases hx
      case ptrs =>
        split at hx
        · simp only [Option.map_eq_some_iff] at hx
          obtain ⟨c, hc, rfl⟩ := hx
          rfl
        · cases hx
      all_goals
        first
        | (injection hx with hx; subst hx; rfl)
        | (simp only [Option.map_eq_some_iff] at hx
           obtain ⟨c, hc, rfl⟩ := hx
           rfl)
        | (split at hx
           · first
             | (injection hx with hx; subst hx; rfl)
             | (split at hx
                · injection hx with hx; subst hx; rfl
                · cases hx)
           · cases hx)

theorem guarded_sound {α : Type} {ops : Array Oper} {o : Oper} {yes no : St → Option (List α)} {l : List α} (hS : SR E B D σ a w) (hD : GuardClear ops D o) (h : guarded ops o σ yes no = some l) :
    ∃ σ' l', SR E B D σ' a w ∧ (∀ x ∈ l', x ∈ l) ∧ ((Region.wanted o (yielded ops a.tmps) = true ∧ yes σ' = some l') ∨ (Region.wanted o (yielded ops a.tmps) = false ∧ no σ' = some l')) := by
  unfold guarded at h
  cases hg : o.guard with
  | none =>
    rw [hg] at h
    exact ⟨σ, l, hS, fun _ h => h, Or.inl ⟨by simp [Region.wanted, hg], h⟩⟩
  | some p =>
    obtain ⟨j, want⟩ := p
    rw [hg] at h
    simp only at h
    have hy' := yielded_of (ops := ops) (j := j) hS.slots (fun d hd => hD j want d hg hd)
    split at h
    · rename_i b hb
      have hB : b.upto E.ι.nv = true := by
        obtain ⟨d, hd, hb⟩ := Option.bind_eq_some_iff.1 hb
        obtain ⟨x, hx, _⟩ := hS.slots.2 d _ (hD j want d hg hd) rfl hb
        exact denB hx
      have hy := hy' (fun v hv => by rw [hb] at hv; injection hv with hv; subst hv; rfl)
      rw [hb] at hy
      cases want with
      | true =>
        obtain ⟨σ', l', hS', hl, hr⟩ := split_sound hB hS h
        refine ⟨σ', l', hS', hl, ?_⟩
        simpa [Region.wanted, hg, hy] using hr
      | false =>
        obtain ⟨σ', l', hS', hl, hr⟩ := split_sound hB hS h
        refine ⟨σ', l', hS', hl, ?_⟩
        rcases hr with ⟨h1, h2⟩ | ⟨h1, h2⟩
        · exact Or.inr ⟨by simp [Region.wanted, hg, hy, h1], h2⟩
        · exact Or.inl ⟨by simp [Region.wanted, hg, hy, h1], h2⟩
    · rename_i v0 hnb hv0
      split at h
      · cases h
      rename_i hp
      have hy := hy' (fun v hv => by rw [hv0] at hv; injection hv with hv; subst hv; simpa using hp)
      have hn : yielded ops a.tmps j = none := by
        rw [hy, hv0]
        split
        · rename_i b hb'
          injection hb' with hb'
          exact absurd hb' (hnb b)
        · rfl
      exact ⟨σ, l, hS, fun _ h => h, Or.inr ⟨by simp [Region.wanted, hg, hn], h⟩⟩
    · rename_i hb
      have hy := hy' (fun v hv => by rw [hb] at hv; cases hv)
      have hn : yielded ops a.tmps j = none := by
        rw [hy, hb]
      exact ⟨σ, l, hS, fun _ h => h, Or.inr ⟨by simp [Region.wanted, hg, hn], h⟩⟩

/-- A number is held against an open capacity. -/
theorem capSplit_sound {o : Oper} {l : List St} (hS : SR E B D σ a w) (hc : ∀ x ∈ o.op.operands, Clear D x) (h : capSplit σ o = some l) :
    ∃ x, (execOp a.eval o).run P w = .ok (.value x) w ∧ Aft E B D w l (a.put o.dst x) w := by
  obtain ⟨dst, op, type, pos, after, guard⟩ := o
  unfold capSplit at h
  simp only at h hc
  split at h
  · rename_i op t x y yt
    simp only [Option.bind_eq_bind, Option.bind_eq_some_iff] at h
    obtain ⟨u, hu, v, hv, h⟩ := h
    have hdx := opnd_den hS.slots (hc x (by simp [Op.operands])) hu
    have hdy := opnd_den hS.slots (hc y (by simp [Op.operands])) hv
    split at h
    · rename_i n i s
      have ex := denInt hdx
      simp only [IE.den] at ex
      obtain ⟨m, hm, ey⟩ := denCapv hdy
      obtain ⟨kk, hkk, hs, rfl⟩ := Cap.den_var.1 hm
      simp only [Option.bind_eq_some_iff, Option.pure_def, Option.some.injEq] at h
      obtain ⟨⟨p, q⟩, hpq, rfl⟩ := h
      have key : ∀ b : Bool, intCmp op n ((kk - s : Nat) : Int) = some b → (b = true → liftB s p.1 ≤ kk ∧ (liftB s p.2 = 0 ∨ kk ≤ liftB s p.2)) → (b = false → liftB s q.1 ≤ kk ∧ (liftB s q.2 = 0 ∨ kk ≤ liftB s q.2)) →
          ∃ r : Value, (execOp a.eval { dst := dst, op := .binOp op t x y yt, type := type, pos := pos, after := after, guard := guard }).run P w = .ok (.value r) w ∧
            Aft E B D w [{ σ with h := { σ.h with bs := learn i (liftB s p.1) (liftB s p.2) σ.h.bs } }.put dst (.bool (.lit true)), { σ with h := { σ.h with bs := learn i (liftB s q.1) (liftB s q.2) σ.h.bs } }.put dst (.bool (.lit false))] (a.put dst r) w := by
        intro b hb h1 h2
        refine ⟨.bool b, ?_, ?_⟩
        · have := binOp_cmp (k := .i64) t hb
          simp [execOp, ex, ey, eqGuard_at_int, this]
        · cases b with
          | true =>
            obtain ⟨h3, h4⟩ := h1 rfl
            have hx := learn_ext hS.wr hkk h3 h4
            exact .one List.mem_cons_self ((hS.ext hx).put dst (by simp [AV.den, BE.den])) hx.le hx.fr
          | false =>
            obtain ⟨h3, h4⟩ := h2 rfl
            have hx := learn_ext hS.wr hkk h3 h4
            exact .one (List.mem_cons_of_mem _ (List.mem_singleton.2 rfl)) ((hS.ext hx).put dst (by simp [AV.den, BE.den])) hx.le hx.fr
      unfold capTest at hpq
      split at hpq
      · simp only [Option.some.injEq, Prod.mk.injEq] at hpq
        obtain ⟨rfl, rfl⟩ := hpq
        exact key _ rfl (fun hb => by simp only [decide_eq_true_eq] at hb; simp only [liftB]; constructor <;> (repeat' split) <;> omega) (fun hb => by simp only [decide_eq_false_iff_not] at hb; simp only [liftB]; constructor <;> (repeat' split) <;> omega)
      · simp only [Option.some.injEq, Prod.mk.injEq] at hpq
        obtain ⟨rfl, rfl⟩ := hpq
        exact key _ rfl (fun hb => by simp only [decide_eq_true_eq] at hb; simp only [liftB]; constructor <;> (repeat' split) <;> omega) (fun hb => by simp only [decide_eq_false_iff_not] at hb; simp only [liftB]; constructor <;> (repeat' split) <;> omega)
      · simp only [Option.some.injEq, Prod.mk.injEq] at hpq
        obtain ⟨rfl, rfl⟩ := hpq
        exact key _ rfl (fun hb => by simp only [decide_eq_true_eq] at hb; simp only [liftB]; constructor <;> (repeat' split) <;> omega) (fun hb => by simp only [decide_eq_false_iff_not] at hb; simp only [liftB]; constructor <;> (repeat' split) <;> omega)
      · simp only [Option.some.injEq, Prod.mk.injEq] at hpq
        obtain ⟨rfl, rfl⟩ := hpq
        exact key _ rfl (fun hb => by simp only [decide_eq_true_eq] at hb; simp only [liftB]; constructor <;> (repeat' split) <;> omega) (fun hb => by simp only [decide_eq_false_iff_not] at hb; simp only [liftB]; constructor <;> (repeat' split) <;> omega)
      · cases hpq
    · cases h
  · cases h

theorem minSplit_sound {o : Oper} {l : List St} (hS : SR E B D σ a w) (hc : ∀ x ∈ o.op.operands, Clear D x) (h : minSplit σ o = some l) :
    ∃ x, (execOp a.eval o).run P w = .ok (.value x) w ∧ Aft E B D w l (a.put o.dst x) w := by
  obtain ⟨dst, op, type, pos, after, guard⟩ := o
  unfold minSplit at h
  simp only at h hc
  split at h
  · rename_i args ts
    simp only [Option.bind_eq_bind, Option.bind_eq_some_iff] at h
    obtain ⟨xs, hxs, h⟩ := h
    have hl := callArgs (c := ⟨.builtin .min, args, ts⟩) hS.slots rfl hc hxs
    split at h
    · rename_i k x k' y
      split at h
      · rename_i hk
        subst hk
        simp only [Option.bind_eq_some_iff] at h
        obtain ⟨c, hcmp, h⟩ := h
        obtain ⟨u, v, hu, hv, e1⟩ := denL_two hl
        have bu := denI hu
        have bv := denI hv
        obtain rfl := denInt hu
        obtain rfl := denInt hv
        have e' : (args.toList.map a.eval) = [.int k (x.den E.ι), .int k (y.den E.ι)] := e1
        have hcd := BE.mkCmp_den (ι := E.ι) hcmp
        simp only [intCmp, Option.some.injEq] at hcd
        obtain ⟨σ', l', hS', hl', hr⟩ := split_sound (mkCmp_below hcmp bv bu) hS h
        rcases hr with ⟨hb, hr⟩ | ⟨hb, hr⟩
        · rw [hb] at hcd
          have hlt : y.den E.ι < x.den E.ι := by simpa using hcd
          injection hr with hr
          subst hr
          refine ⟨.int k (y.den E.ι), ?_, .one (hl' _ (List.mem_singleton.2 rfl)) (hS'.put dst (den_int (by assumption))) (.refl E) (.refl E w)⟩
          rw [exec_builtin rfl, args_toArray, e']
          simp [builtin, Builtin.min_, Builtin.min2, hlt]
        · rw [hb] at hcd
          have hlt : ¬ y.den E.ι < x.den E.ι := by simpa using hcd
          injection hr with hr
          subst hr
          refine ⟨.int k (x.den E.ι), ?_, .one (hl' _ (List.mem_singleton.2 rfl)) (hS'.put dst (den_int (by assumption))) (.refl E) (.refl E w)⟩
          rw [exec_builtin rfl, args_toArray, e']
          simp [builtin, Builtin.min_, Builtin.min2, hlt]
      · cases h
    · cases h
  · rename_i args ts
    simp only [Option.bind_eq_bind, Option.bind_eq_some_iff] at h
    obtain ⟨xs, hxs, h⟩ := h
    have hl := callArgs (c := ⟨.builtin .max, args, ts⟩) hS.slots rfl hc hxs
    split at h
    · rename_i k x k' y
      split at h
      · rename_i hk
        subst hk
        simp only [Option.bind_eq_some_iff] at h
        obtain ⟨c, hcmp, h⟩ := h
        obtain ⟨u, v, hu, hv, e1⟩ := denL_two hl
        have bu := denI hu
        have bv := denI hv
        obtain rfl := denInt hu
        obtain rfl := denInt hv
        have e' : (args.toList.map a.eval) = [.int k (x.den E.ι), .int k (y.den E.ι)] := e1
        have hcd := BE.mkCmp_den (ι := E.ι) hcmp
        simp only [intCmp, Option.some.injEq] at hcd
        obtain ⟨σ', l', hS', hl', hr⟩ := split_sound (mkCmp_below hcmp bv bu) hS h
        rcases hr with ⟨hb, hr⟩ | ⟨hb, hr⟩
        · rw [hb] at hcd
          have hlt : x.den E.ι < y.den E.ι := by simpa using hcd
          injection hr with hr
          subst hr
          refine ⟨.int k (y.den E.ι), ?_, .one (hl' _ (List.mem_singleton.2 rfl)) (hS'.put dst (den_int (by assumption))) (.refl E) (.refl E w)⟩
          rw [exec_builtin rfl, args_toArray, e']
          simp [builtin, Builtin.max_, Builtin.max2, hlt]
        · rw [hb] at hcd
          have hlt : ¬ x.den E.ι < y.den E.ι := by simpa using hcd
          injection hr with hr
          subst hr
          refine ⟨.int k (x.den E.ι), ?_, .one (hl' _ (List.mem_singleton.2 rfl)) (hS'.put dst (den_int (by assumption))) (.refl E) (.refl E w)⟩
          rw [exec_builtin rfl, args_toArray, e']
          simp [builtin, Builtin.max_, Builtin.max2, hlt]
      · cases h
    · cases h
  · cases h

/-- Struct by struct: what holds of the parts' comparing holds of the fields', one behind the other. -/
theorem eqFieldsA_sound {f : TypeId → AV → AV → Option (List BE)} {dd : Nat}
    (hf : ∀ (t : TypeId) (x y : AV) (u v : Value) (cs : List BE), f t x y = some cs → x.den E = some u → y.den E = some v → ∀ w : World, (Op.equalIn dd t u v).run P w = .ok (cs.all fun c => c.den E.ι) w)
    {xs ys : List AV} {ls ms : List Value} (hx : AV.denL E xs = some ls) (hy : AV.denL E ys = some ms) :
    ∀ (fs : List Field) (cs : List BE), eqFieldsA P f xs ys fs = some cs → ∀ w : World, (Op.eqFields dd ls.toArray ms.toArray fs).run P w = .ok (cs.all fun c => c.den E.ι) w
  | [], cs, h, w => by
    simp only [eqFieldsA, Option.some.injEq] at h
    subst h
    simp [Op.eqFields]
  | d :: r, cs, h, w => by
    simp only [eqFieldsA] at h
    split at h
    · rename_i hn
      simp only [Op.eqFields, hn, ne_eq, not_true_eq_false, if_false]
      exact eqFieldsA_sound hf hx hy r cs h w
    · rename_i hn
      simp only [Option.bind_eq_bind, Option.bind_eq_some_iff, Option.pure_def, Option.some.injEq] at h
      obtain ⟨x, h1, y, h2, l, h3, m, h4, rfl⟩ := h
      obtain ⟨u, hu, r1⟩ := partA_sound h1 hx
      obtain ⟨v, hv, r2⟩ := partA_sound h2 hy
      have r3 := hf d.type x y u v l h3 hu hv
      have ih := eqFieldsA_sound hf hx hy r m h4
      simp only [Op.eqFields, hn, ne_eq, not_false_eq_true, if_true, Sem.run_bind, r1, r2, r3, Result.andThen_ok, List.all_append]
      cases hb : l.all fun c => c.den E.ι
      · simp
      · simpa using ih w

theorem eqItemsA_sound {f : TypeId → AV → AV → Option (List BE)} {dd : Nat}
    (hf : ∀ (t : TypeId) (x y : AV) (u v : Value) (cs : List BE), f t x y = some cs → x.den E = some u → y.den E = some v → ∀ w : World, (Op.equalIn dd t u v).run P w = .ok (cs.all fun c => c.den E.ι) w)
    {xs ys : List AV} {ls ms : List Value} (hx : AV.denL E xs = some ls) (hy : AV.denL E ys = some ms) (e : TypeId) (k : Nat) :
    ∀ (is : List Nat) (cs : List BE), eqItemsA P f e k xs ys is = some cs → ∀ w : World, (Op.eqItems dd e k ls.toArray ms.toArray is).run P w = .ok (cs.all fun c => c.den E.ι) w
  | [], cs, h, w => by
    simp only [eqItemsA, Option.some.injEq] at h
    subst h
    simp [Op.eqItems]
  | i :: r, cs, h, w => by
    simp only [eqItemsA, Option.bind_eq_bind, Option.bind_eq_some_iff, Option.pure_def, Option.some.injEq] at h
    obtain ⟨x, h1, y, h2, l, h3, m, h4, rfl⟩ := h
    obtain ⟨u, hu, r1⟩ := partA_sound h1 hx
    obtain ⟨v, hv, r2⟩ := partA_sound h2 hy
    have r3 := hf e x y u v l h3 hu hv
    have ih := eqItemsA_sound hf hx hy e k r m h4
    simp only [Op.eqItems, Sem.run_bind, r1, r2, r3, Result.andThen_ok, List.all_append]
    cases hb : l.all fun c => c.den E.ι
    · simp
    · simpa using ih w

theorem eqA_sound (d : Nat) : ∀ (n : Nat) (t : TypeId) (x y : AV) (u v : Value) (cs : List BE), eqA P n t x y = some cs → x.den E = some u → y.den E = some v →
    ∀ w : World, (Op.equalIn (d + n) t u v).run P w = .ok (cs.all fun c => c.den E.ι) w
  | 0, _, _, _, _, _, _, h, _, _, _ => by simp [eqA] at h
  | n + 1, t, x, y, u, v, cs, h, hx, hy, w => by
    simp only [eqA] at h
    have e : d + (n + 1) = d + n + 1 := rfl
    rw [e]
    split at h
    · rename_i k0 hu
      split at h
      · rename_i k a k' b
        split at h
        · rename_i hk
          subst hk
          simp only [Option.map_eq_some_iff] at h
          obtain ⟨c, hc, rfl⟩ := h
          obtain rfl := denInt hx
          obtain rfl := denInt hy
          have hcd := BE.mkCmp_den (ι := E.ι) hc
          simp only [intCmp, Option.some.injEq] at hcd
          rw [run_equalIn_int w (d + n) t k k0 _ _ hu, hcd]
          simp
        · cases h
      · cases h
    · rename_i hu
      split at h
      · injection h with h
        subst h
        obtain rfl := denBool hx
        obtain rfl := denBool hy
        rw [run_equalIn_bool' w (d + n) t _ _ hu]
        simp [BE.mkSame_den]
      · cases h
    · rename_i hu
      split at h
      · injection h with h
        subst h
        obtain rfl := denStr hx
        obtain rfl := denStr hy
        rw [run_equalIn_string w (d + n) t _ _ hu, toList_mk, toList_mk]
        simp [BE.den]
      · injection h with h
        subst h
        obtain rfl := denStrv hx
        obtain rfl := denStr hy
        rw [run_equalIn_string w (d + n) t _ _ hu, toList_mk, toList_mk]
        simp only [List.all_cons, List.all_nil, Bool.and_true, BE.den]
        rw [Result.ok.injEq, Bool.eq_iff_iff]
        simp
      · injection h with h
        subst h
        obtain rfl := denStr hx
        obtain rfl := denStrv hy
        rw [run_equalIn_string w (d + n) t _ _ hu, toList_mk, toList_mk]
        simp only [List.all_cons, List.all_nil, Bool.and_true, BE.den]
        rw [Result.ok.injEq, Bool.eq_iff_iff]
        simp only [beq_iff_eq, decide_eq_true_eq, and_true]
        exact eq_comm
      · simp only [Option.bind_eq_bind, Option.bind_eq_some_iff, Option.pure_def, Option.some.injEq] at h
        obtain ⟨a, ha, b, hb, rfl⟩ := h
        obtain ⟨rfl, _⟩ := txOf_sound ha hx
        obtain ⟨rfl, _⟩ := txOf_sound hb hy
        rw [run_equalIn_string w (d + n) t _ _ hu, toList_mk, toList_mk]
        simp only [List.all_cons, List.all_nil, Bool.and_true]
        rw [Result.ok.injEq, Bool.eq_iff_iff]
        refine ⟨?_, rfl⟩
        split
        · rename_i e
          subst e
          simp [BE.den]
        · simp [BE.den]
    · rename_i fs hu
      split at h
      · split at h
        · cases h
        · rename_i hs
          obtain ⟨ls, hls, rfl⟩ := denAgg hx
          obtain ⟨ms, hms, rfl⟩ := denAgg hy
          have hf : P.fieldsOf t = fs := by simp [Program.fieldsOf, hu]
          rw [run_equalIn_struct w (d + n) t _ _ (by rw [hf]; exact hu) (by simpa using hs), hf]
          exact eqFieldsA_sound (eqA_sound d n) hls hms fs.toList cs h w
      · cases h
    · rename_i len e hu
      split at h
      · split at h
        · rename_i hi
          obtain ⟨ls, hls, rfl⟩ := denAgg hx
          obtain ⟨ms, hms, rfl⟩ := denAgg hy
          obtain ⟨i, hi⟩ := Option.isSome_iff_exists.1 hi
          rw [run_equalIn_array w (d + n) _ _ hu hi]
          exact eqItemsA_sound (eqA_sound d n) hls hms e _ _ cs h w
        · cases h
      · cases h
    · cases h

theorem eqFieldsA_below {f : TypeId → AV → AV → Option (List BE)}
    (hf : ∀ (t : TypeId) (x y : AV) (u v : Value) (cs : List BE), f t x y = some cs → x.den E = some u → y.den E = some v → ∀ c ∈ cs, c.upto E.ι.nv = true)
    {xs ys : List AV} {ls ms : List Value} (hx : AV.denL E xs = some ls) (hy : AV.denL E ys = some ms) :
    ∀ (fs : List Field) (cs : List BE), eqFieldsA P f xs ys fs = some cs → ∀ c ∈ cs, c.upto E.ι.nv = true
  | [], cs, h, c, hc => by
    simp only [eqFieldsA, Option.some.injEq] at h
    subst h
    cases hc
  | d :: r, cs, h, c, hc => by
    simp only [eqFieldsA] at h
    split at h
    · exact eqFieldsA_below hf hx hy r cs h c hc
    · simp only [Option.bind_eq_bind, Option.bind_eq_some_iff, Option.pure_def, Option.some.injEq] at h
      obtain ⟨x, h1, y, h2, l, h3, m, h4, rfl⟩ := h
      obtain ⟨u, hu, r1⟩ := partA_sound h1 hx
      obtain ⟨v, hv, r2⟩ := partA_sound h2 hy
      rcases List.mem_append.1 hc with hc | hc
      · exact hf d.type x y u v l h3 hu hv c hc
      · exact eqFieldsA_below hf hx hy r m h4 c hc

theorem eqItemsA_below {f : TypeId → AV → AV → Option (List BE)}
    (hf : ∀ (t : TypeId) (x y : AV) (u v : Value) (cs : List BE), f t x y = some cs → x.den E = some u → y.den E = some v → ∀ c ∈ cs, c.upto E.ι.nv = true)
    {xs ys : List AV} {ls ms : List Value} (hx : AV.denL E xs = some ls) (hy : AV.denL E ys = some ms) (e : TypeId) (k : Nat) :
    ∀ (is : List Nat) (cs : List BE), eqItemsA P f e k xs ys is = some cs → ∀ c ∈ cs, c.upto E.ι.nv = true
  | [], cs, h, c, hc => by
    simp only [eqItemsA, Option.some.injEq] at h
    subst h
    cases hc
  | i :: r, cs, h, c, hc => by
    simp only [eqItemsA, Option.bind_eq_bind, Option.bind_eq_some_iff, Option.pure_def, Option.some.injEq] at h
    obtain ⟨x, h1, y, h2, l, h3, m, h4, rfl⟩ := h
    obtain ⟨u, hu, r1⟩ := partA_sound h1 hx
    obtain ⟨v, hv, r2⟩ := partA_sound h2 hy
    rcases List.mem_append.1 hc with hc | hc
    · exact hf e x y u v l h3 hu hv c hc
    · exact eqItemsA_below hf hx hy e k r m h4 c hc

theorem eqA_below : ∀ (n : Nat) (t : TypeId) (x y : AV) (u v : Value) (cs : List BE), eqA P n t x y = some cs → x.den E = some u → y.den E = some v → ∀ c ∈ cs, c.upto E.ι.nv = true
  | 0, _, _, _, _, _, _, h, _, _, _, _ => by simp [eqA] at h
  | n + 1, t, x, y, u, v, cs, h, hx, hy, c0, hc0 => by
    simp only [eqA] at h
    split at h
    · split at h
      · split at h
        · simp only [Option.map_eq_some_iff] at h
          obtain ⟨c, hc, rfl⟩ := h
          rw [List.mem_singleton.1 hc0]
          exact mkCmp_below hc (denI hx) (denI hy)
        · cases h
      · cases h
    · split at h
      · injection h with h
        subst h
        rw [List.mem_singleton.1 hc0]
        exact mkSame_below (denB hx) (denB hy)
      · cases h
    · split at h
      · injection h with h; subst h; rw [List.mem_singleton.1 hc0]; rfl
      · injection h with h; subst h; rw [List.mem_singleton.1 hc0]; rfl
      · injection h with h; subst h; rw [List.mem_singleton.1 hc0]; rfl
      · simp only [Option.bind_eq_bind, Option.bind_eq_some_iff, Option.pure_def, Option.some.injEq] at h
        obtain ⟨a, ha, b, hb, rfl⟩ := h
        rw [List.mem_singleton.1 hc0]
        split
        · rfl
        · simp only [BE.upto, (txOf_sound ha hx).2, (txOf_sound hb hy).2, Bool.and_self]
    · split at h
      · split at h
        · cases h
        · obtain ⟨ls, hls, rfl⟩ := denAgg hx
          obtain ⟨ms, hms, rfl⟩ := denAgg hy
          exact eqFieldsA_below (eqA_below n) hls hms _ cs h c0 hc0
      · cases h
    · split at h
      · split at h
        · obtain ⟨ls, hls, rfl⟩ := denAgg hx
          obtain ⟨ms, hms, rfl⟩ := denAgg hy
          exact eqItemsA_below (eqA_below n) hls hms _ _ _ cs h c0 hc0
        · cases h
      · cases h
    · cases h

theorem eqSplit_sound {dst : Option Tmp} {same : Bool} : ∀ {cs : List BE} {σ : St} {l : List St}, (∀ c ∈ cs, c.upto E.ι.nv = true) → SR E B D σ a w → eqSplit dst same cs σ = some l →
    Aft E B D w l (a.put dst (.bool (if (cs.all fun c => c.den E.ι) = true then same else !same))) w
  | [], σ, l, _, hS, h => by
    simp only [eqSplit, Option.some.injEq] at h
    subst h
    exact .one (List.mem_singleton.2 rfl) (hS.put dst (by simp [AV.den, BE.den])) (.refl E) (.refl E w)
  | c :: r, σ, l, hcs, hS, h => by
    simp only [eqSplit] at h
    obtain ⟨σ', l', hS', hl', hr⟩ := split_sound (hcs c List.mem_cons_self) hS h
    rcases hr with ⟨hb, hr⟩ | ⟨hb, hr⟩
    · have ih := eqSplit_sound (fun c hc => hcs c (List.mem_cons_of_mem _ hc)) hS' hr
      simp only [List.all_cons, hb, Bool.true_and]
      exact ih.sub hl'
    · injection hr with hr
      subst hr
      exact .one (hl' _ (List.mem_singleton.2 rfl)) (hS'.put dst (by simp [AV.den, BE.den, hb])) (.refl E) (.refl E w)

theorem sameSplit_sound {o : Oper} {l : List St} (hS : SR E B D σ a w) (hc : ∀ x ∈ o.op.operands, Clear D x) (h : sameSplit P σ o = some l) :
    ∃ x, (execOp a.eval o).run P w = .ok (.value x) w ∧ Aft E B D w l (a.put o.dst x) w := by
  obtain ⟨dst, op, type, pos, after, guard⟩ := o
  unfold sameSplit at h
  simp only at h hc
  split at h
  · rename_i op t x y yt
    simp only [Option.bind_eq_bind, Option.bind_eq_some_iff] at h
    obtain ⟨same, hsame, h⟩ := h
    split at h
    · cases h
    · rename_i hg
      simp only [Option.bind_eq_some_iff] at h
      obtain ⟨p, hp, q, hq, h⟩ := h
      have hdx := opnd_den hS.slots (hc x (by simp [Op.operands])) hp
      have hdy := opnd_den hS.slots (hc y (by simp [Op.operands])) hq
      split at h
      · rename_i xs ys
        simp only [Option.bind_eq_some_iff] at h
        obtain ⟨cs, hcs, h⟩ := h
        have hrun := eqA_sound (P := P) 9990 10 t _ _ _ _ cs hcs hdx hdy
        obtain ⟨ls, hls, ex⟩ := denAgg hdx
        obtain ⟨ms, hms, ey⟩ := denAgg hdy
        rw [ex, ey] at hrun
        refine ⟨_, ?_, eqSplit_sound (eqA_below 10 t _ _ _ _ cs hcs hdx hdy) hS h⟩
        have hgd := run_eqGuard_agg (P := P) w op t x y ls.toArray ms.toArray (by simpa using hg)
        cases op <;> simp [sameOf] at hsame
        · subst hsame
          simp only [execOp, ex, ey, Sem.run_bind, hgd, Result.andThen_ok, run_eql_struct, hrun w]
          cases cs.all fun c => c.den E.ι <;> simp
        · subst hsame
          simp only [execOp, ex, ey, Sem.run_bind, hgd, Result.andThen_ok, run_neq_struct, hrun w]
          cases cs.all fun c => c.den E.ι <;> simp
      · cases h
  · cases h

/-- What is done where all else does not serve. -/
theorem symOp_sound (hN : plainNames P = true) {o : Oper} {l : List St} (hS : SR E B D σ a w) (hc : ∀ x ∈ o.op.operands, Clear D x) (h : symOp P o σ = some l) :
    ∃ x w', (execOp a.eval o).run P w = .ok (.value x) w' ∧ Aft E B D w l (a.put o.dst x) w' := by
  unfold symOp at h
  split at h
  · rename_i v hv
    injection h with h
    subst h
    obtain ⟨z, hz, hrun⟩ := symPure_sound hS.wr.giv.rules (holds_den hS.pc) hS.slots hc hv
    exact ⟨z, w, hrun w, .one (List.mem_singleton.2 rfl) (hS.put o.dst hz) (.refl E) (.refl E w)⟩
  · split at h
    · rename_i v F hv
      injection h with h
      subst h
      obtain ⟨z, C, hz, _, hsc, hrun⟩ := symRead_sound hS.wr.giv.rules (holds_den hS.pc) hS.slots hc hS.wr hv
      exact ⟨z, w, hrun w hsc, .one (List.mem_singleton.2 rfl) ((hS.gain _).put o.dst hz) (.refl E) (.refl E w)⟩
    · split at h
      · rename_i v hv
        injection h with h
        subst h
        obtain ⟨z, hz, hrun⟩ := symBytes_sound hS.slots hS.wr (holds_den hS.pc) hc hv
        exact ⟨z, w, hrun, .one (List.mem_singleton.2 rfl) (hS.put o.dst hz) (.refl E) (.refl E w)⟩
      · split at h
        · rename_i v ob hv
          injection h with h
          subst h
          obtain ⟨z, w', hrun, hz, hx⟩ := symNew_sound hS.slots hS.wr (holds_den hS.pc) hc hv
          exact ⟨z, w', hrun, .one (List.mem_singleton.2 rfl) ((hS.ext hx).put o.dst hz) hx.le hx.fr⟩
        · split at h
          · rename_i v h' hv
            injection h with h
            subst h
            obtain ⟨z, w', hrun, hz, hx⟩ := symApp_sound hS.slots hS.wr (holds_den hS.pc) hc hv
            exact ⟨z, w', hrun, .one (List.mem_singleton.2 rfl) ((hS.ext hx).put o.dst hz) hx.le hx.fr⟩
          · split at h
            · rename_i v hv
              injection h with h
              subst h
              obtain ⟨z, hz, hrun⟩ := symNil_sound hS.slots hS.wr (holds_den hS.pc) hc hv
              exact ⟨z, w, hrun, .one (List.mem_singleton.2 rfl) (hS.put o.dst hz) (.refl E) (.refl E w)⟩
            split at h
            · rename_i σ' hσ'
              injection h with h
              subst h
              obtain ⟨E', h', f, v, x, w', rfl, hrun, hz, hf, hx⟩ := symCopy_sound hS.slots hS.wr (holds_den hS.pc) hc hσ'
              have S := hS.ext hx
              have S' : SR E' B D { σ with h := h', pc := f :: σ.pc } a w' := ⟨S.slots, S.defers, S.wr, fun b hb => (List.mem_cons.1 hb).elim (fun e => e ▸ hf) (fun hb => S.pc b hb), S.pan⟩
              exact ⟨x, w', hrun, .one (List.mem_singleton.2 rfl) (S'.put o.dst hz) hx.le hx.fr⟩
            split at h
            · rename_i σ' hσ'
              injection h with h
              subst h
              obtain ⟨E', h', fs, v, x, rfl, hrun, hz, hf, hx⟩ := symCmp_sound hN hS.slots hS.wr (holds_den hS.pc) hc hσ'
              have S := hS.ext hx
              have S' : SR E' B D { σ with h := h', pc := fs ++ σ.pc } a w := ⟨S.slots, S.defers, S.wr, fun b hb => (List.mem_append.1 hb).elim (fun e => hf b e) (fun hb => S.pc b hb), S.pan⟩
              exact ⟨x, w, hrun, .one (List.mem_singleton.2 rfl) (S'.put o.dst hz) hx.le hx.fr⟩
            split at h
            · rename_i σ' hσ'
              injection h with h
              subst h
              obtain ⟨E', h', fs, v, x, w', rfl, hrun, hz, hf, hx⟩ := symNext_sound hS.slots hS.wr (holds_den hS.pc) hc hσ'
              have S := hS.ext hx
              have S' : SR E' B D { σ with h := h', pc := fs ++ σ.pc } a w' := ⟨S.slots, S.defers, S.wr, fun b hb => (List.mem_append.1 hb).elim (fun e => hf b e) (fun hb => S.pc b hb), S.pan⟩
              exact ⟨x, w', hrun, .one (List.mem_singleton.2 rfl) (S'.put o.dst hz) hx.le hx.fr⟩
            · split at h
              · rename_i σ' hσ'
                obtain ⟨E', h', fs, rfl, hf, hx⟩ := naming_sound hS.slots hS.wr hc hσ'
                have S := hS.ext hx
                have S' : SR E' B D { σ with h := h', pc := fs ++ σ.pc } a w := ⟨S.slots, S.defers, S.wr, fun b hb => (List.mem_append.1 hb).elim (fun e => hf b e) (fun hb => S.pc b hb), S.pan⟩
                split at h
                · rename_i v F hv
                  injection h with h
                  subst h
                  obtain ⟨z, C, hz, _, hsc, hrun⟩ := symRead_sound S'.wr.giv.rules (holds_den S'.pc) S'.slots hc S'.wr hv
                  exact ⟨z, w, hrun w hsc, .one (List.mem_singleton.2 rfl) ((S'.gain _).put o.dst hz) hx.le hx.fr⟩
                · cases h
              · cases h

theorem pureFast_eq {tmps : List AV} {o : Oper} {v : AV} (h : pureFast P tmps o.op = some v) : aopPure P tmps o = some v ∧ symGrow P σ o = none := by
  obtain ⟨dst, op, type, pos, after, guard⟩ := o
  cases op <;> simp only [pureFast] at h <;> first | (cases h; done) | skip
  case move x => exact ⟨h, rfl⟩
  case assign x => exact ⟨h, rfl⟩
  case binOp op t x y c =>
    refine ⟨?_, rfl⟩
    unfold binFast at h
    split at h
    · rename_i k a hx
      split at h
      · rename_i k' b hy
        simp only [aopPure, hx, hy, Option.bind_eq_bind, Option.bind_some]
        rw [← h]
        cases op <;> rfl
      · cases h
    · cases h
  case fieldAddr t x f =>
    refine ⟨?_, rfl⟩
    unfold faFast at h
    split at h
    · rename_i u hx
      simp only [aopPure, hx, Option.bind_eq_bind, Option.bind_some]
      exact h
    · cases h
  case indexAddr t x i =>
    refine ⟨?_, rfl⟩
    unfold ixFast at h
    split at h
    · rename_i u hx
      split at h
      · rename_i w hi
        simp only [aopPure, hx, hi, Option.bind_eq_bind, Option.bind_some]
        exact h
      · cases h
    · cases h
  case extract t i =>
    refine ⟨?_, rfl⟩
    unfold exFast at h
    split at h
    · rename_i vs hx
      simp only [aopPure, hx, Option.bind_eq_bind, Option.bind_some]
      exact h
    · cases h
theorem doFast_eq {call : CallF} {o : Oper} {l : List St} (h : doFast P o σ = some l) : doOp P call o σ = some l := by
  obtain ⟨dst, op, type, pos, after, guard⟩ := o
  unfold doFast at h
  simp only at h
  split at h
  · rename_i t a
    unfold loadFast at h
    split at h
    · rename_i b q ha
      split at h
      · rename_i v hv
        rw [← h]
        simp only [doOp, symGrow, aopPure, allocA, aopMem, ha, hv, Option.bind_eq_bind, Option.bind_some, Option.map_some]
      · cases h
    · rename_i b z q i o ha
      split at h
      · rename_i v F hv
        rw [← h]
        simp only [doOp, symGrow, aopPure, allocA, aopMem, aopMany, capSplit, minSplit, sameSplit, symStore, symOp, symPure, ha, hv, Option.bind_eq_bind, Option.bind_some]
      · cases h
    · cases h
  · rename_i t a x
    unfold storeFast at h
    split at h
    · rename_i v hx
      split at h
      · rename_i b q ha
        split at h
        · rename_i h' hv
          rw [← h]
          simp only [doOp, symGrow, aopPure, allocA, aopMem, ha, hx, hv, Option.bind_eq_bind, Option.bind_some, Option.map_some]
        · cases h
      · rename_i b z q i o ha
        split at h
        · rename_i h' hv
          rw [← h]
          simp only [doOp, symGrow, aopPure, allocA, aopMem, aopMany, capSplit, minSplit, sameSplit, ha, hx, hv, Option.bind_eq_bind, Option.bind_some]
        · cases h
      · cases h
    · cases h
  · split at h
    · rename_i v hv
      obtain ⟨h1, h2⟩ := pureFast_eq (σ := σ) (o := ⟨dst, op, type, pos, after, guard⟩) hv
      rw [← h]
      unfold doOp
      split
      · rename_i heq
        simp only at heq
        subst heq
        cases hv
      · rename_i heq
        simp only at heq
        subst heq
        cases hv
      · rw [h2, h1]
    · cases h
theorem doOpF_eq {call : CallF} {o : Oper} : doOpF P call o σ = doOp P call o σ := by
  unfold doOpF
  split
  · rename_i l h
    exact (doFast_eq h).symm
  · rfl


/-- What an operation yields, with the call left to what is known of calls. -/
theorem doOp_sound {call : CallF} (hN : plainNames P = true) (hC : CallOk P call B) {o : Oper} {l : List St} (hS : SR E B D σ a w) (hc : ∀ x ∈ o.op.operands, Clear D x) (h : doOp P call o σ = some l)
    {next : Act → World → Prop} {Q : Exit → Act → World → Prop} (hn : ∀ x w', Aft E B D w l (a.put o.dst x) w' → next (a.put o.dst x) w') (hq : ∀ x w', PAft E B D w l x a w' → Q (.panic (panicOf x)) a w') : o.wp P a w next Q := by
  unfold doOp at h
  unfold Oper.wp
  split at h
  · -- panic
    rename_i x ho
    simp only [Option.bind_eq_bind, Option.bind_eq_some_iff] at h
    obtain ⟨p, hp, h⟩ := h
    have hd := opnd_den hS.slots (hc x (by simp [ho, Op.operands])) hp
    split at h
    · rename_i t v
      injection h with h
      subst h
      obtain ⟨z, hz, he⟩ := denIface hd
      have hrun : (execOp a.eval o).run P w = .halt (.panic (.iface t z)) w := by
        unfold execOp; rw [ho]; simp [he, Instr.panic, goPanic]
      rw [hrun]
      exact hq _ _ ⟨_, List.mem_singleton.2 rfl, .iface t v, E, rfl, by simp [AV.den, hz], ⟨hS.slots, hS.defers, hS.wr, hS.pc, rfl⟩, .refl E, .refl E w⟩
    · cases h
  · -- pick
    rename_i c x y ho
    simp only [Option.bind_eq_bind, Option.bind_eq_some_iff] at h
    obtain ⟨p, hp, h⟩ := h
    split at h
    · rename_i b
      have hb := denBool (opnd_den hS.slots (hc c (by simp [ho, Op.operands])) hp)
      obtain ⟨σ', l', hS', hl, hr⟩ := split_sound (denB (opnd_den hS.slots (hc c (by simp [ho, Op.operands])) hp)) hS h
      rcases hr with ⟨hb', hr⟩ | ⟨hb', hr⟩
      · simp only [Option.map_eq_some_iff] at hr
        obtain ⟨v, hv, rfl⟩ := hr
        have hd := opnd_den hS'.slots (hc x (by simp [ho, Op.operands])) hv
        have hrun : (execOp a.eval o).run P w = .ok (.value (a.eval x)) w := by
          unfold execOp; rw [ho]; simp [hb, hb', asBool]
        rw [hrun]
        exact hn _ _ (.one (hl _ (by simp)) (hS'.put o.dst hd) (.refl E) (.refl E w))
      · simp only [Option.map_eq_some_iff] at hr
        obtain ⟨v, hv, rfl⟩ := hr
        have hd := opnd_den hS'.slots (hc y (by simp [ho, Op.operands])) hv
        have hrun : (execOp a.eval o).run P w = .ok (.value (a.eval y)) w := by
          unfold execOp; rw [ho]; simp [hb, hb', asBool]
        rw [hrun]
        exact hn _ _ (.one (hl _ (by simp)) (hS'.put o.dst hd) (.refl E) (.refl E w))
    · cases h
  · split at h
    · rename_i σ' hσ'
      injection h with h
      subst h
      obtain ⟨E', h', fs, v, x, w', rfl, hrun, hz, hf, hx⟩ := symGrow_sound hS.slots hS.wr (holds_den hS.pc) hc hσ'
      have S := hS.ext hx
      have S' : SR E' B D { σ with h := h', pc := fs ++ σ.pc } a w' := ⟨S.slots, S.defers, S.wr, fun b hb => (List.mem_append.1 hb).elim (hf b) (S.pc b), S.pan⟩
      rw [hrun]
      exact hn _ _ (.one (List.mem_singleton.2 rfl) (S'.put o.dst hz) hx.le hx.fr)
    split at h
    · rename_i v hv
      injection h with h
      subst h
      obtain ⟨z, hz, hrun⟩ := aopPure_sound hS.slots hc hv
      rw [hrun w]
      exact hn _ _ (.one (by simp) (hS.put o.dst (tidyAt_den (o := o) hS.wr.giv.rules (holds_den hS.pc) hz)) (.refl E) (.refl E w))
    · split at h
      · rename_i v ob n hv
        injection h with h
        subst h
        obtain ⟨x, obj, ks, w', hrun, hlaid, hk, hall⟩ := allocA_sound hS.slots hc hv w
        obtain ⟨hvd, hor⟩ := hall ⟨E.ρ ++ [w.heap.size], E.κ ++ ks, E.ι⟩
          ⟨.refl _, fun b c hb => by rw [List.getElem?_append_left (List.getElem?_eq_some_iff.1 hb).1]; exact hb, fun b c hb => by rw [List.getElem?_append_left (List.getElem?_eq_some_iff.1 hb).1]; exact hb⟩
          (by simp [← hS.wr.lenρ]) (fun j c hj => by rw [← hS.wr.lenκ, List.getElem?_append_right (by omega)]; simpa using hj)
        have hx := hlaid.ext hS.wr ob ks (allocA_cls hv) hor
        rw [hk] at hx
        rw [hrun]
        exact hn _ _ (.one (List.mem_singleton.2 rfl) ((hS.ext hx).put o.dst hvd) hx.le hx.fr)
      · split at h
        · rename_i v h' hr
          injection h with h
          subst h
          obtain ⟨E', z, w', hrun, hz, hx⟩ := aopMem_sound hN hS.slots hc hS.wr hr
          rw [hrun]
          exact hn _ _ (.one (List.mem_singleton.2 rfl) ((hS.ext hx).put o.dst hz) hx.le hx.fr)
        · rename_i h' hr
          injection h with h
          subst h
          obtain ⟨E', w', hrun, hx⟩ := aopMem_sound hN hS.slots hc hS.wr hr
          rw [hrun]
          exact hn _ _ (.one (List.mem_singleton.2 rfl) ((hS.ext hx).put o.dst (undefA_den E')) hx.le hx.fr)
        · rename_i f args h' hr
          simp only [Option.map_eq_some_iff] at h
          obtain ⟨L, hL, rfl⟩ := h
          obtain ⟨xs, w', hxs, hrun, hx⟩ := aopMem_sound hN hS.slots hc hS.wr hr
          rw [hrun]
          refine Calls.mono (hC f args h' σ.pc L hL E w' xs hx.wr hS.pc hxs) ?_
          rintro e w'' ⟨q, E', hend, hq', hx', hp⟩
          have hxx := hx.trans hx'
          have h0 : SR E' B D { σ with h := q.2.1, pc := q.2.2 } a w'' := ⟨hS.slots.mono hxx.le, marksDen_mono hxx.le hS.defers, hxx.wr, hp, hS.pan⟩
          rcases hend with ⟨z, rfl, hz⟩ | ⟨y, x, hy, rfl, hx2⟩
          · refine hn _ _ (.one (List.mem_map.2 ⟨q, hq', rfl⟩) ?_ hxx.le hxx.fr)
            simp only [St.land, pan_none hz]
            exact h0.put o.dst hz
          · refine hq _ _ ⟨_, List.mem_map.2 ⟨q, hq', rfl⟩, y, E', ?_, hx2, ?_, hxx.le, hxx.fr⟩
            · simp only [St.land, hy]
            · simp only [St.land, hy]
              exact ⟨h0.slots, h0.defers, h0.wr, h0.pc, rfl⟩
        · split at h
          · rename_i L hL
            injection h with h
            subst h
            obtain ⟨p, hp, E', w', hx, hres⟩ := aopMany_sound hN hS.slots hc hS.wr hL
            have hm : ({ σ with h := p.2 }.put o.dst (p.1.getD undefA)) ∈ L.map (fun (x : Option AV × Hp) => { σ with h := x.2 }.put o.dst (x.1.getD undefA)) := List.mem_map.2 ⟨p, hp, rfl⟩
            cases hv : p.1 with
            | some v =>
              rw [hv] at hres hm
              obtain ⟨z, hrun, hz⟩ := hres
              rw [hrun]
              exact hn _ _ (.one hm ((hS.ext hx).put o.dst hz) hx.le hx.fr)
            | none =>
              rw [hv] at hres hm
              rw [hres]
              exact hn _ _ (.one hm ((hS.ext hx).put o.dst (undefA_den E')) hx.le hx.fr)
          · split at h
            · rename_i L hL
              injection h with h
              subst h
              obtain ⟨x, hrun, haft⟩ := capSplit_sound (P := P) hS hc hL
              rw [hrun]
              exact hn _ _ haft
            · split at h
              · rename_i L hL
                injection h with h
                subst h
                obtain ⟨x, hrun, haft⟩ := minSplit_sound (P := P) hS hc hL
                rw [hrun]
                exact hn _ _ haft
              · split at h
                · rename_i L hL
                  injection h with h
                  subst h
                  obtain ⟨x, hrun, haft⟩ := sameSplit_sound (P := P) hS hc hL
                  rw [hrun]
                  exact hn _ _ haft
                · split at h
                  · rename_i h' hh
                    injection h with h
                    subst h
                    obtain ⟨w', hrun, hx⟩ := symStore_sound (P := P) hS.slots hS.wr (holds_den hS.pc) hc hh
                    rw [hrun]
                    exact hn _ _ (.one (List.mem_singleton.2 rfl) ((hS.ext hx).put o.dst (undefA_den E)) hx.le hx.fr)
                  obtain ⟨x, w', hrun, haft⟩ := symOp_sound (P := P) hN hS hc h
                  rw [hrun]
                  exact hn _ _ haft

theorem each_mem {α β : Type} {f : α → Option (List β)} : ∀ {l : List α} {m : List β}, each f l = some m → ∀ x ∈ l, ∃ k, f x = some k ∧ ∀ y ∈ k, y ∈ m
  | [], _, _, x, hx => by cases hx
  | z :: l, m, h, x, hx => by
    simp only [each, Option.bind_eq_bind, Option.bind_eq_some_iff, Option.pure_def, Option.some.injEq] at h
    obtain ⟨k, hk, k', hk', rfl⟩ := h
    rcases List.mem_cons.1 hx with rfl | hx
    · exact ⟨k, hk, fun y hy => List.mem_append_left _ hy⟩
    · obtain ⟨m', h1, h2⟩ := each_mem hk' x hx
      exact ⟨m', h1, fun y hy => List.mem_append_right _ (h2 y hy)⟩

theorem clear_none (x : Operand) : Clear (fun _ => False) x := fun _ _ h => h

/-- What the walker does is no 'defer' statement. -/
theorem doOp_noDefer {call : CallF} {o : Oper} {l : List St} (h : doOp P call o σ = some l) : ∀ c, o.op ≠ .defer c := by
  intro c hc
  unfold doOp symGrow aopPure allocA aopMem aopMany capSplit minSplit sameSplit at h
  rw [hc] at h
  simp at h
  unfold symStore symOp symPure symRead symBytes symNew newA symApp symOver symAppA symNil symCopy symCmp symNext naming unnamed at h
  rw [hc] at h
  simp at h

theorem stepsIn_fw {ro : Option Nat} {m m' : Machine} (h : Steps P m m') : StepsIn (Machine.fenced P (Fw ro)) P m m' := stepsIn_wide.2 h

theorem callsIn_fw {ro : Option Nat} {f : FuncId} {args : Array Value} {w : World} {R : Ending → World → Prop} (h : Calls P f args w R) : CallsIn (Fw ro) 0 P f args w R := callsIn_wide.2 h

/-- An operation that is no 'defer' is carried out in a round as anywhere. -/
theorem wpIn_of_wp {ro : Option Nat} {o : Oper} {next : Act → World → Prop} {Q : Exit → Act → World → Prop} (hd : ∀ c, o.op ≠ .defer c) (h : o.wp P a w next Q) : o.wpIn (Fw ro) 0 P a w next Q := by
  refine ⟨fun _ _ => trivial, ?_⟩
  rw [Oper.semAt_eq _ _ _ hd]
  unfold Oper.wp at h
  generalize (execOp a.eval o).run P w = r at h
  cases r with
  | ok x w' =>
    cases x <;> simp only [Oper.upon, Oper.uponIn] at h ⊢ <;>
      first
        | exact h
        | exact ⟨fun h => (by cases h), callsIn_fw h⟩
        | exact ⟨fun h => (by cases h), fun c cs _ => let ⟨v, w'', r, s⟩ := h c cs; ⟨v, w'', r, stepsIn_fw s⟩⟩
        | exact h.elim
  | halt x w' => cases x <;> simp only [Oper.upon, Oper.uponIn] at h ⊢ <;> exact h

theorem yieldOf_sound {o : Oper} {b : Nat} {xs : List AV} (hS : Slots E D σ.tmps a) (hc : ∀ x ∈ o.op.operands, Clear D x) (h : yieldOf σ.tmps o = some (b, xs)) :
    ∃ c ys, E.ρ[b]? = some c ∧ AV.denL E xs = some ys ∧ (∀ c, o.op ≠ .defer c) ∧ ∀ w, (execOp a.eval o).run P w = (Instr.yield c ys.toArray).run P w := by
  obtain ⟨dst, op, type, pos, after, guard⟩ := o
  unfold yieldOf at h
  simp only at h hc
  split at h
  · rename_i f args ts
    simp only [Option.bind_eq_bind, Option.bind_eq_some_iff] at h
    obtain ⟨p, hp, h⟩ := h
    have hd := opnd_den hS (hc f (by simp [Op.operands, Call.operands])) hp
    split at h
    · simp only [Option.bind_eq_some_iff, Option.pure_def, Option.some.injEq, Prod.mk.injEq] at h
      obtain ⟨ys, hys, rfl, rfl⟩ := h
      have hl := callArgs (c := ⟨.value f, args, ts⟩) hS rfl hc hys
      obtain ⟨c, hcb, he⟩ := denYield hd
      refine ⟨c, _, hcb, hl, fun c hc => (by cases hc), fun w => ?_⟩
      simp [execOp, resolve, Deferred.ofValue, he, invoke, args_toArray]
    · cases h
  · cases h

theorem deferOf_sound {o : Oper} {m : Mark} (hS : Slots E D σ.tmps a) (hc : ∀ x ∈ o.op.operands, Clear D x) (h : deferOf σ.tmps o = some m) :
    ∃ d, m.den E = some d ∧ ∀ w, (execOp a.eval o).run P w = .ok (.defer d) w := by
  obtain ⟨dst, op, type, pos, after, guard⟩ := o
  unfold deferOf at h
  simp only at h hc
  split at h
  · rename_i f args ts
    simp only [Option.bind_eq_bind, Option.bind_eq_some_iff] at h
    obtain ⟨p, hp, h⟩ := h
    have hd := opnd_den hS (hc f (by simp [Op.operands, Call.operands])) hp
    split at h
    · rename_i g x y
      simp only [Option.bind_eq_some_iff, Option.pure_def, Option.some.injEq] at h
      obtain ⟨ys, hys, rfl⟩ := h
      have hl := args1_den hS (fun z hz => hc z (by simp only [Op.operands, Call.operands]; exact Array.mem_append.2 (Or.inr (Array.mem_toList_iff.1 hz)))) hys
      obtain ⟨x', y', hx', hy', he⟩ := denFunc hd
      refine ⟨_, Mark.den_call.2 ⟨_, y', denL_append hx' hl, hy', rfl⟩, fun w => ?_⟩
      simp [execOp, resolve, Deferred.ofValue, he]
    · cases h
  · cases h

/-- An operation, a 'yield' or a deferred call among them. -/
theorem doOpY_sound {call : CallF} {ro roC : Option Nat} (hro : ro = none → roC = none) (hN : plainNames P = true) (hC : CallOk P call B) (hY : RndOk P call B) {o : Oper} {l : List St} (hS : SR E B D σ a w) (hc : ∀ x ∈ o.op.operands, Clear D x) (h : doOpY P call ro o σ = some l)
    {next : Act → World → Prop} {Q : Exit → Act → World → Prop} (hn : ∀ a' w', Aft E B D w l a' w' → next a' w') (hq : ∀ x w', PAft E B D w l x a w' → Q (.panic (panicOf x)) a w') : o.wpIn (Fw roC) 0 P a w next Q := by
  unfold doOpY at h
  simp only [doOpF_eq] at h
  split at h
  · rename_i m hm
    obtain ⟨d, hd, hrun⟩ := deferOf_sound (P := P) hS.slots hc hm
    split at h
    · rename_i hr
      injection h with h
      subst h
      obtain rfl := hro (by simpa using hr)
      refine ⟨fun _ _ => trivial, ?_⟩
      have hs : (o.semAt (Fw none).round a.eval).run P w = .ok (.defer d) w := hrun w
      rw [hs, Oper.uponIn_defer]
      refine hn _ _ (.one (List.mem_singleton.2 rfl) ?_ (.refl E) (.refl E w))
      have h0 : SR E B D { σ with marks := m :: σ.marks } { a with defers := d :: a.defers } w := ⟨⟨hS.slots.1, hS.slots.2⟩, marksDen_cons.2 ⟨d, _, hd, hS.defers, rfl⟩, hS.wr, hS.pc, hS.pan⟩
      exact h0.put o.dst (undefA_den E)
    · cases h
  · split at h
    · rename_i b xs hy
      obtain ⟨c, ys, hcb, hys, hd, hrun⟩ := yieldOf_sound (P := P) hS.slots hc hy
      simp only [Option.map_eq_some_iff] at h
      obtain ⟨L, hL, rfl⟩ := h
      obtain ⟨fn, tmps, assign, body, hr, hround⟩ := hY b xs σ.h σ.pc L hL E w ys c hS.wr hS.pc hys hcb
      refine ⟨fun _ _ => trivial, ?_⟩
      rw [Oper.semAt_eq _ _ _ hd, hrun w, hr, Oper.uponIn_round]
      refine ⟨fun h => (by cases h), RoundIn.mono (F := Fw roC) hround ?_⟩
      rintro e w'' ⟨z, q, E', rfl, hq', hz, hx, hp⟩
      refine hn _ _ (.one (List.mem_map.2 ⟨q, hq', rfl⟩) ?_ hx.le hx.fr)
      have h0 : SR E' B D { σ with h := q.2.1, pc := q.2.2 } a w'' := ⟨hS.slots.mono hx.le, marksDen_mono hx.le hS.defers, hx.wr, hp, hS.pan⟩
      simp only [St.land, pan_none hz]
      exact h0.put o.dst hz
    · exact wpIn_of_wp (doOp_noDefer h) (doOp_sound hN hC hS hc h (fun x w' => hn _ w') hq)

theorem PAft.sub {l l' : List St} {x : Value} {a' : Act} {w' : World} (h : PAft E B D w l x a' w') (hl : ∀ x ∈ l, x ∈ l') : PAft E B D w l' x a' w' := by
  obtain ⟨σ', hm, r⟩ := h
  exact ⟨σ', hl _ hm, r⟩

theorem runOps_sound {call : CallF} {ro roC : Option Nat} (hro : ro = none → roC = none) (hN : plainNames P = true) (hC : CallOk P call B) (hY : RndOk P call B) {ops : Array Oper} {Q : Exit → Act → World → Prop} : ∀ (os : List Oper) {E : Env} {σ : St} {a : Act} {w : World} {l : List St},
    SR E B (fun _ => False) σ a w → runOps P call ro ops os σ = some l → (∀ a' w', Aft E B (fun _ => False) w l a' w' → Q .normal a' w') → (∀ x a' w', PAft E B (fun _ => False) w l x a' w' → Q (.panic (panicOf x)) a' w') → wpListIn (Fw roC) 0 P ops Q os a w
  | [], E, σ, a, w, l, hS, h, hQ, _ => by
    simp only [runOps, Option.some.injEq] at h
    subst h
    exact hQ _ _ (.one (List.mem_singleton.2 rfl) hS (.refl E) (.refl E w))
  | o :: os, E, σ, a, w, l, hS, h, hQ, hP => by
    simp only [runOps, St.opened_eq] at h
    obtain ⟨σ', l', hS', hl, hr⟩ := guarded_sound hS (fun _ _ _ _ _ h => h) h
    unfold wpListIn
    rcases hr with ⟨hw, hr⟩ | ⟨hw, hr⟩
    · rw [if_pos hw]
      simp only [Option.bind_eq_bind, Option.bind_eq_some_iff] at hr
      obtain ⟨l1, h1, h2⟩ := hr
      refine doOpY_sound hro hN hC hY hS' (fun x _ => clear_none x) h1 ?_ ?_
      · rintro a1 w' ⟨σ1, hm, E1, hS1, hle, hf⟩
        obtain ⟨k, hk, hkl⟩ := each_mem h2 σ1 hm
        rw [if_neg (by rw [hS1.pan]; simp)] at hk
        refine runOps_sound hro hN hC hY os hS1 hk ?_ ?_
        · rintro a2 w2 ⟨σ2, hm2, E2, hS2, hle2, hf2⟩
          exact hQ _ _ ⟨σ2, hl _ (hkl _ hm2), E2, hS2, hle.trans hle2, hf.trans hf2⟩
        · rintro x a2 w2 ⟨σ2, hm2, v2, E2, hp2, hx2, hS2, hle2, hf2⟩
          exact hP _ _ _ ⟨σ2, hl _ (hkl _ hm2), v2, E2, hp2, hx2, hS2, hle.trans hle2, hf.trans hf2⟩
      · rintro x w' ⟨σ1, hm, v1, E1, hp1, hx1, hS1, hle, hf⟩
        obtain ⟨k, hk, hkl⟩ := each_mem h2 σ1 hm
        rw [if_pos (by rw [hp1]; rfl)] at hk
        injection hk with hk
        subst hk
        exact hP _ _ _ ⟨σ1, hl _ (hkl _ (List.mem_singleton.2 rfl)), v1, E1, hp1, hx1, hS1, hle, hf⟩
    · rw [hw, if_neg (by simp)]
      refine ⟨fun _ _ => trivial, runOps_sound hro hN hC hY os (hS'.put o.dst (undefA_den E)) hr ?_ ?_⟩
      · rintro a2 w2 ⟨σ2, hm2, E2, hS2, hle2, hf2⟩
        exact hQ _ _ ⟨σ2, hl _ hm2, E2, hS2, hle2, hf2⟩
      · rintro x a2 w2 ⟨σ2, hm2, v2, E2, hp2, hx2, hS2, hle2, hf2⟩
        exact hP _ _ _ ⟨σ2, hl _ hm2, v2, E2, hp2, hx2, hS2, hle2, hf2⟩

/-! ### Drawn regions, in a round or not -/

theorem wpOpIn_of_wpOp {ro : Option Nat} {ops : Array Oper} {Q : Exit → Act → World → Prop} (hd : noDefer ops = true) (hl : ¬ LetsOut Q) {i : Nat} {K K' : Act → World → Prop} (hK : ∀ a w, K a w → K' a w) {a : Act} {w : World} (h : wpOp P ops Q i K a w) :
    wpOpIn (Fw ro) 0 P ops Q i K' a w := by
  unfold wpOp at h
  unfold wpOpIn
  cases ho : ops[i]? with
  | none => rw [ho] at h; exact hK _ _ h
  | some o =>
    rw [ho] at h
    simp only at h ⊢
    split at h
    · rename_i hw
      rw [if_pos hw]
      rcases h with h | h
      · have hno : ∀ c, o.op ≠ .defer c := fun c hc => by
          have := List.all_eq_true.1 hd o (Array.mem_toList_iff.2 (Array.mem_of_getElem? ho))
          rw [hc] at this
          cases this
        exact wpIn_of_wp hno (Oper.wp_mono hK h)
      · exact absurd h.2 hl
    · rename_i hw
      rw [if_neg hw]
      exact ⟨fun _ _ => trivial, hK _ _ h⟩

theorem wpAnyIn_of_wpAny {ro : Option Nat} {ops : Array Oper} {Q : Exit → Act → World → Prop} {md : Region.Mode} (hd : noDefer ops = true) (hl : ¬ LetsOut Q) : ∀ (n : Nat) (L : Array Bool) (a : Act) (w : World), wpAny P md ops Q n L a w → wpAnyIn (Fw ro) 0 P md ops Q n L a w
  | 0, _, _, _, h => h
  | n + 1, _, _, _, h => ⟨h.1, fun i hi => wpOpIn_of_wpOp hd hl (fun a w h => wpAnyIn_of_wpAny hd hl n _ a w h) (h.2 i hi)⟩

end
end Go.Sx
