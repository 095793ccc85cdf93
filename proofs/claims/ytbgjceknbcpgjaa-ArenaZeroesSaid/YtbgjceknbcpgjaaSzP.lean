/-
  A WALKER THAT COMPUTES, ITS FIFTEENTH PART: code and calls.
-/
import Derived.Test.YtbgjceknbcpgjaaSzLr
import Derived.LoopNIn
import Derived.RangeFuncLeaves
import Derived.RecoverIn
import Derived.Scope
import Derived.Below
namespace Go.Sx

theorem stepR_scope {P : Program} {b : Frame} {a : Act} {k : List Item} {cs : List Frame} {w : World} {c : Code} : step P (lone (b.atR a (.code (.scope c) :: k)) cs w) = .next (lone (b.atR a (.code c :: .inScope c :: k)) cs w) :=
  step_lone_go (by simp [stepG, stepG.exec, Frame.atR])
theorem stepR_inScope {P : Program} {b : Frame} {a : Act} {k : List Item} {cs : List Frame} {w : World} {c : Code} : step P (lone (b.atR a (.inScope c :: k)) cs w) = .next (lone (b.atR a k) cs w) :=
  step_lone_go (by simp [stepG, stepG.exec, Frame.atR])

/-- What a scope's body comes to, when it is gone into again at most so often. -/
def scopeRun (P : Program) (ro : Option Nat) (body : Code) (Q : Exit → Act → World → Prop) : Nat → Code → Act → World → Prop
  | 0, _, _, _ => False
  | n + 1, c, a, w => c.wpIn (Fw ro) 0 P (fun e a' w' => match e with
    | .goto l => match findLabel body l with
      | some rest => scopeRun P ro body Q n rest a' w'
      | none => Q (.goto l) a' w'
    | e => Q e a' w') a w

theorem wp_scope_run {P : Program} {ro : Option Nat} {body : Code} {Q : Exit → Act → World → Prop} {a : Act} {w : World} (n : Nat) (h : scopeRun P ro body Q n body a w) : (Code.scope body).wpIn (Fw ro) 0 P Q a w := by
  intro b k cs hro hb hr
  have key : ∀ n c a w, scopeRun P ro body Q n c a w → ∃ e a' w', Q e a' w' ∧ ArrivesIn (Machine.fenced P (Fw ro)) P (lone (b.atR a (.code c :: .inScope body :: k)) cs w) b k cs e a' w' := by
    intro n
    induction n with
    | zero => intro c a w h; exact h.elim
    | succ n ih =>
      intro c a w h
      obtain ⟨e, a₁, w₁, hq, harr⟩ := h b (.inScope body :: k) cs hro hb hr
      cases e with
      | normal => exact ⟨.normal, a₁, w₁, hq, StepsIn.trans harr (.one (fenced_calm hb hr rfl) stepR_inScope)⟩
      | exit id =>
        have hx : exitTo id (.inScope body :: k) = exitTo id k := by simp [exitTo]
        exact ⟨.exit id, a₁, w₁, hq, fun k' hk => harr.1 k' (by rw [hx]; exact hk), fun hr' hk => harr.2 hr' (by rw [hx]; exact hk)⟩
      | goto l =>
        simp only at hq
        cases hf : findLabel body l with
        | none =>
          rw [hf] at hq
          have hx : gotoIn l (.inScope body :: k) = gotoIn l k := by simp [gotoIn, hf]
          exact ⟨.goto l, a₁, w₁, hq, fun k' hk => harr.1 k' (by rw [hx]; exact hk), fun hr' hk => harr.2 hr' (by rw [hx]; exact hk)⟩
        | some rest =>
          rw [hf] at hq
          obtain ⟨e₂, a₂, w₂, hq₂, harr₂⟩ := ih rest a₁ w₁ hq
          exact ⟨e₂, a₂, w₂, hq₂, .of_steps (harr.1 _ (by simp [gotoIn, hf])) harr₂⟩
      | ret => exact ⟨_, a₁, w₁, hq, harr⟩
      | panic ch => exact ⟨_, a₁, w₁, hq, harr⟩
      | outgrown => exact ⟨_, a₁, w₁, hq, harr⟩
  obtain ⟨e, a', w', hq, harr⟩ := key n body a w h
  exact ⟨e, a', w', hq, .of_steps (.one (fenced_calm hb hr rfl) stepR_scope) harr⟩

def AExit.den : AExit → Exit
  | .normal => .normal
  | .exit id => .exit id
  | .goto l => .goto l
  | .ret => .ret
  | .panic _ => .ret

section
variable {P : Program} {B : Bd}

/-- The slots of which nothing is known. -/
def Poi (σ : St) (t : Nat) : Prop := σ.tmps[t]? = some .poison

/-- What an end says. -/
def EndX (B : Bd) (E : Env) (p : AExit × St) (e : Exit) (a : Act) (w : World) : Prop :=
  match p.1 with
  | .panic v => ∃ x, v.den E = some x ∧ e = .panic (panicOf x) ∧ SR E B (Poi p.2) { p.2 with pan := none } a w
  | x => e = x.den ∧ SR E B (fun _ => False) p.2 a w

theorem EndX.normal {E : Env} {p : AExit × St} {e : Exit} {a : Act} {w : World} (h : EndX B E p e a w) (hp : p.1 = .normal) : e = .normal ∧ SR E B (fun _ => False) p.2 a w := by
  unfold EndX at h; rw [hp] at h; exact h

theorem EndX.form {E : Env} {p : AExit × St} {e : Exit} {a : Act} {w : World} (h : EndX B E p e a w) : (p.1 = .normal ∧ e = .normal) ∨ (∃ i, p.1 = .exit i ∧ e = .exit i) ∨ (∃ i, p.1 = .goto i ∧ e = .goto i) ∨ (p.1 = .ret ∧ e = .ret) ∨ (∃ v c, p.1 = .panic v ∧ e = .panic c) := by
  unfold EndX at h
  cases hp : p.1 with
  | normal => rw [hp] at h; exact Or.inl ⟨rfl, h.1⟩
  | exit i => rw [hp] at h; exact Or.inr (Or.inl ⟨i, rfl, h.1⟩)
  | goto i => rw [hp] at h; exact Or.inr (Or.inr (Or.inl ⟨i, rfl, h.1⟩))
  | ret => rw [hp] at h; exact Or.inr (Or.inr (Or.inr (Or.inl ⟨rfl, h.1⟩)))
  | panic v => rw [hp] at h; obtain ⟨x, _, h1, _⟩ := h; exact Or.inr (Or.inr (Or.inr (Or.inr ⟨v, _, rfl, h1⟩)))

/-- One of the ends that it may come to. -/
def AftX (E : Env) (B : Bd) (w : World) (l : List (AExit × St)) (e : Exit) (a' : Act) (w' : World) : Prop :=
  ∃ p ∈ l, ∃ E', EndX B E' p e a' w' ∧ E.Le E' ∧ Fr E E' w w'

theorem SR.weak {E : Env} {D : Nat → Prop} {σ : St} {a : Act} {w : World} (h : SR E B (fun _ => False) σ a w) : SR E B D σ a w :=
  ⟨⟨h.slots.1, fun t v _ hp hv => h.slots.2 t v (fun h => h) hp hv⟩, h.defers, h.wr, h.pc, h.pan⟩

theorem AftX.sub {E : Env} {w : World} {l l' : List (AExit × St)} {e : Exit} {a' : Act} {w' : World} (h : AftX E B w l e a' w') (hl : ∀ x ∈ l, x ∈ l') : AftX E B w l' e a' w' := by
  obtain ⟨p, hm, r⟩ := h
  exact ⟨p, hl _ hm, r⟩

theorem thenA_mem {f : St → Option (List (AExit × St))} : ∀ {l m : List (AExit × St)}, thenA f l = some m → ∀ p ∈ l, (p.1 = .normal ∧ ∃ k, f p.2 = some k ∧ ∀ y ∈ k, y ∈ m) ∨ (p.1 ≠ .normal ∧ p ∈ m)
  | [], _, _, p, hp => by cases hp
  | (.normal, σ) :: l, m, h, p, hp => by
    simp only [thenA, Option.bind_eq_bind, Option.bind_eq_some_iff, Option.pure_def, Option.some.injEq] at h
    obtain ⟨k, hk, k', hk', rfl⟩ := h
    rcases List.mem_cons.1 hp with rfl | hp
    · exact Or.inl ⟨rfl, k, hk, fun y hy => List.mem_append_left _ hy⟩
    · rcases thenA_mem hk' p hp with ⟨h1, k1, h2, h3⟩ | ⟨h1, h2⟩
      · exact Or.inl ⟨h1, k1, h2, fun y hy => List.mem_append_right _ (h3 y hy)⟩
      · exact Or.inr ⟨h1, List.mem_append_right _ h2⟩
  | (.exit i, σ) :: l, m, h, p, hp => by
    simp only [thenA, Option.bind_eq_bind, Option.bind_eq_some_iff, Option.pure_def, Option.some.injEq] at h
    obtain ⟨k', hk', rfl⟩ := h
    rcases List.mem_cons.1 hp with rfl | hp
    · exact Or.inr ⟨by simp, List.mem_cons_self⟩
    · rcases thenA_mem hk' p hp with ⟨h1, k1, h2, h3⟩ | ⟨h1, h2⟩
      · exact Or.inl ⟨h1, k1, h2, fun y hy => List.mem_cons_of_mem _ (h3 y hy)⟩
      · exact Or.inr ⟨h1, List.mem_cons_of_mem _ h2⟩
  | (.goto i, σ) :: l, m, h, p, hp => by
    simp only [thenA, Option.bind_eq_bind, Option.bind_eq_some_iff, Option.pure_def, Option.some.injEq] at h
    obtain ⟨k', hk', rfl⟩ := h
    rcases List.mem_cons.1 hp with rfl | hp
    · exact Or.inr ⟨by simp, List.mem_cons_self⟩
    · rcases thenA_mem hk' p hp with ⟨h1, k1, h2, h3⟩ | ⟨h1, h2⟩
      · exact Or.inl ⟨h1, k1, h2, fun y hy => List.mem_cons_of_mem _ (h3 y hy)⟩
      · exact Or.inr ⟨h1, List.mem_cons_of_mem _ h2⟩
  | (.ret, σ) :: l, m, h, p, hp => by
    simp only [thenA, Option.bind_eq_bind, Option.bind_eq_some_iff, Option.pure_def, Option.some.injEq] at h
    obtain ⟨k', hk', rfl⟩ := h
    rcases List.mem_cons.1 hp with rfl | hp
    · exact Or.inr ⟨by simp, List.mem_cons_self⟩
    · rcases thenA_mem hk' p hp with ⟨h1, k1, h2, h3⟩ | ⟨h1, h2⟩
      · exact Or.inl ⟨h1, k1, h2, fun y hy => List.mem_cons_of_mem _ (h3 y hy)⟩
      · exact Or.inr ⟨h1, List.mem_cons_of_mem _ h2⟩
  | (.panic pv, σ) :: l, m, h, p, hp => by
    simp only [thenA, Option.bind_eq_bind, Option.bind_eq_some_iff, Option.pure_def, Option.some.injEq] at h
    obtain ⟨k', hk', rfl⟩ := h
    rcases List.mem_cons.1 hp with rfl | hp
    · exact Or.inr ⟨by simp, List.mem_cons_self⟩
    · rcases thenA_mem hk' p hp with ⟨h1, k1, h2, h3⟩ | ⟨h1, h2⟩
      · exact Or.inl ⟨h1, k1, h2, fun y hy => List.mem_cons_of_mem _ (h3 y hy)⟩
      · exact Or.inr ⟨h1, List.mem_cons_of_mem _ h2⟩

theorem gotoA_mem {body : Code} {f : Code → St → Option (List (AExit × St))} : ∀ {l m : List (AExit × St)}, gotoA body f l = some m → ∀ p ∈ l,
    (∃ i c k, p.1 = .goto i ∧ findLabel body i = some c ∧ f c p.2 = some k ∧ ∀ y ∈ k, y ∈ m) ∨ ((∀ i, p.1 = .goto i → findLabel body i = none) ∧ p ∈ m)
  | [], _, _, p, hp => by cases hp
  | (.goto i, σ) :: l, m, h, p, hp => by
    simp only [gotoA] at h
    split at h
    · rename_i c hc
      simp only [Option.bind_eq_bind, Option.bind_eq_some_iff, Option.pure_def, Option.some.injEq] at h
      obtain ⟨k, hk, k', hk', rfl⟩ := h
      rcases List.mem_cons.1 hp with rfl | hp
      · exact Or.inl ⟨i, c, k, rfl, hc, hk, fun y hy => List.mem_append_left _ hy⟩
      · rcases gotoA_mem hk' p hp with ⟨i1, c1, k1, h1, h2, h3, h4⟩ | ⟨h1, h2⟩
        · exact Or.inl ⟨i1, c1, k1, h1, h2, h3, fun y hy => List.mem_append_right _ (h4 y hy)⟩
        · exact Or.inr ⟨h1, List.mem_append_right _ h2⟩
    · rename_i hc
      simp only [Option.bind_eq_bind, Option.bind_eq_some_iff, Option.pure_def, Option.some.injEq] at h
      obtain ⟨k', hk', rfl⟩ := h
      rcases List.mem_cons.1 hp with rfl | hp
      · exact Or.inr ⟨fun j hj => by injection hj with hj; subst hj; exact hc, List.mem_cons_self⟩
      · rcases gotoA_mem hk' p hp with ⟨i1, c1, k1, h1, h2, h3, h4⟩ | ⟨h1, h2⟩
        · exact Or.inl ⟨i1, c1, k1, h1, h2, h3, fun y hy => List.mem_cons_of_mem _ (h4 y hy)⟩
        · exact Or.inr ⟨h1, List.mem_cons_of_mem _ h2⟩
  | (.normal, σ) :: l, m, h, p, hp => by
    simp only [gotoA, Option.bind_eq_bind, Option.bind_eq_some_iff, Option.pure_def, Option.some.injEq] at h
    obtain ⟨k', hk', rfl⟩ := h
    rcases List.mem_cons.1 hp with rfl | hp
    · exact Or.inr ⟨fun j hj => by simp at hj, List.mem_cons_self⟩
    · rcases gotoA_mem hk' p hp with ⟨i1, c1, k1, h1, h2, h3, h4⟩ | ⟨h1, h2⟩
      · exact Or.inl ⟨i1, c1, k1, h1, h2, h3, fun y hy => List.mem_cons_of_mem _ (h4 y hy)⟩
      · exact Or.inr ⟨h1, List.mem_cons_of_mem _ h2⟩
  | (.exit i, σ) :: l, m, h, p, hp => by
    simp only [gotoA, Option.bind_eq_bind, Option.bind_eq_some_iff, Option.pure_def, Option.some.injEq] at h
    obtain ⟨k', hk', rfl⟩ := h
    rcases List.mem_cons.1 hp with rfl | hp
    · exact Or.inr ⟨fun j hj => by simp at hj, List.mem_cons_self⟩
    · rcases gotoA_mem hk' p hp with ⟨i1, c1, k1, h1, h2, h3, h4⟩ | ⟨h1, h2⟩
      · exact Or.inl ⟨i1, c1, k1, h1, h2, h3, fun y hy => List.mem_cons_of_mem _ (h4 y hy)⟩
      · exact Or.inr ⟨h1, List.mem_cons_of_mem _ h2⟩
  | (.ret, σ) :: l, m, h, p, hp => by
    simp only [gotoA, Option.bind_eq_bind, Option.bind_eq_some_iff, Option.pure_def, Option.some.injEq] at h
    obtain ⟨k', hk', rfl⟩ := h
    rcases List.mem_cons.1 hp with rfl | hp
    · exact Or.inr ⟨fun j hj => by simp at hj, List.mem_cons_self⟩
    · rcases gotoA_mem hk' p hp with ⟨i1, c1, k1, h1, h2, h3, h4⟩ | ⟨h1, h2⟩
      · exact Or.inl ⟨i1, c1, k1, h1, h2, h3, fun y hy => List.mem_cons_of_mem _ (h4 y hy)⟩
      · exact Or.inr ⟨h1, List.mem_cons_of_mem _ h2⟩
  | (.panic pv, σ) :: l, m, h, p, hp => by
    simp only [gotoA, Option.bind_eq_bind, Option.bind_eq_some_iff, Option.pure_def, Option.some.injEq] at h
    obtain ⟨k', hk', rfl⟩ := h
    rcases List.mem_cons.1 hp with rfl | hp
    · exact Or.inr ⟨fun j hj => by simp at hj, List.mem_cons_self⟩
    · rcases gotoA_mem hk' p hp with ⟨i1, c1, k1, h1, h2, h3, h4⟩ | ⟨h1, h2⟩
      · exact Or.inl ⟨i1, c1, k1, h1, h2, h3, fun y hy => List.mem_cons_of_mem _ (h4 y hy)⟩
      · exact Or.inr ⟨h1, List.mem_cons_of_mem _ h2⟩

def AExit.out (id : Nat) : AExit → AExit
  | .exit i => if i = id then .normal else .exit i
  | x => x

theorem inBlockA_mem {id : Nat} : ∀ {l : List (AExit × St)}, ∀ p ∈ l, (p.1.out id, p.2) ∈ inBlockA id l
  | [], p, hp => by cases hp
  | (x, σ) :: l, p, hp => by
    rcases List.mem_cons.1 hp with rfl | hp
    · cases x with
      | exit i =>
        simp only [inBlockA, AExit.out]
        by_cases hi : i = id
        · rw [if_pos hi, if_pos hi]; exact List.mem_cons_self
        · rw [if_neg hi, if_neg hi]; exact List.mem_cons_self
      | normal => exact List.mem_cons_self
      | goto l => exact List.mem_cons_self
      | ret => exact List.mem_cons_self
      | panic v => exact List.mem_cons_self
    · have := inBlockA_mem (id := id) p hp
      cases x <;> simp only [inBlockA] <;> exact List.mem_cons_of_mem _ this

/-- How a region may be left. -/
def RegAft (E : Env) (B : Bd) (w : World) (l : List St) (e : Exit) (a' : Act) (w' : World) : Prop :=
  (e = .normal ∧ Aft E B (fun _ => False) w l a' w') ∨
  (∃ x, e = .panic (panicOf x) ∧ ∃ σ' ∈ l, ∃ v E', σ'.pan = some v ∧ v.den E' = some x ∧ SR E' B (Poi σ') { σ' with pan := none } a' w' ∧ E.Le E' ∧ Fr E E' w w')

/-- What the walker says of regions whose order is drawn holds. -/
def AnyOk (P : Program) (call : CallF) (B : Bd) : Prop :=
  P.follows .mixedOrders = true ∧ ∀ (ops : Array Oper) (E : Env) (σ : St) (a : Act) (w : World) (l : List St), Region.noSelect ops = true → SR E B (fun _ => False) σ a w →
    runAny P call ops (2 * ops.size + 1) (Array.replicate ops.size false) [] [] σ = some l →
      ∃ Q : Exit → Act → World → Prop, (∀ e a' w', Q e a' w' → RegAft E B w l e a' w') ∧ wpAny P .any ops Q ops.size (Array.replicate ops.size false) a w.drew

/-- In which range's round the code stands. -/
def RoRel (E : Env) (ro roC : Option Nat) : Prop :=
  match ro with
  | none => roC = none
  | some b => ∃ c, E.ρ[b]? = some c ∧ roC = some c

theorem RoRel.mono {E E' : Env} {ro roC : Option Nat} (h : RoRel E ro roC) (hE : E.Le E') : RoRel E' ro roC := by
  cases ro with
  | none => exact h
  | some b => obtain ⟨c, hc, e⟩ := h; exact ⟨c, hE.ρ _ _ hc, e⟩

theorem aftX_region {E : Env} {w : World} {l : List St} {e : Exit} {a' : Act} {w' : World} (h : RegAft E B w l e a' w') : AftX E B w (l.map St.out) e a' w' := by
  rcases h with ⟨rfl, σ', hm, E', hS, hle, hf⟩ | ⟨x, rfl, σ', hm, v, E', hp, hx, hS, hle, hf⟩
  · refine ⟨σ'.out, List.mem_map.2 ⟨σ', hm, rfl⟩, E', ?_, hle, hf⟩
    unfold EndX St.out
    rw [hS.pan]
    exact ⟨rfl, hS⟩
  · refine ⟨σ'.out, List.mem_map.2 ⟨σ', hm, rfl⟩, E', ?_, hle, hf⟩
    unfold EndX St.out
    rw [hp]
    exact ⟨x, hx, rfl, hS⟩

theorem slots_denL {E : Env} {tmps : List AV} {a : Act} (h : Slots E (fun _ => False) tmps a) (hP : tmps.any AV.isPoison = false) : AV.denL E tmps = some a.tmps.toList := by
  have h1 : tmps.length = a.tmps.toList.length := by simpa using h.1
  have h2 : ∀ (t : Nat) (v : AV), tmps[t]? = some v → ∃ x, v.den E = some x ∧ a.tmps.toList[t]? = some x := fun t v hv => by
    obtain ⟨x, hx, ha⟩ := h.2 t v (fun h => h) (by rw [List.any_eq_false] at hP; simpa using hP v (List.mem_of_getElem? hv)) hv
    exact ⟨x, hx, by rw [Array.getElem?_toList]; exact ha⟩
  clear h hP
  generalize a.tmps.toList = l at h1 h2
  induction tmps generalizing l with
  | nil =>
    have : l = [] := List.eq_nil_of_length_eq_zero h1.symm
    subst this
    simp [AV.denL]
  | cons v r ih =>
    cases l with
    | nil => simp at h1
    | cons x l =>
      obtain ⟨y, hy, he⟩ := h2 0 v (by simp)
      simp only [List.getElem?_cons_zero, Option.some.injEq] at he
      subst he
      exact denL_cons.2 ⟨_, l, hy, ih l (by simpa using h1) (fun t v hv => by simpa using h2 (t + 1) v (by simpa using hv)), rfl⟩

theorem denL_slots {E : Env} {D : Nat → Prop} {tmps : List AV} {l : List Value} {ds : List Deferred} (h : AV.denL E tmps = some l) : Slots E D tmps { tmps := l.toArray, defers := ds } :=
  ⟨by simp [denL_length h], fun t v _ _ hv => by
    obtain ⟨x, hx, hl⟩ := denL_get h t v hv
    exact ⟨x, hx, by simpa using hl⟩⟩

theorem loop_obj {E : Env} {h : Hp} {w : World} (hw : WR E B h w) {b c : Nat} {st : LoopState} {pend : Option Code} {tmps : List AV} {params : Array Tmp} {assign body : Code} {d : Nat} (hb : E.ρ[b]? = some c)
    (hbs : h.bs[b]? = some (.loop st pend tmps params assign body d)) :
    ∃ (fn : FuncId) (tmps' : List Value) (D : Nat), AV.denL E tmps = some tmps' ∧ E.ρ[d]? = some D ∧
      (Instr.getLoop c).run P w = .ok { state := st, pending := pend, fn, tmps := tmps'.toArray, params, assign, body, defers := D } w := by
  obtain ⟨ob, hob, fn, tmps', D, rfl, h1, h2⟩ := hw.obj b c _ hb hbs
  refine ⟨fn, tmps', D, h1, h2, ?_⟩
  have hg := getObj_run (P := P) hob (fun _ _ _ h => by cases h)
  simp [Instr.getLoop, hg]

theorem setLoop_sound {E : Env} {h : Hp} {w : World} (hw : WR E B h w) {b c : Nat} {st st' : LoopState} {pend pend' : Option Code} {tmps : List AV} {tmps' : List Value} {params : Array Tmp} {assign body : Code} {d D : Nat} {fn : FuncId} (hb : E.ρ[b]? = some c)
    (hbs : h.bs[b]? = some (.loop st pend tmps params assign body d)) (ht : AV.denL E tmps = some tmps') (hd : E.ρ[d]? = some D) :
    ∃ w', (setObj c (.loop { state := st', pending := pend', fn, tmps := tmps'.toArray, params, assign, body, defers := D })).run P w = .ok () w' ∧
      Ext E B w E { h with bs := h.bs.set b (.loop st' pend' tmps params assign body d) } w' := by
  obtain ⟨h1, h2⟩ := setObj_sound (P := P) (o' := .loop st' pend' tmps params assign body d) (ob := .loop { state := st', pending := pend', fn, tmps := tmps'.toArray, params, assign, body, defers := D }) hw hb hbs rfl rfl ⟨fn, tmps', D, rfl, ht, hd⟩
  exact ⟨_, h1, h2⟩

/-- The record of a range over a function is laid. -/
theorem enterA_sound {E : Env} {σ : St} {a : Act} {w : World} {ro roC : Option Nat} {params : Array Tmp} {assign body : Code} {h' : Hp} {b : Nat} {marks : List Mark} (hS : SR E B (fun _ => False) σ a w) (hro : RoRel E ro roC)
    (he : enterA σ.h ro σ.tmps params assign body = some (h', b, marks)) (fn : FuncId) :
    ∃ l mark w' E', (Instr.enterLoop fn a.tmps params assign body roC).run P w = .ok (l, mark) w' ∧ Ext E B w E' h' w' ∧ E'.ρ[b]? = some l ∧ marksDen E' marks = some mark := by
  unfold enterA at he
  split at he
  · cases he
  rename_i hnp
  have ht := slots_denL hS.slots (by simpa using hnp)
  cases ro with
  | none =>
    simp only [RoRel] at hro
    subst hro
    simp only [Option.some.injEq, Prod.mk.injEq] at he
    obtain ⟨rfl, rfl, rfl⟩ := he
    obtain ⟨h1, h2⟩ := new_plain hS.wr (.deferred true) (.deferred (some [])) rfl rfl
    obtain ⟨h3, h4⟩ := new_plain (h := { σ.h with bs := σ.h.bs ++ [AObj.deferred true] }) h1.wr (.loop .ready none σ.tmps params assign body σ.h.bs.length)
      (.loop { state := .ready, pending := none, fn, tmps := a.tmps.toList.toArray, params, assign, body, defers := w.heap.size }) rfl ⟨fn, a.tmps.toList, w.heap.size, rfl, AV.denL_mono (le_plain _ _) _ _ (AV.denL_mono (le_plain _ _) _ _ ht), (le_plain _ _).ρ _ _ h2⟩
    have hbs : ({ σ.h with bs := σ.h.bs ++ [AObj.deferred true] } : Hp).bs.length = σ.h.bs.length + 1 := by simp
    rw [hbs] at h4
    have h5 := h1.trans h3
    refine ⟨_, _, _, _, ?_, h5, h4, marksDen_cons.2 ⟨_, [], Mark.den_blk.2 ⟨w.heap.size, (le_plain _ _).ρ _ _ h2, rfl⟩, rfl, rfl⟩⟩
    simp [Instr.enterLoop]
  | some b0 =>
    obtain ⟨c, hc, rfl⟩ := hro
    simp only at he
    split at he
    · rename_i st pend tm ps as bd d hbs
      simp only [Option.some.injEq, Prod.mk.injEq] at he
      obtain ⟨rfl, rfl, rfl⟩ := he
      obtain ⟨fn0, tmps0, D, _, hD, hget⟩ := loop_obj (P := P) hS.wr hc hbs
      obtain ⟨h3, h4⟩ := new_plain hS.wr (.loop .ready none σ.tmps params assign body d)
        (.loop { state := .ready, pending := none, fn, tmps := a.tmps.toList.toArray, params, assign, body, defers := D }) rfl ⟨fn, a.tmps.toList, D, rfl, AV.denL_mono (le_plain _ _) _ _ ht, (le_plain _ _).ρ _ _ hD⟩
      refine ⟨_, _, _, _, ?_, h3, h4, rfl⟩
      simp [Instr.enterLoop, hget]
    · cases he

theorem afterA_mem {b : Nat} {σ : St} {marks : List Mark} : ∀ {L : List (AV × Hp × List BE)} {l : List (AExit × St)}, afterA b σ marks L = some l → ∀ q ∈ L,
    q.1.pan? = none ∧ ∃ st pend tmps params assign body d e, q.2.1.bs[b]? = some (.loop st pend tmps params assign body d) ∧ st ≠ .busy ∧ jumpA pend = some e ∧
      (e, { σ with h := { q.2.1 with bs := q.2.1.bs.set b (.loop .exhausted pend tmps params assign body d) }, pc := q.2.2, marks := marks ++ σ.marks }) ∈ l
  | [], _, _, q, hq => by cases hq
  | (v, h, pc) :: L, l, hl, q, hq => by
    unfold afterA at hl
    split at hl
    · cases hl
    rename_i hpan
    have hpan' : v.pan? = none := by simpa using hpan
    split at hl
    · rename_i st pend tmps params assign body d hbs
      split at hl
      · simp at hl
      · rename_i hst
        simp only [Option.bind_eq_bind, Option.bind_eq_some_iff, Option.pure_def, Option.some.injEq] at hl
        obtain ⟨e, he, m, hm, rfl⟩ := hl
        rcases List.mem_cons.1 hq with rfl | hq
        · exact ⟨hpan', st, pend, tmps, params, assign, body, d, e, hbs, hst, he, List.mem_cons_self⟩
        · obtain ⟨h0, st1, pend1, tmps1, params1, assign1, body1, d1, e1, h1, h2, h3, h4⟩ := afterA_mem hm q hq
          exact ⟨h0, st1, pend1, tmps1, params1, assign1, body1, d1, e1, h1, h2, h3, List.mem_cons_of_mem _ h4⟩
    · cases hl

theorem wpIn_jump {F : Fence} {n : Nat} {Q : Exit → Act → World → Prop} {a : Act} {w : World} {pend : Option Code} {e : AExit} (h : jumpA pend = some e) (hq : Q e.den a w) :
    (pend = none → Q .normal a w) ∧ ∀ c, pend = some c → c.wpIn F n P Q a w := by
  cases pend with
  | none =>
    simp only [jumpA, Option.some.injEq] at h
    subst h
    exact ⟨fun _ => hq, fun c hc => (by cases hc)⟩
  | some c =>
    refine ⟨fun h0 => (by cases h0), fun c' hc => ?_⟩
    injection hc with hc
    subst hc
    cases c with
    | ret => simp only [jumpA, Option.some.injEq] at h; subst h; exact wpIn_ret hq
    | exit id => simp only [jumpA, Option.some.injEq] at h; subst h; exact wpIn_exit hq
    | goto l => simp only [jumpA, Option.some.injEq] at h; subst h; exact wpIn_goto hq
    | _ => simp [jumpA] at h

theorem endLoop_sound {E : Env} {h : Hp} {w : World} (hw : WR E B h w) {b c : Nat} {st : LoopState} {pend : Option Code} {tmps : List AV} {params : Array Tmp} {assign body : Code} {d : Nat} (hb : E.ρ[b]? = some c)
    (hbs : h.bs[b]? = some (.loop st pend tmps params assign body d)) (hst : st ≠ .busy) :
    ∃ w', (Instr.endLoop c).run P w = .ok pend w' ∧ Ext E B w E { h with bs := h.bs.set b (.loop .exhausted pend tmps params assign body d) } w' := by
  obtain ⟨fn, tmps', D, ht, hD, hget⟩ := loop_obj (P := P) hw hb hbs
  obtain ⟨w', hset, hx⟩ := setLoop_sound (P := P) (st' := .exhausted) (pend' := pend) (fn := fn) hw hb hbs ht hD
  refine ⟨w', ?_, hx⟩
  simp [Instr.endLoop, hget, hset]
  intro h0
  exact absurd h0 hst

/-- A range over a function. -/
theorem range_sound {call : CallF} {ro roC : Option Nat} (hN : plainNames P = true) (hC : CallOk P call B) {E : Env} {σ : St} {a : Act} {w : World} {g : Operand} {params : Array Tmp} {assign body : Code} {f : FuncId} {first captured : List AV} {h' : Hp} {b : Nat} {marks : List Mark}
    {fn : Func} {L : List (AV × Hp × List BE)} {l : List (AExit × St)} {Q : Exit → Act → World → Prop} (hS : SR E B (fun _ => False) σ a w) (hro : RoRel E ro roC) (hg : opnd σ.tmps g = some (.func f first captured))
    (he : enterA σ.h ro σ.tmps params assign body = some (h', b, marks)) (hfn : P.funcs[f]? = some fn) (hbody : fn.body.isSome = true) (hL : call false f (first ++ [.yield b] ++ captured) h' σ.pc = some L) (hl : afterA b σ marks L = some l)
    (hQ : ∀ e a' w', AftX E B w l e a' w' → Q e a' w') : (Code.rangeFunc g params assign body).wpIn (Fw roC) 0 P Q a w := by
  refine wpIn_rangeFunc (fun fr _ => ?_)
  obtain ⟨lc, mark, w1, E1, hent, hx1, hb1, hm1⟩ := enterA_sound (P := P) hS hro he fr
  obtain ⟨x', y', hx', hy', hev⟩ := denFunc (opnd_den hS.slots (clear_none g) hg)
  have hargs : AV.denL E1 (first ++ [.yield b] ++ captured) = some (x' ++ [Value.func (.yield lc) #[] #[]] ++ y') :=
    denL_append (denL_append (AV.denL_mono hx1.le _ _ hx') (denL_cons.2 ⟨_, [], by simp [AV.den, hb1], by simp [AV.denL], rfl⟩)) (AV.denL_mono hx1.le _ _ hy')
  have hnm := plainNames_spec hN hfn
  have hnb : fn.body.isNone = false := by cases hb : fn.body <;> simp [hb] at hbody ⊢
  refine ⟨lc, mark, w1, { target := .fn (.func f) y'.toArray, args := x'.toArray ++ #[Value.func (.yield lc) #[] #[]] }, w1, f, (x' ++ [Value.func (.yield lc) #[] #[]] ++ y').toArray, w1, hent, ?_, fun _ _ => trivial, ?_, fun h => (by cases h), ?_⟩
  · have hyv : a.eval (.const (.func (.yield lc) #[] #[])) = .func (.yield lc) #[] #[] := rfl
    simp [resolve, Deferred.ofValue, hev, hyv]
  · simp only [invoke, callFunc, Sem.run_bind, run_program, Result.andThen_ok, hfn, hnm, Bool.false_eq_true, if_false, hnb, Sem.run_pure]
    simp
  · refine CallsIn.mono (callsIn_fw (hC f _ h' σ.pc L hL E1 w1 _ hx1.wr (fun b hb => BE.holds_le hx1.le.ι (hS.pc b hb)) hargs)) ?_
    rintro e w2 ⟨q, E2, hend0, hq, hx2, hp2⟩
    obtain ⟨hpn, st, pend, tmps, ps, as, bd, d, ex, hbs, hst, hj, hm⟩ := afterA_mem hl q hq
    obtain ⟨z, rfl, _⟩ : ∃ z, e = .returned z ∧ q.1.den E2 = some z := by
      rcases hend0 with h0 | ⟨y, x, hy, _⟩
      · exact h0
      · rw [hpn] at hy; cases hy
    obtain ⟨w3, hend, hx3⟩ := endLoop_sound (P := P) hx2.wr (hx2.le.ρ _ _ hb1) hbs hst
    have hx := (hx1.trans hx2).trans hx3
    have hm2 : marksDen E2 (marks ++ σ.marks) = some (mark ++ a.defers) := marksDen_append (marksDen_mono hx2.le hm1) (marksDen_mono hx.le hS.defers)
    have hq := hQ ex.den { a with defers := mark ++ a.defers } w3 ⟨_, hm, E2, by
      have hS9 : SR E2 B (fun _ => False) { σ with h := { q.2.1 with bs := q.2.1.bs.set b (.loop .exhausted pend tmps ps as bd d) }, pc := q.2.2, marks := marks ++ σ.marks } { a with defers := mark ++ a.defers } w3 := ⟨hS.slots.mono hx.le, hm2, hx.wr, hp2, hS.pan⟩
      unfold EndX
      cases ex with
      | panic v => cases pend with
        | none => simp [jumpA] at hj
        | some c => cases c <;> simp [jumpA] at hj
      | _ => exact ⟨rfl, hS9⟩, hx.le, hx.fr⟩
    have hjj := wpIn_jump (P := P) (F := Fw roC) (n := 0) hj hq
    refine ⟨pend, w3, hend, ?_⟩
    cases pend with
    | none => exact hjj.1 rfl
    | some c => exact hjj.2 c rfl

theorem loopAny_some {run : St → Option (List (AExit × St))} {σ : St} {l : List (AExit × St)} : ∀ {as : List Ann}, loopAny run σ as = some l → ∃ an, loopA run an σ = some l
  | [], h => by cases h
  | a :: r, h => by
    unfold loopAny at h
    split at h
    · rename_i l' hl
      injection h with h
      subst h
      exact ⟨a, hl⟩
    · exact loopAny_some h

/-- A loop from a head. -/
theorem loopA_sound {run : St → Option (List (AExit × St))} {roC : Option Nat} {c : Code} {R : Env → Prop} (hR : ∀ {E E' : Env}, R E → E.Le E' → R E')
    (hrun : ∀ {E : Env} {σ : St} {a : Act} {w : World} {l : List (AExit × St)} {Q : Exit → Act → World → Prop}, SR E B (fun _ => False) σ a w → R E → run σ = some l → (∀ e a' w', AftX E B w l e a' w' → Q e a' w') → c.wpIn (Fw roC) 0 P Q a w)
    {an : Ann} {E0 : Env} {σ0 : St} {a0 : Act} {w0 : World} {L : List (AExit × St)} {Q : Exit → Act → World → Prop} (hS0 : SR E0 B (fun _ => False) σ0 a0 w0) (hR0 : R E0) (h : loopA run an σ0 = some L) (hQ : ∀ e a' w', AftX E0 B w0 L e a' w' → Q e a' w') :
    (Code.loop c).wpIn (Fw roC) 0 P Q a0 w0 := by
  unfold loopA at h
  simp only [Option.bind_eq_bind, Option.bind_eq_some_iff] at h
  obtain ⟨τs, hτs, h⟩ := h
  split at h
  · rename_i hc
    simp only [Bool.and_eq_true] at hc
    have hnv : E0.ι.nv = σ0.h.giv.nv := hS0.wr.giv.nv
    rw [← hnv] at hc h
    have hmem := heads_mem hτs
    have hok : ∀ p ∈ an.heads.zip τs, HeadOk E0 σ0 p.1 p.2 := fun p hp => headSt_ok hS0.wr (hmem p hp)
    have hall := headsRun_ok h
    have key : ∀ (k : Nat) (p : Head × St), p ∈ an.heads.zip τs → ∀ (E : Env) (a : Act) (w : World), SR E B (fun _ => False) p.2 a w → E0.Le E → Fr E0 E w0 w →
        (p.1.ms E0.ι.nv σ0.h.bs.length).den E.ι < (k : Int) → Code.roundsIn (Fw roC) 0 P c Q k a w := by
      intro k
      induction k with
      | zero =>
        intro p hp E a w hS hle hf hlt
        obtain ⟨h1, _⟩ := hall p hp
        have := leB_sound hS.wr.giv.rules (holds_den hS.pc) h1
        simp only [IE.den] at this
        omega
      | succ k ih =>
        intro p hp E a w hS hle hf hlt
        obtain ⟨_, l, o, hl, ho, hoL⟩ := hall p hp
        rw [roundsIn_succ]
        refine hrun hS (hR hR0 hle) hl ?_
        rintro e a' w' ⟨q, hq, E1, hX, hle1, hf1⟩
        rcases roundOut_ok ho q hq with ⟨hn, ha⟩ | ⟨hn, hm⟩
        · obtain ⟨rfl, hS1⟩ := hX.normal hn
          obtain ⟨p', hp', hi⟩ := anyHead_ok ha
          obtain ⟨E2, hS2, hle2, hf2, hms⟩ := isHead_ok hS0.wr hS0.pc (hok p' hp') hS1 (hle.trans hle1) (hf.trans hf1) hi
          refine ih p' hp' E2 a' w' hS2 hle2 hf2 ?_
          have h3 := hms _ rfl
          have h4 : (p.1.ms E0.ι.nv σ0.h.bs.length).den E1.ι = (p.1.ms E0.ι.nv σ0.h.bs.length).den E.ι := IE.den_le hle1.ι (by
            rw [hS.wr.giv.nv, (hok p hp).nv]
            exact (hok p hp).ms)
          rw [h4] at h3
          omega
        · have hq' := hQ e a' w' ⟨q, hoL q hm, E1, hX, hle.trans hle1, hf.trans hf1⟩
          rcases hX.form with ⟨h0, _⟩ | ⟨i, _, rfl⟩ | ⟨i, _, rfl⟩ | ⟨_, rfl⟩ | ⟨v, c, _, rfl⟩
          · exact absurd h0 hn
          all_goals exact hq'
    obtain ⟨p', hp', hi⟩ := anyHead_ok hc.2
    obtain ⟨E2, hS2, hle2, hf2, _⟩ := isHead_ok hS0.wr hS0.pc (hok p' hp') hS0 (.refl E0) (.refl E0 w0) hi
    exact wpIn_loop_rounds _ (key (((p'.1.ms E0.ι.nv σ0.h.bs.length).den E2.ι).toNat + 1) p' hp' E2 a0 w0 hS2 hle2 hf2 (by omega))
  · cases h

/-- Round by round. -/
theorem unrollA_sound {run : St → Option (List (AExit × St))} {roC : Option Nat} {c : Code} {R : Env → Prop} (hR : ∀ {E E' : Env}, R E → E.Le E' → R E')
    (hrun : ∀ {E : Env} {σ : St} {a : Act} {w : World} {l : List (AExit × St)} {Q : Exit → Act → World → Prop}, SR E B (fun _ => False) σ a w → R E → run σ = some l → (∀ e a' w', AftX E B w l e a' w' → Q e a' w') → c.wpIn (Fw roC) 0 P Q a w) : ∀ (n : Nat) {E : Env} {σ : St} {a : Act} {w : World} {L : List (AExit × St)} {Q : Exit → Act → World → Prop},
    SR E B (fun _ => False) σ a w → R E → unrollA run n σ = some L → (∀ e a' w', AftX E B w L e a' w' → Q e a' w') → Code.roundsIn (Fw roC) 0 P c Q n a w
  | 0, _, _, _, _, _, _, _, _, h, _ => by cases h
  | n + 1, E, σ, a, w, L, Q, hS, hRE, h, hQ => by
    simp only [unrollA, Option.bind_eq_bind, Option.bind_eq_some_iff] at h
    obtain ⟨l1, h1, h2⟩ := h
    rw [roundsIn_succ]
    refine hrun hS hRE h1 ?_
    rintro e a' w' ⟨p, hp, E', hX, hle, hf⟩
    rcases thenA_mem h2 p hp with ⟨hx, k, hk, hkl⟩ | ⟨hx, hm⟩
    · obtain ⟨rfl, hS'⟩ := hX.normal hx
      refine unrollA_sound hR hrun n hS' (hR hRE hle) hk ?_
      rintro e2 a2 w2 ⟨p2, hp2, E2, hX2, hle2, hf2⟩
      exact hQ _ _ _ ⟨p2, hkl _ hp2, E2, hX2, hle.trans hle2, hf.trans hf2⟩
    · have hq := hQ e a' w' ⟨p, hm, E', hX, hle, hf⟩
      rcases hX.form with ⟨h0, _⟩ | ⟨i, _, rfl⟩ | ⟨i, _, rfl⟩ | ⟨_, rfl⟩ | ⟨v, c, _, rfl⟩
      · exact absurd h0 hx
      all_goals exact hq

theorem runCode_sound {dr : Bool} {call : CallF} {ro roC : Option Nat} (hN : plainNames P = true) (hC : CallOk P call B) (hY : RndOk P call B) (hA : dr = true → AnyOk P call B) : ∀ (n : Nat) (sc : Option Code) (c : Code) {E : Env} {σ : St} {a : Act} {w : World} {l : List (AExit × St)} {Q : Exit → Act → World → Prop},
    SR E B (fun _ => False) σ a w → RoRel E ro roC → runCode P dr call ro n sc c σ = some l → (∀ e a' w', AftX E B w l e a' w' → Q e a' w') →
      match sc with
      | some body => scopeRun P roC body Q n c a w
      | none => c.wpIn (Fw roC) 0 P Q a w ∧ True
  | 0, _, _, _, _, _, _, _, _, _, _, h, _ => by simp [runCode] at h
  | n + 1, some body, c, E, σ, a, w, l, Q, hS, hro, h, hQ => by
    simp only [runCode, Option.bind_eq_bind, Option.bind_eq_some_iff] at h
    obtain ⟨l1, h1, h2⟩ := h
    refine (runCode_sound hN hC hY hA n none c hS hro h1 ?_).1
    rintro e a' w' ⟨p, hp, E', hX, hle, hf⟩
    rcases gotoA_mem h2 p hp with ⟨i, c', k, hi, hfl, hk, hkl⟩ | ⟨hno, hm⟩
    · have hX' := hX
      unfold EndX at hX'
      rw [hi] at hX'
      obtain ⟨rfl, hS'⟩ := hX'
      simp only [AExit.den, hfl]
      refine runCode_sound hN hC hY hA n (some body) c' hS' (hro.mono hle) hk ?_
      rintro e2 a2 w2 ⟨p2, hp2, E2, hX2, hle2, hf2⟩
      exact hQ _ _ _ ⟨p2, hkl _ hp2, E2, hX2, hle.trans hle2, hf.trans hf2⟩
    · have hq := hQ e a' w' ⟨p, hm, E', hX, hle, hf⟩
      rcases hX.form with ⟨_, rfl⟩ | ⟨i, _, rfl⟩ | ⟨i, hx, rfl⟩ | ⟨_, rfl⟩ | ⟨v, c, _, rfl⟩
      · exact hq
      · exact hq
      · simp only [hno i hx]
        exact hq
      · exact hq
      · exact hq
  | n + 1, none, c, E, σ, a, w, l, Q, hS, hro, h, hQ => by
    have self : ∀ x, (∀ v, x ≠ .panic v) → AftX E B w [(x, σ)] x.den a w := fun x hx => ⟨(x, σ), List.mem_singleton.2 rfl, E, by
      unfold EndX
      cases x with
      | panic v => exact absurd rfl (hx v)
      | _ => exact ⟨rfl, hS⟩, .refl E, .refl E w⟩
    cases c with
    | skip =>
      simp only [runCode, Option.some.injEq] at h
      subst h
      exact ⟨wpIn_skip (hQ _ _ _ (self .normal (fun _ h => by cases h))), trivial⟩
    | label i =>
      simp only [runCode, Option.some.injEq] at h
      subst h
      exact ⟨wpIn_label (hQ _ _ _ (self .normal (fun _ h => by cases h))), trivial⟩
    | exit i =>
      simp only [runCode, Option.some.injEq] at h
      subst h
      exact ⟨wpIn_exit (hQ _ _ _ (self (.exit i) (fun _ h => by cases h))), trivial⟩
    | goto i =>
      simp only [runCode, Option.some.injEq] at h
      subst h
      exact ⟨wpIn_goto (hQ _ _ _ (self (.goto i) (fun _ h => by cases h))), trivial⟩
    | ret =>
      simp only [runCode, Option.some.injEq] at h
      subst h
      exact ⟨wpIn_ret (hQ _ _ _ (self .ret (fun _ h => by cases h))), trivial⟩
    | region id ops d =>
      refine ⟨?_, trivial⟩
      cases d with
      | false =>
        simp only [runCode, Option.map_eq_some_iff] at h
        obtain ⟨l1, h1, rfl⟩ := h
        refine wpIn_region_list (runOps_sound (fun h0 => by subst h0; exact hro) hN hC hY _ hS h1 (fun a' w' hx => hQ _ _ _ (aftX_region (Or.inl ⟨rfl, hx⟩))) ?_)
        rintro x a' w' ⟨σ', hm, v, E', hp, hx, hS', hle, hf⟩
        exact hQ _ _ _ (aftX_region (Or.inr ⟨x, rfl, σ', hm, v, E', hp, hx, hS'.weak, hle, hf⟩))
      | true =>
        simp only [runCode] at h
        split at h
        · rename_i hd
          simp only [Bool.and_eq_true] at hd
          simp only [Option.map_eq_some_iff] at h
          obtain ⟨l1, h1, rfl⟩ := h
          obtain ⟨hm, hA⟩ := hA hd.1.1
          obtain ⟨Q', hq', hw⟩ := hA ops E σ a w l1 hd.1.2 hS h1
          refine wpIn_mono (wpIn_region_any hm (wpAnyIn_of_wpAny hd.2 ?_ _ _ _ _ hw)) ?_
          · rintro ⟨a0, w0, h0⟩
            rcases hq' _ _ _ h0 with ⟨h1, _⟩ | ⟨x, h1, _⟩ <;> cases h1
          · intro e a' w' hx
            exact hQ _ _ _ (aftX_region (hq' _ _ _ hx))
        · cases h
    | seq x y =>
      refine ⟨?_, trivial⟩
      simp only [runCode, Option.bind_eq_bind, Option.bind_eq_some_iff] at h
      obtain ⟨l1, h1, h2⟩ := h
      refine wpIn_seq (runCode_sound hN hC hY hA n none x hS hro h1 ?_).1
      rintro e a' w' ⟨p, hp, E', hX, hle, hf⟩
      rcases thenA_mem h2 p hp with ⟨hx, k, hk, hkl⟩ | ⟨hx, hm⟩
      · obtain ⟨rfl, hS'⟩ := hX.normal hx
        refine (runCode_sound hN hC hY hA n none y hS' (hro.mono hle) hk ?_).1
        rintro e2 a2 w2 ⟨p2, hp2, E2, hX2, hle2, hf2⟩
        exact hQ _ _ _ ⟨p2, hkl _ hp2, E2, hX2, hle.trans hle2, hf.trans hf2⟩
      · have hq := hQ e a' w' ⟨p, hm, E', hX, hle, hf⟩
        rcases hX.form with ⟨h0, _⟩ | ⟨i, _, rfl⟩ | ⟨i, _, rfl⟩ | ⟨_, rfl⟩ | ⟨v, c, _, rfl⟩
        · exact absurd h0 hx
        all_goals exact hq
    | cond t x y =>
      refine ⟨?_, trivial⟩
      simp only [runCode, Option.bind_eq_bind, Option.bind_eq_some_iff] at h
      obtain ⟨p, hp, h⟩ := h
      split at h
      · rename_i b
        have hb := denBool (opnd_den hS.slots (clear_none t) hp)
        obtain ⟨σ', l', hS', hl, hr⟩ := split_sound (denB (opnd_den hS.slots (clear_none t) hp)) hS h
        rcases hr with ⟨hb', hr⟩ | ⟨hb', hr⟩
        · exact wpIn_cond_true (by rw [hb, hb']) (runCode_sound hN hC hY hA n none x hS' hro hr fun e a' w' hx => hQ _ _ _ (hx.sub hl)).1
        · exact wpIn_cond_false (by rw [hb, hb']) (runCode_sound hN hC hY hA n none y hS' hro hr fun e a' w' hx => hQ _ _ _ (hx.sub hl)).1
      · cases h
    | block id c =>
      refine ⟨?_, trivial⟩
      simp only [runCode, Option.map_eq_some_iff] at h
      obtain ⟨l1, h1, rfl⟩ := h
      refine wpIn_block (runCode_sound hN hC hY hA n none c hS hro h1 ?_).1
      rintro e a' w' ⟨p, hp, E', hX, hle, hf⟩
      have hm := inBlockA_mem (id := id) p hp
      have hX' := hX
      unfold EndX at hX'
      cases hx' : p.1 with
      | exit i =>
        rw [hx'] at hX' hm
        obtain ⟨rfl, hS'⟩ := hX'
        simp only [AExit.den, Exit.inBlock, AExit.out] at hm ⊢
        by_cases hi : i = id
        · rw [if_pos hi] at hm ⊢
          exact hQ _ a' w' ⟨_, hm, E', ⟨rfl, hS'⟩, hle, hf⟩
        · rw [if_neg hi] at hm ⊢
          exact hQ _ a' w' ⟨_, hm, E', ⟨rfl, hS'⟩, hle, hf⟩
      | normal =>
        rw [hx'] at hX' hm
        obtain ⟨rfl, hS'⟩ := hX'
        exact hQ _ a' w' ⟨_, hm, E', ⟨rfl, hS'⟩, hle, hf⟩
      | goto i =>
        rw [hx'] at hX' hm
        obtain ⟨rfl, hS'⟩ := hX'
        exact hQ _ a' w' ⟨_, hm, E', ⟨rfl, hS'⟩, hle, hf⟩
      | ret =>
        rw [hx'] at hX' hm
        obtain ⟨rfl, hS'⟩ := hX'
        exact hQ _ a' w' ⟨_, hm, E', ⟨rfl, hS'⟩, hle, hf⟩
      | panic v =>
        rw [hx'] at hX' hm
        obtain ⟨x, hv, rfl, hS'⟩ := hX'
        exact hQ _ a' w' ⟨_, hm, E', ⟨x, hv, rfl, hS'⟩, hle, hf⟩
    | loop c =>
      refine ⟨?_, trivial⟩
      simp only [runCode] at h
      split at h
      · rename_i l' hl'
        injection h with h
        subst h
        obtain ⟨an, hl'⟩ := loopAny_some hl'
        exact loopA_sound (R := fun E => RoRel E ro roC) (fun h1 h2 => h1.mono h2) (fun h1 h2 h3 h4 => (runCode_sound hN hC hY hA n none c h1 h2 h3 h4).1) hS hro hl' hQ
      · exact wpIn_loop_rounds n (unrollA_sound (R := fun E => RoRel E ro roC) (fun h1 h2 => h1.mono h2) (fun h1 h2 h3 h4 => (runCode_sound hN hC hY hA n none c h1 h2 h3 h4).1) n hS hro h hQ)
    | scope c =>
      refine ⟨?_, trivial⟩
      simp only [runCode] at h
      exact wp_scope_run n (runCode_sound hN hC hY hA n (some c) c hS hro h hQ)
    | rangeFunc g params assign body =>
      refine ⟨?_, trivial⟩
      simp only [runCode, Option.bind_eq_bind, Option.bind_eq_some_iff] at h
      obtain ⟨p, hp, h⟩ := h
      split at h
      · rename_i f first captured
        simp only [Option.bind_eq_some_iff] at h
        obtain ⟨⟨h', b, marks⟩, he, fn, hfn, h⟩ := h
        simp only at h
        split at h
        · rename_i hbody
          simp only [Option.bind_eq_some_iff] at h
          obtain ⟨L, hL, hl⟩ := h
          exact range_sound hN hC hS hro hp he hfn hbody hL hl hQ
        · cases h
      · cases h
    | _ => simp [runCode] at h

/-! ### Results -/

theorem run_mapM {α β : Type} {f : α → Sem β} {w : World} : ∀ (l : List α) (vals : List β), vals.length = l.length → (∀ (k : Nat) (x : α) (v : β), l[k]? = some x → vals[k]? = some v → (f x).run P w = .ok v w) →
    (l.mapM f).run P w = .ok vals w
  | [], [], _, _ => rfl
  | x :: l, v :: vals, hl, h => by
    rw [List.mapM_cons]
    simp only [Sem.run_bind]
    rw [h 0 x v rfl rfl, Result.andThen_ok, run_mapM l vals (by simpa using hl) (fun k y u h1 h2 => h (k + 1) y u (by simpa using h1) (by simpa using h2))]
    rfl
  | [], _ :: _, hl, _ => by simp at hl
  | _ :: _, [], hl, _ => by simp at hl

theorem resultsL_den {E : Env} {σ : St} {a : Act} {w : World} (hS : Slots E (Poi σ) σ.tmps a) (hw : WR E B σ.h w) : ∀ {rs : List ResultVar} {l : List AV}, resultsL P σ rs = some l →
    ∃ m, AV.denL E l = some m ∧ m.length = rs.length ∧ ∀ (k : Nat) (r : ResultVar) (v : Value), rs[k]? = some r → m[k]? = some v → (match r with
      | .tmp t => (pure (a.tmps.getD t undef) : Sem Value)
      | .cell x t => do loadVar t (← asAddr (a.tmps.getD x undef))).run P w = .ok v w
  | [], l, h => by
    simp only [resultsL, Option.some.injEq] at h
    subst h
    exact ⟨[], by simp [AV.denL], rfl, fun k r v hk => by simp at hk⟩
  | r :: rs, l, h => by
    simp only [resultsL, Option.bind_eq_bind, Option.bind_eq_some_iff, Option.pure_def, Option.some.injEq] at h
    obtain ⟨v, hv, l', hl', rfl⟩ := h
    obtain ⟨m, hm, hlen, hall⟩ := resultsL_den hS hw hl'
    have h1 : ∃ z, v.den E = some z ∧ (match r with
      | .tmp t => (pure (a.tmps.getD t undef) : Sem Value)
      | .cell x t => do loadVar t (← asAddr (a.tmps.getD x undef))).run P w = .ok z w := by
      unfold result1 at hv
      cases r with
      | tmp t =>
        simp only [Option.bind_eq_bind, Option.bind_eq_some_iff] at hv
        obtain ⟨u, hu, hv⟩ := hv
        split at hv
        · cases hv
        · rename_i hnp
          injection hv with hv
          subst hv
          obtain ⟨x, hx, hax⟩ := hS.2 t u (fun h => by
            rw [Poi, hu] at h
            injection h with h
            subst h
            exact hnp rfl) (by simpa using hnp) hu
          exact ⟨x, hx, by simp [hax]⟩
      | cell x t =>
        simp only [Option.bind_eq_bind, Option.bind_eq_some_iff] at hv
        obtain ⟨u, hu, hv⟩ := hv
        split at hv
        · rename_i b o
          obtain ⟨y, hy, hay⟩ := hS.2 x _ (fun h => by
            rw [Poi, hu] at h
            injection h with h
            cases h) rfl hu
          obtain ⟨c, hc, rfl⟩ := denPtr hy
          obtain ⟨z, hz, hrun⟩ := loadV_sound (P := P) hw hc hv
          exact ⟨z, hz, by simp [hay, asAddr, hrun]⟩
        · cases hv
    obtain ⟨z, hz, hrun⟩ := h1
    refine ⟨z :: m, denL_cons.2 ⟨z, m, hz, hm, rfl⟩, by simp [hlen], fun k r' v' hk hm' => ?_⟩
    cases k with
    | zero =>
      simp only [List.getElem?_cons_zero, Option.some.injEq] at hk hm'
      subst hk hm'
      exact hrun
    | succ k =>
      simp only [List.getElem?_cons_succ] at hk hm'
      exact hall k r' v' hk hm'

theorem resultsA_sound {fn : Func} {E : Env} {σ : St} {a : Act} {w : World} {v : AV} (hS : Slots E (Poi σ) σ.tmps a) (hw : WR E B σ.h w) (h : resultsA P fn σ = some v) :
    ∃ z, v.den E = some z ∧ (results fn a.tmps).run P w = .ok z w := by
  unfold resultsA at h
  simp only [Option.bind_eq_bind, Option.bind_eq_some_iff] at h
  obtain ⟨l, hl, h⟩ := h
  obtain ⟨m, hm, hlen, hall⟩ := resultsL_den hS hw hl
  have hlen' : m.length = fn.results.size := by simpa using hlen
  have hrun := run_mapM (P := P) (w := w) fn.results.toList m hlen hall
  have hres : ∀ z, z = (if h : m.toArray.size = 1 then m.toArray[0] else Value.tuple m.toArray) → (results fn a.tmps).run P w = .ok z w := by
    intro z hz
    subst hz
    unfold results
    rw [Array.mapM_eq_mapM_toList, map_eq_pure_bind]
    simp only [Sem.run_bind]
    erw [hrun]
    rfl
  have hll := denL_length hm
  split at h
  · rename_i u
    simp only [Option.pure_def, Option.some.injEq] at h
    subst h
    obtain ⟨x, r, hx, hr, rfl⟩ := denL_cons.1 hm
    simp only [AV.denL, Option.some.injEq] at hr
    subst hr
    exact ⟨x, hx, hres _ (by simp)⟩
  · rename_i hne
    simp only [Option.pure_def, Option.some.injEq] at h
    subst h
    refine ⟨.tuple m.toArray, by simp [AV.den, hm], hres _ ?_⟩
    rw [dif_neg]
    intro h1
    have : l.length = 1 := by rw [← hll]; simpa using h1
    obtain ⟨x, rfl⟩ := List.length_eq_one_iff.1 this
    exact hne x rfl

/-! ### The way out -/

/-- How an activation stands on its way out, in the model. -/
def ModeR (E : Env) (u : AMode) (m : FrameMode) : Prop :=
  match u with
  | .ret => m = .returning
  | .pan v r => ∃ x, v.den E = some x ∧ m = .panicking [{ v := x, recovered := r }]

theorem ModeR.mono {E E' : Env} {u : AMode} {m : FrameMode} (hE : E.Le E') (h : ModeR E u m) : ModeR E' u m := by
  cases u with
  | ret => exact h
  | pan v r => obtain ⟨x, hx, e⟩ := h; exact ⟨x, AV.den_mono hE _ _ hx, e⟩

theorem ModeR.settle {E : Env} {u : AMode} {m : FrameMode} (h : ModeR E u m) : ModeR E u.settle (Go.settle m) := by
  cases u with
  | ret => cases h; rfl
  | pan v r =>
    obtain ⟨x, hx, rfl⟩ := h
    cases r with
    | true => rfl
    | false => exact ⟨x, hx, rfl⟩

theorem ModeR.ne {E : Env} {u : AMode} {m : FrameMode} (h : ModeR E u m) : m ≠ .run := by
  cases u with
  | ret => cases h; simp
  | pan v r => obtain ⟨x, hx, rfl⟩ := h; simp

/-- What the walker says of deferred calls holds. -/
def DfrOk (P : Program) (dfr : FuncId → List AV → AMode → Hp → List BE → Option (List (AMode × Hp × List BE))) (B : Bd) : Prop :=
  ∀ (f : FuncId) (args : List AV) (u : AMode) (h : Hp) (pc : List BE) (L : List (AMode × Hp × List BE)), dfr f args u h pc = some L →
    ∀ (E : Env) (w : World) (xs : List Value) (m : FrameMode), WR E B h w → (∀ b ∈ pc, b.holds E.ι) → AV.denL E args = some xs → ModeR E u m →
      CallsDIn Fence.wide 0 P f xs.toArray m w fun e m' w' => ∃ v q E', e = .returned v ∧ q ∈ L ∧ ModeR E' q.1 (Go.settle m') ∧ Ext E B w E' q.2.1 w' ∧ ∀ b ∈ q.2.2, b.holds E'.ι

theorem leaveA_sound {dfr : FuncId → List AV → AMode → Hp → List BE → Option (List (AMode × Hp × List BE))} (hN : plainNames P = true) (hD : DfrOk P dfr B) {fn : Func} {a : Act} {R : Ending → World → Prop} {σ : St} :
    ∀ (marks : List Mark) {u : AMode} {h : Hp} {pc : List BE} {L : List (AV × Hp × List BE)} {E : Env} {w : World} {ds : List Deferred} {m : FrameMode},
      leaveA P dfr fn σ marks u h pc = some L → WR E B h w → (∀ b ∈ pc, b.holds E.ι) → Slots E (Poi σ) σ.tmps a → marksDen E marks = some ds → ModeR E u m →
      (∀ e w' q E', q ∈ L → EndR E' q.1 e → Ext E B w E' q.2.1 w' → (∀ b ∈ q.2.2, b.holds E'.ι) → R e w') → LeavesInM Fence.wide 0 P fn a.tmps R ds m w
  | [], u, h, pc, L, E, w, ds, m, hl, hw, hp, hS, hd, hm, hR => by
    simp only [marksDen, Option.some.injEq] at hd
    subst hd
    unfold leaveA at hl
    cases u with
    | ret =>
      cases hm
      simp only [Option.bind_eq_bind, Option.bind_eq_some_iff, Option.pure_def, Option.some.injEq] at hl
      obtain ⟨v, hv, rfl⟩ := hl
      obtain ⟨z, hz, hrun⟩ := resultsA_sound (σ := { σ with h, pc }) hS hw hv
      exact ⟨z, hrun, hR _ _ _ E (List.mem_singleton.2 rfl) (Or.inl ⟨z, rfl, hz⟩) (.refl hw) hp⟩
    | pan v r =>
      obtain ⟨x, hx, rfl⟩ := hm
      cases r with
      | true => simp at hl
      | false =>
        simp only [Option.some.injEq] at hl
        subst hl
        exact hR _ _ _ E (List.mem_singleton.2 rfl) (Or.inr ⟨v, x, rfl, rfl, hx⟩) (.refl hw) hp
  | .blk b :: r, u, h, pc, L, E, w, ds, m, hl, hw, hp, hS, hd, hm, hR => by
    obtain ⟨d, ds', hd1, hd', rfl⟩ := marksDen_cons.1 hd
    obtain ⟨c, hc, rfl⟩ := Mark.den_blk.1 hd1
    unfold leaveA at hl
    split at hl
    · rename_i hbs
      obtain ⟨ob, hob, hrel⟩ := hw.obj b c _ hc hbs
      have hob' : ob = .deferred (some []) := hrel
      subst hob'
      have hg := getObj_run (P := P) hob (fun _ _ _ h => by cases h)
      obtain ⟨hset, hx⟩ := setObj_sound (P := P) (o' := .deferred false) (ob := .deferred none) hw hc hbs rfl rfl rfl
      refine ⟨hm.ne, Or.inl ⟨c, _, rfl, by simp [Instr.takeDeferred, hg, hset]; rfl, ?_⟩⟩
      exact leaveA_sound hN hD r hl hx.wr hp hS hd' hm fun e w' q E' hq he hxx hpp => hR e w' q E' hq he (hx.trans hxx) hpp
    · cases hl
  | .call f first captured :: r, u, h, pc, L, E, w, ds, m, hl, hw, hp, hS, hd, hm, hR => by
    obtain ⟨d, ds', hd1, hd', rfl⟩ := marksDen_cons.1 hd
    obtain ⟨x, y, hx, hy, rfl⟩ := Mark.den_call.1 hd1
    unfold leaveA at hl
    simp only [Option.bind_eq_bind, Option.bind_eq_some_iff] at hl
    obtain ⟨g, hg, hl⟩ := hl
    split at hl
    · cases hl
    · rename_i hbody
      simp only [Option.bind_eq_some_iff] at hl
      obtain ⟨l, hl1, hl2⟩ := hl
      have hnb : g.body.isNone = false := by cases hb : g.body <;> simp [hb] at hbody ⊢
      have hnm := plainNames_spec hN hg
      refine ⟨hm.ne, Or.inr ⟨fun h => (by cases h), .func f, y.toArray, f, (x ++ y).toArray, rfl, ?_, fun _ _ => trivial, ?_⟩⟩
      · simp only [invoke, callFunc, Sem.run_bind, run_program, Result.andThen_ok, hg, hnm, Bool.false_eq_true, if_false, hnb, Sem.run_pure]
        simp
      · refine CallsDIn.mono (hD f _ u h pc l hl1 E w _ m hw hp (denL_append hx hy) hm) ?_
        rintro e m' w' ⟨v, q, E', rfl, hq, hm', hxx, hpp⟩
        obtain ⟨k, hk, hkl⟩ := each_mem hl2 q hq
        exact leaveA_sound hN hD r hk hxx.wr hpp (hS.mono hxx.le) (marksDen_mono hxx.le hd') hm' fun e2 w2 q2 E2 hq2 he2 hx2 hp2 => hR e2 w2 q2 E2 (hkl _ hq2) he2 (hxx.trans hx2) hp2

theorem endsA_mem {dfr : FuncId → List AV → AMode → Hp → List BE → Option (List (AMode × Hp × List BE))} {fn : Func} : ∀ {l : List (AExit × St)} {L : List (AV × Hp × List BE)}, endsA P dfr fn l = some L → ∀ p ∈ l,
    ∃ u k, ((p.1 = .normal ∨ p.1 = .ret) ∧ u = .ret ∨ ∃ v, p.1 = .panic v ∧ u = .pan v false) ∧ leaveA P dfr fn p.2 p.2.marks u p.2.h p.2.pc = some k ∧ ∀ q ∈ k, q ∈ L
  | [], _, _, p, hp => by cases hp
  | (.normal, σ) :: l, L, h, p, hp => by
    simp only [endsA, Option.bind_eq_bind, Option.bind_eq_some_iff, Option.pure_def, Option.some.injEq] at h
    obtain ⟨k, hk, m, hm, rfl⟩ := h
    rcases List.mem_cons.1 hp with rfl | hp
    · exact ⟨_, k, Or.inl ⟨Or.inl rfl, rfl⟩, hk, fun q hq => List.mem_append_left _ hq⟩
    · obtain ⟨u, k2, h1, h2, h3⟩ := endsA_mem hm p hp
      exact ⟨u, k2, h1, h2, fun q hq => List.mem_append_right _ (h3 q hq)⟩
  | (.ret, σ) :: l, L, h, p, hp => by
    simp only [endsA, Option.bind_eq_bind, Option.bind_eq_some_iff, Option.pure_def, Option.some.injEq] at h
    obtain ⟨k, hk, m, hm, rfl⟩ := h
    rcases List.mem_cons.1 hp with rfl | hp
    · exact ⟨_, k, Or.inl ⟨Or.inr rfl, rfl⟩, hk, fun q hq => List.mem_append_left _ hq⟩
    · obtain ⟨u, k2, h1, h2, h3⟩ := endsA_mem hm p hp
      exact ⟨u, k2, h1, h2, fun q hq => List.mem_append_right _ (h3 q hq)⟩
  | (.panic v, σ) :: l, L, h, p, hp => by
    simp only [endsA, Option.bind_eq_bind, Option.bind_eq_some_iff, Option.pure_def, Option.some.injEq] at h
    obtain ⟨k, hk, m, hm, rfl⟩ := h
    rcases List.mem_cons.1 hp with rfl | hp
    · exact ⟨_, k, Or.inr ⟨v, rfl, rfl⟩, hk, fun q hq => List.mem_append_left _ hq⟩
    · obtain ⟨u, k2, h1, h2, h3⟩ := endsA_mem hm p hp
      exact ⟨u, k2, h1, h2, fun q hq => List.mem_append_right _ (h3 q hq)⟩
  | (.exit i, σ) :: l, L, h, p, hp => by simp [endsA] at h
  | (.goto i, σ) :: l, L, h, p, hp => by simp [endsA] at h

/-! ### Deferred calls -/

theorem doOpS_sound {E : Env} {σ : St} {a : Act} {w : World} {o : Oper} {u : AMode} {q : St × AMode} {m : FrameMode} {c₀ : Frame} {cs : List Frame} {ops : Array Oper} {Q : Exit → Act → List Frame → World → Prop} {r : List Nat} {F : Fence} {nn : Nat}
    (hS : SR E B (fun _ => False) σ a w) (hm : ModeR E u m) (h : doOpS P o (σ, u) = some q)
    (hn : ∀ a' m', SR E B (fun _ => False) q.1 a' w → ModeR E q.2 m' → wpOpsSIn F nn P ops Q r a' ({ c₀ with mode := m' } :: cs) w) :
    (match (execOp a.eval o).run P w with
      | .ok .recover w' =>
        match recoverD ({ c₀ with mode := m } :: cs) with
        | some (v, cs') => wpOpsSIn F nn P ops Q r (a.put o.dst v) cs' w'
        | none => wpOpsSIn F nn P ops Q r (a.put o.dst .nilIface) ({ c₀ with mode := m } :: cs) w'
      | .ok (.value v) w' => wpOpsSIn F nn P ops Q r (a.put o.dst v) ({ c₀ with mode := m } :: cs) w'
      | .ok .skip w' => wpOpsSIn F nn P ops Q r (a.put o.dst undef) ({ c₀ with mode := m } :: cs) w'
      | .halt (.panic v) w' => Q (.panic [{ v, recovered := false }]) a ({ c₀ with mode := m } :: cs) w'
      | _ => False) := by
  unfold doOpS at h
  split at h
  · rename_i args ts ho
    have hrun : (execOp a.eval o).run P w = .ok .recover w := by
      unfold execOp; rw [ho]; rfl
    rw [hrun]
    split at h
    · rename_i v hu
      simp only at hu
      subst hu
      injection h with h
      subst h
      obtain ⟨x, hx, rfl⟩ := hm
      exact hn _ _ (hS.put o.dst hx) ⟨x, hx, rfl⟩
    · rename_i hne
      injection h with h
      subst h
      have hrec : recoverD ({ c₀ with mode := m } :: cs) = none := by
        cases u with
        | ret => cases hm; rfl
        | pan v rr =>
          obtain ⟨x, hx, rfl⟩ := hm
          cases rr with
          | true => rfl
          | false => exact absurd rfl (hne v)
      simp only [hrec]
      exact hn _ _ (hS.put o.dst (by simp [AV.den])) hm
  · simp only [Option.map_eq_some_iff] at h
    obtain ⟨v, hv, rfl⟩ := h
    obtain ⟨z, hz, hrun⟩ := aopPure_sound (P := P) hS.slots (fun x _ => clear_none x) hv
    rw [hrun w]
    exact hn _ _ (hS.put o.dst hz) hm

theorem runOpsS_sound {ops : Array Oper} {c₀ : Frame} {cs : List Frame} {Q : Exit → Act → List Frame → World → Prop} : ∀ (r : List Nat) {E : Env} {σ : St} {u : AMode} {a : Act} {w : World} {m : FrameMode} {l : List (St × AMode)},
    SR E B (fun _ => False) σ a w → ModeR E u m → runOpsS P ops r (σ, u) = some l →
    (∀ q ∈ l, ∀ a' m', SR E B (fun _ => False) q.1 a' w → ModeR E q.2 m' → Q .normal a' ({ c₀ with mode := m' } :: cs) w) → wpOpsSIn Fence.wide 0 P ops Q r a ({ c₀ with mode := m } :: cs) w
  | [], E, σ, u, a, w, m, l, hS, hm, h, hQ => by
    simp only [runOpsS, Option.some.injEq] at h
    subst h
    exact hQ _ (List.mem_singleton.2 rfl) _ _ hS hm
  | i :: r, E, σ, u, a, w, m, l, hS, hm, h, hQ => by
    unfold runOpsS at h
    unfold wpOpsSIn
    cases ho : ops[i]? with
    | none => rw [ho] at h; cases h
    | some o =>
      rw [ho] at h
      simp only at h ⊢
      obtain ⟨σ', l', hS', hl, hr⟩ := guarded_sound hS (fun _ _ _ _ _ h => h) h
      refine ⟨fun _ _ => trivial, ?_⟩
      rcases hr with ⟨hw, hr⟩ | ⟨hw, hr⟩
      · rw [if_pos hw]
        simp only [Option.bind_eq_bind, Option.bind_eq_some_iff] at hr
        obtain ⟨q, hq, hr⟩ := hr
        refine doOpS_sound hS' hm hq fun a' m' hS2 hm2 => ?_
        exact runOpsS_sound r (σ := q.1) (u := q.2) hS2 hm2 hr fun q2 hq2 a2 m2 hS3 hm3 => hQ q2 (hl _ hq2) a2 m2 hS3 hm3
      · rw [hw, if_neg (by simp)]
        exact runOpsS_sound r (hS'.put o.dst (undefA_den E)) hm hr fun q2 hq2 a2 m2 hS3 hm3 => hQ q2 (hl _ hq2) a2 m2 hS3 hm3

theorem thenS_mem {f : St × AMode → Option (List (AExit × St × AMode))} : ∀ {l k : List (AExit × St × AMode)}, thenS f l = some k → ∀ p ∈ l, (p.1 = .normal ∧ ∃ j, f p.2 = some j ∧ ∀ y ∈ j, y ∈ k) ∨ (p.1 ≠ .normal ∧ p ∈ k)
  | [], _, _, p, hp => by cases hp
  | (x, q) :: l, k, h, p, hp => by
    cases x with
    | normal =>
      simp only [thenS, Option.bind_eq_bind, Option.bind_eq_some_iff, Option.pure_def, Option.some.injEq] at h
      obtain ⟨j, hj, k', hk', rfl⟩ := h
      rcases List.mem_cons.1 hp with rfl | hp
      · exact Or.inl ⟨rfl, j, hj, fun y hy => List.mem_append_left _ hy⟩
      · rcases thenS_mem hk' p hp with ⟨h1, j1, h2, h3⟩ | ⟨h1, h2⟩
        · exact Or.inl ⟨h1, j1, h2, fun y hy => List.mem_append_right _ (h3 y hy)⟩
        · exact Or.inr ⟨h1, List.mem_append_right _ h2⟩
    | _ =>
      simp only [thenS, Option.bind_eq_bind, Option.bind_eq_some_iff, Option.pure_def, Option.some.injEq] at h
      obtain ⟨k', hk', rfl⟩ := h
      rcases List.mem_cons.1 hp with rfl | hp
      · exact Or.inr ⟨by simp, List.mem_cons_self⟩
      · rcases thenS_mem hk' p hp with ⟨h1, j1, h2, h3⟩ | ⟨h1, h2⟩
        · exact Or.inl ⟨h1, j1, h2, fun y hy => List.mem_cons_of_mem _ (h3 y hy)⟩
        · exact Or.inr ⟨h1, List.mem_cons_of_mem _ h2⟩

/-- One of the ends that a deferred function's text may come to. -/
def AftS (E : Env) (B : Bd) (w : World) (l : List (AExit × St × AMode)) (e : Exit) (a' : Act) (m' : FrameMode) (w' : World) : Prop :=
  ∃ q ∈ l, ∃ E', EndX B E' (q.1, q.2.1) e a' w' ∧ ModeR E' q.2.2 m' ∧ E.Le E' ∧ Fr E E' w w'

theorem runCodeS_sound {dr : Bool} {call : CallF} (hN : plainNames P = true) (hC : CallOk P call B) (hY : RndOk P call B) (hA : dr = true → AnyOk P call B) {c₀ : Frame} {cs : List Frame} : ∀ (n : Nat) (c : Code) {E : Env} {σ : St} {u : AMode} {a : Act} {w : World} {m : FrameMode} {l : List (AExit × St × AMode)} {Q : Exit → Act → List Frame → World → Prop},
    SR E B (fun _ => False) σ a w → ModeR E u m → runCodeS P dr call n c (σ, u) = some l → (∀ e a' m' w', AftS E B w l e a' m' w' → Q e a' ({ c₀ with mode := m' } :: cs) w') →
      c.wpSIn Fence.wide 0 P Q a ({ c₀ with mode := m } :: cs) w
  | 0, _, _, _, _, _, _, _, _, _, _, _, h, _ => by simp [runCodeS] at h
  | n + 1, c, E, σ, u, a, w, m, l, Q, hS, hm, h, hQ => by
    have plain : ∀ l1 : List (AExit × St), runCode P dr call none n none c σ = some l1 → (l1.map fun (x : AExit × St) => (x.1, x.2, u)) = l → c.wpSIn Fence.wide 0 P Q a ({ c₀ with mode := m } :: cs) w := by
      intro l1 h1 h2
      refine wpSIn_of_wpIn rfl ?_
      refine (runCode_sound (ro := none) (roC := none) hN hC hY hA n none c hS rfl h1 ?_).1
      rintro e a' w' ⟨p, hp, E', hX, hle, hf⟩
      exact hQ _ _ _ _ ⟨_, by rw [← h2]; exact List.mem_map.2 ⟨p, hp, rfl⟩, E', hX, hm.mono hle, hle, hf⟩
    unfold runCodeS at h
    split at h
    · rename_i x y
      simp only [Option.bind_eq_bind, Option.bind_eq_some_iff] at h
      obtain ⟨l1, h1, h2⟩ := h
      refine wpSIn_seq (runCodeS_sound hN hC hY hA n x hS hm h1 ?_)
      rintro e a' m' w' ⟨q, hq, E', hX, hm', hle, hf⟩
      rcases thenS_mem h2 q hq with ⟨hx, j, hj, hjl⟩ | ⟨hx, hmem⟩
      · obtain ⟨rfl, hS'⟩ := hX.normal hx
        refine runCodeS_sound hN hC hY hA n y (σ := q.2.1) (u := q.2.2) hS' hm' hj ?_
        rintro e2 a2 m2 w2 ⟨q2, hq2, E2, hX2, hm2, hle2, hf2⟩
        exact hQ _ _ _ _ ⟨q2, hjl _ hq2, E2, hX2, hm2, hle.trans hle2, hf.trans hf2⟩
      · have hq' := hQ e a' m' w' ⟨q, hmem, E', hX, hm', hle, hf⟩
        rcases hX.form with ⟨h0, _⟩ | ⟨i, _, rfl⟩ | ⟨i, _, rfl⟩ | ⟨_, rfl⟩ | ⟨v, c, _, rfl⟩
        · exact absurd h0 hx
        all_goals exact hq'
    · rename_i t x y
      simp only [Option.bind_eq_bind, Option.bind_eq_some_iff] at h
      obtain ⟨p, hp, h⟩ := h
      split at h
      · rename_i b
        have hb := denBool (opnd_den hS.slots (clear_none t) hp)
        obtain ⟨σ', l', hS', hl, hr⟩ := split_sound (denB (opnd_den hS.slots (clear_none t) hp)) hS h
        have hQ' : ∀ e a' m' w', AftS E B w l' e a' m' w' → Q e a' ({ c₀ with mode := m' } :: cs) w' := by
          rintro e a' m' w' ⟨q, hq, r⟩
          exact hQ _ _ _ _ ⟨q, hl _ hq, r⟩
        rcases hr with ⟨hb', hr⟩ | ⟨hb', hr⟩
        · exact wpSIn_cond (t := true) (by rw [hb, hb']) (runCodeS_sound hN hC hY hA n x hS' hm hr hQ')
        · exact wpSIn_cond (t := false) (by rw [hb, hb']) (runCodeS_sound hN hC hY hA n y hS' hm hr hQ')
      · cases h
    · rename_i id ops
      split at h
      · simp only [Option.map_eq_some_iff] at h
        obtain ⟨l1, h1, rfl⟩ := h
        refine wpSIn_region (runOpsS_sound _ hS hm h1 fun q hq a' m' hS' hm' => ?_)
        exact hQ _ _ _ _ ⟨_, List.mem_map.2 ⟨q, hq, rfl⟩, E, ⟨rfl, hS'⟩, hm', .refl E, .refl E w⟩
      · simp only [Option.map_eq_some_iff] at h
        obtain ⟨l1, h1, h2⟩ := h
        exact plain l1 h1 h2
    · simp only [Option.map_eq_some_iff] at h
      obtain ⟨l1, h1, h2⟩ := h
      exact plain l1 h1 h2

theorem settleA_mem : ∀ {l : List (AExit × St × AMode)} {L : List (AMode × Hp × List BE)}, settleA l = some L → ∀ q ∈ l, (q.1 = .normal ∨ q.1 = .ret) ∧ q.2.1.marks = [] ∧ (q.2.2.settle, q.2.1.h, q.2.1.pc) ∈ L
  | [], _, _, q, hq => by cases hq
  | (x, σ, u) :: l, L, h, q, hq => by
    have key : (x = .normal ∨ x = .ret) → (if !σ.marks.isEmpty then none else (do let m ← settleA l; pure ((u.settle, σ.h, σ.pc) :: m) : Option (List (AMode × Hp × List BE)))) = some L → (q.1 = .normal ∨ q.1 = .ret) ∧ q.2.1.marks = [] ∧ (q.2.2.settle, q.2.1.h, q.2.1.pc) ∈ L := by
      intro hx h
      split at h
      · cases h
      · rename_i hmk
        simp only [Option.bind_eq_bind, Option.bind_eq_some_iff, Option.pure_def, Option.some.injEq] at h
        obtain ⟨m, hm, rfl⟩ := h
        rcases List.mem_cons.1 hq with rfl | hq
        · exact ⟨hx, by simpa using hmk, List.mem_cons_self⟩
        · obtain ⟨h1, h2, h3⟩ := settleA_mem hm q hq
          exact ⟨h1, h2, List.mem_cons_of_mem _ h3⟩
    cases x with
    | normal => exact key (Or.inl rfl) h
    | ret => exact key (Or.inr rfl) h
    | exit i => simp [settleA] at h
    | goto i => simp [settleA] at h
    | panic v => simp [settleA] at h

theorem runDefer_sound {dr : Bool} {call : CallF} (hN : plainNames P = true) (hC : CallOk P call B) (hY : RndOk P call B) (hA : dr = true → AnyOk P call B) (fuel : Nat) : DfrOk P (runDefer P dr call fuel) B := by
  intro f args u h pc L hr E w xs m hw hp hx hm
  unfold runDefer at hr
  simp only [Option.bind_eq_bind, Option.bind_eq_some_iff] at hr
  obtain ⟨fn, hfn, hr⟩ := hr
  split at hr
  · cases hr
  rename_i hres
  have hres' : fn.results = #[] := by simpa using hres
  simp only [Option.bind_eq_some_iff] at hr
  obtain ⟨c, hc, l, hl, hr⟩ := hr
  have hS : SR E B (fun _ => False) { tmps := args ++ List.replicate (fn.ntmps - args.length) undefA, h, pc } { tmps := xs.toArray ++ Array.replicate (fn.ntmps - xs.toArray.size) undef, defers := [] } w := by
    have hd := denL_append hx (denL_replicate (undefA_den E) (fn.ntmps - args.length))
    have hln := denL_length hx
    refine ⟨⟨by simp [hln], fun t v _ _ hv => ?_⟩, rfl, hw, hp, rfl⟩
    obtain ⟨x, h1, h2⟩ := denL_get hd t v hv
    refine ⟨x, h1, ?_⟩
    rw [← h2, ← hln, ← Array.getElem?_toList]
    simp
  refine callsDIn_of_wpSIn hfn hc trivial fun c₀ cs hcm => ?_
  have hc0 : ({ c₀ with mode := m } : Frame) = c₀ := by subst hcm; rfl
  have hmain := runCodeS_sound (c₀ := c₀) (cs := cs) hN hC hY hA fuel c (Q := bodyPostS P fn c₀ cs fun e m' w' => ∃ v q E', e = .returned v ∧ q ∈ L ∧ ModeR E' q.1 (Go.settle m') ∧ Ext E B w E' q.2.1 w' ∧ ∀ b ∈ q.2.2, b.holds E'.ι) hS hm hl ?_
  · rw [hc0] at hmain
    exact hmain
  · rintro e a' m' w' ⟨q, hq, E', hX, hm', hle, hf⟩
    obtain ⟨hx1, hmk, hmem⟩ := settleA_mem hr q hq
    have hX' : (e = .normal ∨ e = .ret) ∧ SR E' B (fun _ => False) q.2.1 a' w' := by
      unfold EndX at hX
      rcases hx1 with hx1 | hx1
      · rw [hx1] at hX; exact ⟨Or.inl hX.1, hX.2⟩
      · rw [hx1] at hX; exact ⟨Or.inr hX.1, hX.2⟩
    obtain ⟨he, hS'⟩ := hX'
    have hdf : a'.defers = [] := by
      have := hS'.defers
      rw [hmk] at this
      simp only [marksDen, Option.some.injEq] at this
      exact this.symm
    have hrun : (results fn a'.tmps).run P w' = .ok (.tuple #[]) w' := by
      unfold results
      rw [hres', Array.mapM_eq_mapM_toList, map_eq_pure_bind]
      simp only [Sem.run_bind]
      rfl
    have fin : a'.defers = [] ∧ ∃ u', ({ c₀ with mode := m' } : Frame) :: cs = { c₀ with mode := u' } :: cs ∧ ∃ v, (results fn a'.tmps).run P w' = .ok v w' ∧ ∃ v1 q E', Ending.returned v = .returned v1 ∧ q ∈ L ∧ ModeR E' q.1 (Go.settle u') ∧ Ext E B w E' q.2.1 w' ∧ ∀ b ∈ q.2.2, b.holds E'.ι :=
      ⟨hdf, m', rfl, _, hrun, _, _, E', rfl, hmem, hm'.settle, ⟨hle, hS'.wr, hf⟩, hS'.pc⟩
    rcases he with rfl | rfl <;> exact fin

theorem putMany_den {E : Env} : ∀ (ps : List Tmp) (args tmps : List AV) (xs ts : List Value), AV.denL E args = some xs → AV.denL E tmps = some ts → AV.denL E (putMany tmps (ps.zip args)) = some ((ps.zip xs).foldl (fun t (p : Tmp × Value) => t.set p.1 p.2) ts)
  | [], args, tmps, xs, ts, _, ht => by simpa [putMany] using ht
  | p :: ps, [], tmps, xs, ts, hx, ht => by simp only [AV.denL, Option.some.injEq] at hx; subst hx; simpa [putMany] using ht
  | p :: ps, v :: args, tmps, xs, ts, hx, ht => by
    obtain ⟨x, m, hv, hm, rfl⟩ := denL_cons.1 hx
    simp only [List.zip_cons_cons, putMany, List.foldl_cons]
    exact putMany_den ps args _ m _ hm (denL_set ht p v x hv)

theorem foldl_set_toArray : ∀ (l : List (Tmp × Value)) (ts : List Value), l.foldl (fun (t : Array Value) (p : Tmp × Value) => t.setIfInBounds p.1 p.2) ts.toArray = (l.foldl (fun t (p : Tmp × Value) => t.set p.1 p.2) ts).toArray
  | [], ts => rfl
  | p :: l, ts => by
    simp only [List.foldl_cons]
    rw [← foldl_set_toArray l]
    simp

theorem bodyA_mem {b : Nat} {run : St → Option (List (AExit × St))} : ∀ {l : List (AExit × St)} {L : List (AV × Hp × List BE)}, bodyA b run l = some L → ∀ p ∈ l,
    p.1 = .normal ∧ ∃ pend tmps params assign body d l1 l2, p.2.h.bs[b]? = some (.loop .ready pend tmps params assign body d) ∧
      run { p.2 with h := { p.2.h with bs := p.2.h.bs.set b (.loop .busy pend tmps params assign body d) } } = some l1 ∧ roundsA b l1 = some l2 ∧ ∀ y ∈ l2, y ∈ L
  | [], _, _, p, hp => by cases hp
  | (.normal, σ) :: l, L, h, p, hp => by
    unfold bodyA at h
    split at h
    · rename_i pend tmps params assign body d hbs
      simp only [Option.bind_eq_bind, Option.bind_eq_some_iff, Option.pure_def, Option.some.injEq] at h
      obtain ⟨l1, h1, l2, h2, m, hm, rfl⟩ := h
      rcases List.mem_cons.1 hp with rfl | hp
      · exact ⟨rfl, pend, tmps, params, assign, body, d, l1, l2, hbs, h1, h2, fun y hy => List.mem_append_left _ hy⟩
      · obtain ⟨h3, pend', tmps', params', assign', body', d', l1', l2', h4, h5, h6, h7⟩ := bodyA_mem hm p hp
        exact ⟨h3, pend', tmps', params', assign', body', d', l1', l2', h4, h5, h6, fun y hy => List.mem_append_right _ (h7 y hy)⟩
    · cases h
  | (.exit i, σ) :: l, L, h, p, hp => by simp [bodyA] at h
  | (.goto i, σ) :: l, L, h, p, hp => by simp [bodyA] at h
  | (.ret, σ) :: l, L, h, p, hp => by simp [bodyA] at h
  | (.panic v, σ) :: l, L, h, p, hp => by simp [bodyA] at h

theorem roundsA_mem {b : Nat} : ∀ {l : List (AExit × St)} {L : List (AV × Hp × List BE)}, roundsA b l = some L → ∀ p ∈ l,
    (∀ v, p.1 ≠ .panic v) ∧ ∃ h', setLoop p.2.h b (if (leftA p.1).isNone then .ready else .done) (leftA p.1) = some h' ∧ (.bool (.lit (leftA p.1).isNone), h', p.2.pc) ∈ L
  | [], _, _, p, hp => by cases hp
  | (e, σ) :: l, L, h, p, hp => by
    have key : (∀ v, e ≠ .panic v) ∧ (do
        let h ← setLoop σ.h b (if (leftA e).isNone then .ready else .done) (leftA e)
        let m ← roundsA b l
        pure ((.bool (.lit (leftA e).isNone), h, σ.pc) :: m) : Option (List (AV × Hp × List BE))) = some L := by
      cases e with
      | panic v => simp [roundsA] at h
      | _ => exact ⟨fun v hv => (by cases hv), h⟩
    obtain ⟨hnp, h⟩ := key
    simp only [Option.bind_eq_bind, Option.bind_eq_some_iff, Option.pure_def, Option.some.injEq] at h
    obtain ⟨h', hh, m, hm, rfl⟩ := h
    rcases List.mem_cons.1 hp with rfl | hp
    · exact ⟨hnp, h', hh, List.mem_cons_self⟩
    · obtain ⟨h0, h1, h2, h3⟩ := roundsA_mem hm p hp
      exact ⟨h0, h1, h2, List.mem_cons_of_mem _ h3⟩

theorem endRound_sound {E : Env} {h h' : Hp} {w : World} (hw : WR E B h w) {b c : Nat} {jump : Option Code} (hb : E.ρ[b]? = some c) (hs : setLoop h b (if jump.isNone then .ready else .done) jump = some h') :
    ∃ w', (Instr.endRound c jump).run P w = .ok (.bool jump.isNone) w' ∧ Ext E B w E h' w' := by
  unfold setLoop at hs
  split at hs
  · rename_i st pend tmps params assign body d hbs
    injection hs with hs
    subst hs
    obtain ⟨fn, tmps', D, ht, hD, hget⟩ := loop_obj (P := P) hw hb hbs
    obtain ⟨w', hset, hx⟩ := setLoop_sound (P := P) (st' := if jump.isNone then .ready else .done) (pend' := jump) (fn := fn) hw hb hbs ht hD
    refine ⟨w', ?_, hx⟩
    simp only [Instr.endRound, Sem.run_bind, hget, Result.andThen_ok, hset, Sem.run_pure]
  · cases hs

theorem beginRound_sound {E : Env} {h : Hp} {w : World} (hw : WR E B h w) {b c : Nat} {pend : Option Code} {tmps : List AV} {params : Array Tmp} {assign body : Code} {d : Nat} (hb : E.ρ[b]? = some c)
    (hbs : h.bs[b]? = some (.loop .ready pend tmps params assign body d)) :
    ∃ w', (Instr.beginRound c).run P w = .ok () w' ∧ Ext E B w E { h with bs := h.bs.set b (.loop .busy pend tmps params assign body d) } w' := by
  obtain ⟨fn, tmps', D, ht, hD, hget⟩ := loop_obj (P := P) hw hb hbs
  obtain ⟨w', hset, hx⟩ := setLoop_sound (P := P) (st' := .busy) (pend' := pend) (fn := fn) hw hb hbs ht hD
  refine ⟨w', ?_, hx⟩
  simp only [Instr.beginRound, Sem.run_bind, hget, Result.andThen_ok, hset, Sem.run_pure]

/-- A function of nothing answers true, and leaves what was there as it was. -/
def Known1 (P : Program) (kn : Option FuncId) : Prop := ∀ f, kn = some f → ∀ w, Calls P f #[] w fun e w' => e = .returned (.bool true) ∧ RowKit.Below w.heap.size w w'

/-- What is said of a function holds. -/
def ConOk (P : Program) (c : Con) (B : Bd) : Prop :=
  ∀ (args : List AV) (h : Hp) (pc : List BE) (L : List (AV × Hp × List BE)), c.tr args h pc = some L →
    ∀ (E : Env) (w : World) (xs : List Value), WR E B h w → (∀ b ∈ pc, b.holds E.ι) → AV.denL E args = some xs →
      Calls P c.f xs.toArray w fun e w' => ∃ l E', EndR E' l.1 e ∧ l ∈ L ∧ Ext E B w E' l.2.1 w' ∧ ∀ b ∈ l.2.2, b.holds E'.ι

def Known (P : Program) (kn : Kn) (B : Bd) : Prop := Known1 P kn.kn ∧ ∀ c ∈ kn.cons, ConOk P c B

theorem known_none : Known P ({} : Kn) B := ⟨fun f hf => (by cases hf), fun c hc => (by cases hc)⟩

theorem conRun_mem {f : FuncId} {args : List AV} {h : Hp} {pc : List BE} {L : List (AV × Hp × List BE)} : ∀ {l : List Con}, conRun f args h pc l = some L → ∃ c ∈ l, c.f = f ∧ c.tr args h pc = some L
  | [], h => by cases h
  | c :: r, h => by
    unfold conRun at h
    split at h
    · rename_i hf
      split at h
      · rename_i L' hL
        injection h with h
        subst h
        exact ⟨c, List.mem_cons_self, by simpa using hf, hL⟩
      · obtain ⟨c', h1, h2⟩ := conRun_mem h
        exact ⟨c', List.mem_cons_of_mem _ h1, h2⟩
    · obtain ⟨c', h1, h2⟩ := conRun_mem h
      exact ⟨c', List.mem_cons_of_mem _ h1, h2⟩

theorem ext_below {E : Env} {h : Hp} {w w' : World} (hw : WR E B h w) (hb : RowKit.Below w.heap.size w w') : Ext E B w E h w' :=
  ⟨.refl E, ⟨hw.lenρ, hw.lenκ, fun b c o h1 h2 => by
    obtain ⟨ob, h3, h4⟩ := hw.obj b c o h1 h2
    exact ⟨ob, by rw [hb.block c (hw.lt h1)]; exact h3, h4⟩, hw.base, hw.inj, Nat.le_trans hw.bsize hb.size, hw.cls, hw.giv⟩,
   ⟨hb.os, hb.tape, hb.output, hb.size, fun c hc _ => hb.block c hc, fun b c h1 => Or.inl ⟨b, h1⟩⟩⟩

theorem cutFit_ok {α : Type} {fit : α → Bool} : ∀ {L : List α} {c : Bool} {M : List α}, cutFit fit L = (c, M) → ∀ x ∈ L, (fit x = true ∧ c = true) ∨ x ∈ M
  | [], c, M, h, x, hx => by cases hx
  | y :: r, c, M, h, x, hx => by
    simp only [cutFit] at h
    split at h
    · rename_i hf
      simp only [Prod.mk.injEq] at h
      obtain ⟨rfl, rfl⟩ := h
      rcases List.mem_cons.1 hx with rfl | hx
      · exact Or.inl ⟨hf, rfl⟩
      · exact (cutFit_ok (fit := fit) (L := r) rfl x hx).imp (fun h => ⟨h.1, rfl⟩) id
    · simp only [Prod.mk.injEq] at h
      obtain ⟨rfl, rfl⟩ := h
      rcases List.mem_cons.1 hx with rfl | hx
      · exact Or.inr List.mem_cons_self
      · exact (cutFit_ok (fit := fit) (L := r) rfl x hx).imp id (List.mem_cons_of_mem _)
theorem joinOne_ok {E0 E' : Env} {w0 w' : World} {h : Hp} {pc : List BE} {hd : Head} {L : List (AV × Hp × List BE)} {l : AV × Hp × List BE} {e : Ending} (hw0 : WR E0 B h w0) (hp0 : ∀ b ∈ pc, b.holds E0.ι) (hl : l ∈ L) (he : EndR E' l.1 e) (hx : Ext E0 B w0 E' l.2.1 w') (hp : ∀ b ∈ l.2.2, b.holds E'.ι) :
    ∃ l2 E2, EndR E2 l2.1 e ∧ l2 ∈ joinOne h pc hd L ∧ Ext E0 B w0 E2 l2.2.1 w' ∧ ∀ b ∈ l2.2.2, b.holds E2.ι := by
  unfold joinOne
  split
  · rename_i τ hτ
    split
    · rename_i v hv
      split
      · exact ⟨l, E', he, hl, hx, hp⟩
      · rename_i hpo
        split
        · rename_i M hM
          rcases cutFit_ok hM l hl with ⟨hf, _⟩ | hm
          · simp only [Bool.and_eq_true, Option.isNone_iff_eq_none] at hf
            obtain ⟨hf1, hf2⟩ := hf
            rcases he with ⟨z, rfl, hz⟩ | ⟨y, x, hy, _⟩
            · have hS : SR E' B (fun _ => False) { tmps := [l.1], h := l.2.1, pc := l.2.2 } { tmps := #[z], defers := [] } w' := by
                refine ⟨⟨rfl, fun t u _ _ hu => ?_⟩, rfl, hx.wr, hp, rfl⟩
                cases t with
                | zero => simp only [List.getElem?_cons_zero, Option.some.injEq] at hu; subst hu; exact ⟨z, hz, rfl⟩
                | succ t => simp at hu
              have hnv : E0.ι.nv = h.giv.nv := hw0.giv.nv
              obtain ⟨E2, hS2, hle2, hfr2, _⟩ := isHead_ok (σ0 := { tmps := [undefA], h, pc }) hw0 hp0 (headSt_ok hw0 hτ) hS hx.le hx.fr (less := none) (by rw [hnv]; exact hf2)
              obtain ⟨x, hx1, hx2⟩ := hS2.slots.2 0 v (fun h => h) (by simpa using hpo) (by rw [hv]; rfl)
              simp only [List.getElem?_toArray, List.getElem?_cons_zero, Option.some.injEq] at hx2
              subst hx2
              exact ⟨(v, τ.h, τ.pc), E2, Or.inl ⟨_, rfl, hx1⟩, List.mem_cons_self, ⟨hle2, hS2.wr, hfr2⟩, hS2.pc⟩
            · rw [hf1] at hy
              cases hy
          · exact ⟨l, E', he, List.mem_cons_of_mem _ hm, hx, hp⟩
        · exact ⟨l, E', he, hl, hx, hp⟩
    · exact ⟨l, E', he, hl, hx, hp⟩
  · exact ⟨l, E', he, hl, hx, hp⟩
theorem joinAll_ok {E0 : Env} {w0 w' : World} {f : FuncId} {h : Hp} {pc : List BE} {e : Ending} (hw0 : WR E0 B h w0) (hp0 : ∀ b ∈ pc, b.holds E0.ι) : ∀ {js : List (Nat × Head)} {L : List (AV × Hp × List BE)} {l : AV × Hp × List BE} {E' : Env}, l ∈ L → EndR E' l.1 e → Ext E0 B w0 E' l.2.1 w' → (∀ b ∈ l.2.2, b.holds E'.ι) →
    ∃ l2 E2, EndR E2 l2.1 e ∧ l2 ∈ joinAll f h pc js L ∧ Ext E0 B w0 E2 l2.2.1 w' ∧ ∀ b ∈ l2.2.2, b.holds E2.ι
  | [], L, l, E', hl, he, hx, hp => ⟨l, E', he, hl, hx, hp⟩
  | (g, hd) :: r, L, l, E', hl, he, hx, hp => by
    simp only [joinAll]
    split
    · obtain ⟨l2, E2, h1, h2, h3, h4⟩ := joinOne_ok (hd := hd) hw0 hp0 hl he hx hp
      exact joinAll_ok hw0 hp0 h2 h1 h3 h4
    · exact joinAll_ok hw0 hp0 hl he hx hp

theorem runCall_sound {dr : Bool} {kn : Kn} (hN : plainNames P = true) (hK : Known P kn B) (fuel : Nat) (hA : dr = true → ∀ call, CallOk P call B → AnyOk P call B) : ∀ d, CallOk P (runCall P dr kn fuel d) B ∧ RndOk P (runCall P dr kn fuel d) B
  | 0 => ⟨fun f args h pc L hr => by simp [runCall] at hr, fun f args h pc L hr => by simp [runCall] at hr⟩
  | d + 1 => by
    obtain ⟨ih, ihY⟩ := runCall_sound hN hK fuel hA d
    refine ⟨fun f args h pc L hr E w xs hw hp hx => ?_, fun b args h pc L hr E w xs c hw hp hx hb => ?_⟩
    · unfold runCall at hr
      split at hr
      · rename_i hc
        simp only [Bool.and_eq_true, beq_iff_eq, List.isEmpty_iff] at hc
        injection hr with hr
        subst hr
        obtain ⟨hc1, rfl⟩ := hc
        simp only [AV.denL, Option.some.injEq] at hx
        subst hx
        refine Calls.mono (hK.1 f hc1 w) ?_
        rintro e w' ⟨rfl, hb⟩
        exact ⟨_, E, Or.inl ⟨_, rfl, by simp [AV.den, BE.den]⟩, List.mem_singleton.2 rfl, ext_below hw hb, hp⟩
      split at hr
      · rename_i L' hL'
        injection hr with hr
        subst hr
        obtain ⟨c, hc, rfl, hct⟩ := conRun_mem hL'
        exact hK.2 c hc args h pc _ hct E w xs hw hp hx
      simp only [Option.bind_eq_bind, Option.bind_eq_some_iff] at hr
      obtain ⟨fn, hfn, c, hc, l, hl, L0, hr, hJ⟩ := hr
      simp only [Option.pure_def, Option.some.injEq] at hJ
      subst hJ
      have hS : SR E B (fun _ => False) { tmps := args ++ List.replicate (fn.ntmps - args.length) undefA, h, pc } { tmps := xs.toArray ++ Array.replicate (fn.ntmps - xs.toArray.size) undef, defers := [] } w := by
        have hd := denL_append hx (denL_replicate (undefA_den E) (fn.ntmps - args.length))
        have hln := denL_length hx
        refine ⟨⟨by simp [hln], fun t v _ _ hv => ?_⟩, rfl, hw, hp, rfl⟩
        obtain ⟨x, h1, h2⟩ := denL_get hd t v hv
        refine ⟨x, h1, ?_⟩
        rw [← h2, ← hln, ← Array.getElem?_toList]
        simp
      refine Calls.mono (R := fun e w' => ∃ l E', EndR E' l.1 e ∧ l ∈ L0 ∧ Ext E B w E' l.2.1 w' ∧ ∀ b ∈ l.2.2, b.holds E'.ι) ?_ fun e w' ⟨l, E', h1, h2, h3, h4⟩ => joinAll_ok hw hp h2 h1 h3 h4
      refine callsIn_wide.1 (callsIn_of_wp_marks (F := Fence.wide) (n := 0) hfn hc trivial (runCode_sound (ro := none) (roC := none) hN ih ihY (fun h => hA h _ ih) fuel none c hS rfl hl ?_).1)
      rintro e a' w' ⟨p, hp1, E', hX, hle, hf⟩
      obtain ⟨u, k, hcase, hlv, hsub⟩ := endsA_mem hr p hp1
      have fin : ∀ m, ModeR E' u m → Slots E' (Poi p.2) p.2.tmps a' → marksDen E' p.2.marks = some a'.defers → WR E' B p.2.h w' → (∀ b ∈ p.2.pc, b.holds E'.ι) →
          LeavesInM Fence.wide 0 P fn a'.tmps (fun e w' => ∃ l E', EndR E' l.1 e ∧ l ∈ L0 ∧ Ext E B w E' l.2.1 w' ∧ ∀ b ∈ l.2.2, b.holds E'.ι) a'.defers m w' := fun m hmode hsl hmk hwr hpc =>
        leaveA_sound hN (runDefer_sound hN ih ihY (fun h => hA h _ ih) fuel) p.2.marks hlv hwr hpc hsl hmk hmode fun e2 w2 q E2 hq he hx hp2 => ⟨q, E2, he, hsub q hq, ⟨hle.trans hx.le, hx.wr, hf.trans hx.fr⟩, hp2⟩
      unfold EndX at hX
      rcases hcase with ⟨h1 | h1, rfl⟩ | ⟨v, h1, rfl⟩
      · rw [h1] at hX
        obtain ⟨rfl, hS'⟩ := hX
        exact fin .returning rfl hS'.weak.slots hS'.defers hS'.wr hS'.pc
      · rw [h1] at hX
        obtain ⟨rfl, hS'⟩ := hX
        exact fin .returning rfl hS'.weak.slots hS'.defers hS'.wr hS'.pc
      · rw [h1] at hX
        obtain ⟨x, hv, rfl, hS'⟩ := hX
        exact fin (.panicking (panicOf x)) ⟨x, hv, rfl⟩ hS'.slots hS'.defers hS'.wr hS'.pc
    · unfold runCall at hr
      split at hr
      · rename_i st pend tmps params assign body dd hbs
        split at hr
        · simp at hr
        · rename_i hlen
          simp only [Decidable.not_not] at hlen
          simp only [Option.bind_eq_bind, Option.bind_eq_some_iff] at hr
          obtain ⟨l, hl, hr⟩ := hr
          obtain ⟨fn, tmps', D, ht, hD, hget⟩ := loop_obj (P := P) hw hb hbs
          have hpm := putMany_den params.toList args tmps xs tmps' hx ht
          refine ⟨fn, ((params.toList.zip xs).foldl (fun t (p : Tmp × Value) => t.set p.1 p.2) tmps').toArray, assign, body, ?_, ?_⟩
          · have hsz : xs.toArray.size = params.size := by simp [denL_length hx, hlen]
            have hz : (params.zip xs.toArray).foldl (fun tmps (x : Tmp × Value) => tmps.setIfInBounds x.1 x.2) tmps'.toArray = ((params.toList.zip xs).foldl (fun t (p : Tmp × Value) => t.set p.1 p.2) tmps').toArray := by
              rw [← foldl_set_toArray, ← Array.foldl_toList, Array.toList_zip]
            simp only [Instr.yield, Sem.run_bind, hget, Result.andThen_ok, hsz, ne_eq, not_true_eq_false, if_false, Sem.run_pure]
            rw [← hz]
          · have hS : SR E B (fun _ => False) { tmps := putMany tmps (params.toList.zip args), h, pc } { tmps := ((params.toList.zip xs).foldl (fun t (p : Tmp × Value) => t.set p.1 p.2) tmps').toArray, defers := [] } w :=
              ⟨denL_slots hpm, rfl, hw, hp, rfl⟩
            have hro : RoRel E (some b) (some c) := ⟨c, hb, rfl⟩
            refine roundIn_of_wpIn (F := Fence.wide) trivial ((runCode_sound (ro := some b) (roC := some c) hN ih ihY (fun h => hA h _ ih) fuel none assign hS hro hl ?_).1)
            rintro e a1 w1 ⟨p, hp1, E1, hX1, hle1, hf1⟩
            obtain ⟨hnorm, pend1, tmps1, params1, assign1, body1, d1, l1, l2, hbs1, hrun1, hrnd, hsub⟩ := bodyA_mem hr p hp1
            obtain ⟨rfl, hS1⟩ := hX1.normal hnorm
            obtain ⟨w2, hbegin, hx2⟩ := beginRound_sound (P := P) hS1.wr (hle1.ρ _ _ hb) hbs1
            refine ⟨w2, hbegin, (runCode_sound (ro := some b) (roC := some c) hN ih ihY (fun h => hA h _ ih) fuel none body (hS1.ext hx2) (hro.mono hle1) hrun1 ?_).1⟩
            rintro e a3 w3 ⟨p3, hp3, E3, hX3, hle3, hf3⟩
            obtain ⟨hnp, h4, hset4, hm4⟩ := roundsA_mem hrnd p3 hp3
            have hX4 : e = p3.1.den ∧ SR E3 B (fun _ => False) p3.2 a3 w3 := by
              unfold EndX at hX3
              cases hpe : p3.1 with
              | panic v => exact absurd hpe (hnp v)
              | _ => rw [hpe] at hX3; exact hX3
            obtain ⟨rfl, hS3⟩ := hX4
            obtain ⟨w4, hend, hx4⟩ := endRound_sound (P := P) hS3.wr (hle3.ρ _ _ (hle1.ρ _ _ hb)) hset4
            have hfin : Ext E B w E3 h4 w4 := ⟨hle1.trans hle3, hx4.wr, ((hf1.trans hx2.fr).trans hf3).trans hx4.fr⟩
            have hres : ∃ v w', (Instr.endRound c (leftA p3.1)).run P w3 = .ok v w' ∧ ∃ z l E', Ending.returned v = .returned z ∧ l ∈ L ∧ l.1.den E' = some z ∧ Ext E B w E' l.2.1 w' ∧ ∀ b ∈ l.2.2, b.holds E'.ι :=
              ⟨_, w4, hend, _, _, E3, rfl, hsub _ hm4, by simp [AV.den, BE.den], hfin, hS3.pc⟩
            cases hpe : p3.1 with
            | panic v => exact absurd hpe (hnp v)
            | _ => rw [hpe] at hres; exact hres
      · cases hr

end
end Go.Sx
