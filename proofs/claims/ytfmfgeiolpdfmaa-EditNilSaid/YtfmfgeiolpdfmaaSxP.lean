/-
  A WALKER THAT COMPUTES, ITS FIFTEENTH PART: code and calls.
-/
import Derived.Test.YtfmfgeiolpdfmaaSxN
import Derived.LoopN
import Derived.Scope
namespace Go.Sx

/-- What a scope's body comes to, when it is gone into again at most so often. -/
def scopeRun (P : Program) (body : Code) (Q : Exit → Act → World → Prop) : Nat → Code → Act → World → Prop
  | 0, _, _, _ => False
  | n + 1, c, a, w => c.wp P (fun e a' w' => match e with
    | .goto l => match findLabel body l with
      | some rest => scopeRun P body Q n rest a' w'
      | none => Q (.goto l) a' w'
    | e => Q e a' w') a w

theorem wp_scope_run {P : Program} {body : Code} {Q : Exit → Act → World → Prop} {a : Act} {w : World} (n : Nat) (h : scopeRun P body Q n body a w) : (Code.scope body).wp P Q a w := by
  intro b k cs
  have key : ∀ n c a w, scopeRun P body Q n c a w → ∃ e a' w', Q e a' w' ∧ Arrives P (lone (b.at a (.code c :: .inScope body :: k)) cs w) b k cs e a' w' := by
    intro n
    induction n with
    | zero => intro c a w h; exact h.elim
    | succ n ih =>
      intro c a w h
      obtain ⟨e, a₁, w₁, hq, harr⟩ := h b (.inScope body :: k) cs
      cases e with
      | normal => exact ⟨.normal, a₁, w₁, hq, Steps.trans harr (.one step_inScope)⟩
      | exit id => exact ⟨.exit id, a₁, w₁, hq, fun k' hk => harr k' (by simp [exitTo, hk])⟩
      | goto l =>
        simp only at hq
        cases hf : findLabel body l with
        | none =>
          rw [hf] at hq
          exact ⟨.goto l, a₁, w₁, hq, fun k' hk => harr k' (by simp [gotoIn, hf, hk])⟩
        | some rest =>
          rw [hf] at hq
          obtain ⟨e₂, a₂, w₂, hq₂, harr₂⟩ := ih rest a₁ w₁ hq
          exact ⟨e₂, a₂, w₂, hq₂, .of_steps (harr _ (by simp [gotoIn, hf])) harr₂⟩
      | ret => exact ⟨_, a₁, w₁, hq, harr⟩
      | panic ch => exact ⟨_, a₁, w₁, hq, harr⟩
      | outgrown => exact ⟨_, a₁, w₁, hq, harr⟩
  obtain ⟨e, a', w', hq, harr⟩ := key n body a w h
  exact ⟨e, a', w', hq, .of_steps (.one step_scope) harr⟩

def AExit.den : AExit → Exit
  | .normal => .normal
  | .exit id => .exit id
  | .goto l => .goto l
  | .ret => .ret

section
variable {P : Program} {B : Nat}

/-- One of the ends that it may come to. -/
def AftX (E : Env) (B : Nat) (w : World) (l : List (AExit × St)) (e : Exit) (a' : Act) (w' : World) : Prop :=
  ∃ p ∈ l, e = p.1.den ∧ ∃ E', SR E' B (fun _ => False) p.2 a' w' ∧ E.Le E' ∧ Fr E E' w w'

theorem AftX.sub {E : Env} {w : World} {l l' : List (AExit × St)} {e : Exit} {a' : Act} {w' : World} (h : AftX E B w l e a' w') (hl : ∀ x ∈ l, x ∈ l') : AftX E B w l' e a' w' := by
  obtain ⟨p, hm, r⟩ := h
  exact ⟨p, hl _ hm, r⟩

theorem thenA_mem {f : St → Option (List (AExit × St))} : ∀ {l m : List (AExit × St)}, thenA f l = some m → ∀ p ∈ l, (p.1 = .normal ∧ ∃ k, f p.2 = some k ∧ ∀ y ∈ k, y ∈ m) ∨ (p.1 ≠ .normal ∧ p ∈ m)
  | [], _, _, p, hp => by cases hp
  | (.normal, σ) :: l, m, h, p, hp => by
    simp only [thenA, Option.bind_eq_bind, Option.bind_eq_some_iff, Option.pure_def, Option.some.injEq] at h
    obtain ⟨k, hk, k', hk', rfl⟩ := h
    rcases List.mem_cons.1 hp with rfl | hp
    · exact Or.inl ⟨rfl, k, hk, fun y hy => List.mem_append_left _ hy⟩
    · rcases thenA_mem hk' p hp with ⟨h1, k1, h2, h3⟩ | ⟨h1, h2⟩
      · exact Or.inl ⟨h1, k1, h2, fun y hy => List.mem_append_right _ (h3 y hy)⟩
      · exact Or.inr ⟨h1, List.mem_append_right _ h2⟩
  | (.exit i, σ) :: l, m, h, p, hp => by
    simp only [thenA, Option.bind_eq_bind, Option.bind_eq_some_iff, Option.pure_def, Option.some.injEq] at h
    obtain ⟨k', hk', rfl⟩ := h
    rcases List.mem_cons.1 hp with rfl | hp
    · exact Or.inr ⟨by simp, List.mem_cons_self⟩
    · rcases thenA_mem hk' p hp with ⟨h1, k1, h2, h3⟩ | ⟨h1, h2⟩
      · exact Or.inl ⟨h1, k1, h2, fun y hy => List.mem_cons_of_mem _ (h3 y hy)⟩
      · exact Or.inr ⟨h1, List.mem_cons_of_mem _ h2⟩
  | (.goto i, σ) :: l, m, h, p, hp => by
    simp only [thenA, Option.bind_eq_bind, Option.bind_eq_some_iff, Option.pure_def, Option.some.injEq] at h
    obtain ⟨k', hk', rfl⟩ := h
    rcases List.mem_cons.1 hp with rfl | hp
    · exact Or.inr ⟨by simp, List.mem_cons_self⟩
    · rcases thenA_mem hk' p hp with ⟨h1, k1, h2, h3⟩ | ⟨h1, h2⟩
      · exact Or.inl ⟨h1, k1, h2, fun y hy => List.mem_cons_of_mem _ (h3 y hy)⟩
      · exact Or.inr ⟨h1, List.mem_cons_of_mem _ h2⟩
  | (.ret, σ) :: l, m, h, p, hp => by
    simp only [thenA, Option.bind_eq_bind, Option.bind_eq_some_iff, Option.pure_def, Option.some.injEq] at h
    obtain ⟨k', hk', rfl⟩ := h
    rcases List.mem_cons.1 hp with rfl | hp
    · exact Or.inr ⟨by simp, List.mem_cons_self⟩
    · rcases thenA_mem hk' p hp with ⟨h1, k1, h2, h3⟩ | ⟨h1, h2⟩
      · exact Or.inl ⟨h1, k1, h2, fun y hy => List.mem_cons_of_mem _ (h3 y hy)⟩
      · exact Or.inr ⟨h1, List.mem_cons_of_mem _ h2⟩

theorem gotoA_mem {body : Code} {f : Code → St → Option (List (AExit × St))} : ∀ {l m : List (AExit × St)}, gotoA body f l = some m → ∀ p ∈ l,
    (∃ i c k, p.1 = .goto i ∧ findLabel body i = some c ∧ f c p.2 = some k ∧ ∀ y ∈ k, y ∈ m) ∨ ((∀ i, p.1 = .goto i → findLabel body i = none) ∧ p ∈ m)
  | [], _, _, p, hp => by cases hp
  | (.goto i, σ) :: l, m, h, p, hp => by
    simp only [gotoA] at h
    split at h
    · rename_i c hc
      simp only [Option.bind_eq_bind, Option.bind_eq_some_iff, Option.pure_def, Option.some.injEq] at h
      obtain ⟨k, hk, k', hk', rfl⟩ := h
      rcases List.mem_cons.1 hp with rfl | hp
      · exact Or.inl ⟨i, c, k, rfl, hc, hk, fun y hy => List.mem_append_left _ hy⟩
      · rcases gotoA_mem hk' p hp with ⟨i1, c1, k1, h1, h2, h3, h4⟩ | ⟨h1, h2⟩
        · exact Or.inl ⟨i1, c1, k1, h1, h2, h3, fun y hy => List.mem_append_right _ (h4 y hy)⟩
        · exact Or.inr ⟨h1, List.mem_append_right _ h2⟩
    · rename_i hc
      simp only [Option.bind_eq_bind, Option.bind_eq_some_iff, Option.pure_def, Option.some.injEq] at h
      obtain ⟨k', hk', rfl⟩ := h
      rcases List.mem_cons.1 hp with rfl | hp
      · exact Or.inr ⟨fun j hj => by injection hj with hj; subst hj; exact hc, List.mem_cons_self⟩
      · rcases gotoA_mem hk' p hp with ⟨i1, c1, k1, h1, h2, h3, h4⟩ | ⟨h1, h2⟩
        · exact Or.inl ⟨i1, c1, k1, h1, h2, h3, fun y hy => List.mem_cons_of_mem _ (h4 y hy)⟩
        · exact Or.inr ⟨h1, List.mem_cons_of_mem _ h2⟩
  | (.normal, σ) :: l, m, h, p, hp => by
    simp only [gotoA, Option.bind_eq_bind, Option.bind_eq_some_iff, Option.pure_def, Option.some.injEq] at h
    obtain ⟨k', hk', rfl⟩ := h
    rcases List.mem_cons.1 hp with rfl | hp
    · exact Or.inr ⟨fun j hj => by simp at hj, List.mem_cons_self⟩
    · rcases gotoA_mem hk' p hp with ⟨i1, c1, k1, h1, h2, h3, h4⟩ | ⟨h1, h2⟩
      · exact Or.inl ⟨i1, c1, k1, h1, h2, h3, fun y hy => List.mem_cons_of_mem _ (h4 y hy)⟩
      · exact Or.inr ⟨h1, List.mem_cons_of_mem _ h2⟩
  | (.exit i, σ) :: l, m, h, p, hp => by
    simp only [gotoA, Option.bind_eq_bind, Option.bind_eq_some_iff, Option.pure_def, Option.some.injEq] at h
    obtain ⟨k', hk', rfl⟩ := h
    rcases List.mem_cons.1 hp with rfl | hp
    · exact Or.inr ⟨fun j hj => by simp at hj, List.mem_cons_self⟩
    · rcases gotoA_mem hk' p hp with ⟨i1, c1, k1, h1, h2, h3, h4⟩ | ⟨h1, h2⟩
      · exact Or.inl ⟨i1, c1, k1, h1, h2, h3, fun y hy => List.mem_cons_of_mem _ (h4 y hy)⟩
      · exact Or.inr ⟨h1, List.mem_cons_of_mem _ h2⟩
  | (.ret, σ) :: l, m, h, p, hp => by
    simp only [gotoA, Option.bind_eq_bind, Option.bind_eq_some_iff, Option.pure_def, Option.some.injEq] at h
    obtain ⟨k', hk', rfl⟩ := h
    rcases List.mem_cons.1 hp with rfl | hp
    · exact Or.inr ⟨fun j hj => by simp at hj, List.mem_cons_self⟩
    · rcases gotoA_mem hk' p hp with ⟨i1, c1, k1, h1, h2, h3, h4⟩ | ⟨h1, h2⟩
      · exact Or.inl ⟨i1, c1, k1, h1, h2, h3, fun y hy => List.mem_cons_of_mem _ (h4 y hy)⟩
      · exact Or.inr ⟨h1, List.mem_cons_of_mem _ h2⟩

def AExit.out (id : Nat) : AExit → AExit
  | .exit i => if i = id then .normal else .exit i
  | x => x

theorem inBlockA_mem {id : Nat} : ∀ {l : List (AExit × St)}, ∀ p ∈ l, (p.1.out id, p.2) ∈ inBlockA id l
  | [], p, hp => by cases hp
  | (x, σ) :: l, p, hp => by
    rcases List.mem_cons.1 hp with rfl | hp
    · cases x with
      | exit i =>
        simp only [inBlockA, AExit.out]
        by_cases hi : i = id
        · rw [if_pos hi, if_pos hi]; exact List.mem_cons_self
        · rw [if_neg hi, if_neg hi]; exact List.mem_cons_self
      | normal => exact List.mem_cons_self
      | goto l => exact List.mem_cons_self
      | ret => exact List.mem_cons_self
    · have := inBlockA_mem (id := id) p hp
      cases x <;> simp only [inBlockA] <;> exact List.mem_cons_of_mem _ this

/-- What the walker says of regions whose order is drawn holds. -/
def AnyOk (P : Program) (call : CallF) (B : Nat) : Prop :=
  ∀ (id : Nat) (ops : Array Oper) (E : Env) (σ : St) (a : Act) (w : World) (l : List St) (Q : Exit → Act → World → Prop), Region.noSelect ops = true → SR E B (fun _ => False) σ a w →
    runAny P call ops (ops.size + 1) (Array.replicate ops.size false) [] [] σ = some l → (∀ a' w', Aft E B (fun _ => False) w l a' w' → Q .normal a' w') → (Code.region id ops true).wp P Q a w

theorem aftX_normal {E : Env} {w : World} {l : List St} {a' : Act} {w' : World} (h : Aft E B (fun _ => False) w l a' w') : AftX E B w (l.map fun σ => (.normal, σ)) .normal a' w' := by
  obtain ⟨σ', hm, E', hS, hle, hf⟩ := h
  exact ⟨(.normal, σ'), List.mem_map.2 ⟨σ', hm, rfl⟩, rfl, E', hS, hle, hf⟩

theorem runCode_sound {dr : Bool} {call : CallF} (hN : plainNames P = true) (hC : CallOk P call B) (hA : dr = true → AnyOk P call B) : ∀ (n : Nat) (sc : Option Code) (c : Code) {E : Env} {σ : St} {a : Act} {w : World} {l : List (AExit × St)} {Q : Exit → Act → World → Prop},
    SR E B (fun _ => False) σ a w → runCode P dr call n sc c σ = some l → (∀ e a' w', AftX E B w l e a' w' → Q e a' w') →
      match sc with
      | some body => scopeRun P body Q n c a w
      | none => c.wp P Q a w ∧ ∀ c', c = .loop c' → Code.rounds P c' Q n a w
  | 0, _, _, _, _, _, _, _, _, _, h, _ => by simp [runCode] at h
  | n + 1, some body, c, E, σ, a, w, l, Q, hS, h, hQ => by
    simp only [runCode, Option.bind_eq_bind, Option.bind_eq_some_iff] at h
    obtain ⟨l1, h1, h2⟩ := h
    refine (runCode_sound hN hC hA n none c hS h1 ?_).1
    rintro e a' w' ⟨p, hp, rfl, E', hS', hle, hf⟩
    rcases gotoA_mem h2 p hp with ⟨i, c', k, hi, hfl, hk, hkl⟩ | ⟨hno, hm⟩
    · rw [hi]
      simp only [AExit.den, hfl]
      refine runCode_sound hN hC hA n (some body) c' hS' hk ?_
      rintro e2 a2 w2 ⟨p2, hp2, rfl, E2, hS2, hle2, hf2⟩
      exact hQ _ _ _ ⟨p2, hkl _ hp2, rfl, E2, hS2, hle.trans hle2, hf.trans hf2⟩
    · have hq := hQ p.1.den a' w' ⟨p, hm, rfl, E', hS', hle, hf⟩
      cases hx : p.1 with
      | goto i =>
        rw [hx] at hq
        simp only [AExit.den, hno i hx]
        exact hq
      | normal => rw [hx] at hq; exact hq
      | exit i => rw [hx] at hq; exact hq
      | ret => rw [hx] at hq; exact hq
  | n + 1, none, c, E, σ, a, w, l, Q, hS, h, hQ => by
    have self : ∀ x, AftX E B w [(x, σ)] x.den a w := fun x => ⟨(x, σ), List.mem_singleton.2 rfl, rfl, E, hS, .refl E, .refl E w⟩
    cases c with
    | skip =>
      simp only [runCode, Option.some.injEq] at h
      subst h
      exact ⟨wp_skip (hQ _ _ _ (self .normal)), fun c' hc => by cases hc⟩
    | label i =>
      simp only [runCode, Option.some.injEq] at h
      subst h
      exact ⟨wp_label (hQ _ _ _ (self .normal)), fun c' hc => by cases hc⟩
    | exit i =>
      simp only [runCode, Option.some.injEq] at h
      subst h
      exact ⟨wp_exit (hQ _ _ _ (self (.exit i))), fun c' hc => by cases hc⟩
    | goto i =>
      simp only [runCode, Option.some.injEq] at h
      subst h
      exact ⟨wp_goto (hQ _ _ _ (self (.goto i))), fun c' hc => by cases hc⟩
    | ret =>
      simp only [runCode, Option.some.injEq] at h
      subst h
      exact ⟨wp_ret (hQ _ _ _ (self .ret)), fun c' hc => by cases hc⟩
    | region id ops d =>
      refine ⟨?_, fun c' hc => by cases hc⟩
      cases d with
      | false =>
        simp only [runCode, Option.map_eq_some_iff] at h
        obtain ⟨l1, h1, rfl⟩ := h
        exact wp_region_list (runOps_sound hN hC _ hS h1 fun a' w' hx => hQ _ _ _ (aftX_normal hx))
      | true =>
        simp only [runCode] at h
        split at h
        · rename_i hd
          simp only [Bool.and_eq_true] at hd
          simp only [Option.map_eq_some_iff] at h
          obtain ⟨l1, h1, rfl⟩ := h
          exact hA hd.1 id ops E σ a w l1 Q hd.2 hS h1 fun a' w' hx => hQ _ _ _ (aftX_normal hx)
        · cases h
    | seq x y =>
      refine ⟨?_, fun c' hc => by cases hc⟩
      simp only [runCode, Option.bind_eq_bind, Option.bind_eq_some_iff] at h
      obtain ⟨l1, h1, h2⟩ := h
      refine wp_seq (runCode_sound hN hC hA n none x hS h1 ?_).1
      rintro e a' w' ⟨p, hp, rfl, E', hS', hle, hf⟩
      rcases thenA_mem h2 p hp with ⟨hx, k, hk, hkl⟩ | ⟨hx, hm⟩
      · rw [hx]
        refine (runCode_sound hN hC hA n none y hS' hk ?_).1
        rintro e2 a2 w2 ⟨p2, hp2, rfl, E2, hS2, hle2, hf2⟩
        exact hQ _ _ _ ⟨p2, hkl _ hp2, rfl, E2, hS2, hle.trans hle2, hf.trans hf2⟩
      · have hq := hQ p.1.den a' w' ⟨p, hm, rfl, E', hS', hle, hf⟩
        cases hx' : p.1 with
        | normal => exact absurd hx' hx
        | goto i => rw [hx'] at hq; exact hq
        | exit i => rw [hx'] at hq; exact hq
        | ret => rw [hx'] at hq; exact hq
    | cond t x y =>
      refine ⟨?_, fun c' hc => by cases hc⟩
      simp only [runCode, Option.bind_eq_bind, Option.bind_eq_some_iff] at h
      obtain ⟨p, hp, h⟩ := h
      split at h
      · rename_i b
        have hb := denBool (opnd_den hS.slots (clear_none t) hp)
        obtain ⟨σ', l', hS', hl, hr⟩ := split_sound hS h
        rcases hr with ⟨hb', hr⟩ | ⟨hb', hr⟩
        · exact wp_cond_true (by rw [hb, hb']) (runCode_sound hN hC hA n none x hS' hr fun e a' w' hx => hQ _ _ _ (hx.sub hl)).1
        · exact wp_cond_false (by rw [hb, hb']) (runCode_sound hN hC hA n none y hS' hr fun e a' w' hx => hQ _ _ _ (hx.sub hl)).1
      · cases h
    | block id c =>
      refine ⟨?_, fun c' hc => by cases hc⟩
      simp only [runCode, Option.map_eq_some_iff] at h
      obtain ⟨l1, h1, rfl⟩ := h
      refine wp_block (runCode_sound hN hC hA n none c hS h1 ?_).1
      rintro e a' w' ⟨p, hp, rfl, E', hS', hle, hf⟩
      have hm := inBlockA_mem (id := id) p hp
      have hq : ∀ {e}, e = (p.1.out id).den → Q e a' w' := fun hx => hQ _ a' w' ⟨_, hm, hx, E', hS', hle, hf⟩
      cases hx' : p.1 with
      | exit i =>
        simp only [AExit.den, Exit.inBlock]
        by_cases hi : i = id
        · rw [if_pos hi]; exact hq (by simp [hx', AExit.out, AExit.den, hi])
        · rw [if_neg hi]; exact hq (by simp [hx', AExit.out, AExit.den, hi])
      | normal => exact hq (by simp [hx', AExit.out, AExit.den])
      | goto i => exact hq (by simp [hx', AExit.out, AExit.den])
      | ret => exact hq (by simp [hx', AExit.out, AExit.den])
    | loop c =>
      simp only [runCode, Option.bind_eq_bind, Option.bind_eq_some_iff] at h
      obtain ⟨l1, h1, h2⟩ := h
      have hr : Code.rounds P c Q (n + 1) a w := by
        rw [rounds_succ]
        refine (runCode_sound hN hC hA n none c hS h1 ?_).1
        rintro e a' w' ⟨p, hp, rfl, E', hS', hle, hf⟩
        rcases thenA_mem h2 p hp with ⟨hx, k, hk, hkl⟩ | ⟨hx, hm⟩
        · rw [hx]
          refine (runCode_sound hN hC hA n none (.loop c) hS' hk ?_).2 c rfl
          rintro e2 a2 w2 ⟨p2, hp2, rfl, E2, hS2, hle2, hf2⟩
          exact hQ _ _ _ ⟨p2, hkl _ hp2, rfl, E2, hS2, hle.trans hle2, hf.trans hf2⟩
        · have hq := hQ p.1.den a' w' ⟨p, hm, rfl, E', hS', hle, hf⟩
          cases hx' : p.1 with
          | normal => exact absurd hx' hx
          | goto i => rw [hx'] at hq; exact hq
          | exit i => rw [hx'] at hq; exact hq
          | ret => rw [hx'] at hq; exact hq
      exact ⟨wp_loop_rounds (n + 1) hr, fun c' hc => by injection hc with hc; subst hc; exact hr⟩
    | scope c =>
      refine ⟨?_, fun c' hc => by cases hc⟩
      simp only [runCode] at h
      exact wp_scope_run n (runCode_sound hN hC hA n (some c) c hS h hQ)
    | _ => simp [runCode] at h

/-! ### Results -/

theorem run_mapM {α β : Type} {f : α → Sem β} {w : World} : ∀ (l : List α) (vals : List β), vals.length = l.length → (∀ (k : Nat) (x : α) (v : β), l[k]? = some x → vals[k]? = some v → (f x).run P w = .ok v w) →
    (l.mapM f).run P w = .ok vals w
  | [], [], _, _ => rfl
  | x :: l, v :: vals, hl, h => by
    rw [List.mapM_cons]
    simp only [Sem.run_bind]
    rw [h 0 x v rfl rfl, Result.andThen_ok, run_mapM l vals (by simpa using hl) (fun k y u h1 h2 => h (k + 1) y u (by simpa using h1) (by simpa using h2))]
    rfl
  | [], _ :: _, hl, _ => by simp at hl
  | _ :: _, [], hl, _ => by simp at hl

theorem resultsL_den {E : Env} {σ : St} {a : Act} {w : World} (hS : SR E B (fun _ => False) σ a w) : ∀ {rs : List ResultVar} {l : List AV}, resultsL P σ rs = some l →
    ∃ m, AV.denL E l = some m ∧ m.length = rs.length ∧ ∀ (k : Nat) (r : ResultVar) (v : Value), rs[k]? = some r → m[k]? = some v → (match r with
      | .tmp t => (pure (a.tmps.getD t undef) : Sem Value)
      | .cell x t => do loadVar t (← asAddr (a.tmps.getD x undef))).run P w = .ok v w
  | [], l, h => by
    simp only [resultsL, Option.some.injEq] at h
    subst h
    exact ⟨[], by simp [AV.denL], rfl, fun k r v hk => by simp at hk⟩
  | r :: rs, l, h => by
    simp only [resultsL, Option.bind_eq_bind, Option.bind_eq_some_iff, Option.pure_def, Option.some.injEq] at h
    obtain ⟨v, hv, l', hl', rfl⟩ := h
    obtain ⟨m, hm, hlen, hall⟩ := resultsL_den hS hl'
    have h1 : ∃ z, v.den E = some z ∧ (match r with
      | .tmp t => (pure (a.tmps.getD t undef) : Sem Value)
      | .cell x t => do loadVar t (← asAddr (a.tmps.getD x undef))).run P w = .ok z w := by
      unfold result1 at hv
      cases r with
      | tmp t =>
        obtain ⟨x, hx, hax⟩ := hS.slots.2 t v (fun h => h) hv
        exact ⟨x, hx, by simp [hax]⟩
      | cell x t =>
        simp only [Option.bind_eq_bind, Option.bind_eq_some_iff] at hv
        obtain ⟨u, hu, hv⟩ := hv
        split at hv
        · rename_i b o
          obtain ⟨y, hy, hay⟩ := hS.slots.2 x _ (fun h => h) hu
          obtain ⟨c, hc, rfl⟩ := denPtr hy
          obtain ⟨z, hz, hrun⟩ := loadV_sound (P := P) hS.wr hc hv
          exact ⟨z, hz, by simp [hay, asAddr, hrun]⟩
        · cases hv
    obtain ⟨z, hz, hrun⟩ := h1
    refine ⟨z :: m, denL_cons.2 ⟨z, m, hz, hm, rfl⟩, by simp [hlen], fun k r' v' hk hm' => ?_⟩
    cases k with
    | zero =>
      simp only [List.getElem?_cons_zero, Option.some.injEq] at hk hm'
      subst hk hm'
      exact hrun
    | succ k =>
      simp only [List.getElem?_cons_succ] at hk hm'
      exact hall k r' v' hk hm'

theorem resultsA_sound {fn : Func} {E : Env} {σ : St} {a : Act} {w : World} {v : AV} (hS : SR E B (fun _ => False) σ a w) (h : resultsA P fn σ = some v) :
    ∃ z, v.den E = some z ∧ (results fn a.tmps).run P w = .ok z w := by
  unfold resultsA at h
  simp only [Option.bind_eq_bind, Option.bind_eq_some_iff] at h
  obtain ⟨l, hl, h⟩ := h
  obtain ⟨m, hm, hlen, hall⟩ := resultsL_den hS hl
  have hlen' : m.length = fn.results.size := by simpa using hlen
  have hrun := run_mapM (P := P) (w := w) fn.results.toList m hlen hall
  have hres : ∀ z, z = (if h : m.toArray.size = 1 then m.toArray[0] else Value.tuple m.toArray) → (results fn a.tmps).run P w = .ok z w := by
    intro z hz
    subst hz
    unfold results
    rw [Array.mapM_eq_mapM_toList, map_eq_pure_bind]
    simp only [Sem.run_bind]
    erw [hrun]
    rfl
  have hll := denL_length hm
  split at h
  · rename_i u
    simp only [Option.pure_def, Option.some.injEq] at h
    subst h
    obtain ⟨x, r, hx, hr, rfl⟩ := denL_cons.1 hm
    simp only [AV.denL, Option.some.injEq] at hr
    subst hr
    exact ⟨x, hx, hres _ (by simp)⟩
  · rename_i hne
    simp only [Option.pure_def, Option.some.injEq] at h
    subst h
    refine ⟨.tuple m.toArray, by simp [AV.den, hm], hres _ ?_⟩
    rw [dif_neg]
    intro h1
    have : l.length = 1 := by rw [← hll]; simpa using h1
    obtain ⟨x, rfl⟩ := List.length_eq_one_iff.1 this
    exact hne x rfl

theorem endsA_mem {fn : Func} : ∀ {l : List (AExit × St)} {L : List (AV × Hp × List BE)}, endsA P fn l = some L → ∀ p ∈ l, (p.1 = .normal ∨ p.1 = .ret) ∧ ∃ v, resultsA P fn p.2 = some v ∧ (v, p.2.h, p.2.pc) ∈ L
  | [], _, _, p, hp => by cases hp
  | (.normal, σ) :: l, L, h, p, hp => by
    simp only [endsA, Option.bind_eq_bind, Option.bind_eq_some_iff, Option.pure_def, Option.some.injEq] at h
    obtain ⟨v, hv, L', hL', rfl⟩ := h
    rcases List.mem_cons.1 hp with rfl | hp
    · exact ⟨Or.inl rfl, v, hv, List.mem_cons_self⟩
    · obtain ⟨h1, v', h2, h3⟩ := endsA_mem hL' p hp
      exact ⟨h1, v', h2, List.mem_cons_of_mem _ h3⟩
  | (.ret, σ) :: l, L, h, p, hp => by
    simp only [endsA, Option.bind_eq_bind, Option.bind_eq_some_iff, Option.pure_def, Option.some.injEq] at h
    obtain ⟨v, hv, L', hL', rfl⟩ := h
    rcases List.mem_cons.1 hp with rfl | hp
    · exact ⟨Or.inr rfl, v, hv, List.mem_cons_self⟩
    · obtain ⟨h1, v', h2, h3⟩ := endsA_mem hL' p hp
      exact ⟨h1, v', h2, List.mem_cons_of_mem _ h3⟩
  | (.exit i, σ) :: l, L, h, p, hp => by simp [endsA] at h
  | (.goto i, σ) :: l, L, h, p, hp => by simp [endsA] at h

theorem runCall_sound {dr : Bool} (hN : plainNames P = true) (fuel : Nat) (hA : dr = true → ∀ call, CallOk P call B → AnyOk P call B) : ∀ d, CallOk P (runCall P dr fuel d) B
  | 0 => fun f args h pc L hr => by simp [runCall] at hr
  | d + 1 => fun f args h pc L hr E w xs hw hp hx => by
    have ih := runCall_sound hN fuel hA d
    simp only [runCall, Option.bind_eq_bind, Option.bind_eq_some_iff] at hr
    obtain ⟨fn, hfn, c, hc, l, hl, hr⟩ := hr
    have hS : SR E B (fun _ => False) ⟨args ++ List.replicate (fn.ntmps - args.length) undefA, h, pc⟩ { tmps := xs.toArray ++ Array.replicate (fn.ntmps - xs.toArray.size) undef, defers := [] } w := by
      have hd := denL_append hx (denL_replicate (undefA_den E) (fn.ntmps - args.length))
      have hln := denL_length hx
      refine ⟨⟨by simp [hln], fun t v _ hv => ?_⟩, rfl, hw, hp⟩
      obtain ⟨x, h1, h2⟩ := denL_get hd t v hv
      refine ⟨x, h1, ?_⟩
      rw [← h2, ← hln, ← Array.getElem?_toList]
      simp
    refine calls_of_wp hfn hc (runCode_sound hN ih (fun h => hA h _ ih) fuel none c hS hl ?_).1
    rintro e a' w' ⟨p, hp, rfl, E', hS', hle, hf⟩
    obtain ⟨h1, v, hv, hm⟩ := endsA_mem hr p hp
    obtain ⟨z, hz, hrun⟩ := resultsA_sound hS' hv
    have hR : ∃ z' l E', Ending.returned z = .returned z' ∧ l ∈ L ∧ l.1.den E' = some z' ∧ Ext E B w E' l.2.1 w' ∧ ∀ b ∈ l.2.2, b.den E'.ι = true :=
      ⟨z, _, E', rfl, hm, hz, ⟨hle, hS'.wr, hf⟩, hS'.pc⟩
    rcases h1 with h1 | h1 <;> rw [h1] <;> exact ⟨hS'.defers, z, hrun, hR⟩

end
end Go.Sx
