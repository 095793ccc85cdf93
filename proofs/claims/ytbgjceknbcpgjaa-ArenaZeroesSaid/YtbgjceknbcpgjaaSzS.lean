/-
  A WALKER THAT COMPUTES: regions whose order is drawn, whichever order it is.
-/
import Derived.Test.YtbgjceknbcpgjaaSzQ
namespace Go.Sx

section
variable {P : Program} {ops : Array Oper} {B : Bd} {E0 E : Env} {w0 w : World} {σ : St} {LA LC : Array Bool} {El : List (Nat × Nat)} {a : Act}

theorem apart2_symm {i j : Nat} (h : apart2 ops i j = true) : apart2 ops j i = true := by
  unfold apart2 at h ⊢
  cases hi : ops[i]? with
  | none => simp [hi] at h
  | some x =>
    cases hj : ops[j]? with
    | none => simp [hi, hj] at h
    | some y =>
      simp only [hi, hj, Bool.and_eq_true] at h ⊢
      exact ⟨h.2, h.1⟩

theorem allApart_spec : ∀ {l : List Nat}, allApart ops l = true → ∀ x ∈ l, ∀ y ∈ l, x ≠ y → apart2 ops x y = true
  | [], _, x, hx => by cases hx
  | i :: l, h, x, hx0 => by
    simp only [allApart, Bool.and_eq_true, List.all_eq_true] at h
    intro y hy0 hne
    rcases List.mem_cons.1 hx0 with hx | hx <;> rcases List.mem_cons.1 hy0 with hy | hy
    · exact absurd (hx.trans hy.symm) hne
    · exact hx ▸ h.1 y hy
    · exact hy ▸ apart2_symm (h.1 x hx)
    · exact allApart_spec h.2 x hx y hy hne

theorem slots_nil {tmps : List AV} (h : Slots E (Ds ops []) tmps a) : Slots E (fun _ => False) tmps a :=
  ⟨h.1, fun t v _ hq hv => h.2 t v (fun ⟨_, hp, _⟩ => by cases hp) hq hv⟩

theorem sc_both {C C' : Facts} : SC (C ++ C') w ↔ SC C w ∧ SC C' w :=
  ⟨fun h => ⟨fun p hp => h p (List.mem_append_left _ hp), fun p hp => h p (List.mem_append_right _ hp)⟩, fun ⟨h1, h2⟩ p hp => (List.mem_append.1 hp).elim (h1 p) (h2 p)⟩

theorem un_pos (hI : Inv P ops B E0 w0 E σ LA El a w LC) {i : Nat} (hi : i ∈ Region.ready .any ops LC) {fuel : Nat} (hu : un LC ≤ fuel) : ∃ f, fuel = f + 1 ∧ un (LC.setIfInBounds i true) ≤ f := by
  have h := un_set (mem_ready.1 hi).1
  have _ := hI.sC
  exact ⟨fuel - 1, by omega, by omega⟩

theorem early_step (hI : Inv P ops B E0 w0 E σ LA El a w LC) (hsel : Region.noSelect ops = true) {j : Nat} (hl : lays P ops σ j = true) (hr : j ∈ Region.ready .any ops LA) (hap : ∀ p ∈ El, apart2 ops j p.1 = true) (hnj : ∀ p ∈ El, p.1 ≠ j)
    {T : TC} (hS : ST T LC w) {K : Act → World → Prop} {Q : Exit → Act → World → Prop} (hK : ∀ a' w' q, q.1 = j → ST T (LC.setIfInBounds j true) w' → Inv P ops B E0 w0 E σ LA (q :: El) a' w' (LC.setIfInBounds j true) → K a' w') : wpOp P ops Q j K a w := by
  obtain ⟨o, d, h1, h2, h3, h4, h5, h6⟩ := lays_spec hl
  obtain ⟨c1, c2⟩ := clear_apart h1 hap
  have hw := gate_sound hI.sr c2 h3
  obtain ⟨x, obj, w', hrun, hlaid⟩ : ∃ x obj w', (execOp a.eval o).run P w = .ok (.value x) w' ∧ Laid w obj w' := by
    rcases h4 with ⟨v, ob, n, h4⟩ | ⟨v, ob, h4⟩
    · obtain ⟨x, obj, ks, w', hrun, hlaid, _, _⟩ := allocN_sound hI.sr.wr.giv.rules (holds_den hI.sr.pc) hI.sr.slots c1 h4 w
      exact ⟨x, obj, w', hrun, hlaid⟩
    · obtain ⟨t, n, e, _, _, _, _, _, hr⟩ := layT_run hI.sr.wr.giv.rules (holds_den hI.sr.pc) hI.sr.slots c1 h4
      obtain ⟨cap, _, hrun⟩ := hr w
      exact ⟨_, _, _, hrun, Or.inr rfl⟩
  unfold wpOp
  simp only [h1]
  rw [if_pos hw]
  refine Or.inl ?_
  unfold Oper.wp
  rw [hrun]
  exact hK _ _ (j, w.heap.size) rfl (fun t ht hn => ((hS.later fun k hk => getD_set_true hk) t ht hn).keep (laid_facts hlaid).2.2.1) (hI.early hsel h1 h2 h5 h6 hr hap hnj hrun hlaid)

/-- Each of them waits for it, or for another one of them; none has come up. -/
def Behind (ops : Array Oper) (L : Array Bool) (i : Nat) (V : List Nat) : Prop :=
  ∀ j ∈ V, L.getD j true = false ∧ ∀ oj, ops[j]? = some oj → ∃ e ∈ oj.after, Region.binds .any e = true ∧ (e.on = i ∨ e.on ∈ V)

theorem behind_sound {L : Array Bool} {i : Nat} : ∀ (l V : List Nat), Behind ops L i V → Behind ops L i (behind ops L i l V)
  | [], V, h => h
  | j :: r, V, h => by
    unfold behind
    split
    · rename_i o ho
      split
      · rename_i hc
        simp only [Bool.and_eq_true, Bool.not_eq_true'] at hc
        refine behind_sound r _ fun k hk => ?_
        rcases List.mem_cons.1 hk with rfl | hk
        · refine ⟨hc.1, fun oj hoj => ?_⟩
          rw [ho] at hoj
          injection hoj with hoj
          subst hoj
          obtain ⟨e, he, hb⟩ := Array.any_eq_true'.1 hc.2
          simp only [Bool.and_eq_true, Bool.or_eq_true, beq_iff_eq, List.contains_iff_mem] at hb
          exact ⟨e, he, hb.1, hb.2.imp id (List.mem_cons_of_mem _)⟩
        · obtain ⟨h1, h2⟩ := h k hk
          refine ⟨h1, fun oj hoj => ?_⟩
          obtain ⟨e, he, hb, ho'⟩ := h2 oj hoj
          exact ⟨e, he, hb, ho'.imp id (List.mem_cons_of_mem _)⟩
      · exact behind_sound r V h
    · exact behind_sound r V h

theorem waiters_behind {L : Array Bool} {i j : Nat} (h : j ∈ waiters ops L i) : j ∈ behind ops L i (List.range ops.size) [] := (List.mem_filter.1 h).1

theorem behind_all {L : Array Bool} {i : Nat} : Behind ops L i (behind ops L i (List.range ops.size) []) := behind_sound _ _ (fun j hj => by cases hj)

/-- Two activations that differ at most in what a region's operations set. -/
def Agree (ops : Array Oper) (a a2 : Act) : Prop :=
  a2.defers = a.defers ∧ a2.tmps.size = a.tmps.size ∧ ∀ t : Nat, (∀ (i : Nat) (o : Oper), ops[i]? = some o → o.dst ≠ some t) → a2.tmps[t]? = a.tmps[t]?

theorem Agree.put {a a2 : Act} {i : Nat} {o : Oper} (ho : ops[i]? = some o) (v : Value) (h : Agree ops a a2) : Agree ops (a.put o.dst v) a2 := by
  obtain ⟨h1, h2, h3⟩ := h
  refine ⟨by rw [Act.put_defers]; exact h1, ?_, fun t ht => ?_⟩
  · cases hd : o.dst with
    | none => exact h2
    | some d => simp only [Act.put, Array.size_setIfInBounds]; exact h2
  · rw [h3 t ht, put_other o.dst (ht i o ho)]

theorem spoilT_length : ∀ (l : List Oper) (t : List AV), (spoilT l t).length = t.length
  | [], _ => rfl
  | o :: r, t => by
    simp only [spoilT]
    rw [spoilT_length]
    cases o.dst <;> simp

theorem spoilT_get : ∀ (l : List Oper) (t : List AV) (d : Nat), (spoilT l t)[d]? = t[d]? ∨ ((∃ o ∈ l, o.dst = some d) ∧ ∀ u, (spoilT l t)[d]? = some u → u = .poison)
  | [], _, _ => Or.inl rfl
  | o :: r, t, d => by
    simp only [spoilT]
    rcases spoilT_get r (match o.dst with | some d => t.set d .poison | none => t) d with h | ⟨⟨o', ho', hd'⟩, h⟩
    · cases hd : o.dst with
      | none => rw [hd] at h; exact Or.inl h
      | some d' =>
        rw [hd] at h
        simp only at h
        by_cases he : d' = d
        · subst he
          refine Or.inr ⟨⟨o, List.mem_cons_self, hd⟩, fun u hu => ?_⟩
          rw [h, List.getElem?_set] at hu
          rw [if_pos rfl] at hu
          split at hu
          · injection hu with hu; exact hu.symm
          · cases hu
        · rw [List.getElem?_set_ne he] at h
          exact Or.inl h
    · exact Or.inr ⟨⟨o', List.mem_cons_of_mem _ ho', hd'⟩, h⟩

theorem spoilT_poison : ∀ (l : List Oper) (t : List AV) (d : Nat), (∃ o ∈ l, o.dst = some d) → ∀ u, (spoilT l t)[d]? = some u → u = .poison
  | [], _, _, ⟨o, ho, _⟩ => by cases ho
  | o :: r, t, d, ⟨o', ho', hd'⟩ => by
    intro u hu
    simp only [spoilT] at hu
    rcases List.mem_cons.1 ho' with rfl | ho'
    · rw [hd'] at hu
      simp only at hu
      rcases spoilT_get r (t.set d .poison) d with h | ⟨_, h⟩
      · rw [h, List.getElem?_set, if_pos rfl] at hu
        split at hu
        · injection hu with hu; exact hu.symm
        · cases hu
      · exact h u hu
    · exact spoilT_poison r _ d ⟨o', ho', hd'⟩ u hu

/-- What a region left by a panic says. -/
def PReg (ops : Array Oper) (E : Env) (B : Bd) (w : World) (l : List St) (x : Value) (a' : Act) (w' : World) : Prop :=
  ∃ σ' ∈ l, ∃ v E', σ'.pan = some v ∧ v.den E' = some x ∧ SR E' B (Poi σ') { σ' with pan := none } a' w' ∧ E.Le E' ∧ Fr E E' w w' ∧ ∀ (i : Nat) (o : Oper) (d : Nat), ops[i]? = some o → o.dst = some d → ∀ u, σ'.tmps[d]? = some u → u = .poison

theorem PReg.sub {E : Env} {w w' : World} {l l' : List St} {x : Value} {a' : Act} (h : PReg ops E B w l x a' w') (hl : ∀ x ∈ l, x ∈ l') : PReg ops E B w l' x a' w' := by
  obtain ⟨σ', hm, r⟩ := h
  exact ⟨σ', hl _ hm, r⟩

theorem PReg.agree {E : Env} {w w' : World} {l : List St} {x : Value} {a a2 : Act} (h : PReg ops E B w l x a w') (ha : Agree ops a a2) : PReg ops E B w l x a2 w' := by
  obtain ⟨σ', hm, v, E', hp, hv, hS, hle, hf, hpo⟩ := h
  obtain ⟨h1, h2, h3⟩ := ha
  refine ⟨σ', hm, v, E', hp, hv, ⟨⟨by rw [h2]; exact hS.slots.1, fun t u ht hq hu => ?_⟩, by rw [h1]; exact hS.defers, hS.wr, hS.pc, rfl⟩, hle, hf, hpo⟩
  obtain ⟨y, hy, hay⟩ := hS.slots.2 t u ht hq hu
  refine ⟨y, hy, ?_⟩
  rw [h3 t (fun i o ho hd => ht (by
    have := hpo i o t ho hd u hu
    subst this
    exact hu))]
  exact hay

theorem untagged_mono {S : Tags} {T : TC} {i : Nat} {L : Array Bool} (hC : ConcT E S T) (hu : untagged i S = true) (h : ST T (L.setIfInBounds i true) w) : ST T L w := fun t ht hn => by
  refine h t ht fun j hj => ?_
  obtain ⟨q, hq, h1, _⟩ := hC t ht
  have h2 := List.all_eq_true.1 hu q hq
  simp only [Bool.not_eq_true', List.contains_eq_mem, decide_eq_false_iff_not] at h2
  have hne : i ≠ j := fun he => h2 (by rw [h1, he]; exact hj)
  rw [getD_set_ne false hne]
  exact hn j hj

theorem openGate_below {ops : Array Oper} {σ : St} {E : Env} (hn : E.ι.nv = σ.h.giv.nv) : ∀ {rs : List Nat} {b : BE}, openGate ops σ rs = some b → b.upto E.ι.nv = true
  | [], _, h => by cases h
  | i :: r, b, h => by
    unfold openGate at h
    split at h
    · split at h
      · split at h
        · rename_i hb
          simp only [Bool.and_eq_true] at hb
          injection h with h
          subst h
          rw [hn]
          exact hb.2
        · exact openGate_below hn h
      · exact openGate_below hn h
    · exact openGate_below hn h

theorem any_sound {call : CallF} (hN : plainNames P = true) (hC : CallOk P call B) (hsel : Region.noSelect ops = true) (hB : B.n ≤ w0.heap.size) {Qn : Act → World → Prop} {Qp : Value → Act → World → Prop} (hins : ∀ (i : Nat) (o : Oper) (v x : Value) (a : Act) (w : World), ops[i]? = some o → Qp x (a.put o.dst v) w → Qp x a w) : ∀ (n : Nat) {LA : Array Bool} {S : Tags} {fl : List Nat} {σ : St} {l : List St} {E : Env} {El : List (Nat × Nat)} {a : Act} {w : World} {LC : Array Bool} {T : TC} {fuel : Nat},
    runAny P call ops n LA S fl σ = some l → Inv P ops B E0 w0 E σ LA El a w LC → (∀ p ∈ El, p.1 ∈ fl) → ConcT E S T → ST T LC w → un LC ≤ fuel →
    (∀ a' w', Aft E0 B (fun _ => False) w0 l a' w' → Qn a' w') → (∀ x a' w', PReg ops E0 B w0 l x a' w' → Qp x a' w') → wpAnyK P .any ops (fun e a w => (e = .normal ∧ Qn a w) ∨ ∃ x, e = .panic (panicOf x) ∧ Qp x a w) (ST T) fuel LC a w
  | 0, _, _, _, _, _, _, _, _, _, _, _, _, h, _, _, _, _, _, _, _ => by simp [runAny] at h
  | n + 1, LA, S, fl, σ, l, E, El, a, w, LC, T, fuel, h, hI, hfl, hCo, hS, hu, hQ, hP => by
    have hQp : ∀ (i : Nat) (o : Oper) (v : Value), ops[i]? = some o → ∀ (c : List PanicEntry) (a : Act) (w : World), ((Exit.panic c = .normal ∧ Qn (a.put o.dst v) w) ∨ ∃ x, Exit.panic c = .panic (panicOf x) ∧ Qp x (a.put o.dst v) w) → ((Exit.panic c = .normal ∧ Qn a w) ∨ ∃ x, Exit.panic c = .panic (panicOf x) ∧ Qp x a w) := fun i o v ho c a w h => by
      rcases h with ⟨h0, _⟩ | ⟨x, h0, hq⟩
      · cases h0
      · exact Or.inr ⟨x, h0, hins i o v x a w ho hq⟩
    unfold runAny at h
    rw [St.opened_eq] at h
    simp only [readyF_eq, doOpF_eq, freeOneU_eq] at h
    split at h
    · -- all have come up
      rename_i hr
      injection h with h
      subst h
      have hE : El = [] := by
        cases El with
        | nil => rfl
        | cons p El => have := hI.rdy p List.mem_cons_self; rw [hr] at this; cases this
      subst hE
      have hLC : LC = LA := by
        apply Array.ext
        · rw [hI.sA, hI.sC]
        · intro i h1 h2
          have := hI.listed i
          simp only [List.not_mem_nil, false_and, exists_false, or_false] at this
          rw [Bool.eq_iff_iff]
          simpa [h1, h2] using this
      refine wpAnyK_done (by rw [hLC]; exact hr) (Or.inl ⟨rfl, hQ _ _ ⟨σ, List.mem_singleton.2 rfl, E, ⟨slots_nil hI.sr.slots, hI.sr.defers, hI.sr.wr, hI.sr.pc, hI.sr.pan⟩, hI.le, hI.fr⟩⟩) fuel
    · rename_i rs hne
      split at h
      · -- one is taken first
        rename_i i o t hfree
        obtain ⟨f1', f2, f3, f4⟩ := freeOne_sound hfree
        have f1 := (List.mem_filter.1 f1').1
        split at h
        · cases h
        · rename_i hcond
          simp only [Bool.or_eq_true, Bool.not_eq_true', not_or, Bool.not_eq_false, List.all_eq_true, List.contains_iff_mem] at hcond
          obtain ⟨⟨hcond1, hcond2⟩, hcond3⟩ := hcond
          have hni : ∀ p ∈ El, p.1 ≠ i := fun p hp he => hcond1 (he ▸ hfl p hp)
          have hap : ∀ p ∈ El, apart2 ops i p.1 = true := fun p hp => hcond2 _ (hfl p hp)
          obtain ⟨c1, c2⟩ := clear_apart f2 hap
          have hrC := hI.ready f1 hni
          obtain ⟨f, rfl, hu'⟩ := un_pos hI hrC hu
          have hfr : ∀ j oj, ops[j]? = some oj → j ≠ i → LC.getD j true = false → (∀ e ∈ oj.after, Region.binds .any e = true → e.on ≠ i) → o.apart ops oj = true :=
            fun j oj hj hne hun hno => Region.free_spec f2 f3 j oj hj hne (unlisted hI hun).1 hno
          have hmono := fun L w => untagged_mono (w := w) (L := L) hCo hcond3
          have hSi := hS.later (L' := LC.setIfInBounds i true) fun k hk => getD_set_true hk
          rcases takeOf_sound hI.sr c1 c2 f4 with ⟨rfl, hy⟩ | ⟨v, F, z, C1, rfl, hz, hF, hSF, hy⟩ | ⟨b, x, y, z, u, rfl, hbelow, hz, hu2, hy⟩
          · simp only at h
            refine wpAnyK_first (Si := fun _ => True) (W := []) f2 (Region.noSelect_spec hsel) (hQp i o undef f2) (fun _ h => by cases h) (fun _ _ _ _ => trivial) hmono f LC a w hfr hrC (fun _ h => by cases h) (hy _) hSi ?_
            exact any_sound hN hC hsel hB hins n h (hI.step hsel f2 hap hni (hI.sr.put o.dst (undefA_den E)) (.refl E) (.refl E w)) hfl hCo hSi hu' hQ hP
          · simp only at h
            split at h
            · rename_i hunt
              cases F with
              | nil =>
                simp only [addTag] at h
                have hC1 : C1 = [] := by
                  cases C1 with
                  | nil => rfl
                  | cons p C1 => obtain ⟨q, hq, _⟩ := hF p List.mem_cons_self; cases hq
                subst hC1
                refine wpAnyK_first (Si := SC []) (W := []) f2 (Region.noSelect_spec hsel) (hQp i o z f2) (fun _ h => by cases h) (fun _ _ _ _ => sc_nil) hmono f LC a w hfr hrC (fun _ h => by cases h) hy hSi ?_
                exact any_sound hN hC hsel hB hins n h (hI.step hsel f2 hap hni ((hI.sr.gain v).put o.dst hz) (.refl E) (.refl E w)) hfl hCo hSi hu' hQ hP
              | cons g F =>
                simp only [addTag] at h hunt
                have hCo2 : ConcT E ((g :: F, waiters ops LA i) :: S) ((C1, waiters ops LA i) :: T) := fun t ht => by
                  rcases List.mem_cons.1 ht with rfl | ht
                  · exact ⟨_, List.mem_cons_self, rfl, hF⟩
                  · obtain ⟨q, hq, r⟩ := hCo t ht
                    exact ⟨q, List.mem_cons_of_mem _ hq, r⟩
                have hS2 : ST ((C1, waiters ops LA i) :: T) (LC.setIfInBounds i true) w := fun t ht hn => by
                  rcases List.mem_cons.1 ht with rfl | ht
                  · exact hSF
                  · exact hSi t ht hn
                refine wpAnyK_more (S' := ST ((C1, waiters ops LA i) :: T)) (fun L w' hw' t ht => hw' t (List.mem_cons_of_mem _ ht)) _ _ _ _ ?_
                refine wpAnyK_first (Si := SC C1) (W := behind ops LA i (List.range ops.size) []) f2 (Region.noSelect_spec hsel) (hQp i o z f2) (fun j hj oj hoj => (behind_all j hj).2 oj hoj) ?_ (fun L w => untagged_mono hCo2 hunt) f LC a w hfr hrC ?_ hy hS2 ?_
                · intro L w' hL hw'
                  refine hw' _ List.mem_cons_self fun j hj => ?_
                  have hjb := waiters_behind hj
                  have hne : i ≠ j := fun he => by
                    have := List.all_eq_true.1 hunt _ List.mem_cons_self
                    simp only [Bool.not_eq_true', List.contains_eq_mem, decide_eq_false_iff_not] at this
                    exact this (he ▸ hj)
                  rw [getD_set_ne false hne]
                  exact hL j hjb
                · intro j hj
                  cases hc : LC.getD j false with
                  | false => rfl
                  | true =>
                    have hju := (behind_all j hj).1
                    rcases (hI.listed j).1 hc with h1 | ⟨p, hp, he⟩
                    · rw [unl hI.sA] at hju
                      rw [hju.2] at h1; cases h1
                    · obtain ⟨_, oj, hoj, hall⟩ := mem_ready.1 (hI.rdy p hp)
                      obtain ⟨e, he1, he2, he3⟩ := (behind_all j hj).2 oj (he ▸ hoj)
                      have h3 := hall e he1 he2
                      rcases he3 with he3 | he3
                      · have h4 := (unl hI.sA i).1 (mem_ready.1 f1).1
                        rw [he3, h4.2] at h3
                        cases h3
                      · have h4 := (unl hI.sA _).1 (behind_all _ he3).1
                        rw [h4.2] at h3
                        cases h3
                · exact any_sound hN hC hsel hB hins n h (hI.step hsel f2 hap hni ((hI.sr.gain v).put o.dst hz) (.refl E) (.refl E w)) hfl hCo2 hS2 hu' hQ hP
            · cases h
          · simp only at h
            obtain ⟨σ', l', hS', hl, hr⟩ := split_sound hbelow hI.sr h
            have hI' : Inv P ops B E0 w0 E σ' LA El a w LC := ⟨hS', hI.le, hI.fr, hI.sA, hI.sC, hI.listed, hI.rdy, hI.uniq, hI.log⟩
            have hQ' : ∀ a' w', Aft E0 B (fun _ => False) w0 l' a' w' → Qn a' w' := fun a' w' hx => hQ a' w' (hx.sub hl)
            have hP' : ∀ x a' w', PReg ops E0 B w0 l' x a' w' → Qp x a' w' := fun x a' w' hx => hP x a' w' (hx.sub hl)
            rcases hr with ⟨hb, hr⟩ | ⟨hb, hr⟩
            · refine wpAnyK_first (v := z) (Si := fun _ => True) (W := []) f2 (Region.noSelect_spec hsel) (hQp i o z f2) (fun _ h => by cases h) (fun _ _ _ _ => trivial) hmono f LC a w hfr hrC (fun _ h => by cases h) (by have := hy (fun _ => True); rwa [hb, if_pos rfl] at this) hSi ?_
              exact any_sound hN hC hsel hB hins n hr (hI'.step hsel f2 hap hni (hS'.put o.dst hz) (.refl E) (.refl E w)) hfl hCo hSi hu' hQ' hP'
            · refine wpAnyK_first (v := u) (Si := fun _ => True) (W := []) f2 (Region.noSelect_spec hsel) (hQp i o u f2) (fun _ h => by cases h) (fun _ _ _ _ => trivial) hmono f LC a w hfr hrC (fun _ h => by cases h) (by have := hy (fun _ => True); rwa [hb, if_neg (by decide)] at this) hSi ?_
              exact any_sound hN hC hsel hB hins n hr (hI'.step hsel f2 hap hni (hS'.put o.dst hu2) (.refl E) (.refl E w)) hfl hCo hSi hu' hQ' hP'
      · -- none is
        try simp only at h
        have hfa : ∀ e, e ∈ (Region.ready .any ops LA).filter (lays P ops σ) → e ∈ Region.ready .any ops LA ∧ lays P ops σ e = true := fun e he => List.mem_filter.1 he
        have hlt : ∀ e, e ∈ Region.ready .any ops LA → e < ops.size := fun e he => by
          obtain ⟨_, o, ho, _⟩ := mem_ready.1 he
          exact (Array.getElem?_eq_some_iff.1 ho).1
        split at h
        · -- one that has come up early is known from here on
          split at h
          · rename_i i hfind
            split at h
            · rename_i hcond
              simp only [Bool.and_eq_true, List.all_eq_true, Bool.or_eq_true, beq_iff_eq, List.contains_iff_mem] at hcond
              obtain ⟨hall, hsub⟩ := hcond
              have hq := List.find?_some hfind
              simp only [beq_iff_eq] at hq
              have himem : i ∈ (Region.ready .any ops LA).filter (lays P ops σ) := List.mem_of_find?_eq_some hfind
              have hap := allApart_spec hall
              have hmem : ∀ e, e = i ∨ e ∈ ((Region.ready .any ops LA).filter (lays P ops σ)).filter (fun x => x != i) → e ∈ i :: ((Region.ready .any ops LA).filter (lays P ops σ)).filter (fun x => x != i) := fun e he => List.mem_cons.2 he
              split at h
              · rename_i o ho
                split at h
                · rename_i v ob k hal
                  obtain ⟨o', d, g1, g2, g3, g4, g5, g6⟩ := lays_spec (hfa i himem).2
                  rw [ho] at g1
                  injection g1 with g1
                  subst g1
                  have key : ∀ (fuel : Nat) (El : List (Nat × Nat)) (a : Act) (w : World) (LC : Array Bool), Inv P ops B E0 w0 E σ LA El a w LC → (∀ p ∈ El, p.1 = i ∨ p.1 ∈ ((Region.ready .any ops LA).filter (lays P ops σ)).filter (fun x => x != i)) → ST T LC w → un LC ≤ fuel →
                      wpAnyK P .any ops (fun e a w => (e = .normal ∧ Qn a w) ∨ ∃ x, e = .panic (panicOf x) ∧ Qp x a w) (ST T) fuel LC a w := by
                    intro fuel
                    induction fuel with
                    | zero =>
                      intro El a w LC hI hEl hS hu
                      by_cases hex : ∃ p ∈ El, p.1 = i
                      · obtain ⟨p, hp, rfl⟩ := hex
                        obtain ⟨E', hle, hI'⟩ := hI.adopt hB hp ho g2 g5 hal (fun q hq hne => hap _ (hmem _ (Or.inl rfl)) _ (hmem _ (hEl q hq)) (fun he => hne (hI.uniq q hq p hp (Or.inl he.symm))))
                        exact any_sound hN hC hsel hB hins n h hI' (fun q hq => by
                          rw [List.mem_filter] at hq
                          exact (hEl q hq.1).resolve_left (by simpa using hq.2)) (hCo.mono hle) hS hu hQ hP
                      · obtain ⟨f, hf, _⟩ := un_pos hI (hI.ready (hfa i himem).1 (fun p hp he => hex ⟨p, hp, he⟩)) hu
                        cases hf
                    | succ f ih =>
                      intro El a w LC hI hEl hS hu
                      by_cases hex : ∃ p ∈ El, p.1 = i
                      · obtain ⟨p, hp, rfl⟩ := hex
                        obtain ⟨E', hle, hI'⟩ := hI.adopt hB hp ho g2 g5 hal (fun q hq hne => hap _ (hmem _ (Or.inl rfl)) _ (hmem _ (hEl q hq)) (fun he => hne (hI.uniq q hq p hp (Or.inl he.symm))))
                        exact any_sound hN hC hsel hB hins n h hI' (fun q hq => by
                          rw [List.mem_filter] at hq
                          exact (hEl q hq.1).resolve_left (by simpa using hq.2)) (hCo.mono hle) hS hu hQ hP
                      · have hni : ∀ p ∈ El, p.1 ≠ i := fun p hp he => hex ⟨p, hp, he⟩
                        have hrC := hI.ready (hfa i himem).1 hni
                        refine ⟨fun h0 => absurd hrC (by rw [h0]; simp), fun j hj => ?_⟩
                        have hjE := (unlisted hI (mem_ready.1 hj).1).2
                        have hjf : j = i ∨ j ∈ ((Region.ready .any ops LA).filter (lays P ops σ)).filter (fun x => x != i) :=
                          (next_is hI (fun e he => hlt e (hfa e (List.mem_filter.1 he).1).1) (fun p hp => (hEl p hp).resolve_left (hni p hp)) hq hj).symm
                        have hjl : j ∈ (Region.ready .any ops LA).filter (lays P ops σ) := by
                          rcases hjf with rfl | hjf
                          · exact himem
                          · exact (List.mem_filter.1 hjf).1
                        have hu1 := un_set (mem_ready.1 hj).1
                        refine early_step hI hsel (hfa j hjl).2 (hfa j hjl).1 (fun p hp => hap _ (hmem _ hjf) _ (hmem _ (hEl p hp)) (fun he => hjE p hp he.symm)) hjE hS ?_
                        intro a' w' q hqj hS' hI'
                        refine ⟨hS', ih _ a' w' _ hI' (fun p hp => ?_) hS' (by omega)⟩
                        rcases List.mem_cons.1 hp with rfl | hp
                        · rw [hqj]; exact hjf
                        · exact hEl p hp
                  exact key fuel El a w LC hI (fun p hp => hsub _ (hfl p hp)) hS hu
                · split at h
                  · rename_i v ob hal
                    obtain ⟨o', d, g1, g2, g3, g4, g5, g6⟩ := lays_spec (hfa i himem).2
                    rw [ho] at g1
                    injection g1 with g1
                    subst g1
                    have key : ∀ (fuel : Nat) (El : List (Nat × Nat)) (a : Act) (w : World) (LC : Array Bool), Inv P ops B E0 w0 E σ LA El a w LC → (∀ p ∈ El, p.1 = i ∨ p.1 ∈ ((Region.ready .any ops LA).filter (lays P ops σ)).filter (fun x => x != i)) → ST T LC w → un LC ≤ fuel →
                        wpAnyK P .any ops (fun e a w => (e = .normal ∧ Qn a w) ∨ ∃ x, e = .panic (panicOf x) ∧ Qp x a w) (ST T) fuel LC a w := by
                      intro fuel
                      induction fuel with
                      | zero =>
                        intro El a w LC hI hEl hS hu
                        by_cases hex : ∃ p ∈ El, p.1 = i
                        · obtain ⟨p, hp, rfl⟩ := hex
                          obtain ⟨E', hle, hI'⟩ := hI.adoptT hB hp ho g2 g5 hal (fun q hq hne => hap _ (hmem _ (Or.inl rfl)) _ (hmem _ (hEl q hq)) (fun he => hne (hI.uniq q hq p hp (Or.inl he.symm))))
                          exact any_sound hN hC hsel hB hins n h hI' (fun q hq => by
                            rw [List.mem_filter] at hq
                            exact (hEl q hq.1).resolve_left (by simpa using hq.2)) (hCo.mono hle) hS hu hQ hP
                        · obtain ⟨f, hf, _⟩ := un_pos hI (hI.ready (hfa i himem).1 (fun p hp he => hex ⟨p, hp, he⟩)) hu
                          cases hf
                      | succ f ih =>
                        intro El a w LC hI hEl hS hu
                        by_cases hex : ∃ p ∈ El, p.1 = i
                        · obtain ⟨p, hp, rfl⟩ := hex
                          obtain ⟨E', hle, hI'⟩ := hI.adoptT hB hp ho g2 g5 hal (fun q hq hne => hap _ (hmem _ (Or.inl rfl)) _ (hmem _ (hEl q hq)) (fun he => hne (hI.uniq q hq p hp (Or.inl he.symm))))
                          exact any_sound hN hC hsel hB hins n h hI' (fun q hq => by
                            rw [List.mem_filter] at hq
                            exact (hEl q hq.1).resolve_left (by simpa using hq.2)) (hCo.mono hle) hS hu hQ hP
                        · have hni : ∀ p ∈ El, p.1 ≠ i := fun p hp he => hex ⟨p, hp, he⟩
                          have hrC := hI.ready (hfa i himem).1 hni
                          refine ⟨fun h0 => absurd hrC (by rw [h0]; simp), fun j hj => ?_⟩
                          have hjE := (unlisted hI (mem_ready.1 hj).1).2
                          have hjf : j = i ∨ j ∈ ((Region.ready .any ops LA).filter (lays P ops σ)).filter (fun x => x != i) :=
                            (next_is hI (fun e he => hlt e (hfa e (List.mem_filter.1 he).1).1) (fun p hp => (hEl p hp).resolve_left (hni p hp)) hq hj).symm
                          have hjl : j ∈ (Region.ready .any ops LA).filter (lays P ops σ) := by
                            rcases hjf with rfl | hjf
                            · exact himem
                            · exact (List.mem_filter.1 hjf).1
                          have hu1 := un_set (mem_ready.1 hj).1
                          refine early_step hI hsel (hfa j hjl).2 (hfa j hjl).1 (fun p hp => hap _ (hmem _ hjf) _ (hmem _ (hEl p hp)) (fun he => hjE p hp he.symm)) hjE hS ?_
                          intro a' w' q hqj hS' hI'
                          refine ⟨hS', ih _ a' w' _ hI' (fun p hp => ?_) hS' (by omega)⟩
                          rcases List.mem_cons.1 hp with rfl | hp
                          · rw [hqj]; exact hjf
                          · exact hEl p hp
                    exact key fuel El a w LC hI (fun p hp => hsub _ (hfl p hp)) hS hu
                  · cases h
              · cases h
            · cases h
          · cases h
        · -- one that is no such
          rename_i i hone
          split at h
          · rename_i hcond
            simp only [Bool.and_eq_true, List.all_eq_true, beq_iff_eq, List.contains_iff_mem] at hcond
            obtain ⟨⟨hq, hall⟩, hsub⟩ := hcond
            have hap := allApart_spec hall
            have hi1 : i ∈ (Region.ready .any ops LA).filter (fun i => !lays P ops σ i) := by rw [hone]; simp
            have hi2 : i ∈ Region.ready .any ops LA ∧ lays P ops σ i = false := by
              have := List.mem_filter.1 hi1
              exact ⟨this.1, by simpa using this.2⟩
            have hif : i ∉ (Region.ready .any ops LA).filter (lays P ops σ) := fun hh => by
              rw [(hfa i hh).2] at hi2; cases hi2.2
            split at h
            · rename_i o ho
              have key : ∀ (fuel : Nat) (El : List (Nat × Nat)) (a : Act) (w : World) (LC : Array Bool), Inv P ops B E0 w0 E σ LA El a w LC → (∀ p ∈ El, p.1 ∈ (Region.ready .any ops LA).filter (lays P ops σ)) → ST T LC w → un LC ≤ fuel →
                  wpAnyK P .any ops (fun e a w => (e = .normal ∧ Qn a w) ∨ ∃ x, e = .panic (panicOf x) ∧ Qp x a w) (ST T) fuel LC a w := by
                intro fuel
                induction fuel with
                | zero =>
                  intro El a w LC hI hEl hS hu
                  obtain ⟨f, hf, _⟩ := un_pos hI (hI.ready hi2.1 (fun p hp he => hif (he ▸ hEl p hp))) hu
                  cases hf
                | succ f ih =>
                  intro El a w LC hI hEl hS hu
                  have hni : ∀ p ∈ El, p.1 ≠ i := fun p hp he => hif (he ▸ hEl p hp)
                  have hrC := hI.ready hi2.1 hni
                  refine ⟨fun h0 => absurd hrC (by rw [h0]; simp), fun j hj => ?_⟩
                  have hjE := (unlisted hI (mem_ready.1 hj).1).2
                  have hu1 := un_set (mem_ready.1 hj).1
                  rcases next_is hI (fun e he => hlt e (hfa e he).1) hEl hq hj with hjf | rfl
                  · refine early_step hI hsel (hfa j hjf).2 (hfa j hjf).1 (fun p hp => hap _ (List.mem_cons_of_mem _ hjf) _ (List.mem_cons_of_mem _ (hEl p hp)) (fun he => hjE p hp he.symm)) hjE hS ?_
                    intro a' w' q hqj hS' hI'
                    refine ⟨hS', ih _ a' w' _ hI' (fun p hp => ?_) hS' (by omega)⟩
                    rcases List.mem_cons.1 hp with rfl | hp
                    · rw [hqj]; exact hjf
                    · exact hEl p hp
                  · have hapi : ∀ p ∈ El, apart2 ops j p.1 = true := fun p hp => hap _ List.mem_cons_self _ (List.mem_cons_of_mem _ (hEl p hp)) (fun he => hni p hp he.symm)
                    obtain ⟨c1, c2⟩ := clear_apart ho hapi
                    obtain ⟨σ', l', hS', hl, hr⟩ := guarded_sound hI.sr c2 h
                    unfold wpOp
                    simp only [ho]
                    rcases hr with ⟨hw, hr⟩ | ⟨hw, hr⟩
                    · rw [if_pos hw]
                      refine Or.inl ?_
                      simp only [Option.bind_eq_bind, Option.bind_eq_some_iff] at hr
                      obtain ⟨l1, h1, h2⟩ := hr
                      refine doOp_sound hN hC hS' c1 h1 ?_ ?_
                      rotate_left
                      · rintro x w' ⟨σ1, hm, v1, E1, hp1, hx1, hS1, hle, hf⟩
                        obtain ⟨k, hk, hkl⟩ := each_mem h2 σ1 hm
                        rw [if_pos (by rw [hp1]; rfl)] at hk
                        split at hk
                        · rename_i hem
                          injection hk with hk
                          subst hk
                          have hEl0 : El = [] := by
                            cases El with
                            | nil => rfl
                            | cons p El =>
                              have := hEl p List.mem_cons_self
                              rw [List.isEmpty_iff.1 hem] at this
                              cases this
                          subst hEl0
                          have hsl := slots_nil hS1.slots
                          refine Or.inr ⟨x, rfl, hP x _ _ ⟨σ1.spoil ops, hl _ (hkl _ (List.mem_singleton.2 rfl)), v1, E1, hp1, hx1, ⟨⟨?_, fun t u ht hup hu => ?_⟩, hS1.defers, hS1.wr, hS1.pc, rfl⟩, hI.le.trans hle, hI.fr.trans hf, ?_⟩⟩
                          · show (spoilT ops.toList σ1.tmps).length = _
                            rw [spoilT_length]
                            exact hsl.1
                          · have hu' : (spoilT ops.toList σ1.tmps)[t]? = some u := hu
                            rcases spoilT_get ops.toList σ1.tmps t with h9 | ⟨_, h9⟩
                            · rw [h9] at hu'
                              exact hsl.2 t u (fun h => h) hup hu'
                            · have := h9 u hu'
                              subst this
                              exact absurd hu' ht
                          · intro i' o' d' ho' hd' u hu
                            exact spoilT_poison ops.toList σ1.tmps d' ⟨o', by
                              rw [Array.mem_toList_iff]
                              exact Array.mem_of_getElem? ho', hd'⟩ u hu
                        · cases hk
                      rintro x w' ⟨σ1, hm, E1, hS1, hle, hf⟩
                      obtain ⟨k, hk, hkl⟩ := each_mem h2 σ1 hm
                      rw [if_neg (by rw [hS1.pan]; simp)] at hk
                      split at hk
                      · rename_i hkeep
                        have hI2 := hI.step hsel ho hapi hni hS1 hle hf
                        have hS2 := keepsT_sound hS1.wr (hCo.mono hle) hkeep (fun k hk => (hI2.listed k).2 (Or.inl hk))
                        refine ⟨hS2, any_sound hN hC hsel hB hins n hk (hI.step hsel ho hapi hni hS1 hle hf) hEl (hCo.mono hle) hS2 (by omega) ?_ ?_⟩
                        · intro a' w' hx
                          exact hQ a' w' (hx.sub fun y hy => hl _ (hkl _ hy))
                        · intro x' a' w' hx
                          exact hP x' a' w' (hx.sub fun y hy => hl _ (hkl _ hy))
                      · cases hk
                    · rw [hw, if_neg (by simp)]
                      have hS3 := hS.later (L' := LC.setIfInBounds j true) fun k hk => getD_set_true hk
                      refine ⟨hS3, any_sound hN hC hsel hB hins n hr (hI.step hsel ho hapi hni (hS'.put o.dst (undefA_den E)) (.refl E) (.refl E w)) hEl hCo hS3 (by omega) ?_ ?_⟩
                      · intro a' w' hx
                        exact hQ a' w' (hx.sub hl)
                      · intro x' a' w' hx
                        exact hP x' a' w' (hx.sub hl)
              exact key fuel El a w LC hI (fun p hp => hsub _ (hfl p hp)) hS hu
            · cases h
          · cases h
        · -- a test is told apart
          split at h
          · rename_i b hog
            obtain ⟨σ', l', hS', hl, hr⟩ := split_sound (openGate_below hI.sr.wr.giv.nv hog) hI.sr h
            have hI' : Inv P ops B E0 w0 E σ' LA El a w LC := ⟨hS', hI.le, hI.fr, hI.sA, hI.sC, hI.listed, hI.rdy, hI.uniq, hI.log⟩
            have hQ' : ∀ a' w', Aft E0 B (fun _ => False) w0 l' a' w' → Qn a' w' := fun a' w' hx => hQ a' w' (hx.sub hl)
            have hP' : ∀ x a' w', PReg ops E0 B w0 l' x a' w' → Qp x a' w' := fun x a' w' hx => hP x a' w' (hx.sub hl)
            rcases hr with ⟨_, hr⟩ | ⟨_, hr⟩
            · exact any_sound hN hC hsel hB hins n hr hI' hfl hCo hS hu hQ' hP'
            · exact any_sound hN hC hsel hB hins n hr hI' hfl hCo hS hu hQ' hP'
          · cases h

theorem anyOk {call : CallF} (hm : P.follows .mixedOrders = true) (hN : plainNames P = true) (hC : CallOk P call B) : AnyOk P call B := by
  refine ⟨hm, ?_⟩
  intro ops E σ a w l hsel hS h
  have hS0 : SR E B (Ds ops []) σ a w.drew := ⟨⟨hS.slots.1, fun t v _ hq hv => hS.slots.2 t v (fun h => h) hq hv⟩, hS.defers, hS.wr.drew, hS.pc, hS.pan⟩
  have hI : Inv P ops B E w E σ (Array.replicate ops.size false) [] a w.drew (Array.replicate ops.size false) :=
    ⟨hS0, .refl E, ⟨rfl, rfl, rfl, Nat.le_refl _, fun _ _ _ => rfl, fun b c hb => Or.inl ⟨b, hb⟩⟩, by simp, by simp, fun j => by simp, fun p hp => (by cases hp), fun p hp => (by cases hp), fun p hp => (by cases hp)⟩
  have hw := any_sound (Qn := fun a' w' => Aft E B (fun _ => False) w l a' w') (Qp := fun x a' w' => ∀ a2, Agree ops a' a2 → PReg ops E B w l x a2 w') (fuel := ops.size) (T := []) hN hC hsel hS.wr.bsize
    (fun i o v x a1 w1 ho hq a2 ha => hq a2 (ha.put ho v)) (2 * ops.size + 1) h hI (fun p hp => (by cases hp)) (fun t ht => (by cases ht)) (fun t ht => (by cases ht)) (by simp [un]) (fun a' w' hx => hx) (fun x a' w' hx a2 ha => hx.agree ha)
  refine ⟨_, ?_, wpAny_of_K _ _ _ _ hw⟩
  intro e a' w' hx
  rcases hx with ⟨rfl, hx⟩ | ⟨x, rfl, hx⟩
  · exact Or.inl ⟨rfl, hx⟩
  · obtain ⟨σ', hm', v, E', hp, hv, hS', hle, hf, _⟩ := hx a' ⟨rfl, rfl, fun _ _ => rfl⟩
    exact Or.inr ⟨x, rfl, σ', hm', v, E', hp, hv, hS', hle, hf⟩

end
end Go.Sx
