/-
  A WALKER THAT COMPUTES: regions whose order is drawn, the walk.
-/
import Derived.Test.YtbgjceknbcpgjaaSzO
namespace Go.Sx

section
variable {P : Program} {ops : Array Oper} {B : Bd} {E0 E : Env} {w0 w : World} {σ : St} {LA LC : Array Bool} {El : List (Nat × Nat)} {a : Act}

theorem gate_sound {D : Nat → Prop} {o : Oper} {t : Bool} (hS : SR E B D σ a w) (hD : GuardClear ops D o) (h : gate ops o σ = some t) : Region.wanted o (yielded ops a.tmps) = t := by
  unfold gate at h
  cases hg : o.guard with
  | none =>
    rw [hg] at h
    injection h with h
    subst h
    simp [Region.wanted, hg]
  | some p =>
    obtain ⟨j, want⟩ := p
    rw [hg] at h
    simp only at h
    have hy' := yielded_of (ops := ops) (j := j) hS.slots (fun d hd => hD j want d hg hd)
    split at h
    · rename_i b hb
      have hy := hy' (fun v hv => by rw [hb] at hv; injection hv with hv; subst hv; rfl)
      rw [hb] at hy
      simp only [Option.map_eq_some_iff] at h
      obtain ⟨u, hu, rfl⟩ := h
      have := truthR_sound hS.wr.giv.rules (holds_den hS.pc) hu
      simp [Region.wanted, hg, hy, this]
    · rename_i v0 hnb hv0
      split at h
      · cases h
      rename_i hp
      injection h with h
      subst h
      have hy := hy' (fun v hv => by rw [hv0] at hv; injection hv with hv; subst hv; simpa using hp)
      have hn : yielded ops a.tmps j = none := by
        rw [hy, hv0]
        split
        · rename_i b hb'
          injection hb' with hb'
          exact absurd hb' (hnb b)
        · rfl
      simp [Region.wanted, hg, hn]
    · rename_i hb
      injection h with h
      subst h
      have hy := hy' (fun v hv => by rw [hb] at hv; cases hv)
      have hn : yielded ops a.tmps j = none := by rw [hy, hb]
      simp [Region.wanted, hg, hn]

theorem conc_nil : Conc E [] [] := fun p hp => by cases hp
theorem sc_nil : SC [] w := fun p hp => by cases hp

/-- An operation taken first. -/
theorem takeOf_sound {D : Nat → Prop} {o : Oper} {t : Take} (hS : SR E B D σ a w) (hc : ∀ x ∈ o.op.operands, Clear D x) (hD : GuardClear ops D o) (h : takeOf P ops o σ = some t) :
    (t = .idle ∧ ∀ S : World → Prop, YieldsIf P ops S o undef a) ∨
    (∃ v F z C, t = .val v F ∧ v.den E = some z ∧ Conc E F C ∧ SC C w ∧ YieldsIf P ops (SC C) o z a) ∨
    (∃ b x y z u, t = .pick b x y ∧ b.upto E.ι.nv = true ∧ x.den E = some z ∧ y.den E = some u ∧ ∀ S : World → Prop, YieldsIf P ops S o (if b.den E.ι then z else u) a) := by
  unfold takeOf at h
  split at h
  · cases h
  · rename_i hg
    injection h with h
    exact Or.inl ⟨h.symm, fun S => Or.inr ⟨gate_sound hS hD hg, rfl⟩⟩
  · rename_i hg
    have hw := gate_sound hS hD hg
    split at h
    · rename_i c x y ho
      split at h
      · rename_i b x' y' h1 h2 h3
        injection h with h
        subst h
        have hb := denBool (opnd_den hS.slots (hc c (by simp [ho, Op.operands])) h1)
        have hx := opnd_den hS.slots (hc x (by simp [ho, Op.operands])) h2
        have hy := opnd_den hS.slots (hc y (by simp [ho, Op.operands])) h3
        refine Or.inr (Or.inl ⟨_, [], if b then a.eval x else a.eval y, [], rfl, by cases b <;> simp [hx, hy], conc_nil, sc_nil, Or.inl ⟨hw, fun w _ => ?_⟩⟩)
        unfold execOp
        rw [ho]
        simp [hb, asBool, BE.den]
      · rename_i b x' y' _ h1 h2 h3
        injection h with h
        subst h
        have hb := denBool (opnd_den hS.slots (hc c (by simp [ho, Op.operands])) h1)
        have hx := opnd_den hS.slots (hc x (by simp [ho, Op.operands])) h2
        have hy := opnd_den hS.slots (hc y (by simp [ho, Op.operands])) h3
        refine Or.inr (Or.inr ⟨b, x', y', a.eval x, a.eval y, rfl, denB (opnd_den hS.slots (hc c (by simp [ho, Op.operands])) h1), hx, hy, fun S => Or.inl ⟨hw, fun w _ => ?_⟩⟩)
        unfold execOp
        rw [ho]
        simp [hb, asBool]
      · cases h
    · split at h
      · rename_i v hv
        injection h with h
        subst h
        obtain ⟨z, hz, hrun⟩ := aopPure_sound hS.slots hc hv
        exact Or.inr (Or.inl ⟨_, [], z, [], rfl, tidyAt_den (o := o) hS.wr.giv.rules (holds_den hS.pc) hz, conc_nil, sc_nil, Or.inl ⟨hw, fun w _ => hrun w⟩⟩)
      · split at h
        · rename_i v F hv
          injection h with h
          subst h
          obtain ⟨z, C, h1, h2, h3, h4⟩ := aopLoad_sound hS.slots hc hS.wr hv
          exact Or.inr (Or.inl ⟨v, F, z, C, rfl, h1, h2, h3, Or.inl ⟨hw, h4⟩⟩)
        · split at h
          · rename_i v hv
            injection h with h
            subst h
            obtain ⟨z, hz, hrun⟩ := symPure_sound hS.wr.giv.rules (holds_den hS.pc) hS.slots hc hv
            exact Or.inr (Or.inl ⟨v, [], z, [], rfl, hz, conc_nil, sc_nil, Or.inl ⟨hw, fun w _ => hrun w⟩⟩)
          · simp only [Option.map_eq_some_iff] at h
            obtain ⟨⟨v, F⟩, hv, rfl⟩ := h
            obtain ⟨z, C, h1, h2, h3, h4⟩ := symRead_sound hS.wr.giv.rules (holds_den hS.pc) hS.slots hc hS.wr hv
            exact Or.inr (Or.inl ⟨v, F, z, C, rfl, h1, h2, h3, Or.inl ⟨hw, h4⟩⟩)

theorem takeF_eq {o : Oper} : takeF P ops o σ = takeOf P ops o σ := by
  unfold takeF takeOf
  split
  · rfl
  · rfl
  · split
    · rename_i t ht
      obtain ⟨dst, op, type, pos, after, guard⟩ := o
      unfold takeFast at ht
      simp only at ht
      split at ht
      · rename_i tt a
        split at ht
        · rename_i ha
          simp only [Option.map_eq_some_iff, Prod.exists] at ht
          obtain ⟨v, F, h1, rfl⟩ := ht
          simp only [aopPure, h1]
        · rename_i ha
          simp only [Option.map_eq_some_iff, Prod.exists] at ht
          obtain ⟨v, F, h1, rfl⟩ := ht
          simp only [aopPure, aopLoad, symPure, ha, h1, Option.bind_eq_bind, Option.bind_some, Option.map_some]
        · cases ht
      · split at ht
        · rename_i v hv
          injection ht with ht
          subst ht
          obtain ⟨h1, _⟩ := pureFast_eq (σ := σ) (o := ⟨dst, op, type, pos, after, guard⟩) hv
          split
          · rename_i heq
            simp only at heq
            subst heq
            cases hv
          · rw [h1]
        · cases ht
    · rfl
theorem freeOne_sound {listed : Array Bool} {i : Nat} {o : Oper} {t : Take} : ∀ {rs : List Nat}, freeOne P ops listed σ rs = some (i, o, t) → i ∈ rs ∧ ops[i]? = some o ∧ Region.free .any ops listed i = true ∧ takeOf P ops o σ = some t
  | [], h => by simp [freeOne] at h
  | j :: rs, h => by
    simp only [freeOne] at h
    split at h
    · rename_i oj hj
      split at h
      · rename_i hf
        split at h
        · rename_i t' ht
          simp only [Option.some.injEq, Prod.mk.injEq] at h
          obtain ⟨rfl, rfl, rfl⟩ := h
          exact ⟨List.mem_cons_self, hj, by rw [← freeF_eq]; exact hf, by rw [← takeF_eq]; exact ht⟩
        · obtain ⟨h1, h2⟩ := freeOne_sound h
          exact ⟨List.mem_cons_of_mem _ h1, h2⟩
      · obtain ⟨h1, h2⟩ := freeOne_sound h
        exact ⟨List.mem_cons_of_mem _ h1, h2⟩
    · obtain ⟨h1, h2⟩ := freeOne_sound h
      exact ⟨List.mem_cons_of_mem _ h1, h2⟩

theorem freeOneU_eq {listed : Array Bool} {S : Tags} : ∀ {rs : List Nat}, freeOneU P ops listed S σ rs = freeOne P ops listed σ (rs.filter (untagged · S))
  | [] => rfl
  | i :: r => by
    simp only [freeOneU, List.filter_cons]
    split
    · rename_i h
      rw [if_neg (by simp [h])]
      exact freeOneU_eq
    · rename_i h
      rw [if_pos h]
      simp only [freeOne]
      split
      · split
        · split
          · rfl
          · exact freeOneU_eq
        · exact freeOneU_eq
      · exact freeOneU_eq

theorem lays_spec {i : Nat} (h : lays P ops σ i = true) : ∃ o d, ops[i]? = some o ∧ o.dst = some d ∧ gate ops o σ = some true ∧ ((∃ v ob n, allocN P σ.h.giv.cfg.rules σ.pc σ.tmps 0 0 o = some (v, ob, n)) ∨ ∃ v ob, layT P σ.h.giv.cfg.rules σ.pc σ.tmps 0 0 o = some (v, ob)) ∧ d ∉ o.looksAt ops ∧ d < σ.tmps.length := by
  unfold lays at h
  split at h
  · rename_i o ho
    simp only [Bool.and_eq_true, beq_iff_eq, Bool.not_eq_true', decide_eq_true_eq, Bool.or_eq_true] at h
    obtain ⟨⟨⟨⟨⟨h1, h5⟩, h2⟩, h3⟩, h4⟩, _⟩ := h
    obtain ⟨d, hd⟩ := Option.isSome_iff_exists.1 h1
    rw [hd] at h4 h5
    refine ⟨o, d, ho, hd, h2, ?_, by simpa using h4, by simpa using h5⟩
    rcases h3 with h3 | h3
    · obtain ⟨⟨v, ob, n⟩, hv⟩ := Option.isSome_iff_exists.1 h3
      exact Or.inl ⟨v, ob, n, hv⟩
    · obtain ⟨⟨v, ob⟩, hv⟩ := Option.isSome_iff_exists.1 h3
      exact Or.inr ⟨v, ob, hv⟩
  · cases h

theorem WR.push {h : Hp} (hw : WR E B h w) (obj : Obj) : WR E B h (w.alloc obj) where
  lenρ := hw.lenρ
  lenκ := hw.lenκ
  obj := fun b c o hb ho => by
    obtain ⟨ob, h1, h2⟩ := hw.obj b c o hb ho
    exact ⟨ob, by rw [heap_alloc_old w obj (hw.lt hb)]; exact h1, h2⟩
  base := hw.base
  inj := hw.inj
  bsize := by have := hw.bsize; simp; omega
  cls := hw.cls
  giv := hw.giv

theorem laid_facts {w' : World} {obj : Obj} (hl : Laid w obj w') : w'.heap.size = w.heap.size + 1 ∧ w'.heap[w.heap.size]? = some obj ∧ (∀ c, c < w.heap.size → w'.heap[c]? = w.heap[c]?) ∧ w'.os = w.os ∧ w'.tape = w.tape ∧ w'.output = w.output := by
  have hh := hl.heap
  refine ⟨by rw [hh]; simp, by rw [hh]; simp, fun c hc => by rw [hh, Array.getElem?_push, if_neg (by omega)], ?_⟩
  rcases hl with rfl | rfl <;> exact ⟨rfl, rfl, rfl⟩

theorem WR.laid {h : Hp} (hw : WR E B h w) {w' : World} {obj : Obj} (hl : Laid w obj w') : WR E B h w' := by
  rcases hl with rfl | rfl
  · exact hw.push obj
  · exact hw.drew.push obj

theorem SC.keep {C : Facts} {w' : World} (h : SC C w) (hh : ∀ c, c < w.heap.size → w'.heap[c]? = w.heap[c]?) : SC C w' := fun p hp => by
  have h1 := h p hp
  have hlt : p.1.block < w.heap.size := by
    rcases Nat.lt_or_ge p.1.block w.heap.size with h2 | h2
    · exact h2
    · simp [World.cell?, Array.getElem?_eq_none h2] at h1
  rw [World.cell?_of_block (w := w) (hh _ hlt)]
  exact h1

/-- One more comes up early. -/
theorem Inv.early (hI : Inv P ops B E0 w0 E σ LA El a w LC) (hsel : Region.noSelect ops = true) {j : Nat} {o : Oper} {d : Tmp} (hj : ops[j]? = some o) (hd : o.dst = some d) (hdl : d ∉ o.looksAt ops) (hds : d < σ.tmps.length)
    (hr : j ∈ Region.ready .any ops LA) (hap : ∀ p ∈ El, apart2 ops j p.1 = true) (hnj : ∀ p ∈ El, p.1 ≠ j) {x : Value} {obj : Obj} {w' : World}
    (hrun : (execOp a.eval o).run P w = .ok (.value x) w') (hl : Laid w obj w') :
    Inv P ops B E0 w0 E σ LA ((j, w.heap.size) :: El) (a.put o.dst x) w' (LC.setIfInBounds j true) := by
  obtain ⟨g1, g2, g3, g4, g5, g6⟩ := laid_facts hl
  have hfE : Fr E E w w' := ⟨g4, g5, g6, by omega, fun c hc _ => g3 c hc, fun b c hb => Or.inl ⟨b, hb⟩⟩
  have hlt : j < ops.size := (Array.getElem?_eq_some_iff.1 hj).1
  have hsmall : ∀ p ∈ El, p.2 < w.heap.size := fun p hp => by
    obtain ⟨_, _, _, _, _, _, _, _, _, _, _, _, h7, _⟩ := hI.log p hp
    exact (Array.getElem?_eq_some_iff.1 h7).1
  constructor
  · refine ⟨⟨?_, fun t v ht hq hv => ?_⟩, by rw [Act.put_defers]; exact hI.sr.defers, hI.sr.wr.laid hl, hI.sr.pc, hI.sr.pan⟩
    · rw [hd]; simp [Act.put, hI.sr.slots.1]
    · have hne : o.dst ≠ some t := fun he => ht ⟨(j, w.heap.size), List.mem_cons_self, o, hj, he⟩
      rw [put_other o.dst hne]
      exact hI.sr.slots.2 t v (fun ⟨p, hp, q⟩ => ht ⟨p, List.mem_cons_of_mem _ hp, q⟩) hq hv
  · exact hI.le
  · exact hI.fr.trans hfE
  · exact hI.sA
  · simp [hI.sC]
  · intro k
    rw [getD_set (by rw [hI.sC]; exact hlt), hI.listed k]
    constructor
    · rintro (rfl | h | ⟨p, hp, he⟩)
      · exact Or.inr ⟨(k, w.heap.size), List.mem_cons_self, rfl⟩
      · exact Or.inl h
      · exact Or.inr ⟨p, List.mem_cons_of_mem _ hp, he⟩
    · rintro (h | ⟨p, hp, he⟩)
      · exact Or.inr (Or.inl h)
      · rcases List.mem_cons.1 hp with rfl | hp
        · exact Or.inl he.symm
        · exact Or.inr (Or.inr ⟨p, hp, he⟩)
  · intro p hp
    rcases List.mem_cons.1 hp with rfl | hp
    · exact hr
    · exact hI.rdy p hp
  · intro p hp q hq h
    rcases List.mem_cons.1 hp with rfl | hp <;> rcases List.mem_cons.1 hq with rfl | hq
    · rfl
    · rcases h with h | h
      · exact absurd h.symm (hnj q hq)
      · have := hsmall q hq; simp only at h; omega
    · rcases h with h | h
      · exact absurd h (hnj p hp)
      · have := hsmall p hp; simp only at h; omega
    · exact hI.uniq p hp q hq h
  · intro p hp
    rcases List.mem_cons.1 hp with rfl | hp
    · refine ⟨o, d, w, x, obj, w', hj, hd, rfl, ?_, hl, ?_, g2, fun b hb => ?_, hI.fr.size⟩
      · rw [execOp_put o (fun cs b => Region.noSelect_spec hsel j o cs b hj) a o.dst x (fun e he => by rw [hd] at he; injection he with he; subst he; exact hdl)]
        exact hrun
      · rw [hI.sr.slots.1] at hds
        rw [hd]
        simp [Act.put, hds]
      · have := hI.sr.wr.lt hb; omega
    · exact ((hI.log p hp).put hsel hj (hap p hp) x).world hfE

theorem up_ofQ {ι : Unk} {m : Nat} {f : Fv} (h : ι.fv[m]? = some f) : Nat.blt m ι.nv = true := blt_iff.2 (List.getElem?_eq_some_iff.1 h).1

theorem adopt_clear {p : Nat × Nat} {o : Oper} {d : Tmp} (ho : ops[p.1]? = some o) (hd : o.dst = some d) (hdl : d ∉ o.looksAt ops) (hap : ∀ q ∈ El, q ≠ p → apart2 ops p.1 q.1 = true) : ∀ y ∈ o.op.operands, Clear (Ds ops El) y := by
  rintro y hy t rfl ⟨q, hq, oq, hoq, hdq⟩
  have hmem : t ∈ o.looksAt ops := List.mem_append_left _ (List.mem_filterMap.2 ⟨.tmp t, by simpa using hy, rfl⟩)
  by_cases hqp : q = p
  · subst hqp
    rw [ho] at hoq
    injection hoq with hoq
    subst hoq
    rw [hd] at hdq
    injection hdq with hdq
    subst hdq
    exact hdl hmem
  · exact (Oper.apart_spec (apart2_spec ho hoq (hap q hq hqp)).1).2.2 t hdq hmem

/-- One that has come up early is known from here on. -/
theorem Inv.adoptG (hI : Inv P ops B E0 w0 E σ LA El a w LC) (hB : B.n ≤ w0.heap.size) {p : Nat × Nat} (hp : p ∈ El) {o : Oper} {d : Tmp} {v : AV} {ob : AObj} {k : Nat} (ho : ops[p.1]? = some o) (hd : o.dst = some d)
    (hg : ∀ (w1 w2 : World) (x : Value) (obj : Obj), (execOp a.eval o).run P w1 = .ok (.value x) w2 → Laid w1 obj w2 → w1.heap.size = p.2 → a.tmps[d]? = some x → w.heap[p.2]? = some obj → ∃ ks : List Nat, ks.length = k ∧
      ∀ E', E.Le E' → E'.ρ[σ.h.bs.length]? = some p.2 → (∀ (j c : Nat), ks[j]? = some c → E'.κ[σ.h.nk + j]? = some c) → v.den E' = some x ∧ ORel E' ob obj) (hcls : ∀ k', ob.cls? = some k' → k' = σ.h.bs.length) :
    ∃ E', E.Le E' ∧ Inv P ops B E0 w0 E' ({ σ with h := { bs := σ.h.bs ++ [ob], nk := σ.h.nk + k, giv := σ.h.giv } }.put o.dst v) (LA.setIfInBounds p.1 true) (El.filter fun q => q.1 != p.1) a w LC := by
  obtain ⟨o', d', w1, x, obj, w2, h1, h2, h3, h4, h5, h6, h7, h8, h9⟩ := hI.log p hp
  rw [ho] at h1
  injection h1 with h1
  subst h1
  rw [hd] at h2
  injection h2 with h2
  subst h2
  have hlt : p.1 < ops.size := (Array.getElem?_eq_some_iff.1 ho).1
  obtain ⟨ks, g3, g4⟩ := hg w1 w2 x obj h4 h5 h3 h6 h7
  have hle := le_new E p.2 ks
  have hnew : (⟨E.ρ ++ [p.2], E.κ ++ ks, E.ι⟩ : Env).ρ[σ.h.bs.length]? = some p.2 := by
    simp only [ext_get]
    rw [if_pos hI.sr.wr.lenρ.symm]
  obtain ⟨hvd, hor⟩ := g4 ⟨E.ρ ++ [p.2], E.κ ++ ks, E.ι⟩ hle hnew (fun j c hj => by
    simp only
    rw [← hI.sr.wr.lenκ, List.getElem?_append_right (by omega)]
    simpa using hj)
  have hget : ∀ (b c : Nat), (E.ρ ++ [p.2])[b]? = some c → (b = σ.h.bs.length ∧ c = p.2) ∨ (b < σ.h.bs.length ∧ E.ρ[b]? = some c) := fun b c hb => by
    rw [ext_get] at hb
    split at hb
    · rename_i e
      injection hb with hb
      exact Or.inl ⟨by rw [e, hI.sr.wr.lenρ], hb.symm⟩
    · exact Or.inr ⟨by rw [← hI.sr.wr.lenρ]; exact (List.getElem?_eq_some_iff.1 hb).1, hb⟩
  have hwr : WR ⟨E.ρ ++ [p.2], E.κ ++ ks, E.ι⟩ B { bs := σ.h.bs ++ [ob], nk := σ.h.nk + k, giv := σ.h.giv } w := by
    refine ⟨by simp [hI.sr.wr.lenρ], by simp [hI.sr.wr.lenκ, g3], ?_, ?_, ?_, hI.sr.wr.bsize, ?_, hI.sr.wr.giv.ext hle.ρ rfl⟩
    · intro b c o' hb ho'
      rcases hget b c hb with ⟨rfl, rfl⟩ | ⟨hlt, hb'⟩
      · simp only [Bl.getElem?_append_self, Option.some.injEq] at ho'
        subst ho'
        exact ⟨_, h7, hor⟩
      · simp only [Bl.getElem?_append_left hlt] at ho'
        obtain ⟨y, hy, hrel⟩ := hI.sr.wr.obj b c o' hb' ho'
        exact ⟨y, hy, hrel.mono hle⟩
    · intro b c hb
      rcases hget b c hb with ⟨rfl, rfl⟩ | ⟨_, hb'⟩
      · omega
      · exact hI.sr.wr.base b c hb'
    · intro b b' c o1 o2 hne hb hb' ho1 ho2 hf1 hf2
      rcases hget b c hb with ⟨rfl, rfl⟩ | ⟨hlt1, hb1⟩
      · rcases hget b' _ hb' with ⟨rfl, _⟩ | ⟨_, hb2⟩
        · exact absurd rfl hne
        · exact absurd hb2 (h8 b')
      · rcases hget b' _ hb' with ⟨rfl, rfl⟩ | ⟨hlt2, hb2⟩
        · exact absurd hb1 (h8 b)
        · simp only [Bl.getElem?_append_left hlt1] at ho1
          simp only [Bl.getElem?_append_left hlt2] at ho2
          exact hI.sr.wr.inj b b' c o1 o2 hne hb1 hb2 ho1 ho2 hf1 hf2
    · intro b o' k' ho' hk'
      simp only [Bl.members_append]
      simp only [Bl.getElem?_append] at ho'
      split at ho'
      · rename_i hb
        injection ho' with ho'
        subst ho'
        exact Or.inl (by rw [hb, hcls k' hk'])
      · exact hI.sr.wr.cls b o' k' ho' hk'
  have hsub : ∀ q ∈ El.filter (fun q => q.1 != p.1), q ∈ El ∧ q.1 ≠ p.1 := fun q hq => by
    rw [List.mem_filter] at hq
    exact ⟨hq.1, by simpa using hq.2⟩
  have hfE : Fr E ⟨E.ρ ++ [p.2], E.κ ++ ks, E.ι⟩ w w ∨ True := Or.inr trivial
  clear hfE
  refine ⟨⟨E.ρ ++ [p.2], E.κ ++ ks, E.ι⟩, hle, ⟨⟨⟨?_, fun t u ht hpo hu => ?_⟩, by rw [St.put_marks]; exact marksDen_mono hle hI.sr.defers, by rw [St.put_h]; exact hwr, by rw [St.put_pc]; exact hI.sr.pc, by rw [St.put_pan]; exact hI.sr.pan⟩, hI.le.trans hle, ?_, by simp [hI.sA], hI.sC, ?_, ?_, ?_, ?_⟩⟩
  · rw [hd]; simp [St.put, tset_eq, hI.sr.slots.1]
  · rw [hd] at hu
    simp only [St.put, tset_eq] at hu
    rw [List.getElem?_set] at hu
    split at hu
    · rename_i he
      split at hu
      · injection hu with hu
        subst hu
        subst he
        exact ⟨x, hvd, h6⟩
      · cases hu
    · rename_i he
      obtain ⟨y, hy, hay⟩ := hI.sr.slots.2 t u (by
        rintro ⟨q, hq, oq, hoq, hdq⟩
        by_cases hqp : q.1 = p.1
        · rw [hqp, ho] at hoq
          injection hoq with hoq
          subst hoq
          rw [hd] at hdq
          injection hdq with hdq
          exact he hdq
        · exact ht ⟨q, List.mem_filter.2 ⟨hq, by simpa using hqp⟩, oq, hoq, hdq⟩) hpo hu
      exact ⟨y, AV.den_mono hle _ _ hy, hay⟩
  · refine ⟨hI.fr.os, hI.fr.tape, hI.fr.output, hI.fr.size, hI.fr.block, fun b c hb => ?_⟩
    rcases hget b c hb with ⟨_, rfl⟩ | ⟨_, hb'⟩
    · exact Or.inr h9
    · exact hI.fr.fresh b c hb'
  · intro j
    rw [hI.listed j, getD_set (by rw [hI.sA]; exact hlt)]
    constructor
    · rintro (h | ⟨q, hq, he⟩)
      · exact Or.inl (Or.inr h)
      · by_cases hqp : q.1 = p.1
        · exact Or.inl (Or.inl (by rw [← he, hqp]))
        · exact Or.inr ⟨q, List.mem_filter.2 ⟨hq, by simpa using hqp⟩, he⟩
    · rintro ((rfl | h) | ⟨q, hq, he⟩)
      · exact Or.inr ⟨p, hp, rfl⟩
      · exact Or.inl h
      · exact Or.inr ⟨q, (hsub q hq).1, he⟩
  · intro q hq
    exact ready_mono (hI.rdy q (hsub q hq).1) (hsub q hq).2
  · intro q hq r hr
    exact hI.uniq q (hsub q hq).1 r (hsub r hr).1
  · intro q hq
    obtain ⟨o', d', w1', x', obj2, w2', k1, k2, k3, k4, k5, k6, k7, k8, k9⟩ := hI.log q (hsub q hq).1
    refine ⟨o', d', w1', x', obj2, w2', k1, k2, k3, k4, k5, k6, k7, fun b hb => ?_, k9⟩
    rcases hget b _ hb with ⟨_, he⟩ | ⟨_, hb'⟩
    · have := hI.uniq q (hsub q hq).1 p hp (Or.inr he)
      exact (hsub q hq).2 (by rw [this])
    · exact k8 b hb'

theorem Inv.adopt (hI : Inv P ops B E0 w0 E σ LA El a w LC) (hB : B.n ≤ w0.heap.size) {p : Nat × Nat} (hp : p ∈ El) {o : Oper} {d : Tmp} {v : AV} {ob : AObj} {k : Nat} (ho : ops[p.1]? = some o) (hd : o.dst = some d) (hdl : d ∉ o.looksAt ops)
    (hal : allocN P σ.h.giv.cfg.rules σ.pc σ.tmps σ.h.bs.length σ.h.nk o = some (v, ob, k)) (hap : ∀ q ∈ El, q ≠ p → apart2 ops p.1 q.1 = true) :
    ∃ E', E.Le E' ∧ Inv P ops B E0 w0 E' ({ σ with h := { bs := σ.h.bs ++ [ob], nk := σ.h.nk + k, giv := σ.h.giv } }.put o.dst v) (LA.setIfInBounds p.1 true) (El.filter fun q => q.1 != p.1) a w LC := by
  refine hI.adoptG hB hp ho hd (fun w1 w2 x obj h4 h5 h3 _ _ => ?_) fun k' hk' => allocN_cls hal k' hk'
  obtain ⟨x', obj', ks, w', g1, g2, g3, g4⟩ := allocN_sound hI.sr.wr.giv.rules (holds_den hI.sr.pc) hI.sr.slots (adopt_clear ho hd hdl hap) hal w1
  rw [h4] at g1
  injection g1 with g1 g1'
  injection g1 with g1
  subst g1
  subst g1'
  have hobj : obj' = obj := by
    have e1 := (laid_facts h5).2.1
    have e2 := (laid_facts g2).2.1
    rw [e1] at e2
    injection e2 with e2
    exact e2.symm
  subst hobj
  exact ⟨ks, g3, fun E' hle hb hk => g4 E' hle (by rw [h3]; exact hb) hk⟩

/-- Unknowns that come up. -/
theorem Inv.fresh (hI : Inv P ops B E0 w0 E σ LA El a w LC) (fs : List Fv) : Inv P ops B E0 w0 ⟨E.ρ, E.κ, { E.ι with fv := E.ι.fv ++ fs }⟩ { σ with h := { σ.h with giv := { σ.h.giv with nv := σ.h.giv.nv + fs.length } } } LA El a w LC :=
  ⟨hI.sr.ext (freshs_ext hI.sr.wr fs), hI.le.trans (freshs_ext hI.sr.wr fs).le, ⟨hI.fr.os, hI.fr.tape, hI.fr.output, hI.fr.size, hI.fr.block, hI.fr.fresh⟩, hI.sA, hI.sC, hI.listed, hI.rdy, hI.uniq, hI.log⟩

theorem Inv.adoptT (hI : Inv P ops B E0 w0 E σ LA El a w LC) (hB : B.n ≤ w0.heap.size) {p : Nat × Nat} (hp : p ∈ El) {o : Oper} {d : Tmp} {v : AV} {ob : AObj} (ho : ops[p.1]? = some o) (hd : o.dst = some d) (hdl : d ∉ o.looksAt ops)
    (hal : layT P σ.h.giv.cfg.rules σ.pc σ.tmps σ.h.bs.length σ.h.giv.nv o = some (v, ob)) (hap : ∀ q ∈ El, q ≠ p → apart2 ops p.1 q.1 = true) :
    ∃ E', E.Le E' ∧ Inv P ops B E0 w0 E' ({ σ with h := { bs := σ.h.bs ++ [ob], nk := σ.h.nk, giv := { σ.h.giv with nv := σ.h.giv.nv + 1 } } }.put o.dst v) (LA.setIfInBounds p.1 true) (El.filter fun q => q.1 != p.1) a w LC := by
  obtain ⟨t, n, e, rfl, rfl, ut, un, hn, hrun⟩ := layT_run hI.sr.wr.giv.rules (holds_den hI.sr.pc) hI.sr.slots (adopt_clear ho hd hdl hap) hal
  obtain ⟨o', d', w1, x, obj, w2, h1, h2, h3, h4, h5, h6, h7, h8, h9⟩ := hI.log p hp
  rw [ho] at h1
  injection h1 with h1
  subst h1
  rw [hd] at h2
  injection h2 with h2
  subst h2
  obtain ⟨cap, hcap, hr⟩ := hrun w1
  rw [hr] at h4
  injection h4 with h4 h4'
  injection h4 with h4
  subst h4
  have hI1 := hI.fresh [({ n := (cap : Nat) } : Fv)]
  have hle1 := (freshs_ext hI.sr.wr [({ n := (cap : Nat) } : Fv)]).le
  have hnv : E.ι.fv.length = σ.h.giv.nv := hI.sr.wr.giv.nv
  have f1 : (E.ι.fv ++ [({ n := (cap : Nat) } : Fv)])[σ.h.giv.nv]? = some { n := (cap : Nat) } := by rw [← hnv]; simp
  obtain ⟨E', hle', hI'⟩ := hI1.adoptG (v := .sl σ.h.bs.length 1 (.lit 0) (.lit 0) n (.fv σ.h.giv.nv)) (ob := .row (.txt t) e [.int .u8] n (.fv σ.h.giv.nv)) (k := 0) hB hp ho hd (fun w1' w2' x' obj' k4 k5 k3 k6 k7 => by
    obtain ⟨cap', hcap', hr'⟩ := hrun w1'
    rw [hr'] at k4
    injection k4 with k4 k4'
    injection k4 with k4
    subst k4
    rw [k6] at h6
    injection h6 with h6
    injection h6 with h6a h6b h6c
    subst h6c
    have hobj : obj' = .cells (byteVals (t.den E.ι) ++ List.replicate (cap' - (t.den E.ι).length) (Value.int .u8 0)).toArray e (cap', cap' + 1) := by
      have e1 := (laid_facts k5).2.1
      rw [← k4'] at e1
      exact Option.some.inj (e1.symm.trans (heap_alloc_new w1'.drew _))
    subst hobj
    refine ⟨[], rfl, fun E' hle hb _ => ?_⟩
    have hleι : E.ι.Le E'.ι := hle1.ι.trans hle.ι
    have g1 : E'.ι.fv[σ.h.giv.nv]? = some { n := (cap' : Nat) } := hle.ι.fv _ _ f1
    have u1 : (IE.fv σ.h.giv.nv).upto E'.ι.nv = true := by simpa only [IE.upto] using up_ofQ g1
    have n1 : (IE.fv σ.h.giv.nv).den E'.ι = (cap' : Int) := by simp only [IE.den, Unk.fn, g1]; rfl
    have nd : n.den E'.ι = ((t.den E.ι).length : Int) := by rw [IE.den_le hleι un]; exact hn
    have td : t.den E'.ι = t.den E.ι := TX.den_le hleι ut
    have nu := IE.below_le hleι.nv un
    refine ⟨?_, (byteVals (t.den E.ι) ++ List.replicate (cap' - (t.den E.ι).length) (Value.int .u8 0)).toArray, (cap', cap' + 1), List.replicate (cap' - (t.den E.ι).length) (Value.int .u8 0), rfl, fun i hi => Or.inr (by simp [byteVals_length] at hi; omega), ?_, ⟨TX.below_le hleι.nv ut, nu, u1⟩, ?_, ?_, ?_⟩
    · simp only [AV.den]
      rw [if_pos ⟨by simp only [below_lit, nu, u1, Bool.and_self], by simp only [IE.den]; omega, by rw [nd]; omega, by rw [nd, n1]; omega⟩, hb]
      simp only [nd, Option.map_some, Int.toNat_zero, Nat.zero_mul, Nat.add_zero, Int.toNat_natCast, IE.den]
      have n2 : E'.ι.fn σ.h.giv.nv = (cap' : Int) := n1
      rw [n2]
      simp only [Int.toNat_natCast, k3]
    · simp only [RX.den, td]; rfl
    · simp only [RX.den, td, nd, List.length_map, List.length_cons, List.length_nil]; omega
    · rw [n1]; simp [byteVals_length]; omega
    · intro i q v hi hv
      have hq : q = .int .u8 := by
        have : i % [CK.int .u8].length = 0 := Nat.mod_one i
        rw [this] at hi
        simpa using hi.symm
      subst hq
      simp only [RX.den, List.getElem?_map, Option.map_eq_some_iff] at hv
      obtain ⟨b, _, rfl⟩ := hv
      have := b.toNat_lt
      exact ⟨_, rfl, by rw [show IntKind.u8.min = 0 by decide]; omega, by rw [show IntKind.u8.max = 255 by decide]; omega⟩) (fun k' hk' => by cases hk')
  exact ⟨E', hle1.trans hle', hI'⟩

theorem mem_listAll {L : Array Bool} : ∀ {fa : List Nat} {j : Nat}, (∀ e ∈ fa, e < L.size) → ((listAll L fa).getD j false = true ↔ L.getD j false = true ∨ j ∈ fa)
  | [], j, _ => by simp [listAll]
  | i :: fa, j, hf => by
    have ih := mem_listAll (L := L.setIfInBounds i true) (fa := fa) (j := j) (fun e he => by simpa using hf e (List.mem_cons_of_mem _ he))
    simp only [listAll]
    rw [ih, getD_set (hf i List.mem_cons_self)]
    simp only [List.mem_cons]
    constructor
    · rintro ((h | h) | h)
      · exact Or.inr (Or.inl h)
      · exact Or.inl h
      · exact Or.inr (Or.inr h)
    · rintro (h | h | h)
      · exact Or.inl (Or.inr h)
      · exact Or.inl (Or.inl h)
      · exact Or.inr h

theorem size_listAll {L : Array Bool} : ∀ {fa : List Nat}, (listAll L fa).size = L.size
  | [] => rfl
  | i :: fa => by simp only [listAll]; rw [size_listAll]; simp

/-- What may come up: one of those that lay, or the one. -/
theorem next_is (hI : Inv P ops B E0 w0 E σ LA El a w LC) {fa : List Nat} (hfa : ∀ e ∈ fa, e < ops.size) (hEl : ∀ p ∈ El, p.1 ∈ fa) {i j : Nat} (h1 : Region.ready .any ops (listAll LA fa) = [i]) (hj : j ∈ Region.ready .any ops LC) : j ∈ fa ∨ j = i := by
  by_cases hjf : j ∈ fa
  · exact Or.inl hjf
  · right
    have : j ∈ Region.ready .any ops (listAll LA fa) := by
      rw [mem_ready] at hj ⊢
      obtain ⟨g1, o, g2, g3⟩ := hj
      have hsz : (listAll LA fa).size = ops.size := by rw [size_listAll, hI.sA]
      have hm := fun k => mem_listAll (L := LA) (fa := fa) (j := k) (fun e he => by rw [hI.sA]; exact hfa e he)
      refine ⟨?_, o, g2, fun e he hb => (hm e.on).2 ?_⟩
      · rw [unl hsz]
        have hu := unlisted hI g1
        rw [unl hI.sA] at hu
        refine ⟨hu.1.1, ?_⟩
        cases hc : (listAll LA fa).getD j false with
        | false => rfl
        | true =>
          rcases (hm j).1 hc with h | h
          · rw [hu.1.2] at h; cases h
          · exact absurd h hjf
      · rcases (hI.listed e.on).1 (g3 e he hb) with h | ⟨p, hp, he'⟩
        · exact Or.inl h
        · exact Or.inr (he' ▸ hEl p hp)
    rw [h1] at this
    simpa using this

end
end Go.Sx
