/-
  A WALKER THAT COMPUTES: regions whose order is drawn.
-/
import Derived.Test.YtobmdlcdemolpaaGreatDoorSxP
import Derived.OrdersHeld
namespace Go.Sx

mutual
theorem AV.beq_eq : ∀ (u v : AV), AV.beq u v = true → u = v
  | .bool a, v, h => by cases v <;> simp [AV.beq] at h; subst h; rfl
  | .int k a, v, h => by cases v <;> simp [AV.beq] at h; obtain ⟨rfl, rfl⟩ := h; rfl
  | .str s, v, h => by cases v <;> simp [AV.beq] at h; subst h; rfl
  | .strv s, v, h => by cases v <;> simp [AV.beq] at h; subst h; rfl
  | .capv s t, v, h => by cases v <;> simp [AV.beq] at h; obtain ⟨rfl, rfl⟩ := h; rfl
  | .glob s t, v, h => by cases v <;> simp [AV.beq] at h; obtain ⟨rfl, rfl⟩ := h; rfl
  | .yield s, v, h => by cases v <;> simp [AV.beq] at h
  | .nilPtr, v, h => by cases v <;> simp [AV.beq] at h; rfl
  | .ptr b o, v, h => by cases v <;> simp [AV.beq] at h; obtain ⟨rfl, rfl⟩ := h; rfl
  | .nilSlice, v, h => by cases v <;> simp [AV.beq] at h; rfl
  | .slice b o n c, v, h => by
    cases v with
    | slice b' o' n' c' =>
      cases c <;> cases c' <;> simp [AV.beq] at h
      · obtain ⟨⟨⟨rfl, rfl⟩, rfl⟩, rfl⟩ := h; rfl
      · obtain ⟨⟨⟨⟨rfl, rfl⟩, rfl⟩, rfl⟩, rfl⟩ := h; rfl
    | _ => simp [AV.beq] at h
  | .nilMap, v, h => by cases v <;> simp [AV.beq] at h; rfl
  | .map b, v, h => by cases v <;> simp [AV.beq] at h; subst h; rfl
  | .func f a b, v, h => by
    cases v with
    | func g c d =>
      simp only [AV.beq, Bool.and_eq_true, decide_eq_true_eq] at h
      obtain ⟨⟨rfl, h1⟩, h2⟩ := h
      rw [AV.beqL_eq a c h1, AV.beqL_eq b d h2]
    | _ => simp [AV.beq] at h
  | .nilFunc, v, h => by cases v <;> simp [AV.beq] at h; rfl
  | .iface t a, v, h => by
    cases v with
    | iface u b =>
      simp only [AV.beq, Bool.and_eq_true, decide_eq_true_eq] at h
      obtain ⟨rfl, h1⟩ := h
      rw [AV.beq_eq a b h1]
    | _ => simp [AV.beq] at h
  | .nilIface, v, h => by cases v <;> simp [AV.beq] at h; rfl
  | .agg a, v, h => by
    cases v with
    | agg b => simp only [AV.beq] at h; rw [AV.beqL_eq a b h]
    | _ => simp [AV.beq] at h
  | .tuple a, v, h => by
    cases v with
    | tuple b => simp only [AV.beq] at h; rw [AV.beqL_eq a b h]
    | _ => simp [AV.beq] at h
theorem AV.beqL_eq : ∀ (u v : List AV), AV.beqL u v = true → u = v
  | [], v, h => by cases v <;> simp [AV.beqL] at h; rfl
  | a :: u, v, h => by
    cases v with
    | nil => simp [AV.beqL] at h
    | cons b v =>
      simp only [AV.beqL, Bool.and_eq_true] at h
      rw [AV.beq_eq a b h.1, AV.beqL_eq u v h.2]
end

/-! ### What is held of memory -/

abbrev Facts := List (Addr × Value)

def SC (C : Facts) (w : World) : Prop := ∀ p ∈ C, w.cell? p.1 = some p.2

def Conc (E : Env) (S : Held) (C : Facts) : Prop := ∀ p ∈ C, ∃ q ∈ S, ∃ c, E.ρ[q.1]? = some c ∧ p.1 = ⟨c, q.2.1, none⟩ ∧ q.2.2.den E = some p.2

section
variable {P : Program} {E : Env} {B : Nat} {h : Hp} {w : World}

theorem Conc.mono {E' : Env} {S : Held} {C : Facts} (hC : Conc E S C) (hE : E.Le E') : Conc E' S C := fun p hp => by
  obtain ⟨q, hq, c, h1, h2, h3⟩ := hC p hp
  exact ⟨q, hq, c, hE.ρ _ _ h1, h2, AV.den_mono hE _ _ h3⟩

theorem Conc.both {S S' : Held} {C C' : Facts} (h1 : Conc E S C) (h2 : Conc E S' C') : Conc E (S ++ S') (C ++ C') := fun p hp => by
  rcases List.mem_append.1 hp with hp | hp
  · obtain ⟨q, hq, r⟩ := h1 p hp
    exact ⟨q, List.mem_append_left _ hq, r⟩
  · obtain ⟨q, hq, r⟩ := h2 p hp
    exact ⟨q, List.mem_append_right _ hq, r⟩

theorem keeps_mem : ∀ {S : Held}, keeps h S = true → ∀ q ∈ S, h.cell? q.1 q.2.1 = some q.2.2
  | [], _, q, hq => by cases hq
  | (b, o, v) :: r, hk, q, hq => by
    simp only [keeps, Bool.and_eq_true] at hk
    rcases List.mem_cons.1 hq with rfl | hq
    · have h1 := hk.1
      split at h1
      · rename_i u hu
        rw [hu, AV.beq_eq u v h1]
      · cases h1
    · exact keeps_mem hk.2 q hq

theorem keeps_sound (hw : WR E B h w) {S : Held} {C : Facts} (hC : Conc E S C) (hk : keeps h S = true) : SC C w := fun p hp => by
  obtain ⟨q, hq, c, h1, h2, h3⟩ := hC p hp
  obtain ⟨x, hx, hc⟩ := cell_sound hw h1 (keeps_mem hk q hq)
  rw [h3] at hx
  injection hx with hx
  rw [h2, hc, hx]

def concFrom (c o : Nat) : List Value → Facts
  | [] => []
  | x :: r => (⟨c, o, none⟩, x) :: concFrom c (o + 1) r

theorem concFrom_conc {b c : Nat} (hb : E.ρ[b]? = some c) : ∀ (vs : List AV) (xs : List Value) (o : Nat), AV.denL E vs = some xs → Conc E (heldFrom b o vs) (concFrom c o xs)
  | [], xs, o, hx => by simp [AV.denL] at hx; subst hx; exact fun p hp => by cases hp
  | v :: vs, xs, o, hx => by
    obtain ⟨y, ys, hy, hys, rfl⟩ := denL_cons.1 hx
    intro p hp
    rcases List.mem_cons.1 hp with rfl | hp
    · exact ⟨(b, o, v), List.mem_cons_self, c, hb, rfl, hy⟩
    · obtain ⟨q, hq, r⟩ := concFrom_conc hb vs ys (o + 1) hys p hp
      exact ⟨q, List.mem_cons_of_mem _ hq, r⟩

theorem concFrom_iff {c : Nat} : ∀ (xs : List Value) (o : Nat), SC (concFrom c o xs) w ↔ ∀ (j : Nat) (x : Value), xs[j]? = some x → w.cell? ⟨c, o + j, none⟩ = some x
  | [], o => by simp [SC, concFrom]
  | x :: xs, o => by
    have ih := concFrom_iff (c := c) xs (o + 1)
    simp only [SC, concFrom, List.mem_cons, forall_eq_or_imp] at ih ⊢
    rw [ih]
    constructor
    · rintro ⟨h0, h1⟩ j y hy
      cases j with
      | zero => simp at hy; subst hy; simpa using h0
      | succ j =>
        have := h1 j y (by simpa using hy)
        rwa [show o + 1 + j = o + (j + 1) by omega] at this
    · intro hh
      refine ⟨by simpa using hh 0 x rfl, fun j y hy => ?_⟩
      have := hh (j + 1) y (by simpa using hy)
      rwa [show o + (j + 1) = o + 1 + j by omega] at this

theorem bytes_convert {src dst e : TypeId} {c o n m : Nat} {ns : List Int} (hsd : P.underlying src = some (.slice e)) (he : P.underlying e = some (.int .u8)) (hdd : P.underlying dst = some .string) (hn : ns.length = n) (w' : World)
    (hcl : ∀ (j : Nat) (v : Value), (ns.map (Value.int .u8))[j]? = some v → w'.cell? ⟨c, o + j, none⟩ = some v) :
    (convert src dst (.slice (some ⟨c, o, none⟩) n m)).run P w' = .ok (.string ⟨(ns.map fun n => UInt8.ofNat n.toNat).toArray⟩) w' := by
  have hrun := run_loadCells_list (P := P) w' ⟨c, o, none⟩ (ns.map (Value.int .u8)) (fun j v hj => by rw [Addr.add_lit]; exact hcl j v hj)
  rw [List.length_map, hn] at hrun
  have hb := run_bytesToString (P := P) w' ⟨c, o, none⟩ n m ns hrun
  have hfold : ∀ (ns : List Int) (acc : ByteArray), ns.foldl (fun r n => r.push (UInt8.ofNat n.toNat)) acc = ⟨acc.data ++ (ns.map fun n => UInt8.ofNat n.toNat).toArray⟩ := by
    intro ns
    induction ns with
    | nil => intro acc; simp
    | cons n ns ih => intro acc; rw [List.foldl_cons, ih]; apply ByteArray.ext; simp [ByteArray.push]
  rw [run_convert_bytes_string w' src dst e _ _ _ hsd he hdd, hb, hfold]
  have : (ByteArray.empty.data ++ (ns.map fun n => UInt8.ofNat n.toNat).toArray) = (ns.map fun n => UInt8.ofNat n.toNat).toArray := by
    rw [show ByteArray.empty.data = #[] from rfl]
    simp
  rw [this]

theorem aopLoad_sound {D : Nat → Prop} {tmps : List AV} {a : Act} {o : Oper} {v : AV} {F : Held} (hS : Slots E D tmps a) (hc : ∀ x ∈ o.op.operands, Clear D x) (hw : WR E B h w) (hr : aopLoad P tmps h o = some (v, F)) :
    ∃ z C, v.den E = some z ∧ Conc E F C ∧ SC C w ∧ ∀ w', SC C w' → (execOp a.eval o).run P w' = .ok (.value z) w' := by
  obtain ⟨dst, op, type, pos, after, guard⟩ := o
  unfold aopLoad at hr
  simp only at hr hc
  split at hr
  · rename_i t x
    simp only [Option.bind_eq_bind, Option.bind_eq_some_iff] at hr
    obtain ⟨p, hp, hr⟩ := hr
    have hd := opnd_den hS (hc x (by simp [Op.operands])) hp
    split at hr
    · rename_i b o'
      obtain ⟨c, hcb, he⟩ := denPtr hd
      simp only [Option.bind_eq_some_iff, Option.pure_def] at hr
      obtain ⟨g, hg, hr⟩ := hr
      split at hr
      · rename_i ht
        simp only [Option.bind_eq_some_iff, Option.some.injEq, Prod.mk.injEq] at hr
        obtain ⟨n, hn, vs, hvs, rfl, rfl⟩ := hr
        obtain ⟨l, hl, hlen, hcl⟩ := loadFrom_den hw hcb n o' vs hvs
        refine ⟨.agg l.toArray, concFrom c o' l, by simp [AV.den, hl], concFrom_conc hcb vs l o' hl, (concFrom_iff l o').2 hcl, fun w' hw' => ?_⟩
        have hcl' := (concFrom_iff l o').1 hw'
        have hrun := run_loadCells_list (P := P) w' ⟨c, o', none⟩ l (fun j v hj => by rw [Addr.add_lit]; exact hcl' j v hj)
        rw [hlen] at hrun
        simp [execOp, Instr.loadAt, Instr.sureAddr, he, loadVar, run_isAgg hg, ht, run_size hn, hrun]
      · rename_i ht
        simp only [Option.bind_eq_some_iff, Option.some.injEq, Prod.mk.injEq] at hr
        obtain ⟨u, hu, rfl, rfl⟩ := hr
        obtain ⟨x', hx, hcx⟩ := cell_sound hw hcb hu
        refine ⟨x', [(⟨c, o', none⟩, x')], hx, ?_, ?_, fun w' hw' => ?_⟩
        · intro p hp
          rw [List.mem_singleton] at hp
          subst hp
          exact ⟨(b, o', u), List.mem_singleton.2 rfl, c, hcb, rfl, hx⟩
        · intro p hp
          rw [List.mem_singleton] at hp
          subst hp
          exact hcx
        · have := hw' _ (List.mem_singleton.2 rfl)
          simp only at this
          simp [execOp, Instr.loadAt, Instr.sureAddr, he, loadVar, run_isAgg hg, ht, this]
    · rename_i c o'
      have he := denGlob hd
      simp only [Option.bind_eq_some_iff, Option.pure_def] at hr
      obtain ⟨b, hsp, hr⟩ := hr
      have hcb := spot_sound hw hsp
      obtain ⟨g, hg, hr⟩ := hr
      split at hr
      · rename_i ht
        simp only [Option.bind_eq_some_iff, Option.some.injEq, Prod.mk.injEq] at hr
        obtain ⟨n, hn, vs, hvs, rfl, rfl⟩ := hr
        obtain ⟨l, hl, hlen, hcl⟩ := loadFrom_den hw hcb n o' vs hvs
        refine ⟨.agg l.toArray, concFrom c o' l, by simp [AV.den, hl], concFrom_conc hcb vs l o' hl, (concFrom_iff l o').2 hcl, fun w' hw' => ?_⟩
        have hcl' := (concFrom_iff l o').1 hw'
        have hrun := run_loadCells_list (P := P) w' ⟨c, o', none⟩ l (fun j v hj => by rw [Addr.add_lit]; exact hcl' j v hj)
        rw [hlen] at hrun
        simp [execOp, Instr.loadAt, Instr.sureAddr, he, loadVar, run_isAgg hg, ht, run_size hn, hrun]
      · rename_i ht
        simp only [Option.bind_eq_some_iff, Option.some.injEq, Prod.mk.injEq] at hr
        obtain ⟨u, hu, rfl, rfl⟩ := hr
        obtain ⟨x', hx, hcx⟩ := cell_sound hw hcb hu
        refine ⟨x', [(⟨c, o', none⟩, x')], hx, ?_, ?_, fun w' hw' => ?_⟩
        · intro p hp
          rw [List.mem_singleton] at hp
          subst hp
          exact ⟨(b, o', u), List.mem_singleton.2 rfl, c, hcb, rfl, hx⟩
        · intro p hp
          rw [List.mem_singleton] at hp
          subst hp
          exact hcx
        · have := hw' _ (List.mem_singleton.2 rfl)
          simp only at this
          simp [execOp, Instr.loadAt, Instr.sureAddr, he, loadVar, run_isAgg hg, ht, this]
    · cases hr
  · -- a text of bytes
    rename_i src dst' x
    simp only [Option.bind_eq_bind, Option.bind_eq_some_iff] at hr
    obtain ⟨p, hp, hr⟩ := hr
    have hd := opnd_den hS (hc x (by simp [Op.operands])) hp
    split at hr
    · rename_i e b o' n cap hsd hdd
      split at hr
      · rename_i he
        simp only [Option.bind_eq_some_iff, Option.pure_def, Option.some.injEq, Prod.mk.injEq] at hr
        obtain ⟨vs, hvs, s, hss, rfl, rfl⟩ := hr
        obtain ⟨c, m, hcb, hm, hle, hx⟩ := denSlice hd
        obtain ⟨l, hl, hlen, hcl⟩ := loadFrom_den hw hcb n o' vs hvs
        obtain ⟨ns, e1, e2⟩ := byteCells_den hss hl
        refine ⟨.string ⟨s.toArray⟩, concFrom c o' l, by simp [AV.den], concFrom_conc hcb vs l o' hl, (concFrom_iff l o').2 hcl, fun w' hw' => ?_⟩
        have hcl' := (concFrom_iff l o').1 hw'
        have hnl : ns.length = n := by rw [← hlen, e1]; simp
        have := bytes_convert (P := P) (m := m) hsd he hdd hnl w' (fun j v hj => hcl' j v (by rw [e1]; exact hj))
        simp [execOp, hx, this, e2]
      · cases hr
    · cases hr
  · cases hr

/-- Whatever order is picked, with what is held hanging on what has come up. -/
def wpAnyK (P : Program) (md : Region.Mode) (ops : Array Oper) (Q : Exit → Act → World → Prop) (S : Array Bool → World → Prop) : Nat → Array Bool → Act → World → Prop
  | 0, L, a, w => Region.ready md ops L = [] ∧ Q .normal a w
  | n + 1, L, a, w => (Region.ready md ops L = [] → Q .normal a w) ∧
    ∀ i ∈ Region.ready md ops L, wpOp P ops Q i (fun a' w' => S (L.setIfInBounds i true) w' ∧ wpAnyK P md ops Q S n (L.setIfInBounds i true) a' w') a w

section
variable {ops : Array Oper} {Q : Exit → Act → World → Prop} {md : Region.Mode} {S : Array Bool → World → Prop}

theorem wpAny_of_K : ∀ (n : Nat) (L : Array Bool) (a : Act) (w : World), wpAnyK P md ops Q S n L a w → wpAny P md ops Q n L a w
  | 0, _, _, _, h => h
  | n + 1, _, _, _, h => ⟨h.1, fun i hi => wpOp_mono (fun a' w' h' => wpAny_of_K n _ a' w' h'.2) (h.2 i hi)⟩

theorem wpAnyK_more {S' : Array Bool → World → Prop} (hs : ∀ L w, S' L w → S L w) : ∀ (n : Nat) (L : Array Bool) (a : Act) (w : World), wpAnyK P md ops Q S' n L a w → wpAnyK P md ops Q S n L a w
  | 0, _, _, _, h => h
  | n + 1, _, _, _, h => ⟨h.1, fun i hi => wpOp_mono (fun a' w' h' => ⟨hs _ _ h'.1, wpAnyK_more hs n _ a' w' h'.2⟩) (h.2 i hi)⟩

theorem wpAnyK_done {L : Array Bool} {a : Act} {w : World} (hr : Region.ready md ops L = []) (h : Q .normal a w) : ∀ n, wpAnyK P md ops Q S n L a w
  | 0 => ⟨hr, h⟩
  | _ + 1 => ⟨fun _ => h, by rw [hr]; intro i hi; cases hi⟩

/-- One may be taken first whose value hangs on what is held until one of 'W', which all wait for it, has come up. -/
theorem wpAnyK_first {i : Nat} {oi : Oper} {v : Value} {Si : World → Prop} {W : List Nat} (hi : ops[i]? = some oi) (hsel : ∀ (j : Nat) (o : Oper) cs b, ops[j]? = some o → o.op ≠ .select cs b)
    (hQ : ∀ c a w, Q (.panic c) (a.put oi.dst v) w → Q (.panic c) a w) (hW : ∀ j ∈ W, ∀ oj, ops[j]? = some oj → ∃ e ∈ oj.after, Region.binds md e = true ∧ (e.on = i ∨ e.on ∈ W))
    (hSi : ∀ (L : Array Bool) (w : World), (∀ j ∈ W, L.getD j false = false) → S (L.setIfInBounds i true) w → Si w) (hmono : ∀ (L : Array Bool) (w : World), S (L.setIfInBounds i true) w → S L w) :
    ∀ (n : Nat) (L : Array Bool) (a : Act) (w : World),
      (∀ j oj, ops[j]? = some oj → j ≠ i → L.getD j true = false → (∀ e ∈ oj.after, Region.binds md e = true → e.on ≠ i) → oi.apart ops oj = true) →
      i ∈ Region.ready md ops L → (∀ j ∈ W, L.getD j false = false) → YieldsIf P ops Si oi v a → S (L.setIfInBounds i true) w →
      wpAnyK P md ops Q S n (L.setIfInBounds i true) (a.put oi.dst v) w → wpAnyK P md ops Q S (n + 1) L a w := by
  intro n
  induction n with
  | zero =>
    intro L a w _ hr hw hy hS H
    refine ⟨fun h => (by rw [h] at hr; cases hr), fun j hj => ?_⟩
    by_cases hji : j = i
    · subst hji; exact hy.wpOp hi (hSi L w hw hS) ⟨hS, H⟩
    · have := ready_mono hj hji
      rw [H.1] at this
      cases this
  | succ n ih =>
    intro L a w hfree hr hw hy hS H
    refine ⟨fun h => (by rw [h] at hr; cases hr), fun j hj => ?_⟩
    by_cases hji : j = i
    · subst hji; exact hy.wpOp hi (hSi L w hw hS) ⟨hS, H⟩
    · have h1 := H.2 j (ready_mono hj hji)
      obtain ⟨hjun, oj, hoj, hall⟩ := mem_ready.1 hj
      have hiun := (mem_ready.1 hr).1
      have hif : L.getD i false = false := by
        rcases Nat.lt_or_ge i L.size with h' | h'
        · simp [h'] at hiun ⊢; exact hiun
        · simp [Array.getElem?_eq_none h']
      have hnot : ∀ e ∈ oj.after, Region.binds md e = true → e.on ≠ i := fun e he hb heq => by
        have h2 := hall e he hb
        rw [heq, hif] at h2
        cases h2
      have h2 := wpOp_putIf hoj (hfree j oj hoj hji hjun hnot) (fun cs b => hsel i oi cs b hi) (fun cs b => hsel j oj cs b hoj) hQ hy h1
      have hw' : ∀ k ∈ W, (L.setIfInBounds j true).getD k false = false := fun k hk => by
        by_cases hjk : j = k
        · subst hjk
          obtain ⟨e, he, hb, ho⟩ := hW j hk oj hoj
          rcases ho with ho | ho
          · exact absurd ho (hnot e he hb)
          · have h5 := hall e he hb
            rw [hw _ ho] at h5
            cases h5
        · rw [getD_set_ne false hjk]; exact hw k hk
      have hfree' : ∀ k ok, ops[k]? = some ok → k ≠ i → (L.setIfInBounds j true).getD k true = false →
          (∀ e ∈ ok.after, Region.binds md e = true → e.on ≠ i) → oi.apart ops ok = true := fun k ok hk hki hun hno => by
        refine hfree k ok hk hki ?_ hno
        by_cases hjk : j = k
        · subst hjk; exact hjun
        · rw [getD_set_ne true hjk] at hun; exact hun
      refine wpOp_mono (fun a' w' h3 => ?_) h2
      obtain ⟨hy', hS', h4⟩ := h3
      rw [Array.setIfInBounds_comm _ _ (Ne.symm hji)] at hS' h4
      exact ⟨hmono _ _ hS', ih (L.setIfInBounds j true) a' w' hfree' (ready_mono hr (Ne.symm hji)) hw' hy' hS' h4⟩

end

/-! ### What is held, until when -/

abbrev TC := List (Facts × List Nat)

def ST (T : TC) (L : Array Bool) (w : World) : Prop := ∀ t ∈ T, (∀ j ∈ t.2, L.getD j false = false) → SC t.1 w

def ConcT (E : Env) (S : Tags) (T : TC) : Prop := ∀ t ∈ T, ∃ q ∈ S, q.2 = t.2 ∧ Conc E q.1 t.1

theorem ConcT.mono {E' : Env} {S : Tags} {T : TC} (hC : ConcT E S T) (hE : E.Le E') : ConcT E' S T := fun t ht => by
  obtain ⟨q, hq, h1, h2⟩ := hC t ht
  exact ⟨q, hq, h1, h2.mono hE⟩

theorem ST.later {T : TC} {L L' : Array Bool} (h : ST T L w) (hL : ∀ j, L.getD j false = true → L'.getD j false = true) : ST T L' w := fun t ht hn => h t ht fun j hj => by
  cases hc : L.getD j false with
  | false => rfl
  | true => have h3 := hn j hj; rw [hL j hc] at h3; cases h3

theorem keepsT_mem {L : Array Bool} : ∀ {S : Tags}, keepsT h L S = true → ∀ q ∈ S, (∀ j ∈ q.2, L.getD j false = false) → keeps h q.1 = true
  | [], _, q, hq, _ => by cases hq
  | (F, D) :: r, hk, q, hq, hn => by
    simp only [keepsT, Bool.and_eq_true, Bool.or_eq_true] at hk
    rcases List.mem_cons.1 hq with rfl | hq
    · rcases hk.1 with h1 | h1
      · obtain ⟨j, hj, hl⟩ := List.any_eq_true.1 h1
        have := hn j hj
        rw [this] at hl
        cases hl
      · exact h1
    · exact keepsT_mem hk.2 q hq hn

theorem keepsT_sound (hw : WR E B h w) {S : Tags} {T : TC} {L L' : Array Bool} (hC : ConcT E S T) (hk : keepsT h L S = true) (hL : ∀ j, L.getD j false = true → L'.getD j false = true) : ST T L' w := fun t ht hn => by
  obtain ⟨q, hq, h1, h2⟩ := hC t ht
  refine keeps_sound hw h2 (keepsT_mem hk q hq fun j hj => ?_)
  cases hc : L.getD j false with
  | false => rfl
  | true => have h3 := hn j (h1 ▸ hj); rw [hL j hc] at h3; cases h3

end

/-! ### Those that have come up early -/

section
variable {P : Program} {ops : Array Oper} {B : Nat}

/-- An operation 'p.1' has laid block 'p.2', and nobody knows of it yet. -/
def Log (P : Program) (ops : Array Oper) (E : Env) (w0 : World) (a : Act) (w : World) (p : Nat × Nat) : Prop :=
  ∃ (o : Oper) (d : Tmp) (w1 : World) (x : Value) (obj : Obj) (w2 : World), ops[p.1]? = some o ∧ o.dst = some d ∧ w1.heap.size = p.2 ∧ (execOp a.eval o).run P w1 = .ok (.value x) w2 ∧ Laid w1 obj w2 ∧
    a.tmps[d]? = some x ∧ w.heap[p.2]? = some obj ∧ (∀ b : Nat, E.ρ[b]? ≠ some p.2) ∧ w0.heap.size ≤ p.2

/-- The slots of those that have come up early. -/
def Ds (ops : Array Oper) (El : List (Nat × Nat)) (d : Nat) : Prop := ∃ p ∈ El, ∃ o, ops[p.1]? = some o ∧ o.dst = some d

structure Inv (P : Program) (ops : Array Oper) (B : Nat) (E0 : Env) (w0 : World) (E : Env) (σ : St) (LA : Array Bool) (El : List (Nat × Nat)) (a : Act) (w : World) (LC : Array Bool) : Prop where
  sr : SR E B (Ds ops El) σ a w
  le : E0.Le E
  fr : Fr E0 E w0 w
  sA : LA.size = ops.size
  sC : LC.size = ops.size
  listed : ∀ j, LC.getD j false = true ↔ LA.getD j false = true ∨ ∃ p ∈ El, p.1 = j
  rdy : ∀ p ∈ El, p.1 ∈ Region.ready .any ops LA
  uniq : ∀ p ∈ El, ∀ q ∈ El, p.1 = q.1 ∨ p.2 = q.2 → p = q
  log : ∀ p ∈ El, Log P ops E w0 a w p

theorem unl {L : Array Bool} (hs : L.size = ops.size) (j : Nat) : L.getD j true = false ↔ j < ops.size ∧ L.getD j false = false := by
  rcases Nat.lt_or_ge j L.size with hj | hj
  · simp [hj, ← hs]
  · simp [Array.getElem?_eq_none hj]
    omega

theorem getD_set_self {L : Array Bool} {i : Nat} (hi : i < L.size) : (L.setIfInBounds i true).getD i false = true := by simp [hi]

theorem getD_set {L : Array Bool} {i : Nat} (hi : i < L.size) (j : Nat) : (L.setIfInBounds i true).getD j false = true ↔ j = i ∨ L.getD j false = true := by
  by_cases hij : i = j
  · subst hij
    simp [hi]
  · rw [getD_set_ne false hij]
    constructor
    · exact Or.inr
    · rintro (h | h)
      · exact absurd h.symm hij
      · exact h

theorem apart2_spec {i j : Nat} {x y : Oper} (hi : ops[i]? = some x) (hj : ops[j]? = some y) (h : apart2 ops i j = true) : x.apart ops y = true ∧ y.apart ops x = true := by
  unfold apart2 at h
  rw [hi, hj] at h
  simpa using h

theorem clear_apart {i : Nat} {o : Oper} {El : List (Nat × Nat)} (hi : ops[i]? = some o) (hap : ∀ p ∈ El, apart2 ops i p.1 = true) : (∀ x ∈ o.op.operands, Clear (Ds ops El) x) ∧ GuardClear ops (Ds ops El) o := by
  constructor
  · rintro x hx t rfl ⟨p, hp, oe, hoe, hd⟩
    have h3 := (Oper.apart_spec (apart2_spec hi hoe (hap p hp)).1).2.2 t hd
    exact h3 (List.mem_append_left _ (List.mem_filterMap.2 ⟨.tmp t, by simpa using hx, rfl⟩))
  · rintro j want d hg hj ⟨p, hp, oe, hoe, hd⟩
    have h3 := (Oper.apart_spec (apart2_spec hi hoe (hap p hp)).1).2.2 d hd
    exact h3 (List.mem_append_right _ (by rw [hg]; simp [hj]))

theorem put_other {a : Act} {d : Tmp} {x : Value} (dst : Option Tmp) (h : dst ≠ some d) : (a.put dst x).tmps[d]? = a.tmps[d]? := by
  cases dst with
  | none => rfl
  | some e =>
    have : e ≠ d := fun he => h (by rw [he])
    simp [Act.put, Array.getElem?_setIfInBounds_ne this]

theorem Log.put {E : Env} {w0 w : World} {a : Act} {p : Nat × Nat} (hsel : Region.noSelect ops = true) {i : Nat} {oi : Oper} (hi : ops[i]? = some oi) (hap : apart2 ops i p.1 = true) (x : Value) (h : Log P ops E w0 a w p) :
    Log P ops E w0 (a.put oi.dst x) w p := by
  obtain ⟨o, d, w1, y, obj, w2, h1, h2, h3, h4, h5, h6, h7, h8, h9⟩ := h
  obtain ⟨hx, _⟩ := apart2_spec hi h1 hap
  obtain ⟨k1, k2, _⟩ := Oper.apart_spec hx
  refine ⟨o, d, w1, y, obj, w2, h1, h2, h3, ?_, h5, ?_, h7, h8, h9⟩
  · rw [execOp_put o (fun cs b => Region.noSelect_spec hsel p.1 o cs b h1) a oi.dst x k1]
    exact h4
  · rw [put_other oi.dst (fun he => k2 d he h2)]
    exact h6

theorem Log.world {E E' : Env} {w0 w w' : World} {a : Act} {p : Nat × Nat} (h : Log P ops E w0 a w p) (hf : Fr E E' w w') : Log P ops E' w0 a w' p := by
  obtain ⟨o, d, w1, y, obj, w2, h1, h2, h3, h4, h5, h6, h7, h8, h9⟩ := h
  have hlt : p.2 < w.heap.size := (Array.getElem?_eq_some_iff.1 h7).1
  refine ⟨o, d, w1, y, obj, w2, h1, h2, h3, h4, h5, h6, by rw [hf.block _ hlt h8]; exact h7, fun b hb => ?_, h9⟩
  rcases hf.fresh b _ hb with ⟨b0, hb0⟩ | hge
  · exact h8 b0 hb0
  · omega

/-- One more is carried out, and known. -/
theorem Inv.step {E0 : Env} {w0 : World} {E : Env} {σ : St} {LA : Array Bool} {El : List (Nat × Nat)} {a : Act} {w : World} {LC : Array Bool} (hI : Inv P ops B E0 w0 E σ LA El a w LC) (hsel : Region.noSelect ops = true)
    {i : Nat} {oi : Oper} (hi : ops[i]? = some oi) (hap : ∀ p ∈ El, apart2 ops i p.1 = true) (hni : ∀ p ∈ El, p.1 ≠ i) {E' : Env} {σ' : St} {x : Value} {w' : World} (hS : SR E' B (Ds ops El) σ' (a.put oi.dst x) w') (hle : E.Le E') (hf : Fr E E' w w') :
    Inv P ops B E0 w0 E' σ' (LA.setIfInBounds i true) El (a.put oi.dst x) w' (LC.setIfInBounds i true) where
  sr := hS
  le := hI.le.trans hle
  fr := hI.fr.trans hf
  sA := by simp [hI.sA]
  sC := by simp [hI.sC]
  listed := fun j => by
    have hlt : i < ops.size := (Array.getElem?_eq_some_iff.1 hi).1
    rw [getD_set (by rw [hI.sC]; exact hlt), getD_set (by rw [hI.sA]; exact hlt), hI.listed j, or_assoc]
  rdy := fun p hp => ready_mono (hI.rdy p hp) (hni p hp)
  uniq := hI.uniq
  log := fun p hp => ((hI.log p hp).put hsel hi (hap p hp) x).world hf

theorem Inv.ready {E0 : Env} {w0 : World} {E : Env} {σ : St} {LA : Array Bool} {El : List (Nat × Nat)} {a : Act} {w : World} {LC : Array Bool} (hI : Inv P ops B E0 w0 E σ LA El a w LC) {i : Nat} (hi : i ∈ Region.ready .any ops LA) (hni : ∀ p ∈ El, p.1 ≠ i) :
    i ∈ Region.ready .any ops LC := by
  rw [mem_ready] at hi ⊢
  obtain ⟨h1, o, h2, h3⟩ := hi
  refine ⟨?_, o, h2, fun e he hb => (hI.listed _).2 (Or.inl (h3 e he hb))⟩
  rw [unl hI.sA] at h1
  rw [unl hI.sC]
  refine ⟨h1.1, ?_⟩
  cases hc : LC.getD i false with
  | false => rfl
  | true =>
    rcases (hI.listed i).1 hc with h | ⟨p, hp, he⟩
    · rw [h1.2] at h; cases h
    · exact absurd he (hni p hp)

theorem unlisted {E0 : Env} {w0 : World} {E : Env} {σ : St} {LA : Array Bool} {El : List (Nat × Nat)} {a : Act} {w : World} {LC : Array Bool} (hI : Inv P ops B E0 w0 E σ LA El a w LC) {j : Nat} (h : LC.getD j true = false) :
    LA.getD j true = false ∧ ∀ p ∈ El, p.1 ≠ j := by
  rw [unl hI.sC] at h
  constructor
  · rw [unl hI.sA]
    refine ⟨h.1, ?_⟩
    cases hc : LA.getD j false with
    | false => rfl
    | true => rw [(hI.listed j).2 (Or.inl hc)] at h; simp at h
  · intro p hp he
    rw [(hI.listed j).2 (Or.inr ⟨p, hp, he⟩)] at h
    simp at h

/-- How many have not come up. -/
def un (L : Array Bool) : Nat := L.toList.count false

theorem un_set {L : Array Bool} {i : Nat} (h : L.getD i true = false) : un (L.setIfInBounds i true) + 1 = un L := by
  have hi : i < L.size := by
    rcases Nat.lt_or_ge i L.size with hi | hi
    · exact hi
    · simp [Array.getElem?_eq_none hi] at h
  have hv : L.toList[i]'(by simpa using hi) = false := by simpa [hi] using h
  unfold un
  rw [Array.toList_setIfInBounds, List.count_set (by simpa using hi), hv]
  have : 0 < L.toList.count false := List.count_pos_iff.2 (hv ▸ List.getElem_mem _)
  have e1 : (if (false == false) = true then 1 else 0 : Nat) = 1 := rfl
  have e2 : (if (true == false) = true then 1 else 0 : Nat) = 0 := rfl
  rw [e1, e2]
  omega

end
end Go.Sx
