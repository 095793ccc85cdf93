/-
  A WALKER THAT COMPUTES, ITS SEVENTH PART: memory.
-/
import Derived.Test.YtbgjceknbcpgjaaSzF
namespace Go.Sx

def ORel (E : Env) : AObj → Obj → Prop
  | .cells c t more _, o => ∃ (c' : Array Value) (fz : Nat × Nat), o = .cells c' t fz ∧ (∀ i, i < c'.size → (fz.1 = fz.2 ∨ i < fz.1)) ∧ c.length ≤ c'.size ∧
      (∀ (i : Nat) (v : AV), c[i]? = some (some v) → ∃ x, v.den E = some x ∧ c'[i]? = some x) ∧
      (match more with | none => c'.size = c.length | some (j, z, lo, hi) => ∃ n, E.κ[j]? = some n ∧ c'.size = n * z ∧ lo ≤ n ∧ (hi = 0 ∨ n ≤ hi))
  | .strIter s pos, o => o = .stringIter ⟨s.toArray⟩ pos
  | .txtIter x pos, o => x.upto E.ι.nv = true ∧ o = .stringIter ⟨(x.den E.ι).toArray⟩ pos
  | .map es clock, o => ∃ es' : Array MapEntry, o = .map es' clock ∧ es'.size = es.length ∧
      ∀ (i : Nat) (k v : AV) (n : Nat), es[i]? = some (k, v, n) → ∃ x y, k.den E = some x ∧ v.den E = some y ∧ es'[i]? = some { key := x, val := y, born := n }
  | .loop st pend tmps params assign body d, o => ∃ (fn : FuncId) (tmps' : List Value) (D : Nat), o = .loop { state := st, pending := pend, fn, tmps := tmps'.toArray, params, assign, body, defers := D } ∧
      AV.denL E tmps = some tmps' ∧ E.ρ[d]? = some D
  | .deferred b, o => o = .deferred (if b then some [] else none)
  | .gone _, _ => True
  | .free, _ => True
  | .row r t ks n c, o => ∃ (c' : Array Value) (fz : Nat × Nat) (tail : List Value), o = .cells c' t fz ∧ (∀ i, i < c'.size → (fz.1 = fz.2 ∨ i < fz.1)) ∧ c'.toList = r.den E.ι ++ tail ∧
      (r.upto E.ι.nv = true ∧ n.upto E.ι.nv = true ∧ c.upto E.ι.nv = true) ∧ ((r.den E.ι).length : Int) = n.den E.ι * ks.length ∧ (c'.size : Int) = c.den E.ι * ks.length ∧
      ∀ (i : Nat) (k : CK) (v : Value), ks[i % ks.length]? = some k → (r.den E.ι)[i]? = some v → k.ok v
  | .grow r _ ks n i q, o => E.ι.obj i = some o ∧ ∃ (te : TypeId) (c' : Array Value) (fz : Nat × Nat) (pre tail : List Value), o = .cells c' te fz ∧ (c'.toList = pre ++ (E.ι.fr r ++ tail) ∧ (E.ι.fr r ≠ [] → pre.length = (q.den E.ι).toNat)) ∧
      (r < E.ι.nv ∧ n.upto E.ι.nv = true ∧ q.upto E.ι.nv = true) ∧ ((E.ι.fr r).length : Int) = n.den E.ι * ks.length ∧
      ∀ (i : Nat) (k : CK) (v : Value), ks[i % ks.length]? = some k → (E.ι.fr r)[i]? = some v → k.ok v
  | .given c i, o => E.ι.obj i = some o ∧ ∃ (c' : Array Value) (t : TypeId) (fz : Nat × Nat), o = .cells c' t fz ∧ ∀ (j : Nat) (v : AV), c[j]? = some v → ∃ x, v.den E = some x ∧ c'[j]? = some x
  | .mapIter m since seen stepped, o => ∃ m', o = .mapIter m' since seen.toArray stepped ∧ (match m with | none => m' = none | some b => ∃ c, E.ρ[b]? = some c ∧ m' = some c)

theorem ORel.mono {E E' : Env} (h : E.Le E') : ∀ {o : AObj} {ob : Obj}, ORel E o ob → ORel E' o ob
  | .cells c t more k, ob, ⟨c', fz, e, hf, hl, hv, hm⟩ => ⟨c', fz, e, hf, hl, fun i v hi => let ⟨x, hx, hc⟩ := hv i v hi; ⟨x, AV.den_mono h _ _ hx, hc⟩, by
      cases more with
      | none => exact hm
      | some p => obtain ⟨n, hn, hs⟩ := hm; exact ⟨n, h.κ _ _ hn, hs⟩⟩
  | .strIter _ _, _, e => e
  | .txtIter _ _, _, ⟨h1, e⟩ => ⟨TX.below_le h.ι.nv h1, by rw [TX.den_le h.ι h1]; exact e⟩
  | .map es clock, ob, ⟨es', e, hs, hv⟩ => ⟨es', e, hs, fun i k v n hi => let ⟨x, y, hx, hy, hc⟩ := hv i k v n hi; ⟨x, y, AV.den_mono h _ _ hx, AV.den_mono h _ _ hy, hc⟩⟩
  | .loop st pend tmps params assign body d, ob, ⟨fn, tmps', D, e, ht, hd⟩ => ⟨fn, tmps', D, e, AV.denL_mono h _ _ ht, h.ρ _ _ hd⟩
  | .deferred b, ob, e => e
  | .gone _, _, _ => trivial
  | .free, _, _ => trivial
  | .row r t ks n c, ob, ⟨c', fz, tail, e, hf, hc, ⟨h1, h2, h3⟩, h4, h5, h6⟩ => by
    have hn := h.ι.nv
    refine ⟨c', fz, tail, e, hf, by rw [RX.den_le h.ι h1]; exact hc, ⟨RX.below_le hn h1, IE.below_le hn h2, IE.below_le hn h3⟩, ?_, ?_, ?_⟩
    · rw [RX.den_le h.ι h1, IE.den_le h.ι h2]; exact h4
    · rw [IE.den_le h.ι h3]; exact h5
    · rw [RX.den_le h.ι h1]; exact h6
  | .grow r t ks n i q, ob, ⟨e0, te, c', fz, pre, tail, e, hc, ⟨h1, h2, h3⟩, h4, h6⟩ => by
    have hn := h.ι.nv
    refine ⟨by rw [h.ι.obj]; exact e0, te, c', fz, pre, tail, e, by rw [h.ι.fr h1, IE.den_le h.ι h3]; exact hc, ⟨by omega, IE.below_le hn h2, IE.below_le hn h3⟩, ?_, ?_⟩
    · rw [h.ι.fr h1, IE.den_le h.ι h2]; exact h4
    · rw [h.ι.fr h1]; exact h6
  | .given c i, ob, ⟨e, c', t, fz, e2, hv⟩ => ⟨by rw [h.ι.obj]; exact e, c', t, fz, e2, fun j v hj => let ⟨x, hx, hc⟩ := hv j v hj; ⟨x, AV.den_mono h _ _ hx, hc⟩⟩
  | .mapIter m since seen stepped, ob, ⟨m', e, hm⟩ => ⟨m', e, by
      cases m with
      | none => exact hm
      | some b => obtain ⟨c, hc, e⟩ := hm; exact ⟨c, h.ρ _ _ hc, e⟩⟩

/-- One's own rules hold, whatever comes up. -/
def RulesOk (rs : List Rule) (ι : Unk) : Prop :=
  ∀ ι' : Unk, ι'.num = ι.num → ι'.str = ι.str → ι'.prd = ι.prd → ∀ r ∈ rs, (∀ b ∈ r.find, b.den ι' = true) → (∀ b ∈ r.pre, b.den ι' = true) → r.con.den ι' = true
theorem RulesOk.le {rs : List Rule} {a b : Unk} (h : a.Le b) (hr : RulesOk rs a) : RulesOk rs b :=
  fun ι' h1 h2 h4 => hr ι' (h1.trans h.num) (h2.trans h.str) (h4.trans h.prd)
theorem rules_nil (ι : Unk) : RulesOk [] ι := fun _ _ _ _ r hr => by cases hr

/-- Below which the blocks are others', and what one's own predicates say. -/
structure Bd where
  n : Nat
  prd : Nat → List Int → List (List UInt8) → List (List Value) → Prop

/-- What else is kept is so. -/
structure GivOk (E : Env) (B : Bd) (m : Misc) : Prop where
  spot : ∀ (i g : Nat), m.l[i]? = some g → E.ρ[i]? = some g
  nv : E.ι.nv = m.nv
  rules : RulesOk m.cfg.rules E.ι
  prd : E.ι.prd = B.prd
theorem GivOk.ext {E E' : Env} {B : Bd} {m : Misc} (h : GivOk E B m) (hρ : ∀ (b c : Nat), E.ρ[b]? = some c → E'.ρ[b]? = some c) (hι : E'.ι = E.ι) : GivOk E' B m :=
  ⟨fun i g hi => hρ i g (h.spot i g hi), by rw [hι]; exact h.nv, by rw [hι]; exact h.rules, by rw [hι]; exact h.prd⟩

structure WR (E : Env) (B : Bd) (h : Hp) (w : World) : Prop where
  lenρ : E.ρ.length = h.bs.length
  lenκ : E.κ.length = h.nk
  obj : ∀ (b c : Nat) (o : AObj), E.ρ[b]? = some c → h.bs[b]? = some o → ∃ ob, w.heap[c]? = some ob ∧ ORel E o ob
  base : ∀ (b c : Nat), E.ρ[b]? = some c → B.n ≤ c
  inj : ∀ (b b' c : Nat) (o o' : AObj), b ≠ b' → E.ρ[b]? = some c → E.ρ[b']? = some c → h.bs[b]? = some o → h.bs[b']? = some o' → o ≠ .free → o' ≠ .free → (o.only = true ∧ o'.only = true) ∨ (o.cls? = o'.cls? ∧ o.cls?.isSome)
  bsize : B.n ≤ w.heap.size
  cls : ∀ (b : Nat) (o : AObj) (k : Nat), h.bs[b]? = some o → o.cls? = some k → b = k ∨ b ∈ h.bs.members k
  giv : GivOk E B h.giv

/-- What is not numbered stays as it was; what is numbered anew is new. -/
structure Fr (E E' : Env) (w w' : World) : Prop where
  os : w'.os = w.os
  tape : w'.tape = w.tape
  output : w'.output = w.output
  size : w.heap.size ≤ w'.heap.size
  block : ∀ (c : Nat), c < w.heap.size → (∀ (b : Nat), E.ρ[b]? ≠ some c) → w'.heap[c]? = w.heap[c]?
  fresh : ∀ (b c : Nat), E'.ρ[b]? = some c → (∃ b0 : Nat, E.ρ[b0]? = some c) ∨ w.heap.size ≤ c

theorem Fr.refl (E : Env) (w : World) : Fr E E w w := ⟨rfl, rfl, rfl, Nat.le_refl _, fun _ _ _ => rfl, fun b _ h => Or.inl ⟨b, h⟩⟩

theorem Fr.trans {E E' E'' : Env} {w w' w'' : World} (h : Fr E E' w w') (k : Fr E' E'' w' w'') : Fr E E'' w w'' where
  os := k.os.trans h.os
  tape := k.tape.trans h.tape
  output := k.output.trans h.output
  size := Nat.le_trans h.size k.size
  block := fun c hc hn => by
    rw [k.block c (Nat.lt_of_lt_of_le hc h.size) (fun b hb => by
      rcases h.fresh b c hb with ⟨b0, h0⟩ | h0
      · exact hn b0 h0
      · omega)]
    exact h.block c hc hn
  fresh := fun b c hb => by
    rcases k.fresh b c hb with ⟨b0, h0⟩ | h0
    · exact h.fresh b0 c h0
    · exact Or.inr (Nat.le_trans h.size h0)

/-- What a step leaves. -/
structure Ext (E : Env) (B : Bd) (w : World) (E' : Env) (h' : Hp) (w' : World) : Prop where
  le : E.Le E'
  wr : WR E' B h' w'
  fr : Fr E E' w w'

theorem Ext.refl {E : Env} {B : Bd} {h : Hp} {w : World} (hw : WR E B h w) : Ext E B w E h w := ⟨.refl E, hw, .refl E w⟩
theorem Ext.trans {E E' E'' : Env} {B : Bd} {h' h'' : Hp} {w w' w'' : World} (a : Ext E B w E' h' w') (b : Ext E' B w' E'' h'' w'') : Ext E B w E'' h'' w'' :=
  ⟨a.le.trans b.le, b.wr, a.fr.trans b.fr⟩

theorem WR.drew {E : Env} {B : Bd} {h : Hp} {w : World} (hw : WR E B h w) : WR E B h w.drew := ⟨hw.lenρ, hw.lenκ, hw.obj, hw.base, hw.inj, hw.bsize, hw.cls, hw.giv⟩
theorem Ext.drew {E E' : Env} {B : Bd} {h' : Hp} {w w' : World} (a : Ext E B w E' h' w') : Ext E B w E' h' w'.drew :=
  ⟨a.le, a.wr.drew, ⟨a.fr.os, a.fr.tape, a.fr.output, a.fr.size, a.fr.block, a.fr.fresh⟩⟩

theorem WR.lt {E : Env} {B : Bd} {h : Hp} {w : World} (hw : WR E B h w) {b c : Nat} (hb : E.ρ[b]? = some c) : c < w.heap.size := by
  have hlt : b < h.bs.length := by
    rw [← hw.lenρ]
    exact (List.getElem?_eq_some_iff.1 hb).1
  obtain ⟨o, ho⟩ := Bl.get_of_lt hlt
  obtain ⟨ob, hob, _⟩ := hw.obj b c _ hb ho
  exact (Array.getElem?_eq_some_iff.1 hob).1

section
variable {P : Program} {E : Env} {B : Bd} {h : Hp} {w : World}

theorem ext_get (l : List Nat) (c : Nat) (b : Nat) : (l ++ [c])[b]? = if b = l.length then some c else l[b]? := by
  by_cases hb : b = l.length
  · subst hb; simp
  · rw [if_neg hb]
    by_cases hlt : b < l.length
    · rw [List.getElem?_append_left hlt]
    · rw [List.getElem?_eq_none (by simp; omega), List.getElem?_eq_none (by omega)]

/-- A new block. -/
theorem new_sound_in (hw : WR E B h w) (o : AObj) (ob : Obj) (ks : List Nat) (bs' : Bl) (hlen : bs'.length = h.bs.length + 1) (hgt : ∀ j : Nat, bs'[j]? = (h.bs ++ [o])[j]?) (hmem : ∀ j x, x ∈ h.bs.members j → x ∈ bs'.members j)
    (hcl : ∀ k, o.cls? = some k → h.bs.length = k ∨ h.bs.length ∈ bs'.members k) (hr : ORel ⟨E.ρ ++ [w.heap.size], E.κ ++ ks, E.ι⟩ o ob) :
    Ext E B w ⟨E.ρ ++ [w.heap.size], E.κ ++ ks, E.ι⟩ { bs := bs', nk := h.nk + ks.length, giv := h.giv } (w.alloc ob) := by
  have hle : E.Le ⟨E.ρ ++ [w.heap.size], E.κ ++ ks, E.ι⟩ := ⟨.refl _, fun b c hb => by
      have := (List.getElem?_eq_some_iff.1 hb).1
      simp only [ext_get]
      rw [if_neg (by omega)]
      exact hb, fun i n hi => by
      have := (List.getElem?_eq_some_iff.1 hi).1
      simp only
      rw [List.getElem?_append_left this]
      exact hi⟩
  have hget : ∀ (b c : Nat), (E.ρ ++ [w.heap.size])[b]? = some c → (b = h.bs.length ∧ c = w.heap.size) ∨ (b < h.bs.length ∧ E.ρ[b]? = some c) := fun b c hb => by
    rw [ext_get] at hb
    split at hb
    · rename_i e
      injection hb with hb
      exact Or.inl ⟨by rw [e, hw.lenρ], hb.symm⟩
    · exact Or.inr ⟨by rw [← hw.lenρ]; exact (List.getElem?_eq_some_iff.1 hb).1, hb⟩
  refine ⟨hle, ⟨by simp [hw.lenρ, hlen], by simp [hw.lenκ], ?_, ?_, ?_, by have := hw.bsize; simp; omega, ?_, hw.giv.ext hle.ρ rfl⟩, ⟨rfl, rfl, rfl, by simp, ?_, ?_⟩⟩
  · intro b c o' hb ho
    simp only at ho
    rw [hgt] at ho
    rcases hget b c hb with ⟨rfl, rfl⟩ | ⟨hlt, hb'⟩
    · rw [Bl.getElem?_append_self] at ho
      injection ho with ho
      subst ho
      exact ⟨ob, heap_alloc_new w ob, hr⟩
    · rw [Bl.getElem?_append_left hlt] at ho
      obtain ⟨x, hx, hrel⟩ := hw.obj b c o' hb' ho
      exact ⟨x, by rw [heap_alloc_old w ob (hw.lt hb')]; exact hx, hrel.mono hle⟩
  · intro b c hb
    rcases hget b c hb with ⟨rfl, rfl⟩ | ⟨hlt, hb'⟩
    · exact hw.bsize
    · exact hw.base b c hb'
  · intro b b' c o1 o2 hne hb hb' ho ho' hf1 hf2
    rcases hget b c hb with ⟨rfl, rfl⟩ | ⟨hlt, hb1⟩
    · rcases hget b' _ hb' with ⟨rfl, _⟩ | ⟨hlt', hb2⟩
      · exact absurd rfl hne
      · have := hw.lt hb2; omega
    · rcases hget b' _ hb' with ⟨rfl, e⟩ | ⟨hlt', hb2⟩
      · have := hw.lt hb1; omega
      · simp only at ho ho'
        rw [hgt] at ho ho'
        rw [Bl.getElem?_append_left hlt] at ho
        rw [Bl.getElem?_append_left hlt'] at ho'
        exact hw.inj b b' c o1 o2 hne hb1 hb2 ho ho' hf1 hf2
  · intro b o' k ho hk
    simp only at ho ⊢
    rw [hgt, Bl.getElem?_append] at ho
    split at ho
    · rename_i hb
      injection ho with ho
      subst ho
      rw [hb]
      exact hcl k hk
    · exact (hw.cls b o' k ho hk).imp id (hmem k b)
  · intro c hc _
    exact heap_alloc_old w ob hc
  · intro b c hb
    rcases hget b c hb with ⟨rfl, rfl⟩ | ⟨hlt, hb'⟩
    · exact Or.inr (Nat.le_refl _)
    · exact Or.inl ⟨b, hb'⟩

theorem new_sound (hw : WR E B h w) (o : AObj) (ob : Obj) (ks : List Nat) (hcl : ∀ k, o.cls? = some k → k = h.bs.length) (hr : ORel ⟨E.ρ ++ [w.heap.size], E.κ ++ ks, E.ι⟩ o ob) :
    Ext E B w ⟨E.ρ ++ [w.heap.size], E.κ ++ ks, E.ι⟩ { bs := h.bs ++ [o], nk := h.nk + ks.length, giv := h.giv } (w.alloc ob) :=
  new_sound_in hw o ob ks (h.bs ++ [o]) rfl (fun _ => rfl) (fun j x hx => by rw [Bl.members_append]; exact hx) (fun k hk => Or.inl (hcl k hk).symm) hr

/-- A row of cells that are known. -/
theorem rel_cells {c : List AV} {l : List Value} (hl : AV.denL E c = some l) (t : TypeId) (k : Nat) : ORel E (.cells (c.map some) t none k) (.cells l.toArray t) := by
  refine ⟨l.toArray, (0, 0), rfl, fun i _ => by simp, by simp [denL_length hl], ?_, by simp [denL_length hl]⟩
  intro i v hi
  rw [List.getElem?_map] at hi
  simp only [Option.map_eq_some_iff] at hi
  obtain ⟨u, hu, e⟩ := hi
  injection e with e
  subst e
  obtain ⟨x, hx, hlx⟩ := denL_get hl i _ hu
  exact ⟨x, hx, by simpa using hlx⟩

theorem le_new (E : Env) (c : Nat) (ks : List Nat) : E.Le ⟨E.ρ ++ [c], E.κ ++ ks, E.ι⟩ := ⟨.refl _, fun b d hb => by
      have := (List.getElem?_eq_some_iff.1 hb).1
      simp only [ext_get]
      rw [if_neg (by omega)]
      exact hb, fun i n hi => by
      have := (List.getElem?_eq_some_iff.1 hi).1
      simp only
      rw [List.getElem?_append_left this]
      exact hi⟩

theorem new_at (hw : WR E B h w) (ks : List Nat) : (⟨E.ρ ++ [w.heap.size], E.κ ++ ks, E.ι⟩ : Env).ρ[h.bs.length]? = some w.heap.size := by
  simp only [ext_get]
  rw [if_pos hw.lenρ.symm]

/-- 'newCells'. -/
theorem newCells_sound (hw : WR E B h w) {c : List AV} {l : List Value} (hl : AV.denL E c = some l) (t : TypeId) :
    Ext E B w ⟨E.ρ ++ [w.heap.size], E.κ, E.ι⟩ (h.newCells t c).2 (w.alloc (.cells l.toArray t)) ∧ (⟨E.ρ ++ [w.heap.size], E.κ, E.ι⟩ : Env).ρ[h.bs.length]? = some w.heap.size := by
  have h1 := new_sound hw (.cells (c.map some) t none h.bs.length) (.cells l.toArray t) [] (fun k hk => by simpa [AObj.cls?] using hk.symm) (by
    have := rel_cells (E := ⟨E.ρ ++ [w.heap.size], E.κ ++ [], E.ι⟩) (AV.denL_mono (le_new E w.heap.size []) c l hl) t h.bs.length
    exact this)
  have h2 := new_at hw []
  simp only [List.append_nil, List.length_nil, Nat.add_zero] at h1 h2
  exact ⟨h1, h2⟩

/-! ### Loads -/

theorem spotIn_get {g : Nat} : ∀ {l : List Nat} {i j : Nat}, spotIn g l i = some j → ∃ k, j = i + k ∧ l[k]? = some g
  | [], _, _, h => by cases h
  | x :: r, i, j, h => by
    unfold spotIn at h
    split at h
    · rename_i hx
      injection h with h
      have := Nat.eq_of_beq_eq_true hx
      subst this
      exact ⟨0, by omega, rfl⟩
    · obtain ⟨k, hk, hr⟩ := spotIn_get h
      exact ⟨k + 1, by omega, by simpa using hr⟩

theorem spot_sound (hw : WR E B h w) {g b : Nat} (hs : spotIn g h.giv.l 0 = some b) : E.ρ[b]? = some g := by
  obtain ⟨k, hk, hr⟩ := spotIn_get hs
  rw [Nat.zero_add] at hk
  subst hk
  exact hw.giv.spot _ _ hr

theorem cell_sound (hw : WR E B h w) {b o c : Nat} {v : AV} (hb : E.ρ[b]? = some c) (hv : h.cell? b o = some v) : ∃ x, v.den E = some x ∧ w.cell? ⟨c, o, none⟩ = some x := by
  unfold Hp.cell? at hv
  split at hv
  · rename_i cs t m k hbs
    obtain ⟨ob, hob, c', fz, rfl, hf, hl, hcs, hm⟩ := hw.obj b c _ hb hbs
    rw [Option.join_eq_some_iff] at hv
    obtain ⟨x, hx, hcx⟩ := hcs o v hv
    exact ⟨x, hx, by rw [cell_of_row w c o c' t fz hob]; exact hcx⟩
  · rename_i cs i hbs
    obtain ⟨ob, hob, _, c', t, fz, rfl, hcs⟩ := hw.obj b c _ hb hbs
    obtain ⟨x, hx, hcx⟩ := hcs o v hv
    exact ⟨x, hx, by rw [cell_of_row w c o c' t fz hob]; exact hcx⟩
  · cases hv

theorem loadFrom_den (hw : WR E B h w) {b c : Nat} (hb : E.ρ[b]? = some c) : ∀ (n o : Nat) (vs : List AV), loadFrom h b o n = some vs →
    ∃ l, AV.denL E vs = some l ∧ l.length = n ∧ ∀ (j : Nat) (x : Value), l[j]? = some x → w.cell? ⟨c, o + j, none⟩ = some x
  | 0, o, vs, hv => by simp [loadFrom] at hv; subst hv; exact ⟨[], by simp [AV.denL], rfl, fun j x hx => by simp at hx⟩
  | n + 1, o, vs, hv => by
    simp only [loadFrom, Option.bind_eq_bind, Option.bind_eq_some_iff, Option.pure_def] at hv
    obtain ⟨v, hv1, r, hr, hv⟩ := hv
    injection hv with hv
    subst hv
    obtain ⟨x, hx, hcx⟩ := cell_sound hw hb hv1
    obtain ⟨l, hl, hn, hcl⟩ := loadFrom_den hw hb n (o + 1) r hr
    refine ⟨x :: l, denL_cons.2 ⟨x, l, hx, hl, rfl⟩, by simp [hn], fun j y hy => ?_⟩
    cases j with
    | zero => simp at hy; subst hy; simpa using hcx
    | succ j =>
      simp at hy
      have := hcl j y hy
      rwa [show o + 1 + j = o + (j + 1) by omega] at this

theorem loadFrom_run (hw : WR E B h w) {b c o n : Nat} {vs : List AV} (hb : E.ρ[b]? = some c) (hv : loadFrom h b o n = some vs) :
    ∃ l, AV.denL E vs = some l ∧ l.length = n ∧ (loadCells ⟨c, o, none⟩ n).run P w = .ok l.toArray w := by
  obtain ⟨l, hl, hn, hcl⟩ := loadFrom_den hw hb n o vs hv
  refine ⟨l, hl, hn, ?_⟩
  have := run_loadCells_list (P := P) w ⟨c, o, none⟩ l (fun j v hj => by rw [Addr.add_lit]; exact hcl j v hj)
  rwa [hn] at this

theorem loadV_sound (hw : WR E B h w) {t : TypeId} {b c o : Nat} {v : AV} (hb : E.ρ[b]? = some c) (hv : loadV P h t b o = some v) :
    ∃ z, v.den E = some z ∧ (loadVar t ⟨c, o, none⟩).run P w = .ok z w := by
  unfold loadV at hv
  simp only [Option.bind_eq_bind, Option.bind_eq_some_iff] at hv
  obtain ⟨g, hg, hv⟩ := hv
  split at hv
  · rename_i ht
    simp only [Option.bind_eq_some_iff, Option.map_eq_some_iff] at hv
    obtain ⟨n, hn, vs, hvs, rfl⟩ := hv
    obtain ⟨l, hl, _, hr⟩ := loadFrom_run (P := P) hw hb hvs
    exact ⟨.agg l.toArray, by simp [AV.den, hl], by simp [loadVar, run_isAgg hg, ht, run_size hn, hr]⟩
  · rename_i ht
    obtain ⟨x, hx, hcx⟩ := cell_sound hw hb hv
    exact ⟨x, hx, by simp [loadVar, run_isAgg hg, ht, hcx]⟩

/-! ### Stores -/

theorem smudge_idem (o : Nat) (x : AObj) : smudge o (smudge o x) = smudge o x := by
  cases x with
  | cells c t m k => simp [smudge]
  | _ => rfl

theorem smudge_cls (o : Nat) (x : AObj) : (smudge o x).cls? = x.cls? := by cases x <;> rfl

theorem one_oneCell {v : AV} {x : Value} (h1 : v.one = true) (hv : v.den E = some x) : x.oneCell' = true := by
  cases v with
  | agg cs => simp [AV.one] at h1
  | tuple cs => simp [AV.one] at h1
  | yield b => obtain ⟨c, hc, rfl⟩ := denYield hv; rfl
  | strv i => obtain rfl := denStrv hv; rfl
  | capv i s => obtain ⟨c, hc, rfl⟩ := denCapv hv; rfl
  | glob g o => obtain rfl := denGlob hv; rfl
  | txt x => obtain ⟨rfl, _⟩ := denTxt hv; rfl
  | sl b z q o l c => obtain ⟨_, _, c, hc, rfl⟩ := denSl hv; rfl
  | ptrs b z q i o => obtain ⟨_, _, c, hc, rfl⟩ := denPtrs hv; rfl
  | bool b => obtain rfl := denBool hv; rfl
  | int k e => obtain rfl := denInt hv; rfl
  | str s => obtain rfl := denStr hv; rfl
  | nilPtr => obtain rfl := denNilPtr hv; rfl
  | ptr b o => obtain ⟨c, hc, rfl⟩ := denPtr hv; rfl
  | nilSlice => obtain rfl := denNilSlice hv; rfl
  | slice b o l c => obtain ⟨c, n, hc, hn, hl, rfl⟩ := denSlice hv; rfl
  | nilMap => obtain rfl := denNilMap hv; rfl
  | map b => obtain ⟨c, hc, rfl⟩ := denMap hv; rfl
  | func f a b => obtain ⟨c, n, hc, hn, rfl⟩ := denFunc hv; rfl
  | nilFunc => obtain rfl := denNilFunc hv; rfl
  | iface t v => obtain ⟨c, hc, rfl⟩ := denIface hv; rfl
  | nilIface => obtain rfl := denNilIface hv; rfl

theorem setCell_heap (w : World) (c o : Nat) (x : Value) (c' : Array Value) (t : TypeId) (fz : Nat × Nat) (hg : w.heap[c]? = some (.cells c' t fz)) :
    (w.setCell ⟨c, o, none⟩ x).heap[c]? = some (.cells (c'.setIfInBounds o x) t fz) := by
  simp [World.setCell, Array.getElem?_modify, hg]

theorem setCell_sound (hw : WR E B h w) {b c o : Nat} {v : AV} {x : Value} {h' : Hp} (hb : E.ρ[b]? = some c) (hx : v.den E = some x) (hs : h.setCell b o v = some h') :
    (store ⟨c, o, none⟩ x).run P w = .ok () (w.setCell ⟨c, o, none⟩ x) ∧ Ext E B w E h' (w.setCell ⟨c, o, none⟩ x) := by
  unfold Hp.setCell at hs
  split at hs
  · rename_i cs t m k hbs
    split at hs
    · rename_i hc1
      simp only [Bool.and_eq_true, decide_eq_true_eq] at hc1
      obtain ⟨hlt, h1⟩ := hc1
      injection hs with hs
      subst hs
      obtain ⟨ob, hob, c', fz, rfl, hf, hl, hcs, hm⟩ := hw.obj b c _ hb hbs
      have ho : o < c'.size := by omega
      have hcell : w.cell? ⟨c, o, none⟩ = some c'[o] := by rw [cell_of_row w c o c' t fz hob]; simp [ho]
      have hfr : w.frozen? ⟨c, o, none⟩ = false := by
        have := hf o ho
        obtain ⟨lo, hi⟩ := fz
        simp only [World.frozen?, hob]
        have h2 : lo ≤ o → hi ≤ o := by simp only at this; omega
        simpa using h2
      refine ⟨by rw [run_store P w _ x .plain (one_oneCell h1 hx), hcell]; simp [hfr], .refl E, ?_, ⟨rfl, rfl, rfl, by simp, ?_, fun b c hb => Or.inl ⟨b, hb⟩⟩⟩
      · -- the relation behind the store
        have hset : ∀ (b2 : Nat) (o2 : AObj), (Bl.upd (smudge o) ((k :: h.bs.members k).filter fun i => !Nat.beq i b) (h.bs.set b (.cells (cs.set o (some v)) t m k)))[b2]? = some o2 →
            (b2 = b ∧ o2 = .cells (cs.set o (some v)) t m k) ∨
            (b2 ≠ b ∧ ∃ o0, h.bs[b2]? = some o0 ∧ (o2 = o0 ∧ o0.cls? ≠ some k ∨ o2 = smudge o o0)) := by
          intro b2 o2 h2
          rw [Bl.getElem?_upd (smudge_idem o)] at h2
          by_cases hbb : b2 = b
          · subst hbb
            have hno : b2 ∉ (k :: h.bs.members k).filter fun i => !Nat.beq i b2 := fun hm => by
              have := (List.mem_filter.1 hm).2
              simp at this
            rw [if_neg hno, Bl.getElem?_set_self (Bl.lt_of_get hbs)] at h2
            injection h2 with h2
            exact Or.inl ⟨rfl, h2.symm⟩
          · rw [Bl.getElem?_set_ne (Ne.symm hbb)] at h2
            refine Or.inr ⟨hbb, ?_⟩
            split at h2
            · simp only [Option.map_eq_some_iff] at h2
              obtain ⟨o0, h0, rfl⟩ := h2
              exact ⟨o0, h0, Or.inr rfl⟩
            · rename_i hno
              refine ⟨o2, h2, Or.inl ⟨rfl, fun hk => hno (List.mem_filter.2 ⟨?_, ?_⟩)⟩⟩
              · rcases hw.cls b2 o2 k h2 hk with rfl | hm
                · exact List.mem_cons_self
                · exact List.mem_cons_of_mem _ hm
              · cases hq : Nat.beq b2 b with
                | false => rfl
                | true => exact absurd (Nat.eq_of_beq_eq_true hq) hbb
        have key : ∀ (b3 : Nat) (o3 : AObj), (Bl.upd (smudge o) ((k :: h.bs.members k).filter fun i => !Nat.beq i b) (h.bs.set b (.cells (cs.set o (some v)) t m k)))[b3]? = some o3 → ∃ o0, h.bs[b3]? = some o0 ∧ o3.cls? = o0.cls? ∧ (o0 = .free → o3 = .free) ∧ o3.only = o0.only := by
          intro b3 o3 h3
          rcases hset b3 o3 h3 with ⟨rfl, rfl⟩ | ⟨_, o0, h0, ⟨rfl, _⟩ | rfl⟩
          · exact ⟨_, hbs, rfl, (fun h => by cases h), rfl⟩
          · exact ⟨_, h0, rfl, id, rfl⟩
          · exact ⟨_, h0, smudge_cls o o0, (fun h => by rw [h]; rfl), by cases o0 <;> rfl⟩
        refine ⟨by simp [Bl.length_upd, hw.lenρ], hw.lenκ, ?_, hw.base, ?_, by simpa using hw.bsize, ?_, hw.giv⟩
        · intro b2 c2 o2 hb2 ho2
          rcases hset b2 o2 ho2 with ⟨rfl, rfl⟩ | ⟨hne, o0, h0, ho⟩
          · rw [hb] at hb2
            injection hb2 with hb2
            subst hb2
            refine ⟨_, setCell_heap w c o x c' t fz hob, c'.setIfInBounds o x, fz, rfl, fun i hi => hf i (by simpa using hi), by simpa using hl, ?_, ?_⟩
            · intro i u hi
              by_cases hio : i = o
              · subst hio
                rw [List.getElem?_set_self hlt] at hi
                injection hi with hi
                injection hi with hi
                subst hi
                exact ⟨x, hx, by simp [ho]⟩
              · rw [List.getElem?_set_ne (Ne.symm hio)] at hi
                obtain ⟨y, hy, hcy⟩ := hcs i u hi
                exact ⟨y, hy, by rw [Array.getElem?_setIfInBounds_ne (Ne.symm hio)]; exact hcy⟩
            · cases m with
              | none => simpa using hm
              | some p => simpa using hm
          · obtain ⟨ob0, hob0, hrel0⟩ := hw.obj b2 c2 o0 hb2 h0
            by_cases hcc : c2 = c
            · -- the same block under another number
              subst hcc
              by_cases hfree : o0 = .free
              · subst hfree
                rcases ho with ⟨rfl, _⟩ | rfl
                · exact ⟨_, setCell_heap w c2 o x c' t fz hob, trivial⟩
                · exact ⟨_, setCell_heap w c2 o x c' t fz hob, trivial⟩
              rcases hw.inj b2 b c2 o0 _ hne hb2 hb h0 hbs hfree (by intro h; cases h) with ⟨_, hon⟩ | hcl
              · cases hon
              rw [hob] at hob0
              injection hob0 with hob0
              subst hob0
              obtain rfl : o2 = smudge o o0 := by
                rcases ho with ⟨_, h1⟩ | h1
                · exact absurd hcl.1 h1
                · exact h1
              cases o0 with
              | cells c0 t0 m0 k0 =>
                simp only [AObj.cls?, Option.some.injEq] at hcl
                obtain ⟨rfl, _⟩ := hcl
                simp only [smudge]
                obtain ⟨c1, fz1, e1, hf1, hl1, hcs1, hm1⟩ := hrel0
                injection e1 with e1 e2 e3
                subst e1
                subst e2
                subst e3
                refine ⟨_, setCell_heap w c2 o x c' t fz hob, c'.setIfInBounds o x, fz, rfl, fun i hi => hf i (by simpa using hi), by simpa using hl1, ?_, ?_⟩
                · intro i u hi
                  by_cases hio : i = o
                  · subst hio
                    by_cases hil : i < c0.length
                    · rw [List.getElem?_set_self hil] at hi
                      injection hi with hi
                      cases hi
                    · rw [List.getElem?_eq_none (by simpa using hil)] at hi
                      cases hi
                  · rw [List.getElem?_set_ne (Ne.symm hio)] at hi
                    obtain ⟨y, hy, hcy⟩ := hcs1 i u hi
                    exact ⟨y, hy, by rw [Array.getElem?_setIfInBounds_ne (Ne.symm hio)]; exact hcy⟩
                · cases m0 with
                  | none => simpa using hm1
                  | some p => simpa using hm1
              | strIter s p => simp [AObj.cls?] at hcl
              | txtIter s p => simp [AObj.cls?] at hcl
              | map es n => simp [AObj.cls?] at hcl
              | mapIter m s l n => simp [AObj.cls?] at hcl
              | loop => simp [AObj.cls?] at hcl
              | deferred => simp [AObj.cls?] at hcl
              | given cs i => simp [AObj.cls?] at hcl
              | free => simp [AObj.cls?] at hcl
              | row => simp [AObj.cls?] at hcl
              | grow => simp [AObj.cls?] at hcl
              | gone k0 => exact ⟨_, setCell_heap w c2 o x c' t fz hob, trivial⟩
            · refine ⟨ob0, by rw [heap_setCell_other w ⟨c, o, none⟩ c2 x hcc]; exact hob0, ?_⟩
              rcases ho with ⟨rfl, _⟩ | rfl
              · exact hrel0
              cases o0 with
              | cells c0 t0 m0 k0 =>
                simp only [smudge]
                obtain ⟨c1, fz1, e1, hf1, hl1, hcs1, hm1⟩ := hrel0
                refine ⟨c1, fz1, e1, hf1, by simpa using hl1, ?_, ?_⟩
                · intro i u hi
                  by_cases hio : i = o
                  · subst hio
                    by_cases hil : i < c0.length
                    · rw [List.getElem?_set_self hil] at hi
                      injection hi with hi
                      cases hi
                    · rw [List.getElem?_eq_none (by simpa using hil)] at hi
                      cases hi
                  · rw [List.getElem?_set_ne (Ne.symm hio)] at hi
                    exact hcs1 i u hi
                · cases m0 with
                  | none => simpa using hm1
                  | some p => exact hm1
              | strIter s p => exact hrel0
              | txtIter s p => exact hrel0
              | map es n => exact hrel0
              | mapIter m s l n => exact hrel0
              | loop => exact hrel0
              | deferred => exact hrel0
              | gone k0 => exact hrel0
              | given cs i => exact hrel0
              | free => exact hrel0
              | row => exact hrel0
              | grow => exact hrel0
        · intro b1 b2 c2 o1 o2 hne hb1 hb2 ho1 ho2 hf1 hf2
          obtain ⟨p, hp, ep, fp, gp⟩ := key b1 o1 ho1
          obtain ⟨q, hq, eq, fq, gq⟩ := key b2 o2 ho2
          rw [ep, eq, gp, gq]
          exact hw.inj b1 b2 c2 p q hne hb1 hb2 hp hq (fun h => hf1 (fp h)) (fun h => hf2 (fq h))
        · intro b3 o3 k3 h3 hk3
          obtain ⟨p, hp, ep, _⟩ := key b3 o3 h3
          simp only [Bl.members_upd, Bl.members_set]
          exact hw.cls b3 p k3 hp (by rw [← ep]; exact hk3)
      · intro c2 _ hn
        exact heap_setCell_other w ⟨c, o, none⟩ c2 x (fun e => hn b (by rw [hb]; simp at e; rw [e]))
    · cases hs
  · cases hs

theorem storeFrom_sound {b c : Nat} (hb : E.ρ[b]? = some c) : ∀ (vs : List AV) (o i : Nat) (h h' : Hp) (w : World) (l : List Value), WR E B h w → AV.denL E vs = some l →
    storeFrom h b (o + i) vs = some h' → ∃ w', (storeCells ⟨c, o, none⟩ l i).run P w = .ok () w' ∧ Ext E B w E h' w'
  | [], o, i, h, h', w, l, hw, hl, hs => by
    simp [storeFrom] at hs
    simp [AV.denL] at hl
    subst hs
    subst hl
    exact ⟨w, by simp [storeCells], .refl hw⟩
  | v :: r, o, i, h, h', w, l, hw, hl, hs => by
    obtain ⟨x, m, hx, hm, rfl⟩ := denL_cons.1 hl
    simp only [storeFrom, Option.bind_eq_bind, Option.bind_eq_some_iff] at hs
    obtain ⟨h1, hs1, hs⟩ := hs
    obtain ⟨hr1, he1⟩ := setCell_sound (P := P) hw hb hx hs1
    obtain ⟨w', hr, he⟩ := storeFrom_sound hb r o (i + 1) h1 h' _ m he1.wr hm (by rw [← Nat.add_assoc]; exact hs)
    exact ⟨w', by simp [storeCells, Addr.add_lit, hr1, hr], he1.trans he⟩

theorem storeV_sound (hw : WR E B h w) {t : TypeId} {b c o : Nat} {v : AV} {x : Value} {h' : Hp} (hb : E.ρ[b]? = some c) (hx : v.den E = some x) (hs : storeV P h t b o v = some h') :
    ∃ w', (storeVar t ⟨c, o, none⟩ x).run P w = .ok () w' ∧ Ext E B w E h' w' := by
  unfold storeV at hs
  simp only [Option.bind_eq_bind, Option.bind_eq_some_iff] at hs
  obtain ⟨n, hn, hs⟩ := hs
  split at hs
  · rename_i hlen
    obtain ⟨w', hr, he⟩ := storeFrom_sound (P := P) hb v.cells o 0 h h' w _ hw (cells_den hx) (by simpa using hs)
    refine ⟨w', ?_, he⟩
    have : x.cells.size = n := by rw [cells_length hx, hlen]
    simp [storeVar, run_size hn, this, hr]
  · cases hs

end
end Go.Sx
