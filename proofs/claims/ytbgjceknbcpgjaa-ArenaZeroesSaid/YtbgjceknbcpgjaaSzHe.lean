/-
  A WALKER THAT COMPUTES: what is held of memory.
-/
import Derived.Test.YtbgjceknbcpgjaaSzTr
import Derived.Test.YtbgjceknbcpgjaaSzI
namespace Go.Sx

section
variable {E : Env} {B : Bd} {h : Hp} {w : World}

/-! ### Reading -/

theorem rowOf_sound (hw : WR E B h w) {b c r : Nat} {ks : List CK} {n q : IE} (hb : E.ρ[b]? = some c) (hr : rowOf h b = some (r, ks, n, q)) :
    ∃ (c' : Array Value) (t : TypeId) (fz : Nat × Nat) (pre tail : List Value), w.heap[c]? = some (.cells c' t fz) ∧ (c'.toList = pre ++ (E.ι.fr r ++ tail) ∧ (E.ι.fr r ≠ [] → pre.length = (q.den E.ι).toNat)) ∧ (r < E.ι.nv ∧ n.upto E.ι.nv = true ∧ q.upto E.ι.nv = true) ∧
      ((E.ι.fr r).length : Int) = n.den E.ι * ks.length ∧ ∀ (i : Nat) (k : CK) (v : Value), ks[i % ks.length]? = some k → (E.ι.fr r)[i]? = some v → k.ok v := by
  unfold rowOf at hr
  split at hr
  · rename_i r' t ks' n' c0 hbs
    injection hr with hr
    simp only [Prod.mk.injEq] at hr
    obtain ⟨rfl, rfl, rfl, rfl⟩ := hr
    obtain ⟨ob, hob, c', fz, tail, rfl, _, hc, ⟨h1, h2, _⟩, h4, _, h6⟩ := hw.obj b c _ hb hbs
    exact ⟨c', t, fz, [], tail, hob, ⟨hc, fun _ => rfl⟩, ⟨blt_iff.1 h1, h2, rfl⟩, h4, h6⟩
  · rename_i r' t ks' n' i q' hbs
    injection hr with hr
    simp only [Prod.mk.injEq] at hr
    obtain ⟨rfl, rfl, rfl, rfl⟩ := hr
    obtain ⟨ob, hob, _, te, c', fz, pre, tail, rfl, hc, ⟨h1, h2, h3⟩, h4, h6⟩ := hw.obj b c _ hb hbs
    exact ⟨c', te, fz, pre, tail, hob, hc, ⟨h1, h2, h3⟩, h4, h6⟩
  · cases hr

/-- A cell of an unknown row. -/
theorem row_at {c k : Nat} {c' : Array Value} {t : TypeId} {fz : Nat × Nat} {l pre tail : List Value} (hob : w.heap[c]? = some (.cells c' t fz)) (hc : c'.toList = pre ++ (l ++ tail) ∧ (l ≠ [] → pre.length = k)) {j : Nat} {x : Value} (hx : l[j]? = some x) :
    w.cell? ⟨c, k + j, none⟩ = some x := by
  have hk := hc.2 (fun h => by rw [h] at hx; simp at hx)
  rw [cell_of_row w c _ c' t fz hob, ← Array.getElem?_toList, hc.1, List.getElem?_append_right (by omega), hk, Nat.add_sub_cancel_left, List.getElem?_append_left (List.getElem?_eq_some_iff.1 hx).1]
  exact hx

end

mutual
theorem AV.beq_eq : ∀ (u v : AV), AV.beq u v = true → u = v
  | .bool a, v, h => by cases v <;> simp [AV.beq] at h; subst h; rfl
  | .int k a, v, h => by cases v <;> simp [AV.beq] at h; obtain ⟨rfl, rfl⟩ := h; rfl
  | .str s, v, h => by cases v <;> simp [AV.beq] at h; subst h; rfl
  | .strv s, v, h => by cases v <;> simp [AV.beq] at h; subst h; rfl
  | .capv s t, v, h => by cases v <;> simp [AV.beq] at h; obtain ⟨rfl, rfl⟩ := h; rfl
  | .glob s t, v, h => by cases v <;> simp [AV.beq] at h; obtain ⟨rfl, rfl⟩ := h; rfl
  | .yield s, v, h => by cases v <;> simp [AV.beq] at h
  | .txt s, v, h => by cases v <;> simp [AV.beq] at h; subst h; rfl
  | .sl b z q o n c, v, h => by cases v <;> simp [AV.beq] at h; obtain ⟨⟨⟨⟨⟨rfl, rfl⟩, rfl⟩, rfl⟩, rfl⟩, rfl⟩ := h; rfl
  | .ptrs b z q i o, v, h => by cases v <;> simp [AV.beq] at h; obtain ⟨⟨⟨⟨rfl, rfl⟩, rfl⟩, rfl⟩, rfl⟩ := h; rfl
  | .nilPtr, v, h => by cases v <;> simp [AV.beq] at h; rfl
  | .ptr b o, v, h => by cases v <;> simp [AV.beq] at h; obtain ⟨rfl, rfl⟩ := h; rfl
  | .nilSlice, v, h => by cases v <;> simp [AV.beq] at h; rfl
  | .slice b o n c, v, h => by
    cases v with
    | slice b' o' n' c' =>
      cases c <;> cases c' <;> simp [AV.beq] at h
      · obtain ⟨⟨⟨rfl, rfl⟩, rfl⟩, rfl⟩ := h; rfl
      · obtain ⟨⟨⟨⟨rfl, rfl⟩, rfl⟩, rfl⟩, rfl⟩ := h; rfl
    | _ => simp [AV.beq] at h
  | .nilMap, v, h => by cases v <;> simp [AV.beq] at h; rfl
  | .map b, v, h => by cases v <;> simp [AV.beq] at h; subst h; rfl
  | .func f a b, v, h => by
    cases v with
    | func g c d =>
      simp only [AV.beq, Bool.and_eq_true, decide_eq_true_eq] at h
      obtain ⟨⟨rfl, h1⟩, h2⟩ := h
      rw [AV.beqL_eq a c h1, AV.beqL_eq b d h2]
    | _ => simp [AV.beq] at h
  | .nilFunc, v, h => by cases v <;> simp [AV.beq] at h; rfl
  | .iface t a, v, h => by
    cases v with
    | iface u b =>
      simp only [AV.beq, Bool.and_eq_true, decide_eq_true_eq] at h
      obtain ⟨rfl, h1⟩ := h
      rw [AV.beq_eq a b h1]
    | _ => simp [AV.beq] at h
  | .nilIface, v, h => by cases v <;> simp [AV.beq] at h; rfl
  | .agg a, v, h => by
    cases v with
    | agg b => simp only [AV.beq] at h; rw [AV.beqL_eq a b h]
    | _ => simp [AV.beq] at h
  | .tuple a, v, h => by
    cases v with
    | tuple b => simp only [AV.beq] at h; rw [AV.beqL_eq a b h]
    | _ => simp [AV.beq] at h
theorem AV.beqL_eq : ∀ (u v : List AV), AV.beqL u v = true → u = v
  | [], v, h => by cases v <;> simp [AV.beqL] at h; rfl
  | a :: u, v, h => by
    cases v with
    | nil => simp [AV.beqL] at h
    | cons b v =>
      simp only [AV.beqL, Bool.and_eq_true] at h
      rw [AV.beq_eq a b h.1, AV.beqL_eq u v h.2]
end

/-! ### What is held of memory -/

abbrev Facts := List (Addr × Value)

def SC (C : Facts) (w : World) : Prop := ∀ p ∈ C, w.cell? p.1 = some p.2

def Conc1 (E : Env) (q : Nat × Nat × (AV ⊕ IE)) (c : Nat) (p : Addr × Value) : Prop :=
  match q.2.2 with
  | .inl v => p.1 = ⟨c, q.2.1, none⟩ ∧ v.den E = some p.2
  | .inr k => ∃ i, p.1 = ⟨c, (k.den E.ι).toNat + i, none⟩ ∧ (q.2.1 < E.ι.nv ∧ k.upto E.ι.nv = true) ∧ (E.ι.fr q.2.1)[i]? = some p.2
def Conc (E : Env) (S : Held) (C : Facts) : Prop := ∀ p ∈ C, ∃ q ∈ S, ∃ c, E.ρ[q.1]? = some c ∧ Conc1 E q c p

section
variable {P : Program} {E : Env} {B : Bd} {h : Hp} {w : World}

theorem Conc.mono {E' : Env} {S : Held} {C : Facts} (hC : Conc E S C) (hE : E.Le E') : Conc E' S C := fun p hp => by
  obtain ⟨q, hq, c, h1, h2⟩ := hC p hp
  refine ⟨q, hq, c, hE.ρ _ _ h1, ?_⟩
  obtain ⟨b, o, v⟩ := q
  cases v with
  | inl v => exact ⟨h2.1, AV.den_mono hE _ _ h2.2⟩
  | inr k =>
    obtain ⟨i, e, ⟨hlt, hk⟩, hi⟩ := h2
    exact ⟨i, by rw [IE.den_le hE.ι hk]; exact e, ⟨Nat.lt_of_lt_of_le hlt hE.ι.nv, IE.below_le hE.ι.nv hk⟩, by rw [hE.ι.fr hlt]; exact hi⟩

theorem Conc.both {S S' : Held} {C C' : Facts} (h1 : Conc E S C) (h2 : Conc E S' C') : Conc E (S ++ S') (C ++ C') := fun p hp => by
  rcases List.mem_append.1 hp with hp | hp
  · obtain ⟨q, hq, r⟩ := h1 p hp
    exact ⟨q, List.mem_append_left _ hq, r⟩
  · obtain ⟨q, hq, r⟩ := h2 p hp
    exact ⟨q, List.mem_append_right _ hq, r⟩

theorem keeps_mem : ∀ {S : Held}, keeps h S = true → ∀ q ∈ S, (∀ v, q.2.2 = .inl v → h.cell? q.1 q.2.1 = some v) ∧ (∀ k, q.2.2 = .inr k → ∃ ks n, rowOf h q.1 = some (q.2.1, ks, n, k))
  | [], _, q, hq => by cases hq
  | (b, o, .inl v) :: r, hk, q, hq => by
    simp only [keeps, Bool.and_eq_true] at hk
    rcases List.mem_cons.1 hq with rfl | hq
    · have h1 := hk.1
      split at h1
      · rename_i u hu
        exact ⟨fun v' hv' => by injection hv' with hv'; subst hv'; exact hu.trans (congrArg some (AV.beq_eq u v h1)), fun _ h => by cases h⟩
      · cases h1
    · exact keeps_mem hk.2 q hq
  | (b, o, .inr k) :: r, hk, q, hq => by
    simp only [keeps, Bool.and_eq_true] at hk
    rcases List.mem_cons.1 hq with rfl | hq
    · have h1 := hk.1
      split at h1
      · rename_i q' ks n k' hu
        simp only [Bool.and_eq_true, decide_eq_true_eq] at h1
        have := Nat.eq_of_beq_eq_true h1.1
        have h2 := h1.2
        subst this h2
        exact And.intro (fun v' hv' => by cases hv') (fun k2 hk2 => by injection hk2 with hk2; subst hk2; exact ⟨ks, n, hu⟩)
      · cases h1
    · exact keeps_mem hk.2 q hq

theorem keeps_sound (hw : WR E B h w) {S : Held} {C : Facts} (hC : Conc E S C) (hk : keeps h S = true) : SC C w := fun p hp => by
  obtain ⟨q, hq, c, h1, h2⟩ := hC p hp
  obtain ⟨m1, m2⟩ := keeps_mem hk q hq
  unfold Conc1 at h2
  split at h2
  · rename_i v hv
    obtain ⟨h2, h3⟩ := h2
    obtain ⟨x, hx, hc⟩ := cell_sound hw h1 (m1 v hv)
    rw [h3] at hx
    injection hx with hx
    rw [h2, hc, hx]
  · rename_i k hv
    obtain ⟨i, e, _, hi⟩ := h2
    obtain ⟨ks, n, hro⟩ := m2 k hv
    obtain ⟨c', t', fz, pre, tail, hob, hc, _⟩ := rowOf_sound hw h1 hro
    rw [e]
    exact row_at hob hc hi

def concFrom (c o : Nat) : List Value → Facts
  | [] => []
  | x :: r => (⟨c, o, none⟩, x) :: concFrom c (o + 1) r

theorem concFrom_conc {b c : Nat} (hb : E.ρ[b]? = some c) : ∀ (vs : List AV) (xs : List Value) (o : Nat), AV.denL E vs = some xs → Conc E (heldFrom b o vs) (concFrom c o xs)
  | [], xs, o, hx => by simp [AV.denL] at hx; subst hx; exact fun p hp => by cases hp
  | v :: vs, xs, o, hx => by
    obtain ⟨y, ys, hy, hys, rfl⟩ := denL_cons.1 hx
    intro p hp
    rcases List.mem_cons.1 hp with rfl | hp
    · exact ⟨(b, o, .inl v), List.mem_cons_self, c, hb, rfl, hy⟩
    · obtain ⟨q, hq, r⟩ := concFrom_conc hb vs ys (o + 1) hys p hp
      exact ⟨q, List.mem_cons_of_mem _ hq, r⟩

theorem concFrom_iff {c : Nat} : ∀ (xs : List Value) (o : Nat), SC (concFrom c o xs) w ↔ ∀ (j : Nat) (x : Value), xs[j]? = some x → w.cell? ⟨c, o + j, none⟩ = some x
  | [], o => by simp [SC, concFrom]
  | x :: xs, o => by
    have ih := concFrom_iff (c := c) xs (o + 1)
    simp only [SC, concFrom, List.mem_cons, forall_eq_or_imp] at ih ⊢
    rw [ih]
    constructor
    · rintro ⟨h0, h1⟩ j y hy
      cases j with
      | zero => simp at hy; subst hy; simpa using h0
      | succ j =>
        have := h1 j y (by simpa using hy)
        rwa [show o + 1 + j = o + (j + 1) by omega] at this
    · intro hh
      refine ⟨by simpa using hh 0 x rfl, fun j y hy => ?_⟩
      have := hh (j + 1) y (by simpa using hy)
      rwa [show o + (j + 1) = o + 1 + j by omega] at this

theorem bytes_convert {src dst e : TypeId} {c o n m : Nat} {ns : List Int} (hsd : P.underlying src = some (.slice e)) (he : P.underlying e = some (.int .u8)) (hdd : P.underlying dst = some .string) (hn : ns.length = n) (w' : World)
    (hcl : ∀ (j : Nat) (v : Value), (ns.map (Value.int .u8))[j]? = some v → w'.cell? ⟨c, o + j, none⟩ = some v) :
    (convert src dst (.slice (some ⟨c, o, none⟩) n m)).run P w' = .ok (.string ⟨(ns.map fun n => UInt8.ofNat n.toNat).toArray⟩) w' := by
  have hrun := run_loadCells_list (P := P) w' ⟨c, o, none⟩ (ns.map (Value.int .u8)) (fun j v hj => by rw [Addr.add_lit]; exact hcl j v hj)
  rw [List.length_map, hn] at hrun
  have hb := run_bytesToString (P := P) w' ⟨c, o, none⟩ n m ns hrun
  have hfold : ∀ (ns : List Int) (acc : ByteArray), ns.foldl (fun r n => r.push (UInt8.ofNat n.toNat)) acc = ⟨acc.data ++ (ns.map fun n => UInt8.ofNat n.toNat).toArray⟩ := by
    intro ns
    induction ns with
    | nil => intro acc; simp
    | cons n ns ih => intro acc; rw [List.foldl_cons, ih]; apply ByteArray.ext; simp [ByteArray.push]
  rw [run_convert_bytes_string w' src dst e _ _ _ hsd he hdd, hb, hfold]
  have : (ByteArray.empty.data ++ (ns.map fun n => UInt8.ofNat n.toNat).toArray) = (ns.map fun n => UInt8.ofNat n.toNat).toArray := by
    rw [show ByteArray.empty.data = #[] from rfl]
    simp
  rw [this]

end
end Go.Sx
