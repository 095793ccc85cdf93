/-
  A WALKER THAT COMPUTES: maps, and what else may go several ways.
-/
import Derived.Test.YtbgjceknbcpgjaaSzM
namespace Go.Sx

/-! ### Where a key stands -/

theorem findNow_keys {kind : TypeDesc} {k : Value} : ∀ (l l' : List MapEntry) (i : Nat), l.map (·.key) = l'.map (·.key) →
    match Instr.findNow kind k l i with
    | none => Instr.findNow kind k l' i = none
    | some none => Instr.findNow kind k l' i = some none
    | some (some (j, _)) => ∃ e, i ≤ j ∧ l'[j - i]? = some e ∧ Instr.findNow kind k l' i = some (some (j, e.val))
  | [], [], i, _ => by simp [Instr.findNow]
  | [], e :: l', i, h => by simp at h
  | e :: l, [], i, h => by simp at h
  | e :: l, e' :: l', i, h => by
    simp only [List.map_cons, List.cons.injEq] at h
    obtain ⟨hk, h⟩ := h
    have ih := findNow_keys (kind := kind) (k := k) l l' (i + 1) h
    simp only [Instr.findNow, hk]
    cases hs : Instr.sameNow kind k e'.key with
    | none => simp
    | some b =>
      cases b with
      | true => exact ⟨e', Nat.le_refl _, by simp, rfl⟩
      | false =>
        simp only
        cases hf : Instr.findNow kind k l (i + 1) with
        | none => rw [hf] at ih; exact ih
        | some r =>
          rw [hf] at ih
          cases r with
          | none => exact ih
          | some q =>
            obtain ⟨j, v⟩ := q
            obtain ⟨e2, h1, h2, h3⟩ := ih
            exact ⟨e2, by omega, by rw [show j - i = (j - (i + 1)) + 1 by omega]; simpa using h2, h3⟩

theorem findAsking_keys {P : Program} {kt : TypeId} {k : Value} : ∀ (l l' : List MapEntry) (i : Nat) (w w' : World) (r : Option (Nat × Value)), l.map (·.key) = l'.map (·.key) → (Instr.findAsking kt k l i).run P w = .ok r w' →
    match r with
    | none => (Instr.findAsking kt k l' i).run P w = .ok none w'
    | some (j, _) => ∃ e, i ≤ j ∧ l'[j - i]? = some e ∧ (Instr.findAsking kt k l' i).run P w = .ok (some (j, e.val)) w'
  | [], [], i, w, w', r, _, h => by
    simp only [Instr.findAsking, Sem.run_pure, Result.ok.injEq] at h
    obtain ⟨rfl, rfl⟩ := h
    simp [Instr.findAsking]
  | [], e :: l', i, w, w', r, h, _ => by simp at h
  | e :: l, [], i, w, w', r, h, _ => by simp at h
  | e :: l, e' :: l', i, w, w', r, h, hr => by
    simp only [List.map_cons, List.cons.injEq] at h
    obtain ⟨hk, h⟩ := h
    simp only [Instr.findAsking, Sem.run_bind, hk] at hr
    cases hq : (Op.equal kt k e'.key).run P w with
    | halt x y => rw [hq] at hr; simp [Result.andThen] at hr
    | ok b w1 =>
      rw [hq] at hr
      simp only [Result.andThen_ok] at hr
      cases b with
      | true =>
        simp only [if_true, Sem.run_pure, Result.ok.injEq] at hr
        obtain ⟨rfl, rfl⟩ := hr
        exact ⟨e', Nat.le_refl _, by simp, by simp [Instr.findAsking, hq]⟩
      | false =>
        simp only [Bool.false_eq_true, if_false] at hr
        have ih := findAsking_keys l l' (i + 1) w1 w' r h hr
        cases r with
        | none => simp only at ih ⊢; simp [Instr.findAsking, hq, ih]
        | some q =>
          obtain ⟨j, v⟩ := q
          obtain ⟨e2, h1, h2, h3⟩ := ih
          exact ⟨e2, by omega, by rw [show j - i = (j - (i + 1)) + 1 by omega]; simpa using h2, by simp [Instr.findAsking, hq, h3]⟩

theorem findKey_keys {P : Program} {kt : TypeId} {k : Value} {l l' : List MapEntry} {w w' : World} {r : Option (Nat × Value)} (h : l.map (·.key) = l'.map (·.key)) (hr : (Instr.findKey kt k l).run P w = .ok r w') :
    match r with
    | none => (Instr.findKey kt k l').run P w = .ok none w'
    | some (j, _) => ∃ e, l'[j]? = some e ∧ (Instr.findKey kt k l').run P w = .ok (some (j, e.val)) w' := by
  simp only [Instr.findKey, Sem.run_bind] at hr ⊢
  cases hu : (underlying kt).run P w with
  | halt x y => rw [hu] at hr; simp [Result.andThen] at hr
  | ok d w1 =>
    rw [hu] at hr
    simp only [Result.andThen_ok] at hr ⊢
    have hn := findNow_keys (kind := d) (k := k) l l' 0 h
    cases hf : Instr.findNow d k l 0 with
    | none =>
      rw [hf] at hr hn
      simp only at hr hn
      rw [hn]
      simp only
      have := findAsking_keys l l' 0 w1 w' r h hr
      cases r with
      | none => exact this
      | some q => obtain ⟨j, v⟩ := q; obtain ⟨e, _, h2, h3⟩ := this; exact ⟨e, by simpa using h2, h3⟩
    | some q =>
      rw [hf] at hr hn
      simp only [Sem.run_pure, Result.ok.injEq] at hr
      obtain ⟨rfl, rfl⟩ := hr
      cases q with
      | none => simp only at hn ⊢; rw [hn]; simp
      | some q =>
        obtain ⟨j, v⟩ := q
        obtain ⟨e, _, h2, h3⟩ := hn
        exact ⟨e, by simpa using h2, by rw [h3]; simp⟩

section
variable {P : Program} {E : Env} {D : Nat → Prop} {tmps : List AV} {a : Act} {B : Bd} {h : Hp} {w : World}

/-- What a map's entries are. -/
def MRel (E : Env) (es : List (AV × AV × Nat)) (es' : Array MapEntry) : Prop :=
  es'.size = es.length ∧ ∀ (i : Nat) (k v : AV) (n : Nat), es[i]? = some (k, v, n) → ∃ x y, k.den E = some x ∧ v.den E = some y ∧ es'[i]? = some { key := x, val := y, born := n }

theorem keysOf_keys : ∀ {es : List (AV × AV × Nat)} {l : List MapEntry} {l' : List MapEntry}, keysOf es = some l → l'.length = es.length →
    (∀ (i : Nat) (k v : AV) (n : Nat), es[i]? = some (k, v, n) → ∃ x y, k.den E = some x ∧ v.den E = some y ∧ l'[i]? = some { key := x, val := y, born := n }) → l.map (·.key) = l'.map (·.key)
  | [], l, l', h, hl, _ => by
    simp only [keysOf, Option.some.injEq] at h
    subst h
    have : l' = [] := List.eq_nil_of_length_eq_zero (by simpa using hl)
    subst this
    rfl
  | (k, v, n) :: es, l, l', h, hl, hr => by
    simp only [keysOf, Option.bind_eq_bind, Option.bind_eq_some_iff, Option.pure_def, Option.some.injEq] at h
    obtain ⟨kv, hkv, l1, hl1, rfl⟩ := h
    cases l' with
    | nil => simp at hl
    | cons e l' =>
      obtain ⟨x, y, hx, hy, he⟩ := hr 0 k v n (by simp)
      simp only [List.getElem?_cons_zero, Option.some.injEq] at he
      subst he
      have hxk : x = kv := by
        have := toValue_den E 6 k kv hkv
        rw [hx] at this
        injection this
      subst hxk
      simp only [List.map_cons, List.cons.injEq, true_and]
      exact keysOf_keys hl1 (by simpa using hl) (fun i k v n hi => by
        obtain ⟨x, y, h1, h2, h3⟩ := hr (i + 1) k v n (by simpa using hi)
        exact ⟨x, y, h1, h2, by simpa using h3⟩)

theorem key_same {k : AV} {kv kv' : Value} (h1 : toValue 6 k = some kv') (h2 : k.den E = some kv) : kv' = kv := by
  have := toValue_den E 6 k kv' h1
  rw [h2] at this
  injection this with this
  exact this.symm

theorem checkKey_int {kt : TypeId} {k kd : IntKind} {empty : Bool} {z : Int} (n : Nat) (hu : P.underlying kt = some (.int k)) : (Instr.checkKey empty (n + 1) kt (.int kd z)).run P w = .ok () w := by
  simp [Instr.checkKey, run_underlying hu]

theorem findKey_none {kt : TypeId} {k kd : IntKind} {z : Int} (hu : P.underlying kt = some (.int k)) : (Instr.findKey kt (.int kd z) []).run P w = .ok none w := by
  simp [Instr.findKey, run_underlying hu, Instr.findNow]

theorem findKey_front {kt : TypeId} {k kd : IntKind} {z : Int} {y : Value} {n : Nat} {l : List MapEntry} (hu : P.underlying kt = some (.int k)) :
    (Instr.findKey kt (.int kd z) ({ key := .int kd z, val := y, born := n } :: l)).run P w = .ok (some (0, y)) w := by
  simp [Instr.findKey, run_underlying hu, Instr.findNow, Instr.sameNow]

theorem placeA_sound {kt : TypeId} {empty : Bool} {k : AV} {kv : Value} {es : List (AV × AV × Nat)} {r : Option Nat} {es' : Array MapEntry} (hr : placeA P kt empty k es = some r) (hkd : k.den E = some kv) (hm : MRel E es es') (w : World) :
    (Instr.checkKey empty 10000 kt kv).run P w = .ok () w ∧
      match r with
      | none => (Instr.findKey kt kv es'.toList).run P w = .ok none w
      | some i => ∃ e, es'[i]? = some e ∧ (Instr.findKey kt kv es'.toList).run P w = .ok (some (i, e.val)) w := by
  unfold placeA at hr
  split at hr
  · rename_i kv' hkv
    obtain rfl := key_same hkv hkd
    simp only [Option.bind_eq_bind, Option.bind_eq_some_iff, Option.pure_def, Option.some.injEq] at hr
    obtain ⟨l, hl, u, hu, q, hq, rfl⟩ := hr
    refine ⟨runPure_sound _ _ _ hu w, ?_⟩
    have hk := keysOf_keys (l' := es'.toList) hl (by simpa using hm.1) (fun i k v n hi => by
      obtain ⟨x, y, h1, h2, h3⟩ := hm.2 i k v n hi
      exact ⟨x, y, h1, h2, by simpa using h3⟩)
    have := findKey_keys hk (runPure_sound _ _ _ hq w)
    cases q with
    | none => exact this
    | some p =>
      obtain ⟨j, v⟩ := p
      obtain ⟨e, h1, h2⟩ := this
      exact ⟨e, by simpa using h1, h2⟩
  · split at hr
    · rename_i kd e k1 hu x2 hn
      obtain rfl := denInt hkd
      refine ⟨checkKey_int 9999 hu, ?_⟩
      unfold findIE at hr
      split at hr
      · injection hr with hr
        subst hr
        have h0 : es' = #[] := Array.eq_empty_of_size_eq_zero (by simpa using hm.1)
        subst h0
        exact findKey_none hu
      · rename_i kd' e' v n rest
        split at hr
        · rename_i hc
          simp only [Bool.and_eq_true, decide_eq_true_eq] at hc
          obtain ⟨rfl, rfl⟩ := hc
          injection hr with hr
          subst hr
          obtain ⟨x, y, hx, hy, he⟩ := hm.2 0 (.int kd' e') v n (by simp)
          obtain rfl := denInt hx
          refine ⟨_, he, ?_⟩
          have hl : ∃ l, es'.toList = { key := .int kd' (e'.den E.ι), val := y, born := n } :: l := by
            obtain ⟨l⟩ := es'
            cases l with
            | nil => simp at he
            | cons a l => simp at he; subst he; exact ⟨l, rfl⟩
          obtain ⟨l, hl⟩ := hl
          rw [hl]
          exact findKey_front hu
        · cases hr
      · cases hr
    · cases hr

theorem map_obj (hw : WR E B h w) {b c : Nat} {es : List (AV × AV × Nat)} {clock : Nat} (hb : E.ρ[b]? = some c) (hbs : h.bs[b]? = some (.map es clock)) :
    ∃ es', w.heap[c]? = some (.map es' clock) ∧ MRel E es es' ∧ (getObj c).run P w = .ok (.map es' clock) w := by
  obtain ⟨ob, hob, es', rfl, h1, h2⟩ := hw.obj b c _ hb hbs
  exact ⟨es', hob, ⟨h1, h2⟩, getObj_run hob (fun _ _ _ h => by cases h)⟩

theorem MRel.isEmpty {es : List (AV × AV × Nat)} {es' : Array MapEntry} (h : MRel E es es') : es'.isEmpty = es.isEmpty := by
  have := h.1
  cases es with
  | nil => simp at this ⊢; exact this
  | cons e es =>
    simp only [List.length_cons] at this
    simp only [List.isEmpty_cons]
    rw [Array.isEmpty_eq_false_iff]
    intro h0
    subst h0
    simp at this

set_option maxRecDepth 30000 in
theorem lookupA_sound (hw : WR E B h w) {t : TypeId} {x k v : AV} {ok : Bool} {xv kv : Value} (hr : lookupA P h t x k ok = some v) (hx : x.den E = some xv) (hk : k.den E = some kv) :
    ∃ z, v.den E = some z ∧ (Instr.lookup t xv kv ok).run P w = .ok z w := by
  unfold lookupA at hr
  split at hr
  · rename_i kt e hd
    simp only [Option.bind_eq_bind, Option.bind_eq_some_iff] at hr
    obtain ⟨es, hes, r, hpl, hr⟩ := hr
    -- the entries
    have hent : ∃ es' : Array MapEntry, MRel E es es' ∧ ((xv = .map none ∧ es' = #[]) ∨ ∃ c clock, xv = .map (some c) ∧ (getObj c).run P w = .ok (.map es' clock) w) := by
      unfold mapOf at hes
      split at hes
      · injection hes with hes
        subst hes
        obtain rfl := denNilMap hx
        exact ⟨#[], ⟨rfl, fun i k v n hi => by simp at hi⟩, Or.inl ⟨rfl, rfl⟩⟩
      · rename_i b
        split at hes
        · rename_i es0 clock hbs
          injection hes with hes
          subst hes
          obtain ⟨c, hc, rfl⟩ := denMap hx
          obtain ⟨es', _, hm, hg⟩ := map_obj (P := P) hw hc hbs
          exact ⟨es', hm, Or.inr ⟨c, clock, rfl, hg⟩⟩
        · cases hes
      · cases hes
    obtain ⟨es', hm, hxx⟩ := hent
    obtain ⟨hck, hfind⟩ := placeA_sound (empty := es'.isEmpty) (by rw [hm.isEmpty]; exact hpl) hk hm w
    have hmain : ∀ (vv : Value) (b : Bool), (match r with
        | none => ∃ z, (zeroValue e).run P w = .ok z w ∧ vv = z ∧ b = false
        | some i => ∃ e', es'[i]? = some e' ∧ vv = e'.val ∧ b = true) → (Instr.lookup t xv kv ok).run P w = .ok (if ok then .tuple #[vv, .bool b] else vv) w := by
      intro vv b hvv
      have hf : ∃ q, (Instr.findKey kt kv es'.toList).run P w = .ok q w ∧ (match q with
          | some (_, v) => vv = v ∧ b = true
          | none => (zeroValue e).run P w = .ok vv w ∧ b = false) := by
        cases r with
        | none =>
          obtain ⟨z, hz, rfl, rfl⟩ := hvv
          exact ⟨none, hfind, hz, rfl⟩
        | some i =>
          obtain ⟨e', he', rfl, rfl⟩ := hvv
          obtain ⟨e2, he2, hf⟩ := hfind
          rw [he'] at he2
          injection he2 with he2
          subst he2
          exact ⟨_, hf, rfl, rfl⟩
      obtain ⟨q, hq, hqq⟩ := hf
      rcases hxx with ⟨rfl, rfl⟩ | ⟨c, clock, rfl, hg⟩
      · simp only [Instr.lookup, Sem.run_bind, run_underlying hd, Result.andThen_ok, Sem.run_pure, hck, hq]
        cases q with
        | none => obtain ⟨hz, rfl⟩ := hqq; simp [hz]
        | some p => obtain ⟨rfl, rfl⟩ := hqq; simp
      · simp only [Instr.lookup, Sem.run_bind, run_underlying hd, Result.andThen_ok, Sem.run_pure, hg, hck, hq]
        cases q with
        | none => obtain ⟨hz, rfl⟩ := hqq; simp [hz]
        | some p => obtain ⟨rfl, rfl⟩ := hqq; simp
    cases r with
    | none =>
      simp only [Option.bind_eq_some_iff, Option.pure_def, Option.some.injEq] at hr
      obtain ⟨z, hz, rfl⟩ := hr
      obtain ⟨i, zv, hi, hzv, hzd⟩ := zero_den (E := E) hz
      refine ⟨_, ?_, hmain zv false ⟨zv, run_zeroValue hi hzv w, rfl, rfl⟩⟩
      cases ok <;> simp [AV.den, AV.denL, BE.den, hzd]
    | some i =>
      simp only [Option.bind_eq_some_iff, Option.pure_def, Option.some.injEq] at hr
      obtain ⟨⟨k0, v0, n⟩, hi, rfl⟩ := hr
      obtain ⟨x1, y1, _, hy1, he⟩ := hm.2 i k0 v0 n hi
      refine ⟨_, ?_, hmain y1 true ⟨_, he, rfl, rfl⟩⟩
      cases ok <;> simp [AV.den, AV.denL, BE.den, hy1]
  · cases hr

theorem MRel.set {es : List (AV × AV × Nat)} {es' : Array MapEntry} (hm : MRel E es es') {i n : Nat} {k0 v0 k v : AV} {x y : Value} (hi : es[i]? = some (k0, v0, n)) (hk : k.den E = some x) (hv : v.den E = some y) :
    MRel E (es.set i (k, v, n)) (es'.modify i fun e => { e with key := x, val := y }) := by
  refine ⟨by simp [hm.1], fun j k1 v1 m hj => ?_⟩
  by_cases hji : j = i
  · subst hji
    have hlt := (List.getElem?_eq_some_iff.1 hi).1
    rw [List.getElem?_set_self hlt] at hj
    simp only [Option.some.injEq, Prod.mk.injEq] at hj
    obtain ⟨rfl, rfl, rfl⟩ := hj
    obtain ⟨x0, y0, _, _, he⟩ := hm.2 j k0 v0 n hi
    exact ⟨x, y, hk, hv, by rw [Array.getElem?_modify, if_pos rfl, he]; rfl⟩
  · rw [List.getElem?_set_ne (Ne.symm hji)] at hj
    obtain ⟨x1, y1, h1, h2, h3⟩ := hm.2 j k1 v1 m hj
    exact ⟨x1, y1, h1, h2, by rw [Array.getElem?_modify, if_neg (Ne.symm hji)]; exact h3⟩

theorem MRel.setVal {es : List (AV × AV × Nat)} {es' : Array MapEntry} (hm : MRel E es es') {i n : Nat} {k0 v0 v : AV} {y : Value} (hi : es[i]? = some (k0, v0, n)) (hv : v.den E = some y) :
    MRel E (es.set i (k0, v, n)) (es'.modify i fun e => { e with val := y }) := by
  refine ⟨by simp [hm.1], fun j k1 v1 m hj => ?_⟩
  by_cases hji : j = i
  · subst hji
    have hlt := (List.getElem?_eq_some_iff.1 hi).1
    rw [List.getElem?_set_self hlt] at hj
    simp only [Option.some.injEq, Prod.mk.injEq] at hj
    obtain ⟨rfl, rfl, rfl⟩ := hj
    obtain ⟨x0, y0, hx0, _, he⟩ := hm.2 j k0 v0 n hi
    exact ⟨x0, y, hx0, hv, by rw [Array.getElem?_modify, if_pos rfl, he]; rfl⟩
  · rw [List.getElem?_set_ne (Ne.symm hji)] at hj
    obtain ⟨x1, y1, h1, h2, h3⟩ := hm.2 j k1 v1 m hj
    exact ⟨x1, y1, h1, h2, by rw [Array.getElem?_modify, if_neg (Ne.symm hji)]; exact h3⟩

theorem MRel.setKey {es : List (AV × AV × Nat)} {es' : Array MapEntry} (hm : MRel E es es') {i n : Nat} {k0 v0 k : AV} {x : Value} (hi : es[i]? = some (k0, v0, n)) (hk : k.den E = some x) :
    MRel E (es.set i (k, v0, n)) (es'.modify i fun e => { e with key := x }) := by
  refine ⟨by simp [hm.1], fun j k1 v1 m hj => ?_⟩
  by_cases hji : j = i
  · subst hji
    have hlt := (List.getElem?_eq_some_iff.1 hi).1
    rw [List.getElem?_set_self hlt] at hj
    simp only [Option.some.injEq, Prod.mk.injEq] at hj
    obtain ⟨rfl, rfl, rfl⟩ := hj
    obtain ⟨x0, y0, _, hy0, he⟩ := hm.2 j k0 v0 n hi
    exact ⟨x, y0, hk, hy0, by rw [Array.getElem?_modify, if_pos rfl, he]; rfl⟩
  · rw [List.getElem?_set_ne (Ne.symm hji)] at hj
    obtain ⟨x1, y1, h1, h2, h3⟩ := hm.2 j k1 v1 m hj
    exact ⟨x1, y1, h1, h2, by rw [Array.getElem?_modify, if_neg (Ne.symm hji)]; exact h3⟩

theorem MRel.push {es : List (AV × AV × Nat)} {es' : Array MapEntry} (hm : MRel E es es') {n : Nat} {k v : AV} {x y : Value} (hk : k.den E = some x) (hv : v.den E = some y) :
    MRel E (es ++ [(k, v, n)]) (es'.push { key := x, val := y, born := n }) := by
  refine ⟨by simp [hm.1], fun j k1 v1 m hj => ?_⟩
  rw [Array.getElem?_push, hm.1]
  by_cases hjl : j = es.length
  · subst hjl
    rw [List.getElem?_append_right (Nat.le_refl _)] at hj
    simp only [Nat.sub_self, List.getElem?_cons_zero, Option.some.injEq, Prod.mk.injEq] at hj
    obtain ⟨rfl, rfl, rfl⟩ := hj
    exact ⟨x, y, hk, hv, by rw [if_pos rfl]⟩
  · have hlt : j < es.length := by
      have := (List.getElem?_eq_some_iff.1 hj).1
      simp at this
      omega
    rw [List.getElem?_append_left hlt] at hj
    rw [if_neg hjl]
    exact hm.2 j k1 v1 m hj

theorem keyThatStays_run {o n : Value} (h : Instr.sameBits 10000 o n = true) (w : World) : (Instr.keyThatStays o n).run P w = .ok n w := by
  unfold Instr.keyThatStays
  rw [if_pos h]
  rfl

/-- A map's block is laid anew. -/
theorem setMap_sound (hw : WR E B h w) {b c : Nat} {es es2 : List (AV × AV × Nat)} {es2' : Array MapEntry} {clock clock2 : Nat} (hb : E.ρ[b]? = some c) (hbs : h.bs[b]? = some (.map es clock)) (hm : MRel E es2 es2') :
    ∃ w', (setObj c (.map es2' clock2)).run P w = .ok () w' ∧ Ext E B w E { h with bs := h.bs.set b (.map es2 clock2) } w' := by
  obtain ⟨h1, h2⟩ := setObj_sound (P := P) (o' := .map es2 clock2) (ob := .map es2' clock2) hw hb hbs rfl rfl ⟨es2', rfl, hm.1, hm.2⟩
  exact ⟨_, h1, h2⟩

set_option maxRecDepth 30000 in
theorem updateA_sound (hw : WR E B h w) {t : TypeId} {x k v : AV} {h' : Hp} {xv kv vv : Value} (hr : updateA P h t x k v = some h') (hx : x.den E = some xv) (hk : k.den E = some kv) (hv : v.den E = some vv) :
    ∃ w', (Instr.mapUpdate t xv kv vv).run P w = .ok () w' ∧ Ext E B w E h' w' := by
  unfold updateA at hr
  split at hr
  · rename_i kt e b hd
    obtain ⟨c, hc, rfl⟩ := denMap hx
    split at hr
    · rename_i es clock hbs
      obtain ⟨es', _, hm, hg⟩ := map_obj (P := P) hw hc hbs
      simp only [Option.bind_eq_bind, Option.bind_eq_some_iff] at hr
      obtain ⟨r, hpl, hr⟩ := hr
      obtain ⟨hck, hfind⟩ := placeA_sound hpl hk hm w
      cases r with
      | none =>
        simp only [Option.pure_def, Option.some.injEq] at hr
        subst hr
        simp only at hfind
        obtain ⟨w', hset, hxt⟩ := setMap_sound (P := P) (clock2 := clock + 1) hw hc hbs (hm.push (n := clock) hk hv)
        refine ⟨w', ?_, hxt⟩
        simp only [Instr.mapUpdate, Sem.run_bind, run_underlying hd, Result.andThen_ok, hg, hck, hfind, hset]
      | some i =>
        simp only [Option.bind_eq_some_iff] at hr
        obtain ⟨⟨k0, v0, n⟩, hi, k0v, hk0, kv', hkv, hr⟩ := hr
        obtain rfl := key_same hkv hk
        split at hr
        · rename_i hsame
          simp only [Option.pure_def, Option.some.injEq] at hr
          subst hr
          obtain ⟨e', he', hf⟩ := hfind
          obtain ⟨x0, y0, hx0, hy0, he0⟩ := hm.2 i k0 v0 n hi
          obtain rfl := key_same hk0 hx0
          rw [he'] at he0
          injection he0 with he0
          subst he0
          obtain ⟨w', hset, hxt⟩ := setMap_sound (P := P) (clock2 := clock) hw hc hbs (hm.set hi hk hv)
          refine ⟨w', ?_, hxt⟩
          simp only [Instr.mapUpdate, Sem.run_bind, run_underlying hd, Result.andThen_ok, hg, hck, hf, he', Option.map_some, Option.getD_some, keyThatStays_run hsame, hset]
        · cases hr
    · cases hr
  · cases hr

set_option maxRecDepth 30000 in
theorem entryA_sound (hw : WR E B h w) {t : TypeId} {x k v : AV} {h' : Hp} {xv kv : Value} (hr : entryA P h t x k = some (v, h')) (hx : x.den E = some xv) (hk : k.den E = some kv) :
    ∃ z w', (Instr.mapEntry t xv kv).run P w = .ok z w' ∧ v.den E = some z ∧ Ext E B w E h' w' := by
  unfold entryA at hr
  split at hr
  · rename_i kt e b hd
    obtain ⟨c, hc, rfl⟩ := denMap hx
    split at hr
    · rename_i es clock hbs
      obtain ⟨es', _, hm, hg⟩ := map_obj (P := P) hw hc hbs
      simp only [Option.bind_eq_bind, Option.bind_eq_some_iff] at hr
      obtain ⟨r, hpl, hr⟩ := hr
      obtain ⟨hck, hfind⟩ := placeA_sound hpl hk hm w
      cases r with
      | none =>
        simp only [Option.bind_eq_some_iff, Option.pure_def, Option.some.injEq, Prod.mk.injEq] at hr
        obtain ⟨z, hz, rfl, rfl⟩ := hr
        obtain ⟨i, zv, hi, hzv, hzd⟩ := zero_den (E := E) hz
        simp only at hfind
        obtain ⟨w', hset, hxt⟩ := setMap_sound (P := P) (clock2 := clock + 1) hw hc hbs (hm.push (n := clock) hk hzd)
        refine ⟨.tuple #[zv, goInt clock], w', ?_, by simp [AV.den, AV.denL, IE.den, hzd, goInt], hxt⟩
        simp only [Instr.mapEntry, Sem.run_bind, run_underlying hd, Result.andThen_ok, hg, hck, hfind, run_zeroValue hi hzv, hset, Sem.run_pure]
      | some i =>
        simp only [Option.bind_eq_some_iff] at hr
        obtain ⟨⟨k0, v0, n⟩, hi, k0v, hk0, kv', hkv, hr⟩ := hr
        obtain rfl := key_same hkv hk
        split at hr
        · rename_i hsame
          simp only [Option.pure_def, Option.some.injEq, Prod.mk.injEq] at hr
          obtain ⟨rfl, rfl⟩ := hr
          obtain ⟨e', he', hf⟩ := hfind
          obtain ⟨x0, y0, hx0, hy0, he0⟩ := hm.2 i k0 v0 n hi
          obtain rfl := key_same hk0 hx0
          rw [he'] at he0
          injection he0 with he0
          subst he0
          obtain ⟨w', hset, hxt⟩ := setMap_sound (P := P) (clock2 := clock) hw hc hbs (hm.setKey hi hk)
          refine ⟨.tuple #[y0, goInt n], w', ?_, by simp [AV.den, AV.denL, IE.den, hy0, goInt], hxt⟩
          simp only [Instr.mapEntry, Sem.run_bind, run_underlying hd, Result.andThen_ok, hg, hck, hf, he', Option.map_some, Option.getD_some, keyThatStays_run hsame, hset, Sem.run_pure]
        · cases hr
    · cases hr
  · cases hr

theorem findIdx_rel {es : List (AV × AV × Nat)} {es' : Array MapEntry} (hm : MRel E es es') (n : Int) : es'.findIdx? (fun e => (e.born : Int) == n) = es.findIdx? (fun e => (e.2.2 : Int) == n) := by
  obtain ⟨l'⟩ := es'
  have h1 : l'.length = es.length := by simpa using hm.1
  have h2 : ∀ (i : Nat) (k v : AV) (n : Nat), es[i]? = some (k, v, n) → ∃ e, l'[i]? = some e ∧ e.born = n := fun i k v n hi => by
    obtain ⟨x, y, _, _, h3⟩ := hm.2 i k v n hi
    exact ⟨_, by simpa using h3, rfl⟩
  clear hm
  simp only [List.findIdx?_toArray]
  induction es generalizing l' with
  | nil => simp at h1; subst h1; rfl
  | cons p es ih =>
    obtain ⟨k, v, m⟩ := p
    cases l' with
    | nil => simp at h1
    | cons e l' =>
      obtain ⟨e0, he0, hb⟩ := h2 0 k v m (by simp)
      simp only [List.getElem?_cons_zero, Option.some.injEq] at he0
      subst he0
      have := ih l' (by simpa using h1) (fun i k v n hi => by
        obtain ⟨e, h3, h4⟩ := h2 (i + 1) k v n (by simpa using hi)
        exact ⟨e, by simpa using h3, h4⟩)
      simp only [List.findIdx?_cons, hb, this]

theorem entryStoreA_sound (hw : WR E B h w) {t : TypeId} {x s v : AV} {h' : Hp} {xv sv vv : Value} (hr : entryStoreA h x s v = some h') (hx : x.den E = some xv) (hs : s.den E = some sv) (hv : v.den E = some vv) :
    ∃ w', (Instr.entryStore t xv sv vv).run P w = .ok () w' ∧ Ext E B w E h' w' := by
  unfold entryStoreA at hr
  split at hr
  · rename_i b kd n
    obtain ⟨c, hc, rfl⟩ := denMap hx
    obtain rfl := denInt hs
    split at hr
    · rename_i es clock hbs
      obtain ⟨es', _, hm, hg⟩ := map_obj (P := P) hw hc hbs
      simp only [Option.bind_eq_bind, Option.bind_eq_some_iff, Option.pure_def, Option.some.injEq] at hr
      obtain ⟨i, hi, ⟨k, v0, m⟩, hk, rfl⟩ := hr
      obtain ⟨w', hset, hxt⟩ := setMap_sound (P := P) (clock2 := clock) hw hc hbs (hm.setVal hk hv)
      refine ⟨w', ?_, hxt⟩
      have hfi := findIdx_rel hm n
      rw [hi] at hfi
      simp [Instr.entryStore, hg, asInt, asIntOf, IE.den, hfi, hset]
    · cases hr
  · cases hr

theorem MRel.erase {es : List (AV × AV × Nat)} {es' : Array MapEntry} (hm : MRel E es es') (i : Nat) : MRel E (es.eraseIdx i) (es'.eraseIdxIfInBounds i) := by
  have hto : (es'.eraseIdxIfInBounds i).toList = es'.toList.eraseIdx i := by
    unfold Array.eraseIdxIfInBounds
    split
    · simp
    · rename_i hlt
      rw [List.eraseIdx_of_length_le (by simpa using hlt)]
  have hget : ∀ j : Nat, (es'.eraseIdxIfInBounds i)[j]? = (es'.toList.eraseIdx i)[j]? := fun j => by rw [← hto, Array.getElem?_toList]
  refine ⟨?_, fun j k v n hj => ?_⟩
  · have : (es'.eraseIdxIfInBounds i).size = (es'.toList.eraseIdx i).length := by rw [← hto, Array.length_toList]
    rw [this, List.length_eraseIdx, List.length_eraseIdx]
    simp [hm.1]
  · rw [hget, List.getElem?_eraseIdx]
    rw [List.getElem?_eraseIdx] at hj
    split at hj
    · rename_i hlt
      rw [if_pos hlt]
      obtain ⟨x, y, h1, h2, h3⟩ := hm.2 j k v n hj
      exact ⟨x, y, h1, h2, by simpa using h3⟩
    · rename_i hlt
      rw [if_neg hlt]
      obtain ⟨x, y, h1, h2, h3⟩ := hm.2 (j + 1) k v n hj
      exact ⟨x, y, h1, h2, by simpa using h3⟩

theorem setMap_same (hw : WR E B h w) {b c : Nat} {es : List (AV × AV × Nat)} {es' : Array MapEntry} {clock : Nat} (hb : E.ρ[b]? = some c) (hbs : h.bs[b]? = some (.map es clock)) (hm : MRel E es es') :
    ∃ w', (setObj c (.map es' clock)).run P w = .ok () w' ∧ Ext E B w E h w' := by
  obtain ⟨w', h1, h2⟩ := setMap_sound (P := P) (clock2 := clock) hw hb hbs hm
  refine ⟨w', h1, ?_⟩
  have : h.bs.set b (.map es clock) = h.bs := Bl.set_same hbs
  rw [this] at h2
  exact h2

set_option maxRecDepth 30000 in
theorem deleteA_sound (hw : WR E B h w) {ts : Array TypeId} {ty t : TypeId} {x k : AV} {h' : Hp} {xv kv : Value} (ht : ts[0]? = some t) (hr : deleteA P h t x k = some h') (hx : x.den E = some xv) (hk : k.den E = some kv) :
    ∃ w', (Builtin.delete_ ts ty #[xv, kv]).run P w = .ok (.tuple #[]) w' ∧ Ext E B w E h' w' := by
  unfold deleteA at hr
  split at hr
  · rename_i kt e hd
    simp only [Option.bind_eq_bind] at hr
    split at hr
    · simp only [Option.bind_eq_some_iff, Option.pure_def, Option.some.injEq] at hr
      obtain ⟨kv', hkv, u, hu, rfl⟩ := hr
      obtain rfl := key_same hkv hk
      obtain rfl := denNilMap hx
      have hck := runPure_sound _ _ _ hu w
      refine ⟨w, ?_, .refl hw⟩
      simp only [Builtin.delete_, ht, List.getElem?_toArray, List.getElem?_cons_zero, List.getElem?_cons_succ, Sem.run_bind, run_underlying hd, Result.andThen_ok, hck, Sem.run_pure]
    · rename_i b
      obtain ⟨c, hc, rfl⟩ := denMap hx
      split at hr
      · rename_i es clock hbs
        obtain ⟨es', _, hm, hg⟩ := map_obj (P := P) hw hc hbs
        simp only [Option.bind_eq_some_iff] at hr
        obtain ⟨r, hpl, hr⟩ := hr
        obtain ⟨hck, hfind⟩ := placeA_sound (empty := es'.isEmpty) (by rw [hm.isEmpty]; exact hpl) hk hm w
        cases r with
        | none =>
          simp only [Option.pure_def, Option.some.injEq] at hr
          subst hr
          simp only at hfind
          obtain ⟨w', hset, hxt⟩ := setMap_same (P := P) hw hc hbs hm
          refine ⟨w', ?_, hxt⟩
          simp only [Builtin.delete_, ht, List.getElem?_toArray, List.getElem?_cons_zero, List.getElem?_cons_succ, Sem.run_bind, run_underlying hd, Result.andThen_ok, hg, hck, hfind, hset, Sem.run_pure]
        | some i =>
          simp only [Option.pure_def, Option.some.injEq] at hr
          subst hr
          obtain ⟨e', he', hf⟩ := hfind
          obtain ⟨w', hset, hxt⟩ := setMap_sound (P := P) (clock2 := clock) hw hc hbs (hm.erase i)
          refine ⟨w', ?_, hxt⟩
          simp only [Builtin.delete_, ht, List.getElem?_toArray, List.getElem?_cons_zero, List.getElem?_cons_succ, Sem.run_bind, run_underlying hd, Result.andThen_ok, hg, hck, hf, hset, Sem.run_pure]
      · cases hr
    · cases hr
  · cases hr

end
end Go.Sx
