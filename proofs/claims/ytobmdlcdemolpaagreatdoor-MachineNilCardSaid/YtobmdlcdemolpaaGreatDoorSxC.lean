/-
  A WALKER THAT COMPUTES, ITS THIRD PART: what its values and its memory mean.
-/
import Derived.Test.YtobmdlcdemolpaaGreatDoorSxB
import Derived.WalkKit
namespace Go.Sx

/-- Where the numbered blocks lie, what the open capacities are, what the unknowns are. -/
structure Env where
  ρ : List Nat
  κ : List Nat
  ι : Unk

def Cap.den (E : Env) : Cap → Option Nat
  | .known n => some n
  | .var i s =>
    match E.κ[i]? with
    | some n => if s ≤ n then some (n - s) else none
    | none => none

mutual
def AV.den (E : Env) : AV → Option Value
  | .bool b => some (.bool (b.den E.ι))
  | .int k e => some (.int k (e.den E.ι))
  | .str s => some (.string ⟨s.toArray⟩)
  | .nilPtr => some (.pointer none)
  | .ptr b o => (E.ρ[b]?).map fun c => .pointer (some ⟨c, o, none⟩)
  | .nilSlice => some (.slice none 0 0)
  | .slice b o len cap =>
    match E.ρ[b]?, cap.den E with
    | some c, some n => if len ≤ n then some (.slice (some ⟨c, o, none⟩) len n) else none
    | _, _ => none
  | .nilMap => some (.map none)
  | .map b => (E.ρ[b]?).map fun c => .map (some c)
  | .func f a b =>
    match AV.denL E a, AV.denL E b with
    | some x, some y => some (.func (.func f) x.toArray y.toArray)
    | _, _ => none
  | .nilFunc => some .nilFunc
  | .iface t v => (AV.den E v).map fun x => .iface t x
  | .nilIface => some .nilIface
  | .agg cs => (AV.denL E cs).map fun l => .agg l.toArray
  | .tuple vs => (AV.denL E vs).map fun l => .tuple l.toArray
  | .yield b => (E.ρ[b]?).map fun c => .func (.yield c) #[] #[]
  | .strv i => some (.string ⟨(E.ι.str i).toArray⟩)
  | .capv i s => (Cap.den E (.var i s)).map fun (n : Nat) => Value.int .i64 (n : Int)
  | .glob g o => some (.pointer (some ⟨g, o, none⟩))
def AV.denL (E : Env) : List AV → Option (List Value)
  | [] => some []
  | v :: r =>
    match AV.den E v, AV.denL E r with
    | some x, some l => some (x :: l)
    | _, _ => none
end

structure Env.Le (E E' : Env) : Prop where
  ι : E'.ι = E.ι
  ρ : ∀ (b c : Nat), E.ρ[b]? = some c → E'.ρ[b]? = some c
  κ : ∀ (i n : Nat), E.κ[i]? = some n → E'.κ[i]? = some n

theorem Env.Le.refl (E : Env) : E.Le E := ⟨rfl, fun _ _ h => h, fun _ _ h => h⟩
theorem Env.Le.trans {E E' E'' : Env} (h : E.Le E') (k : E'.Le E'') : E.Le E'' :=
  ⟨k.ι.trans h.ι, fun b c hb => k.ρ b c (h.ρ b c hb), fun i n hi => k.κ i n (h.κ i n hi)⟩

theorem Cap.den_var {E : Env} {i s m : Nat} : (Cap.var i s).den E = some m ↔ ∃ n, E.κ[i]? = some n ∧ s ≤ n ∧ m = n - s := by
  simp only [Cap.den]
  constructor
  · intro h
    split at h
    · rename_i n hn
      split at h
      · rename_i hs
        injection h with h
        exact ⟨n, hn, hs, h.symm⟩
      · cases h
    · cases h
  · rintro ⟨n, hn, hs, rfl⟩
    rw [hn]
    simp [hs]

theorem Cap.den_mono {E E' : Env} (h : E.Le E') {c : Cap} {n : Nat} (hc : c.den E = some n) : c.den E' = some n := by
  cases c with
  | known m => exact hc
  | var i s =>
    obtain ⟨k, hk, hs, rfl⟩ := Cap.den_var.1 hc
    exact Cap.den_var.2 ⟨k, h.κ _ _ hk, hs, rfl⟩

mutual
theorem AV.den_mono {E E' : Env} (h : E.Le E') : ∀ (v : AV) (x : Value), v.den E = some x → v.den E' = some x
  | .bool b, x, hx => by simpa [AV.den, h.ι] using hx
  | .int k e, x, hx => by simpa [AV.den, h.ι] using hx
  | .str s, x, hx => by simpa [AV.den] using hx
  | .nilPtr, x, hx => by simpa [AV.den] using hx
  | .ptr b o, x, hx => by
    simp only [AV.den, Option.map_eq_some_iff] at hx ⊢
    obtain ⟨c, hc, rfl⟩ := hx
    exact ⟨c, h.ρ b c hc, rfl⟩
  | .nilSlice, x, hx => by simpa [AV.den] using hx
  | .slice b o len cap, x, hx => by
    simp only [AV.den] at hx ⊢
    split at hx
    · rename_i c n hc hn
      rw [h.ρ b c hc, Cap.den_mono h hn]
      exact hx
    · cases hx
  | .nilMap, x, hx => by simpa [AV.den] using hx
  | .map b, x, hx => by
    simp only [AV.den, Option.map_eq_some_iff] at hx ⊢
    obtain ⟨c, hc, rfl⟩ := hx
    exact ⟨c, h.ρ b c hc, rfl⟩
  | .func f a b, x, hx => by
    simp only [AV.den] at hx ⊢
    split at hx
    · rename_i y z hy hz
      rw [AV.denL_mono h a y hy, AV.denL_mono h b z hz]
      exact hx
    · cases hx
  | .nilFunc, x, hx => by simpa [AV.den] using hx
  | .iface t v, x, hx => by
    simp only [AV.den, Option.map_eq_some_iff] at hx ⊢
    obtain ⟨c, hc, rfl⟩ := hx
    exact ⟨c, AV.den_mono h v c hc, rfl⟩
  | .nilIface, x, hx => by simpa [AV.den] using hx
  | .agg cs, x, hx => by
    simp only [AV.den, Option.map_eq_some_iff] at hx ⊢
    obtain ⟨c, hc, rfl⟩ := hx
    exact ⟨c, AV.denL_mono h cs c hc, rfl⟩
  | .tuple cs, x, hx => by
    simp only [AV.den, Option.map_eq_some_iff] at hx ⊢
    obtain ⟨c, hc, rfl⟩ := hx
    exact ⟨c, AV.denL_mono h cs c hc, rfl⟩
  | .yield b, x, hx => by
    simp only [AV.den, Option.map_eq_some_iff] at hx ⊢
    obtain ⟨c, hc, rfl⟩ := hx
    exact ⟨c, h.ρ b c hc, rfl⟩
  | .strv i, x, hx => by simpa [AV.den, h.ι] using hx
  | .capv i s, x, hx => by
    simp only [AV.den, Option.map_eq_some_iff] at hx ⊢
    obtain ⟨c, hc, rfl⟩ := hx
    exact ⟨c, Cap.den_mono h hc, rfl⟩
  | .glob g o, x, hx => by simpa [AV.den] using hx
theorem AV.denL_mono {E E' : Env} (h : E.Le E') : ∀ (v : List AV) (x : List Value), AV.denL E v = some x → AV.denL E' v = some x
  | [], x, hx => by simpa [AV.denL] using hx
  | v :: r, x, hx => by
    simp only [AV.denL] at hx ⊢
    split at hx
    · rename_i y z hy hz
      rw [AV.den_mono h v y hy, AV.denL_mono h r z hz]
      exact hx
    · cases hx
end

/-! ### Lists of values -/

theorem denL_nil (E : Env) : AV.denL E [] = some [] := by simp [AV.denL]
theorem denL_cons {E : Env} {v : AV} {r : List AV} {l : List Value} :
    AV.denL E (v :: r) = some l ↔ ∃ x m, v.den E = some x ∧ AV.denL E r = some m ∧ l = x :: m := by
  simp only [AV.denL]
  constructor
  · intro h
    split at h
    · rename_i x m hx hm
      exact ⟨x, m, hx, hm, by injection h with h; exact h.symm⟩
    · cases h
  · rintro ⟨x, m, hx, hm, rfl⟩
    simp [hx, hm]

theorem denL_length {E : Env} : ∀ {r : List AV} {l : List Value}, AV.denL E r = some l → l.length = r.length
  | [], l, h => by simp [AV.denL] at h; subst h; rfl
  | v :: r, l, h => by
    obtain ⟨x, m, _, hm, rfl⟩ := denL_cons.1 h
    simp [denL_length hm]

theorem denL_get {E : Env} : ∀ {r : List AV} {l : List Value}, AV.denL E r = some l → ∀ (i : Nat) (v : AV), r[i]? = some v → ∃ x, v.den E = some x ∧ l[i]? = some x
  | [], l, _, i, v, hv => by simp at hv
  | u :: r, l, h, i, v, hv => by
    obtain ⟨x, m, hx, hm, rfl⟩ := denL_cons.1 h
    cases i with
    | zero => simp at hv; subst hv; exact ⟨x, hx, by simp⟩
    | succ i => simp at hv; obtain ⟨y, hy, hi⟩ := denL_get hm i v hv; exact ⟨y, hy, by simpa using hi⟩

theorem denL_append {E : Env} : ∀ {r s : List AV} {l m : List Value}, AV.denL E r = some l → AV.denL E s = some m → AV.denL E (r ++ s) = some (l ++ m)
  | [], s, l, m, h, k => by simp [AV.denL] at h; subst h; simpa using k
  | v :: r, s, l, m, h, k => by
    obtain ⟨x, l', hx, hl, rfl⟩ := denL_cons.1 h
    exact denL_cons.2 ⟨x, l' ++ m, hx, denL_append hl k, rfl⟩

theorem denL_set {E : Env} : ∀ {r : List AV} {l : List Value}, AV.denL E r = some l → ∀ (i : Nat) (v : AV) (x : Value), v.den E = some x → AV.denL E (r.set i v) = some (l.set i x)
  | [], l, h, i, v, x, _ => by simp [AV.denL] at h; subst h; simp [AV.denL]
  | u :: r, l, h, i, v, x, hx => by
    obtain ⟨y, m, hy, hm, rfl⟩ := denL_cons.1 h
    cases i with
    | zero => exact denL_cons.2 ⟨x, m, hx, hm, by simp⟩
    | succ i => exact denL_cons.2 ⟨y, m.set i x, hy, denL_set hm i v x hx, by simp⟩

theorem denL_replicate {E : Env} {v : AV} {x : Value} (h : v.den E = some x) : ∀ n, AV.denL E (List.replicate n v) = some (List.replicate n x)
  | 0 => by simp [AV.denL]
  | n + 1 => by rw [List.replicate_succ, List.replicate_succ]; exact denL_cons.2 ⟨x, _, h, denL_replicate h n, rfl⟩

theorem denL_drop {E : Env} : ∀ {r : List AV} {l : List Value}, AV.denL E r = some l → ∀ n, AV.denL E (r.drop n) = some (l.drop n)
  | r, l, h, 0 => by simpa using h
  | [], l, h, n + 1 => by simp [AV.denL] at h; subst h; simp [AV.denL]
  | v :: r, l, h, n + 1 => by
    obtain ⟨x, m, _, hm, rfl⟩ := denL_cons.1 h
    simpa using denL_drop hm n

theorem denL_take {E : Env} : ∀ {r : List AV} {l : List Value}, AV.denL E r = some l → ∀ n, AV.denL E (r.take n) = some (l.take n)
  | r, l, h, 0 => by simp [AV.denL]
  | [], l, h, n + 1 => by simp [AV.denL] at h; subst h; simp [AV.denL]
  | v :: r, l, h, n + 1 => by
    obtain ⟨x, m, hx, hm, rfl⟩ := denL_cons.1 h
    simpa using denL_cons.2 ⟨x, m.take n, hx, denL_take hm n, rfl⟩

/-! ### Closed values -/

theorem undefA_den (E : Env) : undefA.den E = some undef := by simp [undefA, AV.den, AV.denL, undef]

theorem mapM_ofValue_den {E : Env} {f : Value → Option AV} (hf : ∀ v a, f v = some a → a.den E = some v) :
    ∀ (l : List Value) (r : List AV), l.mapM f = some r → AV.denL E r = some l
  | [], r, h => by simp at h; subst h; simp [AV.denL]
  | v :: l, r, h => by
    simp only [List.mapM_cons, Option.bind_eq_bind, Option.bind_eq_some_iff, Option.pure_def] at h
    obtain ⟨a, ha, r', hr, h⟩ := h
    injection h with h
    subst h
    exact denL_cons.2 ⟨v, l, hf v a ha, mapM_ofValue_den hf l r' hr, rfl⟩

theorem ofValue_den (E : Env) : ∀ (d : Nat) (v : Value) (a : AV), ofValue d v = some a → a.den E = some v := by
  intro d
  induction d with
  | zero => intro v a h; simp [ofValue] at h
  | succ d ih =>
    intro v a h
    unfold ofValue at h
    split at h
    · cases h
    · injection h with h; subst h; simp [AV.den, BE.den]
    · injection h with h; subst h; simp [AV.den, IE.den]
    · injection h with h; subst h; simp [AV.den]
    · injection h with h; subst h; simp [AV.den]
    · injection h with h; subst h; simp [AV.den]
    · injection h with h; subst h; simp [AV.den]
    · injection h with h; subst h; simp [AV.den]
    · injection h with h; subst h; simp [AV.den]
    · rename_i dd hd
      injection hd with hd; subst hd
      simp only [Option.map_eq_some_iff] at h
      obtain ⟨x, hx, rfl⟩ := h
      simp [AV.den, ih _ _ hx]
    · rename_i dd hd
      injection hd with hd; subst hd
      simp only [Option.map_eq_some_iff] at h
      obtain ⟨x, hx, rfl⟩ := h
      simp [AV.den, mapM_ofValue_den (ih) _ _ hx]
    · rename_i dd hd
      injection hd with hd; subst hd
      simp only [Option.map_eq_some_iff] at h
      obtain ⟨x, hx, rfl⟩ := h
      simp [AV.den, mapM_ofValue_den (ih) _ _ hx]
    · rename_i dd hd
      injection hd with hd; subst hd
      simp only [Option.bind_eq_bind, Option.bind_eq_some_iff, Option.pure_def] at h
      obtain ⟨x, hx, y, hy, h⟩ := h
      injection h with h
      subst h
      simp [AV.den, mapM_ofValue_den (ih) _ _ hx, mapM_ofValue_den (ih) _ _ hy]
    · cases h

theorem ofV_den (E : Env) {v : Value} {a : AV} (h : ofV v = some a) : a.den E = some v := ofValue_den E 6 v a h

theorem mapM_toValue_den {E : Env} {f : AV → Option Value} (hf : ∀ a v, f a = some v → a.den E = some v) :
    ∀ (l : List AV) (r : List Value), l.mapM f = some r → AV.denL E l = some r
  | [], r, h => by simp at h; subst h; simp [AV.denL]
  | v :: l, r, h => by
    simp only [List.mapM_cons, Option.bind_eq_bind, Option.bind_eq_some_iff, Option.pure_def] at h
    obtain ⟨a, ha, r', hr, h⟩ := h
    injection h with h
    subst h
    exact denL_cons.2 ⟨a, r', hf v a ha, mapM_toValue_den hf l r' hr, rfl⟩

theorem toValue_den (E : Env) : ∀ (d : Nat) (a : AV) (v : Value), toValue d a = some v → a.den E = some v := by
  intro d
  induction d with
  | zero => intro v a h; simp [toValue] at h
  | succ d ih =>
    intro v a h
    unfold toValue at h
    split at h
    · cases h
    · injection h with h; subst h; simp [AV.den, BE.den]
    · injection h with h; subst h; simp [AV.den, IE.den]
    · injection h with h; subst h; simp [AV.den]
    · injection h with h; subst h; simp [AV.den]
    · injection h with h; subst h; simp [AV.den]
    · injection h with h; subst h; simp [AV.den]
    · injection h with h; subst h; simp [AV.den]
    · injection h with h; subst h; simp [AV.den]
    · rename_i dd hd
      injection hd with hd; subst hd
      simp only [Option.map_eq_some_iff] at h
      obtain ⟨x, hx, rfl⟩ := h
      simp [AV.den, ih _ _ hx]
    · rename_i dd hd
      injection hd with hd; subst hd
      simp only [Option.map_eq_some_iff] at h
      obtain ⟨x, hx, rfl⟩ := h
      simp [AV.den, mapM_toValue_den (ih) _ _ hx]
    · rename_i dd hd
      injection hd with hd; subst hd
      simp only [Option.map_eq_some_iff] at h
      obtain ⟨x, hx, rfl⟩ := h
      simp [AV.den, mapM_toValue_den (ih) _ _ hx]
    · cases h

/-! ### Operands -/

/-- All slots but those of 'D' hold what they are said to hold. -/
def Slots (E : Env) (D : Nat → Prop) (tmps : List AV) (a : Act) : Prop :=
  tmps.length = a.tmps.size ∧ ∀ t v, ¬ D t → tmps[t]? = some v → ∃ x, v.den E = some x ∧ a.tmps[t]? = some x

theorem Slots.mono {E E' : Env} {D : Nat → Prop} {tmps : List AV} {a : Act} (h : Slots E D tmps a) (hE : E.Le E') : Slots E' D tmps a :=
  ⟨h.1, fun t v hd hv => let ⟨x, hx, ha⟩ := h.2 t v hd hv; ⟨x, AV.den_mono hE _ _ hx, ha⟩⟩

/-- An operand that is none of 'D'. -/
def Clear (D : Nat → Prop) (x : Operand) : Prop := ∀ t, x = .tmp t → ¬ D t

theorem opnd_den {E : Env} {D : Nat → Prop} {tmps : List AV} {a : Act} (h : Slots E D tmps a) {x : Operand} {v : AV} (hc : Clear D x) (hv : opnd tmps x = some v) :
    v.den E = some (a.eval x) := by
  cases x with
  | tmp t =>
    obtain ⟨y, hy, hat⟩ := h.2 t v (hc t rfl) hv
    simp [Act.eval, hat, hy]
  | const c => exact ofV_den E hv
  | global g => simp [opnd] at hv; subst hv; simp [AV.den, Act.eval]
  | func f => simp [opnd] at hv; subst hv; simp [AV.den, AV.denL, Act.eval]

theorem args1_den {E : Env} {D : Nat → Prop} {tmps : List AV} {a : Act} (h : Slots E D tmps a) : ∀ {l : List Operand} {vs : List AV}, (∀ x ∈ l, Clear D x) → args1 tmps l = some vs →
    AV.denL E vs = some (l.map a.eval)
  | [], vs, _, hv => by simp [args1] at hv; subst hv; simp [AV.denL]
  | x :: l, vs, hc, hv => by
    simp only [args1, Option.bind_eq_bind, Option.bind_eq_some_iff, Option.pure_def] at hv
    obtain ⟨v, hx, r, hr, hv⟩ := hv
    injection hv with hv
    subst hv
    exact denL_cons.2 ⟨_, _, opnd_den h (hc x (by simp)) hx, args1_den h (fun y hy => hc y (by simp [hy])) hr, rfl⟩

/-- Parts with their places. -/
def denP (E : Env) : List (Nat × AV) → Option (List (Nat × Value))
  | [] => some []
  | (i, v) :: r =>
    match v.den E, denP E r with
    | some x, some l => some ((i, x) :: l)
    | _, _ => none

theorem denP_cons {E : Env} {i : Nat} {v : AV} {r : List (Nat × AV)} {l : List (Nat × Value)} :
    denP E ((i, v) :: r) = some l ↔ ∃ x m, v.den E = some x ∧ denP E r = some m ∧ l = (i, x) :: m := by
  simp only [denP]
  constructor
  · intro h
    split at h
    · rename_i x m hx hm
      exact ⟨x, m, hx, hm, by injection h with h; exact h.symm⟩
    · cases h
  · rintro ⟨x, m, hx, hm, rfl⟩
    simp [hx, hm]

theorem parts1_den {E : Env} {D : Nat → Prop} {tmps : List AV} {a : Act} (h : Slots E D tmps a) : ∀ {l : List (Nat × Operand)} {vs : List (Nat × AV)}, (∀ x ∈ l, Clear D x.2) →
    parts1 tmps l = some vs → denP E vs = some (l.map fun (i, x) => (i, a.eval x))
  | [], vs, _, hv => by simp [parts1] at hv; subst hv; simp [denP]
  | (i, x) :: l, vs, hc, hv => by
    simp only [parts1, Option.bind_eq_bind, Option.bind_eq_some_iff, Option.pure_def] at hv
    obtain ⟨v, hx, r, hr, hv⟩ := hv
    injection hv with hv
    subst hv
    exact denP_cons.2 ⟨_, _, opnd_den h (hc (i, x) (by simp)) hx, parts1_den h (fun y hy => hc y (by simp [hy])) hr, rfl⟩

end Go.Sx
