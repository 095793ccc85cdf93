/-
  A WALKER THAT COMPUTES: what is handed in where it is made of numbers, truths and texts alone.
-/
import Derived.Test.YtbgjceknbcpgjaaSzS
import Derived.Test.YtbgjceknbcpgjaaSzR
import Derived.WalkKit
import Derived.ProofKit
import Derived.OpenShut
import Derived.ChangeMaps5
namespace Go.Sx
open Go.ChangeShapes Go.WideShapes Go.RowKit

set_option linter.unusedVariables false

inductive Leaf where
  | int (k : IntKind)
  | bool
  | str

/-- Parts that lie one behind the other, from 'o' on. -/
def tile (P : Program) (sh : TypeId → Option (List Leaf)) : List (Nat × TypeId) → Nat → Option (List Leaf)
  | [], _ => some []
  | (off, t) :: r, o => do
    if off ≠ o then none else
    let l ← sh t
    if l.length ≠ P.cellsOf t then none else
    let m ← tile P sh r (o + l.length)
    pure (l ++ m)

/-- What a value of a type is made of. -/
def shape (P : Program) : Nat → TypeId → Option (List Leaf)
  | 0, _ => none
  | n + 1, t =>
    match P.underlying t with
    | some (.int k) => some [.int k]
    | some .bool => some [.bool]
    | some .string => some [.str]
    | some (.struct fs) => do
      let l ← tile P (shape P n) (fs.toList.map fun f => (f.offset, f.type)) 0
      if l.length = P.cellsOf t then some l else none
    | some (.array k e) => do
      let l ← tile P (shape P n) ((List.range k).map fun i => (i * P.cellsOf e, e)) 0
      if l.length = P.cellsOf t then some l else none
    | _ => none

def Leaves : List Leaf → List Value → Prop
  | [], [] => True
  | .int k :: ls, v :: vs => (∃ n, v = .int k n ∧ (Lit.int k n).wf = true) ∧ Leaves ls vs
  | .bool :: ls, v :: vs => (∃ b, v = .bool b) ∧ Leaves ls vs
  | .str :: ls, v :: vs => (∃ s, v = .string s) ∧ Leaves ls vs
  | _, _ => False

theorem Leaves.append : ∀ {l m : List Leaf} {x y : List Value}, Leaves l x → Leaves m y → Leaves (l ++ m) (x ++ y)
  | [], _, [], _, _, h => h
  | [], _, _ :: _, _, h, _ => h.elim
  | .int k :: l, _, v :: x, _, h, h' => ⟨h.1, Leaves.append h.2 h'⟩
  | .bool :: l, _, v :: x, _, h, h' => ⟨h.1, Leaves.append h.2 h'⟩
  | .str :: l, _, v :: x, _, h, h' => ⟨h.1, Leaves.append h.2 h'⟩
  | .int k :: l, _, [], _, h, _ => h.elim
  | .bool :: l, _, [], _, h, _ => h.elim
  | .str :: l, _, [], _, h, _ => h.elim

theorem Leaves.length : ∀ {l : List Leaf} {x : List Value}, Leaves l x → x.length = l.length
  | [], [], _ => rfl
  | [], _ :: _, h => h.elim
  | .int k :: l, v :: x, h => by simp [Leaves.length h.2]
  | .bool :: l, v :: x, h => by simp [Leaves.length h.2]
  | .str :: l, v :: x, h => by simp [Leaves.length h.2]
  | .int k :: l, [], h => h.elim
  | .bool :: l, [], h => h.elim
  | .str :: l, [], h => h.elim

section
variable {H : Type} {enc : TypeId × Value → H} {P : Program}

/-- A part reads so, and asks nothing of memory. -/
def Reads (enc : TypeId × Value → H) (P : Program) (fuel : Nat) (t : TypeId) (cs : List Value) (x : DataW H × List MemPlace) : Prop :=
  ∀ (w : World) (base : Nat) (sp : Nat → Bool) (held : Bool), DataW.trod enc P w base sp held fuel t cs = some x

theorem tile_reads {sh : TypeId → Option (List Leaf)} {fuel : Nat} {w : World} {base : Nat} {sp : Nat → Bool} {held : Bool}
    (hs : ∀ (t : TypeId) (ls : List Leaf) (cs : List Value) (x : DataW H × List MemPlace), sh t = some ls → DataW.trod enc P w base sp held fuel t cs = some x → Leaves ls cs ∧ x.2 = [] ∧ Reads enc P fuel t cs x) :
    ∀ (ps : List (Nat × TypeId)) (o : Nat) (ls : List Leaf) (cs : List Value) (xs : List (DataW H × List MemPlace)), tile P sh ps o = some ls →
      ps.mapM (fun p => DataW.trod enc P w base sp held fuel p.2 ((cs.drop p.1).take (P.cellsOf p.2))) = some xs →
      Leaves ls ((cs.drop o).take ls.length) ∧ xs.flatMap (·.2) = [] ∧
        ∀ (w' : World) (base' : Nat) (sp' : Nat → Bool) (held' : Bool), ps.mapM (fun p => DataW.trod enc P w' base' sp' held' fuel p.2 ((cs.drop p.1).take (P.cellsOf p.2))) = some xs
  | [], o, ls, cs, xs, ht, hx => by
    simp only [tile, Option.some.injEq] at ht
    subst ht
    simp only [List.mapM_nil, Option.pure_def, Option.some.injEq] at hx
    subst hx
    exact ⟨by simp [Leaves], rfl, fun _ _ _ _ => rfl⟩
  | (off, t) :: r, o, ls, cs, xs, ht, hx => by
    simp only [tile] at ht
    split at ht
    · cases ht
    · rename_i hoff
      simp only [Decidable.not_not] at hoff
      subst hoff
      simp only [Option.bind_eq_bind, Option.bind_eq_some_iff] at ht
      obtain ⟨l, hl, ht⟩ := ht
      split at ht
      · cases ht
      · rename_i hlen
        simp only [Decidable.not_not] at hlen
        simp only [Option.bind_eq_some_iff, Option.pure_def, Option.some.injEq] at ht
        obtain ⟨m, hm, rfl⟩ := ht
        simp only [List.mapM_cons, Option.bind_eq_bind, Option.bind_eq_some_iff, Option.pure_def, Option.some.injEq] at hx
        obtain ⟨x, hx1, ys, hys, rfl⟩ := hx
        obtain ⟨h1, h2, h3⟩ := hs t l _ x hl hx1
        obtain ⟨h4, h5, h6⟩ := tile_reads hs r _ m cs ys hm hys
        refine ⟨?_, by simp [h2, h5], fun w' b' s' hd' => ?_⟩
        · rw [List.length_append, List.take_add, List.drop_drop]
          rw [← hlen] at h1
          exact h1.append h4
        · simp only [List.mapM_cons, h3 w' b' s' hd', h6 w' b' s' hd', Option.bind_eq_bind, Option.bind_some, Option.pure_def]

theorem trod_reads : ∀ (n : Nat) (t : TypeId) (ls : List Leaf) (fuel : Nat) (cs : List Value) (x : DataW H × List MemPlace) (w : World) (base : Nat) (sp : Nat → Bool) (held : Bool), shape P n t = some ls →
    DataW.trod enc P w base sp held fuel t cs = some x → Leaves ls cs ∧ x.2 = [] ∧ Reads enc P fuel t cs x
  | 0, _, _, _, _, _, _, _, _, _, h, _ => by simp [shape] at h
  | n + 1, t, ls, 0, cs, x, w, base, sp, held, _, hx => by simp [DataW.trod] at hx
  | n + 1, t, ls, fuel + 1, cs, x, w, base, sp, held, h, hx => by
    unfold shape at h
    split at h
    · rename_i k ht
      injection h with h
      subst h
      obtain ⟨z, rfl, rfl, hw⟩ := DataW.trod_int ht hx
      exact ⟨⟨⟨z, rfl, hw⟩, trivial⟩, rfl, fun w' b' s' hd' => by simp [DataW.trod, ht, hw]⟩
    · rename_i ht
      injection h with h
      subst h
      obtain ⟨z, rfl, rfl⟩ := DataW.trod_bool ht hx
      exact ⟨⟨⟨z, rfl⟩, trivial⟩, rfl, fun w' b' s' hd' => by simp [DataW.trod, ht]⟩
    · rename_i ht
      injection h with h
      subst h
      obtain ⟨z, rfl, rfl, hz⟩ := DataW.trod_string ht hx
      exact ⟨⟨⟨z, rfl⟩, trivial⟩, rfl, fun w' b' s' hd' => by simp [DataW.trod, ht, hz]⟩
    · rename_i fs ht
      simp only [Option.bind_eq_bind, Option.bind_eq_some_iff] at h
      obtain ⟨l, hl, h⟩ := h
      split at h
      · rename_i hlen
        injection h with h
        subst h
        simp only [DataW.trod, ht] at hx
        split at hx
        · rename_i hcl
          simp only [Option.map_eq_some_iff] at hx
          obtain ⟨xs, hxs, rfl⟩ := hx
          have hm : ∀ (w' : World) (b' : Nat) (s' : Nat → Bool) (hd' : Bool), fs.toList.mapM (fun f => DataW.trod enc P w' b' s' hd' fuel f.type ((cs.drop f.offset).take (P.cellsOf f.type))) =
              (fs.toList.map fun f => (f.offset, f.type)).mapM (fun p => DataW.trod enc P w' b' s' hd' fuel p.2 ((cs.drop p.1).take (P.cellsOf p.2))) := fun w' b' s' hd' => by rw [List.mapM_map]; rfl
          rw [hm] at hxs
          obtain ⟨h1, h2, h3⟩ := tile_reads (fun t ls cs x h h' => trod_reads n t ls fuel cs x w base sp held h h') _ 0 l cs xs hl hxs
          refine ⟨?_, h2, fun w' b' s' hd' => ?_⟩
          · rw [List.drop_zero, hlen, ← hcl, List.take_length] at h1
            exact h1
          · simp only [DataW.trod, ht, if_pos hcl, hm, h3 w' b' s' hd', Option.map_some]
        · cases hx
      · cases h
    · rename_i k e ht
      simp only [Option.bind_eq_bind, Option.bind_eq_some_iff] at h
      obtain ⟨l, hl, h⟩ := h
      split at h
      · rename_i hlen
        injection h with h
        subst h
        simp only [DataW.trod, ht] at hx
        split at hx
        · rename_i hcl
          simp only [Option.map_eq_some_iff] at hx
          obtain ⟨xs, hxs, rfl⟩ := hx
          have hm : ∀ (w' : World) (b' : Nat) (s' : Nat → Bool) (hd' : Bool), (List.range k).mapM (fun i => DataW.trod enc P w' b' s' hd' fuel e ((cs.drop (i * P.cellsOf e)).take (P.cellsOf e))) =
              ((List.range k).map fun i => (i * P.cellsOf e, e)).mapM (fun p => DataW.trod enc P w' b' s' hd' fuel p.2 ((cs.drop p.1).take (P.cellsOf p.2))) := fun w' b' s' hd' => by rw [List.mapM_map]; rfl
          rw [hm] at hxs
          obtain ⟨h1, h2, h3⟩ := tile_reads (fun t ls cs x h h' => trod_reads n t ls fuel cs x w base sp held h h') _ 0 l cs xs hl hxs
          refine ⟨?_, h2, fun w' b' s' hd' => ?_⟩
          · rw [List.drop_zero, hlen, ← hcl, List.take_length] at h1
            exact h1
          · simp only [DataW.trod, ht, if_pos hcl, hm, h3 w' b' s' hd', Option.map_some]
        · cases hx
      · cases h
    · cases h

/-! ### What the walker takes them for -/

/-- A part's unknown, the next number and the next text. -/
def leafA (n m : Nat) : Leaf → AV × Nat × Nat
  | .int k => (.int k (.wrap k (.var n)), n + 1, m)
  | .bool => (.bool (.cmp .neq (.var n) (.lit 0)), n + 1, m)
  | .str => (.strv m, n, m + 1)

def leavesA (n m : Nat) : List Leaf → List AV × Nat × Nat
  | [] => ([], n, m)
  | l :: r =>
    let (v, n1, m1) := leafA n m l
    let (vs, n2, m2) := leavesA n1 m1 r
    (v :: vs, n2, m2)

/-- What an unknown number stands for, and what an unknown text does. -/
structure Holds (ι : Unk) (n m : Nat) (ns : List Int) (ss : List (List UInt8)) : Prop where
  num : ∀ i, i < ns.length → ι.num (n + i) = ns.getD i 0
  str : ∀ i, i < ss.length → ι.str (m + i) = ss.getD i []

theorem Holds.left {ι : Unk} {n m : Nat} {ns ns' : List Int} {ss ss' : List (List UInt8)} (h : Holds ι n m (ns ++ ns') (ss ++ ss')) : Holds ι n m ns ss :=
  ⟨fun i hi => by
    rw [h.num i (by simp; omega)]
    simp [List.getD_eq_getElem?_getD, List.getElem?_append_left hi],
   fun i hi => by
    rw [h.str i (by simp; omega)]
    simp [List.getD_eq_getElem?_getD, List.getElem?_append_left hi]⟩

theorem Holds.right {ι : Unk} {n m : Nat} {ns ns' : List Int} {ss ss' : List (List UInt8)} (h : Holds ι n m (ns ++ ns') (ss ++ ss')) : Holds ι (n + ns.length) (m + ss.length) ns' ss' :=
  ⟨fun i hi => by
    have := h.num (ns.length + i) (by simp; omega)
    rw [show n + ns.length + i = n + (ns.length + i) by omega, this]
    rw [List.getD_eq_getElem?_getD, List.getElem?_append_right (by omega), List.getD_eq_getElem?_getD, Nat.add_sub_cancel_left],
   fun i hi => by
    have := h.str (ss.length + i) (by simp; omega)
    rw [show m + ss.length + i = m + (ss.length + i) by omega, this]
    rw [List.getD_eq_getElem?_getD, List.getElem?_append_right (by omega), List.getD_eq_getElem?_getD, Nat.add_sub_cancel_left]⟩

/-- A list of values is what the unknowns say, wherever they hold. -/
def Means (n m n' m' : Nat) (avs : List AV) (vs : List Value) : Prop :=
  ∃ (ns : List Int) (ss : List (List UInt8)), n' = n + ns.length ∧ m' = m + ss.length ∧ ∀ ι, Holds ι n m ns ss → AV.denL ⟨[], [], ι⟩ avs = some vs

theorem Means.nil (n m : Nat) : Means n m n m [] [] := ⟨[], [], rfl, rfl, fun ι _ => by simp [AV.denL]⟩

theorem Means.append {n m n1 m1 n2 m2 : Nat} {as bs : List AV} {vs ws : List Value} (h : Means n m n1 m1 as vs) (k : Means n1 m1 n2 m2 bs ws) : Means n m n2 m2 (as ++ bs) (vs ++ ws) := by
  obtain ⟨ns, ss, rfl, rfl, h3⟩ := h
  obtain ⟨ns', ss', rfl, rfl, k3⟩ := k
  exact ⟨ns ++ ns', ss ++ ss', by simp; omega, by simp; omega, fun ι hι => denL_append (h3 ι hι.left) (k3 ι hι.right)⟩

theorem leaf_means (n m : Nat) (l : Leaf) (v : Value) (h : Leaves [l] [v]) : Means n m (leafA n m l).2.1 (leafA n m l).2.2 [(leafA n m l).1] [v] := by
  cases l with
  | int k =>
    obtain ⟨⟨z, rfl, hw⟩, _⟩ := h
    refine ⟨[z], [], rfl, rfl, fun ι hι => ?_⟩
    have := hι.num 0 (by simp)
    simp only [Nat.add_zero] at this
    simp [leafA, AV.denL, AV.den, IE.den, IE.upto, this, wrap_wf hw]
  | bool =>
    obtain ⟨⟨b, rfl⟩, _⟩ := h
    refine ⟨[if b then 1 else 0], [], rfl, rfl, fun ι hι => ?_⟩
    have := hι.num 0 (by simp)
    simp only [Nat.add_zero] at this
    cases b <;> simp [leafA, AV.denL, AV.den, BE.den, BE.upto, IE.den, intCmp, this]
  | str =>
    obtain ⟨⟨s, rfl⟩, _⟩ := h
    refine ⟨[], [s.data.toList], rfl, rfl, fun ι hι => ?_⟩
    have := hι.str 0 (by simp)
    simp only [Nat.add_zero] at this
    simp [leafA, AV.denL, AV.den, this]

theorem leaves_means : ∀ (ls : List Leaf) (vs : List Value) (n m : Nat), Leaves ls vs → Means n m (leavesA n m ls).2.1 (leavesA n m ls).2.2 (leavesA n m ls).1 vs
  | [], [], n, m, _ => .nil n m
  | [], _ :: _, _, _, h => h.elim
  | l :: ls, [], _, _, h => by cases l <;> exact h.elim
  | l :: ls, v :: vs, n, m, h => by
    have h1 : Leaves [l] [v] ∧ Leaves ls vs := by cases l <;> exact ⟨⟨h.1, trivial⟩, h.2⟩
    have := (leaf_means n m l v h1.1).append (leaves_means ls vs _ _ h1.2)
    exact this

/-- What a parameter is taken for. -/
def argA (P : Program) (n m : Nat) (t : TypeId) : Option (AV × Nat × Nat) :=
  match P.underlying t with
  | some (.int k) => some (leafA n m (.int k))
  | some .bool => some (leafA n m .bool)
  | some .string => some (leafA n m .str)
  | some (.struct _) | some (.array _ _) => do
    let ls ← shape P 10 t
    if ls.length = 1 then none else
    let (vs, n', m') := leavesA n m ls
    pure (.agg vs, n', m')
  | _ => none

def argsA (P : Program) (n m : Nat) : List TypeId → Option (List AV)
  | [] => some []
  | t :: r => do
    let (v, n', m') ← argA P n m t
    let vs ← argsA P n' m' r
    pure (v :: vs)

variable {w : World} {base : Nat} {sp : Nat → Bool} {held : Bool}

theorem agg_of {v : Value} (h : v.cells.toList.length ≠ 1) : v = .agg v.cells.toList.toArray := by
  cases v <;> first | rfl | (simp [Value.cells] at h)

theorem argA_sound {n m n' m' : Nat} {t : TypeId} {a : AV} {v : Value} {d : DataW H} {p : List MemPlace} {r : Reach} {b0 : Nat} (ha : argA P n m t = some (a, n', m')) (hv : Value.okWide P w r b0 t v) (hd : DataW.Trod enc P w base sp held t v d p) :
    Means n m n' m' [a] [v] ∧ p = [] ∧ ∀ (w' : World) (base' : Nat) (sp' : Nat → Bool) (held' : Bool), DataW.Trod enc P w' base' sp' held' t v d [] := by
  unfold argA at ha
  split at ha
  · rename_i k ht
    injection ha with ha
    obtain ⟨z, rfl, rfl, rfl, hw⟩ := open_int ht hv hd
    have := leaf_means n m (.int k) (.int k z) ⟨⟨z, rfl, hw⟩, trivial⟩
    rw [ha] at this
    exact ⟨this, rfl, fun w' b' s' h' => shut_int ht hw⟩
  · rename_i ht
    injection ha with ha
    obtain ⟨z, rfl, rfl, rfl⟩ := open_bool ht hv hd
    have := leaf_means n m .bool (.bool z) ⟨⟨z, rfl⟩, trivial⟩
    rw [ha] at this
    exact ⟨this, rfl, fun w' b' s' h' => shut_bool ht z⟩
  · rename_i ht
    injection ha with ha
    obtain ⟨z, rfl, rfl, rfl, hz⟩ := Go.ChangeMaps.open_string ht hv hd
    have := leaf_means n m .str (.string z) ⟨⟨z, rfl⟩, trivial⟩
    rw [ha] at this
    exact ⟨this, rfl, fun w' b' s' h' => Go.ChangeMaps.shut_string ht hz⟩
  · obtain ⟨ls, hls, ha⟩ := Option.bind_eq_some_iff.1 ha
    split at ha
    · cases ha
    · rename_i hl1
      simp only [Option.pure_def, Option.some.injEq, Prod.mk.injEq] at ha
      obtain ⟨rfl, rfl, rfl⟩ := ha
      obtain ⟨fuel, hf⟩ := hd
      obtain ⟨h1, h2, h3⟩ := trod_reads 10 t ls fuel _ _ w base sp held hls hf
      simp only at h2
      subst h2
      obtain ⟨ns, ss, e1, e2, hm⟩ := leaves_means ls _ n m h1
      have hag := agg_of (v := v) (by rw [h1.length]; exact hl1)
      refine ⟨⟨ns, ss, e1, e2, fun ι hι => ?_⟩, rfl, fun w' b' s' h' => ⟨fuel, h3 w' b' s' h'⟩⟩
      have := hm ι hι
      rw [hag]
      simp only [AV.denL, AV.den, this, Option.map_some]
  · obtain ⟨ls, hls, ha⟩ := Option.bind_eq_some_iff.1 ha
    split at ha
    · cases ha
    · rename_i hl1
      simp only [Option.pure_def, Option.some.injEq, Prod.mk.injEq] at ha
      obtain ⟨rfl, rfl, rfl⟩ := ha
      obtain ⟨fuel, hf⟩ := hd
      obtain ⟨h1, h2, h3⟩ := trod_reads 10 t ls fuel _ _ w base sp held hls hf
      simp only at h2
      subst h2
      obtain ⟨ns, ss, e1, e2, hm⟩ := leaves_means ls _ n m h1
      have hag := agg_of (v := v) (by rw [h1.length]; exact hl1)
      refine ⟨⟨ns, ss, e1, e2, fun ι hι => ?_⟩, rfl, fun w' b' s' h' => ⟨fuel, h3 w' b' s' h'⟩⟩
      have := hm ι hι
      rw [hag]
      simp only [AV.denL, AV.den, this, Option.map_some]
  · cases ha

theorem argsA_sound {r : Reach} {b0 : Nat} : ∀ (ts : List TypeId) (n m : Nat) (as : List AV) (vs : List Value) (ds : List (DataW H)) (p : List MemPlace), argsA P n m ts = some as →
    (∀ (j : Nat) (t : TypeId) (v : Value), ts[j]? = some t → vs[j]? = some v → Value.okWide P w r b0 t v) → DataW.TrodAll enc P w base sp held ts vs ds p →
      (∃ n' m', Means n m n' m' as vs) ∧ p = [] ∧ ∀ (w' : World) (base' : Nat) (sp' : Nat → Bool) (held' : Bool), DataW.TrodAll enc P w' base' sp' held' ts vs ds []
  | [], n, m, as, vs, ds, p, ha, _, hd => by
    simp only [argsA, Option.some.injEq] at ha
    subst ha
    obtain ⟨rfl, rfl, rfl⟩ := trodAll_nil hd
    exact ⟨⟨n, m, .nil n m⟩, rfl, fun _ _ _ _ => trodAll_mk0⟩
  | t :: ts, n, m, as, vs, ds, p, ha, hv, hd => by
    simp only [argsA, Option.bind_eq_bind, Option.bind_eq_some_iff, Option.pure_def, Option.some.injEq] at ha
    obtain ⟨⟨a, n1, m1⟩, ha, as', has, rfl⟩ := ha
    obtain ⟨v, vs', d, ds', p1, q1, rfl, rfl, rfl, h1, h2⟩ := trodAll_cons hd
    obtain ⟨k1, rfl, k3⟩ := argA_sound ha (hv 0 t v rfl rfl) h1
    obtain ⟨⟨n2, m2, k4⟩, rfl, k6⟩ := argsA_sound ts n1 m1 as' vs' ds' q1 has (fun j t v h h' => hv (j + 1) t v (by simpa using h) (by simpa using h')) h2
    exact ⟨⟨n2, m2, k1.append k4⟩, rfl, fun w' b' s' h' => ⟨[], [], k3 w' b' s' h', k6 w' b' s' h', rfl⟩⟩

/-- The unknowns of what is handed in. -/
theorem args_unknowns {r : Reach} {b0 : Nat} {ts : List TypeId} {as : List AV} {vs : List Value} {ds : List (DataW H)} {p : List MemPlace} (ha : argsA P 0 0 ts = some as)
    (hv : ∀ (j : Nat) (t : TypeId) (v : Value), ts[j]? = some t → vs[j]? = some v → Value.okWide P w r b0 t v) (hd : DataW.TrodAll enc P w base sp held ts vs ds p) :
    (∃ ι, AV.denL ⟨[], [], ι⟩ as = some vs) ∧ p = [] ∧ ∀ (w' : World) (base' : Nat) (sp' : Nat → Bool) (held' : Bool), DataW.TrodAll enc P w' base' sp' held' ts vs ds [] := by
  obtain ⟨⟨n', m', ns, ss, _, _, hm⟩, hp, h3⟩ := argsA_sound ts 0 0 as vs ds p ha hv hd
  exact ⟨⟨io ns ss, hm _ ⟨fun i hi => by simp [io], fun i hi => by simp [io]⟩⟩, hp, h3⟩

end
end Go.Sx
