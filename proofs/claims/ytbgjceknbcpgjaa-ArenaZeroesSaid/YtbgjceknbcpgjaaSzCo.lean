/-
  A WALKER THAT COMPUTES: functions that are taken by what is said of them.
-/
import Derived.Test.YtbgjceknbcpgjaaSzWb
namespace Go.Sx
open Go.RowKit

/-! ### What is said of a function -/

inductive Lf where
  | int (k : IntKind)
  | bool
  | txt

/-- What a parameter, or a result, is: a plain value; a struct of these; a nil slice; a slice that is not nil ('t': its elements' type). -/
inductive Sh where
  | leaf (l : Lf)
  | agg (l : List Lf)
  | nil
  | row (t : TypeId) (ks : List CK)

/-- How many numbers, texts and rows it is told by. -/
def Sh.dn : Sh → Nat
  | .leaf _ => 1
  | .agg l => l.length
  | .nil => 2
  | .row _ _ => 2
def dns : List Sh → Nat
  | [] => 0
  | s :: r => s.dn + dns r
def Sh.isRow : Sh → Bool
  | .row _ _ => true
  | _ => false

def lfIs : Lf → Value → Fv → Prop
  | .int k, v, d => ∃ n, v = .int k n ∧ k.min ≤ n ∧ n ≤ k.max ∧ d = { n := n }
  | .bool, v, d => ∃ b : Bool, v = .bool b ∧ d = { n := if b then 1 else 0 }
  | .txt, v, d => ∃ s : List UInt8, v = .string ⟨s.toArray⟩ ∧ d = { s := s }

def lfsIs : List Lf → List Value → List Fv → Prop
  | [], vs, ds => vs = [] ∧ ds = []
  | l :: ls, vs, ds => ∃ v vs' d ds', vs = v :: vs' ∧ ds = d :: ds' ∧ lfIs l v d ∧ lfsIs ls vs' ds'

/-- A row that is there. -/
def RowAt (w : World) (ks : List CK) (v : Value) (l : List Value) (len : Nat) : Prop :=
  ∃ (c off cap : Nat) (pre tail : List Value) (c' : Array Value) (te : TypeId) (fz : Nat × Nat), v = .slice (some ⟨c, off, none⟩) len cap ∧ len ≤ cap ∧ len ≤ maxLen ∧
    w.heap[c]? = some (.cells c' te fz) ∧ (c'.toList = pre ++ (l ++ tail) ∧ (l ≠ [] → pre.length = off)) ∧ l.length = len * ks.length ∧
    ∀ (i : Nat) (k : CK) (v : Value), ks[i % ks.length]? = some k → l[i]? = some v → k.ok v

/-- A new row. -/
def RowNew (w w' : World) (t : TypeId) (ks : List CK) (v : Value) (l : List Value) (len : Nat) : Prop :=
  ∃ (c cap : Nat) (tail : List Value) (c' : Array Value) (fz : Nat × Nat), v = .slice (some ⟨c, 0, none⟩) len cap ∧ len ≤ cap ∧ len ≤ maxLen ∧ w.heap.size ≤ c ∧
    w'.heap[c]? = some (.cells c' t fz) ∧ (∀ i, i < c'.size → (fz.1 = fz.2 ∨ i < fz.1)) ∧ c'.toList = l ++ tail ∧ l.length = len * ks.length ∧ c'.size = cap * ks.length ∧
    ∀ (i : Nat) (k : CK) (v : Value), ks[i % ks.length]? = some k → l[i]? = some v → k.ok v

abbrev RowP := TypeId → List CK → Value → List Value → Nat → Prop

def shIs (R : RowP) : Sh → Value → List Fv → Prop
  | .leaf l, v, d => ∃ x, d = [x] ∧ lfIs l v x
  | .agg ls, v, d => ∃ vs : List Value, v = .agg vs.toArray ∧ lfsIs ls vs d
  | .nil, v, d => v = .slice none 0 0 ∧ d = [{}, {}]
  | .row t ks, v, d => ∃ l len, R t ks v l len ∧ d = [{ r := l }, { n := (len : Nat) }]

def shsIs (R : RowP) : List Sh → List Value → List Fv → Prop
  | [], vs, d => vs = [] ∧ d = []
  | s :: ss, vs, d => ∃ v vs' d1 d2, vs = v :: vs' ∧ d = d1 ++ d2 ∧ shIs R s v d1 ∧ shsIs R ss vs' d2

/-- What is returned: one, or several. -/
def retIs (R : RowP) : List Sh → Value → List Fv → Prop
  | [s], z, d => shIs R s z d
  | ss, z, d => ∃ vs : List Value, z = .tuple vs.toArray ∧ shsIs R ss vs d

/-- One way to return: what, and what is so then. -/
structure Alt where
  rets : List Sh
  post : List BE

/-- What is said of a function: its parameters, what has to be so, its ways to return; or the truth that it answers. -/
structure Fs where
  f : FuncId
  shs : List Sh
  pre : List BE := []
  alts : List Alt := []
  res : Option BE := none

def Gives (w : World) (ι : Unk) (c : Fs) (d : List Fv) (z : Value) (w' : World) : Prop :=
  match c.res with
  | some p => z = .bool (p.den (ι.bare d))
  | none => ∃ a ∈ c.alts, ∃ d', retIs (RowNew w w') a.rets z d' ∧ ∀ p ∈ a.post, p.den (ι.bare (d ++ d')) = true

def FnOk (P : Program) (prd : Nat → List Int → List (List UInt8) → List (List Value) → Prop) (c : Fs) : Prop :=
  ∀ (ι : Unk), ι.prd = prd → ∀ (w : World) (vs : List Value) (d : List Fv), shsIs (fun _ => RowAt w) c.shs vs d → (∀ p ∈ c.pre, p.den (ι.bare d) = true) →
    Calls P c.f vs.toArray w fun e w' => ∃ z, e = .returned z ∧ Below w.heap.size w w' ∧ Gives w ι c d z w'

/-! ### How it is taken -/

def lfTh (rs : List Rule) (pc : List BE) : Lf → AV → Option Th
  | .int k, .int k' e => if k = k' && inR rs pc k e then some (.num e) else none
  | .bool, .bool (.lit b) => some (.num (.lit (if b then 1 else 0)))
  | .bool, .bool (.cmp .eql e (.lit 1)) => if leB rs pc (.lit 0) e && leB rs pc e (.lit 1) then some (.num e) else none
  | .txt, v => (txOf v).map .txt
  | _, _ => none
def lfsTh (rs : List Rule) (pc : List BE) : List Lf → List AV → Option (List Th)
  | [], [] => some []
  | l :: ls, v :: vs => do
    let t ← lfTh rs pc l v
    let r ← lfsTh rs pc ls vs
    pure (t :: r)
  | _, _ => none
def shTh (rs : List Rule) (pc : List BE) (h : Hp) : Sh → AV → Option (List Th)
  | .leaf l, v => (lfTh rs pc l v).map ([·])
  | .agg ls, .agg vs => lfsTh rs pc ls vs
  | .nil, .nilSlice => some [.row (.lits []), .num (.lit 0)]
  | .row _ ks, .sl b z q o n _ =>
    match rowX h b with
    | some (x, ks', m, q') =>
      if q = q' && ks = ks' && Nat.beq z ks.length && leB rs pc n (.lit 9223372036854775807) then
        if o = .lit 0 && sameI rs pc n m then some [.row x, .num n]
        else if leB rs pc (IE.plus o n) m then some [.row (.sub x (IE.mkLin o z 0) (IE.mkLin n z 0)), .num n]
        else none
      else none
    | none => none
  | .row _ ks, .slice b 0 len (.known _) =>
    match h.bs[b]? with
    | some (.cells c _ _ _) =>
      match litsOf rs pc ((c.take (len * ks.length)).filterMap id) with
      | some vs =>
        if Nat.beq (c.take (len * ks.length)).length (len * ks.length) && Nat.beq ((c.take (len * ks.length)).filterMap id).length (len * ks.length) && Nat.ble len 9223372036854775807 && vs.map (·.1) = (List.replicate len ks).flatten then
          some [.row (.lits vs), .num (.lit (len : Nat))]
        else none
      | none => none
    | _ => none
  | _, _ => none
def shsTh (rs : List Rule) (pc : List BE) (h : Hp) : List Sh → List AV → Option (List Th)
  | [], [] => some []
  | s :: ss, v :: vs => do
    let t ← shTh rs pc h s v
    let r ← shsTh rs pc h ss vs
    pure (t ++ r)
  | _, _ => none
/-- Facts, with what the places stand for. -/
def subAll (θ : List Th) : List BE → Option (List BE)
  | [] => some []
  | p :: r => do
    let q ← p.sub θ 0
    let l ← subAll θ r
    pure (q :: l)
def lfNew (m : Nat) : Lf → AV × List BE × Th
  | .int k => (.int k (.fv m), [.cmp .geq (.fv m) (.lit k.min), .cmp .leq (.fv m) (.lit k.max)], .num (.fv m))
  | .bool => (.bool (.cmp .eql (.fv m) (.lit 1)), [.cmp .geq (.fv m) (.lit 0), .cmp .leq (.fv m) (.lit 1)], .num (.fv m))
  | .txt => (.txt (.fv m), [], .txt (.fv m))
def lfsNew (m : Nat) : List Lf → List AV × List BE × List Th
  | [] => ([], [], [])
  | l :: ls => ((lfNew m l).1 :: (lfsNew (m + 1) ls).1, (lfNew m l).2.1 ++ (lfsNew (m + 1) ls).2.1, (lfNew m l).2.2 :: (lfsNew (m + 1) ls).2.2)
/-- A result: 'm': its first unknown, 'x': that of its capacity, 'nb': its block. -/
def shNew (m x nb : Nat) : Sh → AV × List BE × List Th
  | .leaf l => ((lfNew m l).1, (lfNew m l).2.1, [(lfNew m l).2.2])
  | .agg ls => (.agg (lfsNew m ls).1, (lfsNew m ls).2.1, (lfsNew m ls).2.2)
  | .nil => (.nilSlice, [], [.row (.lits []), .num (.lit 0)])
  | .row _ ks => (.sl nb ks.length (.lit 0) (.lit 0) (.fv (m + 1)) (.fv x), [.cmp .geq (.fv (m + 1)) (.lit 0), .cmp .leq (.fv (m + 1)) (.lit 9223372036854775807), .not (.cmp .lss (.fv x) (.fv (m + 1)))], [.row (.row m), .num (.fv (m + 1))])
def shsNew (m x nb : Nat) : List Sh → List AV × List BE × List Th
  | [] => ([], [], [])
  | s :: ss => ((shNew m x nb s).1 :: (shsNew (m + s.dn) x nb ss).1, (shNew m x nb s).2.1 ++ (shsNew (m + s.dn) x nb ss).2.1, (shNew m x nb s).2.2 ++ (shsNew (m + s.dn) x nb ss).2.2)
/-- The new block, if there is one. -/
def rowNew (m x : Nat) : List Sh → Option AObj
  | [] => none
  | .row t ks :: _ => some (.row (.row m) t ks (.fv (m + 1)) (.fv x))
  | s :: ss => rowNew (m + s.dn) x ss
def oneRow (l : List Sh) : Bool := Nat.ble (l.filter Sh.isRow).length 1
def oneAV : List AV → AV
  | [v] => v
  | l => .tuple l
def conAlt (θ : List Th) (h : Hp) (pc : List BE) (a : Alt) : Option (AV × Hp × List BE) := do
  let m := h.giv.nv
  let x := m + dns a.rets
  let (vs, fs, θ') := shsNew m x h.bs.length a.rets
  let post ← subAll (θ ++ θ') a.post
  if oneRow a.rets then
    pure (oneAV vs, { bs := (match rowNew m x a.rets with | some o => h.bs ++ [o] | none => h.bs), nk := h.nk, giv := { h.giv with nv := x + 1 } }, post ++ (fs ++ pc))
  else none
def conAlts (θ : List Th) (h : Hp) (pc : List BE) : List Alt → Option (List (AV × Hp × List BE))
  | [] => some []
  | a :: r => do
    let x ← conAlt θ h pc a
    let l ← conAlts θ h pc r
    pure (x :: l)
/-- Nothing in it is known not to be. -/
def conLive (rs : List Rule) (pc : List BE) (x : AV × Hp × List BE) : Bool :=
  !((x.2.2.take (x.2.2.length - pc.length)).any fun q => truthR rs pc q == some false)
def conTr (c : Fs) (args : List AV) (h : Hp) (pc : List BE) : Option (List (AV × Hp × List BE)) := do
  let θ ← shsTh h.giv.cfg.rules pc h c.shs args
  let pre ← subAll θ c.pre
  if !(pre.all fun q => truthR h.giv.cfg.rules pc q == some true) then none else
  match c.res with
  | some p => do
    let q ← p.sub θ 0
    pure [(.bool q, h, pc)]
  | none => do
    let L ← conAlts θ h pc c.alts
    pure (L.filter (conLive h.giv.cfg.rules pc))
/-- Truths that are handed in and not known: the one way, and the other one. -/
def conSplit (c : Fs) : List AV → List AV → Hp → List BE → Option (List (AV × Hp × List BE))
  | done, [], h, pc => conTr c done.reverse h pc
  | done, .bool b :: r, h, pc =>
    match truthR h.giv.cfg.rules pc b with
    | some t => conSplit c (.bool (.lit t) :: done) r h pc
    | none => do
      let l ← conSplit c (.bool (.lit true) :: done) r h (b :: pc)
      let l' ← conSplit c (.bool (.lit false) :: done) r h (b.mkNot :: pc)
      pure (l ++ l')
  | done, v :: r, h, pc => conSplit c (v :: done) r h pc
def Fs.con (c : Fs) : Con := ⟨c.f, fun args h pc =>
  match conTr c args h pc with
  | some L => some L
  | none => conSplit c [] args h pc⟩

section
variable {P : Program} {E : Env} {B : Bd} {h : Hp} {w : World} {rs : List Rule} {pc : List BE}

theorem subAll_ok {ι : Unk} {θ : List Th} (hθ : ∀ t ∈ θ, t.upto ι.nv = true) : ∀ {ps qs : List BE}, subAll θ ps = some qs → (∀ q ∈ qs, q.upto ι.nv = true) ∧ ((∀ q ∈ qs, q.den ι = true) ↔ ∀ p ∈ ps, p.den (ι.plug θ) = true)
  | [], qs, h => by simp only [subAll, Option.some.injEq] at h; subst h; exact ⟨fun q hq => (by cases hq), ⟨fun _ p hp => (by cases hp), fun _ p hp => (by cases hp)⟩⟩
  | p :: ps, qs, h => by
    simp only [subAll, Option.bind_eq_bind, Option.bind_eq_some_iff, Option.pure_def, Option.some.injEq] at h
    obtain ⟨q, hq, l, hl, rfl⟩ := h
    obtain ⟨h1, h2⟩ := subAll_ok hθ hl
    have hd := BE.sub_den (ι := ι) hq
    have hu := (BE.sub_ok (Nat.zero_le _) hθ hq).2.1
    refine ⟨fun q' hq' => (List.mem_cons.1 hq').elim (fun e => e ▸ hu) (h1 q'), ⟨fun ha p' hp' => ?_, fun ha q' hq' => ?_⟩⟩
    · rcases List.mem_cons.1 hp' with rfl | hp'
      · rw [← hd]; exact ha q List.mem_cons_self
      · exact h2.1 (fun q' hq' => ha q' (List.mem_cons_of_mem _ hq')) p' hp'
    · rcases List.mem_cons.1 hq' with rfl | hq'
      · rw [hd]; exact ha p List.mem_cons_self
      · exact h2.2 (fun p' hp' => ha p' (List.mem_cons_of_mem _ hp')) q' hq'

theorem lfTh_sound (hr : RulesOk rs E.ι) (hp : ∀ b ∈ pc, b.den E.ι = true) {l : Lf} {v : AV} {t : Th} {z : Value} (h : lfTh rs pc l v = some t) (hz : v.den E = some z) : t.upto E.ι.nv = true ∧ lfIs l z (Th.fv E.ι t) := by
  unfold lfTh at h
  split at h
  · split at h
    · rename_i k k' e hc
      simp only [Bool.and_eq_true, decide_eq_true_eq] at hc
      obtain ⟨rfl, hc⟩ := hc
      injection h with h
      subst h
      obtain ⟨h1, h2⟩ := inR_sound hr hp hc
      exact ⟨denI hz, _, denInt hz, h1, h2, rfl⟩
    · cases h
  · rename_i b
    injection h with h
    subst h
    refine ⟨rfl, b, denBool hz, ?_⟩
    cases b <;> rfl
  · split at h
    · rename_i e hc
      simp only [Bool.and_eq_true] at hc
      injection h with h
      subst h
      have h1 := leB_sound hr hp hc.1
      have h2 := leB_sound hr hp hc.2
      have hu := denB hz
      simp only [BE.upto, Bool.and_eq_true] at hu
      refine ⟨hu.1, _, denBool hz, ?_⟩
      simp only [IE.den] at h1 h2
      simp only [Th.fv, BE.den, intCmp, IE.den, Option.getD_some]
      congr 1
      by_cases e1 : e.den E.ι = 1
      · simp [e1]
      · have : e.den E.ι = 0 := by omega
        simp [this]
    · cases h
  · simp only [Option.map_eq_some_iff] at h
    obtain ⟨x, hx, rfl⟩ := h
    obtain ⟨h1, h2⟩ := txOf_sound hx hz
    exact ⟨h2, _, h1, rfl⟩
  · cases h

theorem lfsTh_sound (hr : RulesOk rs E.ι) (hp : ∀ b ∈ pc, b.den E.ι = true) : ∀ {ls : List Lf} {vs : List AV} {θ : List Th} {zs : List Value}, lfsTh rs pc ls vs = some θ → AV.denL E vs = some zs →
    (∀ t ∈ θ, t.upto E.ι.nv = true) ∧ lfsIs ls zs (θ.map (Th.fv E.ι))
  | [], [], θ, zs, h, hz => by
    simp only [lfsTh, Option.some.injEq] at h
    subst h
    simp only [AV.denL, Option.some.injEq] at hz
    subst hz
    exact ⟨fun t ht => (by cases ht), rfl, rfl⟩
  | [], _ :: _, θ, zs, h, hz => by cases h
  | _ :: _, [], θ, zs, h, hz => by cases h
  | l :: ls, v :: vs, θ, zs, h, hz => by
    simp only [lfsTh, Option.bind_eq_bind, Option.bind_eq_some_iff, Option.pure_def, Option.some.injEq] at h
    obtain ⟨t, ht, r, hr', rfl⟩ := h
    obtain ⟨z, zs', h1, h2, rfl⟩ := denL_cons.1 hz
    obtain ⟨a1, a2⟩ := lfTh_sound hr hp ht h1
    obtain ⟨b1, b2⟩ := lfsTh_sound hr hp hr' h2
    exact ⟨fun t' ht' => (List.mem_cons.1 ht').elim (fun e => e ▸ a1) (b1 t'), z, zs', _, _, rfl, rfl, a2, b2⟩

theorem somes {α : Type} : ∀ {l : List (Option α)}, (l.filterMap id).length = l.length → l = (l.filterMap id).map some
  | [], _ => rfl
  | none :: l, h => by
    simp only [List.filterMap_cons, id, List.length_cons] at h
    have := List.length_filterMap_le id l
    omega
  | some v :: l, h => by
    simp only [List.filterMap_cons, id, List.length_cons, List.map_cons] at h ⊢
    exact congrArg (some v :: ·) (somes (by omega))

theorem denL_each {E : Env} : ∀ (l : List AV) (m : List Value), l.length = m.length → (∀ (i : Nat) (v : AV), l[i]? = some v → ∃ x, v.den E = some x ∧ m[i]? = some x) → AV.denL E l = some m
  | [], [], _, _ => by simp [AV.denL]
  | [], _ :: _, h, _ => by simp at h
  | _ :: _, [], h, _ => by simp at h
  | v :: l, a :: m, hl, hv => by
    obtain ⟨x, h1, h2⟩ := hv 0 v rfl
    simp only [List.getElem?_cons_zero, Option.some.injEq] at h2
    subst h2
    exact denL_cons.2 ⟨_, m, h1, denL_each l m (by simpa using hl) (fun i v hi => hv (i + 1) v (by simpa using hi)), rfl⟩

theorem shTh_sound (hw : WR E B h w) (hr : RulesOk rs E.ι) (hp : ∀ b ∈ pc, b.den E.ι = true) {s : Sh} {v : AV} {θ : List Th} {z : Value} (ht : shTh rs pc h s v = some θ) (hz : v.den E = some z) :
    (∀ t ∈ θ, t.upto E.ι.nv = true) ∧ shIs (fun _ => RowAt w) s z (θ.map (Th.fv E.ι)) := by
  unfold shTh at ht
  split at ht
  · simp only [Option.map_eq_some_iff] at ht
    obtain ⟨t, ht, rfl⟩ := ht
    obtain ⟨h1, h2⟩ := lfTh_sound hr hp ht hz
    exact ⟨fun t' ht' => (List.mem_singleton.1 ht') ▸ h1, _, rfl, h2⟩
  · obtain ⟨l, hl, rfl⟩ := denAgg hz
    obtain ⟨h1, h2⟩ := lfsTh_sound hr hp ht hl
    exact ⟨h1, l, rfl, h2⟩
  · injection ht with ht
    subst ht
    exact ⟨fun t ht => by simp only [List.mem_cons, List.not_mem_nil, or_false] at ht; rcases ht with rfl | rfl <;> rfl, denNilSlice hz, rfl⟩
  · rename_i t0 ks b z' q o n cap
    obtain ⟨⟨u0, u1, u2, u3⟩, ⟨g1, g2, g3⟩, c, hcb, rfl⟩ := denSl hz
    split at ht
    · rename_i x ks' m q' hx
      obtain ⟨c', te, fz, pre, tail, hob, ⟨hc1, hc2⟩, ⟨v1, v2, v3⟩, hlen, hk⟩ := rowX_sound hw hcb hx
      split at ht
      · rename_i hc
        simp only [Bool.and_eq_true, decide_eq_true_eq] at hc
        obtain ⟨⟨⟨rfl, rfl⟩, hz'⟩, hmx⟩ := hc
        obtain rfl := Nat.eq_of_beq_eq_true hz'
        have hmx := leB_sound hr hp hmx
        simp only [IE.den] at hmx
        split at ht
        · rename_i hc
          simp only [Bool.and_eq_true, decide_eq_true_eq] at hc
          obtain ⟨rfl, hs⟩ := hc
          injection ht with ht
          subst ht
          have hs := sameI_ok hr hp hs
          refine ⟨fun t ht => ?_, x.den E.ι, (n.den E.ι).toNat, ⟨c, _, _, pre, tail, c', te, fz, rfl, by omega, by simp only [maxLen]; omega, hob, ⟨hc1, fun hne => ?_⟩, nat_of_mul hlen hs.symm g2, hk⟩, ?_⟩
          · simp only [List.mem_cons, List.not_mem_nil, or_false] at ht
            rcases ht with rfl | rfl
            · exact v1
            · exact u2
          · rw [hc2 hne]; simp [IE.den]
          · simp only [List.map_cons, List.map_nil, Th.fv, Int.toNat_of_nonneg g2]
        · split at ht
          · rename_i hle
            injection ht with ht
            subst ht
            have hle := leB_sound hr hp hle
            rw [plus_den] at hle
            have hm0 : 0 ≤ m.den E.ι := by omega
            have hL := nat_of_mul hlen rfl hm0
            have hon : ((o.den E.ι).toNat + (n.den E.ι).toNat) * ks.length ≤ (x.den E.ι).length := by
              rw [hL]; exact Nat.mul_le_mul_right _ (by omega)
            rw [Nat.add_mul] at hon
            have ho : ((IE.mkLin o ks.length 0).den E.ι).toNat = (o.den E.ι).toNat * ks.length := by
              rw [mkLin_den]; exact toNat_lin g1 _
            have hn : ((IE.mkLin n ks.length 0).den E.ι).toNat = (n.den E.ι).toNat * ks.length := by
              rw [mkLin_den]; exact toNat_lin g2 _
            have hd : (RX.sub x (IE.mkLin o ks.length 0) (IE.mkLin n ks.length 0)).den E.ι = ((x.den E.ι).drop ((o.den E.ι).toNat * ks.length)).take ((n.den E.ι).toNat * ks.length) := by
              simp only [RX.den, ho, hn]
            refine ⟨fun t ht => ?_, ((x.den E.ι).drop ((o.den E.ι).toNat * ks.length)).take ((n.den E.ι).toNat * ks.length), (n.den E.ι).toNat,
              ⟨c, _, _, pre ++ (x.den E.ι).take ((o.den E.ι).toNat * ks.length), ((x.den E.ι).drop ((o.den E.ι).toNat * ks.length)).drop ((n.den E.ι).toNat * ks.length) ++ tail, c', te, fz, rfl, by omega, by simp only [maxLen]; omega, hob, ⟨?_, fun hne => ?_⟩, ?_, ?_⟩, ?_⟩
            · simp only [List.mem_cons, List.not_mem_nil, or_false] at ht
              rcases ht with rfl | rfl
              · simp only [Th.upto, RX.upto, v1, mkLin_below u1, mkLin_below u2, Bool.and_self]
              · exact u2
            · have hsp : x.den E.ι = (x.den E.ι).take ((o.den E.ι).toNat * ks.length) ++ (((x.den E.ι).drop ((o.den E.ι).toNat * ks.length)).take ((n.den E.ι).toNat * ks.length) ++ ((x.den E.ι).drop ((o.den E.ι).toNat * ks.length)).drop ((n.den E.ι).toNat * ks.length)) := by
                rw [List.take_append_drop, List.take_append_drop]
              rw [hc1]
              conv => lhs; rw [hsp]
              simp only [List.append_assoc]
            · have hx0 : x.den E.ι ≠ [] := fun e => hne (by rw [e]; simp)
              rw [List.length_append, hc2 hx0, List.length_take]
              omega
            · rw [List.length_take, List.length_drop]
              omega
            · intro i k v hi hv
              have hlt := (List.getElem?_eq_some_iff.1 hv).1
              rw [List.length_take, List.length_drop] at hlt
              rw [List.getElem?_take, if_pos (by omega), List.getElem?_drop] at hv
              refine hk _ k v ?_ hv
              rw [Nat.mul_comm, Nat.mul_add_mod]
              exact hi
            · simp only [List.map_cons, List.map_nil, Th.fv, hd, Int.toNat_of_nonneg g2]
          · cases ht
      · cases ht
    · cases ht
  · rename_i t0 ks b len cap
    obtain ⟨c0, n, hcb, hcap, hle, rfl⟩ := denSlice hz
    split at ht
    · rename_i c te more kk hbs
      split at ht
      · rename_i vs hvs
        split at ht
        · rename_i hc
          simp only [Bool.and_eq_true, decide_eq_true_eq] at hc
          obtain ⟨⟨⟨hc1, hc2⟩, hc3⟩, hkk⟩ := hc
          have hc1 := Nat.eq_of_beq_eq_true hc1
          have hc2 := Nat.eq_of_beq_eq_true hc2
          have hc3 := Nat.le_of_ble_eq_true hc3
          injection ht with ht
          subst ht
          obtain ⟨ob, hob, c', fz, rfl, _, hcl, hcells, _⟩ := hw.obj b c0 _ hcb hbs
          have hsome := somes (hc2.trans hc1.symm)
          have hlen : len * ks.length ≤ c'.size := by
            rw [List.length_take] at hc1
            omega
          have hden : AV.denL E ((c.take (len * ks.length)).filterMap id) = some (c'.toList.take (len * ks.length)) := by
            refine denL_each _ _ (by rw [hc2, List.length_take, Array.length_toList (xs := c')]; omega) fun i v hi => ?_
            have hi2 : i < len * ks.length := hc2 ▸ (List.getElem?_eq_some_iff.1 hi).1
            have hci : c[i]? = some (some v) := by
              have h0 : (c.take (len * ks.length))[i]? = some (some v) := by rw [hsome, List.getElem?_map, hi]; rfl
              rwa [List.getElem?_take, if_pos hi2] at h0
            obtain ⟨x, h1, h2⟩ := hcells i v hci
            exact ⟨x, h1, by rw [List.getElem?_take, if_pos hi2, Array.getElem?_toList]; exact h2⟩
          obtain ⟨v1, v2, v3⟩ := litsOf_sound hr hp hvs hden
          have hd : (RX.lits vs).den E.ι = c'.toList.take (len * ks.length) := by simp only [RX.den, v1]
          have hl : (c'.toList.take (len * ks.length)).length = len * ks.length := by rw [List.length_take, Array.length_toList (xs := c')]; omega
          refine ⟨fun t ht => ?_, c'.toList.take (len * ks.length), len, ⟨c0, 0, n, [], c'.toList.drop (len * ks.length), c', _, _, rfl, hle, hc3, hob, ⟨by rw [List.take_append_drop]; rfl, fun _ => rfl⟩, hl, ?_⟩, ?_⟩
          · simp only [List.mem_cons, List.not_mem_nil, or_false] at ht
            rcases ht with rfl | rfl
            · exact v2
            · rfl
          · intro i k v hk hv
            refine v3 i k v ?_ hv
            rw [hkk, flatten_get _ len _ (by have := (List.getElem?_eq_some_iff.1 hv).1; omega)]
            exact hk
          · simp only [List.map_cons, List.map_nil, Th.fv, hd, IE.den]
        · cases ht
      · cases ht
    · cases ht
  · cases ht

theorem shsTh_sound (hw : WR E B h w) (hr : RulesOk rs E.ι) (hp : ∀ b ∈ pc, b.den E.ι = true) : ∀ {ss : List Sh} {vs : List AV} {θ : List Th} {zs : List Value}, shsTh rs pc h ss vs = some θ → AV.denL E vs = some zs →
    (∀ t ∈ θ, t.upto E.ι.nv = true) ∧ shsIs (fun _ => RowAt w) ss zs (θ.map (Th.fv E.ι))
  | [], [], θ, zs, h, hz => by
    simp only [shsTh, Option.some.injEq] at h
    subst h
    simp only [AV.denL, Option.some.injEq] at hz
    subst hz
    exact ⟨fun t ht => (by cases ht), rfl, rfl⟩
  | [], _ :: _, θ, zs, h, hz => by cases h
  | _ :: _, [], θ, zs, h, hz => by cases h
  | s :: ss, v :: vs, θ, zs, ht, hz => by
    simp only [shsTh, Option.bind_eq_bind, Option.bind_eq_some_iff, Option.pure_def, Option.some.injEq] at ht
    obtain ⟨t, ht, r, hr', rfl⟩ := ht
    obtain ⟨z, zs', h1, h2, rfl⟩ := denL_cons.1 hz
    obtain ⟨a1, a2⟩ := shTh_sound hw hr hp ht h1
    obtain ⟨b1, b2⟩ := shsTh_sound hw hr hp hr' h2
    refine ⟨fun t' ht' => (List.mem_append.1 ht').elim (a1 t') (b1 t'), z, zs', _, _, rfl, ?_, a2, b2⟩
    rw [List.map_append]

/-! ### What it leaves -/

/-- A new row at a place. -/
def RowNewAt (w w' : World) (c cap : Nat) (t : TypeId) (ks : List CK) (v : Value) (l : List Value) (len : Nat) : Prop :=
  ∃ (tail : List Value) (c' : Array Value) (fz : Nat × Nat), v = .slice (some ⟨c, 0, none⟩) len cap ∧ len ≤ cap ∧ len ≤ maxLen ∧ w.heap.size ≤ c ∧
    w'.heap[c]? = some (.cells c' t fz) ∧ (∀ i, i < c'.size → (fz.1 = fz.2 ∨ i < fz.1)) ∧ c'.toList = l ++ tail ∧ l.length = len * ks.length ∧ c'.size = cap * ks.length ∧
    ∀ (i : Nat) (k : CK) (v : Value), ks[i % ks.length]? = some k → l[i]? = some v → k.ok v

theorem shIs_mono {R R' : RowP} {s : Sh} {v : Value} {d : List Fv} (h : shIs R s v d) (hR : ∀ t ks l len, s = .row t ks → R t ks v l len → R' t ks v l len) : shIs R' s v d := by
  cases s with
  | leaf l => exact h
  | agg l => exact h
  | nil => exact h
  | row t ks =>
    obtain ⟨l, len, h, e⟩ := h
    exact ⟨l, len, hR t ks l len rfl h, e⟩

theorem shsIs_none {R R' : RowP} : ∀ {ss : List Sh} {vs : List Value} {d : List Fv}, shsIs R ss vs d → (ss.filter Sh.isRow) = [] → shsIs R' ss vs d
  | [], _, _, h, _ => h
  | s :: ss, vs, d, ⟨v, vs', d1, d2, e1, e2, h1, h2⟩, hf => by
    have hs : s.isRow = false := by
      cases hh : s.isRow with
      | false => rfl
      | true => rw [List.filter_cons_of_pos hh] at hf; cases hf
    rw [List.filter_cons_of_neg (by simp [hs])] at hf
    exact ⟨v, vs', d1, d2, e1, e2, shIs_mono h1 (fun t ks _ _ e => by subst e; cases hs), shsIs_none h2 hf⟩

theorem shsIs_pick {w w' : World} : ∀ {ss : List Sh} {vs : List Value} {d : List Fv}, shsIs (RowNew w w') ss vs d → (ss.filter Sh.isRow).length ≤ 1 → ∃ c cap, shsIs (RowNewAt w w' c cap) ss vs d
  | [], _, _, h, _ => ⟨0, 0, h⟩
  | s :: ss, vs, d, ⟨v, vs', d1, d2, e1, e2, h1, h2⟩, hf => by
    cases s with
    | row t ks =>
      rw [List.filter_cons_of_pos rfl] at hf
      have h0 : (ss.filter Sh.isRow) = [] := List.eq_nil_of_length_eq_zero (by simp only [List.length_cons] at hf; omega)
      obtain ⟨l, len, ⟨c, cap, tail, c', fz, hrow⟩, e⟩ := h1
      exact ⟨c, cap, v, vs', d1, d2, e1, e2, ⟨l, len, ⟨tail, c', fz, hrow⟩, e⟩, shsIs_none h2 h0⟩
    | leaf l =>
      rw [List.filter_cons_of_neg (by simp [Sh.isRow])] at hf
      obtain ⟨c, cap, h⟩ := shsIs_pick h2 hf
      exact ⟨c, cap, v, vs', d1, d2, e1, e2, h1, h⟩
    | agg l =>
      rw [List.filter_cons_of_neg (by simp [Sh.isRow])] at hf
      obtain ⟨c, cap, h⟩ := shsIs_pick h2 hf
      exact ⟨c, cap, v, vs', d1, d2, e1, e2, h1, h⟩
    | nil =>
      rw [List.filter_cons_of_neg (by simp [Sh.isRow])] at hf
      obtain ⟨c, cap, h⟩ := shsIs_pick h2 hf
      exact ⟨c, cap, v, vs', d1, d2, e1, e2, h1, h⟩

theorem lfsIs_len : ∀ {ls : List Lf} {vs : List Value} {d : List Fv}, lfsIs ls vs d → d.length = ls.length
  | [], _, _, ⟨_, e⟩ => by rw [e]; rfl
  | l :: ls, _, _, ⟨v, vs', x, d', _, e, _, h⟩ => by rw [e]; simp [lfsIs_len h]

theorem shIs_len {R : RowP} {s : Sh} {v : Value} {d : List Fv} (h : shIs R s v d) : d.length = s.dn := by
  cases s with
  | leaf l => obtain ⟨x, e, _⟩ := h; rw [e]; rfl
  | agg l => obtain ⟨vs, _, h⟩ := h; exact lfsIs_len h
  | nil => rw [h.2]; rfl
  | row t ks => obtain ⟨l, len, _, e⟩ := h; rw [e]; rfl

theorem shsIs_len {R : RowP} : ∀ {ss : List Sh} {vs : List Value} {d : List Fv}, shsIs R ss vs d → d.length = dns ss
  | [], _, _, ⟨_, e⟩ => by rw [e]; rfl
  | s :: ss, _, _, ⟨v, vs', d1, d2, _, e, h1, h2⟩ => by rw [e, List.length_append, shIs_len h1, shsIs_len h2]; rfl

theorem up_of {ι : Unk} {m : Nat} {f : Fv} (h : ι.fv[m]? = some f) : Nat.blt m ι.nv = true := blt_iff.2 (List.getElem?_eq_some_iff.1 h).1
theorem fn_of {ι : Unk} {m : Nat} {f : Fv} (h : ι.fv[m]? = some f) : ι.fn m = f.n := by simp only [Unk.fn, h]; rfl
theorem ft_of {ι : Unk} {m : Nat} {f : Fv} (h : ι.fv[m]? = some f) : ι.ft m = f.s := by simp only [Unk.ft, h]; rfl
theorem fr_of {ι : Unk} {m : Nat} {f : Fv} (h : ι.fv[m]? = some f) : ι.fr m = f.r := by simp only [Unk.fr, h]; rfl

theorem lfNew_den {l : Lf} {v : Value} {f : Fv} {m : Nat} (h : lfIs l v f) (hf : E.ι.fv[m]? = some f) :
    (lfNew m l).1.den E = some v ∧ (∀ b ∈ (lfNew m l).2.1, b.holds E.ι) ∧ (lfNew m l).2.2.upto E.ι.nv = true ∧ Th.fv E.ι (lfNew m l).2.2 = f := by
  have hu := up_of hf
  cases l with
  | int k =>
    obtain ⟨n, rfl, h1, h2, rfl⟩ := h
    have hn := fn_of hf
    refine ⟨?_, fun b hb => ?_, hu, ?_⟩
    · simp only [lfNew]
      rw [den_int (by simpa [IE.upto] using hu)]
      simp only [IE.den, hn]
    · simp only [lfNew, List.mem_cons, List.not_mem_nil, or_false] at hb
      rcases hb with rfl | rfl
      · exact ⟨by simp only [BE.upto, IE.upto, hu, Bool.and_self], den_geq.2 (by simp only [IE.den, hn]; exact h1)⟩
      · exact ⟨by simp only [BE.upto, IE.upto, hu, Bool.and_self], den_leq.2 (by simp only [IE.den, hn]; exact h2)⟩
    · simp only [lfNew, Th.fv, IE.den, hn]
  | bool =>
    obtain ⟨b, rfl, rfl⟩ := h
    have hn := fn_of hf
    refine ⟨?_, fun b' hb => ?_, hu, ?_⟩
    · simp only [lfNew]
      rw [den_bool (by simp only [BE.upto, IE.upto, hu, Bool.and_self])]
      simp only [BE.den, intCmp, IE.den, hn, Option.getD_some]
      cases b <;> rfl
    · simp only [lfNew, List.mem_cons, List.not_mem_nil, or_false] at hb
      rcases hb with rfl | rfl
      · exact ⟨by simp only [BE.upto, IE.upto, hu, Bool.and_self], den_geq.2 (by simp only [IE.den, hn]; cases b <;> simp)⟩
      · exact ⟨by simp only [BE.upto, IE.upto, hu, Bool.and_self], den_leq.2 (by simp only [IE.den, hn]; cases b <;> simp)⟩
    · simp only [lfNew, Th.fv, IE.den, hn]
  | txt =>
    obtain ⟨s, rfl, rfl⟩ := h
    have hn := ft_of hf
    refine ⟨?_, fun b' hb => (by cases hb), hu, ?_⟩
    · simp only [lfNew]
      rw [den_txt (by simpa [TX.upto] using hu)]
      simp only [TX.den, hn]
    · simp only [lfNew, Th.fv, TX.den, hn]

theorem at_left {ι : Unk} {m : Nat} {d1 d2 : List Fv} (h : ∀ (j : Nat) (f : Fv), (d1 ++ d2)[j]? = some f → ι.fv[m + j]? = some f) : ∀ (j : Nat) (f : Fv), d1[j]? = some f → ι.fv[m + j]? = some f :=
  fun j f hj => h j f (get_left hj)
theorem at_right {ι : Unk} {m : Nat} {d1 d2 : List Fv} (h : ∀ (j : Nat) (f : Fv), (d1 ++ d2)[j]? = some f → ι.fv[m + j]? = some f) : ∀ (j : Nat) (f : Fv), d2[j]? = some f → ι.fv[m + d1.length + j]? = some f :=
  fun j f hj => by rw [Nat.add_assoc]; exact h _ f (get_right hj)

theorem lfsNew_den : ∀ {ls : List Lf} {vs : List Value} {d : List Fv} {m : Nat}, lfsIs ls vs d → (∀ (j : Nat) (f : Fv), d[j]? = some f → E.ι.fv[m + j]? = some f) →
    AV.denL E (lfsNew m ls).1 = some vs ∧ (∀ b ∈ (lfsNew m ls).2.1, b.holds E.ι) ∧ (∀ t ∈ (lfsNew m ls).2.2, t.upto E.ι.nv = true) ∧ (lfsNew m ls).2.2.map (Th.fv E.ι) = d
  | [], _, _, m, ⟨rfl, rfl⟩, _ => ⟨by simp [lfsNew, AV.denL], fun b hb => (by cases hb), fun t ht => (by cases ht), rfl⟩
  | l :: ls, _, _, m, ⟨v, vs', x, d', rfl, rfl, h1, h2⟩, hf => by
    obtain ⟨a1, a2, a3, a4⟩ := lfNew_den h1 (m := m) (hf 0 x rfl)
    obtain ⟨b1, b2, b3, b4⟩ := lfsNew_den (m := m + 1) h2 (fun j f hj => by rw [Nat.add_assoc, Nat.add_comm 1 j]; exact hf (j + 1) f (by simpa using hj))
    refine ⟨denL_cons.2 ⟨v, vs', a1, b1, rfl⟩, fun b hb => ?_, fun t ht => ?_, ?_⟩
    · exact (List.mem_append.1 hb).elim (a2 b) (b2 b)
    · exact (List.mem_cons.1 ht).elim (fun e => e ▸ a3) (b3 t)
    · simp only [lfsNew, List.map_cons, a4, b4]

theorem shNew_den {w' : World} {c cap m x nb : Nat} {s : Sh} {v : Value} {d : List Fv} (h : shIs (RowNewAt w w' c cap) s v d) (hf : ∀ (j : Nat) (f : Fv), d[j]? = some f → E.ι.fv[m + j]? = some f) (hx : E.ι.fv[x]? = some { n := (cap : Nat) })
    (hb : s.isRow = true → E.ρ[nb]? = some c) : (shNew m x nb s).1.den E = some v ∧ (∀ b ∈ (shNew m x nb s).2.1, b.holds E.ι) ∧ (∀ t ∈ (shNew m x nb s).2.2, t.upto E.ι.nv = true) ∧ (shNew m x nb s).2.2.map (Th.fv E.ι) = d := by
  cases s with
  | leaf l =>
    obtain ⟨y, rfl, h⟩ := h
    obtain ⟨a1, a2, a3, a4⟩ := lfNew_den h (m := m) (hf 0 y rfl)
    exact ⟨a1, a2, fun t ht => (List.mem_singleton.1 ht) ▸ a3, by simp only [shNew, List.map_cons, List.map_nil, a4]⟩
  | agg ls =>
    obtain ⟨vs, rfl, h⟩ := h
    obtain ⟨a1, a2, a3, a4⟩ := lfsNew_den (m := m) h hf
    exact ⟨by simp only [shNew, AV.den, a1, Option.map_some], a2, a3, a4⟩
  | nil =>
    obtain ⟨rfl, rfl⟩ := h
    refine ⟨by simp [shNew, AV.den], fun b hb => (by cases hb), fun t ht => ?_, rfl⟩
    simp only [shNew, List.mem_cons, List.not_mem_nil, or_false] at ht
    rcases ht with rfl | rfl <;> rfl
  | row t ks =>
    obtain ⟨l, len, ⟨tail, c', fz, rfl, h1, h2, h3, h4, h5, h6, h7, h8, h9⟩, rfl⟩ := h
    have f0 := hf 0 _ rfl
    have f1 := hf 1 _ rfl
    rw [Nat.add_zero] at f0
    have u0 := up_of f0
    have u1 := up_of f1
    have ux := up_of hx
    have n1 := fn_of f1
    have nx := fn_of hx
    simp only at n1 nx
    refine ⟨?_, fun b hb => ?_, fun t ht => ?_, ?_⟩
    · simp only [shNew, AV.den]
      rw [if_pos ⟨by simp only [IE.upto, u1, ux, Bool.and_self], by simp only [IE.den]; omega, by simp only [IE.den, n1]; omega, by simp only [IE.den, n1, nx]; omega⟩, hb rfl]
      simp only [IE.den, n1, nx, Option.map_some, Int.toNat_zero, Nat.zero_mul, Nat.add_zero, Int.toNat_natCast]
    · simp only [shNew, List.mem_cons, List.not_mem_nil, or_false] at hb
      rcases hb with rfl | rfl | rfl
      · exact ⟨by simp only [BE.upto, IE.upto, u1, Bool.and_self], den_geq.2 (by simp only [IE.den, n1]; omega)⟩
      · exact ⟨by simp only [BE.upto, IE.upto, u1, Bool.and_self], den_leq.2 (by simp only [IE.den, n1]; simp only [maxLen] at h2; omega)⟩
      · refine ⟨by simp only [BE.upto, IE.upto, u1, ux, Bool.and_self], ?_⟩
        simp only [BE.den, intCmp, IE.den, n1, nx, Option.getD_some, Bool.not_eq_true', decide_eq_false_iff_not]
        omega
    · simp only [shNew, List.mem_cons, List.not_mem_nil, or_false] at ht
      rcases ht with rfl | rfl
      · exact u0
      · exact u1
    · simp only [shNew, List.map_cons, List.map_nil, Th.fv, RX.den, IE.den, fr_of f0, n1]

theorem shsNew_den {w' : World} {c cap x nb : Nat} : ∀ {ss : List Sh} {vs : List Value} {d : List Fv} {m : Nat}, shsIs (RowNewAt w w' c cap) ss vs d → (∀ (j : Nat) (f : Fv), d[j]? = some f → E.ι.fv[m + j]? = some f) → E.ι.fv[x]? = some { n := (cap : Nat) } →
    ((ss.any Sh.isRow) = true → E.ρ[nb]? = some c) → AV.denL E (shsNew m x nb ss).1 = some vs ∧ (∀ b ∈ (shsNew m x nb ss).2.1, b.holds E.ι) ∧ (∀ t ∈ (shsNew m x nb ss).2.2, t.upto E.ι.nv = true) ∧ (shsNew m x nb ss).2.2.map (Th.fv E.ι) = d
  | [], _, _, m, ⟨rfl, rfl⟩, _, _, _ => ⟨by simp [shsNew, AV.denL], fun b hb => (by cases hb), fun t ht => (by cases ht), rfl⟩
  | s :: ss, _, _, m, ⟨v, vs', d1, d2, rfl, rfl, h1, h2⟩, hf, hx, hb => by
    obtain ⟨a1, a2, a3, a4⟩ := shNew_den (nb := nb) h1 (at_left hf) hx (fun hs => hb (by simp [hs]))
    obtain ⟨b1, b2, b3, b4⟩ := shsNew_den (nb := nb) (m := m + s.dn) h2 (by rw [← shIs_len h1]; exact at_right hf) hx (fun hs => hb (by simp [hs]))
    refine ⟨denL_cons.2 ⟨v, vs', a1, b1, rfl⟩, fun b hb => ?_, fun t ht => ?_, ?_⟩
    · exact (List.mem_append.1 hb).elim (a2 b) (b2 b)
    · exact (List.mem_append.1 ht).elim (a3 t) (b3 t)
    · simp only [shsNew, List.map_append, a4, b4]

theorem rowNew_some : ∀ {ss : List Sh} {m x : Nat}, (rowNew m x ss).isSome = ss.any Sh.isRow
  | [], _, _ => rfl
  | .row t ks :: ss, m, x => by simp [rowNew, Sh.isRow]
  | .leaf l :: ss, m, x => by simp only [rowNew, List.any_cons, Sh.isRow, Bool.false_or]; exact rowNew_some
  | .agg l :: ss, m, x => by simp only [rowNew, List.any_cons, Sh.isRow, Bool.false_or]; exact rowNew_some
  | .nil :: ss, m, x => by simp only [rowNew, List.any_cons, Sh.isRow, Bool.false_or]; exact rowNew_some

theorem rowNew_rel {w' : World} {c cap x : Nat} : ∀ {ss : List Sh} {vs : List Value} {d : List Fv} {m : Nat} {o : AObj}, shsIs (RowNewAt w w' c cap) ss vs d → rowNew m x ss = some o →
    w.heap.size ≤ c ∧ o.cls? = none ∧ ∃ ob, w'.heap[c]? = some ob ∧ ∀ E : Env, (∀ (j : Nat) (f : Fv), d[j]? = some f → E.ι.fv[m + j]? = some f) → E.ι.fv[x]? = some { n := (cap : Nat) } → ORel E o ob
  | [], _, _, m, o, _, ho => by cases ho
  | .row t ks :: ss, _, _, m, o, ⟨v, vs', d1, d2, e1, e2, ⟨l, len, ⟨tail, c', fz, e3, h1, h2, h3, h4, h5, h6, h7, h8, h9⟩, e4⟩, _⟩, ho => by
    simp only [rowNew, Option.some.injEq] at ho
    subst ho
    subst e4 e3 e2 e1
    refine ⟨h3, rfl, _, h4, fun E hf hx => ?_⟩
    have f0 := hf 0 _ rfl
    have f1 := hf 1 _ rfl
    rw [Nat.add_zero] at f0
    have u0 := up_of f0
    have u1 := up_of f1
    have ux := up_of hx
    have n1 := fn_of f1
    have nx := fn_of hx
    have r0 := fr_of f0
    simp only at n1 nx r0
    refine ⟨c', fz, tail, rfl, h5, by simp only [RX.den, r0]; exact h6, ⟨by simpa only [RX.upto] using u0, by simpa only [IE.upto] using u1, by simpa only [IE.upto] using ux⟩, ?_, ?_, ?_⟩
    · simp only [RX.den, IE.den, r0, n1, h7, Int.natCast_mul]
    · simp only [IE.den, nx, h8, Int.natCast_mul]
    · simp only [RX.den, r0]; exact h9
  | .leaf l :: ss, _, _, m, o, ⟨v, vs', d1, d2, rfl, rfl, h1, h2⟩, ho => by
    simp only [rowNew] at ho
    obtain ⟨k1, k2, ob, k3, k4⟩ := rowNew_rel h2 ho
    exact ⟨k1, k2, ob, k3, fun E hf hx => k4 E (by rw [← shIs_len h1]; exact at_right hf) hx⟩
  | .agg l :: ss, _, _, m, o, ⟨v, vs', d1, d2, rfl, rfl, h1, h2⟩, ho => by
    simp only [rowNew] at ho
    obtain ⟨k1, k2, ob, k3, k4⟩ := rowNew_rel h2 ho
    exact ⟨k1, k2, ob, k3, fun E hf hx => k4 E (by rw [← shIs_len h1]; exact at_right hf) hx⟩
  | .nil :: ss, _, _, m, o, ⟨v, vs', d1, d2, rfl, rfl, h1, h2⟩, ho => by
    simp only [rowNew] at ho
    obtain ⟨k1, k2, ob, k3, k4⟩ := rowNew_rel h2 ho
    exact ⟨k1, k2, ob, k3, fun E hf hx => k4 E (by rw [← shIs_len h1]; exact at_right hf) hx⟩

/-- A block that came up on the way. -/
theorem lay_ext {E1 : Env} {h1 : Hp} {w' : World} (hx : Ext E B w E1 h1 w') {c : Nat} {o : AObj} {ob : Obj} (hc : w.heap.size ≤ c) (hB : B.n ≤ w.heap.size) (hρ : ∀ (b : Nat), E1.ρ[b]? ≠ some c) (hcl : o.cls? = none) (hob : w'.heap[c]? = some ob)
    (hr : ORel ⟨E1.ρ ++ [c], E1.κ, E1.ι⟩ o ob) : Ext E B w ⟨E1.ρ ++ [c], E1.κ, E1.ι⟩ { h1 with bs := h1.bs ++ [o] } w' := by
  have hw := hx.wr
  have hle : E1.Le ⟨E1.ρ ++ [c], E1.κ, E1.ι⟩ := ⟨.refl _, fun b c' hb => by
      simp only [ext_get]
      rw [if_neg (by have := (List.getElem?_eq_some_iff.1 hb).1; omega)]
      exact hb, fun _ _ h => h⟩
  have hget : ∀ (b c' : Nat), (E1.ρ ++ [c])[b]? = some c' → (b = h1.bs.length ∧ c' = c) ∨ (b < h1.bs.length ∧ E1.ρ[b]? = some c') := fun b c' hb => by
    rw [ext_get] at hb
    split at hb
    · rename_i e
      injection hb with hb
      exact Or.inl ⟨by rw [e, hw.lenρ], hb.symm⟩
    · exact Or.inr ⟨by rw [← hw.lenρ]; exact (List.getElem?_eq_some_iff.1 hb).1, hb⟩
  refine ⟨hx.le.trans hle, ⟨by simp [hw.lenρ], hw.lenκ, ?_, ?_, ?_, hw.bsize, ?_, hw.giv.ext hle.ρ rfl⟩, ⟨hx.fr.os, hx.fr.tape, hx.fr.output, hx.fr.size, hx.fr.block, ?_⟩⟩
  · intro b c' o' hb ho
    rcases hget b c' hb with ⟨rfl, rfl⟩ | ⟨hlt, hb'⟩
    · simp only [Bl.getElem?_append_self] at ho
      injection ho with ho
      subst ho
      exact ⟨ob, hob, hr⟩
    · simp only [Bl.getElem?_append_left hlt] at ho
      obtain ⟨y, hy, hrel⟩ := hw.obj b c' o' hb' ho
      exact ⟨y, hy, hrel.mono hle⟩
  · intro b c' hb
    rcases hget b c' hb with ⟨_, rfl⟩ | ⟨_, hb'⟩
    · omega
    · exact hw.base b c' hb'
  · intro b b' c' o1 o2 hne hb hb' ho ho' hf1 hf2
    rcases hget b c' hb with ⟨rfl, rfl⟩ | ⟨hlt, hb1⟩
    · rcases hget b' _ hb' with ⟨rfl, _⟩ | ⟨hlt', hb2⟩
      · exact absurd rfl hne
      · exact absurd hb2 (hρ b')
    · rcases hget b' _ hb' with ⟨rfl, e⟩ | ⟨hlt', hb2⟩
      · subst e; exact absurd hb1 (hρ b)
      · simp only [Bl.getElem?_append_left hlt] at ho
        simp only [Bl.getElem?_append_left hlt'] at ho'
        exact hw.inj b b' c' o1 o2 hne hb1 hb2 ho ho' hf1 hf2
  · intro b o' k ho hk
    simp only [Bl.getElem?_append] at ho
    split at ho
    · injection ho with ho
      subst ho
      rw [hcl] at hk
      cases hk
    · simpa using hw.cls b o' k ho hk
  · intro b c' hb
    rcases hget b c' hb with ⟨_, rfl⟩ | ⟨_, hb'⟩
    · exact Or.inr hc
    · exact hx.fr.fresh b c' hb'

theorem oneAV_den {R : RowP} {ss : List Sh} {z : Value} {d : List Fv} (hz : retIs R ss z d) : ∃ vs, shsIs R ss vs d ∧ ∀ (E : Env) (avs : List AV), AV.denL E avs = some vs → (oneAV avs).den E = some z := by
  unfold retIs at hz
  split at hz
  · rename_i s
    refine ⟨[z], ⟨z, [], d, [], rfl, by simp, hz, rfl, rfl⟩, fun E avs h => ?_⟩
    cases avs with
    | nil => simp [AV.denL] at h
    | cons a r =>
      obtain ⟨x, m, hx, hm, e⟩ := denL_cons.1 h
      injection e with e1 e2
      subst e1 e2
      cases r with
      | nil => exact hx
      | cons b r => have := denL_length hm; simp at this
  · rename_i hne
    obtain ⟨vs, rfl, h⟩ := hz
    refine ⟨vs, h, fun E avs hd => ?_⟩
    have hl := denL_length hd
    have h1 : (oneAV avs) = .tuple avs := by
      unfold oneAV
      split
      · rename_i v
        exfalso
        match ss, h, hne with
        | [], ⟨e, _⟩, _ => subst e; simp at hl
        | [s], _, hne => exact hne s rfl
        | s :: s' :: r, ⟨_, _, _, _, e, _, _, ⟨_, _, _, _, e', _⟩⟩, _ => subst e'; subst e; simp at hl
      · rfl
    rw [h1]
    simp only [AV.den, hd, Option.map_some]

theorem conAlt_sound {w' : World} {θ : List Th} {a : Alt} {x : AV × Hp × List BE} {z : Value} {d d' : List Fv} (hw : WR E B h w) (hp : ∀ b ∈ pc, b.holds E.ι) (hb : Below w.heap.size w w') (hθ : ∀ t ∈ θ, t.upto E.ι.nv = true) (hd : θ.map (Th.fv E.ι) = d)
    (hr : retIs (RowNew w w') a.rets z d') (hpost : ∀ p ∈ a.post, p.den (E.ι.bare (d ++ d')) = true) (h0 : conAlt θ h pc a = some x) :
    ∃ E', x.1.den E' = some z ∧ Ext E B w E' x.2.1 w' ∧ ∀ b ∈ x.2.2, b.holds E'.ι := by
  unfold conAlt at h0
  simp only [Option.bind_eq_bind, Option.bind_eq_some_iff, Option.pure_def] at h0
  obtain ⟨post, hps, h0⟩ := h0
  split at h0
  · rename_i hone
    injection h0 with h0
    subst h0
    obtain ⟨vs, hvs, hav⟩ := oneAV_den hr
    obtain ⟨c, cap, hat⟩ := shsIs_pick hvs (by simpa [oneRow] using hone)
    have hlen := shsIs_len hat
    have hnv : E.ι.fv.length = h.giv.nv := hw.giv.nv
    have x1 := ext_below hw hb
    have x2 := x1.trans (freshs_ext x1.wr (d' ++ [{ n := (cap : Nat) }]))
    have hfv : ∀ (j : Nat) (f : Fv), d'[j]? = some f → (E.ι.fv ++ (d' ++ [{ n := (cap : Nat) }]))[h.giv.nv + j]? = some f := fun j f hj => by
      rw [← hnv]
      exact get_right (get_left hj)
    have hcap : (E.ι.fv ++ (d' ++ [{ n := (cap : Nat) }]))[h.giv.nv + dns a.rets]? = some { n := (cap : Nat) } := by
      rw [← hnv, ← hlen]
      exact get_right (by rw [show d'.length = d'.length + 0 from rfl]; exact get_right rfl)
    have hfin : ∀ E' : Env, E'.ι = { E.ι with fv := E.ι.fv ++ (d' ++ [{ n := (cap : Nat) }]) } → ((a.rets.any Sh.isRow) = true → E'.ρ[h.bs.length]? = some c) → E.Le E' →
        (oneAV (shsNew h.giv.nv (h.giv.nv + dns a.rets) h.bs.length a.rets).1).den E' = some z ∧ ∀ b ∈ post ++ ((shsNew h.giv.nv (h.giv.nv + dns a.rets) h.bs.length a.rets).2.1 ++ pc), b.holds E'.ι := fun E' hι hbl hle => by
      obtain ⟨a1, a2, a3, a4⟩ := shsNew_den (E := E') (x := h.giv.nv + dns a.rets) (nb := h.bs.length) hat (by rw [hι]; exact hfv) (by rw [hι]; exact hcap) hbl
      have hθ' : ∀ t ∈ θ ++ (shsNew h.giv.nv (h.giv.nv + dns a.rets) h.bs.length a.rets).2.2, t.upto E'.ι.nv = true := fun t ht => (List.mem_append.1 ht).elim (fun ht => by
        have := hθ t ht
        cases t with
        | num e => exact IE.below_le hle.ι.nv this
        | row e => exact RX.below_le hle.ι.nv this
        | txt e => exact TX.below_le hle.ι.nv this) (a3 t)
      have hmap : θ.map (Th.fv E'.ι) = θ.map (Th.fv E.ι) := List.map_congr_left fun t ht => by
        have := hθ t ht
        cases t with
        | num e => simp only [Th.fv, IE.den_le hle.ι this]
        | row e => simp only [Th.fv, RX.den_le hle.ι this]
        | txt e => simp only [Th.fv, TX.den_le hle.ι this]
      obtain ⟨p1, p2⟩ := subAll_ok hθ' hps
      have hpl : E'.ι.plug (θ ++ (shsNew h.giv.nv (h.giv.nv + dns a.rets) h.bs.length a.rets).2.2) = E.ι.bare (d ++ d') := by
        have : E'.ι.plug (θ ++ (shsNew h.giv.nv (h.giv.nv + dns a.rets) h.bs.length a.rets).2.2) = E'.ι.bare (d ++ d') := by
          simp only [Unk.plug, List.map_append, hmap, hd, a4]
        rw [this, hι]
        rfl
      rw [hpl] at p2
      refine ⟨?_, fun b hb => ?_⟩
      · exact hav E' _ a1
      · rcases List.mem_append.1 hb with hb | hb
        · exact ⟨p1 b hb, p2.2 hpost b hb⟩
        · rcases List.mem_append.1 hb with hb | hb
          · exact a2 b hb
          · exact BE.holds_le hle.ι (hp b hb)
    have hnn : h.giv.nv + (d' ++ [({ n := (cap : Nat) } : Fv)]).length = h.giv.nv + dns a.rets + 1 := by rw [List.length_append, hlen]; rfl
    rw [hnn] at x2
    cases hro : rowNew h.giv.nv (h.giv.nv + dns a.rets) a.rets with
    | none =>
      obtain ⟨k1, k2⟩ := hfin ⟨E.ρ, E.κ, { E.ι with fv := E.ι.fv ++ (d' ++ [{ n := (cap : Nat) }]) }⟩ rfl (fun ha => by
        have := rowNew_some (ss := a.rets) (m := h.giv.nv) (x := h.giv.nv + dns a.rets)
        rw [hro, ha] at this
        cases this) x2.le
      exact ⟨_, k1, x2, k2⟩
    | some o =>
      obtain ⟨r1, r2, ob, r3, r4⟩ := rowNew_rel hat hro
      have x3 := lay_ext x2 r1 hw.bsize (fun b hb => by have := hw.lt hb; omega) r2 r3 (r4 ⟨E.ρ ++ [c], E.κ, { E.ι with fv := E.ι.fv ++ (d' ++ [{ n := (cap : Nat) }]) }⟩ hfv hcap)
      obtain ⟨k1, k2⟩ := hfin ⟨E.ρ ++ [c], E.κ, { E.ι with fv := E.ι.fv ++ (d' ++ [{ n := (cap : Nat) }]) }⟩ rfl (fun _ => by
        show (E.ρ ++ [c])[h.bs.length]? = some c
        rw [ext_get, if_pos hw.lenρ.symm]) x3.le
      exact ⟨_, k1, x3, k2⟩
  · cases h0

theorem conAlts_mem {θ : List Th} {a : Alt} : ∀ {as : List Alt} {L : List (AV × Hp × List BE)}, conAlts θ h pc as = some L → a ∈ as → ∃ x ∈ L, conAlt θ h pc a = some x
  | [], _, _, ha => by cases ha
  | b :: as, L, hL, ha => by
    simp only [conAlts, Option.bind_eq_bind, Option.bind_eq_some_iff, Option.pure_def, Option.some.injEq] at hL
    obtain ⟨x, hx, l, hl, rfl⟩ := hL
    rcases List.mem_cons.1 ha with rfl | ha
    · exact ⟨x, List.mem_cons_self, hx⟩
    · obtain ⟨y, h1, h2⟩ := conAlts_mem hl ha
      exact ⟨y, List.mem_cons_of_mem _ h1, h2⟩

theorem conTr_ok {c : Fs} (hF : FnOk P B.prd c) : ConOk P ⟨c.f, conTr c⟩ B := by
  intro args h pc L hL E w xs hw hp hx
  simp only [conTr, Option.bind_eq_bind, Option.bind_eq_some_iff] at hL
  obtain ⟨θ, hθ, pre, hpre, hL⟩ := hL
  obtain ⟨h1, h2⟩ := shsTh_sound hw hw.giv.rules (holds_den hp) hθ hx
  obtain ⟨q1, q2⟩ := subAll_ok h1 hpre
  split at hL
  · cases hL
  rename_i hall
  simp only [Bool.not_eq_true, Bool.not_eq_false', List.all_eq_true] at hall
  have hpr := q2.1 fun q hq => truthR_sound hw.giv.rules (holds_den hp) (by simpa using hall q hq)
  refine Calls.mono (hF E.ι hw.giv.prd w xs _ h2 hpr) ?_
  rintro e w' ⟨z, rfl, hb, hg⟩
  unfold Gives at hg
  split at hL
  · rename_i p hres
    simp only [hres] at hg
    simp only [Option.bind_eq_some_iff, Option.pure_def, Option.some.injEq] at hL
    obtain ⟨q, hq, rfl⟩ := hL
    have hu := (BE.sub_ok (Nat.zero_le _) h1 hq).2.1
    refine ⟨_, E, Or.inl ⟨_, rfl, ?_⟩, List.mem_singleton.2 rfl, ext_below hw hb, hp⟩
    simp only
    rw [den_bool hu, hg, BE.sub_den (ι := E.ι) hq]
    rfl
  · rename_i hres
    simp only [hres] at hg
    obtain ⟨a, ha, d', hr, hpost⟩ := hg
    simp only [Option.bind_eq_some_iff, Option.pure_def, Option.some.injEq] at hL
    obtain ⟨L0, hL0, rfl⟩ := hL
    obtain ⟨x, hxL, hxa⟩ := conAlts_mem hL0 ha
    obtain ⟨E', k1, k2, k3⟩ := conAlt_sound hw hp hb h1 rfl hr hpost hxa
    refine ⟨x, E', Or.inl ⟨z, rfl, k1⟩, List.mem_filter.2 ⟨hxL, ?_⟩, k2, k3⟩
    unfold conLive
    rw [Bool.not_eq_true', Bool.eq_false_iff]
    intro hd
    simp only [List.any_eq_true, beq_iff_eq] at hd
    obtain ⟨q, hq, ht⟩ := hd
    have hpc : ∀ b ∈ pc, b.den E'.ι = true := fun b hb => by
      have := hp b hb
      rw [BE.den_le k2.le.ι this.1]
      exact this.2
    have h0 := truthR_sound (hw.giv.rules.le k2.le.ι) hpc ht
    rw [(k3 q (List.mem_of_mem_take hq)).2] at h0
    cases h0

theorem conSplit_ok {c : Fs} (hF : FnOk P B.prd c) {h : Hp} {E : Env} {w : World} {xs : List Value} (hw : WR E B h w) : ∀ (rest done : List AV) (pc : List BE) (L : List (AV × Hp × List BE)), conSplit c done rest h pc = some L → (∀ b ∈ pc, b.holds E.ι) → AV.denL E (done.reverse ++ rest) = some xs →
    Calls P c.f xs.toArray w fun e w' => ∃ l E', EndR E' l.1 e ∧ l ∈ L ∧ Ext E B w E' l.2.1 w' ∧ ∀ b ∈ l.2.2, b.holds E'.ι
  | [], done, pc, L, hL, hp, hx => conTr_ok hF done.reverse h pc L (by simpa [conSplit] using hL) E w xs hw hp (by simpa using hx)
  | v :: r, done, pc, L, hL, hp, hx => by
    have swap : ∀ v' : AV, (∀ z, v.den E = some z → v'.den E = some z) → AV.denL E ((v' :: done).reverse ++ r) = some xs := fun v' hv' => by
      rw [List.reverse_cons, List.append_assoc, List.singleton_append]
      have key : ∀ (l : List AV) (ys : List Value), AV.denL E (l ++ v :: r) = some ys → AV.denL E (l ++ v' :: r) = some ys := by
        intro l
        induction l with
        | nil =>
          intro ys hy
          obtain ⟨x, m, h1, h2, rfl⟩ := denL_cons.1 hy
          exact denL_cons.2 ⟨x, m, hv' x h1, h2, rfl⟩
        | cons a l ih =>
          intro ys hy
          obtain ⟨x, m, h1, h2, rfl⟩ := denL_cons.1 hy
          exact denL_cons.2 ⟨x, m, h1, ih m h2, rfl⟩
      exact key _ _ hx
    by_cases hv : ∃ b, v = .bool b
    · obtain ⟨b, rfl⟩ := hv
      simp only [conSplit] at hL
      have hbu : b.upto E.ι.nv = true := by
        have key : ∀ (l : List AV) (ys : List Value), AV.denL E (l ++ .bool b :: r) = some ys → b.upto E.ι.nv = true := by
          intro l
          induction l with
          | nil =>
            intro ys hy
            obtain ⟨x, m, h1, h2, rfl⟩ := denL_cons.1 hy
            exact denB h1
          | cons a l ih =>
            intro ys hy
            obtain ⟨x, m, h1, h2, rfl⟩ := denL_cons.1 hy
            exact ih m h2
        exact key _ _ hx
      have lit : ∀ t, b.den E.ι = t → AV.denL E ((AV.bool (.lit t) :: done).reverse ++ r) = some xs := fun t ht => swap _ fun z hz => by
        rw [denBool hz, ht]
        exact den_bool (b := .lit t) rfl
      split at hL
      · rename_i t ht
        exact conSplit_ok hF hw r _ pc L hL hp (lit t (truthR_sound hw.giv.rules (holds_den hp) ht))
      · simp only [Option.bind_eq_bind, Option.bind_eq_some_iff, Option.pure_def, Option.some.injEq] at hL
        obtain ⟨l1, h1, l2, h2, rfl⟩ := hL
        cases hb : b.den E.ι with
        | true =>
          refine Calls.mono (conSplit_ok hF hw r _ (b :: pc) l1 h1 (fun c hc => (List.mem_cons.1 hc).elim (fun e => e ▸ ⟨hbu, hb⟩) (hp c)) (lit _ hb)) ?_
          rintro e w' ⟨l, E', k1, k2, k3, k4⟩
          exact ⟨l, E', k1, List.mem_append_left _ k2, k3, k4⟩
        | false =>
          refine Calls.mono (conSplit_ok hF hw r _ (b.mkNot :: pc) l2 h2 (fun c hc => (List.mem_cons.1 hc).elim (fun e => e ▸ ⟨mkNot_below hbu, by rw [BE.mkNot_den, hb]; rfl⟩) (hp c)) (lit _ hb)) ?_
          rintro e w' ⟨l, E', k1, k2, k3, k4⟩
          exact ⟨l, E', k1, List.mem_append_right _ k2, k3, k4⟩
    · have e : conSplit c done (v :: r) h pc = conSplit c (v :: done) r h pc := by
        cases v <;> first
          | rfl
          | exact absurd ⟨_, rfl⟩ hv
      rw [e] at hL
      exact conSplit_ok hF hw r _ pc L hL hp (swap v fun z hz => hz)

/-- What is said of a function is what the walker takes it by. -/
theorem con_ok {c : Fs} (hF : FnOk P B.prd c) : ConOk P c.con B := by
  intro args h pc L hL E w xs hw hp hx
  simp only [Fs.con] at hL
  split at hL
  · rename_i L' hL'
    injection hL with hL
    subst hL
    exact conTr_ok hF args h pc _ hL' E w xs hw hp hx
  · exact conSplit_ok hF hw args [] pc L hL hp (by simpa using hx)

end
end Go.Sx
