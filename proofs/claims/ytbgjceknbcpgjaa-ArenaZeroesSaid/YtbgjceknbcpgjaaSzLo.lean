/-
  A WALKER THAT COMPUTES: loops that are gone through once, from a head that is as one has it.
-/
import Derived.Test.YtbgjceknbcpgjaaSzN
namespace Go.Sx

/-- The unknowns that there were, and then those of a head. -/
def Unk.inst (ι : Unk) (m : Nat) (θ : List Th) : Unk := { ι with fv := ι.fv.take m ++ θ.map (Th.fv ι) }

section
variable {ι : Unk} {m : Nat} {θ : List Th}

theorem inst_nv (hm : m ≤ ι.nv) : (ι.inst m θ).nv = m + θ.length := by
  simp only [Unk.nv] at hm
  simp [Unk.nv, Unk.inst, Nat.min_eq_left hm]

theorem inst_lo (hm : m ≤ ι.nv) {i : Nat} (hi : i < m) : (ι.inst m θ).fv[i]? = ι.fv[i]? := by
  simp only [Unk.nv] at hm
  simp only [Unk.inst]
  rw [List.getElem?_append_left (by simp; omega), List.getElem?_take, if_pos hi]

theorem inst_hi (hm : m ≤ ι.nv) {i : Nat} (hi : ¬ i < m) : (ι.inst m θ).fv[i]? = (θ[i - m]?).map (Th.fv ι) := by
  simp only [Unk.nv] at hm
  simp only [Unk.inst]
  rw [List.getElem?_append_right (by simp; omega), List.getElem?_map]
  simp [Nat.min_eq_left hm]

theorem rowSub_ok (hm : m ≤ ι.nv) (hθ : ∀ t ∈ θ, t.upto ι.nv = true) {r r' : Nat} (h : rowSub θ m r = some r') : (ι.inst m θ).fr r = ι.fr r' ∧ r' < ι.nv ∧ r < m + θ.length := by
  unfold rowSub at h
  split at h
  · rename_i hb
    have hb := blt_iff.1 hb
    injection h with h
    subst h
    exact ⟨by simp only [Unk.fr, inst_lo hm hb], by omega, by omega⟩
  · rename_i hb
    have hb : ¬ r < m := fun h => hb (blt_iff.2 h)
    split at h
    · rename_i q hq
      injection h with h
      subst h
      have hlt := (List.getElem?_eq_some_iff.1 hq).1
      have := hθ _ (List.mem_of_getElem? hq)
      simp only [Th.upto, RX.upto, blt_iff] at this
      exact ⟨by simp only [Unk.fr, inst_hi hm hb, hq, Option.map_some, Th.fv, RX.den, Option.getD_some], this, by omega⟩
    · cases h

theorem txtSub_ok (hm : m ≤ ι.nv) (hθ : ∀ t ∈ θ, t.upto ι.nv = true) {r r' : Nat} (h : txtSub θ m r = some r') : (ι.inst m θ).ft r = ι.ft r' ∧ r' < ι.nv ∧ r < m + θ.length := by
  unfold txtSub at h
  split at h
  · rename_i hb
    have hb := blt_iff.1 hb
    injection h with h
    subst h
    exact ⟨by simp only [Unk.ft, inst_lo hm hb], by omega, by omega⟩
  · rename_i hb
    have hb : ¬ r < m := fun h => hb (blt_iff.2 h)
    split at h
    · rename_i q hq
      injection h with h
      subst h
      have hlt := (List.getElem?_eq_some_iff.1 hq).1
      have := hθ _ (List.mem_of_getElem? hq)
      simp only [Th.upto, TX.upto, blt_iff] at this
      exact ⟨by simp only [Unk.ft, inst_hi hm hb, hq, Option.map_some, Th.fv, TX.den, Option.getD_some], this, by omega⟩
    · cases h

theorem rowTm_ok (hm : m ≤ ι.nv) (hθ : ∀ t ∈ θ, t.upto ι.nv = true) {r : Nat} {x : RX} (h : rowTm θ m r = some x) : x.den ι = (ι.inst m θ).fr r ∧ x.upto ι.nv = true ∧ r < m + θ.length := by
  unfold rowTm at h
  split at h
  · rename_i hb
    have hb := blt_iff.1 hb
    injection h with h
    subst h
    exact ⟨by simp only [RX.den, Unk.fr, inst_lo hm hb], by simp only [RX.upto, blt_iff]; omega, by omega⟩
  · rename_i hb
    have hb : ¬ r < m := fun h => hb (blt_iff.2 h)
    split at h
    · rename_i q hq
      injection h with h
      subst h
      have hlt := (List.getElem?_eq_some_iff.1 hq).1
      have := hθ _ (List.mem_of_getElem? hq)
      simp only [Th.upto] at this
      exact ⟨by simp only [Unk.fr, inst_hi hm hb, hq, Option.map_some, Th.fv, Option.getD_some], this, by omega⟩
    · cases h

theorem txtTm_ok (hm : m ≤ ι.nv) (hθ : ∀ t ∈ θ, t.upto ι.nv = true) {r : Nat} {x : TX} (h : txtTm θ m r = some x) : x.den ι = (ι.inst m θ).ft r ∧ x.upto ι.nv = true ∧ r < m + θ.length := by
  unfold txtTm at h
  split at h
  · rename_i hb
    have hb := blt_iff.1 hb
    injection h with h
    subst h
    exact ⟨by simp only [TX.den, Unk.ft, inst_lo hm hb], by simp only [TX.upto, blt_iff]; omega, by omega⟩
  · rename_i hb
    have hb : ¬ r < m := fun h => hb (blt_iff.2 h)
    split at h
    · rename_i q hq
      injection h with h
      subst h
      have hlt := (List.getElem?_eq_some_iff.1 hq).1
      have := hθ _ (List.mem_of_getElem? hq)
      simp only [Th.upto] at this
      exact ⟨by simp only [Unk.ft, inst_hi hm hb, hq, Option.map_some, Th.fv, Option.getD_some], this, by omega⟩
    · cases h

/-- What an instance says of a number. -/
def SubI (ι : Unk) (m : Nat) (θ : List Th) (e e' : IE) : Prop := e'.den ι = e.den (ι.inst m θ) ∧ e'.upto ι.nv = true ∧ e.upto (m + θ.length) = true

theorem IE.sub_ok (hm : m ≤ ι.nv) (hθ : ∀ t ∈ θ, t.upto ι.nv = true) : ∀ {e e' : IE}, e.sub θ m = some e' → SubI ι m θ e e'
  | .lit n, e', h => by simp only [IE.sub, Option.some.injEq] at h; subst h; exact ⟨rfl, rfl, rfl⟩
  | .var n, e', h => by simp only [IE.sub, Option.some.injEq] at h; subst h; exact ⟨rfl, rfl, rfl⟩
  | .slen n, e', h => by simp only [IE.sub, Option.some.injEq] at h; subst h; exact ⟨rfl, rfl, rfl⟩
  | .bin op k a b, e', h => by
    simp only [IE.sub, Option.bind_eq_bind, Option.bind_eq_some_iff, Option.pure_def, Option.some.injEq] at h
    obtain ⟨a', ha, b', hb, rfl⟩ := h
    obtain ⟨a1, a2, a3⟩ := IE.sub_ok hm hθ ha
    obtain ⟨b1, b2, b3⟩ := IE.sub_ok hm hθ hb
    exact ⟨by simp only [IE.den, a1, b1], by simp only [IE.upto, a2, b2, Bool.and_self], by simp only [IE.upto, a3, b3, Bool.and_self]⟩
  | .wrap k a, e', h => by
    simp only [IE.sub, Option.bind_eq_bind, Option.bind_eq_some_iff, Option.pure_def, Option.some.injEq] at h
    obtain ⟨a', ha, rfl⟩ := h
    obtain ⟨a1, a2, a3⟩ := IE.sub_ok hm hθ ha
    exact ⟨by simp only [IE.den, a1], by simp only [IE.upto, a2], by simp only [IE.upto, a3]⟩
  | .off a b, e', h => by
    simp only [IE.sub, Option.bind_eq_bind, Option.bind_eq_some_iff, Option.pure_def, Option.some.injEq] at h
    obtain ⟨a', ha, b', hb, rfl⟩ := h
    obtain ⟨a1, a2, a3⟩ := IE.sub_ok hm hθ ha
    obtain ⟨b1, b2, b3⟩ := IE.sub_ok hm hθ hb
    exact ⟨by rw [plus_den]; simp only [IE.den, a1, b1], plus_below a2 b2, by simp only [IE.upto, a3, b3, Bool.and_self]⟩
  | .dif a b, e', h => by
    simp only [IE.sub, Option.bind_eq_bind, Option.bind_eq_some_iff, Option.pure_def, Option.some.injEq] at h
    obtain ⟨a', ha, b', hb, rfl⟩ := h
    obtain ⟨a1, a2, a3⟩ := IE.sub_ok hm hθ ha
    obtain ⟨b1, b2, b3⟩ := IE.sub_ok hm hθ hb
    exact ⟨by rw [mkDif_den]; simp only [IE.den, a1, b1], mkDif_below a2 b2, by simp only [IE.upto, a3, b3, Bool.and_self]⟩
  | .lin a z o, e', h => by
    simp only [IE.sub, Option.bind_eq_bind, Option.bind_eq_some_iff, Option.pure_def, Option.some.injEq] at h
    obtain ⟨a', ha, rfl⟩ := h
    obtain ⟨a1, a2, a3⟩ := IE.sub_ok hm hθ ha
    exact ⟨by rw [mkLin_den]; simp only [IE.den, a1], mkLin_below a2, by simp only [IE.upto, a3]⟩
  | .fv i, e', h => by
    simp only [IE.sub] at h
    split at h
    · rename_i hb
      have hb := blt_iff.1 hb
      injection h with h
      subst h
      exact ⟨by simp only [IE.den, Unk.fn, inst_lo hm hb], by simp only [IE.upto, blt_iff]; omega, by simp only [IE.upto, blt_iff]; omega⟩
    · rename_i hb
      have hb : ¬ i < m := fun h => hb (blt_iff.2 h)
      split at h
      · rename_i q hq
        injection h with h
        subst h
        have hlt := (List.getElem?_eq_some_iff.1 hq).1
        have := hθ _ (List.mem_of_getElem? hq)
        simp only [Th.upto] at this
        exact ⟨by simp only [IE.den, Unk.fn, inst_hi hm hb, hq, Option.map_some, Th.fv, Option.getD_some], this, by simp only [IE.upto, blt_iff]; omega⟩
      · cases h
  | .cell r i, e', h => by
    simp only [IE.sub, Option.bind_eq_bind, Option.bind_eq_some_iff, Option.pure_def] at h
    obtain ⟨i', hi, h⟩ := h
    obtain ⟨a1, a2, a3⟩ := IE.sub_ok hm hθ hi
    obtain ⟨r', hr, rfl⟩ : ∃ r', rowSub θ m r = some r' ∧ e' = .cell r' i' := by
      unfold rowSub
      split at h
      · rename_i hb; rw [if_pos hb]; injection h with h; exact ⟨_, rfl, h.symm⟩
      · rename_i hb
        split at h
        · rename_i q hq; injection h with h; exact ⟨q, by rw [if_neg hb], h.symm⟩
        · cases h
    obtain ⟨r1, r2, r3⟩ := rowSub_ok hm hθ hr
    exact ⟨by simp only [IE.den, a1, r1], by simp only [IE.upto, a2, blt_iff.2 r2, Bool.and_self], by simp only [IE.upto, a3, blt_iff.2 r3, Bool.and_self]⟩
  | .chr r i, e', h => by
    simp only [IE.sub, Option.bind_eq_bind, Option.bind_eq_some_iff, Option.pure_def] at h
    obtain ⟨i', hi, h⟩ := h
    obtain ⟨a1, a2, a3⟩ := IE.sub_ok hm hθ hi
    obtain ⟨r', hr, rfl⟩ : ∃ r', txtSub θ m r = some r' ∧ e' = .chr r' i' := by
      unfold txtSub
      split at h
      · rename_i hb; rw [if_pos hb]; injection h with h; exact ⟨_, rfl, h.symm⟩
      · rename_i hb
        split at h
        · rename_i q hq; injection h with h; exact ⟨q, by rw [if_neg hb], h.symm⟩
        · cases h
    obtain ⟨r1, r2, r3⟩ := txtSub_ok hm hθ hr
    exact ⟨by simp only [IE.den, a1, r1], by simp only [IE.upto, a2, blt_iff.2 r2, Bool.and_self], by simp only [IE.upto, a3, blt_iff.2 r3, Bool.and_self]⟩
  | .tlen r, e', h => by
    simp only [IE.sub] at h
    split at h
    · rename_i hb
      have hb := blt_iff.1 hb
      injection h with h
      subst h
      exact ⟨by simp only [IE.den, Unk.ft, inst_lo hm hb], by simp only [IE.upto, blt_iff]; omega, by simp only [IE.upto, blt_iff]; omega⟩
    · rename_i hb
      have hb : ¬ r < m := fun h => hb (blt_iff.2 h)
      split at h
      · rename_i q hq
        injection h with h
        subst h
        have hlt := (List.getElem?_eq_some_iff.1 hq).1
        have := hθ _ (List.mem_of_getElem? hq)
        simp only [Th.upto, TX.upto] at this
        exact ⟨by simp only [IE.den, Unk.ft, inst_hi hm hb, hq, Option.map_some, Th.fv, TX.den, Option.getD_some], by simpa only [IE.upto] using this, by simp only [IE.upto, blt_iff]; omega⟩
      · rename_i q hq
        injection h with h
        subst h
        have hlt := (List.getElem?_eq_some_iff.1 hq).1
        exact ⟨by simp only [IE.den, Unk.ft, inst_hi hm hb, hq, Option.map_some, Th.fv, TX.den, Option.getD_some], rfl, by simp only [IE.upto, blt_iff]; omega⟩
      · rename_i q hq
        injection h with h
        subst h
        have hlt := (List.getElem?_eq_some_iff.1 hq).1
        exact ⟨by simp only [IE.den, Unk.ft, inst_hi hm hb, hq, Option.map_some, Th.fv, TX.den, Option.getD_some], rfl, by simp only [IE.upto, blt_iff]; omega⟩
      · cases h
  | .tab s i, e', h => by
    simp only [IE.sub, Option.bind_eq_bind, Option.bind_eq_some_iff, Option.pure_def, Option.some.injEq] at h
    obtain ⟨a', ha, rfl⟩ := h
    obtain ⟨a1, a2, a3⟩ := IE.sub_ok hm hθ ha
    exact ⟨by simp only [IE.den, a1], by simp only [IE.upto, a2], by simp only [IE.upto, a3]⟩

theorem iesSub_ok (hm : m ≤ ι.nv) (hθ : ∀ t ∈ θ, t.upto ι.nv = true) : ∀ {vs vs' : List IE}, iesSub θ m vs = some vs' →
    vs'.map (·.den ι) = vs.map (·.den (ι.inst m θ)) ∧ (vs'.all (·.upto ι.nv)) = true ∧ (vs.all (·.upto (m + θ.length))) = true
  | [], vs', h => by simp only [iesSub, Option.some.injEq] at h; subst h; exact ⟨rfl, rfl, rfl⟩
  | e :: r, vs', h => by
    simp only [iesSub, Option.bind_eq_bind, Option.bind_eq_some_iff, Option.pure_def, Option.some.injEq] at h
    obtain ⟨e', he, l, hl, rfl⟩ := h
    obtain ⟨a1, a2, a3⟩ := IE.sub_ok hm hθ he
    obtain ⟨b1, b2, b3⟩ := iesSub_ok hm hθ hl
    exact ⟨by simp only [List.map_cons, a1, b1], by simp only [List.all_cons, a2, b2, Bool.and_self], by simp only [List.all_cons, a3, b3, Bool.and_self]⟩

theorem TX.sub_ok (hm : m ≤ ι.nv) (hθ : ∀ t ∈ θ, t.upto ι.nv = true) : ∀ {e e' : TX}, e.sub' θ m = some e' → e'.den ι = e.den (ι.inst m θ) ∧ e'.upto ι.nv = true ∧ e.upto (m + θ.length) = true
  | .lit n, e', h => by simp only [TX.sub', Option.some.injEq] at h; subst h; exact ⟨rfl, rfl, rfl⟩
  | .rig n, e', h => by simp only [TX.sub', Option.some.injEq] at h; subst h; exact ⟨rfl, rfl, rfl⟩
  | .fv i, e', h => by
    simp only [TX.sub'] at h
    obtain ⟨r1, r2, r3⟩ := txtTm_ok hm hθ h
    exact ⟨by simp only [TX.den, r1], r2, by simp only [TX.upto, blt_iff.2 r3]⟩
  | .lits es, e', h => by
    simp only [TX.sub', Option.map_eq_some_iff] at h
    obtain ⟨r', hr, rfl⟩ := h
    obtain ⟨r1, r2, r3⟩ := iesSub_ok hm hθ hr
    refine ⟨?_, r2, r3⟩
    have := congrArg (List.map fun n : Int => UInt8.ofNat n.toNat) r1
    simpa only [TX.den, List.map_map, Function.comp_def] using this
  | .row r o n, e', h => by
    simp only [TX.sub', Option.bind_eq_bind, Option.bind_eq_some_iff, Option.pure_def, Option.some.injEq] at h
    obtain ⟨r', hr, o', ho, n', hn, rfl⟩ := h
    obtain ⟨r1, r2, r3⟩ := rowSub_ok hm hθ hr
    obtain ⟨a1, a2, a3⟩ := IE.sub_ok hm hθ ho
    obtain ⟨b1, b2, b3⟩ := IE.sub_ok hm hθ hn
    exact ⟨by simp only [TX.den, r1, a1, b1], by simp only [TX.upto, a2, b2, blt_iff.2 r2, Bool.and_self], by simp only [TX.upto, a3, b3, blt_iff.2 r3, Bool.and_self]⟩
  | .cat x y, e', h => by
    simp only [TX.sub', Option.bind_eq_bind, Option.bind_eq_some_iff, Option.pure_def, Option.some.injEq] at h
    obtain ⟨a', ha, b', hb, rfl⟩ := h
    obtain ⟨a1, a2, a3⟩ := TX.sub_ok hm hθ ha
    obtain ⟨b1, b2, b3⟩ := TX.sub_ok hm hθ hb
    exact ⟨by simp only [TX.den, a1, b1], by simp only [TX.upto, a2, b2, Bool.and_self], by simp only [TX.upto, a3, b3, Bool.and_self]⟩
  | .sub x o n, e', h => by
    simp only [TX.sub', Option.bind_eq_bind, Option.bind_eq_some_iff, Option.pure_def, Option.some.injEq] at h
    obtain ⟨x', hx, o', ho, n', hn, rfl⟩ := h
    obtain ⟨r1, r2, r3⟩ := TX.sub_ok hm hθ hx
    obtain ⟨a1, a2, a3⟩ := IE.sub_ok hm hθ ho
    obtain ⟨b1, b2, b3⟩ := IE.sub_ok hm hθ hn
    exact ⟨by simp only [TX.den, r1, a1, b1], by simp only [TX.upto, a2, b2, r2, Bool.and_self], by simp only [TX.upto, a3, b3, r3, Bool.and_self]⟩

theorem litsSub_ok (hm : m ≤ ι.nv) (hθ : ∀ t ∈ θ, t.upto ι.nv = true) : ∀ {vs vs' : List (CK × IE)}, litsSub θ m vs = some vs' →
    (vs'.map fun v => v.1.val (v.2.den ι)) = (vs.map fun v => v.1.val (v.2.den (ι.inst m θ))) ∧ (vs'.all fun v => v.2.upto ι.nv) = true ∧ (vs.all fun v => v.2.upto (m + θ.length)) = true
  | [], vs', h => by simp only [litsSub, Option.some.injEq] at h; subst h; exact ⟨rfl, rfl, rfl⟩
  | (k, e) :: r, vs', h => by
    simp only [litsSub, Option.bind_eq_bind, Option.bind_eq_some_iff, Option.pure_def, Option.some.injEq] at h
    obtain ⟨e', he, l, hl, rfl⟩ := h
    obtain ⟨a1, a2, a3⟩ := IE.sub_ok hm hθ he
    obtain ⟨b1, b2, b3⟩ := litsSub_ok hm hθ hl
    exact ⟨by simp only [List.map_cons, a1, b1], by simp only [List.all_cons, a2, b2, Bool.and_self], by simp only [List.all_cons, a3, b3, Bool.and_self]⟩

theorem RX.sub_ok (hm : m ≤ ι.nv) (hθ : ∀ t ∈ θ, t.upto ι.nv = true) : ∀ {e e' : RX}, e.sub' θ m = some e' → e'.den ι = e.den (ι.inst m θ) ∧ e'.upto ι.nv = true ∧ e.upto (m + θ.length) = true
  | .row i, e', h => by
    simp only [RX.sub'] at h
    obtain ⟨r1, r2, r3⟩ := rowTm_ok hm hθ h
    exact ⟨by simp only [RX.den, r1], r2, by simp only [RX.upto, blt_iff.2 r3]⟩
  | .lits vs, e', h => by
    simp only [RX.sub', Option.map_eq_some_iff] at h
    obtain ⟨r', hr, rfl⟩ := h
    obtain ⟨r1, r2, r3⟩ := litsSub_ok hm hθ hr
    exact ⟨by simp only [RX.den, r1], r2, r3⟩
  | .txt vs, e', h => by
    simp only [RX.sub', Option.map_eq_some_iff] at h
    obtain ⟨r', hr, rfl⟩ := h
    obtain ⟨r1, r2, r3⟩ := TX.sub_ok hm hθ hr
    exact ⟨by simp only [RX.den, r1], r2, r3⟩
  | .sub x o n, e', h => by
    simp only [RX.sub', Option.bind_eq_bind, Option.bind_eq_some_iff, Option.pure_def, Option.some.injEq] at h
    obtain ⟨x', hx, o', ho, n', hn, rfl⟩ := h
    obtain ⟨r1, r2, r3⟩ := RX.sub_ok hm hθ hx
    obtain ⟨a1, a2, a3⟩ := IE.sub_ok hm hθ ho
    obtain ⟨b1, b2, b3⟩ := IE.sub_ok hm hθ hn
    exact ⟨by simp only [RX.den, r1, a1, b1], by simp only [RX.upto, a2, b2, r2, Bool.and_self], by simp only [RX.upto, a3, b3, r3, Bool.and_self]⟩
  | .cat x y, e', h => by
    simp only [RX.sub', Option.bind_eq_bind, Option.bind_eq_some_iff, Option.pure_def, Option.some.injEq] at h
    obtain ⟨a', ha, b', hb, rfl⟩ := h
    obtain ⟨a1, a2, a3⟩ := RX.sub_ok hm hθ ha
    obtain ⟨b1, b2, b3⟩ := RX.sub_ok hm hθ hb
    exact ⟨by simp only [RX.den, a1, b1], by simp only [RX.upto, a2, b2, Bool.and_self], by simp only [RX.upto, a3, b3, Bool.and_self]⟩
  | .set x o y, e', h => by
    simp only [RX.sub', Option.bind_eq_bind, Option.bind_eq_some_iff, Option.pure_def, Option.some.injEq] at h
    obtain ⟨x', hx, o', ho, y', hy, rfl⟩ := h
    obtain ⟨r1, r2, r3⟩ := RX.sub_ok hm hθ hx
    obtain ⟨a1, a2, a3⟩ := IE.sub_ok hm hθ ho
    obtain ⟨b1, b2, b3⟩ := RX.sub_ok hm hθ hy
    exact ⟨by simp only [RX.den, r1, a1, b1], by simp only [RX.upto, a2, b2, r2, Bool.and_self], by simp only [RX.upto, a3, b3, r3, Bool.and_self]⟩
  | .rep n vs, e', h => by
    simp only [RX.sub', Option.bind_eq_bind, Option.bind_eq_some_iff, Option.pure_def, Option.some.injEq] at h
    obtain ⟨n', hn, vs', hvs, rfl⟩ := h
    obtain ⟨a1, a2, a3⟩ := IE.sub_ok hm hθ hn
    obtain ⟨r1, r2, r3⟩ := litsSub_ok hm hθ hvs
    exact ⟨by simp only [RX.den, r1, a1], by simp only [RX.upto, a2, r2, Bool.and_self], by simp only [RX.upto, a3, r3, Bool.and_self]⟩

theorem rowsSub_ok (hm : m ≤ ι.nv) (hθ : ∀ t ∈ θ, t.upto ι.nv = true) : ∀ {vs vs' : List RX}, rowsSub θ m vs = some vs' →
    vs'.map (·.den ι) = vs.map (·.den (ι.inst m θ)) ∧ (vs'.all (·.upto ι.nv)) = true ∧ (vs.all (·.upto (m + θ.length))) = true
  | [], vs', h => by simp only [rowsSub, Option.some.injEq] at h; subst h; exact ⟨rfl, rfl, rfl⟩
  | e :: r, vs', h => by
    simp only [rowsSub, Option.bind_eq_bind, Option.bind_eq_some_iff, Option.pure_def, Option.some.injEq] at h
    obtain ⟨e', he, l, hl, rfl⟩ := h
    obtain ⟨a1, a2, a3⟩ := RX.sub_ok hm hθ he
    obtain ⟨b1, b2, b3⟩ := rowsSub_ok hm hθ hl
    exact ⟨by simp only [List.map_cons, a1, b1], by simp only [List.all_cons, a2, b2, Bool.and_self], by simp only [List.all_cons, a3, b3, Bool.and_self]⟩
theorem txtsSub_ok (hm : m ≤ ι.nv) (hθ : ∀ t ∈ θ, t.upto ι.nv = true) : ∀ {vs vs' : List TX}, txtsSub θ m vs = some vs' →
    vs'.map (·.den ι) = vs.map (·.den (ι.inst m θ)) ∧ (vs'.all (·.upto ι.nv)) = true ∧ (vs.all (·.upto (m + θ.length))) = true
  | [], vs', h => by simp only [txtsSub, Option.some.injEq] at h; subst h; exact ⟨rfl, rfl, rfl⟩
  | e :: r, vs', h => by
    simp only [txtsSub, Option.bind_eq_bind, Option.bind_eq_some_iff, Option.pure_def, Option.some.injEq] at h
    obtain ⟨e', he, l, hl, rfl⟩ := h
    obtain ⟨a1, a2, a3⟩ := TX.sub_ok hm hθ he
    obtain ⟨b1, b2, b3⟩ := txtsSub_ok hm hθ hl
    exact ⟨by simp only [List.map_cons, a1, b1], by simp only [List.all_cons, a2, b2, Bool.and_self], by simp only [List.all_cons, a3, b3, Bool.and_self]⟩

theorem BE.sub_ok (hm : m ≤ ι.nv) (hθ : ∀ t ∈ θ, t.upto ι.nv = true) : ∀ {e e' : BE}, e.sub θ m = some e' → e'.den ι = e.den (ι.inst m θ) ∧ e'.upto ι.nv = true ∧ e.upto (m + θ.length) = true
  | .lit n, e', h => by simp only [BE.sub, Option.some.injEq] at h; subst h; exact ⟨rfl, rfl, rfl⟩
  | .not x, e', h => by
    simp only [BE.sub, Option.map_eq_some_iff] at h
    obtain ⟨a', ha, rfl⟩ := h
    obtain ⟨a1, a2, a3⟩ := BE.sub_ok hm hθ ha
    exact ⟨by simp only [BE.den, a1], a2, a3⟩
  | .cmp op a b, e', h => by
    simp only [BE.sub, Option.bind_eq_bind, Option.bind_eq_some_iff, Option.pure_def, Option.some.injEq] at h
    obtain ⟨a', ha, b', hb, rfl⟩ := h
    obtain ⟨a1, a2, a3⟩ := IE.sub_ok hm hθ ha
    obtain ⟨b1, b2, b3⟩ := IE.sub_ok hm hθ hb
    exact ⟨by simp only [BE.den, a1, b1], by simp only [BE.upto, a2, b2, Bool.and_self], by simp only [BE.upto, a3, b3, Bool.and_self]⟩
  | .same a b, e', h => by
    simp only [BE.sub, Option.bind_eq_bind, Option.bind_eq_some_iff, Option.pure_def, Option.some.injEq] at h
    obtain ⟨a', ha, b', hb, rfl⟩ := h
    obtain ⟨a1, a2, a3⟩ := BE.sub_ok hm hθ ha
    obtain ⟨b1, b2, b3⟩ := BE.sub_ok hm hθ hb
    exact ⟨by simp only [BE.den, a1, b1], by simp only [BE.upto, a2, b2, Bool.and_self], by simp only [BE.upto, a3, b3, Bool.and_self]⟩
  | .seqs i s, e', h => by simp only [BE.sub, Option.some.injEq] at h; subst h; exact ⟨rfl, rfl, rfl⟩
  | .teq a b, e', h => by
    simp only [BE.sub, Option.bind_eq_bind, Option.bind_eq_some_iff, Option.pure_def, Option.some.injEq] at h
    obtain ⟨a', ha, b', hb, rfl⟩ := h
    obtain ⟨a1, a2, a3⟩ := TX.sub_ok hm hθ ha
    obtain ⟨b1, b2, b3⟩ := TX.sub_ok hm hθ hb
    exact ⟨by simp only [BE.den]; exact decide_eq_decide.2 (by rw [a1, b1]), by simp only [BE.upto, a2, b2, Bool.and_self], by simp only [BE.upto, a3, b3, Bool.and_self]⟩
  | .isrow r x, e', h => by
    simp only [BE.sub, Option.bind_eq_bind, Option.bind_eq_some_iff, Option.pure_def, Option.some.injEq] at h
    obtain ⟨a', ha, b', hb, rfl⟩ := h
    obtain ⟨a1, a2, a3⟩ := rowSub_ok hm hθ ha
    obtain ⟨b1, b2, b3⟩ := RX.sub_ok hm hθ hb
    exact ⟨by simp only [BE.den]; exact decide_eq_decide.2 (by rw [a1, b1]), by simp only [BE.upto, blt_iff.2 a2, b2, Bool.and_self], by simp only [BE.upto, blt_iff.2 a3, b3, Bool.and_self]⟩
  | .rlen x n, e', h => by
    simp only [BE.sub, Option.bind_eq_bind, Option.bind_eq_some_iff, Option.pure_def, Option.some.injEq] at h
    obtain ⟨a', ha, b', hb, rfl⟩ := h
    obtain ⟨a1, a2, a3⟩ := RX.sub_ok hm hθ ha
    obtain ⟨b1, b2, b3⟩ := IE.sub_ok hm hθ hb
    exact ⟨by simp only [BE.den]; exact decide_eq_decide.2 (by rw [a1, b1]), by simp only [BE.upto, a2, b2, Bool.and_self], by simp only [BE.upto, a3, b3, Bool.and_self]⟩
  | .sys k n x y, e', h => by
    simp only [BE.sub, Option.bind_eq_bind, Option.bind_eq_some_iff, Option.pure_def, Option.some.injEq] at h
    obtain ⟨a', ha, b', hb, c', hc, rfl⟩ := h
    obtain ⟨a1, a2, a3⟩ := IE.sub_ok hm hθ ha
    obtain ⟨b1, b2, b3⟩ := RX.sub_ok hm hθ hb
    obtain ⟨c1, c2, c3⟩ := RX.sub_ok hm hθ hc
    exact ⟨by simp only [BE.den]; exact decide_eq_decide.2 (by rw [a1, b1, c1]), by simp only [BE.upto, a2, b2, c2, Bool.and_self], by simp only [BE.upto, a3, b3, c3, Bool.and_self]⟩
  | .usr k ns ss rs, e', h => by
    simp only [BE.sub, Option.bind_eq_bind, Option.bind_eq_some_iff, Option.pure_def, Option.some.injEq] at h
    obtain ⟨a', ha, b', hb, c', hc, rfl⟩ := h
    obtain ⟨a1, a2, a3⟩ := iesSub_ok hm hθ ha
    obtain ⟨b1, b2, b3⟩ := txtsSub_ok hm hθ hb
    obtain ⟨c1, c2, c3⟩ := rowsSub_ok hm hθ hc
    exact ⟨by simp only [BE.den]; exact decide_eq_decide.2 (by rw [a1, b1, c1]; rfl), by simp only [BE.upto, a2, b2, c2, Bool.and_self], by simp only [BE.upto, a3, b3, c3, Bool.and_self]⟩
end

end Go.Sx
