/-
  A WALKER THAT COMPUTES: a loop from a head.
-/
import Derived.Test.YtbgjceknbcpgjaaSzLp
namespace Go.Sx

section
variable {E : Env} {m nB nk : Nat} {θ : List Th} {bl : List Nat} {rs : List Rule} {pc : List BE} {B : Bd} {w : World}

theorem sameSlots_ok : ∀ {us vs : List AV}, sameSlots rs pc θ m nB nk bl us vs = true → us.length = vs.length ∧
    ∀ (t : Nat) (u : AV), us[t]? = some u → u.isPoison = false → ∃ u' v, AV.sub θ m nB nk bl u = some u' ∧ vs[t]? = some v ∧ sameAV rs pc u' v = true ∧ v.isPoison = false
  | [], [], _ => ⟨rfl, fun t u hu => by simp at hu⟩
  | [], _ :: _, h => by simp [sameSlots] at h
  | _ :: _, [], h => by simp [sameSlots] at h
  | u :: us, v :: vs, h => by
    simp only [sameSlots, Bool.and_eq_true] at h
    obtain ⟨h1, h2⟩ := h
    obtain ⟨hl, ih⟩ := sameSlots_ok h2
    refine ⟨by simp [hl], fun t q hq hqp => ?_⟩
    cases t with
    | zero =>
      simp only [List.getElem?_cons_zero, Option.some.injEq] at hq
      subst hq
      rw [if_neg (by simp [hqp])] at h1
      split at h1
      · rename_i u' hu'
        simp only [Bool.and_eq_true, Bool.not_eq_true'] at h1
        exact ⟨u', v, hu', rfl, h1.1, h1.2⟩
      · cases h1
    | succ t => simpa using ih t q (by simpa using hq) hqp

theorem sameCells_ok : ∀ {us vs : List (Option AV)}, sameCells rs pc θ m nB nk bl us vs = true → us.length = vs.length ∧
    ∀ (t : Nat) (u : AV), us[t]? = some (some u) → ∃ u' v, AV.sub θ m nB nk bl u = some u' ∧ vs[t]? = some (some v) ∧ sameAV rs pc u' v = true
  | [], [], _ => ⟨rfl, fun t u hu => by simp at hu⟩
  | [], _ :: _, h => by simp [sameCells] at h
  | none :: _, [], h => by simp [sameCells] at h
  | some _ :: _, [], h => by simp [sameCells] at h
  | some _ :: _, none :: _, h => by simp [sameCells] at h
  | none :: us, v :: vs, h => by
    simp only [sameCells] at h
    obtain ⟨hl, ih⟩ := sameCells_ok h
    refine ⟨by simp [hl], fun t q hq => ?_⟩
    cases t with
    | zero => simp at hq
    | succ t => simpa using ih t q (by simpa using hq)
  | some u :: us, some v :: vs, h => by
    simp only [sameCells, Bool.and_eq_true] at h
    obtain ⟨h1, h2⟩ := h
    obtain ⟨hl, ih⟩ := sameCells_ok h2
    refine ⟨by simp [hl], fun t q hq => ?_⟩
    cases t with
    | zero =>
      simp only [List.getElem?_cons_zero, Option.some.injEq] at hq
      subst hq
      split at h1
      · rename_i u' hu'
        exact ⟨u', v, hu', rfl, h1⟩
      · cases h1
    | succ t => simpa using ih t q (by simpa using hq)

theorem subL_get : ∀ {us l : List AV}, AV.subL θ m nB nk bl us = some l → ∀ (j : Nat) (u : AV), us[j]? = some u → ∃ u', l[j]? = some u' ∧ AV.sub θ m nB nk bl u = some u'
  | [], _, _, j, u, hu => by simp at hu
  | x :: us, l, h, j, u, hu => by
    simp only [AV.subL, Option.bind_eq_bind, Option.bind_eq_some_iff, Option.pure_def, Option.some.injEq] at h
    obtain ⟨x', hx, l', hl, rfl⟩ := h
    cases j with
    | zero => simp at hu; subst hu; exact ⟨x', by simp, hx⟩
    | succ j => simpa using subL_get hl j u (by simpa using hu)

/-- What is below the head asks of the same. -/
theorem low_le (hm : m ≤ E.ι.nv) : ∃ ι0 : Unk, ι0.nv = m ∧ ι0.Le E.ι ∧ ι0.Le (E.ι.inst m θ) := by
  refine ⟨{ E.ι with fv := E.ι.fv.take m }, ?_, ⟨rfl, rfl, rfl, rfl, fun i u hi => ?_⟩, ⟨rfl, rfl, rfl, rfl, fun i u hi => ?_⟩⟩
  · simp only [Unk.nv] at hm
    simp [Unk.nv, Nat.min_eq_left hm]
  · simp only [List.getElem?_take] at hi
    split at hi
    · exact hi
    · cases hi
  · have hlt := (List.getElem?_eq_some_iff.1 hi).1
    simp only [Unk.inst]
    rw [List.getElem?_append_left hlt]
    exact hi

theorem sameObj_ok (hI : InstOk E m nB nk θ bl) (hr : RulesOk rs E.ι) (hp : ∀ b ∈ pc, b.den E.ι = true) {u v : AObj} {ob : Obj} (h : sameObj rs pc θ m nB nk bl u v = true) (hv : ORel E v ob) :
    ORel (E.inst m nB nk θ bl) u ob ∧ (u = .free ∨ (v ≠ .free ∧ u.cls? = v.cls? ∧ u.only = v.only)) := by
  have hnv : (E.ι.inst m θ).nv = m + θ.length := inst_nv hI.hm
  unfold sameObj at h
  split at h
  · exact ⟨trivial, Or.inl rfl⟩
  · rename_i c t mo k c' t' mo' k'
    simp only [Bool.and_eq_true, decide_eq_true_eq] at h
    obtain ⟨⟨⟨⟨rfl, rfl⟩, hmo⟩, rfl⟩, hc⟩ := h
    obtain ⟨hl, hcc⟩ := sameCells_ok hc
    obtain ⟨a, fz, e, hf, hln, hcs, hm2⟩ := hv
    refine ⟨⟨a, fz, e, hf, by omega, fun i q hq => ?_, ?_⟩, Or.inr ⟨(by intro h; cases h), rfl, rfl⟩⟩
    · obtain ⟨u', v', h1, h2, h3⟩ := hcc i q hq
      obtain ⟨x, hx, hax⟩ := hcs i v' h2
      exact ⟨x, slot_ok hI hr hp h1 h3 hx, hax⟩
    · cases mo with
      | none => simpa [hl] using hm2
      | some p =>
        obtain ⟨j, z, lo, hi⟩ := p
        obtain ⟨n, hn, hs⟩ := hm2
        refine ⟨n, ?_, hs⟩
        simp only [Env.inst]
        rw [List.getElem?_take, if_pos (blt_iff.1 hmo)]
        exact hn
  · rename_i r t ks n c r' t' ks' n' c'
    split at h
    · rename_i r2 n2 c2 hr2 hn2 hc2
      simp only [Bool.and_eq_true, decide_eq_true_eq] at h
      obtain ⟨⟨⟨⟨h1, rfl⟩, rfl⟩, h4⟩, h5⟩ := h
      subst h1
      obtain ⟨q1, q2, q3⟩ := RX.sub_ok hI.hm hI.hθ hr2
      obtain ⟨n1, n2', n3⟩ := IE.sub_ok hI.hm hI.hθ hn2
      obtain ⟨c1, c2', c3⟩ := IE.sub_ok hI.hm hI.hθ hc2
      have e4 := sameI_ok hr hp h4
      have e5 := sameI_ok hr hp h5
      obtain ⟨a, fz, tail, e, hf, hc, _, h7, h8, h9⟩ := hv
      have hιe : (E.inst m nB nk θ bl).ι = E.ι.inst m θ := rfl
      refine ⟨⟨a, fz, tail, e, hf, by rw [hιe, ← q1]; exact hc, ⟨by rw [hιe, hnv]; exact q3, by rw [hιe, hnv]; exact n3, by rw [hιe, hnv]; exact c3⟩, ?_, ?_, ?_⟩, Or.inr ⟨(by intro h; cases h), rfl, rfl⟩⟩
      · rw [hιe, ← q1, ← n1, e4]; exact h7
      · rw [hιe, ← c1, e5]; exact h8
      · rw [hιe, ← q1]; exact h9
    · cases h
  · rename_i r t ks n i q r' t' ks' n' i' q'
    simp only [Bool.and_eq_true, decide_eq_true_eq] at h
    obtain ⟨⟨⟨⟨⟨⟨⟨⟨h1, h2⟩, h2q⟩, rfl⟩, h3⟩, rfl⟩, rfl⟩, rfl⟩, rfl⟩ := h
    have h3 := Nat.eq_of_beq_eq_true h3
    subst h3
    have h1 := blt_iff.1 h1
    obtain ⟨e0, te, a, fz, pre, tail, e, hc, ⟨h5, h6, h6q⟩, h7, h9⟩ := hv
    have hιe : (E.inst m nB nk θ bl).ι = E.ι.inst m θ := rfl
    obtain ⟨ι0, z1, z2, z3⟩ := low_le (θ := θ) hI.hm
    have er : (E.ι.inst m θ).fr r = E.ι.fr r := by rw [z3.fr (by omega), z2.fr (by omega)]
    have en : n.den (E.ι.inst m θ) = n.den E.ι := by rw [IE.den_le z3 (by rw [z1]; exact h2), IE.den_le z2 (by rw [z1]; exact h2)]
    have eq : q.den (E.ι.inst m θ) = q.den E.ι := by rw [IE.den_le z3 (by rw [z1]; exact h2q), IE.den_le z2 (by rw [z1]; exact h2q)]
    refine ⟨⟨e0, te, a, fz, pre, tail, e, by rw [hιe, er, eq]; exact hc, ⟨by rw [hιe, hnv]; omega, by rw [hιe, hnv]; exact IE.below_le (by omega) h2, by rw [hιe, hnv]; exact IE.below_le (by omega) h2q⟩, ?_, ?_⟩, Or.inr ⟨(by intro h; cases h), rfl, rfl⟩⟩
    · rw [hιe, er, en]; exact h7
    · rw [hιe, er]; exact h9
  · rename_i cs i cs' i'
    simp only [Bool.and_eq_true, decide_eq_true_eq] at h
    obtain ⟨⟨⟨h1, _⟩, rfl⟩, h4⟩ := h
    have h1 := AV.beqL_eq _ _ h1
    subst h1
    split at h4
    · rename_i l hl
      have h4 := AV.beqL_eq _ _ h4
      subst h4
      obtain ⟨e0, c', t, fz, e2, hcs⟩ := hv
      refine ⟨⟨e0, c', t, fz, e2, fun j q hq => ?_⟩, Or.inr ⟨(by intro h; cases h), rfl, rfl⟩⟩
      obtain ⟨x, hx, hcx⟩ := hcs j q hq
      obtain ⟨q', hq', hs⟩ := subL_get hl j q hq
      rw [hq] at hq'
      injection hq' with hq'
      subst hq'
      exact ⟨x, AV.sub_ok hI hs hx, hcx⟩
    · cases h4
  · rename_i s p s' p'
    simp only [Bool.and_eq_true, decide_eq_true_eq] at h
    obtain ⟨rfl, rfl⟩ := h
    exact ⟨hv, Or.inr ⟨(by intro h; cases h), rfl, rfl⟩⟩
  · rename_i b b'
    simp only [decide_eq_true_eq] at h
    subst h
    exact ⟨hv, Or.inr ⟨(by intro h; cases h), rfl, rfl⟩⟩
  · cases h

theorem sameBlks_ok {hb vb : Bl} : ∀ {n : Nat}, sameBlks rs pc θ m nB nk bl hb vb n = true → ∀ i, i < n → ∃ u v b', hb[i]? = some u ∧ blkOf nB bl i = some b' ∧ vb[b']? = some v ∧ sameObj rs pc θ m nB nk bl u v = true
  | 0, _, i, hi => by omega
  | n + 1, h, i, hi => by
    simp only [sameBlks, Bool.and_eq_true] at h
    by_cases he : i = n
    · subst he
      have h1 := h.1
      split at h1
      · rename_i u v hu hv
        obtain ⟨b', hb', hv'⟩ := Option.bind_eq_some_iff.1 hv
        exact ⟨u, v, b', hu, hb', hv', h1⟩
      · cases h1
    · exact sameBlks_ok h.2 i (by omega)

theorem apartL_ok : ∀ {l : List Nat}, apartL l = true → ∀ (i j x : Nat), l[i]? = some x → l[j]? = some x → i = j
  | [], _, i, j, x, hi, _ => by simp at hi
  | y :: l, h, i, j, x, hi, hj => by
    simp only [apartL, Bool.and_eq_true, Bool.not_eq_true', List.contains_eq_mem, decide_eq_false_iff_not] at h
    cases i with
    | zero =>
      cases j with
      | zero => rfl
      | succ j =>
        simp at hi hj
        subst hi
        exact absurd (List.mem_of_getElem? hj) h.1
    | succ i =>
      cases j with
      | zero =>
        simp at hi hj
        subst hj
        exact absurd (List.mem_of_getElem? hi) h.1
      | succ j => rw [apartL_ok h.2 i j x (by simpa using hi) (by simpa using hj)]

/-! ### A head's state -/

theorem replB_ok : ∀ {l : List (Nat × AObj)} {b b' : Bl}, replB l b = some b' → b'.length = b.length ∧ (∀ k, b'.members k = b.members k) ∧
    ∀ (i : Nat) (o : AObj) (k : Nat), b'[i]? = some o → o.cls? = some k → ∃ o0, b[i]? = some o0 ∧ o0.cls? = some k
  | [], b, b', h => by
    simp only [replB, Option.some.injEq] at h
    subst h
    exact ⟨rfl, fun _ => rfl, fun i o k ho hk => ⟨o, ho, hk⟩⟩
  | (j, q) :: l, b, b', h => by
    simp only [replB] at h
    split at h
    · rename_i o' ho'
      split at h
      · rename_i hc
        obtain ⟨h1, h2, h3⟩ := replB_ok h
        refine ⟨by rw [h1, Bl.length_set], fun k => by rw [h2, Bl.members_set], fun i o k ho hk => ?_⟩
        obtain ⟨o0, h4, h5⟩ := h3 i o k ho hk
        rw [Bl.getElem?_set] at h4
        split at h4
        · rename_i he
          subst he
          rw [if_pos (Bl.lt_of_get ho')] at h4
          injection h4 with h4
          subst h4
          refine ⟨o', ho', ?_⟩
          simp only [Bool.or_eq_true, Option.isNone_iff_eq_none, beq_iff_eq] at hc
          rcases hc with hc | hc
          · rw [hc] at h5; cases h5
          · rw [← hc]; exact h5
        · exact ⟨o0, h4, h5⟩
      · cases h
    · cases h

theorem pushB_ok : ∀ {l : List AObj} {b b' : Bl}, pushB l b = some b' → b.length ≤ b'.length ∧ (∀ k, b'.members k = b.members k) ∧
    ∀ (i : Nat) (o : AObj) (k : Nat), b'[i]? = some o → o.cls? = some k → b[i]? = some o
  | [], b, b', h => by
    simp only [pushB, Option.some.injEq] at h
    subst h
    exact ⟨Nat.le_refl _, fun _ => rfl, fun i o k ho hk => ho⟩
  | q :: l, b, b', h => by
    simp only [pushB] at h
    split at h
    · rename_i hc
      obtain ⟨h1, h2, h3⟩ := pushB_ok h
      rw [Bl.length_append] at h1
      refine ⟨by omega, fun k => by rw [h2, Bl.members_append], fun i o k ho hk => ?_⟩
      have h4 := h3 i o k ho hk
      rw [Bl.getElem?_append] at h4
      split at h4
      · injection h4 with h4
        subst h4
        rw [Option.isNone_iff_eq_none.1 hc] at hk
        cases hk
      · exact h4
    · cases h

/-- What a head's state is, of a state ahead of the loop. -/
structure HeadOk (E0 : Env) (σ0 : St) (hd : Head) (τ : St) : Prop where
  nv : τ.h.giv.nv = E0.ι.nv + hd.nf
  l : τ.h.giv.l = σ0.h.giv.l
  cfg : τ.h.giv.cfg = σ0.h.giv.cfg
  nk : τ.h.nk = σ0.h.nk
  marks : τ.marks = []
  pan : τ.pan = none
  pc : ∀ b ∈ τ.pc, b ∈ hd.inv E0.ι.nv σ0.h.bs.length ∨ b ∈ σ0.pc
  cls : ∀ (b : Nat) (o : AObj) (k : Nat), τ.h.bs[b]? = some o → o.cls? = some k → b = k ∨ b ∈ τ.h.bs.members k
  ms : (hd.ms E0.ι.nv σ0.h.bs.length).upto (E0.ι.nv + hd.nf) = true

theorem headSt_ok {E0 : Env} {σ0 : St} {w0 : World} (hw : WR E0 B σ0.h w0) {hd : Head} {τ : St} (h : headSt σ0 hd = some τ) : HeadOk E0 σ0 hd τ := by
  have hnv := hw.giv.nv
  unfold headSt at h
  simp only [Option.bind_eq_bind, Option.bind_eq_some_iff] at h
  obtain ⟨b1, hb1, b2, hb2, h⟩ := h
  split at h
  · rename_i hc
    simp only [Bool.and_eq_true] at hc
    injection h with h
    subst h
    obtain ⟨r1, r2, r3⟩ := replB_ok hb1
    obtain ⟨p1, p2, p3⟩ := pushB_ok hb2
    refine ⟨by simp only [hnv], rfl, rfl, rfl, rfl, rfl, fun b hb => ?_, fun b o k ho hk => ?_, by rw [hnv]; exact hc.2⟩
    · rw [hnv]
      refine (List.mem_append.1 hb).imp id fun hb => ?_
      split at hb
      · exact hb
      · exact (List.mem_filter.1 hb).1
    have h1 := p3 b o k ho hk
    obtain ⟨o0, h2, h3⟩ := r3 b o k h1 hk
    simp only [p2, r2]
    exact hw.cls b o0 k h2 h3
  · cases h

end
end Go.Sx
