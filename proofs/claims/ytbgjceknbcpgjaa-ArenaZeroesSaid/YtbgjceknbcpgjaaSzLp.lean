/-
  A WALKER THAT COMPUTES: a state that is one of a head's.
-/
import Derived.Test.YtbgjceknbcpgjaaSzLo
import Derived.LoopNIn
namespace Go.Sx

/-- What there is, as a head has it. -/
def Env.inst (E : Env) (m nB nk : Nat) (θ : List Th) (bl : List Nat) : Env :=
  ⟨E.ρ.take nB ++ bl.map (fun b => E.ρ.getD b 0), E.κ.take nk, E.ι.inst m θ⟩

/-- What an instance leans on. -/
structure InstOk (E : Env) (m nB nk : Nat) (θ : List Th) (bl : List Nat) : Prop where
  hm : m ≤ E.ι.nv
  hθ : ∀ t ∈ θ, t.upto E.ι.nv = true
  hB : nB ≤ E.ρ.length
  hk : nk ≤ E.κ.length
  hbl : ∀ b ∈ bl, b < E.ρ.length

section
variable {E : Env} {m nB nk : Nat} {θ : List Th} {bl : List Nat} {rs : List Rule} {pc : List BE}

theorem blkOf_ok (hI : InstOk E m nB nk θ bl) {b b' : Nat} (h : blkOf nB bl b = some b') : (E.inst m nB nk θ bl).ρ[b]? = E.ρ[b']? ∧ b' < E.ρ.length := by
  have hB := hI.hB
  unfold blkOf at h
  simp only [Env.inst]
  split at h
  · rename_i hb
    have hb := blt_iff.1 hb
    injection h with h
    subst h
    exact ⟨by rw [List.getElem?_append_left (by simp; omega), List.getElem?_take, if_pos hb], by omega⟩
  · rename_i hb
    have hb : ¬ b < nB := fun h => hb (blt_iff.2 h)
    have hlt := hI.hbl b' (List.mem_of_getElem? h)
    refine ⟨?_, hlt⟩
    rw [List.getElem?_append_right (by simp; omega), List.getElem?_map]
    simp only [List.length_take, Nat.min_eq_left hB, h, Option.map_some, List.getD_eq_getElem?_getD, List.getElem?_eq_getElem hlt, Option.getD_some]

theorem cap_inst {c : Cap} (hc : match c with | .known _ => True | .var i _ => i < nk) {n : Nat} (h : c.den E = some n) : c.den (E.inst m nB nk θ bl) = some n := by
  cases c with
  | known k => exact h
  | var i s =>
    obtain ⟨q, h1, h2, rfl⟩ := Cap.den_var.1 h
    exact Cap.den_var.2 ⟨q, by simp only [Env.inst]; rw [List.getElem?_take, if_pos hc]; exact h1, h2, rfl⟩

mutual
theorem AV.sub_ok (hI : InstOk E m nB nk θ bl) : ∀ {v v' : AV} {x : Value}, AV.sub θ m nB nk bl v = some v' → v'.den E = some x → v.den (E.inst m nB nk θ bl) = some x
  | .bool b, v', x, h, hx => by
    simp only [AV.sub, Option.map_eq_some_iff] at h
    obtain ⟨c, hc, rfl⟩ := h
    obtain ⟨a1, a2, a3⟩ := BE.sub_ok hI.hm hI.hθ hc
    obtain rfl := denBool hx
    rw [den_bool (by simp only [Env.inst]; rw [inst_nv hI.hm]; exact a3)]
    simp only [Env.inst, a1]
  | .int k e, v', x, h, hx => by
    simp only [AV.sub, Option.map_eq_some_iff] at h
    obtain ⟨c, hc, rfl⟩ := h
    obtain ⟨a1, a2, a3⟩ := IE.sub_ok hI.hm hI.hθ hc
    obtain rfl := denInt hx
    rw [den_int (by simp only [Env.inst]; rw [inst_nv hI.hm]; exact a3)]
    simp only [Env.inst, a1]
  | .str s, v', x, h, hx => by simp only [AV.sub, Option.some.injEq] at h; subst h; simpa [AV.den] using hx
  | .nilPtr, v', x, h, hx => by simp only [AV.sub, Option.some.injEq] at h; subst h; simpa [AV.den] using hx
  | .nilSlice, v', x, h, hx => by simp only [AV.sub, Option.some.injEq] at h; subst h; simpa [AV.den] using hx
  | .nilMap, v', x, h, hx => by simp only [AV.sub, Option.some.injEq] at h; subst h; simpa [AV.den] using hx
  | .nilFunc, v', x, h, hx => by simp only [AV.sub, Option.some.injEq] at h; subst h; simpa [AV.den] using hx
  | .nilIface, v', x, h, hx => by simp only [AV.sub, Option.some.injEq] at h; subst h; simpa [AV.den] using hx
  | .strv s, v', x, h, hx => by simp only [AV.sub, Option.some.injEq] at h; subst h; simpa [AV.den, Env.inst, Unk.inst] using hx
  | .glob g o, v', x, h, hx => by simp only [AV.sub, Option.some.injEq] at h; subst h; simpa [AV.den] using hx
  | .ptr b o, v', x, h, hx => by
    simp only [AV.sub, Option.map_eq_some_iff] at h
    obtain ⟨c, hc, rfl⟩ := h
    obtain ⟨d, hd, rfl⟩ := denPtr hx
    simp only [AV.den, (blkOf_ok hI hc).1, hd, Option.map_some]
  | .map b, v', x, h, hx => by
    simp only [AV.sub, Option.map_eq_some_iff] at h
    obtain ⟨c, hc, rfl⟩ := h
    obtain ⟨d, hd, rfl⟩ := denMap hx
    simp only [AV.den, (blkOf_ok hI hc).1, hd, Option.map_some]
  | .yield b, v', x, h, hx => by
    simp only [AV.sub, Option.map_eq_some_iff] at h
    obtain ⟨c, hc, rfl⟩ := h
    obtain ⟨d, hd, rfl⟩ := denYield hx
    simp only [AV.den, (blkOf_ok hI hc).1, hd, Option.map_some]
  | .slice b o n (.known k), v', x, h, hx => by
    simp only [AV.sub, Option.map_eq_some_iff] at h
    obtain ⟨c, hc, rfl⟩ := h
    obtain ⟨d, q, hd, hq, hl, rfl⟩ := denSlice hx
    simp only [AV.den, (blkOf_ok hI hc).1, hd, cap_inst (c := .known k) trivial hq, if_pos hl]
  | .slice b o n (.var i s), v', x, h, hx => by
    simp only [AV.sub] at h
    split at h
    · rename_i hi
      simp only [Option.map_eq_some_iff] at h
      obtain ⟨c, hc, rfl⟩ := h
      obtain ⟨d, q, hd, hq, hl, rfl⟩ := denSlice hx
      simp only [AV.den, (blkOf_ok hI hc).1, hd, cap_inst (c := .var i s) (blt_iff.1 hi) hq, if_pos hl]
    · cases h
  | .capv i s, v', x, h, hx => by
    simp only [AV.sub] at h
    split at h
    · rename_i hi
      injection h with h
      subst h
      obtain ⟨q, hq, rfl⟩ := denCapv hx
      simp only [AV.den, cap_inst (c := .var i s) (blt_iff.1 hi) hq, Option.map_some]
    · cases h
  | .func f a b, v', x, h, hx => by
    simp only [AV.sub, Option.bind_eq_bind, Option.bind_eq_some_iff, Option.pure_def, Option.some.injEq] at h
    obtain ⟨a', ha, b', hb, rfl⟩ := h
    obtain ⟨y, z, hy, hz, rfl⟩ := denFunc hx
    simp only [AV.den, AV.subL_ok hI ha hy, AV.subL_ok hI hb hz]
  | .iface t u, v', x, h, hx => by
    simp only [AV.sub, Option.map_eq_some_iff] at h
    obtain ⟨c, hc, rfl⟩ := h
    obtain ⟨y, hy, rfl⟩ := denIface hx
    simp only [AV.den, AV.sub_ok hI hc hy, Option.map_some]
  | .agg cs, v', x, h, hx => by
    simp only [AV.sub, Option.map_eq_some_iff] at h
    obtain ⟨c, hc, rfl⟩ := h
    obtain ⟨y, hy, rfl⟩ := denAgg hx
    simp only [AV.den, AV.subL_ok hI hc hy, Option.map_some]
  | .tuple cs, v', x, h, hx => by
    simp only [AV.sub, Option.map_eq_some_iff] at h
    obtain ⟨c, hc, rfl⟩ := h
    obtain ⟨y, hy, rfl⟩ := denTuple hx
    simp only [AV.den, AV.subL_ok hI hc hy, Option.map_some]
  | .txt t, v', x, h, hx => by
    simp only [AV.sub, Option.map_eq_some_iff] at h
    obtain ⟨c, hc, rfl⟩ := h
    obtain ⟨a1, a2, a3⟩ := TX.sub_ok hI.hm hI.hθ hc
    obtain ⟨rfl, _⟩ := denTxt hx
    rw [den_txt (by simp only [Env.inst]; rw [inst_nv hI.hm]; exact a3)]
    simp only [Env.inst, a1]
  | .sl b z q o n c, v', x, h, hx => by
    simp only [AV.sub, Option.bind_eq_bind, Option.bind_eq_some_iff, Option.pure_def, Option.some.injEq] at h
    obtain ⟨b', hb, q', hq, o', ho, n', hn, c', hc, rfl⟩ := h
    obtain ⟨q1, q2, q3⟩ := IE.sub_ok hI.hm hI.hθ hq
    obtain ⟨o1, o2, o3⟩ := IE.sub_ok hI.hm hI.hθ ho
    obtain ⟨n1, n2, n3⟩ := IE.sub_ok hI.hm hI.hθ hn
    obtain ⟨c1, c2, c3⟩ := IE.sub_ok hI.hm hI.hθ hc
    obtain ⟨_, ⟨g1, g2, g3⟩, d, hd, rfl⟩ := denSl hx
    rw [o1] at g1
    rw [n1] at g2
    rw [n1, c1] at g3
    have hnv : (E.ι.inst m θ).nv = m + θ.length := inst_nv hI.hm
    have hιe : (E.inst m nB nk θ bl).ι = E.ι.inst m θ := rfl
    simp only [AV.den, hιe, hnv]
    rw [if_pos ⟨by simp only [q3, o3, n3, c3, Bool.and_self], g1, g2, g3⟩, (blkOf_ok hI hb).1, hd]
    simp only [Option.map_some, q1, o1, n1, c1]
  | .ptrs b z q i o, v', x, h, hx => by
    simp only [AV.sub, Option.bind_eq_bind, Option.bind_eq_some_iff, Option.pure_def, Option.some.injEq] at h
    obtain ⟨b', hb, q', hq, i', hi, rfl⟩ := h
    obtain ⟨q1, q2, q3⟩ := IE.sub_ok hI.hm hI.hθ hq
    obtain ⟨o1, o2, o3⟩ := IE.sub_ok hI.hm hI.hθ hi
    obtain ⟨_, g1, d, hd, rfl⟩ := denPtrs hx
    rw [o1] at g1
    have hnv : (E.ι.inst m θ).nv = m + θ.length := inst_nv hI.hm
    have hιe : (E.inst m nB nk θ bl).ι = E.ι.inst m θ := rfl
    simp only [AV.den, hιe, hnv]
    rw [if_pos ⟨by simp only [q3, o3, Bool.and_self], g1⟩, (blkOf_ok hI hb).1, hd]
    simp only [Option.map_some, q1, o1]
theorem AV.subL_ok (hI : InstOk E m nB nk θ bl) : ∀ {v v' : List AV} {x : List Value}, AV.subL θ m nB nk bl v = some v' → AV.denL E v' = some x → AV.denL (E.inst m nB nk θ bl) v = some x
  | [], v', x, h, hx => by simp only [AV.subL, Option.some.injEq] at h; subst h; simpa [AV.denL] using hx
  | u :: r, v', x, h, hx => by
    simp only [AV.subL, Option.bind_eq_bind, Option.bind_eq_some_iff, Option.pure_def, Option.some.injEq] at h
    obtain ⟨u', hu, l, hl, rfl⟩ := h
    obtain ⟨y, k, hy, hk, rfl⟩ := denL_cons.1 hx
    exact denL_cons.2 ⟨y, k, AV.sub_ok hI hu hy, AV.subL_ok hI hl hk, rfl⟩
end

/-- What an instance's numbers ask of. -/
def AV.told' (n : Nat) : AV → Prop
  | .int _ a => a.upto n = true
  | .bool a => a.upto n = true
  | .sl _ _ q o k c => q.upto n = true ∧ o.upto n = true ∧ k.upto n = true ∧ c.upto n = true
  | _ => True
theorem AV.sub_told (hI : InstOk E m nB nk θ bl) : ∀ {u u' : AV}, AV.sub θ m nB nk bl u = some u' → u'.told' E.ι.nv
  | .bool b, v', h => by
    simp only [AV.sub, Option.map_eq_some_iff] at h
    obtain ⟨c, hc, rfl⟩ := h
    exact (BE.sub_ok hI.hm hI.hθ hc).2.1
  | .int k e, v', h => by
    simp only [AV.sub, Option.map_eq_some_iff] at h
    obtain ⟨c, hc, rfl⟩ := h
    exact (IE.sub_ok hI.hm hI.hθ hc).2.1
  | .str s, v', h => by simp only [AV.sub, Option.some.injEq] at h; subst h; trivial
  | .nilPtr, v', h => by simp only [AV.sub, Option.some.injEq] at h; subst h; trivial
  | .nilSlice, v', h => by simp only [AV.sub, Option.some.injEq] at h; subst h; trivial
  | .nilMap, v', h => by simp only [AV.sub, Option.some.injEq] at h; subst h; trivial
  | .nilFunc, v', h => by simp only [AV.sub, Option.some.injEq] at h; subst h; trivial
  | .nilIface, v', h => by simp only [AV.sub, Option.some.injEq] at h; subst h; trivial
  | .strv s, v', h => by simp only [AV.sub, Option.some.injEq] at h; subst h; trivial
  | .glob g o, v', h => by simp only [AV.sub, Option.some.injEq] at h; subst h; trivial
  | .ptr b o, v', h => by simp only [AV.sub, Option.map_eq_some_iff] at h; obtain ⟨c, hc, rfl⟩ := h; trivial
  | .map b, v', h => by simp only [AV.sub, Option.map_eq_some_iff] at h; obtain ⟨c, hc, rfl⟩ := h; trivial
  | .yield b, v', h => by simp only [AV.sub, Option.map_eq_some_iff] at h; obtain ⟨c, hc, rfl⟩ := h; trivial
  | .slice b o n (.known k), v', h => by simp only [AV.sub, Option.map_eq_some_iff] at h; obtain ⟨c, hc, rfl⟩ := h; trivial
  | .slice b o n (.var i s), v', h => by
    simp only [AV.sub] at h
    split at h
    · simp only [Option.map_eq_some_iff] at h; obtain ⟨c, hc, rfl⟩ := h; trivial
    · cases h
  | .capv i s, v', h => by
    simp only [AV.sub] at h
    split at h
    · injection h with h; subst h; trivial
    · cases h
  | .func f a b, v', h => by
    simp only [AV.sub, Option.bind_eq_bind, Option.bind_eq_some_iff, Option.pure_def, Option.some.injEq] at h
    obtain ⟨a', ha, b', hb, rfl⟩ := h
    trivial
  | .iface t u, v', h => by simp only [AV.sub, Option.map_eq_some_iff] at h; obtain ⟨c, hc, rfl⟩ := h; trivial
  | .agg t, v', h => by simp only [AV.sub, Option.map_eq_some_iff] at h; obtain ⟨c, hc, rfl⟩ := h; trivial
  | .tuple t, v', h => by simp only [AV.sub, Option.map_eq_some_iff] at h; obtain ⟨c, hc, rfl⟩ := h; trivial
  | .txt t, v', h => by simp only [AV.sub, Option.map_eq_some_iff] at h; obtain ⟨c, hc, rfl⟩ := h; trivial
  | .sl b z q o n c, v', h => by
    simp only [AV.sub, Option.bind_eq_bind, Option.bind_eq_some_iff, Option.pure_def, Option.some.injEq] at h
    obtain ⟨b', hb, q', hq, o', ho, n', hn, c', hc, rfl⟩ := h
    exact ⟨(IE.sub_ok hI.hm hI.hθ hq).2.1, (IE.sub_ok hI.hm hI.hθ ho).2.1, (IE.sub_ok hI.hm hI.hθ hn).2.1, (IE.sub_ok hI.hm hI.hθ hc).2.1⟩
  | .ptrs b z q i o, v', h => by
    simp only [AV.sub, Option.bind_eq_bind, Option.bind_eq_some_iff, Option.pure_def, Option.some.injEq] at h
    obtain ⟨b', hb, q', hq, i', hi, rfl⟩ := h
    trivial

/-- What stands in a head's place, against what there is. -/
theorem slot_ok (hI : InstOk E m nB nk θ bl) (hr : RulesOk rs E.ι) (hp : ∀ b ∈ pc, b.den E.ι = true) {u u' v : AV} {x : Value} (hu : AV.sub θ m nB nk bl u = some u') (hs : sameAV rs pc u' v = true) (hx : v.den E = some x) :
    u.den (E.inst m nB nk θ bl) = some x := by
  refine AV.sub_ok hI hu ?_
  unfold sameAV at hs
  split at hs
  · rename_i k a k' b
    simp only [Bool.and_eq_true, decide_eq_true_eq] at hs
    obtain ⟨rfl, hs⟩ := hs
    have e := sameI_ok hr hp hs
    have ha : a.upto E.ι.nv = true := AV.sub_told hI hu
    obtain rfl := denInt hx
    rw [den_int ha, e]
  · rename_i a b
    have ha : a.upto E.ι.nv = true := AV.sub_told hI hu
    have e : a.den E.ι = b.den E.ι := by
      split at hs
      · rename_i e; rw [e]
      · have := truthR_sound hr hp (by simpa using hs : truthR rs pc (BE.mkSame a b) = some true)
        rw [BE.mkSame_den] at this
        simpa using this
    obtain rfl := denBool hx
    rw [den_bool ha, e]
  · rename_i s s'
    obtain rfl : s = s' := by simpa using hs
    obtain rfl := denStr hx
    rw [den_txt rfl]
    rfl
  · rename_i i j
    obtain rfl : i = j := by simpa using hs
    obtain rfl := denStrv hx
    rw [den_txt rfl]
    rfl
  · rename_i b z q o n c b' z' q' o' n' c'
    simp only [Bool.and_eq_true] at hs
    obtain ⟨⟨⟨⟨⟨h1, h2⟩, h6⟩, h3⟩, h4⟩, h5⟩ := hs
    have e6 := sameI_ok hr hp h6
    have h1 := Nat.eq_of_beq_eq_true h1
    have h2 := Nat.eq_of_beq_eq_true h2
    subst h1 h2
    have e3 := sameI_ok hr hp h3
    have e4 := sameI_ok hr hp h4
    have e5 := sameI_ok hr hp h5
    have ha : q.upto E.ι.nv = true ∧ o.upto E.ι.nv = true ∧ n.upto E.ι.nv = true ∧ c.upto E.ι.nv = true := AV.sub_told hI hu
    obtain ⟨_, g, d, hd, rfl⟩ := denSl hx
    simp only [AV.den]
    rw [← e3, ← e4, ← e5] at g ⊢
    rw [if_pos ⟨by simp only [ha.1, ha.2.1, ha.2.2.1, ha.2.2.2, Bool.and_self], g⟩, hd, e6]
    rfl
  · have := AV.beq_eq _ _ hs
    subst this
    exact hx

end
end Go.Sx
