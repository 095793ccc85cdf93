/-
  A WALKER THAT COMPUTES, ITS ELEVENTH PART: append as the walker has it.
-/
import Derived.Test.YtbgjceknbcpgjaaSzJ
namespace Go.Sx
section
variable {P : Program} {E : Env} {B : Bd} {h : Hp} {w : World}

/-- A row whose capacity is open, in a new block. -/
theorem newRow_sound (hw : WR E B h w) {c : List AV} {l r : List Value} (hl : AV.denL E c = some l) (e : TypeId) (z len cap : Nat) (hn : (l ++ r).length = cap * z) (hle : len ≤ cap) :
    Ext E B w ⟨E.ρ ++ [w.heap.size], E.κ ++ [cap], E.ι⟩ (h.newRow e c z h.bs.length len).2 (w.alloc (.cells (l ++ r).toArray e)) ∧
    (h.newRow e c z h.bs.length len).1.den ⟨E.ρ ++ [w.heap.size], E.κ ++ [cap], E.ι⟩ = some (.slice (some ⟨w.heap.size, 0, none⟩) len cap) := by
  have hn' := new_sound hw (.cells (c.map some) e (some (h.nk, z, len, 0)) h.bs.length) (.cells (l ++ r).toArray e) [cap] (fun k hk => by simpa [AObj.cls?] using hk.symm)
    (rel_more (AV.denL_mono (le_new E w.heap.size [cap]) c l hl) e h.bs.length h.nk z cap len (0, 0) (by simp) (kappa_at hw _ cap) hn hle)
  refine ⟨hn', ?_⟩
  have h1 := rho_at hw w.heap.size [cap]
  have h2 := kappa_at hw w.heap.size cap
  have h3 : (Cap.var h.nk 0).den ⟨E.ρ ++ [w.heap.size], E.κ ++ [cap], E.ι⟩ = some cap := Cap.den_var.2 ⟨cap, h2, Nat.zero_le _, rfl⟩
  simp only [Hp.newRow, AV.den, h1, h3]
  rw [if_pos hle]

theorem newRowIn_get (h : Hp) (e : TypeId) (c : List AV) (z k len j : Nat) : (h.newRowIn e c z k len).2.bs[j]? = if j = h.bs.length then some (.cells (c.map some) e (some (h.nk, z, len, 0)) k) else h.bs[j]? := by
  simp only [Hp.newRowIn, Hp.newRow, Hp.new, Bl.getElem?_join, Bl.getElem?_append]

theorem newRowIn_len (h : Hp) (e : TypeId) (c : List AV) (z k len : Nat) : (h.newRowIn e c z k len).2.bs.length = h.bs.length + 1 := by
  simp only [Hp.newRowIn, Hp.newRow, Hp.new, Bl.length_join, Bl.length_append]

theorem newRowIn_mem (h : Hp) (e : TypeId) (c : List AV) (z k len j : Nat) (hk : k < h.bs.length) : (h.newRowIn e c z k len).2.bs.members j = if j = k then h.bs.length :: h.bs.members k else h.bs.members j := by
  simp only [Hp.newRowIn, Hp.newRow, Hp.new]
  rw [Bl.members_join (by rw [Bl.length_append]; omega)]
  simp only [Bl.members_append]

/-- The same, in a class. -/
theorem newRowIn_sound (hw : WR E B h w) {c : List AV} {l r : List Value} (hl : AV.denL E c = some l) (e : TypeId) (z cls len cap : Nat) (hn : (l ++ r).length = cap * z) (hle : len ≤ cap) (hcls : cls < h.bs.length) :
    Ext E B w ⟨E.ρ ++ [w.heap.size], E.κ ++ [cap], E.ι⟩ (h.newRowIn e c z cls len).2 (w.alloc (.cells (l ++ r).toArray e)) ∧
    (h.newRowIn e c z cls len).1.den ⟨E.ρ ++ [w.heap.size], E.κ ++ [cap], E.ι⟩ = some (.slice (some ⟨w.heap.size, 0, none⟩) len cap) := by
  have hn' := new_sound_in hw (.cells (c.map some) e (some (h.nk, z, len, 0)) cls) (.cells (l ++ r).toArray e) [cap] (h.newRowIn e c z cls len).2.bs (newRowIn_len ..)
    (fun j => by rw [newRowIn_get, Bl.getElem?_append]) (fun j x hx => by
      rw [newRowIn_mem _ _ _ _ _ _ _ hcls]
      split
      · rename_i hj; subst hj; exact List.mem_cons_of_mem _ hx
      · exact hx)
    (fun k hk => by
      simp only [AObj.cls?, Option.some.injEq] at hk
      subst hk
      rw [newRowIn_mem _ _ _ _ _ _ _ hcls, if_pos rfl]
      exact Or.inr List.mem_cons_self)
    (rel_more (AV.denL_mono (le_new E w.heap.size [cap]) c l hl) e cls h.nk z cap len (0, 0) (by simp) (kappa_at hw _ cap) hn hle)
  refine ⟨hn', ?_⟩
  have h1 := rho_at hw w.heap.size [cap]
  have h2 := kappa_at hw w.heap.size cap
  have h3 : (Cap.var h.nk 0).den ⟨E.ρ ++ [w.heap.size], E.κ ++ [cap], E.ι⟩ = some cap := Cap.den_var.2 ⟨cap, h2, Nat.zero_le _, rfl⟩
  simp only [Hp.newRowIn, Hp.newRow, AV.den, h1, h3]
  rw [if_pos hle]

/-- What is unknown may be forgotten. -/
theorem dirt_wr (hw : WR E B h w) (k lo hi : Nat) : WR E B (h.dirty k lo hi) w := by
  refine ⟨by rw [dirty_len, hw.lenρ], hw.lenκ, ?_, hw.base, ?_, hw.bsize, ?_, hw.giv⟩
  · intro b c o hb ho
    simp only [dirty_get hw, Option.map_eq_some_iff] at ho
    obtain ⟨o0, h0, rfl⟩ := ho
    obtain ⟨ob, hob, hr⟩ := hw.obj b c o0 hb h0
    exact ⟨ob, hob, dirt_rel k lo hi hr⟩
  · intro b b' c o o' hne hb hb' ho ho' hf1 hf2
    simp only [dirty_get hw, Option.map_eq_some_iff] at ho ho'
    obtain ⟨p, hp, rfl⟩ := ho
    obtain ⟨q, hq, rfl⟩ := ho'
    rw [dirt1_cls, dirt1_cls, dirt1_only, dirt1_only]
    exact hw.inj b b' c p q hne hb hb' hp hq (fun h => hf1 (by rw [h]; rfl)) (fun h => hf2 (by rw [h]; rfl))
  · intro b o k' ho hk
    simp only [dirty_get hw, Option.map_eq_some_iff] at ho
    obtain ⟨p, hp, rfl⟩ := ho
    rw [dirt1_cls] at hk
    rw [dirty_mem]
    exact hw.cls b p k' hp hk

theorem cls_lt (hw : WR E B h w) {b k : Nat} {o : AObj} (hb : h.bs[b]? = some o) (hk : o.cls? = some k) : k < h.bs.length := by
  rcases hw.cls b o k hb hk with rfl | hm
  · exact Bl.lt_of_get hb
  · exact Bl.members_lt hm

/-- A row whose capacity is open is appended to where it stands. -/
theorem inPlace_sound (hw : WR E B h w) {b c i z k len : Nat} {cs : List (Option AV)} {e : TypeId} {cap : Nat} {old new : List AV} {ol nl : List Value} (hb : E.ρ[b]? = some c)
    {lo hi : Nat} (hbs : h.bs[b]? = some (.cells cs e (some (i, z, lo, hi)) k)) (hi : E.κ[i]? = some cap) (hold : loadFrom h b 0 (len * z) = some old) (hol : AV.denL E old = some ol) (hoc : ∀ (j : Nat) (x : Value), ol[j]? = some x → w.cell? ⟨c, 0 + j, none⟩ = some x)
    (hnl : AV.denL E new = some nl) (n : Nat) (hn : new.length = n * z) (hfit : len + n ≤ cap) (hone : new.all AV.one = true) :
    ∃ w', (storeCells ⟨c, len * z, none⟩ nl).run P w = .ok () w' ∧
      Ext E B w ⟨E.ρ ++ [c], E.κ ++ [cap], E.ι⟩ ((h.dirty k (len * z) (len * z + new.length)).newRowIn e (old ++ new) z k (len + n)).2 w' ∧
      ((h.dirty k (len * z) (len * z + new.length)).newRowIn e (old ++ new) z k (len + n)).1.den ⟨E.ρ ++ [c], E.κ ++ [cap], E.ι⟩ =
        some (.slice (some ⟨c, 0, none⟩) (len + n) cap) := by
  obtain ⟨ob, hob, c', fz, rfl, hf, hl, hcs, hm⟩ := hw.obj b c _ hb hbs
  obtain ⟨cap', hcap', hsz, hlo, hhi⟩ := hm
  rw [hi] at hcap'
  injection hcap' with hcap'
  subst hcap'
  have hnlen : nl.length = n * z := by rw [denL_length hnl, hn]
  have hroom : len * z + 0 + nl.length ≤ c'.size := by
    rw [hsz, hnlen, Nat.add_zero, ← Nat.add_mul]
    exact Nat.mul_le_mul_right z hfit
  have hones : ∀ v ∈ nl, v.oneCell' = true := by
    intro v hv
    obtain ⟨j, hj⟩ := List.getElem?_of_mem hv
    have hjl : j < new.length := by
      have := (List.getElem?_eq_some_iff.1 hj).1
      rw [denL_length hnl] at this
      exact this
    obtain ⟨x, hx, hjx⟩ := denL_get hnl j new[j] (List.getElem?_eq_getElem hjl)
    rw [hj] at hjx
    injection hjx with hjx
    subst hjx
    exact one_oneCell (List.all_eq_true.1 hone _ (List.getElem_mem hjl)) hx
  obtain ⟨w', hr, hc', hk, hs', e1, e2, e3⟩ := storeCells_row (P := P) c e fz nl (len * z) 0 c' w hob (fun j hj hx => by have := hf j hj; omega) hroom hones
  simp only [Nat.add_zero] at hc'
  have hlenold : ol.length = len * z := by
    have : ∀ (n o : Nat) (vs : List AV), loadFrom h b o n = some vs → vs.length = n := by
      intro n
      induction n with
      | zero => intro o vs hv; simp [loadFrom] at hv; subst hv; rfl
      | succ n ih =>
        intro o vs hv
        simp only [loadFrom, Option.bind_eq_bind, Option.bind_eq_some_iff, Option.pure_def] at hv
        obtain ⟨v, _, r, hr, hv⟩ := hv
        injection hv with hv
        subst hv
        simp [ih _ _ hr]
    rw [denL_length hol, this _ _ _ hold]
  have hle := le_new E c [cap]
  have hget : ∀ (b2 c2 : Nat), (E.ρ ++ [c])[b2]? = some c2 → (b2 = h.bs.length ∧ c2 = c) ∨ (b2 < h.bs.length ∧ E.ρ[b2]? = some c2) := fun b2 c2 h2 => by
    rw [ext_get] at h2
    split at h2
    · rename_i e
      injection h2 with h2
      exact Or.inl ⟨by rw [e, hw.lenρ], h2.symm⟩
    · exact Or.inr ⟨by rw [← hw.lenρ]; exact (List.getElem?_eq_some_iff.1 h2).1, h2⟩
  have hlt := hw.lt hb
  refine ⟨w', hr, ⟨hle, ⟨by rw [newRowIn_len, dirty_len]; simp [hw.lenρ], by simp [Hp.newRowIn, Hp.newRow, Hp.new, Hp.dirty, hw.lenκ], ?_, ?_, ?_, by rw [hs']; exact hw.bsize, ?_, hw.giv.ext hle.ρ rfl⟩, ⟨e1, e2, e3, by omega, ?_, ?_⟩⟩, ?_⟩
  · intro b2 c2 o2 hb2 ho2
    rw [newRowIn_get, dirty_len] at ho2
    rcases hget b2 c2 hb2 with ⟨rfl, rfl⟩ | ⟨hlt2, hb2'⟩
    · -- the row as it is now
      rw [if_pos rfl] at ho2
      injection ho2 with ho2
      subst ho2
      refine ⟨_, hc', _, fz, rfl, fun j hj => hf j (by simpa [setL_length] using hj), ?_, ?_, cap, kappa_at hw c2 cap, by simpa [setL_length] using hsz, hfit, Or.inl rfl⟩
      · simp only [List.length_map, List.length_append, hn, List.size_toArray, setL_length, Array.length_toList, hsz]
        have : old.length = len * z := by rw [← denL_length hol, hlenold]
        rw [this, ← Nat.add_mul]
        exact Nat.mul_le_mul_right z hfit
      · intro j v hj
        try simp only [List.map_append] at hj
        have holdl : old.length = len * z := by rw [← denL_length hol, hlenold]
        simp only [List.getElem?_toArray]
        rw [setL_get []]
        by_cases hjo : j < len * z
        · rw [List.getElem?_append_left (by simp [holdl]; exact hjo)] at hj
          rw [List.getElem?_map] at hj
          simp only [Option.map_eq_some_iff, Option.some.injEq] at hj
          obtain ⟨v', hv', rfl⟩ := hj
          obtain ⟨x, hx, hjx⟩ := denL_get hol j _ hv'
          refine ⟨x, AV.den_mono hle _ _ hx, ?_⟩
          rw [if_neg (by omega)]
          have := hoc j x hjx
          rw [Nat.zero_add, cell_of_row w c2 j c' e fz hob] at this
          simpa using this
        · rw [List.getElem?_append_right (by simp [holdl]; omega)] at hj
          simp only [List.length_map, holdl] at hj
          rw [List.getElem?_map] at hj
          simp only [Option.map_eq_some_iff, Option.some.injEq] at hj
          obtain ⟨v', hv', rfl⟩ := hj
          obtain ⟨x, hx, hjx⟩ := denL_get hnl _ _ hv'
          refine ⟨x, AV.den_mono hle _ _ hx, ?_⟩
          have hjn := (List.getElem?_eq_some_iff.1 hjx).1
          rw [if_pos ⟨by omega, by omega, by simp only [Array.length_toList]; omega⟩]
          exact hjx
    · rw [if_neg (Nat.ne_of_lt hlt2)] at ho2
      simp only [dirty_get hw, Option.map_eq_some_iff] at ho2
      obtain ⟨o0, h0, rfl⟩ := ho2
      obtain ⟨ob0, hob0, hrel0⟩ := hw.obj b2 c2 o0 hb2' h0
      by_cases hcc : c2 = c
      · subst hcc
        rw [hob] at hob0
        injection hob0 with hob0
        subst hob0
        have hk0 : o0 = .free ∨ o0 = .gone k ∨ ∃ c0 t0 m0, o0 = .cells c0 t0 m0 k := by
          by_cases hfree : o0 = .free
          · exact Or.inl hfree
          refine Or.inr ?_
          by_cases hbb : b2 = b
          · subst hbb
            rw [hbs] at h0
            injection h0 with h0
            exact Or.inr ⟨_, _, _, h0.symm⟩
          · rcases hw.inj b2 b c2 o0 _ hbb hb2' hb h0 hbs hfree (by intro h; cases h) with ⟨_, hon⟩ | this
            · cases hon
            cases o0 with
            | cells c0 t0 m0 k0 =>
              simp only [AObj.cls?, Option.some.injEq] at this
              obtain ⟨rfl, _⟩ := this
              exact Or.inr ⟨_, _, _, rfl⟩
            | gone k0 =>
              simp only [AObj.cls?, Option.some.injEq] at this
              obtain ⟨rfl, _⟩ := this
              exact Or.inl rfl
            | strIter s p => simp [AObj.cls?] at this
            | txtIter s p => simp [AObj.cls?] at this
            | map es n => simp [AObj.cls?] at this
            | mapIter m s l n => simp [AObj.cls?] at this
            | loop => simp [AObj.cls?] at this
            | deferred => simp [AObj.cls?] at this
            | given cs i => simp [AObj.cls?] at this
            | free => simp [AObj.cls?] at this
            | row => simp [AObj.cls?] at this
            | grow => simp [AObj.cls?] at this
        rcases hk0 with rfl | rfl | ⟨c0, t0, m0, rfl⟩
        · exact ⟨_, hc', trivial⟩
        · exact ⟨_, hc', trivial⟩
        refine ⟨_, hc', ?_⟩
        have := dirt_rel_set (len * z) nl hrel0
        rw [denL_length hnl] at this
        exact this.mono hle
      · exact ⟨ob0, by rw [hk c2 hcc]; exact hob0, (dirt_rel k _ _ hrel0).mono hle⟩
  · intro b2 c2 h2
    rcases hget b2 c2 h2 with ⟨rfl, rfl⟩ | ⟨_, h2'⟩
    · exact hw.base b c2 hb
    · exact hw.base b2 c2 h2'
  · intro b1 b2 c2 o1 o2 hne hb1 hb2 ho1 ho2 hf1 hf2
    rw [newRowIn_get, dirty_len] at ho1 ho2
    have key : ∀ (b3 : Nat) (o3 : AObj), E.ρ[b3]? = some c → h.bs[b3]? = some o3 → o3 ≠ .free → o3.cls? = some k := by
      intro b3 o3 h3 h4 hfr
      by_cases hbb : b3 = b
      · subst hbb
        rw [hbs] at h4
        injection h4 with h4
        subst h4
        rfl
      · rcases hw.inj b3 b c o3 _ hbb h3 hb h4 hbs hfr (by intro h; cases h) with ⟨_, hon⟩ | this
        · cases hon
        exact this.1
    rcases hget b1 c2 hb1 with ⟨rfl, rfl⟩ | ⟨hlt1, hb1'⟩
    · rcases hget b2 _ hb2 with ⟨rfl, _⟩ | ⟨hlt2, hb2'⟩
      · exact absurd rfl hne
      · rw [if_pos rfl] at ho1
        injection ho1 with ho1
        subst ho1
        rw [if_neg (Nat.ne_of_lt hlt2)] at ho2
        simp only [dirty_get hw, Option.map_eq_some_iff] at ho2
        obtain ⟨q, hq, rfl⟩ := ho2
        rw [dirt1_cls, key b2 q hb2' hq (fun h => hf2 (by rw [h]; rfl))]
        exact Or.inr ⟨rfl, rfl⟩
    · rcases hget b2 c2 hb2 with ⟨rfl, rfl⟩ | ⟨hlt2, hb2'⟩
      · rw [if_pos rfl] at ho2
        injection ho2 with ho2
        subst ho2
        rw [if_neg (Nat.ne_of_lt hlt1)] at ho1
        simp only [dirty_get hw, Option.map_eq_some_iff] at ho1
        obtain ⟨q, hq, rfl⟩ := ho1
        rw [dirt1_cls, key b1 q hb1' hq (fun h => hf1 (by rw [h]; rfl))]
        exact Or.inr ⟨rfl, rfl⟩
      · rw [if_neg (Nat.ne_of_lt hlt1)] at ho1
        rw [if_neg (Nat.ne_of_lt hlt2)] at ho2
        simp only [dirty_get hw, Option.map_eq_some_iff] at ho1 ho2
        obtain ⟨p, hp, rfl⟩ := ho1
        obtain ⟨q, hq, rfl⟩ := ho2
        rw [dirt1_cls, dirt1_cls, dirt1_only, dirt1_only]
        exact hw.inj b1 b2 c2 p q hne hb1' hb2' hp hq (fun h => hf1 (by rw [h]; rfl)) (fun h => hf2 (by rw [h]; rfl))
  · intro b2 o2 k2 ho2 hk2
    rw [newRowIn_get, dirty_len] at ho2
    rw [newRowIn_mem _ _ _ _ _ _ _ (by rw [dirty_len]; exact cls_lt hw hbs rfl)]
    simp only [dirty_len, dirty_mem]
    split at ho2
    · rename_i hbl
      injection ho2 with ho2
      subst ho2
      simp only [AObj.cls?, Option.some.injEq] at hk2
      subst hk2
      rw [if_pos rfl, hbl]
      exact Or.inr List.mem_cons_self
    · simp only [dirty_get hw, Option.map_eq_some_iff] at ho2
      obtain ⟨p, hp, rfl⟩ := ho2
      rw [dirt1_cls] at hk2
      refine (hw.cls b2 p k2 hp hk2).imp id (fun hm => ?_)
      split
      · rename_i hj; subst hj; exact List.mem_cons_of_mem _ hm
      · exact hm
  · intro c2 _ hn2
    exact hk c2 (fun e => hn2 b (by rw [hb, e]))
  · intro b2 c2 h2
    rcases hget b2 c2 h2 with ⟨rfl, rfl⟩ | ⟨_, h2'⟩
    · exact Or.inl ⟨b, hb⟩
    · exact Or.inl ⟨b2, h2'⟩
  · have h1 := rho_at hw c [cap]
    have h2 := kappa_at hw c cap
    have h3 : (Cap.var h.nk 0).den ⟨E.ρ ++ [c], E.κ ++ [cap], E.ι⟩ = some cap := Cap.den_var.2 ⟨cap, h2, Nat.zero_le _, rfl⟩
    have h4 : (h.dirty k (len * z) (len * z + new.length)).nk = h.nk := rfl
    simp only [Hp.newRowIn, Hp.newRow, AV.den, dirty_len, h4]
    rw [h1, h3]
    simp only
    rw [if_pos hfit]

end
end Go.Sx
