/-
  A WALKER THAT COMPUTES: what is known of truths.
-/
import Derived.Test.YtoipaoaoiabfcaaDoorSzG
namespace Go.Sx

theorem other_spec {pc : List BE} {i : Nat} {s : List UInt8} (h : other pc i s = true) : ∃ (_ : Nat) (t : List UInt8), BE.seqs i t ∈ pc ∧ t ≠ s := by
  unfold other at h
  obtain ⟨b, hb, hx⟩ := List.any_eq_true.1 h
  split at hx
  · rename_i j t
    simp only [Bool.and_eq_true, beq_iff_eq, bne_iff_ne] at hx
    obtain ⟨rfl, hne⟩ := hx
    exact ⟨0, t, hb, hne⟩
  · cases hx

theorem truth_sound {pc : List BE} {b : BE} {t : Bool} {ι : Unk} (hp : ∀ b ∈ pc, b.den ι = true) (h : truth pc b = some t) : b.den ι = t := by
  unfold truth at h
  split at h
  · injection h with h
  · split at h
    · rename_i hc
      injection h with h
      subst h
      exact hp _ (by simpa using hc)
    · split at h
      · rename_i hc
        injection h with h
        subst h
        have := hp _ (by simpa using hc : b.mkNot ∈ pc)
        rw [BE.mkNot_den] at this
        simpa using this
      · split at h
        · have := decideB_ok (bnd_ok hp _) h
          simpa [BE.den, IE.den] using this
        · simp only [Option.map_eq_some_iff] at h
          obtain ⟨u, hu, rfl⟩ := h
          have := decideB_ok (bnd_ok hp _) hu
          simp only [BE.den, IE.den]
          rw [this]
        · -- an unknown text that is another one
          split at h
          · rename_i ho
            injection h with h
            subst h
            obtain ⟨j, s', hm, hne⟩ := other_spec ho
            have := hp _ hm
            simp only [BE.den, decide_eq_true_eq] at this
            simp only [BE.den, decide_eq_false_iff_not]
            rw [this]
            exact hne
          · cases h
        · split at h
          · rename_i ho
            injection h with h
            subst h
            obtain ⟨j, s', hm, hne⟩ := other_spec ho
            have := hp _ hm
            simp only [BE.den, decide_eq_true_eq] at this
            simp only [BE.den, Bool.not_eq_true', decide_eq_false_iff_not]
            rw [this]
            exact hne
          · cases h
        · cases h

theorem holds_den {pc : List BE} {ι : Unk} (hp : ∀ b ∈ pc, b.holds ι) : ∀ b ∈ pc, b.den ι = true := fun b hb => (hp b hb).2

theorem byRule_sound {pc : List BE} {b : BE} {t : Bool} {ι : Unk} (hp : ∀ b ∈ pc, b.den ι = true) : ∀ {rs : List Rule}, RulesOk rs ι → byRule pc b rs = some t → b.den ι = t
  | [], _, h => by cases h
  | r :: rs, hr, h => by
    have hcon : (r.pre.all fun p => truth pc p == some true) = true → r.con.den ι = true := fun ha => by
      refine hr ι rfl rfl rfl rfl r List.mem_cons_self fun p hpm => ?_
      have := List.all_eq_true.1 ha p hpm
      exact truth_sound hp (by simpa using this)
    unfold byRule at h
    split at h
    · rename_i hc
      simp only [Bool.and_eq_true, decide_eq_true_eq] at hc
      injection h with h
      subst h
      rw [← hc.1]
      exact hcon hc.2
    · split at h
      · rename_i hc
        simp only [Bool.and_eq_true, decide_eq_true_eq] at hc
        injection h with h
        subst h
        have := hcon hc.2
        rw [hc.1, BE.mkNot_den] at this
        simpa using this
      · exact byRule_sound hp (fun ι' h1 h2 h3 h4 r' hr' => hr ι' h1 h2 h3 h4 r' (List.mem_cons_of_mem _ hr')) h

theorem truthR_sound {rs : List Rule} {pc : List BE} {b : BE} {t : Bool} {ι : Unk} (hr : RulesOk rs ι) (hp : ∀ b ∈ pc, b.den ι = true) (h : truthR rs pc b = some t) : b.den ι = t := by
  unfold truthR at h
  split at h
  · rename_i u hu
    injection h with h
    subst h
    exact truth_sound hp hu
  · exact byRule_sound hp hr h

theorem dead_sound {rs : List Rule} {pc : List BE} {ι : Unk} (hr : RulesOk rs ι) (hp : ∀ b ∈ pc, b.den ι = true) (h : dead rs pc = true) : False := by
  unfold dead at h
  have := byRule_sound hp hr (by simpa using h : byRule pc (.lit false) rs = some true)
  simp [BE.den] at this


variable {rs : List Rule} {pc : List BE} {ι : Unk}

theorem leB_sound {a b : IE} (hr : RulesOk rs ι) (hp : ∀ b ∈ pc, b.den ι = true) (h : leB rs pc a b = true) : a.den ι ≤ b.den ι := by
  unfold leB at h
  split at h
  · rename_i c hc
    have h1 := BE.mkCmp_den (ι := ι) hc
    have h2 := truthR_sound hr hp (by simpa using h : truthR rs pc c = some true)
    rw [h2] at h1
    simpa [intCmp] using h1
  · cases h
theorem ltB_sound {a b : IE} (hr : RulesOk rs ι) (hp : ∀ b ∈ pc, b.den ι = true) (h : ltB rs pc a b = true) : a.den ι < b.den ι := by
  unfold ltB at h
  split at h
  · rename_i c hc
    have h1 := BE.mkCmp_den (ι := ι) hc
    have h2 := truthR_sound hr hp (by simpa using h : truthR rs pc c = some true)
    rw [h2] at h1
    simpa [intCmp] using h1
  · cases h

theorem mkOff_den {a b : IE} : (IE.mkOff a b).den ι = a.den ι + b.den ι := by
  unfold IE.mkOff
  split
  · rfl
  · split
    · rename_i h; subst h; simp [IE.den]
    · split
      · rename_i h; subst h; simp [IE.den]
      · rfl
theorem mkOff_below {n : Nat} {a b : IE} (ha : a.upto n = true) (hb : b.upto n = true) : (IE.mkOff a b).upto n = true := by
  unfold IE.mkOff
  split
  · rfl
  · split
    · exact hb
    · split
      · exact ha
      · simp [IE.upto, ha, hb]
theorem mkDif_den {a b : IE} : (IE.mkDif a b).den ι = a.den ι - b.den ι := by
  unfold IE.mkDif
  split
  · rfl
  · split
    · rename_i h; subst h; simp [IE.den]
    · split
      · rename_i h; subst h; simp [IE.den]
      · rfl
theorem mkDif_below {n : Nat} {a b : IE} (ha : a.upto n = true) (hb : b.upto n = true) : (IE.mkDif a b).upto n = true := by
  unfold IE.mkDif
  split
  · rfl
  · split
    · exact ha
    · split
      · rfl
      · simp [IE.upto, ha, hb]
theorem mkLin_den {a : IE} {z o : Nat} : (IE.mkLin a z o).den ι = a.den ι * z + o := by
  unfold IE.mkLin
  split
  · rfl
  · split
    · rename_i h
      simp only [Bool.and_eq_true, decide_eq_true_eq] at h
      obtain ⟨rfl, rfl⟩ := h
      simp
    · rfl
theorem mkLin_below {n : Nat} {a : IE} {z o : Nat} (ha : a.upto n = true) : (IE.mkLin a z o).upto n = true := by
  unfold IE.mkLin
  split
  · rfl
  · split
    · exact ha
    · simpa [IE.upto] using ha

end Go.Sx
