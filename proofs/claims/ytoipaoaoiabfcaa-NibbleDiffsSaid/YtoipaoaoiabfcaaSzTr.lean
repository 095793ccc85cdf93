/-
  A WALKER THAT COMPUTES: what is known of truths.
-/
import Derived.Test.YtoipaoaoiabfcaaSzG
namespace Go.Sx

theorem other_spec {pc : List BE} {i : Nat} {s : List UInt8} (h : other pc i s = true) : ∃ (_ : Nat) (t : List UInt8), BE.seqs i t ∈ pc ∧ t ≠ s := by
  unfold other at h
  obtain ⟨b, hb, hx⟩ := List.any_eq_true.1 h
  split at hx
  · rename_i j t
    simp only [Bool.and_eq_true, beq_iff_eq, bne_iff_ne] at hx
    obtain ⟨rfl, hne⟩ := hx
    exact ⟨0, t, hb, hne⟩
  · cases hx

theorem truth_sound {pc : List BE} {b : BE} {t : Bool} {ι : Unk} (hp : ∀ b ∈ pc, b.den ι = true) (h : truth pc b = some t) : b.den ι = t := by
  unfold truth at h
  split at h
  · injection h with h
  · split at h
    · rename_i hc
      injection h with h
      subst h
      exact hp _ (by simpa using hc)
    · split at h
      · rename_i hc
        injection h with h
        subst h
        have := hp _ (by simpa using hc : b.mkNot ∈ pc)
        rw [BE.mkNot_den] at this
        simpa using this
      · split at h
        · have := decideB_ok (bnd_ok hp _) h
          simpa [BE.den, IE.den] using this
        · simp only [Option.map_eq_some_iff] at h
          obtain ⟨u, hu, rfl⟩ := h
          have := decideB_ok (bnd_ok hp _) hu
          simp only [BE.den, IE.den]
          rw [this]
        · -- an unknown text that is another one
          split at h
          · rename_i ho
            injection h with h
            subst h
            obtain ⟨j, s', hm, hne⟩ := other_spec ho
            have := hp _ hm
            simp only [BE.den, decide_eq_true_eq] at this
            simp only [BE.den, decide_eq_false_iff_not]
            rw [this]
            exact hne
          · cases h
        · split at h
          · rename_i ho
            injection h with h
            subst h
            obtain ⟨j, s', hm, hne⟩ := other_spec ho
            have := hp _ hm
            simp only [BE.den, decide_eq_true_eq] at this
            simp only [BE.den, Bool.not_eq_true', decide_eq_false_iff_not]
            rw [this]
            exact hne
          · cases h
        · cases h

theorem holds_den {pc : List BE} {ι : Unk} (hp : ∀ b ∈ pc, b.holds ι) : ∀ b ∈ pc, b.den ι = true := fun b hb => (hp b hb).2

theorem nrm_den (ι : Unk) (e : IE) : e.den ι = (nrm e).1.den ι + (nrm e).2 := by
  unfold nrm
  split
  · simp [IE.den]
  · simp [IE.den]
  · simp

/-- What is said by a difference. -/
def DOk (ι : Unk) (p : IE × IE × Int) : Prop := p.1.den ι ≤ p.2.1.den ι + p.2.2

theorem dif3_ok {ι : Unk} {a b : IE} {k : Int} : DOk ι (dif3 a b k) ↔ a.den ι ≤ b.den ι + k := by
  have h1 := nrm_den ι a
  have h2 := nrm_den ι b
  simp only [DOk, dif3]
  omega

theorem difs_ok {ι : Unk} {b : BE} (hb : b.den ι = true) : ∀ p ∈ difs b, DOk ι p := by
  intro p hp
  unfold difs at hp
  split at hp
  all_goals try (cases hp; done)
  all_goals simp only [List.mem_cons, List.not_mem_nil, or_false] at hp
  all_goals simp only [BE.den, intCmp, Option.getD_some, Bool.not_eq_true', decide_eq_true_eq, decide_eq_false_iff_not, beq_iff_eq] at hb
  all_goals first
    | (subst hp; rw [dif3_ok]; omega)
    | (rcases hp with rfl | rfl <;> (rw [dif3_ok]; omega))

theorem allDifs_ok {ι : Unk} {pc : List BE} (hp : ∀ b ∈ pc, b.den ι = true) : ∀ p ∈ allDifs pc, DOk ι p := by
  intro p h
  unfold allDifs at h
  rw [List.mem_flatten] at h
  obtain ⟨l, hl, hpl⟩ := h
  obtain ⟨b, hb, rfl⟩ := List.mem_map.1 hl
  exact difs_ok (hp b hb) p hpl

theorem reach_ok {ι : Unk} {l : List (IE × IE × Int)} (hl : ∀ p ∈ l, DOk ι p) : ∀ {n : Nat} {a b : IE} {k : Int}, reach l n a b k = true → a.den ι ≤ b.den ι + k
  | 0, a, b, k, h => by
    simp only [reach, Bool.and_eq_true, decide_eq_true_eq] at h
    obtain ⟨rfl, h⟩ := h
    omega
  | n + 1, a, b, k, h => by
    simp only [reach, Bool.or_eq_true, Bool.and_eq_true, decide_eq_true_eq, List.any_eq_true] at h
    rcases h with ⟨rfl, h⟩ | ⟨p, hp, rfl, h⟩
    · omega
    · have h1 := hl p hp
      have h2 := reach_ok hl h
      simp only [DOk] at h1
      omega

theorem dle_ok {ι : Unk} {pc : List BE} (hp : ∀ b ∈ pc, b.den ι = true) {a b : IE} {k : Int} (h : dle pc a b k = true) : a.den ι ≤ b.den ι + k :=
  dif3_ok.1 (show DOk ι (dif3 a b k) from reach_ok (allDifs_ok hp) h)

theorem difTruth_ok {ι : Unk} {pc : List BE} (hp : ∀ b ∈ pc, b.den ι = true) {b : BE} {t : Bool} (h : difTruth pc b = some t) : b.den ι = t := by
  unfold difTruth at h
  split at h
  · split at h
    · rename_i hd
      injection h with h
      subst h
      have := dle_ok hp hd
      simp only [BE.den, intCmp, Option.getD_some, decide_eq_true_eq]
      omega
    · split at h
      · rename_i hd
        injection h with h
        subst h
        have := dle_ok hp hd
        simp only [BE.den, intCmp, Option.getD_some, decide_eq_false_iff_not]
        omega
      · cases h
  · split at h
    · rename_i hd
      injection h with h
      subst h
      have := dle_ok hp hd
      simp only [BE.den, intCmp, Option.getD_some, decide_eq_true_eq]
      omega
    · split at h
      · rename_i hd
        injection h with h
        subst h
        have := dle_ok hp hd
        simp only [BE.den, intCmp, Option.getD_some, decide_eq_false_iff_not]
        omega
      · cases h
  · split at h
    · rename_i hd
      injection h with h
      subst h
      have := dle_ok hp hd
      simp only [BE.den, intCmp, Option.getD_some, decide_eq_true_eq]
      omega
    · split at h
      · rename_i hd
        injection h with h
        subst h
        have := dle_ok hp hd
        simp only [BE.den, intCmp, Option.getD_some, decide_eq_false_iff_not]
        omega
      · cases h
  · split at h
    · rename_i hd
      injection h with h
      subst h
      have := dle_ok hp hd
      simp only [BE.den, intCmp, Option.getD_some, decide_eq_true_eq]
      omega
    · split at h
      · rename_i hd
        injection h with h
        subst h
        have := dle_ok hp hd
        simp only [BE.den, intCmp, Option.getD_some, decide_eq_false_iff_not]
        omega
      · cases h
  · split at h
    · rename_i hd
      injection h with h
      subst h
      simp only [Bool.or_eq_true] at hd
      simp only [BE.den, intCmp, Option.getD_some, beq_eq_false_iff_ne, ne_eq]
      rcases hd with hd | hd <;> have := dle_ok hp hd <;> omega
    · split at h
      · rename_i hd
        injection h with h
        subst h
        simp only [Bool.and_eq_true] at hd
        have h1 := dle_ok hp hd.1
        have h2 := dle_ok hp hd.2
        simp only [BE.den, intCmp, Option.getD_some, beq_iff_eq]
        omega
      · cases h
  · cases h

theorem truthD_sound {ι : Unk} {pc : List BE} (hp : ∀ b ∈ pc, b.den ι = true) {b : BE} {t : Bool} (h : truthD pc b = some t) : b.den ι = t := by
  unfold truthD at h
  split at h
  · rename_i u hu
    injection h with h
    subst h
    exact truth_sound hp hu
  · split at h
    · simp only [Option.map_eq_some_iff] at h
      obtain ⟨u, hu, rfl⟩ := h
      simp only [BE.den, difTruth_ok hp hu]
    · exact difTruth_ok hp h

theorem difTrue_ok {ι : Unk} {pc : List BE} (hp : ∀ b ∈ pc, b.den ι = true) {b : BE} (h : difTrue pc b = true) : b.den ι = true := by
  unfold difTrue at h
  split at h
  all_goals try (cases h; done)
  all_goals try simp only [Bool.and_eq_true] at h
  all_goals simp only [BE.den, intCmp, Option.getD_some, Bool.not_eq_true', decide_eq_true_eq, decide_eq_false_iff_not, beq_iff_eq]
  all_goals first
    | (have := dle_ok hp h; omega)
    | (have h1 := dle_ok hp h.1; have h2 := dle_ok hp h.2; omega)

theorem known_ok {ι : Unk} {pc : List BE} (hp : ∀ b ∈ pc, b.den ι = true) {b : BE} (h : known pc b = true) : b.den ι = true := by
  unfold known at h
  split at h
  · rename_i t ht
    subst h
    exact truth_sound hp ht
  · exact difTrue_ok hp h

theorem byRule_sound {pc : List BE} {b : BE} {t : Bool} {ι : Unk} (hp : ∀ b ∈ pc, b.den ι = true) : ∀ {rs : List Rule}, RulesOk rs ι → byRule pc b rs = some t → b.den ι = t
  | [], _, h => by cases h
  | r :: rs, hr, h => by
    have hcon : (r.pre.all (known pc)) = true → r.con.den ι = true := fun ha => by
      refine hr ι rfl rfl rfl rfl r List.mem_cons_self fun p hpm => ?_
      exact known_ok hp (List.all_eq_true.1 ha p hpm)
    unfold byRule at h
    split at h
    · rename_i hc
      simp only [Bool.and_eq_true, decide_eq_true_eq] at hc
      injection h with h
      subst h
      rw [← hc.1]
      exact hcon hc.2
    · split at h
      · rename_i hc
        simp only [Bool.and_eq_true, decide_eq_true_eq] at hc
        injection h with h
        subst h
        have := hcon hc.2
        rw [hc.1, BE.mkNot_den] at this
        simpa using this
      · exact byRule_sound hp (fun ι' h1 h2 h3 h4 r' hr' => hr ι' h1 h2 h3 h4 r' (List.mem_cons_of_mem _ hr')) h

theorem truthR_sound {rs : List Rule} {pc : List BE} {b : BE} {t : Bool} {ι : Unk} (hr : RulesOk rs ι) (hp : ∀ b ∈ pc, b.den ι = true) (h : truthR rs pc b = some t) : b.den ι = t := by
  unfold truthR at h
  split at h
  · rename_i u hu
    injection h with h
    subst h
    split at hu
    · exact truth_sound hp hu
    · exact truthD_sound hp hu
  · exact byRule_sound hp hr h

theorem dead_sound {rs : List Rule} {pc : List BE} {ι : Unk} (hr : RulesOk rs ι) (hp : ∀ b ∈ pc, b.den ι = true) (h : dead rs pc = true) : False := by
  unfold dead at h
  have := byRule_sound hp hr (by simpa using h : byRule pc (.lit false) rs = some true)
  simp [BE.den] at this


variable {rs : List Rule} {pc : List BE} {ι : Unk}

theorem leB_sound {a b : IE} (hr : RulesOk rs ι) (hp : ∀ b ∈ pc, b.den ι = true) (h : leB rs pc a b = true) : a.den ι ≤ b.den ι := by
  unfold leB at h
  split at h
  · rename_i c hc
    have h1 := BE.mkCmp_den (ι := ι) hc
    have h2 := truthR_sound hr hp (by simpa using h : truthR rs pc c = some true)
    rw [h2] at h1
    simpa [intCmp] using h1
  · cases h
theorem ltB_sound {a b : IE} (hr : RulesOk rs ι) (hp : ∀ b ∈ pc, b.den ι = true) (h : ltB rs pc a b = true) : a.den ι < b.den ι := by
  unfold ltB at h
  split at h
  · rename_i c hc
    have h1 := BE.mkCmp_den (ι := ι) hc
    have h2 := truthR_sound hr hp (by simpa using h : truthR rs pc c = some true)
    rw [h2] at h1
    simpa [intCmp] using h1
  · cases h

theorem mkOff_den {a b : IE} : (IE.mkOff a b).den ι = a.den ι + b.den ι := by
  unfold IE.mkOff
  split
  · rfl
  · split
    · rename_i h; subst h; simp [IE.den]
    · split
      · rename_i h; subst h; simp [IE.den]
      · rfl
theorem mkOff_below {n : Nat} {a b : IE} (ha : a.upto n = true) (hb : b.upto n = true) : (IE.mkOff a b).upto n = true := by
  unfold IE.mkOff
  split
  · rfl
  · split
    · exact hb
    · split
      · exact ha
      · simp [IE.upto, ha, hb]
theorem mkDif_den {a b : IE} : (IE.mkDif a b).den ι = a.den ι - b.den ι := by
  unfold IE.mkDif
  split
  · rfl
  · split
    · rename_i h; subst h; simp [IE.den]
    · split
      · rename_i h; subst h; simp [IE.den]
      · rfl
theorem mkDif_below {n : Nat} {a b : IE} (ha : a.upto n = true) (hb : b.upto n = true) : (IE.mkDif a b).upto n = true := by
  unfold IE.mkDif
  split
  · rfl
  · split
    · exact ha
    · split
      · rfl
      · simp [IE.upto, ha, hb]
theorem mkLin_den {a : IE} {z o : Nat} : (IE.mkLin a z o).den ι = a.den ι * z + o := by
  unfold IE.mkLin
  split
  · rfl
  · split
    · rename_i h
      simp only [Bool.and_eq_true, decide_eq_true_eq] at h
      obtain ⟨rfl, rfl⟩ := h
      simp
    · rfl
theorem mkLin_below {n : Nat} {a : IE} {z o : Nat} (ha : a.upto n = true) : (IE.mkLin a z o).upto n = true := by
  unfold IE.mkLin
  split
  · rfl
  · split
    · exact ha
    · simpa [IE.upto] using ha

end Go.Sx
