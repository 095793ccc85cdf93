/-
  A WALKER THAT COMPUTES: what is known of truths.
-/
import Derived.Test.YtbgjceknbcpgjaaSzG
namespace Go.Sx

theorem other_spec {pc : List BE} {i : Nat} {s : List UInt8} (h : other pc i s = true) : ∃ (_ : Nat) (t : List UInt8), BE.seqs i t ∈ pc ∧ t ≠ s := by
  unfold other at h
  obtain ⟨b, hb, hx⟩ := List.any_eq_true.1 h
  split at hx
  · rename_i j t
    simp only [Bool.and_eq_true, beq_iff_eq, bne_iff_ne] at hx
    obtain ⟨rfl, hne⟩ := hx
    exact ⟨0, t, hb, hne⟩
  · cases hx

theorem truth_sound {pc : List BE} {b : BE} {t : Bool} {ι : Unk} (hp : ∀ b ∈ pc, b.den ι = true) (h : truth pc b = some t) : b.den ι = t := by
  unfold truth at h
  split at h
  · injection h with h
  · split at h
    · rename_i hc
      injection h with h
      subst h
      exact hp _ (hasB_mem hc)
    · split at h
      · rename_i hc
        injection h with h
        subst h
        have := hp _ (hasB_mem hc)
        rw [BE.mkNot_den] at this
        simpa using this
      · split at h
        · have := decideB_ok (bnd_ok hp _) h
          simpa [BE.den, IE.den] using this
        · simp only [Option.map_eq_some_iff] at h
          obtain ⟨u, hu, rfl⟩ := h
          have := decideB_ok (bnd_ok hp _) hu
          simp only [BE.den, IE.den]
          rw [this]
        · -- an unknown text that is another one
          split at h
          · rename_i ho
            injection h with h
            subst h
            obtain ⟨j, s', hm, hne⟩ := other_spec ho
            have := hp _ hm
            simp only [BE.den, decide_eq_true_eq] at this
            simp only [BE.den, decide_eq_false_iff_not]
            rw [this]
            exact hne
          · cases h
        · split at h
          · rename_i ho
            injection h with h
            subst h
            obtain ⟨j, s', hm, hne⟩ := other_spec ho
            have := hp _ hm
            simp only [BE.den, decide_eq_true_eq] at this
            simp only [BE.den, Bool.not_eq_true', decide_eq_false_iff_not]
            rw [this]
            exact hne
          · cases h
        · cases h

theorem holds_den {pc : List BE} {ι : Unk} (hp : ∀ b ∈ pc, b.holds ι) : ∀ b ∈ pc, b.den ι = true := fun b hb => (hp b hb).2

theorem nrm_den (ι : Unk) (e : IE) : e.den ι = (nrm e).1.den ι + (nrm e).2 := by
  unfold nrm
  split
  · simp [IE.den]
  · simp [IE.den]
  · simp

/-- What is said by a difference. -/
def DOk (ι : Unk) (p : IE × IE × Int) : Prop := p.1.den ι ≤ p.2.1.den ι + p.2.2

theorem dif3_ok {ι : Unk} {a b : IE} {k : Int} : DOk ι (dif3 a b k) ↔ a.den ι ≤ b.den ι + k := by
  have h1 := nrm_den ι a
  have h2 := nrm_den ι b
  simp only [DOk, dif3]
  omega

theorem difs_ok {ι : Unk} {b : BE} (hb : b.den ι = true) : ∀ p ∈ difs b, DOk ι p := by
  intro p hp
  unfold difs at hp
  split at hp
  all_goals try (cases hp; done)
  all_goals simp only [List.mem_cons, List.not_mem_nil, or_false] at hp
  all_goals simp only [BE.den, intCmp, Option.getD_some, Bool.not_eq_true', decide_eq_true_eq, decide_eq_false_iff_not, beq_iff_eq] at hb
  all_goals first
    | (subst hp; rw [dif3_ok]; omega)
    | (rcases hp with rfl | rfl <;> (rw [dif3_ok]; omega))

theorem allDifs_ok {ι : Unk} {pc : List BE} (hp : ∀ b ∈ pc, b.den ι = true) : ∀ p ∈ allDifs pc, DOk ι p := by
  intro p h
  unfold allDifs at h
  rw [List.mem_flatten] at h
  obtain ⟨l, hl, hpl⟩ := h
  obtain ⟨b, hb, rfl⟩ := List.mem_map.1 hl
  exact difs_ok (hp b hb) p hpl

theorem reach_ok {ι : Unk} {l : List (IE × IE × Int)} (hl : ∀ p ∈ l, DOk ι p) : ∀ {n : Nat} {a b : IE} {k : Int}, reach l n a b k = true → a.den ι ≤ b.den ι + k
  | 0, a, b, k, h => by
    simp only [reach, Bool.and_eq_true, decide_eq_true_eq] at h
    obtain ⟨rfl, h⟩ := h
    omega
  | n + 1, a, b, k, h => by
    simp only [reach, Bool.or_eq_true, Bool.and_eq_true, decide_eq_true_eq, List.any_eq_true] at h
    rcases h with ⟨rfl, h⟩ | ⟨p, hp, rfl, h⟩
    · omega
    · have h1 := hl p hp
      have h2 := reach_ok hl h
      simp only [DOk] at h1
      omega

theorem dleIn_ok {ι : Unk} {L M : List (IE × IE × Int)} (hL : ∀ p ∈ L, DOk ι p) (hM : ∀ p ∈ M, DOk ι p) {x y : IE} {c : Int} (h : dleIn L M x y c = true) : x.den ι ≤ y.den ι + c := by
  unfold dleIn at h
  split at h
  · simp only [Bool.and_eq_true, decide_eq_true_eq] at h
    obtain ⟨rfl, h⟩ := h
    omega
  · simp only [List.any_eq_true, Bool.and_eq_true, decide_eq_true_eq] at h
    obtain ⟨p, hp, _, rfl, h⟩ := h
    have h1 := hL p hp
    have h2 := reach_ok hM h
    simp only [DOk] at h1
    omega
  · simp only [List.any_eq_true, Bool.and_eq_true, decide_eq_true_eq] at h
    obtain ⟨p, hp, _, rfl, h⟩ := h
    have h1 := hL p hp
    have h2 := reach_ok hM h
    simp only [DOk] at h1
    omega
  · simp only [Bool.or_eq_true, List.any_eq_true, Bool.and_eq_true, decide_eq_true_eq] at h
    rcases h with h | ⟨p, hp, _, rfl, q, hq, e, rfl, h⟩
    · exact reach_ok hM h
    · have h1 := hL p hp
      have h2 := hL q hq
      simp only [DOk] at h1 h2
      rw [e] at h2
      omega

theorem dle_ok {ι : Unk} {pc : List BE} (hp : ∀ b ∈ pc, b.den ι = true) {a b : IE} {k : Int} (h : dle pc a b k = true) : a.den ι ≤ b.den ι + k :=
  dif3_ok.1 (show DOk ι (dif3 a b k) from dleIn_ok (allDifs_ok hp) (fun p hp' => allDifs_ok hp p (List.mem_filter.1 hp').1) h)

theorem difTruth_ok {ι : Unk} {pc : List BE} (hp : ∀ b ∈ pc, b.den ι = true) {b : BE} {t : Bool} (h : difTruth pc b = some t) : b.den ι = t := by
  unfold difTruth at h
  split at h
  · split at h
    · rename_i hd
      injection h with h
      subst h
      have := dle_ok hp hd
      simp only [BE.den, intCmp, Option.getD_some, decide_eq_true_eq]
      omega
    · split at h
      · rename_i hd
        injection h with h
        subst h
        have := dle_ok hp hd
        simp only [BE.den, intCmp, Option.getD_some, decide_eq_false_iff_not]
        omega
      · cases h
  · split at h
    · rename_i hd
      injection h with h
      subst h
      have := dle_ok hp hd
      simp only [BE.den, intCmp, Option.getD_some, decide_eq_true_eq]
      omega
    · split at h
      · rename_i hd
        injection h with h
        subst h
        have := dle_ok hp hd
        simp only [BE.den, intCmp, Option.getD_some, decide_eq_false_iff_not]
        omega
      · cases h
  · split at h
    · rename_i hd
      injection h with h
      subst h
      have := dle_ok hp hd
      simp only [BE.den, intCmp, Option.getD_some, decide_eq_true_eq]
      omega
    · split at h
      · rename_i hd
        injection h with h
        subst h
        have := dle_ok hp hd
        simp only [BE.den, intCmp, Option.getD_some, decide_eq_false_iff_not]
        omega
      · cases h
  · split at h
    · rename_i hd
      injection h with h
      subst h
      have := dle_ok hp hd
      simp only [BE.den, intCmp, Option.getD_some, decide_eq_true_eq]
      omega
    · split at h
      · rename_i hd
        injection h with h
        subst h
        have := dle_ok hp hd
        simp only [BE.den, intCmp, Option.getD_some, decide_eq_false_iff_not]
        omega
      · cases h
  · split at h
    · rename_i hd
      injection h with h
      subst h
      simp only [Bool.or_eq_true] at hd
      simp only [BE.den, intCmp, Option.getD_some, beq_eq_false_iff_ne, ne_eq]
      rcases hd with hd | hd <;> have := dle_ok hp hd <;> omega
    · split at h
      · rename_i hd
        injection h with h
        subst h
        simp only [Bool.and_eq_true] at hd
        have h1 := dle_ok hp hd.1
        have h2 := dle_ok hp hd.2
        simp only [BE.den, intCmp, Option.getD_some, beq_iff_eq]
        omega
      · cases h
  · cases h

theorem truthD_sound {ι : Unk} {pc : List BE} (hp : ∀ b ∈ pc, b.den ι = true) {b : BE} {t : Bool} (h : truthD pc b = some t) : b.den ι = t := by
  unfold truthD at h
  split at h
  · rename_i u hu
    injection h with h
    subst h
    exact truth_sound hp hu
  · split at h
    · simp only [Option.map_eq_some_iff] at h
      obtain ⟨u, hu, rfl⟩ := h
      simp only [BE.den, difTruth_ok hp hu]
    · exact difTruth_ok hp h

theorem difTrue_ok {ι : Unk} {pc : List BE} (hp : ∀ b ∈ pc, b.den ι = true) {b : BE} (h : difTrue pc b = true) : b.den ι = true := by
  unfold difTrue at h
  split at h
  all_goals try (cases h; done)
  all_goals try simp only [Bool.and_eq_true] at h
  all_goals simp only [BE.den, intCmp, Option.getD_some, Bool.not_eq_true', decide_eq_true_eq, decide_eq_false_iff_not, beq_iff_eq]
  all_goals first
    | (have := dle_ok hp h; omega)
    | (have h1 := dle_ok hp h.1; have h2 := dle_ok hp h.2; omega)

theorem known_ok {ι : Unk} {pc : List BE} (hp : ∀ b ∈ pc, b.den ι = true) {b : BE} (h : known pc b = true) : b.den ι = true := by
  unfold known at h
  split at h
  · rename_i t ht
    subst h
    exact truth_sound hp ht
  · exact difTrue_ok hp h

def Th.fv (ι : Unk) : Th → Fv
  | .num e => { n := e.den ι }
  | .row r => { r := r.den ι }
  | .txt s => { s := s.den ι }

/-- A rule's unknowns, taken for what is told. -/
def Unk.bare (ι : Unk) (fv : List Fv) : Unk := { ι with fv, obj := fun _ => none }
def Unk.plug (ι : Unk) (θ : List Th) : Unk := ι.bare (θ.map (Th.fv ι))

section
variable {ι : Unk} {θ : List Th}

theorem plug_at {i : Nat} {t : Th} (h : θ[i]? = some t) : (ι.plug θ).fv[i]? = some (Th.fv ι t) := by
  simp [Unk.plug, Unk.bare, h]

theorem blt_zero (i : Nat) : Nat.blt i 0 = false := by
  cases h : Nat.blt i 0 with
  | false => rfl
  | true => exact absurd (blt_iff.1 h) (Nat.not_lt_zero i)

theorem rowSub_den {r r' : Nat} (h : rowSub θ 0 r = some r') : (ι.plug θ).fr r = ι.fr r' := by
  unfold rowSub at h
  rw [blt_zero] at h
  simp only [Bool.false_eq_true, if_false, Nat.sub_zero] at h
  split at h
  · rename_i q hq
    injection h with h
    subst h
    simp only [Unk.fr, plug_at hq, Option.map_some, Th.fv, RX.den, Option.getD_some]
  · cases h
theorem txtSub_den {r r' : Nat} (h : txtSub θ 0 r = some r') : (ι.plug θ).ft r = ι.ft r' := by
  unfold txtSub at h
  rw [blt_zero] at h
  simp only [Bool.false_eq_true, if_false, Nat.sub_zero] at h
  split at h
  · rename_i q hq
    injection h with h
    subst h
    simp only [Unk.ft, plug_at hq, Option.map_some, Th.fv, TX.den, Option.getD_some]
  · cases h
theorem rowTm_den {r : Nat} {x : RX} (h : rowTm θ 0 r = some x) : x.den ι = (ι.plug θ).fr r := by
  unfold rowTm at h
  rw [blt_zero] at h
  simp only [Bool.false_eq_true, if_false, Nat.sub_zero] at h
  split at h
  · rename_i q hq
    injection h with h
    subst h
    simp only [Unk.fr, plug_at hq, Option.map_some, Th.fv, Option.getD_some]
  · cases h
theorem txtTm_den {r : Nat} {x : TX} (h : txtTm θ 0 r = some x) : x.den ι = (ι.plug θ).ft r := by
  unfold txtTm at h
  rw [blt_zero] at h
  simp only [Bool.false_eq_true, if_false, Nat.sub_zero] at h
  split at h
  · rename_i q hq
    injection h with h
    subst h
    simp only [Unk.ft, plug_at hq, Option.map_some, Th.fv, Option.getD_some]
  · cases h

theorem mkOff_den {a b : IE} : (IE.mkOff a b).den ι = a.den ι + b.den ι := by
  unfold IE.mkOff
  split
  · rfl
  · split
    · rename_i h; subst h; simp [IE.den]
    · split
      · rename_i h; subst h; simp [IE.den]
      · rfl
theorem mkOff_below {n : Nat} {a b : IE} (ha : a.upto n = true) (hb : b.upto n = true) : (IE.mkOff a b).upto n = true := by
  unfold IE.mkOff
  split
  · rfl
  · split
    · exact hb
    · split
      · exact ha
      · simp [IE.upto, ha, hb]
theorem mkDif_den {a b : IE} : (IE.mkDif a b).den ι = a.den ι - b.den ι := by
  unfold IE.mkDif
  split
  · rfl
  · split
    · rename_i h; subst h; simp [IE.den]
    · split
      · rename_i h; subst h; simp [IE.den]
      · rfl
theorem mkDif_below {n : Nat} {a b : IE} (ha : a.upto n = true) (hb : b.upto n = true) : (IE.mkDif a b).upto n = true := by
  unfold IE.mkDif
  split
  · rfl
  · split
    · exact ha
    · split
      · rfl
      · simp [IE.upto, ha, hb]
theorem mkLin_den {a : IE} {z o : Nat} : (IE.mkLin a z o).den ι = a.den ι * z + o := by
  unfold IE.mkLin
  split
  · rfl
  · split
    · rename_i h
      simp only [Bool.and_eq_true, decide_eq_true_eq] at h
      obtain ⟨rfl, rfl⟩ := h
      simp
    · rfl
theorem mkLin_below {n : Nat} {a : IE} {z o : Nat} (ha : a.upto n = true) : (IE.mkLin a z o).upto n = true := by
  unfold IE.mkLin
  split
  · rfl
  · split
    · exact ha
    · simpa [IE.upto] using ha


theorem plus_den {a b : IE} : (a.plus b).den ι = a.den ι + b.den ι := by
  unfold IE.plus
  split
  · rw [mkOff_den]; simp only [IE.den]; omega
  · simp only [IE.den, Int.ofNat_eq_natCast]; omega
  · simp only [IE.den, Int.ofNat_eq_natCast]; omega
  · exact mkOff_den
theorem plus_below {n : Nat} {a b : IE} (ha : a.upto n = true) (hb : b.upto n = true) : (a.plus b).upto n = true := by
  unfold IE.plus
  split
  · simp only [IE.upto, Bool.and_eq_true] at ha
    exact mkOff_below ha.1 rfl
  · simpa only [IE.upto] using ha
  · simpa only [IE.upto] using hb
  · exact mkOff_below ha hb

theorem IE.sub_den : ∀ {e e' : IE}, e.sub θ 0 = some e' → e'.den ι = e.den (ι.plug θ)
  | .lit n, e', h => by simp only [IE.sub, Option.some.injEq] at h; subst h; rfl
  | .var n, e', h => by simp only [IE.sub, Option.some.injEq] at h; subst h; rfl
  | .slen n, e', h => by simp only [IE.sub, Option.some.injEq] at h; subst h; rfl
  | .bin op k a b, e', h => by
    simp only [IE.sub, Option.bind_eq_bind, Option.bind_eq_some_iff, Option.pure_def, Option.some.injEq] at h
    obtain ⟨a', ha, b', hb, rfl⟩ := h
    simp only [IE.den, IE.sub_den ha, IE.sub_den hb]
  | .wrap k a, e', h => by
    simp only [IE.sub, Option.bind_eq_bind, Option.bind_eq_some_iff, Option.pure_def, Option.some.injEq] at h
    obtain ⟨a', ha, rfl⟩ := h
    simp only [IE.den, IE.sub_den ha]
  | .off a b, e', h => by
    simp only [IE.sub, Option.bind_eq_bind, Option.bind_eq_some_iff, Option.pure_def, Option.some.injEq] at h
    obtain ⟨a', ha, b', hb, rfl⟩ := h
    rw [plus_den]
    simp only [IE.den, IE.sub_den ha, IE.sub_den hb]
  | .dif a b, e', h => by
    simp only [IE.sub, Option.bind_eq_bind, Option.bind_eq_some_iff, Option.pure_def, Option.some.injEq] at h
    obtain ⟨a', ha, b', hb, rfl⟩ := h
    rw [mkDif_den]
    simp only [IE.den, IE.sub_den ha, IE.sub_den hb]
  | .lin a z o, e', h => by
    simp only [IE.sub, Option.bind_eq_bind, Option.bind_eq_some_iff, Option.pure_def, Option.some.injEq] at h
    obtain ⟨a', ha, rfl⟩ := h
    rw [mkLin_den]
    simp only [IE.den, IE.sub_den ha]
  | .fv i, e', h => by
    simp only [IE.sub, blt_zero, Bool.false_eq_true, if_false, Nat.sub_zero] at h
    split at h
    · rename_i q hq
      injection h with h
      subst h
      simp only [IE.den, Unk.fn, plug_at hq, Option.map_some, Th.fv, Option.getD_some]
    · cases h
  | .cell r i, e', h => by
    simp only [IE.sub, blt_zero, Bool.false_eq_true, if_false, Nat.sub_zero, Option.bind_eq_bind, Option.bind_eq_some_iff, Option.pure_def] at h
    obtain ⟨i', hi, h⟩ := h
    have ih := IE.sub_den hi
    split at h
    · rename_i q hq
      injection h with h
      subst h
      simp only [IE.den, ih, Unk.fr, plug_at hq, Option.map_some, Th.fv, RX.den, Option.getD_some]
    · cases h
  | .chr r i, e', h => by
    simp only [IE.sub, blt_zero, Bool.false_eq_true, if_false, Nat.sub_zero, Option.bind_eq_bind, Option.bind_eq_some_iff, Option.pure_def] at h
    obtain ⟨i', hi, h⟩ := h
    have ih := IE.sub_den hi
    split at h
    · rename_i q hq
      injection h with h
      subst h
      simp only [IE.den, ih, Unk.ft, plug_at hq, Option.map_some, Th.fv, TX.den, Option.getD_some]
    · cases h
  | .tlen r, e', h => by
    simp only [IE.sub, blt_zero, Bool.false_eq_true, if_false, Nat.sub_zero] at h
    split at h
    · rename_i q hq
      injection h with h
      subst h
      simp only [IE.den, Unk.ft, plug_at hq, Option.map_some, Th.fv, TX.den, Option.getD_some]
    · rename_i q hq
      injection h with h
      subst h
      simp only [IE.den, Unk.ft, plug_at hq, Option.map_some, Th.fv, TX.den, Option.getD_some]
    · rename_i q hq
      injection h with h
      subst h
      simp only [IE.den, Unk.ft, plug_at hq, Option.map_some, Th.fv, TX.den, Option.getD_some]
    · cases h
  | .tab s i, e', h => by
    simp only [IE.sub, Option.bind_eq_bind, Option.bind_eq_some_iff, Option.pure_def, Option.some.injEq] at h
    obtain ⟨a', ha, rfl⟩ := h
    simp only [IE.den, IE.sub_den ha]

theorem iesSub_den : ∀ {vs vs' : List IE}, iesSub θ 0 vs = some vs' → vs'.map (·.den ι) = vs.map (·.den (ι.plug θ))
  | [], vs', h => by simp only [iesSub, Option.some.injEq] at h; subst h; rfl
  | e :: r, vs', h => by
    simp only [iesSub, Option.bind_eq_bind, Option.bind_eq_some_iff, Option.pure_def, Option.some.injEq] at h
    obtain ⟨e', he, l, hl, rfl⟩ := h
    simp only [List.map_cons, IE.sub_den he, iesSub_den hl]

theorem TX.sub_den : ∀ {e e' : TX}, e.sub' θ 0 = some e' → e'.den ι = e.den (ι.plug θ)
  | .lit n, e', h => by simp only [TX.sub', Option.some.injEq] at h; subst h; rfl
  | .rig n, e', h => by simp only [TX.sub', Option.some.injEq] at h; subst h; rfl
  | .fv i, e', h => by simp only [TX.sub'] at h; simp only [TX.den, txtTm_den h]
  | .lits es, e', h => by
    simp only [TX.sub', Option.map_eq_some_iff] at h
    obtain ⟨r', hr, rfl⟩ := h
    have := congrArg (List.map fun n : Int => UInt8.ofNat n.toNat) (iesSub_den (ι := ι) hr)
    simpa only [TX.den, List.map_map, Function.comp_def] using this
  | .row r o n, e', h => by
    simp only [TX.sub', Option.bind_eq_bind, Option.bind_eq_some_iff, Option.pure_def, Option.some.injEq] at h
    obtain ⟨r', hr, o', ho, n', hn, rfl⟩ := h
    simp only [TX.den, rowSub_den hr, IE.sub_den ho, IE.sub_den hn]
  | .cat x y, e', h => by
    simp only [TX.sub', Option.bind_eq_bind, Option.bind_eq_some_iff, Option.pure_def, Option.some.injEq] at h
    obtain ⟨a', ha, b', hb, rfl⟩ := h
    simp only [TX.den, TX.sub_den ha, TX.sub_den hb]
  | .sub x o n, e', h => by
    simp only [TX.sub', Option.bind_eq_bind, Option.bind_eq_some_iff, Option.pure_def, Option.some.injEq] at h
    obtain ⟨x', hx, o', ho, n', hn, rfl⟩ := h
    simp only [TX.den, TX.sub_den hx, IE.sub_den ho, IE.sub_den hn]

theorem litsSub_den : ∀ {vs vs' : List (CK × IE)}, litsSub θ 0 vs = some vs' → (vs'.map fun v => v.1.val (v.2.den ι)) = (vs.map fun v => v.1.val (v.2.den (ι.plug θ)))
  | [], vs', h => by simp only [litsSub, Option.some.injEq] at h; subst h; rfl
  | (k, e) :: r, vs', h => by
    simp only [litsSub, Option.bind_eq_bind, Option.bind_eq_some_iff, Option.pure_def, Option.some.injEq] at h
    obtain ⟨e', he, l, hl, rfl⟩ := h
    simp only [List.map_cons, IE.sub_den he, litsSub_den hl]

theorem RX.sub_den : ∀ {e e' : RX}, e.sub' θ 0 = some e' → e'.den ι = e.den (ι.plug θ)
  | .row i, e', h => by simp only [RX.sub'] at h; simp only [RX.den, rowTm_den h]
  | .lits vs, e', h => by
    simp only [RX.sub', Option.map_eq_some_iff] at h
    obtain ⟨r', hr, rfl⟩ := h
    simp only [RX.den, litsSub_den hr]
  | .txt vs, e', h => by
    simp only [RX.sub', Option.map_eq_some_iff] at h
    obtain ⟨r', hr, rfl⟩ := h
    simp only [RX.den, TX.sub_den hr]
  | .sub x o n, e', h => by
    simp only [RX.sub', Option.bind_eq_bind, Option.bind_eq_some_iff, Option.pure_def, Option.some.injEq] at h
    obtain ⟨x', hx, o', ho, n', hn, rfl⟩ := h
    simp only [RX.den, RX.sub_den hx, IE.sub_den ho, IE.sub_den hn]
  | .cat x y, e', h => by
    simp only [RX.sub', Option.bind_eq_bind, Option.bind_eq_some_iff, Option.pure_def, Option.some.injEq] at h
    obtain ⟨a', ha, b', hb, rfl⟩ := h
    simp only [RX.den, RX.sub_den ha, RX.sub_den hb]
  | .set x o y, e', h => by
    simp only [RX.sub', Option.bind_eq_bind, Option.bind_eq_some_iff, Option.pure_def, Option.some.injEq] at h
    obtain ⟨x', hx, o', ho, y', hy, rfl⟩ := h
    simp only [RX.den, RX.sub_den hx, IE.sub_den ho, RX.sub_den hy]
  | .rep n vs, e', h => by
    simp only [RX.sub', Option.bind_eq_bind, Option.bind_eq_some_iff, Option.pure_def, Option.some.injEq] at h
    obtain ⟨n', hn, vs', hvs, rfl⟩ := h
    simp only [RX.den, IE.sub_den hn, litsSub_den hvs]

theorem rowsSub_den : ∀ {vs vs' : List RX}, rowsSub θ 0 vs = some vs' → vs'.map (·.den ι) = vs.map (·.den (ι.plug θ))
  | [], vs', h => by simp only [rowsSub, Option.some.injEq] at h; subst h; rfl
  | e :: r, vs', h => by
    simp only [rowsSub, Option.bind_eq_bind, Option.bind_eq_some_iff, Option.pure_def, Option.some.injEq] at h
    obtain ⟨e', he, l, hl, rfl⟩ := h
    simp only [List.map_cons, RX.sub_den he, rowsSub_den hl]
theorem txtsSub_den : ∀ {vs vs' : List TX}, txtsSub θ 0 vs = some vs' → vs'.map (·.den ι) = vs.map (·.den (ι.plug θ))
  | [], vs', h => by simp only [txtsSub, Option.some.injEq] at h; subst h; rfl
  | e :: r, vs', h => by
    simp only [txtsSub, Option.bind_eq_bind, Option.bind_eq_some_iff, Option.pure_def, Option.some.injEq] at h
    obtain ⟨e', he, l, hl, rfl⟩ := h
    simp only [List.map_cons, TX.sub_den he, txtsSub_den hl]

theorem BE.sub_den : ∀ {e e' : BE}, e.sub θ 0 = some e' → e'.den ι = e.den (ι.plug θ)
  | .lit n, e', h => by simp only [BE.sub, Option.some.injEq] at h; subst h; rfl
  | .not x, e', h => by
    simp only [BE.sub, Option.map_eq_some_iff] at h
    obtain ⟨a', ha, rfl⟩ := h
    simp only [BE.den, BE.sub_den ha]
  | .cmp op a b, e', h => by
    simp only [BE.sub, Option.bind_eq_bind, Option.bind_eq_some_iff, Option.pure_def, Option.some.injEq] at h
    obtain ⟨a', ha, b', hb, rfl⟩ := h
    simp only [BE.den, IE.sub_den ha, IE.sub_den hb]
  | .same a b, e', h => by
    simp only [BE.sub, Option.bind_eq_bind, Option.bind_eq_some_iff, Option.pure_def, Option.some.injEq] at h
    obtain ⟨a', ha, b', hb, rfl⟩ := h
    simp only [BE.den, BE.sub_den ha, BE.sub_den hb]
  | .seqs i s, e', h => by simp only [BE.sub, Option.some.injEq] at h; subst h; rfl
  | .teq a b, e', h => by
    simp only [BE.sub, Option.bind_eq_bind, Option.bind_eq_some_iff, Option.pure_def, Option.some.injEq] at h
    obtain ⟨a', ha, b', hb, rfl⟩ := h
    simp only [BE.den]
    exact decide_eq_decide.2 (by rw [TX.sub_den ha, TX.sub_den hb])
  | .isrow r x, e', h => by
    simp only [BE.sub, Option.bind_eq_bind, Option.bind_eq_some_iff, Option.pure_def, Option.some.injEq] at h
    obtain ⟨a', ha, b', hb, rfl⟩ := h
    simp only [BE.den]
    exact decide_eq_decide.2 (by rw [rowSub_den ha, RX.sub_den hb])
  | .rlen x n, e', h => by
    simp only [BE.sub, Option.bind_eq_bind, Option.bind_eq_some_iff, Option.pure_def, Option.some.injEq] at h
    obtain ⟨a', ha, b', hb, rfl⟩ := h
    simp only [BE.den]
    exact decide_eq_decide.2 (by rw [RX.sub_den ha, IE.sub_den hb])
  | .sys k n x y, e', h => by
    simp only [BE.sub, Option.bind_eq_bind, Option.bind_eq_some_iff, Option.pure_def, Option.some.injEq] at h
    obtain ⟨a', ha, b', hb, c', hc, rfl⟩ := h
    simp only [BE.den]
    exact decide_eq_decide.2 (by rw [IE.sub_den ha, RX.sub_den hb, RX.sub_den hc])
  | .usr k ns ss rs, e', h => by
    simp only [BE.sub, Option.bind_eq_bind, Option.bind_eq_some_iff, Option.pure_def, Option.some.injEq] at h
    obtain ⟨a', ha, b', hb, c', hc, rfl⟩ := h
    simp only [BE.den]
    exact decide_eq_decide.2 (by rw [iesSub_den ha, txtsSub_den hb, rowsSub_den hc]; rfl)
end

theorem knownAt_ok {ι : Unk} {pc : List BE} (hp : ∀ b ∈ pc, b.den ι = true) {θ : List Th} {p : BE} (h : knownAt pc θ p = true) : p.den (ι.plug θ) = true := by
  unfold knownAt at h
  split at h
  · rename_i q hq
    rw [← BE.sub_den hq]
    exact known_ok hp h
  · cases h

theorem search_fin {pc : List BE} {fin : Mt → Bool} : ∀ {ps : List BE} {σ : Mt}, search pc fin ps σ = true → ∃ σ', fin σ' = true
  | [], σ, h => ⟨σ, h⟩
  | p :: ps, σ, h => by
    simp only [search, List.any_eq_true] at h
    obtain ⟨f, _, h⟩ := h
    split at h
    · exact search_fin h
    · cases h

/-! ### Sums -/

def lsum (ι : Unk) : List (IE × Int) → Int
  | [] => 0
  | (e, k) :: r => k * e.den ι + lsum ι r
def lval (ι : Unk) (s : Lin) : Int := lsum ι s.1 + s.2

theorem linPut_sum {ι : Unk} {e : IE} {k : Int} : ∀ {l : List (IE × Int)}, lsum ι (linPut e k l) = lsum ι l + k * e.den ι
  | [] => by simp [linPut, lsum]
  | (f, j) :: r => by
    simp only [linPut]
    split
    · rename_i he
      subst he
      split
      · rename_i hz
        have : j * f.den ι + k * f.den ι = 0 := by rw [← Int.add_mul, hz, Int.zero_mul]
        simp only [lsum]
        omega
      · simp only [lsum, Int.add_mul]
        omega
    · simp only [lsum, linPut_sum (l := r)]
      omega
theorem linOf_val {ι : Unk} : ∀ {e : IE} {k : Int} {s : Lin}, lval ι (linOf k e s) = lval ι s + k * e.den ι
  | .lit n, k, s => by simp only [linOf, lval, IE.den]; omega
  | .off a b, k, s => by simp only [linOf]; rw [linOf_val, linOf_val]; simp only [IE.den, Int.mul_add]; omega
  | .dif a b, k, s => by simp only [linOf]; rw [linOf_val, linOf_val]; simp only [IE.den, Int.mul_sub, Int.neg_mul]; omega
  | .lin a z o, k, s => by
    simp only [linOf]
    rw [linOf_val]
    simp only [lval, IE.den, Int.mul_add]
    have : k * (z : Int) * a.den ι = k * (a.den ι * z) := by rw [Int.mul_assoc, Int.mul_comm (z : Int)]
    omega
  | .var i, k, s => by simp only [linOf, lval, linPut_sum]; omega
  | .slen i, k, s => by simp only [linOf, lval, linPut_sum]; omega
  | .bin _ _ _ _, k, s => by simp only [linOf, lval, linPut_sum]; omega
  | .wrap _ _, k, s => by simp only [linOf, lval, linPut_sum]; omega
  | .fv _, k, s => by simp only [linOf, lval, linPut_sum]; omega
  | .cell _ _, k, s => by simp only [linOf, lval, linPut_sum]; omega
  | .chr _ _, k, s => by simp only [linOf, lval, linPut_sum]; omega
  | .tlen _, k, s => by simp only [linOf, lval, linPut_sum]; omega
  | .tab _ _, k, s => by simp only [linOf, lval, linPut_sum]; omega
theorem lin2_val {ι : Unk} {a b : IE} {c : Int} : lval ι (lin2 a b c) = a.den ι - b.den ι + c := by
  simp only [lin2]
  rw [linOf_val, linOf_val]
  simp only [lval, lsum]
  omega
theorem linsOf_ok {ι : Unk} {b : BE} (hb : b.den ι = true) : ∀ s ∈ linsOf b, lval ι s ≤ 0 := by
  intro p hp
  unfold linsOf at hp
  split at hp
  all_goals try (cases hp; done)
  all_goals simp only [List.mem_cons, List.not_mem_nil, or_false] at hp
  all_goals simp only [BE.den, intCmp, Option.getD_some, Bool.not_eq_true', decide_eq_true_eq, decide_eq_false_iff_not, beq_iff_eq, bne_eq_false_iff_eq] at hb
  all_goals first
    | (subst hp; rw [lin2_val]; omega)
    | (rcases hp with rfl | rfl <;> (rw [lin2_val]; omega))
theorem allLins_ok {ι : Unk} : ∀ {pc : List BE}, (∀ b ∈ pc, b.den ι = true) → ∀ s ∈ allLins pc, lval ι s ≤ 0
  | [], _, s, hs => by cases hs
  | b :: r, hp, s, hs => by
    simp only [allLins, List.mem_append] at hs
    rcases hs with hs | hs
    · exact linsOf_ok (hp b List.mem_cons_self) s hs
    · exact allLins_ok (fun x hx => hp x (List.mem_cons_of_mem _ hx)) s hs
theorem linScale_sum {ι : Unk} {k : Int} : ∀ {l : List (IE × Int)}, lsum ι (linScale k l) = k * lsum ι l
  | [] => by simp [linScale, lsum]
  | (f, j) :: r => by simp only [linScale, lsum, linScale_sum (l := r), Int.mul_add, Int.mul_assoc]
theorem linPuts_sum {ι : Unk} {k : Int} : ∀ {y l : List (IE × Int)}, lsum ι (linPuts k y l) = lsum ι l + k * lsum ι y
  | [], l => by simp [linPuts, lsum]
  | (f, j) :: r, l => by
    simp only [linPuts]
    rw [linPuts_sum (y := r), linPut_sum]
    simp only [lsum, Int.mul_add, Int.mul_assoc]
    omega
theorem linMix_val {ι : Unk} {j k : Int} {x y : Lin} : lval ι (linMix j k x y) = j * lval ι x + k * lval ι y := by
  simp only [linMix, lval]
  rw [linPuts_sum]
  split
  · rename_i h
    subst h
    simp only [Int.mul_add, Int.one_mul]
    omega
  · rw [linScale_sum]
    simp only [Int.mul_add]
    omega
theorem linRef_ok {ι : Unk} {pc : List BE} (hp : ∀ b ∈ pc, b.den ι = true) {fs : List Lin} (hf : ∀ s ∈ fs, lval ι s ≤ 0) : ∀ {n : Nat} {s : Lin}, linRef pc fs n s = true → lval ι s ≤ 0 → False
  | 0, s, h, hs => by
    simp only [linRef] at h
    split at h
    · rename_i e
      simp only [decide_eq_true_eq] at h
      simp only [lval, e, lsum] at hs
      omega
    · cases h
  | n + 1, s, h, hs => by
    obtain ⟨l, c⟩ := s
    simp only [linRef] at h
    split at h
    · simp only [decide_eq_true_eq] at h
      simp only [lval, lsum] at hs
      omega
    · rename_i e k r
      split at h
      · rw [Bool.or_eq_true] at h
        rcases h with h | h
        · split at h
          · rename_i v hv
            refine linRef_ok hp hf h ?_
            have hb := bnd_ok hp e
            simp only [lval, lsum] at hs ⊢
            split at hv
            · rename_i hk
              have h1 := Int.mul_le_mul_of_nonneg_left (hb.1 v hv) (Int.le_of_lt hk)
              omega
            · rename_i hk
              have h1 := Int.mul_le_mul_of_nonpos_left (show k ≤ 0 by omega) (hb.2 v hv)
              omega
          · cases h
        · simp only [List.any_eq_true] at h
          obtain ⟨f, hfm, h⟩ := h
          have h0 := hf f hfm
          split at h
          · rename_i hk
            split at h
            · rename_i hc
              refine linRef_ok hp hf h ?_
              rw [linMix_val]
              have h1 := Int.mul_le_mul_of_nonneg_left h0 (Int.le_of_lt hk)
              have h2 := Int.mul_le_mul_of_nonneg_left hs (show 0 ≤ -coef e f.1 by omega)
              rw [Int.mul_zero] at h1 h2
              omega
            · cases h
          · rename_i hk
            split at h
            · rename_i hc
              refine linRef_ok hp hf h ?_
              rw [linMix_val]
              have h1 := Int.mul_le_mul_of_nonneg_left h0 (show 0 ≤ -k by omega)
              have h2 := Int.mul_le_mul_of_nonneg_left hs (Int.le_of_lt hc)
              rw [Int.mul_zero] at h1 h2
              omega
            · cases h
      · cases h
theorem linKnown_ok {ι : Unk} {pc : List BE} (hp : ∀ b ∈ pc, b.den ι = true) {fs : List Lin} (hf : ∀ s ∈ fs, lval ι s ≤ 0) {b : BE} (h : linKnown pc fs b = true) : b.den ι = true := by
  unfold linKnown at h
  rw [Bool.or_eq_true] at h
  rcases h with h | h
  · cases hd : b.den ι with
    | true => rfl
    | false =>
      exfalso
      have hn : b.mkNot.den ι = true := by rw [BE.mkNot_den, hd]; rfl
      have hl := linsOf_ok hn
      simp only [List.any_eq_true] at h
      obtain ⟨s, hs, h⟩ := h
      exact linRef_ok hp (fun x hx => (List.mem_append.1 hx).elim (hl x) (hf x)) h (hl s hs)
  · have key : ∀ {a c : IE}, (linRef pc fs 3 (lin2 a c 1) && linRef pc fs 3 (lin2 c a 1)) = true → a.den ι = c.den ι := fun {a c} h => by
      rw [Bool.and_eq_true] at h
      have h1 : ¬ lval ι (lin2 a c 1) ≤ 0 := fun hs => linRef_ok hp hf h.1 hs
      have h2 : ¬ lval ι (lin2 c a 1) ≤ 0 := fun hs => linRef_ok hp hf h.2 hs
      rw [lin2_val] at h1 h2
      omega
    split at h
    · simp only [BE.den, intCmp, Option.getD_some, beq_iff_eq]
      exact key h
    · simp only [BE.den, intCmp, Option.getD_some, Bool.not_eq_true', bne_eq_false_iff_eq]
      exact key h
    · cases h
theorem knownAtL_ok {ι : Unk} {kn : BE → Bool} (hk : ∀ b, kn b = true → b.den ι = true) {θ : List Th} {p : BE} (h : knownAtL kn θ p = true) : p.den (ι.plug θ) = true := by
  unfold knownAtL at h
  split at h
  · rename_i q hq
    rw [← BE.sub_den hq]
    exact hk _ h
  · cases h

theorem knownS_ok {ι : Unk} {pc : List BE} (hp : ∀ b ∈ pc, b.den ι = true) {fs : List Lin} (hf : ∀ s ∈ fs, lval ι s ≤ 0) {b : BE} (h : knownS pc fs b = true) : b.den ι = true := by
  unfold knownS at h
  simp only [Bool.or_eq_true, Bool.and_eq_true, beq_iff_eq] at h
  rcases h with h | ⟨_, h⟩
  · exact truth_sound hp h
  · exact linKnown_ok hp hf h
theorem fitIn_ok {g : Mt → List BE} {p : BE} {σ : Mt} {ι : Unk} (hg : ∀ σ', ∀ b ∈ g σ', b.den ι = true) : ∀ {l : List BE}, ∀ b ∈ fitIn g p σ l, b.den ι = true
  | [], b, hb => by cases hb
  | f :: l, b, hb => by
    simp only [fitIn] at hb
    split at hb
    · exact (List.mem_append.1 hb).elim (hg _ b) (fitIn_ok hg b)
    · exact fitIn_ok hg b hb
theorem collect_ok {kn : BE → Bool} {pc : List BE} {r : Rule} {ι : Unk} (hk : ∀ b, kn b = true → b.den ι = true) (hp : ∀ b ∈ pc, b.den ι = true)
    (hr : ∀ ι' : Unk, ι'.num = ι.num → ι'.str = ι.str → ι'.prd = ι.prd → (∀ b ∈ r.find, b.den ι' = true) → (∀ b ∈ r.pre, b.den ι' = true) → r.con.den ι' = true) : ∀ {ps : List BE} {σ : Mt}, ∀ b ∈ collect kn pc r ps σ, b.den ι = true
  | [], σ, b, hb => by
    simp only [collect] at hb
    split at hb
    · rename_i θ _
      split at hb
      · rename_i hc
        simp only [Bool.and_eq_true, List.all_eq_true] at hc
        split at hb
        · rename_i c hcs
          simp only [List.mem_cons, List.not_mem_nil, or_false] at hb
          subst hb
          rw [BE.sub_den hcs]
          exact hr (ι.plug θ) rfl rfl rfl (fun p hpm => knownAt_ok hp (hc.1 p hpm)) (fun p hpm => knownAtL_ok hk (hc.2 p hpm))
        · cases hb
      · cases hb
    · cases hb
  | p :: ps, σ, b, hb => by
    simp only [collect] at hb
    exact fitIn_ok (fun σ' => collect_ok hk hp hr (ps := ps) (σ := σ')) b hb
theorem trigIn_ok {kn : BE → Bool} {pc : List BE} {r : Rule} {ι : Unk} {p : IE} (hk : ∀ b, kn b = true → b.den ι = true) (hp : ∀ b ∈ pc, b.den ι = true)
    (hr : ∀ ι' : Unk, ι'.num = ι.num → ι'.str = ι.str → ι'.prd = ι.prd → (∀ b ∈ r.find, b.den ι' = true) → (∀ b ∈ r.pre, b.den ι' = true) → r.con.den ι' = true) : ∀ {l : List IE}, ∀ b ∈ trigIn kn pc r p l, b.den ι = true
  | [], b, hb => by cases hb
  | t :: l, b, hb => by
    simp only [trigIn] at hb
    split at hb
    · exact (List.mem_append.1 hb).elim (collect_ok hk hp hr b) (trigIn_ok hk hp hr b)
    · exact trigIn_ok hk hp hr b hb
theorem learnL_ok {kn : BE → Bool} {pc : List BE} {ts : List IE} {ι : Unk} (hk : ∀ b, kn b = true → b.den ι = true) (hp : ∀ b ∈ pc, b.den ι = true) : ∀ {rs : List Rule}, RulesOk rs ι → ∀ b ∈ learnL kn pc ts rs, b.den ι = true
  | [], _, b, hb => by cases hb
  | r :: l, hr, b, hb => by
    simp only [learnL, List.mem_append] at hb
    rcases hb with hb | hb
    · unfold learn1R at hb
      split at hb
      · cases hb
      · split at hb
        · cases hb
        · exact trigIn_ok hk hp (fun ι' h1 h2 h3 => hr ι' h1 h2 h3 r List.mem_cons_self) b hb
    · exact learnL_ok hk hp (rs := l) (fun ι' h1 h2 h4 r' hr' => hr ι' h1 h2 h4 r' (List.mem_cons_of_mem _ hr')) b hb
theorem learnR_ok {rs : List Rule} {pc : List BE} {ts : List IE} {ι : Unk} (hr : RulesOk rs ι) (hp : ∀ b ∈ pc, b.den ι = true) : ∀ b ∈ learnR rs pc ts, b.den ι = true :=
  learnL_ok (fun _ hb => knownS_ok hp (allLins_ok hp) hb) hp hr
theorem gainOf_ok {rs : List Rule} {pc : List BE} {nv : Nat} {v : AV} {ι : Unk} (hnv : ι.nv = nv) (hr : RulesOk rs ι) (hp : ∀ b ∈ pc, b.den ι = true) : ∀ b ∈ gainOf rs pc nv v, b.holds ι := by
  intro b hb
  unfold gainOf at hb
  split at hb
  · simp only [List.mem_filter, Bool.and_eq_true] at hb
    exact ⟨by rw [hnv]; exact hb.2.1, learnR_ok hr hp b hb.1⟩
  · cases hb
theorem rewFind_ok {pc : List BE} {r : Rule} {ι : Unk} {nv : Nat} {e e' : IE} (hp : ∀ b ∈ pc, b.den ι = true)
    (hr : ∀ ι' : Unk, ι'.num = ι.num → ι'.str = ι.str → ι'.prd = ι.prd → (∀ b ∈ r.find, b.den ι' = true) → (∀ b ∈ r.pre, b.den ι' = true) → r.con.den ι' = true) : ∀ {ps : List BE} {σ : Mt}, rewFind pc (allLins pc) nv e r ps σ = some e' → e'.den ι = e.den ι ∧ e'.upto nv = true
  | [], σ, h => by
    simp only [rewFind] at h
    split at h
    · rename_i θ _
      split at h
      · rename_i hc
        simp only [Bool.and_eq_true, List.all_eq_true] at hc
        split at h
        · rename_i a b hcs
          split at h
          · rename_i hab
            simp only [Bool.and_eq_true, decide_eq_true_eq] at hab
            injection h with h
            subst h
            have hd : (BE.cmp .eql a b).den ι = true := by
              rw [BE.sub_den hcs]
              exact hr (ι.plug θ) rfl rfl rfl (fun p hpm => knownAt_ok hp (hc.1 p hpm)) (fun p hpm => knownAtL_ok (fun _ hb => knownS_ok hp (allLins_ok hp) hb) (hc.2 p hpm))
            simp only [BE.den, intCmp, Option.getD_some, beq_iff_eq] at hd
            rw [← hab.1]
            exact ⟨hd.symm, hab.2⟩
          · cases h
        · cases h
      · cases h
    · cases h
  | p :: ps, σ, h => by
    simp only [rewFind] at h
    obtain ⟨f, _, h⟩ := List.exists_of_findSome?_eq_some h
    split at h
    · exact rewFind_ok hp hr h
    · cases h
theorem rew1_ok {pc : List BE} {ι : Unk} {nv : Nat} {e e' : IE} (hp : ∀ b ∈ pc, b.den ι = true) : ∀ {rs : List Rule}, RulesOk rs ι → rew1 pc (allLins pc) nv e rs = some e' → e'.den ι = e.den ι ∧ e'.upto nv = true
  | [], _, h => by cases h
  | r :: l, hr, h => by
    unfold rew1 at h
    split at h
    · rename_i e2 he
      injection h with h
      subst h
      split at he
      · simp only [Option.bind_eq_some_iff] at he
        obtain ⟨σ, _, he⟩ := he
        exact rewFind_ok hp (fun ι' h1 h2 h3 => hr ι' h1 h2 h3 r List.mem_cons_self) he
      · cases he
    · exact rew1_ok hp (rs := l) (fun ι' h1 h2 h4 r' hr' => hr ι' h1 h2 h4 r' (List.mem_cons_of_mem _ hr')) h
theorem rewI_ok {rs : List Rule} {pc : List BE} {ι : Unk} {nv : Nat} (hr : RulesOk rs ι) (hp : ∀ b ∈ pc, b.den ι = true) : ∀ {n : Nat} {e : IE}, e.upto nv = true → (rewI rs pc (allLins pc) nv n e).den ι = e.den ι ∧ (rewI rs pc (allLins pc) nv n e).upto nv = true
  | 0, e, h => ⟨rfl, h⟩
  | n + 1, e, h => by
    unfold rewI
    split
    · rename_i e' he
      obtain ⟨h1, h2⟩ := rew1_ok hp hr he
      obtain ⟨h3, h4⟩ := rewI_ok hr hp (n := n) h2
      exact ⟨h3.trans h1, h4⟩
    · exact ⟨rfl, h⟩
theorem knownL_ok {rs : List Rule} {pc : List BE} {b : BE} {ι : Unk} (hp : ∀ b ∈ pc, b.den ι = true) (h : knownL rs pc b = true) : b.den ι = true := by
  unfold knownL at h
  split at h
  · simp only [Bool.or_eq_true, Bool.and_eq_true, beq_iff_eq] at h
    rcases h with h | ⟨_, h⟩
    · exact truth_sound hp h
    · exact linKnown_ok hp (allLins_ok hp) h
  · exact known_ok hp h
theorem truthL_ok {rs : List Rule} {pc : List BE} {b : BE} {t : Bool} {ι : Unk} (hp : ∀ b ∈ pc, b.den ι = true) (h : truthL rs pc b = some t) : b.den ι = t := by
  unfold truthL at h
  split at h
  · split at h
    · rename_i hk
      injection h with h
      subst h
      exact linKnown_ok hp (allLins_ok hp) hk
    · split at h
      · rename_i hk
        injection h with h
        subst h
        have := linKnown_ok hp (allLins_ok hp) hk
        rw [BE.mkNot_den] at this
        simpa using this
      · cases h
  · cases h

theorem byPat_sound {kn : BE → Bool} {pc : List BE} {r : Rule} {b : BE} {ι : Unk} (hk : ∀ b, kn b = true → b.den ι = true) (hp : ∀ b ∈ pc, b.den ι = true)
    (hr : ∀ ι' : Unk, ι'.num = ι.num → ι'.str = ι.str → ι'.prd = ι.prd → (∀ b ∈ r.find, b.den ι' = true) → (∀ b ∈ r.pre, b.den ι' = true) → r.con.den ι' = true) (h : byPat kn pc r b = true) : b.den ι = true := by
  unfold byPat at h
  split at h
  · obtain ⟨σ', h⟩ := search_fin h
    unfold fits1 at h
    split at h
    · rename_i θ _
      simp only [Bool.and_eq_true, List.all_eq_true] at h
      obtain ⟨⟨h1, h2⟩, h3⟩ := h
      split at h1
      · rename_i c hc
        simp only [decide_eq_true_eq] at h1
        subst h1
        rw [BE.sub_den hc]
        exact hr (ι.plug θ) rfl rfl rfl (fun p hpm => knownAt_ok hp (h2 p hpm)) (fun p hpm => knownAtL_ok hk (h3 p hpm))
      · cases h1
    · cases h
  · cases h

theorem byRule_sound {kn : BE → Bool} {pc : List BE} {b : BE} {t : Bool} {ι : Unk} (hk : ∀ b, kn b = true → b.den ι = true) (hp : ∀ b ∈ pc, b.den ι = true) : ∀ {rs : List Rule}, RulesOk rs ι → byRule kn pc b rs = some t → b.den ι = t
  | [], _, h => by cases h
  | r :: rs, hr, h => by
    have hcon : (r.find.all (known pc) && r.pre.all kn) = true → r.con.den ι = true := fun ha => by
      simp only [Bool.and_eq_true, List.all_eq_true] at ha
      exact hr ι rfl rfl rfl r List.mem_cons_self (fun p hpm => known_ok hp (ha.1 p hpm)) fun p hpm => hk _ (ha.2 p hpm)
    have hrest : byRule kn pc b rs = some t → b.den ι = t := fun h => byRule_sound hk hp (rs := rs) (fun ι' h1 h2 h4 r' hr' => hr ι' h1 h2 h4 r' (List.mem_cons_of_mem _ hr')) h
    unfold byRule at h
    split at h
    · have hpat := fun ι' h1 h2 h4 => hr ι' h1 h2 h4 r List.mem_cons_self
      split at h
      · rename_i hc
        injection h with h
        subst h
        exact byPat_sound hk hp hpat hc
      · split at h
        · rename_i hc
          injection h with h
          subst h
          have := byPat_sound hk hp hpat hc
          rw [BE.mkNot_den] at this
          simpa using this
        · exact hrest h
    · split at h
      · rename_i hc
        rw [Bool.and_eq_true] at hc
        injection h with h
        subst h
        have h1 : r.con = b := by simpa using hc.1
        rw [← h1]
        exact hcon hc.2
      · split at h
        · rename_i hc
          rw [Bool.and_eq_true] at hc
          injection h with h
          subst h
          have h1 : r.con = b.mkNot := by simpa using hc.1
          have := hcon hc.2
          rw [h1, BE.mkNot_den] at this
          simpa using this
        · exact hrest h

theorem truthR_sound {rs : List Rule} {pc : List BE} {b : BE} {t : Bool} {ι : Unk} (hr : RulesOk rs ι) (hp : ∀ b ∈ pc, b.den ι = true) (h : truthR rs pc b = some t) : b.den ι = t := by
  unfold truthR at h
  split at h
  · rename_i u hu
    injection h with h
    subst h
    split at hu
    · exact truth_sound hp hu
    · split at hu
      · exact truth_sound hp hu
      · exact truthD_sound hp hu
  · split at h
    · rename_i u hu
      injection h with h
      subst h
      exact truthL_ok hp hu
    · exact byRule_sound (fun _ hb => knownL_ok hp hb) hp hr h

theorem dead_sound {rs : List Rule} {pc : List BE} {ι : Unk} (hr : RulesOk rs ι) (hp : ∀ b ∈ pc, b.den ι = true) (h : dead rs pc = true) : False := by
  unfold dead at h
  have := byRule_sound (fun _ hb => knownL_ok hp hb) hp hr (by simpa using h : byRule (knownL rs pc) pc (.lit false) rs = some true)
  simp [BE.den] at this


variable {rs : List Rule} {pc : List BE} {ι : Unk}

theorem leB_sound {a b : IE} (hr : RulesOk rs ι) (hp : ∀ b ∈ pc, b.den ι = true) (h : leB rs pc a b = true) : a.den ι ≤ b.den ι := by
  unfold leB at h
  split at h
  · rename_i c hc
    have h1 := BE.mkCmp_den (ι := ι) hc
    have h2 := truthR_sound hr hp (by simpa using h : truthR rs pc c = some true)
    rw [h2] at h1
    simpa [intCmp] using h1
  · cases h
theorem ltB_sound {a b : IE} (hr : RulesOk rs ι) (hp : ∀ b ∈ pc, b.den ι = true) (h : ltB rs pc a b = true) : a.den ι < b.den ι := by
  unfold ltB at h
  split at h
  · rename_i c hc
    have h1 := BE.mkCmp_den (ι := ι) hc
    have h2 := truthR_sound hr hp (by simpa using h : truthR rs pc c = some true)
    rw [h2] at h1
    simpa [intCmp] using h1
  · cases h

theorem inR_sound {k : IntKind} {e : IE} (hr : RulesOk rs ι) (hp : ∀ b ∈ pc, b.den ι = true) (h : inR rs pc k e = true) : k.min ≤ e.den ι ∧ e.den ι ≤ k.max := by
  simp only [inR, Bool.and_eq_true] at h
  exact ⟨leB_sound hr hp h.1, leB_sound hr hp h.2⟩

theorem IE.tidy_den (hr : RulesOk rs ι) (hp : ∀ b ∈ pc, b.den ι = true) (e : IE) : (e.tidy rs pc).den ι = e.den ι := by
  unfold IE.tidy
  split
  all_goals try rfl
  all_goals split
  all_goals try rfl
  all_goals
    rename_i h
    obtain ⟨h1, h2⟩ := inR_sound hr hp h
  · rw [plus_den] at *
    simp only [IE.den, intBin, Option.getD_some]
    exact (wrap_in _ h1 h2).symm
  · rw [plus_den] at *
    simp only [IE.den, intBin, Option.getD_some] at *
    exact (wrap_in _ h1 h2).symm
  · rw [mkDif_den] at *
    simp only [IE.den, intBin, Option.getD_some]
    exact (wrap_in _ h1 h2).symm
  · rw [mkLin_den] at *
    simp only [IE.den, intBin, Option.getD_some, Int.ofNat_eq_natCast] at *
    rw [wrap_in _ (by omega) (by omega)]
    omega
  · rw [mkLin_den] at *
    simp only [IE.den, intBin, Option.getD_some, Int.ofNat_eq_natCast, Int.mul_comm] at *
    rw [wrap_in _ (by omega) (by omega)]
    omega
  · simp only [IE.den]
    exact (wrap_in _ h1 h2).symm
theorem IE.tidy_below {n : Nat} {e : IE} (h : e.upto n = true) : (e.tidy rs pc).upto n = true := by
  unfold IE.tidy
  split
  all_goals try exact h
  all_goals split
  all_goals try exact h
  all_goals simp only [IE.upto, Bool.and_eq_true] at h
  all_goals first
    | exact plus_below h.1 h.2
    | exact plus_below h.1 rfl
    | exact mkDif_below h.1 h.2
    | exact mkLin_below h.1
    | exact mkLin_below h.2
    | exact h

theorem rewAV_den {rs : List Rule} {pc : List BE} {E : Env} {nv : Nat} (hnv : E.ι.nv = nv) (hr : RulesOk rs E.ι) (hp : ∀ b ∈ pc, b.den E.ι = true) {v : AV} {z : Value} (h : v.den E = some z) : (v.rew1 rs pc (allLins pc) nv).den E = some z := by
  unfold AV.rew1
  split
  · rename_i k e
    have hu := denI h
    have hz := denInt h
    obtain ⟨h1, h2⟩ := rewI_ok (nv := nv) hr hp (n := 4) (by rw [← hnv]; exact hu)
    rw [hz]
    simp only [AV.den]
    rw [if_pos (by rw [hnv]; exact h2), h1]
  · exact h
theorem rewL_den {rs : List Rule} {pc : List BE} {E : Env} {nv : Nat} (hnv : E.ι.nv = nv) (hr : RulesOk rs E.ι) (hp : ∀ b ∈ pc, b.den E.ι = true) : ∀ {vs : List AV} {zs : List Value}, AV.denL E vs = some zs → AV.denL E (vs.map (AV.rew1 rs pc (allLins pc) nv)) = some zs
  | [], _, h => h
  | v :: r, zs, h => by
    obtain ⟨z, l, hz, hl, rfl⟩ := denL_cons.1 h
    exact denL_cons.2 ⟨z, l, rewAV_den hnv hr hp hz, rewL_den hnv hr hp hl, rfl⟩
theorem rewr_den {rs : List Rule} {pc : List BE} {E : Env} {nv : Nat} (hnv : E.ι.nv = nv) (hr : RulesOk rs E.ι) (hp : ∀ b ∈ pc, b.den E.ι = true) {v : AV} {z : Value} (h : v.den E = some z) : (v.rewr rs pc nv).den E = some z := by
  unfold AV.rewr
  split
  · split
    · simp only [AV.den, Option.map_eq_some_iff] at h ⊢
      obtain ⟨l, hl, rfl⟩ := h
      exact ⟨l, rewL_den hnv hr hp hl, rfl⟩
    · exact rewAV_den hnv hr hp h
  · exact h
theorem tidy_den {E : Env} (hr : RulesOk rs E.ι) (hp : ∀ b ∈ pc, b.den E.ι = true) {v : AV} {z : Value} (h : v.den E = some z) : (v.tidy rs pc).den E = some z := by
  unfold AV.tidy
  split
  · exact h
  · split
    · rename_i k e
      simp only [AV.den] at h ⊢
      split at h
      · rename_i hu
        rw [if_pos (IE.tidy_below hu), IE.tidy_den hr hp]
        exact h
      · cases h
    · exact h

theorem tidyAt_den {E : Env} {o : Oper} (hr : RulesOk rs E.ι) (hp : ∀ b ∈ pc, b.den E.ι = true) {v : AV} {z : Value} (h : v.den E = some z) : (v.tidyAt o rs pc).den E = some z := by
  unfold AV.tidyAt
  split
  · exact tidy_den hr hp h
  · exact tidy_den hr hp h
  · exact h

end Go.Sx
