/-
  A WALKER THAT COMPUTES: a state that is one of a head's stands for what the head's stands for.
-/
import Derived.Test.YtbgjceknbcpgjaaSzLq
namespace Go.Sx

section
variable {E0 E : Env} {σ0 σ τ : St} {hd : Head} {a : Act} {w0 w : World} {B : Bd}

theorem isHead_ok (hw0 : WR E0 B σ0.h w0) (hp0 : ∀ b ∈ σ0.pc, b.holds E0.ι) (hτ : HeadOk E0 σ0 hd τ) (hS : SR E B (fun _ => False) σ a w) (hle : E0.Le E) (hf : Fr E0 E w0 w) {less : Option IE}
    (h : isHead E0.ι.nv σ0.h.bs.length σ0.h.nk hd τ less σ = true) :
    ∃ E', SR E' B (fun _ => False) τ a w ∧ E0.Le E' ∧ Fr E0 E' w0 w ∧ ∀ e, less = some e → (hd.ms E0.ι.nv σ0.h.bs.length).den E'.ι < e.den E.ι := by
  have hr := hS.wr.giv.rules
  have hpd := holds_den hS.pc
  unfold isHead at h
  split at h
  · rename_i θ bl hθ hbl
    simp only [Bool.and_eq_true, beq_iff_eq] at h
    obtain ⟨⟨⟨⟨⟨⟨⟨⟨⟨⟨⟨c1, c2⟩, c3⟩, c4⟩, c5⟩, c6⟩, c7⟩, c8⟩, c9⟩, c10⟩, c11⟩, c12⟩ := h
    have hnv : E.ι.nv = σ.h.giv.nv := hS.wr.giv.nv
    have hρ0 : E0.ρ.length = σ0.h.bs.length := hw0.lenρ
    have hκ0 : E0.κ.length = σ0.h.nk := hw0.lenκ
    have hm : E0.ι.nv ≤ E.ι.nv := hle.ι.nv
    have hρle : E0.ρ.length ≤ E.ρ.length := by
      rcases Nat.eq_zero_or_pos E0.ρ.length with h0 | h0
      · omega
      · have hl : E0.ρ.length - 1 < E0.ρ.length := by omega
        have := hle.ρ _ _ (List.getElem?_eq_getElem hl)
        have := (List.getElem?_eq_some_iff.1 this).1
        omega
    have hκle : E0.κ.length ≤ E.κ.length := by
      rcases Nat.eq_zero_or_pos E0.κ.length with h0 | h0
      · omega
      · have hl : E0.κ.length - 1 < E0.κ.length := by omega
        have := hle.κ _ _ (List.getElem?_eq_getElem hl)
        have := (List.getElem?_eq_some_iff.1 this).1
        omega
    have hI : InstOk E E0.ι.nv σ0.h.bs.length σ0.h.nk θ bl := by
      refine ⟨hm, fun t ht => ?_, by omega, by omega, fun b hb => ?_⟩
      · rw [hnv]; exact List.all_eq_true.1 c2 t ht
      · have := List.all_eq_true.1 c5 b hb
        simp only [Bool.and_eq_true] at this
        have := blt_iff.1 this.1
        rw [hS.wr.lenρ]
        exact this
    have hιe : (E.inst E0.ι.nv σ0.h.bs.length σ0.h.nk θ bl).ι = E.ι.inst E0.ι.nv θ := rfl
    have hinv : (E.ι.inst E0.ι.nv θ).nv = E0.ι.nv + θ.length := inst_nv hm
    have hle' : E0.Le (E.inst E0.ι.nv σ0.h.bs.length σ0.h.nk θ bl) := by
      refine ⟨⟨hle.ι.num, hle.ι.str, hle.ι.obj, hle.ι.prd, fun i u hi => ?_⟩, fun b c hb => ?_, fun i n hi => ?_⟩
      · have hlt : i < E0.ι.nv := (List.getElem?_eq_some_iff.1 hi).1
        rw [hιe, inst_lo hm hlt]
        exact hle.ι.fv i u hi
      · have hlt : b < σ0.h.bs.length := by rw [← hρ0]; exact (List.getElem?_eq_some_iff.1 hb).1
        simp only [Env.inst]
        rw [List.getElem?_append_left (by simp; omega), List.getElem?_take, if_pos hlt]
        exact hle.ρ b c hb
      · have hlt : i < σ0.h.nk := by rw [← hκ0]; exact (List.getElem?_eq_some_iff.1 hi).1
        simp only [Env.inst]
        rw [List.getElem?_take, if_pos hlt]
        exact hle.κ i n hi
    obtain ⟨sl1, sl2⟩ := sameSlots_ok c9
    have hblk := sameBlks_ok c10
    have hat : ∀ (b : Nat) (o : AObj), τ.h.bs[b]? = some o → ∃ v b', blkOf σ0.h.bs.length bl b = some b' ∧ σ.h.bs[b']? = some v ∧ sameObj σ.h.giv.cfg.rules σ.pc θ E0.ι.nv σ0.h.bs.length σ0.h.nk bl o v = true := fun b o ho => by
      obtain ⟨u, v, b', h1, h2, h3, h4⟩ := hblk b (Bl.lt_of_get ho)
      rw [ho] at h1
      injection h1 with h1
      subst h1
      exact ⟨v, b', h2, h3, h4⟩
    have hwr : WR (E.inst E0.ι.nv σ0.h.bs.length σ0.h.nk θ bl) B τ.h w := by
      refine ⟨?_, ?_, ?_, ?_, ?_, hS.wr.bsize, hτ.cls, ⟨?_, ?_, ?_, hS.wr.giv.prd⟩⟩
      · simp only [Env.inst, List.length_append, List.length_take, List.length_map]
        omega
      · simp only [Env.inst, List.length_take]
        rw [hτ.nk]
        omega
      · intro b c o hb ho
        obtain ⟨v, b', h2, h3, h4⟩ := hat b o ho
        rw [(blkOf_ok hI h2).1] at hb
        obtain ⟨ob, hob, hrel⟩ := hS.wr.obj b' c v hb h3
        exact ⟨ob, hob, (sameObj_ok hI hr hpd h4 hrel).1⟩
      · intro b c hb
        simp only [Env.inst] at hb
        by_cases hlt : b < σ0.h.bs.length
        · rw [List.getElem?_append_left (by simp; omega), List.getElem?_take, if_pos hlt] at hb
          exact hS.wr.base b c hb
        · rw [List.getElem?_append_right (by simp; omega), List.getElem?_map, Option.map_eq_some_iff] at hb
          obtain ⟨b', hb', rfl⟩ := hb
          have hl := hI.hbl b' (List.mem_of_getElem? hb')
          exact hS.wr.base b' _ (by rw [List.getD_eq_getElem?_getD, List.getElem?_eq_getElem hl]; rfl)
      · intro b b' c o o' hne hb hb' ho ho' hf1 hf2
        obtain ⟨v, x, h2, h3, h4⟩ := hat b o ho
        obtain ⟨v', x', h2', h3', h4'⟩ := hat b' o' ho'
        rw [(blkOf_ok hI h2).1] at hb
        rw [(blkOf_ok hI h2').1] at hb'
        obtain ⟨ob, hob, hrel⟩ := hS.wr.obj x c v hb h3
        obtain ⟨ob', hob', hrel'⟩ := hS.wr.obj x' c v' hb' h3'
        have k1 := (sameObj_ok hI hr hpd h4 hrel).2
        have k2 := (sameObj_ok hI hr hpd h4' hrel').2
        rcases k1 with k1 | ⟨k1, e1, g1⟩
        · exact absurd k1 hf1
        rcases k2 with k2 | ⟨k2, e2, g2⟩
        · exact absurd k2 hf2
        rw [e1, e2, g1, g2]
        by_cases hx : x = x'
        · exfalso
          subst hx
          unfold blkOf at h2 h2'
          have low : ∀ (b1 b2 : Nat) (q : AObj), b1 < σ0.h.bs.length → bl[b2]? = some b1 → τ.h.bs[b1]? = some q → q = .free := fun b1 b2 q hlt hb2 hq => by
            have := List.all_eq_true.1 c5 b1 (List.mem_of_getElem? hb2)
            simp only [Bool.and_eq_true] at this
            have := this.2
            rw [if_pos (blt_iff.2 hlt), hq] at this
            split at this
            · rename_i h; injection h
            · cases this
          split at h2
          · rename_i hlt
            split at h2'
            · injection h2 with h2; injection h2' with h2'; exact hne (h2.trans h2'.symm)
            · injection h2 with h2
              subst h2
              exact hf1 (low b _ o (blt_iff.1 hlt) h2' ho)
          · split at h2'
            · rename_i hlt
              injection h2' with h2'
              subst h2'
              exact hf2 (low b' _ o' (blt_iff.1 hlt) h2 ho')
            · rename_i hn1 hn2
              have := apartL_ok c4 _ _ x h2 h2'
              have n1 : ¬ b < σ0.h.bs.length := fun h => hn1 (blt_iff.2 h)
              have n2 : ¬ b' < σ0.h.bs.length := fun h => hn2 (blt_iff.2 h)
              omega
        · exact hS.wr.inj x x' c v v' hx hb hb' h3 h3' k1 k2
      · intro i g hi
        rw [hτ.l] at hi
        exact hle'.ρ _ _ (hw0.giv.spot i g hi)
      · rw [hιe, hinv, hτ.nv, c1]
      · rw [hτ.cfg]
        exact hw0.giv.rules.le hle'.ι
    refine ⟨E.inst E0.ι.nv σ0.h.bs.length σ0.h.nk θ bl, ⟨⟨by rw [sl1]; exact hS.slots.1, fun t u _ hup hu => ?_⟩, ?_, hwr, ?_, hτ.pan⟩, hle', ?_, ?_⟩
    · obtain ⟨u', v, h1, h2, h3, h4⟩ := sl2 t u hu hup
      obtain ⟨x, hx, hax⟩ := hS.slots.2 t v (fun h => h) h4 h2
      exact ⟨x, slot_ok hI hr hpd h1 h3 hx, hax⟩
    · rw [hτ.marks]
      have := hS.defers
      rw [List.isEmpty_iff.1 c6] at this
      exact this
    · intro b hb
      rcases hτ.pc b hb with hb | hb
      · have := List.all_eq_true.1 c11 b hb
        split at this
        · rename_i c hc
          obtain ⟨q1, q2, q3⟩ := BE.sub_ok hI.hm hI.hθ hc
          have ht := truthR_sound hr hpd (by simpa using this : truthR σ.h.giv.cfg.rules σ.pc c = some true)
          exact ⟨by rw [hιe, hinv]; exact q3, by rw [hιe, ← q1]; exact ht⟩
        · cases this
      · exact BE.holds_le hle'.ι (hp0 b hb)
    · refine ⟨hf.os, hf.tape, hf.output, hf.size, hf.block, fun b c hb => ?_⟩
      simp only [Env.inst] at hb
      by_cases hlt : b < σ0.h.bs.length
      · rw [List.getElem?_append_left (by simp; omega), List.getElem?_take, if_pos hlt] at hb
        exact hf.fresh b c hb
      · rw [List.getElem?_append_right (by simp; omega), List.getElem?_map, Option.map_eq_some_iff] at hb
        obtain ⟨b', hb', rfl⟩ := hb
        have hl := hI.hbl b' (List.mem_of_getElem? hb')
        exact hf.fresh b' _ (by rw [List.getD_eq_getElem?_getD, List.getElem?_eq_getElem hl]; rfl)
    · intro e he
      subst he
      simp only at c12
      split at c12
      · rename_i e' he'
        obtain ⟨q1, q2, q3⟩ := IE.sub_ok hI.hm hI.hθ he'
        have := ltB_sound hr hpd c12
        rw [hιe, ← q1]
        exact this
      · cases c12
  · cases h

theorem anyHead_ok {m nB nk : Nat} {less : Option IE} {σ : St} : ∀ {hs : List (Head × St)}, anyHead m nB nk less σ hs = true → ∃ p ∈ hs, isHead m nB nk p.1 p.2 less σ = true
  | [], h => by simp [anyHead] at h
  | (hd, τ) :: r, h => by
    simp only [anyHead, Bool.or_eq_true, Bool.and_eq_true] at h
    rcases h with ⟨_, h⟩ | h
    · exact ⟨_, List.mem_cons_self, h⟩
    · obtain ⟨p, hp, hq⟩ := anyHead_ok h
      exact ⟨p, List.mem_cons_of_mem _ hp, hq⟩

theorem roundOut_ok {m nB nk : Nat} {ms : IE} {hs : List (Head × St)} : ∀ {l o : List (AExit × St)}, roundOut m nB nk ms hs l = some o → ∀ p ∈ l, (p.1 = .normal ∧ anyHead m nB nk (some ms) p.2 hs = true) ∨ (p.1 ≠ .normal ∧ p ∈ o)
  | [], o, h, p, hp => by cases hp
  | (.normal, σ) :: r, o, h, p, hp => by
    simp only [roundOut] at h
    split at h
    · rename_i ha
      rcases List.mem_cons.1 hp with rfl | hp
      · exact Or.inl ⟨rfl, ha⟩
      · exact roundOut_ok h p hp
    · cases h
  | (.exit i, σ) :: r, o, h, p, hp => by
    simp only [roundOut, Option.bind_eq_bind, Option.bind_eq_some_iff, Option.pure_def, Option.some.injEq] at h
    obtain ⟨l, hl, rfl⟩ := h
    rcases List.mem_cons.1 hp with rfl | hp
    · exact Or.inr ⟨(fun h => by cases h), List.mem_cons_self⟩
    · rcases roundOut_ok hl p hp with h | ⟨h1, h2⟩
      · exact Or.inl h
      · exact Or.inr ⟨h1, List.mem_cons_of_mem _ h2⟩
  | (.goto i, σ) :: r, o, h, p, hp => by
    simp only [roundOut, Option.bind_eq_bind, Option.bind_eq_some_iff, Option.pure_def, Option.some.injEq] at h
    obtain ⟨l, hl, rfl⟩ := h
    rcases List.mem_cons.1 hp with rfl | hp
    · exact Or.inr ⟨(fun h => by cases h), List.mem_cons_self⟩
    · rcases roundOut_ok hl p hp with h | ⟨h1, h2⟩
      · exact Or.inl h
      · exact Or.inr ⟨h1, List.mem_cons_of_mem _ h2⟩
  | (.ret, σ) :: r, o, h, p, hp => by
    simp only [roundOut, Option.bind_eq_bind, Option.bind_eq_some_iff, Option.pure_def, Option.some.injEq] at h
    obtain ⟨l, hl, rfl⟩ := h
    rcases List.mem_cons.1 hp with rfl | hp
    · exact Or.inr ⟨(fun h => by cases h), List.mem_cons_self⟩
    · rcases roundOut_ok hl p hp with h | ⟨h1, h2⟩
      · exact Or.inl h
      · exact Or.inr ⟨h1, List.mem_cons_of_mem _ h2⟩
  | (.panic v, σ) :: r, o, h, p, hp => by
    simp only [roundOut, Option.bind_eq_bind, Option.bind_eq_some_iff, Option.pure_def, Option.some.injEq] at h
    obtain ⟨l, hl, rfl⟩ := h
    rcases List.mem_cons.1 hp with rfl | hp
    · exact Or.inr ⟨(fun h => by cases h), List.mem_cons_self⟩
    · rcases roundOut_ok hl p hp with h | ⟨h1, h2⟩
      · exact Or.inl h
      · exact Or.inr ⟨h1, List.mem_cons_of_mem _ h2⟩

theorem headsRun_ok {run : St → Option (List (AExit × St))} {m nB nk : Nat} {all : List (Head × St)} : ∀ {hs : List (Head × St)} {L : List (AExit × St)}, headsRun run m nB nk all hs = some L →
    ∀ p ∈ hs, leB p.2.h.giv.cfg.rules p.2.pc (.lit 0) (p.1.ms m nB) = true ∧ ∃ l o, run p.2 = some l ∧ roundOut m nB nk (p.1.ms m nB) all l = some o ∧ ∀ x ∈ o, x ∈ L
  | [], _, _, p, hp => by cases hp
  | (hd, τ) :: r, L, h, p, hp => by
    simp only [headsRun] at h
    split at h
    · cases h
    · rename_i hle
      simp only [Option.bind_eq_bind, Option.bind_eq_some_iff, Option.pure_def, Option.some.injEq] at h
      obtain ⟨l, hl, o, ho, k, hk, rfl⟩ := h
      rcases List.mem_cons.1 hp with rfl | hp
      · exact ⟨by simpa using hle, l, o, hl, ho, fun x hx => List.mem_append_left _ hx⟩
      · obtain ⟨h1, l', o', h2, h3, h4⟩ := headsRun_ok hk p hp
        exact ⟨h1, l', o', h2, h3, fun x hx => List.mem_append_right _ (h4 x hx)⟩

theorem heads_mem {σ0 : St} : ∀ {hds : List Head} {τs : List St}, hds.mapM (headSt σ0) = some τs → ∀ p ∈ hds.zip τs, headSt σ0 p.1 = some p.2
  | [], _, h, p, hp => by simp at hp
  | hd :: r, τs, h, p, hp => by
    simp only [List.mapM_cons, Option.bind_eq_bind, Option.bind_eq_some_iff, Option.pure_def, Option.some.injEq] at h
    obtain ⟨t, ht, l, hl, rfl⟩ := h
    rw [List.zip_cons_cons] at hp
    rcases List.mem_cons.1 hp with rfl | hp
    · exact ht
    · exact heads_mem hl p hp

end
end Go.Sx
