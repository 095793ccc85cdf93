/-
  A WALKER THAT COMPUTES: each operation that may go several ways.
-/
import Derived.Test.YtbgjceknbcpgjaaSzU
namespace Go.Sx
section
variable {P : Program} {E : Env} {D : Nat → Prop} {tmps : List AV} {a : Act} {B : Bd} {h : Hp} {w : World}

/-- One of the ways that it may go. -/
def DoesMany (P : Program) (E : Env) (B : Bd) (w : World) (s : Sem Next) (l : List (Option AV × Hp)) : Prop :=
  ∃ p ∈ l, ∃ E' w', Ext E B w E' p.2 w' ∧
    match p.1 with
    | some v => ∃ z, s.run P w = .ok (.value z) w' ∧ v.den E' = some z
    | none => s.run P w = .ok .skip w'

theorem DoesMany.value {s : Sem Next} {v : AV} {h' : Hp} {E' : Env} {z : Value} {w' : World} (hr : s.run P w = .ok (.value z) w') (hv : v.den E' = some z) (hx : Ext E B w E' h' w') : DoesMany P E B w s [(some v, h')] :=
  ⟨_, List.mem_singleton.2 rfl, E', w', hx, z, hr, hv⟩

theorem DoesMany.skip {s : Sem Next} {h' : Hp} {E' : Env} {w' : World} (hr : s.run P w = .ok .skip w') (hx : Ext E B w E' h' w') : DoesMany P E B w s [(none, h')] :=
  ⟨_, List.mem_singleton.2 rfl, E', w', hx, hr⟩

theorem find_clone {fn : Func} (h : fn.name = "maps.clone") : Extern.find fn = some Extern.MapsClone.clone := by
  have h1 : Extern.allGenericRows.lookup "maps.clone" = none := by kernel_rfl
  have h2 : Extern.allTypedRows.lookup "maps.clone" = none := by kernel_rfl
  have h3 : Extern.allRows.lookup "maps.clone" = some Extern.MapsClone.clone := by kernel_rfl
  simp only [Extern.find, h, h1, h2, h3]
  rfl

theorem denL_one {E : Env} {x : AV} {l : List Value} (h : AV.denL E [x] = some l) : ∃ u, x.den E = some u ∧ l = [u] := by
  obtain ⟨u, m, hu, hm, rfl⟩ := denL_cons.1 h
  simp [AV.denL] at hm
  subst hm
  exact ⟨u, hu, rfl⟩

theorem new_plain (hw : WR E B h w) (o : AObj) (ob : Obj) (hcl : o.cls? = none) (hr : ORel ⟨E.ρ ++ [w.heap.size], E.κ, E.ι⟩ o ob) :
    Ext E B w ⟨E.ρ ++ [w.heap.size], E.κ, E.ι⟩ { h with bs := h.bs ++ [o] } (w.alloc ob) ∧ (⟨E.ρ ++ [w.heap.size], E.κ, E.ι⟩ : Env).ρ[h.bs.length]? = some w.heap.size := by
  have h1 := new_sound hw o ob [] (fun k hk => by rw [hcl] at hk; cases hk) (by simpa using hr)
  have h2 := new_at hw []
  simp only [List.append_nil, List.length_nil, Nat.add_zero] at h1 h2
  exact ⟨h1, h2⟩

theorem le_plain (E : Env) (c : Nat) : E.Le ⟨E.ρ ++ [c], E.κ, E.ι⟩ := by
  have := le_new E c []
  simpa using this

/-! ### Open capacities -/

theorem learn_get (i n m : Nat) (l : Bl) (j : Nat) : (learn i n m l)[j]? = (l[j]?).map (learn1 i n m) := Bl.getElem?_map

theorem learn_wr (hw : WR E B h w) {i n m k : Nat} (hk : E.κ[i]? = some k) (hn : n ≤ k) (hm : m = 0 ∨ k ≤ m) : WR E B { h with bs := learn i n m h.bs } w := by
  have hlen : (learn i n m h.bs).length = h.bs.length := rfl
  have hrel : ∀ (o : AObj) (ob : Obj), ORel E o ob → ORel E (learn1 i n m o) ob := by
    intro o ob hr
    cases o with
    | cells c t more k' =>
      cases more with
      | none => exact hr
      | some p =>
        obtain ⟨j, z, least, most⟩ := p
        obtain ⟨c', fz, e, hf, hl, hv, n0, hn0, hsz, hlo, hhi⟩ := hr
        refine ⟨c', fz, e, hf, hl, hv, n0, hn0, hsz, ?_, ?_⟩
        · split
          · rename_i hc
            simp only [Bool.and_eq_true, decide_eq_true_eq] at hc
            obtain ⟨rfl, _⟩ := hc
            rw [hk] at hn0
            injection hn0 with hn0
            omega
          · exact hlo
        · split
          · rename_i hc
            simp only [Bool.and_eq_true, decide_eq_true_eq] at hc
            obtain ⟨⟨rfl, _⟩, _⟩ := hc
            rw [hk] at hn0
            injection hn0 with hn0
            omega
          · exact hhi
    | _ => exact hr
  have honly : ∀ o : AObj, (learn1 i n m o).only = o.only := by
    intro o
    cases o with
    | cells c t mo k => cases mo <;> rfl
    | _ => rfl
  have hcls : ∀ o : AObj, (learn1 i n m o).cls? = o.cls? := by
    intro o
    cases o with
    | cells c t more k => cases more <;> rfl
    | _ => rfl
  refine ⟨by simp [hlen, hw.lenρ], hw.lenκ, ?_, hw.base, ?_, hw.bsize, ?_, hw.giv⟩
  · intro b c o hb ho
    simp only [learn_get, Option.map_eq_some_iff] at ho
    obtain ⟨o0, h0, rfl⟩ := ho
    obtain ⟨ob, hob, hr⟩ := hw.obj b c o0 hb h0
    exact ⟨ob, hob, hrel _ _ hr⟩
  · intro b b' c o o' hne hb hb' ho ho' hf1 hf2
    simp only [learn_get, Option.map_eq_some_iff] at ho ho'
    obtain ⟨p, hp, rfl⟩ := ho
    obtain ⟨q, hq, rfl⟩ := ho'
    rw [hcls, hcls, honly, honly]
    exact hw.inj b b' c p q hne hb hb' hp hq (fun h => hf1 (by rw [h]; rfl)) (fun h => hf2 (by rw [h]; rfl))
  · intro b o k' ho hk'
    simp only [learn_get, Option.map_eq_some_iff] at ho
    obtain ⟨p, hp, rfl⟩ := ho
    rw [hcls] at hk'
    exact hw.cls b p k' hp hk'

theorem learn_ext (hw : WR E B h w) {i n m k : Nat} (hk : E.κ[i]? = some k) (hn : n ≤ k) (hm : m = 0 ∨ k ≤ m) : Ext E B w E { h with bs := learn i n m h.bs } w :=
  ⟨.refl E, learn_wr hw hk hn hm, .refl E w⟩

/-- Cells of which nothing is told may be added. -/
theorem wider_ext (hw : WR E B h w) {b : Nat} {c : List (Option AV)} {t : TypeId} {j z least most k n : Nat} (hbs : h.bs[b]? = some (.cells c t (some (j, z, least, most)) k)) (hn : ∀ kk, E.κ[j]? = some kk → n ≤ kk * z) :
    Ext E B w E { h with bs := h.bs.set b (.cells (wider c n) t (some (j, z, least, most)) k) } w := by
  refine ⟨.refl E, ⟨by simp [hw.lenρ], hw.lenκ, ?_, hw.base, ?_, hw.bsize, ?_, hw.giv⟩, .refl E w⟩
  · intro b2 c2 o2 hb2 ho2
    by_cases hbb : b = b2
    · subst hbb
      simp only [Bl.getElem?_set_self (Bl.lt_of_get hbs), Option.some.injEq] at ho2
      subst ho2
      obtain ⟨ob, hob, c', fz, e, hf, hl, hv, n0, hn0, hsz, hlo, hhi⟩ := hw.obj b c2 _ hb2 hbs
      refine ⟨ob, hob, c', fz, e, hf, ?_, ?_, n0, hn0, hsz, hlo, hhi⟩
      · have := hn n0 hn0
        simp only [wider, List.length_append, List.length_replicate]
        omega
      · intro i v hi
        refine hv i v ?_
        simp only [wider] at hi
        by_cases hic : i < c.length
        · rw [List.getElem?_append_left hic] at hi; exact hi
        · rw [List.getElem?_append_right (by omega), List.getElem?_replicate] at hi
          split at hi
          · cases hi
          · cases hi
    · simp only [Bl.getElem?_set_ne hbb] at ho2
      exact hw.obj b2 c2 o2 hb2 ho2
  · intro b1 b2 c2 o1 o2 hne hb1 hb2 ho1 ho2 hf1 hf2
    have key : ∀ (b3 : Nat) (o3 : AObj), (h.bs.set b (.cells (wider c n) t (some (j, z, least, most)) k))[b3]? = some o3 → ∃ o0, h.bs[b3]? = some o0 ∧ o3.cls? = o0.cls? ∧ (o0 = .free → o3 = .free) ∧ o3.only = o0.only := by
      intro b3 o3 h3
      by_cases hbb : b = b3
      · subst hbb
        rw [Bl.getElem?_set_self (Bl.lt_of_get hbs)] at h3
        injection h3 with h3
        subst h3
        exact ⟨_, hbs, rfl, (fun h => by cases h), rfl⟩
      · rw [Bl.getElem?_set_ne hbb] at h3
        exact ⟨o3, h3, rfl, id, rfl⟩
    obtain ⟨p, hp, ep, fp, gp⟩ := key b1 o1 ho1
    obtain ⟨q, hq, eq, fq, gq⟩ := key b2 o2 ho2
    rw [ep, eq, gp, gq]
    exact hw.inj b1 b2 c2 p q hne hb1 hb2 hp hq (fun h => hf1 (fp h)) (fun h => hf2 (fq h))
  · intro b3 o3 k3 h3 hk3
    simp only [Bl.members_set]
    simp only [Bl.getElem?_set, if_pos (Bl.lt_of_get hbs)] at h3
    split at h3
    · rename_i hbb
      subst hbb
      injection h3 with h3
      subst h3
      exact hw.cls b _ k3 hbs hk3
    · exact hw.cls b3 o3 k3 h3 hk3

theorem farA_sound (hw : WR E B h w) {t : TypeId} {x : AV} {lo hi : Option AV} {l : List (AV × Hp)} {u : Value} {lo' hi' : Option Value} (hr : farA P h t x lo hi = some l) (hx : x.den E = some u) (hlo : denO E lo lo') (hhi : denO E hi hi') :
    ∃ p ∈ l, ∃ z, p.1.den E = some z ∧ (Instr.sliceAt t u lo' hi' none).run P w = .ok z w ∧ Ext E B w E p.2 w := by
  unfold farA at hr
  split at hr
  · rename_i e b o len i s hd
    obtain ⟨c, n, hc, hn, hle, rfl⟩ := denSlice hx
    obtain ⟨kk, hkk, hskk, rfl⟩ := Cap.den_var.1 hn
    simp only [Option.bind_eq_bind, Option.bind_eq_some_iff] at hr
    obtain ⟨z, hz, hr⟩ := hr
    split at hr
    · rename_i cs t' j z' least most k hbs
      split at hr
      · cases hr
      · rename_i hcond
        simp only [Bool.or_eq_true, decide_eq_true_eq, not_or, Decidable.not_not] at hcond
        obtain ⟨⟨⟨rfl, rfl⟩, hls⟩, rfl⟩ := hcond
        obtain ⟨ob, hob, c', fz, _, _, _, _, n0, hn0, hsz, hlo0, _⟩ := hw.obj b c _ hc hbs
        rw [hkk] at hn0
        injection hn0 with hn0
        subst hn0
        simp only [Option.bind_eq_some_iff] at hr
        obtain ⟨u, hu, l', hl', hr⟩ := hr
        have hb : ∀ w, (Instr.sliceBounds true len (kk - s) lo' hi' none).run P w = .ok (l', u, kk - s) w ∧ l' ≤ u ∧ (u ≤ least - s ∨ u ≤ len) := by
          intro w
          have hl'u : l' ≤ u := bound_le hl' (by omega)
          cases hi with
          | none =>
            cases hi' with
            | some v => exact hhi.elim
            | none =>
              simp only [bound, Option.some.injEq] at hu
              subst hu
              refine ⟨?_, hl'u, Or.inr (Nat.le_refl _)⟩
              cases lo with
              | none =>
                cases lo' with
                | some v => exact hlo.elim
                | none => simp only [bound, Option.some.injEq] at hl'; subst hl'; simp [Instr.sliceBounds]
              | some a =>
                cases lo' with
                | none => exact hlo.elim
                | some v => simp [Instr.sliceBounds, bound_run hl' hlo (Nat.le_refl _)]
          | some a =>
            cases hi' with
            | none => exact hhi.elim
            | some v =>
              refine ⟨?_, hl'u, Or.inl (bound_some_le hu)⟩
              cases lo with
              | none =>
                cases lo' with
                | some v => exact hlo.elim
                | none => simp only [bound, Option.some.injEq] at hl'; subst hl'; simp [Instr.sliceBounds, bound_run hu hhi (show least - s ≤ kk - s by omega)]
              | some a =>
                cases lo' with
                | none => exact hlo.elim
                | some v => simp [Instr.sliceBounds, bound_run hu hhi (show least - s ≤ kk - s by omega), bound_run hl' hlo (Nat.le_refl _)]
        obtain ⟨hb1, hb2, hb3⟩ := hb w
        split at hr
        · rename_i hll
          simp only [Option.pure_def, Option.some.injEq] at hr
          subst hr
          have hd2 : (Cap.var j (s + l')).den E = some (kk - s - l') := Cap.den_var.2 ⟨kk, hkk, by omega, by omega⟩
          have huk : s + u ≤ kk := by omega
          refine ⟨_, List.mem_singleton.2 rfl, _, by simp only [AV.den, hc, hd2]; rw [if_pos (by omega)], ?_, wider_ext hw hbs (fun k2 h2 => by
            rw [hkk] at h2
            injection h2 with h2
            subst h2
            exact Nat.mul_le_mul_right _ huk)⟩
          simp [Instr.sliceAt, Instr.slice, run_underlying hd, hb1, run_size hz]
          rw [if_neg (by omega)]
          simp [Addr.add_lit]
        · split at hr
          · rename_i hll hle'
            simp only [Bool.and_eq_true, decide_eq_true_eq] at hle'
            obtain ⟨hle', hul⟩ := hle'
            simp only [Option.pure_def, Option.some.injEq] at hr
            subst hr
            by_cases hend : kk - s = l'
            · refine ⟨_, List.mem_cons_self, _, by simp only [AV.den, hc, Cap.den]; rw [if_pos (Nat.le_refl _)], ?_, .refl hw⟩
              rw [hend] at hb1 ⊢
              simp [Instr.sliceAt, Instr.slice, run_underlying hd, hb1, run_size hz, hul]
            · have hd2 : (Cap.var j (s + l')).den E = some (kk - s - l') := Cap.den_var.2 ⟨kk, hkk, by omega, by omega⟩
              refine ⟨_, List.mem_cons_of_mem _ (List.mem_singleton.2 rfl), _, by simp only [AV.den, hc, hd2]; rw [if_pos (Nat.zero_le _)], ?_, learn_ext hw hkk (by omega) (Or.inl rfl)⟩
              simp [Instr.sliceAt, Instr.slice, run_underlying hd, hb1, run_size hz, hul]
              rw [if_neg hend]
              simp [Addr.add_lit]
          · cases hr
    · cases hr
  · cases hr

theorem find_overlaps {fn : Func} (h : fn.origin = "slices.overlaps") (hn : Extern.allGenericRows.lookup fn.name = none) (hn2 : Extern.allTypedRows.lookup fn.name = none) (hn3 : Extern.allRows.lookup fn.name = none) :
    Extern.find fn = some (Extern.SlicesOverlaps.overlaps fn.params fn.resultTypes) := by
  have h1 : Extern.allGenericRows.lookup "slices.overlaps" = none := by kernel_rfl
  have h2 : Extern.allTypedRows.lookup "slices.overlaps" = some Extern.SlicesOverlaps.overlaps := by kernel_rfl
  simp only [Extern.find, hn, hn2, hn3, h, h1, h2]
  rfl

theorem apartA_spec {bs : Bl} {b c o : Nat} (h : apartA bs b c o = true) :
    ∃ cs t m k cs' t' m' l, bs[b]? = some (.cells cs t m k) ∧ bs[c]? = some (.cells cs' t' m' l) ∧ k ≠ l ∧ o < cs.length := by
  unfold apartA at h
  split at h
  · rename_i cs t m k cs' t' m' l h1 h2
    simp only [Bool.and_eq_true, decide_eq_true_eq] at h
    exact ⟨cs, t, m, k, cs', t', m', l, h1, h2, h.1, h.2⟩
  · cases h

theorem overlaps_eq (ps rs : Array TypeId) (c1 o1 n1 k1 c2 o2 n2 k2 : Nat) : Extern.SlicesOverlaps.overlaps ps rs #[.slice (some ⟨c1, o1, none⟩) n1 k1, .slice (some ⟨c2, o2, none⟩) n2 k2] = (do
      let some t := ps[0]? | stuck "slices.overlaps: no parameter types"
      let .slice elem ← underlying t | stuck "slices.overlaps: slice type expected"
      let size ← sizeOf elem
      if n1 = 0 ∨ n2 = 0 ∨ size = 0 then pure (.bool false)
      else if c1 != c2 && (← frozen ⟨c1, o1, none⟩) && (← frozen ⟨c2, o2, none⟩) then unsupported .addressObserved
      else do
        if c1 != c2 then do
          noView ⟨c1, o1, none⟩; noView ⟨c2, o2, none⟩
          if ← mayBeOne ⟨c1, o1, none⟩ ⟨c2, o2, none⟩ then return .bool ((← choose (.extern "sameAddr.stringBytes" 2)) == 1)
        pure (.bool (c1 == c2 && o1 < o2 + n2 * size && o2 < o1 + n1 * size))) := by
  rfl

theorem overlaps_run {ps rs : Array TypeId} {t e : TypeId} {z c1 o1 n1 k1 c2 o2 n2 k2 : Nat} {r1 r2 : Array Value} {t1 t2 : TypeId} {f1 f2 : Nat × Nat} (hp : ps[0]? = some t) (hd : P.underlying t = some (.slice e)) (hz : size P e = some z) (hz0 : ¬ z = 0)
    (hn1 : ¬ n1 = 0) (hn2 : ¬ n2 = 0) (hne : c1 ≠ c2) (h1 : w.heap[c1]? = some (.cells r1 t1 f1)) (h2 : w.heap[c2]? = some (.cells r2 t2 f2)) (hf : w.frozen? ⟨c1, o1, none⟩ = false) :
    ∃ b w', (Extern.SlicesOverlaps.overlaps ps rs #[.slice (some ⟨c1, o1, none⟩) n1 k1, .slice (some ⟨c2, o2, none⟩) n2 k2]).run P w = .ok (.bool b) w' ∧ (w' = w ∨ w' = w.drew) := by
  have hbl : (c1 != c2) = true := by simpa using hne
  have hs1 : w.shape? c1 = some (t1, r1.size) := by simp [World.shape?, h1]
  have hs2 : w.shape? c2 = some (t2, r2.size) := by simp [World.shape?, h2]
  have hv1 : ∀ o : Nat, (noView ⟨c1, o, none⟩).run P w = .ok () w := fun o => by simp [noView, viewAt, hs1]
  have hv2 : ∀ o : Nat, (noView ⟨c2, o, none⟩).run P w = .ok () w := fun o => by simp [noView, viewAt, hs2]
  have hm : ∃ q : Bool, (mayBeOne ⟨c1, o1, none⟩ ⟨c2, o2, none⟩).run P w = .ok q w := by
    simp only [mayBeOne, stringish]
    cases hq1 : w.frozen? ⟨c1, o1, none⟩ <;> cases hq2 : w.frozen? ⟨c2, o2, none⟩ <;> simp [hq1, hq2, World.shape?, h1, h2]
  obtain ⟨q, hm⟩ := hm
  have hno : ¬ (n1 = 0 ∨ n2 = 0 ∨ z = 0) := by omega
  have hend : ∃ b w', (do
      noView ⟨c1, o1, none⟩
      noView ⟨c2, o2, none⟩
      if ← mayBeOne ⟨c1, o1, none⟩ ⟨c2, o2, none⟩ then return Value.bool ((← choose (.extern "sameAddr.stringBytes" 2)) == 1)
      pure (Value.bool (c1 == c2 && o1 < o2 + n2 * z && o2 < o1 + n1 * z)) : Sem Value).run P w = .ok (.bool b) w' ∧ (w' = w ∨ w' = w.drew) := by
    cases q with
    | true =>
      exact ⟨_, w.drew, by simp only [Sem.run_bind, hv1, hv2, hm, Result.andThen_ok, if_true, run_choose, Question.forced]; simp; rfl, Or.inr rfl⟩
    | false => exact ⟨_, w, by simp only [Sem.run_bind, hv1, hv2, hm, Result.andThen_ok]; simp; rfl, Or.inl rfl⟩
  obtain ⟨b, w', hr, hw'⟩ := hend
  refine ⟨b, w', ?_, hw'⟩
  rw [← hr]
  rw [overlaps_eq]
  simp [hp, run_underlying hd, run_size hz, hno, hbl, hf]

theorem aopMany_sound (hN : plainNames P = true) {o : Oper} {l : List (Option AV × Hp)} (hS : Slots E D tmps a) (hc : ∀ x ∈ o.op.operands, Clear D x) (hw : WR E B h w) (hr : aopMany P tmps h o = some l) :
    DoesMany P E B w (execOp a.eval o) l := by
  obtain ⟨dst, op, type, pos, after, guard⟩ := o
  unfold aopMany at hr
  simp only at hr hc
  split at hr
  · -- a part of a row whose capacity is open
    rename_i t x lo hi
    simp only [Option.bind_eq_bind, Option.bind_eq_some_iff, Option.pure_def, Option.some.injEq] at hr
    obtain ⟨xv, hx, lv, hlo, hv, hhi, L, hL, rfl⟩ := hr
    obtain ⟨p, hp, z, hz, hrun, hxt⟩ := farA_sound (P := P) hw hL (opnd_den hS (hc x (by simp [Op.operands])) hx) (opt1_den hS (fun y hy => hc y (by simp [Op.operands, hy])) hlo) (opt1_den hS (fun y hy => hc y (by simp [Op.operands, hy])) hhi)
    exact ⟨(some p.1, p.2), List.mem_map.2 ⟨p, hp, rfl⟩, E, w, hxt, z, by simp [execOp, hrun], hz⟩
  · -- lookup
    rename_i t x k ok
    simp only [Option.bind_eq_bind, Option.bind_eq_some_iff, Option.pure_def, Option.some.injEq] at hr
    obtain ⟨xv, hx, kv, hk, v, hv, rfl⟩ := hr
    obtain ⟨z, hz, hrun⟩ := lookupA_sound hw hv (opnd_den hS (hc x (by simp [Op.operands])) hx) (opnd_den hS (hc k (by simp [Op.operands])) hk)
    exact .value (by simp [execOp, hrun]) hz (.refl hw)
  · -- mapUpdate
    rename_i t x k v
    simp only [Option.bind_eq_bind, Option.bind_eq_some_iff, Option.pure_def, Option.some.injEq] at hr
    obtain ⟨xv, hx, kv, hk, vv, hv, h', hh, rfl⟩ := hr
    obtain ⟨w', hrun, hxt⟩ := updateA_sound hw hh (opnd_den hS (hc x (by simp [Op.operands])) hx) (opnd_den hS (hc k (by simp [Op.operands])) hk) (opnd_den hS (hc v (by simp [Op.operands])) hv)
    exact .skip (by simp [execOp, hrun]) hxt
  · -- insert
    rename_i t x k v
    simp only [Option.bind_eq_bind, Option.bind_eq_some_iff, Option.pure_def, Option.some.injEq] at hr
    obtain ⟨xv, hx, kv, hk, vv, hv, h', hh, rfl⟩ := hr
    obtain ⟨w', hrun, hxt⟩ := updateA_sound hw hh (opnd_den hS (hc x (by simp [Op.operands])) hx) (opnd_den hS (hc k (by simp [Op.operands])) hk) (opnd_den hS (hc v (by simp [Op.operands])) hv)
    exact .skip (by simp [execOp, hrun]) hxt
  · -- mapEntry
    rename_i t x k
    simp only [Option.bind_eq_bind, Option.bind_eq_some_iff, Option.pure_def, Option.some.injEq] at hr
    obtain ⟨xv, hx, kv, hk, ⟨v, h'⟩, hh, rfl⟩ := hr
    obtain ⟨z, w', hrun, hz, hxt⟩ := entryA_sound hw hh (opnd_den hS (hc x (by simp [Op.operands])) hx) (opnd_den hS (hc k (by simp [Op.operands])) hk)
    exact .value (by simp [execOp, hrun]) hz hxt
  · -- entryStore
    rename_i t x s v
    simp only [Option.bind_eq_bind, Option.bind_eq_some_iff, Option.pure_def, Option.some.injEq] at hr
    obtain ⟨xv, hx, sv, hs, vv, hv, h', hh, rfl⟩ := hr
    obtain ⟨w', hrun, hxt⟩ := entryStoreA_sound (P := P) (t := t) hw hh (opnd_den hS (hc x (by simp [Op.operands])) hx) (opnd_den hS (hc s (by simp [Op.operands])) hs) (opnd_den hS (hc v (by simp [Op.operands])) hv)
    exact .skip (by simp [execOp, hrun]) hxt
  · -- range
    rename_i t x
    simp only [Option.bind_eq_bind, Option.bind_eq_some_iff] at hr
    obtain ⟨xv, hx, hr⟩ := hr
    have hd := opnd_den hS (hc x (by simp [Op.operands])) hx
    split at hr
    · rename_i kt e hdt
      simp only [Option.pure_def, Option.some.injEq] at hr
      subst hr
      have he := denNilMap hd
      obtain ⟨h1, h2⟩ := new_plain hw (.mapIter none 0 [] 0) (.mapIter none 0 #[] 0) rfl ⟨none, rfl, rfl⟩
      exact .value (z := .pointer (some ⟨w.heap.size, 0, none⟩)) (by simp [execOp, Instr.range, he, run_underlying hdt]) (by simp [AV.den, h2]) h1
    · rename_i kt e m hdt
      obtain ⟨c, hcm, he⟩ := denMap hd
      split at hr
      · rename_i es clock hbs
        simp only [Option.pure_def, Option.some.injEq] at hr
        subst hr
        obtain ⟨es', _, hm, hg⟩ := map_obj (P := P) hw hcm hbs
        obtain ⟨h1, h2⟩ := new_plain hw (.mapIter (some m) clock [] clock) (.mapIter (some c) clock #[] clock) rfl ⟨some c, rfl, c, (le_plain E w.heap.size).ρ _ _ hcm, rfl⟩
        exact .value (z := .pointer (some ⟨w.heap.size, 0, none⟩)) (by simp [execOp, Instr.range, he, run_underlying hdt, hg]) (by simp [AV.den, h2]) h1
      · cases hr
    · cases hr
  · -- next
    rename_i it
    simp only [Option.bind_eq_bind, Option.bind_eq_some_iff] at hr
    obtain ⟨xv, hx, hr⟩ := hr
    have hd := opnd_den hS (hc it (by simp [Op.operands])) hx
    split at hr
    · rename_i b
      obtain ⟨c, hcb, he⟩ := denPtr hd
      simp only [Option.map_eq_some_iff] at hr
      obtain ⟨L, hL, rfl⟩ := hr
      obtain ⟨p, hp, z, w', hrun, hz, hxt⟩ := nextA_sound (P := P) (ty := type) hw hL hcb
      exact ⟨(some p.1, p.2), List.mem_map.2 ⟨p, hp, rfl⟩, E, w', hxt, z, by simp [execOp, he, hrun], hz⟩
    · cases hr
  · -- entry
    rename_i it
    simp only [Option.bind_eq_bind, Option.bind_eq_some_iff] at hr
    obtain ⟨xv, hx, hr⟩ := hr
    have hd := opnd_den hS (hc it (by simp [Op.operands])) hx
    split at hr
    · rename_i b
      obtain ⟨c, hcb, he⟩ := denPtr hd
      simp only [Option.map_eq_some_iff] at hr
      obtain ⟨v, hv, rfl⟩ := hr
      obtain ⟨z, hrun, hz⟩ := atA_sound (P := P) hw hv hcb
      exact .value (by simp [execOp, he, hrun]) hz (.refl hw)
    · cases hr
  · -- typeAssert
    rename_i x xt t ok
    simp only [Option.bind_eq_bind, Option.bind_eq_some_iff, Option.pure_def, Option.some.injEq] at hr
    obtain ⟨xv, hx, v, hv, rfl⟩ := hr
    obtain ⟨z, hrun, hz⟩ := assertA_sound (P := P) (xt := xt) hv (opnd_den hS (hc x (by simp [Op.operands])) hx) w
    exact .value (by simp [execOp, hrun]) hz (.refl hw)
  · -- len
    rename_i args ts
    simp only [Option.bind_eq_bind, Option.bind_eq_some_iff] at hr
    obtain ⟨t, ht, xs, hxs, hr⟩ := hr
    have hl := callArgs (c := ⟨.builtin .len, args, ts⟩) hS rfl hc hxs
    rw [exec_builtin rfl, args_toArray]
    split at hr
    · rename_i kt e b hdt
      obtain ⟨u, hu, e1⟩ := denL_one hl
      have e' : (args.toList.map a.eval) = [u] := e1
      obtain ⟨c, hcb, rfl⟩ := denMap hu
      split at hr
      · rename_i es clock hbs
        simp only [Option.pure_def, Option.some.injEq] at hr
        subst hr
        obtain ⟨es', _, hm, hg⟩ := map_obj (P := P) hw hcb hbs
        refine .value (z := .int .i64 (es.length : Nat)) ?_ (by simp [AV.den, IE.den]) (.refl hw)
        simp [builtin, Builtin.len_, ht, e', run_underlying hdt, hg, goInt, hm.1]
      · cases hr
    · cases hr
  · -- delete
    rename_i args ts
    simp only [Option.bind_eq_bind, Option.bind_eq_some_iff] at hr
    obtain ⟨t, ht, xs, hxs, hr⟩ := hr
    have hl := callArgs (c := ⟨.builtin .delete, args, ts⟩) hS rfl hc hxs
    rw [exec_builtin rfl, args_toArray]
    split at hr
    · rename_i x k
      simp only [Option.bind_eq_some_iff, Option.pure_def, Option.some.injEq] at hr
      obtain ⟨h', hh, rfl⟩ := hr
      obtain ⟨u, v, hu, hv, e1⟩ := denL_two hl
      have e' : (args.toList.map a.eval) = [u, v] := e1
      obtain ⟨w', hrun, hxt⟩ := deleteA_sound (P := P) (ty := type) hw ht hh hu hv
      refine .value (z := .tuple #[]) ?_ (undefA_den E) hxt
      rw [e']
      simp [builtin, hrun]
    · cases hr
  · -- clear
    rename_i args ts
    simp only [Option.bind_eq_bind, Option.bind_eq_some_iff] at hr
    obtain ⟨t, ht, xs, hxs, hr⟩ := hr
    have hl := callArgs (c := ⟨.builtin .clear, args, ts⟩) hS rfl hc hxs
    rw [exec_builtin rfl, args_toArray]
    have ht' : ts[0]? = some t := ht
    split at hr
    · rename_i kt e hdt
      simp only [Option.pure_def, Option.some.injEq] at hr
      subst hr
      obtain ⟨u, hu, e1⟩ := denL_one hl
      have e' : (args.toList.map a.eval) = [u] := e1
      obtain rfl := denNilMap hu
      exact .value (z := .tuple #[]) (by simp [builtin, Builtin.clear_, ht', e', run_underlying hdt]) (undefA_den E) (.refl hw)
    · rename_i kt e b hdt
      obtain ⟨u, hu, e1⟩ := denL_one hl
      have e' : (args.toList.map a.eval) = [u] := e1
      obtain ⟨c, hcb, rfl⟩ := denMap hu
      split at hr
      · rename_i es clock hbs
        simp only [Option.pure_def, Option.some.injEq] at hr
        subst hr
        obtain ⟨es', _, hm, hg⟩ := map_obj (P := P) hw hcb hbs
        obtain ⟨w', hset, hxt⟩ := setMap_sound (P := P) (es2 := []) (es2' := #[]) (clock2 := clock) hw hcb hbs ⟨rfl, fun i k v n hi => by simp at hi⟩
        exact .value (z := .tuple #[]) (by simp [builtin, Builtin.clear_, ht', e', run_underlying hdt, hg, hset]) (undefA_den E) hxt
      · cases hr
    · rename_i e hdt
      simp only [Option.pure_def, Option.some.injEq] at hr
      subst hr
      obtain ⟨u, hu, e1⟩ := denL_one hl
      have e' : (args.toList.map a.eval) = [u] := e1
      obtain rfl := denNilSlice hu
      exact .value (z := .tuple #[]) (by simp [builtin, Builtin.clear_, ht', e', run_underlying hdt]) (undefA_den E) (.refl hw)
    · rename_i e b o' n cap hdt
      obtain ⟨u, hu, e1⟩ := denL_one hl
      have e' : (args.toList.map a.eval) = [u] := e1
      obtain ⟨c, m, hcb, hm, hle, rfl⟩ := denSlice hu
      split at hr
      · rename_i hn0
        simp only [Option.pure_def, Option.some.injEq] at hr
        subst hr hn0
        exact .value (z := .tuple #[]) (by simp [builtin, Builtin.clear_, ht', e', run_underlying hdt]) (undefA_den E) (.refl hw)
      · rename_i hn0
        simp only [Option.bind_eq_some_iff, Option.pure_def, Option.some.injEq] at hr
        obtain ⟨z, hz, h', hst, rfl⟩ := hr
        obtain ⟨i, zv, hi, hzv, hzd, hzr⟩ := zero_cells (P := P) (E := E) hz
        obtain ⟨w', hrun, hx⟩ := storeFrom_sound (P := P) hcb _ o' 0 h h' w _ hw (denL_copies hzd n) (by simpa using hst)
        refine .value (z := .tuple #[]) ?_ (undefA_den E) hx
        have hcl : (Builtin.clear_ ts type #[.slice (some ⟨c, o', none⟩) n m]).run P w = .ok (.tuple #[]) w' := by
          unfold Builtin.clear_
          cases n with
          | zero => exact absurd rfl hn0
          | succ n => simp [ht', run_underlying hdt, hzr, zeroCells_eq, hrun]
        rw [e']
        simp [builtin, hcl]
    · cases hr
  · -- a map's copy
    rename_i f args ts
    simp only [Option.bind_eq_bind, Option.bind_eq_some_iff] at hr
    obtain ⟨p, hp, hr⟩ := hr
    have hd := opnd_den hS (hc f (by simp [Op.operands, Call.operands])) hp
    split at hr
    · rename_i g x y
      simp only [Option.bind_eq_some_iff] at hr
      obtain ⟨xs, hxs, fn, hfn, hr⟩ := hr
      have hl := callArgs (c := ⟨.value f, args, ts⟩) hS rfl hc hxs
      have hnm := plainNames_spec hN hfn
      split at hr
      · -- do two rows overlap?
        rename_i hname
        simp only [Bool.and_eq_true, beq_iff_eq] at hname
        obtain ⟨⟨⟨⟨⟨hnb, hname⟩, hnext⟩, hg1⟩, hg2⟩, hg3⟩ := hname
        simp only [Option.bind_eq_some_iff] at hr
        obtain ⟨pt, hpt, hr⟩ := hr
        split at hr
        · rename_i b1 o1 n1 k1 b2 o2 n2 k2 e huv hdt
          simp only [Option.bind_eq_some_iff] at hr
          obtain ⟨z, hz, hr⟩ := hr
          split at hr
          · cases hr
          · rename_i hz0
            split at hr
            · cases hr
            · rename_i hcond
              simp only [Bool.or_eq_true, decide_eq_true_eq, not_or, Bool.not_eq_true', Bool.not_eq_false] at hcond
              obtain ⟨⟨⟨hn1, hn2⟩, hbne⟩, hapart⟩ := hcond
              simp only [Option.pure_def, Option.some.injEq] at hr
              subst hr
              obtain ⟨x', y', hx', hy', he⟩ := denFunc hd
              have hall := denL_append (denL_append hx' hl) hy'
              rw [huv] at hall
              obtain ⟨u, v, hu, hv, hpq⟩ := denL_two hall
              obtain ⟨c1, m1, hc1, _, _, rfl⟩ := denSlice hu
              obtain ⟨c2, m2, hc2, _, _, rfl⟩ := denSlice hv
              obtain ⟨cs1, t1, mo1, kl1, cs2, t2, mo2, kl2, hbs1, hbs2, hkl, hol⟩ := apartA_spec hapart
              obtain ⟨ob1, hob1, r1, fz1, rfl, hf1, hl1, _, _⟩ := hw.obj b1 c1 _ hc1 hbs1
              obtain ⟨ob2, hob2, r2, fz2, rfl, _, _, _, _⟩ := hw.obj b2 c2 _ hc2 hbs2
              have hcne : c1 ≠ c2 := fun h12 => by
                subst h12
                rcases hw.inj b1 b2 c1 _ _ hbne hc1 hc2 hbs1 hbs2 (by intro h; cases h) (by intro h; cases h) with ⟨hon, _⟩ | ⟨this, _⟩
                · cases hon
                simp only [AObj.cls?, Option.some.injEq] at this
                exact hkl this
              have hfr : w.frozen? ⟨c1, o1, none⟩ = false := by
                have := hf1 o1 (by omega)
                obtain ⟨lo, hi⟩ := fz1
                simp only [World.frozen?, hob1]
                have h2 : lo ≤ o1 → hi ≤ o1 := by simp only at this; omega
                simpa using h2
              obtain ⟨bb, w', hrun, hw'⟩ := overlaps_run (P := P) (rs := fn.resultTypes) (k1 := m1) (k2 := m2) (o2 := o2) hpt hdt hz hz0 hn1 hn2 hcne hob1 hob2 hfr
              have hargs : x'.toArray ++ args.map a.eval ++ y'.toArray = (x' ++ args.toList.map a.eval ++ y').toArray := by
                apply Array.ext'; simp
              have hex : (execOp a.eval { dst := dst, op := .call { callee := .value f, args := args, argTypes := ts }, type := type, pos := pos, after := after, guard := guard }).run P w = .ok (.value (.bool bb)) w' := by
                simp only [execOp, resolve, Deferred.ofValue, he, Sem.run_bind, Sem.run_pure, Result.andThen_ok, invoke]
                rw [run_callFunc_extern hfn hnm hnb (by simpa using hnext) (find_overlaps hname (by simpa using hg1) (by simpa using hg2) (by simpa using hg3)), hargs, hpq]
                simp [hrun]
              have hxt : Ext E B w E h w' := by rcases hw' with rfl | rfl; exact .refl hw; exact (Ext.refl hw).drew
              cases bb with
              | true => exact ⟨_, List.mem_cons_self, E, w', hxt, _, hex, by simp [AV.den, BE.den]⟩
              | false => exact ⟨_, List.mem_cons_of_mem _ (List.mem_singleton.2 rfl), E, w', hxt, _, hex, by simp [AV.den, BE.den]⟩
        · cases hr
      split at hr
      · rename_i hname
        simp only [Bool.and_eq_true, beq_iff_eq] at hname
        obtain ⟨⟨hnb, hname⟩, hnext⟩ := hname
        split at hr
        · rename_i t m huv
          split at hr
          · rename_i es clock hbs
            simp only [Option.pure_def, Option.some.injEq] at hr
            subst hr
            obtain ⟨x', y', hx', hy', he⟩ := denFunc hd
            have hall := denL_append (denL_append hx' hl) hy'
            rw [huv] at hall
            obtain ⟨u, hu, hpq⟩ := denL_one hall
            obtain ⟨q, hq, rfl⟩ := denIface hu
            obtain ⟨c, hcm, rfl⟩ := denMap hq
            obtain ⟨es', _, hm, hg⟩ := map_obj (P := P) hw hcm hbs
            have hle := le_plain E w.heap.size
            obtain ⟨h1, h2⟩ := new_plain hw (.map es clock) (.map es' clock) rfl ⟨es', rfl, hm.1, fun i k v n hi => by
              obtain ⟨x, y, hx, hy, he⟩ := hm.2 i k v n hi
              exact ⟨x, y, AV.den_mono hle _ _ hx, AV.den_mono hle _ _ hy, he⟩⟩
            refine .value (z := .iface t (.map (some w.heap.size))) ?_ (by simp [AV.den, h2]) h1
            have hargs : x'.toArray ++ args.map a.eval ++ y'.toArray = (x' ++ args.toList.map a.eval ++ y').toArray := by
              apply Array.ext'; simp
            simp only [execOp, resolve, Deferred.ofValue, he, Sem.run_bind, Sem.run_pure, Result.andThen_ok, invoke]
            rw [run_callFunc_extern hfn hnm hnb (by simpa using hnext) (find_clone hname), hargs, hpq]
            have hcl : Extern.MapsClone.clone [Value.iface t (.map (some c))].toArray = (getObj c >>= fun o => match o with
              | .map entries clock => newObj (.map entries clock) >>= fun r => pure (.iface t (.map (some r)))
              | _ => stuck "maps.clone: a map expected") := rfl
            rw [hcl]
            simp [hg]
          · cases hr
        · cases hr
      · cases hr
    · cases hr
  · cases hr

end
end Go.Sx
