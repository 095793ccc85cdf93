/-
  A WALKER THAT COMPUTES, ITS TWELFTH PART: operations that ask of memory.
-/
import Derived.Test.YtbgjceknbcpgjaaSzK
namespace Go.Sx
set_option linter.unusedVariables false
section
variable {P : Program} {E : Env} {B : Bd} {h : Hp} {w : World}

theorem small_fits {n y : Nat} (h1 : ¬ ((8 * n + 4096) * y > 2 ^ 47)) : n * y ≤ 2 ^ 47 := by
  have : n * y ≤ (8 * n + 4096) * y := Nat.mul_le_mul_right y (by omega)
  omega

theorem loadFrom_length {b : Nat} : ∀ (n o : Nat) (vs : List AV), loadFrom h b o n = some vs → vs.length = n
  | 0, o, vs, hv => by simp [loadFrom] at hv; subst hv; rfl
  | n + 1, o, vs, hv => by
    simp only [loadFrom, Option.bind_eq_bind, Option.bind_eq_some_iff, Option.pure_def] at hv
    obtain ⟨v, _, r, hr, hv⟩ := hv
    injection hv with hv
    subst hv
    simp [loadFrom_length n _ r hr]

theorem partsA_sound (hw : WR E B h w) {ts : Array TypeId} {ty st xt e : TypeId} {i : TypeInfo} {zv : Value} {x zz : AV} {xv : Value} {z y n : Nat} {new : List AV} (hp : partsA P h xt x z y zz = some (n, new)) (hxv : x.den E = some xv)
    (h0 : ts[0]? = some st) (h1 : ts[1]? = some xt) (hd : P.underlying st = some (.slice e)) (hi : P.info? e = some i) (hzv : i.zero = some zv) (hiz : i.size = z) (hiy : i.bytes = y) (hzd : AV.denL E zz.cells = some zv.cells.toList) (hzl : zz.cells.length = z) :
    ∃ nl, AV.denL E new = some nl ∧ AppOk P ts ty e i zv w xv n nl := by
  unfold partsA at hp
  split at hp
  · rename_i k hxd
    simp only [Option.bind_eq_bind, Option.bind_eq_some_iff] at hp
    obtain ⟨m, hm, hp⟩ := hp
    split at hp
    · cases hp
    · rename_i hc
      simp only [Bool.or_eq_true, decide_eq_true_eq, not_or] at hc
      obtain ⟨⟨hc1, hc2⟩, hc3⟩ := hc
      simp only [Option.pure_def, Option.some.injEq, Prod.mk.injEq] at hp
      obtain ⟨rfl, rfl⟩ := hp
      obtain ⟨k', rfl⟩ := lit_den hm hxv
      exact ⟨_, denL_copies hzd _, append_zeros h0 h1 hd hxd hi hzv (by have := denL_length hzd; omega) (by omega) (by omega) (by rw [hiy]; omega)⟩
  · rename_i d hni hxd
    have hd' : notInt d = true := by cases d <;> first | rfl | exact (hni _ rfl).elim
    simp only [Option.bind_eq_bind, Option.bind_eq_some_iff, Option.pure_def, Option.some.injEq, Prod.mk.injEq] at hp
    obtain ⟨n', hn, new', hnew, rfl, rfl⟩ := hp
    obtain ⟨nl, hnld, hnr⟩ := firstA_sound (P := P) hw hnew hxv
    obtain ⟨nl2, hnld2, hnr2⟩ := firstA_sound (P := P) hw.drew hnew hxv
    rw [hnld] at hnld2
    injection hnld2 with hnld2
    subst hnld2
    have hlen := lenOfA_sound (P := P) hn hxv
    rw [← hiz] at hnr hnr2
    refine ⟨nl, hnld, ⟨fun hold hfit hsmall hb => append_grow h0 h1 hd hxd hd' hi hzv hlen hnr2 hold hfit hsmall hb, fun hfit hs => append_fits h0 h1 hd hxd hd' hi hlen hnr hfit (by simpa using hs), fun h0' => ?_⟩⟩
    subst h0'
    exact append_none h0 h1 hd hxd hd' hi hlen hnr
  · cases hp

theorem fitsA_spec {bs : Bl} {b i n m : Nat} (h : fitsA bs b i n m = true) : ∃ c t z lo hi k, bs[b]? = some (.cells c t (some (i, z, lo, hi)) k) ∧ n ≤ lo := by
  unfold fitsA at h
  split at h
  · rename_i c t j z lo hi k hbs
    simp only [Bool.and_eq_true, decide_eq_true_eq] at h
    obtain ⟨⟨rfl, h1⟩, h2⟩ := h
    exact ⟨c, t, z, lo, hi, k, hbs, h1⟩
  · cases h

theorem growsA_spec {bs : Bl} {b i n : Nat} (h : growsA bs b i n = true) : ∃ c t z lo hi k, bs[b]? = some (.cells c t (some (i, z, lo, hi)) k) ∧ hi ≠ 0 ∧ hi < n := by
  unfold growsA at h
  split at h
  · rename_i c t j z lo hi k hbs
    simp only [Bool.and_eq_true, decide_eq_true_eq] at h
    obtain ⟨⟨rfl, h1⟩, h2⟩ := h
    exact ⟨c, t, z, lo, hi, k, hbs, h1, h2⟩
  · cases h

theorem appendA_sound (hw : WR E B h w) {ts : Array TypeId} {ty : TypeId} {s x v : AV} {sv xv : Value} {h' : Hp} (hs : appendA P h ts.toList s x = some (v, h'))
    (hsv : s.den E = some sv) (hxv : x.den E = some xv) :
    ∃ E' z w', (Builtin.append_ ts ty #[sv, xv]).run P w = .ok z w' ∧ v.den E' = some z ∧ Ext E B w E' h' w' := by
  unfold appendA at hs
  simp only [Option.bind_eq_bind, Option.bind_eq_some_iff] at hs
  obtain ⟨st, hst, hs⟩ := hs
  have h0 : ts[0]? = some st := by simpa using hst
  split at hs
  · rename_i e hd
    simp only [Option.bind_eq_some_iff] at hs
    obtain ⟨z, hz, y, hy, zz, hzz, xt, hxt, hs⟩ := hs
    have h1 : ts[1]? = some xt := by simpa using hxt
    split at hs
    · cases hs
    · rename_i hzl
      simp only [Decidable.not_not] at hzl
      obtain ⟨i, hi, hiy⟩ := run_bytes hy
      obtain ⟨i', zv, hi', hzv, hzd, hzr⟩ := zero_cells (P := P) (E := E) hzz
      rw [hi] at hi'
      injection hi' with hi'
      subst hi'
      have hiz : i.size = z := by
        unfold size at hz
        rw [hi] at hz
        simpa using hz
      have hzs : zv.cells.toList.length = z := by have := denL_length hzd; omega
      simp only [Option.bind_eq_some_iff] at hs
      obtain ⟨⟨n, new⟩, hparts, hs⟩ := hs
      obtain ⟨nl, hnld, hap⟩ := partsA_sound (P := P) (ty := ty) hw hparts hxv h0 h1 hd hi hzv hiz hiy hzd hzl
      simp only at hs
      split at hs
      · cases hs
      · rename_i hnl
        simp only [Decidable.not_not] at hnl
        have hnll : nl.length = n * z := by rw [denL_length hnld, hnl]
        split at hs
        · -- onto no row
          obtain rfl := denNilSlice hsv
          split at hs
          · rename_i hn0
            simp only [Option.pure_def] at hs
            injection hs with hs
            injection hs with hs1 hs2
            subst hs1
            subst hs2
            exact ⟨E, _, w, hap.none hn0, hsv, .refl hw⟩
          · rename_i hn0
            split at hs
            · cases hs
            · rename_i hcond
              simp only [Bool.or_eq_true, decide_eq_true_eq, not_or] at hcond
              obtain ⟨⟨hc1, hc2⟩, hc3⟩ := hcond
              simp only [Option.pure_def] at hs
              injection hs with hs
              injection hs with hs1 hs2
              subst hs1
              subst hs2
              obtain ⟨cap, hcap, hr⟩ := hap.grow (base := none) (sLen := 0) (sCap := 0) (old := #[]) (by simp [Builtin.firstCells]) (by omega) (by omega) (by rw [Nat.zero_add, hiy]; exact small_fits hc1)
              obtain ⟨hx, hden⟩ := newRow_sound hw.drew hnld (r := copiesV zv.cells.toList (cap - (0 + n))) e z n cap
                (by rw [List.length_append, copiesV_length, hnll, hzs, ← Nat.add_mul]; congr 1; omega) (by omega)
              refine ⟨_, _, _, ?_, hden, hx.of_drew⟩
              rw [hr]
              simp
        · -- onto a row whose capacity is known
          rename_i b o len cap
          obtain ⟨c, cap', hc, hcap', hle, rfl⟩ := denSlice hsv
          simp only [Cap.den, Option.some.injEq] at hcap'
          subst hcap'
          split at hs
          · rename_i hfit
            simp only [Option.bind_eq_some_iff, Option.pure_def] at hs
            obtain ⟨h2, hst2, hs⟩ := hs
            injection hs with hs
            injection hs with hs1 hs2
            subst hs1
            subst hs2
            obtain ⟨w', hr, he⟩ := storeFrom_sound (P := P) hc new (o + len * z) 0 h h2 w nl hw hnld (by simpa using hst2)
            refine ⟨E, _, w', hap.fits (a := ⟨c, o, none⟩) hfit (by rw [Addr.add_lit, hiz]; simpa using hr), ?_, he⟩
            simp only [AV.den, hc, Cap.den]
            rw [if_pos hfit]
          · rename_i hfit
            split at hs
            · cases hs
            · rename_i hcond
              simp only [Bool.or_eq_true, decide_eq_true_eq, not_or] at hcond
              obtain ⟨⟨hc1, hc2⟩, hc3⟩ := hcond
              simp only [Option.bind_eq_some_iff, Option.pure_def] at hs
              obtain ⟨old, hold, hs⟩ := hs
              injection hs with hs
              injection hs with hs1 hs2
              subst hs1
              subst hs2
              obtain ⟨ol, hol, holn, hor⟩ := loadFrom_run (P := P) hw.drew hc hold
              obtain ⟨cp, hcp, hr⟩ := hap.grow (base := some ⟨c, o, none⟩) (sLen := len) (sCap := cap) (old := ol.toArray)
                (by rw [hiz]; simpa [Builtin.firstCells] using hor) (by omega) (by omega) (by rw [hiy]; exact small_fits hc1)
              obtain ⟨hx, hden⟩ := newRow_sound hw.drew (denL_append hol hnld) (r := copiesV zv.cells.toList (cp - (len + n))) e z (len + n) cp
                (by rw [List.length_append, List.length_append, copiesV_length, hnll, hzs, holn, ← Nat.add_mul, ← Nat.add_mul]; congr 1; omega) (by omega)
              refine ⟨_, _, _, ?_, hden, hx.of_drew⟩
              rw [hr]
              simp
        · -- onto a row whose capacity is open
          rename_i b o len j sub
          obtain ⟨c, cap', hc, hcap', hle, rfl⟩ := denSlice hsv
          split at hs
          · cases hs
          · rename_i ho
            simp only [Bool.or_eq_true, decide_eq_true_eq, not_or, Decidable.not_not] at ho
            obtain ⟨rfl, rfl⟩ := ho
            obtain ⟨kk, hkk, _, he⟩ := Cap.den_var.1 hcap'
            rw [Nat.sub_zero] at he
            subst he
            split at hs
            · rename_i hn0
              subst hn0
              simp only [Option.pure_def] at hs
              injection hs with hs
              injection hs with hs1 hs2
              subst hs1
              subst hs2
              have hnl0 : nl = [] := List.eq_nil_of_length_eq_zero (by simpa using hnll)
              subst hnl0
              exact ⟨E, _, w, hap.fits (a := ⟨c, 0, none⟩) (by omega) (by simp [storeCells]), hsv, .refl hw⟩
            · rename_i hn0
              split at hs
              · -- it is known to fit
                rename_i hfits
                obtain ⟨cs, t, z', lo, hi', k, hbs, hlo⟩ := fitsA_spec hfits
                simp only [Option.bind_eq_some_iff, Option.pure_def] at hs
                obtain ⟨h2, hst2, hs⟩ := hs
                injection hs with hs
                injection hs with hs1 hs2
                subst hs1
                subst hs2
                obtain ⟨ob, hob, c', fz, _, _, _, _, n0, hn0', _, hlo', _⟩ := hw.obj b c _ hc hbs
                rw [hkk] at hn0'
                injection hn0' with hn0'
                subst hn0'
                obtain ⟨w', hr, he⟩ := storeFrom_sound (P := P) hc new (len * z) 0 h h2 w nl hw hnld (by simpa using hst2)
                refine ⟨E, _, w', hap.fits (a := ⟨c, 0, none⟩) (by omega) (by rw [Addr.add_lit, hiz]; simpa using hr), ?_, he⟩
                simp only [AV.den, hc, hcap']
                rw [if_pos (by omega)]
              · split at hs
                · cases hs
                · rename_i hcond
                  simp only [Bool.or_eq_true, decide_eq_true_eq, not_or] at hcond
                  obtain ⟨⟨hc1, hc2⟩, hc3⟩ := hcond
                  split at hs
                  · -- it is known not to fit
                    rename_i hgrows
                    obtain ⟨cs, t, z', lo, hi', k, hbs, hh1, hh2⟩ := growsA_spec hgrows
                    simp only [Option.bind_eq_some_iff, Option.pure_def] at hs
                    obtain ⟨old, hold, hs⟩ := hs
                    injection hs with hs
                    injection hs with hs1 hs2
                    subst hs1
                    subst hs2
                    obtain ⟨ob, hob, c', fz, _, _, _, _, n0, hn0', _, _, hhi⟩ := hw.obj b c _ hc hbs
                    rw [hkk] at hn0'
                    injection hn0' with hn0'
                    subst hn0'
                    obtain ⟨ol, hol, holn, hor⟩ := loadFrom_run (P := P) hw.drew hc hold
                    obtain ⟨cp, hcp, hr⟩ := hap.grow (base := some ⟨c, 0, none⟩) (sLen := len) (sCap := cap') (old := ol.toArray)
                      (by rw [hiz]; simpa [Builtin.firstCells] using hor) (by omega) (by omega) (by rw [hiy]; exact small_fits hc1)
                    obtain ⟨hx, hden⟩ := newRow_sound hw.drew (denL_append hol hnld) (r := copiesV zv.cells.toList (cp - (len + n))) e z (len + n) cp
                      (by rw [List.length_append, List.length_append, copiesV_length, hnll, hzs, holn, ← Nat.add_mul, ← Nat.add_mul]; congr 1; omega) (by omega)
                    refine ⟨_, _, _, ?_, hden, hx.of_drew⟩
                    rw [hr]
                    simp
                  · split at hs
                    · rename_i cs t j' z' lo hi' k hbs
                      split at hs
                      · cases hs
                      · rename_i hcond2
                        simp only [Bool.or_eq_true, decide_eq_true_eq, not_or, Decidable.not_not, Bool.not_eq_true', Bool.not_eq_false] at hcond2
                        obtain ⟨⟨⟨rfl, rfl⟩, rfl⟩, hone⟩ := hcond2
                        simp only [Option.bind_eq_some_iff, Option.pure_def] at hs
                        obtain ⟨old, hold, hs⟩ := hs
                        injection hs with hs
                        injection hs with hs1 hs2
                        subst hs1
                        subst hs2
                        by_cases hfit : len + n ≤ cap'
                        · obtain ⟨ol, hol, holn, hoc⟩ := loadFrom_den hw hc _ _ _ hold
                          obtain ⟨w', hr, he, hden⟩ := inPlace_sound (P := P) hw hc hbs hkk hold hol hoc hnld n hnl hfit hone
                          refine ⟨_, _, w', hap.fits (a := ⟨c, 0, none⟩) hfit (by rw [Addr.add_lit, hiz]; simpa using hr), hden, he⟩
                        · have hw2 := dirt_wr hw.drew k (len * z') (len * z' + new.length)
                          obtain ⟨ol, hol, holn, hor⟩ := loadFrom_run (P := P) hw.drew hc hold
                          obtain ⟨cp, hcp, hr⟩ := hap.grow (base := some ⟨c, 0, none⟩) (sLen := len) (sCap := cap') (old := ol.toArray)
                            (by rw [hiz]; simpa [Builtin.firstCells] using hor) (by omega) (by omega) (by rw [hiy]; exact small_fits hc1)
                          obtain ⟨hx, hden⟩ := newRowIn_sound hw2 (denL_append hol hnld) (r := copiesV zv.cells.toList (cp - (len + n))) t z' k (len + n) cp
                            (by rw [List.length_append, List.length_append, copiesV_length, hnll, hzs, holn, ← Nat.add_mul, ← Nat.add_mul]; congr 1; omega) (by omega) (by rw [dirty_len]; exact cls_lt hw hbs rfl)
                          refine ⟨_, _, _, ?_, hden, hx.of_drew⟩
                          rw [hr]
                          simp
                    · cases hs
        · cases hs
  · cases hs

/-- A block that is no row is laid anew. -/
theorem setObj_sound (hw : WR E B h w) {b c : Nat} {o o' : AObj} {ob : Obj} (hb : E.ρ[b]? = some c) (hbs : h.bs[b]? = some o) (hno : o.cls? = none) (hno' : o'.cls? = none) (hr : ORel E o' ob) (hng : ∀ cs i, o ≠ .given cs i := by intro _ _ h; cases h) (hnf : o ≠ .free := by intro h; cases h) (hnr : ∀ r t ks n c, o ≠ .row r t ks n c := by intro _ _ _ _ _ h; cases h) (hng2 : ∀ r t ks n i q, o ≠ .grow r t ks n i q := by intro _ _ _ _ _ _ h; cases h) :
    (setObj c ob).run P w = .ok () { w with heap := w.heap.setIfInBounds c ob } ∧ Ext E B w E { h with bs := h.bs.set b o' } { w with heap := w.heap.setIfInBounds c ob } := by
  obtain ⟨old, hold, hrel⟩ := hw.obj b c o hb hbs
  have hlt := hw.lt hb
  have hnc : ∀ a e f, old ≠ .cells a e f := by
    intro a e f he
    subst he
    cases o with
    | cells c t m k => simp [AObj.cls?] at hno
    | strIter s p => simp [ORel] at hrel
    | txtIter s p => obtain ⟨_, h1⟩ := hrel; cases h1
    | map es n => obtain ⟨_, h1, _⟩ := hrel; cases h1
    | mapIter m s l n => obtain ⟨_, h1, _⟩ := hrel; cases h1
    | loop => obtain ⟨_, _, _, h1, _⟩ := hrel; cases h1
    | deferred b => simp [ORel] at hrel
    | gone k => simp [AObj.cls?] at hno
    | given cs i => exact absurd rfl (hng cs i)
    | free => exact absurd rfl hnf
    | row r t ks n c => exact absurd rfl (hnr r t ks n c)
    | grow r t ks n i q => exact absurd rfl (hng2 r t ks n i q)
  have huniq : ∀ (b2 : Nat) (o2 : AObj), b2 ≠ b → E.ρ[b2]? = some c → h.bs[b2]? = some o2 → o2 = .free := by
    intro b2 o2 hne h2 ho2
    by_cases hf : o2 = .free
    · exact hf
    exfalso
    rcases hw.inj b b2 c o o2 (Ne.symm hne) hb h2 hbs ho2 hnf hf with ⟨hon, _⟩ | this
    · cases o with
      | grow r t ks n i q => exact hng2 r t ks n i q rfl
      | _ => cases hon
    rw [hno] at this
    simp at this
  have hblt : b < h.bs.length := Bl.lt_of_get hbs
  refine ⟨?_, .refl E, ⟨by simp [hw.lenρ], hw.lenκ, ?_, hw.base, ?_, by simpa using hw.bsize, ?_, hw.giv⟩, ⟨rfl, rfl, rfl, by simp, ?_, fun b c hb => Or.inl ⟨b, hb⟩⟩⟩
  · simp only [setObj, Sem.run]
    rw [hold]
    cases old with
    | cells a e f => exact absurd rfl (hnc a e f)
    | _ => rfl
  · intro b2 c2 o2 h2 ho2
    by_cases hbb : b2 = b
    · subst hbb
      rw [hb] at h2
      injection h2 with h2
      subst h2
      simp only [Bl.getElem?_set_self hblt, Option.some.injEq] at ho2
      subst ho2
      exact ⟨ob, by simp [hlt], hr⟩
    · simp only [Bl.getElem?_set_ne (Ne.symm hbb)] at ho2
      obtain ⟨x, hx, hrx⟩ := hw.obj b2 c2 o2 h2 ho2
      by_cases hcc : c2 = c
      · subst hcc
        have := huniq b2 o2 hbb h2 ho2
        subst this
        exact ⟨ob, by simp [hlt], trivial⟩
      refine ⟨x, ?_, hrx⟩
      simp only
      rw [Array.getElem?_setIfInBounds_ne (fun e => hcc e.symm)]
      exact hx
  · intro b1 b2 c2 o1 o2 hne h1 h2 ho1 ho2 hf1 hf2
    by_cases hb1 : b1 = b
    · subst hb1
      rw [hb] at h1
      injection h1 with h1
      subst h1
      simp only [Bl.getElem?_set_ne hne] at ho2
      exact absurd (huniq b2 o2 (Ne.symm hne) h2 ho2) hf2
    · by_cases hb2 : b2 = b
      · subst hb2
        rw [hb] at h2
        injection h2 with h2
        subst h2
        simp only [Bl.getElem?_set_ne (Ne.symm hne)] at ho1
        exact absurd (huniq b1 o1 hne h1 ho1) hf1
      · simp only [Bl.getElem?_set_ne (Ne.symm hb1)] at ho1
        simp only [Bl.getElem?_set_ne (Ne.symm hb2)] at ho2
        exact hw.inj b1 b2 c2 o1 o2 hne h1 h2 ho1 ho2 hf1 hf2
  · intro b2 o2 k ho2 hk
    simp only [Bl.members_set]
    simp only [Bl.getElem?_set] at ho2
    split at ho2
    · try rw [if_pos hblt] at ho2
      injection ho2 with ho2
      subst ho2
      rw [hno'] at hk
      cases hk
    · exact hw.cls b2 o2 k ho2 hk
  · intro c2 _ hn
    simp only
    rw [Array.getElem?_setIfInBounds_ne (fun e => hn b (by rw [hb, e]))]

theorem getObj_run {c : Nat} {ob : Obj} (h : w.heap[c]? = some ob) (hn : ∀ a e f, ob ≠ .cells a e f) : (getObj c).run P w = .ok ob w := by
  simp only [getObj, Sem.run]
  rw [h]
  cases ob with
  | cells a e f => exact absurd rfl (hn a e f)
  | _ => rfl

end
end Go.Sx
