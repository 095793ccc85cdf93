/-
  A WALKER THAT COMPUTES: iterations over maps, and each operation that may go several ways.
-/
import Derived.Test.YtbgjceknbcpgjaaSzT
namespace Go.Sx
section
variable {P : Program} {E : Env} {D : Nat → Prop} {tmps : List AV} {a : Act} {B : Bd} {h : Hp} {w : World}

def MRelL (E : Env) : List (AV × AV × Nat) → List MapEntry → Prop
  | [], [] => True
  | (k, v, n) :: es, e :: l => k.den E = some e.key ∧ v.den E = some e.val ∧ e.born = n ∧ MRelL E es l
  | _, _ => False

theorem MRel.list {es : List (AV × AV × Nat)} {es' : Array MapEntry} (hm : MRel E es es') : MRelL E es es'.toList := by
  obtain ⟨l'⟩ := es'
  have h1 : l'.length = es.length := by simpa using hm.1
  have h2 := hm.2
  simp only [List.getElem?_toArray] at h2 ⊢
  clear hm
  induction es generalizing l' with
  | nil => simp at h1; subst h1; trivial
  | cons p es ih =>
    obtain ⟨k, v, m⟩ := p
    cases l' with
    | nil => simp at h1
    | cons e l' =>
      obtain ⟨x, y, hx, hy, he⟩ := h2 0 k v m (by simp)
      simp only [List.getElem?_cons_zero, Option.some.injEq] at he
      subst he
      exact ⟨hx, hy, rfl, ih l' (by simpa using h1) (fun i k v n hi => by simpa using h2 (i + 1) k v n (by simpa using hi))⟩

theorem MRelL.filter {p : AV × AV × Nat → Bool} {q : MapEntry → Bool} (hpq : ∀ k v e, p (k, v, e.born) = q e) : ∀ {es : List (AV × AV × Nat)} {l : List MapEntry}, MRelL E es l → MRelL E (es.filter p) (l.filter q)
  | [], [], _ => trivial
  | [], e :: l, h => h.elim
  | x :: es, [], h => by cases x; exact h.elim
  | (k, v, n) :: es, e :: l, h => by
    obtain ⟨h1, h2, rfl, h3⟩ := h
    have ih := MRelL.filter hpq h3
    simp only [List.filter_cons, hpq]
    cases q e with
    | true => exact ⟨h1, h2, rfl, ih⟩
    | false => exact ih

theorem MRelL.append : ∀ {es fs : List (AV × AV × Nat)} {l m : List MapEntry}, MRelL E es l → MRelL E fs m → MRelL E (es ++ fs) (l ++ m)
  | [], _, [], _, _, k => k
  | [], _, e :: l, _, h, _ => h.elim
  | x :: es, _, [], _, h, _ => by cases x; exact h.elim
  | (k, v, n) :: es, fs, e :: l, m, h, k2 => ⟨h.1, h.2.1, h.2.2.1, MRelL.append h.2.2.2 k2⟩

theorem MRelL.get : ∀ {es : List (AV × AV × Nat)} {l : List MapEntry}, MRelL E es l → ∀ (i : Nat) (e : MapEntry), l[i]? = some e → ∃ k v, es[i]? = some (k, v, e.born) ∧ k.den E = some e.key ∧ v.den E = some e.val
  | [], [], _, i, e, he => by simp at he
  | [], e :: l, h, _, _, _ => h.elim
  | x :: es, [], h, _, _, _ => by cases x; exact h.elim
  | (k, v, n) :: es, e :: l, h, i, e', he => by
    cases i with
    | zero =>
      simp only [List.getElem?_cons_zero, Option.some.injEq] at he
      subst he
      exact ⟨k, v, by simp [h.2.2.1], h.1, h.2.1⟩
    | succ i =>
      simp only [List.getElem?_cons_succ] at he ⊢
      exact MRelL.get h.2.2.2 i e' he

theorem MRelL.nil {es : List (AV × AV × Nat)} {l : List MapEntry} (h : MRelL E es l) : l.isEmpty = es.isEmpty := by
  cases es with
  | nil => cases l with
    | nil => rfl
    | cons e l => exact h.elim
  | cons x es =>
    obtain ⟨k, v, n⟩ := x
    cases l with
    | nil => exact h.elim
    | cons e l => rfl

theorem MRelL.all {p : AV × AV × Nat → Bool} {q : MapEntry → Bool} (hpq : ∀ k v e, p (k, v, e.born) = q e) : ∀ {es : List (AV × AV × Nat)} {l : List MapEntry}, MRelL E es l → l.all q = es.all p
  | [], [], _ => rfl
  | [], e :: l, h => h.elim
  | x :: es, [], h => by cases x; exact h.elim
  | (k, v, n) :: es, e :: l, h => by
    obtain ⟨h1, h2, rfl, h3⟩ := h
    simp only [List.all_cons, hpq, MRelL.all hpq h3]

theorem MRelL.find {p : AV × AV × Nat → Bool} {q : MapEntry → Bool} (hpq : ∀ k v e, p (k, v, e.born) = q e) : ∀ {es : List (AV × AV × Nat)} {l : List MapEntry}, MRelL E es l → ∀ x, es.find? p = some x →
    ∃ e, l.find? q = some e ∧ x.1.den E = some e.key ∧ x.2.1.den E = some e.val
  | [], [], _, x, hx => by simp at hx
  | [], e :: l, h, _, _ => h.elim
  | y :: es, [], h, _, _ => by cases y; exact h.elim
  | (k, v, n) :: es, e :: l, h, x, hx => by
    obtain ⟨h1, h2, rfl, h3⟩ := h
    simp only [List.find?_cons, hpq] at hx ⊢
    cases hq : q e with
    | true =>
      rw [hq] at hx
      simp only [Option.some.injEq] at hx
      subst hx
      exact ⟨e, rfl, h1, h2⟩
    | false =>
      rw [hq] at hx
      exact MRelL.find hpq h3 x hx

theorem iter_obj (hw : WR E B h w) {b c : Nat} {m : Option Nat} {since stepped : Nat} {seen : List Nat} (hb : E.ρ[b]? = some c) (hbs : h.bs[b]? = some (.mapIter m since seen stepped)) :
    ∃ m', (match m with | none => m' = none | some b => ∃ c, E.ρ[b]? = some c ∧ m' = some c) ∧ (getObj c).run P w = .ok (.mapIter m' since seen.toArray stepped) w := by
  obtain ⟨ob, hob, m', rfl, h1⟩ := hw.obj b c _ hb hbs
  exact ⟨m', h1, getObj_run hob (fun _ _ _ h => by cases h)⟩

/-- One of so many is drawn. -/
theorem run_mapNext (n : Nat) (hn : 0 < n) (w : World) : ∃ i w', i < n ∧ (w' = w ∨ w' = w.drew) ∧ (choose (.mapNext n)).run P w = .ok i w' := by
  by_cases h1 : n ≤ 1
  · exact ⟨0, w, hn, Or.inl rfl, by simp [Question.forced, h1]⟩
  · exact ⟨_, w.drew, Nat.mod_lt _ hn, Or.inr rfl, by simp [Question.forced, h1, Question.cut]; rfl⟩

theorem nextA_sound (hw : WR E B h w) {b c : Nat} {l : List (AV × Hp)} {ty : TypeId} (hr : nextA h b = some l) (hb : E.ρ[b]? = some c) :
    ∃ p ∈ l, ∃ z w', (Instr.next (.pointer (some ⟨c, 0, none⟩)) false ty).run P w = .ok z w' ∧ p.1.den E = some z ∧ Ext E B w E p.2 w' := by
  unfold nextA at hr
  split at hr
  · rename_i since seen last hbs
    injection hr with hr
    subst hr
    obtain ⟨m', hm, hg⟩ := iter_obj (P := P) hw hb hbs
    simp only at hm
    subst hm
    exact ⟨_, List.mem_singleton.2 rfl, .tuple #[.bool false], w, by simp [Instr.next, hg], by simp [AV.den, AV.denL, BE.den], .refl hw⟩
  · rename_i m since seen last hbs
    obtain ⟨m', hm, hg⟩ := iter_obj (P := P) hw hb hbs
    obtain ⟨cm, hcm, rfl⟩ := hm
    split at hr
    · rename_i es clock hbm
      obtain ⟨es', _, hmr, hgm⟩ := map_obj (P := P) hw hcm hbm
      split at hr
      · cases hr
      · rename_i hcond
        injection hr with hr
        subst hr
        have hL := hmr.list
        have hleft := hL.filter (p := fun e => !seen.contains e.2.2) (q := fun e => !seen.toArray.contains e.born) (fun k v e => by simp)
        have hold := hleft.filter (p := fun e => e.2.2 < since) (q := fun e => e.born < since) (fun k v e => rfl)
        have hnew := hleft.filter (p := fun e => since ≤ e.2.2) (q := fun e => e.born ≥ since) (fun k v e => by simp)
        have hboth := hold.append hnew
        have hcond' : (!seen.toArray.isEmpty && !es'.isEmpty && es'.all (fun e => e.born ≥ last)) = false := by
          have h1 : es'.all (fun e => decide (e.born ≥ last)) = es.all (fun e => decide (last ≤ e.2.2)) := by
            rw [← Array.all_toList]
            exact hL.all (p := fun e => decide (last ≤ e.2.2)) (q := fun e => decide (e.born ≥ last)) (fun k v e => by simp)
          rw [h1, hmr.isEmpty]
          simpa using hcond
        -- what there is to choose from
        generalize holdE : List.filter (fun e : MapEntry => decide (e.born < since)) (List.filter (fun e : MapEntry => !seen.toArray.contains e.born) es'.toList) = oldC at hold hboth
        generalize hnewE : List.filter (fun e : MapEntry => decide (e.born ≥ since)) (List.filter (fun e : MapEntry => !seen.toArray.contains e.born) es'.toList) = newC at hnew hboth
        have ho : ((es'.filter fun e => !seen.toArray.contains e.born).filter fun e => decide (e.born < since)) = oldC.toArray := by
          rw [← holdE]; apply Array.ext'; simp
        have hn : ((es'.filter fun e => !seen.toArray.contains e.born).filter fun e => decide (e.born ≥ since)) = newC.toArray := by
          rw [← hnewE]; apply Array.ext'; simp
        have hsz : 0 < ((if oldC.toArray.isEmpty then #[none] else #[]) ++ (oldC.toArray ++ newC.toArray).map some : Array (Option MapEntry)).size := by
          cases oldC <;> simp
        obtain ⟨i, w1, hi, hw1, hch⟩ := run_mapNext (P := P) _ hsz w
        have hwr1 : WR E B h w1 := by rcases hw1 with rfl | rfl; exact hw; exact hw.drew
        have hback : ∀ {E' : Env} {h' : Hp} {w' : World}, Ext E B w1 E' h' w' → Ext E B w E' h' w' := by
          intro E' h' w' hx
          rcases hw1 with rfl | rfl
          · exact hx
          · exact hx.of_drew
        have hcand : ((if oldC.toArray.isEmpty then #[none] else #[]) ++ (oldC.toArray ++ newC.toArray).map some : Array (Option MapEntry)) = ((if oldC.isEmpty then [none] else []) ++ (oldC ++ newC).map some).toArray := by
          cases oldC <;> simp
        have hrun : ∀ x, (((if oldC.isEmpty then [none] else []) ++ (oldC ++ newC).map some) : List (Option MapEntry))[i]? = some x → ∀ z w', (match x with
            | some e => (do setObj c (.mapIter (some cm) since (seen.toArray.push e.born) clock); pure (.tuple #[.bool true, e.key, e.val]) : Sem Value)
            | none => pure (.tuple #[.bool false])).run P w1 = .ok z w' → (Instr.next (.pointer (some ⟨c, 0, none⟩)) false ty).run P w = .ok z w' := by
          intro x hx z w' hz
          simp only [Instr.next, Sem.run_bind, hg, Result.andThen_ok, hgm, hcond', Bool.false_eq_true, if_false, ho, hn, hch]
          rw [hcand, List.getElem?_toArray, hx]
          cases x with
          | none => exact hz
          | some e => exact hz
        have hlt : i < ((if oldC.isEmpty then [none] else []) ++ (oldC ++ newC).map some : List (Option MapEntry)).length := by
          rw [hcand] at hi
          simpa using hi
        obtain ⟨x, hx⟩ : ∃ x, (((if oldC.isEmpty then [none] else []) ++ (oldC ++ newC).map some) : List (Option MapEntry))[i]? = some x := ⟨_, List.getElem?_eq_getElem hlt⟩
        have hrun := hrun x hx
        have hxm := List.mem_of_getElem? hx
        rcases List.mem_append.1 hxm with hxm | hxm
        · -- it is over
          have hoe : oldC.isEmpty = true := by
            cases h0 : oldC.isEmpty with
            | true => rfl
            | false => rw [h0] at hxm; simp at hxm
          have hxn : x = none := by rw [hoe] at hxm; simpa using hxm
          subst hxn
          rw [hold.nil] at hoe
          refine ⟨(.tuple [.bool (.lit false)], h), List.mem_append_left _ ?_, .tuple #[.bool false], w1, hrun _ _ (by simp), by simp [AV.den, AV.denL, BE.den], hback (.refl hwr1)⟩
          rw [if_pos hoe]
          exact List.mem_singleton.2 rfl
        · obtain ⟨e, hem, rfl⟩ := List.mem_map.1 hxm
          obtain ⟨j, hj⟩ := List.getElem?_of_mem hem
          obtain ⟨k, v, hkv, hk, hv⟩ := hboth.get j e hj
          obtain ⟨hset, hxt⟩ := setObj_sound (P := P) (o' := .mapIter (some m) since (seen ++ [e.born]) clock) (ob := .mapIter (some cm) since (seen.toArray.push e.born) clock) hwr1 hb hbs rfl rfl
            ⟨some cm, by simp, cm, hcm, rfl⟩
          refine ⟨(.tuple [.bool (.lit true), k, v], { h with bs := h.bs.set b (.mapIter (some m) since (seen ++ [e.born]) clock) }), List.mem_append_right _ (List.mem_map.2 ⟨(k, v, e.born), List.mem_of_getElem? hkv, rfl⟩),
            .tuple #[.bool true, e.key, e.val], _, hrun _ _ (by simp only [Sem.run_bind, hset, Result.andThen_ok, Sem.run_pure]), by simp [AV.den, AV.denL, BE.den, hk, hv], hback hxt⟩
    · cases hr
  · cases hr

theorem atA_sound (hw : WR E B h w) {b c : Nat} {v : AV} (hr : atA h b = some v) (hb : E.ρ[b]? = some c) :
    ∃ z, (Instr.entry (.pointer (some ⟨c, 0, none⟩))).run P w = .ok z w ∧ v.den E = some z := by
  unfold atA at hr
  split at hr
  · rename_i m since seen stepped hbs
    obtain ⟨m', hm, hg⟩ := iter_obj (P := P) hw hb hbs
    obtain ⟨cm, hcm, rfl⟩ := hm
    simp only [Option.bind_eq_bind, Option.bind_eq_some_iff] at hr
    obtain ⟨stamp, hst, hr⟩ := hr
    split at hr
    · rename_i es clock hbm
      obtain ⟨es', _, hmr, hgm⟩ := map_obj (P := P) hw hcm hbm
      split at hr
      · cases hr
      · rename_i hcl
        simp only [Decidable.not_not] at hcl
        subst hcl
        simp only [Option.bind_eq_some_iff, Option.pure_def, Option.some.injEq] at hr
        obtain ⟨x, hx, rfl⟩ := hr
        obtain ⟨e, he, hk, hv⟩ := hmr.list.find (p := fun e => e.2.2 == stamp) (q := fun e => e.born == stamp) (fun k v e => rfl) x hx
        have hst' : seen.toArray.back? = some stamp := by simpa using hst
        have he' : es'.find? (fun e => e.born == stamp) = some e := by rw [← Array.find?_toList]; exact he
        exact ⟨.tuple #[e.key, e.val], by simp [Instr.entry, hg, hst', hgm, he'], by simp [AV.den, AV.denL, hk, hv]⟩
    · cases hr
  · cases hr

theorem assertA_sound {x v : AV} {xt t : TypeId} {ok : Bool} {xv : Value} (hr : assertA P x t ok = some v) (hx : x.den E = some xv) (w : World) :
    ∃ z, (Instr.typeAssert xv xt t ok).run P w = .ok z w ∧ v.den E = some z := by
  have hfail : ∀ (s d : Option TypeId) (m : String), (if ok then (zero P t).bind fun z => some (AV.tuple [z, .bool (.lit false)]) else none) = some v →
      ∃ z, ok = true ∧ (zeroValue t).run P w = .ok z w ∧ v.den E = some (.tuple #[z, .bool false]) := by
    intro s d m hh
    cases ok with
    | false => simp at hh
    | true =>
      simp only [if_true, Option.bind_eq_some_iff, Option.some.injEq] at hh
      obtain ⟨z, hz, rfl⟩ := hh
      obtain ⟨i, zv, hi, hzv, hzd⟩ := zero_den (E := E) hz
      exact ⟨zv, rfl, run_zeroValue hi hzv w, by simp [AV.den, AV.denL, BE.den, hzd]⟩
  unfold assertA at hr
  simp only [Option.bind_eq_bind, Option.pure_def] at hr
  split at hr
  · cases hr
  · rename_i ms hd
    obtain rfl := denNilIface hx
    obtain ⟨z, rfl, hz, hv⟩ := hfail none none "" hr
    exact ⟨_, by simp [Instr.typeAssert, run_underlying hd, hz], hv⟩
  · rename_i want d u hd
    obtain ⟨y, hy, rfl⟩ := denIface hx
    simp only [Option.bind_eq_some_iff] at hr
    obtain ⟨i, hi, hr⟩ := hr
    split at hr
    · rename_i hmm
      simp only [Option.some.injEq] at hr
      subst hr
      refine ⟨if ok then .tuple #[.iface d y, .bool true] else .iface d y, by simp [Instr.typeAssert, run_underlying hd, typeInfo, hi, hmm], ?_⟩
      cases ok <;> simp [AV.den, AV.denL, BE.den, hy]
    · rename_i m hmm
      obtain ⟨z, rfl, hz, hv⟩ := hfail none (some d) m hr
      exact ⟨_, by simp [Instr.typeAssert, run_underlying hd, typeInfo, hi, hmm, hz], hv⟩
  · rename_i ty hni hd
    obtain rfl := denNilIface hx
    obtain ⟨z, rfl, hz, hv⟩ := hfail (some xt) none "" hr
    refine ⟨.tuple #[z, .bool false], ?_, hv⟩
    cases ty <;> first | (simp [Instr.typeAssert, run_underlying hd, hz]; done) | exact (hni _ rfl).elim
  · rename_i ty d u hni hd
    obtain ⟨y, hy, rfl⟩ := denIface hx
    split at hr
    · rename_i hdt
      subst hdt
      simp only [Option.some.injEq] at hr
      subst hr
      refine ⟨if ok then .tuple #[y, .bool true] else y, ?_, by cases ok <;> simp [AV.den, AV.denL, BE.den, hy]⟩
      cases ty <;> first | (simp [Instr.typeAssert, run_underlying hd]; done) | exact (hni _ rfl).elim
    · rename_i hdt
      obtain ⟨z, rfl, hz, hv⟩ := hfail (some xt) (some d) "" hr
      refine ⟨.tuple #[z, .bool false], ?_, hv⟩
      cases ty <;> first | (simp [Instr.typeAssert, run_underlying hd, hdt, hz]; done) | exact (hni _ rfl).elim
  · cases hr

end
end Go.Sx
