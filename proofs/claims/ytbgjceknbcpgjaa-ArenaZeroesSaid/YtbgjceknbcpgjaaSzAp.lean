/-
  A WALKER THAT COMPUTES: new rows of unknown length, and what is put behind them.
-/
import Derived.Test.YtbgjceknbcpgjaaSzV
import Derived.Test.YtbgjceknbcpgjaaSzSy
import Derived.Tactics
namespace Go.Sx
section
variable {P : Program} {E : Env} {D : Nat → Prop} {σ : St} {a : Act} {B : Bd} {h : Hp} {w : World} {pc : List BE} {rs : List Rule}

theorem inKind_sound (hp : ∀ b ∈ pc, b.den E.ι = true) {k : IntKind} {e : IE} (h : inKind pc k e = true) : k.min ≤ e.den E.ι ∧ e.den E.ι ≤ k.max := by
  unfold inKind at h
  have hb := bnd_ok hp e
  split at h
  · rename_i lo hi he
    simp only [Bool.and_eq_true, decide_eq_true_eq] at h
    rw [he] at hb
    have h1 := hb.1 lo rfl
    have h2 := hb.2 hi rfl
    omega
  · cases h

theorem litOf_sound (hr : RulesOk rs E.ι) (hp : ∀ b ∈ pc, b.den E.ι = true) {v : AV} {c : CK × IE} {z : Value} (h : litOf rs pc v = some c) (hz : v.den E = some z) : z = c.1.val (c.2.den E.ι) ∧ c.2.upto E.ι.nv = true ∧ c.1.ok z := by
  unfold litOf at h
  split at h
  · split at h
    · rename_i k e hk
      injection h with h
      subst h
      have : k.min ≤ e.den E.ι ∧ e.den E.ι ≤ k.max := by
        rw [Bool.or_eq_true] at hk
        exact hk.elim (inKind_sound hp) (inR_sound hr hp)
      have hzz := denInt hz
      exact ⟨by rw [hzz]; rfl, denI hz, ⟨_, hzz, this.1, this.2⟩⟩
    · cases h
  · rename_i b
    injection h with h
    subst h
    have hzz := denBool hz
    exact ⟨by rw [hzz]; cases b <;> rfl, rfl, ⟨_, hzz⟩⟩
  · cases h

theorem litsOf_sound (hr : RulesOk rs E.ι) (hp : ∀ b ∈ pc, b.den E.ι = true) : ∀ {vs : List AV} {cs : List (CK × IE)} {l : List Value}, litsOf rs pc vs = some cs → AV.denL E vs = some l →
    l = (cs.map fun v => v.1.val (v.2.den E.ι)) ∧ (cs.all fun v => v.2.upto E.ι.nv) = true ∧ ∀ (i : Nat) (k : CK) (v : Value), (cs.map (·.1))[i]? = some k → l[i]? = some v → k.ok v
  | [], cs, l, h, hl => by
    simp only [litsOf, Option.some.injEq] at h
    subst h
    simp [AV.denL] at hl
    subst hl
    exact ⟨rfl, rfl, fun i k v hk => by simp at hk⟩
  | v :: r, cs, l, h, hl => by
    simp only [litsOf, Option.bind_eq_bind, Option.bind_eq_some_iff, Option.pure_def, Option.some.injEq] at h
    obtain ⟨c, hc, cs', hcs, rfl⟩ := h
    obtain ⟨z, l', hz, hl', rfl⟩ := denL_cons.1 hl
    obtain ⟨a1, a2, a3⟩ := litOf_sound hr hp hc hz
    obtain ⟨b1, b2, b3⟩ := litsOf_sound hr hp hcs hl'
    refine ⟨by rw [List.map_cons, ← a1, ← b1], by simp only [List.all_cons, a2, b2, Bool.and_self], fun i k x hk hx => ?_⟩
    cases i with
    | zero => simp at hk hx; subst hk hx; exact a3
    | succ i => exact b3 i k x (by simpa using hk) (by simpa using hx)

theorem sameI_ok (hr : RulesOk rs E.ι) (hp : ∀ b ∈ pc, b.den E.ι = true) {a b : IE} (h : sameI rs pc a b = true) : a.den E.ι = b.den E.ι := by
  unfold sameI at h
  split at h
  · rename_i e; rw [e]
  · split at h
    · rename_i c hc
      have h1 := BE.mkCmp_den (ι := E.ι) hc
      have h2 := truthR_sound hr hp (by simpa using h : truthR rs pc c = some true)
      rw [h2] at h1
      simpa [intCmp] using h1
    · cases h

theorem symBytes_sound (hSl : Slots E D σ.tmps a) (hw : WR E B σ.h w) (hp : ∀ b ∈ σ.pc, b.den E.ι = true) {o : Oper} (hc : ∀ x ∈ o.op.operands, Clear D x) {v : AV} (h : symBytes P σ o = some v) :
    ∃ z, v.den E = some z ∧ (execOp a.eval o).run P w = .ok (.value z) w := by
  obtain ⟨dst, op, type, pos, after, guard⟩ := o
  unfold symBytes at h
  simp only at h hc
  split at h
  · rename_i src dst' x
    simp only [Option.bind_eq_bind, Option.bind_eq_some_iff] at h
    obtain ⟨p, hpx, h⟩ := h
    have hx := opnd_den hSl (hc x (by simp [Op.operands])) hpx
    split at h
    · rename_i e b o' n m hsd hdd
      split at h
      · rename_i he
        simp only [Option.bind_eq_some_iff] at h
        obtain ⟨cs, hcs, vs, hvs, h⟩ := h
        split at h
        · rename_i hk
          injection h with h
          subst h
          obtain ⟨c, k, hcb, _, _, ex⟩ := denSlice hx
          obtain ⟨l, hl, hn, hcl⟩ := loadFrom_den hw hcb n o' cs hcs
          obtain ⟨l1, l2, l3⟩ := litsOf_sound hw.giv.rules hp hvs hl
          have hlen : vs.length = n := by
            have := congrArg List.length hk
            simpa using this
          have hval : l = ((vs.map fun v => v.2.den E.ι).map (Value.int .u8)) := by
            rw [l1, List.map_map]
            refine List.map_congr_left fun v hv => ?_
            have : v.1 = .int .u8 := by
              have h1 : v.1 ∈ vs.map (·.1) := List.mem_map_of_mem hv
              rw [hk] at h1
              exact (List.mem_replicate.1 h1).2
            simp only [Function.comp_apply, this, CK.val]
          have hrun := bytes_convert (P := P) (c := c) (o := o') (m := k) hsd he hdd (n := n) (ns := vs.map fun v => v.2.den E.ι) (by simp [hlen]) w (fun j v hj => hcl j v (by rw [hval]; exact hj))
          refine ⟨_, den_txt (by
            simp only [TX.upto, List.all_map]
            exact l2), ?_⟩
          simp [execOp, ex, hrun, TX.den, Function.comp_def]
        · cases h
      · cases h
    · cases h
  · cases h

theorem copiesV_flatten (z : List Value) : ∀ n, copiesV z n = (List.replicate n z).flatten
  | 0 => rfl
  | n + 1 => by simp only [copiesV, List.replicate_succ, List.flatten_cons, copiesV_flatten z n]

theorem copiesV_add (z : List Value) : ∀ m n, copiesV z (m + n) = copiesV z m ++ copiesV z n
  | 0, n => by simp [copiesV]
  | m + 1, n => by rw [Nat.add_right_comm]; simp only [copiesV, copiesV_add z m n, List.append_assoc]

theorem flatten_get (ks : List CK) : ∀ (n i : Nat), i < n * ks.length → ((List.replicate n ks).flatten)[i]? = ks[i % ks.length]?
  | 0, i, hi => by simp at hi
  | n + 1, i, hi => by
    rw [List.replicate_succ, List.flatten_cons]
    by_cases h : i < ks.length
    · rw [List.getElem?_append_left h, Nat.mod_eq_of_lt h]
    · rw [Nat.add_mul, Nat.one_mul] at hi
      rw [List.getElem?_append_right (by omega), flatten_get ks n (i - ks.length) (by omega), Nat.mod_eq_sub_mod (by omega : ks.length ≤ i)]

theorem newA_sound {rs : List Rule} {pc : List BE} {tmps : List AV} {nb : Nat} (hSl : Slots E D tmps a) (hr : RulesOk rs E.ι) (hp : ∀ b ∈ pc, b.den E.ι = true) {o : Oper} (hc : ∀ x ∈ o.op.operands, Clear D x) {v : AV} {ob : AObj} (h : newA P rs pc tmps nb o = some (v, ob)) (w : World) :
    ∃ z obj w', (execOp a.eval o).run P w = .ok (.value z) w' ∧ Laid w obj w' ∧ ∀ E', E.Le E' → E'.ρ[nb]? = some w.heap.size → v.den E' = some z ∧ ORel E' ob obj := by
  obtain ⟨dst, op, type, pos, after, guard⟩ := o
  unfold newA at h
  simp only at h hc
  split at h
  · rename_i t l c
    simp only [Option.bind_eq_bind, Option.bind_eq_some_iff] at h
    obtain ⟨lv, hlv, cv, hcv, h⟩ := h
    have hl := opnd_den hSl (hc l (by simp [Op.operands])) hlv
    have hcc := opnd_den hSl (hc c (by simp [Op.operands])) hcv
    split at h
    · rename_i e le ce hd
      simp only [Option.bind_eq_some_iff] at h
      obtain ⟨y, hy, n, hn, z, hz, cs, hcs, h⟩ := h
      split at h
      · rename_i hcond
        simp only [Bool.and_eq_true, decide_eq_true_eq] at hcond
        obtain ⟨⟨⟨⟨⟨h1, h2⟩, h3⟩, h4⟩, h5⟩, h6⟩ := hcond
        injection h with h
        simp only [Prod.mk.injEq] at h
        obtain ⟨rfl, rfl⟩ := h
        have l4 := leB_sound hr hp h4
        have l5 := leB_sound hr hp h5
        have l6 := leB_sound hr hp h6
        simp only [IE.den] at l4 l6
        have el := denInt hl
        have ec := denInt hcc
        obtain ⟨i, hi, hiy⟩ := run_bytes hy
        obtain ⟨i', zv, hi', hv, hzd, hzr⟩ := zero_cells (P := P) (E := E) hz
        have hzs : zv.cells.size = n := by have := denL_length hzd; simp at this; omega
        obtain ⟨s1, s2, s3⟩ := litsOf_sound (E := E) (rs := []) (pc := []) (rules_nil _) (fun b hb => by cases hb) hcs hzd
        have hcl : cs.length = n := by
          have := congrArg List.length s1
          simp at this
          omega
        generalize hln : le.den E.ι = ln at *
        generalize hcn : ce.den E.ι = cn at *
        have hw1 : IntKind.i64.wrap ln = ln := wrap_small ln (by omega) (by omega)
        have hw2 : IntKind.i64.wrap cn = cn := wrap_small cn (by omega) (by omega)
        have hbig : ((i.bytes : Nat) : Int) * cn ≤ 2 ^ 48 := by
          rw [hiy]
          have : (y : Int) * cn ≤ 131072 * 1073741824 := Int.mul_le_mul (by omega) l6 (by omega) (by omega)
          omega
        have hcond2 : ((decide (cn < 0) || decide (((i.bytes : Nat) : Int) * cn > 2 ^ 48)) || decide (ln < 0) || decide (ln > cn)) = false := by
          simp only [Bool.or_eq_false_iff, decide_eq_false_iff_not]
          omega
        have hrun : (Instr.makeSlice t (.int .i64 ln) (.int .i64 cn)).run P w = .ok (.slice (some ⟨w.heap.size, 0, none⟩) ln.toNat cn.toNat) (w.alloc (.cells (copiesV zv.cells.toList cn.toNat).toArray e)) := by
          simp only [Instr.makeSlice, Sem.run_bind, run_underlying hd, Result.andThen_ok, asInt, asIntOf, Sem.run_pure, typeInfo, run_program, hi, hw1, hw2, hcond2, Bool.false_eq_true, if_false,
            run_askRoom, run_size hn]
          by_cases h0 : cn.toNat * n = 0
          · have hc0 : copiesV zv.cells.toList cn.toNat = [] := by
              apply List.eq_nil_of_length_eq_zero
              rw [copiesV_length]
              simp [hzs, h0]
            simp [newRow, h0, hc0, Array.range_zero']
          · have hrr := range_copies zv.cells cn.toNat (cn.toNat * n) (by rw [hzs])
            simp [newRow, h0, hzr, hrr]
        have hzl : zv.cells.toList.length = n := by simp [hzs]
        refine ⟨.slice (some ⟨w.heap.size, 0, none⟩) ln.toNat cn.toNat, .cells (copiesV zv.cells.toList cn.toNat).toArray e, w.alloc (.cells (copiesV zv.cells.toList cn.toNat).toArray e), by simp [execOp, el, ec, hrun], Or.inl rfl, fun E' hle hb => ?_⟩
        have hnv := hle.ι.nv
        have dl : le.den E'.ι = ln := by rw [IE.den_le hle.ι (denI hl)]; exact hln
        have dc : ce.den E'.ι = cn := by rw [IE.den_le hle.ι (denI hcc)]; exact hcn
        have ul := IE.below_le hnv (denI hl)
        have uc := IE.below_le hnv (denI hcc)
        have hur : (RX.rep le cs).upto E.ι.nv = true := by
          simp only [RX.upto, Bool.and_eq_true]; exact ⟨denI hl, s2⟩
        refine ⟨?_, ?_⟩
        · simp only [AV.den]
          rw [if_pos ⟨by simp only [below_lit, ul, uc, Bool.and_self], by simp only [IE.den, dl, dc]; omega⟩, hb]
          simp only [Option.map_some, IE.den, dl, dc, Int.toNat_zero, Nat.zero_mul, Nat.add_zero]
        · have hden : (RX.rep le cs).den E'.ι = copiesV zv.cells.toList ln.toNat := by
            rw [RX.den_le hle.ι hur]
            simp only [RX.den, hln, copiesV_flatten]
            rw [← s1]
          have hsplit : copiesV zv.cells.toList cn.toNat = copiesV zv.cells.toList ln.toNat ++ copiesV zv.cells.toList (cn.toNat - ln.toNat) := by
            rw [← copiesV_add]
            congr 1
            omega
          refine ⟨_, (0, 0), copiesV zv.cells.toList (cn.toNat - ln.toNat), rfl, fun i _ => by simp, ?_, ⟨RX.below_le hnv hur, ul, uc⟩, ?_, ?_, ?_⟩
          · show (copiesV zv.cells.toList cn.toNat) = _
            rw [hden]; exact hsplit
          · rw [hden, copiesV_length, List.length_map, hcl, hzl, dl]
            rw [Int.natCast_mul]
            congr 1
            omega
          · simp only [List.size_toArray, copiesV_length, List.length_map, hcl, hzl, dc]
            rw [Int.natCast_mul]
            congr 1
            omega
          · intro j k x hk hx
            rw [hden] at hx
            have hj : j < ln.toNat * zv.cells.toList.length := by
              have := (List.getElem?_eq_some_iff.1 hx).1
              rwa [copiesV_length] at this
            rw [copiesV_get _ _ _ hj] at hx
            rw [List.length_map, hcl] at hk
            rw [hzl] at hx
            exact s3 _ k x hk hx
      · cases h
    · cases h
  · rename_i t x
    simp only [Option.bind_eq_bind, Option.bind_eq_some_iff] at h
    obtain ⟨xv, hxv, h⟩ := h
    have hx := opnd_den hSl (hc x (by simp [Op.operands])) hxv
    split at h
    · rename_i s hdt
      injection h with h
      simp only [Prod.mk.injEq] at h
      obtain ⟨rfl, rfl⟩ := h
      simp only [AV.den] at hx
      split at hx
      · rename_i hu
        injection hx with hx
        refine ⟨.pointer (some ⟨w.heap.size, 0, none⟩), .stringIter ⟨(s.den E.ι).toArray⟩ 0, w.alloc (.stringIter ⟨(s.den E.ι).toArray⟩ 0), by simp [execOp, Instr.range, ← hx, run_underlying hdt], Or.inl rfl, fun E' hle hb => ⟨by simp [AV.den, hb], TX.below_le hle.ι.nv hu, by rw [TX.den_le hle.ι hu]⟩⟩
      · cases hx
    · cases h
  · cases h

theorem newA_cls {rs : List Rule} {pc : List BE} {tmps : List AV} {nb : Nat} {o : Oper} {v : AV} {ob : AObj} (h : newA P rs pc tmps nb o = some (v, ob)) : ob.cls? = none := by
  unfold newA at h
  split at h
  · simp only [Option.bind_eq_bind, Option.bind_eq_some_iff] at h
    obtain ⟨lv, hlv, cv, hcv, h⟩ := h
    split at h
    · simp only [Option.bind_eq_some_iff] at h
      obtain ⟨y, hy, n, hn, z, hz, cs, hcs, h⟩ := h
      split at h
      · injection h with h
        simp only [Prod.mk.injEq] at h
        obtain ⟨rfl, rfl⟩ := h
        rfl
      · cases h
    · cases h
  · simp only [Option.bind_eq_bind, Option.bind_eq_some_iff] at h
    obtain ⟨xv, hxv, h⟩ := h
    split at h
    · injection h with h
      simp only [Prod.mk.injEq] at h
      obtain ⟨rfl, rfl⟩ := h
      rfl
    · cases h
  · cases h
theorem symNew_sound (hSl : Slots E D σ.tmps a) (hw : WR E B σ.h w) (hp : ∀ b ∈ σ.pc, b.den E.ι = true) {o : Oper} (hc : ∀ x ∈ o.op.operands, Clear D x) {v : AV} {ob : AObj} (h : symNew P σ o = some (v, ob)) :
    ∃ z w', (execOp a.eval o).run P w = .ok (.value z) w' ∧ v.den ⟨E.ρ ++ [w.heap.size], E.κ ++ [], E.ι⟩ = some z ∧ Ext E B w ⟨E.ρ ++ [w.heap.size], E.κ ++ [], E.ι⟩ { bs := σ.h.bs ++ [ob], nk := σ.h.nk, giv := σ.h.giv } w' := by
  obtain ⟨z, obj, w', hrun, hlaid, hall⟩ := newA_sound hSl hw.giv.rules hp hc h w
  have hb : (E.ρ ++ [w.heap.size])[σ.h.bs.length]? = some w.heap.size := by
    rw [List.getElem?_append_right (by rw [hw.lenρ]; omega), hw.lenρ]
    simp
  have hle : E.Le ⟨E.ρ ++ [w.heap.size], E.κ ++ [], E.ι⟩ := le_new E w.heap.size []
  obtain ⟨h1, h2⟩ := hall _ hle hb
  exact ⟨z, w', hrun, h1, hlaid.ext hw ob [] (fun k hk => by rw [newA_cls h] at hk; cases hk) h2⟩
theorem allocN_cls {rs : List Rule} {pc : List BE} {tmps : List AV} {o : Oper} {b k n : Nat} {v : AV} {ob : AObj} (hr : allocN P rs pc tmps b k o = some (v, ob, n)) : ∀ k', ob.cls? = some k' → k' = b := by
  unfold allocN at hr
  split at hr
  · rename_i r hal
    injection hr with hr
    subst hr
    exact allocA_cls hal
  · simp only [Option.map_eq_some_iff, Prod.mk.injEq, Prod.exists] at hr
    obtain ⟨v', ob', hn, rfl, rfl, rfl⟩ := hr
    intro k' hk'
    rw [newA_cls hn] at hk'
    cases hk'
theorem allocN_sound {rs : List Rule} {pc : List BE} {tmps : List AV} (hru : RulesOk rs E.ι) (hp : ∀ b ∈ pc, b.den E.ι = true) {o : Oper} {b k n : Nat} {v : AV} {ob : AObj} (hS : Slots E D tmps a) (hc : ∀ x ∈ o.op.operands, Clear D x) (hr : allocN P rs pc tmps b k o = some (v, ob, n)) (w : World) :
    ∃ (x : Value) (obj : Obj) (ks : List Nat) (w' : World), (execOp a.eval o).run P w = .ok (.value x) w' ∧ Laid w obj w' ∧ ks.length = n ∧
      ∀ E', E.Le E' → E'.ρ[b]? = some w.heap.size → (∀ (j : Nat) (c : Nat), ks[j]? = some c → E'.κ[k + j]? = some c) → v.den E' = some x ∧ ORel E' ob obj := by
  unfold allocN at hr
  split at hr
  · rename_i r hal
    injection hr with hr
    subst hr
    exact allocA_sound hS hc hal w
  · simp only [Option.map_eq_some_iff, Prod.mk.injEq, Prod.exists] at hr
    obtain ⟨v', ob', hn, rfl, rfl, rfl⟩ := hr
    obtain ⟨z, obj, w', hrun, hlaid, hall⟩ := newA_sound hS hru hp hc hn w
    exact ⟨z, obj, [], w', hrun, hlaid, rfl, fun E' hle hb _ => hall E' hle hb⟩

/-- A block's object turned, whatever it was. -/
theorem setRow_ext (hw : WR E B h w) {b c : Nat} {o o' : AObj} {ob' : Obj} {w' : World} (hb : E.ρ[b]? = some c) (hbs : h.bs[b]? = some o) (hof : o ≠ .free) (hon : o.only = false) (hno : o.cls? = none) (hno' : o'.cls? = none)
    (hr : ORel E o' ob') (hg : w'.heap[c]? = some ob') (ho : ∀ k, k ≠ c → w'.heap[k]? = w.heap[k]?) (hsz : w'.heap.size = w.heap.size) (h1 : w'.os = w.os) (h2 : w'.tape = w.tape) (h3 : w'.output = w.output) :
    Ext E B w E { h with bs := h.bs.set b o' } w' := by
  have huniq : ∀ (b2 : Nat) (o2 : AObj), b2 ≠ b → E.ρ[b2]? = some c → h.bs[b2]? = some o2 → o2 = .free := by
    intro b2 o2 hne h2 ho2
    by_cases hf : o2 = .free
    · exact hf
    exfalso
    rcases hw.inj b b2 c o o2 (Ne.symm hne) hb h2 hbs ho2 hof hf with ⟨hon', _⟩ | this
    · rw [hon] at hon'; cases hon'
    rw [hno] at this
    simp at this
  have hblt : b < h.bs.length := Bl.lt_of_get hbs
  refine ⟨.refl E, ⟨by simp [hw.lenρ], hw.lenκ, ?_, hw.base, ?_, by rw [hsz]; exact hw.bsize, ?_, hw.giv⟩, ⟨h1, h2, h3, by omega, ?_, fun b c hb => Or.inl ⟨b, hb⟩⟩⟩
  · intro b2 c2 o2 h2 ho2
    by_cases hbb : b2 = b
    · subst hbb
      rw [hb] at h2
      injection h2 with h2
      subst h2
      simp only [Bl.getElem?_set_self hblt, Option.some.injEq] at ho2
      subst ho2
      exact ⟨ob', hg, hr⟩
    · simp only [Bl.getElem?_set_ne (Ne.symm hbb)] at ho2
      obtain ⟨x, hx, hrx⟩ := hw.obj b2 c2 o2 h2 ho2
      by_cases hcc : c2 = c
      · subst hcc
        have := huniq b2 o2 hbb h2 ho2
        subst this
        exact ⟨ob', hg, trivial⟩
      exact ⟨x, by rw [ho c2 hcc]; exact hx, hrx⟩
  · intro b1 b2 c2 o1 o2 hne h1 h2 ho1 ho2 hf1 hf2
    by_cases hb1 : b1 = b
    · subst hb1
      rw [hb] at h1
      injection h1 with h1
      subst h1
      simp only [Bl.getElem?_set_ne hne] at ho2
      exact absurd (huniq b2 o2 (Ne.symm hne) h2 ho2) hf2
    · by_cases hb2 : b2 = b
      · subst hb2
        rw [hb] at h2
        injection h2 with h2
        subst h2
        simp only [Bl.getElem?_set_ne (Ne.symm hne)] at ho1
        exact absurd (huniq b1 o1 hne h1 ho1) hf1
      · simp only [Bl.getElem?_set_ne (Ne.symm hb1)] at ho1
        simp only [Bl.getElem?_set_ne (Ne.symm hb2)] at ho2
        exact hw.inj b1 b2 c2 o1 o2 hne h1 h2 ho1 ho2 hf1 hf2
  · intro b2 o2 k ho2 hk
    simp only [Bl.members_set]
    simp only [Bl.getElem?_set] at ho2
    split at ho2
    · try rw [if_pos hblt] at ho2
      injection ho2 with ho2
      subst ho2
      rw [hno'] at hk
      cases hk
    · exact hw.cls b2 o2 k ho2 hk
  · intro c2 _ hn
    exact ho c2 (fun e => hn b (by rw [hb, e]))

theorem setL_front (x tail nl : List Value) (hl : nl.length ≤ tail.length) : setL (x ++ tail) x.length nl = x ++ nl ++ tail.drop nl.length := by
  apply List.ext_getElem?
  intro j
  rw [setL_get [] nl x.length j (x ++ tail)]
  simp only [List.length_append]
  split
  · rename_i h
    rw [List.append_assoc, List.getElem?_append_right (by omega), List.getElem?_append_left (by omega)]
  · rename_i h
    by_cases h1 : j < x.length
    · rw [List.append_assoc, List.getElem?_append_left h1, List.getElem?_append_left h1]
    · by_cases h2 : j < x.length + nl.length
      · exfalso; omega
      · rw [List.getElem?_append_right (by omega), List.getElem?_append_right (by simp; omega), List.getElem?_drop]
        congr 1
        simp
        omega

theorem symAppA_sound (hSl : Slots E D σ.tmps a) (hw : WR E B σ.h w) (hp : ∀ b ∈ σ.pc, b.den E.ι = true) {o : Oper} (hc : ∀ x ∈ o.op.operands, Clear D x) {v : AV} {h' : Hp} (h : symAppA P σ o = some (v, h')) :
    ∃ z w', (execOp a.eval o).run P w = .ok (.value z) w' ∧ v.den E = some z ∧ Ext E B w E h' w' := by
  have hr := hw.giv.rules
  obtain ⟨dst, op, type, pos, after, guard⟩ := o
  unfold symAppA at h
  simp only at h hc
  split at h
  · rename_i args ts
    simp only [Option.bind_eq_bind, Option.bind_eq_some_iff] at h
    obtain ⟨st, hst, h⟩ := h
    split at h
    · rename_i e hd
      simp only [Option.bind_eq_some_iff] at h
      obtain ⟨z, hz, y, hy, zz, hzz, xt, hxt, xs, hxs, h⟩ := h
      have hl := callArgs (c := ⟨.builtin .append, args, ts⟩) hSl rfl hc hxs
      split at h
      · rename_i b z' q o' n c x
        simp only [Option.bind_eq_some_iff] at h
        obtain ⟨⟨k, new⟩, hparts, vs, hvs, h⟩ := h
        simp only at h
        split at h
        · rename_i r t ks rn rc hbs
          split at h
          · rename_i hcond
            simp only [Bool.and_eq_true, decide_eq_true_eq] at hcond
            obtain ⟨⟨⟨⟨⟨⟨⟨⟨⟨⟨c1, c2⟩, c3⟩, c4⟩, c5⟩, c6⟩, c7⟩, c8⟩, c9⟩, c10⟩, c11⟩ := hcond
            injection h with h
            simp only [Prod.mk.injEq] at h
            obtain ⟨rfl, rfl⟩ := h
            subst c2 c6 c7
            obtain ⟨u, yv, hu, hyv, eargs⟩ := denL_two hl
            obtain ⟨i, hi, hiy⟩ := run_bytes hy
            obtain ⟨i', zv, hi', hzv, hzd, hzr⟩ := zero_cells (P := P) (E := E) hzz
            rw [hi] at hi'
            injection hi' with hi'
            subst hi'
            have hiz : i.size = z' := by
              unfold size at hz
              rw [hi] at hz
              simpa using hz
            obtain ⟨nl, hnld, hap⟩ := partsA_sound (P := P) (ty := type) hw hparts hyv hst hxt hd hi hzv hiz hiy hzd c1
            obtain ⟨l1, l2, l3⟩ := litsOf_sound hr hp hvs hnld
            have hnll : nl.length = k * z' := by rw [denL_length hnld, c5]
            have e8 := sameI_ok hr hp c8
            have e9 := sameI_ok hr hp c9
            have e11 := leB_sound hr hp c11
            rw [mkOff_den] at e11
            simp only [IE.den] at e11
            obtain ⟨⟨bq, bo, bn, bc⟩, ⟨g1, g2, g3⟩, cc, hcb, eu⟩ := denSl hu
            obtain ⟨ob, hob, c', fz, tail, rfl, hf, hcl, ⟨r1, r2, r3⟩, r4, r5, r6⟩ := hw.obj b cc _ hcb hbs
            simp only [IE.den, Int.toNat_zero, Nat.zero_mul, Nat.add_zero] at eu
            have hxlen : (r.den E.ι).length = (n.den E.ι).toNat * z' := by
              have : (((r.den E.ι).length : Nat) : Int) = (((n.den E.ι).toNat * z' : Nat) : Int) := by
                rw [r4, ← e8, c3, Int.natCast_mul]
                congr 1
                omega
              exact Int.ofNat.inj this
            have hcsz : c'.size = (c.den E.ι).toNat * z' := by
              have : ((c'.size : Nat) : Int) = (((c.den E.ι).toNat * z' : Nat) : Int) := by
                rw [r5, ← e9, c3, Int.natCast_mul]
                congr 1
                omega
              exact Int.ofNat.inj this
            have hroom : (n.den E.ι).toNat * z' + k * z' ≤ (c.den E.ι).toNat * z' := by
              rw [← Nat.add_mul]
              exact Nat.mul_le_mul_right _ (by omega)
            have htl : c'.size = (r.den E.ι).length + tail.length := by
              have := congrArg List.length hcl
              simpa using this
            have hone : ∀ v ∈ nl, v.oneCell' = true := by
              intro v hv
              rw [l1] at hv
              obtain ⟨q, _, rfl⟩ := List.mem_map.1 hv
              obtain ⟨kk, ee⟩ := q
              cases kk <;> rfl
            obtain ⟨w', hst', hg', hoth, hsz, e1, e2, e3⟩ := storeCells_row (P := P) cc t fz nl ((n.den E.ι).toNat * z') 0 c' w hob (fun j hj hjj => by
              rcases hf j hj with h0 | h0 <;> omega) (by omega) hone
            rw [Nat.add_zero, hcl, ← hxlen, setL_front _ _ _ (by omega)] at hg'
            have hfit := hap.fits (a := ⟨cc, 0, none⟩) (sLen := (n.den E.ι).toNat) (sCap := (c.den E.ι).toNat) (w' := w') (by omega) (by
              rw [hiz, Addr.add_lit, Nat.zero_add]
              exact hst')
            refine ⟨.slice (some ⟨cc, 0, none⟩) ((n.den E.ι).toNat + k) (c.den E.ι).toNat, w', ?_, ?_, ?_⟩
            · rw [exec_builtin rfl, args_toArray, eargs, eu]
              simp [builtin, hfit]
            · have hk0 : ((n.mkOff (.lit (k : Nat))).den E.ι).toNat = (n.den E.ι).toNat + k := by
                rw [mkOff_den]
                simp only [IE.den]
                omega
              simp only [AV.den]
              rw [if_pos ⟨by simp only [below_lit, mkOff_below bn (below_lit), bc, Bool.and_self], by rw [mkOff_den]; simp only [IE.den]; omega⟩, hcb, hk0]
              simp only [Option.map_some, IE.den, Int.toNat_zero, Nat.zero_mul, Nat.add_zero]
            · refine setRow_ext hw hcb hbs (by intro h; cases h) rfl rfl rfl ?_ hg' hoth hsz e1 e2 e3
              have hden : (RX.cat r (.lits vs)).den E.ι = r.den E.ι ++ nl := by simp only [RX.den, l1]
              refine ⟨_, fz, tail.drop nl.length, rfl, ?_, ?_, ⟨?_, ?_, ?_⟩, ?_, ?_, ?_⟩
              · intro i hi
                refine hf i ?_
                simp only [List.size_toArray, List.length_append, List.length_drop] at hi
                omega
              · rw [hden]
              · simp only [RX.upto, r1, l2, Bool.and_self]
              · exact mkOff_below bn (below_lit)
              · exact bc
              · rw [hden, List.length_append, hxlen, hnll, mkOff_den, c3]
                simp only [IE.den]
                rw [← Nat.add_mul, Int.natCast_mul]
                congr 1
                omega
              · simp only [List.size_toArray, List.length_append, List.length_drop]
                rw [show (r.den E.ι).length + nl.length + (tail.length - nl.length) = c'.size by omega, r5, e9]
              · intro j kk x hkk hx
                rw [hden] at hx
                by_cases hj : j < (r.den E.ι).length
                · rw [List.getElem?_append_left hj] at hx
                  exact r6 j kk x hkk hx
                · rw [List.getElem?_append_right (by omega)] at hx
                  have hjl := (List.getElem?_eq_some_iff.1 hx).1
                  refine l3 (j - (r.den E.ι).length) kk x ?_ hx
                  rw [c10, flatten_get ks k _ (by rw [c3]; omega)]
                  rw [← hkk]
                  congr 1
                  rw [hxlen, c3]
                  have : j = (j - (n.den E.ι).toNat * z') + (n.den E.ι).toNat * z' := by omega
                  conv => rhs; rw [this]
                  rw [Nat.add_mul_mod_self_right]
          · cases h
        · cases h
      · cases h
    · cases h
  · cases h

theorem symOver_sound (hSl : Slots E D σ.tmps a) (hw : WR E B σ.h w) (hp : ∀ b ∈ σ.pc, b.den E.ι = true) {o : Oper} (hc : ∀ x ∈ o.op.operands, Clear D x) {v : AV} {h' : Hp} (h : symOver P σ o = some (v, h')) :
    ∃ z w', (execOp a.eval o).run P w = .ok (.value z) w' ∧ v.den E = some z ∧ Ext E B w E h' w' := by
  have hr := hw.giv.rules
  obtain ⟨dst, op, type, pos, after, guard⟩ := o
  unfold symOver at h
  simp only at h hc
  split at h
  · rename_i args ts
    simp only [Option.bind_eq_bind, Option.bind_eq_some_iff] at h
    obtain ⟨t, ht, h⟩ := h
    split at h
    · rename_i e hd
      simp only [Option.bind_eq_some_iff] at h
      obtain ⟨z, hz, xs, hxs, h⟩ := h
      have hl := callArgs (c := ⟨.builtin .copy, args, ts⟩) hSl rfl hc hxs
      split at h
      · rename_i b z1 q1 o1 n1 c1 b2 z2 q2 o2 n2 c2
        simp only [Option.bind_eq_some_iff] at h
        obtain ⟨⟨r, ks2, m, q'⟩, hro, h⟩ := h
        simp only at h
        split at h
        · rename_i x t' ks rn rc hbs
          split at h
          · rename_i hcond
            simp only [Bool.and_eq_true, decide_eq_true_eq] at hcond
            obtain ⟨⟨⟨⟨⟨⟨⟨⟨⟨⟨d1, d2⟩, d3⟩, d4⟩, d5⟩, d6⟩, d7⟩, d8⟩, d9⟩, d10⟩, d11⟩ := hcond
            injection h with h
            simp only [Prod.mk.injEq] at h
            obtain ⟨rfl, rfl⟩ := h
            have d5 := Nat.eq_of_beq_eq_true d5
            have d6 := Nat.eq_of_beq_eq_true d6
            have d7 := Nat.eq_of_beq_eq_true d7
            subst d1 d2 d3 d4 d5 d6 d7 d8
            have e9 := sameI_ok hr hp d9
            have e10 := sameI_ok hr hp d10
            have e11 := sameI_ok hr hp d11
            obtain ⟨u, y, hu, hy, eargs⟩ := denL_two hl
            obtain ⟨⟨bq, bo, bn, bc⟩, ⟨g1, g2, g3⟩, cc, hcb, eu⟩ := denSl hu
            obtain ⟨⟨bq', bo', bn', bc'⟩, ⟨g1', g2', g3'⟩, cd, hcd, ey⟩ := denSl hy
            obtain ⟨ca, ta, fa, pre, ta2, hob2, hcl2, ⟨r1, r2, r3⟩, r4, r6⟩ := rowOf_sound hw hcd hro
            obtain ⟨ob, hob, c', fz, tail, rfl, hf, hcl, ⟨s1, s2, s3⟩, s4, s5, s6⟩ := hw.obj b cc _ hcb hbs
            simp only [IE.den, Int.toNat_zero, Nat.zero_mul, Nat.add_zero] at eu ey
            have hxl : (x.den E.ι).length = (n1.den E.ι).toNat * ks2.length := by
              have : (((x.den E.ι).length : Nat) : Int) = (((n1.den E.ι).toNat * ks2.length : Nat) : Int) := by
                rw [s4, ← e9, Int.natCast_mul]
                congr 1
                omega
              exact Int.ofNat.inj this
            have hrl : (E.ι.fr r).length = (n1.den E.ι).toNat * ks2.length := by
              have : (((E.ι.fr r).length : Nat) : Int) = (((n1.den E.ι).toNat * ks2.length : Nat) : Int) := by
                rw [r4, ← e10, ← e11, Int.natCast_mul]
                congr 1
                omega
              exact Int.ofNat.inj this
            have htl : c'.size = (x.den E.ι).length + tail.length := by
              have := congrArg List.length hcl
              simpa using this
            have hone : ∀ v ∈ E.ι.fr r, v.oneCell' = true := by
              intro v hv
              obtain ⟨i, hi, rfl⟩ := List.getElem_of_mem hv
              have hk : 0 < ks2.length := by
                rcases Nat.eq_zero_or_pos ks2.length with h0 | h0
                · rw [h0, Nat.mul_zero] at hrl; omega
                · exact h0
              have hkk := r6 i _ _ (List.getElem?_eq_getElem (Nat.mod_lt i hk)) (List.getElem?_eq_getElem hi)
              revert hkk
              generalize ks2[i % ks2.length]'(Nat.mod_lt i hk) = k
              intro hkk
              cases k with
              | int k => obtain ⟨n, e, _⟩ := hkk; rw [e]; rfl
              | bool => obtain ⟨n, e⟩ := hkk; rw [e]; rfl
            obtain ⟨w', hst', hg', hoth, hsz, e1, e2, e3⟩ := storeCells_row (P := P) cc t' fz (E.ι.fr r) 0 0 c' w hob (fun j hj hjj => by
              rcases hf j hj with h0 | h0 <;> omega) (by omega) hone
            have hset : setL c'.toList (0 + 0) (E.ι.fr r) = E.ι.fr r ++ tail := by
              have h0 := setL_front [] (x.den E.ι ++ tail) (E.ι.fr r) (by rw [List.length_append]; omega)
              rw [List.drop_left' (by omega)] at h0
              rw [hcl]
              simpa using h0
            rw [hset] at hg'
            have hmin : Nat.min (n2.den E.ι).toNat (n1.den E.ι).toNat = (n1.den E.ι).toNat := by
              rw [← e11]; exact Nat.min_self _
            have hload : (loadCells ⟨cd, (q2.den E.ι).toNat, none⟩ ((n1.den E.ι).toNat * ks2.length)).run P w = .ok (E.ι.fr r).toArray w := by
              have hcells := run_loadCells_list (P := P) w ⟨cd, (q2.den E.ι).toNat, none⟩ (E.ι.fr r) (fun j v hj => by
                rw [Addr.add_lit]
                exact row_at hob2 hcl2 hj)
              rwa [hrl] at hcells
            refine ⟨.int .i64 (n1.den E.ι), w', ?_, ?_, ?_⟩
            · rw [exec_builtin rfl, args_toArray, eargs, eu, ey]
              have ht' : ts[0]? = some t := ht
              simp [builtin, Builtin.copy_, ht', run_underlying hd, Builtin.lenOf, Builtin.firstCells, run_size hz, hmin, hload, hst', goInt, Int.toNat_of_nonneg g2]
            · simp only [AV.den]
              rw [if_pos bn]
            · refine setRow_ext hw hcb hbs (by intro h; cases h) rfl rfl rfl ?_ hg' hoth hsz e1 e2 e3
              refine ⟨_, fz, tail, rfl, ?_, rfl, ⟨?_, s2, s3⟩, ?_, ?_, ?_⟩
              · intro i hi
                refine hf i ?_
                simp only [List.size_toArray, List.length_append] at hi
                omega
              · simp only [RX.upto, blt_iff]; exact r1
              · show (((E.ι.fr r).length : Nat) : Int) = _
                rw [hrl, ← hxl]; exact s4
              · simp only [List.size_toArray, List.length_append]
                rw [hrl, ← hxl, ← htl]; exact s5
              · exact r6
          · cases h
        · cases h
      · cases h
    · cases h
  · cases h

theorem symApp_sound (hSl : Slots E D σ.tmps a) (hw : WR E B σ.h w) (hp : ∀ b ∈ σ.pc, b.den E.ι = true) {o : Oper} (hc : ∀ x ∈ o.op.operands, Clear D x) {v : AV} {h' : Hp} (h : symApp P σ o = some (v, h')) :
    ∃ z w', (execOp a.eval o).run P w = .ok (.value z) w' ∧ v.den E = some z ∧ Ext E B w E h' w' := by
  unfold symApp at h
  split at h
  · rename_i r hr
    injection h with h
    subst h
    exact symOver_sound hSl hw hp hc hr
  · exact symAppA_sound hSl hw hp hc h


theorem symNil_sound (hSl : Slots E D σ.tmps a) (hw : WR E B σ.h w) (hp : ∀ b ∈ σ.pc, b.den E.ι = true) {o : Oper} (hc : ∀ x ∈ o.op.operands, Clear D x) {v : AV} (h : symNil P σ o = some v) :
    ∃ z, v.den E = some z ∧ (execOp a.eval o).run P w = .ok (.value z) w := by
  have hr := hw.giv.rules
  obtain ⟨dst, op, type, pos, after, guard⟩ := o
  unfold symNil at h
  simp only at h hc
  split at h
  · rename_i args ts
    simp only [Option.bind_eq_bind, Option.bind_eq_some_iff] at h
    obtain ⟨st, hst, xt, hxt, h⟩ := h
    split at h
    · rename_i e e' hd hxd
      simp only [Option.bind_eq_some_iff] at h
      obtain ⟨z, hz, xs, hxs, h⟩ := h
      have hl := callArgs (c := ⟨.builtin .append, args, ts⟩) hSl rfl hc hxs
      split at h
      · rename_i b z' q o' n c
        split at h
        · rename_i hcond
          injection h with h
          subst h
          have e0 := sameI_ok hr hp hcond
          simp only [IE.den] at e0
          obtain ⟨u, yv, hu, hyv, eargs⟩ := denL_two hl
          obtain rfl := denNilSlice hu
          obtain ⟨_, _, cc, hcb, ex⟩ := denSl hyv
          rw [e0] at ex
          obtain ⟨i, hi, hiz⟩ : ∃ i, P.info? e = some i ∧ i.size = z := by
            unfold size at hz
            simpa using hz
          have hrun := append_none (P := P) (ty := type) (w := w) hst hxt hd hxd rfl hi (u := yv) (new := #[]) (fun w => by rw [ex]; rfl) (by rw [ex]; simp [Builtin.firstCells, loadCells, loadCellsFrom])
          refine ⟨.slice none 0 0, by simp [AV.den], ?_⟩
          rw [exec_builtin rfl, args_toArray, eargs]
          simp [builtin, hrun]
        · cases h
      · cases h
    · cases h
  · cases h

/-- One unknown more. -/
theorem fresh_ext (hw : WR E B h w) (f : Fv) : Ext E B w ⟨E.ρ, E.κ, { E.ι with fv := E.ι.fv ++ [f] }⟩ { h with giv := { h.giv with nv := h.giv.nv + 1 } } w := by
  have hle : E.Le ⟨E.ρ, E.κ, { E.ι with fv := E.ι.fv ++ [f] }⟩ := ⟨⟨rfl, rfl, rfl, rfl, fun i u hi => by
    show (E.ι.fv ++ [f])[i]? = some u
    rw [List.getElem?_append_left (List.getElem?_eq_some_iff.1 hi).1]
    exact hi⟩, fun _ _ h => h, fun _ _ h => h⟩
  refine ⟨hle, ⟨hw.lenρ, hw.lenκ, fun b c o hb ho => ?_, hw.base, hw.inj, hw.bsize, hw.cls, ⟨hw.giv.spot, ?_, hw.giv.rules.le hle.ι, hw.giv.prd⟩⟩, ⟨rfl, rfl, rfl, Nat.le_refl _, fun _ _ _ => rfl, fun b c hb => Or.inl ⟨b, hb⟩⟩⟩
  · obtain ⟨ob, h1, h2⟩ := hw.obj b c o hb ho
    exact ⟨ob, h1, h2.mono hle⟩
  · have := hw.giv.nv
    simp only [Unk.nv] at this ⊢
    simp [this]

theorem symCopy_sound (hSl : Slots E D σ.tmps a) (hw : WR E B σ.h w) (hp : ∀ b ∈ σ.pc, b.den E.ι = true) {o : Oper} (hc : ∀ x ∈ o.op.operands, Clear D x) {σ' : St} (h : symCopy P σ o = some σ') :
    ∃ (E' : Env) (h' : Hp) (f : BE) (v : AV) (x : Value) (w' : World), σ' = { σ with h := h', pc := f :: σ.pc }.put o.dst v ∧ (execOp a.eval o).run P w = .ok (.value x) w' ∧ v.den E' = some x ∧ f.holds E'.ι ∧ Ext E B w E' h' w' := by
  have hr := hw.giv.rules
  obtain ⟨dst, op, type, pos, after, guard⟩ := o
  unfold symCopy at h
  simp only at h hc
  split at h
  · rename_i args ts
    simp only [Option.bind_eq_bind, Option.bind_eq_some_iff] at h
    obtain ⟨st, hst, xt, hxt, h⟩ := h
    split at h
    · rename_i e e' hd hxd
      simp only [Option.bind_eq_some_iff] at h
      obtain ⟨z, hz, y, hy, zz, hzz, xs, hxs, h⟩ := h
      have hl := callArgs (c := ⟨.builtin .append, args, ts⟩) hSl rfl hc hxs
      split at h
      · rename_i b z' q o' n c
        simp only [Option.bind_eq_some_iff] at h
        obtain ⟨⟨r, ks, m, q'⟩, hro, h⟩ := h
        simp only at h
        split at h
        · rename_i hcond
          simp only [Bool.and_eq_true, decide_eq_true_eq] at hcond
          obtain ⟨⟨⟨⟨⟨⟨⟨⟨c1, c2⟩, c3⟩, c4⟩, c5⟩, c6⟩, c7⟩, c8⟩, c9⟩ := hcond
          injection h with h
          subst c1 c2 c3
          obtain ⟨u, yv, hu, hyv, eargs⟩ := denL_two hl
          obtain rfl := denNilSlice hu
          obtain ⟨⟨bq, bo, bn, bc⟩, ⟨g1, g2, g3⟩, cc, hcb, ex⟩ := denSl hyv
          obtain ⟨ca, t, fz, pre, tail, hob, hcl, ⟨r1, r2, r3⟩, r4, r6⟩ := rowOf_sound hw hcb hro
          have e7 := sameI_ok hr hp c7
          have l8 := leB_sound hr hp c8
          have l9 := leB_sound hr hp c9
          simp only [IE.den] at l8 l9
          obtain ⟨i, hi, hiy⟩ := run_bytes hy
          obtain ⟨i', zv, hi', hzv, hzd, hzr⟩ := zero_cells (P := P) (E := E) hzz
          rw [hi] at hi'
          injection hi' with hi'
          subst hi'
          have hiz : i.size = z' := by
            unfold size at hz
            rw [hi] at hz
            simpa using hz
          have hzl : zv.cells.toList.length = z' := by have := denL_length hzd; omega
          have hxlen : (E.ι.fr r).length = (n.den E.ι).toNat * z' := by
            have : (((E.ι.fr r).length : Nat) : Int) = (((n.den E.ι).toNat * z' : Nat) : Int) := by
              rw [r4, ← e7, c4, Int.natCast_mul]
              congr 1
              omega
            exact Int.ofNat.inj this
          simp only [IE.den, Int.toNat_zero, Nat.zero_mul, Nat.add_zero] at ex
          have hnew : (Builtin.firstCells i.size (n.den E.ι).toNat yv).run P w.drew = .ok (E.ι.fr r).toArray w.drew := by
            have hcells := run_loadCells_list (P := P) w.drew ⟨cc, (q.den E.ι).toNat, none⟩ (E.ι.fr r) (fun j v hj => by
              rw [Addr.add_lit]
              exact row_at (w := w.drew) hob hcl hj)
            rw [hxlen] at hcells
            rw [ex, hiz]
            simpa [Builtin.firstCells] using hcells
          have hold : (Builtin.firstCells i.size 0 (.slice none 0 0)).run P w.drew = .ok #[] w.drew := by simp [Builtin.firstCells]
          have hb47 : (0 + (n.den E.ι).toNat) * i.bytes ≤ 2 ^ 47 := by
            rw [hiy]
            have : (0 + (n.den E.ι).toNat) * y ≤ 1073741824 * 131072 := Nat.mul_le_mul (by omega) c6
            omega
          obtain ⟨cap, hcap, hrun⟩ := append_grow (P := P) (ty := type) (w := w) hst hxt hd hxd rfl hi hzv (u := yv) (fun w => by rw [ex]; rfl) hnew hold (by omega) (by omega) hb47
          rw [Nat.zero_add] at hcap hrun
          have hx1 := fresh_ext (h := σ.h) hw { n := (cap : Int) }
          have hle := hx1.le.ι
          have hk : σ.h.giv.nv = E.ι.fv.length := hw.giv.nv.symm
          have hfn : (IE.fv σ.h.giv.nv).den { E.ι with fv := E.ι.fv ++ [{ n := (cap : Int) }] } = (cap : Int) := by
            simp only [IE.den, Unk.fn]
            rw [hk, List.getElem?_append_right (Nat.le_refl _), Nat.sub_self]
            rfl
          have hnv1 : (Unk.nv { E.ι with fv := E.ι.fv ++ [{ n := (cap : Int) }] }) = E.ι.nv + 1 := by simp [Unk.nv]
          have hfu : (IE.fv σ.h.giv.nv).upto (Unk.nv { E.ι with fv := E.ι.fv ++ [{ n := (cap : Int) }] }) = true := by
            simp only [IE.upto, blt_iff, hnv1]
            simp only [Unk.nv]
            omega
          have hnd : n.den { E.ι with fv := E.ι.fv ++ [{ n := (cap : Int) }] } = n.den E.ι := IE.den_le hle bn
          have hnu : n.upto (Unk.nv { E.ι with fv := E.ι.fv ++ [{ n := (cap : Int) }] }) = true := IE.below_le hle.nv bn
          have hfr : Unk.fr { E.ι with fv := E.ι.fv ++ [{ n := (cap : Int) }] } r = E.ι.fr r := hle.fr r1
          have hx2 := Laid.ext (w' := w.drew.alloc (.cells (#[] ++ (E.ι.fr r).toArray ++ (copiesV zv.cells.toList (cap - (n.den E.ι).toNat)).toArray) e)) hx1.wr (Or.inr rfl) (.row (.row r) e ks n (.fv σ.h.giv.nv)) [] (fun k hk => by simp [AObj.cls?] at hk) (by
            refine ⟨_, (0, 0), copiesV zv.cells.toList (cap - (n.den E.ι).toNat), rfl, fun i _ => by simp, ?_, ⟨?_, hnu, hfu⟩, ?_, ?_, ?_⟩
            · show (#[] ++ (E.ι.fr r).toArray ++ (copiesV zv.cells.toList (cap - (n.den E.ι).toNat)).toArray).toList = (Unk.fr { E.ι with fv := E.ι.fv ++ [{ n := (cap : Int) }] } r) ++ _
              rw [hfr]
              simp
            · simp only [RX.upto, blt_iff]
              show r < Unk.nv { E.ι with fv := E.ι.fv ++ [{ n := (cap : Int) }] }
              rw [hnv1]
              omega
            · show (((Unk.fr { E.ι with fv := E.ι.fv ++ [{ n := (cap : Int) }] } r).length : Nat) : Int) = _
              rw [hfr]
              show _ = n.den { E.ι with fv := E.ι.fv ++ [{ n := (cap : Int) }] } * _
              rw [hnd, r4, e7]
            · show (((#[] ++ (E.ι.fr r).toArray ++ (copiesV zv.cells.toList (cap - (n.den E.ι).toNat)).toArray).size : Nat) : Int) = (IE.fv σ.h.giv.nv).den { E.ι with fv := E.ι.fv ++ [{ n := (cap : Int) }] } * _
              rw [hfn, c4]
              simp only [Array.size_append, List.size_toArray, copiesV_length, hzl, hxlen, List.length_nil, Nat.zero_add]
              rw [← Nat.add_mul, Int.natCast_mul]
              congr 1
              omega
            · intro j k x hkj hx
              have hx : (E.ι.fr r)[j]? = some x := by
                have hx' : (Unk.fr { E.ι with fv := E.ι.fv ++ [{ n := (cap : Int) }] } r)[j]? = some x := hx
                rwa [hfr] at hx'
              exact r6 j k x hkj hx)
          have hxx := hx1.trans hx2
          refine ⟨_, _, .not (.cmp .lss (.fv σ.h.giv.nv) n), .sl σ.h.bs.length z' (.lit 0) (.lit 0) n (.fv σ.h.giv.nv), .slice (some ⟨w.heap.size, 0, none⟩) (n.den E.ι).toNat cap, _, h.symm, ?_, ?_, ⟨?_, ?_⟩, hxx⟩
          · rw [exec_builtin rfl, args_toArray, eargs]
            simp [builtin, hrun]
          · have hb : (E.ρ ++ [w.heap.size])[σ.h.bs.length]? = some w.heap.size := by
              rw [List.getElem?_append_right (by rw [hw.lenρ]; omega), hw.lenρ]
              simp
            simp only [AV.den]
            rw [if_pos ⟨by simp only [below_lit, hnu, hfu, Bool.and_self], by rw [hfn, hnd]; simp only [IE.den]; omega⟩, hb, hfn, hnd]
            simp only [Option.map_some, IE.den, Int.toNat_zero, Nat.zero_mul, Nat.add_zero, Int.toNat_natCast]
          · simp only [BE.upto, Bool.and_eq_true]
            exact ⟨hfu, hnu⟩
          · simp only [BE.den, intCmp, Option.getD_some, hfn, hnd, Bool.not_eq_true', decide_eq_false_iff_not]
            omega
        · cases h
      · cases h
    · cases h
  · cases h

end
end Go.Sx
