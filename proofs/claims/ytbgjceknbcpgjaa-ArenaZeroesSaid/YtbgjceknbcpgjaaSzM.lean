/-
  A WALKER THAT COMPUTES, ITS THIRTEENTH PART: each operation.
-/
import Derived.Test.YtbgjceknbcpgjaaSzL
import Derived.Lib.MakeNoZero
namespace Go.Sx

/-- No function of the program is the runtime's count of goroutines. -/
def plainNames (P : Program) : Bool := P.funcs.toList.all fun fn => fn.name != "runtime.NumGoroutine"

theorem plainNames_spec {P : Program} (h : plainNames P = true) {f : FuncId} {fn : Func} (hf : P.funcs[f]? = some fn) : (fn.name == "runtime.NumGoroutine") = false := by
  have := List.all_eq_true.1 h fn (Array.mem_toList_iff.2 (Array.mem_of_getElem? hf))
  simpa using this

section
variable {P : Program} {E : Env} {D : Nat → Prop} {tmps : List AV} {a : Act} {B : Bd} {h : Hp} {w : World}

/-- What an operation comes to, in the model. -/
def Does (P : Program) (E : Env) (B : Bd) (w : World) (s : Sem Next) : ANext → Prop
  | .value v h' => ∃ E' z w', s.run P w = .ok (.value z) w' ∧ v.den E' = some z ∧ Ext E B w E' h' w'
  | .skip h' => ∃ E' w', s.run P w = .ok .skip w' ∧ Ext E B w E' h' w'
  | .enter f args h' => ∃ xs w', AV.denL E args = some xs ∧ s.run P w = .ok (.enter f xs.toArray) w' ∧ Ext E B w E h' w'

theorem callArgs (hS : Slots E D tmps a) {op : Op} {c : Call} (ho : op = .call c) (hc : ∀ x ∈ op.operands, Clear D x) {xs : List AV} (hx : args1 tmps c.args.toList = some xs) :
    AV.denL E xs = some (c.args.toList.map a.eval) :=
  args1_den hS (fun z hz => hc z (by rw [ho]; simp only [Op.operands, Call.operands]; exact Array.mem_append.2 (Or.inr (Array.mem_toList_iff.1 hz)))) hx

theorem denL_two {E : Env} {x y : AV} {l : List Value} (h : AV.denL E [x, y] = some l) : ∃ u v, x.den E = some u ∧ y.den E = some v ∧ l = [u, v] := by
  obtain ⟨u, m, hu, hm, rfl⟩ := denL_cons.1 h
  obtain ⟨v, m', hv, hm', rfl⟩ := denL_cons.1 hm
  simp [AV.denL] at hm'
  subst hm'
  exact ⟨u, v, hu, hv, rfl⟩

/-- A new block, and nothing else. -/
def Laid (w : World) (obj : Obj) (w' : World) : Prop := w' = w.alloc obj ∨ w' = w.drew.alloc obj

theorem Laid.heap {w w' : World} {obj : Obj} (h : Laid w obj w') : w'.heap = w.heap.push obj := by rcases h with rfl | rfl <;> rfl

theorem Laid.ext (hw : WR E B h w) {obj : Obj} {w' : World} (hl : Laid w obj w') (o : AObj) (ks : List Nat) (hcl : ∀ k, o.cls? = some k → k = h.bs.length) (hr : ORel ⟨E.ρ ++ [w.heap.size], E.κ ++ ks, E.ι⟩ o obj) :
    Ext E B w ⟨E.ρ ++ [w.heap.size], E.κ ++ ks, E.ι⟩ { bs := h.bs ++ [o], nk := h.nk + ks.length, giv := h.giv } w' := by
  rcases hl with rfl | rfl
  · exact new_sound hw o obj ks hcl hr
  · exact (new_sound hw.drew o obj ks hcl hr).of_drew

theorem allocA_cls {o : Oper} {b k n : Nat} {v : AV} {ob : AObj} (hr : allocA P tmps b k o = some (v, ob, n)) : ∀ k', ob.cls? = some k' → k' = b := by
  unfold allocA at hr
  intro k' hk
  split at hr <;> (try simp only [Option.bind_eq_bind, Option.bind_eq_some_iff, Option.pure_def, Option.some.injEq, Prod.mk.injEq] at hr)
  · obtain ⟨z, hz, rfl, rfl, rfl⟩ := hr; simpa [AObj.cls?] using hk.symm
  · obtain ⟨z, hz, rfl, rfl, rfl⟩ := hr; simpa [AObj.cls?] using hk.symm
  · obtain ⟨ps, hps, ⟨e, cs⟩, hs, rfl, rfl, rfl⟩ := hr; simpa [AObj.cls?] using hk.symm
  · obtain ⟨l, hl, c, hc, ⟨e, cs, l', c'⟩, hs, rfl, rfl, rfl⟩ := hr; simpa [AObj.cls?] using hk.symm
  · obtain ⟨x, hx, hr⟩ := hr
    split at hr
    · split at hr
      · simp only [Option.some.injEq, Prod.mk.injEq] at hr
        obtain ⟨rfl, rfl, rfl⟩ := hr; simpa [AObj.cls?] using hk.symm
      · cases hr
    · cases hr
  · obtain ⟨x, hx, hr⟩ := hr
    split at hr
    · simp only [Option.some.injEq, Prod.mk.injEq] at hr
      obtain ⟨rfl, rfl, rfl⟩ := hr; simp [AObj.cls?] at hk
    · cases hr
  · obtain ⟨rfl, rfl, rfl⟩ := hr; simp [AObj.cls?] at hk
  · cases hr

theorem allocA_sound {o : Oper} {b k n : Nat} {v : AV} {ob : AObj} (hS : Slots E D tmps a) (hc : ∀ x ∈ o.op.operands, Clear D x) (hr : allocA P tmps b k o = some (v, ob, n)) (w : World) :
    ∃ (x : Value) (obj : Obj) (ks : List Nat) (w' : World), (execOp a.eval o).run P w = .ok (.value x) w' ∧ Laid w obj w' ∧ ks.length = n ∧
      ∀ E', E.Le E' → E'.ρ[b]? = some w.heap.size → (∀ (j : Nat) (c : Nat), ks[j]? = some c → E'.κ[k + j]? = some c) → v.den E' = some x ∧ ORel E' ob obj := by
  obtain ⟨dst, op, type, pos, after, guard⟩ := o
  unfold allocA at hr
  simp only at hr hc
  split at hr
  · -- alloc
    rename_i t
    simp only [Option.bind_eq_bind, Option.bind_eq_some_iff, Option.pure_def, Option.some.injEq, Prod.mk.injEq] at hr
    obtain ⟨z, hz, rfl, rfl, rfl⟩ := hr
    obtain ⟨i, zv, hi, hzv, hzd, hzr⟩ := zero_cells (P := P) (E := E) hz
    refine ⟨.pointer (some ⟨w.heap.size, 0, none⟩), .cells zv.cells t, [], w.alloc (.cells zv.cells t), by simp [execOp, Instr.alloc, hzr, newVar, newRow], Or.inl rfl, rfl, fun E' hle hb _ => ⟨by simp [AV.den, hb], ?_⟩⟩
    exact rel_cells (AV.denL_mono hle _ _ hzd) t b
  · -- box
    rename_i t x
    simp only [Option.bind_eq_bind, Option.bind_eq_some_iff, Option.pure_def, Option.some.injEq, Prod.mk.injEq] at hr
    obtain ⟨z, hz, rfl, rfl, rfl⟩ := hr
    have hd := opnd_den hS (hc x (by simp [Op.operands])) hz
    refine ⟨.pointer (some ⟨w.heap.size, 0, none⟩), .cells (a.eval x).cells t, [], w.alloc (.cells (a.eval x).cells t), by simp [execOp, Instr.box, newVar, newRow], Or.inl rfl, rfl, fun E' hle hb _ => ⟨by simp [AV.den, hb], ?_⟩⟩
    exact rel_cells (AV.denL_mono hle _ _ (cells_den hd)) t b
  · -- buildSlice
    rename_i t len ps
    simp only [Option.bind_eq_bind, Option.bind_eq_some_iff, Option.pure_def, Option.some.injEq, Prod.mk.injEq] at hr
    obtain ⟨l, hl, ⟨e, cs⟩, hb, rfl, rfl, rfl⟩ := hr
    have hp := parts1_den hS (fun x hx => hc x.2 (by
      simp only [Op.operands]
      exact List.mem_toArray.2 (List.mem_map.2 ⟨x, hx, rfl⟩))) hl
    obtain ⟨m, hm, hrun⟩ := buildSliceA_sound hb hp
    have e1 : (ps.map fun (x : Nat × Operand) => (x.1, a.eval x.2)) = (ps.toList.map fun (x : Nat × Operand) => (x.1, a.eval x.2)).toArray := by
      apply Array.ext'; simp
    refine ⟨_, .cells m.toArray e, [], _, by simp only [execOp, Sem.run_bind]; rw [e1, hrun]; rfl, Or.inl rfl, rfl, fun E' hle hb' _ => ⟨by simp [AV.den, hb', Cap.den], ?_⟩⟩
    exact rel_cells (AV.denL_mono hle _ _ hm) e b
  · -- makeSlice
    rename_i t l c
    simp only [Option.bind_eq_bind, Option.bind_eq_some_iff, Option.pure_def, Option.some.injEq, Prod.mk.injEq] at hr
    obtain ⟨p, hp, q, hq, ⟨e, cs, ln, cn⟩, hm, rfl, rfl, rfl⟩ := hr
    obtain ⟨hle1, m, hmd, hrun⟩ := makeSliceA_sound hm (opnd_den hS (hc l (by simp [Op.operands])) hp) (opnd_den hS (hc c (by simp [Op.operands])) hq)
    refine ⟨_, .cells m.toArray e, [], _, by simp only [execOp, Sem.run_bind]; rw [hrun]; rfl, Or.inl rfl, rfl, fun E' hle hb' _ => ⟨by simp only [AV.den, hb', Cap.den]; rw [if_pos hle1], ?_⟩⟩
    exact rel_cells (AV.denL_mono hle _ _ hmd) e b
  · -- a string's bytes
    rename_i src dst' x
    simp only [Option.bind_eq_bind, Option.bind_eq_some_iff] at hr
    obtain ⟨p, hp, hr⟩ := hr
    have hd := opnd_den hS (hc x (by simp [Op.operands])) hp
    split at hr
    · rename_i d e s hsd hdd
      split at hr
      · rename_i he
        simp only [Option.pure_def, Option.some.injEq, Prod.mk.injEq] at hr
        obtain ⟨rfl, rfl, rfl⟩ := hr
        have hx := denStr hd
        obtain ⟨cap, hcap, hrun⟩ := run_stringToBytes (P := P) e s w
        have hcv : (convert src dst' (.string ⟨s.toArray⟩)).run P w = (Conv.stringToBytes e ⟨s.toArray⟩).run P w := by
          cases d <;> simp [convert, run_underlying hsd, run_underlying hdd, run_underlying he]
        refine ⟨_, _, [cap], _, by simp only [execOp, Sem.run_bind]; rw [hx, hcv, hrun]; rfl, Or.inr rfl, rfl, fun E' hle hb' hk' => ?_⟩
        have hkk := hk' 0 cap rfl
        simp only [Nat.add_zero] at hkk
        have h3 : (Cap.var k 0).den E' = some cap := Cap.den_var.2 ⟨cap, hkk, Nat.zero_le _, rfl⟩
        refine ⟨by simp only [AV.den, hb', h3]; rw [if_pos hcap], ?_⟩
        exact rel_more (bytesAV_den _ s) e _ k 1 cap s.length (cap, cap + 1) (by intro i hi; simp [byteVals_length] at hi ⊢; omega) hkk (by simp [byteVals_length]; omega) hcap
      · cases hr
    · cases hr
  · -- range
    rename_i t x
    simp only [Option.bind_eq_bind, Option.bind_eq_some_iff] at hr
    obtain ⟨p, hp, hr⟩ := hr
    have hd := opnd_den hS (hc x (by simp [Op.operands])) hp
    split at hr
    · rename_i s hdt
      simp only [Option.pure_def, Option.some.injEq, Prod.mk.injEq] at hr
      obtain ⟨rfl, rfl, rfl⟩ := hr
      have hx := denStr hd
      exact ⟨.pointer (some ⟨w.heap.size, 0, none⟩), .stringIter ⟨s.toArray⟩ 0, [], w.alloc (.stringIter ⟨s.toArray⟩ 0), by simp [execOp, Instr.range, hx, run_underlying hdt], Or.inl rfl, rfl,
        fun E' hle hb _ => ⟨by simp [AV.den, hb], rfl⟩⟩
    · cases hr
  · -- makeMap
    rename_i t
    simp only [Option.pure_def, Option.some.injEq, Prod.mk.injEq] at hr
    obtain ⟨rfl, rfl, rfl⟩ := hr
    exact ⟨.map (some w.heap.size), .map #[] 0, [], w.alloc (.map #[] 0), by simp [execOp, Instr.makeMap], Or.inl rfl, rfl,
      fun E' hle hb _ => ⟨by simp [AV.den, hb], #[], rfl, rfl, fun i k v n hi => by simp at hi⟩⟩
  · cases hr

theorem find_compare {fn : Func} (h : fn.name = "internal/bytealg.Compare") : Extern.find fn = some Extern.BytealgCompare.compare := by
  have h1 : Extern.allGenericRows.lookup "internal/bytealg.Compare" = none := by kernel_rfl
  have h2 : Extern.allTypedRows.lookup "internal/bytealg.Compare" = none := by kernel_rfl
  have h3 : Extern.allRows.lookup "internal/bytealg.Compare" = some Extern.BytealgCompare.compare := by kernel_rfl
  simp only [Extern.find, h, h1, h2, h3]
  rfl

theorem run_loadBytes {c : Nat} : ∀ (ns : List Int) (o : Nat) (acc : ByteArray), (∀ (j : Nat) (n : Int), ns[j]? = some n → w.cell? ⟨c, o + j, none⟩ = some (.int .u8 n)) →
    (Extern.Bytes.loadBytes ⟨c, o, none⟩ ns.length acc).run P w = .ok ⟨acc.data ++ (ns.map fun n => UInt8.ofNat n.toNat).toArray⟩ w
  | [], o, acc, _ => by simp [Extern.Bytes.loadBytes]
  | n :: ns, o, acc, h => by
    have h0 := h 0 n rfl
    simp only [Nat.add_zero] at h0
    have ih := run_loadBytes ns (o + 1) (acc.push n.toNat.toUInt8) (fun j m hj => by
      have := h (j + 1) m (by simpa using hj)
      rwa [show o + (j + 1) = o + 1 + j by omega] at this)
    simp only [List.length_cons, Extern.Bytes.loadBytes, Sem.run_bind]
    have hl : (load ⟨c, o, none⟩).run P w = .ok (.int .u8 n) w := by simp [h0]
    rw [hl, Result.andThen_ok]
    simp only [Addr.add_lit]
    rw [ih]
    congr 1
    apply ByteArray.ext
    simp [ByteArray.push, Nat.toUInt8]

theorem byteCells_den : ∀ {vs : List AV} {s : List UInt8} {l : List Value}, byteCells vs = some s → AV.denL E vs = some l → ∃ ns : List Int, l = ns.map (Value.int .u8) ∧ s = ns.map fun n => UInt8.ofNat n.toNat
  | [], s, l, h1, h2 => by simp [byteCells] at h1; simp [AV.denL] at h2; subst h1; subst h2; exact ⟨[], rfl, rfl⟩
  | v :: vs, s, l, h1, h2 => by
    obtain ⟨y, m, hy, hm, rfl⟩ := denL_cons.1 h2
    unfold byteCells at h1
    split at h1
    · rename_i h0; cases h0
    · rename_i n' r' h0
      injection h0 with h3 h4
      subst h3
      subst h4
      simp only [Option.bind_eq_bind, Option.bind_eq_some_iff, Option.pure_def] at h1
      obtain ⟨s', hs', h1⟩ := h1
      injection h1 with h1
      subst h1
      obtain rfl := denInt hy
      obtain ⟨ns, e1, e2⟩ := byteCells_den hs' hm
      exact ⟨n' :: ns, by simp [e1, IE.den], by simp [e2]⟩
    · cases h1

theorem bytesA_sound {x : AV} {s : List UInt8} {v : Value} (hw : WR E B h w) (hs : bytesA h x = some s) (hx : x.den E = some v) : (Extern.Bytes.bytesOf v).run P w = .ok ⟨s.toArray⟩ w := by
  unfold bytesA at hs
  split at hs
  · injection hs with hs
    subst hs
    obtain rfl := denStr hx
    simp [Extern.Bytes.bytesOf]
  · injection hs with hs
    subst hs
    obtain rfl := denNilSlice hx
    rfl
  · rename_i b o n cp
    simp only [Option.bind_eq_bind, Option.bind_eq_some_iff] at hs
    obtain ⟨vs, hvs, hs⟩ := hs
    obtain ⟨c, m, hc, hm, hle, rfl⟩ := denSlice hx
    obtain ⟨l, hl, hn, hcl⟩ := loadFrom_den hw hc n o vs hvs
    obtain ⟨ns, e1, e2⟩ := byteCells_den hs hl
    subst e2
    have hlen : ns.length = n := by rw [← hn, e1]; simp
    have hrun := run_loadBytes (P := P) ns o ByteArray.empty (fun j k hj => hcl j _ (by rw [e1]; simp [hj]))
    rw [hlen] at hrun
    simp only [Extern.Bytes.bytesOf]
    rw [hrun]
    have e0 : ByteArray.empty.data = #[] := rfl
    rw [e0]
    simp
  · cases hs

theorem strictBytes_den : ∀ {vs : List AV} {s : List UInt8} {l : List Value}, strictBytes vs = some s → AV.denL E vs = some l → l = s.map fun x => Value.int .u8 x.toNat := by
  intro vs
  induction vs with
  | nil => intro s l h1 h2; simp [strictBytes] at h1; simp [AV.denL] at h2; subst h1; subst h2; rfl
  | cons v vs ih =>
    intro s l h1 h2
    obtain ⟨y, m, hy, hm, rfl⟩ := denL_cons.1 h2
    unfold strictBytes at h1
    split at h1
    · rename_i h0; cases h0
    · rename_i n' r' h0
      injection h0 with h3 h4
      subst h3
      subst h4
      split at h1
      · rename_i hlt
        simp only [Option.map_eq_some_iff] at h1
        obtain ⟨s', hs', rfl⟩ := h1
        obtain rfl := denInt hy
        rw [ih hs' hm]
        simp [IE.den, Nat.mod_eq_of_lt hlt]
      · cases h1
    · cases h1

theorem gone1_only (k : Nat) (o : AObj) : (gone1 k o).only = o.only := by
  cases o <;> simp only [gone1] <;> (try rfl)
  split <;> rfl

theorem gone1_cls (k : Nat) (ob : AObj) : (gone1 k ob).cls? = ob.cls? := by
  cases ob with
  | cells c t m k' => simp only [gone1]; split <;> rfl
  | _ => rfl

theorem gone1_rel {k : Nat} {ob : AObj} {o : Obj} (h : ORel E ob o) : ORel E (gone1 k ob) o := by
  cases ob with
  | cells c t m k' =>
    simp only [gone1]
    split
    · trivial
    · exact h
  | _ => exact h

theorem gone1_same {k : Nat} {ob : AObj} (h : ob.cls? = some k) : gone1 k ob = .gone k := by
  cases ob with
  | cells c t m k' =>
    simp only [AObj.cls?, Option.some.injEq] at h
    subst h
    simp [gone1]
  | gone k' =>
    simp only [AObj.cls?, Option.some.injEq] at h
    subst h
    rfl
  | strIter s p => simp [AObj.cls?] at h
  | txtIter s p => simp [AObj.cls?] at h
  | map es n => simp [AObj.cls?] at h
  | mapIter m s l n => simp [AObj.cls?] at h
  | loop => simp [AObj.cls?] at h
  | deferred => simp [AObj.cls?] at h
  | given cs i => simp [AObj.cls?] at h
  | free => simp [AObj.cls?] at h
  | row => simp [AObj.cls?] at h
  | grow => simp [AObj.cls?] at h

theorem gone1_idem (k : Nat) (x : AObj) : gone1 k (gone1 k x) = gone1 k x := by
  cases x with
  | cells c t m k' =>
    by_cases h : (k' == k) = true
    · simp [gone1, h]
    · simp [gone1, h]
  | _ => rfl

theorem gone1_other {k : Nat} {x : AObj} (h : x.cls? ≠ some k) : gone1 k x = x := by
  cases x with
  | cells c t m k' =>
    have : (k' == k) = false := by simpa [AObj.cls?] using h
    simp [gone1, this]
  | _ => rfl

theorem goneA_get (hw : WR E B h w) (k j : Nat) : (goneA k h.bs)[j]? = (h.bs[j]?).map (gone1 k) := by
  simp only [goneA]
  rw [Bl.getElem?_upd (gone1_idem k)]
  split
  · rfl
  · rename_i hn
    cases ho : h.bs[j]? with
    | none => rfl
    | some o =>
      simp only [Option.map_some]
      rw [gone1_other]
      intro hk
      rcases hw.cls j o k ho hk with rfl | hm
      · exact hn List.mem_cons_self
      · exact hn (List.mem_cons_of_mem _ hm)

/-- A row is frozen: all that may be the same row are gone. -/
theorem freeze_sound (hw : WR E B h w) {b c : Nat} {cs : List (Option AV)} {t : TypeId} {m : Option (Nat × Nat × Nat × Nat)} {k : Nat} (hb : E.ρ[b]? = some c) (hbs : h.bs[b]? = some (.cells cs t m k)) (n : Nat) (hn : n ≠ 0) :
    Ext E B w E { h with bs := goneA k h.bs } (w.freeze ⟨c, 0, none⟩ n) := by
  have hother : ∀ i : Nat, i ≠ c → (w.freeze ⟨c, 0, none⟩ n).heap[i]? = w.heap[i]? := by
    intro i hi
    simp only [World.freeze]
    rw [if_neg hn]
    simp only [Array.getElem?_modify]
    rw [if_neg (fun e => hi e.symm)]
  have hsize : (w.freeze ⟨c, 0, none⟩ n).heap.size = w.heap.size := by
    simp only [World.freeze]
    rw [if_neg hn]
    simp
  refine ⟨.refl E, ⟨by simp [goneA, Bl.length_upd, hw.lenρ], hw.lenκ, ?_, hw.base, ?_, by rw [hsize]; exact hw.bsize, ?_, hw.giv⟩, ⟨?_, ?_, ?_, by rw [hsize]; exact Nat.le_refl _, ?_, fun b c hb => Or.inl ⟨b, hb⟩⟩⟩
  · intro b1 c1 o1 h1 h2
    simp only [goneA_get hw, Option.map_eq_some_iff] at h2
    obtain ⟨o0, h0, rfl⟩ := h2
    obtain ⟨ob1, hob1, hr1⟩ := hw.obj b1 c1 o0 h1 h0
    by_cases hcc : c1 = c
    · subst hcc
      by_cases hfree : o0 = .free
      · subst hfree
        have hlt : c1 < (w.freeze ⟨c1, 0, none⟩ n).heap.size := by rw [hsize]; exact hw.lt hb
        exact ⟨_, Array.getElem?_eq_getElem hlt, trivial⟩
      have hk : o0.cls? = some k := by
        by_cases hbb : b1 = b
        · subst hbb
          rw [hbs] at h0
          injection h0 with h0
          subst h0
          rfl
        · rcases hw.inj b1 b c1 o0 _ hbb h1 hb h0 hbs hfree (by intro h; cases h) with ⟨_, hon⟩ | this
          · cases hon
          · exact this.1
      rw [gone1_same hk]
      have hlt : c1 < (w.freeze ⟨c1, 0, none⟩ n).heap.size := by rw [hsize]; exact hw.lt hb
      exact ⟨_, Array.getElem?_eq_getElem hlt, trivial⟩
    · exact ⟨ob1, by rw [hother c1 hcc]; exact hob1, gone1_rel hr1⟩
  · intro b1 b2 c2 o1 o2 hne h1 h2 ho1 ho2 hf1 hf2
    simp only [goneA_get hw, Option.map_eq_some_iff] at ho1 ho2
    obtain ⟨p, hp, rfl⟩ := ho1
    obtain ⟨q, hq, rfl⟩ := ho2
    rw [gone1_cls, gone1_cls, gone1_only, gone1_only]
    exact hw.inj b1 b2 c2 p q hne h1 h2 hp hq (fun h => hf1 (by rw [h]; rfl)) (fun h => hf2 (by rw [h]; rfl))
  · intro b2 o2 k2 ho2 hk2
    simp only [goneA_get hw, Option.map_eq_some_iff] at ho2
    obtain ⟨p, hp, rfl⟩ := ho2
    rw [gone1_cls] at hk2
    simp only [goneA, Bl.members_upd]
    exact hw.cls b2 p k2 hp hk2
  · simp only [World.freeze]; rw [if_neg hn]
  · simp only [World.freeze]; rw [if_neg hn]
  · simp only [World.freeze]; rw [if_neg hn]
  · intro c1 _ hno
    exact hother c1 (fun e => hno b (by rw [hb, e]))

theorem textA_sound (hw : WR E B h w) {t it ty : TypeId} {p n : AV} {u v : Value} {r : ANext} (hs : textA P h t p n = some r) (hp : p.den E = some u) (hn : n.den E = some v) :
    ∃ z w' v' h', r = .value v' h' ∧ (Builtin.unsafeString_ #[t, it] ty #[u, v]).run P w = .ok z w' ∧ v'.den E = some z ∧ Ext E B w E h' w' := by
  unfold textA at hs
  split at hs
  · injection hs with hs
    subst hs
    obtain rfl := denNilPtr hp
    obtain rfl := denInt hn
    refine ⟨.string .empty, w, _, _, rfl, ?_, ?_, .refl hw⟩
    · exact Lib.run_unsafeString_none (P := P) w t it ty none
    · simp only [AV.den]; rfl
  · rename_i b m
    obtain ⟨c, hc, rfl⟩ := denPtr hp
    obtain rfl := denInt hn
    split at hs
    · rename_i e cs e' mo k hd hbs
      split at hs
      · cases hs
      · rename_i hcond
        simp only [Bool.or_eq_true, bne_iff_ne, ne_eq, decide_eq_true_eq, not_or, Decidable.not_not, Int.not_le, Int.not_lt, gt_iff_lt] at hcond
        obtain ⟨⟨⟨rfl, hce⟩, hpos⟩, hmax⟩ := hcond
        simp only [Option.bind_eq_bind, Option.bind_eq_some_iff, Option.pure_def] at hs
        obtain ⟨vs, hvs, s, hss, hs⟩ := hs
        injection hs with hs
        subst hs
        obtain ⟨l, hl, hlen, hcl⟩ := loadFrom_den hw hc m.toNat 0 vs hvs
        have hls := strictBytes_den hss hl
        have hsl : s.length = m.toNat := by rw [← hlen, hls]; simp
        obtain ⟨ob, hob, c', fz, rfl, hf, hlc, hcs, hm⟩ := hw.obj b c _ hc hbs
        have hshape : w.shape? c = some (e, c'.size) := by simp only [World.shape?, hob]
        have hne : s ≠ [] := fun h0 => by rw [h0] at hsl; simp at hsl; omega
        have hcell : ∀ (j : Nat) (x : UInt8), s[j]? = some x → w.cell? ((⟨c, 0, none⟩ : Addr).add j) = some (.int .u8 x.toNat) := by
          intro j x hj
          have := hcl j (.int .u8 x.toNat) (by rw [hls]; simp [hj])
          by_cases h0 : j = 0
          · subst h0
            simpa [Addr.add] using this
          · simpa [Addr.add, h0] using this
        have hsz : s.length ≤ c'.size := by
          rcases Nat.lt_or_ge c'.size s.length with hlt | hge
          · exfalso
            obtain ⟨x, hx⟩ : ∃ x, s[c'.size]? = some x := ⟨_, List.getElem?_eq_getElem hlt⟩
            have := hcl c'.size (.int .u8 x.toNat) (by rw [hls]; simp [hx])
            simp [World.cell?, hob] at this
          · exact hge
        have hrun := Lib.run_unsafeString_row (P := P) w t it ty e hd hce c c'.size hshape s hne hsz (by omega) hcell
        have hcast : ((s.length : Nat) : Int) = m := by omega
        rw [hcast] at hrun
        refine ⟨_, _, _, _, rfl, hrun, by simp [AV.den], ?_⟩
        have h0 : s.length ≠ 0 := by omega
        exact freeze_sound hw hc hbs _ h0
    · cases hs
  · cases hs

theorem find_noEscape {fn : Func} (h : fn.name = "internal/abi.NoEscape") : Extern.find fn = some Extern.AbiNoEscape.same := by
  have h1 : Extern.allGenericRows.lookup "internal/abi.NoEscape" = none := by kernel_rfl
  have h2 : Extern.allTypedRows.lookup "internal/abi.NoEscape" = none := by kernel_rfl
  have h3 : Extern.allRows.lookup "internal/abi.NoEscape" = some Extern.AbiNoEscape.same := by kernel_rfl
  simp only [Extern.find, h, h1, h2, h3]
  rfl

theorem find_makeNoZero {fn : Func} (h : fn.name = "internal/bytealg.MakeNoZero") : Extern.find fn = some (Extern.BytealgMakeNoZero.makeNoZero fn.params fn.resultTypes) := by
  have h1 : Extern.allGenericRows.lookup "internal/bytealg.MakeNoZero" = none := by kernel_rfl
  have h2 : Extern.allTypedRows.lookup "internal/bytealg.MakeNoZero" = some Extern.BytealgMakeNoZero.makeNoZero := by kernel_rfl
  simp only [Extern.find, h, h1, h2]
  rfl

theorem find_pureExt {fn : Func} {f : Array Value → Sem Value} (h : pureExt fn.name = some f) : Extern.find fn = some f := by
  unfold pureExt at h
  split at h
  · rename_i hn
    simp only [beq_iff_eq] at hn
    injection h with h
    subst h
    have h1 : Extern.allGenericRows.lookup "internal/bytealg.CountString" = none := by kernel_rfl
    have h2 : Extern.allTypedRows.lookup "internal/bytealg.CountString" = none := by kernel_rfl
    have h3 : Extern.allRows.lookup "internal/bytealg.CountString" = some Extern.BytealgCount.count := by kernel_rfl
    simp only [Extern.find, hn, h1, h2, h3]
    rfl
  · split at h
    · rename_i hn
      simp only [beq_iff_eq] at hn
      injection h with h
      subst h
      have h1 : Extern.allGenericRows.lookup "internal/bytealg.IndexByteString" = none := by kernel_rfl
      have h2 : Extern.allTypedRows.lookup "internal/bytealg.IndexByteString" = none := by kernel_rfl
      have h3 : Extern.allRows.lookup "internal/bytealg.IndexByteString" = some Extern.BytealgIndexByte.indexByte := by kernel_rfl
      simp only [Extern.find, hn, h1, h2, h3]
      rfl
    · cases h

theorem freshA_sound (hw : WR E B h w) {t : TypeId} {n : Int} {r : ANext} (hs : freshA P h t n = some r) (ps : Array TypeId) :
    ∃ E' v h' z w', r = .value v h' ∧ (Extern.BytealgMakeNoZero.makeNoZero ps #[t] #[.int .i64 n]).run P w = .ok z w' ∧ v.den E' = some z ∧ Ext E B w E' h' w' := by
  unfold freshA at hs
  split at hs
  · rename_i e ht
    split at hs
    · rename_i hn
      simp only [Bool.and_eq_true, decide_eq_true_eq] at hn
      injection hs with hs
      obtain ⟨m, rfl⟩ : ∃ m : Nat, n = m := ⟨n.toNat, by omega⟩
      simp only [Int.toNat_natCast] at hs
      obtain ⟨cs, hrun, hle, _⟩ := Lib.run_makeNoZero (P := P) w ps t e ht m (by omega)
      have hd : WR E B h w.drew.drew := hw.drew.drew
      have hx := new_sound hd (.cells (List.replicate m none) e (some (h.nk, 1, m, 0)) h.bs.length) (.cells cs e) [cs.size] (fun k hk => by simpa [AObj.cls?] using hk.symm)
        ⟨cs, (0, 0), rfl, fun i hi => Or.inl rfl, by simpa using hle, fun i v hi => (by
          rw [List.getElem?_replicate] at hi
          split at hi <;> simp at hi), ⟨cs.size, kappa_at hd _ _, by simp, hle, Or.inl rfl⟩⟩
      have h1 := rho_at hd w.drew.drew.heap.size [cs.size]
      have h2 := kappa_at hd w.drew.drew.heap.size cs.size
      refine ⟨_, _, _, _, _, hs.symm, hrun, ?_, ⟨hx.le, hx.wr, ⟨hx.fr.os, hx.fr.tape, hx.fr.output, hx.fr.size, hx.fr.block, hx.fr.fresh⟩⟩⟩
      have h3 : (Cap.var h.nk 0).den ⟨E.ρ ++ [w.drew.drew.heap.size], E.κ ++ [cs.size], E.ι⟩ = some cs.size := Cap.den_var.2 ⟨cs.size, h2, Nat.zero_le _, rfl⟩
      simp only [AV.den, h1, h3]
      rw [if_pos hle]
      rfl
    · cases hs
  · cases hs

theorem aopMem_sound (hN : plainNames P = true) {o : Oper} {r : ANext} (hS : Slots E D tmps a) (hc : ∀ x ∈ o.op.operands, Clear D x) (hw : WR E B h w) (hr : aopMem P tmps h o = some r) :
    Does P E B w (execOp a.eval o) r := by
  obtain ⟨dst, op, type, pos, after, guard⟩ := o
  unfold aopMem at hr
  simp only at hr hc
  split at hr
  · -- load
    rename_i t x
    simp only [Option.bind_eq_bind, Option.bind_eq_some_iff] at hr
    obtain ⟨p, hp, hr⟩ := hr
    have hd := opnd_den hS (hc x (by simp [Op.operands])) hp
    split at hr
    · rename_i b o'
      simp only [Option.map_eq_some_iff] at hr
      obtain ⟨v, hv, rfl⟩ := hr
      obtain ⟨c, hcb, he⟩ := denPtr hd
      obtain ⟨z, hz, hrun⟩ := loadV_sound hw hcb hv
      exact ⟨E, z, w, by simp [execOp, Instr.loadAt, Instr.sureAddr, he, hrun], hz, .refl hw⟩
    · rename_i g o'
      simp only [Option.bind_eq_some_iff, Option.map_eq_some_iff] at hr
      obtain ⟨b, hsp, v, hv, rfl⟩ := hr
      have he := denGlob hd
      obtain ⟨z, hz, hrun⟩ := loadV_sound hw (spot_sound hw hsp) hv
      exact ⟨E, z, w, by simp [execOp, Instr.loadAt, Instr.sureAddr, he, hrun], hz, .refl hw⟩
    · cases hr
  · -- store
    rename_i t x y
    simp only [Option.bind_eq_bind, Option.bind_eq_some_iff] at hr
    obtain ⟨v, hv, p, hp, hr⟩ := hr
    have hd := opnd_den hS (hc x (by simp [Op.operands])) hp
    have hdv := opnd_den hS (hc y (by simp [Op.operands])) hv
    split at hr
    · rename_i b o'
      simp only [Option.map_eq_some_iff] at hr
      obtain ⟨h', hs, rfl⟩ := hr
      obtain ⟨c, hcb, he⟩ := denPtr hd
      obtain ⟨w', hrun, hx⟩ := storeV_sound hw hcb hdv hs
      exact ⟨E, w', by simp [execOp, Instr.storeAt, Instr.sureAddr, he, hrun], hx⟩
    · cases hr
  · -- convert
    rename_i src dst' x
    simp only [Option.bind_eq_bind, Option.bind_eq_some_iff, Option.pure_def] at hr
    obtain ⟨p, hp, ⟨v, h'⟩, hcv, hr⟩ := hr
    injection hr with hr
    subst hr
    have hd := opnd_den hS (hc x (by simp [Op.operands])) hp
    obtain ⟨E', z, w', hrun, hden, hx⟩ := convertA_sound hw hcv hd
    exact ⟨E', z, w', by simp [execOp, hrun], hden, hx⟩
  · -- next
    rename_i it
    simp only [Option.bind_eq_bind, Option.bind_eq_some_iff] at hr
    obtain ⟨p, hp, hr⟩ := hr
    have hd := opnd_den hS (hc it (by simp [Op.operands])) hp
    split at hr
    · rename_i b
      obtain ⟨c, hcb, he⟩ := denPtr hd
      split at hr
      · rename_i s pos' hbs
        obtain ⟨ob, hob, hrel⟩ := hw.obj b c _ hcb hbs
        simp only [ORel] at hrel
        subst hrel
        have hg := getObj_run (P := P) hob (fun _ _ _ h => by cases h)
        split at hr
        · rename_i hlt
          simp only [Option.pure_def] at hr
          injection hr with hr
          subst hr
          obtain ⟨hset, hx⟩ := setObj_sound (P := P) (o' := .strIter s (pos' + (Utf8.decode ⟨s.toArray⟩ pos').2)) hw hcb hbs rfl rfl rfl
          refine ⟨E, .tuple #[.bool true, goInt pos', .int .i32 ((Utf8.decode ⟨s.toArray⟩ pos').1 : Nat)], _, ?_, by simp [AV.den, AV.denL, BE.den, IE.den, goInt], hx⟩
          have hsz : pos' < (⟨s.toArray⟩ : ByteArray).size := by simpa [ByteArray.size] using hlt
          simp [execOp, Instr.next, he, hg, hsz, hset]
        · rename_i hlt
          simp only [Option.pure_def] at hr
          injection hr with hr
          subst hr
          have hsz : ¬ pos' < (⟨s.toArray⟩ : ByteArray).size := by simpa [ByteArray.size] using hlt
          exact ⟨E, .tuple #[.bool false], w, by simp [execOp, Instr.next, he, hg, hsz], by simp [AV.den, AV.denL, BE.den], .refl hw⟩
      · cases hr
    · cases hr
  · -- append
    rename_i args ts
    simp only [Option.bind_eq_bind, Option.bind_eq_some_iff] at hr
    obtain ⟨xs, hxs, hr⟩ := hr
    have hl := callArgs (c := ⟨.builtin .append, args, ts⟩) hS rfl hc hxs
    split at hr
    · rename_i s x
      simp only [Option.bind_eq_some_iff, Option.pure_def] at hr
      obtain ⟨⟨v, h'⟩, hap, hr⟩ := hr
      injection hr with hr
      subst hr
      obtain ⟨u, y, hu, hy, e⟩ := denL_two hl
      obtain ⟨E', z, w', hrun, hden, hx⟩ := appendA_sound (ty := type) hw hap hu hy
      refine ⟨E', z, w', ?_, hden, hx⟩
      rw [exec_builtin rfl, args_toArray]
      have e' : (args.toList.map a.eval) = [u, y] := e
      rw [e']
      simp [builtin, hrun]
    · cases hr
  · -- copy
    rename_i args ts
    simp only [Option.bind_eq_bind, Option.bind_eq_some_iff] at hr
    obtain ⟨t, ht, xs, hxs, hr⟩ := hr
    have hl := callArgs (c := ⟨.builtin .copy, args, ts⟩) hS rfl hc hxs
    split at hr
    · rename_i e d s hdt
      simp only [Option.bind_eq_some_iff] at hr
      obtain ⟨z, hz, n, hn, hr⟩ := hr
      obtain ⟨u, y, hu, hy, e1⟩ := denL_two hl
      have e' : (args.toList.map a.eval) = [u, y] := e1
      have hlen := lenOfA_sound (P := P) hn hy
      split at hr
      · obtain rfl := denNilSlice hu
        simp only [Option.pure_def] at hr
        injection hr with hr
        subst hr
        have hf : ∃ l, (Builtin.firstCells z 0 y).run P w = .ok l w := by
          have hn' := hn
          unfold lenOfA at hn'
          split at hn'
          · obtain ⟨c, m, hc', hm, hle, rfl⟩ := denSlice hy
            exact ⟨_, by simp [Builtin.firstCells, loadCells, loadCellsFrom]; rfl⟩
          · obtain rfl := denNilSlice hy
            exact ⟨_, by simp [Builtin.firstCells]; rfl⟩
          · obtain rfl := denStr hy
            exact ⟨_, by simp [Builtin.firstCells]; rfl⟩
          · cases hn'
        obtain ⟨l, hf⟩ := hf
        refine ⟨E, .int .i64 0, w, ?_, by simp [AV.den, IE.den], .refl hw⟩
        rw [exec_builtin rfl, args_toArray, e']
        have ht' : ts[0]? = some t := ht
        simp [builtin, Builtin.copy_, ht', run_underlying hdt, hlen, run_size hz, hf, goInt]
      · rename_i b o' len cap
        simp only [Option.bind_eq_some_iff, Option.pure_def] at hr
        obtain ⟨new, hnew, h2, hst, hr⟩ := hr
        injection hr with hr
        subst hr
        obtain ⟨c, m, hc', hm, hle, rfl⟩ := denSlice hu
        obtain ⟨nl, hnl, hnr⟩ := firstA_sound (P := P) hw hnew hy
        obtain ⟨w', hrun, hx⟩ := storeFrom_sound (P := P) hc' new o' 0 h h2 w nl hw hnl (by simpa using hst)
        refine ⟨E, .int .i64 ((min n len : Nat) : Int), w', ?_, by simp [AV.den, IE.den], hx⟩
        rw [exec_builtin rfl, args_toArray, e']
        have ht' : ts[0]? = some t := ht
        have hmin : Nat.min n len = min n len := rfl
        simp [builtin, Builtin.copy_, ht', run_underlying hdt, hlen, run_size hz, hmin, hnr, hrun, goInt]
      · cases hr
    · cases hr
  · -- unsafe.String
    rename_i args ts
    simp only [Option.bind_eq_bind, Option.bind_eq_some_iff] at hr
    obtain ⟨xs, hxs, hr⟩ := hr
    have hl := callArgs (c := ⟨.builtin .unsafeString, args, ts⟩) hS rfl hc hxs
    split at hr
    · rename_i t it p n hts
      obtain ⟨u, v, hu, hv, e⟩ := denL_two hl
      have e' : (args.toList.map a.eval) = [u, v] := e
      have ht' : ts = #[t, it] := by apply Array.ext'; simpa using hts
      subst ht'
      obtain ⟨z, w', v', h', rfl, hrun, hz, hx⟩ := textA_sound (it := it) (ty := type) hw hr hu hv
      refine ⟨E, z, w', ?_, hz, hx⟩
      rw [exec_builtin rfl, args_toArray, e']
      simp [builtin, hrun]
    · cases hr
  · -- a call
    rename_i f args ts
    simp only [Option.bind_eq_bind, Option.bind_eq_some_iff] at hr
    obtain ⟨p, hp, hr⟩ := hr
    have hd := opnd_den hS (hc f (by simp [Op.operands, Call.operands])) hp
    split at hr
    · rename_i g x y
      simp only [Option.bind_eq_some_iff] at hr
      obtain ⟨xs, hxs, fn, hfn, hr⟩ := hr
      have hl := callArgs (c := ⟨.value f, args, ts⟩) hS rfl hc hxs
      have hnm := plainNames_spec hN hfn
      have hall0 : ∀ {x' y' : List Value}, AV.denL E x = some x' → AV.denL E y = some y' → AV.denL E (x ++ xs ++ y) = some (x' ++ args.toList.map a.eval ++ y') := fun h1 h2 => denL_append (denL_append h1 hl) h2
      have hargs0 : ∀ (x' y' : List Value), x'.toArray ++ args.map a.eval ++ y'.toArray = (x' ++ args.toList.map a.eval ++ y').toArray := fun x' y' => by
        apply Array.ext'; simp
      split at hr
      · rename_i hbody
        simp only [Option.pure_def] at hr
        injection hr with hr
        subst hr
        obtain ⟨x', y', hx', hy', he⟩ := denFunc hd
        have hall := denL_append (denL_append hx' hl) hy'
        refine ⟨_, w, hall, ?_, .refl hw⟩
        have hnm := plainNames_spec hN hfn
        have hnb : fn.body.isNone = false := by cases hb : fn.body <;> simp [hb] at hbody ⊢
        have hargs : x'.toArray ++ args.map a.eval ++ y'.toArray = (x' ++ args.toList.map a.eval ++ y').toArray := by
          apply Array.ext'; simp
        simp only [execOp, resolve, Deferred.ofValue, he, Sem.run_bind, Sem.run_pure, Result.andThen_ok, invoke, callFunc, run_program, hfn, hnm, Bool.false_eq_true, if_false, hnb]
        rw [hargs]
      · split at hr
        · rename_i hbody hname
          simp only [Bool.and_eq_true, beq_iff_eq] at hname
          have hnb : fn.body.isNone = true := by cases hb : fn.body <;> simp [hb] at hbody ⊢
          split at hr
          · rename_i u v huv
            simp only [Option.bind_eq_some_iff, Option.pure_def] at hr
            obtain ⟨s, hs, t, ht, hr⟩ := hr
            injection hr with hr
            subst hr
            obtain ⟨x', y', hx', hy', he⟩ := denFunc hd
            have hall := hall0 hx' hy'
            rw [huv] at hall
            obtain ⟨p, q, hp', hq', hpq⟩ := denL_two hall
            have hf := find_compare hname.1
            have hb1 := bytesA_sound (P := P) hw hs hp'
            have hb2 := bytesA_sound (P := P) hw ht hq'
            refine ⟨E, goInt (Extern.BytealgCompare.cmp ⟨s.toArray⟩ ⟨t.toArray⟩), w, ?_, by simp [AV.den, IE.den, goInt], .refl hw⟩
            simp only [execOp, resolve, Deferred.ofValue, he, Sem.run_bind, Sem.run_pure, Result.andThen_ok, invoke]
            rw [run_callFunc_extern hfn hnm hnb (by simpa using hname.2) hf, hargs0, hpq]
            have hcmp : Extern.BytealgCompare.compare [p, q].toArray = (do pure (goInt (Extern.BytealgCompare.cmp (← Extern.Bytes.bytesOf p) (← Extern.Bytes.bytesOf q)))) := rfl
            rw [hcmp]
            simp only [Sem.run_bind, hb1, hb2, Result.andThen_ok, Sem.run_pure]
          · cases hr
        · split at hr
          · rename_i hbody hno hname
            simp only [Bool.and_eq_true, beq_iff_eq] at hname
            have hnb : fn.body.isNone = true := by cases hb : fn.body <;> simp [hb] at hbody ⊢
            split at hr
            · rename_i u hu
              simp only [Option.pure_def] at hr
              injection hr with hr
              subst hr
              obtain ⟨x', y', hx', hy', he⟩ := denFunc hd
              have hall := hall0 hx' hy'
              rw [hu] at hall
              obtain ⟨p, m, hp', hm', hpq⟩ := denL_cons.1 hall
              simp [AV.denL] at hm'
              subst hm'
              refine ⟨E, p, w, ?_, hp', .refl hw⟩
              simp only [execOp, resolve, Deferred.ofValue, he, Sem.run_bind, Sem.run_pure, Result.andThen_ok, invoke]
              rw [run_callFunc_extern hfn hnm hnb (by simpa using hname.2) (find_noEscape hname.1), hargs0, hpq]
              rfl
            · cases hr
          · split at hr
            · rename_i hbody hno hno2 hname
              simp only [Bool.and_eq_true, beq_iff_eq] at hname
              have hnb : fn.body.isNone = true := by cases hb : fn.body <;> simp [hb] at hbody ⊢
              split at hr
              · rename_i n t hu hrt
                obtain ⟨x', y', hx', hy', he⟩ := denFunc hd
                have hall := hall0 hx' hy'
                rw [hu] at hall
                obtain ⟨p, m, hp', hm', hpq⟩ := denL_cons.1 hall
                simp [AV.denL] at hm'
                subst hm'
                have hp2 := denInt hp'
                subst hp2
                have hrt' : fn.resultTypes = #[t] := by apply Array.ext'; simpa using hrt
                obtain ⟨E', v, h', z, w', rfl, hrun, hz, hxt⟩ := freshA_sound hw hr fn.params
                refine ⟨E', z, w', ?_, hz, hxt⟩
                simp only [execOp, resolve, Deferred.ofValue, he, Sem.run_bind, Sem.run_pure, Result.andThen_ok, invoke]
                rw [run_callFunc_extern hfn hnm hnb (by simpa using hname.2) (find_makeNoZero hname.1), hargs0, hpq, hrt']
                simp only [IE.den, hrun, Result.andThen_ok]
              · cases hr
            · split at hr
              · rename_i hbody hno hno2 hno3 hnx
                have hnb : fn.body.isNone = true := by cases hb : fn.body <;> simp [hb] at hbody ⊢
                simp only [pureExtA, Option.bind_eq_bind, Option.bind_eq_some_iff, Option.pure_def] at hr
                obtain ⟨f1, hf1, vs, hvs, r1, hr1, v, hv, hr⟩ := hr
                injection hr with hr
                subst hr
                obtain ⟨x', y', hx', hy', he⟩ := denFunc hd
                have hall := hall0 hx' hy'
                have h2 := mapM_toValue_den (E := E) (fun a v h => toValue_den E 6 a v h) _ _ hvs
                rw [hall] at h2
                injection h2 with h2
                refine ⟨E, r1, w, ?_, ofV_den E hv, .refl hw⟩
                simp only [execOp, resolve, Deferred.ofValue, he, Sem.run_bind, Sem.run_pure, Result.andThen_ok, invoke]
                rw [run_callFunc_extern hfn hnm hnb (by simpa using hnx) (find_pureExt hf1), hargs0, h2, runPure_sound 1000 _ _ hr1 w]
                rfl
              · cases hr
    · cases hr
  · cases hr

end
end Go.Sx
