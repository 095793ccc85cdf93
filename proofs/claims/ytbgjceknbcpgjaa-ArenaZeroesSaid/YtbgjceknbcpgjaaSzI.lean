/-
  A WALKER THAT COMPUTES, ITS NINTH PART: conversions, appends, copies.
-/
import Derived.Test.YtbgjceknbcpgjaaSzH
namespace Go.Sx
section
variable {P : Program} {E : Env} {B : Bd} {h : Hp} {w : World}

def byteVals (s : List UInt8) : List Value := s.map fun (b : UInt8) => Value.int .u8 (b.toNat : Int)

theorem bytesAV_den (E : Env) : ∀ s : List UInt8, AV.denL E (bytesAV s) = some (byteVals s)
  | [] => by simp [bytesAV, AV.denL, byteVals]
  | b :: s => by
    have := bytesAV_den E s
    simp only [bytesAV, byteVals, List.map_cons] at this ⊢
    exact denL_cons.2 ⟨.int .u8 (b.toNat : Int), _, by simp [AV.den, IE.den], this, rfl⟩

theorem byteVals_length (s : List UInt8) : (byteVals s).length = s.length := by simp [byteVals]

theorem Ext.of_drew {E' : Env} {h' : Hp} {w' : World} (a : Ext E B w.drew E' h' w') : Ext E B w E' h' w' :=
  ⟨a.le, a.wr, ⟨a.fr.os, a.fr.tape, a.fr.output, a.fr.size, a.fr.block, a.fr.fresh⟩⟩

theorem freeze_alloc (w : World) (c : Array Value) (t : TypeId) : (w.alloc (.cells c t)).freeze { block := w.heap.size, off := c.size } 1 = w.alloc (.cells c t (c.size, c.size + 1)) := by
  have hh : (w.heap.push (.cells c t)).modify w.heap.size (fun
      | .cells d elem (lo, hi) => .cells d elem (if lo == hi then (c.size, c.size + 1) else (min lo c.size, max hi (c.size + 1)))
      | o => o) = w.heap.push (.cells c t (c.size, c.size + 1)) := by
    apply Array.ext_getElem?
    intro i
    rw [Array.getElem?_modify, Array.getElem?_push, Array.getElem?_push]
    by_cases hi : i = w.heap.size
    · subst hi; simp
    · simp [hi, Ne.symm hi]
  simp only [World.freeze, World.alloc]
  rw [if_neg (by decide)]
  exact congrArg (fun x => ({ w with heap := x } : World)) hh

theorem run_stringToBytes (e : TypeId) (s : List UInt8) (w : World) : ∃ cap, s.length ≤ cap ∧
    (Conv.stringToBytes e ⟨s.toArray⟩).run P w = .ok (.slice (some ⟨w.heap.size, 0, none⟩) s.length cap)
      (w.drew.alloc (.cells (byteVals s ++ List.replicate (cap - s.length) (Value.int .u8 0)).toArray e (cap, cap + 1))) := by
  have hs : (⟨s.toArray⟩ : ByteArray).size = s.length := by simp [ByteArray.size]
  refine ⟨(Question.appendCap s.length 0 e).cut (w.tape w.drawn (.appendCap s.length 0 e)), by simp [Question.cut], ?_⟩
  generalize hcap : (Question.appendCap s.length 0 e).cut (w.tape w.drawn (.appendCap s.length 0 e)) = cap
  have hge : s.length ≤ cap := by rw [← hcap]; simp [Question.cut]
  have hsz : (byteVals s ++ List.replicate (cap - s.length) (Value.int .u8 0)).toArray.size = cap := by simp [byteVals_length]; omega
  have hfr := freeze_alloc w.drew (byteVals s ++ List.replicate (cap - s.length) (Value.int .u8 0)).toArray e
  rw [hsz] at hfr
  have hel : (s.toArray.map fun (b : UInt8) => Value.int .u8 (b.toNat : Int)) ++ Array.replicate (cap - s.length) (Value.int .u8 0) = (byteVals s ++ List.replicate (cap - s.length) (Value.int .u8 0)).toArray := by
    simp [byteVals]
  have hshape : (w.drew.alloc (.cells (byteVals s ++ List.replicate (cap - s.length) (Value.int .u8 0)).toArray e)).shape? w.heap.size = some (e, cap) := by
    have : (w.drew.alloc (.cells (byteVals s ++ List.replicate (cap - s.length) (Value.int .u8 0)).toArray e)).heap[w.heap.size]? = _ := heap_alloc_new w.drew _
    simp only [World.shape?, this, hsz]
  simp only [Conv.stringToBytes, Sem.run_bind, run_choose, hs, Question.forced, Bool.false_eq_true, if_false, hcap, Result.andThen_ok]
  rw [hel]
  simp only [newRow, Sem.run_bind, run_newObj, Result.andThen_ok, Sem.run_pure, markStringish, run_shape, World.alloc_eq, World.drew_eq, World.size_drew]
  rw [hshape]
  simp only [run_freeze, Result.andThen_ok]
  have : (w.drew.alloc (.cells (byteVals s ++ List.replicate (cap - s.length) (Value.int .u8 0)).toArray e)).freeze { block := w.heap.size, off := cap } 1 = _ := hfr
  rw [this]

/-- A row behind which others may lie: the first of its cells are known. -/
theorem rel_more {c : List AV} {l r : List Value} (hl : AV.denL E c = some l) (t : TypeId) (k j z n lo : Nat) (fz : Nat × Nat) (hf : ∀ i, i < (l ++ r).length → (fz.1 = fz.2 ∨ i < fz.1))
    (hj : E.κ[j]? = some n) (hn : (l ++ r).length = n * z) (hlo : lo ≤ n) : ORel E (.cells (c.map some) t (some (j, z, lo, 0)) k) (.cells (l ++ r).toArray t fz) := by
  refine ⟨(l ++ r).toArray, fz, rfl, fun i hi => hf i (by simpa using hi), by simp [denL_length hl], ?_, n, hj, by simpa using hn, hlo, Or.inl rfl⟩
  intro i v hi
  rw [List.getElem?_map] at hi
  simp only [Option.map_eq_some_iff] at hi
  obtain ⟨u, hu, e⟩ := hi
  injection e with e
  subst e
  obtain ⟨x, hx, hlx⟩ := denL_get hl i _ hu
  refine ⟨x, hx, ?_⟩
  have := (List.getElem?_eq_some_iff.1 hlx).1
  simp only [List.getElem?_toArray]
  rw [List.getElem?_append_left this]
  exact hlx

theorem kappa_at (hw : WR E B h w) (c n : Nat) : (⟨E.ρ ++ [c], E.κ ++ [n], E.ι⟩ : Env).κ[h.nk]? = some n := by
  simp only
  rw [ext_get, if_pos hw.lenκ.symm]

theorem rho_at (hw : WR E B h w) (c : Nat) (ks : List Nat) : (⟨E.ρ ++ [c], E.κ ++ ks, E.ι⟩ : Env).ρ[h.bs.length]? = some c := by
  simp only [ext_get]
  rw [if_pos hw.lenρ.symm]

/-- What lies behind a row's last cell is frozen: no cell of it is. -/
theorem rel_frozen {o : AObj} {c : Array Value} {t : TypeId} {fz fz' : Nat × Nat} (h : ORel E o (.cells c t fz)) (hf : ∀ i, i < c.size → (fz'.1 = fz'.2 ∨ i < fz'.1)) (hg : ∀ cs i, o ≠ .given cs i) (hg2 : ∀ r t ks n i q, o ≠ .grow r t ks n i q) : ORel E o (.cells c t fz') := by
  cases o with
  | cells cs t0 more k =>
    obtain ⟨c', f0, e, h1, h2, h3, h4⟩ := h
    injection e with e1 e2 e3
    subst e1 e2
    exact ⟨c, fz', rfl, hf, h2, h3, h4⟩
  | strIter s p => simp [ORel] at h
  | txtIter s p => obtain ⟨_, h1⟩ := h; cases h1
  | map es clock => obtain ⟨es', e, _⟩ := h; cases e
  | mapIter m a b d => obtain ⟨m', e, _⟩ := h; cases e
  | loop => obtain ⟨_, _, _, e, _⟩ := h; cases e
  | deferred b => simp [ORel] at h
  | gone k => trivial
  | free => trivial
  | row r t0 ks n c0 =>
    obtain ⟨c', f0, tail, e, h1, h2⟩ := h
    injection e with e1 e2 e3
    subst e1 e2
    exact ⟨c, fz', tail, rfl, hf, h2⟩
  | grow r t0 ks n i q => exact absurd rfl (hg2 r t0 ks n i q)
  | given cs i => exact absurd rfl (hg cs i)

theorem mark_sound (hw : WR E B h w) {b c o : Nat} {cs : List (Option AV)} {t : TypeId} {more : Option (Nat × Nat × Nat × Nat)} {k : Nat} (hb : E.ρ[b]? = some c) (hbs : h.bs[b]? = some (.cells cs t more k)) :
    ∃ w', (markStringish ⟨c, o, none⟩).run P w = .ok () w' ∧ Ext E B w E h w' := by
  obtain ⟨ob, hob, hrel⟩ := hw.obj b c _ hb hbs
  obtain ⟨c', fz, e, hfz, hrest⟩ := hrel
  subst e
  have hlt := hw.lt hb
  have hshape : w.shape? c = some (t, c'.size) := by simp only [World.shape?, hob]
  refine ⟨w.freeze { block := c, off := c'.size } 1, by simp [markStringish, hshape], .refl E, ?_, ?_⟩
  · have hheap : ∀ i : Nat, (w.freeze { block := c, off := c'.size } 1).heap[i]? = if i = c then some (.cells c' t (if fz.1 == fz.2 then (c'.size, c'.size + 1) else (min fz.1 c'.size, max fz.2 (c'.size + 1)))) else w.heap[i]? := by
      intro i
      simp only [World.freeze]
      rw [if_neg (by decide)]
      simp only [Array.getElem?_modify]
      by_cases hi : i = c
      · subst hi
        rw [if_pos rfl, if_pos rfl, hob]
        rfl
      · rw [if_neg (fun e => hi e.symm), if_neg hi]
    have hnew : ∀ i, i < c'.size → ((if fz.1 == fz.2 then (c'.size, c'.size + 1) else (min fz.1 c'.size, max fz.2 (c'.size + 1)) : Nat × Nat).1 = (if fz.1 == fz.2 then (c'.size, c'.size + 1) else (min fz.1 c'.size, max fz.2 (c'.size + 1)) : Nat × Nat).2 ∨ i < (if fz.1 == fz.2 then (c'.size, c'.size + 1) else (min fz.1 c'.size, max fz.2 (c'.size + 1)) : Nat × Nat).1) := by
      intro i hi
      have := hfz i hi
      split
      · simp only; omega
      · rename_i hne
        have hne' : fz.1 ≠ fz.2 := by simpa using hne
        simp only
        omega
    refine ⟨hw.lenρ, hw.lenκ, ?_, hw.base, hw.inj, ?_, hw.cls, hw.giv⟩
    · intro b1 c1 o1 h1 h2
      obtain ⟨ob1, hob1, hr1⟩ := hw.obj b1 c1 o1 h1 h2
      by_cases hcc : c1 = c
      · subst hcc
        rw [hob] at hob1
        injection hob1 with hob1
        subst hob1
        exact ⟨_, by rw [hheap, if_pos rfl], rel_frozen hr1 hnew (fun cs2 i2 e2 => by
          subst e2
          by_cases hbb : b1 = b
          · subst hbb
            rw [hbs] at h2
            cases h2
          · have := hw.inj b1 b _ _ _ hbb h1 hb h2 hbs (by intro h; cases h) (by intro h; cases h)
            simp [AObj.cls?, AObj.only] at this) (fun r2 t2 ks2 n2 i2 q2 e2 => by
          subst e2
          by_cases hbb : b1 = b
          · subst hbb
            rw [hbs] at h2
            cases h2
          · have := hw.inj b1 b _ _ _ hbb h1 hb h2 hbs (by intro h; cases h) (by intro h; cases h)
            simp [AObj.cls?, AObj.only] at this)⟩
      · exact ⟨ob1, by rw [hheap, if_neg hcc]; exact hob1, hr1⟩
    · simp only [World.freeze]
      rw [if_neg (by decide)]
      simpa using hw.bsize
  · refine ⟨by simp [World.freeze], by simp [World.freeze], by simp [World.freeze], by simp [World.freeze], ?_, fun b1 c1 h1 => Or.inl ⟨b1, h1⟩⟩
    intro c1 _ hn
    simp only [World.freeze]
    rw [if_neg (by decide)]
    simp only [Array.getElem?_modify]
    rw [if_neg (fun e => by subst e; exact hn b hb)]

theorem run_convert_same {src dst : TypeId} {e e' : TypeId} {c : Addr} {n m : Nat} (hsd : P.underlying src = some (.slice e)) (hdd : P.underlying dst = some (.slice e')) (he : (src == dst) = true) (hb : P.underlying e' = some (.int .u8)) {w' : World}
    (hm : (markStringish c).run P w = .ok () w') : (convert src dst (.slice (some c) n m)).run P w = .ok (.slice (some c) n m) w' := by
  simp [convert, run_underlying hsd, run_underlying hdd, he, run_underlying hb, hm]

theorem convertA_sound (hw : WR E B h w) {src dst : TypeId} {x v : AV} {u : Value} {h' : Hp} (hs : convertA P h src dst x = some (v, h')) (hx : x.den E = some u) :
    ∃ E' z w', (convert src dst u).run P w = .ok z w' ∧ v.den E' = some z ∧ Ext E B w E' h' w' := by
  unfold convertA at hs
  split at hs
  · -- no bytes
    rename_i e hsd hdd
    obtain rfl := denNilSlice hx
    split at hs
    · rename_i he
      injection hs with hs
      injection hs with hs1 hs2
      subst hs1
      subst hs2
      refine ⟨E, .string ⟨#[]⟩, w, ?_, by simp [AV.den], .refl hw⟩
      rw [run_convert_bytes_string w src dst e none 0 0 hsd he hdd]
      rfl
    · cases hs
  · -- bytes
    rename_i e b o n cap hsd hdd
    obtain ⟨c, m, hc, hm, hle, rfl⟩ := denSlice hx
    split at hs
    · rename_i he
      simp only [Option.bind_eq_bind, Option.bind_eq_some_iff, Option.pure_def] at hs
      obtain ⟨vs, hvs, s, hss, hs⟩ := hs
      injection hs with hs
      injection hs with hs1 hs2
      subst hs1
      subst hs2
      obtain ⟨l, hl, hn, hr⟩ := loadFrom_run (P := P) hw hc hvs
      have hbytes : ∀ (vs : List AV) (s : List UInt8) (l : List Value), byteCells vs = some s → AV.denL E vs = some l →
          ∃ ns : List Int, l = ns.map (Value.int .u8) ∧ s = ns.map fun n => UInt8.ofNat n.toNat := by
        intro vs
        induction vs with
        | nil => intro s l h1 h2; simp [byteCells] at h1; simp [AV.denL] at h2; subst h1; subst h2; exact ⟨[], rfl, rfl⟩
        | cons v vs ih =>
          intro s l h1 h2
          obtain ⟨y, m, hy, hm, rfl⟩ := denL_cons.1 h2
          unfold byteCells at h1
          split at h1
          · rename_i h0; cases h0
          · rename_i n' r' h0
            injection h0 with h3 h4
            subst h3
            subst h4
            simp only [Option.bind_eq_bind, Option.bind_eq_some_iff, Option.pure_def] at h1
            obtain ⟨s', hs', h1⟩ := h1
            injection h1 with h1
            subst h1
            obtain rfl := denInt hy
            obtain ⟨ns, e1, e2⟩ := ih s' m hs' hm
            exact ⟨n' :: ns, by simp [e1, IE.den], by simp [e2]⟩
          · cases h1
      obtain ⟨ns, e1, e2⟩ := hbytes vs s l hss hl
      rw [e1] at hr
      have hb := run_bytesToString (P := P) w ⟨c, o, none⟩ n m ns hr
      have hfold : ∀ (ns : List Int) (acc : ByteArray), ns.foldl (fun r n => r.push (UInt8.ofNat n.toNat)) acc = ⟨acc.data ++ (ns.map fun n => UInt8.ofNat n.toNat).toArray⟩ := by
        intro ns
        induction ns with
        | nil => intro acc; simp
        | cons n ns ih => intro acc; rw [List.foldl_cons, ih]; apply ByteArray.ext; simp [ByteArray.push]
      refine ⟨E, .string ⟨s.toArray⟩, w, ?_, by simp [AV.den], .refl hw⟩
      rw [run_convert_bytes_string w src dst e _ _ _ hsd he hdd, hb, hfold, e2]
      have : (ByteArray.empty.data ++ (ns.map fun n => UInt8.ofNat n.toNat).toArray) = (ns.map fun n => UInt8.ofNat n.toNat).toArray := by
        rw [show ByteArray.empty.data = #[] from rfl]
        simp
      rw [this]
    · cases hs
  · -- bytes as they are
    rename_i e' e b o n cap hsd hdd
    obtain ⟨c, m, hc, hm, hle, rfl⟩ := denSlice hx
    by_cases heq : (src == dst) = true
    · rw [if_pos heq] at hs
      split at hs
      · rename_i he hbs
        injection hs with hs
        injection hs with hs1 hs2
        subst hs1
        subst hs2
        obtain ⟨w', hrun, hxt⟩ := mark_sound (P := P) (o := o) hw hc hbs
        exact ⟨E, _, w', run_convert_same hsd hdd heq he hrun, hx, hxt⟩
      · cases hs
    · rw [if_neg heq] at hs
      cases hs
  · -- to unsafe.Pointer
    rename_i t b o hsd hdd
    obtain ⟨c, hc, rfl⟩ := denPtr hx
    split at hs
    · rename_i n cs t' m k hsz hbs
      split at hs
      · rename_i hlt
        injection hs with hs
        injection hs with hs1 hs2
        subst hs1
        subst hs2
        obtain ⟨ob, hob, c', fz, rfl, hf, hl, hcs, hm⟩ := hw.obj b c _ hc hbs
        have hshape : w.shape? c = some (t', c'.size) := by simp only [World.shape?, hob]
        obtain ⟨j, hj, hjs⟩ := Option.map_eq_some_iff.1 hsz
        exact ⟨E, _, w, Lib.run_to_unsafe w ⟨c, o, none⟩ hsd hdd hj (by omega) hshape (Nat.lt_of_lt_of_le hlt hl), hx, .refl hw⟩
      · cases hs
    · cases hs
  · -- from unsafe.Pointer
    rename_i u' b o hsd hdd
    obtain ⟨c, hc, rfl⟩ := denPtr hx
    split at hs
    · rename_i n cs t' k hsz hbs
      split at hs
      · rename_i hlies
        injection hs with hs
        injection hs with hs1 hs2
        subst hs1
        subst hs2
        obtain ⟨ob, hob, c', fz, rfl, hf, hl, hcs, hm⟩ := hw.obj b c _ hc hbs
        have hsz' : c'.size = cs.length := hm
        have hshape : w.shape? c = some (t', cs.length) := by simp only [World.shape?, hob, hsz']
        obtain ⟨j, hj, hjs⟩ := Option.map_eq_some_iff.1 hsz
        exact ⟨E, _, w, Lib.run_from_unsafe w ⟨c, o, none⟩ hsd hdd hj hshape hlies, hx, .refl hw⟩
      · cases hs
    · cases hs
  · cases hs

/-! ### What is appended, copied -/

theorem firstA_sound (hw : WR E B h w) {n z : Nat} {x : AV} {vs : List AV} {u : Value} (hs : firstA h n z x = some vs) (hx : x.den E = some u) :
    ∃ l, AV.denL E vs = some l ∧ (Builtin.firstCells z n u).run P w = .ok l.toArray w := by
  unfold firstA at hs
  split at hs
  · obtain ⟨c, m, hc, hm, hle, rfl⟩ := denSlice hx
    obtain ⟨l, hl, _, hr⟩ := loadFrom_run (P := P) hw hc hs
    exact ⟨l, hl, by simpa [Builtin.firstCells] using hr⟩
  · obtain rfl := denNilSlice hx
    injection hs with hs
    subst hs
    exact ⟨[], by simp [AV.denL], by simp [Builtin.firstCells]⟩
  · rename_i s
    obtain rfl := denStr hx
    injection hs with hs
    subst hs
    refine ⟨_, bytesAV_den E _, ?_⟩
    have : (⟨s.toArray⟩ : ByteArray).extract 0 n = ⟨(s.take n).toArray⟩ := by rw [bytes_extract]; simp
    simp [Builtin.firstCells, this, byteVals]
  · cases hs

theorem lenOfA_sound {x : AV} {n : Nat} {u : Value} (hs : lenOfA x = some n) (hx : x.den E = some u) (w : World) : (Builtin.lenOf u).run P w = .ok n w := by
  unfold lenOfA at hs
  split at hs
  · obtain ⟨c, m, hc, hm, hle, rfl⟩ := denSlice hx
    injection hs with hs
    subst hs
    simp [Builtin.lenOf]
  · obtain rfl := denNilSlice hx
    injection hs with hs
    subst hs
    simp [Builtin.lenOf]
  · obtain rfl := denStr hx
    injection hs with hs
    subst hs
    simp [Builtin.lenOf, ByteArray.size]
  · cases hs

end
end Go.Sx
