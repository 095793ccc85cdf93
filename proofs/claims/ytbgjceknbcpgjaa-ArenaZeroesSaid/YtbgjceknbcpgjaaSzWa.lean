/-
  A WALKER THAT COMPUTES: what is handed in where slices are among it.
-/
import Derived.Test.YtbgjceknbcpgjaaSzW
import Derived.WideKeyArgs
import Derived.ChangeArms
namespace Go.Sx
open Go.ChangeShapes Go.WideShapes Go.RowKit

/-! ### A call out of memory that is there -/

/-- It is known to be true; the first blocks are as they were handed in. -/
def keepsG (h : Hp) : Nat → Bool
  | 0 => true
  | k + 1 => (match h.bs[k]? with | some (.grow _ _ _ _ j _) => Nat.beq k j | _ => false) && keepsG h k
def isTrueS (k : Nat) (r : AV × Hp × List BE) : Bool :=
  match r with
  | (.bool b, h, pc) => (truthR h.giv.cfg.rules pc b == some true || dead h.giv.cfg.rules pc) && keepsG h k
  | _ => false
def allSym (k : Nat) : Option (List (AV × Hp × List BE)) → Bool
  | some l => l.all (isTrueS k)
  | none => false

theorem keepsG_get {h : Hp} : ∀ {k i : Nat}, keepsG h k = true → i < k → ∃ r t ks n q, h.bs[i]? = some (.grow r t ks n i q)
  | 0, _, _, h0 => by omega
  | k + 1, i, hs, h0 => by
    simp only [keepsG, Bool.and_eq_true] at hs
    by_cases hi : i = k
    · subst hi
      have := hs.1
      split at this
      · rename_i r t ks n j q hj
        have e := Nat.eq_of_beq_eq_true this
        subst e
        exact ⟨r, t, ks, n, q, hj⟩
      · cases this
    · exact keepsG_get hs.2 (by omega)

theorem calls_sym {P : Program} {dr : Bool} {kn : Kn} {fuel d k : Nat} {f : FuncId} {args : List AV} {xs : List Value} {h0 : Hp} {pc : List BE} {E : Env} (w : World) (hN : plainNames P = true) (hK : Known P kn ⟨0, E.ι.prd⟩)
    (hA : dr = true → ∀ call, CallOk P call ⟨0, E.ι.prd⟩ → AnyOk P call ⟨0, E.ι.prd⟩) (hw : WR E ⟨0, E.ι.prd⟩ h0 w) (hlen : E.ρ.length = k) (hobj : ∀ (b c : Nat), E.ρ[b]? = some c → ∃ ob, w.heap[c]? = some ob ∧ E.ι.obj b = some ob)
    (h : allSym k (runCall P dr kn fuel d false f args h0 pc) = true) (hx : AV.denL E args = some xs) (hp : ∀ b ∈ pc, b.holds E.ι) :
    Calls P f xs.toArray w fun e w' => e = .returned (.bool true) ∧ Below w.heap.size w w' := by
  unfold allSym at h
  split at h
  · rename_i l hl
    refine Calls.mono ((runCall_sound hN hK fuel hA d).1 f args _ pc l hl E w xs hw hp hx) ?_
    rintro e w' ⟨r, E', hend, hr, hxt, hpc⟩
    have ht := List.all_eq_true.1 h r hr
    obtain ⟨v, h', pc'⟩ := r
    unfold isTrueS at ht
    split at ht
    · rename_i b h2 pc2 heq
      injection heq with h1 h3
      injection h3 with h3 h4
      subst h1 h3 h4
      simp only [Bool.and_eq_true] at ht
      obtain ⟨ht, hst⟩ := ht
      obtain ⟨z, rfl, hz⟩ : ∃ z, e = .returned z ∧ (AV.bool b).den E' = some z := by
        rcases hend with h0 | ⟨y, x, hy, _⟩
        · exact h0
        · cases hy
      have hb : b.den E'.ι = true := by
        simp only [Bool.or_eq_true] at ht
        rcases ht with ht | ht
        · exact truthR_sound hxt.wr.giv.rules (holds_den hpc) (by simpa using ht : truthR h'.giv.cfg.rules pc' b = some true)
        · exact (dead_sound hxt.wr.giv.rules (holds_den hpc) ht).elim
      have hz' := denBool hz
      rw [hb] at hz'
      subst hz'
      refine ⟨rfl, hxt.fr.os, hxt.fr.tape, hxt.fr.output, hxt.fr.size, fun c hc => ?_⟩
      by_cases hg : ∃ b : Nat, E.ρ[b]? = some c
      · obtain ⟨b, hb⟩ := hg
        have hblt := (List.getElem?_eq_some_iff.1 hb).1
        obtain ⟨r, t, ks, n, q, hbs⟩ := keepsG_get hst (by omega : b < k)
        obtain ⟨ob, ho1, ho2, _⟩ := hxt.wr.obj b c _ (hxt.le.ρ b c hb) hbs
        obtain ⟨ob', h5, h6⟩ := hobj b c hb
        rw [hxt.le.ι.obj, h6] at ho2
        rw [ho1, h5, ← ho2]
      · exact hxt.fr.block c hc (fun b hb => hg ⟨b, hb⟩)
    · cases ht
  · cases h

/-! ### Slices that are handed in -/

/-- What a slice's element is made of, if of numbers and truths alone. -/
def kindsL : List Leaf → Option (List CK)
  | [] => some []
  | .int k :: r => (kindsL r).map (.int k :: ·)
  | .bool :: r => (kindsL r).map (.bool :: ·)
  | .str :: _ => none

theorem kindsL_ok : ∀ {ls : List Leaf} {ks : List CK} {vs : List Value}, kindsL ls = some ks → Leaves ls vs → ks.length = ls.length ∧ ∀ (i : Nat) (k : CK) (v : Value), ks[i]? = some k → vs[i]? = some v → k.ok v
  | [], ks, vs, h, hl => by
    simp only [kindsL, Option.some.injEq] at h
    subst h
    exact ⟨rfl, fun i k v hk => by simp at hk⟩
  | .int kd :: ls, ks, [], h, hl => hl.elim
  | .bool :: ls, ks, [], h, hl => hl.elim
  | .str :: ls, ks, vs, h, hl => by cases h
  | .int kd :: ls, ks, v :: vs, h, hl => by
    simp only [kindsL, Option.map_eq_some_iff] at h
    obtain ⟨ks', hks, rfl⟩ := h
    obtain ⟨⟨n, rfl, hw⟩, hl⟩ := hl
    obtain ⟨e, ih⟩ := kindsL_ok hks hl
    refine ⟨by simp [e], fun i k x hk hx => ?_⟩
    cases i with
    | zero =>
      simp at hk hx
      subst hk hx
      have h1 := wrap_wf hw
      have h2 := wrap_range kd n
      rw [h1] at h2
      exact ⟨n, rfl, h2⟩
    | succ i => exact ih i k x (by simpa using hk) (by simpa using hx)
  | .bool :: ls, ks, v :: vs, h, hl => by
    simp only [kindsL, Option.map_eq_some_iff] at h
    obtain ⟨ks', hks, rfl⟩ := h
    obtain ⟨⟨n, rfl⟩, hl⟩ := hl
    obtain ⟨e, ih⟩ := kindsL_ok hks hl
    refine ⟨by simp [e], fun i k x hk hx => ?_⟩
    cases i with
    | zero =>
      simp at hk hx
      subst hk hx
      exact ⟨n, rfl⟩
    | succ i => exact ih i k x (by simpa using hk) (by simpa using hx)

/-- Rows of the same length, one behind the other. -/
theorem flat_get {α : Type} {z : Nat} (hz : 0 < z) : ∀ {L : List (List α)}, (∀ l ∈ L, l.length = z) → L.flatten.length = L.length * z ∧
    ∀ (i : Nat) (x : α), L.flatten[i]? = some x → ∃ l, L[i / z]? = some l ∧ l[i % z]? = some x
  | [], _ => ⟨by simp, fun i x h => by simp at h⟩
  | l :: L, h => by
    have hl := h l List.mem_cons_self
    obtain ⟨h1, h2⟩ := flat_get hz (L := L) fun l hl => h l (List.mem_cons_of_mem _ hl)
    refine ⟨by rw [List.flatten_cons, List.length_append, h1, hl, List.length_cons, Nat.add_mul, Nat.one_mul, Nat.add_comm], fun i x hx => ?_⟩
    rw [List.flatten_cons] at hx
    by_cases hi : i < z
    · rw [List.getElem?_append_left (by omega)] at hx
      exact ⟨l, by rw [Nat.div_eq_of_lt hi]; rfl, by rw [Nat.mod_eq_of_lt hi]; exact hx⟩
    · rw [List.getElem?_append_right (by omega), hl] at hx
      obtain ⟨l', h3, h4⟩ := h2 (i - z) x hx
      have e : i = (i - z) + z := by omega
      refine ⟨l', ?_, ?_⟩
      · rw [e, Nat.add_div_right _ hz]
        simpa using h3
      · rw [e, Nat.add_mod_right]
        exact h4

section
variable {H : Type} {enc : TypeId × Value → H} {P : Program} {w : World} {base : Nat} {held : Bool}

/-- What a slice that is handed in is. -/
theorem slice_row {t e : TypeId} {ls : List Leaf} {ks : List CK} {v : Value} {d : DataW H} {p : List MemPlace} {b0 : Nat} (ht : P.underlying t = some (.slice e)) (hls : shape P 10 e = some ls) (hks : kindsL ls = some ks) (hz : 0 < ks.length) (hc : P.cellsOf e = ks.length)
    (hv : Value.okWide P w .any b0 t v) (hd : DataW.Trod enc P w base (fun _ => true) held t v d p) :
    v = .slice none 0 0 ∨ ∃ (c off len cap : Nat) (l pre tail : List Value) (c' : Array Value) (te : TypeId) (fz : Nat × Nat), v = .slice (some ⟨c, off, none⟩) len cap ∧ len ≤ cap ∧ cap ≤ maxLen ∧
      w.heap[c]? = some (.cells c' te fz) ∧ (c'.toList = pre ++ (l ++ tail) ∧ (l ≠ [] → pre.length = off)) ∧ l.length = len * ks.length ∧
      ∀ (i : Nat) (k : CK) (x : Value), ks[i % ks.length]? = some k → l[i]? = some x → k.ok x := by
  obtain ⟨fuel, hd⟩ := hd
  rcases DataW.trod_slice ht hd with ⟨h0, _⟩ | ⟨a, len, cap, elems, rest, n, _, hcs, _, hb, hl, hm, hlen, hel, hsp, _⟩
  · obtain ⟨a0, l0, c0, rfl⟩ := okWide_slice ht hv
    simp only [Value.cells] at h0
    injection h0 with h0
    exact Or.inl h0
  · right
    obtain ⟨a0, l0, c0, rfl⟩ := okWide_slice ht hv
    simp only [Value.cells] at hcs
    injection hcs with hcs
    injection hcs with e1 e2 e3
    subst e1 e2 e3
    simp only [Value.okWide, ht, Cell.okWide, Cell.ok] at hv
    obtain ⟨_, _, _, hspot, row, cells, hshape, hlies⟩ := hv
    obtain ⟨c, off, spot⟩ := a
    simp only at hspot
    subst hspot
    obtain ⟨c', te, fz, hob⟩ : ∃ (c' : Array Value) (te : TypeId) (fz : Nat × Nat), w.heap[c]? = some (.cells c' te fz) := by
      simp only [World.shape?] at hshape
      split at hshape
      · rename_i c' el fz hh
        exact ⟨c', el, fz, hh⟩
      · cases hshape
    -- each element's cells
    have each : ∀ i, i < l0 → ∃ cs : List Value, cs.length = ks.length ∧ (∀ (j : Nat) (x : Value), cs[j]? = some x → c'.toList[off + (i * ks.length + j)]? = some x) ∧ ∀ (j : Nat) (k : CK) (x : Value), ks[j]? = some k → cs[j]? = some x → k.ok x := fun i hi => by
      have h1 := hel i hi
      rw [List.getElem?_eq_getElem (by omega), Option.bind_eq_some_iff] at h1
      obtain ⟨cs, hcs, htr⟩ := h1
      obtain ⟨h2, _, _⟩ := trod_reads 10 e ls n cs _ w base (fun _ => true) held hls htr
      obtain ⟨h3, h4⟩ := kindsL_ok hks h2
      obtain ⟨_, h5, h6⟩ := World.cells?_some hcs
      refine ⟨cs, by rw [h5, hc], fun j x hx => ?_, h4⟩
      have hjl := (List.getElem?_eq_some_iff.1 hx).1
      have h7 := h6 j (by omega)
      rw [hx, Addr.add_lit, Addr.add_lit, cell_of_row w c _ c' te fz hob, ← Array.getElem?_toList, hc] at h7
      rw [← h7, Nat.add_assoc]
    let L : List (List Value) := (List.range l0).map fun i => if h : i < l0 then Classical.choose (each i h) else []
    have hL : ∀ i, i < l0 → ∃ cs, L[i]? = some cs ∧ cs.length = ks.length ∧ (∀ (j : Nat) (x : Value), cs[j]? = some x → c'.toList[off + (i * ks.length + j)]? = some x) ∧ ∀ (j : Nat) (k : CK) (x : Value), ks[j]? = some k → cs[j]? = some x → k.ok x := fun i hi => by
      refine ⟨Classical.choose (each i hi), ?_, Classical.choose_spec (each i hi)⟩
      simp only [L, List.getElem?_map, List.getElem?_range hi, Option.map_some, dif_pos hi]
    have hLl : L.length = l0 := by simp [L]
    have hLz : ∀ cs ∈ L, cs.length = ks.length := fun cs hcs => by
      obtain ⟨i, hi, rfl⟩ := List.getElem_of_mem hcs
      obtain ⟨cs, h1, h2, _⟩ := hL i (by omega)
      rw [List.getElem?_eq_getElem hi] at h1
      injection h1 with h1
      rw [h1]; exact h2
    obtain ⟨f1, f2⟩ := flat_get hz hLz
    have hat : ∀ (i : Nat) (x : Value), L.flatten[i]? = some x → c'.toList[off + i]? = some x ∧ ∀ k, ks[i % ks.length]? = some k → k.ok x := fun i x hx => by
      obtain ⟨cs, h1, h2⟩ := f2 i x hx
      have hlt := (List.getElem?_eq_some_iff.1 h1).1
      obtain ⟨cs', h3, _, h5, h6⟩ := hL (i / ks.length) (by omega)
      rw [h1] at h3
      injection h3 with h3
      subst h3
      refine ⟨?_, fun k hk => h6 _ k x hk h2⟩
      have := h5 _ x h2
      rwa [Nat.mul_comm, Nat.div_add_mod] at this
    have hlen2 : L.flatten ≠ [] → off + L.flatten.length ≤ c'.toList.length := fun hne => by
      have hpos : 0 < L.flatten.length := List.length_pos_iff.2 hne
      have := (hat (L.flatten.length - 1) _ (List.getElem?_eq_getElem (by omega))).1
      have := (List.getElem?_eq_some_iff.1 this).1
      omega
    refine ⟨c, off, l0, c0, L.flatten, c'.toList.take off, c'.toList.drop (off + L.flatten.length), c', te, fz, rfl, hl, hm, hob, ⟨?_, fun hne => ?_⟩, by rw [f1, hLl], fun i k x hk hx => (hat i x hx).2 k hk⟩
    · by_cases hne : L.flatten = []
      · rw [hne]
        simp
      · have hle := hlen2 hne
        have hsz : c'.toList.length = c'.size := by simp
        apply List.ext_getElem?
        intro i
        by_cases hi : i < off
        · rw [List.getElem?_append_left (by simp; omega), List.getElem?_take, if_pos hi]
        · rw [List.getElem?_append_right (by simp; omega)]
          have ho : (c'.toList.take off).length = off := by simp at hle ⊢; omega
          rw [ho]
          by_cases hi2 : i - off < L.flatten.length
          · rw [List.getElem?_append_left hi2]
            have := (hat (i - off) _ (List.getElem?_eq_getElem hi2)).1
            rw [show off + (i - off) = i by omega] at this
            rw [this, List.getElem?_eq_getElem hi2]
          · rw [List.getElem?_append_right (by omega), List.getElem?_drop]
            congr 1
            omega
    · have hle := hlen2 hne
      simp at hle ⊢
      omega

/-! ### All that is handed in -/

/-- What the unknowns are, from some numbers of them on. -/
structure HoldsS (E : Env) (n m k b : Nat) (ns : List Int) (ss : List (List UInt8)) (fs : List Fv) (rs : List Nat) (os : List Obj) : Prop where
  flat : Holds E.ι n m ns ss
  fv : ∀ (i : Nat) (f : Fv), fs[i]? = some f → E.ι.fv[k + i]? = some f
  ρ : ∀ (i c : Nat), rs[i]? = some c → E.ρ[b + i]? = some c
  obj : ∀ (i : Nat) (o : Obj), os[i]? = some o → E.ι.obj (b + i) = some o

theorem get_left {α : Type} {l r : List α} {i : Nat} {x : α} (h : l[i]? = some x) : (l ++ r)[i]? = some x := by
  rw [List.getElem?_append_left (List.getElem?_eq_some_iff.1 h).1]; exact h
theorem get_right {α : Type} {l r : List α} {i : Nat} {x : α} (h : r[i]? = some x) : (l ++ r)[l.length + i]? = some x := by
  rw [List.getElem?_append_right (by omega), Nat.add_sub_cancel_left]; exact h

theorem HoldsS.left {E : Env} {n m k b : Nat} {ns ns' : List Int} {ss ss' : List (List UInt8)} {fs fs' : List Fv} {rs rs' : List Nat} {os os' : List Obj} (h : HoldsS E n m k b (ns ++ ns') (ss ++ ss') (fs ++ fs') (rs ++ rs') (os ++ os')) : HoldsS E n m k b ns ss fs rs os :=
  ⟨h.flat.left, fun i f hf => h.fv i f (get_left hf), fun i c hc => h.ρ i c (get_left hc), fun i o ho => h.obj i o (get_left ho)⟩
theorem HoldsS.right {E : Env} {n m k b : Nat} {ns ns' : List Int} {ss ss' : List (List UInt8)} {fs fs' : List Fv} {rs rs' : List Nat} {os os' : List Obj} (hl : os.length = rs.length) (h : HoldsS E n m k b (ns ++ ns') (ss ++ ss') (fs ++ fs') (rs ++ rs') (os ++ os')) :
    HoldsS E (n + ns.length) (m + ss.length) (k + fs.length) (b + rs.length) ns' ss' fs' rs' os' :=
  ⟨h.flat.right, fun i f hf => by rw [Nat.add_assoc]; exact h.fv _ f (get_right hf), fun i c hc => by rw [Nat.add_assoc]; exact h.ρ _ c (get_right hc), fun i o ho => by rw [Nat.add_assoc, ← hl]; exact h.obj _ o (get_right ho)⟩

/-- What is handed in is what the unknowns say, wherever they hold. -/
def MeansS (w : World) (n m k b n' m' k' b' : Nat) (as : List AV) (vs : List Value) (bs : List AObj) (ps : List BE) : Prop :=
  ∃ (ns : List Int) (ss : List (List UInt8)) (fs : List Fv) (rs : List Nat) (os : List Obj), n' = n + ns.length ∧ m' = m + ss.length ∧ k' = k + fs.length ∧ b' = b + rs.length ∧ os.length = rs.length ∧ (bs.length = rs.length ∧ ∀ a ∈ bs, a.only = true) ∧
    (∀ (i c : Nat) (o : Obj), rs[i]? = some c → os[i]? = some o → w.heap[c]? = some o) ∧
    ∀ E, HoldsS E n m k b ns ss fs rs os → AV.denL E as = some vs ∧ (∀ (i : Nat) (a : AObj) (o : Obj), bs[i]? = some a → os[i]? = some o → ORel E a o) ∧ ∀ p ∈ ps, p.holds E.ι

theorem MeansS.append {w : World} {n m k b n1 m1 k1 b1 n2 m2 k2 b2 : Nat} {as as' : List AV} {vs vs' : List Value} {bs bs' : List AObj} {ps ps' : List BE} (h : MeansS w n m k b n1 m1 k1 b1 as vs bs ps) (g : MeansS w n1 m1 k1 b1 n2 m2 k2 b2 as' vs' bs' ps') :
    MeansS w n m k b n2 m2 k2 b2 (as ++ as') (vs ++ vs') (bs ++ bs') (ps ++ ps') := by
  obtain ⟨ns, ss, fs, rs, os, rfl, rfl, rfl, rfl, hl, ⟨hb, ho⟩, hw, h0⟩ := h
  obtain ⟨ns', ss', fs', rs', os', rfl, rfl, rfl, rfl, hl', ⟨hb', ho'⟩, hw', h0'⟩ := g
  refine ⟨ns ++ ns', ss ++ ss', fs ++ fs', rs ++ rs', os ++ os', by simp; omega, by simp; omega, by simp; omega, by simp; omega, by simp [hl, hl'], ⟨by simp [hb, hb'], fun a ha => (List.mem_append.1 ha).elim (ho a) (ho' a)⟩, fun i c o hc ho => ?_, fun E hE => ?_⟩
  · by_cases hi : i < rs.length
    · rw [List.getElem?_append_left hi] at hc
      rw [List.getElem?_append_left (by omega)] at ho
      exact hw i c o hc ho
    · rw [List.getElem?_append_right (by omega)] at hc ho
      rw [hl] at ho
      exact hw' _ c o hc ho
  · obtain ⟨a1, a2, a3⟩ := h0 E hE.left
    obtain ⟨b1, b2, b3⟩ := h0' E (hE.right hl)
    refine ⟨denL_append a1 b1, fun i a o ha ho => ?_, fun p hp => (List.mem_append.1 hp).elim (a3 p) (b3 p)⟩
    by_cases hi : i < bs.length
    · rw [List.getElem?_append_left hi] at ha
      rw [List.getElem?_append_left (by omega)] at ho
      exact a2 i a o ha ho
    · rw [List.getElem?_append_right (by omega)] at ha ho
      rw [show i - os.length = i - bs.length by omega] at ho
      exact b2 _ a o ha ho

theorem MeansS.nil {w : World} (n m k b : Nat) : MeansS w n m k b n m k b [] [] [] [] :=
  ⟨[], [], [], [], [], rfl, rfl, rfl, rfl, rfl, ⟨rfl, fun a ha => by cases ha⟩, fun i c o hc => by simp at hc, fun E _ => ⟨by simp [AV.denL], fun i a o ha => by simp at ha, fun p hp => by cases hp⟩⟩

/-- What is plain asks nothing of memory. -/
theorem MeansS.flat {w : World} {n m n' m' : Nat} (k b : Nat) {as : List AV} {vs : List Value} (h : Means n m n' m' as vs) : MeansS w n m k b n' m' k b as vs [] [] := by
  obtain ⟨ns, ss, e1, e2, h0⟩ := h
  refine ⟨ns, ss, [], [], [], e1, e2, rfl, rfl, rfl, ⟨rfl, fun a ha => by cases ha⟩, fun i c o hc => by simp at hc, fun E hE => ⟨?_, fun i a o ha => by simp at ha, fun p hp => by cases hp⟩⟩
  exact AV.denL_mono (E := ⟨[], [], E.ι⟩) (E' := E) ⟨.refl _, fun b c hb => by simp at hb, fun b c hb => by simp at hb⟩ as vs (h0 E.ι hE.flat)

/-- How many bytes there are. -/
def lenFact (k : Nat) (ks : List CK) (n : IE) : List BE := if ks = [.int .u8] then [.rlen (.row k) n] else []
theorem lenFact_holds {ι : Unk} {k : Nat} {ks : List CK} {n : IE} (hk : k < ι.nv) (hn : n.upto ι.nv = true) (h : ((ι.fr k).length : Int) = n.den ι * ks.length) : ∀ p ∈ lenFact k ks n, p.holds ι := by
  intro p hp
  unfold lenFact at hp
  split at hp
  · rename_i e
    subst e
    rw [List.mem_singleton.1 hp]
    refine ⟨by simp only [BE.upto, RX.upto, blt_iff.2 hk, hn, Bool.and_self], ?_⟩
    simp only [BE.den, RX.den, decide_eq_true_eq, h, List.length_singleton, Int.natCast_one, Int.mul_one]
  · cases hp
theorem tyFact_holds {ι : Unk} {k : Nat} {ks : List CK} (hk : k < ι.nv) (h : ∀ (i : Nat) (q : CK) (v : Value), ks[i % ks.length]? = some q → (ι.fr k)[i]? = some v → q.ok v) : ∀ p ∈ tyFact k ks, p.holds ι := by
  intro p hp
  unfold tyFact at hp
  split at hp
  · rename_i e
    subst e
    rw [List.mem_singleton.1 hp]
    refine ⟨by simp only [BE.upto, IE.upto, RX.upto, blt_iff.2 hk, Bool.and_self], ?_⟩
    have hb : isBytes (ι.fr k) := by
      intro v hv
      obtain ⟨i, hi, rfl⟩ := List.getElem_of_mem hv
      obtain ⟨n, e, h0, h1⟩ := h i (.int .u8) _ (by simp [Nat.mod_one]) (List.getElem?_eq_getElem hi)
      exact ⟨n, e, h0, h1⟩
    simp only [BE.den, IE.den, RX.den, sysF, if_pos hb, decide_true]
  · cases hp

/-- What is known of a slice that is handed in. -/
def sliceFacts (k : Nat) (ks : List CK) : List BE :=
  tyFact k ks ++ lenFact k ks (.fv (k + 1)) ++ [.cmp .geq (.fv (k + 1)) (.lit 0), .cmp .leq (.fv (k + 1)) (.fv (k + 2)), .cmp .leq (.fv (k + 2)) (.lit 9223372036854775807), .cmp .geq (.fv (k + 3)) (.lit 0)]
def sliceArg (k b z : Nat) : AV := .sl b z (.fv (k + 3)) (.lit 0) (.fv (k + 1)) (.fv (k + 2))
def sliceObj (k b : Nat) (ks : List CK) : AObj := .grow k 0 ks (.fv (k + 1)) b (.fv (k + 3))

/-- A parameter that is a slice of numbers and truths. -/
def sliceKinds (P : Program) (t : TypeId) : Option (List CK) :=
  match P.underlying t with
  | some (.slice e) => do
    let ls ← shape P 10 e
    let ks ← kindsL ls
    if 0 < ks.length && P.cellsOf e == ks.length then some ks else none
  | _ => none

theorem slice_means {t : TypeId} {ks : List CK} {v : Value} {d : DataW H} {p : List MemPlace} {b0 : Nat} (hk : sliceKinds P t = some ks) (hv : Value.okWide P w .any b0 t v) (hd : DataW.Trod enc P w base (fun _ => true) held t v d p) (n m k b : Nat) :
    MeansS w n m k b n m k b [.nilSlice] [v] [] [] ∨ MeansS w n m k b n m (k + 4) (b + 1) [sliceArg k b ks.length] [v] [sliceObj k b ks] (sliceFacts k ks) := by
  unfold sliceKinds at hk
  split at hk
  · rename_i e ht
    simp only [Option.bind_eq_bind, Option.bind_eq_some_iff] at hk
    obtain ⟨ls, hls, ks', hks, hk⟩ := hk
    split at hk
    · rename_i hz
      simp only [Bool.and_eq_true, decide_eq_true_eq, beq_iff_eq] at hz
      injection hk with hk
      subst hk
      rcases slice_row ht hls hks hz.1 hz.2 hv hd with rfl | ⟨c, off, len, cap, l, pre, tail, c', te, fz, rfl, hl, hm, hob, hc, hlen, hkk⟩
      · exact Or.inl ⟨[], [], [], [], [], rfl, rfl, rfl, rfl, rfl, ⟨rfl, fun a ha => by cases ha⟩, fun i c o hc => by simp at hc, fun E _ => ⟨by simp [AV.denL, AV.den], fun i a o ha => by simp at ha, fun p hp => by cases hp⟩⟩
      · right
        refine ⟨[], [], [{ r := l }, { n := len }, { n := cap }, { n := off }], [c], [.cells c' te fz], rfl, rfl, rfl, rfl, rfl, ⟨rfl, fun a ha => by rw [List.mem_singleton.1 ha]; rfl⟩, fun i c2 o hc2 ho => ?_, fun E hE => ?_⟩
        · cases i with
          | zero => simp at hc2 ho; subst hc2 ho; exact hob
          | succ i => simp at hc2
        · have f0 := hE.fv 0 _ rfl
          have f1 := hE.fv 1 _ rfl
          have f2 := hE.fv 2 _ rfl
          have f3 := hE.fv 3 _ rfl
          have hn : k + 4 ≤ E.ι.nv := (List.getElem?_eq_some_iff.1 f3).1
          have e0 : E.ι.fr k = l := by simp only [Unk.fr]; rw [Nat.add_zero] at f0; rw [f0]; rfl
          have e1 : E.ι.fn (k + 1) = len := by simp only [Unk.fn]; rw [f1]; rfl
          have e2 : E.ι.fn (k + 2) = cap := by simp only [Unk.fn]; rw [f2]; rfl
          have e3 : E.ι.fn (k + 3) = off := by simp only [Unk.fn]; rw [f3]; rfl
          have u : ∀ i, i < 4 → (IE.fv (k + i)).upto E.ι.nv = true := fun i hi => by simp only [IE.upto, blt_iff]; omega
          have hρ := hE.ρ 0 c rfl
          rw [Nat.add_zero] at hρ
          have ho := hE.obj 0 _ rfl
          rw [Nat.add_zero] at ho
          refine ⟨?_, fun i a o ha ho2 => ?_, fun p hp => ?_⟩
          · refine denL_cons.2 ⟨_, [], ?_, rfl, rfl⟩
            simp only [sliceArg, AV.den]
            rw [if_pos ⟨by rw [u 3 (by omega), u 1 (by omega), u 2 (by omega)]; rfl, by simp only [IE.den]; omega, by simp only [IE.den, e1]; omega, by simp only [IE.den, e1, e2]; omega⟩, hρ]
            simp only [IE.den, e1, e2, e3, Option.map_some, Int.toNat_natCast, Int.toNat_zero, Nat.zero_mul, Nat.add_zero]
          · cases i with
            | succ i => simp at ha
            | zero =>
              simp at ha ho2
              subst ha ho2
              refine ⟨ho, te, c', fz, pre, tail, rfl, by simp only [IE.den, e0, e3, Int.toNat_natCast]; exact hc, ⟨by omega, u 1 (by omega), u 3 (by omega)⟩, ?_, ?_⟩
              · simp only [IE.den, e0, e1, hlen, Int.natCast_mul]
              · rw [e0]; exact hkk
          · simp only [sliceFacts, List.mem_append, List.mem_cons, List.not_mem_nil, or_false] at hp
            rcases hp with (hp | hp) | hp
            · exact tyFact_holds (by omega) (by rw [e0]; exact hkk) p hp
            · exact lenFact_holds (by omega) (u 1 (by omega)) (by simp only [IE.den]; rw [e0, e1, hlen, Int.natCast_mul]) p hp
            rcases hp with rfl | rfl | rfl | rfl
            · exact ⟨by simp only [BE.upto, u 1 (by omega), below_lit, Bool.and_self], den_geq.2 (by simp only [IE.den, e1]; omega)⟩
            · exact ⟨by simp only [BE.upto, u 1 (by omega), u 2 (by omega), Bool.and_self], den_leq.2 (by simp only [IE.den, e1, e2]; omega)⟩
            · exact ⟨by simp only [BE.upto, u 2 (by omega), below_lit, Bool.and_self], den_leq.2 (by simp only [IE.den, e2]; simp only [maxLen] at hm; omega)⟩
            · exact ⟨by simp only [BE.upto, u 3 (by omega), below_lit, Bool.and_self], den_geq.2 (by simp only [IE.den, e3]; omega)⟩
    · cases hk
  · cases hk

/-- What the parameters are taken for; 'fl': which of the slices are nil. -/
def argsS (P : Program) : List Bool → Nat → Nat → Nat → Nat → List TypeId → Option (List AV × List AObj × List BE × Nat)
  | _, _, _, k, _, [] => some ([], [], [], k)
  | fl, n, m, k, b, t :: r =>
    match sliceKinds P t with
    | some ks =>
      match fl with
      | [] => none
      | true :: fl => do
        let (as, os, ps, k') ← argsS P fl n m k b r
        pure (.nilSlice :: as, os, ps, k')
      | false :: fl => do
        let (as, os, ps, k') ← argsS P fl n m (k + 4) (b + 1) r
        pure (sliceArg k b ks.length :: as, sliceObj k b ks :: os, sliceFacts k ks ++ ps, k')
    | none => do
      let (a, n', m') ← argA P n m t
      let (as, os, ps, k') ← argsS P fl n' m' k b r
      pure (a :: as, os, ps, k')
/-- How many slices there are. -/
def slicesIn (P : Program) : List TypeId → Nat
  | [] => 0
  | t :: r => (if (sliceKinds P t).isSome then 1 else 0) + slicesIn P r

theorem argsS_sound {b0 : Nat} : ∀ (ts : List TypeId) (n m k b : Nat) (vs : List Value) (ds : List (DataW H)) (p : List MemPlace), (∀ (j : Nat) (t : TypeId) (v : Value), ts[j]? = some t → vs[j]? = some v → Value.okWide P w .any b0 t v) →
    DataW.TrodAll enc P w base (fun _ => true) held ts vs ds p → ∃ fl : List Bool, fl.length = slicesIn P ts ∧
      ∀ (as : List AV) (os : List AObj) (ps : List BE) (k' : Nat), argsS P fl n m k b ts = some (as, os, ps, k') → ∃ n' m' b', MeansS w n m k b n' m' k' b' as vs os ps
  | [], n, m, k, b, vs, ds, p, _, hd => by
    obtain ⟨rfl, rfl, rfl⟩ := trodAll_nil hd
    refine ⟨[], rfl, fun as os ps k' h => ?_⟩
    simp only [argsS, Option.some.injEq, Prod.mk.injEq] at h
    obtain ⟨rfl, rfl, rfl, rfl⟩ := h
    exact ⟨n, m, b, .nil n m k b⟩
  | t :: ts, n, m, k, b, vs, ds, p, hv, hd => by
    obtain ⟨v, vs', d, ds', p1, q1, rfl, rfl, rfl, h1, h2⟩ := trodAll_cons hd
    have hv1 := hv 0 t v rfl rfl
    have hv2 : ∀ (j : Nat) (t : TypeId) (v : Value), ts[j]? = some t → vs'[j]? = some v → Value.okWide P w .any b0 t v := fun j t v h h' => hv (j + 1) t v (by simpa using h) (by simpa using h')
    cases hk : sliceKinds P t with
    | some ks =>
      rcases slice_means hk hv1 h1 n m k b with hm | hm
      · obtain ⟨fl, hfl, ih⟩ := argsS_sound ts n m k b vs' ds' q1 hv2 h2
        refine ⟨true :: fl, by simp [slicesIn, hk, hfl]; omega, fun as os ps k' h => ?_⟩
        simp only [argsS, hk, Option.bind_eq_bind, Option.bind_eq_some_iff, Option.pure_def, Option.some.injEq, Prod.mk.injEq] at h
        obtain ⟨⟨as', os', ps', k2⟩, h3, rfl, rfl, rfl, rfl⟩ := h
        obtain ⟨n', m', b', hm'⟩ := ih _ _ _ _ h3
        exact ⟨n', m', b', hm.append hm'⟩
      · obtain ⟨fl, hfl, ih⟩ := argsS_sound ts n m (k + 4) (b + 1) vs' ds' q1 hv2 h2
        refine ⟨false :: fl, by simp [slicesIn, hk, hfl]; omega, fun as os ps k' h => ?_⟩
        simp only [argsS, hk, Option.bind_eq_bind, Option.bind_eq_some_iff, Option.pure_def, Option.some.injEq, Prod.mk.injEq] at h
        obtain ⟨⟨as', os', ps', k2⟩, h3, rfl, rfl, rfl, rfl⟩ := h
        obtain ⟨n', m', b', hm'⟩ := ih _ _ _ _ h3
        exact ⟨n', m', b', hm.append hm'⟩
    | none =>
      by_cases ha : ∃ a n1 m1, argA P n m t = some (a, n1, m1)
      · obtain ⟨a, n1, m1, ha⟩ := ha
        obtain ⟨k1, _, _⟩ := argA_sound ha hv1 h1
        obtain ⟨fl, hfl, ih⟩ := argsS_sound ts n1 m1 k b vs' ds' q1 hv2 h2
        refine ⟨fl, by simp [slicesIn, hk, hfl], fun as os ps k' h => ?_⟩
        simp only [argsS, hk, ha, Option.bind_eq_bind, Option.bind_eq_some_iff, Option.pure_def, Option.some.injEq, Prod.mk.injEq] at h
        obtain ⟨⟨a', n2, m2⟩, h3, ⟨as', os', ps', k2⟩, h4, rfl, rfl, rfl, rfl⟩ := h
        obtain ⟨rfl, rfl, rfl⟩ := h3
        obtain ⟨n', m', b', hm'⟩ := ih _ _ _ _ h4
        exact ⟨n', m', b', (MeansS.flat k b k1).append hm'⟩
      · obtain ⟨fl, hfl, ih⟩ := argsS_sound ts n m k b vs' ds' q1 hv2 h2
        refine ⟨fl, by simp [slicesIn, hk, hfl], fun as os ps k' h => ?_⟩
        exfalso
        simp only [argsS, hk, Option.bind_eq_bind, Option.bind_eq_some_iff, Option.pure_def, Option.some.injEq, Prod.mk.injEq] at h
        obtain ⟨⟨a', n2, m2⟩, h3, _⟩ := h
        exact ha ⟨a', n2, m2, h3⟩

/-- Memory that begins with the rows that are handed in. -/
def Hp.args (os : List AObj) (k : Nat) (cfg : Cfg) : Hp := ⟨Bl.nil ++ os, 0, { nv := k, cfg }⟩

theorem args_get (os : List AObj) (k : Nat) (cfg : Cfg) (j : Nat) : (Hp.args os k cfg).bs[j]? = os[j]? := by
  simp only [Hp.args, appends_get]
  rw [if_neg (by simp [Bl.length, Bl.nil])]
  simp [Bl.length, Bl.nil]

/-- A number that is handed in, where a case says which one it is. -/
def litEq (e : IE) : List BE → Option Int
  | [] => none
  | .cmp .eql a (.lit n) :: r => if a = e then some n else litEq e r
  | _ :: r => litEq e r
def AV.fixI (fs : List BE) : AV → AV
  | .int k e => match litEq e fs with | some n => .int k (.lit n) | none => .int k e
  | v => v
theorem litEq_ok {ι : Unk} {e : IE} {n : Int} : ∀ {fs : List BE}, (∀ b ∈ fs, b.den ι = true) → litEq e fs = some n → e.den ι = n
  | [], _, h => by cases h
  | b :: r, hb, h => by
    have ih := litEq_ok (e := e) (n := n) (fs := r) (fun c hc => hb c (List.mem_cons_of_mem _ hc))
    unfold litEq at h
    split at h
    · cases h
    · rename_i a m r' heq
      injection heq with h1 h2
      subst h1
      subst h2
      split at h
      · rename_i ha
        cases h
        have := hb _ List.mem_cons_self
        rw [ha] at this
        have h2 : IE.den ι e = IE.den ι (IE.lit n) := by simpa [BE.den, intCmp] using this
        exact h2
      · exact ih h
    · rename_i heq
      injection heq with h1 h2
      subst h2
      exact ih h
theorem fixI_den {E : Env} {fs : List BE} (hf : ∀ b ∈ fs, b.den E.ι = true) {v : AV} {z : Value} (h : v.den E = some z) : (v.fixI fs).den E = some z := by
  unfold AV.fixI
  split
  · rename_i k e
    split
    · rename_i n hn
      have hz := denInt h
      rw [litEq_ok hf hn] at hz
      rw [hz]
      rfl
    · exact h
  · exact h
theorem fixL_den {E : Env} {fs : List BE} (hf : ∀ b ∈ fs, b.den E.ι = true) : ∀ {vs : List AV} {zs : List Value}, AV.denL E vs = some zs → AV.denL E (vs.map (AV.fixI fs)) = some zs
  | [], _, h => h
  | v :: r, zs, h => by
    obtain ⟨z, l, hz, hl, rfl⟩ := denL_cons.1 h
    exact denL_cons.2 ⟨z, l, fixI_den hf hz, fixL_den hf hl, rfl⟩

/-- A call of what is handed in. -/
theorem calls_args {dr : Bool} {kn : Kn} {fuel d : Nat} {f : FuncId} {as : List AV} {vs : List Value} {os : List AObj} {ps : List BE} {n' m' k' b' : Nat} {cfg : Cfg} {prd : Nat → List Int → List (List UInt8) → List (List Value) → Prop} (hm : MeansS w 0 0 0 0 n' m' k' b' as vs os ps) (hN : plainNames P = true) (hK : Known P kn ⟨0, prd⟩)
    (hA : dr = true → ∀ call, CallOk P call ⟨0, prd⟩ → AnyOk P call ⟨0, prd⟩) (hR : ∀ ι : Unk, ι.prd = prd → RulesOk cfg.rules ι)
    {cs : List (List BE)} (hcs : ∀ ι : Unk, ι.prd = prd → ∃ fs ∈ cs, ∀ b ∈ fs, b.den ι = true) (hup : ∀ fs ∈ cs, (fs.all (·.upto k')) = true)
    (h : ∀ fs ∈ cs, allSym os.length (runCall P dr kn fuel d false f (as.map (AV.fixI fs)) (Hp.args os k' cfg) (fs ++ ps)) = true) :
    Calls P f vs.toArray w fun e w' => e = .returned (.bool true) ∧ Below w.heap.size w w' := by
  obtain ⟨ns, ss, fs, rs, ob, _, _, hk, _, hl, ⟨hb, ho⟩, hw, h0⟩ := hm
  obtain ⟨h1, h2, h3⟩ := h0 ⟨rs, [], ⟨fun i => ns.getD i 0, fun i => ss.getD i [], fun i => ob[i]?, fs, prd⟩⟩ ⟨⟨fun i _ => by simp, fun i _ => by simp⟩, fun i f hf => by simpa using hf, fun i c hc => by simpa using hc, fun i o ho => by simpa using ho⟩
  obtain ⟨ff, hff, hfd⟩ := hcs ⟨fun i => ns.getD i 0, fun i => ss.getD i [], fun i => ob[i]?, fs, prd⟩ rfl
  refine calls_sym (k := os.length) (pc := ff ++ ps) w hN hK hA (E := ⟨rs, [], ⟨fun i => ns.getD i 0, fun i => ss.getD i [], fun i => ob[i]?, fs, prd⟩⟩) ⟨?_, rfl, ?_, fun _ _ _ => Nat.zero_le _, ?_, Nat.zero_le _, ?_, ⟨fun i g hi => by simp [Hp.args] at hi, ?_, hR _ rfl, rfl⟩⟩ hb.symm ?_ (h ff hff) (fixL_den hfd h1) (fun b hbm => (List.mem_append.1 hbm).elim (fun hm => ⟨by
    have := List.all_eq_true.1 (hup ff hff) b hm
    rwa [show k' = (⟨rs, [], ⟨fun i => ns.getD i 0, fun i => ss.getD i [], fun i => ob[i]?, fs, prd⟩⟩ : Env).ι.nv by show k' = fs.length; omega] at this, hfd b hm⟩) (h3 b))
  · show rs.length = (Bl.nil ++ os).length
    rw [appends_length]
    simp [Bl.length, Bl.nil, hb]
  · intro i c o hc ho'
    rw [args_get] at ho'
    have hi : i < rs.length := (List.getElem?_eq_some_iff.1 hc).1
    have : ob[i]? = some (ob[i]'(by omega)) := List.getElem?_eq_getElem _
    exact ⟨_, hw i c _ hc this, h2 i o _ ho' this⟩
  · intro i j c o o' _ _ _ ho1 ho2 _ _
    rw [args_get] at ho1 ho2
    exact Or.inl ⟨ho o (List.mem_of_getElem? ho1), ho o' (List.mem_of_getElem? ho2)⟩
  · intro i o k ho1 hk
    rw [args_get] at ho1
    have := ho o (List.mem_of_getElem? ho1)
    cases o <;> simp [AObj.only] at this
    simp [AObj.cls?] at hk
  · show fs.length = k'
    omega
  · intro i c hc
    have hi : i < rs.length := (List.getElem?_eq_some_iff.1 hc).1
    have : ob[i]? = some (ob[i]'(by omega)) := List.getElem?_eq_getElem _
    exact ⟨_, hw i c _ hc this, this⟩

end
end Go.Sx
