/-
  A WALKER THAT COMPUTES: what is said of a function, by a run of it.
-/
import Derived.Test.YtbgjceknbcpgjaaSzCo
namespace Go.Sx
open Go.RowKit

/-- A parameter: 'i': its first unknown; 'x': the first of the others (a slice's capacity, and where it begins); 'b': its block. -/
def shForm (i x b : Nat) : Sh → AV × List AObj × List BE × List Th
  | .leaf l => ((lfNew i l).1, [], (lfNew i l).2.1, [(lfNew i l).2.2])
  | .agg ls => (.agg (lfsNew i ls).1, [], (lfsNew i ls).2.1, (lfsNew i ls).2.2)
  | .nil => (.nilSlice, [], [], [.row (.lits []), .num (.lit 0)])
  | .row _ ks => (.sl b ks.length (.fv (x + 1)) (.lit 0) (.fv (i + 1)) (.fv x), [.grow i 0 ks (.fv (i + 1)) b (.fv (x + 1))],
      [.cmp .geq (.fv (i + 1)) (.lit 0), .cmp .leq (.fv (i + 1)) (.lit 9223372036854775807), .not (.cmp .lss (.fv x) (.fv (i + 1))), .cmp .geq (.fv (x + 1)) (.lit 0)] ++ (tyFact i ks ++ lenFact i ks (.fv (i + 1))), [.row (.row i), .num (.fv (i + 1))])
def Sh.xn (s : Sh) : Nat := if s.isRow then 2 else 0
def Sh.bn (s : Sh) : Nat := if s.isRow then 1 else 0
def xns : List Sh → Nat
  | [] => 0
  | s :: r => s.xn + xns r
def bns : List Sh → Nat
  | [] => 0
  | s :: r => s.bn + bns r
def shsForm (i x b : Nat) : List Sh → List AV × List AObj × List BE × List Th
  | [] => ([], [], [], [])
  | s :: ss =>
    ((shForm i x b s).1 :: (shsForm (i + s.dn) (x + s.xn) (b + s.bn) ss).1, (shForm i x b s).2.1 ++ (shsForm (i + s.dn) (x + s.xn) (b + s.bn) ss).2.1,
      (shForm i x b s).2.2.1 ++ (shsForm (i + s.dn) (x + s.xn) (b + s.bn) ss).2.2.1, (shForm i x b s).2.2.2 ++ (shsForm (i + s.dn) (x + s.xn) (b + s.bn) ss).2.2.2)

structure Fo (E : Env) (i x b : Nat) (d xs : List Fv) (rs : List Nat) (os : List Obj) : Prop where
  d : ∀ (j : Nat) (f : Fv), d[j]? = some f → E.ι.fv[i + j]? = some f
  x : ∀ (j : Nat) (f : Fv), xs[j]? = some f → E.ι.fv[x + j]? = some f
  ρ : ∀ (j c : Nat), rs[j]? = some c → E.ρ[b + j]? = some c
  o : ∀ (j : Nat) (o : Obj), os[j]? = some o → E.ι.obj (b + j) = some o

/-- What the parameters mean. -/
structure FoOk (E : Env) (r : List AV × List AObj × List BE × List Th) (vs : List Value) (d : List Fv) (os : List Obj) : Prop where
  den : AV.denL E r.1 = some vs
  obj : ∀ (j : Nat) (a : AObj) (o : Obj), r.2.1[j]? = some a → os[j]? = some o → ORel E a o
  ps : ∀ p ∈ r.2.2.1, p.holds E.ι
  up : ∀ t ∈ r.2.2.2, t.upto E.ι.nv = true
  d : r.2.2.2.map (Th.fv E.ι) = d

section
variable {P : Program} {E : Env} {B : Bd} {h : Hp} {w : World} {rs : List Rule} {pc : List BE}

theorem Fo.left {i x b : Nat} {d1 d2 xs1 xs2 : List Fv} {rs1 rs2 : List Nat} {os1 os2 : List Obj} (h : Fo E i x b (d1 ++ d2) (xs1 ++ xs2) (rs1 ++ rs2) (os1 ++ os2)) : Fo E i x b d1 xs1 rs1 os1 :=
  ⟨fun j f hj => h.d j f (get_left hj), fun j f hj => h.x j f (get_left hj), fun j c hj => h.ρ j c (get_left hj), fun j o hj => h.o j o (get_left hj)⟩
theorem Fo.right {i x b n k m : Nat} {d1 d2 xs1 xs2 : List Fv} {rs1 rs2 : List Nat} {os1 os2 : List Obj} (h : Fo E i x b (d1 ++ d2) (xs1 ++ xs2) (rs1 ++ rs2) (os1 ++ os2)) (h1 : d1.length = n) (h2 : xs1.length = k) (h3 : rs1.length = m) (h4 : os1.length = m) : Fo E (i + n) (x + k) (b + m) d2 xs2 rs2 os2 := by
  subst h1 h2 h3
  exact ⟨fun j f hj => by rw [Nat.add_assoc]; exact h.d _ f (get_right hj), fun j f hj => by rw [Nat.add_assoc]; exact h.x _ f (get_right hj), fun j c hj => by rw [Nat.add_assoc]; exact h.ρ _ c (get_right hj),
    fun j o hj => by rw [← h4, Nat.add_assoc]; exact h.o _ o (get_right hj)⟩

theorem shForm_len {i x b : Nat} {s : Sh} : (shForm i x b s).2.1.length = s.bn ∧ ∀ a ∈ (shForm i x b s).2.1, a.only = true := by
  cases s with
  | row t ks => exact ⟨rfl, fun a ha => by rw [List.mem_singleton.1 ha]; rfl⟩
  | _ => exact ⟨rfl, fun a ha => by cases ha⟩

theorem shsForm_len : ∀ {ss : List Sh} {i x b : Nat}, (shsForm i x b ss).2.1.length = bns ss ∧ ∀ a ∈ (shsForm i x b ss).2.1, a.only = true
  | [], _, _, _ => ⟨rfl, fun a ha => by cases ha⟩
  | s :: ss, i, x, b => by
    obtain ⟨a1, a2⟩ := shForm_len (i := i) (x := x) (b := b) (s := s)
    obtain ⟨b1, b2⟩ := shsForm_len (ss := ss) (i := i + s.dn) (x := x + s.xn) (b := b + s.bn)
    exact ⟨by simp only [shsForm, List.length_append, a1, b1, bns], fun a ha => (List.mem_append.1 ha).elim (a2 a) (b2 a)⟩

theorem shForm_den {s : Sh} {v : Value} {d : List Fv} (h : shIs (fun _ => RowAt w) s v d) : ∃ (xs : List Fv) (rs : List Nat) (os : List Obj), xs.length = s.xn ∧ rs.length = s.bn ∧ os.length = s.bn ∧
    (∀ (j c : Nat) (o : Obj), rs[j]? = some c → os[j]? = some o → w.heap[c]? = some o) ∧
    ∀ (i x b : Nat) (E : Env), Fo E i x b d xs rs os → (shForm i x b s).1.den E = some v ∧ (∀ (j : Nat) (a : AObj) (o : Obj), (shForm i x b s).2.1[j]? = some a → os[j]? = some o → ORel E a o) ∧ (∀ p ∈ (shForm i x b s).2.2.1, p.holds E.ι) ∧
      (∀ t ∈ (shForm i x b s).2.2.2, t.upto E.ι.nv = true) ∧ (shForm i x b s).2.2.2.map (Th.fv E.ι) = d := by
  cases s with
  | leaf l =>
    obtain ⟨y, rfl, h⟩ := h
    refine ⟨[], [], [], rfl, rfl, rfl, fun j c o hc => by simp at hc, fun i x b E hE => ?_⟩
    obtain ⟨a1, a2, a3, a4⟩ := lfNew_den h (m := i) (hE.d 0 y rfl)
    exact ⟨a1, fun j a o ha => by simp [shForm] at ha, a2, fun t ht => (List.mem_singleton.1 ht) ▸ a3, by simp only [shForm, List.map_cons, List.map_nil, a4]⟩
  | agg ls =>
    obtain ⟨vs, rfl, h⟩ := h
    refine ⟨[], [], [], rfl, rfl, rfl, fun j c o hc => by simp at hc, fun i x b E hE => ?_⟩
    obtain ⟨a1, a2, a3, a4⟩ := lfsNew_den (m := i) h hE.d
    exact ⟨by simp only [shForm, AV.den, a1, Option.map_some], fun j a o ha => by simp [shForm] at ha, a2, a3, a4⟩
  | nil =>
    obtain ⟨rfl, rfl⟩ := h
    refine ⟨[], [], [], rfl, rfl, rfl, fun j c o hc => by simp at hc, fun i x b E hE => ⟨by simp [shForm, AV.den], fun j a o ha => by simp [shForm] at ha, fun b hb => (by cases hb), fun t ht => ?_, rfl⟩⟩
    simp only [shForm, List.mem_cons, List.not_mem_nil, or_false] at ht
    rcases ht with rfl | rfl <;> rfl
  | row t ks =>
    obtain ⟨l, len, ⟨c, off, cap, pre, tail, c', te, fz, rfl, h1, h2, h3, ⟨h4, h5⟩, h6, h7⟩, rfl⟩ := h
    refine ⟨[{ n := (cap : Nat) }, { n := (off : Nat) }], [c], [.cells c' te fz], rfl, rfl, rfl, fun j c2 o hc2 ho => ?_, fun i x b E hE => ?_⟩
    · cases j with
      | zero => simp at hc2 ho; subst hc2 ho; exact h3
      | succ j => simp at hc2
    · have f0 := hE.d 0 _ rfl
      have f1 := hE.d 1 _ rfl
      have g0 := hE.x 0 _ rfl
      have g1 := hE.x 1 _ rfl
      have hρ := hE.ρ 0 _ rfl
      have ho := hE.o 0 _ rfl
      rw [Nat.add_zero] at f0 g0 hρ ho
      have u0 := up_of f0
      have u1 := up_of f1
      have v0 := up_of g0
      have v1 := up_of g1
      have r0 := fr_of f0
      have n1 := fn_of f1
      have c0 := fn_of g0
      have c1 := fn_of g1
      simp only at r0 n1 c0 c1
      refine ⟨?_, fun j a o ha ho2 => ?_, fun p hp => ?_, fun t ht => ?_, ?_⟩
      · simp only [shForm, AV.den]
        rw [if_pos ⟨by simp only [IE.upto, u1, v0, v1, Bool.and_self], by simp only [IE.den]; omega, by simp only [IE.den, n1]; omega, by simp only [IE.den, n1, c0]; omega⟩, hρ]
        simp only [IE.den, n1, c0, c1, Option.map_some, Int.toNat_natCast, Int.toNat_zero, Nat.zero_mul, Nat.add_zero]
      · cases j with
        | succ j => simp [shForm] at ha
        | zero =>
          simp [shForm] at ha ho2
          subst ha ho2
          refine ⟨ho, te, c', fz, pre, tail, rfl, by simp only [IE.den, r0, c1, Int.toNat_natCast]; exact ⟨h4, h5⟩, ⟨blt_iff.1 u0, by simpa only [IE.upto] using u1, by simpa only [IE.upto] using v1⟩, ?_, ?_⟩
          · simp only [IE.den, r0, n1, h6, Int.natCast_mul]
          · rw [r0]; exact h7
      · simp only [shForm, List.mem_append, List.mem_cons, List.not_mem_nil, or_false] at hp
        rcases Or.symm hp with (hp | hp) | hp
        · exact tyFact_holds (blt_iff.1 u0) (by rw [r0]; exact h7) p hp
        · exact lenFact_holds (blt_iff.1 u0) (by simpa only [IE.upto] using u1) (by simp only [IE.den]; rw [r0, n1, h6, Int.natCast_mul]) p hp
        rcases hp with rfl | rfl | rfl | rfl
        · exact ⟨by simp only [BE.upto, IE.upto, u1, Bool.and_self], den_geq.2 (by simp only [IE.den, n1]; omega)⟩
        · exact ⟨by simp only [BE.upto, IE.upto, u1, Bool.and_self], den_leq.2 (by simp only [IE.den, n1]; simp only [maxLen] at h2; omega)⟩
        · refine ⟨by simp only [BE.upto, IE.upto, u1, v0, Bool.and_self], ?_⟩
          simp only [BE.den, intCmp, IE.den, n1, c0, Option.getD_some, Bool.not_eq_true', decide_eq_false_iff_not]
          omega
        · exact ⟨by simp only [BE.upto, IE.upto, v1, Bool.and_self], den_geq.2 (by simp only [IE.den, c1]; omega)⟩
      · simp only [shForm, List.mem_cons, List.not_mem_nil, or_false] at ht
        rcases ht with rfl | rfl
        · exact u0
        · exact u1
      · simp only [shForm, List.map_cons, List.map_nil, Th.fv, RX.den, IE.den, r0, n1]

theorem shsForm_den : ∀ {ss : List Sh} {vs : List Value} {d : List Fv}, shsIs (fun _ => RowAt w) ss vs d → ∃ (xs : List Fv) (rs : List Nat) (os : List Obj), xs.length = xns ss ∧ rs.length = bns ss ∧ os.length = bns ss ∧
    (∀ (j c : Nat) (o : Obj), rs[j]? = some c → os[j]? = some o → w.heap[c]? = some o) ∧ ∀ (i x b : Nat) (E : Env), Fo E i x b d xs rs os → FoOk E (shsForm i x b ss) vs d os
  | [], _, _, ⟨rfl, rfl⟩ => ⟨[], [], [], rfl, rfl, rfl, fun j c o hc => by simp at hc, fun i x b E _ => ⟨by simp [shsForm, AV.denL], fun j a o ha => by simp [shsForm] at ha, fun p hp => (by cases hp), fun t ht => (by cases ht), rfl⟩⟩
  | s :: ss, _, _, ⟨v, vs', d1, d2, rfl, rfl, h1, h2⟩ => by
    obtain ⟨xs1, rs1, os1, l1, l2, l3, hw1, k1⟩ := shForm_den h1
    obtain ⟨xs2, rs2, os2, m1, m2, m3, hw2, k2⟩ := shsForm_den h2
    refine ⟨xs1 ++ xs2, rs1 ++ rs2, os1 ++ os2, by rw [List.length_append, l1, m1]; rfl, by rw [List.length_append, l2, m2]; rfl, by rw [List.length_append, l3, m3]; rfl, fun j c o hc ho => ?_, fun i x b E hE => ?_⟩
    · by_cases hj : j < rs1.length
      · rw [List.getElem?_append_left hj] at hc
        rw [List.getElem?_append_left (by omega)] at ho
        exact hw1 j c o hc ho
      · rw [List.getElem?_append_right (by omega)] at hc ho
        rw [show j - os1.length = j - rs1.length by omega] at ho
        exact hw2 _ c o hc ho
    · obtain ⟨a1, a2, a3, a4, a5⟩ := k1 i x b E hE.left
      have K := k2 (i + s.dn) (x + s.xn) (b + s.bn) E (hE.right (shIs_len h1) l1 l2 l3)
      have hl := (shForm_len (i := i) (x := x) (b := b) (s := s)).1
      refine ⟨denL_cons.2 ⟨v, vs', a1, K.den, rfl⟩, fun j a o ha ho => ?_, fun p hp => (List.mem_append.1 hp).elim (a3 p) (K.ps p), fun t ht => (List.mem_append.1 ht).elim (a4 t) (K.up t), by simp only [shsForm, List.map_append, a5, K.d]⟩
      simp only [shsForm] at ha
      by_cases hj : j < (shForm i x b s).2.1.length
      · rw [List.getElem?_append_left hj] at ha
        rw [List.getElem?_append_left (by omega)] at ho
        exact a2 j a o ha ho
      · rw [List.getElem?_append_right (by omega)] at ha ho
        rw [show j - os1.length = j - (shForm i x b s).2.1.length by omega] at ho
        exact K.obj _ a o ha ho

/-! ### Ends -/

def shRet (rs : List Rule) (pc : List BE) (h : Hp) (k : Nat) : Sh → AV → Option (List Th)
  | .leaf l, v => (lfTh rs pc l v).map ([·])
  | .agg ls, .agg vs => lfsTh rs pc ls vs
  | .nil, .nilSlice => some [.row (.lits []), .num (.lit 0)]
  | .row t ks, .sl b z q o n c =>
    match h.bs[b]? with
    | some (.row x t' ks' m cc) =>
      if t = t' && ks = ks' && q = .lit 0 && o = .lit 0 && Nat.beq z ks.length && Nat.ble k b && leB rs pc n (.lit 9223372036854775807) && sameI rs pc n m && sameI rs pc c cc then some [.row x, .num n] else none
    | _ => none
  | _, _ => none
def shsRet (rs : List Rule) (pc : List BE) (h : Hp) (k : Nat) : List Sh → List AV → Option (List Th)
  | [], [] => some []
  | s :: ss, v :: vs => do
    let t ← shRet rs pc h k s v
    let r ← shsRet rs pc h k ss vs
    pure (t ++ r)
  | _, _ => none
def retTh (rs : List Rule) (pc : List BE) (h : Hp) (k : Nat) : List Sh → AV → Option (List Th)
  | [s], v => shRet rs pc h k s v
  | ss, .tuple vs => shsRet rs pc h k ss vs
  | _, _ => none
def isSame (rs : List Rule) (pc : List BE) (b q : BE) : Bool :=
  match b with
  | .lit t => truthR rs pc q == some t
  | b => decide (b = q) || truthR rs pc (BE.mkSame b q) == some true || (truthR rs (b :: pc) q == some true && truthR rs (b.mkNot :: pc) q == some false)
def okEnd (k : Nat) (θ : List Th) (c : Fs) (r : AV × Hp × List BE) : Bool :=
  match r with
  | (v, h, pc) =>
    dead h.giv.cfg.rules pc || (keepsG h k && v.pan?.isNone &&
      match c.res with
      | some p =>
        (match v, p.sub θ 0 with
        | .bool b, some q => isSame h.giv.cfg.rules pc b q
        | _, _ => false)
      | none => c.alts.any fun a =>
        match retTh h.giv.cfg.rules pc h k a.rets v with
        | some θ' => (match subAll (θ ++ θ') a.post with | some qs => qs.all (fun q => truthR h.giv.cfg.rules pc q == some true) | none => false)
        | none => false)
def okEnds (k : Nat) (θ : List Th) (c : Fs) : Option (List (AV × Hp × List BE)) → Bool
  | some L => L.all (okEnd k θ c)
  | none => false

theorem isSame_ok {b q : BE} (hr : RulesOk rs E.ι) (hp : ∀ b ∈ pc, b.den E.ι = true) (h : isSame rs pc b q = true) : b.den E.ι = q.den E.ι := by
  unfold isSame at h
  split at h
  · rename_i t
    exact (truthR_sound hr hp (by simpa using h : truthR rs pc q = some t)).symm
  · simp only [Bool.or_eq_true, Bool.and_eq_true, decide_eq_true_eq] at h
    rcases h with (rfl | h) | ⟨h1, h2⟩
    · rfl
    · have := truthR_sound hr hp (by simpa using h : truthR rs pc (BE.mkSame b q) = some true)
      rw [BE.mkSame_den] at this
      simpa using this
    · cases hb : b.den E.ι with
      | true => exact (truthR_sound hr (fun c hc => (List.mem_cons.1 hc).elim (fun e => e ▸ hb) (hp c)) (by simpa using h1)).symm
      | false => exact (truthR_sound hr (fun c hc => (List.mem_cons.1 hc).elim (fun e => by rw [e, BE.mkNot_den, hb]; rfl) (hp c)) (by simpa using h2)).symm

theorem shRet_sound {w0 : World} {k : Nat} (hw : WR E B h w) (hr : RulesOk rs E.ι) (hp : ∀ b ∈ pc, b.den E.ι = true) (hnew : ∀ (b c : Nat) (x : RX) (t : TypeId) (ks : List CK) (m cc : IE), k ≤ b → h.bs[b]? = some (.row x t ks m cc) → E.ρ[b]? = some c → w0.heap.size ≤ c)
    {s : Sh} {v : AV} {θ : List Th} {z : Value} (ht : shRet rs pc h k s v = some θ) (hz : v.den E = some z) :
    (∀ t ∈ θ, t.upto E.ι.nv = true) ∧ shIs (RowNew w0 w) s z (θ.map (Th.fv E.ι)) := by
  unfold shRet at ht
  split at ht
  · simp only [Option.map_eq_some_iff] at ht
    obtain ⟨t, ht, rfl⟩ := ht
    obtain ⟨h1, h2⟩ := lfTh_sound hr hp ht hz
    exact ⟨fun t' ht' => (List.mem_singleton.1 ht') ▸ h1, _, rfl, h2⟩
  · obtain ⟨l, hl, rfl⟩ := denAgg hz
    obtain ⟨h1, h2⟩ := lfsTh_sound hr hp ht hl
    exact ⟨h1, l, rfl, h2⟩
  · injection ht with ht
    subst ht
    exact ⟨fun t ht => by simp only [List.mem_cons, List.not_mem_nil, or_false] at ht; rcases ht with rfl | rfl <;> rfl, denNilSlice hz, rfl⟩
  · rename_i t0 ks b z' q o n cap
    obtain ⟨⟨u0, u1, u2, u3⟩, ⟨g1, g2, g3⟩, c, hcb, rfl⟩ := denSl hz
    split at ht
    · rename_i x t' ks' m cc hbs
      split at ht
      · rename_i hc
        simp only [Bool.and_eq_true, decide_eq_true_eq] at hc
        obtain ⟨⟨⟨⟨⟨⟨⟨⟨rfl, rfl⟩, rfl⟩, rfl⟩, hz'⟩, hkb⟩, hmx⟩, hs1⟩, hs2⟩ := hc
        obtain rfl := Nat.eq_of_beq_eq_true hz'
        have hkb := Nat.le_of_ble_eq_true hkb
        injection ht with ht
        subst ht
        have hmx := leB_sound hr hp hmx
        simp only [IE.den] at hmx
        have hs1 := sameI_ok hr hp hs1
        have hs2 := sameI_ok hr hp hs2
        obtain ⟨ob, hob, c', fz, tail, rfl, hf, hcl, ⟨v1, v2, v3⟩, h4, h5, h6⟩ := hw.obj b c _ hcb hbs
        refine ⟨fun t ht => ?_, x.den E.ι, (n.den E.ι).toNat, ⟨c, (cap.den E.ι).toNat, tail, c', fz, ?_, by omega, by simp only [maxLen]; omega, hnew b c _ _ _ _ _ hkb hbs hcb, hob, hf, hcl, nat_of_mul h4 hs1.symm g2, nat_of_mul h5 hs2.symm (by omega), h6⟩, ?_⟩
        · simp only [List.mem_cons, List.not_mem_nil, or_false] at ht
          rcases ht with rfl | rfl
          · exact v1
          · exact u2
        · simp only [IE.den, Int.toNat_zero, Nat.zero_mul, Nat.add_zero]
        · simp only [List.map_cons, List.map_nil, Th.fv, Int.toNat_of_nonneg g2]
      · cases ht
    · cases ht
  · cases ht

theorem shsRet_sound {w0 : World} {k : Nat} (hw : WR E B h w) (hr : RulesOk rs E.ι) (hp : ∀ b ∈ pc, b.den E.ι = true) (hnew : ∀ (b c : Nat) (x : RX) (t : TypeId) (ks : List CK) (m cc : IE), k ≤ b → h.bs[b]? = some (.row x t ks m cc) → E.ρ[b]? = some c → w0.heap.size ≤ c) :
    ∀ {ss : List Sh} {vs : List AV} {θ : List Th} {zs : List Value}, shsRet rs pc h k ss vs = some θ → AV.denL E vs = some zs → (∀ t ∈ θ, t.upto E.ι.nv = true) ∧ shsIs (RowNew w0 w) ss zs (θ.map (Th.fv E.ι))
  | [], [], θ, zs, h, hz => by
    simp only [shsRet, Option.some.injEq] at h
    subst h
    simp only [AV.denL, Option.some.injEq] at hz
    subst hz
    exact ⟨fun t ht => (by cases ht), rfl, rfl⟩
  | [], _ :: _, θ, zs, h, hz => by cases h
  | _ :: _, [], θ, zs, h, hz => by cases h
  | s :: ss, v :: vs, θ, zs, ht, hz => by
    simp only [shsRet, Option.bind_eq_bind, Option.bind_eq_some_iff, Option.pure_def, Option.some.injEq] at ht
    obtain ⟨t, ht, r, hr', rfl⟩ := ht
    obtain ⟨z, zs', h1, h2, rfl⟩ := denL_cons.1 hz
    obtain ⟨a1, a2⟩ := shRet_sound hw hr hp hnew ht h1
    obtain ⟨b1, b2⟩ := shsRet_sound hw hr hp hnew hr' h2
    refine ⟨fun t' ht' => (List.mem_append.1 ht').elim (a1 t') (b1 t'), z, zs', _, _, rfl, ?_, a2, b2⟩
    rw [List.map_append]

theorem retTh_sound {w0 : World} {k : Nat} (hw : WR E B h w) (hr : RulesOk rs E.ι) (hp : ∀ b ∈ pc, b.den E.ι = true) (hnew : ∀ (b c : Nat) (x : RX) (t : TypeId) (ks : List CK) (m cc : IE), k ≤ b → h.bs[b]? = some (.row x t ks m cc) → E.ρ[b]? = some c → w0.heap.size ≤ c)
    {ss : List Sh} {v : AV} {θ : List Th} {z : Value} (ht : retTh rs pc h k ss v = some θ) (hz : v.den E = some z) : (∀ t ∈ θ, t.upto E.ι.nv = true) ∧ retIs (RowNew w0 w) ss z (θ.map (Th.fv E.ι)) := by
  unfold retTh at ht
  split at ht
  · exact shRet_sound hw hr hp hnew ht hz
  · rename_i vs hne
    obtain ⟨l, hl, rfl⟩ := denTuple hz
    obtain ⟨h1, h2⟩ := shsRet_sound hw hr hp hnew ht hl
    refine ⟨h1, ?_⟩
    unfold retIs
    split
    · rename_i s
      exact absurd rfl (hne s)
    · exact ⟨l, rfl, h2⟩
  · cases ht

/-- A run of a function of what is handed in. -/
def fnRun (P : Program) (dr : Bool) (kn : Kn) (fuel d : Nat) (c : Fs) (cfg : Cfg) (fs : List BE) : Bool :=
  match shsForm 0 (dns c.shs) 0 c.shs with
  | (as, os, ps, θ) =>
    match subAll θ c.pre with
    | some pre => fs.all (·.upto (dns c.shs + xns c.shs)) && okEnds os.length θ c (runCall P dr kn fuel d false c.f as (Hp.args os (dns c.shs + xns c.shs) cfg) (fs ++ (pre ++ ps)))
    | none => false

theorem fn_ok {dr : Bool} {kn : Kn} {fuel d : Nat} {c : Fs} {cfg : Cfg} {prd : Nat → List Int → List (List UInt8) → List (List Value) → Prop} (hN : plainNames P = true) (hK : Known P kn ⟨0, prd⟩)
    (hA : dr = true → ∀ call, CallOk P call ⟨0, prd⟩ → AnyOk P call ⟨0, prd⟩) (hR : ∀ ι : Unk, ι.prd = prd → RulesOk cfg.rules ι)
    {cs : List (List BE)} (hcs : ∀ ι : Unk, ι.prd = prd → (∀ qs, subAll (shsForm 0 (dns c.shs) 0 c.shs).2.2.2 c.pre = some qs → ∀ q ∈ qs, q.den ι = true) → (∀ p ∈ (shsForm 0 (dns c.shs) 0 c.shs).2.2.1, p.den ι = true) → ∃ fs ∈ cs, ∀ b ∈ fs, b.den ι = true)
    (h : ∀ fs ∈ cs, fnRun P dr kn fuel d c cfg fs = true) : FnOk P prd c := by
  intro ι hι w vs dd hvs hpre
  obtain ⟨xs, rs, os, hx, hrl, hol, hob, hF⟩ := shsForm_den hvs
  have hdl := shsIs_len hvs
  have hE : ∃ E : Env, E = ⟨rs, [], ⟨ι.num, ι.str, fun i => os[i]?, dd ++ xs, ι.prd⟩⟩ := ⟨_, rfl⟩
  obtain ⟨E, hE⟩ := hE
  have hEι : E.ι.prd = prd := by rw [hE]; exact hι
  have hnv : E.ι.nv = dns c.shs + xns c.shs := by rw [hE]; simp [Unk.nv, hdl, hx]
  have K := hF 0 (dns c.shs) 0 E (by
    rw [hE]
    exact ⟨fun j f hj => by simpa using get_left hj, fun j f hj => by rw [← hdl]; exact get_right hj, fun j c hj => by simpa using hj, fun j o hj => by simpa using hj⟩)
  obtain ⟨hbl, hbo⟩ := shsForm_len (ss := c.shs) (i := 0) (x := dns c.shs) (b := 0)
  obtain ⟨ff, hff, hfd⟩ := hcs E.ι hEι (fun qs hqs => by
    have q2 := (subAll_ok K.up hqs).2
    have hpl : E.ι.plug (shsForm 0 (dns c.shs) 0 c.shs).2.2.2 = ι.bare dd := by
      simp only [Unk.plug, K.d]
      rw [hE]
      rfl
    rw [hpl] at q2
    exact q2.2 hpre) (fun p hp => (K.ps p hp).2)
  have hrun := h ff hff
  unfold fnRun at hrun
  generalize hfo : shsForm 0 (dns c.shs) 0 c.shs = r at hrun K hbl hbo
  obtain ⟨as, bs, ps, θ⟩ := r
  simp only at hrun hbl hbo
  split at hrun
  · rename_i pre hpr
    simp only [Bool.and_eq_true] at hrun
    obtain ⟨hup, hrun⟩ := hrun
    have hθ := K.up
    simp only at hθ
    obtain ⟨q1, q2⟩ := subAll_ok hθ hpr
    have hplug : ∀ θ' : List Th, E.ι.plug (θ ++ θ') = ι.bare (dd ++ θ'.map (Th.fv E.ι)) := fun θ' => by
      have := K.d
      simp only at this
      simp only [Unk.plug, List.map_append, this]
      rw [hE]
      rfl
    have hplug0 : E.ι.plug θ = ι.bare dd := by
      have := hplug []
      simpa using this
    rw [hplug0] at q2
    have hpc : ∀ b ∈ ff ++ (pre ++ ps), b.holds E.ι := fun b hb => by
      rcases List.mem_append.1 hb with hb | hb
      · exact ⟨by rw [hnv]; exact List.all_eq_true.1 hup b hb, hfd b hb⟩
      · rcases List.mem_append.1 hb with hb | hb
        · exact ⟨q1 b hb, q2.2 hpre b hb⟩
        · exact K.ps b hb
    have hw : WR E ⟨0, prd⟩ (Hp.args bs (dns c.shs + xns c.shs) cfg) w := by
      refine ⟨?_, by rw [hE]; rfl, ?_, fun _ _ _ => Nat.zero_le _, ?_, Nat.zero_le _, ?_, ⟨fun i g hi => by simp [Hp.args] at hi, hnv, hR _ hEι, hEι⟩⟩
      · rw [hE]
        show rs.length = (Bl.nil ++ bs).length
        rw [appends_length]
        simp [Bl.length, Bl.nil, hbl, hrl]
      · intro i c1 o hc ho'
        rw [args_get] at ho'
        have hi : i < rs.length := by rw [hE] at hc; exact (List.getElem?_eq_some_iff.1 hc).1
        have hoi : os[i]? = some (os[i]'(by omega)) := List.getElem?_eq_getElem _
        exact ⟨_, hob i c1 _ (by rw [hE] at hc; exact hc) hoi, K.obj i o _ ho' hoi⟩
      · intro i j c1 o o' _ _ _ ho1 ho2 _ _
        rw [args_get] at ho1 ho2
        exact Or.inl ⟨hbo o (List.mem_of_getElem? ho1), hbo o' (List.mem_of_getElem? ho2)⟩
      · intro i o k ho1 hk
        rw [args_get] at ho1
        have := hbo o (List.mem_of_getElem? ho1)
        cases o <;> simp [AObj.only] at this
        simp [AObj.cls?] at hk
    unfold okEnds at hrun
    split at hrun
    · rename_i L hL
      refine Calls.mono ((runCall_sound hN hK fuel hA d).1 c.f as _ _ L hL E w vs hw hpc K.den) ?_
      rintro e w' ⟨x, E', hend, hxL, hxt, hxp⟩
      have hok := List.all_eq_true.1 hrun x hxL
      obtain ⟨v, h', pc'⟩ := x
      simp only at hend hxt hxp
      unfold okEnd at hok
      simp only [Bool.or_eq_true, Bool.and_eq_true] at hok
      have hr' := hxt.wr.giv.rules
      rcases hok with hdead | ⟨⟨hkeep, hpan⟩, hok⟩
      · exact (dead_sound hr' (holds_den hxp) hdead).elim
      obtain ⟨z, rfl, hz⟩ : ∃ z, e = .returned z ∧ v.den E' = some z := by
        rcases hend with h0 | ⟨y, x, hy, _⟩
        · exact h0
        · rw [hy] at hpan; cases hpan
      have hρl : E.ρ.length = bs.length := by rw [hE]; show rs.length = _; omega
      have hbelow : Below w.heap.size w w' := by
        refine ⟨hxt.fr.os, hxt.fr.tape, hxt.fr.output, hxt.fr.size, fun c1 hc1 => ?_⟩
        by_cases hg : ∃ b : Nat, E.ρ[b]? = some c1
        · obtain ⟨b, hb⟩ := hg
          have hblt := (List.getElem?_eq_some_iff.1 hb).1
          obtain ⟨r, t, ks, n, q, hbs⟩ := keepsG_get hkeep (by omega : b < bs.length)
          obtain ⟨ob, ho1, ho2, _⟩ := hxt.wr.obj b c1 _ (hxt.le.ρ b c1 hb) hbs
          rw [hE] at hb hblt
          obtain ⟨y, hoi⟩ : ∃ y, os[b]? = some y := ⟨_, List.getElem?_eq_getElem (by simp only at hblt; omega)⟩
          have h5 := hob b c1 _ hb hoi
          have h6 : E.ι.obj b = some y := by rw [hE]; exact hoi
          rw [hxt.le.ι.obj, h6] at ho2
          rw [ho1, h5, ← ho2]
        · exact hxt.fr.block c1 hc1 (fun b hb => hg ⟨b, hb⟩)
      refine ⟨z, rfl, hbelow, ?_⟩
      have hle := hxt.le.ι
      have hθ' : ∀ t ∈ θ, t.upto E'.ι.nv = true := fun t ht => by
        have := hθ t ht
        cases t with
        | num e => exact IE.below_le hle.nv this
        | row e => exact RX.below_le hle.nv this
        | txt e => exact TX.below_le hle.nv this
      have hmap : θ.map (Th.fv E'.ι) = dd := by
        rw [← K.d]
        exact List.map_congr_left fun t ht => by
          have := hθ t ht
          cases t with
          | num e => simp only [Th.fv, IE.den_le hle this]
          | row e => simp only [Th.fv, RX.den_le hle this]
          | txt e => simp only [Th.fv, TX.den_le hle this]
      have hplug' : ∀ θ' : List Th, E'.ι.plug (θ ++ θ') = ι.bare (dd ++ θ'.map (Th.fv E'.ι)) := fun θ' => by
        simp only [Unk.plug, List.map_append, hmap, Unk.bare, hle.num, hle.str, hle.prd]
        rw [hE]
      unfold Gives
      split at hok
      · rename_i p hres
        simp only [hres]
        split at hok
        · rename_i b q hq
          have := isSame_ok hr' (holds_den hxp) hok
          rw [denBool hz, this, BE.sub_den (ι := E'.ι) hq]
          have h0 := hplug' []
          simp only [List.append_nil, List.map_nil] at h0
          rw [h0]
        · cases hok
      · rename_i hres
        simp only [hres]
        obtain ⟨a, ha, hok⟩ := List.any_eq_true.1 hok
        split at hok
        · rename_i θ' hret
          split at hok
          · rename_i qs hqs
            obtain ⟨r1, r2⟩ := retTh_sound (w0 := w) hxt.wr hr' (holds_den hxp) (fun b c1 x t ks m cc hkb hbs hb => by
              rcases hxt.fr.fresh b c1 hb with ⟨b0, h0⟩ | h0
              · exfalso
                have hlt := (List.getElem?_eq_some_iff.1 h0).1
                obtain ⟨r, t', ks', n, q, hbs0⟩ := keepsG_get hkeep (by omega : b0 < bs.length)
                rcases hxt.wr.inj b b0 c1 _ _ (by omega) hb (hxt.le.ρ b0 c1 h0) hbs hbs0 (fun e => by cases e) (fun e => by cases e) with ⟨h, _⟩ | ⟨_, h⟩
                · cases h
                · cases h
              · exact h0) hret hz
            refine ⟨a, ha, θ'.map (Th.fv E'.ι), r2, ?_⟩
            obtain ⟨s1, s2⟩ := subAll_ok (fun t ht => (List.mem_append.1 ht).elim (hθ' t) (r1 t)) hqs
            rw [hplug'] at s2
            refine s2.1 fun q hq => ?_
            have := List.all_eq_true.1 hok q hq
            exact truthR_sound hr' (holds_den hxp) (by simpa using this)
          · cases hok
        · cases hok
    · cases hrun
  · cases hrun

theorem cov_one {ι : Unk} {p : Prop} (_ : p) : ∃ fs ∈ [([] : List BE)], ∀ b ∈ fs, b.den ι = true := ⟨[], List.mem_cons_self, fun b hb => by cases hb⟩

end
end Go.Sx
