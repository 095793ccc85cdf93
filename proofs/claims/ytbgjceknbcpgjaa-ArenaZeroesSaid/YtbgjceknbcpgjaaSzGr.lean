/-
  A WALKER THAT COMPUTES: rows that grow.
-/
import Derived.Test.YtbgjceknbcpgjaaSzAp
import Derived.Lib.DecodeN
namespace Go.Sx

section
variable {P : Program} {E : Env} {D : Nat → Prop} {σ : St} {a : Act} {B : Bd} {h : Hp} {w : World} {pc : List BE} {rs : List Rule}

theorem rowX_sound (hw : WR E B h w) {b c : Nat} {x : RX} {ks : List CK} {n q : IE} (hb : E.ρ[b]? = some c) (hr : rowX h b = some (x, ks, n, q)) :
    ∃ (c' : Array Value) (t : TypeId) (fz : Nat × Nat) (pre tail : List Value), w.heap[c]? = some (.cells c' t fz) ∧ (c'.toList = pre ++ (x.den E.ι ++ tail) ∧ (x.den E.ι ≠ [] → pre.length = (q.den E.ι).toNat)) ∧ (x.upto E.ι.nv = true ∧ n.upto E.ι.nv = true ∧ q.upto E.ι.nv = true) ∧
      ((x.den E.ι).length : Int) = n.den E.ι * ks.length ∧ ∀ (i : Nat) (k : CK) (v : Value), ks[i % ks.length]? = some k → (x.den E.ι)[i]? = some v → k.ok v := by
  unfold rowX at hr
  split at hr
  · rename_i r' t ks' n' c0 hbs
    injection hr with hr
    simp only [Prod.mk.injEq] at hr
    obtain ⟨rfl, rfl, rfl, rfl⟩ := hr
    obtain ⟨ob, hob, c', fz, tail, rfl, _, hc, ⟨h1, h2, _⟩, h4, _, h6⟩ := hw.obj b c _ hb hbs
    exact ⟨c', t, fz, [], tail, hob, ⟨hc, fun _ => rfl⟩, ⟨h1, h2, rfl⟩, h4, h6⟩
  · rename_i r' t ks' n' i q' hbs
    injection hr with hr
    simp only [Prod.mk.injEq] at hr
    obtain ⟨rfl, rfl, rfl, rfl⟩ := hr
    obtain ⟨ob, hob, _, te, c', fz, pre, tail, rfl, hc, ⟨h1, h2, h3⟩, h4, h6⟩ := hw.obj b c _ hb hbs
    exact ⟨c', te, fz, pre, tail, hob, hc, ⟨blt_iff.2 h1, h2, h3⟩, h4, h6⟩
  · cases hr

theorem nat_of_mul {a b : Int} {m z : Nat} (h : (m : Int) = a * z) (ha : a = b) (hb : 0 ≤ b) : m = b.toNat * z := by
  subst ha
  have : (m : Int) = ((a.toNat * z : Nat) : Int) := by
    rw [Int.natCast_mul, Int.toNat_of_nonneg hb]; exact h
  exact Int.ofNat.inj this

theorem toNat_lin {a : Int} (h : 0 ≤ a) (z : Nat) : (a * z + (0 : Nat)).toNat = a.toNat * z := by
  obtain ⟨k, rfl⟩ := Int.eq_ofNat_of_zero_le h
  rw [Int.natCast_zero, Int.add_zero, ← Int.natCast_mul, Int.toNat_natCast, Int.toNat_natCast]

theorem freshs_ext (hw : WR E B h w) (fs : List Fv) : Ext E B w ⟨E.ρ, E.κ, { E.ι with fv := E.ι.fv ++ fs }⟩ { h with giv := { h.giv with nv := h.giv.nv + fs.length } } w := by
  have hle : E.Le ⟨E.ρ, E.κ, { E.ι with fv := E.ι.fv ++ fs }⟩ := ⟨⟨rfl, rfl, rfl, rfl, fun i u hi => by
    show (E.ι.fv ++ fs)[i]? = some u
    rw [List.getElem?_append_left (List.getElem?_eq_some_iff.1 hi).1]
    exact hi⟩, fun _ _ h => h, fun _ _ h => h⟩
  refine ⟨hle, ⟨hw.lenρ, hw.lenκ, fun b c o hb ho => ?_, hw.base, hw.inj, hw.bsize, hw.cls, ⟨hw.giv.spot, ?_, hw.giv.rules.le hle.ι, hw.giv.prd⟩⟩, ⟨rfl, rfl, rfl, Nat.le_refl _, fun _ _ _ => rfl, fun b c hb => Or.inl ⟨b, hb⟩⟩⟩
  · obtain ⟨ob, h1, h2⟩ := hw.obj b c o hb ho
    exact ⟨ob, h1, h2.mono hle⟩
  · have := hw.giv.nv
    simp only [Unk.nv] at this ⊢
    simp [this]


/-- A part of a row, as it lies. -/
theorem partX_sound (hr : RulesOk rs E.ι) (hp : ∀ b ∈ pc, b.den E.ι = true) {z : Nat} {x r : RX} {o n m : IE} {ks : List CK} (h : partX rs pc z x o n m = some r) (g1 : 0 ≤ o.den E.ι) (g2 : 0 ≤ n.den E.ι) (u1 : o.upto E.ι.nv = true) (u2 : n.upto E.ι.nv = true) (v1 : x.upto E.ι.nv = true) (hz : z = ks.length)
    (hlen : ((x.den E.ι).length : Int) = m.den E.ι * ks.length) (hk : ∀ (i : Nat) (k : CK) (v : Value), ks[i % ks.length]? = some k → (x.den E.ι)[i]? = some v → k.ok v) :
    r.upto E.ι.nv = true ∧ (r.den E.ι).length = (n.den E.ι).toNat * z ∧ (∃ pre post, x.den E.ι = pre ++ (r.den E.ι ++ post) ∧ pre.length = (o.den E.ι).toNat * z) ∧ ∀ (i : Nat) (k : CK) (v : Value), ks[i % ks.length]? = some k → (r.den E.ι)[i]? = some v → k.ok v := by
  subst hz
  unfold partX at h
  split at h
  · rename_i hc
    simp only [Bool.and_eq_true, decide_eq_true_eq] at hc
    obtain ⟨rfl, hs⟩ := hc
    injection h with h
    subst h
    have hs := sameI_ok hr hp hs
    exact ⟨v1, nat_of_mul hlen hs.symm g2, ⟨[], [], by simp, by simp [IE.den]⟩, hk⟩
  · split at h
    · rename_i hle
      injection h with h
      subst h
      have hle := leB_sound hr hp hle
      rw [plus_den] at hle
      have hm0 : 0 ≤ m.den E.ι := by omega
      have hL := nat_of_mul hlen rfl hm0
      have hon : ((o.den E.ι).toNat + (n.den E.ι).toNat) * ks.length ≤ (x.den E.ι).length := by
        rw [hL]; exact Nat.mul_le_mul_right _ (by omega)
      rw [Nat.add_mul] at hon
      have ho : ((IE.mkLin o ks.length 0).den E.ι).toNat = (o.den E.ι).toNat * ks.length := by
        rw [mkLin_den]; exact toNat_lin g1 _
      have hn : ((IE.mkLin n ks.length 0).den E.ι).toNat = (n.den E.ι).toNat * ks.length := by
        rw [mkLin_den]; exact toNat_lin g2 _
      have hd : (RX.sub x (IE.mkLin o ks.length 0) (IE.mkLin n ks.length 0)).den E.ι = ((x.den E.ι).drop ((o.den E.ι).toNat * ks.length)).take ((n.den E.ι).toNat * ks.length) := by
        simp only [RX.den, ho, hn]
      rw [hd]
      refine ⟨by simp only [RX.upto, v1, mkLin_below u1, mkLin_below u2, Bool.and_self], by rw [List.length_take, List.length_drop]; omega,
        ⟨(x.den E.ι).take ((o.den E.ι).toNat * ks.length), ((x.den E.ι).drop ((o.den E.ι).toNat * ks.length)).drop ((n.den E.ι).toNat * ks.length), by rw [List.take_append_drop, List.take_append_drop], by rw [List.length_take]; omega⟩, ?_⟩
      intro i k v hi hv
      have hlt := (List.getElem?_eq_some_iff.1 hv).1
      rw [List.length_take, List.length_drop] at hlt
      rw [List.getElem?_take, if_pos (by omega), List.getElem?_drop] at hv
      refine hk _ k v ?_ hv
      rw [Nat.mul_comm, Nat.mul_add_mod]
      exact hi
    · cases h

theorem newOf_sound (hw : WR E B h w) (hr : RulesOk rs E.ι) (hp : ∀ b ∈ pc, b.den E.ι = true) {ts : Array TypeId} {ty st xt e : TypeId} {i : TypeInfo} {zv : Value} {x zz : AV} {xv : Value} {z y : Nat} {ks : List CK} {rx : RX} {k : IE}
    (hn : newOf P rs pc h xt x z y zz ks = some (rx, k)) (hxv : x.den E = some xv) (h0 : ts[0]? = some st) (h1 : ts[1]? = some xt) (hd : P.underlying st = some (.slice e)) (hi : P.info? e = some i) (hzv : i.zero = some zv) (hiz : i.size = z) (hiy : i.bytes = y)
    (hzd : AV.denL E zz.cells = some zv.cells.toList) (hzl : zz.cells.length = z) (hks : ks.length = z) (hz0 : z ≠ 0) :
    rx.upto E.ι.nv = true ∧ k.upto E.ι.nv = true ∧ 0 ≤ k.den E.ι ∧ (rx.den E.ι).length = (k.den E.ι).toNat * z ∧ (∀ (i : Nat) (c : CK) (v : Value), ks[i % ks.length]? = some c → (rx.den E.ι)[i]? = some v → c.ok v) ∧
      AppOk P ts ty e i zv w xv (k.den E.ι).toNat (rx.den E.ι) := by
  unfold newOf at hn
  split at hn
  · rename_i b z' q o n c
    split at hn
    · rename_i e' hxd
      simp only [Option.bind_eq_bind, Option.bind_eq_some_iff] at hn
      obtain ⟨⟨rx0, ks', m, q'⟩, hro, hn⟩ := hn
      simp only at hn
      split at hn
      · rename_i hc
        simp only [Bool.and_eq_true, decide_eq_true_eq] at hc
        obtain ⟨⟨rfl, rfl⟩, hz'⟩ := hc
        obtain rfl := Nat.eq_of_beq_eq_true hz'
        simp only [Option.map_eq_some_iff, Prod.mk.injEq] at hn
        obtain ⟨r, hpx, rfl, rfl⟩ := hn
        obtain ⟨⟨u0, u1, u2, u3⟩, ⟨g1, g2, g3⟩, cc, hcb, rfl⟩ := denSl hxv
        obtain ⟨c', te, fz, pre, tail, hob, ⟨hc1, hc2⟩, ⟨v1, v2, v3⟩, hlen, hk⟩ := rowX_sound hw hcb hro
        obtain ⟨p1, p2, ⟨pr, po, p3, p4⟩, p5⟩ := partX_sound hr hp hpx g1 g2 u1 u2 v1 hks.symm hlen hk
        have hcells : ∀ (j : Nat) (v : Value), (r.den E.ι)[j]? = some v → w.cell? ⟨cc, (q.den E.ι).toNat + (o.den E.ι).toNat * z' + j, none⟩ = some v := fun j v hj => by
          have hx0 : rx0.den E.ι ≠ [] := fun e0 => by
            rw [e0] at p3
            have h1 := congrArg List.length p3
            have h2 := (List.getElem?_eq_some_iff.1 hj).1
            simp at h1
            omega
          rw [cell_of_row w cc _ c' te fz hob, ← Array.getElem?_toList, hc1, List.getElem?_append_right (by rw [hc2 hx0]; omega), hc2 hx0, p3, List.append_assoc, List.getElem?_append_right (by rw [p4]; omega), p4, List.append_assoc,
            show (q.den E.ι).toNat + (o.den E.ι).toNat * z' + j - (q.den E.ι).toNat - (o.den E.ι).toNat * z' = j by omega, List.getElem?_append_left (List.getElem?_eq_some_iff.1 hj).1]
          exact hj
        have hnew : ∀ w2 : World, w2.heap = w.heap → (Builtin.firstCells i.size (n.den E.ι).toNat (.slice (some ⟨cc, (q.den E.ι).toNat + (o.den E.ι).toNat * z', none⟩) (n.den E.ι).toNat (c.den E.ι).toNat)).run P w2 = .ok (r.den E.ι).toArray w2 := fun w2 hw2 => by
          have hcl := run_loadCells_list (P := P) w2 ⟨cc, (q.den E.ι).toNat + (o.den E.ι).toNat * z', none⟩ (r.den E.ι) (fun j v hj => by
            rw [Addr.add_lit]
            have := hcells j v hj
            simpa [World.cell?, hw2] using this)
          rw [p2] at hcl
          rw [hiz]
          simpa [Builtin.firstCells] using hcl
        have hlenw : ∀ w2 : World, (Builtin.lenOf (.slice (some ⟨cc, (q.den E.ι).toNat + (o.den E.ι).toNat * z', none⟩) (n.den E.ι).toNat (c.den E.ι).toNat)).run P w2 = .ok (n.den E.ι).toNat w2 := fun _ => rfl
        refine ⟨p1, u2, g2, p2, p5, ⟨fun hold hfit hsmall hb => append_grow h0 h1 hd hxd rfl hi hzv hlenw (hnew w.drew rfl) hold hfit hsmall hb, fun hfit hs => append_fits h0 h1 hd hxd rfl hi hlenw (hnew w rfl) hfit (by simpa using hs), fun h0' => ?_⟩⟩
        have hnew0 := hnew w rfl
        rw [h0'] at hnew0 hlenw ⊢
        exact append_none h0 h1 hd hxd rfl hi (hlenw) hnew0
      · cases hn
    · cases hn
  · simp only [Option.bind_eq_bind, Option.bind_eq_some_iff] at hn
    obtain ⟨⟨k', new⟩, hparts, vs, hvs, hn⟩ := hn
    simp only at hn
    split at hn
    · rename_i hc
      simp only [Bool.and_eq_true, decide_eq_true_eq] at hc
      obtain ⟨hc1, hc2⟩ := hc
      injection hn with hn
      simp only [Prod.mk.injEq] at hn
      obtain ⟨rfl, rfl⟩ := hn
      obtain ⟨nl, hnld, hap⟩ := partsA_sound (P := P) (ty := ty) hw hparts hxv h0 h1 hd hi hzv hiz hiy hzd hzl
      obtain ⟨l1, l2, l3⟩ := litsOf_sound hr hp hvs hnld
      have hden : (RX.lits vs).den E.ι = nl := by simp only [RX.den, l1]
      have hll : nl.length = k' * z := by rw [denL_length hnld, hc1]
      rw [hden]
      refine ⟨l2, rfl, by simp only [IE.den]; omega, by simpa only [IE.den, Int.toNat_natCast] using hll, fun j c v hj hv => ?_, by simpa only [IE.den, Int.toNat_natCast] using hap⟩
      have hjl := (List.getElem?_eq_some_iff.1 hv).1
      refine l3 j c v ?_ hv
      rw [hc2, flatten_get ks k' _ (by rw [hks]; omega)]
      exact hj
    · cases hn

/-- A block of which nothing is said any more. -/
theorem free_ext (hw : WR E B h w) {b c : Nat} {o : AObj} {ob : Obj} {w' : World} (hb : E.ρ[b]? = some c) (hbs : h.bs[b]? = some o) (hof : o ≠ .free) (hon : o.only = false) (hno : o.cls? = none)
    (hg : w'.heap[c]? = some ob) (ho : ∀ k, k ≠ c → w'.heap[k]? = w.heap[k]?) (hsz : w'.heap.size = w.heap.size) (h1 : w'.os = w.os) (h2 : w'.tape = w.tape) (h3 : w'.output = w.output) :
    Ext E B w E { h with bs := h.bs.set b .free } w' ∧ ∀ (b' : Nat) (o' : AObj), E.ρ[b']? = some c → ({ h with bs := h.bs.set b .free } : Hp).bs[b']? = some o' → o' = .free := by
  refine ⟨setRow_ext hw hb hbs hof hon hno rfl trivial hg ho hsz h1 h2 h3, fun b' o' hb' ho' => ?_⟩
  simp only [Bl.getElem?_set] at ho'
  split at ho'
  · rename_i e
    try rw [if_pos (Bl.lt_of_get hbs)] at ho'
    injection ho' with ho'
    exact ho'.symm
  · rename_i hne
    by_cases hf : o' = .free
    · exact hf
    exfalso
    rcases hw.inj b b' c o o' hne hb hb' hbs ho' hof hf with ⟨hon', _⟩ | this
    · rw [hon] at hon'; cases hon'
    · rw [hno] at this
      simp at this

/-- A block that came up on the way, or where nothing was said of it any more. -/
theorem place_ext {E1 : Env} {h1 : Hp} {w' : World} (hx : Ext E B w E1 h1 w') {c : Nat} {o : AObj} {ob : Obj} (hc : w.heap.size ≤ c ∨ ∃ b0 : Nat, E.ρ[b0]? = some c) (hB : B.n ≤ c) (hρ : ∀ (b : Nat) (o' : AObj), E1.ρ[b]? = some c → h1.bs[b]? = some o' → o' = .free) (hcl : o.cls? = none) (hob : w'.heap[c]? = some ob)
    (hr : ORel ⟨E1.ρ ++ [c], E1.κ, E1.ι⟩ o ob) : Ext E B w ⟨E1.ρ ++ [c], E1.κ, E1.ι⟩ { h1 with bs := h1.bs ++ [o] } w' := by
  have hw := hx.wr
  have hle : E1.Le ⟨E1.ρ ++ [c], E1.κ, E1.ι⟩ := ⟨.refl _, fun b c' hb => by
      simp only [ext_get]
      rw [if_neg (by have := (List.getElem?_eq_some_iff.1 hb).1; omega)]
      exact hb, fun _ _ h => h⟩
  have hget : ∀ (b c' : Nat), (E1.ρ ++ [c])[b]? = some c' → (b = h1.bs.length ∧ c' = c) ∨ (b < h1.bs.length ∧ E1.ρ[b]? = some c') := fun b c' hb => by
    rw [ext_get] at hb
    split at hb
    · rename_i e
      injection hb with hb
      exact Or.inl ⟨by rw [e, hw.lenρ], hb.symm⟩
    · exact Or.inr ⟨by rw [← hw.lenρ]; exact (List.getElem?_eq_some_iff.1 hb).1, hb⟩
  refine ⟨hx.le.trans hle, ⟨by simp [hw.lenρ], hw.lenκ, ?_, ?_, ?_, hw.bsize, ?_, hw.giv.ext hle.ρ rfl⟩, ⟨hx.fr.os, hx.fr.tape, hx.fr.output, hx.fr.size, hx.fr.block, ?_⟩⟩
  · intro b c' o' hb ho
    rcases hget b c' hb with ⟨rfl, rfl⟩ | ⟨hlt, hb'⟩
    · simp only [Bl.getElem?_append_self] at ho
      injection ho with ho
      subst ho
      exact ⟨ob, hob, hr⟩
    · simp only [Bl.getElem?_append_left hlt] at ho
      obtain ⟨y, hy, hrel⟩ := hw.obj b c' o' hb' ho
      exact ⟨y, hy, hrel.mono hle⟩
  · intro b c' hb
    rcases hget b c' hb with ⟨_, rfl⟩ | ⟨_, hb'⟩
    · exact hB
    · exact hw.base b c' hb'
  · intro b b' c' o1 o2 hne hb hb' ho ho' hf1 hf2
    rcases hget b c' hb with ⟨rfl, rfl⟩ | ⟨hlt, hb1⟩
    · rcases hget b' _ hb' with ⟨rfl, _⟩ | ⟨hlt', hb2⟩
      · exact absurd rfl hne
      · simp only [Bl.getElem?_append_left hlt'] at ho'
        exact absurd (hρ b' o2 hb2 ho') hf2
    · rcases hget b' _ hb' with ⟨rfl, e⟩ | ⟨hlt', hb2⟩
      · subst e
        simp only [Bl.getElem?_append_left hlt] at ho
        exact absurd (hρ b o1 hb1 ho) hf1
      · simp only [Bl.getElem?_append_left hlt] at ho
        simp only [Bl.getElem?_append_left hlt'] at ho'
        exact hw.inj b b' c' o1 o2 hne hb1 hb2 ho ho' hf1 hf2
  · intro b o' k ho hk
    simp only [Bl.getElem?_append] at ho
    split at ho
    · injection ho with ho
      subst ho
      rw [hcl] at hk
      cases hk
    · simpa using hw.cls b o' k ho hk
  · intro b c' hb
    rcases hget b c' hb with ⟨_, rfl⟩ | ⟨_, hb'⟩
    · rcases hc with hc | ⟨b0, h0⟩
      · exact Or.inr hc
      · exact Or.inl ⟨b0, h0⟩
    · exact hx.fr.fresh b c' hb'

/-- A grown row lies at 'c': what is known behind. -/
theorem grow_end {w' : World} {h1 : Hp} {c cap : Nat} {L tail : List Value} {e : TypeId} {fz : Nat × Nat} {c' : Array Value} {rx : RX} {k : IE} {ks : List CK} (hw : WR E B h w) (hx : Ext E B w E h1 w') (hgiv : h1.giv = h.giv) (hnk : h1.nk = h.nk) (_hl : h1.bs.length = h.bs.length)
    (hc : w.heap.size ≤ c ∨ ∃ b0 : Nat, E.ρ[b0]? = some c) (hB : B.n ≤ c) (hρ : ∀ (b : Nat) (o' : AObj), E.ρ[b]? = some c → h1.bs[b]? = some o' → o' = .free) (hob : w'.heap[c]? = some (.cells c' e fz)) (hf : ∀ i, i < c'.size → (fz.1 = fz.2 ∨ i < fz.1))
    (hL : rx.den E.ι = L) (hcl : c'.toList = L ++ tail) (hll : L.length = (k.den E.ι).toNat * ks.length) (hk0 : 0 ≤ k.den E.ι) (hcs : c'.size = cap * ks.length) (hcap : (k.den E.ι).toNat ≤ cap) (ux : rx.upto E.ι.nv = true) (uk : k.upto E.ι.nv = true)
    (hkk : ∀ (i : Nat) (q : CK) (v : Value), ks[i % ks.length]? = some q → L[i]? = some v → q.ok v) :
    ∃ E', (AV.sl h.bs.length ks.length (.lit 0) (.lit 0) k (.fv (h.giv.nv + 1))).den E' = some (.slice (some ⟨c, 0, none⟩) (k.den E.ι).toNat cap) ∧
      (∀ f ∈ ([BE.isrow h.giv.nv rx, BE.not (BE.cmp .lss (.fv (h.giv.nv + 1)) k), BE.rlen (.row h.giv.nv) (IE.mkLin k ks.length 0)] : List BE), f.holds E'.ι) ∧
      Ext E B w E' { bs := h1.bs ++ [AObj.row (.row h.giv.nv) e ks k (.fv (h.giv.nv + 1))], nk := h.nk, giv := { h.giv with nv := h.giv.nv + 2 } } w' := by
  have hnv : E.ι.fv.length = h.giv.nv := hw.giv.nv
  have x2 := hx.trans (freshs_ext hx.wr [({ r := L } : Fv), { n := (cap : Nat) }])
  have hle := x2.le.ι
  have f0 : (E.ι.fv ++ [({ r := L } : Fv), { n := (cap : Nat) }])[h.giv.nv]? = some { r := L } := by
    rw [← hnv]; simp
  have f1 : (E.ι.fv ++ [({ r := L } : Fv), { n := (cap : Nat) }])[h.giv.nv + 1]? = some { n := (cap : Nat) } := by
    rw [← hnv, List.getElem?_append_right (by omega), Nat.add_sub_cancel_left]; rfl
  have u0 : Nat.blt h.giv.nv (Unk.nv { E.ι with fv := E.ι.fv ++ [({ r := L } : Fv), { n := (cap : Nat) }] }) = true := blt_iff.2 (List.getElem?_eq_some_iff.1 f0).1
  have u1 : Nat.blt (h.giv.nv + 1) (Unk.nv { E.ι with fv := E.ι.fv ++ [({ r := L } : Fv), { n := (cap : Nat) }] }) = true := blt_iff.2 (List.getElem?_eq_some_iff.1 f1).1
  have r0 : Unk.fr { E.ι with fv := E.ι.fv ++ [({ r := L } : Fv), { n := (cap : Nat) }] } h.giv.nv = L := by simp only [Unk.fr, f0]; rfl
  have n1 : Unk.fn { E.ι with fv := E.ι.fv ++ [({ r := L } : Fv), { n := (cap : Nat) }] } (h.giv.nv + 1) = (cap : Int) := by simp only [Unk.fn, f1]; rfl
  have kd : k.den { E.ι with fv := E.ι.fv ++ [({ r := L } : Fv), { n := (cap : Nat) }] } = k.den E.ι := IE.den_le hle uk
  have ku : k.upto (Unk.nv { E.ι with fv := E.ι.fv ++ [({ r := L } : Fv), { n := (cap : Nat) }] }) = true := IE.below_le hle.nv uk
  have xd : rx.den { E.ι with fv := E.ι.fv ++ [({ r := L } : Fv), { n := (cap : Nat) }] } = L := by rw [RX.den_le hle ux]; exact hL
  have xu : rx.upto (Unk.nv { E.ι with fv := E.ι.fv ++ [({ r := L } : Fv), { n := (cap : Nat) }] }) = true := RX.below_le hle.nv ux
  have x3 := place_ext (o := .row (.row h.giv.nv) e ks k (.fv (h.giv.nv + 1))) x2 hc hB hρ rfl hob ⟨c', fz, tail, rfl, hf, by simp only [RX.den, r0]; exact hcl, ⟨by simpa only [RX.upto] using u0, ku, by simpa only [IE.upto] using u1⟩,
    by simp only [RX.den, r0, kd, hll, Int.natCast_mul, Int.toNat_of_nonneg hk0], by simp only [IE.den, n1, hcs, Int.natCast_mul], by simp only [RX.den, r0]; exact hkk⟩
  have hlen : ({ h1 with giv := { h1.giv with nv := h1.giv.nv + [({ r := L } : Fv), { n := (cap : Nat) }].length } } : Hp) = { bs := h1.bs, nk := h.nk, giv := { h.giv with nv := h.giv.nv + 2 } } := by
    rw [hgiv, hnk]; rfl
  rw [hlen] at x3
  refine ⟨_, ?_, fun f hf => ?_, x3⟩
  · have hb : (E.ρ ++ [c])[h.bs.length]? = some c := by rw [ext_get, if_pos hw.lenρ.symm]
    simp only [AV.den]
    rw [if_pos ⟨by simp only [ku, IE.upto, u1, Bool.and_self], by simp only [IE.den]; omega, by rw [kd]; exact hk0, by rw [kd]; simp only [IE.den, n1]; omega⟩, hb]
    simp only [IE.den, n1, kd, Option.map_some, Int.toNat_zero, Nat.zero_mul, Nat.add_zero, Int.toNat_natCast]
  · simp only [List.mem_cons, List.not_mem_nil, or_false] at hf
    rcases hf with rfl | rfl | rfl
    · refine ⟨by simp only [BE.upto, u0, xu, Bool.and_self], ?_⟩
      simp only [BE.den, decide_eq_true_eq]
      rw [xd]
      exact r0
    · refine ⟨by simp only [BE.upto, IE.upto, u1, ku, Bool.and_self], ?_⟩
      simp only [BE.den, intCmp, IE.den, n1, kd, Option.getD_some, Bool.not_eq_true', decide_eq_false_iff_not]
      omega
    · refine ⟨by simp only [BE.upto, RX.upto, u0, mkLin_below ku, Bool.and_self], ?_⟩
      simp only [BE.den, RX.den, r0, mkLin_den, kd, hll, Int.natCast_mul, Int.toNat_of_nonneg hk0, decide_eq_true_eq]
      omega

theorem kinds_cat {ks : List CK} {L M : List Value} {n : Nat} (hl : L.length = n * ks.length) (h1 : ∀ (i : Nat) (q : CK) (v : Value), ks[i % ks.length]? = some q → L[i]? = some v → q.ok v) (h2 : ∀ (i : Nat) (q : CK) (v : Value), ks[i % ks.length]? = some q → M[i]? = some v → q.ok v) :
    ∀ (i : Nat) (q : CK) (v : Value), ks[i % ks.length]? = some q → (L ++ M)[i]? = some v → q.ok v := by
  intro i q v hi hv
  by_cases hlt : i < L.length
  · rw [List.getElem?_append_left hlt] at hv
    exact h1 i q v hi hv
  · rw [List.getElem?_append_right (by omega)] at hv
    refine h2 (i - L.length) q v ?_ hv
    rw [← hi]
    congr 1
    have : i = (i - n * ks.length) + n * ks.length := by omega
    conv => rhs; rw [this]
    rw [Nat.add_mul_mod_self_right, hl]

theorem symGrow_sound (hSl : Slots E D σ.tmps a) (hw : WR E B σ.h w) (hp : ∀ b ∈ σ.pc, b.den E.ι = true) {o : Oper} (hc : ∀ x ∈ o.op.operands, Clear D x) {σ' : St} (h : symGrow P σ o = some σ') :
    ∃ (E' : Env) (h' : Hp) (fs : List BE) (v : AV) (x : Value) (w' : World), σ' = { σ with h := h', pc := fs ++ σ.pc }.put o.dst v ∧ (execOp a.eval o).run P w = .ok (.value x) w' ∧ v.den E' = some x ∧ (∀ f ∈ fs, f.holds E'.ι) ∧ Ext E B w E' h' w' := by
  have hr := hw.giv.rules
  obtain ⟨dst, op, type, pos, after, guard⟩ := o
  unfold symGrow at h
  simp only at h hc
  split at h
  · rename_i args ts
    split at h
    · cases h
    simp only [Option.bind_eq_bind, Option.bind_eq_some_iff] at h
    obtain ⟨st, hst, xt, hxt, h⟩ := h
    split at h
    · rename_i e hd
      simp only [Option.bind_eq_some_iff] at h
      obtain ⟨z, hz, y, hy, zz, hzz, cs, hcs, h⟩ := h
      split at h
      · cases h
      rename_i hcond
      simp only [Bool.not_eq_true', Bool.not_eq_false, Bool.and_eq_true, decide_eq_true_eq] at hcond
      obtain ⟨⟨c1, c2⟩, c3⟩ := hcond
      simp only [Option.bind_eq_some_iff] at h
      obtain ⟨xs, hxs, h⟩ := h
      have hl := callArgs (c := ⟨.builtin .append, args, ts⟩) hSl rfl hc hxs
      split at h
      · rename_i s x
        simp only [Option.bind_eq_some_iff] at h
        obtain ⟨⟨rx, k⟩, hnew, h⟩ := h
        simp only at h
        obtain ⟨u, yv, hu, hyv, eargs⟩ := denL_two hl
        obtain ⟨i, hi, hiy⟩ := run_bytes hy
        obtain ⟨i', zv, hi', hzv, hzd, hzr⟩ := zero_cells (P := P) (E := E) hzz
        rw [hi] at hi'
        injection hi' with hi'
        subst hi'
        have hiz : i.size = z := by
          unfold size at hz
          rw [hi] at hz
          simpa using hz
        have hzl : zv.cells.toList.length = z := by have := denL_length hzd; omega
        obtain ⟨z1, z2, z3⟩ := litsOf_sound (rs := []) (pc := []) (rules_nil _) (fun b hb => by cases hb) hcs hzd
        have hkl : (cs.map (·.1)).length = z := by
          have := congrArg List.length z1
          simp only [List.length_map] at this ⊢
          omega
        obtain ⟨n1, n2, n3, n4, n5, hap⟩ := newOf_sound (P := P) (ty := type) hw hr hp hnew hyv hst hxt hd hi hzv hiz hiy hzd c1 hkl c2
        split at h
        · -- behind nothing
          split at h
          · rename_i hle
            simp only [Bool.and_eq_true] at hle
            have l1 := leB_sound hr hp hle.1
            have l2 := leB_sound hr hp hle.2
            simp only [IE.den] at l1 l2
            injection h with h
            obtain rfl := denNilSlice hu
            have hb47 : (0 + (k.den E.ι).toNat) * i.bytes ≤ 2 ^ 47 := by
              rw [hiy]
              have : (0 + (k.den E.ι).toNat) * y ≤ 1073741824 * 131072 := Nat.mul_le_mul (by omega) c3
              omega
            obtain ⟨cap, hcap, hrun⟩ := hap.grow (base := none) (sLen := 0) (sCap := 0) (old := #[]) (by simp [Builtin.firstCells]) (by omega) (by omega) hb47
            rw [Nat.zero_add] at hcap hrun
            obtain ⟨E', k1, k2, k3⟩ := grow_end (h1 := σ.h) (w' := w.drew.alloc (.cells (#[] ++ (rx.den E.ι).toArray ++ (copiesV zv.cells.toList (cap - (k.den E.ι).toNat)).toArray) e)) (c := w.heap.size) (cap := cap) (L := rx.den E.ι) (tail := copiesV zv.cells.toList (cap - (k.den E.ι).toNat)) (e := e) (fz := (0, 0)) (rx := rx) (k := k) (ks := cs.map (·.1)) hw
              ⟨.refl E, ⟨hw.lenρ, hw.lenκ, fun b c o hb ho => by
                obtain ⟨ob, h1, h2⟩ := hw.obj b c o hb ho
                exact ⟨ob, by rw [heap_alloc_old w.drew _ (hw.lt hb)]; exact h1, h2⟩, hw.base, hw.inj, by have := hw.bsize; simp; omega, hw.cls, hw.giv⟩, ⟨rfl, rfl, rfl, by simp, fun c hc _ => heap_alloc_old w.drew _ hc, fun b c hb => Or.inl ⟨b, hb⟩⟩⟩ rfl rfl rfl
              (Or.inl (Nat.le_refl _)) hw.bsize (fun b o' hb _ => by have := hw.lt hb; omega) (heap_alloc_new w.drew _) (fun i _ => Or.inl rfl) rfl (by simp) (by rw [n4, hkl]) n3 (by
                simp only [Array.size_append, List.size_toArray, copiesV_length, hzl, n4, hkl, List.length_nil, Nat.zero_add]
                rw [← Nat.add_mul]; congr 1; omega) hcap n1 n2 n5
            rw [hkl] at k1
            refine ⟨E', _, _, _, _, _, h.symm, ?_, k1, k2, k3⟩
            rw [exec_builtin rfl, args_toArray, eargs]
            simp [builtin, hrun]
          · cases h
        · -- behind one's own row
          rename_i b z' q o' n c
          split at h
          · rename_i r t ks rn rc hbs
            split at h
            · rename_i hc'
              simp only [Bool.and_eq_true, decide_eq_true_eq] at hc'
              obtain ⟨⟨⟨⟨⟨⟨⟨rfl, rfl⟩, hz'⟩, rfl⟩, rfl⟩, s1⟩, s2⟩, s3⟩ := hc'
              obtain rfl := Nat.eq_of_beq_eq_true hz'
              injection h with h
              have e8 := sameI_ok hr hp s1
              have e9 := sameI_ok hr hp s2
              have l3 := leB_sound hr hp s3
              rw [plus_den] at l3
              simp only [IE.den] at l3
              obtain ⟨⟨bq, bo, bn, bc⟩, ⟨g1, g2, g3⟩, cc, hcb, eu⟩ := denSl hu
              obtain ⟨ob, hob, c', fz, tail, rfl, hf, hcl, ⟨r1, r2, r3⟩, r4, r5, r6⟩ := hw.obj b cc _ hcb hbs
              simp only [IE.den, Int.toNat_zero, Nat.zero_mul, Nat.add_zero] at eu
              have hxlen : (r.den E.ι).length = (n.den E.ι).toNat * z' := by rw [← hkl]; exact nat_of_mul r4 e8.symm g2
              have hcsz : c'.size = (c.den E.ι).toNat * z' := by rw [← hkl]; exact nat_of_mul r5 e9.symm (by omega)
              have htl : c'.size = (r.den E.ι).length + tail.length := by
                have := congrArg List.length hcl
                simpa using this
              have hkn : ((IE.plus n k).den E.ι).toNat = (n.den E.ι).toNat + (k.den E.ι).toNat := by rw [plus_den]; omega
              have hdc : (RX.cat r rx).den E.ι = r.den E.ι ++ rx.den E.ι := rfl
              have hkc := kinds_cat (by rw [hxlen, hkl]) r6 n5
              have hlc : (r.den E.ι ++ rx.den E.ι).length = ((IE.plus n k).den E.ι).toNat * (cs.map (·.1)).length := by
                rw [List.length_append, hxlen, n4, hkn, hkl, Nat.add_mul]
              by_cases hfit : (n.den E.ι).toNat + (k.den E.ι).toNat ≤ (c.den E.ι).toNat
              · -- where it stands
                have hroom : (n.den E.ι).toNat * z' + (k.den E.ι).toNat * z' ≤ (c.den E.ι).toNat * z' := by
                  rw [← Nat.add_mul]; exact Nat.mul_le_mul_right _ hfit
                have hone : ∀ v ∈ rx.den E.ι, v.oneCell' = true := by
                  intro v hv
                  obtain ⟨j, hj⟩ := List.getElem?_of_mem hv
                  have hm : j % (cs.map (·.1)).length < (cs.map (·.1)).length := Nat.mod_lt _ (by rw [hkl]; omega)
                  have := n5 j _ v (List.getElem?_eq_getElem hm) hj
                  generalize (cs.map (·.1))[j % (cs.map (·.1)).length] = q at this
                  cases q with
                  | int kk => obtain ⟨m, rfl, _⟩ := this; rfl
                  | bool => obtain ⟨m, rfl⟩ := this; rfl
                obtain ⟨w', hst', hg', hoth, hsz, e1, e2, e3⟩ := storeCells_row (P := P) cc t fz (rx.den E.ι) ((n.den E.ι).toNat * z') 0 c' w hob (fun j hj hjj => by
                  rcases hf j hj with h0 | h0 <;> omega) (by omega) hone
                rw [Nat.add_zero, hcl, ← hxlen, setL_front _ _ _ (by omega)] at hg'
                have hfits := hap.fits (a := ⟨cc, 0, none⟩) (sLen := (n.den E.ι).toNat) (sCap := (c.den E.ι).toNat) (w' := w') hfit (by
                  rw [hiz, Addr.add_lit, Nat.zero_add]
                  exact hst')
                obtain ⟨x1, hfree⟩ := free_ext hw hcb hbs (by intro h; cases h) rfl rfl hg' hoth hsz e1 e2 e3
                obtain ⟨E', k1, k2, k3⟩ := grow_end (c := cc) (cap := (c.den E.ι).toNat) (L := r.den E.ι ++ rx.den E.ι) (tail := tail.drop (rx.den E.ι).length) (rx := .cat r rx) (k := IE.plus n k) hw x1 rfl rfl (by simp) (Or.inr ⟨b, hcb⟩) (hw.base b cc hcb) hfree hg'
                  (fun i hi => by
                    refine hf i ?_
                    simp only [List.size_toArray, List.length_append, List.length_drop] at hi
                    omega) hdc rfl hlc (by rw [plus_den]; omega) (by
                    simp only [List.size_toArray, List.length_append, List.length_drop]
                    rw [hkl]
                    omega) (by rw [hkn]; exact hfit) (by simp only [RX.upto, r1, n1, Bool.and_self]) (plus_below bn n2) hkc
                rw [hkl] at k1
                refine ⟨E', _, _, _, _, _, h.symm, ?_, k1, k2, k3⟩
                rw [exec_builtin rfl, args_toArray, eargs, eu, hkn]
                simp [builtin, hfits]
              · -- elsewhere
                have hold : (Builtin.firstCells i.size (n.den E.ι).toNat (.slice (some ⟨cc, 0, none⟩) (n.den E.ι).toNat (c.den E.ι).toNat)).run P w.drew = .ok (r.den E.ι).toArray w.drew := by
                  have hcells := run_loadCells_list (P := P) w.drew ⟨cc, 0, none⟩ (r.den E.ι) (fun j v hj => by
                    rw [Addr.add_lit, Nat.zero_add]
                    have : w.cell? ⟨cc, j, none⟩ = some v := by
                      rw [cell_of_row w cc _ c' t fz hob, ← Array.getElem?_toList, hcl, List.getElem?_append_left (List.getElem?_eq_some_iff.1 hj).1]
                      exact hj
                    exact this)
                  rw [hxlen] at hcells
                  rw [hiz]
                  simpa [Builtin.firstCells] using hcells
                have hb47 : ((n.den E.ι).toNat + (k.den E.ι).toNat) * i.bytes ≤ 2 ^ 47 := by
                  rw [hiy]
                  have : ((n.den E.ι).toNat + (k.den E.ι).toNat) * y ≤ 1073741824 * 131072 := Nat.mul_le_mul (by omega) c3
                  omega
                obtain ⟨cap, hcap, hrun⟩ := hap.grow (base := some ⟨cc, 0, none⟩) (sLen := (n.den E.ι).toNat) (sCap := (c.den E.ι).toNat) hold (by omega) (by omega) hb47
                have hlt := hw.lt hcb
                obtain ⟨x1, hfree⟩ := free_ext (w' := w) hw hcb hbs (by intro h; cases h) rfl rfl hob (fun _ _ => rfl) rfl rfl rfl rfl
                have x2 : Ext E B w E { σ.h with bs := σ.h.bs.set b .free } (w.drew.alloc (.cells ((r.den E.ι).toArray ++ (rx.den E.ι).toArray ++ (copiesV zv.cells.toList (cap - ((n.den E.ι).toNat + (k.den E.ι).toNat))).toArray) t)) :=
                  ⟨x1.le, ⟨x1.wr.lenρ, x1.wr.lenκ, fun b2 c2 o2 hb2 ho2 => by
                    obtain ⟨ob2, h1, h2⟩ := x1.wr.obj b2 c2 o2 hb2 ho2
                    exact ⟨ob2, by rw [heap_alloc_old w.drew _ (hw.lt hb2)]; exact h1, h2⟩, x1.wr.base, x1.wr.inj, by have := hw.bsize; simp; omega, x1.wr.cls, x1.wr.giv⟩, ⟨rfl, rfl, rfl, by simp, fun c hc _ => heap_alloc_old w.drew _ hc, fun b c hb => Or.inl ⟨b, hb⟩⟩⟩
                obtain ⟨E', k1, k2, k3⟩ := grow_end (c := w.heap.size) (cap := cap) (L := r.den E.ι ++ rx.den E.ι) (tail := copiesV zv.cells.toList (cap - ((n.den E.ι).toNat + (k.den E.ι).toNat))) (fz := (0, 0)) (rx := .cat r rx) (k := IE.plus n k) hw x2 rfl rfl (by simp) (Or.inl (Nat.le_refl _)) hw.bsize
                  (fun b2 o2 hb2 _ => by have := hw.lt hb2; omega) (heap_alloc_new w.drew _) (fun i _ => Or.inl rfl) hdc (by simp) hlc (by rw [plus_den]; omega) (by
                    simp only [Array.size_append, List.size_toArray, copiesV_length, hzl, n4, hkl, hxlen]
                    rw [← Nat.add_mul, ← Nat.add_mul]; congr 1; omega) (by rw [hkn]; exact hcap) (by simp only [RX.upto, r1, n1, Bool.and_self]) (plus_below bn n2) hkc
                rw [hkl] at k1
                refine ⟨E', _, _, _, _, _, h.symm, ?_, k1, k2, k3⟩
                rw [exec_builtin rfl, args_toArray, eargs, eu, hkn]
                simp [builtin, hrun]
            · cases h
          · cases h
        · cases h
      · cases h
    · cases h
  · -- a text's bytes
    rename_i src dst' x
    split at h
    · cases h
    have key : ∀ (e : TypeId) (t : TX), (∃ d, P.underlying src = some d) → P.underlying dst' = some (.slice e) → a.eval x = .string ⟨(t.den E.ι).toArray⟩ → t.upto E.ι.nv = true → symTxt P σ dst e t = some σ' →
        ∃ (E' : Env) (h' : Hp) (fs : List BE) (v : AV) (x1 : Value) (w' : World), σ' = { σ with h := h', pc := fs ++ σ.pc }.put dst v ∧ (execOp a.eval ⟨dst, .convert src dst' x, type, pos, after, guard⟩).run P w = .ok (.value x1) w' ∧ v.den E' = some x1 ∧ (∀ f ∈ fs, f.holds E'.ι) ∧ Ext E B w E' h' w' := by
      rintro e t ⟨d, hsd⟩ hdd hx hu hs
      unfold symTxt at hs
      split at hs
      · rename_i he
        simp only [Option.map_eq_some_iff] at hs
        obtain ⟨n, hn, hs⟩ := hs
        obtain ⟨n1, n2⟩ := lenX_sound hr hp hn hu
        obtain ⟨cap, hcap, hrun⟩ := run_stringToBytes (P := P) e (t.den E.ι) w
        have hcv : (convert src dst' (.string ⟨(t.den E.ι).toArray⟩)).run P w = (Conv.stringToBytes e ⟨(t.den E.ι).toArray⟩).run P w := by
          cases d <;> simp [convert, run_underlying hsd, run_underlying hdd, run_underlying he]
        have hnn : (n.den E.ι).toNat = (t.den E.ι).length := by rw [n1]; simp
        obtain ⟨E', k1, k2, k3⟩ := grow_end (h1 := σ.h) (w' := w.drew.alloc (.cells (byteVals (t.den E.ι) ++ List.replicate (cap - (t.den E.ι).length) (Value.int .u8 0)).toArray e (cap, cap + 1))) (c := w.heap.size) (cap := cap) (L := byteVals (t.den E.ι)) (tail := List.replicate (cap - (t.den E.ι).length) (Value.int .u8 0)) (e := e) (fz := (cap, cap + 1)) (rx := .txt t) (k := n) (ks := [.int .u8]) hw
          ⟨.refl E, ⟨hw.lenρ, hw.lenκ, fun b c o hb ho => by
            obtain ⟨ob, h1, h2⟩ := hw.obj b c o hb ho
            exact ⟨ob, by rw [heap_alloc_old w.drew _ (hw.lt hb)]; exact h1, h2⟩, hw.base, hw.inj, by have := hw.bsize; simp; omega, hw.cls, hw.giv⟩, ⟨rfl, rfl, rfl, by simp, fun c hc _ => heap_alloc_old w.drew _ hc, fun b c hb => Or.inl ⟨b, hb⟩⟩⟩ rfl rfl rfl
          (Or.inl (Nat.le_refl _)) hw.bsize (fun b o' hb _ => by have := hw.lt hb; omega) (heap_alloc_new w.drew _) (fun i hi => Or.inr (by simp [byteVals_length] at hi; omega)) rfl (by simp) (by rw [byteVals_length, hnn]; simp) (by rw [n1]; omega) (by
            simp [byteVals_length]; omega) (by rw [hnn]; exact hcap) hu n2 (fun i q v hi hv => by
            have hq : q = .int .u8 := by
              have : i % [CK.int .u8].length = 0 := Nat.mod_one i
              rw [this] at hi
              simpa using hi.symm
            subst hq
            simp only [byteVals, List.getElem?_map, Option.map_eq_some_iff] at hv
            obtain ⟨b, _, rfl⟩ := hv
            have := b.toNat_lt
            exact ⟨_, rfl, by rw [show IntKind.u8.min = 0 by decide]; omega, by rw [show IntKind.u8.max = 255 by decide]; omega⟩)
        refine ⟨E', _, _, _, _, _, hs.symm, ?_, k1, k2, k3⟩
        simp only [execOp, Sem.run_bind, hx, hcv, hrun, hnn, Result.andThen_ok, Sem.run_pure]
      · cases hs
    simp only [Option.bind_eq_bind, Option.bind_eq_some_iff] at h
    obtain ⟨p, hpx, h⟩ := h
    have hd := opnd_den hSl (hc x (by simp [Op.operands])) hpx
    split at h
    · rename_i d e t hsd hdd
      obtain ⟨e1, e2⟩ := denTxt hd
      exact key e t ⟨_, hsd⟩ hdd e1 e2 h
    · rename_i d e i hsd hdd
      exact key e (.rig i) ⟨_, hsd⟩ hdd (denStrv hd) rfl h
    · cases h
  · -- a row that is spelt
    rename_i t0 l0 ps
    split at h
    · cases h
    split at h
    · rename_i b len cap c e k hal
      simp only [Option.bind_eq_bind, Option.bind_eq_some_iff] at h
      obtain ⟨z, hz, zz, hzz, ks, hks, vs, hvs, h⟩ := h
      split at h
      · rename_i hcond
        simp only [Bool.and_eq_true, decide_eq_true_eq] at hcond
        obtain ⟨⟨⟨⟨⟨⟨hb, hlc⟩, hcl⟩, hvl⟩, hkl⟩, hz0⟩, hkk⟩ := hcond
        obtain rfl := Nat.eq_of_beq_eq_true hb
        obtain rfl := Nat.eq_of_beq_eq_true hlc
        have hcl := Nat.eq_of_beq_eq_true hcl
        have hvl := Nat.eq_of_beq_eq_true hvl
        obtain rfl := Nat.eq_of_beq_eq_true hkl
        injection h with h
        obtain ⟨x, obj, kks, w', hrun, hlaid, hk, hall⟩ := allocA_sound (P := P) hSl hc hal w
        have hk0 : kks = [] := List.eq_nil_of_length_eq_zero hk
        subst hk0
        obtain ⟨hvd, hor⟩ := hall ⟨E.ρ ++ [w.heap.size], E.κ ++ [], E.ι⟩
          ⟨.refl _, fun b c hb => by rw [List.getElem?_append_left (List.getElem?_eq_some_iff.1 hb).1]; exact hb, fun b c hb => by rw [List.getElem?_append_left (List.getElem?_eq_some_iff.1 hb).1]; exact hb⟩
          (by simp [← hw.lenρ]) (fun j c hj => by simp at hj)
        obtain ⟨c', fz, rfl, hf, hlen, hcells, hm⟩ := hor
        simp only at hm
        have hcf : c = (c.filterMap id).map some := by
          have hle : (c.filterMap id).length = c.length := by
            have : vs.length = (c.filterMap id).length := by
              have : ∀ {vs : List AV} {cs : List (CK × IE)}, litsOf σ.h.giv.cfg.rules σ.pc vs = some cs → cs.length = vs.length := by
                intro vs
                induction vs with
                | nil => intro cs h; simp only [litsOf, Option.some.injEq] at h; subst h; rfl
                | cons v r ih =>
                  intro cs h
                  simp only [litsOf, Option.bind_eq_bind, Option.bind_eq_some_iff, Option.pure_def, Option.some.injEq] at h
                  obtain ⟨a, _, l, hl, rfl⟩ := h
                  simp [ih hl]
              exact this hvs
            omega
          have gen : ∀ l : List (Option AV), (l.filterMap id).length = l.length → l = (l.filterMap id).map some := by
            intro l
            induction l with
            | nil => intro _; rfl
            | cons a l ih =>
              intro hl
              cases a with
              | none =>
                simp only [List.filterMap_cons, id, List.length_cons] at hl
                have := List.length_filterMap_le id l
                omega
              | some v =>
                simp only [List.filterMap_cons, id, List.length_cons, List.map_cons] at hl ⊢
                exact congrArg (some v :: ·) (ih (by omega))
          exact gen c hle
        have hden : AV.denL ⟨E.ρ ++ [w.heap.size], E.κ ++ [], E.ι⟩ (c.filterMap id) = some c'.toList := by
          have hcl2 : (c.filterMap id).length = c'.toList.length := by
            have := congrArg List.length hcf
            simp only [List.length_map] at this
            simp only [Array.length_toList, hm]
            exact this.symm
          have gen : ∀ (l : List AV) (m : List Value), l.length = m.length → (∀ (i : Nat) (v : AV), l[i]? = some v → ∃ x, v.den ⟨E.ρ ++ [w.heap.size], E.κ ++ [], E.ι⟩ = some x ∧ m[i]? = some x) → AV.denL ⟨E.ρ ++ [w.heap.size], E.κ ++ [], E.ι⟩ l = some m := by
            intro l
            induction l with
            | nil => intro m hl _; cases m with | nil => simp [AV.denL] | cons a m => simp at hl
            | cons v l ih =>
              intro m hl hv
              cases m with
              | nil => simp at hl
              | cons a m =>
                obtain ⟨x, h1, h2⟩ := hv 0 v rfl
                simp only [List.getElem?_cons_zero, Option.some.injEq] at h2
                subst h2
                exact denL_cons.2 ⟨_, m, h1, ih m (by simpa using hl) (fun i v hi => hv (i + 1) v (by simpa using hi)), rfl⟩
          refine gen _ _ hcl2 fun i v hi => ?_
          have hci : c[i]? = some (some v) := by rw [hcf, List.getElem?_map, hi]; rfl
          obtain ⟨x, h1, h2⟩ := hcells i v hci
          exact ⟨x, h1, by rw [Array.getElem?_toList]; exact h2⟩
        obtain ⟨v1, v2, v3⟩ := litsOf_sound (E := ⟨E.ρ ++ [w.heap.size], E.κ ++ [], E.ι⟩) hr hp hvs hden
        have hrow : ORel ⟨E.ρ ++ [w.heap.size], E.κ ++ [], E.ι⟩ (.row (.lits vs) e (ks.map (·.1)) (.lit (len : Nat)) (.lit (len : Nat))) (.cells c' e fz) := by
          have hdl : (RX.lits vs).den E.ι = c'.toList := by simp only [RX.den, v1]
          refine ⟨c', fz, [], rfl, hf, by simp only [hdl, List.append_nil], ⟨v2, rfl, rfl⟩, ?_, ?_, ?_⟩
          · simp only [hdl, Array.length_toList, hm, hcl, List.length_map, IE.den, Int.natCast_mul]
          · simp only [hm, hcl, List.length_map, IE.den, Int.natCast_mul]
          · intro j kk x hkk2 hx
            rw [hdl] at hx
            have hj := (List.getElem?_eq_some_iff.1 hx).1
            simp only [Array.length_toList, hm, hcl] at hj
            refine v3 j kk x ?_ hx
            rw [hkk, flatten_get _ len _ (by rw [List.length_map]; exact hj)]
            exact hkk2
        have hx := hlaid.ext hw (.row (.lits vs) e (ks.map (·.1)) (.lit (len : Nat)) (.lit (len : Nat))) [] (fun k hk => by simp [AObj.cls?] at hk) hrow
        refine ⟨_, _, [], _, x, w', h.symm, hrun, ?_, fun f hf => (by cases hf), hx⟩
        obtain ⟨cc, n, h1, h2, h3, rfl⟩ := denSlice hvd
        simp only [Cap.den, Option.some.injEq] at h2
        subst h2
        simp only [AV.den]
        rw [if_pos ⟨rfl, by simp only [IE.den]; omega⟩, h1]
        simp only [Option.map_some, IE.den, Int.toNat_zero, Nat.zero_mul, Nat.add_zero, Int.toNat_natCast]
      · cases h
    · cases h
  · cases h

theorem setL_mid (x tail nl : List Value) (o : Nat) (hl : o + nl.length ≤ x.length) : setL (x ++ tail) o nl = setAt x o nl ++ tail := by
  apply List.ext_getElem?
  intro j
  rw [setL_get [] nl o j (x ++ tail)]
  simp only [List.length_append, setAt]
  have ht : (x.take o).length = o := by rw [List.length_take]; omega
  split
  · rename_i h
    rw [List.getElem?_append_left (by simp only [List.length_append, List.length_drop, ht]; omega), List.getElem?_append_left (by simp only [List.length_append, ht]; omega), List.getElem?_append_right (by omega), ht]
  · rename_i h
    by_cases h1 : j < o
    · rw [List.getElem?_append_left (by omega), List.getElem?_append_left (by simp only [List.length_append, List.length_drop, ht]; omega), List.getElem?_append_left (by simp only [List.length_append, ht]; omega), List.getElem?_append_left (by omega), List.getElem?_take, if_pos h1]
    · by_cases h2 : j < x.length
      · rw [List.getElem?_append_left h2, List.getElem?_append_left (by simp only [List.length_append, List.length_drop, ht]; omega), List.getElem?_append_right (by simp only [List.length_append, ht]; omega), List.getElem?_drop]
        congr 1
        simp only [List.length_append, ht]
        omega
      · rw [List.getElem?_append_right (by omega), List.getElem?_append_right (by simp only [List.length_append, List.length_drop, ht]; omega)]
        congr 1
        simp only [List.length_append, List.length_drop, ht]
        omega

theorem setAt_length {x nl : List Value} {o : Nat} (hl : o + nl.length ≤ x.length) : (setAt x o nl).length = x.length := by
  simp only [setAt, List.length_append, List.length_take, List.length_drop]
  omega

theorem setAt_get {x nl : List Value} {o j : Nat} (hl : o + nl.length ≤ x.length) : (setAt x o nl)[j]? = if o ≤ j ∧ j < o + nl.length then nl[j - o]? else x[j]? := by
  have ht : (x.take o).length = o := by rw [List.length_take]; omega
  simp only [setAt]
  split
  · rename_i h
    rw [List.getElem?_append_left (by simp only [List.length_append, ht]; omega), List.getElem?_append_right (by omega), ht]
  · rename_i h
    by_cases h1 : j < o
    · rw [List.getElem?_append_left (by simp only [List.length_append, ht]; omega), List.getElem?_append_left (by omega), List.getElem?_take, if_pos h1]
    · rw [List.getElem?_append_right (by simp only [List.length_append, ht]; omega), List.getElem?_drop]
      congr 1
      simp only [List.length_append, ht]
      omega

theorem symStore_sound (hSl : Slots E D σ.tmps a) (hw : WR E B σ.h w) (hp : ∀ b ∈ σ.pc, b.den E.ι = true) {o : Oper} (hc : ∀ x ∈ o.op.operands, Clear D x) {h' : Hp} (h : symStore P σ o = some h') :
    ∃ w', (execOp a.eval o).run P w = .ok .skip w' ∧ Ext E B w E h' w' := by
  have hr := hw.giv.rules
  obtain ⟨dst, op, type, pos, after, guard⟩ := o
  unfold symStore at h
  simp only at h hc
  split at h
  · rename_i t x y
    simp only [Option.bind_eq_bind, Option.bind_eq_some_iff] at h
    obtain ⟨p, hpx, h⟩ := h
    have hd := opnd_den hSl (hc x (by simp [Op.operands])) hpx
    split at h
    · rename_i b z q i off
      simp only [Option.bind_eq_some_iff] at h
      obtain ⟨v, hv, m, hm, vs, hvs, h⟩ := h
      have hdv := opnd_den hSl (hc y (by simp [Op.operands])) hv
      split at h
      · rename_i r te ks n c hbs
        split at h
        · rename_i hcond
          simp only [Bool.and_eq_true, decide_eq_true_eq] at hcond
          obtain ⟨⟨⟨⟨⟨⟨rfl, hz⟩, hlm⟩, hom⟩, l1⟩, l2⟩, hkk⟩ := hcond
          obtain rfl := Nat.eq_of_beq_eq_true hz
          have hlm := Nat.eq_of_beq_eq_true hlm
          injection h with h
          subst h
          have l1 := leB_sound hr hp l1
          have l2 := ltB_sound hr hp l2
          simp only [IE.den] at l1
          have hpd : ∃ cc, E.ρ[b]? = some cc ∧ i.upto E.ι.nv = true ∧ a.eval x = .pointer (some ⟨cc, (i.den E.ι).toNat * ks.length + off, none⟩) := by
            simp only [AV.den] at hd
            split at hd
            · rename_i hu
              simp only [Option.map_eq_some_iff] at hd
              obtain ⟨cc, hcc, e⟩ := hd
              have hu1 := hu.1
              simp only [below_lit, Bool.true_and] at hu1
              refine ⟨cc, hcc, hu1, ?_⟩
              rw [← e]
              simp only [IE.den, Int.toNat_zero, Nat.zero_add]
            · cases hd
          obtain ⟨cc, hcb, hiu, he⟩ := hpd
          have hcd := cells_den hdv
          obtain ⟨v1, v2, v3⟩ := litsOf_sound hw.giv.rules hp hvs hcd
          obtain ⟨ob, hob, c', fz, tail, rfl, hf, hcl, ⟨r1, r2, r3⟩, r4, r5, r6⟩ := hw.obj b cc _ hcb hbs
          have hn0 : 0 ≤ n.den E.ι := by omega
          have hxl := nat_of_mul r4 rfl hn0
          have hcv : (a.eval y).cells.toList.length = m := by rw [denL_length hcd, hlm]
          have hroom : (i.den E.ι).toNat * ks.length + off + m ≤ (r.den E.ι).length := by
            rw [hxl]
            have : ((i.den E.ι).toNat + 1) * ks.length ≤ (n.den E.ι).toNat * ks.length := Nat.mul_le_mul_right _ (by omega)
            rw [Nat.add_mul, Nat.one_mul] at this
            omega
          have htl : c'.size = (r.den E.ι).length + tail.length := by
            have := congrArg List.length hcl
            simpa using this
          have hone : ∀ v ∈ (a.eval y).cells.toList, v.oneCell' = true := by
            intro v hv
            rw [v1] at hv
            obtain ⟨q, _, rfl⟩ := List.mem_map.1 hv
            obtain ⟨kk, ee⟩ := q
            cases kk <;> rfl
          obtain ⟨w', hst', hg', hoth, hsz, e1, e2, e3⟩ := storeCells_row (P := P) cc te fz (a.eval y).cells.toList ((i.den E.ι).toNat * ks.length + off) 0 c' w hob (fun j hj hjj => by
            rcases hf j hj with h0 | h0 <;> omega) (by omega) hone
          rw [Nat.add_zero, hcl, setL_mid _ _ _ _ (by omega)] at hg'
          have hlin : ((IE.mkLin i ks.length off).den E.ι).toNat = (i.den E.ι).toNat * ks.length + off := by
            rw [mkLin_den]
            obtain ⟨k, hk⟩ := Int.eq_ofNat_of_zero_le l1
            rw [hk, ← Int.natCast_mul, ← Int.natCast_add, Int.toNat_natCast, Int.toNat_natCast]
          have hden : (RX.set r (IE.mkLin i ks.length off) (.lits vs)).den E.ι = setAt (r.den E.ι) ((i.den E.ι).toNat * ks.length + off) (a.eval y).cells.toList := by
            simp only [RX.den, hlin, v1]
          refine ⟨w', ?_, setRow_ext hw hcb hbs (by intro h; cases h) rfl rfl rfl ⟨_, fz, tail, rfl, fun j hj => ?_, by rw [hden], ⟨?_, r2, r3⟩, ?_, ?_, ?_⟩ hg' hoth hsz e1 e2 e3⟩
          · have hsize : (a.eval y).cells.size = m := by simpa using hcv
            have hrun : (storeVar t ⟨cc, (i.den E.ι).toNat * ks.length + off, none⟩ (a.eval y)).run P w = .ok () w' := by
              simp [storeVar, run_size hm, hsize, hst']
            simp [execOp, Instr.storeAt, Instr.sureAddr, he, hrun]
          · refine hf j ?_
            simp only [List.size_toArray, List.length_append] at hj
            rw [setAt_length (by omega)] at hj
            omega
          · simp only [RX.upto, r1, mkLin_below hiu, v2, Bool.and_self]
          · rw [hden, setAt_length (by omega)]; exact r4
          · simp only [List.size_toArray, List.length_append]
            rw [setAt_length (by omega), ← htl]; exact r5
          · intro j kk x hkk2 hx
            rw [hden, setAt_get (by omega)] at hx
            split at hx
            · rename_i hj
              refine v3 _ kk x ?_ hx
              rw [hkk, List.getElem?_take, if_pos (by omega), List.getElem?_drop, ← hkk2]
              congr 1
              have hd : ∃ d, j = off + d + (i.den E.ι).toNat * ks.length ∧ d < m := ⟨j - ((i.den E.ι).toNat * ks.length + off), by omega, by omega⟩
              obtain ⟨d, e, hdm⟩ := hd
              rw [show j - ((i.den E.ι).toNat * ks.length + off) = d by omega, e, Nat.add_mul_mod_self_right, Nat.mod_eq_of_lt (by omega)]
            · exact r6 j kk x hkk2 hx
        · cases h
      · cases h
    · cases h
  · cases h

theorem unnamed_spec {o : Oper} {b : Nat} {r : RX} {t : TypeId} {ks : List CK} {n c : IE} (h : unnamed σ o = some (b, r, t, ks, n, c)) : σ.h.bs[b]? = some (.row r t ks n c) ∧ ∃ (x : Operand) (v : AV), opnd σ.tmps x = some v ∧ x ∈ o.op.operands ∧ ((∃ z q i off, v = .ptrs b z q i off) ∨ ∃ z q o n c, v = .sl b z q o n c) := by
  obtain ⟨dst, op, type, pos, after, guard⟩ := o
  unfold unnamed at h
  simp only at h ⊢
  split at h
  · rename_i t0 a0
    simp only [Option.bind_eq_bind, Option.bind_eq_some_iff] at h
    obtain ⟨v, hv, h⟩ := h
    split at h
    · rename_i b' z q i off
      split at h
      · cases h
      · rename_i r' t' ks' n' c' _ hbs
        injection h with h
        simp only [Prod.mk.injEq] at h
        obtain ⟨rfl, rfl, rfl, rfl, rfl, rfl⟩ := h
        exact ⟨hbs, a0, _, hv, by simp [Op.operands], Or.inl ⟨z, q, i, off, rfl⟩⟩
      · cases h
    · cases h
  · rename_i t0 t1 a0
    simp only [Option.bind_eq_bind, Option.bind_eq_some_iff] at h
    obtain ⟨v, hv, h⟩ := h
    split at h
    · rename_i b' z q i off nn
      split at h
      · cases h
      · rename_i r' t' ks' n' c' _ hbs
        injection h with h
        simp only [Prod.mk.injEq] at h
        obtain ⟨rfl, rfl, rfl, rfl, rfl, rfl⟩ := h
        exact ⟨hbs, a0, _, hv, by simp [Op.operands], Or.inr ⟨z, q, i, off, nn, rfl⟩⟩
      · cases h
    · cases h
  · cases h

/-- A row gets a name. -/
theorem naming_sound (hSl : Slots E D σ.tmps a) (hw : WR E B σ.h w) {o : Oper} (hc : ∀ x ∈ o.op.operands, Clear D x) {σ' : St} (h : naming σ o = some σ') :
    ∃ (E' : Env) (h' : Hp) (fs : List BE), σ' = { σ with h := h', pc := fs ++ σ.pc } ∧ (∀ f ∈ fs, f.holds E'.ι) ∧ Ext E B w E' h' w := by
  unfold naming at h
  split at h
  · rename_i b r t ks n c hun
    injection h with h
    subst h
    obtain ⟨hbs, x, v, hv, hxo, hcase⟩ := unnamed_spec hun
    have hd := opnd_den hSl (hc x hxo) hv
    obtain ⟨cc, hcb⟩ : ∃ cc, E.ρ[b]? = some cc := by
      rcases hcase with ⟨z, q, i, off, rfl⟩ | ⟨z, q, o, n, c, rfl⟩
      · simp only [AV.den] at hd
        split at hd
        · simp only [Option.map_eq_some_iff] at hd
          obtain ⟨cc, hcc, _⟩ := hd
          exact ⟨cc, hcc⟩
        · cases hd
      · obtain ⟨_, _, cc, hcc, _⟩ := denSl hd
        exact ⟨cc, hcc⟩
    obtain ⟨ob, hob, c', fz, tail, rfl, hf, hcl, ⟨r1, r2, r3⟩, r4, r5, r6⟩ := hw.obj b cc _ hcb hbs
    have x1 := fresh_ext (h := σ.h) hw { r := r.den E.ι }
    have hle := x1.le.ι
    have hnv : E.ι.fv.length = σ.h.giv.nv := hw.giv.nv
    have f0 : (E.ι.fv ++ [({ r := r.den E.ι } : Fv)])[σ.h.giv.nv]? = some { r := r.den E.ι } := by rw [← hnv]; simp
    have u0 : Nat.blt σ.h.giv.nv (Unk.nv { E.ι with fv := E.ι.fv ++ [({ r := r.den E.ι } : Fv)] }) = true := blt_iff.2 (List.getElem?_eq_some_iff.1 f0).1
    have r0 : Unk.fr { E.ι with fv := E.ι.fv ++ [({ r := r.den E.ι } : Fv)] } σ.h.giv.nv = r.den E.ι := by simp only [Unk.fr, f0]; rfl
    have nd : n.den { E.ι with fv := E.ι.fv ++ [({ r := r.den E.ι } : Fv)] } = n.den E.ι := IE.den_le hle r2
    have cd : c.den { E.ι with fv := E.ι.fv ++ [({ r := r.den E.ι } : Fv)] } = c.den E.ι := IE.den_le hle r3
    have x2 := setRow_ext (o' := .row (.row σ.h.giv.nv) t ks n c) x1.wr hcb (o := .row r t ks n c) hbs (by intro h; cases h) rfl rfl rfl (ob' := .cells c' t fz) (w' := w)
      ⟨c', fz, tail, rfl, hf, by simp only [RX.den, r0]; exact hcl, ⟨by simpa only [RX.upto] using u0, IE.below_le hle.nv r2, IE.below_le hle.nv r3⟩, by simp only [RX.den, r0, nd]; exact r4, by rw [cd]; exact r5, by simp only [RX.den, r0]; exact r6⟩ hob (fun _ _ => rfl) rfl rfl rfl rfl
    refine ⟨_, _, _, rfl, fun f hf => ?_, x1.trans x2⟩
    simp only [List.mem_cons, List.not_mem_nil, or_false] at hf
    rcases hf with rfl | rfl
    · refine ⟨by simp only [BE.upto, u0, RX.below_le hle.nv r1, Bool.and_self], ?_⟩
      simp only [BE.den, decide_eq_true_eq]
      rw [r0, RX.den_le hle r1]
    · refine ⟨by simp only [BE.upto, RX.upto, u0, mkLin_below (IE.below_le hle.nv r2), Bool.and_self], ?_⟩
      simp only [BE.den, RX.den, r0, mkLin_den, nd, r4, decide_eq_true_eq]
      omega
  · cases h

/-- What such a conversion comes to. -/
theorem layT_run {tmps : List AV} (hr : RulesOk rs E.ι) (hp : ∀ b ∈ pc, b.den E.ι = true) (hSl : Slots E D tmps a) {o : Oper} (hc : ∀ x ∈ o.op.operands, Clear D x) {b nv : Nat} {v : AV} {ob : AObj} (h : layT P rs pc tmps b nv o = some (v, ob)) :
    ∃ (t : TX) (n : IE) (e : TypeId), v = .sl b 1 (.lit 0) (.lit 0) n (.fv nv) ∧ ob = .row (.txt t) e [.int .u8] n (.fv nv) ∧ t.upto E.ι.nv = true ∧ n.upto E.ι.nv = true ∧ n.den E.ι = ((t.den E.ι).length : Int) ∧
      ∀ w : World, ∃ cap, (t.den E.ι).length ≤ cap ∧ (execOp a.eval o).run P w = .ok (.value (.slice (some ⟨w.heap.size, 0, none⟩) (t.den E.ι).length cap))
        (w.drew.alloc (.cells (byteVals (t.den E.ι) ++ List.replicate (cap - (t.den E.ι).length) (Value.int .u8 0)).toArray e (cap, cap + 1))) := by
  obtain ⟨dst, op, type, pos, after, guard⟩ := o
  unfold layT at h
  simp only at h hc
  split at h
  · rename_i src dst' x
    simp only [Option.bind_eq_bind, Option.bind_eq_some_iff] at h
    obtain ⟨p, hpx, t, ht, h⟩ := h
    have hd := opnd_den hSl (hc x (by simp [Op.operands])) hpx
    have hx : a.eval x = .string ⟨(t.den E.ι).toArray⟩ ∧ t.upto E.ι.nv = true := by
      unfold txOfU at ht
      split at ht
      · injection ht with ht; subst ht; exact denTxt hd
      · injection ht with ht; subst ht; exact ⟨denStrv hd, rfl⟩
      · cases ht
    split at h
    · rename_i d e hsd hdd
      split at h
      · rename_i he
        simp only [Option.map_eq_some_iff, Prod.mk.injEq] at h
        obtain ⟨n, hn, rfl, rfl⟩ := h
        obtain ⟨n1, n2⟩ := lenX_sound hr hp hn hx.2
        refine ⟨t, n, e, rfl, rfl, hx.2, n2, n1, fun w => ?_⟩
        obtain ⟨cap, hcap, hrun⟩ := run_stringToBytes (P := P) e (t.den E.ι) w
        have hcv : (convert src dst' (.string ⟨(t.den E.ι).toArray⟩)).run P w = (Conv.stringToBytes e ⟨(t.den E.ι).toArray⟩).run P w := by
          cases d <;> simp [convert, run_underlying hsd, run_underlying hdd, run_underlying he]
        exact ⟨cap, hcap, by simp only [execOp, Sem.run_bind, hx.1, hcv, hrun, Result.andThen_ok, Sem.run_pure]⟩
      · cases h
    · cases h
  · cases h

theorem cmpRow_sound (hr : RulesOk rs E.ι) (hp : ∀ b ∈ pc, b.den E.ι = true) (hw : WR E B h w) {x : AV} {r : RX} {v : Value} (hs : cmpRow rs pc h x = some r) (hx : x.den E = some v) : r.upto E.ι.nv = true ∧ (Extern.Bytes.bytesOf v).run P w = .ok ⟨(bytesOf (r.den E.ι)).toArray⟩ w := by
  unfold cmpRow at hs
  split at hs
  · injection hs with hs
    subst hs
    obtain rfl := denNilSlice hx
    exact ⟨rfl, rfl⟩
  · rename_i b z q o n c
    simp only [Option.bind_eq_bind, Option.bind_eq_some_iff] at hs
    obtain ⟨⟨rx0, ks, m, q'⟩, hro, hs⟩ := hs
    simp only at hs
    split at hs
    · rename_i hc
      simp only [Bool.and_eq_true, decide_eq_true_eq] at hc
      obtain ⟨⟨rfl, rfl⟩, hz'⟩ := hc
      obtain rfl := Nat.eq_of_beq_eq_true hz'
      obtain ⟨⟨u0, u1, u2, u3⟩, ⟨g1, g2, g3⟩, cc, hcb, rfl⟩ := denSl hx
      obtain ⟨c', te, fz, pre, tail, hob, ⟨hc1, hc2⟩, ⟨v1, v2, v3⟩, hlen, hk⟩ := rowX_sound hw hcb hro
      obtain ⟨p1, p2, ⟨pr, po, p3, p4⟩, p5⟩ := partX_sound hr hp hs g1 g2 u1 u2 v1 rfl hlen hk
      rw [Nat.mul_one] at p2 p4
      refine ⟨p1, ?_⟩
      have hcells : ∀ (j : Nat) (v : Value), (r.den E.ι)[j]? = some v → w.cell? ⟨cc, (q.den E.ι).toNat + (o.den E.ι).toNat * 1 + j, none⟩ = some v := fun j v hj => by
        have hx0 : rx0.den E.ι ≠ [] := fun e0 => by
          rw [e0] at p3
          have h1 := congrArg List.length p3
          have h2 := (List.getElem?_eq_some_iff.1 hj).1
          simp at h1
          omega
        rw [cell_of_row w cc _ c' te fz hob, ← Array.getElem?_toList, hc1, List.getElem?_append_right (by rw [hc2 hx0]; omega), hc2 hx0, p3, List.append_assoc, List.getElem?_append_right (by rw [p4]; omega), p4, List.append_assoc,
          show (q.den E.ι).toNat + (o.den E.ι).toNat * 1 + j - (q.den E.ι).toNat - (o.den E.ι).toNat = j by omega, List.getElem?_append_left (List.getElem?_eq_some_iff.1 hj).1]
        exact hj
      have hns : ∀ l : List Value, (∀ x ∈ l, ∃ k : Int, x = .int .u8 k) → ∃ ns : List Int, l = ns.map (Value.int .u8) := by
        intro l
        induction l with
        | nil => exact fun _ => ⟨[], rfl⟩
        | cons x l ih =>
          intro hl
          obtain ⟨k, rfl⟩ := hl x List.mem_cons_self
          obtain ⟨ns, hns⟩ := ih fun y hy => hl y (List.mem_cons_of_mem _ hy)
          exact ⟨k :: ns, by rw [hns]; rfl⟩
      obtain ⟨ns, hns⟩ := hns (r.den E.ι) fun x hx => by
        obtain ⟨j, hj, hxj⟩ := List.getElem_of_mem hx
        obtain ⟨k, hk, _⟩ := p5 j (.int .u8) x (by simp [Nat.mod_one]) (by rw [List.getElem?_eq_getElem hj, hxj])
        exact ⟨k, hk⟩
      have hrun := run_loadBytes (P := P) (w := w) (c := cc) ns ((q.den E.ι).toNat + (o.den E.ι).toNat * 1) ByteArray.empty (fun j k hj => hcells j _ (by rw [hns]; simp [hj]))
      have hnl : ns.length = (n.den E.ι).toNat := by rw [← p2, hns, List.length_map]
      rw [hnl] at hrun
      simp only [Extern.Bytes.bytesOf]
      rw [hrun, hns]
      have e0 : ByteArray.empty.data = #[] := rfl
      rw [e0]
      simp [bytesOf]
    · cases hs
  · cases hs

theorem symCmp_sound (hN : plainNames P = true) (hSl : Slots E D σ.tmps a) (hw : WR E B σ.h w) (hp : ∀ b ∈ σ.pc, b.den E.ι = true) {o : Oper} (hc : ∀ x ∈ o.op.operands, Clear D x) {σ' : St} (h : symCmp P σ o = some σ') :
    ∃ (E' : Env) (h' : Hp) (fs : List BE) (v : AV) (x : Value), σ' = { σ with h := h', pc := fs ++ σ.pc }.put o.dst v ∧ (execOp a.eval o).run P w = .ok (.value x) w ∧ v.den E' = some x ∧ (∀ f ∈ fs, f.holds E'.ι) ∧ Ext E B w E' h' w := by
  have hr := hw.giv.rules
  obtain ⟨dst, op, type, pos, after, guard⟩ := o
  unfold symCmp at h
  simp only at h hc
  split at h
  · rename_i f args ts
    simp only [Option.bind_eq_bind, Option.bind_eq_some_iff] at h
    obtain ⟨p, hpf, h⟩ := h
    have hd := opnd_den hSl (hc f (by simp [Op.operands, Call.operands])) hpf
    split at h
    · rename_i g xa ya
      simp only [Option.bind_eq_some_iff] at h
      obtain ⟨xs, hxs, fn, hfn, h⟩ := h
      have hl := callArgs (c := ⟨.value f, args, ts⟩) hSl rfl hc hxs
      have hnm := plainNames_spec hN hfn
      split at h
      · rename_i hname
        simp only [Bool.and_eq_true, beq_iff_eq] at hname
        have hnb : fn.body.isNone = true := hname.1.1
        split at h
        · rename_i u v huv
          simp only [Option.bind_eq_some_iff] at h
          obtain ⟨r, hrx, s, hsx, h⟩ := h
          injection h with h
          subst h
          obtain ⟨x', y', hx', hy', he⟩ := denFunc hd
          have hall : AV.denL E (xa ++ xs ++ ya) = some (x' ++ args.toList.map a.eval ++ y') := denL_append (denL_append hx' hl) hy'
          rw [huv] at hall
          obtain ⟨pv, qv, hp', hq', hpq⟩ := denL_two hall
          obtain ⟨r1, r2⟩ := cmpRow_sound (P := P) hr hp hw hrx hp'
          obtain ⟨s1, s2⟩ := cmpRow_sound (P := P) hr hp hw hsx hq'
          have hargs0 : x'.toArray ++ args.map a.eval ++ y'.toArray = (x' ++ args.toList.map a.eval ++ y').toArray := by
            apply Array.ext'; simp
          have x1 := fresh_ext (h := σ.h) hw { n := sysF 0 (r.den E.ι) (s.den E.ι) }
          have hle := x1.le.ι
          have hnv : E.ι.fv.length = σ.h.giv.nv := hw.giv.nv
          have f0 : (E.ι.fv ++ [({ n := sysF 0 (r.den E.ι) (s.den E.ι) } : Fv)])[σ.h.giv.nv]? = some { n := sysF 0 (r.den E.ι) (s.den E.ι) } := by rw [← hnv]; simp
          have u0 : Nat.blt σ.h.giv.nv (Unk.nv { E.ι with fv := E.ι.fv ++ [({ n := sysF 0 (r.den E.ι) (s.den E.ι) } : Fv)] }) = true := blt_iff.2 (List.getElem?_eq_some_iff.1 f0).1
          have n0 : (IE.fv σ.h.giv.nv).den { E.ι with fv := E.ι.fv ++ [({ n := sysF 0 (r.den E.ι) (s.den E.ι) } : Fv)] } = sysF 0 (r.den E.ι) (s.den E.ι) := by simp only [IE.den, Unk.fn, f0]; rfl
          have hbnd : -1 ≤ sysF 0 (r.den E.ι) (s.den E.ι) ∧ sysF 0 (r.den E.ι) (s.den E.ι) ≤ 1 := by
            simp only [sysF, Extern.BytealgCompare.cmp]
            split
            · split <;> decide
            · split
              · decide
              · split <;> decide
          refine ⟨_, _, _, .int .i64 (.fv σ.h.giv.nv), .int .i64 (sysF 0 (r.den E.ι) (s.den E.ι)), rfl, ?_, ?_, fun f hf => ?_, x1⟩
          · simp only [execOp, resolve, Deferred.ofValue, he, Sem.run_bind, Sem.run_pure, Result.andThen_ok, invoke]
            rw [run_callFunc_extern hfn hnm hnb (by simpa using hname.2) (find_compare hname.1.2), hargs0, hpq]
            have hcmp : Extern.BytealgCompare.compare [pv, qv].toArray = (do pure (goInt (Extern.BytealgCompare.cmp (← Extern.Bytes.bytesOf pv) (← Extern.Bytes.bytesOf qv)))) := rfl
            rw [hcmp]
            simp only [Sem.run_bind, r2, s2, Result.andThen_ok, Sem.run_pure]
            rfl
          · have hd : AV.den ⟨E.ρ, E.κ, { E.ι with fv := E.ι.fv ++ [({ n := sysF 0 (r.den E.ι) (s.den E.ι) } : Fv)] }⟩ (.int .i64 (.fv σ.h.giv.nv)) = some (.int .i64 ((IE.fv σ.h.giv.nv).den { E.ι with fv := E.ι.fv ++ [({ n := sysF 0 (r.den E.ι) (s.den E.ι) } : Fv)] })) := if_pos u0
            rw [n0] at hd
            exact hd
          · simp only [List.mem_cons, List.not_mem_nil, or_false] at hf
            rcases hf with rfl | rfl | rfl
            · refine ⟨by simp only [BE.upto, IE.upto, u0, RX.below_le hle.nv r1, RX.below_le hle.nv s1, Bool.and_self], ?_⟩
              simp only [BE.den, n0, RX.den_le hle r1, RX.den_le hle s1, decide_true]
            · exact ⟨by simp only [BE.upto, IE.upto, u0, Bool.and_self], by simp only [BE.den, intCmp, Option.getD_some]; rw [n0]; exact decide_eq_true hbnd.1⟩
            · exact ⟨by simp only [BE.upto, IE.upto, u0, Bool.and_self], by simp only [BE.den, intCmp, Option.getD_some]; rw [n0]; exact decide_eq_true hbnd.2⟩
        · cases h
      · cases h
    · cases h
  · cases h

/-! ### A text's letters, one by one -/

theorem dec_low {s : ByteArray} {i : Nat} (h : (s.get! i).toNat < 128) : Utf8.decode s i = ((s.get! i).toNat, 1) := by
  rw [Lib.decode_at]
  unfold Lib.decodeN
  rw [if_pos h]
theorem dec_high {s : ByteArray} {i : Nat} (h : 128 ≤ (s.get! i).toNat) : 128 ≤ (Utf8.decode s i).1 ∧ (Utf8.decode s i).1 ≤ 1114111 := by
  have hb := UInt8.toNat_lt (s.get! i)
  rw [Lib.decode_at]
  unfold Lib.decodeN
  rw [if_neg (by omega)]
  repeat' split
  all_goals (simp only; omega)
theorem get_lt {l : List UInt8} {i : Nat} (h : i < l.length) : (⟨l.toArray⟩ : ByteArray).get! i = l[i] := by
  simp only [ByteArray.get!]
  rw [getElem!_pos _ i (by simpa using h)]
  simp
theorem letter_den {ι : Unk} {x : TX} {i : Nat} {c : IE} (h : letter x i = some c) (hx : x.upto ι.nv = true) (hi : i < (x.den ι).length) :
    c.upto ι.nv = true ∧ c.den ι = (((⟨(x.den ι).toArray⟩ : ByteArray).get! i).toNat : Int) := by
  unfold letter at h
  split at h
  · rename_i s
    injection h with h
    subst h
    refine ⟨by simpa [IE.upto, TX.upto] using hx, ?_⟩
    rw [get_lt hi]
    have hi' : i < (ι.ft s).length := hi
    show (((ι.ft s)[((i : Nat) : Int).toNat]?).map fun (b : UInt8) => (b.toNat : Int)).getD 0 = _
    rw [Int.toNat_natCast, List.getElem?_eq_getElem hi']
    rfl
  · cases h
theorem tuple3_den {E : Env} {a b c : AV} {x y z : Value} (h1 : a.den E = some x) (h2 : b.den E = some y) (h3 : c.den E = some z) : (AV.tuple [a, b, c]).den E = some (.tuple #[x, y, z]) := by
  have h : AV.denL E [a, b, c] = some [x, y, z] := denL_cons.2 ⟨_, _, h1, denL_cons.2 ⟨_, _, h2, denL_cons.2 ⟨_, _, h3, rfl, rfl⟩, rfl⟩, rfl⟩
  simp only [AV.den, h, Option.map_some]
theorem symNext_sound (hSl : Slots E D σ.tmps a) (hw : WR E B σ.h w) (hp : ∀ b ∈ σ.pc, b.den E.ι = true) {o : Oper} (hc : ∀ x ∈ o.op.operands, Clear D x) {σ' : St} (h : symNext σ o = some σ') :
    ∃ (E' : Env) (h' : Hp) (fs : List BE) (v : AV) (x : Value) (w' : World), σ' = { σ with h := h', pc := fs ++ σ.pc }.put o.dst v ∧ (execOp a.eval o).run P w = .ok (.value x) w' ∧ v.den E' = some x ∧ (∀ f ∈ fs, f.holds E'.ι) ∧ Ext E B w E' h' w' := by
  have hr := hw.giv.rules
  obtain ⟨dst, op, type, pos, after, guard⟩ := o
  unfold symNext at h
  simp only at h hc
  split at h
  · rename_i it
    split at h
    · rename_i b hit
      have hd := opnd_den hSl (hc it (by simp [Op.operands])) hit
      obtain ⟨c, hcb, he⟩ := denPtr hd
      split at h
      · rename_i x q hbs
        obtain ⟨ob, hob, hrel⟩ := hw.obj b c _ hcb hbs
        simp only [ORel] at hrel
        obtain ⟨hx, rfl⟩ := hrel
        have hg := getObj_run (P := P) hob (fun _ _ _ h => by cases h)
        split at h
        · rename_i n e hn hl
          obtain ⟨ln, _⟩ := lenX_sound hr hp hn hx
          have hsz : (⟨(x.den E.ι).toArray⟩ : ByteArray).size = (x.den E.ι).length := by simp [ByteArray.size]
          split at h
          · rename_i hle
            injection h with h
            subst h
            have h1 := leB_sound hr hp hle
            rw [ln] at h1
            simp only [IE.den] at h1
            have hns : ¬ q < (⟨(x.den E.ι).toArray⟩ : ByteArray).size := by rw [hsz]; omega
            exact ⟨E, σ.h, [], _, .tuple #[.bool false], w, rfl, by simp [execOp, Instr.next, he, hg, hns], by simp [AV.den, AV.denL, BE.den], fun _ hf => absurd hf List.not_mem_nil, .refl hw⟩
          · split at h
            · rename_i hlt
              have h1 := ltB_sound hr hp hlt
              rw [ln] at h1
              simp only [IE.den] at h1
              have hlt' : q < (x.den E.ι).length := by omega
              have hns : q < (⟨(x.den E.ι).toArray⟩ : ByteArray).size := by rw [hsz]; exact hlt'
              obtain ⟨ue, de⟩ := letter_den hl hx hlt'
              split at h
              · rename_i hlow
                injection h with h
                subst h
                have h2 := ltB_sound hr hp hlow
                rw [de] at h2
                simp only [IE.den] at h2
                have hdec := dec_low (s := ⟨(x.den E.ι).toArray⟩) (i := q) (by omega)
                obtain ⟨hset, hext⟩ := setObj_sound (P := P) (o' := .txtIter x (q + 1)) (ob := .stringIter ⟨(x.den E.ι).toArray⟩ (q + 1)) hw hcb hbs rfl rfl ⟨hx, rfl⟩
                refine ⟨E, _, [], _, .tuple #[.bool true, goInt q, .int .i32 ((((⟨(x.den E.ι).toArray⟩ : ByteArray).get! q).toNat : Nat) : Int)], _, rfl, by simp [execOp, Instr.next, he, hg, hns, hdec, hset], ?_, fun _ hf => absurd hf List.not_mem_nil, hext⟩
                have h3 : (AV.int .i32 e).den E = some (.int .i32 (e.den E.ι)) := if_pos ue
                rw [de] at h3
                exact tuple3_den rfl rfl h3
              · split at h
                · rename_i hhigh
                  injection h with h
                  subst h
                  have h2 := leB_sound hr hp hhigh
                  rw [de] at h2
                  simp only [IE.den] at h2
                  obtain ⟨g1, g2⟩ := dec_high (s := ⟨(x.den E.ι).toArray⟩) (i := q) (by omega)
                  generalize hR : Utf8.decode ⟨(x.den E.ι).toArray⟩ q = R at g1 g2
                  have x1 := fresh_ext (h := σ.h) hw { n := (R.1 : Int) }
                  have hnv : E.ι.fv.length = σ.h.giv.nv := hw.giv.nv
                  have f0 : (E.ι.fv ++ [({ n := (R.1 : Int) } : Fv)])[σ.h.giv.nv]? = some { n := (R.1 : Int) } := by rw [← hnv]; simp
                  have u0 : Nat.blt σ.h.giv.nv (Unk.nv { E.ι with fv := E.ι.fv ++ [({ n := (R.1 : Int) } : Fv)] }) = true := blt_iff.2 (List.getElem?_eq_some_iff.1 f0).1
                  have n0 : (IE.fv σ.h.giv.nv).den { E.ι with fv := E.ι.fv ++ [({ n := (R.1 : Int) } : Fv)] } = (R.1 : Int) := by simp only [IE.den, Unk.fn, f0]; rfl
                  obtain ⟨hset, hext⟩ := setObj_sound (P := P) (o' := .free) (ob := .stringIter ⟨(x.den E.ι).toArray⟩ (q + R.2)) x1.wr hcb hbs rfl rfl trivial
                  refine ⟨_, _, _, _, .tuple #[.bool true, goInt q, .int .i32 (R.1 : Int)], _, rfl, by simp [execOp, Instr.next, he, hg, hns, hR, hset], ?_, fun f hf => ?_, x1.trans hext⟩
                  · have h3 : AV.den ⟨E.ρ, E.κ, { E.ι with fv := E.ι.fv ++ [({ n := (R.1 : Int) } : Fv)] }⟩ (.int .i32 (.fv σ.h.giv.nv)) = some (.int .i32 ((IE.fv σ.h.giv.nv).den { E.ι with fv := E.ι.fv ++ [({ n := (R.1 : Int) } : Fv)] })) := if_pos u0
                    rw [n0] at h3
                    exact tuple3_den rfl rfl h3
                  · simp only [List.mem_cons, List.not_mem_nil, or_false] at hf
                    rcases hf with rfl | rfl
                    · exact ⟨by simp only [BE.upto, IE.upto, u0, Bool.and_self], by simp only [BE.den, intCmp, Option.getD_some]; rw [n0]; exact decide_eq_true (by simp only [IE.den]; omega)⟩
                    · exact ⟨by simp only [BE.upto, IE.upto, u0, Bool.and_self], by simp only [BE.den, intCmp, Option.getD_some]; rw [n0]; exact decide_eq_true (by simp only [IE.den]; omega)⟩
                · cases h
            · cases h
        · cases h
      · cases h
    · cases h
  · cases h

end
end Go.Sx
