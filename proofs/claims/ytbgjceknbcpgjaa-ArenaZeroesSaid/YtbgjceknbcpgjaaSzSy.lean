/-
  A WALKER THAT COMPUTES: slices and texts of unknown lengths.
-/
import Derived.Test.YtbgjceknbcpgjaaSzHe
namespace Go.Sx
section
variable {P : Program} {E : Env} {D : Nat → Prop} {tmps : List AV} {a : Act} {rs : List Rule} {pc : List BE} {B : Bd} {h : Hp} {w : World}

theorem padTo_self {n : Nat} {l : List UInt8} (h : l.length = n) : padTo n l = l := by
  subst h
  simp [padTo]

theorem toNat_lt_nat {i : Int} {n : Nat} (h0 : 0 ≤ i) (h : i < (n : Int)) : i.toNat < n := by omega

theorem padTo_length (n : Nat) (l : List UInt8) : (padTo n l).length = n := by
  simp only [padTo, List.length_append, List.length_take, List.length_replicate]
  omega

theorem lenX_sound (hr : RulesOk rs E.ι) (hp : ∀ b ∈ pc, b.den E.ι = true) : ∀ {x : TX} {e : IE}, lenX rs pc x = some e → x.upto E.ι.nv = true → e.den E.ι = ((x.den E.ι).length : Int) ∧ e.upto E.ι.nv = true
  | .lit s, e, h, hu => by simp only [lenX, Option.some.injEq] at h; subst h; exact ⟨rfl, rfl⟩
  | .rig s, e, h, hu => by simp only [lenX, Option.some.injEq] at h; subst h; exact ⟨rfl, rfl⟩
  | .fv s, e, h, hu => by simp only [lenX, Option.some.injEq] at h; subst h; exact ⟨rfl, hu⟩
  | .lits s, e, h, hu => by simp only [lenX, Option.some.injEq] at h; subst h; exact ⟨by simp only [IE.den, TX.den, List.length_map], rfl⟩
  | .row r o n, e, h, hu => by
    simp only [lenX] at h
    split at h
    · rename_i hc
      injection h with h
      subst h
      have := leB_sound hr hp hc
      simp only [IE.den] at this
      simp only [TX.upto, Bool.and_eq_true] at hu
      exact ⟨by simp only [TX.den, padTo_length]; omega, hu.2.2⟩
    · cases h
  | .sub x o n, e, h, hu => by
    simp only [lenX] at h
    split at h
    · rename_i hc
      injection h with h
      subst h
      have := leB_sound hr hp hc
      simp only [IE.den] at this
      simp only [TX.upto, Bool.and_eq_true] at hu
      exact ⟨by simp only [TX.den, padTo_length]; omega, hu.2.2⟩
    · cases h
  | .cat x y, e, h, hu => by
    simp only [lenX, Option.bind_eq_bind, Option.bind_eq_some_iff, Option.pure_def, Option.some.injEq] at h
    obtain ⟨a, ha, b, hb, rfl⟩ := h
    simp only [TX.upto, Bool.and_eq_true] at hu
    obtain ⟨a1, a2⟩ := lenX_sound hr hp ha hu.1
    obtain ⟨b1, b2⟩ := lenX_sound hr hp hb hu.2
    exact ⟨by rw [mkOff_den, a1, b1]; simp only [TX.den, List.length_append, Int.natCast_add], mkOff_below a2 b2⟩

theorem txOf_sound {v : AV} {x : TX} {z : Value} (h : txOf v = some x) (hz : v.den E = some z) : z = .string ⟨(x.den E.ι).toArray⟩ ∧ x.upto E.ι.nv = true := by
  unfold txOf at h
  split at h
  · injection h with h; subst h; exact ⟨denStr hz, rfl⟩
  · injection h with h; subst h; exact ⟨denStrv hz, rfl⟩
  · injection h with h; subst h; exact denTxt hz
  · cases h

theorem bndOf_sound {d l : IE} {x : Option AV} {x' : Option Value} (h : bndOf d x = some l) (hx : denO E x x') (hd : d.upto E.ι.nv = true) : l.upto E.ι.nv = true ∧ ((x' = none ∧ l = d) ∨ ∃ k, x' = some (.int k (l.den E.ι))) := by
  unfold bndOf at h
  split at h
  · injection h with h
    subst h
    cases x' with
    | none => exact ⟨hd, Or.inl ⟨rfl, rfl⟩⟩
    | some v => exact hx.elim
  · rename_i k e
    injection h with h
    subst h
    cases x' with
    | none => exact hx.elim
    | some v =>
      have hx : AV.den E (.int k e) = some v := hx
      exact ⟨denI hx, Or.inr ⟨k, by rw [denInt hx]⟩⟩
  · cases h
theorem sliceBounds_ok {q : Bool} (w : World) {len cap l h : Nat} {lo' hi' : Option Value} (hlo : (lo' = none ∧ l = 0) ∨ ∃ k, lo' = some (.int k (l : Int))) (hhi : (hi' = none ∧ h = len) ∨ ∃ k, hi' = some (.int k (h : Int))) (h1 : l ≤ h) (h2 : h ≤ cap) :
    (Instr.sliceBounds q len cap lo' hi' none).run P w = .ok (l, h, cap) w := by
  have h1' : (l : Int) ≤ (h : Int) := by omega
  have h2' : (h : Int) ≤ (cap : Int) := by omega
  rcases hlo with ⟨rfl, rfl⟩ | ⟨k, rfl⟩ <;> rcases hhi with ⟨rfl, rfl⟩ | ⟨k', rfl⟩ <;>
    simp [Instr.sliceBounds, Instr.sliceBound, asIntOf, h1, h2]

theorem symPure_sound {o : Oper} {v : AV} (hr : RulesOk rs E.ι) (hp : ∀ b ∈ pc, b.den E.ι = true) (hS : Slots E D tmps a) (hc : ∀ x ∈ o.op.operands, Clear D x) (h : symPure P rs pc tmps o = some v) :
    ∃ z, v.den E = some z ∧ ∀ w, (execOp a.eval o).run P w = .ok (.value z) w := by
  obtain ⟨dst, op, type, pos, after, guard⟩ := o
  unfold symPure at h
  simp only at h hc
  split at h
  · -- indexAddr
    rename_i t x i
    simp only [Option.bind_eq_bind, Option.bind_eq_some_iff] at h
    obtain ⟨p, hpx, q, hqx, h⟩ := h
    have hx := opnd_den hS (hc x (by simp [Op.operands])) hpx
    have hi := opnd_den hS (hc i (by simp [Op.operands])) hqx
    split at h
    · rename_i e b z q o len cap k j hd
      split at h
      · rename_i hcond
        simp only [Bool.and_eq_true, decide_eq_true_eq] at hcond
        obtain ⟨⟨hz, h1⟩, h2⟩ := hcond
        injection h with h
        subst h
        have l1 := leB_sound hr hp h1
        have l2 := ltB_sound hr hp h2
        have bi := denI hi
        have ei := denInt hi
        obtain ⟨⟨b0, b1, b2, b3⟩, ⟨g1, g2, g3⟩, c, hcb, ex⟩ := denSl hx
        simp only [IE.den] at l1
        refine ⟨.pointer (some ⟨c, (q.den E.ι).toNat + ((IE.mkOff o j).den E.ι).toNat * z + 0, none⟩), ?_, fun w => ?_⟩
        · simp only [AV.den]
          rw [if_pos ⟨by simp only [b0, mkOff_below b1 bi, Bool.and_self], by rw [mkOff_den]; omega⟩, hcb]
          rfl
        · have e1 : (q.den E.ι).toNat + ((IE.mkOff o j).den E.ι).toNat * z + 0 = (q.den E.ι).toNat + (o.den E.ι).toNat * z + (j.den E.ι).toNat * z := by
            rw [mkOff_den, Int.toNat_add g1 l1, Nat.add_mul, Nat.add_zero, Nat.add_assoc]
          have e2 : j.den E.ι < ((len.den E.ι).toNat : Int) := by omega
          rw [e1]
          simp [execOp, Instr.indexAt, asIntOf, ei, ex, run_underlying hd, l1, run_size hz, Addr.add_lit]
          intro hh
          omega
      · cases h
    · rename_i e b o len n k j hd
      simp only [Option.bind_eq_some_iff] at h
      obtain ⟨z, hz, h⟩ := h
      split at h
      · rename_i hcond
        simp only [Bool.and_eq_true, decide_eq_true_eq] at hcond
        obtain ⟨⟨⟨hz0, hoz⟩, h1⟩, h2⟩ := hcond
        injection h with h
        subst h
        have l1 := leB_sound hr hp h1
        have l2 := ltB_sound hr hp h2
        have bi := denI hi
        have ei := denInt hi
        obtain ⟨c, m, hcb, hm, hlen, ex⟩ := denSlice hx
        simp only [IE.den] at l1 l2
        refine ⟨.pointer (some ⟨c, ((IE.lit 0).den E.ι).toNat + ((IE.mkOff (.lit (o / z : Nat)) j).den E.ι).toNat * z + 0, none⟩), ?_, fun w => ?_⟩
        · simp only [AV.den]
          rw [if_pos ⟨by rw [below_lit, mkOff_below rfl bi]; rfl, by rw [mkOff_den]; exact Int.add_nonneg (Int.natCast_nonneg _) l1⟩, hcb]
          rfl
        · have e1 : ((IE.lit 0).den E.ι).toNat + ((IE.mkOff (.lit (o / z : Nat)) j).den E.ι).toNat * z + 0 = o + (j.den E.ι).toNat * z := by
            rw [mkOff_den]
            simp only [IE.den, Int.toNat_zero, Nat.zero_add]
            rw [Int.toNat_add (Int.natCast_nonneg _) l1, Nat.add_mul, Nat.add_zero, Int.toNat_natCast]
            rw [Nat.div_mul_cancel (Nat.dvd_of_mod_eq_zero hoz)]
          rw [e1]
          simp [execOp, Instr.indexAt, asIntOf, ei, ex, run_underlying hd, l1, l2, run_size hz, Addr.add_lit]
      · cases h
    · rename_i len e b o k j hd
      simp only [Option.bind_eq_some_iff] at h
      obtain ⟨z, hz, h⟩ := h
      split at h
      · rename_i hcond
        simp only [Bool.and_eq_true, decide_eq_true_eq] at hcond
        obtain ⟨⟨⟨hz0, hoz⟩, h1⟩, h2⟩ := hcond
        injection h with h
        subst h
        have l1 := leB_sound hr hp h1
        have l2 := ltB_sound hr hp h2
        have bi := denI hi
        have ei := denInt hi
        obtain ⟨c, hcb, ex⟩ := denPtr hx
        simp only [IE.den] at l1 l2
        refine ⟨.pointer (some ⟨c, ((IE.lit 0).den E.ι).toNat + ((IE.mkOff (.lit (o / z : Nat)) j).den E.ι).toNat * z + 0, none⟩), ?_, fun w => ?_⟩
        · simp only [AV.den]
          rw [if_pos ⟨by rw [below_lit, mkOff_below rfl bi]; rfl, by rw [mkOff_den]; exact Int.add_nonneg (Int.natCast_nonneg _) l1⟩, hcb]
          rfl
        · have e1 : ((IE.lit 0).den E.ι).toNat + ((IE.mkOff (.lit (o / z : Nat)) j).den E.ι).toNat * z + 0 = o + (j.den E.ι).toNat * z := by
            rw [mkOff_den]
            simp only [IE.den, Int.toNat_zero, Nat.zero_add]
            rw [Int.toNat_add (Int.natCast_nonneg _) l1, Nat.add_mul, Nat.add_zero, Int.toNat_natCast]
            rw [Nat.div_mul_cancel (Nat.dvd_of_mod_eq_zero hoz)]
          rw [e1]
          simp [execOp, Instr.indexAt, asIntOf, ei, ex, run_underlying hd, Instr.sureAddr, l1, l2, run_size hz, Addr.add_lit]
      · cases h
    · cases h
  · -- fieldAddr
    rename_i t x f
    simp only [Option.bind_eq_bind, Option.bind_eq_some_iff] at h
    obtain ⟨p, hpx, h⟩ := h
    have hx := opnd_den hS (hc x (by simp [Op.operands])) hpx
    split at h
    · rename_i fs b z q i o hd
      simp only [Option.bind_eq_some_iff] at h
      obtain ⟨fd, hf, n, hn, h⟩ := h
      split at h
      · cases h
      · rename_i hn0
        simp only [Option.pure_def] at h
        injection h with h
        subst h
        obtain ⟨b1, g1, c, hcb, ex⟩ := denPtrs hx
        refine ⟨.pointer (some ⟨c, (q.den E.ι).toNat + (i.den E.ι).toNat * z + (o + fd.offset), none⟩), ?_, fun w => ?_⟩
        · simp only [AV.den]
          rw [if_pos ⟨by simp only [b1.1, b1.2, Bool.and_self], g1⟩, hcb]
          rfl
        · simp [execOp, Instr.fieldAt, ex, run_underlying hd, hf, Instr.sureAddr, fieldPlace, run_size hn, hn0, Addr.add_lit, Nat.add_assoc]
    · cases h
  · -- a letter of a text
    rename_i t x i
    simp only [Option.bind_eq_bind, Option.bind_eq_some_iff] at h
    obtain ⟨p, hpx, q, hqx, h⟩ := h
    have hx := opnd_den hS (hc x (by simp [Op.operands])) hpx
    have hi := opnd_den hS (hc i (by simp [Op.operands])) hqx
    split at h
    · rename_i s k j hd
      split at h
      · rename_i hcond
        simp only [Bool.and_eq_true] at hcond
        obtain ⟨h1, h2⟩ := hcond
        injection h with h
        subst h
        have l1 := leB_sound hr hp h1
        have l2 := ltB_sound hr hp h2
        have bi := denI hi
        have ei := denInt hi
        obtain ⟨ex, bx⟩ := denTxt hx
        simp only [IE.den] at l1 l2
        simp only [TX.upto] at bx
        have hlt : (j.den E.ι).toNat < (E.ι.ft s).length := toNat_lt_nat l1 l2
        refine ⟨.int .u8 ((IE.chr s j).den E.ι), den_int (by simp only [IE.upto, Bool.and_eq_true]; exact ⟨bx, bi⟩), fun w => ?_⟩
        have hg : (⟨(E.ι.ft s).toArray⟩ : ByteArray)[(j.den E.ι).toNat]? = (E.ι.ft s)[(j.den E.ι).toNat]? := bytes_get _ _
        have e1 : (IE.chr s j).den E.ι = (((E.ι.ft s)[(j.den E.ι).toNat]'hlt).toNat : Int) := by
          simp only [IE.den, List.getElem?_eq_getElem hlt, Option.map_some, Option.getD_some]
        rw [e1]
        have hs : (⟨(E.ι.ft s).toArray⟩ : ByteArray).size = (E.ι.ft s).length := by simp [ByteArray.size]
        simp [execOp, Instr.index, asIntOf, ei, ex, TX.den, run_underlying hd, l1, l2, hs]
        rfl
      · cases h
    · rename_i s k j hd
      split at h
      · rename_i hcond
        simp only [Bool.and_eq_true] at hcond
        obtain ⟨h1, h2⟩ := hcond
        injection h with h
        subst h
        have l1 := leB_sound hr hp h1
        have l2 := ltB_sound hr hp h2
        have bi := denI hi
        have ei := denInt hi
        have ex := denStr hx
        simp only [IE.den] at l1 l2
        have hlt : (j.den E.ι).toNat < s.length := toNat_lt_nat l1 l2
        refine ⟨.int .u8 ((IE.tab s j).den E.ι), den_int (by simp only [IE.upto]; exact bi), fun w => ?_⟩
        have hg : (⟨s.toArray⟩ : ByteArray)[(j.den E.ι).toNat]? = s[(j.den E.ι).toNat]? := bytes_get _ _
        have e1 : (IE.tab s j).den E.ι = ((s[(j.den E.ι).toNat]'hlt).toNat : Int) := by
          simp only [IE.den, List.getElem?_eq_getElem hlt, Option.map_some, Option.getD_some]
        rw [e1]
        have hs : (⟨s.toArray⟩ : ByteArray).size = s.length := by simp [ByteArray.size]
        simp [execOp, Instr.index, asIntOf, ei, ex, run_underlying hd, l1, l2, hs]
        rfl
      · cases h
    · cases h
  · -- a sum of texts
    rename_i t x y yt
    split at h
    · rename_i hd
      simp only [Option.bind_eq_bind, Option.bind_eq_some_iff] at h
      obtain ⟨p, hpx, p', hp', q, hqx, q', hq', la, hla, lb, hlb, h⟩ := h
      have hx := opnd_den hS (hc x (by simp [Op.operands])) hpx
      have hy := opnd_den hS (hc y (by simp [Op.operands])) hqx
      split at h
      · rename_i hcond
        injection h with h
        subst h
        obtain ⟨ex, bx⟩ := txOf_sound hp' hx
        obtain ⟨ey, bY⟩ := txOf_sound hq' hy
        obtain ⟨a1, _⟩ := lenX_sound hr hp hla bx
        obtain ⟨b1, _⟩ := lenX_sound hr hp hlb bY
        have l1 := leB_sound hr hp hcond
        rw [mkOff_den, a1, b1] at l1
        simp only [IE.den] at l1
        refine ⟨_, den_txt (by simp only [TX.upto, bx, bY, Bool.and_self]), fun w => ?_⟩
        have hrun := run_string_add_sum (P := P) w ⟨(p'.den E.ι).toArray⟩ ⟨(q'.den E.ι).toArray⟩ (by simp only [ByteArray.size, List.size_toArray]; omega)
        simp [execOp, ex, ey, eqGuard_at_string, binOp_string_add, hrun, TX.den, ByteArray.mk_append_mk]
      · cases h
    · cases h
  · -- binOp
    rename_i op t x y yt _
    simp only [Option.bind_eq_bind, Option.bind_eq_some_iff] at h
    obtain ⟨p, hpx, q, hqx, h⟩ := h
    have hx := opnd_den hS (hc x (by simp [Op.operands])) hpx
    have hy := opnd_den hS (hc y (by simp [Op.operands])) hqx
    split at h
    · rename_i e b z q o n c hd
      obtain ⟨_, _, c', hcb, ex⟩ := denSl hx
      have ey := denNilSlice hy
      have key := nilCmp (P := P) (E := E) (op := op) (t := t) (x := x) (y := y) (u := a.eval x) (v := a.eval y) (Q := True) h (by rw [ex, ey]; exact eqGuard_at_slice _ _ _ _ _ _ _ _) (by rw [ex, ey]; rfl) (by rw [ex, ey]; rfl) (fun d w => by rw [ex, ey]; simp [Op.equalIn, run_underlying hd])
      obtain ⟨z', hz', hrun⟩ := key
      refine ⟨z', hz', fun w => ?_⟩
      have := hrun w
      simp only [execOp, Sem.run_bind] at this ⊢
      rw [this]
      rfl
    · rename_i x' y' hd
      obtain ⟨ex, bx⟩ := denTxt hx
      obtain ⟨ey, bY⟩ := denTxt hy
      split at h
      · injection h with h; subst h
        exact ⟨_, den_bool (by simp [BE.upto, bx, bY]), fun w => by simp [execOp, ex, ey, eqGuard_at_string, run_eql_string, BE.den]⟩
      · injection h with h; subst h
        exact ⟨_, den_bool (by simp [BE.upto, bx, bY]), fun w => by simp [execOp, ex, ey, eqGuard_at_string, run_neq_string, BE.den]⟩
      · cases h
    · rename_i x' s hd
      obtain ⟨ex, bx⟩ := denTxt hx
      have ey := denStr hy
      split at h
      · injection h with h; subst h
        refine ⟨_, den_bool (by simp [BE.upto, bx, TX.upto]), fun w => ?_⟩
        simp only [execOp, ex, ey, eqGuard_at_string, run_eql_string, BE.den, TX.den, Sem.run_bind, Sem.run_pure, Result.andThen_ok]
        congr
      · injection h with h; subst h
        refine ⟨_, den_bool (by simp [BE.upto, bx, TX.upto]), fun w => ?_⟩
        simp only [execOp, ex, ey, eqGuard_at_string, run_neq_string, BE.den, TX.den, Sem.run_bind, Sem.run_pure, Result.andThen_ok]
        congr
      · cases h
    · rename_i s x' hd
      obtain ⟨ex, bx⟩ := denTxt hy
      have ey := denStr hx
      split at h
      · injection h with h; subst h
        exact ⟨_, den_bool (by simp [BE.upto, bx, TX.upto]), fun w => by simp [execOp, ex, ey, eqGuard_at_string, run_eql_string, BE.den, TX.den, eq_comm]⟩
      · injection h with h; subst h
        exact ⟨_, den_bool (by simp [BE.upto, bx, TX.upto]), fun w => by simp [execOp, ex, ey, eqGuard_at_string, run_neq_string, BE.den, TX.den, eq_comm]⟩
      · cases h
    · rename_i x' i hd
      obtain ⟨ex, bx⟩ := denTxt hx
      have ey := denStrv hy
      split at h
      · injection h with h; subst h
        refine ⟨_, den_bool (by simp [BE.upto, bx, TX.upto]), fun w => ?_⟩
        simp only [execOp, ex, ey, eqGuard_at_string, run_eql_string, BE.den, TX.den, Sem.run_bind, Sem.run_pure, Result.andThen_ok]
        congr
      · injection h with h; subst h
        refine ⟨_, den_bool (by simp [BE.upto, bx, TX.upto]), fun w => ?_⟩
        simp only [execOp, ex, ey, eqGuard_at_string, run_neq_string, BE.den, TX.den, Sem.run_bind, Sem.run_pure, Result.andThen_ok]
        congr
      · cases h
    · rename_i k a' k' b'
      have ba := denI hx
      have bb := denI hy
      have ex := denInt hx
      have ey := denInt hy
      have fin : ∀ r, intBin op k (a'.den E.ι) (b'.den E.ι) = some r → (op = .shl ∨ op = .shr ∨ k = k') → ∃ z, (AV.int k (.bin op k a' b')).den E = some z ∧ ∀ w, (execOp a.eval ⟨dst, .binOp op t x y yt, type, pos, after, guard⟩).run P w = .ok (.value z) w := fun r hr' ho => by
        refine ⟨_, den_int (by simp only [IE.upto, ba, bb, Bool.and_self]), fun w => ?_⟩
        simp only [execOp, ex, ey, eqGuard_at_int, Sem.run_bind, Sem.run_pure, Result.andThen_ok, binOp_int t hr' ho, IE.den, hr', Option.getD_some]
      split at h
      · split at h
        · rename_i hc'
          simp only [Bool.and_eq_true, decide_eq_true_eq] at hc'
          obtain ⟨rfl, hc'⟩ := hc'
          have hc' := ltB_sound hr hp hc'
          simp only [IE.den] at hc'
          injection h with h; subst h
          exact fin _ (by simp only [intBin]; rw [if_neg (by omega)]) (Or.inr (Or.inr rfl))
        · cases h
      · split at h
        · rename_i hc'
          simp only [Bool.and_eq_true, decide_eq_true_eq] at hc'
          obtain ⟨rfl, hc'⟩ := hc'
          have hc' := ltB_sound hr hp hc'
          simp only [IE.den] at hc'
          injection h with h; subst h
          exact fin _ (by simp only [intBin]; rw [if_neg (by omega)]) (Or.inr (Or.inr rfl))
        · cases h
      · split at h
        · rename_i hc'
          have hc' := leB_sound hr hp hc'
          simp only [IE.den] at hc'
          injection h with h; subst h
          exact fin _ (by simp only [intBin]; rw [if_neg (by omega)]) (Or.inl rfl)
        · cases h
      · split at h
        · rename_i hc'
          have hc' := leB_sound hr hp hc'
          simp only [IE.den] at hc'
          injection h with h; subst h
          exact fin _ (by simp only [intBin]; rw [if_neg (by omega)]) (Or.inr (Or.inl rfl))
        · cases h
      · cases h
    · cases h
  · -- len
    rename_i args ts
    simp only [Option.bind_eq_bind, Option.bind_eq_some_iff] at h
    obtain ⟨t, ht, xs, hxs, h⟩ := h
    have hl := args1_den hS (fun z hz => hc z (by simp only [Op.operands, Call.operands]; exact Array.mem_append.2 (Or.inr (Array.mem_toList_iff.1 hz)))) hxs
    rw [exec_builtin rfl, args_toArray]
    split at h
    · rename_i e' b z q o n c hd
      injection h with h
      subst h
      obtain ⟨y, m, hy, hm, e⟩ := denL_cons.1 hl
      simp [AV.denL] at hm
      subst hm
      obtain ⟨⟨b0, b1, b2, b3⟩, ⟨g1, g2, g3⟩, c', hcb, ex⟩ := denSl hy
      refine ⟨_, den_int b2, fun w => ?_⟩
      have : ((n.den E.ι).toNat : Int) = n.den E.ι := by omega
      simp [builtin, Builtin.len_, ht, e, ex, run_underlying hd, goInt, this]
    · rename_i s hd
      simp only [Option.map_eq_some_iff] at h
      obtain ⟨le, hle, rfl⟩ := h
      obtain ⟨y, m, hy, hm, e⟩ := denL_cons.1 hl
      simp [AV.denL] at hm
      subst hm
      obtain ⟨ex, bx⟩ := denTxt hy
      obtain ⟨a1, a2⟩ := lenX_sound hr hp hle bx
      refine ⟨_, den_int a2, fun w => ?_⟩
      have hs : (⟨(s.den E.ι).toArray⟩ : ByteArray).size = (s.den E.ι).length := by simp [ByteArray.size]
      simp [builtin, Builtin.len_, ht, e, ex, run_underlying hd, goInt, a1, hs]
    · cases h
  · -- cap
    rename_i args ts
    simp only [Option.bind_eq_bind, Option.bind_eq_some_iff] at h
    obtain ⟨t, ht, xs, hxs, h⟩ := h
    have hl := args1_den hS (fun z hz => hc z (by simp only [Op.operands, Call.operands]; exact Array.mem_append.2 (Or.inr (Array.mem_toList_iff.1 hz)))) hxs
    rw [exec_builtin rfl, args_toArray]
    split at h
    · rename_i e' b z q o n c hd
      injection h with h
      subst h
      obtain ⟨y, m, hy, hm, e⟩ := denL_cons.1 hl
      simp [AV.denL] at hm
      subst hm
      obtain ⟨⟨b0, b1, b2, b3⟩, ⟨g1, g2, g3⟩, c', hcb, ex⟩ := denSl hy
      refine ⟨_, den_int b3, fun w => ?_⟩
      have : ((c.den E.ι).toNat : Int) = c.den E.ι := by omega
      simp [builtin, Builtin.cap_, ht, e, ex, run_underlying hd, goInt, this]
    · cases h
  · -- the text of no bytes
    rename_i src dst' x
    simp only [Option.bind_eq_bind, Option.bind_eq_some_iff] at h
    obtain ⟨p, hpx, h⟩ := h
    have hx := opnd_den hS (hc x (by simp [Op.operands])) hpx
    split at h
    · rename_i e hsd hdd
      split at h
      · rename_i he
        injection h with h
        subst h
        have ex := denNilSlice hx
        refine ⟨.string ⟨#[]⟩, by simp [AV.den], fun w => ?_⟩
        have hrun : (convert src dst' (.slice none 0 0)).run P w = .ok (.string ⟨#[]⟩) w := by
          rw [run_convert_bytes_string w src dst' e none 0 0 hsd he hdd]
          rfl
        simp [execOp, ex, hrun]
      · cases h
    · cases h
  · -- a part of a row
    rename_i t x lo hi
    simp only [Option.bind_eq_bind, Option.bind_eq_some_iff] at h
    obtain ⟨p, hpx, lo1, hlo, hi1, hhi, h⟩ := h
    have hx := opnd_den hS (hc x (by simp [Op.operands])) hpx
    have dlo := opt1_den hS (fun y hy => hc y (by simp [Op.operands, hy])) hlo
    have dhi := opt1_den hS (fun y hy => hc y (by simp [Op.operands, hy])) hhi
    split at h
    · rename_i e b z q o n c hd
      simp only [Option.bind_eq_some_iff] at h
      obtain ⟨l, hl, u, hu, h⟩ := h
      split at h
      · rename_i hcond
        simp only [Bool.and_eq_true, Bool.or_eq_true, decide_eq_true_eq] at hcond
        obtain ⟨⟨⟨⟨hz, c1⟩, c2⟩, c3⟩, c4⟩ := hcond
        injection h with h
        subst h
        obtain ⟨⟨b0, b1, b2, b3⟩, ⟨g1, g2, g3⟩, cc, hcb, ex⟩ := denSl hx
        obtain ⟨ul, el⟩ := bndOf_sound hl dlo rfl
        obtain ⟨uu, eu⟩ := bndOf_sound hu dhi b2
        have l1 := leB_sound hr hp c1
        have l2 := leB_sound hr hp c2
        have l3 := leB_sound hr hp c3
        simp only [IE.den] at l1
        have hb := fun w => sliceBounds_ok (P := P) (q := true) w (len := (n.den E.ι).toNat) (cap := (c.den E.ι).toNat) (l := (l.den E.ι).toNat) (h := (u.den E.ι).toNat) (lo' := lo.map a.eval) (hi' := hi.map a.eval)
          (el.imp (fun h => ⟨h.1, by rw [h.2]; rfl⟩) (fun ⟨k, h⟩ => ⟨k, by rw [h, Int.toNat_of_nonneg l1]⟩)) (eu.imp (fun h => ⟨h.1, by rw [h.2]⟩) (fun ⟨k, h⟩ => ⟨k, by rw [h, Int.toNat_of_nonneg (by omega)]⟩)) (by omega) (by omega)
        refine ⟨.slice (some ⟨cc, (q.den E.ι).toNat + ((IE.mkOff o l).den E.ι).toNat * z, none⟩) ((IE.mkDif u l).den E.ι).toNat ((IE.mkDif c l).den E.ι).toNat, ?_, fun w => ?_⟩
        · simp only [AV.den]
          rw [if_pos ⟨by simp only [b0, mkOff_below b1 ul, mkDif_below uu ul, mkDif_below b3 ul, Bool.and_self], by rw [mkOff_den, mkDif_den, mkDif_den]; omega⟩, hcb]
          rfl
        · have h1 : ((IE.mkDif u l).den E.ι).toNat = (u.den E.ι).toNat - (l.den E.ι).toNat := by rw [mkDif_den]; omega
          have h2 : ((IE.mkDif c l).den E.ι).toNat = (c.den E.ι).toNat - (l.den E.ι).toNat := by rw [mkDif_den]; omega
          have h3 : ((IE.mkOff o l).den E.ι).toNat = (o.den E.ι).toNat + (l.den E.ι).toNat := by rw [mkOff_den]; omega
          rw [h1, h2, h3]
          have hsz := run_size hz (P := P)
          simp only [execOp, ex, Option.map_none, Instr.sliceAt, Instr.slice, Sem.run_bind, run_underlying hd, Result.andThen_ok, hb, run_size hz, Sem.run_pure]
          rcases c4 with c4 | c4
          · subst c4
            simp [IE.den, Addr.add_lit]
          · have l4 := ltB_sound hr hp c4
            rw [if_neg (by omega)]
            simp [Addr.add_lit, Nat.add_mul, Nat.add_assoc]
      · cases h
    · -- a letter of a known text
      rename_i s hd
      simp only [Option.bind_eq_some_iff] at h
      obtain ⟨l, hl, u, hu, h⟩ := h
      split at h
      · rename_i hcond
        simp only [Bool.and_eq_true, decide_eq_true_eq] at hcond
        obtain ⟨⟨rfl, c1⟩, c2⟩ := hcond
        injection h with h
        subst h
        have ex := denStr hx
        obtain ⟨ul, el⟩ := bndOf_sound hl dlo rfl
        obtain ⟨uu, eu⟩ := bndOf_sound hu dhi rfl
        have l1 := leB_sound hr hp c1
        have l2 := ltB_sound hr hp c2
        simp only [IE.den] at l1 l2
        have hlt : (l.den E.ι).toNat < s.length := toNat_lt_nat l1 l2
        have hsz : (⟨s.toArray⟩ : ByteArray).size = s.length := by simp [ByteArray.size]
        have eo : (IE.off l (.lit 1)).den E.ι = l.den E.ι + 1 := rfl
        have hb := fun w => sliceBounds_ok (P := P) (q := false) w (len := s.length) (cap := s.length) (l := (l.den E.ι).toNat) (h := (l.den E.ι).toNat + 1) (lo' := lo.map a.eval) (hi' := hi.map a.eval)
          (el.imp (fun h => ⟨h.1, by rw [h.2]; rfl⟩) (fun ⟨k, h⟩ => ⟨k, by rw [h, Int.toNat_of_nonneg l1]⟩)) (eu.imp (fun h => ⟨h.1, by have := congrArg (IE.den E.ι) h.2; rw [eo] at this; simp only [IE.den] at this; omega⟩) (fun ⟨k, h⟩ => ⟨k, by rw [h, eo]; exact congrArg (fun z => some (Value.int k z)) (by omega)⟩)) (by omega) (by omega)
        refine ⟨_, den_txt (by simp only [TX.upto, IE.upto, List.all_cons, List.all_nil, ul, Bool.and_self]), fun w => ?_⟩
        have e1 : (IE.tab s l).den E.ι = ((s[(l.den E.ι).toNat]'hlt).toNat : Int) := by
          simp only [IE.den, List.getElem?_eq_getElem hlt, Option.map_some, Option.getD_some]
        have e2 : TX.den E.ι (.lits [.tab s l]) = [s[(l.den E.ι).toNat]'hlt] := by
          simp only [TX.den, List.map_cons, List.map_nil, e1, Int.toNat_natCast, UInt8.ofNat_toNat]
        have e3 : (s.drop (l.den E.ι).toNat).take ((l.den E.ι).toNat + 1 - (l.den E.ι).toNat) = [s[(l.den E.ι).toNat]'hlt] := by
          rw [show (l.den E.ι).toNat + 1 - (l.den E.ι).toNat = 1 by omega, List.drop_eq_getElem_cons hlt]
          rfl
        rw [e2]
        simp only [execOp, ex, Option.map_none, Instr.sliceAt, Instr.slice, Sem.run_bind, run_underlying hd, Result.andThen_ok, hsz, Option.isSome_none, Bool.false_eq_true, if_false, hb, Sem.run_pure, bytes_extract, e3]
      · cases h
    · cases h
  · cases h

theorem rowCell_sound {r z o : Nat} {ks : List CK} {i : IE} {v : AV} {x : Value} (hrn : r < E.ι.nv) (hi : i.upto E.ι.nv = true) (h0 : 0 ≤ i.den E.ι) (hz : ks.length = z) (hv : rowCell r ks z i o = some v)
    (hk : ∀ (i : Nat) (k : CK) (v : Value), ks[i % ks.length]? = some k → (E.ι.fr r)[i]? = some v → k.ok v) (hx : (E.ι.fr r)[(i.den E.ι).toNat * z + o]? = some x) : v.den E = some x := by
  have hl : ((IE.mkLin i z o).den E.ι).toNat = (i.den E.ι).toNat * z + o := by
    rw [mkLin_den]
    have : i.den E.ι = ((i.den E.ι).toNat : Int) := by omega
    rw [this]
    exact Int.toNat_natCast _
  have hb : (IE.cell r (IE.mkLin i z o)).upto E.ι.nv = true := by
    simp only [IE.upto, Bool.and_eq_true, blt_iff]
    exact ⟨hrn, mkLin_below hi⟩
  unfold rowCell at hv
  have ho : ∀ k, ks[o]? = some k → ks[((i.den E.ι).toNat * z + o) % ks.length]? = some k := fun k hk => by
    have := (List.getElem?_eq_some_iff.1 hk).1
    rw [hz, Nat.add_comm, Nat.add_mul_mod_self_right, Nat.mod_eq_of_lt (by omega)]
    exact hk
  split at hv
  · rename_i k hko
    injection hv with hv
    subst hv
    obtain ⟨n, rfl, hn1, hn2⟩ := hk _ _ _ (ho _ hko) hx
    rw [den_int (by simpa only [IE.upto] using hb)]
    simp only [IE.den, hl, hx, cellInt]
    rw [wrap_in k hn1 hn2]
  · rename_i hko
    injection hv with hv
    subst hv
    obtain ⟨n, rfl⟩ := hk _ _ _ (ho _ hko) hx
    rw [den_bool (by simp only [BE.upto, hb, below_lit, Bool.and_self])]
    simp only [BE.den, IE.den, hl, hx, cellInt, intCmp]
    cases n <;> rfl
  · cases hv

theorem rowCells_sound {r z : Nat} {ks : List CK} {i : IE} (hrn : r < E.ι.nv) (hi : i.upto E.ι.nv = true) (h0 : 0 ≤ i.den E.ι) (hz : ks.length = z)
    (hk : ∀ (i : Nat) (k : CK) (v : Value), ks[i % ks.length]? = some k → (E.ι.fr r)[i]? = some v → k.ok v) (hlen : (i.den E.ι).toNat * z + z ≤ (E.ι.fr r).length) :
    ∀ (n o : Nat) (vs : List AV), rowCells r ks z i o n = some vs → ∃ l, AV.denL E vs = some l ∧ l.length = n ∧ ∀ (j : Nat) (x : Value), l[j]? = some x → (E.ι.fr r)[(i.den E.ι).toNat * z + o + j]? = some x
  | 0, o, vs, hv => by simp [rowCells] at hv; subst hv; exact ⟨[], by simp [AV.denL], rfl, fun j x hx => by simp at hx⟩
  | n + 1, o, vs, hv => by
    simp only [rowCells, Option.bind_eq_bind, Option.bind_eq_some_iff, Option.pure_def] at hv
    obtain ⟨v, hv1, r', hr, hv⟩ := hv
    injection hv with hv
    subst hv
    obtain ⟨l, hl, hn, hcl⟩ := rowCells_sound hrn hi h0 hz hk hlen n (o + 1) r' hr
    have hoz : o < z := by
      unfold rowCell at hv1
      rw [← hz]
      cases hko : ks[o]? with
      | none => rw [hko] at hv1; cases hv1
      | some k => exact (List.getElem?_eq_some_iff.1 hko).1
    have hget : (E.ι.fr r)[(i.den E.ι).toNat * z + o]? = some ((E.ι.fr r)[(i.den E.ι).toNat * z + o]'(by omega)) := List.getElem?_eq_getElem _
    have hd := rowCell_sound hrn hi h0 hz hv1 hk hget
    refine ⟨_ :: l, denL_cons.2 ⟨_, l, hd, hl, rfl⟩, by simp [hn], fun j y hy => ?_⟩
    cases j with
    | zero => simp at hy; subst hy; simp
    | succ j =>
      simp at hy
      have := hcl j y hy
      rwa [show (i.den E.ι).toNat * z + (o + 1) + j = (i.den E.ι).toNat * z + o + (j + 1) by omega] at this

theorem symLoad_sound (hr : RulesOk rs E.ι) (hp : ∀ b ∈ pc, b.den E.ι = true) (hw : WR E B h w) {t : TypeId} {b z o c r : Nat} {ks : List CK} {n q : IE} {i k : IE} {v : AV} (hb : E.ρ[b]? = some c) (hi : i.upto E.ι.nv = true) (hro : rowOf h b = some (r, ks, n, k))
    (hv : symLoad P rs pc h t b z q i o = some v) : ∃ (y : Value) (xs : List Value), v.den E = some y ∧ (∀ (j : Nat) (x : Value), xs[j]? = some x → (E.ι.fr r)[(i.den E.ι).toNat * z + o + j]? = some x) ∧ (r < E.ι.nv ∧ k.upto E.ι.nv = true ∧ q = k) ∧
      (∀ (j : Nat) (x : Value), xs[j]? = some x → w.cell? ⟨c, (k.den E.ι).toNat + ((i.den E.ι).toNat * z + o) + j, none⟩ = some x) ∧
      ∀ w' : World, (∀ (j : Nat) (x : Value), xs[j]? = some x → w'.cell? ⟨c, (k.den E.ι).toNat + ((i.den E.ι).toNat * z + o) + j, none⟩ = some x) → (loadVar t ⟨c, (k.den E.ι).toNat + ((i.den E.ι).toNat * z + o), none⟩).run P w' = .ok y w' := by
  unfold symLoad at hv
  simp only [Option.bind_eq_bind, Option.bind_eq_some_iff] at hv
  obtain ⟨⟨r', ks', n', k'⟩, hro', hv⟩ := hv
  rw [hro] at hro'
  injection hro' with hro'
  simp only [Prod.mk.injEq] at hro'
  obtain ⟨rfl, rfl, rfl, rfl⟩ := hro'
  obtain ⟨c', t', fz, pre, tail, hob, hc, ⟨h1, h2, h3⟩, h4, h6⟩ := rowOf_sound hw hb hro
  simp only at hv
  split at hv
  · rename_i hcond
    simp only [Bool.and_eq_true, decide_eq_true_eq] at hcond
    obtain ⟨⟨⟨hqk, hz⟩, l1⟩, l2⟩ := hcond
    have l1 := leB_sound hr hp l1
    have l2 := ltB_sound hr hp l2
    simp only [IE.den] at l1
    have hlen : (i.den E.ι).toNat * z + z ≤ (E.ι.fr r).length := by
      have e1 : (((i.den E.ι).toNat + 1) * z : Int) ≤ n.den E.ι * (ks.length : Int) := by
        rw [hz]
        exact Int.mul_le_mul_of_nonneg_right (by omega) (by omega)
      rw [← h4] at e1
      have e2 : (((i.den E.ι).toNat * z + z : Nat) : Int) = ((i.den E.ι).toNat + 1) * z := by
        rw [Int.natCast_add, Int.natCast_mul, Int.add_mul, Int.one_mul]
      omega
    have hcell : ∀ (j : Nat) (x : Value), (E.ι.fr r)[j]? = some x → w.cell? ⟨c, (k.den E.ι).toNat + j, none⟩ = some x := fun j x hx => row_at hob hc hx
    simp only [Option.bind_eq_some_iff] at hv
    obtain ⟨g, hg, hv⟩ := hv
    split at hv
    · rename_i ht
      simp only [Option.bind_eq_some_iff, Option.map_eq_some_iff] at hv
      obtain ⟨m, hm, vs, hvs, rfl⟩ := hv
      obtain ⟨l, hl, hln, hcl⟩ := rowCells_sound h1 hi l1 hz h6 hlen m o vs hvs
      refine ⟨.agg l.toArray, l, by simp [AV.den, hl], hcl, ⟨h1, h3, hqk⟩, fun j x hj => by rw [Nat.add_assoc]; exact hcell _ _ (hcl j x hj), fun w' hw' => ?_⟩
      have := run_loadCells_list (P := P) w' ⟨c, (k.den E.ι).toNat + ((i.den E.ι).toNat * z + o), none⟩ l (fun j v hj => by rw [Addr.add_lit]; exact hw' j v hj)
      rw [hln] at this
      simp [loadVar, run_isAgg hg, ht, run_size hm, this]
    · rename_i ht
      have hoz : o < z := by
        unfold rowCell at hv
        rw [← hz]
        cases hko : ks[o]? with
        | none => rw [hko] at hv; cases hv
        | some k => exact (List.getElem?_eq_some_iff.1 hko).1
      have hget : (E.ι.fr r)[(i.den E.ι).toNat * z + o]? = some ((E.ι.fr r)[(i.den E.ι).toNat * z + o]'(by omega)) := List.getElem?_eq_getElem _
      refine ⟨_, [(E.ι.fr r)[(i.den E.ι).toNat * z + o]'(by omega)], rowCell_sound h1 hi l1 hz hv h6 hget, ?_, ⟨h1, h3, hqk⟩, ?_, fun w' hw' => ?_⟩
      · intro j x hj
        cases j with
        | zero => simp at hj; subst hj; exact hget
        | succ j => simp at hj
      · intro j x hj
        cases j with
        | zero => simp at hj; subst hj; exact hcell _ _ hget
        | succ j => simp at hj
      · have := hw' 0 _ rfl
        rw [Nat.add_zero] at this
        simp [loadVar, run_isAgg hg, ht, this]
  · cases hv

theorem concFrom_row {b c r : Nat} {k : IE} (hb : E.ρ[b]? = some c) (hr : r < E.ι.nv ∧ k.upto E.ι.nv = true) : ∀ (xs : List Value) (o : Nat), (∀ (j : Nat) (x : Value), xs[j]? = some x → (E.ι.fr r)[o + j]? = some x) → Conc E [(b, r, .inr k)] (concFrom c ((k.den E.ι).toNat + o) xs)
  | [], _, _ => fun p hp => by cases hp
  | x :: xs, o, hx => fun p hp => by
    rcases List.mem_cons.1 hp with rfl | hp
    · exact ⟨_, List.mem_singleton.2 rfl, c, hb, o, rfl, hr, hx 0 x rfl⟩
    · exact concFrom_row hb hr xs (o + 1) (fun j y hy => by have := hx (j + 1) y (by simpa using hy); rwa [show o + (j + 1) = o + 1 + j by omega] at this) p (by rw [← Nat.add_assoc]; exact hp)

theorem symRead_sound {rs : List Rule} {pc : List BE} {D : Nat → Prop} {tmps : List AV} {a : Act} {o : Oper} {v : AV} {F : Held} (hru : RulesOk rs E.ι) (hpc : ∀ b ∈ pc, b.den E.ι = true) (hS : Slots E D tmps a) (hc : ∀ x ∈ o.op.operands, Clear D x) (hw : WR E B h w)
    (hr : symRead P rs pc tmps h o = some (v, F)) : ∃ z C, v.den E = some z ∧ Conc E F C ∧ SC C w ∧ ∀ w', SC C w' → (execOp a.eval o).run P w' = .ok (.value z) w' := by
  obtain ⟨dst, op, type, pos, after, guard⟩ := o
  unfold symRead at hr
  simp only at hr hc
  split at hr
  · rename_i t x
    simp only [Option.bind_eq_bind, Option.bind_eq_some_iff] at hr
    obtain ⟨p, hp, hr⟩ := hr
    have hd := opnd_den hS (hc x (by simp [Op.operands])) hp
    split at hr
    · rename_i b z q i o'
      obtain ⟨⟨bq, bi⟩, h0, c, hcb, he⟩ := denPtrs hd
      simp only [Option.bind_eq_some_iff, Option.pure_def, Option.some.injEq, Prod.mk.injEq] at hr
      obtain ⟨⟨r, ks, n, k⟩, hro, u, hu, rfl, rfl⟩ := hr
      obtain ⟨y, xs, hy, hxs, ⟨hrn, hkn, rfl⟩, hcell, hrun⟩ := symLoad_sound (P := P) hru hpc hw hcb bi hro hu
      refine ⟨y, concFrom c _ xs, rewr_den hw.giv.nv hru hpc hy, concFrom_row hcb ⟨hrn, hkn⟩ xs _ hxs, (concFrom_iff xs _).2 hcell, fun w' hw' => ?_⟩
      have := hrun w' ((concFrom_iff xs _).1 hw')
      rw [← Nat.add_assoc] at this
      simp [execOp, Instr.loadAt, Instr.sureAddr, he, this]
    · cases hr
  · rename_i src dst' x
    simp only [Option.bind_eq_bind, Option.bind_eq_some_iff] at hr
    obtain ⟨p, hp, hr⟩ := hr
    have hd := opnd_den hS (hc x (by simp [Op.operands])) hp
    split at hr
    · rename_i b z q o' n cap
      simp only [Option.bind_eq_some_iff, Option.pure_def, Option.some.injEq, Prod.mk.injEq] at hr
      obtain ⟨⟨r, ks, m, k0⟩, hro, u, hu, rfl, rfl⟩ := hr
      unfold symText at hu
      split at hu
      · rename_i e b' z' q'' o'' n' c'' hsd hdd heq
        injection heq with e1 e2 e6 e3 e4 e5
        subst e1 e2 e3 e4 e5 e6
        split at hu
        · rename_i r' m' k' he hro'
          rw [hro] at hro'
          injection hro' with hro'
          simp only [Prod.mk.injEq] at hro'
          obtain ⟨rfl, rfl, rfl, rfl⟩ := hro'
          split at hu
          · rename_i hcond
            simp only [Bool.and_eq_true, decide_eq_true_eq] at hcond
            obtain ⟨⟨rfl, rfl⟩, hle⟩ := hcond
            injection hu with hu
            subst hu
            obtain ⟨⟨b0, b1, b2, b3⟩, ⟨g1, g2, g3⟩, c, hcb, ex⟩ := denSl hd
            obtain ⟨cc, t', fz, pre, tail, hob, hc', ⟨h1, h2, h3⟩, h4, h6⟩ := rowOf_sound hw hcb hro
            have hle := leB_sound hru hpc hle
            rw [mkOff_den] at hle
            simp only [List.length_singleton, Int.natCast_one, Int.mul_one] at h4
            have hbound : (o'.den E.ι).toNat + (n.den E.ι).toNat ≤ (E.ι.fr r).length := by omega
            let xs := ((E.ι.fr r).drop (o'.den E.ι).toNat).take (n.den E.ι).toNat
            have hxl : xs.length = (n.den E.ι).toNat := by simp only [xs, List.length_take, List.length_drop]; omega
            have hxs : ∀ (j : Nat) (x : Value), xs[j]? = some x → (E.ι.fr r)[(o'.den E.ι).toNat + j]? = some x := fun j x hj => by
              simp only [xs, List.getElem?_take, List.getElem?_drop] at hj
              split at hj
              · exact hj
              · cases hj
            have hcell : ∀ (j : Nat) (x : Value), xs[j]? = some x → w.cell? ⟨c, (q.den E.ι).toNat + (o'.den E.ι).toNat + j, none⟩ = some x := fun j x hj => by
              rw [Nat.add_assoc]
              exact row_at hob hc' (hxs j x hj)
            have hns : ∀ l : List Value, (∀ x ∈ l, ∃ k : Int, x = .int .u8 k) → ∃ ns : List Int, l = ns.map (Value.int .u8) := by
              intro l
              induction l with
              | nil => exact fun _ => ⟨[], rfl⟩
              | cons x l ih =>
                intro hl
                obtain ⟨k, rfl⟩ := hl x List.mem_cons_self
                obtain ⟨ns, hns⟩ := ih fun y hy => hl y (List.mem_cons_of_mem _ hy)
                exact ⟨k :: ns, by rw [hns]; rfl⟩
            obtain ⟨ns, hns⟩ := hns xs fun x hx => by
              obtain ⟨j, hj, hxj⟩ := List.getElem_of_mem hx
              have h7 := hxs j x (by rw [List.getElem?_eq_getElem hj, hxj])
              obtain ⟨k, hk, _⟩ := h6 _ (.int .u8) x (by simp [Nat.mod_one]) h7
              exact ⟨k, hk⟩
            refine ⟨.string ⟨(bytesOf xs).toArray⟩, concFrom c ((q.den E.ι).toNat + (o'.den E.ι).toNat) xs, ?_, concFrom_row hcb ⟨h1, h3⟩ xs _ hxs, (concFrom_iff xs _).2 hcell, fun w' hw' => ?_⟩
            · have hb : (TX.row r o' n).upto E.ι.nv = true := by simp only [TX.upto, b1, b2, blt_iff.2 h1, Bool.and_self]
              rw [den_txt hb, TX.den, padTo_self (by rw [bytesOf, List.length_map]; exact hxl)]
            · have hw' := (concFrom_iff xs _).1 hw'
              have := bytes_convert (P := P) (m := (cap.den E.ι).toNat) hsd he hdd (n := (n.den E.ι).toNat) (ns := ns) (by rw [← hxl, hns]; simp) w' (fun j v hj => hw' j v (by rw [hns]; exact hj))
              have hb : bytesOf xs = ns.map fun n => UInt8.ofNat n.toNat := by rw [hns]; simp [bytesOf]
              rw [hb]
              simp only [Nat.mul_one] at ex
              simp [execOp, ex, this]
          · cases hu
        · cases hu
      · cases hu
    · cases hr
  · cases hr

end
end Go.Sx
