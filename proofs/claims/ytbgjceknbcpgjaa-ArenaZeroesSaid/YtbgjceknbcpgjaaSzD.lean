/-
  A WALKER THAT COMPUTES, ITS FOURTH PART: what asks nothing of memory is what the model says.
-/
import Derived.Test.YtbgjceknbcpgjaaSzC
import Derived.Lib.Builder
namespace Go.Sx
set_option linter.unusedVariables false

theorem runPure_sound {α : Type} {P : Program} : ∀ (n : Nat) (s : Sem α) (r : α), runPure P n s = some r → ∀ w, s.run P w = .ok r w := by
  intro n
  induction n with
  | zero => intro s r h; simp [runPure] at h
  | succ n ih =>
    intro s r h w
    cases s with
    | pure a => simp only [runPure, Option.some.injEq] at h; subst h; rfl
    | program k => exact ih _ _ h w
    | mark m k => exact ih _ _ h w
    | _ => simp [runPure] at h

/-! ### Numbers -/

theorem intBin_isSome (op : BinOp) (k : IntKind) (x x' y : Int) : (intBin op k x y).isSome = (intBin op k x' y).isSome := by
  cases op <;> simp only [intBin] <;> (try rfl) <;> (split <;> rfl)

theorem wrap_range (k : IntKind) (n : Int) : k.min ≤ k.wrap n ∧ k.wrap n ≤ k.max := by
  cases k <;> simp [IntKind.wrap, IntKind.min, IntKind.max, IntKind.signed, IntKind.bits] <;> (try split) <;> omega

theorem wrap_in (k : IntKind) {n : Int} (h1 : k.min ≤ n) (h2 : n ≤ k.max) : k.wrap n = n := by
  cases k <;> simp [IntKind.wrap, IntKind.min, IntKind.max, IntKind.signed, IntKind.bits] at * <;> (try split) <;> omega

theorem wrap_add (k : IntKind) (a x y : Int) : k.wrap (k.wrap (a + x) + y) = k.wrap (a + k.wrap (x + y)) := by
  cases k <;> simp [IntKind.wrap, IntKind.signed, IntKind.bits] <;> (repeat' split) <;> omega

theorem IE.fold_den {ι : Unk} (op : BinOp) (k : IntKind) (a : IE) (y : Int) : (IE.fold op k a y).den ι = (IE.bin op k a (.lit y)).den ι := by
  unfold IE.fold
  split
  · rename_i k' c x
    split
    · rename_i hk
      subst hk
      simp [IE.den, intBin, wrap_add]
    · rfl
  · rfl

theorem IE.mkBin_den {ι : Unk} {op : BinOp} {k : IntKind} {a b e : IE} (h : IE.mkBin op k a b = some e) :
    intBin op k (a.den ι) (b.den ι) = some (e.den ι) := by
  unfold IE.mkBin at h
  split at h
  · simp only [Option.map_eq_some_iff] at h
    obtain ⟨r, hr, rfl⟩ := h
    simpa [IE.den] using hr
  · rename_i y _
    split at h
    · rename_i hs
      injection h with h
      subst h
      have hs' : (intBin op k (a.den ι) y).isSome = true := by rw [intBin_isSome op k _ 0 y]; exact hs
      obtain ⟨r, hr⟩ := Option.isSome_iff_exists.1 hs'
      rw [IE.fold_den]
      simp [IE.den, hr]
    · cases h
  · split at h <;> first | (injection h with h; subst h; simp [IE.den, intBin]) | cases h

theorem intCmp_isSome (op : BinOp) (x y : Int) : (intCmp op x y).isSome = (intCmp op 0 0).isSome := by
  cases op <;> rfl

theorem intCmp_flip (op : BinOp) (x y : Int) (h : (intCmp op 0 0).isSome = true) : intCmp op x y = intCmp (flipOp op) y x := by
  cases op <;> first | (simp [intCmp] at h; done) | skip
  all_goals simp only [intCmp, flipOp, Option.some.injEq]
  · rw [Bool.eq_iff_iff]; simp only [beq_iff_eq]; exact eq_comm
  · rw [Bool.eq_iff_iff]; simp only [bne_iff_ne]; exact ne_comm
  all_goals (rw [Bool.eq_iff_iff]; simp)

theorem intCmp_same (op : BinOp) (x : Int) : intCmp op x x = intCmp op 0 0 := by
  cases op <;> simp [intCmp]

theorem BE.cmpOf_den (ι : Unk) (op : BinOp) (a b : IE) (hs : (intCmp op 0 0).isSome = true) : intCmp op (a.den ι) (b.den ι) = some ((BE.cmpOf op a b).den ι) := by
  have key : ∀ a b : IE, intCmp op (a.den ι) (b.den ι) = some ((BE.cmp op a b).den ι) := by
    intro a b
    have hs' : (intCmp op (a.den ι) (b.den ι)).isSome = true := by rw [intCmp_isSome]; exact hs
    obtain ⟨r, hr⟩ := Option.isSome_iff_exists.1 hs'
    simp [BE.den, hr]
  unfold BE.cmpOf
  split
  · exact key _ _
  · split <;> first
      | exact key _ _
      | (simp only [BE.den, intCmp, Option.getD_some]; congr 1; rw [Bool.eq_iff_iff]; simp)
theorem BE.mkCmp_den {ι : Unk} {op : BinOp} {a b : IE} {e : BE} (h : BE.mkCmp op a b = some e) :
    intCmp op (a.den ι) (b.den ι) = some (e.den ι) := by
  have key : (intCmp op 0 0).isSome = true → ∀ a b : IE, intCmp op (a.den ι) (b.den ι) = some ((BE.cmp op a b).den ι) := by
    intro hs a b
    have hs' : (intCmp op (a.den ι) (b.den ι)).isSome = true := by rw [intCmp_isSome]; exact hs
    obtain ⟨r, hr⟩ := Option.isSome_iff_exists.1 hs'
    simp [BE.den, hr]
  unfold BE.mkCmp at h
  split at h
  · simp only [Option.map_eq_some_iff] at h
    obtain ⟨r, hr, rfl⟩ := h
    simpa [IE.den, BE.den] using hr
  · rename_i x b _
    split at h
    · rename_i hs
      injection h with h
      subst h
      rw [key hs]
      simp only [BE.den, IE.den]
      rw [intCmp_flip op _ _ hs]
    · cases h
  · split at h
    · rename_i hs
      injection h with h
      subst h
      split
      · rename_i he
        subst he
        obtain ⟨r, hr⟩ := Option.isSome_iff_exists.1 hs
        rw [intCmp_same, hr]
        simp [BE.den]
      · exact BE.cmpOf_den ι op _ _ hs
    · cases h

theorem BE.mkNot_den (ι : Unk) (b : BE) : b.mkNot.den ι = !(b.den ι) := by
  cases b <;> simp [BE.mkNot, BE.den]

theorem BE.mkSame_den (ι : Unk) (a b : BE) : (BE.mkSame a b).den ι = (a.den ι == b.den ι) := by
  unfold BE.mkSame
  split
  · cases h : b.den ι <;> simp [BE.den]
  · rw [BE.mkNot_den]; cases h : b.den ι <;> simp [BE.den]
  · cases h : a.den ι <;> simp [BE.den]
  · rw [BE.mkNot_den]; cases h : a.den ι <;> simp [BE.den]
  · split
    · rename_i h
      subst h
      simp [BE.den]
    · rfl

theorem IE.mkWrap_den (ι : Unk) (k : IntKind) (a : IE) : (IE.mkWrap k a).den ι = k.wrap (a.den ι) := by
  cases a with
  | wrap k' a =>
    simp only [IE.mkWrap]
    split
    · rename_i hf
      simp only [fits, Bool.and_eq_true, decide_eq_true_eq] at hf
      have := wrap_range k' (a.den ι)
      simp only [IE.den]
      rw [wrap_in k (by omega) (by omega)]
    · simp [IE.den]
  | _ => simp [IE.mkWrap, IE.den]

/-! ### Bounds -/

def BOk (x : Int) (b : Bnd) : Prop := (∀ l, b.1 = some l → l ≤ x) ∧ (∀ h, b.2 = some h → x ≤ h)

theorem BOk.meet {x : Int} {a b : Bnd} (h1 : BOk x a) (h2 : BOk x b) : BOk x (meet a b) := by
  obtain ⟨a1, a2⟩ := a
  obtain ⟨b1, b2⟩ := b
  constructor
  · intro l hl
    cases a1 <;> cases b1 <;> simp [Sx.meet, omax] at hl
    · exact h2.1 _ (by simp [hl])
    · exact h1.1 _ (by simp [hl])
    · subst hl
      have := h1.1 _ rfl
      have := h2.1 _ rfl
      split <;> assumption
  · intro l hl
    cases a2 <;> cases b2 <;> simp [Sx.meet, omin] at hl
    · exact h2.2 _ (by simp [hl])
    · exact h1.2 _ (by simp [hl])
    · subst hl
      have := h1.2 _ rfl
      have := h2.2 _ rfl
      split <;> assumption

theorem bok_none (x : Int) : BOk x (none, none) := ⟨fun _ h => (by cases h), fun _ h => (by cases h)⟩

theorem fact_ok {ι : Unk} (e : IE) (b : BE) (h : b.den ι = true) : BOk (e.den ι) (fact e b) := by
  unfold fact
  split
  · rename_i op a n
    split
    · rename_i he
      subst he
      simp only [BE.den, IE.den] at h
      split <;> simp [intCmp] at h <;> constructor <;> intro l hl <;> simp at hl <;> omega
    · exact bok_none _
  · rename_i op a n
    split
    · rename_i he
      subst he
      simp only [BE.den, IE.den] at h
      split <;> simp [intCmp] at h <;> constructor <;> intro l hl <;> simp at hl <;> omega
    · exact bok_none _
  · exact bok_none _

theorem facts_ok {ι : Unk} (e : IE) : ∀ (pc : List BE), (∀ b ∈ pc, b.den ι = true) → BOk (e.den ι) (facts e pc)
  | [], _ => bok_none _
  | b :: pc, h => (fact_ok e b (h b List.mem_cons_self)).meet (facts_ok e pc fun c hc => h c (List.mem_cons_of_mem _ hc))

theorem within_ok {k : IntKind} {x : Int} {b : Bnd} (h : BOk x b) : BOk (k.wrap x) (within k b) := by
  unfold within
  have hr := wrap_range k x
  split
  · rename_i l u
    split
    · rename_i hc
      simp only [Bool.and_eq_true, decide_eq_true_eq] at hc
      have h1 := h.1 _ rfl
      have h2 := h.2 _ rfl
      rw [wrap_in k (by omega) (by omega)]
      exact h
    · exact ⟨fun l hl => by simp at hl; omega, fun l hl => by simp at hl; omega⟩
  · exact ⟨fun l hl => by simp at hl; omega, fun l hl => by simp at hl; omega⟩

theorem wrapsTo_ok {ι : Unk} {op : BinOp} {k : IntKind} {a b : IE} (h : wrapOp op = true) : BOk ((IE.bin op k a b).den ι) (some k.min, some k.max) := by
  have h0 : k.min ≤ 0 ∧ 0 ≤ k.max := by cases k <;> decide
  simp only [IE.den]
  cases op <;> simp only [wrapOp] at h <;> (try cases h) <;> simp only [intBin] <;> (repeat' split) <;> simp only [Option.getD_some, Option.getD_none] <;>
    exact ⟨fun l hl => by injection hl with hl; subst hl; first | exact h0.1 | exact (wrap_range k _).1, fun l hl => by injection hl with hl; subst hl; first | exact h0.2 | exact (wrap_range k _).2⟩

theorem remBnd_ok {x n : Int} {b : Bnd} (h : BOk x b) : BOk ((intBin .rem .i64 x n).getD 0) (remBnd b n) := by
  unfold remBnd
  split
  · rename_i hn
    have h1 : (intBin .rem .i64 x n).getD 0 = x.tmod n := by simp only [intBin]; rw [if_neg (by omega)]; rfl
    rw [h1]
    have hlt := Int.tmod_lt_of_pos x hn
    have hgt : 1 - n ≤ x.tmod n := by have := Int.lt_tmod_of_pos x hn; omega
    split
    · rename_i l hl
      have := h.1 l hl
      split
      · have := Int.tmod_nonneg n (show 0 ≤ x by omega)
        exact ⟨fun l hl => by simp at hl; omega, fun l hl => by simp at hl; omega⟩
      · exact ⟨fun l hl => by simp at hl; omega, fun l hl => by simp at hl; omega⟩
    · exact ⟨fun l hl => by simp at hl; omega, fun l hl => by simp at hl; omega⟩
  · exact bok_none _

theorem andBnd_ok {k : IntKind} {x n : Int} : BOk ((intBin .and k x n).getD 0) (andBnd k n) := by
  simp only [intBin, Option.getD_some]
  unfold andBnd
  split
  · rename_i hn
    simp only [Bool.and_eq_true, decide_eq_true_eq] at hn
    have hle : (BitVec.ofInt k.bits x &&& BitVec.ofInt k.bits n).toNat ≤ n.toNat := by
      rw [BitVec.toNat_and]
      refine Nat.le_trans Nat.and_le_right ?_
      rw [BitVec.toNat_ofInt]
      have hm : n < ((2 ^ k.bits : Nat) : Int) := by
        have : k.max < ((2 ^ k.bits : Nat) : Int) := by cases k <;> decide
        omega
      rw [Int.emod_eq_of_lt hn.1 hm]
      exact Nat.le_refl _
    have h0 : k.min ≤ 0 := by cases k <;> decide
    rw [wrap_in k (by omega) (by omega)]
    exact ⟨fun l hl => by simp at hl; omega, fun l hl => by simp at hl; omega⟩
  · have := wrap_range k ((BitVec.ofInt k.bits x &&& BitVec.ofInt k.bits n).toNat : Int)
    exact ⟨fun l hl => by simp at hl; omega, fun l hl => by simp at hl; omega⟩

theorem quoBnd_ok {k : IntKind} {x n : Int} {b : Bnd} (h : BOk x b) : BOk ((intBin .quo k x n).getD 0) (quoBnd k b n) := by
  have h0 : k.min ≤ 0 ∧ 0 ≤ k.max := by cases k <;> decide
  have any : BOk ((intBin .quo k x n).getD 0) (some k.min, some k.max) := by
    simp only [intBin]
    split
    · exact ⟨fun l hl => by simp at hl; subst hl; exact h0.1, fun l hl => by simp at hl; subst hl; exact h0.2⟩
    · have := wrap_range k (x.tdiv n)
      exact ⟨fun l hl => by simp at hl; subst hl; exact this.1, fun l hl => by simp at hl; subst hl; exact this.2⟩
  unfold quoBnd
  split
  · rename_i l u
    split
    · rename_i hc
      simp only [Bool.and_eq_true, decide_eq_true_eq] at hc
      obtain ⟨⟨hn, hl⟩, hu⟩ := hc
      have h1 := h.1 _ rfl
      have h2 := h.2 _ rfl
      have hq : (intBin .quo k x n).getD 0 = k.wrap (x.tdiv n) := by simp only [intBin]; rw [if_neg (by omega)]; rfl
      have hx : 0 ≤ x := by omega
      have e1 : x.tdiv n = x / n := Int.tdiv_eq_ediv_of_nonneg hx
      have e2 : 0 ≤ x / n := Int.ediv_nonneg hx (by omega)
      have e3 : x / n ≤ x := Int.ediv_le_self n hx
      rw [hq, e1, wrap_in k (by omega) (by omega)]
      exact ⟨fun l hl => by simp at hl; omega, fun l hl => by simp at hl; omega⟩
    · exact any
  · exact any

theorem linBnd_ok {x : Int} {b : Bnd} {z o : Nat} (h : BOk x b) : BOk (x * z + o) (linBnd b z o) := by
  refine ⟨fun l hl => ?_, fun l hl => ?_⟩
  · simp only [linBnd, Option.map_eq_some_iff] at hl
    obtain ⟨m, hm, rfl⟩ := hl
    have := Int.mul_le_mul_of_nonneg_right (h.1 m hm) (Int.natCast_nonneg z)
    omega
  · simp only [linBnd, Option.map_eq_some_iff] at hl
    obtain ⟨m, hm, rfl⟩ := hl
    have := Int.mul_le_mul_of_nonneg_right (h.2 m hm) (Int.natCast_nonneg z)
    omega

theorem bnd_ok {ι : Unk} {pc : List BE} (hp : ∀ b ∈ pc, b.den ι = true) : ∀ (e : IE), BOk (e.den ι) (bnd pc e)
  | .lit n => ⟨fun l hl => by simp [bnd] at hl; simp [IE.den, hl], fun l hl => by simp [bnd] at hl; simp [IE.den, hl]⟩
  | .var i => by simp only [bnd]; exact facts_ok _ _ hp
  | .slen i => by simp only [bnd]; exact facts_ok _ _ hp
  | .wrap k a => by
    simp only [bnd]
    exact (facts_ok _ _ hp).meet (within_ok (bnd_ok hp a))
  | .bin op k a b => by
    have ha := bnd_ok hp a
    have hb := bnd_ok hp b
    unfold bnd
    split
    · rename_i h; cases h
    · rename_i h; cases h
    · rename_i h; cases h
    · rename_i k' a' b' h
      injection h with h1 h2 h3 h4
      subst h1 h2 h3 h4
      refine (facts_ok _ _ hp).meet ?_
      simp only [IE.den, intBin, Option.getD_some]
      refine within_ok ⟨fun l hl => ?_, fun l hl => ?_⟩
      · cases h5 : (bnd pc a).1 <;> cases h6 : (bnd pc b).1 <;> simp [oadd, h5, h6] at hl
        have := ha.1 _ h5
        have := hb.1 _ h6
        omega
      · cases h5 : (bnd pc a).2 <;> cases h6 : (bnd pc b).2 <;> simp [oadd, h5, h6] at hl
        have := ha.2 _ h5
        have := hb.2 _ h6
        omega
    · rename_i k' a' b' h
      injection h with h1 h2 h3 h4
      subst h1 h2 h3 h4
      refine (facts_ok _ _ hp).meet ?_
      simp only [IE.den, intBin, Option.getD_some]
      refine within_ok ⟨fun l hl => ?_, fun l hl => ?_⟩
      · cases h5 : (bnd pc a).1 <;> cases h6 : (bnd pc b).2 <;> simp [osub, h5, h6] at hl
        have := ha.1 _ h5
        have := hb.2 _ h6
        omega
      · cases h5 : (bnd pc a).2 <;> cases h6 : (bnd pc b).1 <;> simp [osub, h5, h6] at hl
        have := ha.2 _ h5
        have := hb.1 _ h6
        omega
    · rename_i k' a' n' h
      injection h with h1 h2 h3 h4
      subst h1 h2 h3 h4
      exact (facts_ok _ _ hp).meet (remBnd_ok ha)
    · rename_i k' a' n' h
      injection h with h1 h2 h3 h4
      subst h1 h2 h3 h4
      exact (facts_ok _ _ hp).meet andBnd_ok
    · rename_i k' a' n' h
      injection h with h1 h2 h3 h4
      subst h1 h2 h3 h4
      exact (facts_ok _ _ hp).meet (quoBnd_ok ha)
    · rename_i op' k' a' b' _ _ _ _ _ h
      injection h with h1 h2 h3 h4
      subst h1 h2 h3 h4
      refine (facts_ok _ _ hp).meet ?_
      unfold wrapsTo
      split
      · rename_i hw
        exact wrapsTo_ok hw
      · exact bok_none _
    · rename_i h; cases h
    · rename_i h; cases h
    · rename_i h; cases h
    · rename_i h; cases h
    · rename_i h; cases h
    · rename_i h; cases h
    · exact facts_ok _ _ hp
  | .off a b => by
    have ha := bnd_ok hp a
    have hb := bnd_ok hp b
    simp only [bnd]
    refine (facts_ok _ _ hp).meet ?_
    simp only [IE.den]
    refine ⟨fun l hl => ?_, fun l hl => ?_⟩
    · cases h5 : (bnd pc a).1 <;> cases h6 : (bnd pc b).1 <;> simp [oadd, h5, h6] at hl
      have := ha.1 _ h5
      have := hb.1 _ h6
      omega
    · cases h5 : (bnd pc a).2 <;> cases h6 : (bnd pc b).2 <;> simp [oadd, h5, h6] at hl
      have := ha.2 _ h5
      have := hb.2 _ h6
      omega
  | .dif a b => by
    have ha := bnd_ok hp a
    have hb := bnd_ok hp b
    simp only [bnd]
    refine (facts_ok _ _ hp).meet ?_
    simp only [IE.den]
    refine ⟨fun l hl => ?_, fun l hl => ?_⟩
    · cases h5 : (bnd pc a).1 <;> cases h6 : (bnd pc b).2 <;> simp [osub, h5, h6] at hl
      have := ha.1 _ h5
      have := hb.2 _ h6
      omega
    · cases h5 : (bnd pc a).2 <;> cases h6 : (bnd pc b).1 <;> simp [osub, h5, h6] at hl
      have := ha.2 _ h5
      have := hb.1 _ h6
      omega
  | .tlen s => by
    simp only [bnd]
    refine (facts_ok _ _ hp).meet ⟨fun l hl => ?_, fun l hl => by simp at hl⟩
    simp at hl; subst hl; simp only [IE.den]; omega
  | .chr s i => by
    simp only [bnd]
    refine (facts_ok _ _ hp).meet ⟨fun l hl => ?_, fun l hl => ?_⟩
    · simp at hl; subst hl; simp only [IE.den]
      cases (ι.ft s)[(i.den ι).toNat]? <;> simp
    · simp at hl; subst hl; simp only [IE.den]
      cases h : (ι.ft s)[(i.den ι).toNat]? with
      | none => simp
      | some x => have := x.toNat_lt; simp; omega
  | .tab s i => by
    simp only [bnd]
    refine (facts_ok _ _ hp).meet ⟨fun l hl => ?_, fun l hl => ?_⟩
    · simp at hl; subst hl; simp only [IE.den]
      cases s[(i.den ι).toNat]? <;> simp
    · simp at hl; subst hl; simp only [IE.den]
      cases h : s[(i.den ι).toNat]? with
      | none => simp
      | some x => have := x.toNat_lt; simp; omega
  | .lin a z o => by
    simp only [bnd]
    exact (facts_ok _ _ hp).meet (linBnd_ok (bnd_ok hp a))
  | .fv _ => by simp only [bnd]; exact facts_ok _ _ hp
  | .cell _ _ => by simp only [bnd]; exact facts_ok _ _ hp

theorem decideB_ok {op : BinOp} {n x : Int} {b : Bnd} {t : Bool} (h : BOk x b) (hd : decideB op n b = some t) : (intCmp op x n).getD false = t := by
  obtain ⟨lo, hi⟩ := b
  have h1 := h.1
  have h2 := h.2
  simp only at h1 h2
  unfold decideB at hd
  cases lo <;> cases hi <;> simp only at hd <;> (try have h3 := h1 _ rfl) <;> (try have h4 := h2 _ rfl) <;> cases op <;> simp [intCmp] at hd ⊢ <;> (repeat' split at hd) <;> simp_all <;> omega

theorem binOp_int {op : BinOp} {k k' : IntKind} {x y r : Int} (t : TypeId) (h : intBin op k x y = some r) (hk : op = .shl ∨ op = .shr ∨ k = k') :
    Go.binOp op t (.int k x) (.int k' y) = pure (.int k r) := by
  cases op
  case shl | shr =>
    simp only [intBin] at h
    split at h
    · cases h
    · rename_i hy
      injection h with h
      subst h
      simp [Go.binOp, Op.shift, hy]
  all_goals (first | (simp only [intBin] at h; cases h; done) | skip)
  all_goals (obtain rfl : k = k' := by rcases hk with hk | hk | hk <;> first | exact hk | cases hk)
  case quo | rem =>
    simp only [intBin] at h
    split at h
    · cases h
    · rename_i hy
      injection h with h
      subst h
      simp [Go.binOp, Op.intDiv, hy]
  all_goals (simp only [intBin, Option.some.injEq] at h; subst h; simp [Go.binOp, Op.intArith, Op.intBits])

theorem binOp_cmp {op : BinOp} {k : IntKind} {x y : Int} {b : Bool} (t : TypeId) (h : intCmp op x y = some b) :
    Go.binOp op t (.int k x) (.int k y) = pure (.bool b) := by
  cases op <;> simp only [intCmp] at h <;> (try cases h) <;> simp [Go.binOp, Op.intCmp]

theorem eqGuard_const (op : BinOp) (t : TypeId) (x y x' y' : Operand) (a b : Value) (hx : isConst x = isConst x') (hy : isConst y = isConst y') :
    eqGuard op t x y a b = eqGuard op t x' y' a b := by
  cases x <;> cases x' <;> simp [isConst] at hx <;> cases y <;> cases y' <;> simp [isConst] at hy <;> rfl

theorem denBool2 {E : Env} {b : BE} {v : Value} (h : (AV.bool b).den E = some v) : v = .bool (b.den E.ι) ∧ b.upto E.ι.nv = true := by
  simp only [AV.den] at h
  split at h
  · rename_i hb
    injection h with h
    exact ⟨h.symm, hb⟩
  · cases h
theorem denInt2 {E : Env} {k : IntKind} {e : IE} {v : Value} (h : (AV.int k e).den E = some v) : v = .int k (e.den E.ι) ∧ e.upto E.ι.nv = true := by
  simp only [AV.den] at h
  split at h
  · rename_i hb
    injection h with h
    exact ⟨h.symm, hb⟩
  · cases h
theorem denBool {E : Env} {b : BE} {v : Value} (h : (AV.bool b).den E = some v) : v = .bool (b.den E.ι) := (denBool2 h).1
theorem denInt {E : Env} {k : IntKind} {e : IE} {v : Value} (h : (AV.int k e).den E = some v) : v = .int k (e.den E.ι) := (denInt2 h).1
theorem denB {E : Env} {b : BE} {v : Value} (h : (AV.bool b).den E = some v) : b.upto E.ι.nv = true := (denBool2 h).2
theorem denI {E : Env} {k : IntKind} {e : IE} {v : Value} (h : (AV.int k e).den E = some v) : e.upto E.ι.nv = true := (denInt2 h).2
theorem den_bool {E : Env} {b : BE} (h : b.upto E.ι.nv = true) : (AV.bool b).den E = some (.bool (b.den E.ι)) := by simp only [AV.den, if_pos h]
theorem den_int {E : Env} {k : IntKind} {e : IE} (h : e.upto E.ι.nv = true) : (AV.int k e).den E = some (.int k (e.den E.ι)) := by simp only [AV.den, if_pos h]
theorem den_txt {E : Env} {x : TX} (h : x.upto E.ι.nv = true) : (AV.txt x).den E = some (.string ⟨(x.den E.ι).toArray⟩) := by simp only [AV.den, if_pos h]
theorem denTxt {E : Env} {x : TX} {v : Value} (h : (AV.txt x).den E = some v) : v = .string ⟨(x.den E.ι).toArray⟩ ∧ x.upto E.ι.nv = true := by
  simp only [AV.den] at h
  split at h
  · rename_i hb
    injection h with h
    exact ⟨h.symm, hb⟩
  · cases h
theorem denSl {E : Env} {b z : Nat} {q o len cap : IE} {v : Value} (h : (AV.sl b z q o len cap).den E = some v) :
    (q.upto E.ι.nv = true ∧ o.upto E.ι.nv = true ∧ len.upto E.ι.nv = true ∧ cap.upto E.ι.nv = true) ∧ (0 ≤ o.den E.ι ∧ 0 ≤ len.den E.ι ∧ len.den E.ι ≤ cap.den E.ι) ∧
      ∃ c, E.ρ[b]? = some c ∧ v = .slice (some ⟨c, (q.den E.ι).toNat + (o.den E.ι).toNat * z, none⟩) (len.den E.ι).toNat (cap.den E.ι).toNat := by
  simp only [AV.den] at h
  split at h
  · rename_i hb
    obtain ⟨h0, h1⟩ := hb
    simp only [Bool.and_eq_true] at h0
    simp only [Option.map_eq_some_iff] at h
    obtain ⟨c, hc, rfl⟩ := h
    exact ⟨⟨h0.1.1.1, h0.1.1.2, h0.1.2, h0.2⟩, h1, c, hc, rfl⟩
  · cases h
theorem denPtrs {E : Env} {b z o : Nat} {q i : IE} {v : Value} (h : (AV.ptrs b z q i o).den E = some v) :
    (q.upto E.ι.nv = true ∧ i.upto E.ι.nv = true) ∧ 0 ≤ i.den E.ι ∧ ∃ c, E.ρ[b]? = some c ∧ v = .pointer (some ⟨c, (q.den E.ι).toNat + (i.den E.ι).toNat * z + o, none⟩) := by
  simp only [AV.den] at h
  split at h
  · rename_i hb
    obtain ⟨h0, h1⟩ := hb
    simp only [Bool.and_eq_true] at h0
    simp only [Option.map_eq_some_iff] at h
    obtain ⟨c, hc, rfl⟩ := h
    exact ⟨h0, h1, c, hc, rfl⟩
  · cases h

/-! ### What is made of what there is asks of what there is -/

theorem fold_below {n : Nat} {op : BinOp} {k : IntKind} {a : IE} {y : Int} (ha : a.upto n = true) : (IE.fold op k a y).upto n = true := by
  unfold IE.fold
  split
  · simp only [IE.upto, Bool.and_eq_true] at ha
    split <;> simp [IE.upto, ha.1]
  · simp [IE.upto, ha]
theorem mkBin_below {n : Nat} {op : BinOp} {k : IntKind} {a b e : IE} (h : IE.mkBin op k a b = some e) (ha : a.upto n = true) (hb : b.upto n = true) : e.upto n = true := by
  unfold IE.mkBin at h
  split at h
  · simp only [Option.map_eq_some_iff] at h
    obtain ⟨r, _, rfl⟩ := h
    rfl
  · split at h
    · injection h with h; subst h; exact fold_below ha
    · cases h
  · split at h <;> first | (injection h with h; subst h; simp [IE.upto, ha, hb]) | cases h
theorem mkWrap_below {n : Nat} {k : IntKind} {a : IE} (ha : a.upto n = true) : (IE.mkWrap k a).upto n = true := by
  unfold IE.mkWrap
  split
  · rfl
  · simp only [IE.upto] at ha
    split <;> simp [IE.upto, ha]
  · simp [IE.upto, ha]
theorem mkNot_below {n : Nat} {b : BE} (hb : b.upto n = true) : b.mkNot.upto n = true := by
  cases b <;> first | exact hb | (simp only [BE.mkNot, BE.upto] at hb ⊢; exact hb)
theorem mkSame_below {n : Nat} {a b : BE} (ha : a.upto n = true) (hb : b.upto n = true) : (BE.mkSame a b).upto n = true := by
  unfold BE.mkSame
  split
  · exact hb
  · exact mkNot_below hb
  · exact ha
  · exact mkNot_below ha
  · split
    · rfl
    · simp [BE.upto, ha, hb]
theorem cmpOf_below {n : Nat} {op : BinOp} {a b : IE} (ha : a.upto n = true) (hb : b.upto n = true) : (BE.cmpOf op a b).upto n = true := by
  unfold BE.cmpOf
  split
  · simp [BE.upto, ha, IE.upto]
  · split <;> simp [BE.upto, ha, hb]
theorem mkCmp_below {n : Nat} {op : BinOp} {a b : IE} {e : BE} (h : BE.mkCmp op a b = some e) (ha : a.upto n = true) (hb : b.upto n = true) : e.upto n = true := by
  unfold BE.mkCmp at h
  split at h
  · simp only [Option.map_eq_some_iff] at h
    obtain ⟨r, _, rfl⟩ := h
    rfl
  · split at h
    · injection h with h; subst h; simp [BE.upto, IE.upto, hb]
    · cases h
  · split at h
    · injection h with h; subst h
      split
      · rfl
      · exact cmpOf_below ha hb
    · cases h
theorem denStr {E : Env} {s : List UInt8} {v : Value} (h : (AV.str s).den E = some v) : v = .string ⟨s.toArray⟩ := by simpa [AV.den] using h.symm
theorem denPtr {E : Env} {b o : Nat} {v : Value} (h : (AV.ptr b o).den E = some v) : ∃ c, E.ρ[b]? = some c ∧ v = .pointer (some ⟨c, o, none⟩) := by
  simp only [AV.den, Option.map_eq_some_iff] at h
  obtain ⟨c, hc, rfl⟩ := h
  exact ⟨c, hc, rfl⟩
theorem denNilPtr {E : Env} {v : Value} (h : AV.nilPtr.den E = some v) : v = .pointer none := by simpa [AV.den] using h.symm
theorem denNilSlice {E : Env} {v : Value} (h : AV.nilSlice.den E = some v) : v = .slice none 0 0 := by simpa [AV.den] using h.symm
theorem denNilMap {E : Env} {v : Value} (h : AV.nilMap.den E = some v) : v = .map none := by simpa [AV.den] using h.symm
theorem denNilFunc {E : Env} {v : Value} (h : AV.nilFunc.den E = some v) : v = .nilFunc := by simpa [AV.den] using h.symm
theorem denNilIface {E : Env} {v : Value} (h : AV.nilIface.den E = some v) : v = .nilIface := by simpa [AV.den] using h.symm
theorem denStrv {E : Env} {i : Nat} {v : Value} (h : (AV.strv i).den E = some v) : v = .string ⟨(E.ι.str i).toArray⟩ := by simpa [AV.den] using h.symm
theorem denCapv {E : Env} {i s : Nat} {v : Value} (h : (AV.capv i s).den E = some v) : ∃ n, (Cap.var i s).den E = some n ∧ v = .int .i64 (n : Int) := by
  simp only [AV.den, Option.map_eq_some_iff] at h
  obtain ⟨c, hc, rfl⟩ := h
  exact ⟨c, hc, rfl⟩
theorem denGlob {E : Env} {g o : Nat} {v : Value} (h : (AV.glob g o).den E = some v) : v = .pointer (some ⟨g, o, none⟩) := by simpa [AV.den] using h.symm
theorem denYield {E : Env} {b : Nat} {v : Value} (h : (AV.yield b).den E = some v) : ∃ c, E.ρ[b]? = some c ∧ v = .func (.yield c) #[] #[] := by
  simp only [AV.den, Option.map_eq_some_iff] at h
  obtain ⟨c, hc, rfl⟩ := h
  exact ⟨c, hc, rfl⟩
theorem denMap {E : Env} {b : Nat} {v : Value} (h : (AV.map b).den E = some v) : ∃ c, E.ρ[b]? = some c ∧ v = .map (some c) := by
  simp only [AV.den, Option.map_eq_some_iff] at h
  obtain ⟨c, hc, rfl⟩ := h
  exact ⟨c, hc, rfl⟩
theorem denSlice {E : Env} {b o len : Nat} {cap : Cap} {v : Value} (h : (AV.slice b o len cap).den E = some v) :
    ∃ c n, E.ρ[b]? = some c ∧ cap.den E = some n ∧ len ≤ n ∧ v = .slice (some ⟨c, o, none⟩) len n := by
  simp only [AV.den] at h
  split at h
  · rename_i c n hc hn
    split at h
    · rename_i hl
      injection h with h
      exact ⟨c, n, hc, hn, hl, h.symm⟩
    · cases h
  · cases h
theorem denFunc {E : Env} {f : FuncId} {a b : List AV} {v : Value} (h : (AV.func f a b).den E = some v) :
    ∃ x y, AV.denL E a = some x ∧ AV.denL E b = some y ∧ v = .func (.func f) x.toArray y.toArray := by
  simp only [AV.den] at h
  split at h
  · rename_i x y hx hy
    injection h with h
    exact ⟨x, y, hx, hy, h.symm⟩
  · cases h
theorem denIface {E : Env} {t : TypeId} {a : AV} {v : Value} (h : (AV.iface t a).den E = some v) : ∃ x, a.den E = some x ∧ v = .iface t x := by
  simp only [AV.den, Option.map_eq_some_iff] at h
  obtain ⟨c, hc, rfl⟩ := h
  exact ⟨c, hc, rfl⟩
theorem denAgg {E : Env} {cs : List AV} {v : Value} (h : (AV.agg cs).den E = some v) : ∃ l, AV.denL E cs = some l ∧ v = .agg l.toArray := by
  simp only [AV.den, Option.map_eq_some_iff] at h
  obtain ⟨c, hc, rfl⟩ := h
  exact ⟨c, hc, rfl⟩
theorem denTuple {E : Env} {cs : List AV} {v : Value} (h : (AV.tuple cs).den E = some v) : ∃ l, AV.denL E cs = some l ∧ v = .tuple l.toArray := by
  simp only [AV.den, Option.map_eq_some_iff] at h
  obtain ⟨c, hc, rfl⟩ := h
  exact ⟨c, hc, rfl⟩

section
variable {P : Program} {E : Env}

theorem run_equalIn_bool {t : TypeId} (hd : P.underlying t = some .bool) (d : Nat) (a b : Bool) (w : World) :
    (Op.equalIn (d + 1) t (.bool a) (.bool b)).run P w = .ok (a == b) w := by
  simp [Op.equalIn, run_underlying hd]

/-- Truths that are compared. -/
theorem run_eql_bool {t : TypeId} (hd : P.underlying t = some .bool) (a b : Bool) (w : World) :
    (Go.binOp .eql t (.bool a) (.bool b)).run P w = .ok (.bool (a == b)) w := by
  have e : Go.binOp .eql t (.bool a) (.bool b) = (do pure (.bool (← Op.equalIn (9999 + 1) t (.bool a) (.bool b)))) := rfl
  rw [e]
  simp [run_equalIn_bool hd]
theorem run_neq_bool {t : TypeId} (hd : P.underlying t = some .bool) (a b : Bool) (w : World) :
    (Go.binOp .neq t (.bool a) (.bool b)).run P w = .ok (.bool (!(a == b))) w := by
  have e : Go.binOp .neq t (.bool a) (.bool b) = (do pure (.bool (!(← Op.equalIn (9999 + 1) t (.bool a) (.bool b))))) := rfl
  rw [e]
  simp [run_equalIn_bool hd]

/-- Texts that are compared. -/
theorem toList_loop (a : List UInt8) : ∀ (n i : Nat) (r : List UInt8), a.length - i = n → ByteArray.toList.loop ⟨a.toArray⟩ i r = r.reverse ++ a.drop i
  | 0, i, r, h => by
    have hs : ¬ i < (⟨a.toArray⟩ : ByteArray).size := by simp [ByteArray.size]; omega
    rw [ByteArray.toList.loop, if_neg hs, List.drop_eq_nil_of_le (by omega), List.append_nil]
  | n + 1, i, r, h => by
    have hi : i < a.length := by omega
    have hs : i < (⟨a.toArray⟩ : ByteArray).size := by simpa [ByteArray.size] using hi
    have hg : (⟨a.toArray⟩ : ByteArray).get! i = a[i] := by
      have : (⟨a.toArray⟩ : ByteArray).get! i = a.toArray[i]! := rfl
      rw [this]
      simp [hi]
    rw [ByteArray.toList.loop, if_pos hs, toList_loop a n (i + 1) _ (by omega), hg, List.drop_eq_getElem_cons hi]
    simp

theorem toList_mk (a : List UInt8) : (⟨a.toArray⟩ : ByteArray).toList = a := by
  have := toList_loop a _ 0 [] rfl
  simpa [ByteArray.toList] using this

theorem run_eql_string {t : TypeId} (a b : List UInt8) (w : World) :
    (Go.binOp .eql t (.string ⟨a.toArray⟩) (.string ⟨b.toArray⟩)).run P w = .ok (.bool (decide (a = b))) w := by
  have e : Go.binOp .eql t (.string ⟨a.toArray⟩) (.string ⟨b.toArray⟩) = pure (.bool ((⟨a.toArray⟩ : ByteArray).toList == (⟨b.toArray⟩ : ByteArray).toList)) := rfl
  have hb : (a == b) = decide (a = b) := by rw [Bool.eq_iff_iff]; simp
  rw [e, toList_mk, toList_mk, hb]
  rfl
theorem run_neq_string {t : TypeId} (a b : List UInt8) (w : World) :
    (Go.binOp .neq t (.string ⟨a.toArray⟩) (.string ⟨b.toArray⟩)).run P w = .ok (.bool (!(decide (a = b)))) w := by
  have e : Go.binOp .neq t (.string ⟨a.toArray⟩) (.string ⟨b.toArray⟩) = pure (.bool (!((⟨a.toArray⟩ : ByteArray).toList == (⟨b.toArray⟩ : ByteArray).toList))) := rfl
  have hb : (a == b) = decide (a = b) := by rw [Bool.eq_iff_iff]; simp
  rw [e, toList_mk, toList_mk, hb]
  rfl

/-- Of a value and a nil of its kind. -/
theorem nilCmp {op : BinOp} {t : TypeId} {x y : Operand} {r : AV} {u v : Value} {Q : Prop}
    (h : (match op with | .eql => some (AV.bool (.lit false)) | .neq => some (.bool (.lit true)) | _ => none) = some r)
    (hg : eqGuard op t x y u v = pure ())
    (he : Go.binOp .eql t u v = (do pure (.bool (← Op.equalIn (9999 + 1) t u v)))) (hn : Go.binOp .neq t u v = (do pure (.bool (!(← Op.equalIn (9999 + 1) t u v)))))
    (hr : ∀ d w, (Op.equalIn (d + 1) t u v).run P w = .ok false w) :
    ∃ z, r.den E = some z ∧ ∀ w, (do eqGuard op t x y u v; Go.binOp op t u v : Sem Value).run P w = .ok z w := by
  cases op <;> simp at h
  · subst h
    exact ⟨_, by simp [AV.den, BE.den, BE.upto]; rfl, fun w => by rw [hg, he]; simp [hr]⟩
  · subst h
    exact ⟨_, by simp [AV.den, BE.den, BE.upto]; rfl, fun w => by rw [hg, hn]; simp [hr]⟩

theorem sameAddr_one {P : Program} (a : Addr) (w : World) : (sameAddr a a).run P w = .ok true w := by
  have h : sameAddr a a = (if a.block == a.block then pure (a == a) else (do
      if (← frozen a) && (← frozen a) then unsupported .addressObserved
      noView a
      noView a
      if ← mayBeOne a a then return (← choose (.extern "sameAddr.stringBytes" 2)) == 1
      pure false)) := rfl
  rw [h]
  simp

theorem binOpA_sound {op : BinOp} {t : TypeId} {x y : Operand} {a b r : AV} {u v : Value} (h : binOpA P op t (isConst x) (isConst y) a b = some r)
    (ha : a.den E = some u) (hb : b.den E = some v) :
    ∃ z, r.den E = some z ∧ ∀ w, (do eqGuard op t x y u v; Go.binOp op t u v : Sem Value).run P w = .ok z w := by
  unfold binOpA at h
  split at h
  · -- numbers
    rename_i k e k' e'
    have ba := denI ha
    have bb := denI hb
    obtain rfl := denInt ha
    obtain rfl := denInt hb
    split at h
    · simp only [Option.map_eq_some_iff] at h
      obtain ⟨r, hr, rfl⟩ := h
      refine ⟨_, den_int (mkBin_below hr ba bb), fun w => ?_⟩
      rw [binOp_int t (IE.mkBin_den hr) (Or.inl rfl)]
      simp [eqGuard_at_int]
    · simp only [Option.map_eq_some_iff] at h
      obtain ⟨r, hr, rfl⟩ := h
      refine ⟨_, den_int (mkBin_below hr ba bb), fun w => ?_⟩
      rw [binOp_int t (IE.mkBin_den hr) (Or.inr (Or.inl rfl))]
      simp [eqGuard_at_int]
    all_goals first
      | (split at h
         · rename_i hk
           subst hk
           simp only [Option.map_eq_some_iff] at h
           obtain ⟨r, hr, rfl⟩ := h
           first
             | (refine ⟨_, den_int (mkBin_below hr ba bb), fun w => ?_⟩; rw [binOp_int t (IE.mkBin_den hr) (Or.inr (Or.inr rfl))]; simp [eqGuard_at_int])
             | (refine ⟨_, den_bool (mkCmp_below hr ba bb), fun w => ?_⟩; rw [binOp_cmp t (BE.mkCmp_den hr)]; simp [eqGuard_at_int])
         · cases h)
  · -- truths
    rename_i p q
    have ba := denB ha
    have bb := denB hb
    obtain rfl := denBool ha
    obtain rfl := denBool hb
    split at h
    · rename_i hd
      split at h
      · injection h with h; subst h
        exact ⟨_, den_bool rfl, fun w => by simp [eqGuard_at_bool, BE.den, run_eql_bool hd]⟩
      · injection h with h; subst h
        exact ⟨_, den_bool rfl, fun w => by simp [eqGuard_at_bool, BE.den, run_neq_bool hd]⟩
      · injection h with h; subst h
        exact ⟨_, by rw [den_bool (mkSame_below ba bb), BE.mkSame_den], fun w => by simp [eqGuard_at_bool, run_eql_bool hd]⟩
      · injection h with h; subst h
        exact ⟨_, by rw [den_bool (mkNot_below (mkSame_below ba bb)), BE.mkNot_den, BE.mkSame_den], fun w => by simp [eqGuard_at_bool, run_neq_bool hd]⟩
      · cases h
    · cases h
  · obtain ⟨c, hc, rfl⟩ := denPtr ha; obtain rfl := denNilPtr hb
    split at h
    · rename_i hd
      exact nilCmp (Q := True) h (eqGuard_at_pointer _ _ _ _ _ _) rfl rfl (fun d w => by simp [Op.equalIn, run_underlying hd])
    · cases h
  · obtain ⟨c, hc, rfl⟩ := denPtr hb; obtain rfl := denNilPtr ha
    split at h
    · rename_i hd
      exact nilCmp (Q := True) h (eqGuard_at_pointer _ _ _ _ _ _) rfl rfl (fun d w => by simp [Op.equalIn, run_underlying hd])
    · cases h
  · -- one pointer twice
    obtain ⟨c, hc, rfl⟩ := denPtr ha; obtain ⟨c', hc', rfl⟩ := denPtr hb
    split at h
    · rename_i e hd
      split at h
      · rename_i hcond
        simp only [Bool.and_eq_true, beq_iff_eq] at hcond
        obtain ⟨⟨rfl, rfl⟩, hinfo⟩ := hcond
        obtain ⟨j, hj⟩ := Option.isSome_iff_exists.1 hinfo
        rw [hc] at hc'
        injection hc' with hc'
        subst hc'
        have hq : ∀ (d o : Nat) (w : World), (Op.equalIn (d + 1) t (.pointer (some ⟨c, o, none⟩)) (.pointer (some ⟨c, o, none⟩))).run P w = .ok true w := fun d o w => by
          simp [Op.equalIn, run_underlying hd, sizeOf, typeInfo, hj, sameAddr_one]
        split at h
        · injection h with h
          subst h
          exact ⟨_, by simp [AV.den, BE.den, BE.upto]; rfl, fun w => by rw [eqGuard_at_pointer]; simp [Go.binOp, Op.equal, Op.maxDepth, hq 9999]⟩
        · injection h with h
          subst h
          exact ⟨_, by simp [AV.den, BE.den, BE.upto]; rfl, fun w => by rw [eqGuard_at_pointer]; simp [Go.binOp, Op.equal, Op.maxDepth, hq 9999]⟩
        · cases h
      · cases h
    · cases h
  · obtain ⟨c, n, hc, hn, hl, rfl⟩ := denSlice ha; obtain rfl := denNilSlice hb
    split at h
    · rename_i hd
      exact nilCmp (Q := True) h (eqGuard_at_slice _ _ _ _ _ _ _ _) rfl rfl (fun d w => by simp [Op.equalIn, run_underlying hd])
    · cases h
  · obtain ⟨c, n, hc, hn, hl, rfl⟩ := denSlice hb; obtain rfl := denNilSlice ha
    split at h
    · rename_i hd
      exact nilCmp (Q := True) h (eqGuard_at_slice _ _ _ _ _ _ _ _) rfl rfl (fun d w => by simp [Op.equalIn, run_underlying hd])
    · cases h
  · obtain ⟨c, n, hc, hn, rfl⟩ := denFunc ha; obtain rfl := denNilFunc hb
    split at h
    · rename_i hd
      exact nilCmp (Q := True) h (eqGuard_at_func _ _ _ _ _ _ _ _) rfl rfl (fun d w => by simp [Op.equalIn, run_underlying hd])
    · cases h
  · obtain ⟨c, n, hc, hn, rfl⟩ := denFunc hb; obtain rfl := denNilFunc ha
    split at h
    · rename_i hd
      exact nilCmp (Q := True) h (eqGuard_at_nilFunc _ _ _ _ _) rfl rfl (fun d w => by simp [Op.equalIn, run_underlying hd])
    · cases h
  · obtain ⟨c, hc, rfl⟩ := denMap ha; obtain rfl := denNilMap hb
    split at h
    · rename_i hd
      exact nilCmp (Q := True) h (eqGuard_at_map _ _ _ _ _ _) rfl rfl (fun d w => by simp [Op.equalIn, run_underlying hd])
    · cases h
  · obtain ⟨c, hc, rfl⟩ := denMap hb; obtain rfl := denNilMap ha
    split at h
    · rename_i hd
      exact nilCmp (Q := True) h (eqGuard_at_map _ _ _ _ _ _) rfl rfl (fun d w => by simp [Op.equalIn, run_underlying hd])
    · cases h
  · -- an unknown text
    obtain rfl := denStrv ha
    obtain rfl := denStr hb
    split at h
    · rename_i hd
      split at h
      · injection h with h; subst h
        exact ⟨_, by simp [AV.den, BE.den, BE.upto]; rfl, fun w => by simp [eqGuard_at_string, run_eql_string]⟩
      · injection h with h; subst h
        exact ⟨_, by simp [AV.den, BE.den, BE.upto]; rfl, fun w => by simp [eqGuard_at_string, run_neq_string]⟩
      · cases h
    · cases h
  · -- the other way round
    obtain rfl := denStrv hb
    obtain rfl := denStr ha
    split at h
    · rename_i hd
      split at h
      · injection h with h; subst h
        exact ⟨_, by simp [AV.den, BE.den, BE.upto]; rfl, fun w => by simp [eqGuard_at_string, run_eql_string, eq_comm]⟩
      · injection h with h; subst h
        exact ⟨_, by simp [AV.den, BE.den, BE.upto]; rfl, fun w => by simp [eqGuard_at_string, run_neq_string, eq_comm]⟩
      · cases h
    · cases h
  -- all else
  · simp only [Option.bind_eq_bind, Option.bind_eq_some_iff] at h
    obtain ⟨vx, hx, vy, hy, z, hz, hr⟩ := h
    have e1 := toValue_den E _ _ _ hx
    have e2 := toValue_den E _ _ _ hy
    rw [ha] at e1
    rw [hb] at e2
    injection e1 with e1
    injection e2 with e2
    subst e1
    subst e2
    refine ⟨z, ofV_den E hr, fun w => ?_⟩
    have := runPure_sound _ _ _ hz w
    rw [eqGuard_const op t x y (if isConst x then .const u else .tmp 0) (if isConst y then .const v else .tmp 0)]
    · exact this
    · cases isConst x <;> rfl
    · cases isConst y <;> rfl

theorem unOpA_sound {op : UnOp} {a r : AV} {u : Value} (h : unOpA op a = some r) (ha : a.den E = some u) :
    ∃ z, r.den E = some z ∧ ∀ w, (Op.unary op u).run P w = .ok z w := by
  unfold unOpA at h
  split at h
  · have ba := denI ha
    obtain rfl := denInt ha
    simp only [Option.map_eq_some_iff] at h
    obtain ⟨r, hr, rfl⟩ := h
    have := IE.mkBin_den (ι := E.ι) hr
    simp only [IE.den, intBin, Option.some.injEq] at this
    refine ⟨_, den_int (mkBin_below hr (by rfl) ba), fun w => ?_⟩
    simp [Op.unary, Op.intArith, ← this]
  · have ba := denI ha
    obtain rfl := denInt ha
    simp only [Option.map_eq_some_iff] at h
    obtain ⟨r, hr, rfl⟩ := h
    have := IE.mkBin_den (ι := E.ι) hr
    simp only [IE.den, intBin, Option.some.injEq] at this
    refine ⟨_, den_int (mkBin_below hr (by rfl) ba), fun w => ?_⟩
    simp [Op.unary, Op.intBits, ← this]
  · have ba := denB ha
    obtain rfl := denBool ha
    injection h with h
    subst h
    exact ⟨_, den_bool (mkNot_below ba), fun w => by simp [Op.unary, BE.mkNot_den]⟩
  · cases h

end

end Go.Sx
