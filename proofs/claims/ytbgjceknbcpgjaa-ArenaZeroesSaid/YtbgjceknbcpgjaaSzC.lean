/-
  A WALKER THAT COMPUTES, ITS THIRD PART: what its values and its memory mean.
-/
import Derived.Test.YtbgjceknbcpgjaaSzB
import Derived.WalkKit
namespace Go.Sx

/-- Where the numbered blocks lie, what the open capacities are, what the unknowns are. -/
structure Env where
  ρ : List Nat
  κ : List Nat
  ι : Unk

def Cap.den (E : Env) : Cap → Option Nat
  | .known n => some n
  | .var i s =>
    match E.κ[i]? with
    | some n => if s ≤ n then some (n - s) else none
    | none => none

def Unk.nv (ι : Unk) : Nat := ι.fv.length

mutual
noncomputable def AV.den (E : Env) : AV → Option Value
  | .bool b => if b.upto E.ι.nv = true then some (.bool (b.den E.ι)) else none
  | .int k e => if e.upto E.ι.nv = true then some (.int k (e.den E.ι)) else none
  | .str s => some (.string ⟨s.toArray⟩)
  | .nilPtr => some (.pointer none)
  | .ptr b o => (E.ρ[b]?).map fun c => .pointer (some ⟨c, o, none⟩)
  | .nilSlice => some (.slice none 0 0)
  | .slice b o len cap =>
    match E.ρ[b]?, cap.den E with
    | some c, some n => if len ≤ n then some (.slice (some ⟨c, o, none⟩) len n) else none
    | _, _ => none
  | .nilMap => some (.map none)
  | .map b => (E.ρ[b]?).map fun c => .map (some c)
  | .func f a b =>
    match AV.denL E a, AV.denL E b with
    | some x, some y => some (.func (.func f) x.toArray y.toArray)
    | _, _ => none
  | .nilFunc => some .nilFunc
  | .iface t v => (AV.den E v).map fun x => .iface t x
  | .nilIface => some .nilIface
  | .agg cs => (AV.denL E cs).map fun l => .agg l.toArray
  | .tuple vs => (AV.denL E vs).map fun l => .tuple l.toArray
  | .yield b => (E.ρ[b]?).map fun c => .func (.yield c) #[] #[]
  | .strv i => some (.string ⟨(E.ι.str i).toArray⟩)
  | .capv i s => (Cap.den E (.var i s)).map fun (n : Nat) => Value.int .i64 (n : Int)
  | .glob g o => some (.pointer (some ⟨g, o, none⟩))
  | .txt x => if x.upto E.ι.nv = true then some (.string ⟨(x.den E.ι).toArray⟩) else none
  | .sl b z q o len cap =>
    if (q.upto E.ι.nv && o.upto E.ι.nv && len.upto E.ι.nv && cap.upto E.ι.nv) = true ∧ 0 ≤ o.den E.ι ∧ 0 ≤ len.den E.ι ∧ len.den E.ι ≤ cap.den E.ι then
      (E.ρ[b]?).map fun c => .slice (some ⟨c, (q.den E.ι).toNat + (o.den E.ι).toNat * z, none⟩) (len.den E.ι).toNat (cap.den E.ι).toNat
    else none
  | .ptrs b z q i o =>
    if (q.upto E.ι.nv && i.upto E.ι.nv) = true ∧ 0 ≤ i.den E.ι then (E.ρ[b]?).map fun c => .pointer (some ⟨c, (q.den E.ι).toNat + (i.den E.ι).toNat * z + o, none⟩) else none
noncomputable def AV.denL (E : Env) : List AV → Option (List Value)
  | [] => some []
  | v :: r =>
    match AV.den E v, AV.denL E r with
    | some x, some l => some (x :: l)
    | _, _ => none
end

/-- More has come up. -/
structure Unk.Le (a b : Unk) : Prop where
  num : b.num = a.num
  str : b.str = a.str
  obj : b.obj = a.obj
  prd : b.prd = a.prd
  fv : ∀ (i : Nat) (u : Fv), a.fv[i]? = some u → b.fv[i]? = some u

theorem Unk.Le.refl (a : Unk) : a.Le a := ⟨rfl, rfl, rfl, rfl, fun _ _ h => h⟩
theorem Unk.Le.trans {a b c : Unk} (h : a.Le b) (k : b.Le c) : a.Le c :=
  ⟨k.num.trans h.num, k.str.trans h.str, k.obj.trans h.obj, k.prd.trans h.prd, fun i u hi => k.fv i u (h.fv i u hi)⟩
theorem Unk.Le.nv {a b : Unk} (h : a.Le b) : a.nv ≤ b.nv := by
  unfold Unk.nv
  rcases Nat.eq_zero_or_pos a.fv.length with h0 | h0
  · omega
  · have hl : a.fv.length - 1 < a.fv.length := by omega
    have := h.fv (a.fv.length - 1) _ (List.getElem?_eq_getElem hl)
    have := (List.getElem?_eq_some_iff.1 this).1
    omega
theorem Unk.Le.at {a b : Unk} (h : a.Le b) {i : Nat} (hi : i < a.nv) : b.fv[i]? = a.fv[i]? := by
  rw [h.fv i _ (List.getElem?_eq_getElem hi), List.getElem?_eq_getElem hi]
theorem Unk.Le.fn {a b : Unk} (h : a.Le b) {i : Nat} (hi : i < a.nv) : b.fn i = a.fn i := by simp only [Unk.fn, h.at hi]
theorem Unk.Le.ft {a b : Unk} (h : a.Le b) {i : Nat} (hi : i < a.nv) : b.ft i = a.ft i := by simp only [Unk.ft, h.at hi]
theorem Unk.Le.fr {a b : Unk} (h : a.Le b) {i : Nat} (hi : i < a.nv) : b.fr i = a.fr i := by simp only [Unk.fr, h.at hi]

theorem blt_iff {i n : Nat} : Nat.blt i n = true ↔ i < n := by
  unfold Nat.blt; rw [Nat.ble_eq]; exact Iff.rfl

@[simp] theorem below_lit {n : Nat} {x : Int} : (IE.lit x).upto n = true := rfl
@[simp] theorem below_var {n i : Nat} : (IE.var i).upto n = true := rfl
@[simp] theorem below_slen {n i : Nat} : (IE.slen i).upto n = true := rfl
@[simp] theorem below_blit {n : Nat} {x : Bool} : (BE.lit x).upto n = true := rfl
@[simp] theorem below_seqs {n i : Nat} {x : List UInt8} : (BE.seqs i x).upto n = true := rfl

theorem IE.below_le {m n : Nat} (h : m ≤ n) : ∀ {e : IE}, e.upto m = true → e.upto n = true
  | .lit _, _ => rfl
  | .var _, _ => rfl
  | .slen _, _ => rfl
  | .bin _ _ a b, hb => by simp only [IE.upto, Bool.and_eq_true] at hb ⊢; exact ⟨IE.below_le h hb.1, IE.below_le h hb.2⟩
  | .wrap _ a, hb => by simp only [IE.upto] at hb ⊢; exact IE.below_le h hb
  | .off a b, hb => by simp only [IE.upto, Bool.and_eq_true] at hb ⊢; exact ⟨IE.below_le h hb.1, IE.below_le h hb.2⟩
  | .dif a b, hb => by simp only [IE.upto, Bool.and_eq_true] at hb ⊢; exact ⟨IE.below_le h hb.1, IE.below_le h hb.2⟩
  | .lin a _ _, hb => by simp only [IE.upto] at hb ⊢; exact IE.below_le h hb
  | .fv i, hb => by simp only [IE.upto, blt_iff] at hb ⊢; omega
  | .cell r i, hb => by simp only [IE.upto, Bool.and_eq_true, blt_iff] at hb ⊢; exact ⟨by omega, IE.below_le h hb.2⟩
  | .chr r i, hb => by simp only [IE.upto, Bool.and_eq_true, blt_iff] at hb ⊢; exact ⟨by omega, IE.below_le h hb.2⟩
  | .tlen r, hb => by simp only [IE.upto, blt_iff] at hb ⊢; omega
  | .tab _ i, hb => by simp only [IE.upto] at hb ⊢; exact IE.below_le h hb

theorem IE.den_le {a b : Unk} (h : a.Le b) : ∀ {e : IE}, e.upto a.nv = true → e.den b = e.den a
  | .lit _, _ => rfl
  | .var _, _ => by simp only [IE.den, h.num]
  | .slen _, _ => by simp only [IE.den, h.str]
  | .bin _ _ x y, hb => by simp only [IE.upto, Bool.and_eq_true] at hb; simp only [IE.den, IE.den_le h hb.1, IE.den_le h hb.2]
  | .wrap _ x, hb => by simp only [IE.upto] at hb; simp only [IE.den, IE.den_le h hb]
  | .off x y, hb => by simp only [IE.upto, Bool.and_eq_true] at hb; simp only [IE.den, IE.den_le h hb.1, IE.den_le h hb.2]
  | .dif x y, hb => by simp only [IE.upto, Bool.and_eq_true] at hb; simp only [IE.den, IE.den_le h hb.1, IE.den_le h hb.2]
  | .lin x _ _, hb => by simp only [IE.upto] at hb; simp only [IE.den, IE.den_le h hb]
  | .fv i, hb => by simp only [IE.upto, blt_iff] at hb; simp only [IE.den, h.fn hb]
  | .cell r i, hb => by simp only [IE.upto, Bool.and_eq_true, blt_iff] at hb; simp only [IE.den, h.fr hb.1, IE.den_le h hb.2]
  | .chr r i, hb => by simp only [IE.upto, Bool.and_eq_true, blt_iff] at hb; simp only [IE.den, h.ft hb.1, IE.den_le h hb.2]
  | .tlen r, hb => by simp only [IE.upto, blt_iff] at hb; simp only [IE.den, h.ft hb]
  | .tab _ i, hb => by simp only [IE.upto] at hb; simp only [IE.den, IE.den_le h hb]

theorem TX.below_le {m n : Nat} (h : m ≤ n) : ∀ {e : TX}, e.upto m = true → e.upto n = true
  | .lit _, _ => rfl
  | .rig _, _ => rfl
  | .fv i, hb => by simp only [TX.upto, blt_iff] at hb ⊢; omega
  | .row r a b, hb => by simp only [TX.upto, Bool.and_eq_true, blt_iff] at hb ⊢; exact ⟨by omega, IE.below_le h hb.2.1, IE.below_le h hb.2.2⟩
  | .cat x y, hb => by simp only [TX.upto, Bool.and_eq_true] at hb ⊢; exact ⟨TX.below_le h hb.1, TX.below_le h hb.2⟩
  | .sub x a b, hb => by simp only [TX.upto, Bool.and_eq_true] at hb ⊢; exact ⟨TX.below_le h hb.1, IE.below_le h hb.2.1, IE.below_le h hb.2.2⟩
  | .lits es, hb => by simp only [TX.upto, List.all_eq_true] at hb ⊢; exact fun x hx => IE.below_le h (hb x hx)

theorem TX.den_le {a b : Unk} (h : a.Le b) : ∀ {e : TX}, e.upto a.nv = true → e.den b = e.den a
  | .lit _, _ => rfl
  | .rig _, _ => by simp only [TX.den, h.str]
  | .fv i, hb => by simp only [TX.upto, blt_iff] at hb; simp only [TX.den, h.ft hb]
  | .row r x y, hb => by simp only [TX.upto, Bool.and_eq_true, blt_iff] at hb; simp only [TX.den, h.fr hb.1, IE.den_le h hb.2.1, IE.den_le h hb.2.2]
  | .cat x y, hb => by simp only [TX.upto, Bool.and_eq_true] at hb; simp only [TX.den, TX.den_le h hb.1, TX.den_le h hb.2]
  | .sub x y z, hb => by simp only [TX.upto, Bool.and_eq_true] at hb; simp only [TX.den, TX.den_le h hb.1, IE.den_le h hb.2.1, IE.den_le h hb.2.2]
  | .lits es, hb => by
    simp only [TX.upto, List.all_eq_true] at hb
    simp only [TX.den]
    exact List.map_congr_left fun x hx => by rw [IE.den_le h (hb x hx)]

theorem lits_below_le {m n : Nat} (h : m ≤ n) {vs : List (CK × IE)} (hb : (vs.all fun v => v.2.upto m) = true) : (vs.all fun v => v.2.upto n) = true := by
  rw [List.all_eq_true] at hb ⊢
  exact fun x hx => IE.below_le h (hb x hx)
theorem lits_den_le {a b : Unk} (h : a.Le b) {vs : List (CK × IE)} (hb : (vs.all fun v => v.2.upto a.nv) = true) :
    (vs.map fun v => v.1.val (v.2.den b)) = vs.map fun v => v.1.val (v.2.den a) := by
  rw [List.all_eq_true] at hb
  exact List.map_congr_left fun x hx => by rw [IE.den_le h (hb x hx)]

theorem RX.below_le {m n : Nat} (h : m ≤ n) : ∀ {e : RX}, e.upto m = true → e.upto n = true
  | .row r, hb => by simp only [RX.upto, blt_iff] at hb ⊢; omega
  | .lits vs, hb => lits_below_le h hb
  | .txt t, hb => TX.below_le h hb
  | .sub x a b, hb => by simp only [RX.upto, Bool.and_eq_true] at hb ⊢; exact ⟨RX.below_le h hb.1, IE.below_le h hb.2.1, IE.below_le h hb.2.2⟩
  | .cat x y, hb => by simp only [RX.upto, Bool.and_eq_true] at hb ⊢; exact ⟨RX.below_le h hb.1, RX.below_le h hb.2⟩
  | .set x a y, hb => by simp only [RX.upto, Bool.and_eq_true] at hb ⊢; exact ⟨RX.below_le h hb.1, IE.below_le h hb.2.1, RX.below_le h hb.2.2⟩
  | .rep k vs, hb => by simp only [RX.upto, Bool.and_eq_true] at hb ⊢; exact ⟨IE.below_le h hb.1, lits_below_le h hb.2⟩

theorem RX.den_le {a b : Unk} (h : a.Le b) : ∀ {e : RX}, e.upto a.nv = true → e.den b = e.den a
  | .row r, hb => by simp only [RX.upto, blt_iff] at hb; simp only [RX.den, h.fr hb]
  | .lits vs, hb => lits_den_le h hb
  | .txt t, hb => by simp only [RX.upto] at hb; simp only [RX.den, TX.den_le h hb]
  | .sub x y z, hb => by simp only [RX.upto, Bool.and_eq_true] at hb; simp only [RX.den, RX.den_le h hb.1, IE.den_le h hb.2.1, IE.den_le h hb.2.2]
  | .cat x y, hb => by simp only [RX.upto, Bool.and_eq_true] at hb; simp only [RX.den, RX.den_le h hb.1, RX.den_le h hb.2]
  | .set x y z, hb => by simp only [RX.upto, Bool.and_eq_true] at hb; simp only [RX.den, RX.den_le h hb.1, IE.den_le h hb.2.1, RX.den_le h hb.2.2]
  | .rep k vs, hb => by simp only [RX.upto, Bool.and_eq_true] at hb; simp only [RX.den, IE.den_le h hb.1, lits_den_le h hb.2]

theorem BE.below_le {m n : Nat} (h : m ≤ n) : ∀ {e : BE}, e.upto m = true → e.upto n = true
  | .lit _, _ => rfl
  | .not a, hb => by simp only [BE.upto] at hb ⊢; exact BE.below_le h hb
  | .cmp _ a b, hb => by simp only [BE.upto, Bool.and_eq_true] at hb ⊢; exact ⟨IE.below_le h hb.1, IE.below_le h hb.2⟩
  | .same a b, hb => by simp only [BE.upto, Bool.and_eq_true] at hb ⊢; exact ⟨BE.below_le h hb.1, BE.below_le h hb.2⟩
  | .seqs _ _, _ => rfl
  | .teq x y, hb => by simp only [BE.upto, Bool.and_eq_true] at hb ⊢; exact ⟨TX.below_le h hb.1, TX.below_le h hb.2⟩
  | .isrow r x, hb => by simp only [BE.upto, Bool.and_eq_true, blt_iff] at hb ⊢; exact ⟨by omega, RX.below_le h hb.2⟩
  | .rlen x k, hb => by simp only [BE.upto, Bool.and_eq_true] at hb ⊢; exact ⟨RX.below_le h hb.1, IE.below_le h hb.2⟩
  | .sys _ k x y, hb => by simp only [BE.upto, Bool.and_eq_true] at hb ⊢; exact ⟨IE.below_le h hb.1, RX.below_le h hb.2.1, RX.below_le h hb.2.2⟩
  | .usr k ns ss rs, hb => by
    simp only [BE.upto, Bool.and_eq_true, List.all_eq_true] at hb ⊢
    exact ⟨⟨fun x hx => IE.below_le h (hb.1.1 x hx), fun x hx => TX.below_le h (hb.1.2 x hx)⟩, fun x hx => RX.below_le h (hb.2 x hx)⟩

theorem BE.den_le {a b : Unk} (h : a.Le b) : ∀ {e : BE}, e.upto a.nv = true → e.den b = e.den a
  | .lit _, _ => rfl
  | .not x, hb => by simp only [BE.upto] at hb; simp only [BE.den, BE.den_le h hb]
  | .cmp _ x y, hb => by simp only [BE.upto, Bool.and_eq_true] at hb; simp only [BE.den, IE.den_le h hb.1, IE.den_le h hb.2]
  | .same x y, hb => by simp only [BE.upto, Bool.and_eq_true] at hb; simp only [BE.den, BE.den_le h hb.1, BE.den_le h hb.2]
  | .seqs _ _, _ => by simp only [BE.den, h.str]
  | .teq x y, hb => by simp only [BE.upto, Bool.and_eq_true] at hb; simp only [BE.den]; exact decide_eq_decide.2 (by rw [TX.den_le h hb.1, TX.den_le h hb.2])
  | .isrow r x, hb => by simp only [BE.upto, Bool.and_eq_true, blt_iff] at hb; simp only [BE.den]; exact decide_eq_decide.2 (by rw [h.fr hb.1, RX.den_le h hb.2])
  | .rlen x k, hb => by simp only [BE.upto, Bool.and_eq_true] at hb; simp only [BE.den]; exact decide_eq_decide.2 (by rw [RX.den_le h hb.1, IE.den_le h hb.2])
  | .sys _ k x y, hb => by simp only [BE.upto, Bool.and_eq_true] at hb; simp only [BE.den]; exact decide_eq_decide.2 (by rw [RX.den_le h hb.2.1, RX.den_le h hb.2.2, IE.den_le h hb.1])
  | .usr k ns ss rs, hb => by
    simp only [BE.upto, Bool.and_eq_true, List.all_eq_true] at hb
    simp only [BE.den]
    refine decide_eq_decide.2 ?_
    rw [h.prd, List.map_congr_left (f := fun x : IE => x.den b) (g := fun x => x.den a) (fun x hx => IE.den_le h (hb.1.1 x hx)),
      List.map_congr_left (f := fun x : TX => x.den b) (g := fun x => x.den a) (fun x hx => TX.den_le h (hb.1.2 x hx)), List.map_congr_left (f := fun x : RX => x.den b) (g := fun x => x.den a) (fun x hx => RX.den_le h (hb.2 x hx))]

/-- It asks of what there is, and it is so. -/
def BE.holds (ι : Unk) (b : BE) : Prop := b.upto ι.nv = true ∧ b.den ι = true
theorem BE.holds_le {a b : Unk} (h : a.Le b) {e : BE} (he : e.holds a) : e.holds b := ⟨BE.below_le h.nv he.1, by rw [BE.den_le h he.1]; exact he.2⟩

structure Env.Le (E E' : Env) : Prop where
  ι : E.ι.Le E'.ι
  ρ : ∀ (b c : Nat), E.ρ[b]? = some c → E'.ρ[b]? = some c
  κ : ∀ (i n : Nat), E.κ[i]? = some n → E'.κ[i]? = some n

theorem Env.Le.refl (E : Env) : E.Le E := ⟨.refl _, fun _ _ h => h, fun _ _ h => h⟩
theorem Env.Le.trans {E E' E'' : Env} (h : E.Le E') (k : E'.Le E'') : E.Le E'' :=
  ⟨h.ι.trans k.ι, fun b c hb => k.ρ b c (h.ρ b c hb), fun i n hi => k.κ i n (h.κ i n hi)⟩

theorem Cap.den_var {E : Env} {i s m : Nat} : (Cap.var i s).den E = some m ↔ ∃ n, E.κ[i]? = some n ∧ s ≤ n ∧ m = n - s := by
  simp only [Cap.den]
  constructor
  · intro h
    split at h
    · rename_i n hn
      split at h
      · rename_i hs
        injection h with h
        exact ⟨n, hn, hs, h.symm⟩
      · cases h
    · cases h
  · rintro ⟨n, hn, hs, rfl⟩
    rw [hn]
    simp [hs]

theorem Cap.den_mono {E E' : Env} (h : E.Le E') {c : Cap} {n : Nat} (hc : c.den E = some n) : c.den E' = some n := by
  cases c with
  | known m => exact hc
  | var i s =>
    obtain ⟨k, hk, hs, rfl⟩ := Cap.den_var.1 hc
    exact Cap.den_var.2 ⟨k, h.κ _ _ hk, hs, rfl⟩

mutual
theorem AV.den_mono {E E' : Env} (h : E.Le E') : ∀ (v : AV) (x : Value), v.den E = some x → v.den E' = some x
  | .bool b, x, hx => by
    simp only [AV.den] at hx ⊢
    split at hx
    · rename_i hb
      rw [if_pos (BE.below_le h.ι.nv hb), BE.den_le h.ι hb]; exact hx
    · cases hx
  | .int k e, x, hx => by
    simp only [AV.den] at hx ⊢
    split at hx
    · rename_i hb
      rw [if_pos (IE.below_le h.ι.nv hb), IE.den_le h.ι hb]; exact hx
    · cases hx
  | .txt t, x, hx => by
    simp only [AV.den] at hx ⊢
    split at hx
    · rename_i hb
      rw [if_pos (TX.below_le h.ι.nv hb), TX.den_le h.ι hb]; exact hx
    · cases hx
  | .sl b z q o len cap, x, hx => by
    simp only [AV.den] at hx ⊢
    split at hx
    · rename_i hb
      obtain ⟨h0, h1⟩ := hb
      simp only [Bool.and_eq_true] at h0
      simp only [Option.map_eq_some_iff] at hx
      obtain ⟨c, hc, rfl⟩ := hx
      rw [IE.den_le h.ι h0.1.1.1, IE.den_le h.ι h0.1.1.2, IE.den_le h.ι h0.1.2, IE.den_le h.ι h0.2, if_pos ⟨by simp only [Bool.and_eq_true]; exact ⟨⟨⟨IE.below_le h.ι.nv h0.1.1.1, IE.below_le h.ι.nv h0.1.1.2⟩, IE.below_le h.ι.nv h0.1.2⟩, IE.below_le h.ι.nv h0.2⟩, h1⟩, h.ρ b c hc]
      rfl
    · cases hx
  | .ptrs b z q i o, x, hx => by
    simp only [AV.den] at hx ⊢
    split at hx
    · rename_i hb
      obtain ⟨h0, h1⟩ := hb
      simp only [Bool.and_eq_true] at h0
      simp only [Option.map_eq_some_iff] at hx
      obtain ⟨c, hc, rfl⟩ := hx
      rw [IE.den_le h.ι h0.1, IE.den_le h.ι h0.2, if_pos ⟨by simp only [Bool.and_eq_true]; exact ⟨IE.below_le h.ι.nv h0.1, IE.below_le h.ι.nv h0.2⟩, h1⟩, h.ρ b c hc]
      rfl
    · cases hx
  | .str s, x, hx => by simpa [AV.den] using hx
  | .nilPtr, x, hx => by simpa [AV.den] using hx
  | .ptr b o, x, hx => by
    simp only [AV.den, Option.map_eq_some_iff] at hx ⊢
    obtain ⟨c, hc, rfl⟩ := hx
    exact ⟨c, h.ρ b c hc, rfl⟩
  | .nilSlice, x, hx => by simpa [AV.den] using hx
  | .slice b o len cap, x, hx => by
    simp only [AV.den] at hx ⊢
    split at hx
    · rename_i c n hc hn
      rw [h.ρ b c hc, Cap.den_mono h hn]
      exact hx
    · cases hx
  | .nilMap, x, hx => by simpa [AV.den] using hx
  | .map b, x, hx => by
    simp only [AV.den, Option.map_eq_some_iff] at hx ⊢
    obtain ⟨c, hc, rfl⟩ := hx
    exact ⟨c, h.ρ b c hc, rfl⟩
  | .func f a b, x, hx => by
    simp only [AV.den] at hx ⊢
    split at hx
    · rename_i y z hy hz
      rw [AV.denL_mono h a y hy, AV.denL_mono h b z hz]
      exact hx
    · cases hx
  | .nilFunc, x, hx => by simpa [AV.den] using hx
  | .iface t v, x, hx => by
    simp only [AV.den, Option.map_eq_some_iff] at hx ⊢
    obtain ⟨c, hc, rfl⟩ := hx
    exact ⟨c, AV.den_mono h v c hc, rfl⟩
  | .nilIface, x, hx => by simpa [AV.den] using hx
  | .agg cs, x, hx => by
    simp only [AV.den, Option.map_eq_some_iff] at hx ⊢
    obtain ⟨c, hc, rfl⟩ := hx
    exact ⟨c, AV.denL_mono h cs c hc, rfl⟩
  | .tuple cs, x, hx => by
    simp only [AV.den, Option.map_eq_some_iff] at hx ⊢
    obtain ⟨c, hc, rfl⟩ := hx
    exact ⟨c, AV.denL_mono h cs c hc, rfl⟩
  | .yield b, x, hx => by
    simp only [AV.den, Option.map_eq_some_iff] at hx ⊢
    obtain ⟨c, hc, rfl⟩ := hx
    exact ⟨c, h.ρ b c hc, rfl⟩
  | .strv i, x, hx => by simpa [AV.den, h.ι.str] using hx
  | .capv i s, x, hx => by
    simp only [AV.den, Option.map_eq_some_iff] at hx ⊢
    obtain ⟨c, hc, rfl⟩ := hx
    exact ⟨c, Cap.den_mono h hc, rfl⟩
  | .glob g o, x, hx => by simpa [AV.den] using hx
theorem AV.denL_mono {E E' : Env} (h : E.Le E') : ∀ (v : List AV) (x : List Value), AV.denL E v = some x → AV.denL E' v = some x
  | [], x, hx => by simpa [AV.denL] using hx
  | v :: r, x, hx => by
    simp only [AV.denL] at hx ⊢
    split at hx
    · rename_i y z hy hz
      rw [AV.den_mono h v y hy, AV.denL_mono h r z hz]
      exact hx
    · cases hx
end

/-! ### Lists of values -/

theorem denL_nil (E : Env) : AV.denL E [] = some [] := by simp [AV.denL]
theorem denL_cons {E : Env} {v : AV} {r : List AV} {l : List Value} :
    AV.denL E (v :: r) = some l ↔ ∃ x m, v.den E = some x ∧ AV.denL E r = some m ∧ l = x :: m := by
  simp only [AV.denL]
  constructor
  · intro h
    split at h
    · rename_i x m hx hm
      exact ⟨x, m, hx, hm, by injection h with h; exact h.symm⟩
    · cases h
  · rintro ⟨x, m, hx, hm, rfl⟩
    simp [hx, hm]

theorem denL_length {E : Env} : ∀ {r : List AV} {l : List Value}, AV.denL E r = some l → l.length = r.length
  | [], l, h => by simp [AV.denL] at h; subst h; rfl
  | v :: r, l, h => by
    obtain ⟨x, m, _, hm, rfl⟩ := denL_cons.1 h
    simp [denL_length hm]

theorem denL_get {E : Env} : ∀ {r : List AV} {l : List Value}, AV.denL E r = some l → ∀ (i : Nat) (v : AV), r[i]? = some v → ∃ x, v.den E = some x ∧ l[i]? = some x
  | [], l, _, i, v, hv => by simp at hv
  | u :: r, l, h, i, v, hv => by
    obtain ⟨x, m, hx, hm, rfl⟩ := denL_cons.1 h
    cases i with
    | zero => simp at hv; subst hv; exact ⟨x, hx, by simp⟩
    | succ i => simp at hv; obtain ⟨y, hy, hi⟩ := denL_get hm i v hv; exact ⟨y, hy, by simpa using hi⟩

theorem denL_append {E : Env} : ∀ {r s : List AV} {l m : List Value}, AV.denL E r = some l → AV.denL E s = some m → AV.denL E (r ++ s) = some (l ++ m)
  | [], s, l, m, h, k => by simp [AV.denL] at h; subst h; simpa using k
  | v :: r, s, l, m, h, k => by
    obtain ⟨x, l', hx, hl, rfl⟩ := denL_cons.1 h
    exact denL_cons.2 ⟨x, l' ++ m, hx, denL_append hl k, rfl⟩

theorem denL_set {E : Env} : ∀ {r : List AV} {l : List Value}, AV.denL E r = some l → ∀ (i : Nat) (v : AV) (x : Value), v.den E = some x → AV.denL E (r.set i v) = some (l.set i x)
  | [], l, h, i, v, x, _ => by simp [AV.denL] at h; subst h; simp [AV.denL]
  | u :: r, l, h, i, v, x, hx => by
    obtain ⟨y, m, hy, hm, rfl⟩ := denL_cons.1 h
    cases i with
    | zero => exact denL_cons.2 ⟨x, m, hx, hm, by simp⟩
    | succ i => exact denL_cons.2 ⟨y, m.set i x, hy, denL_set hm i v x hx, by simp⟩

theorem denL_replicate {E : Env} {v : AV} {x : Value} (h : v.den E = some x) : ∀ n, AV.denL E (List.replicate n v) = some (List.replicate n x)
  | 0 => by simp [AV.denL]
  | n + 1 => by rw [List.replicate_succ, List.replicate_succ]; exact denL_cons.2 ⟨x, _, h, denL_replicate h n, rfl⟩

theorem denL_drop {E : Env} : ∀ {r : List AV} {l : List Value}, AV.denL E r = some l → ∀ n, AV.denL E (r.drop n) = some (l.drop n)
  | r, l, h, 0 => by simpa using h
  | [], l, h, n + 1 => by simp [AV.denL] at h; subst h; simp [AV.denL]
  | v :: r, l, h, n + 1 => by
    obtain ⟨x, m, _, hm, rfl⟩ := denL_cons.1 h
    simpa using denL_drop hm n

theorem denL_take {E : Env} : ∀ {r : List AV} {l : List Value}, AV.denL E r = some l → ∀ n, AV.denL E (r.take n) = some (l.take n)
  | r, l, h, 0 => by simp [AV.denL]
  | [], l, h, n + 1 => by simp [AV.denL] at h; subst h; simp [AV.denL]
  | v :: r, l, h, n + 1 => by
    obtain ⟨x, m, hx, hm, rfl⟩ := denL_cons.1 h
    simpa using denL_cons.2 ⟨x, m.take n, hx, denL_take hm n, rfl⟩

/-! ### Closed values -/

theorem undefA_den (E : Env) : undefA.den E = some undef := by simp [undefA, AV.den, AV.denL, undef]

theorem mapM_ofValue_den {E : Env} {f : Value → Option AV} (hf : ∀ v a, f v = some a → a.den E = some v) :
    ∀ (l : List Value) (r : List AV), l.mapM f = some r → AV.denL E r = some l
  | [], r, h => by simp at h; subst h; simp [AV.denL]
  | v :: l, r, h => by
    simp only [List.mapM_cons, Option.bind_eq_bind, Option.bind_eq_some_iff, Option.pure_def] at h
    obtain ⟨a, ha, r', hr, h⟩ := h
    injection h with h
    subst h
    exact denL_cons.2 ⟨v, l, hf v a ha, mapM_ofValue_den hf l r' hr, rfl⟩

theorem ofValue_den (E : Env) : ∀ (d : Nat) (v : Value) (a : AV), ofValue d v = some a → a.den E = some v := by
  intro d
  induction d with
  | zero => intro v a h; simp [ofValue] at h
  | succ d ih =>
    intro v a h
    unfold ofValue at h
    split at h
    · cases h
    · injection h with h; subst h; simp [AV.den, BE.den, BE.upto]
    · injection h with h; subst h; simp [AV.den, IE.den, IE.upto]
    · injection h with h; subst h; simp [AV.den]
    · injection h with h; subst h; simp [AV.den]
    · injection h with h; subst h; simp [AV.den]
    · injection h with h; subst h; simp [AV.den]
    · injection h with h; subst h; simp [AV.den]
    · injection h with h; subst h; simp [AV.den]
    · rename_i dd hd
      injection hd with hd; subst hd
      simp only [Option.map_eq_some_iff] at h
      obtain ⟨x, hx, rfl⟩ := h
      simp [AV.den, ih _ _ hx]
    · rename_i dd hd
      injection hd with hd; subst hd
      simp only [Option.map_eq_some_iff] at h
      obtain ⟨x, hx, rfl⟩ := h
      simp [AV.den, mapM_ofValue_den (ih) _ _ hx]
    · rename_i dd hd
      injection hd with hd; subst hd
      simp only [Option.map_eq_some_iff] at h
      obtain ⟨x, hx, rfl⟩ := h
      simp [AV.den, mapM_ofValue_den (ih) _ _ hx]
    · rename_i dd hd
      injection hd with hd; subst hd
      simp only [Option.bind_eq_bind, Option.bind_eq_some_iff, Option.pure_def] at h
      obtain ⟨x, hx, y, hy, h⟩ := h
      injection h with h
      subst h
      simp [AV.den, mapM_ofValue_den (ih) _ _ hx, mapM_ofValue_den (ih) _ _ hy]
    · cases h

theorem ofV_den (E : Env) {v : Value} {a : AV} (h : ofV v = some a) : a.den E = some v := ofValue_den E 6 v a h

theorem mapM_toValue_den {E : Env} {f : AV → Option Value} (hf : ∀ a v, f a = some v → a.den E = some v) :
    ∀ (l : List AV) (r : List Value), l.mapM f = some r → AV.denL E l = some r
  | [], r, h => by simp at h; subst h; simp [AV.denL]
  | v :: l, r, h => by
    simp only [List.mapM_cons, Option.bind_eq_bind, Option.bind_eq_some_iff, Option.pure_def] at h
    obtain ⟨a, ha, r', hr, h⟩ := h
    injection h with h
    subst h
    exact denL_cons.2 ⟨a, r', hf v a ha, mapM_toValue_den hf l r' hr, rfl⟩

theorem toValue_den (E : Env) : ∀ (d : Nat) (a : AV) (v : Value), toValue d a = some v → a.den E = some v := by
  intro d
  induction d with
  | zero => intro v a h; simp [toValue] at h
  | succ d ih =>
    intro v a h
    unfold toValue at h
    split at h
    · cases h
    · injection h with h; subst h; simp [AV.den, BE.den, BE.upto]
    · injection h with h; subst h; simp [AV.den, IE.den, IE.upto]
    · injection h with h; subst h; simp [AV.den]
    · injection h with h; subst h; simp [AV.den]
    · injection h with h; subst h; simp [AV.den]
    · injection h with h; subst h; simp [AV.den]
    · injection h with h; subst h; simp [AV.den]
    · injection h with h; subst h; simp [AV.den]
    · rename_i dd hd
      injection hd with hd; subst hd
      simp only [Option.map_eq_some_iff] at h
      obtain ⟨x, hx, rfl⟩ := h
      simp [AV.den, ih _ _ hx]
    · rename_i dd hd
      injection hd with hd; subst hd
      simp only [Option.map_eq_some_iff] at h
      obtain ⟨x, hx, rfl⟩ := h
      simp [AV.den, mapM_toValue_den (ih) _ _ hx]
    · rename_i dd hd
      injection hd with hd; subst hd
      simp only [Option.map_eq_some_iff] at h
      obtain ⟨x, hx, rfl⟩ := h
      simp [AV.den, mapM_toValue_den (ih) _ _ hx]
    · cases h

/-! ### Operands -/

/-- All slots but those of 'D' hold what they are said to hold. -/
def Slots (E : Env) (D : Nat → Prop) (tmps : List AV) (a : Act) : Prop :=
  tmps.length = a.tmps.size ∧ ∀ t v, ¬ D t → v.isPoison = false → tmps[t]? = some v → ∃ x, v.den E = some x ∧ a.tmps[t]? = some x

theorem Slots.mono {E E' : Env} {D : Nat → Prop} {tmps : List AV} {a : Act} (h : Slots E D tmps a) (hE : E.Le E') : Slots E' D tmps a :=
  ⟨h.1, fun t v hd hp hv => let ⟨x, hx, ha⟩ := h.2 t v hd hp hv; ⟨x, AV.den_mono hE _ _ hx, ha⟩⟩

/-- An operand that is none of 'D'. -/
def Clear (D : Nat → Prop) (x : Operand) : Prop := ∀ t, x = .tmp t → ¬ D t

theorem opnd_den {E : Env} {D : Nat → Prop} {tmps : List AV} {a : Act} (h : Slots E D tmps a) {x : Operand} {v : AV} (hc : Clear D x) (hv : opnd tmps x = some v) :
    v.den E = some (a.eval x) := by
  cases x with
  | tmp t =>
    simp only [opnd, tget_eq, Option.bind_eq_some_iff, AV.told] at hv
    obtain ⟨u, hu, hv⟩ := hv
    split at hv
    · cases hv
    rename_i hp
    injection hv with hv
    subst hv
    obtain ⟨y, hy, hat⟩ := h.2 t u (hc t rfl) (by simpa using hp) hu
    simp [Act.eval, hat, hy]
  | const c => exact ofV_den E hv
  | global g => simp [opnd] at hv; subst hv; simp [AV.den, Act.eval]
  | func f => simp [opnd] at hv; subst hv; simp [AV.den, AV.denL, Act.eval]

theorem args1_den {E : Env} {D : Nat → Prop} {tmps : List AV} {a : Act} (h : Slots E D tmps a) : ∀ {l : List Operand} {vs : List AV}, (∀ x ∈ l, Clear D x) → args1 tmps l = some vs →
    AV.denL E vs = some (l.map a.eval)
  | [], vs, _, hv => by simp [args1] at hv; subst hv; simp [AV.denL]
  | x :: l, vs, hc, hv => by
    simp only [args1, Option.bind_eq_bind, Option.bind_eq_some_iff, Option.pure_def] at hv
    obtain ⟨v, hx, r, hr, hv⟩ := hv
    injection hv with hv
    subst hv
    exact denL_cons.2 ⟨_, _, opnd_den h (hc x (by simp)) hx, args1_den h (fun y hy => hc y (by simp [hy])) hr, rfl⟩

/-- Parts with their places. -/
noncomputable def denP (E : Env) : List (Nat × AV) → Option (List (Nat × Value))
  | [] => some []
  | (i, v) :: r =>
    match v.den E, denP E r with
    | some x, some l => some ((i, x) :: l)
    | _, _ => none

theorem denP_cons {E : Env} {i : Nat} {v : AV} {r : List (Nat × AV)} {l : List (Nat × Value)} :
    denP E ((i, v) :: r) = some l ↔ ∃ x m, v.den E = some x ∧ denP E r = some m ∧ l = (i, x) :: m := by
  simp only [denP]
  constructor
  · intro h
    split at h
    · rename_i x m hx hm
      exact ⟨x, m, hx, hm, by injection h with h; exact h.symm⟩
    · cases h
  · rintro ⟨x, m, hx, hm, rfl⟩
    simp [hx, hm]

theorem parts1_den {E : Env} {D : Nat → Prop} {tmps : List AV} {a : Act} (h : Slots E D tmps a) : ∀ {l : List (Nat × Operand)} {vs : List (Nat × AV)}, (∀ x ∈ l, Clear D x.2) →
    parts1 tmps l = some vs → denP E vs = some (l.map fun (i, x) => (i, a.eval x))
  | [], vs, _, hv => by simp [parts1] at hv; subst hv; simp [denP]
  | (i, x) :: l, vs, hc, hv => by
    simp only [parts1, Option.bind_eq_bind, Option.bind_eq_some_iff, Option.pure_def] at hv
    obtain ⟨v, hx, r, hr, hv⟩ := hv
    injection hv with hv
    subst hv
    exact denP_cons.2 ⟨_, _, opnd_den h (hc (i, x) (by simp)) hx, parts1_den h (fun y hy => hc y (by simp [hy])) hr, rfl⟩

end Go.Sx
