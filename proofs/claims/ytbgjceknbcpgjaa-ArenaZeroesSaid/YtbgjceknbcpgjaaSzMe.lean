/-
  A WALKER THAT COMPUTES: calls that were walked on their own.
-/
import Derived.Test.YtbgjceknbcpgjaaSzCp
namespace Go.Sx

/-! ### The same things -/

def Cap.eqb : Cap → Cap → Bool
  | .known a, .known b => Nat.beq a b
  | .var a s, .var b t => Nat.beq a b && Nat.beq s t
  | _, _ => false
mutual
def AV.eqb : AV → AV → Bool
  | .bool a, .bool b => decide (a = b)
  | .int k a, .int l b => decide (k = l) && decide (a = b)
  | .str a, .str b => decide (a = b)
  | .nilPtr, .nilPtr => true
  | .ptr a o, .ptr b p => Nat.beq a b && Nat.beq o p
  | .nilSlice, .nilSlice => true
  | .slice a o n c, .slice b p m d => Nat.beq a b && (Nat.beq o p && (Nat.beq n m && c.eqb d))
  | .nilMap, .nilMap => true
  | .map a, .map b => Nat.beq a b
  | .func f a b, .func g c d => Nat.beq f g && (AV.eqbL a c && AV.eqbL b d)
  | .nilFunc, .nilFunc => true
  | .iface t a, .iface s b => Nat.beq t s && a.eqb b
  | .nilIface, .nilIface => true
  | .agg a, .agg b => AV.eqbL a b
  | .tuple a, .tuple b => AV.eqbL a b
  | .strv i, .strv j => Nat.beq i j
  | .capv i s, .capv j t => Nat.beq i j && Nat.beq s t
  | .glob g o, .glob k p => Nat.beq g k && Nat.beq o p
  | .txt x, .txt y => decide (x = y)
  | .sl b z q o l c, .sl b' z' q' o' l' c' => Nat.beq b b' && (Nat.beq z z' && (decide (q = q') && (decide (o = o') && (decide (l = l') && decide (c = c')))))
  | .ptrs b z q i o, .ptrs b' z' q' i' o' => Nat.beq b b' && (Nat.beq z z' && (decide (q = q') && (decide (i = i') && Nat.beq o o')))
  | _, _ => false
def AV.eqbL : List AV → List AV → Bool
  | [], [] => true
  | a :: r, b :: s => a.eqb b && AV.eqbL r s
  | _, _ => false
end
def cellsEqb : List (Option AV) → List (Option AV) → Bool
  | [], [] => true
  | none :: r, none :: s => cellsEqb r s
  | some a :: r, some b :: s => a.eqb b && cellsEqb r s
  | _, _ => false
def AObj.eqb : AObj → AObj → Bool
  | .cells c t m k, .cells d s n j => cellsEqb c d && (Nat.beq t s && (decide (m = n) && Nat.beq k j))
  | .gone k, .gone j => Nat.beq k j
  | .free, .free => true
  | .row r t ks n c, .row r' t' ks' n' c' => decide (r = r') && (Nat.beq t t' && (decide (ks = ks') && (decide (n = n') && decide (c = c'))))
  | .grow r t ks n i q, .grow r' t' ks' n' i' q' => Nat.beq r r' && (Nat.beq t t' && (decide (ks = ks') && (decide (n = n') && (Nat.beq i i' && decide (q = q')))))
  | _, _ => false
def BT.eqb {α : Type} (f : α → α → Bool) : BT α → BT α → Bool
  | .e, .e => true
  | .n l v r, .n l' v' r' => f v v' && (BT.eqb f l l' && BT.eqb f r r')
  | _, _ => false
def natsEqb : List Nat → List Nat → Bool
  | [], [] => true
  | a :: r, b :: s => Nat.beq a b && natsEqb r s
  | _, _ => false
def Bl.eqb (a b : Bl) : Bool := Nat.beq a.n b.n && (BT.eqb AObj.eqb a.t b.t && BT.eqb natsEqb a.m b.m)

theorem nbeq_eq {a b : Nat} (h : Nat.beq a b = true) : a = b := Nat.eq_of_beq_eq_true h
theorem Cap.eqb_eq : ∀ {a b : Cap}, a.eqb b = true → a = b
  | .known a, .known b, h => by rw [nbeq_eq h]
  | .var a s, .var b t, h => by
    simp only [Cap.eqb, Bool.and_eq_true] at h
    rw [nbeq_eq h.1, nbeq_eq h.2]
  | .known _, .var _ _, h => by cases h
  | .var _ _, .known _, h => by cases h
mutual
theorem AV.eqb_eq : ∀ (a b : AV), a.eqb b = true → a = b := by
  intro a b h
  cases a <;> cases b <;> first
    | rfl
    | (exfalso; revert h; simp [AV.eqb]; done)
    | (simp only [AV.eqb, Bool.and_eq_true, decide_eq_true_eq] at h; skip)
  case bool.bool => rw [h]
  case int.int => rw [h.1, h.2]
  case str.str => rw [h]
  case ptr.ptr => rw [nbeq_eq h.1, nbeq_eq h.2]
  case slice.slice => rw [nbeq_eq h.1, nbeq_eq h.2.1, nbeq_eq h.2.2.1, Cap.eqb_eq h.2.2.2]
  case map.map => rw [nbeq_eq h]
  case func.func => rw [nbeq_eq h.1, AV.eqbL_eq _ _ h.2.1, AV.eqbL_eq _ _ h.2.2]
  case iface.iface => rw [nbeq_eq h.1, AV.eqb_eq _ _ h.2]
  case agg.agg => rw [AV.eqbL_eq _ _ h]
  case tuple.tuple => rw [AV.eqbL_eq _ _ h]
  case strv.strv => rw [nbeq_eq h]
  case capv.capv => rw [nbeq_eq h.1, nbeq_eq h.2]
  case glob.glob => rw [nbeq_eq h.1, nbeq_eq h.2]
  case txt.txt => rw [h]
  case sl.sl => rw [nbeq_eq h.1, nbeq_eq h.2.1, h.2.2.1, h.2.2.2.1, h.2.2.2.2.1, h.2.2.2.2.2]
  case ptrs.ptrs => rw [nbeq_eq h.1, nbeq_eq h.2.1, h.2.2.1, h.2.2.2.1, nbeq_eq h.2.2.2.2]
theorem AV.eqbL_eq : ∀ (a b : List AV), AV.eqbL a b = true → a = b
  | [], [], _ => rfl
  | a :: r, b :: s, h => by
    simp only [AV.eqbL, Bool.and_eq_true] at h
    rw [AV.eqb_eq a b h.1, AV.eqbL_eq r s h.2]
  | [], _ :: _, h => by simp [AV.eqbL] at h
  | _ :: _, [], h => by simp [AV.eqbL] at h
end
theorem cellsEqb_eq : ∀ {a b : List (Option AV)}, cellsEqb a b = true → a = b
  | [], [], _ => rfl
  | none :: r, none :: s, h => by rw [cellsEqb_eq (a := r) (b := s) h]
  | some a :: r, some b :: s, h => by
    simp only [cellsEqb, Bool.and_eq_true] at h
    rw [AV.eqb_eq a b h.1, cellsEqb_eq h.2]
  | [], _ :: _, h => by simp [cellsEqb] at h
  | none :: _, [], h => by simp [cellsEqb] at h
  | some _ :: _, [], h => by simp [cellsEqb] at h
  | none :: _, some _ :: _, h => by simp [cellsEqb] at h
  | some _ :: _, none :: _, h => by simp [cellsEqb] at h
theorem AObj.eqb_eq {a b : AObj} (h : a.eqb b = true) : a = b := by
  unfold AObj.eqb at h
  split at h <;> first
    | rfl
    | (simp only [Bool.and_eq_true, decide_eq_true_eq] at h; skip)
    | skip
  · rw [cellsEqb_eq h.1, nbeq_eq h.2.1, h.2.2.1, nbeq_eq h.2.2.2]
  · rw [nbeq_eq h]
  · rw [h.1, nbeq_eq h.2.1, h.2.2.1, h.2.2.2.1, h.2.2.2.2]
  · rw [nbeq_eq h.1, nbeq_eq h.2.1, h.2.2.1, h.2.2.2.1, nbeq_eq h.2.2.2.2.1, h.2.2.2.2.2]
  · cases h
theorem BT.eqb_eq {α : Type} {f : α → α → Bool} (hf : ∀ a b, f a b = true → a = b) : ∀ {a b : BT α}, BT.eqb f a b = true → a = b
  | .e, .e, _ => rfl
  | .n l v r, .n l' v' r', h => by
    simp only [BT.eqb, Bool.and_eq_true] at h
    rw [hf _ _ h.1, BT.eqb_eq hf h.2.1, BT.eqb_eq hf h.2.2]
  | .e, .n _ _ _, h => by simp [BT.eqb] at h
  | .n _ _ _, .e, h => by simp [BT.eqb] at h
theorem natsEqb_eq : ∀ (a b : List Nat), natsEqb a b = true → a = b
  | [], [], _ => rfl
  | a :: r, b :: s, h => by
    simp only [natsEqb, Bool.and_eq_true] at h
    rw [nbeq_eq h.1, natsEqb_eq r s h.2]
  | [], _ :: _, h => by simp [natsEqb] at h
  | _ :: _, [], h => by simp [natsEqb] at h
theorem Bl.eqb_eq {a b : Bl} (h : a.eqb b = true) : a = b := by
  obtain ⟨t, m, n, h1, h2⟩ := a
  obtain ⟨t', m', n', h3, h4⟩ := b
  simp only [Bl.eqb, Bool.and_eq_true] at h
  obtain rfl := nbeq_eq h.1
  obtain rfl := BT.eqb_eq (fun _ _ => AObj.eqb_eq) h.2.1
  obtain rfl := BT.eqb_eq natsEqb_eq h.2.2
  rfl

/-! ### A call that was walked on its own -/

/-- An end: what is answered, the blocks, how many capacities are open, how many unknowns came up, what is known besides. -/
structure MEnd where
  v : AV
  os : List AObj
  nk : Nat
  nv : Nat
  pc : List BE

/-- A call, as it begins, and its ends. -/
structure Memo where
  f : FuncId
  args : List AV
  os : List AObj
  nk : Nat
  nv : Nat
  pc : List BE
  ends : List MEnd

def MEnd.is (e : MEnd) (l : AV × Hp × List BE) : Bool :=
  l.1.eqb e.v && (l.2.1.bs.eqb (Bl.nil ++ e.os) && (Nat.beq l.2.1.nk e.nk && (Nat.beq l.2.1.giv.nv e.nv && (natsEqb l.2.1.giv.l [] && e.pc.all fun b => hasB b l.2.2))))

def MEnd.out (h : Hp) (pc : List BE) (e : MEnd) : AV × Hp × List BE := (e.v, ⟨Bl.nil ++ e.os, e.nk, { h.giv with nv := e.nv }⟩, e.pc ++ pc)

/-- Does the walk of that call end so, where that is so, too? -/
def memoRunC (P : Program) (dr : Bool) (kn : Kn) (fuel d : Nat) (cfg : Cfg) (M : Memo) (c : List BE) : Bool :=
  (c.all fun b => b.upto M.nv) && match runCall P dr kn fuel d false M.f M.args ⟨Bl.nil ++ M.os, M.nk, { nv := M.nv, cfg }⟩ (c ++ M.pc) with
  | some L => L.all fun l => M.ends.any fun e => e.is l
  | none => false
def memoRun (P : Program) (dr : Bool) (kn : Kn) (fuel d : Nat) (cfg : Cfg) (M : Memo) : Bool := memoRunC P dr kn fuel d cfg M []
/-- The first that is so; or none is. -/
def parts : List BE → List (List BE)
  | [] => [[]]
  | b :: r => [b] :: (parts r).map (b.mkNot :: ·)

def Memo.tr (M : Memo) (args : List AV) (h : Hp) (pc : List BE) : Option (List (AV × Hp × List BE)) :=
  if AV.eqbL args M.args && (h.bs.eqb (Bl.nil ++ M.os) && (Nat.beq h.nk M.nk && (Nat.beq h.giv.nv M.nv && (natsEqb h.giv.l [] && M.pc.all fun b => hasB b pc)))) then
    some (M.ends.map (MEnd.out h pc))
  else none
def Memo.con (M : Memo) : Con := { f := M.f, tr := M.tr }

section
variable {P : Program} {B : Bd}

theorem parts_ok (ι : Unk) : ∀ bs : List BE, ∃ c ∈ parts bs, ∀ b ∈ c, b.den ι = true
  | [] => ⟨[], List.mem_cons_self, fun b hb => by cases hb⟩
  | b :: r => by
    cases h : b.den ι with
    | true => exact ⟨[b], List.mem_cons_self, fun x hx => by rw [List.mem_singleton.1 hx]; exact h⟩
    | false =>
      obtain ⟨c, hc, hd⟩ := parts_ok ι r
      refine ⟨b.mkNot :: c, List.mem_cons_of_mem _ (List.mem_map.2 ⟨c, hc, rfl⟩), fun x hx => ?_⟩
      rcases List.mem_cons.1 hx with rfl | hx
      · rw [BE.mkNot_den, h]; rfl
      · exact hd x hx

theorem memo_parts {dr : Bool} {kn : Kn} {fuel d : Nat} {cfg : Cfg} {M : Memo} {bs : List BE} {cs : List (List BE)} (hcs : parts bs = cs) (hN : plainNames P = true) (hK : Known P kn B) (hA : dr = true → ∀ call, CallOk P call B → AnyOk P call B)
    (hR : ∀ ι : Unk, ι.prd = B.prd → RulesOk cfg.rules ι) (hr : ∀ c ∈ cs, memoRunC P dr kn fuel d cfg M c = true) : ConOk P M.con B := by
  intro args h pc L hL E w xs hw hp hx
  simp only [Memo.con, Memo.tr] at hL
  split at hL
  · rename_i hc
    injection hL with hL
    subst hL
    simp only [Bool.and_eq_true, List.all_eq_true] at hc
    obtain ⟨h1, h2, h3, h4, h5, h6⟩ := hc
    obtain rfl := AV.eqbL_eq _ _ h1
    have h2 := Bl.eqb_eq h2
    have h3 := nbeq_eq h3
    have h4 := nbeq_eq h4
    have h5 := natsEqb_eq _ _ h5
    obtain ⟨c, hcm, hcd⟩ := parts_ok E.ι bs
    rw [hcs] at hcm
    have hr := hr c hcm
    unfold memoRunC at hr
    simp only [Bool.and_eq_true, List.all_eq_true] at hr
    obtain ⟨hup, hr⟩ := hr
    have hnv : E.ι.nv = M.nv := by rw [hw.giv.nv, h4]
    split at hr
    · rename_i L1 hL1
      simp only [List.all_eq_true, List.any_eq_true] at hr
      have hw1 : WR E B ⟨Bl.nil ++ M.os, M.nk, { nv := M.nv, cfg }⟩ w :=
        ⟨by rw [← h2]; exact hw.lenρ, by rw [← h3]; exact hw.lenκ, by rw [← h2]; exact hw.obj, hw.base, by rw [← h2]; exact hw.inj, hw.bsize, by rw [← h2]; exact hw.cls,
          ⟨fun i g hi => by simp at hi, hnv, hR _ hw.giv.prd, hw.giv.prd⟩⟩
      refine Calls.mono ((runCall_sound hN hK fuel hA d).1 M.f _ _ _ L1 hL1 E w xs hw1 (fun b hb => (List.mem_append.1 hb).elim (fun hb => ⟨by rw [hnv]; exact hup b hb, hcd b hb⟩) (fun hb => hp b (hasB_mem (h6 b hb)))) hx) ?_
      rintro e w' ⟨l, E', k1, k2, k3, k4⟩
      obtain ⟨m, hm, hi⟩ := hr l k2
      simp only [MEnd.is, Bool.and_eq_true, List.all_eq_true] at hi
      obtain ⟨i1, i2, i3, i4, i5, i6⟩ := hi
      have i1 := AV.eqb_eq _ _ i1
      have i2 := Bl.eqb_eq i2
      have i3 := nbeq_eq i3
      have i4 := nbeq_eq i4
      refine ⟨m.out h pc, E', ?_, List.mem_map.2 ⟨m, hm, rfl⟩, ⟨k3.le, ?_, k3.fr⟩, fun b hb => ?_⟩
      · simp only [MEnd.out]
        rw [← i1]; exact k1
      · have k := k3.wr
        have gl : h.giv.l = [] := h5
        simp only [MEnd.out]
        exact ⟨by rw [← i2]; exact k.lenρ, by rw [← i3]; exact k.lenκ, by rw [← i2]; exact k.obj, k.base, by rw [← i2]; exact k.inj, k.bsize, by rw [← i2]; exact k.cls,
          ⟨fun i g hi => by simp [gl] at hi, by rw [k.giv.nv, i4], hw.giv.rules.le k3.le.ι, k.giv.prd⟩⟩
      · rcases List.mem_append.1 hb with hb | hb
        · exact k4 b (hasB_mem (i6 b hb))
        · exact BE.holds_le k3.le.ι (hp b hb)
    · cases hr
  · cases hL

theorem memo_ok {dr : Bool} {kn : Kn} {fuel d : Nat} {cfg : Cfg} {M : Memo} (hN : plainNames P = true) (hK : Known P kn B) (hA : dr = true → ∀ call, CallOk P call B → AnyOk P call B)
    (hR : ∀ ι : Unk, ι.prd = B.prd → RulesOk cfg.rules ι) (hr : memoRun P dr kn fuel d cfg M = true) : ConOk P M.con B :=
  memo_parts (bs := []) rfl hN hK hA hR fun c hc => by
    rw [List.mem_singleton.1 hc]
    exact hr

end
end Go.Sx
