/-
  A WALKER THAT COMPUTES: a run that is cut into parts, each of which the kernel looks at alone.
-/
import Derived.Test.YtobmdlcdemolpaaGreatDoorSxW
namespace Go.Sx

/-- A part of a text, by its path. -/
def sub : Code → List Bool → Code
  | c, [] => c
  | .seq x y, b :: r => sub (if b then y else x) r
  | .cond _ x y, b :: r => sub (if b then y else x) r
  | .block _ c, _ :: r => sub c r
  | .loop c, _ :: r => sub c r
  | .scope c, _ :: r => sub c r
  | .rangeFunc _ _ a c, b :: r => sub (if b then c else a) r
  | c, _ => c

/-- The record of a range over a function, of the text where that stands. -/
def loopAt (st : LoopState) (pend : Option Code) (tmps : List AV) (d : Nat) : Code → AObj
  | .rangeFunc _ ps a c => .loop st pend tmps ps a c d
  | _ => .deferred false

/-- The one state that a run comes to. -/
def res : Option (List (AExit × St)) → St
  | some [(_, σ)] => σ
  | _ => { tmps := [], h := Hp.nil, pc := [] }

/-- Slots that hold nothing yet. -/
def us (n : Nat) : List AV := List.replicate n undefA

/-- Cells of whole numbers. -/
def ci (l : List Nat) : List (Option AV) := l.map fun n => some (.int .i64 (.lit (.ofNat n)))

/-! Short names, so that what is written out is read quickly. -/
def xI (n : Nat) : AV := .int .i64 (.lit (.ofNat n))
def xJ (n : Nat) : AV := .int .i64 (.lit (.negSucc n))
def xU (n : Nat) : AV := .int .u64 (.lit (.ofNat n))
def xY (n : Nat) : AV := .int .u8 (.lit (.ofNat n))
def xT : AV := .bool (.lit true)
def xF : AV := .bool (.lit false)
def xS (l : List Nat) : AV := .str (l.map UInt8.ofNat)
def xP (b o : Nat) : AV := .ptr b o
def xL (b o l n : Nat) : AV := .slice b o l (.known n)
def xV (b o l i s : Nat) : AV := .slice b o l (.var i s)
def xA (l : List AV) : AV := .agg l
def xQ (f : Nat) : AV := .func f [] []
def ai (l : List Nat) : List AV := l.map xI
def au (l : List Nat) : List AV := l.map xU
def ay (l : List Nat) : List AV := l.map xY
def cs (l : List AV) : List (Option AV) := l.map some
def cn (n : Nat) : List (Option AV) := List.replicate n none
def oC (c : List (Option AV)) (t k : Nat) : AObj := .cells c t none k
def oM (c : List (Option AV)) (t j z lo hi k : Nat) : AObj := .cells c t (some (j, z, lo, hi)) k

/-- Is none left out? -/
def BT.okB {α : Type} : BT α → Nat → Bool
  | .e, k => Nat.beq k 0
  | .n l _ r, k => Nat.ble 1 k && (l.okB (k / 2) && r.okB ((k - 1) / 2))

theorem BT.ok_of {α : Type} : ∀ {t : BT α} {k : Nat}, t.okB k = true → t.ok k
  | .e, k, h => Nat.eq_of_beq_eq_true h
  | .n l _ r, k, h => by
    simp only [BT.okB, Bool.and_eq_true] at h
    exact ⟨Nat.le_of_ble_eq_true h.1, BT.ok_of h.2.1, BT.ok_of h.2.2⟩

/-- Memory, written out. -/
def Hp.lit (t : BT AObj) (m : BT (List Nat)) (n nk : Nat) (h : (t.okB n && m.okB n) = true) (gs : List Nat := []) : Hp :=
  ⟨⟨t, m, n, BT.ok_of (Bool.and_eq_true_iff.1 h).1, BT.ok_of (Bool.and_eq_true_iff.1 h).2⟩, nk, gs⟩

/-- A region's operations. -/
def arrOf : Code → Array Oper
  | .region _ ops _ => ops
  | _ => #[]

/-- Some of them. -/
def seg (c : Code) (i k : Nat) : List Oper := ((arrOf c).toList.drop i).take k

/-- The one there. -/
def opAt (c : Code) (i : Nat) : Oper := (arrOf c).toList.getD i default

/-- Which call an operation is. -/
def callOf (P : Program) (σ : St) (o : Oper) : Option (FuncId × List AV) :=
  if o.guard.isSome then none else
  match o.op with
  | .call { callee := .value f, args, .. } => do
    match ← opnd σ.tmps f with
    | .func f a b =>
      let xs ← args1 σ.tmps args.toList
      let fn ← P.funcs[f]?
      if fn.body.isSome then pure (f, a ++ xs ++ b) else none
    | _ => none
  | _ => none

section
variable {P : Program} {dr : Bool} {call : CallF} {ro : Option Nat} {n : Nat} {c x y : Code} {σ σ' : St} {L : List (AExit × St)} {t : Operand} {id : Nat} {e : AExit}

theorem cut_seq (hc : c = .seq x y) (hx : runCode P dr call ro n none x σ = some [(.normal, σ')]) (hy : runCode P dr call ro n none y σ' = some L) : runCode P dr call ro (n + 1) none c σ = some L := by
  subst hc
  simp [runCode, hx, thenA, hy]

theorem cut_seq_left (hc : c = .seq x y) (he : e ≠ .normal) (hx : runCode P dr call ro n none x σ = some [(e, σ')]) : runCode P dr call ro (n + 1) none c σ = some [(e, σ')] := by
  subst hc
  cases e <;> first | exact absurd rfl he | simp [runCode, hx, thenA]

theorem cut_yes (hc : c = .cond t x y) (ht : opnd σ.tmps t = some (.bool (.lit true))) (hx : runCode P dr call ro n none x σ = some L) : runCode P dr call ro (n + 1) none c σ = some L := by
  subst hc
  simp [runCode, ht, split, split1, truth, hx]

theorem cut_no (hc : c = .cond t x y) (ht : opnd σ.tmps t = some (.bool (.lit false))) (hy : runCode P dr call ro n none y σ = some L) : runCode P dr call ro (n + 1) none c σ = some L := by
  subst hc
  simp [runCode, ht, split, split1, truth, hy]

theorem cut_block (hc : c = .block id x) (hx : runCode P dr call ro n none x σ = some L) : runCode P dr call ro (n + 1) none c σ = some (inBlockA id L) := by
  subst hc
  simp [runCode, hx]

theorem cut_loop (hc : c = .loop x) (hx : runCode P dr call ro n none x σ = some [(.normal, σ')]) (hy : runCode P dr call ro n none c σ' = some L) : runCode P dr call ro (n + 1) none c σ = some L := by
  subst hc
  simp [runCode, hx, thenA, hy]

theorem cut_loop_out (hc : c = .loop x) (he : e ≠ .normal) (hx : runCode P dr call ro n none x σ = some [(e, σ')]) : runCode P dr call ro (n + 1) none c σ = some [(e, σ')] := by
  subst hc
  cases e <;> first | exact absurd rfl he | simp [runCode, hx, thenA]

theorem then_nil {f : St → Option (List (AExit × St))} : thenA f [] = some [] := rfl

theorem then_go {f : St → Option (List (AExit × St))} {M r : List (AExit × St)} (h : f σ = some L) (hr : thenA f r = some M) : thenA f ((.normal, σ) :: r) = some (L ++ M) := by
  simp [thenA, h, hr]

theorem then_out {f : St → Option (List (AExit × St))} {M r : List (AExit × St)} (he : e ≠ .normal) (hr : thenA f r = some M) : thenA f ((e, σ) :: r) = some ((e, σ) :: M) := by
  cases e <;> first | exact absurd rfl he | simp [thenA, hr]

theorem cut_seqs {M : List (AExit × St)} (hc : c = .seq x y) (hx : runCode P dr call ro n none x σ = some M) (hy : thenA (runCode P dr call ro n none y) M = some L) : runCode P dr call ro (n + 1) none c σ = some L := by
  subst hc
  simp [runCode, hx, hy]

theorem cut_loops {M : List (AExit × St)} (hc : c = .loop x) (hx : runCode P dr call ro n none x σ = some M) (hy : thenA (runCode P dr call ro n none c) M = some L) : runCode P dr call ro (n + 1) none c σ = some L := by
  subst hc
  simp only [runCode, Option.bind_eq_bind]
  rw [hx]
  exact hy

/-- A region whose order is fixed, part by part. -/
theorem cut_region {S : List St} (hc : c = .region id (arrOf c) false) (h : runOps P call ro (arrOf c) (arrOf c).toList σ = some S) : runCode P dr call ro (n + 1) none c σ = some (S.map St.out) := by
  rw [hc]
  simp only [runCode]
  rw [h]
  rfl

theorem each_append {α β : Type} {f : α → Option (List β)} : ∀ {a b : List α} {m : List β}, each f (a ++ b) = some m → ∃ k l, each f a = some k ∧ each f b = some l ∧ m = k ++ l
  | [], b, m, h => ⟨[], m, rfl, h, rfl⟩
  | x :: a, b, m, h => by
    simp only [List.cons_append, each, Option.bind_eq_bind, Option.bind_eq_some_iff, Option.pure_def, Option.some.injEq] at h
    obtain ⟨u, hu, v, hv, rfl⟩ := h
    obtain ⟨k, l, h1, h2, rfl⟩ := each_append hv
    exact ⟨u ++ k, l, by simp [each, hu, h1], h2, by simp⟩

theorem each_append_mk {α β : Type} {f : α → Option (List β)} : ∀ {a b : List α} {k l : List β}, each f a = some k → each f b = some l → each f (a ++ b) = some (k ++ l)
  | [], b, k, l, h1, h2 => by simp only [each, Option.some.injEq] at h1; subst h1; exact h2
  | x :: a, b, k, l, h1, h2 => by
    simp only [each, Option.bind_eq_bind, Option.bind_eq_some_iff, Option.pure_def, Option.some.injEq] at h1
    obtain ⟨u, hu, v, hv, rfl⟩ := h1
    have := each_append_mk hv h2
    simp [each, hu, this]

theorem each_one {α β : Type} {f : α → Option (List β)} {a : α} {m : List β} : each f [a] = some m ↔ f a = some m := by
  simp only [each, Option.bind_eq_bind, Option.pure_def]
  cases f a <;> simp

/-- Tests told apart ahead of what comes behind. -/
theorem split_all {α β : Type} {g : α → Option (List β)} {q : α → Bool} {b : BE} {yes no : St → Option (List α)} {yes' no' : St → Option (List β)} {K : List α} {M : List β} (hy : ∀ σ K M, yes σ = some K → K.all q = true → each g K = some M → yes' σ = some M) (hn : ∀ σ K M, no σ = some K → K.all q = true → each g K = some M → no' σ = some M)
    (h : split σ b yes no = some K) (hq : K.all q = true) (hk : each g K = some M) : split σ b yes' no' = some M := by
  have h1 : ∀ (σ : St) (b : BE) (yes no : St → Option (List α)) (yes' no' : St → Option (List β)) (K : List α) (M : List β), (∀ σ K M, yes σ = some K → K.all q = true → each g K = some M → yes' σ = some M) → (∀ σ K M, no σ = some K → K.all q = true → each g K = some M → no' σ = some M) → split1 σ b yes no = some K → K.all q = true → each g K = some M → split1 σ b yes' no' = some M := by
    intro σ b yes no yes' no' K M hy hn h hq hk
    unfold split1 at h ⊢
    split
    · rename_i ht; rw [ht] at h; exact hy _ _ _ h hq hk
    · rename_i ht; rw [ht] at h; exact hn _ _ _ h hq hk
    · rename_i ht
      rw [ht] at h
      simp only [Option.bind_eq_bind, Option.bind_eq_some_iff, Option.pure_def, Option.some.injEq] at h ⊢
      obtain ⟨u, hu, v, hv, rfl⟩ := h
      obtain ⟨k, l, e1, e2, rfl⟩ := each_append hk
      rw [List.all_append, Bool.and_eq_true] at hq
      exact ⟨k, hy _ _ _ hu hq.1 e1, l, hn _ _ _ hv hq.2 e2, rfl⟩
  unfold split at h ⊢
  split at h
  · exact h1 _ _ _ _ _ _ _ _ (fun σ K M hu hq hk => h1 σ _ _ _ _ _ K M hy hn hu hq hk) (fun σ K M hu hq hk => h1 σ _ _ _ _ _ K M hn hy hu hq hk) h hq hk
  · exact h1 _ _ _ _ _ _ _ _ (fun σ K M hu hq hk => h1 σ _ _ _ _ _ K M hn hy hu hq hk) (fun σ K M hu hq hk => h1 σ _ _ _ _ _ K M hy hn hu hq hk) h hq hk
  · exact h1 _ _ _ _ _ _ _ _ hy hn h hq hk

theorem ops_app {ops : Array Oper} {ys : List Oper} : ∀ {xs : List Oper} {σ : St} {K M : List St}, runOps P call ro ops xs σ = some K → (K.all fun s => s.pan.isNone) = true → each (runOps P call ro ops ys) K = some M → runOps P call ro ops (xs ++ ys) σ = some M
  | [], σ, K, M, h, hp, hk => by
    simp only [runOps, Option.some.injEq] at h
    subst h
    exact each_one.1 hk
  | o :: xs, σ, K, M, h, hp, hk => by
    simp only [runOps, St.opened_eq, List.cons_append] at h ⊢
    have hy : ∀ (σ : St) (K M : List St), (do
          let l ← doOpY P call ro o σ
          each (fun σ => if σ.pan.isSome = true then some [σ] else runOps P call ro ops xs σ) l) = some K → (K.all fun s => s.pan.isNone) = true → each (runOps P call ro ops ys) K = some M → (do
          let l ← doOpY P call ro o σ
          each (fun σ => if σ.pan.isSome = true then some [σ] else runOps P call ro ops (xs ++ ys) σ) l) = some M := by
      intro σ K M h hp hk
      simp only [Option.bind_eq_bind, Option.bind_eq_some_iff] at h ⊢
      obtain ⟨l, hl, h⟩ := h
      refine ⟨l, hl, ?_⟩
      clear hl
      induction l generalizing K M with
      | nil =>
        simp only [each, Option.some.injEq] at h
        subst h
        exact hk
      | cons s l ih =>
        simp only [each, Option.bind_eq_bind, Option.bind_eq_some_iff, Option.pure_def, Option.some.injEq] at h ⊢
        obtain ⟨u, hu, v, hv, rfl⟩ := h
        obtain ⟨k1, k2, e1, e2, rfl⟩ := each_append hk
        rw [List.all_append, Bool.and_eq_true] at hp
        refine ⟨k1, ?_, k2, ih v k2 hp.2 e2 hv, rfl⟩
        split at hu
        · rename_i hps
          injection hu with hu
          subst hu
          have := hp.1
          simp only [List.all_cons, List.all_nil, Bool.and_true, Option.isNone_iff_eq_none] at this
          rw [this] at hps
          cases hps
        · rename_i hps
          rw [if_neg hps]
          exact ops_app hu hp.1 e1
    have hn : ∀ (σ : St) (K M : List St), runOps P call ro ops xs (σ.put o.dst undefA) = some K → (K.all fun s => s.pan.isNone) = true → each (runOps P call ro ops ys) K = some M → runOps P call ro ops (xs ++ ys) (σ.put o.dst undefA) = some M := fun σ K M h hp hk => ops_app h hp hk
    unfold guarded at h ⊢
    split at h
    · exact hy _ _ _ h hp hk
    · split at h
      · split at h
        · rename_i hw
          rw [if_pos hw]
          exact split_all hy hn h hp hk
        · rename_i hw
          rw [if_neg hw]
          exact split_all hn hy h hp hk
      · exact hn _ _ _ h hp hk

theorem each_some : ∀ {l : List St}, each (fun σ => some [σ]) l = some l
  | [] => rfl
  | σ :: r => by simp [each, each_some (l := r)]

theorem each_id {l : List St} : each (fun σ => if σ.pan.isSome then some [σ] else some [σ]) l = some l := by
  have : (fun σ : St => if σ.pan.isSome = true then some [σ] else some [σ]) = fun σ => some [σ] := by funext σ; split <;> rfl
  rw [this]
  exact each_some

/-- A call that is gone through by itself. -/
theorem cut_callop {ops : Array Oper} {o : Oper} {f : FuncId} {args : List AV} {rs : List (AV × Hp × List BE)} (hc : callOf P σ o = some (f, args)) (h : call false f args σ.h σ.pc = some rs) :
    runOps P call ro ops [o] σ = some (rs.map fun (v, h, pc) => ({ σ with h, pc } : St).land o.dst v) := by
  unfold callOf at hc
  split at hc
  · cases hc
  · rename_i hg
    have hg' : o.guard = none := by simpa using hg
    split at hc
    · rename_i fo as ts ho
      simp only [Option.bind_eq_bind, Option.bind_eq_some_iff] at hc
      obtain ⟨p, hp, hc⟩ := hc
      split at hc
      · rename_i g a b
        simp only [Option.bind_eq_some_iff] at hc
        obtain ⟨xs, hxs, fn, hfn, hc⟩ := hc
        split at hc
        · rename_i hb
          simp only [Option.pure_def, Option.some.injEq, Prod.mk.injEq] at hc
          obtain ⟨rfl, rfl⟩ := hc
          have h1 : deferOf σ.tmps o = none := by unfold deferOf; rw [ho]
          have h2 : yieldOf σ.tmps o = none := by unfold yieldOf; rw [ho]; simp [hp]
          have h3 : aopPure P σ.tmps o = none := by unfold aopPure; rw [ho]
          have h4 : allocA P σ.tmps σ.h.bs.length σ.h.nk o = none := by unfold allocA; rw [ho]
          have h5 : aopMem P σ.tmps σ.h o = some (.enter g (a ++ xs ++ b) σ.h) := by unfold aopMem; rw [ho]; simp [hp, hxs, hfn, hb]
          have h6 : doOpY P call ro o σ = some (rs.map fun (v, h, pc) => ({ σ with h, pc } : St).land o.dst v) := by
            unfold doOpY
            rw [h1, h2]
            simp only
            unfold doOp
            rw [ho]
            simp only [h3, h4, h5, h, Option.map_some]
          unfold runOps
          rw [St.opened_eq]
          unfold guarded
          rw [hg']
          simp only [h6, runOps, Option.bind_eq_bind, Option.bind_some]
          exact each_id
        · cases hc
      · cases hc
    · cases hc

/-- What is left of a region's operations. -/
theorem rest_app (c : Code) (i k j : Nat) (hj : i + k = j) : (arrOf c).toList.drop i = seg c i k ++ (arrOf c).toList.drop j := by
  subst hj
  unfold seg
  rw [← List.drop_drop, List.take_append_drop]

theorem each_nil {f : St → Option (List St)} : each f [] = some [] := rfl

theorem each_go {f : St → Option (List St)} {K M r : List St} (h : f σ = some K) (hr : each f r = some M) : each f (σ :: r) = some (K ++ M) := by
  simp [each, h, hr]

theorem cut_ops {i k j : Nat} {K M : List St} (hj : i + k = j) (h1 : runOps P call ro (arrOf c) (seg c i k) σ = some K) (hp : (K.all fun s => s.pan.isNone) = true) (h2 : each (runOps P call ro (arrOf c) ((arrOf c).toList.drop j)) K = some M) :
    runOps P call ro (arrOf c) ((arrOf c).toList.drop i) σ = some M := by
  rw [rest_app c i k j hj]
  exact ops_app h1 hp h2

theorem cut_callseg {i : Nat} {f : FuncId} {args : List AV} {rs : List (AV × Hp × List BE)} (hs : seg c i 1 = [opAt c i]) (hc : callOf P σ (opAt c i) = some (f, args)) (h : call false f args σ.h σ.pc = some rs) :
    runOps P call ro (arrOf c) (seg c i 1) σ = some (rs.map fun (v, h, pc) => ({ σ with h, pc } : St).land (opAt c i).dst v) := by
  rw [hs]
  exact cut_callop hc h

/-- The call of a function whose text has been gone through. -/
theorem cut_call {kn : Option FuncId} {fuel d : Nat} {f : FuncId} {args : List AV} {h : Hp} {pc : List BE} {fn : Func} {l : List (AExit × St)} {r : List (AV × Hp × List BE)} (hk : (kn == some f && args.isEmpty) = false) (hf : P.funcs[f]? = some fn) (hb : fn.body = some c)
    (hr : runCode P dr (runCall P dr kn fuel d) none fuel none c { tmps := args ++ List.replicate (fn.ntmps - args.length) undefA, h, pc } = some l) (he : endsA P (runDefer P dr (runCall P dr kn fuel d) fuel) fn l = some r) : runCall P dr kn fuel (d + 1) false f args h pc = some r := by
  unfold runCall
  rw [hk]
  simp [hf, hb, hr, he]

end
end Go.Sx
