/-
  A WALKER THAT COMPUTES: each operation that may go several ways.
-/
import Derived.Test.YtffolioekkbcnaaSxU
namespace Go.Sx
section
variable {P : Program} {E : Env} {D : Nat → Prop} {tmps : List AV} {a : Act} {B : Nat} {h : Hp} {w : World}

/-- One of the ways that it may go. -/
def DoesMany (P : Program) (E : Env) (B : Nat) (w : World) (s : Sem Next) (l : List (Option AV × Hp)) : Prop :=
  ∃ p ∈ l, ∃ E' w', Ext E B w E' p.2 w' ∧
    match p.1 with
    | some v => ∃ z, s.run P w = .ok (.value z) w' ∧ v.den E' = some z
    | none => s.run P w = .ok .skip w'

theorem DoesMany.value {s : Sem Next} {v : AV} {h' : Hp} {E' : Env} {z : Value} {w' : World} (hr : s.run P w = .ok (.value z) w') (hv : v.den E' = some z) (hx : Ext E B w E' h' w') : DoesMany P E B w s [(some v, h')] :=
  ⟨_, List.mem_singleton.2 rfl, E', w', hx, z, hr, hv⟩

theorem DoesMany.skip {s : Sem Next} {h' : Hp} {E' : Env} {w' : World} (hr : s.run P w = .ok .skip w') (hx : Ext E B w E' h' w') : DoesMany P E B w s [(none, h')] :=
  ⟨_, List.mem_singleton.2 rfl, E', w', hx, hr⟩

theorem find_clone {fn : Func} (h : fn.name = "maps.clone") : Extern.find fn = some Extern.MapsClone.clone := by
  have h1 : Extern.allGenericRows.lookup "maps.clone" = none := by kernel_rfl
  have h2 : Extern.allTypedRows.lookup "maps.clone" = none := by kernel_rfl
  have h3 : Extern.allRows.lookup "maps.clone" = some Extern.MapsClone.clone := by kernel_rfl
  simp only [Extern.find, h, h1, h2, h3]
  rfl

theorem denL_one {E : Env} {x : AV} {l : List Value} (h : AV.denL E [x] = some l) : ∃ u, x.den E = some u ∧ l = [u] := by
  obtain ⟨u, m, hu, hm, rfl⟩ := denL_cons.1 h
  simp [AV.denL] at hm
  subst hm
  exact ⟨u, hu, rfl⟩

theorem new_plain (hw : WR E B h w) (o : AObj) (ob : Obj) (hr : ORel ⟨E.ρ ++ [w.heap.size], E.κ, E.ι⟩ o ob) :
    Ext E B w ⟨E.ρ ++ [w.heap.size], E.κ, E.ι⟩ { h with bs := h.bs ++ [o] } (w.alloc ob) ∧ (⟨E.ρ ++ [w.heap.size], E.κ, E.ι⟩ : Env).ρ[h.bs.length]? = some w.heap.size := by
  have h1 := new_sound hw o ob [] (by simpa using hr)
  have h2 := new_at hw []
  simp only [List.append_nil, List.length_nil, Nat.add_zero] at h1 h2
  exact ⟨h1, h2⟩

theorem le_plain (E : Env) (c : Nat) : E.Le ⟨E.ρ ++ [c], E.κ, E.ι⟩ := by
  have := le_new E c []
  simpa using this

theorem aopMany_sound (hN : plainNames P = true) {o : Oper} {l : List (Option AV × Hp)} (hS : Slots E D tmps a) (hc : ∀ x ∈ o.op.operands, Clear D x) (hw : WR E B h w) (hr : aopMany P tmps h o = some l) :
    DoesMany P E B w (execOp a.eval o) l := by
  obtain ⟨dst, op, type, pos, after, guard⟩ := o
  unfold aopMany at hr
  simp only at hr hc
  split at hr
  · -- lookup
    rename_i t x k ok
    simp only [Option.bind_eq_bind, Option.bind_eq_some_iff, Option.pure_def, Option.some.injEq] at hr
    obtain ⟨xv, hx, kv, hk, v, hv, rfl⟩ := hr
    obtain ⟨z, hz, hrun⟩ := lookupA_sound hw hv (opnd_den hS (hc x (by simp [Op.operands])) hx) (opnd_den hS (hc k (by simp [Op.operands])) hk)
    exact .value (by simp [execOp, hrun]) hz (.refl hw)
  · -- mapUpdate
    rename_i t x k v
    simp only [Option.bind_eq_bind, Option.bind_eq_some_iff, Option.pure_def, Option.some.injEq] at hr
    obtain ⟨xv, hx, kv, hk, vv, hv, h', hh, rfl⟩ := hr
    obtain ⟨w', hrun, hxt⟩ := updateA_sound hw hh (opnd_den hS (hc x (by simp [Op.operands])) hx) (opnd_den hS (hc k (by simp [Op.operands])) hk) (opnd_den hS (hc v (by simp [Op.operands])) hv)
    exact .skip (by simp [execOp, hrun]) hxt
  · -- insert
    rename_i t x k v
    simp only [Option.bind_eq_bind, Option.bind_eq_some_iff, Option.pure_def, Option.some.injEq] at hr
    obtain ⟨xv, hx, kv, hk, vv, hv, h', hh, rfl⟩ := hr
    obtain ⟨w', hrun, hxt⟩ := updateA_sound hw hh (opnd_den hS (hc x (by simp [Op.operands])) hx) (opnd_den hS (hc k (by simp [Op.operands])) hk) (opnd_den hS (hc v (by simp [Op.operands])) hv)
    exact .skip (by simp [execOp, hrun]) hxt
  · -- mapEntry
    rename_i t x k
    simp only [Option.bind_eq_bind, Option.bind_eq_some_iff, Option.pure_def, Option.some.injEq] at hr
    obtain ⟨xv, hx, kv, hk, ⟨v, h'⟩, hh, rfl⟩ := hr
    obtain ⟨z, w', hrun, hz, hxt⟩ := entryA_sound hw hh (opnd_den hS (hc x (by simp [Op.operands])) hx) (opnd_den hS (hc k (by simp [Op.operands])) hk)
    exact .value (by simp [execOp, hrun]) hz hxt
  · -- entryStore
    rename_i t x s v
    simp only [Option.bind_eq_bind, Option.bind_eq_some_iff, Option.pure_def, Option.some.injEq] at hr
    obtain ⟨xv, hx, sv, hs, vv, hv, h', hh, rfl⟩ := hr
    obtain ⟨w', hrun, hxt⟩ := entryStoreA_sound (P := P) (t := t) hw hh (opnd_den hS (hc x (by simp [Op.operands])) hx) (opnd_den hS (hc s (by simp [Op.operands])) hs) (opnd_den hS (hc v (by simp [Op.operands])) hv)
    exact .skip (by simp [execOp, hrun]) hxt
  · -- range
    rename_i t x
    simp only [Option.bind_eq_bind, Option.bind_eq_some_iff] at hr
    obtain ⟨xv, hx, hr⟩ := hr
    have hd := opnd_den hS (hc x (by simp [Op.operands])) hx
    split at hr
    · rename_i kt e hdt
      simp only [Option.pure_def, Option.some.injEq] at hr
      subst hr
      have he := denNilMap hd
      obtain ⟨h1, h2⟩ := new_plain hw (.mapIter none 0 [] 0) (.mapIter none 0 #[] 0) ⟨none, rfl, rfl⟩
      exact .value (z := .pointer (some ⟨w.heap.size, 0, none⟩)) (by simp [execOp, Instr.range, he, run_underlying hdt]) (by simp [AV.den, h2]) h1
    · rename_i kt e m hdt
      obtain ⟨c, hcm, he⟩ := denMap hd
      split at hr
      · rename_i es clock hbs
        simp only [Option.pure_def, Option.some.injEq] at hr
        subst hr
        obtain ⟨es', _, hm, hg⟩ := map_obj (P := P) hw hcm hbs
        obtain ⟨h1, h2⟩ := new_plain hw (.mapIter (some m) clock [] clock) (.mapIter (some c) clock #[] clock) ⟨some c, rfl, c, (le_plain E w.heap.size).ρ _ _ hcm, rfl⟩
        exact .value (z := .pointer (some ⟨w.heap.size, 0, none⟩)) (by simp [execOp, Instr.range, he, run_underlying hdt, hg]) (by simp [AV.den, h2]) h1
      · cases hr
    · cases hr
  · -- next
    rename_i it
    simp only [Option.bind_eq_bind, Option.bind_eq_some_iff] at hr
    obtain ⟨xv, hx, hr⟩ := hr
    have hd := opnd_den hS (hc it (by simp [Op.operands])) hx
    split at hr
    · rename_i b
      obtain ⟨c, hcb, he⟩ := denPtr hd
      simp only [Option.map_eq_some_iff] at hr
      obtain ⟨L, hL, rfl⟩ := hr
      obtain ⟨p, hp, z, w', hrun, hz, hxt⟩ := nextA_sound (P := P) (ty := type) hw hL hcb
      exact ⟨(some p.1, p.2), List.mem_map.2 ⟨p, hp, rfl⟩, E, w', hxt, z, by simp [execOp, he, hrun], hz⟩
    · cases hr
  · -- entry
    rename_i it
    simp only [Option.bind_eq_bind, Option.bind_eq_some_iff] at hr
    obtain ⟨xv, hx, hr⟩ := hr
    have hd := opnd_den hS (hc it (by simp [Op.operands])) hx
    split at hr
    · rename_i b
      obtain ⟨c, hcb, he⟩ := denPtr hd
      simp only [Option.map_eq_some_iff] at hr
      obtain ⟨v, hv, rfl⟩ := hr
      obtain ⟨z, hrun, hz⟩ := atA_sound (P := P) hw hv hcb
      exact .value (by simp [execOp, he, hrun]) hz (.refl hw)
    · cases hr
  · -- typeAssert
    rename_i x xt t ok
    simp only [Option.bind_eq_bind, Option.bind_eq_some_iff, Option.pure_def, Option.some.injEq] at hr
    obtain ⟨xv, hx, v, hv, rfl⟩ := hr
    obtain ⟨z, hrun, hz⟩ := assertA_sound (P := P) (xt := xt) hv (opnd_den hS (hc x (by simp [Op.operands])) hx) w
    exact .value (by simp [execOp, hrun]) hz (.refl hw)
  · -- len
    rename_i args ts
    simp only [Option.bind_eq_bind, Option.bind_eq_some_iff] at hr
    obtain ⟨t, ht, xs, hxs, hr⟩ := hr
    have hl := callArgs (c := ⟨.builtin .len, args, ts⟩) hS rfl hc hxs
    rw [exec_builtin rfl, args_toArray]
    split at hr
    · rename_i kt e b hdt
      obtain ⟨u, hu, e1⟩ := denL_one hl
      have e' : (args.toList.map a.eval) = [u] := e1
      obtain ⟨c, hcb, rfl⟩ := denMap hu
      split at hr
      · rename_i es clock hbs
        simp only [Option.pure_def, Option.some.injEq] at hr
        subst hr
        obtain ⟨es', _, hm, hg⟩ := map_obj (P := P) hw hcb hbs
        refine .value (z := .int .i64 (es.length : Nat)) ?_ (by simp [AV.den, IE.den]) (.refl hw)
        simp [builtin, Builtin.len_, ht, e', run_underlying hdt, hg, goInt, hm.1]
      · cases hr
    · cases hr
  · -- delete
    rename_i args ts
    simp only [Option.bind_eq_bind, Option.bind_eq_some_iff] at hr
    obtain ⟨t, ht, xs, hxs, hr⟩ := hr
    have hl := callArgs (c := ⟨.builtin .delete, args, ts⟩) hS rfl hc hxs
    rw [exec_builtin rfl, args_toArray]
    split at hr
    · rename_i x k
      simp only [Option.bind_eq_some_iff, Option.pure_def, Option.some.injEq] at hr
      obtain ⟨h', hh, rfl⟩ := hr
      obtain ⟨u, v, hu, hv, e1⟩ := denL_two hl
      have e' : (args.toList.map a.eval) = [u, v] := e1
      obtain ⟨w', hrun, hxt⟩ := deleteA_sound (P := P) (ty := type) hw ht hh hu hv
      refine .value (z := .tuple #[]) ?_ (undefA_den E) hxt
      rw [e']
      simp [builtin, hrun]
    · cases hr
  · -- clear
    rename_i args ts
    simp only [Option.bind_eq_bind, Option.bind_eq_some_iff] at hr
    obtain ⟨t, ht, xs, hxs, hr⟩ := hr
    have hl := callArgs (c := ⟨.builtin .clear, args, ts⟩) hS rfl hc hxs
    rw [exec_builtin rfl, args_toArray]
    have ht' : ts[0]? = some t := ht
    split at hr
    · rename_i kt e hdt
      simp only [Option.pure_def, Option.some.injEq] at hr
      subst hr
      obtain ⟨u, hu, e1⟩ := denL_one hl
      have e' : (args.toList.map a.eval) = [u] := e1
      obtain rfl := denNilMap hu
      exact .value (z := .tuple #[]) (by simp [builtin, Builtin.clear_, ht', e', run_underlying hdt]) (undefA_den E) (.refl hw)
    · rename_i kt e b hdt
      obtain ⟨u, hu, e1⟩ := denL_one hl
      have e' : (args.toList.map a.eval) = [u] := e1
      obtain ⟨c, hcb, rfl⟩ := denMap hu
      split at hr
      · rename_i es clock hbs
        simp only [Option.pure_def, Option.some.injEq] at hr
        subst hr
        obtain ⟨es', _, hm, hg⟩ := map_obj (P := P) hw hcb hbs
        obtain ⟨w', hset, hxt⟩ := setMap_sound (P := P) (es2 := []) (es2' := #[]) (clock2 := clock) hw hcb hbs ⟨rfl, fun i k v n hi => by simp at hi⟩
        exact .value (z := .tuple #[]) (by simp [builtin, Builtin.clear_, ht', e', run_underlying hdt, hg, hset]) (undefA_den E) hxt
      · cases hr
    · rename_i e hdt
      simp only [Option.pure_def, Option.some.injEq] at hr
      subst hr
      obtain ⟨u, hu, e1⟩ := denL_one hl
      have e' : (args.toList.map a.eval) = [u] := e1
      obtain rfl := denNilSlice hu
      exact .value (z := .tuple #[]) (by simp [builtin, Builtin.clear_, ht', e', run_underlying hdt]) (undefA_den E) (.refl hw)
    · rename_i e b o' n cap hdt
      obtain ⟨u, hu, e1⟩ := denL_one hl
      have e' : (args.toList.map a.eval) = [u] := e1
      obtain ⟨c, m, hcb, hm, hle, rfl⟩ := denSlice hu
      split at hr
      · rename_i hn0
        simp only [Option.pure_def, Option.some.injEq] at hr
        subst hr hn0
        exact .value (z := .tuple #[]) (by simp [builtin, Builtin.clear_, ht', e', run_underlying hdt]) (undefA_den E) (.refl hw)
      · rename_i hn0
        simp only [Option.bind_eq_some_iff, Option.pure_def, Option.some.injEq] at hr
        obtain ⟨z, hz, h', hst, rfl⟩ := hr
        obtain ⟨i, zv, hi, hzv, hzd, hzr⟩ := zero_cells (P := P) (E := E) hz
        obtain ⟨w', hrun, hx⟩ := storeFrom_sound (P := P) hcb _ o' 0 h h' w _ hw (denL_copies hzd n) (by simpa using hst)
        refine .value (z := .tuple #[]) ?_ (undefA_den E) hx
        have hcl : (Builtin.clear_ ts type #[.slice (some ⟨c, o', none⟩) n m]).run P w = .ok (.tuple #[]) w' := by
          unfold Builtin.clear_
          cases n with
          | zero => exact absurd rfl hn0
          | succ n => simp [ht', run_underlying hdt, hzr, zeroCells_eq, hrun]
        rw [e']
        simp [builtin, hcl]
    · cases hr
  · -- a map's copy
    rename_i f args ts
    simp only [Option.bind_eq_bind, Option.bind_eq_some_iff] at hr
    obtain ⟨p, hp, hr⟩ := hr
    have hd := opnd_den hS (hc f (by simp [Op.operands, Call.operands])) hp
    split at hr
    · rename_i g x y
      simp only [Option.bind_eq_some_iff] at hr
      obtain ⟨xs, hxs, fn, hfn, hr⟩ := hr
      have hl := callArgs (c := ⟨.value f, args, ts⟩) hS rfl hc hxs
      have hnm := plainNames_spec hN hfn
      split at hr
      · rename_i hname
        simp only [Bool.and_eq_true, beq_iff_eq] at hname
        obtain ⟨⟨hnb, hname⟩, hnext⟩ := hname
        split at hr
        · rename_i t m huv
          split at hr
          · rename_i es clock hbs
            simp only [Option.pure_def, Option.some.injEq] at hr
            subst hr
            obtain ⟨x', y', hx', hy', he⟩ := denFunc hd
            have hall := denL_append (denL_append hx' hl) hy'
            rw [huv] at hall
            obtain ⟨u, hu, hpq⟩ := denL_one hall
            obtain ⟨q, hq, rfl⟩ := denIface hu
            obtain ⟨c, hcm, rfl⟩ := denMap hq
            obtain ⟨es', _, hm, hg⟩ := map_obj (P := P) hw hcm hbs
            have hle := le_plain E w.heap.size
            obtain ⟨h1, h2⟩ := new_plain hw (.map es clock) (.map es' clock) ⟨es', rfl, hm.1, fun i k v n hi => by
              obtain ⟨x, y, hx, hy, he⟩ := hm.2 i k v n hi
              exact ⟨x, y, AV.den_mono hle _ _ hx, AV.den_mono hle _ _ hy, he⟩⟩
            refine .value (z := .iface t (.map (some w.heap.size))) ?_ (by simp [AV.den, h2]) h1
            have hargs : x'.toArray ++ args.map a.eval ++ y'.toArray = (x' ++ args.toList.map a.eval ++ y').toArray := by
              apply Array.ext'; simp
            simp only [execOp, resolve, Deferred.ofValue, he, Sem.run_bind, Sem.run_pure, Result.andThen_ok, invoke]
            rw [run_callFunc_extern hfn hnm hnb (by simpa using hnext) (find_clone hname), hargs, hpq]
            have hcl : Extern.MapsClone.clone [Value.iface t (.map (some c))].toArray = (getObj c >>= fun o => match o with
              | .map entries clock => newObj (.map entries clock) >>= fun r => pure (.iface t (.map (some r)))
              | _ => stuck "maps.clone: a map expected") := rfl
            rw [hcl]
            simp [hg]
          · cases hr
        · cases hr
      · cases hr
    · cases hr
  · cases hr

end
end Go.Sx
