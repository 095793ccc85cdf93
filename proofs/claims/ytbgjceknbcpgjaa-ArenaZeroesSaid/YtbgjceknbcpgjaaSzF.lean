/-
  A WALKER THAT COMPUTES, ITS SIXTH PART: operations that ask nothing of memory.
-/
import Derived.Test.YtbgjceknbcpgjaaSzE
import Derived.Lib.UnsafeStr
namespace Go.Sx
section
variable {P : Program} {E : Env} {D : Nat → Prop} {tmps : List AV} {a : Act}

theorem opt1_den (hS : Slots E D tmps a) {x : Option Operand} {v : Option AV} (hc : ∀ y, x = some y → Clear D y) (h : opt1 tmps x = some v) : denO E v (x.map a.eval) := by
  cases x with
  | none => simp [opt1] at h; subst h; trivial
  | some y =>
    simp only [opt1, Option.map_eq_some_iff] at h
    obtain ⟨z, hz, rfl⟩ := h
    exact opnd_den hS (hc y rfl) hz

theorem exec_builtin {o : Oper} {b : Builtin} {args : Array Operand} {ts : Array TypeId} (ho : o.op = .call { callee := .builtin b, args, argTypes := ts }) (ρ : Operand → Value) :
    execOp ρ o = builtin b ts o.type (args.map fun | .const _ => true | _ => false) (args.map ρ) := by
  unfold execOp
  rw [ho]
  rfl

theorem args_toArray (args : Array Operand) (f : Operand → Value) : args.map f = (args.toList.map f).toArray := by
  apply Array.ext'
  simp

theorem minInt_sound {mx : Bool} : ∀ (r : List AV) (n : Int) (k : IntKind) (v : AV) (l : List Value), minInt mx n r k = some v → AV.denL E r = some l →
    ∃ z, v.den E = some z ∧ ∀ w, (l.foldlM (if mx then Builtin.max2 else Builtin.min2) (.int k n) : Sem Value).run P w = .ok z w
  | [], n, k, v, l, h, hl => by
    simp only [minInt, Option.some.injEq] at h
    simp [AV.denL] at hl
    subst h
    subst hl
    exact ⟨_, by simp [AV.den, IE.den]; rfl, fun w => by simp⟩
  | x :: r, n, k, v, l, h, hl => by
    obtain ⟨y, m, hy, hm, rfl⟩ := denL_cons.1 hl
    unfold minInt at h
    split at h
    · rename_i h0; cases h0
    · rename_i n' k' q m' r' h0
      injection h0 with h1 h2
      subst h1
      subst h2
      obtain rfl := denInt hy
      obtain ⟨z, hz, hr⟩ := minInt_sound _ _ _ _ _ h hm
      refine ⟨z, hz, fun w => ?_⟩
      have := hr w
      cases mx <;> simp [Builtin.max2, Builtin.min2, IE.den] at this ⊢ <;> exact this
    · cases h

theorem aopPure_sound {o : Oper} {v : AV} (hS : Slots E D tmps a) (hc : ∀ x ∈ o.op.operands, Clear D x) (h : aopPure P tmps o = some v) :
    ∃ z, v.den E = some z ∧ ∀ w, (execOp a.eval o).run P w = .ok (.value z) w := by
  obtain ⟨dst, op, type, pos, after, guard⟩ := o
  unfold aopPure at h
  simp only at h hc
  split at h
  · -- move
    exact ⟨_, opnd_den hS (hc _ (by simp [Op.operands])) h, fun w => by simp [execOp]⟩
  · exact ⟨_, opnd_den hS (hc _ (by simp [Op.operands])) h, fun w => by simp [execOp]⟩
  · -- pick
    rename_i c x y
    simp only [Option.bind_eq_bind, Option.bind_eq_some_iff] at h
    obtain ⟨cv, hcv, h⟩ := h
    have hcd := opnd_den hS (hc c (by simp [Op.operands])) hcv
    split at h
    · rename_i b
      have hb := denBool hcd
      simp only [BE.den] at hb
      cases b
      · simp only [Bool.false_eq_true, if_false] at h
        exact ⟨_, opnd_den hS (hc y (by simp [Op.operands])) h, fun w => by simp [execOp, hb, asBool]⟩
      · simp only [if_true] at h
        exact ⟨_, opnd_den hS (hc x (by simp [Op.operands])) h, fun w => by simp [execOp, hb, asBool]⟩
    · cases h
  · -- build
    rename_i t ps
    simp only [Option.bind_eq_bind, Option.bind_eq_some_iff] at h
    obtain ⟨l, hl, h⟩ := h
    have hp := parts1_den hS (fun x hx => hc x.2 (by
      simp only [Op.operands]
      exact List.mem_toArray.2 (List.mem_map.2 ⟨x, hx, rfl⟩))) hl
    obtain ⟨z, hz, hr⟩ := buildA_sound h hp
    refine ⟨z, hz, fun w => ?_⟩
    have e : (ps.map fun (x : Nat × Operand) => (x.1, a.eval x.2)) = (ps.toList.map fun (x : Nat × Operand) => (x.1, a.eval x.2)).toArray := by
      apply Array.ext'; simp
    have := hr w
    simp only [execOp, Sem.run_bind]
    rw [e]
    rw [this]
    rfl
  · -- nilCheck
    rename_i x
    simp only [Option.bind_eq_bind, Option.bind_eq_some_iff] at h
    obtain ⟨cv, hcv, h⟩ := h
    have hcd := opnd_den hS (hc x (by simp [Op.operands])) hcv
    split at h
    · simp only [Option.pure_def, Option.some.injEq] at h
      subst h
      obtain ⟨c, hc', he⟩ := denPtr hcd
      exact ⟨_, hcd, fun w => by simp [execOp, he]⟩
    · simp only [Option.pure_def, Option.some.injEq] at h
      subst h
      obtain ⟨c, n, hc', hn, he⟩ := denFunc hcd
      exact ⟨_, hcd, fun w => by simp [execOp, he]⟩
    · simp only [Option.pure_def, Option.some.injEq] at h
      subst h
      obtain ⟨_, _, c, _, he⟩ := denPtrs hcd
      exact ⟨_, hcd, fun w => by simp [execOp, he]⟩
    · cases h
  · -- binOp
    rename_i op t x y yt
    simp only [Option.bind_eq_bind, Option.bind_eq_some_iff] at h
    obtain ⟨p, hp, q, hq, h⟩ := h
    obtain ⟨z, hz, hr⟩ := binOpA_sound h (opnd_den hS (hc x (by simp [Op.operands])) hp) (opnd_den hS (hc y (by simp [Op.operands])) hq)
    refine ⟨z, hz, fun w => ?_⟩
    have := hr w
    simp only [execOp, Sem.run_bind] at this ⊢
    rw [this]
    rfl
  · -- unOp
    rename_i op t x
    simp only [Option.bind_eq_bind, Option.bind_eq_some_iff] at h
    obtain ⟨p, hp, h⟩ := h
    obtain ⟨z, hz, hr⟩ := unOpA_sound (P := P) h (opnd_den hS (hc x (by simp [Op.operands])) hp)
    exact ⟨z, hz, fun w => by simp [execOp, hr]⟩
  · -- makeInterface
    rename_i t x
    simp only [Option.bind_eq_bind, Option.bind_eq_some_iff] at h
    obtain ⟨p, hp, h⟩ := h
    have hd := opnd_den hS (hc x (by simp [Op.operands])) hp
    split at h
    · cases h
    · rename_i d hnot hdd
      simp only [Option.pure_def, Option.some.injEq] at h
      subst h
      refine ⟨_, by simp [AV.den, hd]; rfl, fun w => ?_⟩
      have : (Instr.makeInterface t (a.eval x)).run P w = .ok (.iface t (a.eval x)) w := by
        cases d <;> first | (simp [Instr.makeInterface, run_underlying hdd]; done) | exact (hnot _ rfl).elim
      simp [execOp, this]
    · cases h
  · -- makeFunc
    rename_i f x y
    simp only [Option.bind_eq_bind, Option.bind_eq_some_iff, Option.pure_def] at h
    obtain ⟨p, hp, q, hq, h⟩ := h
    injection h with h
    subst h
    have h1 := args1_den hS (fun z hz => hc z (by simp only [Op.operands]; exact Array.mem_append.2 (Or.inl (Array.mem_toList_iff.1 hz)))) hp
    have h2 := args1_den hS (fun z hz => hc z (by simp only [Op.operands]; exact Array.mem_append.2 (Or.inr (Array.mem_toList_iff.1 hz)))) hq
    refine ⟨.func (.func f) (x.toList.map a.eval).toArray (y.toList.map a.eval).toArray, by simp only [AV.den, h1, h2], fun w => ?_⟩
    simp [execOp, Instr.makeFunc, args_toArray]
  · -- slice
    rename_i t x lo hi mx
    simp only [Option.bind_eq_bind, Option.bind_eq_some_iff] at h
    obtain ⟨p, hp, l, hl, u, hu, m, hm, h⟩ := h
    obtain ⟨z, hz, hr⟩ := sliceA_sound h (opnd_den hS (hc x (by simp [Op.operands])) hp) (opt1_den hS (fun y hy => hc y (by simp [Op.operands, hy])) hl)
      (opt1_den hS (fun y hy => hc y (by simp [Op.operands, hy])) hu) (opt1_den hS (fun y hy => hc y (by simp [Op.operands, hy])) hm)
    exact ⟨z, hz, fun w => by simp [execOp, hr]⟩
  · -- fieldAddr
    rename_i t x f
    simp only [Option.bind_eq_bind, Option.bind_eq_some_iff] at h
    obtain ⟨p, hp, h⟩ := h
    obtain ⟨z, hz, hr⟩ := fieldAddrA_sound h (opnd_den hS (hc x (by simp [Op.operands])) hp)
    exact ⟨z, hz, fun w => by simp [execOp, hr]⟩
  · -- field
    rename_i t x f
    simp only [Option.bind_eq_bind, Option.bind_eq_some_iff] at h
    obtain ⟨p, hp, h⟩ := h
    obtain ⟨z, hz, hr⟩ := fieldA_sound h (opnd_den hS (hc x (by simp [Op.operands])) hp)
    exact ⟨z, hz, fun w => by simp [execOp, hr]⟩
  · -- indexAddr
    rename_i t x i
    simp only [Option.bind_eq_bind, Option.bind_eq_some_iff] at h
    obtain ⟨p, hp, q, hq, h⟩ := h
    obtain ⟨z, hz, hr⟩ := indexAddrA_sound h (opnd_den hS (hc x (by simp [Op.operands])) hp) (opnd_den hS (hc i (by simp [Op.operands])) hq)
    exact ⟨z, hz, fun w => by simp [execOp, hr]⟩
  · -- index
    rename_i t x i
    simp only [Option.bind_eq_bind, Option.bind_eq_some_iff] at h
    obtain ⟨p, hp, q, hq, h⟩ := h
    obtain ⟨z, hz, hr⟩ := indexA_sound h (opnd_den hS (hc x (by simp [Op.operands])) hp) (opnd_den hS (hc i (by simp [Op.operands])) hq)
    exact ⟨z, hz, fun w => by simp [execOp, hr]⟩
  · -- extract
    rename_i t i
    simp only [Option.bind_eq_bind, Option.bind_eq_some_iff] at h
    obtain ⟨p, hp, h⟩ := h
    have hd := opnd_den hS (hc t (by simp [Op.operands])) hp
    split at h
    · rename_i vs
      obtain ⟨l, hl, he⟩ := denTuple hd
      obtain ⟨z, hz, hi⟩ := denL_get hl _ _ h
      exact ⟨z, hz, fun w => by simp [execOp, Instr.extract, he, hi]⟩
    · cases h
  · -- convert
    rename_i src dst' x
    simp only [Option.bind_eq_bind, Option.bind_eq_some_iff] at h
    obtain ⟨p, hp, h⟩ := h
    have hd := opnd_den hS (hc x (by simp [Op.operands])) hp
    split at h
    · rename_i d k k' e hs ht
      simp only [Option.some.injEq] at h
      subst h
      have he := denInt hd
      refine ⟨_, by rw [den_int (mkWrap_below (denI hd)), IE.mkWrap_den], fun w => ?_⟩
      have : (convert src dst' (a.eval x)).run P w = .ok (.int k (k.wrap (e.den E.ι))) w := by
        rw [he]
        simp [convert, run_underlying hs, run_underlying ht, Conv.intToInt]
      simp [execOp, this]
    · rename_i d s hs ht
      simp only [Option.some.injEq] at h
      subst h
      have he := denStr hd
      refine ⟨_, by simp [AV.den]; rfl, fun w => ?_⟩
      have : (convert src dst' (a.eval x)).run P w = .ok (.string ⟨s.toArray⟩) w := by
        rw [he]
        cases d <;> simp [convert, run_underlying hs, run_underlying ht]
      simp [execOp, this]
    · rename_i d k n hs ht
      simp only [Option.some.injEq] at h
      subst h
      have he := denInt hd
      refine ⟨.string ⟨(Utf8.encode n).data.toList.toArray⟩, by simp only [AV.den], fun w => ?_⟩
      have : (convert src dst' (a.eval x)).run P w = .ok (.string ⟨(Utf8.encode n).data.toList.toArray⟩) w := by
        rw [he]
        simp [convert, run_underlying hs, run_underlying ht, Conv.intToString, IE.den]
      simp [execOp, this]
    · cases h
  · -- len
    rename_i args ts
    simp only [Option.bind_eq_bind, Option.bind_eq_some_iff] at h
    obtain ⟨t, ht, xs, hxs, h⟩ := h
    have hl := args1_den hS (fun z hz => hc z (by simp only [Op.operands, Call.operands]; exact Array.mem_append.2 (Or.inr (Array.mem_toList_iff.1 hz)))) hxs
    rw [exec_builtin rfl, args_toArray]
    split at h <;> (try (simp only [Option.some.injEq] at h; subst h)) <;> (try cases h; done)
    · rename_i s hd
      obtain ⟨y, m, hy, hm, e⟩ := denL_cons.1 hl
      obtain rfl := denStr hy
      simp [AV.denL] at hm
      subst hm
      refine ⟨_, by simp [AV.den, IE.den]; rfl, fun w => ?_⟩
      have hs : (⟨s.toArray⟩ : ByteArray).size = s.length := by simp [ByteArray.size]
      simp [builtin, Builtin.len_, ht, e, run_underlying hd, goInt, hs]
    · rename_i i hd
      obtain ⟨y, m, hy, hm, e⟩ := denL_cons.1 hl
      obtain rfl := denStrv hy
      simp [AV.denL] at hm
      subst hm
      refine ⟨_, by simp [AV.den, IE.den]; rfl, fun w => ?_⟩
      have hs : (⟨(E.ι.str i).toArray⟩ : ByteArray).size = (E.ι.str i).length := by simp [ByteArray.size]
      simp [builtin, Builtin.len_, ht, e, run_underlying hd, goInt, hs]
    · rename_i hd
      obtain ⟨y, m, hy, hm, e⟩ := denL_cons.1 hl
      obtain ⟨c, n', hc', hn', hle, rfl⟩ := denSlice hy
      simp [AV.denL] at hm
      subst hm
      refine ⟨_, by simp [AV.den, IE.den]; rfl, fun w => ?_⟩
      simp [builtin, Builtin.len_, ht, e, run_underlying hd, goInt]
    · rename_i hd
      obtain ⟨y, m, hy, hm, e⟩ := denL_cons.1 hl
      obtain rfl := denNilSlice hy
      simp [AV.denL] at hm
      subst hm
      refine ⟨_, by simp [AV.den, IE.den]; rfl, fun w => ?_⟩
      simp [builtin, Builtin.len_, ht, e, run_underlying hd, goInt]
    · rename_i n e' x hd
      obtain ⟨y, m, hy, hm, e⟩ := denL_cons.1 hl
      simp [AV.denL] at hm
      subst hm
      refine ⟨_, by simp [AV.den, IE.den]; rfl, fun w => ?_⟩
      simp [builtin, Builtin.len_, ht, e, run_underlying hd, goInt]
    · rename_i hd
      obtain ⟨y, m, hy, hm, e⟩ := denL_cons.1 hl
      obtain rfl := denNilMap hy
      simp [AV.denL] at hm
      subst hm
      refine ⟨_, by simp [AV.den, IE.den]; rfl, fun w => ?_⟩
      simp [builtin, Builtin.len_, ht, e, run_underlying hd, goInt]
  · -- cap
    rename_i args ts
    simp only [Option.bind_eq_bind, Option.bind_eq_some_iff] at h
    obtain ⟨t, ht, xs, hxs, h⟩ := h
    have hl := args1_den hS (fun z hz => hc z (by simp only [Op.operands, Call.operands]; exact Array.mem_append.2 (Or.inr (Array.mem_toList_iff.1 hz)))) hxs
    rw [exec_builtin rfl, args_toArray]
    split at h
    · rename_i e' b o' ln i s hd
      injection h with h
      subst h
      obtain ⟨y, m, hy, hm, e⟩ := denL_cons.1 hl
      simp [AV.denL] at hm
      subst hm
      obtain ⟨c, n', hc', hn', hle, rfl⟩ := denSlice hy
      refine ⟨_, by simp only [AV.den, hn', Option.map_some]; rfl, fun w => ?_⟩
      simp [builtin, Builtin.cap_, ht, e, run_underlying hd, goInt]
    · rename_i e' x hd
      simp only [Option.map_eq_some_iff] at h
      obtain ⟨n, hn, rfl⟩ := h
      obtain ⟨y, m, hy, hm, e⟩ := denL_cons.1 hl
      simp [AV.denL] at hm
      subst hm
      refine ⟨_, by simp [AV.den, IE.den]; rfl, fun w => ?_⟩
      unfold capA at hn
      split at hn
      · obtain ⟨c, n', hc', hn', hle, rfl⟩ := denSlice hy
        simp only [Cap.den, Option.some.injEq] at hn' hn
        subst hn'
        subst hn
        simp [builtin, Builtin.cap_, ht, e, run_underlying hd, goInt]
      · obtain rfl := denNilSlice hy
        simp only [Option.some.injEq] at hn
        subst hn
        simp [builtin, Builtin.cap_, ht, e, run_underlying hd, goInt]
      · cases hn
    · cases h
  · -- unsafe.SliceData
    rename_i args ts
    simp only [Option.bind_eq_bind, Option.bind_eq_some_iff] at h
    obtain ⟨xs, hxs, h⟩ := h
    have hl := args1_den hS (fun z hz => hc z (by simp only [Op.operands, Call.operands]; exact Array.mem_append.2 (Or.inr (Array.mem_toList_iff.1 hz)))) hxs
    rw [exec_builtin rfl, args_toArray]
    split at h
    · injection h with h
      subst h
      obtain ⟨y, m, hy, hm, e⟩ := denL_cons.1 hl
      obtain rfl := denNilSlice hy
      simp [AV.denL] at hm
      subst hm
      refine ⟨.pointer none, by simp [AV.den], fun w => ?_⟩
      simp [builtin, e, Lib.run_unsafeSliceData_nil]
    · rename_i b o' n cap
      injection h with h
      subst h
      obtain ⟨y, m, hy, hm, e⟩ := denL_cons.1 hl
      obtain ⟨c, n', hc', hn', hle, rfl⟩ := denSlice hy
      simp [AV.denL] at hm
      subst hm
      have h0 : n' ≠ 0 := by omega
      refine ⟨.pointer (some ⟨c, o', none⟩), by simp [AV.den, hc'], fun w => ?_⟩
      simp [builtin, e, Lib.run_unsafeSliceData_row _ _ _ _ _ _ h0]
    · cases h
  · -- min
    rename_i args ts
    simp only [Option.bind_eq_bind, Option.bind_eq_some_iff] at h
    obtain ⟨xs, hxs, h⟩ := h
    have hl := args1_den hS (fun z hz => hc z (by simp only [Op.operands, Call.operands]; exact Array.mem_append.2 (Or.inr (Array.mem_toList_iff.1 hz)))) hxs
    rw [exec_builtin rfl, args_toArray]
    split at h
    · rename_i k n r
      obtain ⟨y, m, hy, hm, e⟩ := denL_cons.1 hl
      obtain rfl := denInt hy
      obtain ⟨z, hz, hr⟩ := minInt_sound (P := P) _ _ _ _ _ h hm
      refine ⟨z, hz, fun w => ?_⟩
      have := hr w
      simp only [Bool.false_eq_true, if_false] at this
      simp [builtin, Builtin.min_, e, IE.den, this]
    · cases h
  · -- max
    rename_i args ts
    simp only [Option.bind_eq_bind, Option.bind_eq_some_iff] at h
    obtain ⟨xs, hxs, h⟩ := h
    have hl := args1_den hS (fun z hz => hc z (by simp only [Op.operands, Call.operands]; exact Array.mem_append.2 (Or.inr (Array.mem_toList_iff.1 hz)))) hxs
    rw [exec_builtin rfl, args_toArray]
    split at h
    · rename_i k n r
      obtain ⟨y, m, hy, hm, e⟩ := denL_cons.1 hl
      obtain rfl := denInt hy
      obtain ⟨z, hz, hr⟩ := minInt_sound (P := P) _ _ _ _ _ h hm
      refine ⟨z, hz, fun w => ?_⟩
      have := hr w
      simp only [if_true] at this
      simp [builtin, Builtin.max_, e, IE.den, this]
    · cases h
  · cases h

end
end Go.Sx
