/-
  AssocNil: a run, cut into parts, each of which the kernel looks at alone (part 1).
-/
import Derived.Test.YtbnnnekapjbjpaaGreatRows
import Derived.Test.YtbnnnekapjbjpaaGreatSxX
namespace Go.Proofs.YtbnnnekapjbjpaaGreat.assocNilCutM
open Go.Sx
set_option linter.unusedVariables false

noncomputable def h0 : Hp := Hp.lit .e .e 0 0 (by kernel_rfl)
noncomputable def s1 : St := { tmps := ([]), h := h0, pc := ([]), marks := [], pan := none }
noncomputable def o2 : AObj := (oC (cs (ai [0] ++ [(xS [])])) 48 15)
noncomputable def t3 : BT AObj := .n (.n .e o2 .e) ((.map [] 0)) (.n .e ((.map [] 0)) .e)
noncomputable def o4 : AObj := (oC (cs (ai [1] ++ [(xS [97])])) 48 19)
noncomputable def o5 : AObj := (oC (cs ([(xP 8 0), (xP 2 0), (xP 4 0), (xP 10 0)])) 43 11)
noncomputable def t6 : BT AObj := .n (.n .e o4 .e) o5 .e
noncomputable def t7 : BT AObj := .n t3 ((oC (cs (ai [0])) 3 3)) t6
noncomputable def o8 : AObj := (oC (cs (ai [0] ++ [(xS [])])) 48 17)
noncomputable def t9 : BT AObj := .n (.n .e o8 .e) ((oC (cs (ai [0])) 3 9)) .e
noncomputable def o10 : AObj := (oC (cs (ai [1] ++ [(xS [97])])) 48 21)
noncomputable def o11 : AObj := (oC (cs (ai [0] ++ [(xS [])])) 48 13)
noncomputable def t12 : BT AObj := .n (.n .e o10 .e) o11 .e
noncomputable def o13 : AObj := (oC (cs ([.nilSlice, .nilSlice, .nilSlice])) 95 5)
noncomputable def t14 : BT AObj := .n t9 o13 t12
noncomputable def o15 : AObj := (oC (cs (au [1] ++ [xF] ++ ai [0, 0, 0, 0] ++ au [0] ++ ai [0, 0, 0] ++ au [0] ++ ai [0, 0, 0] ++ au [0] ++ ai [0, 0, 0] ++ au [0] ++ ai [0, 0, 0] ++ au [0] ++ ai [0, 0, 0] ++ au [0] ++ ai [0, 0, 0] ++ au [0] ++ ai [0, 0, 0] ++ au [0] ++ ai [0, 0, 0] ++ au [0] ++ ai [0, 0, 0] ++ au [0] ++ ai [0, 0, 0] ++ au [0] ++ ai [0, 0, 0] ++ au [0] ++ ai [0, 0, 0] ++ au [0] ++ ai [0, 0, 0] ++ au [0] ++ ai [0, 0, 0] ++ au [0] ++ ai [0, 0, 0] ++ au [0])) 113 1)
noncomputable def t16 : BT AObj := .n t7 o15 t14
noncomputable def o17 : AObj := (oC (cs (ai [0] ++ [(xS [])])) 48 16)
noncomputable def o18 : AObj := (oC (cs ([(xP 2 0), (xP 4 0)] ++ ai [0, 0, 0] ++ au [0, 0] ++ [(.map 6), (.map 7)])) 35 8)
noncomputable def t19 : BT AObj := .n (.n .e o17 .e) o18 .e
noncomputable def o20 : AObj := (oC (cs (ai [1] ++ [(xS [97])])) 48 20)
noncomputable def o21 : AObj := (oC (cs ([.nilSlice, .nilSlice, .nilSlice])) 95 12)
noncomputable def t22 : BT AObj := .n (.n .e o20 .e) o21 .e
noncomputable def o23 : AObj := (oC (cs ([(xL 3 0 1 1), .nilSlice])) 116 4)
noncomputable def t24 : BT AObj := .n t19 o23 t22
noncomputable def o25 : AObj := (oC (cs (ai [1] ++ [(xS [97])])) 48 18)
noncomputable def o26 : AObj := (oC (cs ([.nilSlice] ++ au [0] ++ ai [1] ++ [(xL 9 0 1 1), .nilSlice])) 74 10)
noncomputable def t27 : BT AObj := .n (.n .e o25 .e) o26 .e
noncomputable def o28 : AObj := (oC (cs (ai [0, 0, 0] ++ au [0])) 31 22)
noncomputable def o29 : AObj := (oC (cs (ai [0] ++ [(xS [])])) 48 14)
noncomputable def t30 : BT AObj := .n (.n .e o28 .e) o29 .e
noncomputable def t31 : BT AObj := .n t27 ((.map [] 0)) t30
noncomputable def o32 : AObj := (oC (cs ([(xL 1 0 1 1), .nilSlice] ++ ai [0])) 111 2)
noncomputable def t33 : BT AObj := .n t24 o32 t31
noncomputable def o34 : AObj := (oC (cs ([.nilPtr, .nilPtr] ++ ai [0, 0, 0] ++ au [0, 0] ++ [.nilMap, .nilMap])) 35 0)
noncomputable def t35 : BT AObj := .n t16 o34 t33
noncomputable def m36 : BT (List Nat) := .n (.n .e [] .e) [] (.n .e [] .e)
noncomputable def m37 : BT (List Nat) := .n (.n .e [] .e) [] .e
noncomputable def m38 : BT (List Nat) := .n m36 [] m37
noncomputable def m39 : BT (List Nat) := .n m37 [] m37
noncomputable def m40 : BT (List Nat) := .n m38 [] m39
noncomputable def m41 : BT (List Nat) := .n m39 [] m39
noncomputable def m42 : BT (List Nat) := .n m40 [] m41
noncomputable def h43 : Hp := Hp.lit t35 m42 24 0 (by kernel_rfl)
noncomputable def B3 : Code := Tryz.f3.body.getD .skip
noncomputable def s44 : St := { tmps := (us 214), h := h0, pc := ([]), marks := [], pan := none }
noncomputable def l45 : List AV := [xT, .nilPtr, (xP 0 0), (xP 11 0), .nilPtr] ++ ai [1] ++ [.nilPtr] ++ ai [1, 0, 1, 0, 1, 0] ++ [xF, (xP 17 0), xF, .nilPtr] ++ ai [1] ++ [.nilPtr] ++ ai [1, 0, 2, 0, 4] ++ [(xP 11 0), (xP 11 0), xF, (.tuple ([.nilPtr] ++ ai [1])), (xP 11 0), (xP 11 0), (xP 11 2), (xP 4 0), (.tuple ([.nilPtr] ++ ai [1])), .nilPtr] ++ ai [1] ++ [(.tuple ([.nilPtr] ++ ai [1])), (xP 11 0), (xP 11 0), (xP 11 1), (xP 2 0), (.tuple ([.nilPtr] ++ ai [1])), .nilPtr] ++ ai [1] ++ [(.tuple (ai [0, 1])), .nilPtr, (xA (ai [0] ++ [(xS [])])), (.tuple (ai [0, 1]))] ++ ai [0, 1] ++ [(.tuple (ai [0, 1])), (xA (ai [0] ++ [(xS [])])), (.tuple (ai [0, 1]))] ++ ai [0, 1] ++ [(.tuple (ai [0] ++ [xF])), .nilPtr, (xA (ai [0] ++ [(xS [])])), (.tuple (ai [0] ++ [xF]))] ++ ai [0] ++ [xF, (.tuple ([(xA (ai [0] ++ [(xS [])])), xF])), (.tuple ([(xA (ai [0] ++ [(xS [])])), xF])), (xA (ai [0] ++ [(xS [])])), xF, (.tuple ([.nilPtr] ++ ai [1])), .nilPtr, (xP 11 0), (xP 11 0), (xP 11 1), (xP 2 0), (xP 11 0), (xP 11 0), (xP 11 2), (xP 4 0), (.tuple ([.nilPtr] ++ ai [1])), .nilPtr] ++ ai [1] ++ [(.tuple ([.nilPtr] ++ ai [1])), (xP 11 0), (xP 11 0), (xP 11 0), (xP 8 0), (xP 11 0), (xP 11 0), (xP 11 2), (xP 4 0), (.tuple ([.nilPtr] ++ ai [1])), .nilPtr] ++ ai [1] ++ [(.tuple (ai [0, 2])), (xP 11 0), (xP 11 0), (xP 11 0), (xP 8 0), (xA (ai [1] ++ [(xS [97])])), (.tuple (ai [0, 2]))] ++ ai [0, 2] ++ [(.tuple (ai [0, 4])), (xP 11 0), (xP 11 0), (xP 11 0), (xP 8 0), (xA (ai [1] ++ [(xS [97])])), (.tuple (ai [0, 4]))] ++ ai [0, 4, 1] ++ [xT, xT] ++ ai [1] ++ [xT, xT, xT] ++ ai [1] ++ [xT, xT, xT] ++ ai [1] ++ [xT, xT, xT, xF, xT, xT, xT, xF, xT, xT, xT] ++ ai [1] ++ [xT, xT, xT] ++ ai [1] ++ [xT, xT, xT] ++ ai [2] ++ [xT, xT, xT] ++ ai [4] ++ [xT, xT, xT, .nilPtr] ++ ai [1] ++ [xT, xT, xT, .nilPtr, .nilSlice] ++ ai [0] ++ [xT, xT, xT] ++ ai [0] ++ [xT, xT, xT, .nilPtr, (xA (ai [0, 0, 0] ++ au [0])), (xA (ai [0, 0, 0] ++ au [0])), xT, xT, xT, .nilPtr] ++ au [0, 0, 0] ++ [xT, xT, xT, .nilPtr] ++ ai [0, 0, 0] ++ [.nilPtr] ++ ai [0, 0, 0, 0] ++ [xT, xT, xT, .nilPtr, xT, xT, xT, .nilPtr, (xP 11 0), (xP 11 0), (xP 11 0), (xP 8 0), xF, xT, xT, xT, (xP 11 0), (xP 11 0), (xP 11 0), (xP 8 0), .nilPtr, xF, xT, xT, xT] ++ ai [0] ++ [xT, xT, xT, xT, xT]
noncomputable def s46 : St := { tmps := l45, h := h43, pc := ([]), marks := [], pan := none }
set_option maxRecDepth 100000 in
theorem g0 : runCode Tryz.prog true (runCall Tryz.prog true (some 20) 300 59) none 300 none (sub B3 []) s44 = some [(.ret, s46)] := by kernel_rfl
set_option maxRecDepth 100000 in
theorem g1 : (runCall Tryz.prog true (some 20) 300 60) false 3 ([]) s1.h s1.pc = some [(xT, h43, ([]))] := cut_call (d := 59) (fn := Tryz.f3) (c := sub B3 []) (l := [(.ret, s46)]) (by kernel_rfl) Tryz.func3 (by kernel_rfl) g0 (by kernel_rfl)
theorem ranCut : allTrue (runCall Tryz.prog true (some 20) 300 60 false 3 [] Hp.nil []) = true := (congrArg allTrue g1).trans (by kernel_rfl)

end Go.Proofs.YtbnnnekapjbjpaaGreat.assocNilCutM
