/-
  MachineNil: a run, cut into parts, each of which the kernel looks at alone (part 1).
-/
import Derived.Test.YtobmdlcdemolpaaGreatDoorRows
import Derived.Test.YtobmdlcdemolpaaGreatDoorSxY
namespace Go.Proofs.YtobmdlcdemolpaaGreatDoor.machineNilCutM
open Go.Sx
set_option linter.unusedVariables false

noncomputable def h0 : Hp := Hp.lit .e .e 0 0 (by kernel_rfl)
noncomputable def s1 : St := { tmps := ([]), h := h0, pc := ([]), marks := [], pan := none }
noncomputable def o2 : AObj := (oC (cs (ai [3, 1])) 220 63)
noncomputable def o3 : AObj := (oC (cs (ai [3, 1])) 220 31)
noncomputable def t4 : BT AObj := .n (.n .e o2 .e) o3 .e
noncomputable def o5 : AObj := (oC (cs (au [0, 0, 0, 0, 0, 0, 0, 0, 0, 0, 0, 0, 0, 0, 0, 0, 0, 0, 0, 0, 0, 0, 0, 0, 0, 0, 0, 0, 0, 0, 0, 0])) 210 47)
noncomputable def o6 : AObj := (oC (cs ([(xL 12 0 1 1)] ++ ai [4, 8, 8] ++ au [9, 99])) 29 15)
noncomputable def t7 : BT AObj := .n t4 o6 (.n .e o5 .e)
noncomputable def o8 : AObj := (oC (cs ([(xP 37 0), (xV 70 0 1 3 0), .nilSlice, .nilSlice, .nilSlice, .nilSlice, .nilSlice, .nilSlice, .nilSlice, .nilSlice, .nilPtr, .nilPtr, .nilPtr, .nilPtr, .nilPtr, .nilPtr, .nilPtr, .nilPtr] ++ ai [0, 0, 0, 0, 0, 0, 0, 0] ++ [.nilSlice, .nilSlice])) 97 71)
noncomputable def o9 : AObj := (oC (cs (ai [4] ++ [(.map 38)])) 299 39)
noncomputable def t10 : BT AObj := .n (.n .e o8 .e) o9 .e
noncomputable def o11 : AObj := (oC (cs (ai [1, 0, 0])) 155 55)
noncomputable def o12 : AObj := (oC (cs (ai [1, 0, 0])) 155 23)
noncomputable def t13 : BT AObj := .n t10 o12 (.n .e o11 .e)
noncomputable def o14 : AObj := (oC (cs ([.nilSlice] ++ ai [0, 0, 0] ++ au [0, 0] ++ [.nilSlice, .nilSlice])) 112 7)
noncomputable def t15 : BT AObj := .n t7 o14 t13
noncomputable def o16 : AObj := (oM (cs (ai [1, 0, 0])) 155 1 3 1 0 35)
noncomputable def t17 : BT AObj := .n (.n .e ((.map [] 0)) .e) o16 .e
noncomputable def t18 : BT AObj := .n .e ((oC [] 155 51)) .e
noncomputable def t19 : BT AObj := .n t17 ((oC [] 155 19)) t18
noncomputable def o20 : AObj := (oC (cs (au [1] ++ [xF] ++ ai [0, 0, 0, 0] ++ au [0] ++ ai [0, 0, 0] ++ au [0] ++ ai [0, 0, 0] ++ au [0] ++ ai [0, 0, 0] ++ au [0] ++ ai [0, 0, 0] ++ au [0] ++ ai [0, 0, 0] ++ au [0] ++ ai [0, 0, 0] ++ au [0] ++ ai [0, 0, 0] ++ au [0] ++ ai [0, 0, 0] ++ au [0] ++ ai [0, 0, 0] ++ au [0] ++ ai [0, 0, 0] ++ au [0] ++ ai [0, 0, 0] ++ au [0] ++ ai [0, 0, 0] ++ au [0] ++ ai [0, 0, 0] ++ au [0] ++ ai [0, 0, 0] ++ au [0] ++ ai [0, 0, 0] ++ au [0, 1] ++ [xF] ++ ai [0, 0, 0, 0] ++ au [0] ++ ai [0, 0, 0] ++ au [0] ++ ai [0, 0, 0] ++ au [0] ++ ai [0, 0, 0] ++ au [0] ++ ai [0, 0, 0] ++ au [0] ++ ai [0, 0, 0] ++ au [0] ++ ai [0, 0, 0] ++ au [0] ++ ai [0, 0, 0] ++ au [0] ++ ai [0, 0, 0] ++ au [0] ++ ai [0, 0, 0] ++ au [0] ++ ai [0, 0, 0] ++ au [0] ++ ai [0, 0, 0] ++ au [0] ++ ai [0, 0, 0] ++ au [0] ++ ai [0, 0, 0] ++ au [0] ++ ai [0, 0, 0] ++ au [0] ++ ai [0, 0, 0] ++ au [0, 1] ++ [xF] ++ ai [0, 0, 0, 0] ++ au [0] ++ ai [0, 0, 0] ++ au [0] ++ ai [0, 0, 0] ++ au [0] ++ ai [0, 0, 0] ++ au [0] ++ ai [0, 0, 0] ++ au [0] ++ ai [0, 0, 0] ++ au [0] ++ ai [0, 0, 0] ++ au [0] ++ ai [0, 0, 0] ++ au [0] ++ ai [0, 0, 0] ++ au [0] ++ ai [0, 0, 0] ++ au [0] ++ ai [0, 0, 0] ++ au [0] ++ ai [0, 0, 0] ++ au [0] ++ ai [0, 0, 0] ++ au [0] ++ ai [0, 0, 0] ++ au [0] ++ ai [0, 0, 0] ++ au [0] ++ ai [0, 0, 0] ++ au [0, 1] ++ [xF] ++ ai [0, 0, 0, 0] ++ au [0] ++ ai [0, 0, 0] ++ au [0] ++ ai [0, 0, 0] ++ au [0] ++ ai [0, 0, 0] ++ au [0] ++ ai [0, 0, 0] ++ au [0] ++ ai [0, 0, 0] ++ au [0] ++ ai [0, 0, 0] ++ au [0] ++ ai [0, 0, 0] ++ au [0] ++ ai [0, 0, 0] ++ au [0] ++ ai [0, 0, 0] ++ au [0] ++ ai [0, 0, 0] ++ au [0] ++ ai [0, 0, 0] ++ au [0] ++ ai [0, 0, 0] ++ au [0] ++ ai [0, 0, 0] ++ au [0] ++ ai [0, 0, 0] ++ au [0] ++ ai [0, 0, 0] ++ au [0, 1] ++ [xF] ++ ai [0, 0, 0, 0] ++ au [0] ++ ai [0, 0, 0] ++ au [0] ++ ai [0, 0, 0] ++ au [0] ++ ai [0, 0, 0] ++ au [0] ++ ai [0, 0, 0] ++ au [0] ++ ai [0, 0, 0] ++ au [0] ++ ai [0, 0, 0] ++ au [0] ++ ai [0, 0, 0] ++ au [0] ++ ai [0, 0, 0] ++ au [0] ++ ai [0, 0, 0] ++ au [0] ++ ai [0, 0, 0] ++ au [0] ++ ai [0, 0, 0] ++ au [0] ++ ai [0, 0, 0] ++ au [0] ++ ai [0, 0, 0] ++ au [0] ++ ai [0, 0, 0] ++ au [0] ++ ai [0, 0, 0] ++ au [0, 1] ++ [xF] ++ ai [0, 0, 0, 0] ++ au [0] ++ ai [0, 0, 0] ++ au [0] ++ ai [0, 0, 0] ++ au [0] ++ ai [0, 0, 0] ++ au [0] ++ ai [0, 0, 0] ++ au [0] ++ ai [0, 0, 0] ++ au [0] ++ ai [0, 0, 0] ++ au [0] ++ ai [0, 0, 0] ++ au [0] ++ ai [0, 0, 0] ++ au [0] ++ ai [0, 0, 0] ++ au [0] ++ ai [0, 0, 0] ++ au [0] ++ ai [0, 0, 0] ++ au [0] ++ ai [0, 0, 0] ++ au [0] ++ ai [0, 0, 0] ++ au [0] ++ ai [0, 0, 0] ++ au [0] ++ ai [0, 0, 0] ++ au [0, 1] ++ [xF] ++ ai [0, 0, 0, 0] ++ au [0] ++ ai [0, 0, 0] ++ au [0] ++ ai [0, 0, 0] ++ au [0] ++ ai [0, 0, 0] ++ au [0] ++ ai [0, 0, 0] ++ au [0] ++ ai [0, 0, 0] ++ au [0] ++ ai [0, 0, 0] ++ au [0] ++ ai [0, 0, 0] ++ au [0] ++ ai [0, 0, 0] ++ au [0] ++ ai [0, 0, 0] ++ au [0] ++ ai [0, 0, 0] ++ au [0] ++ ai [0, 0, 0] ++ au [0] ++ ai [0, 0, 0] ++ au [0] ++ ai [0, 0, 0] ++ au [0] ++ ai [0, 0, 0] ++ au [0] ++ ai [0, 0, 0] ++ au [0, 1] ++ [xF] ++ ai [0, 0, 0, 0] ++ au [0] ++ ai [0, 0, 0] ++ au [0] ++ ai [0, 0, 0] ++ au [0] ++ ai [0, 0, 0] ++ au [0] ++ ai [0, 0, 0] ++ au [0] ++ ai [0, 0, 0] ++ au [0] ++ ai [0, 0, 0] ++ au [0] ++ ai [0, 0, 0] ++ au [0] ++ ai [0, 0, 0] ++ au [0] ++ ai [0, 0, 0] ++ au [0] ++ ai [0, 0, 0] ++ au [0] ++ ai [0, 0, 0] ++ au [0] ++ ai [0, 0, 0] ++ au [0] ++ ai [0, 0, 0] ++ au [0] ++ ai [0, 0, 0] ++ au [0] ++ ai [0, 0, 0] ++ au [0])) 202 43)
noncomputable def o21 : AObj := (oC (cs (ai [1, 0])) 220 59)
noncomputable def o22 : AObj := (oC (cs (ai [1, 0])) 220 27)
noncomputable def t23 : BT AObj := .n (.n .e o20 .e) o22 (.n .e o21 .e)
noncomputable def o24 : AObj := (oC (cs ([(xL 12 0 1 1)] ++ ai [4, 8, 8] ++ au [9, 99])) 29 11)
noncomputable def t25 : BT AObj := .n t19 o24 t23
noncomputable def o26 : AObj := (oC (cs (ai [0] ++ au [0] ++ ai [0, 0, 0, 0] ++ [xF, xF, xF] ++ ai [0, 0] ++ [(xS []), .nilSlice] ++ ai [0, 0, 0])) 103 3)
noncomputable def t27 : BT AObj := .n t15 o26 t25
noncomputable def o28 : AObj := (oC (cs ([(xL 64 0 1 1), .nilSlice])) 224 65)
noncomputable def o29 : AObj := (oC (cs ([(xV 35 0 1 1 0)] ++ ai [4, 8, 8] ++ au [9, 99])) 29 33)
noncomputable def t30 : BT AObj := .n (.n .e o28 .e) o29 .e
noncomputable def o31 : AObj := (oC (cs (ai [1, 0, 0])) 155 49)
noncomputable def o32 : AObj := (oC (cs (ai [1, 0, 0])) 155 17)
noncomputable def t33 : BT AObj := .n t30 o32 (.n .e o31 .e)
noncomputable def o34 : AObj := (oC (cs ([(xL 40 0 4 4), .nilSlice] ++ ai [0])) 302 41)
noncomputable def o35 : AObj := (oC (cs (ai [0, 0])) 220 57)
noncomputable def o36 : AObj := (oC (cs (ai [0, 0])) 220 25)
noncomputable def t37 : BT AObj := .n (.n .e o34 .e) o36 (.n .e o35 .e)
noncomputable def o38 : AObj := (oC (cs ([.nilSlice] ++ ai [0, 0, 0] ++ au [0, 0])) 29 9)
noncomputable def t39 : BT AObj := .n t33 o38 t37
noncomputable def t40 : BT AObj := .n .e ((oC [] 115 69)) .e
noncomputable def o41 : AObj := (oC (cs ([(xV 35 0 1 1 0)] ++ ai [4, 8, 8] ++ au [9, 99, 0] ++ [(xP 42 0), (xP 44 0), (xP 46 0), (xP 48 0), (xP 54 0), (xP 65 0), (xP 68 0), (xP 36 0)])) 133 37)
noncomputable def t42 : BT AObj := .n t40 o41 .e
noncomputable def o43 : AObj := (.map [((xA (ai [0, 0])), (xA (ai [0] ++ au [1])), 0), ((xA (ai [1, 0])), (xA (ai [0] ++ au [1])), 1), ((xA (ai [2, 0])), (xA (ai [0] ++ au [1])), 2), ((xA (ai [3, 1])), (xA (ai [0] ++ au [1])), 3)] 4)
noncomputable def t44 : BT AObj := .n t42 o43 (.n .e o43 .e)
noncomputable def o45 : AObj := (oC (cs (au [1] ++ [xF] ++ ai [0] ++ ay [0, 0, 0, 0, 0, 0, 0, 0, 0, 0, 0, 0, 0, 0, 0, 0] ++ ai [0] ++ au [0, 1] ++ [xF] ++ ai [0] ++ ay [0, 0, 0, 0, 0, 0, 0, 0, 0, 0, 0, 0, 0, 0, 0, 0] ++ ai [0] ++ au [0, 1] ++ [xF] ++ ai [0] ++ ay [0, 0, 0, 0, 0, 0, 0, 0, 0, 0, 0, 0, 0, 0, 0, 0] ++ ai [0] ++ au [0, 1] ++ [xF] ++ ai [0] ++ ay [0, 0, 0, 0, 0, 0, 0, 0, 0, 0, 0, 0, 0, 0, 0, 0] ++ ai [0] ++ au [0, 1] ++ [xF] ++ ai [0] ++ ay [0, 0, 0, 0, 0, 0, 0, 0, 0, 0, 0, 0, 0, 0, 0, 0] ++ ai [0] ++ au [0, 1] ++ [xF] ++ ai [0] ++ ay [0, 0, 0, 0, 0, 0, 0, 0, 0, 0, 0, 0, 0, 0, 0, 0] ++ ai [0] ++ au [0, 1] ++ [xF] ++ ai [0] ++ ay [0, 0, 0, 0, 0, 0, 0, 0, 0, 0, 0, 0, 0, 0, 0, 0] ++ ai [0] ++ au [0, 1] ++ [xF] ++ ai [0] ++ ay [0, 0, 0, 0, 0, 0, 0, 0, 0, 0, 0, 0, 0, 0, 0, 0] ++ ai [0] ++ au [0])) 207 45)
noncomputable def o46 : AObj := (oC (cs (ai [2, 0])) 220 61)
noncomputable def o47 : AObj := (oC (cs (ai [2, 0])) 220 29)
noncomputable def t48 : BT AObj := .n (.n .e o45 .e) o47 (.n .e o46 .e)
noncomputable def o49 : AObj := (oC (cs (ai [1] ++ au [0] ++ [(xS [])])) 115 13)
noncomputable def t50 : BT AObj := .n t44 o49 t48
noncomputable def o51 : AObj := (oC (cs (ai [0] ++ au [0] ++ ai [0, 0, 0, 0] ++ [xF, xF, xF] ++ ai [0, 0] ++ [(xS []), .nilSlice] ++ ai [0, 0, 0])) 103 5)
noncomputable def t52 : BT AObj := .n t39 o51 t50
noncomputable def o53 : AObj := (oC (cs (ai [2, 0])) 107 1)
noncomputable def t54 : BT AObj := .n t27 o53 t52
noncomputable def t55 : BT AObj := .n .e ((oC (cs (ai [0])) 3 64)) .e
noncomputable def o56 : AObj := (oC (cs ([(xV 35 0 1 1 0)] ++ ai [4, 8, 8] ++ au [9, 99])) 29 32)
noncomputable def t57 : BT AObj := .n t55 o56 .e
noncomputable def o58 : AObj := (oC (cs ([(xL 47 0 16 16)] ++ au [9, 99])) 212 48)
noncomputable def o59 : AObj := (oC (cs ([(xL 12 0 1 1)] ++ ai [4, 8, 8] ++ au [9, 99])) 29 16)
noncomputable def t60 : BT AObj := .n t57 o59 (.n .e o58 .e)
noncomputable def o61 : AObj := (oC (cs (ai [1] ++ au [0] ++ [(xS [])])) 115 72)
noncomputable def o62 : AObj := (oC (cs (au [1] ++ [xF] ++ ai [0, 0] ++ [(xS [])] ++ ai [0, 0] ++ [(.int .u32 (.lit (.ofNat 0))), xF, xF] ++ au [0] ++ ai [0, 0, 0] ++ au [0] ++ ai [0, 0, 0] ++ au [0] ++ ai [0, 0] ++ au [0, 0, 0, 1] ++ [xF] ++ ai [0, 0] ++ [(xS [])] ++ ai [0, 0] ++ [(.int .u32 (.lit (.ofNat 0))), xF, xF] ++ au [0] ++ ai [0, 0, 0] ++ au [0] ++ ai [0, 0, 0] ++ au [0] ++ ai [0, 0] ++ au [0, 0, 0, 1] ++ [xF] ++ ai [0, 0] ++ [(xS [])] ++ ai [0, 0] ++ [(.int .u32 (.lit (.ofNat 0))), xF, xF] ++ au [0] ++ ai [0, 0, 0] ++ au [0] ++ ai [0, 0, 0] ++ au [0] ++ ai [0, 0] ++ au [0, 0, 0, 1] ++ [xF] ++ ai [0, 0] ++ [(xS [])] ++ ai [0, 0] ++ [(.int .u32 (.lit (.ofNat 0))), xF, xF] ++ au [0] ++ ai [0, 0, 0] ++ au [0] ++ ai [0, 0, 0] ++ au [0] ++ ai [0, 0] ++ au [0, 0, 0])) 304 40)
noncomputable def t63 : BT AObj := .n (.n .e o61 .e) o62 .e
noncomputable def o64 : AObj := (oC (cs (ai [1, 0, 0])) 155 56)
noncomputable def o65 : AObj := (oC (cs (ai [1, 0, 0])) 155 24)
noncomputable def t66 : BT AObj := .n t63 o65 (.n .e o64 .e)
noncomputable def o67 : AObj := (oC (cs ([.nilSlice] ++ ai [0, 0, 0] ++ au [0, 0])) 29 8)
noncomputable def t68 : BT AObj := .n t60 o67 t66
noncomputable def o69 : AObj := (oC (cs (ai [1] ++ [(.map 66), (.map 67)])) 228 68)
noncomputable def o70 : AObj := (oC (cs ([.nilSlice])) 187 36)
noncomputable def t71 : BT AObj := .n (.n .e o69 .e) o70 .e
noncomputable def o72 : AObj := (oM (cs (ai [1, 0, 0])) 155 2 3 1 0 52)
noncomputable def o73 : AObj := (oM (cs (ai [1, 0, 0])) 155 0 3 1 0 20)
noncomputable def t74 : BT AObj := .n t71 o73 (.n .e o72 .e)
noncomputable def o75 : AObj := (oC (cs ([(xL 43 0 8 8), .nilSlice] ++ ai [0])) 200 44)
noncomputable def o76 : AObj := (oC (cs (ai [1, 0, 0])) 155 60)
noncomputable def o77 : AObj := (oC (cs (ai [1, 0, 0])) 155 28)
noncomputable def t78 : BT AObj := .n (.n .e o75 .e) o77 (.n .e o76 .e)
noncomputable def o79 : AObj := (oC (cs (ai [1, 0, 0])) 155 12)
noncomputable def t80 : BT AObj := .n t74 o79 t78
noncomputable def o81 : AObj := (oC (cs (ai [2, 0])) 107 4)
noncomputable def t82 : BT AObj := .n t68 o81 t80
noncomputable def t83 : BT AObj := .n (.n .e ((.map [] 0)) .e) ((oC [] 155 34)) .e
noncomputable def o84 : AObj := (oC (cs (ai [1, 0, 0])) 155 50)
noncomputable def o85 : AObj := (oC (cs (ai [1, 0, 0])) 155 18)
noncomputable def t86 : BT AObj := .n t83 o85 (.n .e o84 .e)
noncomputable def o87 : AObj := (oC (cs ([(xP 41 0), (xP 39 0)])) 197 42)
noncomputable def o88 : AObj := (oC (cs (ai [1, 0, 0])) 155 58)
noncomputable def o89 : AObj := (oC (cs (ai [1, 0, 0])) 155 26)
noncomputable def t90 : BT AObj := .n (.n .e o87 .e) o89 (.n .e o88 .e)
noncomputable def o91 : AObj := (oC (cs ([.nilSlice] ++ ai [0, 0, 0] ++ au [0, 0])) 29 10)
noncomputable def t92 : BT AObj := .n t86 o91 t90
noncomputable def o93 : AObj := (oM (cs (ai [1] ++ au [0] ++ [(xS [])])) 115 3 3 1 0 70)
noncomputable def t94 : BT AObj := .n (.n .e o93 .e) ((.map [] 0)) .e
noncomputable def o95 : AObj := (oC (cs ([(xV 52 0 1 2 0), (.map 53)])) 216 54)
noncomputable def o96 : AObj := (oC (cs ([(xV 20 0 1 0 0), (.map 21)])) 216 22)
noncomputable def t97 : BT AObj := .n t94 o96 (.n .e o95 .e)
noncomputable def o98 : AObj := (oC (cs ([(xL 45 0 8 8), .nilSlice] ++ ai [0])) 205 46)
noncomputable def o99 : AObj := (oC (cs (ai [1, 0, 0])) 155 62)
noncomputable def o100 : AObj := (oC (cs (ai [1, 0, 0])) 155 30)
noncomputable def t101 : BT AObj := .n (.n .e o98 .e) o100 (.n .e o99 .e)
noncomputable def o102 : AObj := (oC (cs ([(xL 12 0 1 1)] ++ ai [4, 8, 8] ++ au [9, 99])) 29 14)
noncomputable def t103 : BT AObj := .n t97 o102 t101
noncomputable def o104 : AObj := (oC (cs (ai [0] ++ au [0] ++ ai [0, 0, 0, 0] ++ [xF, xF, xF] ++ ai [0, 0] ++ [(xS []), .nilSlice] ++ ai [0, 0, 0])) 103 6)
noncomputable def t105 : BT AObj := .n t92 o104 t103
noncomputable def o106 : AObj := (oC (cs (ai [0] ++ au [0] ++ ai [0, 0, 0, 0] ++ [xF, xF, xF] ++ ai [0, 0] ++ [(xS []), .nilSlice] ++ ai [0, 0, 0])) 103 2)
noncomputable def t107 : BT AObj := .n t82 o106 t105
noncomputable def o108 : AObj := (oC (cs ([.nilPtr, .nilSlice, .nilSlice, .nilSlice, .nilSlice, .nilSlice, .nilSlice, .nilSlice, .nilSlice, .nilSlice, .nilPtr, .nilPtr, .nilPtr, .nilPtr, .nilPtr, .nilPtr, .nilPtr, .nilPtr] ++ ai [0, 0, 0, 0, 0, 0, 0, 0] ++ [.nilSlice, .nilSlice])) 97 0)
noncomputable def t109 : BT AObj := .n t54 o108 t107
noncomputable def m110 : BT (List Nat) := .n (.n .e [] .e) [] .e
noncomputable def m111 : BT (List Nat) := .n m110 [] (.n .e [] .e)
noncomputable def m112 : BT (List Nat) := .n m111 [] m111
noncomputable def m113 : BT (List Nat) := .n (.n .e [] .e) [] (.n .e [] .e)
noncomputable def m114 : BT (List Nat) := .n m111 [] m113
noncomputable def m115 : BT (List Nat) := .n m112 [] m114
noncomputable def m116 : BT (List Nat) := .n m114 [] m114
noncomputable def m117 : BT (List Nat) := .n m115 [] m116
noncomputable def m118 : BT (List Nat) := .n m117 [] m117
noncomputable def h119 : Hp := Hp.lit t109 m118 73 4 (by kernel_rfl)
noncomputable def B4 : Code := Tryz.f4.body.getD .skip
noncomputable def s120 : St := { tmps := (us 87), h := h0, pc := ([]), marks := [], pan := none }
noncomputable def l121 : List AV := [xT, .nilPtr, (xP 0 0), (xP 3 0)] ++ ai [1] ++ [(xP 6 0)] ++ ai [1] ++ [.nilPtr] ++ ai [2] ++ [.nilPtr] ++ ai [2] ++ [(.tuple ([(xA (ai [0] ++ au [0] ++ ai [0, 0, 0, 0] ++ [xF, xF, xF] ++ ai [0, 0] ++ [(xS []), .nilSlice] ++ ai [0, 0, 0]))] ++ ai [1])), .nilPtr, (xA (ai [2, 0])), (.tuple ([(xA (ai [0] ++ au [0] ++ ai [0, 0, 0, 0] ++ [xF, xF, xF] ++ ai [0, 0] ++ [(xS []), .nilSlice] ++ ai [0, 0, 0]))] ++ ai [1])), (xA (ai [0] ++ au [0] ++ ai [0, 0, 0, 0] ++ [xF, xF, xF] ++ ai [0, 0] ++ [(xS []), .nilSlice] ++ ai [0, 0, 0]))] ++ ai [1] ++ [(.tuple ([(xA (ai [0] ++ au [0] ++ ai [0, 0, 0, 0] ++ [xF, xF, xF] ++ ai [0, 0] ++ [(xS []), .nilSlice] ++ ai [0, 0, 0]))] ++ ai [1])), (xA (ai [2, 0])), (.tuple ([(xA (ai [0] ++ au [0] ++ ai [0, 0, 0, 0] ++ [xF, xF, xF] ++ ai [0, 0] ++ [(xS []), .nilSlice] ++ ai [0, 0, 0]))] ++ ai [1])), (xA (ai [0] ++ au [0] ++ ai [0, 0, 0, 0] ++ [xF, xF, xF] ++ ai [0, 0] ++ [(xS []), .nilSlice] ++ ai [0, 0, 0]))] ++ ai [1] ++ [(.tuple ([.nilPtr] ++ ai [2])), (xA ([.nilSlice] ++ ai [0, 0, 0] ++ au [0, 0] ++ [.nilSlice, .nilSlice])), (.tuple ([.nilPtr] ++ ai [2])), .nilPtr] ++ ai [2] ++ [(.tuple ([.nilPtr] ++ ai [2])), (xA ([(xL 12 0 1 1)] ++ ai [4, 8, 8] ++ au [9, 99])), (xA (ai [1] ++ au [0] ++ [(xS [])])), (xL 13 0 1 1), (.tuple ([.nilPtr] ++ ai [2])), .nilPtr] ++ ai [2, 1] ++ [xT, xT] ++ ai [1] ++ [xT, xT, xT, .nilPtr, xT, xT, xT] ++ ai [2] ++ [xT, xT, xT] ++ ai [2] ++ [xT, xT, xT, .nilPtr, .nilPtr, xT, xT, xT, .nilPtr, .nilSlice] ++ ai [0] ++ [.nilPtr, .nilSlice] ++ ai [0, 0] ++ [.nilPtr] ++ ai [0, 0] ++ [.nilPtr] ++ ai [0, 0, 0, 0] ++ [xT, xT, xT, .nilPtr, xT, xT, xT, .nilPtr, .nilPtr, xT, xT, xT, xT, xT]
noncomputable def s122 : St := { tmps := l121, h := h119, pc := ([]), marks := [], pan := none }
set_option maxRecDepth 100000 in
theorem g0 : runCode Tryz.prog true (runCall Tryz.prog true (some 28) 300 59) none 300 none (sub B4 []) s120 = some [(.ret, s122)] := by kernel_rfl
set_option maxRecDepth 100000 in
theorem g1 : (runCall Tryz.prog true (some 28) 300 60) false 4 ([]) s1.h s1.pc = some [(xT, h119, ([]))] := cut_call (d := 59) (fn := Tryz.f4) (c := sub B4 []) (l := [(.ret, s122)]) (by kernel_rfl) Tryz.func4 (by kernel_rfl) g0 (by kernel_rfl)
theorem ranCut : allTrue (runCall Tryz.prog true (some 28) 300 60 false 4 [] Hp.nil []) = true := (congrArg allTrue g1).trans (by kernel_rfl)

end Go.Proofs.YtobmdlcdemolpaaGreatDoor.machineNilCutM
