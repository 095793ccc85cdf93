/-
  MachineNil: a run, cut into parts, each of which the kernel looks at alone (part 1).
-/
import Derived.Test.YtobmdlcdemolpaaGreatDoorRows
import Derived.Test.YtobmdlcdemolpaaGreatDoorSxY
namespace Go.Proofs.YtobmdlcdemolpaaGreatDoor.machineNilCutK
open Go.Sx
set_option linter.unusedVariables false

noncomputable def h0 : Hp := Hp.lit .e .e 0 0 (by kernel_rfl)
noncomputable def s1 : St := { tmps := ([]), h := h0, pc := ([]), marks := [], pan := none }
noncomputable def o2 : AObj := (oM (cs (ai [3] ++ [(xJ 2)] ++ ai [0] ++ [xF] ++ ai [0] ++ au [1] ++ ai [0])) 246 17 7 1 0 255)
noncomputable def o3 : AObj := (oC (cs (ai [0] ++ au [1])) 63 383)
noncomputable def o4 : AObj := (oC (cs (ai [17] ++ [(xJ 2)] ++ ai [0, 0, 0] ++ [(xS []), (xS []), (.int .u32 (.lit (.ofNat 0)))] ++ ai [0, 0] ++ au [0] ++ ai [0] ++ [xT])) 43 127)
noncomputable def t5 : BT AObj := .n (.n .e o2 .e) o4 (.n .e o3 .e)
noncomputable def o6 : AObj := (oC (cs (ai [1, 0, 0])) 155 319)
noncomputable def o7 : AObj := (oC (cs ([(.map 69)])) 225 447)
noncomputable def o8 : AObj := (oC (cs ([(xQ 338), (xQ 339)])) 405 191)
noncomputable def t9 : BT AObj := .n (.n .e o6 .e) o8 (.n .e o7 .e)
noncomputable def o10 : AObj := (oC (cs (ai [1, 0, 0])) 155 63)
noncomputable def t11 : BT AObj := .n t5 o10 t9
noncomputable def o12 : AObj := (oC (cs (ai [0] ++ au [1])) 63 287)
noncomputable def o13 : AObj := (oC (cs (ai [0, 0] ++ [(xS [])] ++ ai [0, 0] ++ [(.int .u32 (.lit (.ofNat 0))), xF, xF] ++ au [0] ++ ai [0, 0, 0] ++ au [0] ++ ai [0, 0, 0] ++ au [0] ++ ai [0, 0] ++ au [0, 0, 0])) 195 415)
noncomputable def o14 : AObj := (oC (cs (ay [17, 253, 255, 255, 255])) 5 159)
noncomputable def t15 : BT AObj := .n (.n .e o12 .e) o14 (.n .e o13 .e)
noncomputable def o16 : AObj := (oC (cs (ai [1, 0, 0])) 155 351)
noncomputable def o17 : AObj := (oC (cs (ai [2] ++ au [0] ++ ai [1, 0, 0, 3] ++ [xF, xF, xF] ++ ai [0, 0] ++ [(xS []), .nilSlice] ++ ai [0, 0, 0])) 103 223)
noncomputable def t18 : BT AObj := .n (.n .e o16 .e) o17 .e
noncomputable def o19 : AObj := (.map [((xI 1), (.func 46 ([(xP 89 0)]) ([])), 0), ((xI 2), (.func 47 ([(xP 89 0)]) ([])), 1), ((xI 3), (.func 48 ([(xP 89 0)]) ([])), 2), ((xI 4), (.func 49 ([(xP 89 0)]) ([])), 3), ((xI 5), (.func 50 ([(xP 89 0)]) ([])), 4), ((xI 6), (.func 51 ([(xP 89 0)]) ([])), 5), ((xI 7), (.func 52 ([(xP 89 0)]) ([])), 6), ((xI 8), (.func 53 ([(xP 89 0)]) ([])), 7), ((xI 9), (.func 54 ([(xP 89 0)]) ([])), 8), ((xI 10), (.func 55 ([(xP 89 0)]) ([])), 9), ((xI 11), (.func 56 ([(xP 89 0)]) ([])), 10), ((xI 12), (.func 57 ([(xP 89 0)]) ([])), 11), ((xI 13), (.func 58 ([(xP 89 0)]) ([])), 12), ((xI 14), (.func 59 ([(xP 89 0)]) ([])), 13)] 14)
noncomputable def t20 : BT AObj := .n t15 o19 t18
noncomputable def o21 : AObj := (oC (cs (ai [1, 0, 0])) 155 31)
noncomputable def t22 : BT AObj := .n t11 o21 t20
noncomputable def o23 : AObj := (oC (cs (ai [3] ++ [xF, xF, xF] ++ ai [0, 0] ++ [(xS [])])) 47 271)
noncomputable def o24 : AObj := (oC (cs ([(xP 44 0)])) 191 399)
noncomputable def o25 : AObj := (oC (cs ([(xQ 318), (xQ 319)])) 405 143)
noncomputable def t26 : BT AObj := .n (.n .e o23 .e) o25 (.n .e o24 .e)
noncomputable def o27 : AObj := (oC (cs ([(xQ 415), xF, xF, xF])) 460 335)
noncomputable def o28 : AObj := (oC (cs (ai [1, 0])) 107 463)
noncomputable def o29 : AObj := (oC (cs (ai [2] ++ [xF, xF, xF] ++ ai [0, 0] ++ [(xS [])])) 47 207)
noncomputable def t30 : BT AObj := .n (.n .e o27 .e) o29 (.n .e o28 .e)
noncomputable def o31 : AObj := (oC (cs (ai [1, 0])) 107 79)
noncomputable def t32 : BT AObj := .n t26 o31 t30
noncomputable def o33 : AObj := (oM (cs (ai [3] ++ [(xJ 2)] ++ ai [0] ++ [xF] ++ ai [0] ++ au [1] ++ ai [0])) 246 21 7 1 0 303)
noncomputable def o34 : AObj := (oC (cs (ai [0, 0] ++ [(xS [])] ++ ai [0, 0] ++ [(.int .u32 (.lit (.ofNat 0))), xF, xF] ++ au [0] ++ ai [0, 0, 0] ++ au [0] ++ ai [0, 0, 0] ++ au [0] ++ ai [0, 0] ++ au [0, 0, 0])) 195 431)
noncomputable def o35 : AObj := (oC (cs ([(xQ 322), (xQ 323)])) 405 175)
noncomputable def t36 : BT AObj := .n (.n .e o33 .e) o35 (.n .e o34 .e)
noncomputable def o37 : AObj := (oC (cs (au [0, 0, 1, 21, 9, 99])) 661 367)
noncomputable def o38 : AObj := (oC (cs (ai [1, 0, 0])) 155 239)
noncomputable def t39 : BT AObj := .n (.n .e o37 .e) o38 .e
noncomputable def o40 : AObj := (oC (cs ([(xQ 316), (xQ 317), (xQ 326), (xQ 325)])) 405 111)
noncomputable def t41 : BT AObj := .n t36 o40 t39
noncomputable def o42 : AObj := (oC (cs ([(xL 46 0 8 8), .nilSlice] ++ ai [0])) 200 47)
noncomputable def t43 : BT AObj := .n t32 o42 t41
noncomputable def o44 : AObj := (oC (cs (ai [1, 0, 0])) 155 15)
noncomputable def t45 : BT AObj := .n t22 o44 t43
noncomputable def o46 : AObj := (oC (cs (ai [0, 0] ++ [(xS [])] ++ ai [0, 0] ++ [(.int .u32 (.lit (.ofNat 0))), xF, xF] ++ au [0] ++ ai [0, 0, 0] ++ au [0] ++ ai [0, 0, 0] ++ au [0] ++ ai [0, 0] ++ au [0, 0, 0])) 195 263)
noncomputable def o47 : AObj := (oC (cs (ai [0] ++ au [0])) 63 391)
noncomputable def o48 : AObj := (oC (cs ([(xQ 322), (xQ 323)])) 405 135)
noncomputable def t49 : BT AObj := .n (.n .e o46 .e) o48 (.n .e o47 .e)
noncomputable def o50 : AObj := (oC (cs (ai [0, 5] ++ [(xS [])])) 45 327)
noncomputable def o51 : AObj := (loopAt .exhausted none ([.nilSlice, (.func 313 ([]) ([(xP 452 0)])), (xP 453 0)] ++ us 1 ++ [.nilSlice] ++ us 1 ++ [(.func 313 ([]) ([(xP 452 0)]))] ++ us 6) 454 (sub (Tryz.f445.body.getD .skip) [true, false, true, false]))
noncomputable def o52 : AObj := (oC (cs (ai [0] ++ au [0] ++ ai [1, 0, 0, 1] ++ [xF, xF, xF] ++ ai [0, 0] ++ [(xS []), .nilSlice] ++ ai [0, 0, 0])) 103 199)
noncomputable def t53 : BT AObj := .n (.n .e o50 .e) o52 (.n .e o51 .e)
noncomputable def o54 : AObj := (oC (cs (ai [1] ++ [(.map 69), (.map 70)])) 228 71)
noncomputable def t55 : BT AObj := .n t49 o54 t53
noncomputable def o56 : AObj := (oC (cs (ai [4] ++ au [0] ++ ai [1, 0, 0, 14] ++ [xF, xF, xT] ++ ai [0, 5] ++ [(xS []), .nilSlice] ++ ai [0, 0, 0])) 103 295)
noncomputable def o57 : AObj := (oC (cs (ai [0, 5] ++ [(xS [])])) 45 423)
noncomputable def o58 : AObj := (oC (cs ([(xL 166 5 0 0)] ++ ai [1])) 501 167)
noncomputable def t59 : BT AObj := .n (.n .e o56 .e) o58 (.n .e o57 .e)
noncomputable def o60 : AObj := (oC (cs (au [1, 21])) 210 359)
noncomputable def o61 : AObj := (oC (cs (ai [3] ++ [(xJ 2)] ++ ai [0] ++ [xF] ++ ai [0] ++ au [1] ++ ai [0])) 246 231)
noncomputable def t62 : BT AObj := .n (.n .e o60 .e) o61 .e
noncomputable def o63 : AObj := (oC (cs ([(xQ 318), (xQ 319)])) 405 103)
noncomputable def t64 : BT AObj := .n t59 o63 t62
noncomputable def o65 : AObj := (oC (cs ([.nilSlice])) 187 39)
noncomputable def t66 : BT AObj := .n t55 o65 t64
noncomputable def o67 : AObj := (.map [((xI 1), (xQ 66), 0), ((xI 2), (xQ 67), 1), ((xI 3), (xQ 68), 2)] 3)
noncomputable def o68 : AObj := (oC (cs (ai [2, 0])) 220 407)
noncomputable def o69 : AObj := (oC (cs ([(xQ 338), (xQ 339)])) 405 151)
noncomputable def t70 : BT AObj := .n (.n .e o67 .e) o69 (.n .e o68 .e)
noncomputable def o71 : AObj := (oC (cs (ai [0] ++ au [0])) 63 343)
noncomputable def o72 : AObj := (oC (cs (ai [5] ++ au [0] ++ ai [1, 0] ++ [(xJ 0)] ++ ai [0] ++ [xF, xF, xF] ++ ai [0, 0] ++ [(xS []), .nilSlice] ++ ai [0, 0, 0])) 103 471)
noncomputable def o73 : AObj := (oC (cs (ai [1] ++ au [0] ++ ai [1, 0, 0, 2] ++ [xF, xF, xF] ++ ai [0, 0] ++ [(xS []), .nilSlice] ++ ai [0, 0, 0])) 103 215)
noncomputable def t74 : BT AObj := .n (.n .e o71 .e) o73 (.n .e o72 .e)
noncomputable def t75 : BT AObj := .n t70 ((oC [] 5 87)) t74
noncomputable def o76 : AObj := (oC (cs (ai [3] ++ [(xJ 2)] ++ ai [0] ++ [xF] ++ ai [0] ++ au [1] ++ ai [0])) 246 311)
noncomputable def o77 : AObj := (oC (cs (ai [0, 0, 0] ++ au [0] ++ [.nilSlice, .nilSlice] ++ ai [0] ++ au [0] ++ ai [0])) 69 439)
noncomputable def o78 : AObj := (oC (cs ([(xQ 318), (xQ 319)])) 405 183)
noncomputable def t79 : BT AObj := .n (.n .e o76 .e) o78 (.n .e o77 .e)
noncomputable def o80 : AObj := (oC (cs (ai [1, 0, 0])) 155 375)
noncomputable def o81 : AObj := (oC (cs (ai [0, 0, 0] ++ [xF] ++ ai [0] ++ au [0] ++ ai [0])) 246 247)
noncomputable def t82 : BT AObj := .n (.n .e o80 .e) o81 .e
noncomputable def o83 : AObj := (oC (cs ([(xQ 316), (xQ 317), (xQ 331), (xQ 332)])) 405 119)
noncomputable def t84 : BT AObj := .n t79 o83 t82
noncomputable def o85 : AObj := (oM (cs (ai [1, 0, 0])) 155 8 3 1 0 55)
noncomputable def t86 : BT AObj := .n t75 o85 t84
noncomputable def o87 : AObj := (oM (cs (ai [1, 0, 0])) 155 6 3 1 0 23)
noncomputable def t88 : BT AObj := .n t66 o87 t86
noncomputable def o89 : AObj := (oC (cs (ay [255])) 5 7)
noncomputable def t90 : BT AObj := .n t45 o89 t88
noncomputable def o91 : AObj := (oC (cs (ai [0] ++ au [0])) 63 259)
noncomputable def o92 : AObj := (oC (cs (ai [0, 0] ++ [(xS [])] ++ ai [0, 0] ++ [(.int .u32 (.lit (.ofNat 0))), xF, xF] ++ au [0] ++ ai [0, 0, 0] ++ au [0] ++ ai [0, 0, 0] ++ au [0] ++ ai [0, 0] ++ au [0, 0, 0])) 195 387)
noncomputable def o93 : AObj := (oC (cs ([(xQ 320), (xQ 321)])) 405 131)
noncomputable def t94 : BT AObj := .n (.n .e o91 .e) o93 (.n .e o92 .e)
noncomputable def o95 : AObj := (oC (cs (ai [2, 0])) 220 323)
noncomputable def o96 : AObj := (.mapIter (some 69) 0 [] 0)
noncomputable def o97 : AObj := (oC (cs (ai [17] ++ [(xJ 2)] ++ ai [0, 0, 0] ++ [(xS []), (xS []), (.int .u32 (.lit (.ofNat 0)))] ++ ai [0, 0] ++ au [0] ++ ai [0] ++ [xT])) 43 195)
noncomputable def t98 : BT AObj := .n (.n .e o95 .e) o97 (.n .e o96 .e)
noncomputable def t99 : BT AObj := .n t94 ((oC (cs (ai [0])) 3 67)) t98
noncomputable def o100 : AObj := (oC (cs (ai [3] ++ au [0] ++ ai [1, 0, 0, 11] ++ [xF, xF, xF] ++ ai [0, 0] ++ [(xS []), .nilSlice] ++ ai [0, 0, 0])) 103 291)
noncomputable def o101 : AObj := (oC (cs (ai [0] ++ au [0])) 63 419)
noncomputable def o102 : AObj := (oC (cs (ay [17, 253, 255, 255, 255, 1])) 5 163)
noncomputable def t103 : BT AObj := .n (.n .e o100 .e) o102 (.n .e o101 .e)
noncomputable def o104 : AObj := (oC (cs ([(xS [107, 101, 121, 114, 105, 110, 103])] ++ ai [0, 0] ++ [xT, xF, xT])) 332 355)
noncomputable def t105 : BT AObj := .n (.n .e o104 .e) o19 .e
noncomputable def o106 : AObj := (oC (cs (ay [17, 253, 255, 255, 255, 1])) 5 99)
noncomputable def t107 : BT AObj := .n t103 o106 t105
noncomputable def o108 : AObj := (oC (cs ([(xV 38 0 1 7 0)] ++ ai [4, 8, 8] ++ au [9, 99])) 29 35)
noncomputable def t109 : BT AObj := .n t99 o108 t107
noncomputable def o110 : AObj := (oC (cs (ai [2] ++ au [0] ++ ai [1, 0, 0, 3] ++ [xF, xF, xF] ++ ai [0, 0] ++ [(xS []), .nilSlice] ++ ai [0, 0, 0])) 103 275)
noncomputable def o111 : AObj := (oC (cs (ai [1, 0, 0])) 155 403)
noncomputable def o112 : AObj := (oC (cs ([(xQ 316), (xQ 317)])) 405 147)
noncomputable def t113 : BT AObj := .n (.n .e o110 .e) o112 (.n .e o111 .e)
noncomputable def o114 : AObj := (oC (cs (ai [0] ++ au [0])) 63 339)
noncomputable def o115 : AObj := (oC (cs (ai [5] ++ au [0] ++ ai [1, 0] ++ [(xJ 0)] ++ ai [0] ++ [xF, xF, xF] ++ ai [0, 0] ++ [(xS []), .nilSlice] ++ ai [0, 0, 0])) 103 467)
noncomputable def t116 : BT AObj := .n (.n .e o114 .e) ((.map [] 0)) (.n .e o115 .e)
noncomputable def o117 : AObj := (oC (cs (ai [0] ++ au [4] ++ [(xS [17, 253, 255, 255, 255, 1])])) 115 83)
noncomputable def t118 : BT AObj := .n t113 o117 t116
noncomputable def o119 : AObj := (oC (cs (ai [0] ++ au [0])) 63 307)
noncomputable def o120 : AObj := (oC (cs (ai [0] ++ au [0])) 63 435)
noncomputable def o121 : AObj := (oC (cs ([(xQ 316), (xQ 317)])) 405 179)
noncomputable def t122 : BT AObj := .n (.n .e o119 .e) o121 (.n .e o120 .e)
noncomputable def o123 : AObj := (oC (cs (au [1, 21])) 210 371)
noncomputable def o124 : AObj := (oC (cs (ai [3] ++ [(xJ 2)] ++ ai [0] ++ [xF] ++ ai [0] ++ au [1] ++ ai [0])) 246 243)
noncomputable def t125 : BT AObj := .n (.n .e o123 .e) o124 .e
noncomputable def o126 : AObj := (oC (cs ([(xQ 316), (xQ 317), (xQ 318), (xQ 319), (xQ 320), (xQ 321)])) 405 115)
noncomputable def t127 : BT AObj := .n t122 o126 t125
noncomputable def o128 : AObj := (oC (cs ([(xL 50 0 16 16)] ++ au [9, 99])) 212 51)
noncomputable def t129 : BT AObj := .n t118 o128 t127
noncomputable def o130 : AObj := (oC (cs ([(xL 15 0 1 1)] ++ ai [4, 8, 8] ++ au [9, 99])) 29 19)
noncomputable def t131 : BT AObj := .n t109 o130 t129
noncomputable def o132 : AObj := (oC (cs (ai [4] ++ [(xS [95, 115, 101, 115])])) 38 267)
noncomputable def o133 : AObj := (oC (cs (ai [0] ++ au [1])) 63 395)
noncomputable def o134 : AObj := (oC (cs ([(xQ 316), (xQ 317)])) 405 139)
noncomputable def t135 : BT AObj := .n (.n .e o132 .e) o134 (.n .e o133 .e)
noncomputable def o136 : AObj := (oC (cs (ai [13, 0, 0, 0, 4] ++ [(xS [95, 115, 101, 115]), (.int .u32 (.lit (.ofNat 0)))] ++ ai [0, 0] ++ au [0] ++ ai [0] ++ [(xJ 2)] ++ au [4] ++ ai [0] ++ au [1] ++ [.nilSlice] ++ ai [0, 0, 0, 0] ++ au [0] ++ [.nilSlice, .nilSlice] ++ ai [0] ++ au [0] ++ ai [0, 0, 0, 0] ++ au [0] ++ [.nilSlice, .nilSlice] ++ ai [0] ++ au [0] ++ ai [0])) 71 331)
noncomputable def o137 : AObj := (oM (cs (ai [0] ++ au [0] ++ ai [1, 0, 0, 1] ++ [xF, xF, xF] ++ ai [0, 0] ++ [(xS []), .nilSlice] ++ ai [0, 0, 0, 1] ++ au [0] ++ ai [1, 0, 0, 2] ++ [xF, xF, xF] ++ ai [0, 0] ++ [(xS []), .nilSlice] ++ ai [0, 0, 0, 2] ++ au [0] ++ ai [1, 0, 0, 3] ++ [xF, xF, xF] ++ ai [0, 0] ++ [(xS []), .nilSlice] ++ ai [0, 0, 0, 3] ++ au [0] ++ ai [1, 0, 0, 11] ++ [xF, xF, xF] ++ ai [0, 0] ++ [(xS []), .nilSlice] ++ ai [0, 0, 0, 4] ++ au [0] ++ ai [1, 0, 0, 14] ++ [xF, xF, xT] ++ ai [0, 5] ++ [(xS []), .nilSlice] ++ ai [0, 0, 0])) 103 24 16 5 0 198)
noncomputable def o138 : AObj := (oC (cs (ai [1] ++ au [0] ++ ai [1, 0, 0, 2] ++ [xF, xF, xF] ++ ai [0, 0] ++ [(xS []), .nilSlice] ++ ai [0, 0, 0])) 103 203)
noncomputable def t139 : BT AObj := .n (.n .e o136 .e) o138 (.n .e o137 .e)
noncomputable def o140 : AObj := (oC (cs (ai [0] ++ au [4] ++ [(xS [17, 253, 255, 255, 255, 1])])) 115 75)
noncomputable def t141 : BT AObj := .n t135 o140 t139
noncomputable def o142 : AObj := (oC (cs (ai [14] ++ [xF, xF, xT] ++ ai [0, 5] ++ [(xS [])])) 47 299)
noncomputable def o143 : AObj := (oC (cs (ai [0] ++ au [0])) 63 427)
noncomputable def o144 : AObj := (oC (cs ([(xQ 320), (xQ 321)])) 405 171)
noncomputable def t145 : BT AObj := .n (.n .e o142 .e) o144 (.n .e o143 .e)
noncomputable def o146 : AObj := (oC (cs (au [0, 0, 1, 21, 9, 99])) 661 363)
noncomputable def o147 : AObj := (oC (cs (ai [3] ++ [(xJ 2)] ++ ai [0] ++ [xF] ++ ai [0] ++ au [1] ++ ai [0])) 246 235)
noncomputable def t148 : BT AObj := .n (.n .e o146 .e) o147 .e
noncomputable def o149 : AObj := (oC (cs ([(xQ 318), (xQ 319), (xQ 322), (xQ 323), (xQ 324), (xQ 325)])) 405 107)
noncomputable def t150 : BT AObj := .n t145 o149 t148
noncomputable def o151 : AObj := (oC (cs (au [1] ++ [xT] ++ ai [5, 4] ++ [(xS [95, 115, 101, 115])] ++ ai [1, 0] ++ [(.int .u32 (.lit (.ofNat 1057161216))), xF, xF] ++ au [0] ++ ai [0, 0, 0] ++ au [0] ++ ai [0, 0, 0] ++ au [0] ++ ai [1, 0] ++ au [21, 1, 1, 1] ++ [xF] ++ ai [0, 0] ++ [(xS [])] ++ ai [0, 0] ++ [(.int .u32 (.lit (.ofNat 0))), xF, xF] ++ au [0] ++ ai [0, 0, 0] ++ au [0] ++ ai [0, 0, 0] ++ au [0] ++ ai [0, 0] ++ au [0, 0, 0, 1] ++ [xF] ++ ai [0, 0] ++ [(xS [])] ++ ai [0, 0] ++ [(.int .u32 (.lit (.ofNat 0))), xF, xF] ++ au [0] ++ ai [0, 0, 0] ++ au [0] ++ ai [0, 0, 0] ++ au [0] ++ ai [0, 0] ++ au [0, 0, 0, 1] ++ [xF] ++ ai [0, 0] ++ [(xS [])] ++ ai [0, 0] ++ [(.int .u32 (.lit (.ofNat 0))), xF, xF] ++ au [0] ++ ai [0, 0, 0] ++ au [0] ++ ai [0, 0, 0] ++ au [0] ++ ai [0, 0] ++ au [0, 0, 0])) 304 43)
noncomputable def t152 : BT AObj := .n t141 o151 t150
noncomputable def o153 : AObj := (oC (cs (ai [0])) 23 283)
noncomputable def o154 : AObj := (oC (cs (ai [0] ++ au [0])) 63 411)
noncomputable def o155 : AObj := (oC (cs (ay [17])) 5 155)
noncomputable def t156 : BT AObj := .n (.n .e o153 .e) o155 (.n .e o154 .e)
noncomputable def o157 : AObj := (oC (cs (ai [0] ++ au [0])) 63 347)
noncomputable def o158 : AObj := (oC (cs (ai [1] ++ au [0] ++ ai [1, 0, 0, 2] ++ [xF, xF, xF] ++ ai [0, 0] ++ [(xS []), .nilSlice] ++ ai [0, 0, 0])) 103 219)
noncomputable def t159 : BT AObj := .n (.n .e o157 .e) o158 .e
noncomputable def o160 : AObj := (oM (cs (ai [0, 0, 0, 4] ++ au [0] ++ ai [0, 5] ++ [(xS [])])) 181 13 8 1 0 91)
noncomputable def t161 : BT AObj := .n t156 o160 t159
noncomputable def o162 : AObj := (oC (cs (ai [3] ++ [(xJ 2)] ++ ai [0] ++ [xF] ++ ai [0] ++ au [1] ++ ai [0])) 246 315)
noncomputable def o163 : AObj := (oC (cs (ai [0, 0, 0] ++ au [0] ++ [.nilSlice, .nilSlice] ++ ai [0] ++ au [0] ++ ai [0])) 69 443)
noncomputable def o164 : AObj := (oC (cs ([(xQ 316), (xQ 317)])) 405 187)
noncomputable def t165 : BT AObj := .n (.n .e o162 .e) o164 (.n .e o163 .e)
noncomputable def o166 : AObj := (oC (cs (ai [2, 0])) 220 379)
noncomputable def o167 : AObj := (.map [((xA (ai [3] ++ [(xJ 2)] ++ ai [0])), (xI 0), 0)] 1)
noncomputable def t168 : BT AObj := .n (.n .e o166 .e) o167 .e
noncomputable def o169 : AObj := (oC (cs ([(xQ 335), (xQ 317), (xQ 336), (xQ 337)])) 405 123)
noncomputable def t170 : BT AObj := .n t165 o169 t168
noncomputable def o171 : AObj := (oC (cs (ai [1, 0, 0])) 155 59)
noncomputable def t172 : BT AObj := .n t161 o171 t170
noncomputable def o173 : AObj := (oC (cs (ai [1, 0, 0])) 155 27)
noncomputable def t174 : BT AObj := .n t152 o173 t172
noncomputable def o175 : AObj := (oM (cs (ay [17, 253, 255, 255, 255])) 5 4 1 5 0 11)
noncomputable def t176 : BT AObj := .n t131 o175 t174
noncomputable def o177 : AObj := (oC (cs (ay [253])) 5 3)
noncomputable def t178 : BT AObj := .n t90 o177 t176
noncomputable def o179 : AObj := (oC (cs (ai [0, 0] ++ [(xS [])] ++ ai [0, 0] ++ [(.int .u32 (.lit (.ofNat 0))), xF, xF] ++ au [0] ++ ai [0, 0, 0] ++ au [0] ++ ai [0, 0, 0] ++ au [0] ++ ai [0, 0] ++ au [0, 0, 0])) 195 257)
noncomputable def o180 : AObj := (oC (cs (ai [0, 0] ++ [(xS [])] ++ ai [0, 0] ++ [(.int .u32 (.lit (.ofNat 0))), xF, xF] ++ au [0] ++ ai [0, 0, 0] ++ au [0] ++ ai [0, 0, 0] ++ au [0] ++ ai [0, 0] ++ au [0, 0, 0])) 195 385)
noncomputable def o181 : AObj := (oC (cs ([(xQ 316), (xQ 317)])) 405 129)
noncomputable def t182 : BT AObj := .n (.n .e o179 .e) o181 (.n .e o180 .e)
noncomputable def o183 : AObj := (oC (cs (ai [1, 0, 0])) 155 321)
noncomputable def t184 : BT AObj := .n .e ((.deferred false)) .e
noncomputable def o185 : AObj := (oC (cs ([(xQ 336), (xQ 337)])) 405 193)
noncomputable def t186 : BT AObj := .n (.n .e o183 .e) o185 t184
noncomputable def o187 : AObj := (oC (cs (ai [1, 0, 0])) 155 65)
noncomputable def t188 : BT AObj := .n t182 o187 t186
noncomputable def o189 : AObj := (oC (cs (ai [3] ++ au [0] ++ ai [1, 0, 0, 11] ++ [xF, xF, xF] ++ ai [0, 0] ++ [(xS []), .nilSlice] ++ ai [0, 0, 0])) 103 289)
noncomputable def o190 : AObj := (oC (cs (ai [0] ++ au [0])) 63 417)
noncomputable def o191 : AObj := (oC (cs (ay [1])) 5 161)
noncomputable def t192 : BT AObj := .n (.n .e o189 .e) o191 (.n .e o190 .e)
noncomputable def o193 : AObj := (oC (cs (ay [63, 3, 0, 0])) 641 353)
noncomputable def o194 : AObj := (oC (cs (ai [3] ++ [xF, xF, xF] ++ ai [0, 0] ++ [(xS [])])) 47 225)
noncomputable def t195 : BT AObj := .n (.n .e o193 .e) o194 .e
noncomputable def o196 : AObj := (oC (cs (ai [17] ++ [(xJ 2)] ++ ai [0, 0, 0] ++ [(xS []), (xS []), (.int .u32 (.lit (.ofNat 0)))] ++ ai [0, 0] ++ au [0] ++ ai [0] ++ [xT])) 43 97)
noncomputable def t197 : BT AObj := .n t192 o196 t195
noncomputable def o198 : AObj := (oC (cs (ai [1, 0, 0])) 155 33)
noncomputable def t199 : BT AObj := .n t188 o198 t197
noncomputable def o200 : AObj := (oM (cs (ai [0] ++ au [0] ++ ai [1, 0, 0, 1] ++ [xF, xF, xF] ++ ai [0, 0] ++ [(xS []), .nilSlice] ++ ai [0, 0, 0, 1] ++ au [0] ++ ai [1, 0, 0, 2] ++ [xF, xF, xF] ++ ai [0, 0] ++ [(xS []), .nilSlice] ++ ai [0, 0, 0, 2] ++ au [0] ++ ai [1, 0, 0, 3] ++ [xF, xF, xF] ++ ai [0, 0] ++ [(xS []), .nilSlice] ++ ai [0, 0, 0])) 103 19 16 3 0 198)
noncomputable def o201 : AObj := (oC (cs (ai [2, 0])) 220 401)
noncomputable def o202 : AObj := (oC (cs ([(xQ 316), (xQ 317), (xQ 329), (xQ 330)])) 405 145)
noncomputable def t203 : BT AObj := .n (.n .e o200 .e) o202 (.n .e o201 .e)
noncomputable def o204 : AObj := (oC (cs (ai [0] ++ au [0])) 63 337)
noncomputable def t205 : BT AObj := .n (.n .e o204 .e) o19 (.n .e o67 .e)
noncomputable def t206 : BT AObj := .n t203 o67 t205
noncomputable def o207 : AObj := (oC (cs (ai [0] ++ au [0])) 63 305)
noncomputable def o208 : AObj := (oC (cs (ai [0] ++ au [0])) 63 433)
noncomputable def o209 : AObj := (oC (cs ([(xQ 316), (xQ 317)])) 405 177)
noncomputable def t210 : BT AObj := .n (.n .e o207 .e) o209 (.n .e o208 .e)
noncomputable def o211 : AObj := (oC (cs (au [1, 21])) 210 369)
noncomputable def o212 : AObj := (oC (cs (ai [2, 0])) 220 241)
noncomputable def t213 : BT AObj := .n (.n .e o211 .e) o212 .e
noncomputable def o214 : AObj := (oC (cs ([(xQ 316), (xQ 317), (xQ 318), (xQ 319)])) 405 113)
noncomputable def t215 : BT AObj := .n t210 o214 t213
noncomputable def o216 : AObj := (oC (cs ([(xL 48 0 8 8), .nilSlice] ++ ai [0])) 205 49)
noncomputable def t217 : BT AObj := .n t206 o216 t215
noncomputable def o218 : AObj := (oC (cs ([(xL 15 0 1 1)] ++ ai [4, 8, 8] ++ au [9, 99])) 29 17)
noncomputable def t219 : BT AObj := .n t199 o218 t217
noncomputable def o220 : AObj := (oC (cs ([(xJ 2)] ++ ai [0, 0] ++ [(xS []), xT, xT])) 241 265)
noncomputable def o221 : AObj := (oC (cs (ai [0] ++ au [0])) 63 393)
noncomputable def o222 : AObj := (oC (cs ([(xQ 316), (xQ 317)])) 405 137)
noncomputable def t223 : BT AObj := .n (.n .e o220 .e) o222 (.n .e o221 .e)
noncomputable def o224 : AObj := (oC (cs (ai [0, 5] ++ [(xS [])])) 45 329)
noncomputable def o225 : AObj := (oC (cs (ai [14] ++ [xF, xF, xT] ++ ai [0, 5] ++ [(xS [])])) 47 457)
noncomputable def o226 : AObj := (oC (cs (ai [0] ++ au [0] ++ ai [1, 0, 0, 1] ++ [xF, xF, xF] ++ ai [0, 0] ++ [(xS []), .nilSlice] ++ ai [0, 0, 0])) 103 201)
noncomputable def t227 : BT AObj := .n (.n .e o224 .e) o226 (.n .e o225 .e)
noncomputable def o228 : AObj := (oM (cs (ai [0] ++ au [4] ++ [(xS [17, 253, 255, 255, 255, 1])])) 115 9 3 1 0 73)
noncomputable def t229 : BT AObj := .n t223 o228 t227
noncomputable def o230 : AObj := (oC (cs (ai [4] ++ au [0] ++ ai [1, 0, 0, 14] ++ [xF, xF, xT] ++ ai [0, 5] ++ [(xS []), .nilSlice] ++ ai [0, 0, 0])) 103 297)
noncomputable def o231 : AObj := (oC (cs (ai [0, 0, 0, 0, 0] ++ [(xS []), (.int .u32 (.lit (.ofNat 0)))] ++ ai [0, 0] ++ au [0] ++ ai [0, 0] ++ au [0] ++ ai [0] ++ au [0] ++ [.nilSlice] ++ ai [0, 0, 0, 0] ++ au [0] ++ [.nilSlice, .nilSlice] ++ ai [0] ++ au [0] ++ ai [0, 0, 0, 0] ++ au [0] ++ [.nilSlice, .nilSlice] ++ ai [0] ++ au [0] ++ ai [0])) 71 425)
noncomputable def o232 : AObj := (oC (cs ([(xQ 316), (xQ 317)])) 405 169)
noncomputable def t233 : BT AObj := .n (.n .e o230 .e) o232 (.n .e o231 .e)
noncomputable def o234 : AObj := (oC (cs (au [1, 21])) 210 361)
noncomputable def o235 : AObj := (oC (cs (ai [3] ++ [(xJ 2)] ++ ai [0] ++ [xF] ++ ai [0] ++ au [1] ++ ai [0])) 246 233)
noncomputable def t236 : BT AObj := .n (.n .e o234 .e) o235 .e
noncomputable def o237 : AObj := (oC (cs ([(xQ 322), (xQ 323)])) 405 105)
noncomputable def t238 : BT AObj := .n t233 o237 t236
noncomputable def o239 : AObj := (.map [((xI 5), (xA (ai [0] ++ au [1])), 0)] 1)
noncomputable def t240 : BT AObj := .n t229 o239 t238
noncomputable def o241 : AObj := (oC (cs ([(xP 89 0)])) 31 281)
noncomputable def t242 : BT AObj := .n .e ((oC (cs ([xF])) 4 409)) .e
noncomputable def o243 : AObj := (oC (cs (ay [17])) 5 153)
noncomputable def t244 : BT AObj := .n (.n .e o241 .e) o243 t242
noncomputable def o245 : AObj := (oC (cs (ai [0] ++ au [0])) 63 345)
noncomputable def o246 : AObj := (oC (cs (ai [1] ++ au [0] ++ ai [1, 0, 0, 2] ++ [xF, xF, xF] ++ ai [0, 0] ++ [(xS []), .nilSlice] ++ ai [0, 0, 0])) 103 217)
noncomputable def t247 : BT AObj := .n (.n .e o245 .e) o246 .e
noncomputable def o248 : AObj := (oC (cs ([(xP 40 0)] ++ ai [0] ++ [(xV 88 0 6 12 0)] ++ au [4] ++ ai [15, 17] ++ [(xJ 2)] ++ ai [0, 0, 0] ++ [(xS []), (xS []), (.int .u32 (.lit (.ofNat 0)))] ++ ai [0, 0] ++ au [0] ++ ai [0] ++ [xT, xT] ++ ai [0] ++ [xF] ++ ai [14] ++ [xF, xF, xT] ++ ai [0, 5] ++ [(xS [])] ++ ai [0, 5] ++ [(xS []), (xP 210 0), (.map 211)] ++ ai [1] ++ [(xV 213 0 1 15 0)] ++ ai [1] ++ [(.func 353 ([(xP 89 0)]) ([])), .nilFunc] ++ ai [0] ++ [.nilSlice, .nilPtr, .nilPtr, .nilPtr, .nilPtr, .nilPtr, .nilPtr, .nilPtr, .nilFunc, .nilSlice] ++ ai [0, 0, 0, 0, 0] ++ [(xS []), (.int .u32 (.lit (.ofNat 0)))] ++ ai [0, 0] ++ au [0] ++ ai [0, 0] ++ au [0] ++ ai [0] ++ au [0] ++ [.nilSlice] ++ ai [0, 0, 0, 0] ++ au [0] ++ [.nilSlice, .nilSlice] ++ ai [0] ++ au [0] ++ ai [0, 0, 0, 0] ++ au [0] ++ [.nilSlice, .nilSlice] ++ ai [0] ++ au [0] ++ ai [0, 0, 0] ++ [.nilSlice])) 75 89)
noncomputable def t249 : BT AObj := .n t244 o248 t247
noncomputable def o250 : AObj := (oC (cs (ai [3] ++ [(xJ 2)] ++ ai [0] ++ [xF] ++ ai [0] ++ au [1] ++ ai [0])) 246 313)
noncomputable def o251 : AObj := (oC (cs ([(xQ 316), (xQ 317), (xQ 329), (xQ 330)])) 405 185)
noncomputable def t252 : BT AObj := .n (.n .e o250 .e) o251 t184
noncomputable def o253 : AObj := (oC (cs (ai [1, 0, 0])) 155 377)
noncomputable def o254 : AObj := (oC (cs (ai [3] ++ [(xJ 2)] ++ ai [0])) 444 249)
noncomputable def t255 : BT AObj := .n (.n .e o253 .e) o254 .e
noncomputable def o256 : AObj := (oC (cs ([(xQ 316), (xQ 317)])) 405 121)
noncomputable def t257 : BT AObj := .n t252 o256 t255
noncomputable def o258 : AObj := (oC (cs ([(xV 55 0 1 8 0), (.map 56)])) 216 57)
noncomputable def t259 : BT AObj := .n t249 o258 t257
noncomputable def o260 : AObj := (oC (cs ([(xV 23 0 1 6 0), (.map 24)])) 216 25)
noncomputable def t261 : BT AObj := .n t240 o260 t259
noncomputable def o262 : AObj := (oC (cs (ay [255])) 5 9)
noncomputable def t263 : BT AObj := .n t219 o262 t261
noncomputable def o264 : AObj := (oC (cs (ai [0] ++ au [0])) 63 261)
noncomputable def o265 : AObj := (oC (cs (ai [0] ++ au [1])) 63 389)
noncomputable def o266 : AObj := (.map [((xI 1), (xL 134 0 3 3), 0), ((xI 2), (xL 135 0 1 1), 1), ((xI 3), (xL 136 0 2 2), 2), ((xI 4), (xL 137 0 1 1), 3), ((xI 5), (xL 138 0 2 2), 4), ((xI 6), (xL 139 0 1 1), 5), ((xI 7), (xL 140 0 2 2), 6), ((xI 8), (xL 141 0 2 2), 7), ((xI 9), (xL 142 0 3 3), 8), ((xI 10), (xL 143 0 1 1), 9), ((xI 11), (xL 144 0 2 2), 10), ((xI 12), (xL 145 0 2 2), 11), ((xI 13), (xL 146 0 2 2), 12), ((xI 14), (xL 147 0 1 1), 13), ((xI 15), (xL 148 0 1 1), 14), ((xI 16), (xL 149 0 2 2), 15), ((xI 17), (xL 150 0 2 2), 16), ((xI 18), (xL 151 0 1 1), 17)] 18)
noncomputable def t267 : BT AObj := .n (.n .e o264 .e) o266 (.n .e o265 .e)
noncomputable def o268 : AObj := (oC (cs (ai [3] ++ [(xJ 2)] ++ ai [0] ++ [xF] ++ ai [0] ++ au [1] ++ ai [0])) 246 325)
noncomputable def o269 : AObj := (oC (cs ([.nilSlice])) 60 453)
noncomputable def o270 : AObj := (oC (cs (ai [0] ++ au [0] ++ ai [1, 0, 0, 1] ++ [xF, xF, xF] ++ ai [0, 0] ++ [(xS []), .nilSlice] ++ ai [0, 0, 0])) 103 197)
noncomputable def t271 : BT AObj := .n (.n .e o268 .e) o270 (.n .e o269 .e)
noncomputable def t272 : BT AObj := .n t267 ((.map [] 0)) t271
noncomputable def o273 : AObj := (oC (cs (ai [3] ++ au [0] ++ ai [1, 0, 0, 11] ++ [xF, xF, xF] ++ ai [0, 0] ++ [(xS []), .nilSlice] ++ ai [0, 0, 0])) 103 293)
noncomputable def o274 : AObj := (oC (cs (ai [0, 0] ++ [(xS [])] ++ ai [0, 0] ++ [(.int .u32 (.lit (.ofNat 0))), xF, xF] ++ au [0] ++ ai [0, 0, 0] ++ au [0] ++ ai [0, 0, 0] ++ au [0] ++ ai [0, 0] ++ au [0, 0, 0])) 195 421)
noncomputable def o275 : AObj := (oC (cs ([(xL 163 0 6 6)])) 32 165)
noncomputable def t276 : BT AObj := .n (.n .e o273 .e) o275 (.n .e o274 .e)
noncomputable def o277 : AObj := (oC (cs (ai [5, 4] ++ [(xS [95, 115, 101, 115])] ++ ai [1, 0] ++ [(.int .u32 (.lit (.ofNat 1057161216))), xF, xF] ++ au [0] ++ ai [0, 0, 0] ++ au [0] ++ ai [0, 0, 0] ++ au [0] ++ ai [1, 0] ++ au [21, 1, 1])) 195 357)
noncomputable def o278 : AObj := (oC (cs (ai [3] ++ [(xJ 2)] ++ ai [0] ++ [xF] ++ ai [0] ++ au [1] ++ ai [0])) 246 229)
noncomputable def t279 : BT AObj := .n (.n .e o277 .e) o278 .e
noncomputable def o280 : AObj := (oC (cs (ai [17] ++ [(xJ 2)] ++ ai [0, 0, 0] ++ [(xS []), (xS []), (.int .u32 (.lit (.ofNat 0)))] ++ ai [0, 0] ++ au [0] ++ ai [0] ++ [xT, (xP 100 0)])) 396 101)
noncomputable def t281 : BT AObj := .n t276 o280 t279
noncomputable def t282 : BT AObj := .n t272 ((oC [] 155 37)) t281
noncomputable def o283 : AObj := (oC (cs (ai [1, 0])) 107 277)
noncomputable def o284 : AObj := (oC (cs (ai [2, 0])) 220 405)
noncomputable def o285 : AObj := (oC (cs ([(xQ 318), (xQ 319), (xQ 333), (xQ 334)])) 405 149)
noncomputable def t286 : BT AObj := .n (.n .e o283 .e) o285 (.n .e o284 .e)
noncomputable def o287 : AObj := (oC (cs (ai [0] ++ au [0])) 63 341)
noncomputable def o288 : AObj := (oC (cs (ai [5] ++ au [0] ++ ai [1, 0] ++ [(xJ 0)] ++ ai [0] ++ [xF, xF, xF] ++ ai [0, 0] ++ [(xS []), .nilSlice] ++ ai [0, 0, 0])) 103 469)
noncomputable def o289 : AObj := (oM (cs ([(xJ 2)] ++ ai [0, 0] ++ [(xS []), xT, xT])) 241 15 6 1 0 213)
noncomputable def t290 : BT AObj := .n (.n .e o287 .e) o289 (.n .e o288 .e)
noncomputable def o291 : AObj := (oC (cs (ai [1, 0, 0])) 155 85)
noncomputable def t292 : BT AObj := .n t286 o291 t290
noncomputable def t293 : BT AObj := .n .e ((oC [] 246 309)) .e
noncomputable def o294 : AObj := (oC (cs (ai [0] ++ au [0])) 63 437)
noncomputable def o295 : AObj := (oC (cs ([(xQ 316), (xQ 317), (xQ 318), (xQ 319)])) 405 181)
noncomputable def t296 : BT AObj := .n t293 o295 (.n .e o294 .e)
noncomputable def o297 : AObj := (oC (cs (ai [5, 4] ++ [(xS [95, 115, 101, 115])] ++ ai [1, 0] ++ [(.int .u32 (.lit (.ofNat 1057161216))), xF, xF] ++ au [0] ++ ai [0, 0, 0] ++ au [0] ++ ai [0, 0, 0] ++ au [0] ++ ai [1, 0] ++ au [21, 1, 1])) 195 373)
noncomputable def o298 : AObj := (oC (cs (ai [3] ++ [(xJ 2)] ++ ai [0] ++ [xF] ++ ai [0] ++ au [1] ++ ai [0])) 246 245)
noncomputable def t299 : BT AObj := .n (.n .e o297 .e) o298 .e
noncomputable def o300 : AObj := (oC (cs ([(xQ 316), (xQ 317), (xQ 327), (xQ 328)])) 405 117)
noncomputable def t301 : BT AObj := .n t296 o300 t299
noncomputable def o302 : AObj := (oC (cs (ai [1, 0, 0])) 155 53)
noncomputable def t303 : BT AObj := .n t292 o302 t301
noncomputable def o304 : AObj := (oC (cs (ai [1, 0, 0])) 155 21)
noncomputable def t305 : BT AObj := .n t282 o304 t303
noncomputable def o306 : AObj := (oM (cs (ai [3] ++ [(xJ 2)] ++ ai [0] ++ [xF] ++ ai [0] ++ au [1] ++ ai [0])) 246 18 7 1 0 269)
noncomputable def o307 : AObj := (oC (cs (ai [0] ++ au [1])) 63 397)
noncomputable def o308 : AObj := (oC (cs ([(xQ 316), (xQ 317), (xQ 318), (xQ 319)])) 405 141)
noncomputable def t309 : BT AObj := .n (.n .e o306 .e) o308 (.n .e o307 .e)
noncomputable def o310 : AObj := (oC (cs (ai [1, 0, 0])) 155 333)
noncomputable def o311 : AObj := (oC (cs (ai [4] ++ au [0] ++ ai [1, 0, 0, 14] ++ [xF, xF, xT] ++ ai [0, 5] ++ [(xS []), .nilSlice] ++ ai [0, 0, 0])) 103 461)
noncomputable def o312 : AObj := (oC (cs (ai [1] ++ au [0] ++ ai [1, 0, 0, 2] ++ [xF, xF, xF] ++ ai [0, 0] ++ [(xS []), .nilSlice] ++ ai [0, 0, 0])) 103 205)
noncomputable def t313 : BT AObj := .n (.n .e o310 .e) o312 (.n .e o311 .e)
noncomputable def o314 : AObj := (oM (cs (ai [0])) 3 10 1 1 0 77)
noncomputable def t315 : BT AObj := .n t309 o314 t313
noncomputable def o316 : AObj := (oC (cs (ai [0, 0] ++ [(xS [])] ++ ai [0, 0] ++ [(.int .u32 (.lit (.ofNat 0))), xF, xF] ++ au [0] ++ ai [0, 0, 0] ++ au [0] ++ ai [0, 0, 0] ++ au [0] ++ ai [0, 0] ++ au [0, 0, 0])) 195 429)
noncomputable def o317 : AObj := (.map [((xI 1), (xL 174 0 3 3), 0), ((xI 2), (xL 175 0 1 1), 1), ((xI 3), (xL 176 0 2 2), 2), ((xI 4), (xL 177 0 1 1), 3), ((xI 5), (xL 178 0 2 2), 4), ((xI 6), (xL 179 0 1 1), 5), ((xI 7), (xL 180 0 2 2), 6), ((xI 8), (xL 181 0 2 2), 7), ((xI 9), (xL 182 0 3 3), 8), ((xI 10), (xL 183 0 1 1), 9), ((xI 11), (xL 184 0 2 2), 10), ((xI 12), (xL 185 0 2 2), 11), ((xI 13), (xL 186 0 2 2), 12), ((xI 14), (xL 187 0 1 1), 13), ((xI 15), (xL 188 0 1 1), 14), ((xI 16), (xL 189 0 2 2), 15), ((xI 17), (xL 190 0 2 2), 16), ((xI 18), (xL 191 0 1 1), 17)] 18)
noncomputable def t318 : BT AObj := .n (.n .e o19 .e) o317 (.n .e o316 .e)
noncomputable def o319 : AObj := (oC (cs (au [1, 0])) 210 365)
noncomputable def o320 : AObj := (oC (cs (ai [1, 0, 0])) 155 237)
noncomputable def t321 : BT AObj := .n (.n .e o319 .e) o320 .e
noncomputable def o322 : AObj := (oC (cs ([(xQ 318), (xQ 319), (xQ 322), (xQ 323)])) 405 109)
noncomputable def t323 : BT AObj := .n t318 o322 t321
noncomputable def o324 : AObj := (oC (cs ([(xP 44 0), (xP 42 0)])) 197 45)
noncomputable def t325 : BT AObj := .n t315 o324 t323
noncomputable def o326 : AObj := (oC (cs (ai [0] ++ au [1])) 63 285)
noncomputable def o327 : AObj := (oC (cs (ai [0] ++ au [0])) 63 413)
noncomputable def o328 : AObj := (oC (cs (ay [253, 255, 255, 255])) 5 157)
noncomputable def t329 : BT AObj := .n (.n .e o326 .e) o328 (.n .e o327 .e)
noncomputable def o330 : AObj := (oC (cs (ai [5, 4] ++ [(xS [95, 115, 101, 115])] ++ ai [1, 0] ++ [(.int .u32 (.lit (.ofNat 1057161216))), xF, xF] ++ au [0] ++ ai [0, 0, 0] ++ au [0] ++ ai [0, 0, 0] ++ au [0] ++ ai [1, 0] ++ au [21, 1, 1])) 195 349)
noncomputable def o331 : AObj := (oC (cs (ai [2] ++ au [0] ++ ai [1, 0, 0, 3] ++ [xF, xF, xF] ++ ai [0, 0] ++ [(xS []), .nilSlice] ++ ai [0, 0, 0])) 103 221)
noncomputable def t332 : BT AObj := .n (.n .e o330 .e) o331 .e
noncomputable def o333 : AObj := (oC (cs (ai [1] ++ [xF, xF, xF] ++ ai [0, 0] ++ [(xS [])])) 47 93)
noncomputable def t334 : BT AObj := .n t329 o333 t332
noncomputable def o335 : AObj := (oC (cs (ai [3] ++ [(xJ 2)] ++ ai [0] ++ [xF] ++ ai [0] ++ au [1] ++ ai [0])) 246 317)
noncomputable def o336 : AObj := (oC (cs ([(xQ 318), (xQ 319), (xQ 333), (xQ 334)])) 405 189)
noncomputable def t337 : BT AObj := .n (.n .e o335 .e) o336 t184
noncomputable def o338 : AObj := (oC (cs (ai [0] ++ au [1])) 63 381)
noncomputable def o339 : AObj := (oC (cs (ai [3] ++ [(xJ 2)] ++ ai [0])) 444 253)
noncomputable def t340 : BT AObj := .n (.n .e o338 .e) o339 .e
noncomputable def o341 : AObj := (oC (cs ([(xQ 335), (xQ 317)])) 405 125)
noncomputable def t342 : BT AObj := .n t337 o341 t340
noncomputable def o343 : AObj := (oC (cs (ai [1, 0, 0])) 155 61)
noncomputable def t344 : BT AObj := .n t334 o343 t342
noncomputable def o345 : AObj := (oC (cs (ai [1, 0, 0])) 155 29)
noncomputable def t346 : BT AObj := .n t325 o345 t344
noncomputable def o347 : AObj := (oM (cs (ay [17, 253, 255, 255, 255, 1])) 5 5 1 6 0 11)
noncomputable def t348 : BT AObj := .n t305 o347 t346
noncomputable def o349 : AObj := (oC (cs (ay [255])) 5 5)
noncomputable def t350 : BT AObj := .n t263 o349 t348
noncomputable def t351 : BT AObj := .n t178 ((oC (cs (ay [17])) 5 1)) t350
noncomputable def o352 : AObj := (oC (cs (ai [0, 0] ++ [(xS [])] ++ ai [0, 0] ++ [(.int .u32 (.lit (.ofNat 0))), xF, xF] ++ au [0] ++ ai [0, 0, 0] ++ au [0] ++ ai [0, 0, 0] ++ au [0] ++ ai [0, 0] ++ au [0, 0, 0])) 195 256)
noncomputable def o353 : AObj := (oC (cs (ai [0] ++ au [1])) 63 384)
noncomputable def o354 : AObj := (oC (cs (ai [17] ++ [(xJ 2)] ++ ai [0, 0, 0] ++ [(xS []), (xS []), (.int .u32 (.lit (.ofNat 0)))] ++ ai [0, 0] ++ au [0] ++ ai [0] ++ [xT])) 43 128)
noncomputable def t355 : BT AObj := .n (.n .e o352 .e) o354 (.n .e o353 .e)
noncomputable def o356 : AObj := (oC (cs (ai [1, 0, 0])) 155 320)
noncomputable def o357 : AObj := (oC (cs ([.nilSlice])) 60 448)
noncomputable def o358 : AObj := (oC (cs ([(xQ 335), (xQ 317)])) 405 192)
noncomputable def t359 : BT AObj := .n (.n .e o356 .e) o358 (.n .e o357 .e)
noncomputable def o360 : AObj := (oC (cs (ai [2, 0])) 220 64)
noncomputable def t361 : BT AObj := .n t355 o360 t359
noncomputable def o362 : AObj := (oC (cs (ai [11] ++ [xF, xF, xF] ++ ai [0, 0] ++ [(xS [])])) 47 288)
noncomputable def o363 : AObj := (oC (cs (ai [0, 0] ++ [(xS [])] ++ ai [0, 0] ++ [(.int .u32 (.lit (.ofNat 0))), xF, xF] ++ au [0] ++ ai [0, 0, 0] ++ au [0] ++ ai [0, 0, 0] ++ au [0] ++ ai [0, 0] ++ au [0, 0, 0])) 195 416)
noncomputable def o364 : AObj := (oC (cs ([(xQ 336), (xQ 337)])) 405 160)
noncomputable def t365 : BT AObj := .n (.n .e o362 .e) o364 (.n .e o363 .e)
noncomputable def o366 : AObj := (oC (cs (ai [1, 0, 0])) 155 352)
noncomputable def o367 : AObj := (oC (cs ([(xP 89 0)])) 31 224)
noncomputable def t368 : BT AObj := .n (.n .e o366 .e) o367 .e
noncomputable def o369 : AObj := (oC (cs (ai [17] ++ [(xJ 2)] ++ ai [0, 0, 0] ++ [(xS []), (xS []), (.int .u32 (.lit (.ofNat 0)))] ++ ai [0, 0] ++ au [0] ++ ai [0] ++ [xT])) 43 96)
noncomputable def t370 : BT AObj := .n t365 o369 t368
noncomputable def o371 : AObj := (oC (cs (ai [2, 0])) 220 32)
noncomputable def t372 : BT AObj := .n t361 o371 t370
noncomputable def o373 : AObj := (oC (cs (ai [2] ++ au [0] ++ ai [1, 0, 0, 3] ++ [xF, xF, xF] ++ ai [0, 0] ++ [(xS []), .nilSlice] ++ ai [0, 0, 0])) 103 272)
noncomputable def o374 : AObj := (oC (cs (ai [0] ++ au [1])) 63 400)
noncomputable def o375 : AObj := (oC (cs ([(xQ 316), (xQ 317), (xQ 327), (xQ 328)])) 405 144)
noncomputable def t376 : BT AObj := .n (.n .e o373 .e) o375 (.n .e o374 .e)
noncomputable def o377 : AObj := (oC (cs (ai [0] ++ au [0])) 63 336)
noncomputable def o378 : AObj := (oC (cs (ai [5] ++ au [0] ++ ai [1, 0] ++ [(xJ 0)] ++ ai [0] ++ [xF, xF, xF] ++ ai [0, 0] ++ [(xS []), .nilSlice] ++ ai [0, 0, 0])) 103 464)
noncomputable def o379 : AObj := (oC (cs (ai [0])) 23 208)
noncomputable def t380 : BT AObj := .n (.n .e o377 .e) o379 (.n .e o378 .e)
noncomputable def o381 : AObj := (oC (cs (ai [0] ++ au [0] ++ ai [1, 0, 0, 1] ++ [xF, xF, xF] ++ ai [0, 0] ++ [(xS []), .nilSlice] ++ ai [0, 0, 0])) 103 80)
noncomputable def t382 : BT AObj := .n t376 o381 t380
noncomputable def o383 : AObj := (oC (cs (ai [3] ++ [(xJ 2)] ++ ai [0] ++ [xF] ++ ai [0] ++ au [1] ++ ai [0])) 246 304)
noncomputable def o384 : AObj := (oC (cs ([(xP 44 0)])) 191 432)
noncomputable def o385 : AObj := (oC (cs ([(xQ 318), (xQ 319), (xQ 322), (xQ 323)])) 405 176)
noncomputable def t386 : BT AObj := .n (.n .e o383 .e) o385 (.n .e o384 .e)
noncomputable def o387 : AObj := (oC (cs (au [1, 21])) 210 368)
noncomputable def o388 : AObj := (oC (cs (ai [2, 0])) 220 240)
noncomputable def t389 : BT AObj := .n (.n .e o387 .e) o388 .e
noncomputable def o390 : AObj := (oC (cs ([(xQ 316), (xQ 317)])) 405 112)
noncomputable def t391 : BT AObj := .n t386 o390 t389
noncomputable def o392 : AObj := (oC (cs (au [1] ++ [xF] ++ ai [0] ++ ay [0, 0, 0, 0, 0, 0, 0, 0, 0, 0, 0, 0, 0, 0, 0, 0] ++ ai [0] ++ au [0, 1] ++ [xF] ++ ai [0] ++ ay [0, 0, 0, 0, 0, 0, 0, 0, 0, 0, 0, 0, 0, 0, 0, 0] ++ ai [0] ++ au [0, 1] ++ [xF] ++ ai [0] ++ ay [0, 0, 0, 0, 0, 0, 0, 0, 0, 0, 0, 0, 0, 0, 0, 0] ++ ai [0] ++ au [0, 1] ++ [xF] ++ ai [0] ++ ay [0, 0, 0, 0, 0, 0, 0, 0, 0, 0, 0, 0, 0, 0, 0, 0] ++ ai [0] ++ au [0, 1] ++ [xF] ++ ai [0] ++ ay [0, 0, 0, 0, 0, 0, 0, 0, 0, 0, 0, 0, 0, 0, 0, 0] ++ ai [0] ++ au [0, 1] ++ [xF] ++ ai [0] ++ ay [0, 0, 0, 0, 0, 0, 0, 0, 0, 0, 0, 0, 0, 0, 0, 0] ++ ai [0] ++ au [0, 1] ++ [xF] ++ ai [0] ++ ay [0, 0, 0, 0, 0, 0, 0, 0, 0, 0, 0, 0, 0, 0, 0, 0] ++ ai [0] ++ au [0, 1] ++ [xF] ++ ai [0] ++ ay [0, 0, 0, 0, 0, 0, 0, 0, 0, 0, 0, 0, 0, 0, 0, 0] ++ ai [0] ++ au [0])) 207 48)
noncomputable def t393 : BT AObj := .n t382 o392 t391
noncomputable def o394 : AObj := (oC (cs (ai [0] ++ au [4] ++ [(xS [17, 253, 255, 255, 255, 1])])) 115 16)
noncomputable def t395 : BT AObj := .n t372 o394 t393
noncomputable def o396 : AObj := (.map [((xI 1), (.func 229 ([(xP 89 0)]) ([])), 0), ((xI 3), (.func 230 ([(xP 89 0)]) ([])), 1), ((xI 4), (.func 231 ([(xP 89 0)]) ([])), 2), ((xI 5), (.func 232 ([(xP 89 0)]) ([])), 3), ((xI 6), (.func 233 ([(xP 89 0)]) ([])), 4), ((xI 7), (.func 234 ([(xP 89 0)]) ([])), 5), ((xI 8), (.func 235 ([(xP 89 0)]) ([])), 6), ((xI 9), (.func 236 ([(xP 89 0)]) ([])), 7), ((xI 10), (.func 237 ([(xP 89 0)]) ([])), 8), ((xI 11), (.func 238 ([(xP 89 0)]) ([])), 9), ((xI 12), (.func 239 ([(xP 89 0)]) ([])), 10), ((xI 13), (.func 240 ([(xP 89 0)]) ([])), 11), ((xI 14), (.func 241 ([(xP 89 0)]) ([])), 12), ((xI 15), (.func 242 ([(xP 89 0)]) ([])), 13), ((xI 16), (.func 243 ([(xP 89 0)]) ([])), 14), ((xI 17), (.func 244 ([(xP 89 0)]) ([])), 15), ((xI 18), (.func 245 ([(xP 89 0)]) ([])), 16)] 17)
noncomputable def o397 : AObj := (oC (cs (ai [0] ++ au [0])) 63 392)
noncomputable def o398 : AObj := (oC (cs ([(xQ 318), (xQ 319), (xQ 322), (xQ 323)])) 405 136)
noncomputable def t399 : BT AObj := .n (.n .e o396 .e) o398 (.n .e o397 .e)
noncomputable def o400 : AObj := (oC (cs (ai [0, 5] ++ [(xS [])])) 45 328)
noncomputable def o401 : AObj := (.mapIter (some 70) 0 [] 0)
noncomputable def o402 : AObj := (oC (cs (ai [0] ++ au [0] ++ ai [1, 0, 0, 1] ++ [xF, xF, xF] ++ ai [0, 0] ++ [(xS []), .nilSlice] ++ ai [0, 0, 0])) 103 200)
noncomputable def t403 : BT AObj := .n (.n .e o400 .e) o402 (.n .e o401 .e)
noncomputable def t404 : BT AObj := .n t399 ((oC [] 115 72)) t403
noncomputable def o405 : AObj := (oC (cs ([(xP 40 0)])) 22 424)
noncomputable def o406 : AObj := (oC (cs (ai [17] ++ [(xJ 2)] ++ ai [0, 0, 0] ++ [(xS []), (xS []), (.int .u32 (.lit (.ofNat 0)))] ++ ai [0, 0] ++ au [0] ++ ai [0] ++ [xT, (xP 167 0)])) 396 168)
noncomputable def t407 : BT AObj := .n (.n .e o67 .e) o406 (.n .e o405 .e)
noncomputable def o408 : AObj := (oC (cs (au [0, 0, 1, 21, 9, 99])) 661 360)
noncomputable def o409 : AObj := (oC (cs (ai [3] ++ [(xJ 2)] ++ ai [0] ++ [xF] ++ ai [0] ++ au [1] ++ ai [0])) 246 232)
noncomputable def t410 : BT AObj := .n (.n .e o408 .e) o409 .e
noncomputable def o411 : AObj := (oC (cs ([(xQ 320), (xQ 321)])) 405 104)
noncomputable def t412 : BT AObj := .n t407 o411 t410
noncomputable def o413 : AObj := (oC (cs ([(xV 38 0 1 7 0)] ++ ai [4, 8, 8] ++ au [9, 99, 0] ++ [(xP 45 0), (xP 47 0), (xP 49 0), (xP 51 0), (xP 57 0), (xP 68 0), (xP 71 0), (xP 39 0)])) 133 40)
noncomputable def t414 : BT AObj := .n t404 o413 t412
noncomputable def o415 : AObj := (oC (cs (ai [3] ++ au [0] ++ ai [1, 0, 0, 11] ++ [xF, xF, xF] ++ ai [0, 0] ++ [(xS []), .nilSlice] ++ ai [0, 0, 0])) 103 280)
noncomputable def o416 : AObj := (oC (cs (ai [0])) 3 408)
noncomputable def o417 : AObj := (oC (cs (ai [17] ++ [(xJ 2)] ++ ai [0, 0, 0] ++ [(xS []), (xS []), (.int .u32 (.lit (.ofNat 0)))] ++ ai [0, 0] ++ au [0] ++ ai [0] ++ [xT, (xL 163 0 6 6), xF])) 408 152)
noncomputable def t418 : BT AObj := .n (.n .e o415 .e) o417 (.n .e o416 .e)
noncomputable def o419 : AObj := (oC (cs (ai [0] ++ au [0])) 63 344)
noncomputable def o420 : AObj := (oM (cs (ai [0] ++ au [0] ++ ai [1, 0, 0, 1] ++ [xF, xF, xF] ++ ai [0, 0] ++ [(xS []), .nilSlice] ++ ai [0, 0, 0, 1] ++ au [0] ++ ai [1, 0, 0, 2] ++ [xF, xF, xF] ++ ai [0, 0] ++ [(xS []), .nilSlice] ++ ai [0, 0, 0])) 103 16 16 2 0 198)
noncomputable def t421 : BT AObj := .n (.n .e o419 .e) o420 .e
noncomputable def o422 : AObj := (oM (cs (ay [17, 253, 255, 255, 255, 1])) 5 12 1 6 0 88)
noncomputable def t423 : BT AObj := .n t418 o422 t421
noncomputable def o424 : AObj := (oC (cs (ai [3] ++ [(xJ 2)] ++ ai [0] ++ [xF] ++ ai [0] ++ au [1] ++ ai [0])) 246 312)
noncomputable def o425 : AObj := (oC (cs ([.nilSlice])) 64 440)
noncomputable def o426 : AObj := (oC (cs ([(xQ 316), (xQ 317), (xQ 327), (xQ 328)])) 405 184)
noncomputable def t427 : BT AObj := .n (.n .e o424 .e) o426 (.n .e o425 .e)
noncomputable def o428 : AObj := (oC (cs (ai [1, 0, 0])) 155 376)
noncomputable def o429 : AObj := (oC (cs (ai [3] ++ [(xJ 2)] ++ ai [0] ++ [xF] ++ ai [0] ++ au [1] ++ ai [0])) 246 248)
noncomputable def t430 : BT AObj := .n (.n .e o428 .e) o429 .e
noncomputable def o431 : AObj := (oC (cs ([(xQ 316), (xQ 317)])) 405 120)
noncomputable def t432 : BT AObj := .n t427 o431 t430
noncomputable def o433 : AObj := (.map [((xA (ai [0, 0])), (xA (ai [0] ++ au [1])), 0), ((xA (ai [1, 0])), (xA (ai [0] ++ au [1])), 1), ((xA (ai [2, 0])), (xA (ai [5] ++ au [2])), 2), ((xA (ai [3, 1])), (xA (ai [0] ++ au [1])), 3)] 4)
noncomputable def t434 : BT AObj := .n t423 o433 t432
noncomputable def o435 : AObj := (.map [((xA (ai [0, 0])), (xA (ai [0] ++ au [1])), 0), ((xA (ai [1, 0])), (xA (ai [0] ++ au [1])), 1), ((xA (ai [2, 0])), (xA (ai [0] ++ au [1])), 2), ((xA (ai [3, 1])), (xA (ai [0] ++ au [1])), 3)] 4)
noncomputable def t436 : BT AObj := .n t414 o435 t434
noncomputable def o437 : AObj := (oM (cs (ay [253, 255, 255])) 5 2 1 3 0 4)
noncomputable def t438 : BT AObj := .n t395 o437 t436
noncomputable def o439 : AObj := (oC (cs (ai [0] ++ au [0])) 63 260)
noncomputable def o440 : AObj := (oC (cs ([(xP 44 0)])) 191 388)
noncomputable def o441 : AObj := (oC (cs ([(xQ 322), (xQ 323)])) 405 132)
noncomputable def t442 : BT AObj := .n (.n .e o439 .e) o441 (.n .e o440 .e)
noncomputable def o443 : AObj := (oC (cs (ai [0] ++ au [1])) 218 324)
noncomputable def o444 : AObj := (oC (cs ([(.map 70)])) 226 452)
noncomputable def o445 : AObj := (oC (cs (ai [1] ++ [xF, xF, xF] ++ ai [0, 0] ++ [(xS [])])) 47 196)
noncomputable def t446 : BT AObj := .n (.n .e o443 .e) o445 (.n .e o444 .e)
noncomputable def o447 : AObj := (oC (cs ([(xL 67 0 1 1), .nilSlice])) 224 68)
noncomputable def t448 : BT AObj := .n t442 o447 t446
noncomputable def o449 : AObj := (oC (cs (ai [3] ++ au [0] ++ ai [1, 0, 0, 11] ++ [xF, xF, xF] ++ ai [0, 0] ++ [(xS []), .nilSlice] ++ ai [0, 0, 0])) 103 292)
noncomputable def o450 : AObj := (oC (cs (ai [0] ++ au [0])) 63 420)
noncomputable def o451 : AObj := (oC (cs (ai [17] ++ [(xJ 2)] ++ ai [0, 0, 0] ++ [(xS []), (xS []), (.int .u32 (.lit (.ofNat 0)))] ++ ai [0, 0] ++ au [0] ++ ai [0] ++ [xT])) 43 164)
noncomputable def t452 : BT AObj := .n (.n .e o449 .e) o451 (.n .e o450 .e)
noncomputable def o453 : AObj := (oC (cs ([(xS [])] ++ ai [0, 0] ++ [xF, xF, xF, (xS [117, 115, 101, 114])] ++ ai [1, 128] ++ [xT, xT, xF, (xS [108, 111, 103, 111, 110])] ++ ai [1, 64] ++ [xF, xT, xF, (xS [98, 105, 103])] ++ ai [1, 256] ++ [xT, xT, xF, (xS [107, 101, 121, 114, 105, 110, 103])] ++ ai [0, 0] ++ [xT, xF, xT])) 432 356)
noncomputable def o454 : AObj := (oC (cs (ai [3] ++ [(xJ 2)] ++ ai [0] ++ [xF] ++ ai [0] ++ au [1] ++ ai [0])) 246 228)
noncomputable def t455 : BT AObj := .n (.n .e o453 .e) o454 .e
noncomputable def o456 : AObj := (oC (cs ([(xL 99 5 0 0)] ++ ai [1])) 501 100)
noncomputable def t457 : BT AObj := .n t452 o456 t455
noncomputable def o458 : AObj := (oC (cs ([(xV 38 0 1 7 0)] ++ ai [4, 8, 8] ++ au [9, 99])) 29 36)
noncomputable def t459 : BT AObj := .n t448 o458 t457
noncomputable def o460 : AObj := (oC (cs (ai [2] ++ au [0] ++ ai [1, 0, 0, 3] ++ [xF, xF, xF] ++ ai [0, 0] ++ [(xS []), .nilSlice] ++ ai [0, 0, 0])) 103 276)
noncomputable def o461 : AObj := (oC (cs (ai [1, 0, 0])) 155 404)
noncomputable def o462 : AObj := (oC (cs ([(xQ 316), (xQ 317)])) 405 148)
noncomputable def t463 : BT AObj := .n (.n .e o460 .e) o462 (.n .e o461 .e)
noncomputable def o464 : AObj := (oC (cs (ai [0] ++ au [0])) 63 340)
noncomputable def o465 : AObj := (oM (cs (ai [0] ++ au [0] ++ ai [1, 0, 0, 1] ++ [xF, xF, xF] ++ ai [0, 0] ++ [(xS []), .nilSlice] ++ ai [0, 0, 0, 1] ++ au [0] ++ ai [1, 0, 0, 2] ++ [xF, xF, xF] ++ ai [0, 0] ++ [(xS []), .nilSlice] ++ ai [0, 0, 0, 2] ++ au [0] ++ ai [1, 0, 0, 3] ++ [xF, xF, xF] ++ ai [0, 0] ++ [(xS []), .nilSlice] ++ ai [0, 0, 0, 3] ++ au [0] ++ ai [1, 0, 0, 11] ++ [xF, xF, xF] ++ ai [0, 0] ++ [(xS []), .nilSlice] ++ ai [0, 0, 0, 4] ++ au [0] ++ ai [1, 0, 0, 14] ++ [xF, xF, xT] ++ ai [0, 5] ++ [(xS []), .nilSlice] ++ ai [0, 0, 0, 5] ++ au [0] ++ ai [1, 0] ++ [(xJ 0)] ++ ai [0] ++ [xF, xF, xF] ++ ai [0, 0] ++ [(xS []), .nilSlice] ++ ai [0, 0, 0])) 103 25 16 6 0 198)
noncomputable def o466 : AObj := (oC (cs ([(xJ 2)] ++ ai [0, 0] ++ [(xS []), xF, xT])) 241 212)
noncomputable def t467 : BT AObj := .n (.n .e o464 .e) o466 (.n .e o465 .e)
noncomputable def o468 : AObj := (oM (cs (ay [17, 253, 255, 255, 255, 1])) 5 11 1 6 0 84)
noncomputable def t469 : BT AObj := .n t463 o468 t467
noncomputable def o470 : AObj := (oC (cs (ai [0] ++ au [0])) 63 308)
noncomputable def o471 : AObj := (oC (cs (ai [0] ++ au [0])) 63 436)
noncomputable def o472 : AObj := (oC (cs ([(xQ 316), (xQ 317), (xQ 318), (xQ 319)])) 405 180)
noncomputable def t473 : BT AObj := .n (.n .e o470 .e) o472 (.n .e o471 .e)
noncomputable def o474 : AObj := (oC (cs (ai [0] ++ au [0])) 63 372)
noncomputable def o475 : AObj := (oC (cs (ai [3] ++ [(xJ 2)] ++ ai [0] ++ [xF] ++ ai [0] ++ au [1] ++ ai [0])) 246 244)
noncomputable def t476 : BT AObj := .n (.n .e o474 .e) o475 .e
noncomputable def o477 : AObj := (oC (cs ([(xQ 318), (xQ 319)])) 405 116)
noncomputable def t478 : BT AObj := .n t473 o477 t476
noncomputable def o479 : AObj := (oC (cs (ai [1, 0, 0])) 155 52)
noncomputable def t480 : BT AObj := .n t469 o479 t478
noncomputable def o481 : AObj := (oC (cs (ai [1, 0, 0])) 155 20)
noncomputable def t482 : BT AObj := .n t459 o481 t480
noncomputable def t483 : BT AObj := .n .e ((oC [] 246 268)) .e
noncomputable def o484 : AObj := (oC (cs (ai [0] ++ au [0])) 63 396)
noncomputable def o485 : AObj := (oC (cs ([(xQ 316), (xQ 317), (xQ 318), (xQ 319)])) 405 140)
noncomputable def t486 : BT AObj := .n t483 o485 (.n .e o484 .e)
noncomputable def o487 : AObj := (oC (cs (ai [1, 0, 0])) 155 332)
noncomputable def o488 : AObj := (oC (cs (ai [4] ++ au [0] ++ ai [1, 0, 0, 14] ++ [xF, xF, xT] ++ ai [0, 5] ++ [(xS []), .nilSlice] ++ ai [0, 0, 0])) 103 460)
noncomputable def t489 : BT AObj := .n (.n .e o487 .e) o67 (.n .e o488 .e)
noncomputable def t490 : BT AObj := .n t486 ((oC (cs (ai [0])) 3 76)) t489
noncomputable def o491 : AObj := (oC (cs (ai [0])) 23 300)
noncomputable def o492 : AObj := (oC (cs (ai [0] ++ au [0])) 63 428)
noncomputable def o493 : AObj := (oC (cs ([(xQ 322), (xQ 323)])) 405 172)
noncomputable def t494 : BT AObj := .n (.n .e o491 .e) o493 (.n .e o492 .e)
noncomputable def o495 : AObj := (oC (cs (au [1, 0])) 210 364)
noncomputable def o496 : AObj := (oC (cs (ai [2, 0])) 220 236)
noncomputable def t497 : BT AObj := .n (.n .e o495 .e) o496 .e
noncomputable def o498 : AObj := (oC (cs ([(xQ 322), (xQ 323)])) 405 108)
noncomputable def t499 : BT AObj := .n t494 o498 t497
noncomputable def o500 : AObj := (oC (cs ([(xL 43 0 4 4), .nilSlice] ++ ai [1])) 302 44)
noncomputable def t501 : BT AObj := .n t490 o500 t499
noncomputable def o502 : AObj := (oC (cs (ai [0] ++ au [0])) 63 412)
noncomputable def o503 : AObj := (oC (cs ([(xQ 335), (xQ 317)])) 405 156)
noncomputable def t504 : BT AObj := .n (.n .e o19 .e) o503 (.n .e o502 .e)
noncomputable def o505 : AObj := (oC (cs ([(xP 40 0)] ++ ai [0, 13, 0, 0, 0, 4] ++ [(xS [95, 115, 101, 115]), (.int .u32 (.lit (.ofNat 0)))] ++ ai [0, 0] ++ au [0] ++ ai [0] ++ [(xJ 2)] ++ au [4] ++ ai [0] ++ au [1] ++ [.nilSlice] ++ ai [0, 0, 0, 0] ++ au [0] ++ [.nilSlice, .nilSlice] ++ ai [0] ++ au [0] ++ ai [0, 0, 0, 0] ++ au [0] ++ [.nilSlice, .nilSlice] ++ ai [0] ++ au [0] ++ ai [0] ++ [.nilSlice, .nilSlice, .nilSlice])) 371 348)
noncomputable def o506 : AObj := (oC (cs (ai [1, 0])) 107 220)
noncomputable def t507 : BT AObj := .n (.n .e o505 .e) o506 .e
noncomputable def o508 : AObj := (oC (cs ([(xP 89 0)])) 31 92)
noncomputable def t509 : BT AObj := .n t504 o508 t507
noncomputable def o510 : AObj := (oC (cs (ai [3] ++ [(xJ 2)] ++ ai [0] ++ [xF] ++ ai [0] ++ au [1] ++ ai [0])) 246 316)
noncomputable def o511 : AObj := (oC (cs ([.nilSlice])) 64 444)
noncomputable def o512 : AObj := (oC (cs ([(xQ 316), (xQ 317)])) 405 188)
noncomputable def t513 : BT AObj := .n (.n .e o510 .e) o512 (.n .e o511 .e)
noncomputable def o514 : AObj := (oC (cs (ai [0] ++ au [1])) 218 380)
noncomputable def o515 : AObj := (oC (cs (ai [3] ++ [(xJ 2)] ++ ai [0] ++ [xF] ++ ai [0] ++ au [1] ++ ai [0])) 246 252)
noncomputable def t516 : BT AObj := .n (.n .e o514 .e) o515 .e
noncomputable def o517 : AObj := (oC (cs ([(xQ 338), (xQ 339)])) 405 124)
noncomputable def t518 : BT AObj := .n t513 o517 t516
noncomputable def o519 : AObj := (oC (cs (ai [0, 0])) 220 60)
noncomputable def t520 : BT AObj := .n t509 o519 t518
noncomputable def o521 : AObj := (oC (cs (ai [0, 0])) 220 28)
noncomputable def t522 : BT AObj := .n t501 o521 t520
noncomputable def t523 : BT AObj := .n t482 ((oC (cs (ay [1])) 5 12)) t522
noncomputable def o524 : AObj := (oM (cs (ay [253])) 5 0 1 1 0 4)
noncomputable def t525 : BT AObj := .n t438 o524 t523
noncomputable def o526 : AObj := (oC (cs (ai [0] ++ au [0])) 63 258)
noncomputable def o527 : AObj := (oC (cs (ai [0] ++ au [1])) 63 386)
noncomputable def o528 : AObj := (oC (cs ([(xQ 318), (xQ 319)])) 405 130)
noncomputable def t529 : BT AObj := .n (.n .e o526 .e) o528 (.n .e o527 .e)
noncomputable def o530 : AObj := (oC (cs (ai [2, 0])) 220 322)
noncomputable def o531 : AObj := (loopAt .exhausted none ([.nilSlice, (.func 399 ([]) ([(xP 447 0)])), (xP 448 0)] ++ us 1 ++ [.nilSlice] ++ us 1 ++ [(.func 399 ([]) ([(xP 447 0)]))] ++ us 6) 449 (sub (Tryz.f445.body.getD .skip) [true, false, true, false]))
noncomputable def o532 : AObj := (oC (cs (ai [17] ++ [(xJ 2)] ++ ai [0, 0, 0] ++ [(xS []), (xS []), (.int .u32 (.lit (.ofNat 0)))] ++ ai [0, 0] ++ au [0] ++ ai [0] ++ [xT])) 43 194)
noncomputable def t533 : BT AObj := .n (.n .e o530 .e) o532 (.n .e o531 .e)
noncomputable def o534 : AObj := (oC (cs (ai [3, 1])) 220 66)
noncomputable def t535 : BT AObj := .n t529 o534 t533
noncomputable def o536 : AObj := (oM (cs (ai [0] ++ au [0] ++ ai [1, 0, 0, 1] ++ [xF, xF, xF] ++ ai [0, 0] ++ [(xS []), .nilSlice] ++ ai [0, 0, 0, 1] ++ au [0] ++ ai [1, 0, 0, 2] ++ [xF, xF, xF] ++ ai [0, 0] ++ [(xS []), .nilSlice] ++ ai [0, 0, 0, 2] ++ au [0] ++ ai [1, 0, 0, 3] ++ [xF, xF, xF] ++ ai [0, 0] ++ [(xS []), .nilSlice] ++ ai [0, 0, 0, 3] ++ au [0] ++ ai [1, 0, 0, 11] ++ [xF, xF, xF] ++ ai [0, 0] ++ [(xS []), .nilSlice] ++ ai [0, 0, 0])) 103 20 16 4 0 198)
noncomputable def o537 : AObj := (oC (cs (ai [0] ++ au [0])) 63 418)
noncomputable def o538 : AObj := (oC (cs ([(xL 159 0 5 5), (xL 161 0 1 1)])) 32 162)
noncomputable def t539 : BT AObj := .n (.n .e o536 .e) o538 (.n .e o537 .e)
noncomputable def o540 : AObj := (oC (cs (ai [0] ++ au [0])) 63 354)
noncomputable def o541 : AObj := (oC (cs (ai [0])) 23 226)
noncomputable def t542 : BT AObj := .n (.n .e o540 .e) o541 .e
noncomputable def o543 : AObj := (oC (cs ([(xV 88 0 6 12 0)])) 32 98)
noncomputable def t544 : BT AObj := .n t539 o543 t542
noncomputable def o545 : AObj := (oC (cs (ai [3, 1])) 220 34)
noncomputable def t546 : BT AObj := .n t535 o545 t544
noncomputable def o547 : AObj := (oC (cs (ai [2] ++ au [0] ++ ai [1, 0, 0, 3] ++ [xF, xF, xF] ++ ai [0, 0] ++ [(xS []), .nilSlice] ++ ai [0, 0, 0])) 103 274)
noncomputable def o548 : AObj := (oC (cs (ai [1, 0, 0])) 155 402)
noncomputable def o549 : AObj := (oC (cs ([(xQ 316), (xQ 317), (xQ 331), (xQ 332)])) 405 146)
noncomputable def t550 : BT AObj := .n (.n .e o547 .e) o549 (.n .e o548 .e)
noncomputable def o551 : AObj := (oC (cs (ai [0] ++ au [0])) 63 338)
noncomputable def o552 : AObj := (oC (cs (ai [5] ++ au [0] ++ ai [1, 0] ++ [(xJ 0)] ++ ai [0] ++ [xF, xF, xF] ++ ai [0, 0] ++ [(xS []), .nilSlice] ++ ai [0, 0, 0])) 103 466)
noncomputable def o553 : AObj := (oC (cs ([(.map 251), (xV 255 0 1 17 0), xF])) 288 210)
noncomputable def t554 : BT AObj := .n (.n .e o551 .e) o553 (.n .e o552 .e)
noncomputable def o555 : AObj := (oC (cs (ai [0] ++ au [0] ++ ai [1, 0, 0, 1] ++ [xF, xF, xF] ++ ai [0, 0] ++ [(xS []), .nilSlice] ++ ai [0, 0, 0])) 103 82)
noncomputable def t556 : BT AObj := .n t550 o555 t554
noncomputable def o557 : AObj := (oC (cs (ai [0] ++ au [0])) 63 306)
noncomputable def o558 : AObj := (oC (cs (ai [0, 0] ++ [(xS [])] ++ ai [0, 0] ++ [(.int .u32 (.lit (.ofNat 0))), xF, xF] ++ au [0] ++ ai [0, 0, 0] ++ au [0] ++ ai [0, 0, 0] ++ au [0] ++ ai [0, 0] ++ au [0, 0, 0])) 195 434)
noncomputable def o559 : AObj := (oC (cs ([(xQ 316), (xQ 317), (xQ 326), (xQ 325)])) 405 178)
noncomputable def t560 : BT AObj := .n (.n .e o557 .e) o559 (.n .e o558 .e)
noncomputable def o561 : AObj := (oC (cs (au [1, 21])) 210 370)
noncomputable def o562 : AObj := (oC (cs (ai [0] ++ au [1])) 218 242)
noncomputable def t563 : BT AObj := .n (.n .e o561 .e) o562 .e
noncomputable def o564 : AObj := (oC (cs ([(xQ 316), (xQ 317), (xQ 318), (xQ 319)])) 405 114)
noncomputable def t565 : BT AObj := .n t560 o564 t563
noncomputable def o566 : AObj := (oC (cs (au [0, 0, 1, 21, 0, 0, 0, 0, 0, 0, 0, 0, 0, 0, 0, 0, 0, 0, 0, 0, 0, 0, 0, 0, 0, 0, 0, 0, 0, 0, 0, 0])) 210 50)
noncomputable def t567 : BT AObj := .n t556 o566 t565
noncomputable def o568 : AObj := (oC (cs ([(xL 15 0 1 1)] ++ ai [4, 8, 8] ++ au [9, 99])) 29 18)
noncomputable def t569 : BT AObj := .n t546 o568 t567
noncomputable def o570 : AObj := (oC (cs ([(xJ 2)] ++ ai [0, 0] ++ [(xS []), xT, xT])) 241 266)
noncomputable def o571 : AObj := (oC (cs (ai [0, 0] ++ [(xS [])] ++ ai [0, 0] ++ [(.int .u32 (.lit (.ofNat 0))), xF, xF] ++ au [0] ++ ai [0, 0, 0] ++ au [0] ++ ai [0, 0, 0] ++ au [0] ++ ai [0, 0] ++ au [0, 0, 0])) 195 394)
noncomputable def o572 : AObj := (oC (cs ([(xQ 316), (xQ 317), (xQ 326), (xQ 325)])) 405 138)
noncomputable def t573 : BT AObj := .n (.n .e o570 .e) o572 (.n .e o571 .e)
noncomputable def o574 : AObj := (oC (cs ([(xP 40 0)])) 22 330)
noncomputable def o575 : AObj := (oC (cs (ai [4] ++ au [0] ++ ai [1, 0, 0, 14] ++ [xF, xF, xT] ++ ai [0, 5] ++ [(xS []), .nilSlice] ++ ai [0, 0, 0])) 103 458)
noncomputable def o576 : AObj := (oC (cs (ai [1, 0])) 107 202)
noncomputable def t577 : BT AObj := .n (.n .e o574 .e) o576 (.n .e o575 .e)
noncomputable def o578 : AObj := (oC (cs ([(xP 40 0), (xV 73 0 1 9 0), (xL 77 0 0 0), .nilSlice, .nilSlice, .nilSlice, .nilSlice, .nilSlice, .nilSlice, .nilSlice, .nilPtr, .nilPtr, .nilPtr, .nilPtr, .nilPtr, .nilPtr, .nilPtr, .nilPtr] ++ ai [0, 0, 0, 0, 0, 0, 0, 0] ++ [(xV 468 0 6 25 0), (xV 91 0 1 13 0)])) 97 74)
noncomputable def t579 : BT AObj := .n t573 o578 t577
noncomputable def o580 : AObj := (oC (cs ([(xP 89 0)])) 31 298)
noncomputable def o581 : AObj := (oC (cs (ai [0] ++ au [0])) 63 426)
noncomputable def o582 : AObj := (oC (cs ([(xQ 318), (xQ 319)])) 405 170)
noncomputable def t583 : BT AObj := .n (.n .e o580 .e) o582 (.n .e o581 .e)
noncomputable def o584 : AObj := (oC (cs (au [1, 21])) 210 362)
noncomputable def o585 : AObj := (oC (cs (ai [3] ++ [(xJ 2)] ++ ai [0] ++ [xF] ++ ai [0] ++ au [1] ++ ai [0])) 246 234)
noncomputable def t586 : BT AObj := .n (.n .e o584 .e) o585 .e
noncomputable def o587 : AObj := (.map [((xI 1), (xL 107 0 3 3), 0), ((xI 2), (xL 108 0 1 1), 1), ((xI 3), (xL 109 0 2 2), 2), ((xI 4), (xL 110 0 1 1), 3), ((xI 5), (xL 111 0 2 2), 4), ((xI 6), (xL 112 0 1 1), 5), ((xI 7), (xL 113 0 2 2), 6), ((xI 8), (xL 114 0 2 2), 7), ((xI 9), (xL 115 0 3 3), 8), ((xI 10), (xL 116 0 1 1), 9), ((xI 11), (xL 117 0 2 2), 10), ((xI 12), (xL 118 0 2 2), 11), ((xI 13), (xL 119 0 2 2), 12), ((xI 14), (xL 120 0 1 1), 13), ((xI 15), (xL 121 0 1 1), 14), ((xI 16), (xL 122 0 2 2), 15), ((xI 17), (xL 123 0 2 2), 16), ((xI 18), (xL 124 0 1 1), 17)] 18)
noncomputable def t588 : BT AObj := .n t583 o587 t586
noncomputable def o589 : AObj := (oC (cs (ai [4] ++ [(.map 41)])) 299 42)
noncomputable def t590 : BT AObj := .n t579 o589 t588
noncomputable def o591 : AObj := (oC (cs (ai [11] ++ [xF, xF, xF] ++ ai [0, 0] ++ [(xS [])])) 47 282)
noncomputable def o592 : AObj := (oC (cs (ai [0, 0] ++ [(xS [])] ++ ai [0, 0] ++ [(.int .u32 (.lit (.ofNat 0))), xF, xF] ++ au [0] ++ ai [0, 0, 0] ++ au [0] ++ ai [0, 0, 0] ++ au [0] ++ ai [0, 0] ++ au [0, 0, 0])) 195 410)
noncomputable def o593 : AObj := (oC (cs ([.nilSlice, (xL 153 0 1 1)])) 32 154)
noncomputable def t594 : BT AObj := .n (.n .e o591 .e) o593 (.n .e o592 .e)
noncomputable def o595 : AObj := (oC (cs (ai [0] ++ au [0])) 63 346)
noncomputable def o596 : AObj := (oC (cs (ai [1] ++ au [0] ++ ai [1, 0, 0, 2] ++ [xF, xF, xF] ++ ai [0, 0] ++ [(xS []), .nilSlice] ++ ai [0, 0, 0])) 103 218)
noncomputable def t597 : BT AObj := .n (.n .e o595 .e) o596 .e
noncomputable def o598 : AObj := (oC (cs (ai [0, 0, 0] ++ [(xJ 0)] ++ au [0] ++ ai [0, 0] ++ [(xS [])])) 181 90)
noncomputable def t599 : BT AObj := .n t594 o598 t597
noncomputable def o600 : AObj := (oC (cs (ai [3] ++ [(xJ 2)] ++ ai [0] ++ [xF] ++ ai [0] ++ au [1] ++ ai [0])) 246 314)
noncomputable def o601 : AObj := (loopAt .exhausted none ([(xP 40 0), (xA (ai [0, 0, 0, 0, 0] ++ [(xS []), (.int .u32 (.lit (.ofNat 0)))] ++ ai [0, 0] ++ au [0] ++ ai [0, 0] ++ au [0] ++ ai [0] ++ au [0] ++ [.nilSlice] ++ ai [0, 0, 0, 0] ++ au [0] ++ [.nilSlice, .nilSlice] ++ ai [0] ++ au [0] ++ ai [0, 0, 0, 0] ++ au [0] ++ [.nilSlice, .nilSlice] ++ ai [0] ++ au [0] ++ ai [0])), (xP 424 0), (xP 425 0)] ++ ai [0] ++ us 3 ++ [(xP 439 0)] ++ us 2 ++ [(xP 40 0), xF, (xP 40 0), (xP 40 0), (xP 40 7), (xP 45 0), (xP 425 13), (xA (ai [0] ++ au [0]))] ++ ai [5] ++ [(xP 425 15), .nilSlice] ++ ai [0, 0] ++ [xF] ++ us 9 ++ [(xP 425 26), (xA (ai [0, 0, 0] ++ au [0] ++ [.nilSlice, .nilSlice] ++ ai [0] ++ au [0] ++ ai [0])), (xP 425 17), (xA (ai [0, 0, 0] ++ au [0] ++ [.nilSlice, .nilSlice] ++ ai [0] ++ au [0] ++ ai [0])), (xA (ai [0, 0, 0] ++ au [0] ++ [.nilSlice, .nilSlice] ++ ai [0] ++ au [0] ++ ai [0, 0, 0, 0] ++ au [0] ++ [.nilSlice, .nilSlice] ++ ai [0] ++ au [0] ++ ai [0]))] ++ ai [0] ++ [xT, (xA (ai [0, 0, 0] ++ au [0] ++ [.nilSlice, .nilSlice] ++ ai [0] ++ au [0] ++ ai [0])), (xP 439 4), .nilSlice, (.func 400 ([]) ([(xP 440 0)]))] ++ us 9) 441 (sub (Tryz.f213.body.getD .skip) [true, true, true, true, false, true, false, false, true, true, false, false, true, true, false]))
noncomputable def o602 : AObj := (oC (cs ([(xQ 316), (xQ 317), (xQ 331), (xQ 332)])) 405 186)
noncomputable def t603 : BT AObj := .n (.n .e o600 .e) o602 (.n .e o601 .e)
noncomputable def o604 : AObj := (oC (cs (ai [2, 0])) 220 378)
noncomputable def o605 : AObj := (oC (cs (ai [0, 0, 0] ++ [xF] ++ ai [0] ++ au [0] ++ ai [0])) 246 250)
noncomputable def t606 : BT AObj := .n (.n .e o604 .e) o605 .e
noncomputable def o607 : AObj := (oC (cs ([(xQ 318), (xQ 319), (xQ 333), (xQ 334)])) 405 122)
noncomputable def t608 : BT AObj := .n t603 o607 t606
noncomputable def o609 : AObj := (oC (cs (ai [1, 0, 0])) 155 58)
noncomputable def t610 : BT AObj := .n t599 o609 t608
noncomputable def o611 : AObj := (oC (cs (ai [1, 0, 0])) 155 26)
noncomputable def t612 : BT AObj := .n t590 o611 t610
noncomputable def o613 : AObj := (oM (cs (ay [253, 255, 255, 255])) 5 3 1 4 0 4)
noncomputable def t614 : BT AObj := .n t569 o613 t612
noncomputable def o615 : AObj := (oC (cs (ai [0, 0] ++ [(xS [])] ++ ai [0, 0] ++ [(.int .u32 (.lit (.ofNat 0))), xF, xF] ++ au [0] ++ ai [0, 0, 0] ++ au [0] ++ ai [0, 0, 0] ++ au [0] ++ ai [0, 0] ++ au [0, 0, 0])) 195 262)
noncomputable def o616 : AObj := (oC (cs (ai [0, 0] ++ [(xS [])] ++ ai [0, 0] ++ [(.int .u32 (.lit (.ofNat 0))), xF, xF] ++ au [0] ++ ai [0, 0, 0] ++ au [0] ++ ai [0, 0, 0] ++ au [0] ++ ai [0, 0] ++ au [0, 0, 0])) 195 390)
noncomputable def o617 : AObj := (oC (cs ([(xQ 318), (xQ 319), (xQ 322), (xQ 323), (xQ 324), (xQ 325)])) 405 134)
noncomputable def t618 : BT AObj := .n (.n .e o615 .e) o617 (.n .e o616 .e)
noncomputable def o619 : AObj := (oM (cs (ai [3] ++ [(xJ 2)] ++ ai [0] ++ [xF] ++ ai [0] ++ au [1] ++ ai [0])) 246 23 7 1 0 326)
noncomputable def o620 : AObj := (oM (cs (ai [0] ++ au [0] ++ ai [1, 0, 0, 1] ++ [xF, xF, xF] ++ ai [0, 0] ++ [(xS []), .nilSlice] ++ ai [0, 0, 0])) 103 14 16 1 0 198)
noncomputable def t621 : BT AObj := .n (.n .e o619 .e) o620 t184
noncomputable def t622 : BT AObj := .n t618 ((.map [] 0)) t621
noncomputable def o623 : AObj := (oC (cs (ai [1, 0])) 107 294)
noncomputable def o624 : AObj := (oC (cs ([.nilSlice, .nilSlice, .nilSlice])) 367 422)
noncomputable def o625 : AObj := (oC (cs (ay [17, 253, 255, 255, 255, 1])) 5 166)
noncomputable def t626 : BT AObj := .n (.n .e o623 .e) o625 (.n .e o624 .e)
noncomputable def o627 : AObj := (oC (cs (au [0, 0])) 210 358)
noncomputable def o628 : AObj := (oC (cs (ai [3] ++ [(xJ 2)] ++ ai [0] ++ [xF] ++ ai [0] ++ au [0] ++ ai [0])) 246 230)
noncomputable def t629 : BT AObj := .n (.n .e o627 .e) o628 .e
noncomputable def o630 : AObj := (oC (cs ([(xQ 316), (xQ 317)])) 405 102)
noncomputable def t631 : BT AObj := .n t626 o630 t629
noncomputable def o632 : AObj := (oM (cs (ai [1, 0, 0])) 155 7 3 1 0 38)
noncomputable def t633 : BT AObj := .n t622 o632 t631
noncomputable def o634 : AObj := (oC (cs (ai [3] ++ au [0] ++ ai [1, 0, 0, 11] ++ [xF, xF, xF] ++ ai [0, 0] ++ [(xS []), .nilSlice] ++ ai [0, 0, 0])) 103 278)
noncomputable def o635 : AObj := (oC (cs (ai [2, 0])) 220 406)
noncomputable def o636 : AObj := (oC (cs ([(xQ 335), (xQ 317), (xQ 336), (xQ 337)])) 405 150)
noncomputable def t637 : BT AObj := .n (.n .e o634 .e) o636 (.n .e o635 .e)
noncomputable def o638 : AObj := (oC (cs (ai [0] ++ au [0])) 63 342)
noncomputable def o639 : AObj := (oC (cs (ai [5] ++ au [0] ++ ai [1, 0] ++ [(xJ 0)] ++ ai [0] ++ [xF, xF, xF] ++ ai [0, 0] ++ [(xS []), .nilSlice] ++ ai [0, 0, 0])) 103 470)
noncomputable def o640 : AObj := (oC (cs (ai [2] ++ [xF, xF, xF] ++ ai [0, 0] ++ [(xS [])])) 47 214)
noncomputable def t641 : BT AObj := .n (.n .e o638 .e) o640 (.n .e o639 .e)
noncomputable def o642 : AObj := (oC (cs (ai [1, 0, 0])) 155 86)
noncomputable def t643 : BT AObj := .n t637 o642 t641
noncomputable def o644 : AObj := (oM (cs (ai [3] ++ [(xJ 2)] ++ ai [0] ++ [xF] ++ ai [0] ++ au [1] ++ ai [0])) 246 22 7 1 0 310)
noncomputable def o645 : AObj := (oC (cs (ai [0, 0] ++ [(xS [])] ++ ai [0, 0] ++ [(.int .u32 (.lit (.ofNat 0))), xF, xF] ++ au [0] ++ ai [0, 0, 0] ++ au [0] ++ ai [0, 0, 0] ++ au [0] ++ ai [0, 0] ++ au [0, 0, 0])) 195 438)
noncomputable def o646 : AObj := (oC (cs ([(xQ 316), (xQ 317), (xQ 318), (xQ 319), (xQ 320), (xQ 321)])) 405 182)
noncomputable def t647 : BT AObj := .n (.n .e o644 .e) o646 (.n .e o645 .e)
noncomputable def o648 : AObj := (oC (cs (ai [2, 0])) 220 374)
noncomputable def o649 : AObj := (oC (cs (ai [3] ++ [(xJ 2)] ++ ai [0] ++ [xF] ++ ai [0] ++ au [1] ++ ai [0])) 246 246)
noncomputable def t650 : BT AObj := .n (.n .e o648 .e) o649 .e
noncomputable def o651 : AObj := (oC (cs ([(xQ 316), (xQ 317), (xQ 329), (xQ 330)])) 405 118)
noncomputable def t652 : BT AObj := .n t647 o651 t650
noncomputable def t653 : BT AObj := .n t643 ((oC [] 155 54)) t652
noncomputable def t654 : BT AObj := .n t633 ((oC [] 155 22)) t653
noncomputable def o655 : AObj := (oC (cs (ai [3] ++ [(xJ 2)] ++ ai [0] ++ [xF] ++ ai [0] ++ au [1] ++ ai [0])) 246 270)
noncomputable def o656 : AObj := (oC (cs (ai [5, 4] ++ [(xS [95, 115, 101, 115])] ++ ai [1, 0] ++ [(.int .u32 (.lit (.ofNat 1057161216))), xF, xF] ++ au [0] ++ ai [0, 0, 0] ++ au [0] ++ ai [0, 0, 0] ++ au [0] ++ ai [1, 0] ++ au [21, 1, 1])) 195 398)
noncomputable def o657 : AObj := (oC (cs ([(xQ 316), (xQ 317), (xQ 318), (xQ 319), (xQ 320), (xQ 321)])) 405 142)
noncomputable def t658 : BT AObj := .n (.n .e o655 .e) o657 (.n .e o656 .e)
noncomputable def o659 : AObj := (.map [((xI 1), (xA ([(xQ 403), xF, xT, xF])), 0), ((xI 2), (xA ([(xQ 404), xT, xF, xF])), 1), ((xI 3), (xA ([(xQ 405), xT, xT, xF])), 2), ((xI 4), (xA ([(xQ 406), xT, xT, xF])), 3), ((xI 5), (xA ([(xQ 407), xT, xT, xT])), 4), ((xI 6), (xA ([(xQ 408), xF, xT, xF])), 5), ((xI 7), (xA ([(xQ 409), xT, xF, xF])), 6), ((xI 8), (xA ([(xQ 410), xT, xF, xF])), 7), ((xI 9), (xA ([(xQ 411), xT, xF, xF])), 8), ((xI 10), (xA ([(xQ 412), xT, xF, xF])), 9), ((xI 11), (xA ([(xQ 413), xT, xF, xF])), 10), ((xI 12), (xA ([(xQ 414), xT, xF, xF])), 11), ((xI 13), (xA ([(xQ 415), xF, xF, xF])), 12), ((xI 14), (xA ([(xQ 406), xT, xT, xF])), 13)] 14)
noncomputable def o660 : AObj := (oC (cs (ai [4] ++ au [0] ++ ai [1, 0, 0, 14] ++ [xF, xF, xT] ++ ai [0, 5] ++ [(xS []), .nilSlice] ++ ai [0, 0, 0])) 103 462)
noncomputable def o661 : AObj := (oC (cs ([(xP 89 0)])) 31 206)
noncomputable def t662 : BT AObj := .n (.n .e o659 .e) o661 (.n .e o660 .e)
noncomputable def o663 : AObj := (oC (cs (ai [1, 2, 3, 11, 14, 0])) 33 78)
noncomputable def t664 : BT AObj := .n t658 o663 t662
noncomputable def t665 : BT AObj := .n .e ((oC [] 246 302)) .e
noncomputable def o666 : AObj := (oC (cs (ai [0] ++ au [0])) 63 430)
noncomputable def o667 : AObj := (oC (cs ([(xQ 318), (xQ 319), (xQ 322), (xQ 323), (xQ 324), (xQ 325)])) 405 174)
noncomputable def t668 : BT AObj := .n t665 o667 (.n .e o666 .e)
noncomputable def o669 : AObj := (oC (cs (au [1, 0])) 210 366)
noncomputable def o670 : AObj := (oC (cs (ai [1, 0, 0])) 155 238)
noncomputable def t671 : BT AObj := .n (.n .e o669 .e) o670 .e
noncomputable def o672 : AObj := (oC (cs ([(xQ 316), (xQ 317)])) 405 110)
noncomputable def t673 : BT AObj := .n t668 o672 t671
noncomputable def o674 : AObj := (oC (cs (au [1] ++ [xF] ++ ai [0, 0, 0, 0] ++ au [0] ++ ai [0, 0, 0] ++ au [0] ++ ai [0, 0, 0] ++ au [0] ++ ai [0, 0, 0] ++ au [0] ++ ai [0, 0, 0] ++ au [0] ++ ai [0, 0, 0] ++ au [0] ++ ai [0, 0, 0] ++ au [0] ++ ai [0, 0, 0] ++ au [0] ++ ai [0, 0, 0] ++ au [0] ++ ai [0, 0, 0] ++ au [0] ++ ai [0, 0, 0] ++ au [0] ++ ai [0, 0, 0] ++ au [0] ++ ai [0, 0, 0] ++ au [0] ++ ai [0, 0, 0] ++ au [0] ++ ai [0, 0, 0] ++ au [0] ++ ai [0, 0, 0] ++ au [0, 1] ++ [xF] ++ ai [0, 0, 0, 0] ++ au [0] ++ ai [0, 0, 0] ++ au [0] ++ ai [0, 0, 0] ++ au [0] ++ ai [0, 0, 0] ++ au [0] ++ ai [0, 0, 0] ++ au [0] ++ ai [0, 0, 0] ++ au [0] ++ ai [0, 0, 0] ++ au [0] ++ ai [0, 0, 0] ++ au [0] ++ ai [0, 0, 0] ++ au [0] ++ ai [0, 0, 0] ++ au [0] ++ ai [0, 0, 0] ++ au [0] ++ ai [0, 0, 0] ++ au [0] ++ ai [0, 0, 0] ++ au [0] ++ ai [0, 0, 0] ++ au [0] ++ ai [0, 0, 0] ++ au [0] ++ ai [0, 0, 0] ++ au [0, 1] ++ [xF] ++ ai [0, 0, 0, 0] ++ au [0] ++ ai [0, 0, 0] ++ au [0] ++ ai [0, 0, 0] ++ au [0] ++ ai [0, 0, 0] ++ au [0] ++ ai [0, 0, 0] ++ au [0] ++ ai [0, 0, 0] ++ au [0] ++ ai [0, 0, 0] ++ au [0] ++ ai [0, 0, 0] ++ au [0] ++ ai [0, 0, 0] ++ au [0] ++ ai [0, 0, 0] ++ au [0] ++ ai [0, 0, 0] ++ au [0] ++ ai [0, 0, 0] ++ au [0] ++ ai [0, 0, 0] ++ au [0] ++ ai [0, 0, 0] ++ au [0] ++ ai [0, 0, 0] ++ au [0] ++ ai [0, 0, 0] ++ au [0, 1] ++ [xF] ++ ai [0, 0, 0, 0] ++ au [0] ++ ai [0, 0, 0] ++ au [0] ++ ai [0, 0, 0] ++ au [0] ++ ai [0, 0, 0] ++ au [0] ++ ai [0, 0, 0] ++ au [0] ++ ai [0, 0, 0] ++ au [0] ++ ai [0, 0, 0] ++ au [0] ++ ai [0, 0, 0] ++ au [0] ++ ai [0, 0, 0] ++ au [0] ++ ai [0, 0, 0] ++ au [0] ++ ai [0, 0, 0] ++ au [0] ++ ai [0, 0, 0] ++ au [0] ++ ai [0, 0, 0] ++ au [0] ++ ai [0, 0, 0] ++ au [0] ++ ai [0, 0, 0] ++ au [0] ++ ai [0, 0, 0] ++ au [0, 1] ++ [xF] ++ ai [0, 0, 0, 0] ++ au [0] ++ ai [0, 0, 0] ++ au [0] ++ ai [0, 0, 0] ++ au [0] ++ ai [0, 0, 0] ++ au [0] ++ ai [0, 0, 0] ++ au [0] ++ ai [0, 0, 0] ++ au [0] ++ ai [0, 0, 0] ++ au [0] ++ ai [0, 0, 0] ++ au [0] ++ ai [0, 0, 0] ++ au [0] ++ ai [0, 0, 0] ++ au [0] ++ ai [0, 0, 0] ++ au [0] ++ ai [0, 0, 0] ++ au [0] ++ ai [0, 0, 0] ++ au [0] ++ ai [0, 0, 0] ++ au [0] ++ ai [0, 0, 0] ++ au [0] ++ ai [0, 0, 0] ++ au [0, 1] ++ [xF] ++ ai [0, 0, 0, 0] ++ au [0] ++ ai [0, 0, 0] ++ au [0] ++ ai [0, 0, 0] ++ au [0] ++ ai [0, 0, 0] ++ au [0] ++ ai [0, 0, 0] ++ au [0] ++ ai [0, 0, 0] ++ au [0] ++ ai [0, 0, 0] ++ au [0] ++ ai [0, 0, 0] ++ au [0] ++ ai [0, 0, 0] ++ au [0] ++ ai [0, 0, 0] ++ au [0] ++ ai [0, 0, 0] ++ au [0] ++ ai [0, 0, 0] ++ au [0] ++ ai [0, 0, 0] ++ au [0] ++ ai [0, 0, 0] ++ au [0] ++ ai [0, 0, 0] ++ au [0] ++ ai [0, 0, 0] ++ au [0, 1] ++ [xF] ++ ai [0, 0, 0, 0] ++ au [0] ++ ai [0, 0, 0] ++ au [0] ++ ai [0, 0, 0] ++ au [0] ++ ai [0, 0, 0] ++ au [0] ++ ai [0, 0, 0] ++ au [0] ++ ai [0, 0, 0] ++ au [0] ++ ai [0, 0, 0] ++ au [0] ++ ai [0, 0, 0] ++ au [0] ++ ai [0, 0, 0] ++ au [0] ++ ai [0, 0, 0] ++ au [0] ++ ai [0, 0, 0] ++ au [0] ++ ai [0, 0, 0] ++ au [0] ++ ai [0, 0, 0] ++ au [0] ++ ai [0, 0, 0] ++ au [0] ++ ai [0, 0, 0] ++ au [0] ++ ai [0, 0, 0] ++ au [0, 1] ++ [xF] ++ ai [0, 0, 0, 0] ++ au [0] ++ ai [0, 0, 0] ++ au [0] ++ ai [0, 0, 0] ++ au [0] ++ ai [0, 0, 0] ++ au [0] ++ ai [0, 0, 0] ++ au [0] ++ ai [0, 0, 0] ++ au [0] ++ ai [0, 0, 0] ++ au [0] ++ ai [0, 0, 0] ++ au [0] ++ ai [0, 0, 0] ++ au [0] ++ ai [0, 0, 0] ++ au [0] ++ ai [0, 0, 0] ++ au [0] ++ ai [0, 0, 0] ++ au [0] ++ ai [0, 0, 0] ++ au [0] ++ ai [0, 0, 0] ++ au [0] ++ ai [0, 0, 0] ++ au [0] ++ ai [0, 0, 0] ++ au [0])) 202 46)
noncomputable def t675 : BT AObj := .n t664 o674 t673
noncomputable def o676 : AObj := (oC (cs (ai [0] ++ au [1])) 63 286)
noncomputable def o677 : AObj := (oC (cs (ai [0] ++ au [0])) 63 414)
noncomputable def o678 : AObj := (oC (cs ([(xL 155 0 1 1), (xL 157 0 4 4)])) 32 158)
noncomputable def t679 : BT AObj := .n (.n .e o676 .e) o678 (.n .e o677 .e)
noncomputable def o680 : AObj := (oC (cs (ai [13, 0, 0, 0, 4] ++ [(xS [95, 115, 101, 115]), (.int .u32 (.lit (.ofNat 0)))] ++ ai [0, 0] ++ au [0] ++ ai [0] ++ [(xJ 2)] ++ au [4] ++ ai [0] ++ au [1] ++ [.nilSlice] ++ ai [0, 0, 0, 0] ++ au [0] ++ [.nilSlice, .nilSlice] ++ ai [0] ++ au [0] ++ ai [0, 0, 0, 0] ++ au [0] ++ [.nilSlice, .nilSlice] ++ ai [0] ++ au [0] ++ ai [0])) 71 350)
noncomputable def t681 : BT AObj := .n (.n .e o680 .e) o67 .e
noncomputable def o682 : AObj := (oC (cs (ai [0])) 23 94)
noncomputable def t683 : BT AObj := .n t679 o682 t681
noncomputable def o684 : AObj := (oC (cs (ai [2, 0])) 220 318)
noncomputable def o685 : AObj := (loopAt .exhausted none ([(xP 40 0), (xA (ai [0, 0, 0, 0, 0] ++ [(xS []), (.int .u32 (.lit (.ofNat 0)))] ++ ai [0, 0] ++ au [0] ++ ai [0, 0] ++ au [0] ++ ai [0] ++ au [0] ++ [.nilSlice] ++ ai [0, 0, 0, 0] ++ au [0] ++ [.nilSlice, .nilSlice] ++ ai [0] ++ au [0] ++ ai [0, 0, 0, 0] ++ au [0] ++ [.nilSlice, .nilSlice] ++ ai [0] ++ au [0] ++ ai [0])), (xP 424 0), (xP 425 0)] ++ ai [0] ++ us 3 ++ [(xP 443 0)] ++ us 2 ++ [(xP 40 0), xF, (xP 40 0), (xP 40 0), (xP 40 7), (xP 45 0), (xP 425 13), (xA (ai [0] ++ au [0]))] ++ ai [5] ++ [(xP 425 15), .nilSlice] ++ ai [0, 0] ++ [xF] ++ us 9 ++ [(xP 425 26), (xA (ai [0, 0, 0] ++ au [0] ++ [.nilSlice, .nilSlice] ++ ai [0] ++ au [0] ++ ai [0])), (xP 425 17), (xA (ai [0, 0, 0] ++ au [0] ++ [.nilSlice, .nilSlice] ++ ai [0] ++ au [0] ++ ai [0])), (xA (ai [0, 0, 0] ++ au [0] ++ [.nilSlice, .nilSlice] ++ ai [0] ++ au [0] ++ ai [0, 0, 0, 0] ++ au [0] ++ [.nilSlice, .nilSlice] ++ ai [0] ++ au [0] ++ ai [0]))] ++ ai [1] ++ [xT, (xA (ai [0, 0, 0] ++ au [0] ++ [.nilSlice, .nilSlice] ++ ai [0] ++ au [0] ++ ai [0])), (xP 443 4), .nilSlice, (.func 400 ([]) ([(xP 444 0)]))] ++ us 8 ++ ai [1]) 445 (sub (Tryz.f213.body.getD .skip) [true, true, true, true, false, true, false, false, true, true, false, false, true, true, false]))
noncomputable def o686 : AObj := (oC (cs ([(xQ 335), (xQ 317), (xQ 336), (xQ 337)])) 405 190)
noncomputable def t687 : BT AObj := .n (.n .e o684 .e) o686 (.n .e o685 .e)
noncomputable def o688 : AObj := (oC (cs (ai [5, 4] ++ [(xS [95, 115, 101, 115])] ++ ai [1, 0] ++ [(.int .u32 (.lit (.ofNat 1057161216))), xF, xF] ++ au [0] ++ ai [0, 0, 0] ++ au [0] ++ ai [0, 0, 0] ++ au [0] ++ ai [1, 0] ++ au [21, 1, 1])) 195 382)
noncomputable def o689 : AObj := (oC (cs (ai [3] ++ [(xJ 2)] ++ ai [0] ++ [xF] ++ ai [0] ++ au [1] ++ ai [0])) 246 254)
noncomputable def t690 : BT AObj := .n (.n .e o688 .e) o689 .e
noncomputable def o691 : AObj := (oC (cs ([(xQ 336), (xQ 337)])) 405 126)
noncomputable def t692 : BT AObj := .n t687 o691 t690
noncomputable def o693 : AObj := (oC (cs (ai [1, 0])) 220 62)
noncomputable def t694 : BT AObj := .n t683 o693 t692
noncomputable def o695 : AObj := (oC (cs (ai [1, 0])) 220 30)
noncomputable def t696 : BT AObj := .n t675 o695 t694
noncomputable def o697 : AObj := (oC (cs ([(xL 15 0 1 1)] ++ ai [4, 8, 8] ++ au [9, 99])) 29 14)
noncomputable def t698 : BT AObj := .n t654 o697 t696
noncomputable def o699 : AObj := (oM (cs (ay [253, 255])) 5 1 1 2 0 4)
noncomputable def t700 : BT AObj := .n t614 o699 t698
noncomputable def o701 : AObj := (oC (cs ([(xS []), (xS [114, 105, 112]), (xS [105]), (xS [114, 105]), (xS [107]), (xS [107, 112]), (xS [107]), (xS [107, 114]), (xS [107, 114]), (xS [107, 114, 116]), (xS [114]), (xS [107, 109]), (xS [107, 117, 103]), (xS [107, 115]), (xS [107]), (xS [107]), (xS [114, 120]), (xS [107, 99]), (xS [100])])) 9 2)
noncomputable def t702 : BT AObj := .n t525 o701 t700
noncomputable def o703 : AObj := (oC (cs (ai [17] ++ [(xJ 2)] ++ ai [0, 0, 0] ++ [(xS []), (xS []), (.int .u32 (.lit (.ofNat 0)))] ++ ai [0, 0] ++ au [0] ++ ai [0] ++ [xT])) 43 0)
noncomputable def t704 : BT AObj := .n t351 o703 t702
noncomputable def m705 : BT (List Nat) := .n (.n .e [] .e) [] (.n .e [] .e)
noncomputable def m706 : BT (List Nat) := .n m705 [] m705
noncomputable def m707 : BT (List Nat) := .n (.n .e [] .e) [] .e
noncomputable def m708 : BT (List Nat) := .n m705 [] m707
noncomputable def m709 : BT (List Nat) := .n m706 [] m708
noncomputable def m710 : BT (List Nat) := .n m709 [] m709
noncomputable def m711 : BT (List Nat) := .n m710 [] m710
noncomputable def m712 : BT (List Nat) := .n m708 [] m708
noncomputable def m713 : BT (List Nat) := .n m709 [] m712
noncomputable def m714 : BT (List Nat) := .n m710 [13] m713
noncomputable def m715 : BT (List Nat) := .n m711 [] m714
noncomputable def m716 : BT (List Nat) := .n m710 [] m713
noncomputable def m717 : BT (List Nat) := .n m716 [] m716
noncomputable def m718 : BT (List Nat) := .n m715 [] m717
noncomputable def m719 : BT (List Nat) := .n m716 [10, 8, 6] m716
noncomputable def m720 : BT (List Nat) := .n (.n .e [] .e) [468, 459, 290, 273, 216] (.n .e [] .e)
noncomputable def m721 : BT (List Nat) := .n m705 [] m720
noncomputable def m722 : BT (List Nat) := .n m721 [] m708
noncomputable def m723 : BT (List Nat) := .n m722 [] m709
noncomputable def m724 : BT (List Nat) := .n m723 [] m713
noncomputable def m725 : BT (List Nat) := .n m716 [] m724
noncomputable def m726 : BT (List Nat) := .n m719 [] m725
noncomputable def m727 : BT (List Nat) := .n m718 [] m726
noncomputable def h728 : Hp := Hp.lit t704 m727 472 26 (by kernel_rfl)
noncomputable def o729 : AObj := (oM (cs (ai [0])) 3 10 1 2 0 77)
noncomputable def t730 : BT AObj := .n t309 o729 t313
noncomputable def t731 : BT AObj := .n t730 o324 t323
noncomputable def t732 : BT AObj := .n t731 o345 t344
noncomputable def t733 : BT AObj := .n t305 o347 t732
noncomputable def t734 : BT AObj := .n t263 o349 t733
noncomputable def t735 : BT AObj := .n t178 ((oC (cs (ay [17])) 5 1)) t734
noncomputable def o736 : AObj := (oC (cs ([(xP 40 0), (xV 73 0 1 9 0), (xV 77 1 0 10 1), .nilSlice, .nilSlice, .nilSlice, .nilSlice, .nilSlice, .nilSlice, .nilSlice, .nilPtr, .nilPtr, .nilPtr, .nilPtr, .nilPtr, .nilPtr, .nilPtr, .nilPtr] ++ ai [0, 0, 0, 0, 0, 0, 0, 0] ++ [(xV 468 0 6 25 0), (xV 91 0 1 13 0)])) 97 74)
noncomputable def t737 : BT AObj := .n t573 o736 t577
noncomputable def t738 : BT AObj := .n t737 o589 t588
noncomputable def t739 : BT AObj := .n t738 o611 t610
noncomputable def t740 : BT AObj := .n t569 o613 t739
noncomputable def t741 : BT AObj := .n t740 o699 t698
noncomputable def t742 : BT AObj := .n t525 o701 t741
noncomputable def t743 : BT AObj := .n t735 o703 t742
noncomputable def h744 : Hp := Hp.lit t743 m727 472 26 (by kernel_rfl)
noncomputable def B28 : Code := Tryz.f28.body.getD .skip
noncomputable def s745 : St := { tmps := (us 78), h := h0, pc := ([]), marks := [], pan := none }
noncomputable def s746 : St := { tmps := ([xF] ++ us 77), h := h0, pc := ([]), marks := [], pan := none }
set_option maxRecDepth 100000 in
theorem g0 : runCode Tryz.prog true (runCall Tryz.prog true none 300 59) none 299 none (sub B28 [false]) s745 = some [(.normal, s746)] := by kernel_rfl
noncomputable def l747 : List AV := [xF, (xV 13 0 6 5 0)] ++ us 6 ++ [(xA (ai [17] ++ [(xJ 2)] ++ ai [0, 0, 0] ++ [(xS []), (xS []), (.int .u32 (.lit (.ofNat 0)))] ++ ai [0, 0] ++ au [0] ++ ai [0] ++ [xT])), (xV 13 0 6 5 0)] ++ us 68
noncomputable def t748 : BT AObj := .n (.n .e o89 .e) o177 (.n .e o175 .e)
noncomputable def t749 : BT AObj := .n (.n .e o262 .e) o349 (.n .e o347 .e)
noncomputable def t750 : BT AObj := .n t748 ((oC (cs (ay [17])) 5 1)) t749
noncomputable def t751 : BT AObj := .n .e ((oC (cs (ay [1])) 5 12)) .e
noncomputable def t752 : BT AObj := .n (.n .e o437 .e) o524 t751
noncomputable def t753 : BT AObj := .n (.n .e o613 .e) o699 .e
noncomputable def t754 : BT AObj := .n t752 o701 t753
noncomputable def t755 : BT AObj := .n t750 o703 t754
noncomputable def m756 : BT (List Nat) := .n (.n .e [] .e) [] (.n .e [13] .e)
noncomputable def m757 : BT (List Nat) := .n m756 [] m705
noncomputable def m758 : BT (List Nat) := .n (.n .e [] .e) [10, 8, 6] (.n .e [] .e)
noncomputable def m759 : BT (List Nat) := .n m758 [] m707
noncomputable def m760 : BT (List Nat) := .n m757 [] m759
noncomputable def h761 : Hp := Hp.lit t755 m760 14 6 (by kernel_rfl)
noncomputable def s762 : St := { tmps := l747, h := h761, pc := ([]), marks := [], pan := none }
set_option maxRecDepth 100000 in
theorem g1 : runCode Tryz.prog true (runCall Tryz.prog true none 300 59) none 298 none (sub B28 [true, false]) s746 = some [(.normal, s762)] := by kernel_rfl
noncomputable def l763 : List AV := [xF, (xV 13 0 6 5 0), (xP 74 0)] ++ ai [0] ++ us 4 ++ [(xA (ai [17] ++ [(xJ 2)] ++ ai [0, 0, 0] ++ [(xS []), (xS []), (.int .u32 (.lit (.ofNat 0)))] ++ ai [0, 0] ++ au [0] ++ ai [0] ++ [xT])), (xV 13 0 6 5 0), (.tuple ([(xP 74 0)] ++ ai [0])), (xA ([(xL 15 0 1 1)] ++ ai [4, 8, 8] ++ au [9, 99])), (xV 13 0 6 5 0), (xS [17, 253, 255, 255, 255, 1]), (xA (ai [0] ++ au [4] ++ [(xS [17, 253, 255, 255, 255, 1])])), (xL 16 0 1 1), (.tuple ([(xP 74 0)] ++ ai [0])), (xP 74 0)] ++ ai [0] ++ us 59
noncomputable def t764 : BT AObj := .n (.n .e o10 .e) o21 .e
noncomputable def t765 : BT AObj := .n t764 o44 (.n .e o42 .e)
noncomputable def t766 : BT AObj := .n (.n .e o54 .e) o65 .e
noncomputable def t767 : BT AObj := .n t766 o87 (.n .e o85 .e)
noncomputable def t768 : BT AObj := .n t765 o89 t767
noncomputable def t769 : BT AObj := .n .e ((oC (cs (ai [0])) 3 67)) .e
noncomputable def t770 : BT AObj := .n t769 o108 .e
noncomputable def t771 : BT AObj := .n t770 o130 (.n .e o128 .e)
noncomputable def o772 : AObj := (oC (cs (au [1] ++ [xF] ++ ai [0, 0] ++ [(xS [])] ++ ai [0, 0] ++ [(.int .u32 (.lit (.ofNat 0))), xF, xF] ++ au [0] ++ ai [0, 0, 0] ++ au [0] ++ ai [0, 0, 0] ++ au [0] ++ ai [0, 0] ++ au [0, 0, 0, 1] ++ [xF] ++ ai [0, 0] ++ [(xS [])] ++ ai [0, 0] ++ [(.int .u32 (.lit (.ofNat 0))), xF, xF] ++ au [0] ++ ai [0, 0, 0] ++ au [0] ++ ai [0, 0, 0] ++ au [0] ++ ai [0, 0] ++ au [0, 0, 0, 1] ++ [xF] ++ ai [0, 0] ++ [(xS [])] ++ ai [0, 0] ++ [(.int .u32 (.lit (.ofNat 0))), xF, xF] ++ au [0] ++ ai [0, 0, 0] ++ au [0] ++ ai [0, 0, 0] ++ au [0] ++ ai [0, 0] ++ au [0, 0, 0, 1] ++ [xF] ++ ai [0, 0] ++ [(xS [])] ++ ai [0, 0] ++ [(.int .u32 (.lit (.ofNat 0))), xF, xF] ++ au [0] ++ ai [0, 0, 0] ++ au [0] ++ ai [0, 0, 0] ++ au [0] ++ ai [0, 0] ++ au [0, 0, 0])) 304 43)
noncomputable def t773 : BT AObj := .n (.n .e o140 .e) o772 .e
noncomputable def t774 : BT AObj := .n t773 o173 (.n .e o171 .e)
noncomputable def t775 : BT AObj := .n t771 o175 t774
noncomputable def t776 : BT AObj := .n t768 o177 t775
noncomputable def t777 : BT AObj := .n (.n .e o187 .e) o198 .e
noncomputable def t778 : BT AObj := .n t777 o218 (.n .e o216 .e)
noncomputable def t779 : BT AObj := .n (.n .e o228 .e) ((.map [] 0)) .e
noncomputable def t780 : BT AObj := .n t779 o260 (.n .e o258 .e)
noncomputable def t781 : BT AObj := .n t778 o262 t780
noncomputable def t782 : BT AObj := .n (.n .e ((.map [] 0)) .e) ((oC [] 155 37)) .e
noncomputable def t783 : BT AObj := .n t782 o304 (.n .e o302 .e)
noncomputable def t784 : BT AObj := .n (.n .e o314 .e) o324 .e
noncomputable def t785 : BT AObj := .n t784 o345 (.n .e o343 .e)
noncomputable def t786 : BT AObj := .n t783 o347 t785
noncomputable def t787 : BT AObj := .n t781 o349 t786
noncomputable def t788 : BT AObj := .n t776 ((oC (cs (ay [17])) 5 1)) t787
noncomputable def t789 : BT AObj := .n (.n .e o360 .e) o371 .e
noncomputable def t790 : BT AObj := .n t789 o394 (.n .e o392 .e)
noncomputable def t791 : BT AObj := .n .e ((oC [] 115 72)) .e
noncomputable def t792 : BT AObj := .n t791 o413 .e
noncomputable def t793 : BT AObj := .n t792 o435 (.n .e o435 .e)
noncomputable def t794 : BT AObj := .n t790 o437 t793
noncomputable def t795 : BT AObj := .n (.n .e o447 .e) o458 .e
noncomputable def t796 : BT AObj := .n t795 o481 (.n .e o479 .e)
noncomputable def t797 : BT AObj := .n .e ((oC (cs (ai [0])) 3 76)) .e
noncomputable def o798 : AObj := (oC (cs ([(xL 43 0 4 4), .nilSlice] ++ ai [0])) 302 44)
noncomputable def t799 : BT AObj := .n t797 o798 .e
noncomputable def t800 : BT AObj := .n t799 o521 (.n .e o519 .e)
noncomputable def t801 : BT AObj := .n t796 ((oC (cs (ay [1])) 5 12)) t800
noncomputable def t802 : BT AObj := .n t794 o524 t801
noncomputable def t803 : BT AObj := .n (.n .e o534 .e) o545 .e
noncomputable def o804 : AObj := (oC (cs (au [0, 0, 0, 0, 0, 0, 0, 0, 0, 0, 0, 0, 0, 0, 0, 0, 0, 0, 0, 0, 0, 0, 0, 0, 0, 0, 0, 0, 0, 0, 0, 0])) 210 50)
noncomputable def t805 : BT AObj := .n t803 o568 (.n .e o804 .e)
noncomputable def o806 : AObj := (oC (cs ([(xP 40 0), (xV 73 0 1 9 0), (xV 77 0 1 10 0), .nilSlice, .nilSlice, .nilSlice, .nilSlice, .nilSlice, .nilSlice, .nilSlice, .nilPtr, .nilPtr, .nilPtr, .nilPtr, .nilPtr, .nilPtr, .nilPtr, .nilPtr] ++ ai [0, 0, 0, 0, 0, 0, 0, 0] ++ [.nilSlice, .nilSlice])) 97 74)
noncomputable def t807 : BT AObj := .n (.n .e o806 .e) o589 .e
noncomputable def t808 : BT AObj := .n t807 o611 (.n .e o609 .e)
noncomputable def t809 : BT AObj := .n t805 o613 t808
noncomputable def t810 : BT AObj := .n (.n .e ((.map [] 0)) .e) o632 .e
noncomputable def t811 : BT AObj := .n .e ((oC [] 155 54)) .e
noncomputable def t812 : BT AObj := .n t810 ((oC [] 155 22)) t811
noncomputable def t813 : BT AObj := .n (.n .e o674 .e) o695 (.n .e o693 .e)
noncomputable def t814 : BT AObj := .n t812 o697 t813
noncomputable def t815 : BT AObj := .n t809 o699 t814
noncomputable def t816 : BT AObj := .n t802 o701 t815
noncomputable def t817 : BT AObj := .n t788 o703 t816
noncomputable def m818 : BT (List Nat) := .n m707 [] (.n .e [] .e)
noncomputable def m819 : BT (List Nat) := .n m818 [] m818
noncomputable def m820 : BT (List Nat) := .n m818 [13] m818
noncomputable def m821 : BT (List Nat) := .n m819 [] m820
noncomputable def m822 : BT (List Nat) := .n m819 [] m819
noncomputable def m823 : BT (List Nat) := .n m821 [] m822
noncomputable def m824 : BT (List Nat) := .n m819 [10, 8, 6] m819
noncomputable def m825 : BT (List Nat) := .n m818 [] m705
noncomputable def m826 : BT (List Nat) := .n m819 [] m825
noncomputable def m827 : BT (List Nat) := .n m824 [] m826
noncomputable def m828 : BT (List Nat) := .n m823 [] m827
noncomputable def h829 : Hp := Hp.lit t817 m828 78 11 (by kernel_rfl)
noncomputable def s830 : St := { tmps := l763, h := h829, pc := ([]), marks := [], pan := none }
set_option maxRecDepth 100000 in
theorem g2 : runCode Tryz.prog true (runCall Tryz.prog true none 300 59) none 297 none (sub B28 [true, true, false]) s762 = some [(.normal, s830)] := by kernel_rfl
noncomputable def l831 : List AV := [xF, (xV 13 0 6 5 0), (xP 74 0)] ++ ai [0] ++ us 4 ++ [(xA (ai [17] ++ [(xJ 2)] ++ ai [0, 0, 0] ++ [(xS []), (xS []), (.int .u32 (.lit (.ofNat 0)))] ++ ai [0, 0] ++ au [0] ++ ai [0] ++ [xT])), (xV 13 0 6 5 0), (.tuple ([(xP 74 0)] ++ ai [0])), (xA ([(xL 15 0 1 1)] ++ ai [4, 8, 8] ++ au [9, 99])), (xV 13 0 6 5 0), (xS [17, 253, 255, 255, 255, 1]), (xA (ai [0] ++ au [4] ++ [(xS [17, 253, 255, 255, 255, 1])])), (xL 16 0 1 1), (.tuple ([(xP 74 0)] ++ ai [0])), (xP 74 0)] ++ ai [0, 0] ++ [xF, xF, (xP 74 0), xF, xF] ++ us 53
noncomputable def s832 : St := { tmps := l831, h := h829, pc := ([]), marks := [], pan := none }
set_option maxRecDepth 100000 in
theorem g3 : runCode Tryz.prog true (runCall Tryz.prog true none 300 59) none 296 none (sub B28 [true, true, true, false]) s830 = some [(.normal, s832)] := by kernel_rfl
noncomputable def l833 : List AV := [xF, (xV 13 0 6 5 0), (xP 74 0)] ++ ai [0] ++ [(xL 78 0 6 6)] ++ us 3 ++ [(xA (ai [17] ++ [(xJ 2)] ++ ai [0, 0, 0] ++ [(xS []), (xS []), (.int .u32 (.lit (.ofNat 0)))] ++ ai [0, 0] ++ au [0] ++ ai [0] ++ [xT])), (xV 13 0 6 5 0), (.tuple ([(xP 74 0)] ++ ai [0])), (xA ([(xL 15 0 1 1)] ++ ai [4, 8, 8] ++ au [9, 99])), (xV 13 0 6 5 0), (xS [17, 253, 255, 255, 255, 1]), (xA (ai [0] ++ au [4] ++ [(xS [17, 253, 255, 255, 255, 1])])), (xL 16 0 1 1), (.tuple ([(xP 74 0)] ++ ai [0])), (xP 74 0)] ++ ai [0, 0] ++ [xF, xF, (xP 74 0), xF, xF, (xL 78 0 6 6)] ++ us 52
noncomputable def t834 : BT AObj := .n (.n .e o663 .e) o674 .e
noncomputable def t835 : BT AObj := .n t834 o695 (.n .e o693 .e)
noncomputable def t836 : BT AObj := .n t812 o697 t835
noncomputable def t837 : BT AObj := .n t809 o699 t836
noncomputable def t838 : BT AObj := .n t802 o701 t837
noncomputable def t839 : BT AObj := .n t788 o703 t838
noncomputable def m840 : BT (List Nat) := .n m824 [] m822
noncomputable def m841 : BT (List Nat) := .n m823 [] m840
noncomputable def h842 : Hp := Hp.lit t839 m841 79 11 (by kernel_rfl)
noncomputable def s843 : St := { tmps := l833, h := h842, pc := ([]), marks := [], pan := none }
set_option maxRecDepth 100000 in
theorem g4 : runCode Tryz.prog true (runCall Tryz.prog true none 300 59) none 295 none (sub B28 [true, true, true, true, false]) s832 = some [(.normal, s843)] := by kernel_rfl
noncomputable def l844 : List AV := [xF, (xV 13 0 6 5 0), (xP 74 0)] ++ ai [0] ++ [(xL 78 0 6 6)] ++ ai [0] ++ us 2 ++ [(xA (ai [17] ++ [(xJ 2)] ++ ai [0, 0, 0] ++ [(xS []), (xS []), (.int .u32 (.lit (.ofNat 0)))] ++ ai [0, 0] ++ au [0] ++ ai [0] ++ [xT])), (xV 13 0 6 5 0), (.tuple ([(xP 74 0)] ++ ai [0])), (xA ([(xL 15 0 1 1)] ++ ai [4, 8, 8] ++ au [9, 99])), (xV 13 0 6 5 0), (xS [17, 253, 255, 255, 255, 1]), (xA (ai [0] ++ au [4] ++ [(xS [17, 253, 255, 255, 255, 1])])), (xL 16 0 1 1), (.tuple ([(xP 74 0)] ++ ai [0])), (xP 74 0)] ++ ai [0, 0] ++ [xF, xF, (xP 74 0), xF, xF, (xL 78 0 6 6)] ++ us 52
noncomputable def s845 : St := { tmps := l844, h := h842, pc := ([]), marks := [], pan := none }
set_option maxRecDepth 100000 in
theorem g5 : runCode Tryz.prog true (runCall Tryz.prog true none 300 59) none 293 none (sub B28 [true, true, true, true, true, false, false]) s843 = some [(.normal, s845)] := by kernel_rfl
noncomputable def l846 : List AV := [xF, (xV 13 0 6 5 0), (xP 74 0)] ++ ai [0] ++ [(xL 78 0 6 6)] ++ ai [0] ++ us 2 ++ [(xA (ai [17] ++ [(xJ 2)] ++ ai [0, 0, 0] ++ [(xS []), (xS []), (.int .u32 (.lit (.ofNat 0)))] ++ ai [0, 0] ++ au [0] ++ ai [0] ++ [xT])), (xV 13 0 6 5 0), (.tuple ([(xP 74 0)] ++ ai [0])), (xA ([(xL 15 0 1 1)] ++ ai [4, 8, 8] ++ au [9, 99])), (xV 13 0 6 5 0), (xS [17, 253, 255, 255, 255, 1]), (xA (ai [0] ++ au [4] ++ [(xS [17, 253, 255, 255, 255, 1])])), (xL 16 0 1 1), (.tuple ([(xP 74 0)] ++ ai [0])), (xP 74 0)] ++ ai [0, 0] ++ [xF, xF, (xP 74 0), xF, xF, (xL 78 0 6 6)] ++ ai [0] ++ [(xL 78 0 6 6)] ++ ai [6] ++ [xT] ++ us 48
noncomputable def s847 : St := { tmps := l846, h := h842, pc := ([]), marks := [], pan := none }
set_option maxRecDepth 100000 in
theorem g6 : runCode Tryz.prog true (runCall Tryz.prog true none 300 59) none 290 none (sub B28 [true, true, true, true, true, false, true, false, false, false]) s845 = some [(.normal, s847)] := by kernel_rfl
noncomputable def l848 : List AV := [xF, (xV 13 0 6 5 0), (xP 74 0)] ++ ai [0] ++ [(xL 78 0 6 6)] ++ ai [0] ++ us 2 ++ [(xA (ai [17] ++ [(xJ 2)] ++ ai [0, 0, 0] ++ [(xS []), (xS []), (.int .u32 (.lit (.ofNat 0)))] ++ ai [0, 0] ++ au [0] ++ ai [0] ++ [xT])), (xV 13 0 6 5 0), (.tuple ([(xP 74 0)] ++ ai [0])), (xA ([(xL 15 0 1 1)] ++ ai [4, 8, 8] ++ au [9, 99])), (xV 13 0 6 5 0), (xS [17, 253, 255, 255, 255, 1]), (xA (ai [0] ++ au [4] ++ [(xS [17, 253, 255, 255, 255, 1])])), (xL 16 0 1 1), (.tuple ([(xP 74 0)] ++ ai [0])), (xP 74 0)] ++ ai [0, 0] ++ [xF, xF, (xP 74 0), xF, xF, (xL 78 0 6 6)] ++ ai [0] ++ [(xL 78 0 6 6)] ++ ai [6] ++ [xT] ++ us 3 ++ [(xP 74 0), (xA (ai [1, 0])), (.tuple ([(xA (ai [0] ++ au [0] ++ ai [1, 0, 0, 1] ++ [xF, xF, xF] ++ ai [0, 0] ++ [(xS []), .nilSlice] ++ ai [0, 0, 0]))] ++ ai [0]))] ++ us 42
noncomputable def t849 : BT AObj := .n (.n .e o4 .e) o10 (.n .e o8 .e)
noncomputable def t850 : BT AObj := .n (.n .e o14 .e) o19 .e
noncomputable def t851 : BT AObj := .n t849 o21 t850
noncomputable def t852 : BT AObj := .n (.n .e o25 .e) o31 .e
noncomputable def t853 : BT AObj := .n (.n .e o35 .e) o40 .e
noncomputable def t854 : BT AObj := .n t852 o42 t853
noncomputable def t855 : BT AObj := .n t851 o44 t854
noncomputable def t856 : BT AObj := .n (.n .e o48 .e) o54 (.n .e o52 .e)
noncomputable def t857 : BT AObj := .n (.n .e o58 .e) o63 .e
noncomputable def t858 : BT AObj := .n t856 o65 t857
noncomputable def t859 : BT AObj := .n (.n .e o69 .e) ((oC [] 5 87)) .e
noncomputable def t860 : BT AObj := .n (.n .e o78 .e) o83 .e
noncomputable def t861 : BT AObj := .n t859 o85 t860
noncomputable def t862 : BT AObj := .n t858 o87 t861
noncomputable def t863 : BT AObj := .n t855 o89 t862
noncomputable def t864 : BT AObj := .n (.n .e o93 .e) ((oC (cs (ai [0])) 3 67)) (.n .e o97 .e)
noncomputable def t865 : BT AObj := .n (.n .e o102 .e) o106 .e
noncomputable def t866 : BT AObj := .n t864 o108 t865
noncomputable def t867 : BT AObj := .n (.n .e o112 .e) o117 .e
noncomputable def t868 : BT AObj := .n (.n .e o121 .e) o126 .e
noncomputable def t869 : BT AObj := .n t867 o128 t868
noncomputable def t870 : BT AObj := .n t866 o130 t869
noncomputable def t871 : BT AObj := .n (.n .e o134 .e) o140 .e
noncomputable def t872 : BT AObj := .n (.n .e o144 .e) o149 .e
noncomputable def t873 : BT AObj := .n t871 o772 t872
noncomputable def o874 : AObj := (oM (cs (ai [0, 0, 0] ++ [(xJ 0)] ++ au [0] ++ ai [0, 0] ++ [(xS [])])) 181 13 8 1 0 91)
noncomputable def t875 : BT AObj := .n (.n .e o155 .e) o874 .e
noncomputable def t876 : BT AObj := .n (.n .e o164 .e) o169 .e
noncomputable def t877 : BT AObj := .n t875 o171 t876
noncomputable def t878 : BT AObj := .n t873 o173 t877
noncomputable def t879 : BT AObj := .n t870 o175 t878
noncomputable def t880 : BT AObj := .n t863 o177 t879
noncomputable def t881 : BT AObj := .n (.n .e o181 .e) o187 (.n .e o185 .e)
noncomputable def t882 : BT AObj := .n (.n .e o191 .e) o196 .e
noncomputable def t883 : BT AObj := .n t881 o198 t882
noncomputable def t884 : BT AObj := .n (.n .e o202 .e) o67 .e
noncomputable def t885 : BT AObj := .n (.n .e o209 .e) o214 .e
noncomputable def t886 : BT AObj := .n t884 o216 t885
noncomputable def t887 : BT AObj := .n t883 o218 t886
noncomputable def t888 : BT AObj := .n (.n .e o222 .e) o228 .e
noncomputable def t889 : BT AObj := .n (.n .e o232 .e) o237 .e
noncomputable def t890 : BT AObj := .n t888 ((.map [] 0)) t889
noncomputable def o891 : AObj := (oC (cs ([(xP 40 0)] ++ ai [0] ++ [(xV 88 0 6 12 0)] ++ au [4] ++ ai [2, 17] ++ [(xJ 2)] ++ ai [0, 0, 0] ++ [(xS []), (xS []), (.int .u32 (.lit (.ofNat 0)))] ++ ai [0, 0] ++ au [0] ++ ai [0] ++ [xT, xT] ++ ai [0] ++ [xF] ++ ai [1] ++ [xF, xF, xF] ++ ai [0, 0] ++ [(xS [])] ++ ai [0, 0] ++ [(xS []), .nilPtr, .nilMap] ++ ai [0] ++ [.nilSlice] ++ ai [0] ++ [.nilFunc, .nilFunc] ++ ai [0] ++ [.nilSlice, .nilPtr, .nilPtr, .nilPtr, .nilPtr, .nilPtr, .nilPtr, .nilPtr, .nilFunc, .nilSlice] ++ ai [0, 0, 0, 0, 0] ++ [(xS []), (.int .u32 (.lit (.ofNat 0)))] ++ ai [0, 0] ++ au [0] ++ ai [0, 0] ++ au [0] ++ ai [0] ++ au [0] ++ [.nilSlice] ++ ai [0, 0, 0, 0] ++ au [0] ++ [.nilSlice, .nilSlice] ++ ai [0] ++ au [0] ++ ai [0, 0, 0, 0] ++ au [0] ++ [.nilSlice, .nilSlice] ++ ai [0] ++ au [0] ++ ai [0, 0, 0] ++ [.nilSlice])) 75 89)
noncomputable def t892 : BT AObj := .n (.n .e o243 .e) o891 .e
noncomputable def t893 : BT AObj := .n (.n .e o251 .e) o256 .e
noncomputable def t894 : BT AObj := .n t892 o258 t893
noncomputable def t895 : BT AObj := .n t890 o260 t894
noncomputable def t896 : BT AObj := .n t887 o262 t895
noncomputable def t897 : BT AObj := .n (.n .e o266 .e) ((.map [] 0)) (.n .e o270 .e)
noncomputable def t898 : BT AObj := .n (.n .e o275 .e) o280 .e
noncomputable def t899 : BT AObj := .n t897 ((oC [] 155 37)) t898
noncomputable def t900 : BT AObj := .n (.n .e o285 .e) o291 .e
noncomputable def t901 : BT AObj := .n (.n .e o295 .e) o300 .e
noncomputable def t902 : BT AObj := .n t900 o302 t901
noncomputable def t903 : BT AObj := .n t899 o304 t902
noncomputable def t904 : BT AObj := .n (.n .e o308 .e) o314 .e
noncomputable def t905 : BT AObj := .n (.n .e o317 .e) o322 .e
noncomputable def t906 : BT AObj := .n t904 o324 t905
noncomputable def t907 : BT AObj := .n (.n .e o328 .e) o333 .e
noncomputable def t908 : BT AObj := .n (.n .e o336 .e) o341 .e
noncomputable def t909 : BT AObj := .n t907 o343 t908
noncomputable def t910 : BT AObj := .n t906 o345 t909
noncomputable def t911 : BT AObj := .n t903 o347 t910
noncomputable def t912 : BT AObj := .n t896 o349 t911
noncomputable def t913 : BT AObj := .n t880 ((oC (cs (ay [17])) 5 1)) t912
noncomputable def t914 : BT AObj := .n (.n .e o354 .e) o360 (.n .e o358 .e)
noncomputable def t915 : BT AObj := .n (.n .e o364 .e) o369 .e
noncomputable def t916 : BT AObj := .n t914 o371 t915
noncomputable def t917 : BT AObj := .n (.n .e o375 .e) o381 .e
noncomputable def t918 : BT AObj := .n (.n .e o385 .e) o390 .e
noncomputable def t919 : BT AObj := .n t917 o392 t918
noncomputable def t920 : BT AObj := .n t916 o394 t919
noncomputable def t921 : BT AObj := .n (.n .e o398 .e) ((oC [] 115 72)) (.n .e o402 .e)
noncomputable def t922 : BT AObj := .n (.n .e o406 .e) o411 .e
noncomputable def t923 : BT AObj := .n t921 o413 t922
noncomputable def t924 : BT AObj := .n (.n .e o417 .e) o422 .e
noncomputable def t925 : BT AObj := .n (.n .e o426 .e) o431 .e
noncomputable def t926 : BT AObj := .n t924 o435 t925
noncomputable def t927 : BT AObj := .n t923 o435 t926
noncomputable def t928 : BT AObj := .n t920 o437 t927
noncomputable def t929 : BT AObj := .n (.n .e o441 .e) o447 (.n .e o445 .e)
noncomputable def t930 : BT AObj := .n (.n .e o451 .e) o456 .e
noncomputable def t931 : BT AObj := .n t929 o458 t930
noncomputable def t932 : BT AObj := .n (.n .e o462 .e) o468 .e
noncomputable def t933 : BT AObj := .n (.n .e o472 .e) o477 .e
noncomputable def t934 : BT AObj := .n t932 o479 t933
noncomputable def t935 : BT AObj := .n t931 o481 t934
noncomputable def t936 : BT AObj := .n (.n .e o485 .e) ((oC (cs (ai [0])) 3 76)) .e
noncomputable def t937 : BT AObj := .n (.n .e o493 .e) o498 .e
noncomputable def t938 : BT AObj := .n t936 o798 t937
noncomputable def t939 : BT AObj := .n (.n .e o503 .e) o508 .e
noncomputable def t940 : BT AObj := .n (.n .e o512 .e) o517 .e
noncomputable def t941 : BT AObj := .n t939 o519 t940
noncomputable def t942 : BT AObj := .n t938 o521 t941
noncomputable def t943 : BT AObj := .n t935 ((oC (cs (ay [1])) 5 12)) t942
noncomputable def t944 : BT AObj := .n t928 o524 t943
noncomputable def t945 : BT AObj := .n (.n .e o528 .e) o534 (.n .e o532 .e)
noncomputable def t946 : BT AObj := .n (.n .e o538 .e) o543 .e
noncomputable def t947 : BT AObj := .n t945 o545 t946
noncomputable def t948 : BT AObj := .n (.n .e o549 .e) o555 .e
noncomputable def t949 : BT AObj := .n (.n .e o559 .e) o564 .e
noncomputable def t950 : BT AObj := .n t948 o804 t949
noncomputable def t951 : BT AObj := .n t947 o568 t950
noncomputable def o952 : AObj := (oC (cs ([(xP 40 0), (xV 73 0 1 9 0), (xL 77 0 0 0), .nilSlice, .nilSlice, .nilSlice, .nilSlice, .nilSlice, .nilSlice, .nilSlice, (xP 89 0), .nilPtr, .nilPtr, .nilPtr, .nilPtr, .nilPtr, .nilPtr, .nilPtr] ++ ai [0, 0, 0, 0, 0, 0, 0, 0] ++ [(xV 198 0 1 14 0), (xV 91 0 1 13 0)])) 97 74)
noncomputable def t953 : BT AObj := .n (.n .e o572 .e) o952 .e
noncomputable def t954 : BT AObj := .n (.n .e o582 .e) o587 .e
noncomputable def t955 : BT AObj := .n t953 o589 t954
noncomputable def t956 : BT AObj := .n (.n .e o593 .e) o598 .e
noncomputable def t957 : BT AObj := .n (.n .e o602 .e) o607 .e
noncomputable def t958 : BT AObj := .n t956 o609 t957
noncomputable def t959 : BT AObj := .n t955 o611 t958
noncomputable def t960 : BT AObj := .n t951 o613 t959
noncomputable def t961 : BT AObj := .n (.n .e o617 .e) ((.map [] 0)) (.n .e o620 .e)
noncomputable def t962 : BT AObj := .n (.n .e o625 .e) o630 .e
noncomputable def t963 : BT AObj := .n t961 o632 t962
noncomputable def t964 : BT AObj := .n (.n .e o636 .e) o642 .e
noncomputable def t965 : BT AObj := .n (.n .e o646 .e) o651 .e
noncomputable def t966 : BT AObj := .n t964 ((oC [] 155 54)) t965
noncomputable def t967 : BT AObj := .n t963 ((oC [] 155 22)) t966
noncomputable def t968 : BT AObj := .n (.n .e o657 .e) o663 .e
noncomputable def t969 : BT AObj := .n (.n .e o667 .e) o672 .e
noncomputable def t970 : BT AObj := .n t968 o674 t969
noncomputable def t971 : BT AObj := .n (.n .e o678 .e) o682 .e
noncomputable def t972 : BT AObj := .n (.n .e o686 .e) o691 .e
noncomputable def t973 : BT AObj := .n t971 o693 t972
noncomputable def t974 : BT AObj := .n t970 o695 t973
noncomputable def t975 : BT AObj := .n t967 o697 t974
noncomputable def t976 : BT AObj := .n t960 o699 t975
noncomputable def t977 : BT AObj := .n t944 o701 t976
noncomputable def t978 : BT AObj := .n t913 o703 t977
noncomputable def m979 : BT (List Nat) := .n m707 [] m707
noncomputable def m980 : BT (List Nat) := .n m708 [] m979
noncomputable def m981 : BT (List Nat) := .n m980 [] m980
noncomputable def m982 : BT (List Nat) := .n m979 [] m979
noncomputable def m983 : BT (List Nat) := .n m980 [13] m982
noncomputable def m984 : BT (List Nat) := .n m981 [] m983
noncomputable def m985 : BT (List Nat) := .n m980 [] m982
noncomputable def m986 : BT (List Nat) := .n m985 [] m985
noncomputable def m987 : BT (List Nat) := .n m984 [] m986
noncomputable def m988 : BT (List Nat) := .n m981 [10, 8, 6] m985
noncomputable def m989 : BT (List Nat) := .n m988 [] m986
noncomputable def m990 : BT (List Nat) := .n m987 [] m989
noncomputable def h991 : Hp := Hp.lit t978 m990 201 15 (by kernel_rfl)
noncomputable def s992 : St := { tmps := l848, h := h991, pc := ([]), marks := [], pan := none }
noncomputable def t993 : BT AObj := .n (.n .e o308 .e) o729 .e
noncomputable def t994 : BT AObj := .n t993 o324 t905
noncomputable def t995 : BT AObj := .n t994 o345 t909
noncomputable def t996 : BT AObj := .n t903 o347 t995
noncomputable def t997 : BT AObj := .n t896 o349 t996
noncomputable def t998 : BT AObj := .n t880 ((oC (cs (ay [17])) 5 1)) t997
noncomputable def o999 : AObj := (oC (cs ([(xP 40 0), (xV 73 0 1 9 0), (xV 77 1 0 10 1), .nilSlice, .nilSlice, .nilSlice, .nilSlice, .nilSlice, .nilSlice, .nilSlice, (xP 89 0), .nilPtr, .nilPtr, .nilPtr, .nilPtr, .nilPtr, .nilPtr, .nilPtr] ++ ai [0, 0, 0, 0, 0, 0, 0, 0] ++ [(xV 198 0 1 14 0), (xV 91 0 1 13 0)])) 97 74)
noncomputable def t1000 : BT AObj := .n (.n .e o572 .e) o999 .e
noncomputable def t1001 : BT AObj := .n t1000 o589 t954
noncomputable def t1002 : BT AObj := .n t1001 o611 t958
noncomputable def t1003 : BT AObj := .n t951 o613 t1002
noncomputable def t1004 : BT AObj := .n t1003 o699 t975
noncomputable def t1005 : BT AObj := .n t944 o701 t1004
noncomputable def t1006 : BT AObj := .n t998 o703 t1005
noncomputable def h1007 : Hp := Hp.lit t1006 m990 201 15 (by kernel_rfl)
noncomputable def s1008 : St := { tmps := l848, h := h1007, pc := ([]), marks := [], pan := none }
set_option maxRecDepth 100000 in
theorem g7 : runOps Tryz.prog (runCall Tryz.prog true none 300 59) none (arrOf (sub B28 [true, true, true, true, true, false, true, false, false, true, false, false, false])) (seg (sub B28 [true, true, true, true, true, false, true, false, false, true, false, false, false]) 0 3) s847 = some [s992, s1008] := by kernel_rfl
noncomputable def l1009 : List AV := [xF, (xV 13 0 6 5 0), (xP 74 0)] ++ ai [0] ++ [(xL 78 0 6 6)] ++ ai [0] ++ [(xP 201 0)] ++ ai [0] ++ [(xA (ai [17] ++ [(xJ 2)] ++ ai [0, 0, 0] ++ [(xS []), (xS []), (.int .u32 (.lit (.ofNat 0)))] ++ ai [0, 0] ++ au [0] ++ ai [0] ++ [xT])), (xV 13 0 6 5 0), (.tuple ([(xP 74 0)] ++ ai [0])), (xA ([(xL 15 0 1 1)] ++ ai [4, 8, 8] ++ au [9, 99])), (xV 13 0 6 5 0), (xS [17, 253, 255, 255, 255, 1]), (xA (ai [0] ++ au [4] ++ [(xS [17, 253, 255, 255, 255, 1])])), (xL 16 0 1 1), (.tuple ([(xP 74 0)] ++ ai [0])), (xP 74 0)] ++ ai [0, 0] ++ [xF, xF, (xP 74 0), xF, xF, (xL 78 0 6 6)] ++ ai [0] ++ [(xL 78 0 6 6)] ++ ai [6] ++ [xT] ++ us 2 ++ [(.tuple ([(xA (ai [0] ++ au [0] ++ ai [1, 0, 0, 1] ++ [xF, xF, xF] ++ ai [0, 0] ++ [(xS []), .nilSlice] ++ ai [0, 0, 0]))] ++ ai [0])), (xP 74 0), (xA (ai [1, 0])), (.tuple ([(xA (ai [0] ++ au [0] ++ ai [1, 0, 0, 1] ++ [xF, xF, xF] ++ ai [0, 0] ++ [(xS []), .nilSlice] ++ ai [0, 0, 0]))] ++ ai [0])), (xA (ai [0] ++ au [0] ++ ai [1, 0, 0, 1] ++ [xF, xF, xF] ++ ai [0, 0] ++ [(xS []), .nilSlice] ++ ai [0, 0, 0]))] ++ ai [0] ++ us 40
noncomputable def t1010 : BT AObj := .n (.n .e o222 .e) o228 (.n .e o226 .e)
noncomputable def t1011 : BT AObj := .n t1010 ((.map [] 0)) t889
noncomputable def t1012 : BT AObj := .n t1011 o260 t894
noncomputable def t1013 : BT AObj := .n t887 o262 t1012
noncomputable def t1014 : BT AObj := .n t1013 o349 t911
noncomputable def t1015 : BT AObj := .n t880 ((oC (cs (ay [17])) 5 1)) t1014
noncomputable def t1016 : BT AObj := .n t1015 o703 t977
noncomputable def m1017 : BT (List Nat) := .n m981 [] m985
noncomputable def m1018 : BT (List Nat) := .n m984 [] m1017
noncomputable def m1019 : BT (List Nat) := .n m1018 [] m989
noncomputable def h1020 : Hp := Hp.lit t1016 m1019 202 15 (by kernel_rfl)
noncomputable def s1021 : St := { tmps := l1009, h := h1020, pc := ([]), marks := [], pan := none }
set_option maxRecDepth 100000 in
theorem g8 : runOps Tryz.prog (runCall Tryz.prog true none 300 59) none (arrOf (sub B28 [true, true, true, true, true, false, true, false, false, true, false, false, false])) ((arrOf (sub B28 [true, true, true, true, true, false, true, false, false, true, false, false, false])).toList.drop 3) s992 = some [s1021] := by kernel_rfl
noncomputable def t1022 : BT AObj := .n t1013 o349 t996
noncomputable def t1023 : BT AObj := .n t880 ((oC (cs (ay [17])) 5 1)) t1022
noncomputable def t1024 : BT AObj := .n t1023 o703 t1005
noncomputable def h1025 : Hp := Hp.lit t1024 m1019 202 15 (by kernel_rfl)
noncomputable def s1026 : St := { tmps := l1009, h := h1025, pc := ([]), marks := [], pan := none }
set_option maxRecDepth 100000 in
theorem g9 : runOps Tryz.prog (runCall Tryz.prog true none 300 59) none (arrOf (sub B28 [true, true, true, true, true, false, true, false, false, true, false, false, false])) ((arrOf (sub B28 [true, true, true, true, true, false, true, false, false, true, false, false, false])).toList.drop 3) s1008 = some [s1026] := by kernel_rfl
set_option maxRecDepth 100000 in
theorem g10 : runOps Tryz.prog (runCall Tryz.prog true none 300 59) none (arrOf (sub B28 [true, true, true, true, true, false, true, false, false, true, false, false, false])) ((arrOf (sub B28 [true, true, true, true, true, false, true, false, false, true, false, false, false])).toList.drop 0) s847 = some [s1021, s1026] := cut_ops (i := 0) (k := 3) (j := 3) rfl g7 (by kernel_rfl) (each_go g8 (each_go g9 each_nil))
set_option maxRecDepth 100000 in
theorem g11 : runCode Tryz.prog true (runCall Tryz.prog true none 300 59) none 287 none (sub B28 [true, true, true, true, true, false, true, false, false, true, false, false, false]) s847 = some [(.normal, s1021), (.normal, s1026)] := (cut_region (id := 9) (by kernel_rfl) g10).trans (by kernel_rfl)
noncomputable def l1027 : List AV := [xF, (xV 13 0 6 5 0), (xP 74 0)] ++ ai [0] ++ [(xL 78 0 6 6)] ++ ai [0] ++ [(xP 201 0)] ++ ai [0] ++ [(xA (ai [17] ++ [(xJ 2)] ++ ai [0, 0, 0] ++ [(xS []), (xS []), (.int .u32 (.lit (.ofNat 0)))] ++ ai [0, 0] ++ au [0] ++ ai [0] ++ [xT])), (xV 13 0 6 5 0), (.tuple ([(xP 74 0)] ++ ai [0])), (xA ([(xL 15 0 1 1)] ++ ai [4, 8, 8] ++ au [9, 99])), (xV 13 0 6 5 0), (xS [17, 253, 255, 255, 255, 1]), (xA (ai [0] ++ au [4] ++ [(xS [17, 253, 255, 255, 255, 1])])), (xL 16 0 1 1), (.tuple ([(xP 74 0)] ++ ai [0])), (xP 74 0)] ++ ai [0, 0] ++ [xF, xF, (xP 74 0), xF, xF, (xL 78 0 6 6)] ++ ai [0] ++ [(xL 78 0 6 6)] ++ ai [6] ++ [xT] ++ us 2 ++ [(.tuple ([(xA (ai [0] ++ au [0] ++ ai [1, 0, 0, 1] ++ [xF, xF, xF] ++ ai [0, 0] ++ [(xS []), .nilSlice] ++ ai [0, 0, 0]))] ++ ai [0])), (xP 74 0), (xA (ai [1, 0])), (.tuple ([(xA (ai [0] ++ au [0] ++ ai [1, 0, 0, 1] ++ [xF, xF, xF] ++ ai [0, 0] ++ [(xS []), .nilSlice] ++ ai [0, 0, 0]))] ++ ai [0])), (xA (ai [0] ++ au [0] ++ ai [1, 0, 0, 1] ++ [xF, xF, xF] ++ ai [0, 0] ++ [(xS []), .nilSlice] ++ ai [0, 0, 0]))] ++ ai [0, 0] ++ [xF, xF, (xP 201 5), (xP 201 5)] ++ ai [1] ++ [(xL 78 0 6 6)] ++ ai [0] ++ [(xP 78 0)] ++ ai [1] ++ [xF, xF, xF, (xP 201 5), (xP 201 8), xF] ++ ai [0] ++ [xF, xF, xF, xF] ++ ai [0] ++ [xF, xF] ++ us 5 ++ [xF, xF, xF, (xP 201 4)] ++ ai [0] ++ [xT, xT] ++ ai [0] ++ [xF, xF, xF]
noncomputable def s1028 : St := { tmps := l1027, h := h1020, pc := ([]), marks := [], pan := none }
set_option maxRecDepth 100000 in
theorem g12 : runCode Tryz.prog true (runCall Tryz.prog true none 300 59) none 287 none (sub B28 [true, true, true, true, true, false, true, false, false, true, false, false, true]) s1021 = some [(.normal, s1028)] := by kernel_rfl
noncomputable def s1029 : St := { tmps := l1027, h := h1025, pc := ([]), marks := [], pan := none }
set_option maxRecDepth 100000 in
theorem g13 : runCode Tryz.prog true (runCall Tryz.prog true none 300 59) none 287 none (sub B28 [true, true, true, true, true, false, true, false, false, true, false, false, true]) s1026 = some [(.normal, s1029)] := by kernel_rfl
set_option maxRecDepth 100000 in
theorem g14 : runCode Tryz.prog true (runCall Tryz.prog true none 300 59) none 288 none (sub B28 [true, true, true, true, true, false, true, false, false, true, false, false]) s847 = some [(.normal, s1028), (.normal, s1029)] := cut_seqs (x := (sub B28 [true, true, true, true, true, false, true, false, false, true, false, false, false])) (y := (sub B28 [true, true, true, true, true, false, true, false, false, true, false, false, true])) (n := 287) (by kernel_rfl) g11 (then_go g12 (then_go g13 then_nil))
set_option maxRecDepth 100000 in
theorem g15 : runCode Tryz.prog true (runCall Tryz.prog true none 300 59) none 289 none (sub B28 [true, true, true, true, true, false, true, false, false, true, false]) s847 = some [(.normal, s1028), (.normal, s1029)] := cut_block (id := 1) (x := (sub B28 [true, true, true, true, true, false, true, false, false, true, false, false])) (n := 288) (by kernel_rfl) g14
noncomputable def l1030 : List AV := [xF, (xV 13 0 6 5 0), (xP 74 0)] ++ ai [0] ++ [(xL 78 0 6 6)] ++ ai [1] ++ [(xP 201 0)] ++ ai [0] ++ [(xA (ai [17] ++ [(xJ 2)] ++ ai [0, 0, 0] ++ [(xS []), (xS []), (.int .u32 (.lit (.ofNat 0)))] ++ ai [0, 0] ++ au [0] ++ ai [0] ++ [xT])), (xV 13 0 6 5 0), (.tuple ([(xP 74 0)] ++ ai [0])), (xA ([(xL 15 0 1 1)] ++ ai [4, 8, 8] ++ au [9, 99])), (xV 13 0 6 5 0), (xS [17, 253, 255, 255, 255, 1]), (xA (ai [0] ++ au [4] ++ [(xS [17, 253, 255, 255, 255, 1])])), (xL 16 0 1 1), (.tuple ([(xP 74 0)] ++ ai [0])), (xP 74 0)] ++ ai [0, 0] ++ [xF, xF, (xP 74 0), xF, xF, (xL 78 0 6 6)] ++ ai [0] ++ [(xL 78 0 6 6)] ++ ai [6] ++ [xT] ++ ai [0, 1] ++ [(.tuple ([(xA (ai [0] ++ au [0] ++ ai [1, 0, 0, 1] ++ [xF, xF, xF] ++ ai [0, 0] ++ [(xS []), .nilSlice] ++ ai [0, 0, 0]))] ++ ai [0])), (xP 74 0), (xA (ai [1, 0])), (.tuple ([(xA (ai [0] ++ au [0] ++ ai [1, 0, 0, 1] ++ [xF, xF, xF] ++ ai [0, 0] ++ [(xS []), .nilSlice] ++ ai [0, 0, 0]))] ++ ai [0])), (xA (ai [0] ++ au [0] ++ ai [1, 0, 0, 1] ++ [xF, xF, xF] ++ ai [0, 0] ++ [(xS []), .nilSlice] ++ ai [0, 0, 0]))] ++ ai [0, 0] ++ [xF, xF, (xP 201 5), (xP 201 5)] ++ ai [1] ++ [(xL 78 0 6 6)] ++ ai [0] ++ [(xP 78 0)] ++ ai [1] ++ [xF, xF, xF, (xP 201 5), (xP 201 8), xF] ++ ai [0] ++ [xF, xF, xF, xF] ++ ai [0] ++ [xF, xF] ++ us 5 ++ [xF, xF, xF, (xP 201 4)] ++ ai [0] ++ [xT, xT] ++ ai [0] ++ [xF, xF, xF]
noncomputable def s1031 : St := { tmps := l1030, h := h1020, pc := ([]), marks := [], pan := none }
set_option maxRecDepth 100000 in
theorem g16 : runCode Tryz.prog true (runCall Tryz.prog true none 300 59) none 289 none (sub B28 [true, true, true, true, true, false, true, false, false, true, true]) s1028 = some [(.normal, s1031)] := by kernel_rfl
noncomputable def s1032 : St := { tmps := l1030, h := h1025, pc := ([]), marks := [], pan := none }
set_option maxRecDepth 100000 in
theorem g17 : runCode Tryz.prog true (runCall Tryz.prog true none 300 59) none 289 none (sub B28 [true, true, true, true, true, false, true, false, false, true, true]) s1029 = some [(.normal, s1032)] := by kernel_rfl
set_option maxRecDepth 100000 in
theorem g18 : runCode Tryz.prog true (runCall Tryz.prog true none 300 59) none 290 none (sub B28 [true, true, true, true, true, false, true, false, false, true]) s847 = some [(.normal, s1031), (.normal, s1032)] := cut_seqs (x := (sub B28 [true, true, true, true, true, false, true, false, false, true, false])) (y := (sub B28 [true, true, true, true, true, false, true, false, false, true, true])) (n := 289) (by kernel_rfl) g15 (then_go g16 (then_go g17 then_nil))
set_option maxRecDepth 100000 in
theorem g19 : runCode Tryz.prog true (runCall Tryz.prog true none 300 59) none 291 none (sub B28 [true, true, true, true, true, false, true, false, false]) s845 = some [(.normal, s1031), (.normal, s1032)] := cut_seqs (x := (sub B28 [true, true, true, true, true, false, true, false, false, false])) (y := (sub B28 [true, true, true, true, true, false, true, false, false, true])) (n := 290) (by kernel_rfl) g6 (then_go g18 then_nil)
noncomputable def l1033 : List AV := [xF, (xV 13 0 6 5 0), (xP 74 0)] ++ ai [0] ++ [(xL 78 0 6 6)] ++ ai [2] ++ [(xP 219 0)] ++ ai [0] ++ [(xA (ai [17] ++ [(xJ 2)] ++ ai [0, 0, 0] ++ [(xS []), (xS []), (.int .u32 (.lit (.ofNat 0)))] ++ ai [0, 0] ++ au [0] ++ ai [0] ++ [xT])), (xV 13 0 6 5 0), (.tuple ([(xP 74 0)] ++ ai [0])), (xA ([(xL 15 0 1 1)] ++ ai [4, 8, 8] ++ au [9, 99])), (xV 13 0 6 5 0), (xS [17, 253, 255, 255, 255, 1]), (xA (ai [0] ++ au [4] ++ [(xS [17, 253, 255, 255, 255, 1])])), (xL 16 0 1 1), (.tuple ([(xP 74 0)] ++ ai [0])), (xP 74 0)] ++ ai [0, 0] ++ [xF, xF, (xP 74 0), xF, xF, (xL 78 0 6 6)] ++ ai [1] ++ [(xL 78 0 6 6)] ++ ai [6] ++ [xT] ++ ai [1, 2] ++ [(.tuple ([(xA (ai [1] ++ au [0] ++ ai [1, 0, 0, 2] ++ [xF, xF, xF] ++ ai [0, 0] ++ [(xS []), .nilSlice] ++ ai [0, 0, 0]))] ++ ai [0])), (xP 74 0), (xA (ai [1, 0])), (.tuple ([(xA (ai [1] ++ au [0] ++ ai [1, 0, 0, 2] ++ [xF, xF, xF] ++ ai [0, 0] ++ [(xS []), .nilSlice] ++ ai [0, 0, 0]))] ++ ai [0])), (xA (ai [1] ++ au [0] ++ ai [1, 0, 0, 2] ++ [xF, xF, xF] ++ ai [0, 0] ++ [(xS []), .nilSlice] ++ ai [0, 0, 0]))] ++ ai [0, 0] ++ [xF, xF, (xP 219 5), (xP 219 5)] ++ ai [2] ++ [(xL 78 0 6 6)] ++ ai [1] ++ [(xP 78 1)] ++ ai [2] ++ [xF, xF, xF, (xP 219 5), (xP 219 8), xF] ++ ai [1] ++ [xF, xF, xF, xF] ++ ai [1] ++ [xF, xF] ++ us 5 ++ [xF, xF, xF, (xP 219 4)] ++ ai [0] ++ [xT, xT] ++ ai [1] ++ [xF, xF, xF]
noncomputable def t1034 : BT AObj := .n (.n .e o25 .e) o31 (.n .e o29 .e)
noncomputable def t1035 : BT AObj := .n t1034 o42 t853
noncomputable def t1036 : BT AObj := .n t851 o44 t1035
noncomputable def t1037 : BT AObj := .n (.n .e o69 .e) ((oC [] 5 87)) (.n .e o73 .e)
noncomputable def t1038 : BT AObj := .n t1037 o85 t860
noncomputable def t1039 : BT AObj := .n t858 o87 t1038
noncomputable def t1040 : BT AObj := .n t1036 o89 t1039
noncomputable def t1041 : BT AObj := .n (.n .e o93 .e) ((oC (cs (ai [1])) 3 67)) (.n .e o97 .e)
noncomputable def t1042 : BT AObj := .n t1041 o108 t865
noncomputable def t1043 : BT AObj := .n (.n .e o112 .e) o117 (.n .e ((.map [] 0)) .e)
noncomputable def t1044 : BT AObj := .n t1043 o128 t868
noncomputable def t1045 : BT AObj := .n t1042 o130 t1044
noncomputable def t1046 : BT AObj := .n (.n .e o134 .e) o140 (.n .e o138 .e)
noncomputable def t1047 : BT AObj := .n t1046 o772 t872
noncomputable def t1048 : BT AObj := .n (.n .e o155 .e) o874 (.n .e o158 .e)
noncomputable def t1049 : BT AObj := .n t1048 o171 t876
noncomputable def t1050 : BT AObj := .n t1047 o173 t1049
noncomputable def t1051 : BT AObj := .n t1045 o175 t1050
noncomputable def t1052 : BT AObj := .n t1040 o177 t1051
noncomputable def t1053 : BT AObj := .n (.n .e o202 .e) o67 (.n .e o19 .e)
noncomputable def t1054 : BT AObj := .n t1053 o216 t885
noncomputable def t1055 : BT AObj := .n t883 o218 t1054
noncomputable def o1056 : AObj := (oC (cs ([(xP 40 0)] ++ ai [0] ++ [(xV 88 0 6 12 0)] ++ au [4] ++ ai [3, 17] ++ [(xJ 2)] ++ ai [0, 0, 0] ++ [(xS []), (xS []), (.int .u32 (.lit (.ofNat 0)))] ++ ai [0, 0] ++ au [0] ++ ai [0] ++ [xT, xT] ++ ai [0] ++ [xT] ++ ai [2] ++ [xF, xF, xF] ++ ai [0, 0] ++ [(xS [])] ++ ai [0, 0] ++ [(xS []), (xP 210 0), (.map 211)] ++ ai [0] ++ [(xV 213 0 1 15 0)] ++ ai [0] ++ [.nilFunc, .nilFunc] ++ ai [0] ++ [.nilSlice, .nilPtr, .nilPtr, .nilPtr, .nilPtr, .nilPtr, .nilPtr, .nilPtr, .nilFunc, .nilSlice] ++ ai [0, 0, 0, 0, 0] ++ [(xS []), (.int .u32 (.lit (.ofNat 0)))] ++ ai [0, 0] ++ au [0] ++ ai [0, 0] ++ au [0] ++ ai [0] ++ au [0] ++ [.nilSlice] ++ ai [0, 0, 0, 0] ++ au [0] ++ [.nilSlice, .nilSlice] ++ ai [0] ++ au [0] ++ ai [0, 0, 0, 0] ++ au [0] ++ [.nilSlice, .nilSlice] ++ ai [0] ++ au [0] ++ ai [0, 0, 0] ++ [.nilSlice])) 75 89)
noncomputable def t1057 : BT AObj := .n (.n .e o243 .e) o1056 (.n .e o246 .e)
noncomputable def t1058 : BT AObj := .n t1057 o258 t893
noncomputable def t1059 : BT AObj := .n t1011 o260 t1058
noncomputable def t1060 : BT AObj := .n t1055 o262 t1059
noncomputable def o1061 : AObj := (oM (cs ([(xJ 2)] ++ ai [0, 0] ++ [(xS []), xF, xT])) 241 15 6 1 0 213)
noncomputable def t1062 : BT AObj := .n (.n .e o285 .e) o291 (.n .e o1061 .e)
noncomputable def t1063 : BT AObj := .n t1062 o302 t901
noncomputable def t1064 : BT AObj := .n t899 o304 t1063
noncomputable def t1065 : BT AObj := .n (.n .e o308 .e) o314 (.n .e o312 .e)
noncomputable def t1066 : BT AObj := .n t1065 o324 t905
noncomputable def t1067 : BT AObj := .n t1066 o345 t909
noncomputable def t1068 : BT AObj := .n t1064 o347 t1067
noncomputable def t1069 : BT AObj := .n t1060 o349 t1068
noncomputable def t1070 : BT AObj := .n t1052 ((oC (cs (ay [17])) 5 1)) t1069
noncomputable def t1071 : BT AObj := .n (.n .e o375 .e) o381 (.n .e o379 .e)
noncomputable def t1072 : BT AObj := .n t1071 o392 t918
noncomputable def t1073 : BT AObj := .n t916 o394 t1072
noncomputable def t1074 : BT AObj := .n (.n .e o417 .e) o422 (.n .e o420 .e)
noncomputable def t1075 : BT AObj := .n t1074 o435 t925
noncomputable def t1076 : BT AObj := .n t923 o435 t1075
noncomputable def t1077 : BT AObj := .n t1073 o437 t1076
noncomputable def t1078 : BT AObj := .n (.n .e o462 .e) o468 (.n .e o466 .e)
noncomputable def t1079 : BT AObj := .n t1078 o479 t933
noncomputable def t1080 : BT AObj := .n t931 o481 t1079
noncomputable def t1081 : BT AObj := .n (.n .e o485 .e) ((oC (cs (ai [0])) 3 76)) (.n .e o67 .e)
noncomputable def t1082 : BT AObj := .n t1081 o798 t937
noncomputable def t1083 : BT AObj := .n t1082 o521 t941
noncomputable def t1084 : BT AObj := .n t1080 ((oC (cs (ay [1])) 5 12)) t1083
noncomputable def t1085 : BT AObj := .n t1077 o524 t1084
noncomputable def o1086 : AObj := (oC (cs ([.nilMap, .nilSlice, xF])) 288 210)
noncomputable def t1087 : BT AObj := .n (.n .e o549 .e) o555 (.n .e o1086 .e)
noncomputable def t1088 : BT AObj := .n t1087 o804 t949
noncomputable def t1089 : BT AObj := .n t947 o568 t1088
noncomputable def o1090 : AObj := (oC (cs ([(xP 40 0), (xV 73 0 1 9 0), (xL 77 0 0 0), .nilSlice, .nilSlice, .nilSlice, .nilSlice, .nilSlice, .nilSlice, .nilSlice, (xP 89 0), .nilPtr, .nilPtr, .nilPtr, .nilPtr, .nilPtr, .nilPtr, .nilPtr] ++ ai [0, 0, 0, 0, 0, 0, 0, 0] ++ [(xV 216 0 2 16 0), (xV 91 0 1 13 0)])) 97 74)
noncomputable def t1091 : BT AObj := .n (.n .e o572 .e) o1090 (.n .e o576 .e)
noncomputable def t1092 : BT AObj := .n t1091 o589 t954
noncomputable def t1093 : BT AObj := .n (.n .e o593 .e) o598 (.n .e o596 .e)
noncomputable def t1094 : BT AObj := .n t1093 o609 t957
noncomputable def t1095 : BT AObj := .n t1092 o611 t1094
noncomputable def t1096 : BT AObj := .n t1089 o613 t1095
noncomputable def t1097 : BT AObj := .n (.n .e o636 .e) o642 (.n .e o640 .e)
noncomputable def t1098 : BT AObj := .n t1097 ((oC [] 155 54)) t965
noncomputable def t1099 : BT AObj := .n t963 ((oC [] 155 22)) t1098
noncomputable def t1100 : BT AObj := .n (.n .e o657 .e) o663 (.n .e o661 .e)
noncomputable def t1101 : BT AObj := .n t1100 o674 t969
noncomputable def t1102 : BT AObj := .n t1101 o695 t973
noncomputable def t1103 : BT AObj := .n t1099 o697 t1102
noncomputable def t1104 : BT AObj := .n t1096 o699 t1103
noncomputable def t1105 : BT AObj := .n t1085 o701 t1104
noncomputable def t1106 : BT AObj := .n t1070 o703 t1105
noncomputable def m1107 : BT (List Nat) := .n m712 [] m712
noncomputable def m1108 : BT (List Nat) := .n m712 [13] m712
noncomputable def m1109 : BT (List Nat) := .n m1107 [] m1108
noncomputable def m1110 : BT (List Nat) := .n m712 [] m980
noncomputable def m1111 : BT (List Nat) := .n m1107 [] m1110
noncomputable def m1112 : BT (List Nat) := .n m1109 [] m1111
noncomputable def m1113 : BT (List Nat) := .n m1107 [10, 8, 6] m1110
noncomputable def m1114 : BT (List Nat) := .n (.n .e [] .e) [] (.n .e [216] .e)
noncomputable def m1115 : BT (List Nat) := .n m1114 [] m707
noncomputable def m1116 : BT (List Nat) := .n m1115 [] m708
noncomputable def m1117 : BT (List Nat) := .n m1116 [] m980
noncomputable def m1118 : BT (List Nat) := .n m1107 [] m1117
noncomputable def m1119 : BT (List Nat) := .n m1113 [] m1118
noncomputable def m1120 : BT (List Nat) := .n m1112 [] m1119
noncomputable def h1121 : Hp := Hp.lit t1106 m1120 220 17 (by kernel_rfl)
noncomputable def s1122 : St := { tmps := l1033, h := h1121, pc := ([]), marks := [], pan := none }
set_option maxRecDepth 100000 in
theorem g20 : runCode Tryz.prog true (runCall Tryz.prog true none 300 59) none 290 none (sub B28 [true, true, true, true, true, false, true, false, false]) s1031 = some [(.normal, s1122)] := by kernel_rfl
noncomputable def l1123 : List AV := [xF, (xV 13 0 6 5 0), (xP 74 0)] ++ ai [0] ++ [(xL 78 0 6 6)] ++ ai [3] ++ [(xP 276 0)] ++ ai [0] ++ [(xA (ai [17] ++ [(xJ 2)] ++ ai [0, 0, 0] ++ [(xS []), (xS []), (.int .u32 (.lit (.ofNat 0)))] ++ ai [0, 0] ++ au [0] ++ ai [0] ++ [xT])), (xV 13 0 6 5 0), (.tuple ([(xP 74 0)] ++ ai [0])), (xA ([(xL 15 0 1 1)] ++ ai [4, 8, 8] ++ au [9, 99])), (xV 13 0 6 5 0), (xS [17, 253, 255, 255, 255, 1]), (xA (ai [0] ++ au [4] ++ [(xS [17, 253, 255, 255, 255, 1])])), (xL 16 0 1 1), (.tuple ([(xP 74 0)] ++ ai [0])), (xP 74 0)] ++ ai [0, 0] ++ [xF, xF, (xP 74 0), xF, xF, (xL 78 0 6 6)] ++ ai [2] ++ [(xL 78 0 6 6)] ++ ai [6] ++ [xT] ++ ai [2, 3] ++ [(.tuple ([(xA (ai [2] ++ au [0] ++ ai [1, 0, 0, 3] ++ [xF, xF, xF] ++ ai [0, 0] ++ [(xS []), .nilSlice] ++ ai [0, 0, 0]))] ++ ai [0])), (xP 74 0), (xA (ai [1, 0])), (.tuple ([(xA (ai [2] ++ au [0] ++ ai [1, 0, 0, 3] ++ [xF, xF, xF] ++ ai [0, 0] ++ [(xS []), .nilSlice] ++ ai [0, 0, 0]))] ++ ai [0])), (xA (ai [2] ++ au [0] ++ ai [1, 0, 0, 3] ++ [xF, xF, xF] ++ ai [0, 0] ++ [(xS []), .nilSlice] ++ ai [0, 0, 0]))] ++ ai [0, 0] ++ [xF, xF, (xP 276 5), (xP 276 5)] ++ ai [3] ++ [(xL 78 0 6 6)] ++ ai [2] ++ [(xP 78 2)] ++ ai [3] ++ [xF, xF, xF, (xP 276 5), (xP 276 8), xF] ++ ai [2] ++ [xF, xF, xF, xF] ++ ai [2] ++ [xF, xF] ++ us 5 ++ [xF, xF, xF, (xP 276 4)] ++ ai [0] ++ [xT, xT] ++ ai [2] ++ [xF, xF, xF]
noncomputable def t1124 : BT AObj := .n (.n .e o2 .e) o4 .e
noncomputable def t1125 : BT AObj := .n t1124 o10 (.n .e o8 .e)
noncomputable def t1126 : BT AObj := .n (.n .e o14 .e) o19 (.n .e o17 .e)
noncomputable def t1127 : BT AObj := .n t1125 o21 t1126
noncomputable def t1128 : BT AObj := .n (.n .e o23 .e) o25 .e
noncomputable def t1129 : BT AObj := .n t1128 o31 (.n .e o29 .e)
noncomputable def t1130 : BT AObj := .n (.n .e o35 .e) o40 (.n .e o38 .e)
noncomputable def t1131 : BT AObj := .n t1129 o42 t1130
noncomputable def t1132 : BT AObj := .n t1127 o44 t1131
noncomputable def t1133 : BT AObj := .n (.n .e o46 .e) o48 .e
noncomputable def t1134 : BT AObj := .n t1133 o54 (.n .e o52 .e)
noncomputable def t1135 : BT AObj := .n (.n .e o58 .e) o63 (.n .e o61 .e)
noncomputable def t1136 : BT AObj := .n t1134 o65 t1135
noncomputable def t1137 : BT AObj := .n (.n .e o78 .e) o83 (.n .e o81 .e)
noncomputable def t1138 : BT AObj := .n t1037 o85 t1137
noncomputable def t1139 : BT AObj := .n t1136 o87 t1138
noncomputable def t1140 : BT AObj := .n t1132 o89 t1139
noncomputable def t1141 : BT AObj := .n (.n .e o91 .e) o93 .e
noncomputable def t1142 : BT AObj := .n t1141 ((oC (cs (ai [1])) 3 67)) (.n .e o97 .e)
noncomputable def t1143 : BT AObj := .n (.n .e o102 .e) o106 (.n .e o19 .e)
noncomputable def t1144 : BT AObj := .n t1142 o108 t1143
noncomputable def t1145 : BT AObj := .n (.n .e o110 .e) o112 .e
noncomputable def t1146 : BT AObj := .n t1145 o117 (.n .e ((.map [] 0)) .e)
noncomputable def t1147 : BT AObj := .n (.n .e o121 .e) o126 (.n .e o124 .e)
noncomputable def t1148 : BT AObj := .n t1146 o128 t1147
noncomputable def t1149 : BT AObj := .n t1144 o130 t1148
noncomputable def t1150 : BT AObj := .n (.n .e o132 .e) o134 .e
noncomputable def t1151 : BT AObj := .n t1150 o140 (.n .e o138 .e)
noncomputable def t1152 : BT AObj := .n (.n .e o144 .e) o149 (.n .e o147 .e)
noncomputable def t1153 : BT AObj := .n t1151 o772 t1152
noncomputable def t1154 : BT AObj := .n (.n .e o164 .e) o169 (.n .e o167 .e)
noncomputable def t1155 : BT AObj := .n t1048 o171 t1154
noncomputable def t1156 : BT AObj := .n t1153 o173 t1155
noncomputable def t1157 : BT AObj := .n t1149 o175 t1156
noncomputable def t1158 : BT AObj := .n t1140 o177 t1157
noncomputable def t1159 : BT AObj := .n (.n .e o179 .e) o181 .e
noncomputable def t1160 : BT AObj := .n t1159 o187 (.n .e o185 .e)
noncomputable def t1161 : BT AObj := .n (.n .e o191 .e) o196 (.n .e o194 .e)
noncomputable def t1162 : BT AObj := .n t1160 o198 t1161
noncomputable def t1163 : BT AObj := .n (.n .e o200 .e) o202 .e
noncomputable def t1164 : BT AObj := .n t1163 o67 (.n .e o19 .e)
noncomputable def t1165 : BT AObj := .n (.n .e o209 .e) o214 (.n .e o212 .e)
noncomputable def t1166 : BT AObj := .n t1164 o216 t1165
noncomputable def t1167 : BT AObj := .n t1162 o218 t1166
noncomputable def t1168 : BT AObj := .n (.n .e o220 .e) o222 .e
noncomputable def t1169 : BT AObj := .n t1168 o228 (.n .e o226 .e)
noncomputable def t1170 : BT AObj := .n (.n .e o232 .e) o237 (.n .e o235 .e)
noncomputable def t1171 : BT AObj := .n t1169 ((.map [] 0)) t1170
noncomputable def o1172 : AObj := (oC (cs ([(xP 40 0)] ++ ai [0] ++ [(xV 88 0 6 12 0)] ++ au [4] ++ ai [11, 17] ++ [(xJ 2)] ++ ai [0, 0, 0] ++ [(xS []), (xS []), (.int .u32 (.lit (.ofNat 0)))] ++ ai [0, 0] ++ au [0] ++ ai [0] ++ [xT, xT] ++ ai [0] ++ [xT] ++ ai [3] ++ [xF, xF, xF] ++ ai [0, 0] ++ [(xS [])] ++ ai [0, 0] ++ [(xS []), (xP 210 0), (.map 211)] ++ ai [1] ++ [(xV 213 0 1 15 0)] ++ ai [1] ++ [(.func 353 ([(xP 89 0)]) ([])), .nilFunc] ++ ai [0] ++ [.nilSlice, .nilPtr, .nilPtr, .nilPtr, .nilPtr, .nilPtr, .nilPtr, .nilPtr, .nilFunc, .nilSlice] ++ ai [13, 0, 0, 0, 4] ++ [(xS [95, 115, 101, 115]), (.int .u32 (.lit (.ofNat 0)))] ++ ai [0, 0] ++ au [0] ++ ai [0] ++ [(xJ 2)] ++ au [4] ++ ai [0] ++ au [0] ++ [.nilSlice] ++ ai [0, 0, 0, 0] ++ au [0] ++ [.nilSlice, .nilSlice] ++ ai [0] ++ au [0] ++ ai [0, 0, 0, 0] ++ au [0] ++ [.nilSlice, .nilSlice] ++ ai [0] ++ au [0] ++ ai [0, 0, 0] ++ [.nilSlice])) 75 89)
noncomputable def t1173 : BT AObj := .n (.n .e o243 .e) o1172 (.n .e o246 .e)
noncomputable def t1174 : BT AObj := .n (.n .e o251 .e) o256 (.n .e o254 .e)
noncomputable def t1175 : BT AObj := .n t1173 o258 t1174
noncomputable def t1176 : BT AObj := .n t1171 o260 t1175
noncomputable def t1177 : BT AObj := .n t1167 o262 t1176
noncomputable def t1178 : BT AObj := .n (.n .e o264 .e) o266 .e
noncomputable def t1179 : BT AObj := .n t1178 ((.map [] 0)) (.n .e o270 .e)
noncomputable def t1180 : BT AObj := .n (.n .e o275 .e) o280 (.n .e o278 .e)
noncomputable def t1181 : BT AObj := .n t1179 ((oC [] 155 37)) t1180
noncomputable def t1182 : BT AObj := .n (.n .e o285 .e) o291 (.n .e o289 .e)
noncomputable def t1183 : BT AObj := .n (.n .e o295 .e) o300 (.n .e o298 .e)
noncomputable def t1184 : BT AObj := .n t1182 o302 t1183
noncomputable def t1185 : BT AObj := .n t1181 o304 t1184
noncomputable def t1186 : BT AObj := .n (.n .e o306 .e) o308 .e
noncomputable def t1187 : BT AObj := .n t1186 o314 (.n .e o312 .e)
noncomputable def t1188 : BT AObj := .n (.n .e o317 .e) o322 (.n .e o320 .e)
noncomputable def t1189 : BT AObj := .n t1187 o324 t1188
noncomputable def t1190 : BT AObj := .n (.n .e o328 .e) o333 (.n .e o331 .e)
noncomputable def t1191 : BT AObj := .n (.n .e o336 .e) o341 (.n .e o339 .e)
noncomputable def t1192 : BT AObj := .n t1190 o343 t1191
noncomputable def t1193 : BT AObj := .n t1189 o345 t1192
noncomputable def t1194 : BT AObj := .n t1185 o347 t1193
noncomputable def t1195 : BT AObj := .n t1177 o349 t1194
noncomputable def t1196 : BT AObj := .n t1158 ((oC (cs (ay [17])) 5 1)) t1195
noncomputable def t1197 : BT AObj := .n (.n .e o352 .e) o354 .e
noncomputable def t1198 : BT AObj := .n t1197 o360 (.n .e o358 .e)
noncomputable def t1199 : BT AObj := .n (.n .e o364 .e) o369 (.n .e o367 .e)
noncomputable def t1200 : BT AObj := .n t1198 o371 t1199
noncomputable def t1201 : BT AObj := .n (.n .e o373 .e) o375 .e
noncomputable def t1202 : BT AObj := .n t1201 o381 (.n .e o379 .e)
noncomputable def t1203 : BT AObj := .n (.n .e o385 .e) o390 (.n .e o388 .e)
noncomputable def t1204 : BT AObj := .n t1202 o392 t1203
noncomputable def t1205 : BT AObj := .n t1200 o394 t1204
noncomputable def t1206 : BT AObj := .n (.n .e o396 .e) o398 .e
noncomputable def t1207 : BT AObj := .n t1206 ((oC [] 115 72)) (.n .e o402 .e)
noncomputable def t1208 : BT AObj := .n (.n .e o406 .e) o411 (.n .e o409 .e)
noncomputable def t1209 : BT AObj := .n t1207 o413 t1208
noncomputable def t1210 : BT AObj := .n (.n .e o426 .e) o431 (.n .e o429 .e)
noncomputable def t1211 : BT AObj := .n t1074 o435 t1210
noncomputable def t1212 : BT AObj := .n t1209 o435 t1211
noncomputable def t1213 : BT AObj := .n t1205 o437 t1212
noncomputable def t1214 : BT AObj := .n (.n .e o439 .e) o441 .e
noncomputable def t1215 : BT AObj := .n t1214 o447 (.n .e o445 .e)
noncomputable def t1216 : BT AObj := .n (.n .e o451 .e) o456 (.n .e o454 .e)
noncomputable def t1217 : BT AObj := .n t1215 o458 t1216
noncomputable def t1218 : BT AObj := .n (.n .e o460 .e) o462 .e
noncomputable def t1219 : BT AObj := .n t1218 o468 (.n .e o466 .e)
noncomputable def t1220 : BT AObj := .n (.n .e o472 .e) o477 (.n .e o475 .e)
noncomputable def t1221 : BT AObj := .n t1219 o479 t1220
noncomputable def t1222 : BT AObj := .n t1217 o481 t1221
noncomputable def t1223 : BT AObj := .n t483 o485 .e
noncomputable def t1224 : BT AObj := .n t1223 ((oC (cs (ai [0])) 3 76)) (.n .e o67 .e)
noncomputable def t1225 : BT AObj := .n (.n .e o493 .e) o498 (.n .e o496 .e)
noncomputable def t1226 : BT AObj := .n t1224 o798 t1225
noncomputable def t1227 : BT AObj := .n (.n .e o503 .e) o508 (.n .e o506 .e)
noncomputable def t1228 : BT AObj := .n (.n .e o512 .e) o517 (.n .e o515 .e)
noncomputable def t1229 : BT AObj := .n t1227 o519 t1228
noncomputable def t1230 : BT AObj := .n t1226 o521 t1229
noncomputable def t1231 : BT AObj := .n t1222 ((oC (cs (ay [1])) 5 12)) t1230
noncomputable def t1232 : BT AObj := .n t1213 o524 t1231
noncomputable def t1233 : BT AObj := .n (.n .e o526 .e) o528 .e
noncomputable def t1234 : BT AObj := .n t1233 o534 (.n .e o532 .e)
noncomputable def t1235 : BT AObj := .n (.n .e o538 .e) o543 (.n .e o541 .e)
noncomputable def t1236 : BT AObj := .n t1234 o545 t1235
noncomputable def t1237 : BT AObj := .n (.n .e o547 .e) o549 .e
noncomputable def t1238 : BT AObj := .n t1237 o555 (.n .e o553 .e)
noncomputable def t1239 : BT AObj := .n (.n .e o559 .e) o564 (.n .e o562 .e)
noncomputable def t1240 : BT AObj := .n t1238 o804 t1239
noncomputable def t1241 : BT AObj := .n t1236 o568 t1240
noncomputable def t1242 : BT AObj := .n (.n .e o570 .e) o572 .e
noncomputable def o1243 : AObj := (oC (cs ([(xP 40 0), (xV 73 0 1 9 0), (xL 77 0 0 0), .nilSlice, .nilSlice, .nilSlice, .nilSlice, .nilSlice, .nilSlice, .nilSlice, (xP 89 0), .nilPtr, .nilPtr, .nilPtr, .nilPtr, .nilPtr, .nilPtr, .nilPtr] ++ ai [0, 0, 0, 0, 0, 0, 0, 0] ++ [(xV 273 0 3 19 0), (xV 91 0 1 13 0)])) 97 74)
noncomputable def t1244 : BT AObj := .n t1242 o1243 (.n .e o576 .e)
noncomputable def t1245 : BT AObj := .n (.n .e o582 .e) o587 (.n .e o585 .e)
noncomputable def t1246 : BT AObj := .n t1244 o589 t1245
noncomputable def t1247 : BT AObj := .n (.n .e o602 .e) o607 (.n .e o605 .e)
noncomputable def t1248 : BT AObj := .n t1093 o609 t1247
noncomputable def t1249 : BT AObj := .n t1246 o611 t1248
noncomputable def t1250 : BT AObj := .n t1241 o613 t1249
noncomputable def t1251 : BT AObj := .n (.n .e o615 .e) o617 .e
noncomputable def t1252 : BT AObj := .n t1251 ((.map [] 0)) (.n .e o620 .e)
noncomputable def t1253 : BT AObj := .n (.n .e o625 .e) o630 (.n .e o628 .e)
noncomputable def t1254 : BT AObj := .n t1252 o632 t1253
noncomputable def t1255 : BT AObj := .n (.n .e o646 .e) o651 (.n .e o649 .e)
noncomputable def t1256 : BT AObj := .n t1097 ((oC [] 155 54)) t1255
noncomputable def t1257 : BT AObj := .n t1254 ((oC [] 155 22)) t1256
noncomputable def t1258 : BT AObj := .n (.n .e o655 .e) o657 .e
noncomputable def t1259 : BT AObj := .n t1258 o663 (.n .e o661 .e)
noncomputable def t1260 : BT AObj := .n (.n .e o667 .e) o672 (.n .e o670 .e)
noncomputable def t1261 : BT AObj := .n t1259 o674 t1260
noncomputable def t1262 : BT AObj := .n (.n .e o678 .e) o682 (.n .e o67 .e)
noncomputable def t1263 : BT AObj := .n (.n .e o686 .e) o691 (.n .e o689 .e)
noncomputable def t1264 : BT AObj := .n t1262 o693 t1263
noncomputable def t1265 : BT AObj := .n t1261 o695 t1264
noncomputable def t1266 : BT AObj := .n t1257 o697 t1265
noncomputable def t1267 : BT AObj := .n t1250 o699 t1266
noncomputable def t1268 : BT AObj := .n t1232 o701 t1267
noncomputable def t1269 : BT AObj := .n t1196 o703 t1268
noncomputable def m1270 : BT (List Nat) := .n m825 [] m825
noncomputable def m1271 : BT (List Nat) := .n m825 [] m706
noncomputable def m1272 : BT (List Nat) := .n m1270 [] m1271
noncomputable def m1273 : BT (List Nat) := .n m1270 [13] m1271
noncomputable def m1274 : BT (List Nat) := .n m1272 [] m1273
noncomputable def m1275 : BT (List Nat) := .n m1271 [] m1271
noncomputable def m1276 : BT (List Nat) := .n m1272 [] m1275
noncomputable def m1277 : BT (List Nat) := .n m1274 [] m1276
noncomputable def m1278 : BT (List Nat) := .n m1272 [10, 8, 6] m1272
noncomputable def m1279 : BT (List Nat) := .n m707 [] (.n .e [273, 216] .e)
noncomputable def m1280 : BT (List Nat) := .n m1279 [] m705
noncomputable def m1281 : BT (List Nat) := .n m1280 [] m706
noncomputable def m1282 : BT (List Nat) := .n m1281 [] m1271
noncomputable def m1283 : BT (List Nat) := .n m1272 [] m1282
noncomputable def m1284 : BT (List Nat) := .n m1278 [] m1283
noncomputable def m1285 : BT (List Nat) := .n m1277 [] m1284
noncomputable def h1286 : Hp := Hp.lit t1269 m1285 277 20 (by kernel_rfl)
noncomputable def s1287 : St := { tmps := l1123, h := h1286, pc := ([]), marks := [], pan := none }
set_option maxRecDepth 100000 in
theorem g21 : runCode Tryz.prog true (runCall Tryz.prog true none 300 59) none 289 none (sub B28 [true, true, true, true, true, false, true, false, false]) s1122 = some [(.normal, s1287)] := by kernel_rfl
noncomputable def l1288 : List AV := [xF, (xV 13 0 6 5 0), (xP 74 0)] ++ ai [0] ++ [(xL 78 0 6 6)] ++ ai [4] ++ [(xP 293 0)] ++ ai [0] ++ [(xA (ai [17] ++ [(xJ 2)] ++ ai [0, 0, 0] ++ [(xS []), (xS []), (.int .u32 (.lit (.ofNat 0)))] ++ ai [0, 0] ++ au [0] ++ ai [0] ++ [xT])), (xV 13 0 6 5 0), (.tuple ([(xP 74 0)] ++ ai [0])), (xA ([(xL 15 0 1 1)] ++ ai [4, 8, 8] ++ au [9, 99])), (xV 13 0 6 5 0), (xS [17, 253, 255, 255, 255, 1]), (xA (ai [0] ++ au [4] ++ [(xS [17, 253, 255, 255, 255, 1])])), (xL 16 0 1 1), (.tuple ([(xP 74 0)] ++ ai [0])), (xP 74 0)] ++ ai [0, 0] ++ [xF, xF, (xP 74 0), xF, xF, (xL 78 0 6 6)] ++ ai [3] ++ [(xL 78 0 6 6)] ++ ai [6] ++ [xT] ++ ai [3, 4] ++ [(.tuple ([(xA (ai [3] ++ au [0] ++ ai [1, 0, 0, 11] ++ [xF, xF, xF] ++ ai [0, 0] ++ [(xS []), .nilSlice] ++ ai [0, 0, 0]))] ++ ai [0])), (xP 74 0), (xA (ai [1, 0])), (.tuple ([(xA (ai [3] ++ au [0] ++ ai [1, 0, 0, 11] ++ [xF, xF, xF] ++ ai [0, 0] ++ [(xS []), .nilSlice] ++ ai [0, 0, 0]))] ++ ai [0])), (xA (ai [3] ++ au [0] ++ ai [1, 0, 0, 11] ++ [xF, xF, xF] ++ ai [0, 0] ++ [(xS []), .nilSlice] ++ ai [0, 0, 0]))] ++ ai [0, 0] ++ [xF, xF, (xP 293 5), (xP 293 5)] ++ ai [11] ++ [(xL 78 0 6 6)] ++ ai [3] ++ [(xP 78 3)] ++ ai [11] ++ [xF, xF, xF, (xP 293 5), (xP 293 8), xF] ++ ai [3] ++ [xF, xF, xF, xF] ++ ai [3] ++ [xF, xF] ++ us 5 ++ [xF, xF, xF, (xP 293 4)] ++ ai [0] ++ [xT, xT] ++ ai [3] ++ [xF, xF, xF]
noncomputable def t1289 : BT AObj := .n (.n .e o12 .e) o14 .e
noncomputable def t1290 : BT AObj := .n t1289 o19 (.n .e o17 .e)
noncomputable def t1291 : BT AObj := .n t1125 o21 t1290
noncomputable def t1292 : BT AObj := .n t1291 o44 t1131
noncomputable def t1293 : BT AObj := .n (.n .e o67 .e) o69 .e
noncomputable def t1294 : BT AObj := .n t1293 ((oC [] 5 87)) (.n .e o73 .e)
noncomputable def t1295 : BT AObj := .n t1294 o85 t1137
noncomputable def t1296 : BT AObj := .n t1136 o87 t1295
noncomputable def t1297 : BT AObj := .n t1292 o89 t1296
noncomputable def t1298 : BT AObj := .n (.n .e o100 .e) o102 .e
noncomputable def t1299 : BT AObj := .n t1298 o106 (.n .e o19 .e)
noncomputable def t1300 : BT AObj := .n t1142 o108 t1299
noncomputable def t1301 : BT AObj := .n t1300 o130 t1148
noncomputable def o1302 : AObj := (oC (cs (au [1] ++ [xT] ++ ai [0, 0] ++ [(xS [])] ++ ai [0, 0] ++ [(.int .u32 (.lit (.ofNat 0))), xF, xF] ++ au [0] ++ ai [0, 0, 0] ++ au [0] ++ ai [0, 0, 0] ++ au [0] ++ ai [0, 0] ++ au [0, 0, 0, 1] ++ [xF] ++ ai [0, 0] ++ [(xS [])] ++ ai [0, 0] ++ [(.int .u32 (.lit (.ofNat 0))), xF, xF] ++ au [0] ++ ai [0, 0, 0] ++ au [0] ++ ai [0, 0, 0] ++ au [0] ++ ai [0, 0] ++ au [0, 0, 0, 1] ++ [xF] ++ ai [0, 0] ++ [(xS [])] ++ ai [0, 0] ++ [(.int .u32 (.lit (.ofNat 0))), xF, xF] ++ au [0] ++ ai [0, 0, 0] ++ au [0] ++ ai [0, 0, 0] ++ au [0] ++ ai [0, 0] ++ au [0, 0, 0, 1] ++ [xF] ++ ai [0, 0] ++ [(xS [])] ++ ai [0, 0] ++ [(.int .u32 (.lit (.ofNat 0))), xF, xF] ++ au [0] ++ ai [0, 0, 0] ++ au [0] ++ ai [0, 0, 0] ++ au [0] ++ ai [0, 0] ++ au [0, 0, 0])) 304 43)
noncomputable def t1303 : BT AObj := .n t1151 o1302 t1152
noncomputable def t1304 : BT AObj := .n (.n .e o153 .e) o155 .e
noncomputable def t1305 : BT AObj := .n t1304 o874 (.n .e o158 .e)
noncomputable def t1306 : BT AObj := .n t1305 o171 t1154
noncomputable def t1307 : BT AObj := .n t1303 o173 t1306
noncomputable def t1308 : BT AObj := .n t1301 o175 t1307
noncomputable def t1309 : BT AObj := .n t1297 o177 t1308
noncomputable def t1310 : BT AObj := .n (.n .e o189 .e) o191 .e
noncomputable def t1311 : BT AObj := .n t1310 o196 (.n .e o194 .e)
noncomputable def t1312 : BT AObj := .n t1160 o198 t1311
noncomputable def t1313 : BT AObj := .n t1312 o218 t1166
noncomputable def t1314 : BT AObj := .n (.n .e o241 .e) o243 .e
noncomputable def o1315 : AObj := (oC (cs ([(xP 40 0)] ++ ai [0] ++ [(xV 88 0 6 12 0)] ++ au [4] ++ ai [14, 17] ++ [(xJ 2)] ++ ai [0, 0, 0] ++ [(xS []), (xS []), (.int .u32 (.lit (.ofNat 0)))] ++ ai [0, 0] ++ au [0] ++ ai [0] ++ [xT, xT] ++ ai [0] ++ [xT] ++ ai [11] ++ [xF, xF, xF] ++ ai [0, 0] ++ [(xS [])] ++ ai [0, 0] ++ [(xS []), (xP 210 0), (.map 211)] ++ ai [1] ++ [(xV 213 0 1 15 0)] ++ ai [1] ++ [(.func 353 ([(xP 89 0)]) ([])), .nilFunc] ++ ai [0] ++ [.nilSlice, .nilPtr, .nilPtr, .nilPtr, .nilPtr, .nilPtr, .nilPtr, .nilPtr, .nilFunc, .nilSlice] ++ ai [13, 0, 0, 0, 4] ++ [(xS [95, 115, 101, 115]), (.int .u32 (.lit (.ofNat 0)))] ++ ai [0, 0] ++ au [0] ++ ai [0] ++ [(xJ 2)] ++ au [4] ++ ai [0] ++ au [1] ++ [.nilSlice] ++ ai [0, 0, 0, 0] ++ au [0] ++ [.nilSlice, .nilSlice] ++ ai [0] ++ au [0] ++ ai [0, 0, 0, 0] ++ au [0] ++ [.nilSlice, .nilSlice] ++ ai [0] ++ au [0] ++ ai [0, 0, 0] ++ [.nilSlice])) 75 89)
noncomputable def t1316 : BT AObj := .n t1314 o1315 (.n .e o246 .e)
noncomputable def t1317 : BT AObj := .n t1316 o258 t1174
noncomputable def t1318 : BT AObj := .n t1171 o260 t1317
noncomputable def t1319 : BT AObj := .n t1313 o262 t1318
noncomputable def t1320 : BT AObj := .n (.n .e o273 .e) o275 .e
noncomputable def t1321 : BT AObj := .n t1320 o280 (.n .e o278 .e)
noncomputable def t1322 : BT AObj := .n t1179 ((oC [] 155 37)) t1321
noncomputable def t1323 : BT AObj := .n (.n .e o283 .e) o285 .e
noncomputable def t1324 : BT AObj := .n t1323 o291 (.n .e o289 .e)
noncomputable def t1325 : BT AObj := .n t1324 o302 t1183
noncomputable def t1326 : BT AObj := .n t1322 o304 t1325
noncomputable def t1327 : BT AObj := .n (.n .e o326 .e) o328 .e
noncomputable def t1328 : BT AObj := .n t1327 o333 (.n .e o331 .e)
noncomputable def t1329 : BT AObj := .n t1328 o343 t1191
noncomputable def t1330 : BT AObj := .n t1189 o345 t1329
noncomputable def t1331 : BT AObj := .n t1326 o347 t1330
noncomputable def t1332 : BT AObj := .n t1319 o349 t1331
noncomputable def t1333 : BT AObj := .n t1309 ((oC (cs (ay [17])) 5 1)) t1332
noncomputable def t1334 : BT AObj := .n (.n .e o362 .e) o364 .e
noncomputable def t1335 : BT AObj := .n t1334 o369 (.n .e o367 .e)
noncomputable def t1336 : BT AObj := .n t1198 o371 t1335
noncomputable def t1337 : BT AObj := .n t1336 o394 t1204
noncomputable def t1338 : BT AObj := .n (.n .e o415 .e) o417 .e
noncomputable def t1339 : BT AObj := .n t1338 o422 (.n .e o420 .e)
noncomputable def t1340 : BT AObj := .n t1339 o435 t1210
noncomputable def t1341 : BT AObj := .n t1209 o435 t1340
noncomputable def t1342 : BT AObj := .n t1337 o437 t1341
noncomputable def t1343 : BT AObj := .n (.n .e o449 .e) o451 .e
noncomputable def t1344 : BT AObj := .n t1343 o456 (.n .e o454 .e)
noncomputable def t1345 : BT AObj := .n t1215 o458 t1344
noncomputable def t1346 : BT AObj := .n t1345 o481 t1221
noncomputable def t1347 : BT AObj := .n t1224 o500 t1225
noncomputable def t1348 : BT AObj := .n (.n .e o19 .e) o503 .e
noncomputable def t1349 : BT AObj := .n t1348 o508 (.n .e o506 .e)
noncomputable def t1350 : BT AObj := .n t1349 o519 t1228
noncomputable def t1351 : BT AObj := .n t1347 o521 t1350
noncomputable def t1352 : BT AObj := .n t1346 ((oC (cs (ay [1])) 5 12)) t1351
noncomputable def t1353 : BT AObj := .n t1342 o524 t1352
noncomputable def t1354 : BT AObj := .n (.n .e o536 .e) o538 .e
noncomputable def t1355 : BT AObj := .n t1354 o543 (.n .e o541 .e)
noncomputable def t1356 : BT AObj := .n t1234 o545 t1355
noncomputable def t1357 : BT AObj := .n t1356 o568 t1240
noncomputable def o1358 : AObj := (oC (cs ([(xP 40 0), (xV 73 0 1 9 0), (xL 77 0 0 0), .nilSlice, .nilSlice, .nilSlice, .nilSlice, .nilSlice, .nilSlice, .nilSlice, (xP 89 0), .nilPtr, .nilPtr, .nilPtr, .nilPtr, .nilPtr, .nilPtr, .nilPtr] ++ ai [0, 0, 0, 0, 0, 0, 0, 0] ++ [(xV 290 0 4 20 0), (xV 91 0 1 13 0)])) 97 74)
noncomputable def t1359 : BT AObj := .n t1242 o1358 (.n .e o576 .e)
noncomputable def t1360 : BT AObj := .n t1359 o589 t1245
noncomputable def t1361 : BT AObj := .n (.n .e o591 .e) o593 .e
noncomputable def t1362 : BT AObj := .n t1361 o598 (.n .e o596 .e)
noncomputable def t1363 : BT AObj := .n t1362 o609 t1247
noncomputable def t1364 : BT AObj := .n t1360 o611 t1363
noncomputable def t1365 : BT AObj := .n t1357 o613 t1364
noncomputable def t1366 : BT AObj := .n (.n .e o634 .e) o636 .e
noncomputable def t1367 : BT AObj := .n t1366 o642 (.n .e o640 .e)
noncomputable def t1368 : BT AObj := .n t1367 ((oC [] 155 54)) t1255
noncomputable def t1369 : BT AObj := .n t1254 ((oC [] 155 22)) t1368
noncomputable def t1370 : BT AObj := .n (.n .e o676 .e) o678 .e
noncomputable def t1371 : BT AObj := .n t1370 o682 (.n .e o67 .e)
noncomputable def t1372 : BT AObj := .n t1371 o693 t1263
noncomputable def t1373 : BT AObj := .n t1261 o695 t1372
noncomputable def t1374 : BT AObj := .n t1369 o697 t1373
noncomputable def t1375 : BT AObj := .n t1365 o699 t1374
noncomputable def t1376 : BT AObj := .n t1353 o701 t1375
noncomputable def t1377 : BT AObj := .n t1333 o703 t1376
noncomputable def m1378 : BT (List Nat) := .n m826 [] m1270
noncomputable def m1379 : BT (List Nat) := .n m826 [13] m1270
noncomputable def m1380 : BT (List Nat) := .n m1378 [] m1379
noncomputable def m1381 : BT (List Nat) := .n m1378 [] m1378
noncomputable def m1382 : BT (List Nat) := .n m1380 [] m1381
noncomputable def m1383 : BT (List Nat) := .n m1378 [10, 8, 6] m1378
noncomputable def m1384 : BT (List Nat) := .n .e [290, 273, 216] .e
noncomputable def m1385 : BT (List Nat) := .n m707 [] m1384
noncomputable def m1386 : BT (List Nat) := .n m1385 [] m705
noncomputable def m1387 : BT (List Nat) := .n m1386 [] m825
noncomputable def m1388 : BT (List Nat) := .n m1387 [] m1270
noncomputable def m1389 : BT (List Nat) := .n m1378 [] m1388
noncomputable def m1390 : BT (List Nat) := .n m1383 [] m1389
noncomputable def m1391 : BT (List Nat) := .n m1382 [] m1390
noncomputable def h1392 : Hp := Hp.lit t1377 m1391 294 21 (by kernel_rfl)
noncomputable def s1393 : St := { tmps := l1288, h := h1392, pc := ([]), marks := [], pan := none }
set_option maxRecDepth 100000 in
theorem g22 : runCode Tryz.prog true (runCall Tryz.prog true none 300 59) none 288 none (sub B28 [true, true, true, true, true, false, true, false, false]) s1287 = some [(.normal, s1393)] := by kernel_rfl
noncomputable def l1394 : List AV := [xF, (xV 13 0 6 5 0), (xP 74 0)] ++ ai [0] ++ [(xL 78 0 6 6)] ++ ai [4] ++ [(xP 293 0)] ++ ai [0] ++ [(xA (ai [17] ++ [(xJ 2)] ++ ai [0, 0, 0] ++ [(xS []), (xS []), (.int .u32 (.lit (.ofNat 0)))] ++ ai [0, 0] ++ au [0] ++ ai [0] ++ [xT])), (xV 13 0 6 5 0), (.tuple ([(xP 74 0)] ++ ai [0])), (xA ([(xL 15 0 1 1)] ++ ai [4, 8, 8] ++ au [9, 99])), (xV 13 0 6 5 0), (xS [17, 253, 255, 255, 255, 1]), (xA (ai [0] ++ au [4] ++ [(xS [17, 253, 255, 255, 255, 1])])), (xL 16 0 1 1), (.tuple ([(xP 74 0)] ++ ai [0])), (xP 74 0)] ++ ai [0, 0] ++ [xF, xF, (xP 74 0), xF, xF, (xL 78 0 6 6)] ++ ai [4] ++ [(xL 78 0 6 6)] ++ ai [6] ++ [xT] ++ ai [3, 4] ++ [(.tuple ([(xA (ai [3] ++ au [0] ++ ai [1, 0, 0, 11] ++ [xF, xF, xF] ++ ai [0, 0] ++ [(xS []), .nilSlice] ++ ai [0, 0, 0]))] ++ ai [0])), (xP 74 0), (xA (ai [1, 0])), (.tuple ([(xA (ai [3] ++ au [0] ++ ai [1, 0, 0, 11] ++ [xF, xF, xF] ++ ai [0, 0] ++ [(xS []), .nilSlice] ++ ai [0, 0, 0]))] ++ ai [0])), (xA (ai [3] ++ au [0] ++ ai [1, 0, 0, 11] ++ [xF, xF, xF] ++ ai [0, 0] ++ [(xS []), .nilSlice] ++ ai [0, 0, 0]))] ++ ai [0, 0] ++ [xF, xF, (xP 293 5), (xP 293 5)] ++ ai [11] ++ [(xL 78 0 6 6)] ++ ai [3] ++ [(xP 78 3)] ++ ai [11] ++ [xF, xF, xF, (xP 293 5), (xP 293 8), xF] ++ ai [3] ++ [xF, xF, xF, xF] ++ ai [3] ++ [xF, xF] ++ us 5 ++ [xF, xF, xF, (xP 293 4)] ++ ai [0] ++ [xT, xT] ++ ai [3] ++ [xF, xF, xF]
noncomputable def s1395 : St := { tmps := l1394, h := h1392, pc := ([]), marks := [], pan := none }
set_option maxRecDepth 100000 in
theorem g23 : runCode Tryz.prog true (runCall Tryz.prog true none 300 59) none 286 none (sub B28 [true, true, true, true, true, false, true, false, false, false]) s1393 = some [(.normal, s1395)] := by kernel_rfl
set_option maxRecDepth 100000 in
theorem g24 : runOps Tryz.prog (runCall Tryz.prog true none 300 59) none (arrOf (sub B28 [true, true, true, true, true, false, true, false, false, true, false, false, false])) (seg (sub B28 [true, true, true, true, true, false, true, false, false, true, false, false, false]) 0 2) s1395 = some [s1395] := by kernel_rfl
noncomputable def t1396 : BT AObj := .n (.n .e o27 .e) o29 .e
noncomputable def t1397 : BT AObj := .n t26 o31 t1396
noncomputable def t1398 : BT AObj := .n t1397 o42 t41
noncomputable def t1399 : BT AObj := .n t22 o44 t1398
noncomputable def t1400 : BT AObj := .n (.n .e o71 .e) o73 .e
noncomputable def t1401 : BT AObj := .n t70 ((oC [] 5 87)) t1400
noncomputable def t1402 : BT AObj := .n t1401 o85 t84
noncomputable def t1403 : BT AObj := .n t66 o87 t1402
noncomputable def t1404 : BT AObj := .n t1399 o89 t1403
noncomputable def t1405 : BT AObj := .n (.n .e o114 .e) ((.map [] 0)) .e
noncomputable def t1406 : BT AObj := .n t113 o117 t1405
noncomputable def t1407 : BT AObj := .n t1406 o128 t127
noncomputable def t1408 : BT AObj := .n t109 o130 t1407
noncomputable def t1409 : BT AObj := .n t1408 o175 t174
noncomputable def t1410 : BT AObj := .n t1404 o177 t1409
noncomputable def t1411 : BT AObj := .n (.n .e o204 .e) o19 .e
noncomputable def t1412 : BT AObj := .n t203 o67 t1411
noncomputable def t1413 : BT AObj := .n t1412 o216 t215
noncomputable def t1414 : BT AObj := .n t199 o218 t1413
noncomputable def t1415 : BT AObj := .n t1414 o262 t261
noncomputable def t1416 : BT AObj := .n (.n .e o287 .e) o289 .e
noncomputable def t1417 : BT AObj := .n t286 o291 t1416
noncomputable def t1418 : BT AObj := .n t1417 o302 t301
noncomputable def t1419 : BT AObj := .n t282 o304 t1418
noncomputable def t1420 : BT AObj := .n t1419 o347 t346
noncomputable def t1421 : BT AObj := .n t1415 o349 t1420
noncomputable def t1422 : BT AObj := .n t1410 ((oC (cs (ay [17])) 5 1)) t1421
noncomputable def t1423 : BT AObj := .n (.n .e o377 .e) o379 .e
noncomputable def t1424 : BT AObj := .n t376 o381 t1423
noncomputable def t1425 : BT AObj := .n t1424 o392 t391
noncomputable def t1426 : BT AObj := .n t372 o394 t1425
noncomputable def t1427 : BT AObj := .n t1426 o437 t436
noncomputable def t1428 : BT AObj := .n (.n .e o464 .e) o466 .e
noncomputable def t1429 : BT AObj := .n t463 o468 t1428
noncomputable def t1430 : BT AObj := .n t1429 o479 t478
noncomputable def t1431 : BT AObj := .n t459 o481 t1430
noncomputable def t1432 : BT AObj := .n t1431 ((oC (cs (ay [1])) 5 12)) t522
noncomputable def t1433 : BT AObj := .n t1427 o524 t1432
noncomputable def t1434 : BT AObj := .n (.n .e o551 .e) o553 .e
noncomputable def t1435 : BT AObj := .n t550 o555 t1434
noncomputable def t1436 : BT AObj := .n t1435 o566 t565
noncomputable def t1437 : BT AObj := .n t546 o568 t1436
noncomputable def o1438 : AObj := (oC (cs ([(xP 40 0), (xV 73 0 1 9 0), (xL 77 0 0 0), .nilSlice, .nilSlice, .nilSlice, .nilSlice, .nilSlice, .nilSlice, .nilSlice, .nilPtr, .nilPtr, .nilPtr, .nilPtr, .nilPtr, .nilPtr, .nilPtr, .nilPtr] ++ ai [0, 0, 0, 0, 0, 0, 0, 0] ++ [(xV 459 0 5 24 0), (xV 91 0 1 13 0)])) 97 74)
noncomputable def t1439 : BT AObj := .n t573 o1438 t577
noncomputable def t1440 : BT AObj := .n t1439 o589 t588
noncomputable def t1441 : BT AObj := .n t1440 o611 t610
noncomputable def t1442 : BT AObj := .n t1437 o613 t1441
noncomputable def t1443 : BT AObj := .n (.n .e o638 .e) o640 .e
noncomputable def t1444 : BT AObj := .n t637 o642 t1443
noncomputable def t1445 : BT AObj := .n t1444 ((oC [] 155 54)) t652
noncomputable def t1446 : BT AObj := .n t633 ((oC [] 155 22)) t1445
noncomputable def t1447 : BT AObj := .n (.n .e o659 .e) o661 .e
noncomputable def t1448 : BT AObj := .n t658 o663 t1447
noncomputable def t1449 : BT AObj := .n t1448 o674 t673
noncomputable def t1450 : BT AObj := .n t1449 o695 t694
noncomputable def t1451 : BT AObj := .n t1446 o697 t1450
noncomputable def t1452 : BT AObj := .n t1442 o699 t1451
noncomputable def t1453 : BT AObj := .n t1433 o701 t1452
noncomputable def t1454 : BT AObj := .n t1422 o703 t1453
noncomputable def m1455 : BT (List Nat) := .n m713 [] m713
noncomputable def m1456 : BT (List Nat) := .n m713 [13] m713
noncomputable def m1457 : BT (List Nat) := .n m1455 [] m1456
noncomputable def m1458 : BT (List Nat) := .n m1455 [] m1455
noncomputable def m1459 : BT (List Nat) := .n m1457 [] m1458
noncomputable def m1460 : BT (List Nat) := .n m1455 [10, 8, 6] m1455
noncomputable def m1461 : BT (List Nat) := .n (.n .e [] .e) [459, 290, 273, 216] (.n .e [] .e)
noncomputable def m1462 : BT (List Nat) := .n m705 [] m1461
noncomputable def m1463 : BT (List Nat) := .n m1462 [] m708
noncomputable def m1464 : BT (List Nat) := .n m1463 [] m712
noncomputable def m1465 : BT (List Nat) := .n m1464 [] m1107
noncomputable def m1466 : BT (List Nat) := .n m1455 [] m1465
noncomputable def m1467 : BT (List Nat) := .n m1460 [] m1466
noncomputable def m1468 : BT (List Nat) := .n m1459 [] m1467
noncomputable def h1469 : Hp := Hp.lit t1454 m1468 462 25 (by kernel_rfl)
noncomputable def l1470 : List AV := [(xP 74 0), (xA (ai [1, 0]))]
noncomputable def B17 : Code := Tryz.f17.body.getD .skip
noncomputable def l1471 : List AV := [(xP 74 0), (xA (ai [1, 0]))] ++ us 70
noncomputable def s1472 : St := { tmps := l1471, h := h1392, pc := ([]), marks := [], pan := none }
noncomputable def l1473 : List AV := [(xP 74 0), (xA (ai [1, 0]))] ++ us 1 ++ [(xP 294 0), (xP 295 0)] ++ ai [0] ++ us 66
noncomputable def o1474 : AObj := (oC (cs (ai [0] ++ au [0] ++ ai [0, 0, 0, 0] ++ [xF, xF, xF] ++ ai [0, 0] ++ [(xS []), .nilSlice] ++ ai [0, 0, 0])) 103 295)
noncomputable def t1475 : BT AObj := .n (.n .e o1474 .e) o58 .e
noncomputable def t1476 : BT AObj := .n t1475 o63 (.n .e o61 .e)
noncomputable def t1477 : BT AObj := .n t1134 o65 t1476
noncomputable def t1478 : BT AObj := .n t1477 o87 t1295
noncomputable def t1479 : BT AObj := .n t1292 o89 t1478
noncomputable def t1480 : BT AObj := .n t1479 o177 t1308
noncomputable def t1481 : BT AObj := .n t1480 ((oC (cs (ay [17])) 5 1)) t1332
noncomputable def t1482 : BT AObj := .n (.n .e o623 .e) o625 .e
noncomputable def t1483 : BT AObj := .n t1482 o630 (.n .e o628 .e)
noncomputable def t1484 : BT AObj := .n t1252 o632 t1483
noncomputable def t1485 : BT AObj := .n t1484 ((oC [] 155 22)) t1368
noncomputable def t1486 : BT AObj := .n t1485 o697 t1373
noncomputable def t1487 : BT AObj := .n t1365 o699 t1486
noncomputable def t1488 : BT AObj := .n t1353 o701 t1487
noncomputable def t1489 : BT AObj := .n t1481 o703 t1488
noncomputable def m1490 : BT (List Nat) := .n m826 [] m826
noncomputable def m1491 : BT (List Nat) := .n m1490 [] m1379
noncomputable def m1492 : BT (List Nat) := .n m1491 [] m1381
noncomputable def m1493 : BT (List Nat) := .n m1385 [] m818
noncomputable def m1494 : BT (List Nat) := .n m1493 [] m825
noncomputable def m1495 : BT (List Nat) := .n m1494 [] m1270
noncomputable def m1496 : BT (List Nat) := .n m1378 [] m1495
noncomputable def m1497 : BT (List Nat) := .n m1383 [] m1496
noncomputable def m1498 : BT (List Nat) := .n m1492 [] m1497
noncomputable def h1499 : Hp := Hp.lit t1489 m1498 296 21 (by kernel_rfl)
noncomputable def s1500 : St := { tmps := l1473, h := h1499, pc := ([]), marks := [], pan := none }
set_option maxRecDepth 100000 in
theorem g25 : runCode Tryz.prog true (runCall Tryz.prog true none 300 58) none 299 none (sub B17 [false]) s1472 = some [(.normal, s1500)] := by kernel_rfl
noncomputable def l1501 : List AV := [(xP 74 0), (xA (ai [1, 0]))] ++ us 1 ++ [(xP 294 0), (xP 295 0)] ++ ai [0] ++ us 4 ++ [(xP 74 0), xF] ++ us 60
noncomputable def s1502 : St := { tmps := l1501, h := h1499, pc := ([]), marks := [], pan := none }
set_option maxRecDepth 100000 in
theorem g26 : runCode Tryz.prog true (runCall Tryz.prog true none 300 58) none 298 none (sub B17 [true, false]) s1500 = some [(.normal, s1502)] := by kernel_rfl
noncomputable def l1503 : List AV := [(xP 74 0), (xA (ai [1, 0]))] ++ us 1 ++ [(xP 294 0), (xP 295 0)] ++ ai [0] ++ [(.map 296)] ++ us 3 ++ [(xP 74 0), xF] ++ us 1 ++ [(.map 296), (.map 296)] ++ us 57
noncomputable def t1504 : BT AObj := .n (.n .e o67 .e) o406 .e
noncomputable def t1505 : BT AObj := .n t1504 o411 (.n .e o409 .e)
noncomputable def t1506 : BT AObj := .n t1207 o413 t1505
noncomputable def t1507 : BT AObj := .n t1506 o435 t1340
noncomputable def t1508 : BT AObj := .n t1337 o437 t1507
noncomputable def t1509 : BT AObj := .n t1508 o524 t1352
noncomputable def t1510 : BT AObj := .n t1509 o701 t1487
noncomputable def t1511 : BT AObj := .n t1481 o703 t1510
noncomputable def m1512 : BT (List Nat) := .n m1490 [10, 8, 6] m1378
noncomputable def m1513 : BT (List Nat) := .n m1512 [] m1496
noncomputable def m1514 : BT (List Nat) := .n m1492 [] m1513
noncomputable def h1515 : Hp := Hp.lit t1511 m1514 297 21 (by kernel_rfl)
noncomputable def s1516 : St := { tmps := l1503, h := h1515, pc := ([]), marks := [], pan := none }
set_option maxRecDepth 100000 in
theorem g27 : runCode Tryz.prog true (runCall Tryz.prog true none 300 58) none 297 none (sub B17 [true, true, false]) s1502 = some [(.normal, s1516)] := by kernel_rfl
noncomputable def l1517 : List AV := [(xP 74 0), (xA (ai [1, 0]))] ++ us 1 ++ [(xP 294 0), (xP 295 0)] ++ ai [0] ++ [(.map 296), (xQ 66), xT] ++ us 1 ++ [(xP 74 0), xF] ++ us 1 ++ [(.map 296), (.map 296), (.tuple ([(xQ 66), xT])), (.map 296), (xP 294 0)] ++ ai [1] ++ [(.tuple ([(xQ 66), xT])), (xQ 66), xT] ++ us 50
noncomputable def s1518 : St := { tmps := l1517, h := h1515, pc := ([]), marks := [], pan := none }
set_option maxRecDepth 100000 in
theorem g28 : runCode Tryz.prog true (runCall Tryz.prog true none 300 58) none 296 none (sub B17 [true, true, true, false]) s1516 = some [(.normal, s1518)] := by kernel_rfl
noncomputable def l1519 : List AV := [(xP 74 0), (xA (ai [1, 0]))] ++ us 1 ++ [(xP 294 0), (xP 295 0)] ++ ai [0] ++ [(.map 296), (xQ 66), xT] ++ us 1 ++ [(xP 74 0), xF] ++ us 1 ++ [(.map 296), (.map 296), (.tuple ([(xQ 66), xT])), (.map 296), (xP 294 0)] ++ ai [1] ++ [(.tuple ([(xQ 66), xT])), (xQ 66), xT, xT, xF, xF, (xP 294 0)] ++ ai [1] ++ [xT, xT, (xP 74 0), (xP 294 1)] ++ ai [0] ++ [xT, xF, xF, xF] ++ us 36
noncomputable def s1520 : St := { tmps := l1519, h := h1515, pc := ([]), marks := [], pan := none }
set_option maxRecDepth 100000 in
theorem g29 : runCode Tryz.prog true (runCall Tryz.prog true none 300 58) none 295 none (sub B17 [true, true, true, true, false]) s1518 = some [(.normal, s1520)] := by kernel_rfl
noncomputable def l1521 : List AV := [(xP 74 0), (xA (ai [1, 0]))] ++ us 1 ++ [(xP 294 0), (xP 295 0)] ++ ai [0] ++ [(.map 296), (xQ 66), xT, (xP 297 0), (xP 74 0), xF] ++ us 1 ++ [(.map 296), (.map 296), (.tuple ([(xQ 66), xT])), (.map 296), (xP 294 0)] ++ ai [1] ++ [(.tuple ([(xQ 66), xT])), (xQ 66), xT, xT, xF, xF, (xP 294 0)] ++ ai [1] ++ [xT, xT, (xP 74 0), (xP 294 1)] ++ ai [0] ++ [xT, xF, xF, xF] ++ us 1 ++ [(xP 74 0), (xP 74 0), (xP 74 26), (xV 290 0 4 20 0)] ++ ai [4] ++ [(xP 294 0)] ++ ai [1] ++ [(xA (ai [4] ++ au [0] ++ ai [1, 0] ++ [(xJ 0)] ++ ai [0] ++ [xF, xF, xF] ++ ai [0, 0] ++ [(xS []), .nilSlice] ++ ai [0, 0, 0]))] ++ us 27
noncomputable def o1522 : AObj := (oC (cs (ai [4] ++ au [0] ++ ai [1, 0] ++ [(xJ 0)] ++ ai [0] ++ [xF, xF, xF] ++ ai [0, 0] ++ [(xS []), .nilSlice] ++ ai [0, 0, 0])) 103 297)
noncomputable def t1523 : BT AObj := .n (.n .e o1522 .e) o232 .e
noncomputable def t1524 : BT AObj := .n t1523 o237 (.n .e o235 .e)
noncomputable def t1525 : BT AObj := .n t1169 ((.map [] 0)) t1524
noncomputable def t1526 : BT AObj := .n t1525 o260 t1317
noncomputable def t1527 : BT AObj := .n t1313 o262 t1526
noncomputable def t1528 : BT AObj := .n t1527 o349 t1331
noncomputable def t1529 : BT AObj := .n t1480 ((oC (cs (ay [17])) 5 1)) t1528
noncomputable def t1530 : BT AObj := .n t1529 o703 t1510
noncomputable def m1531 : BT (List Nat) := .n m1490 [] m1378
noncomputable def m1532 : BT (List Nat) := .n m1491 [] m1531
noncomputable def m1533 : BT (List Nat) := .n m1532 [] m1513
noncomputable def h1534 : Hp := Hp.lit t1530 m1533 298 21 (by kernel_rfl)
noncomputable def s1535 : St := { tmps := l1521, h := h1534, pc := ([]), marks := [], pan := none }
set_option maxRecDepth 100000 in
theorem g30 : runCode Tryz.prog true (runCall Tryz.prog true none 300 58) none 294 none (sub B17 [true, true, true, true, true, false]) s1520 = some [(.normal, s1535)] := by kernel_rfl
noncomputable def l1536 : List AV := [(xP 74 0), (xA (ai [1, 0]))] ++ us 1 ++ [(xP 294 0), (xP 295 0)] ++ ai [0] ++ [(.map 296), (xQ 66), xT, (xP 297 0), (xP 74 0), xF] ++ us 1 ++ [(.map 296), (.map 296), (.tuple ([(xQ 66), xT])), (.map 296), (xP 294 0)] ++ ai [1] ++ [(.tuple ([(xQ 66), xT])), (xQ 66), xT, xT, xF, xF, (xP 294 0)] ++ ai [1] ++ [xT, xT, (xP 74 0), (xP 294 1)] ++ ai [0] ++ [xT, xF, xF, xF] ++ us 1 ++ [(xP 74 0), (xP 74 0), (xP 74 26), (xV 290 0 4 20 0)] ++ ai [4] ++ [(xP 294 0)] ++ ai [1] ++ [(xA (ai [4] ++ au [0] ++ ai [1, 0] ++ [(xJ 0)] ++ ai [0] ++ [xF, xF, xF] ++ ai [0, 0] ++ [(xS []), .nilSlice] ++ ai [0, 0, 0])), (xP 294 0)] ++ ai [1] ++ [xT, (xP 294 1)] ++ ai [0] ++ [(xP 297 3)] ++ us 21
noncomputable def s1537 : St := { tmps := l1536, h := h1534, pc := ([]), marks := [], pan := none }
set_option maxRecDepth 100000 in
theorem g31 : runCode Tryz.prog true (runCall Tryz.prog true none 300 58) none 293 none (sub B17 [true, true, true, true, true, true, false]) s1535 = some [(.normal, s1537)] := by kernel_rfl
noncomputable def l1538 : List AV := [(xP 74 0), (xA (ai [1, 0]))] ++ us 1 ++ [(xP 294 0), (xP 295 0)] ++ ai [0] ++ [(.map 296), (xQ 66), xT, (xP 297 0), (xP 74 0), xF] ++ us 1 ++ [(.map 296), (.map 296), (.tuple ([(xQ 66), xT])), (.map 296), (xP 294 0)] ++ ai [1] ++ [(.tuple ([(xQ 66), xT])), (xQ 66), xT, xT, xF, xF, (xP 294 0)] ++ ai [1] ++ [xT, xT, (xP 74 0), (xP 294 1)] ++ ai [0] ++ [xT, xF, xF, xF] ++ us 1 ++ [(xP 74 0), (xP 74 0), (xP 74 26), (xV 290 0 4 20 0)] ++ ai [4] ++ [(xP 294 0)] ++ ai [1] ++ [(xA (ai [4] ++ au [0] ++ ai [1, 0] ++ [(xJ 0)] ++ ai [0] ++ [xF, xF, xF] ++ ai [0, 0] ++ [(xS []), .nilSlice] ++ ai [0, 0, 0])), (xP 294 0)] ++ ai [1] ++ [xT, (xP 294 1)] ++ ai [0] ++ [(xP 297 3), (xQ 66), (xP 74 0)] ++ us 19
noncomputable def s1539 : St := { tmps := l1538, h := h1534, pc := ([]), marks := [], pan := none }
set_option maxRecDepth 100000 in
theorem g32 : runOps Tryz.prog (runCall Tryz.prog true none 300 58) none (arrOf (sub B17 [true, true, true, true, true, true, true, false])) (seg (sub B17 [true, true, true, true, true, true, true, false]) 0 2) s1537 = some [s1539] := by kernel_rfl
noncomputable def t1540 : BT AObj := .n (.n .e o1474 .e) o58 (.n .e o57 .e)
noncomputable def t1541 : BT AObj := .n t1540 o63 t62
noncomputable def t1542 : BT AObj := .n t55 o65 t1541
noncomputable def t1543 : BT AObj := .n t1542 o87 t1402
noncomputable def t1544 : BT AObj := .n t1399 o89 t1543
noncomputable def t1545 : BT AObj := .n (.n .e o136 .e) o138 .e
noncomputable def t1546 : BT AObj := .n t135 o140 t1545
noncomputable def t1547 : BT AObj := .n t1546 o151 t150
noncomputable def t1548 : BT AObj := .n t1547 o173 t172
noncomputable def t1549 : BT AObj := .n t1408 o175 t1548
noncomputable def t1550 : BT AObj := .n t1544 o177 t1549
noncomputable def t1551 : BT AObj := .n (.n .e o310 .e) o312 .e
noncomputable def t1552 : BT AObj := .n t309 o314 t1551
noncomputable def t1553 : BT AObj := .n t1552 o324 t323
noncomputable def t1554 : BT AObj := .n t1553 o345 t344
noncomputable def t1555 : BT AObj := .n t1419 o347 t1554
noncomputable def t1556 : BT AObj := .n t1415 o349 t1555
noncomputable def t1557 : BT AObj := .n t1550 ((oC (cs (ay [17])) 5 1)) t1556
noncomputable def t1558 : BT AObj := .n (.n .e o487 .e) o67 .e
noncomputable def t1559 : BT AObj := .n t486 ((oC (cs (ai [0])) 3 76)) t1558
noncomputable def t1560 : BT AObj := .n t1559 o500 t499
noncomputable def t1561 : BT AObj := .n t1560 o521 t520
noncomputable def t1562 : BT AObj := .n t1431 ((oC (cs (ay [1])) 5 12)) t1561
noncomputable def t1563 : BT AObj := .n t1427 o524 t1562
noncomputable def t1564 : BT AObj := .n (.n .e o574 .e) o576 .e
noncomputable def o1565 : AObj := (oC (cs ([(xP 40 0), (xV 73 0 1 9 0), (xL 77 0 0 0), .nilSlice, .nilSlice, .nilSlice, .nilSlice, .nilSlice, .nilSlice, .nilSlice, .nilPtr, .nilPtr, .nilPtr, .nilPtr, .nilPtr, .nilPtr, .nilPtr, .nilPtr] ++ ai [0, 0, 0, 0, 0, 0, 0, 0] ++ [(xV 290 0 4 20 0), (xV 91 0 1 13 0)])) 97 74)
noncomputable def t1566 : BT AObj := .n t573 o1565 t1564
noncomputable def t1567 : BT AObj := .n t1566 o589 t588
noncomputable def t1568 : BT AObj := .n t1567 o611 t610
noncomputable def t1569 : BT AObj := .n t1437 o613 t1568
noncomputable def t1570 : BT AObj := .n t1569 o699 t1451
noncomputable def t1571 : BT AObj := .n t1563 o701 t1570
noncomputable def t1572 : BT AObj := .n t1557 o703 t1571
noncomputable def m1573 : BT (List Nat) := .n m713 [13] m1107
noncomputable def m1574 : BT (List Nat) := .n m1455 [] m1573
noncomputable def m1575 : BT (List Nat) := .n m713 [] m1107
noncomputable def m1576 : BT (List Nat) := .n m1455 [] m1575
noncomputable def m1577 : BT (List Nat) := .n m1574 [] m1576
noncomputable def m1578 : BT (List Nat) := .n m1455 [10, 8, 6] m1575
noncomputable def m1579 : BT (List Nat) := .n (.n .e [] .e) [290, 273, 216] (.n .e [] .e)
noncomputable def m1580 : BT (List Nat) := .n m705 [] m1579
noncomputable def m1581 : BT (List Nat) := .n m1580 [] m708
noncomputable def m1582 : BT (List Nat) := .n m1581 [] m712
noncomputable def m1583 : BT (List Nat) := .n m1582 [] m1107
noncomputable def m1584 : BT (List Nat) := .n m1575 [] m1583
noncomputable def m1585 : BT (List Nat) := .n m1578 [] m1584
noncomputable def m1586 : BT (List Nat) := .n m1577 [] m1585
noncomputable def h1587 : Hp := Hp.lit t1572 m1586 458 24 (by kernel_rfl)
noncomputable def B66 : Code := Tryz.f66.body.getD .skip
noncomputable def l1588 : List AV := [(xP 74 0), (xP 297 0)] ++ us 96
noncomputable def s1589 : St := { tmps := l1588, h := h1534, pc := ([]), marks := [], pan := none }
noncomputable def l1590 : List AV := [(xP 74 0), (xP 297 0)] ++ us 5 ++ [(xP 74 0), (xP 297 0), (xP 297 0), (xP 297 3)] ++ ai [0] ++ [(xP 74 0), (xP 74 10), (xP 74 10), (xP 89 0), xF, xF] ++ us 11 ++ [xF] ++ us 68
noncomputable def s1591 : St := { tmps := l1590, h := h1534, pc := ([]), marks := [], pan := none }
set_option maxRecDepth 100000 in
theorem g33 : runCode Tryz.prog true (runCall Tryz.prog true none 300 57) none 299 none (sub B66 [false]) s1589 = some [(.normal, s1591)] := by kernel_rfl
noncomputable def l1592 : List AV := [(xP 74 0), (xP 297 0)] ++ us 2 ++ [(xP 91 0)] ++ us 2 ++ [(xP 74 0), (xP 297 0), (xP 297 0), (xP 297 3)] ++ ai [0] ++ [(xP 74 0), (xP 74 10), (xP 74 10), (xP 89 0), xF, xF] ++ us 11 ++ [xF, (xP 74 0), (xP 74 0), (xP 74 27), (xV 91 0 1 13 0), (xP 74 0), (xP 297 0), (xP 297 0), (xP 297 3)] ++ ai [0] ++ [(xP 74 0), (xP 74 18), (xP 74 18)] ++ ai [0] ++ [(xP 91 0)] ++ us 54
noncomputable def s1593 : St := { tmps := l1592, h := h1534, pc := ([]), marks := [], pan := none }
set_option maxRecDepth 100000 in
theorem g34 : runCode Tryz.prog true (runCall Tryz.prog true none 300 57) none 298 none (sub B66 [true, false]) s1591 = some [(.normal, s1593)] := by kernel_rfl
noncomputable def l1594 : List AV := [(xP 74 0), (xP 297 0)] ++ us 2 ++ [(xP 91 0), (xP 457 0)] ++ ai [0] ++ [(xP 74 0), (xP 297 0), (xP 297 0), (xP 297 3)] ++ ai [0] ++ [(xP 74 0), (xP 74 10), (xP 74 10), (xP 89 0), xF, xF] ++ us 11 ++ [xF, (xP 74 0), (xP 74 0), (xP 74 27), (xV 91 0 1 13 0), (xP 74 0), (xP 297 0), (xP 297 0), (xP 297 3)] ++ ai [0] ++ [(xP 74 0), (xP 74 18), (xP 74 18)] ++ ai [0] ++ [(xP 91 0), (.tuple ([(xA (ai [14] ++ [xF, xF, xT] ++ ai [0, 5] ++ [(xS [])]))] ++ ai [0])), (xP 74 0), (xP 297 0), (xP 297 0), (xP 297 3)] ++ ai [0] ++ [(xP 74 0), (xP 74 10), (xP 74 10), (xP 89 0), (.tuple ([(xA (ai [14] ++ [xF, xF, xT] ++ ai [0, 5] ++ [(xS [])]))] ++ ai [0])), (xA (ai [14] ++ [xF, xF, xT] ++ ai [0, 5] ++ [(xS [])]))] ++ ai [0] ++ us 41
noncomputable def t1595 : BT AObj := .n t156 o874 t159
noncomputable def t1596 : BT AObj := .n t1595 o171 t170
noncomputable def t1597 : BT AObj := .n t1547 o173 t1596
noncomputable def t1598 : BT AObj := .n t1408 o175 t1597
noncomputable def t1599 : BT AObj := .n t1544 o177 t1598
noncomputable def t1600 : BT AObj := .n (.n .e o1522 .e) o232 (.n .e o231 .e)
noncomputable def t1601 : BT AObj := .n t1600 o237 t236
noncomputable def t1602 : BT AObj := .n t229 o239 t1601
noncomputable def t1603 : BT AObj := .n t1602 o260 t259
noncomputable def t1604 : BT AObj := .n t1414 o262 t1603
noncomputable def t1605 : BT AObj := .n t1604 o349 t1555
noncomputable def t1606 : BT AObj := .n t1599 ((oC (cs (ay [17])) 5 1)) t1605
noncomputable def t1607 : BT AObj := .n t573 o1358 t1564
noncomputable def t1608 : BT AObj := .n t1607 o589 t588
noncomputable def t1609 : BT AObj := .n t1608 o611 t610
noncomputable def t1610 : BT AObj := .n t1437 o613 t1609
noncomputable def t1611 : BT AObj := .n t1610 o699 t1451
noncomputable def t1612 : BT AObj := .n t1563 o701 t1611
noncomputable def t1613 : BT AObj := .n t1606 o703 t1612
noncomputable def h1614 : Hp := Hp.lit t1613 m1586 458 24 (by kernel_rfl)
noncomputable def s1615 : St := { tmps := l1594, h := h1614, pc := ([]), marks := [], pan := none }
set_option maxRecDepth 100000 in
theorem g35 : runCode Tryz.prog true (runCall Tryz.prog true none 300 57) none 297 none (sub B66 [true, true, false]) s1593 = some [(.normal, s1615)] := by kernel_rfl
noncomputable def l1616 : List AV := [(xP 74 0), (xP 297 0)] ++ us 2 ++ [(xP 91 0), (xP 457 0)] ++ ai [0] ++ [(xP 74 0), (xP 297 0), (xP 297 0), (xP 297 3)] ++ ai [0] ++ [(xP 74 0), (xP 74 10), (xP 74 10), (xP 89 0), xF, xF] ++ us 11 ++ [xF, (xP 74 0), (xP 74 0), (xP 74 27), (xV 91 0 1 13 0), (xP 74 0), (xP 297 0), (xP 297 0), (xP 297 3)] ++ ai [0] ++ [(xP 74 0), (xP 74 18), (xP 74 18)] ++ ai [0] ++ [(xP 91 0), (.tuple ([(xA (ai [14] ++ [xF, xF, xT] ++ ai [0, 5] ++ [(xS [])]))] ++ ai [0])), (xP 74 0), (xP 297 0), (xP 297 0), (xP 297 3)] ++ ai [0] ++ [(xP 74 0), (xP 74 10), (xP 74 10), (xP 89 0), (.tuple ([(xA (ai [14] ++ [xF, xF, xT] ++ ai [0, 5] ++ [(xS [])]))] ++ ai [0])), (xA (ai [14] ++ [xF, xF, xT] ++ ai [0, 5] ++ [(xS [])]))] ++ ai [0] ++ [(xP 297 0), (xP 297 0), (xP 91 0), (xP 91 0), (xP 91 0)] ++ ai [0] ++ [(xA (ai [14] ++ [xF, xF, xT] ++ ai [0, 5] ++ [(xS [])])), (xP 297 0), (xP 297 4), (xP 297 0), (xP 297 5), (xP 457 3), xT, (xP 91 0), (xP 91 0), (xP 91 0), (xP 297 0), (xP 297 0), (xP 297 0)] ++ ai [4] ++ [(xP 74 0), (xP 74 0), (xP 74 0), (xP 40 0)] ++ au [0] ++ [(xP 457 4), (xA (ai [0, 5] ++ [(xS [])])), (xP 91 0), (xP 91 3), (xP 91 0), (xP 91 4), (xP 91 0), (xP 91 5), (xP 74 0), (xP 297 0), (xP 297 0), (xP 297 3)] ++ ai [0] ++ [(xP 74 0), (xP 74 10), (xP 74 10)]
noncomputable def s1617 : St := { tmps := l1616, h := h1587, pc := ([]), marks := [], pan := none }
set_option maxRecDepth 100000 in
theorem g36 : runCode Tryz.prog true (runCall Tryz.prog true none 300 57) none 297 none (sub B66 [true, true, true]) s1615 = some [(.normal, s1617)] := by kernel_rfl
set_option maxRecDepth 100000 in
theorem g37 : runCode Tryz.prog true (runCall Tryz.prog true none 300 57) none 298 none (sub B66 [true, true]) s1593 = some [(.normal, s1617)] := cut_seqs (x := (sub B66 [true, true, false])) (y := (sub B66 [true, true, true])) (n := 297) (by kernel_rfl) g35 (then_go g36 then_nil)
set_option maxRecDepth 100000 in
theorem g38 : runCode Tryz.prog true (runCall Tryz.prog true none 300 57) none 299 none (sub B66 [true]) s1591 = some [(.normal, s1617)] := cut_seqs (x := (sub B66 [true, false])) (y := (sub B66 [true, true])) (n := 298) (by kernel_rfl) g34 (then_go g37 then_nil)
set_option maxRecDepth 100000 in
theorem g39 : runCode Tryz.prog true (runCall Tryz.prog true none 300 57) none 300 none (sub B66 []) s1589 = some [(.normal, s1617)] := cut_seqs (x := (sub B66 [false])) (y := (sub B66 [true])) (n := 299) (by kernel_rfl) g33 (then_go g38 then_nil)
set_option maxRecDepth 100000 in
theorem g40 : (runCall Tryz.prog true none 300 58) false 66 ([(xP 74 0), (xP 297 0)]) s1539.h s1539.pc = some [(undefA, h1587, ([]))] := cut_call (d := 57) (fn := Tryz.f66) (c := sub B66 []) (l := [(.normal, s1617)]) (by kernel_rfl) Tryz.func66 (by kernel_rfl) g39 (by kernel_rfl)
noncomputable def s1618 : St := { tmps := l1538, h := h1587, pc := ([]), marks := [], pan := none }
set_option maxRecDepth 100000 in
theorem g41 : runOps Tryz.prog (runCall Tryz.prog true none 300 58) none (arrOf (sub B17 [true, true, true, true, true, true, true, false])) (seg (sub B17 [true, true, true, true, true, true, true, false]) 2 1) s1539 = some [s1618] := (cut_callseg (f := 66) (by kernel_rfl) (by kernel_rfl) g40).trans (by kernel_rfl)
set_option maxRecDepth 100000 in
theorem g42 : runOps Tryz.prog (runCall Tryz.prog true none 300 58) none (arrOf (sub B17 [true, true, true, true, true, true, true, false])) ((arrOf (sub B17 [true, true, true, true, true, true, true, false])).toList.drop 3) s1618 = some [s1618] := by kernel_rfl
set_option maxRecDepth 100000 in
theorem g43 : runOps Tryz.prog (runCall Tryz.prog true none 300 58) none (arrOf (sub B17 [true, true, true, true, true, true, true, false])) ((arrOf (sub B17 [true, true, true, true, true, true, true, false])).toList.drop 2) s1539 = some [s1618] := cut_ops (i := 2) (k := 1) (j := 3) rfl g41 (by kernel_rfl) (each_go g42 each_nil)
set_option maxRecDepth 100000 in
theorem g44 : runOps Tryz.prog (runCall Tryz.prog true none 300 58) none (arrOf (sub B17 [true, true, true, true, true, true, true, false])) ((arrOf (sub B17 [true, true, true, true, true, true, true, false])).toList.drop 0) s1537 = some [s1618] := cut_ops (i := 0) (k := 2) (j := 2) rfl g32 (by kernel_rfl) (each_go g43 each_nil)
set_option maxRecDepth 100000 in
theorem g45 : runCode Tryz.prog true (runCall Tryz.prog true none 300 58) none 292 none (sub B17 [true, true, true, true, true, true, true, false]) s1537 = some [(.normal, s1618)] := (cut_region (id := 10) (by kernel_rfl) g44).trans (by kernel_rfl)
noncomputable def l1619 : List AV := [(xP 74 0), (xA (ai [1, 0]))] ++ us 1 ++ [(xP 294 0), (xP 295 0)] ++ ai [0] ++ [(.map 296), (xQ 66), xT, (xP 297 0), (xP 74 0), xF] ++ us 1 ++ [(.map 296), (.map 296), (.tuple ([(xQ 66), xT])), (.map 296), (xP 294 0)] ++ ai [1] ++ [(.tuple ([(xQ 66), xT])), (xQ 66), xT, xT, xF, xF, (xP 294 0)] ++ ai [1] ++ [xT, xT, (xP 74 0), (xP 294 1)] ++ ai [0] ++ [xT, xF, xF, xF] ++ us 1 ++ [(xP 74 0), (xP 74 0), (xP 74 26), (xV 290 0 4 20 0)] ++ ai [4] ++ [(xP 294 0)] ++ ai [1] ++ [(xA (ai [4] ++ au [0] ++ ai [1, 0] ++ [(xJ 0)] ++ ai [0] ++ [xF, xF, xF] ++ ai [0, 0] ++ [(xS []), .nilSlice] ++ ai [0, 0, 0])), (xP 294 0)] ++ ai [1] ++ [xT, (xP 294 1)] ++ ai [0] ++ [(xP 297 3), (xQ 66), (xP 74 0)] ++ us 1 ++ [(xP 74 0), (xP 74 0), (xP 74 0), (xP 40 0)] ++ au [0] ++ [(xP 297 1), (xP 74 0), (xP 74 0), (xP 74 0), (xP 74 26), (xV 290 0 4 20 0), (xA (ai [4] ++ au [0] ++ ai [1, 0, 0, 14] ++ [xF, xF, xT] ++ ai [0, 5] ++ [(xS []), .nilSlice] ++ ai [0, 0, 0])), (xL 458 0 1 1), (xV 459 0 5 24 0), (xP 74 0), (xP 74 26), (xA (ai [4] ++ au [0] ++ ai [1, 0, 0, 14] ++ [xF, xF, xT] ++ ai [0, 5] ++ [(xS []), .nilSlice] ++ ai [0, 0, 0])), (xA (ai [4] ++ au [0] ++ ai [1, 0, 0, 14] ++ [xF, xF, xT] ++ ai [0, 5] ++ [(xS []), .nilSlice] ++ ai [0, 0, 0]))]
noncomputable def s1620 : St := { tmps := l1619, h := h1469, pc := ([]), marks := [], pan := none }
set_option maxRecDepth 100000 in
theorem g46 : runCode Tryz.prog true (runCall Tryz.prog true none 300 58) none 292 none (sub B17 [true, true, true, true, true, true, true, true]) s1618 = some [(.ret, s1620)] := by kernel_rfl
set_option maxRecDepth 100000 in
theorem g47 : runCode Tryz.prog true (runCall Tryz.prog true none 300 58) none 293 none (sub B17 [true, true, true, true, true, true, true]) s1537 = some [(.ret, s1620)] := cut_seqs (x := (sub B17 [true, true, true, true, true, true, true, false])) (y := (sub B17 [true, true, true, true, true, true, true, true])) (n := 292) (by kernel_rfl) g45 (then_go g46 then_nil)
set_option maxRecDepth 100000 in
theorem g48 : runCode Tryz.prog true (runCall Tryz.prog true none 300 58) none 294 none (sub B17 [true, true, true, true, true, true]) s1535 = some [(.ret, s1620)] := cut_seqs (x := (sub B17 [true, true, true, true, true, true, false])) (y := (sub B17 [true, true, true, true, true, true, true])) (n := 293) (by kernel_rfl) g31 (then_go g47 then_nil)
set_option maxRecDepth 100000 in
theorem g49 : runCode Tryz.prog true (runCall Tryz.prog true none 300 58) none 295 none (sub B17 [true, true, true, true, true]) s1520 = some [(.ret, s1620)] := cut_seqs (x := (sub B17 [true, true, true, true, true, false])) (y := (sub B17 [true, true, true, true, true, true])) (n := 294) (by kernel_rfl) g30 (then_go g48 then_nil)
set_option maxRecDepth 100000 in
theorem g50 : runCode Tryz.prog true (runCall Tryz.prog true none 300 58) none 296 none (sub B17 [true, true, true, true]) s1518 = some [(.ret, s1620)] := cut_seqs (x := (sub B17 [true, true, true, true, false])) (y := (sub B17 [true, true, true, true, true])) (n := 295) (by kernel_rfl) g29 (then_go g49 then_nil)
set_option maxRecDepth 100000 in
theorem g51 : runCode Tryz.prog true (runCall Tryz.prog true none 300 58) none 297 none (sub B17 [true, true, true]) s1516 = some [(.ret, s1620)] := cut_seqs (x := (sub B17 [true, true, true, false])) (y := (sub B17 [true, true, true, true])) (n := 296) (by kernel_rfl) g28 (then_go g50 then_nil)
set_option maxRecDepth 100000 in
theorem g52 : runCode Tryz.prog true (runCall Tryz.prog true none 300 58) none 298 none (sub B17 [true, true]) s1502 = some [(.ret, s1620)] := cut_seqs (x := (sub B17 [true, true, false])) (y := (sub B17 [true, true, true])) (n := 297) (by kernel_rfl) g27 (then_go g51 then_nil)
set_option maxRecDepth 100000 in
theorem g53 : runCode Tryz.prog true (runCall Tryz.prog true none 300 58) none 299 none (sub B17 [true]) s1500 = some [(.ret, s1620)] := cut_seqs (x := (sub B17 [true, false])) (y := (sub B17 [true, true])) (n := 298) (by kernel_rfl) g26 (then_go g52 then_nil)
set_option maxRecDepth 100000 in
theorem g54 : runCode Tryz.prog true (runCall Tryz.prog true none 300 58) none 300 none (sub B17 []) s1472 = some [(.ret, s1620)] := cut_seqs (x := (sub B17 [false])) (y := (sub B17 [true])) (n := 299) (by kernel_rfl) g25 (then_go g53 then_nil)
set_option maxRecDepth 100000 in
theorem g55 : (runCall Tryz.prog true none 300 59) false 17 l1470 s1395.h s1395.pc = some [((.tuple ([(xA (ai [4] ++ au [0] ++ ai [1, 0, 0, 14] ++ [xF, xF, xT] ++ ai [0, 5] ++ [(xS []), .nilSlice] ++ ai [0, 0, 0]))] ++ ai [0])), h1469, ([]))] := cut_call (d := 58) (fn := Tryz.f17) (c := sub B17 []) (l := [(.ret, s1620)]) (by kernel_rfl) Tryz.func17 (by kernel_rfl) g54 (by kernel_rfl)
noncomputable def l1621 : List AV := [xF, (xV 13 0 6 5 0), (xP 74 0)] ++ ai [0] ++ [(xL 78 0 6 6)] ++ ai [4] ++ [(xP 293 0)] ++ ai [0] ++ [(xA (ai [17] ++ [(xJ 2)] ++ ai [0, 0, 0] ++ [(xS []), (xS []), (.int .u32 (.lit (.ofNat 0)))] ++ ai [0, 0] ++ au [0] ++ ai [0] ++ [xT])), (xV 13 0 6 5 0), (.tuple ([(xP 74 0)] ++ ai [0])), (xA ([(xL 15 0 1 1)] ++ ai [4, 8, 8] ++ au [9, 99])), (xV 13 0 6 5 0), (xS [17, 253, 255, 255, 255, 1]), (xA (ai [0] ++ au [4] ++ [(xS [17, 253, 255, 255, 255, 1])])), (xL 16 0 1 1), (.tuple ([(xP 74 0)] ++ ai [0])), (xP 74 0)] ++ ai [0, 0] ++ [xF, xF, (xP 74 0), xF, xF, (xL 78 0 6 6)] ++ ai [4] ++ [(xL 78 0 6 6)] ++ ai [6] ++ [xT] ++ ai [3, 4] ++ [(.tuple ([(xA (ai [3] ++ au [0] ++ ai [1, 0, 0, 11] ++ [xF, xF, xF] ++ ai [0, 0] ++ [(xS []), .nilSlice] ++ ai [0, 0, 0]))] ++ ai [0])), (xP 74 0), (xA (ai [1, 0])), (.tuple ([(xA (ai [4] ++ au [0] ++ ai [1, 0, 0, 14] ++ [xF, xF, xT] ++ ai [0, 5] ++ [(xS []), .nilSlice] ++ ai [0, 0, 0]))] ++ ai [0])), (xA (ai [3] ++ au [0] ++ ai [1, 0, 0, 11] ++ [xF, xF, xF] ++ ai [0, 0] ++ [(xS []), .nilSlice] ++ ai [0, 0, 0]))] ++ ai [0, 0] ++ [xF, xF, (xP 293 5), (xP 293 5)] ++ ai [11] ++ [(xL 78 0 6 6)] ++ ai [3] ++ [(xP 78 3)] ++ ai [11] ++ [xF, xF, xF, (xP 293 5), (xP 293 8), xF] ++ ai [3] ++ [xF, xF, xF, xF] ++ ai [3] ++ [xF, xF] ++ us 5 ++ [xF, xF, xF, (xP 293 4)] ++ ai [0] ++ [xT, xT] ++ ai [3] ++ [xF, xF, xF]
noncomputable def s1622 : St := { tmps := l1621, h := h1469, pc := ([]), marks := [], pan := none }
set_option maxRecDepth 100000 in
theorem g56 : runOps Tryz.prog (runCall Tryz.prog true none 300 59) none (arrOf (sub B28 [true, true, true, true, true, false, true, false, false, true, false, false, false])) (seg (sub B28 [true, true, true, true, true, false, true, false, false, true, false, false, false]) 2 1) s1395 = some [s1622] := (cut_callseg (f := 17) (by kernel_rfl) (by kernel_rfl) g55).trans (by kernel_rfl)
noncomputable def l1623 : List AV := [xF, (xV 13 0 6 5 0), (xP 74 0)] ++ ai [0] ++ [(xL 78 0 6 6)] ++ ai [4] ++ [(xP 462 0)] ++ ai [0] ++ [(xA (ai [17] ++ [(xJ 2)] ++ ai [0, 0, 0] ++ [(xS []), (xS []), (.int .u32 (.lit (.ofNat 0)))] ++ ai [0, 0] ++ au [0] ++ ai [0] ++ [xT])), (xV 13 0 6 5 0), (.tuple ([(xP 74 0)] ++ ai [0])), (xA ([(xL 15 0 1 1)] ++ ai [4, 8, 8] ++ au [9, 99])), (xV 13 0 6 5 0), (xS [17, 253, 255, 255, 255, 1]), (xA (ai [0] ++ au [4] ++ [(xS [17, 253, 255, 255, 255, 1])])), (xL 16 0 1 1), (.tuple ([(xP 74 0)] ++ ai [0])), (xP 74 0)] ++ ai [0, 0] ++ [xF, xF, (xP 74 0), xF, xF, (xL 78 0 6 6)] ++ ai [4] ++ [(xL 78 0 6 6)] ++ ai [6] ++ [xT] ++ ai [3, 4] ++ [(.tuple ([(xA (ai [4] ++ au [0] ++ ai [1, 0, 0, 14] ++ [xF, xF, xT] ++ ai [0, 5] ++ [(xS []), .nilSlice] ++ ai [0, 0, 0]))] ++ ai [0])), (xP 74 0), (xA (ai [1, 0])), (.tuple ([(xA (ai [4] ++ au [0] ++ ai [1, 0, 0, 14] ++ [xF, xF, xT] ++ ai [0, 5] ++ [(xS []), .nilSlice] ++ ai [0, 0, 0]))] ++ ai [0])), (xA (ai [4] ++ au [0] ++ ai [1, 0, 0, 14] ++ [xF, xF, xT] ++ ai [0, 5] ++ [(xS []), .nilSlice] ++ ai [0, 0, 0]))] ++ ai [0, 0] ++ [xF, xF, (xP 293 5), (xP 293 5)] ++ ai [11] ++ [(xL 78 0 6 6)] ++ ai [3] ++ [(xP 78 3)] ++ ai [11] ++ [xF, xF, xF, (xP 293 5), (xP 293 8), xF] ++ ai [3] ++ [xF, xF, xF, xF] ++ ai [3] ++ [xF, xF] ++ us 5 ++ [xF, xF, xF, (xP 293 4)] ++ ai [0] ++ [xT, xT] ++ ai [3] ++ [xF, xF, xF]
noncomputable def t1624 : BT AObj := .n t1446 o697 t696
noncomputable def t1625 : BT AObj := .n t1442 o699 t1624
noncomputable def t1626 : BT AObj := .n t1433 o701 t1625
noncomputable def t1627 : BT AObj := .n t1422 o703 t1626
noncomputable def m1628 : BT (List Nat) := .n m1464 [] m713
noncomputable def m1629 : BT (List Nat) := .n m1455 [] m1628
noncomputable def m1630 : BT (List Nat) := .n m1460 [] m1629
noncomputable def m1631 : BT (List Nat) := .n m1459 [] m1630
noncomputable def h1632 : Hp := Hp.lit t1627 m1631 463 25 (by kernel_rfl)
noncomputable def s1633 : St := { tmps := l1623, h := h1632, pc := ([]), marks := [], pan := none }
set_option maxRecDepth 100000 in
theorem g57 : runOps Tryz.prog (runCall Tryz.prog true none 300 59) none (arrOf (sub B28 [true, true, true, true, true, false, true, false, false, true, false, false, false])) ((arrOf (sub B28 [true, true, true, true, true, false, true, false, false, true, false, false, false])).toList.drop 3) s1622 = some [s1633] := by kernel_rfl
set_option maxRecDepth 100000 in
theorem g58 : runOps Tryz.prog (runCall Tryz.prog true none 300 59) none (arrOf (sub B28 [true, true, true, true, true, false, true, false, false, true, false, false, false])) ((arrOf (sub B28 [true, true, true, true, true, false, true, false, false, true, false, false, false])).toList.drop 2) s1395 = some [s1633] := cut_ops (i := 2) (k := 1) (j := 3) rfl g56 (by kernel_rfl) (each_go g57 each_nil)
set_option maxRecDepth 100000 in
theorem g59 : runOps Tryz.prog (runCall Tryz.prog true none 300 59) none (arrOf (sub B28 [true, true, true, true, true, false, true, false, false, true, false, false, false])) ((arrOf (sub B28 [true, true, true, true, true, false, true, false, false, true, false, false, false])).toList.drop 0) s1395 = some [s1633] := cut_ops (i := 0) (k := 2) (j := 2) rfl g24 (by kernel_rfl) (each_go g58 each_nil)
set_option maxRecDepth 100000 in
theorem g60 : runCode Tryz.prog true (runCall Tryz.prog true none 300 59) none 283 none (sub B28 [true, true, true, true, true, false, true, false, false, true, false, false, false]) s1395 = some [(.normal, s1633)] := (cut_region (id := 9) (by kernel_rfl) g59).trans (by kernel_rfl)
noncomputable def l1634 : List AV := [xF, (xV 13 0 6 5 0), (xP 74 0)] ++ ai [0] ++ [(xL 78 0 6 6)] ++ ai [4] ++ [(xP 462 0)] ++ ai [0] ++ [(xA (ai [17] ++ [(xJ 2)] ++ ai [0, 0, 0] ++ [(xS []), (xS []), (.int .u32 (.lit (.ofNat 0)))] ++ ai [0, 0] ++ au [0] ++ ai [0] ++ [xT])), (xV 13 0 6 5 0), (.tuple ([(xP 74 0)] ++ ai [0])), (xA ([(xL 15 0 1 1)] ++ ai [4, 8, 8] ++ au [9, 99])), (xV 13 0 6 5 0), (xS [17, 253, 255, 255, 255, 1]), (xA (ai [0] ++ au [4] ++ [(xS [17, 253, 255, 255, 255, 1])])), (xL 16 0 1 1), (.tuple ([(xP 74 0)] ++ ai [0])), (xP 74 0)] ++ ai [0, 0] ++ [xF, xF, (xP 74 0), xF, xF, (xL 78 0 6 6)] ++ ai [4] ++ [(xL 78 0 6 6)] ++ ai [6] ++ [xT] ++ ai [3, 4] ++ [(.tuple ([(xA (ai [4] ++ au [0] ++ ai [1, 0, 0, 14] ++ [xF, xF, xT] ++ ai [0, 5] ++ [(xS []), .nilSlice] ++ ai [0, 0, 0]))] ++ ai [0])), (xP 74 0), (xA (ai [1, 0])), (.tuple ([(xA (ai [4] ++ au [0] ++ ai [1, 0, 0, 14] ++ [xF, xF, xT] ++ ai [0, 5] ++ [(xS []), .nilSlice] ++ ai [0, 0, 0]))] ++ ai [0])), (xA (ai [4] ++ au [0] ++ ai [1, 0, 0, 14] ++ [xF, xF, xT] ++ ai [0, 5] ++ [(xS []), .nilSlice] ++ ai [0, 0, 0]))] ++ ai [0, 0] ++ [xF, xF, (xP 462 5), (xP 462 5)] ++ ai [14] ++ [(xL 78 0 6 6)] ++ ai [4] ++ [(xP 78 4)] ++ ai [14] ++ [xF, xF, xF, (xP 462 5), (xP 462 8), xT] ++ ai [4] ++ [xT, xF, xF, xF] ++ ai [4] ++ [xT, xT, (xP 462 5), (xP 462 9), (xA (ai [0, 5] ++ [(xS [])])), (xA (ai [0, 5] ++ [(xS [])])), xF, xF, xF, xF, (xP 462 4)] ++ ai [0] ++ [xT, xT] ++ ai [4] ++ [xF, xF, xF]
noncomputable def s1635 : St := { tmps := l1634, h := h1632, pc := ([]), marks := [], pan := none }
set_option maxRecDepth 100000 in
theorem g61 : runCode Tryz.prog true (runCall Tryz.prog true none 300 59) none 283 none (sub B28 [true, true, true, true, true, false, true, false, false, true, false, false, true]) s1633 = some [(.normal, s1635)] := by kernel_rfl
set_option maxRecDepth 100000 in
theorem g62 : runCode Tryz.prog true (runCall Tryz.prog true none 300 59) none 284 none (sub B28 [true, true, true, true, true, false, true, false, false, true, false, false]) s1395 = some [(.normal, s1635)] := cut_seqs (x := (sub B28 [true, true, true, true, true, false, true, false, false, true, false, false, false])) (y := (sub B28 [true, true, true, true, true, false, true, false, false, true, false, false, true])) (n := 283) (by kernel_rfl) g60 (then_go g61 then_nil)
set_option maxRecDepth 100000 in
theorem g63 : runCode Tryz.prog true (runCall Tryz.prog true none 300 59) none 285 none (sub B28 [true, true, true, true, true, false, true, false, false, true, false]) s1395 = some [(.normal, s1635)] := cut_block (id := 1) (x := (sub B28 [true, true, true, true, true, false, true, false, false, true, false, false])) (n := 284) (by kernel_rfl) g62
noncomputable def l1636 : List AV := [xF, (xV 13 0 6 5 0), (xP 74 0)] ++ ai [0] ++ [(xL 78 0 6 6)] ++ ai [5] ++ [(xP 462 0)] ++ ai [0] ++ [(xA (ai [17] ++ [(xJ 2)] ++ ai [0, 0, 0] ++ [(xS []), (xS []), (.int .u32 (.lit (.ofNat 0)))] ++ ai [0, 0] ++ au [0] ++ ai [0] ++ [xT])), (xV 13 0 6 5 0), (.tuple ([(xP 74 0)] ++ ai [0])), (xA ([(xL 15 0 1 1)] ++ ai [4, 8, 8] ++ au [9, 99])), (xV 13 0 6 5 0), (xS [17, 253, 255, 255, 255, 1]), (xA (ai [0] ++ au [4] ++ [(xS [17, 253, 255, 255, 255, 1])])), (xL 16 0 1 1), (.tuple ([(xP 74 0)] ++ ai [0])), (xP 74 0)] ++ ai [0, 0] ++ [xF, xF, (xP 74 0), xF, xF, (xL 78 0 6 6)] ++ ai [4] ++ [(xL 78 0 6 6)] ++ ai [6] ++ [xT] ++ ai [4, 5] ++ [(.tuple ([(xA (ai [4] ++ au [0] ++ ai [1, 0, 0, 14] ++ [xF, xF, xT] ++ ai [0, 5] ++ [(xS []), .nilSlice] ++ ai [0, 0, 0]))] ++ ai [0])), (xP 74 0), (xA (ai [1, 0])), (.tuple ([(xA (ai [4] ++ au [0] ++ ai [1, 0, 0, 14] ++ [xF, xF, xT] ++ ai [0, 5] ++ [(xS []), .nilSlice] ++ ai [0, 0, 0]))] ++ ai [0])), (xA (ai [4] ++ au [0] ++ ai [1, 0, 0, 14] ++ [xF, xF, xT] ++ ai [0, 5] ++ [(xS []), .nilSlice] ++ ai [0, 0, 0]))] ++ ai [0, 0] ++ [xF, xF, (xP 462 5), (xP 462 5)] ++ ai [14] ++ [(xL 78 0 6 6)] ++ ai [4] ++ [(xP 78 4)] ++ ai [14] ++ [xF, xF, xF, (xP 462 5), (xP 462 8), xT] ++ ai [4] ++ [xT, xF, xF, xF] ++ ai [4] ++ [xT, xT, (xP 462 5), (xP 462 9), (xA (ai [0, 5] ++ [(xS [])])), (xA (ai [0, 5] ++ [(xS [])])), xF, xF, xF, xF, (xP 462 4)] ++ ai [0] ++ [xT, xT] ++ ai [4] ++ [xF, xF, xF]
noncomputable def s1637 : St := { tmps := l1636, h := h1632, pc := ([]), marks := [], pan := none }
set_option maxRecDepth 100000 in
theorem g64 : runCode Tryz.prog true (runCall Tryz.prog true none 300 59) none 285 none (sub B28 [true, true, true, true, true, false, true, false, false, true, true]) s1635 = some [(.normal, s1637)] := by kernel_rfl
set_option maxRecDepth 100000 in
theorem g65 : runCode Tryz.prog true (runCall Tryz.prog true none 300 59) none 286 none (sub B28 [true, true, true, true, true, false, true, false, false, true]) s1395 = some [(.normal, s1637)] := cut_seqs (x := (sub B28 [true, true, true, true, true, false, true, false, false, true, false])) (y := (sub B28 [true, true, true, true, true, false, true, false, false, true, true])) (n := 285) (by kernel_rfl) g63 (then_go g64 then_nil)
set_option maxRecDepth 100000 in
theorem g66 : runCode Tryz.prog true (runCall Tryz.prog true none 300 59) none 287 none (sub B28 [true, true, true, true, true, false, true, false, false]) s1393 = some [(.normal, s1637)] := cut_seqs (x := (sub B28 [true, true, true, true, true, false, true, false, false, false])) (y := (sub B28 [true, true, true, true, true, false, true, false, false, true])) (n := 286) (by kernel_rfl) g23 (then_go g65 then_nil)
noncomputable def l1638 : List AV := [xF, (xV 13 0 6 5 0), (xP 74 0)] ++ ai [0] ++ [(xL 78 0 6 6)] ++ ai [6] ++ [(xP 471 0)] ++ ai [0] ++ [(xA (ai [17] ++ [(xJ 2)] ++ ai [0, 0, 0] ++ [(xS []), (xS []), (.int .u32 (.lit (.ofNat 0)))] ++ ai [0, 0] ++ au [0] ++ ai [0] ++ [xT])), (xV 13 0 6 5 0), (.tuple ([(xP 74 0)] ++ ai [0])), (xA ([(xL 15 0 1 1)] ++ ai [4, 8, 8] ++ au [9, 99])), (xV 13 0 6 5 0), (xS [17, 253, 255, 255, 255, 1]), (xA (ai [0] ++ au [4] ++ [(xS [17, 253, 255, 255, 255, 1])])), (xL 16 0 1 1), (.tuple ([(xP 74 0)] ++ ai [0])), (xP 74 0)] ++ ai [0, 0] ++ [xF, xF, (xP 74 0), xF, xF, (xL 78 0 6 6)] ++ ai [6] ++ [(xL 78 0 6 6)] ++ ai [6] ++ [xF] ++ ai [5, 6] ++ [(.tuple ([(xA (ai [5] ++ au [0] ++ ai [1, 0] ++ [(xJ 0)] ++ ai [0] ++ [xF, xF, xF] ++ ai [0, 0] ++ [(xS []), .nilSlice] ++ ai [0, 0, 0]))] ++ ai [0])), (xP 74 0), (xA (ai [1, 0])), (.tuple ([(xA (ai [5] ++ au [0] ++ ai [1, 0] ++ [(xJ 0)] ++ ai [0] ++ [xF, xF, xF] ++ ai [0, 0] ++ [(xS []), .nilSlice] ++ ai [0, 0, 0]))] ++ ai [0])), (xA (ai [5] ++ au [0] ++ ai [1, 0] ++ [(xJ 0)] ++ ai [0] ++ [xF, xF, xF] ++ ai [0, 0] ++ [(xS []), .nilSlice] ++ ai [0, 0, 0]))] ++ ai [0, 0] ++ [xF, xF, (xP 471 5), (xP 471 5)] ++ ai [0] ++ [(xL 78 0 6 6)] ++ ai [5] ++ [(xP 78 5)] ++ ai [0] ++ [xF, xF, xF, (xP 471 5), (xP 471 8), xF] ++ ai [5] ++ [xF, xF, xF, xF] ++ ai [5] ++ [xF, xF] ++ us 5 ++ [xF, xF, xF, (xP 471 4), (xJ 0), xF, xF] ++ us 2 ++ [xF, xF]
noncomputable def s1639 : St := { tmps := l1638, h := h728, pc := ([]), marks := [], pan := none }
set_option maxRecDepth 100000 in
theorem g67 : runCode Tryz.prog true (runCall Tryz.prog true none 300 59) none 287 none (sub B28 [true, true, true, true, true, false, true, false]) s1637 = some [((.exit 0), s1639)] := by kernel_rfl
set_option maxRecDepth 100000 in
theorem g68 : runCode Tryz.prog true (runCall Tryz.prog true none 300 59) none 288 none (sub B28 [true, true, true, true, true, false, true, false]) s1393 = some [((.exit 0), s1639)] := cut_loops (x := (sub B28 [true, true, true, true, true, false, true, false, false])) (n := 287) (by kernel_rfl) g66 (then_go g67 then_nil)
set_option maxRecDepth 100000 in
theorem g69 : runCode Tryz.prog true (runCall Tryz.prog true none 300 59) none 289 none (sub B28 [true, true, true, true, true, false, true, false]) s1287 = some [((.exit 0), s1639)] := cut_loops (x := (sub B28 [true, true, true, true, true, false, true, false, false])) (n := 288) (by kernel_rfl) g22 (then_go g68 then_nil)
set_option maxRecDepth 100000 in
theorem g70 : runCode Tryz.prog true (runCall Tryz.prog true none 300 59) none 290 none (sub B28 [true, true, true, true, true, false, true, false]) s1122 = some [((.exit 0), s1639)] := cut_loops (x := (sub B28 [true, true, true, true, true, false, true, false, false])) (n := 289) (by kernel_rfl) g21 (then_go g69 then_nil)
set_option maxRecDepth 100000 in
theorem g71 : runCode Tryz.prog true (runCall Tryz.prog true none 300 59) none 291 none (sub B28 [true, true, true, true, true, false, true, false]) s1031 = some [((.exit 0), s1639)] := cut_loops (x := (sub B28 [true, true, true, true, true, false, true, false, false])) (n := 290) (by kernel_rfl) g20 (then_go g70 then_nil)
noncomputable def t1640 : BT AObj := .n (.n .e o308 .e) o729 (.n .e o312 .e)
noncomputable def t1641 : BT AObj := .n t1640 o324 t905
noncomputable def t1642 : BT AObj := .n t1641 o345 t909
noncomputable def t1643 : BT AObj := .n t1064 o347 t1642
noncomputable def t1644 : BT AObj := .n t1060 o349 t1643
noncomputable def t1645 : BT AObj := .n t1052 ((oC (cs (ay [17])) 5 1)) t1644
noncomputable def o1646 : AObj := (oC (cs ([(xP 40 0), (xV 73 0 1 9 0), (xV 77 1 0 10 1), .nilSlice, .nilSlice, .nilSlice, .nilSlice, .nilSlice, .nilSlice, .nilSlice, (xP 89 0), .nilPtr, .nilPtr, .nilPtr, .nilPtr, .nilPtr, .nilPtr, .nilPtr] ++ ai [0, 0, 0, 0, 0, 0, 0, 0] ++ [(xV 216 0 2 16 0), (xV 91 0 1 13 0)])) 97 74)
noncomputable def t1647 : BT AObj := .n (.n .e o572 .e) o1646 (.n .e o576 .e)
noncomputable def t1648 : BT AObj := .n t1647 o589 t954
noncomputable def t1649 : BT AObj := .n t1648 o611 t1094
noncomputable def t1650 : BT AObj := .n t1089 o613 t1649
noncomputable def t1651 : BT AObj := .n t1650 o699 t1103
noncomputable def t1652 : BT AObj := .n t1085 o701 t1651
noncomputable def t1653 : BT AObj := .n t1645 o703 t1652
noncomputable def h1654 : Hp := Hp.lit t1653 m1120 220 17 (by kernel_rfl)
noncomputable def s1655 : St := { tmps := l1033, h := h1654, pc := ([]), marks := [], pan := none }
set_option maxRecDepth 100000 in
theorem g72 : runCode Tryz.prog true (runCall Tryz.prog true none 300 59) none 290 none (sub B28 [true, true, true, true, true, false, true, false, false]) s1032 = some [(.normal, s1655)] := by kernel_rfl
noncomputable def t1656 : BT AObj := .n t1186 o729 (.n .e o312 .e)
noncomputable def t1657 : BT AObj := .n t1656 o324 t1188
noncomputable def t1658 : BT AObj := .n t1657 o345 t1192
noncomputable def t1659 : BT AObj := .n t1185 o347 t1658
noncomputable def t1660 : BT AObj := .n t1177 o349 t1659
noncomputable def t1661 : BT AObj := .n t1158 ((oC (cs (ay [17])) 5 1)) t1660
noncomputable def o1662 : AObj := (oC (cs ([(xP 40 0), (xV 73 0 1 9 0), (xV 77 1 0 10 1), .nilSlice, .nilSlice, .nilSlice, .nilSlice, .nilSlice, .nilSlice, .nilSlice, (xP 89 0), .nilPtr, .nilPtr, .nilPtr, .nilPtr, .nilPtr, .nilPtr, .nilPtr] ++ ai [0, 0, 0, 0, 0, 0, 0, 0] ++ [(xV 273 0 3 19 0), (xV 91 0 1 13 0)])) 97 74)
noncomputable def t1663 : BT AObj := .n t1242 o1662 (.n .e o576 .e)
noncomputable def t1664 : BT AObj := .n t1663 o589 t1245
noncomputable def t1665 : BT AObj := .n t1664 o611 t1248
noncomputable def t1666 : BT AObj := .n t1241 o613 t1665
noncomputable def t1667 : BT AObj := .n t1666 o699 t1266
noncomputable def t1668 : BT AObj := .n t1232 o701 t1667
noncomputable def t1669 : BT AObj := .n t1661 o703 t1668
noncomputable def h1670 : Hp := Hp.lit t1669 m1285 277 20 (by kernel_rfl)
noncomputable def s1671 : St := { tmps := l1123, h := h1670, pc := ([]), marks := [], pan := none }
set_option maxRecDepth 100000 in
theorem g73 : runCode Tryz.prog true (runCall Tryz.prog true none 300 59) none 289 none (sub B28 [true, true, true, true, true, false, true, false, false]) s1655 = some [(.normal, s1671)] := by kernel_rfl
noncomputable def t1672 : BT AObj := .n t1657 o345 t1329
noncomputable def t1673 : BT AObj := .n t1326 o347 t1672
noncomputable def t1674 : BT AObj := .n t1319 o349 t1673
noncomputable def t1675 : BT AObj := .n t1309 ((oC (cs (ay [17])) 5 1)) t1674
noncomputable def o1676 : AObj := (oC (cs ([(xP 40 0), (xV 73 0 1 9 0), (xV 77 1 0 10 1), .nilSlice, .nilSlice, .nilSlice, .nilSlice, .nilSlice, .nilSlice, .nilSlice, (xP 89 0), .nilPtr, .nilPtr, .nilPtr, .nilPtr, .nilPtr, .nilPtr, .nilPtr] ++ ai [0, 0, 0, 0, 0, 0, 0, 0] ++ [(xV 290 0 4 20 0), (xV 91 0 1 13 0)])) 97 74)
noncomputable def t1677 : BT AObj := .n t1242 o1676 (.n .e o576 .e)
noncomputable def t1678 : BT AObj := .n t1677 o589 t1245
noncomputable def t1679 : BT AObj := .n t1678 o611 t1363
noncomputable def t1680 : BT AObj := .n t1357 o613 t1679
noncomputable def t1681 : BT AObj := .n t1680 o699 t1374
noncomputable def t1682 : BT AObj := .n t1353 o701 t1681
noncomputable def t1683 : BT AObj := .n t1675 o703 t1682
noncomputable def h1684 : Hp := Hp.lit t1683 m1391 294 21 (by kernel_rfl)
noncomputable def s1685 : St := { tmps := l1288, h := h1684, pc := ([]), marks := [], pan := none }
set_option maxRecDepth 100000 in
theorem g74 : runCode Tryz.prog true (runCall Tryz.prog true none 300 59) none 288 none (sub B28 [true, true, true, true, true, false, true, false, false]) s1671 = some [(.normal, s1685)] := by kernel_rfl
noncomputable def s1686 : St := { tmps := l1394, h := h1684, pc := ([]), marks := [], pan := none }
set_option maxRecDepth 100000 in
theorem g75 : runCode Tryz.prog true (runCall Tryz.prog true none 300 59) none 286 none (sub B28 [true, true, true, true, true, false, true, false, false, false]) s1685 = some [(.normal, s1686)] := by kernel_rfl
set_option maxRecDepth 100000 in
theorem g76 : runOps Tryz.prog (runCall Tryz.prog true none 300 59) none (arrOf (sub B28 [true, true, true, true, true, false, true, false, false, true, false, false, false])) (seg (sub B28 [true, true, true, true, true, false, true, false, false, true, false, false, false]) 0 2) s1686 = some [s1686] := by kernel_rfl
noncomputable def t1687 : BT AObj := .n t1419 o347 t732
noncomputable def t1688 : BT AObj := .n t1415 o349 t1687
noncomputable def t1689 : BT AObj := .n t1410 ((oC (cs (ay [17])) 5 1)) t1688
noncomputable def o1690 : AObj := (oC (cs ([(xP 40 0), (xV 73 0 1 9 0), (xV 77 1 0 10 1), .nilSlice, .nilSlice, .nilSlice, .nilSlice, .nilSlice, .nilSlice, .nilSlice, .nilPtr, .nilPtr, .nilPtr, .nilPtr, .nilPtr, .nilPtr, .nilPtr, .nilPtr] ++ ai [0, 0, 0, 0, 0, 0, 0, 0] ++ [(xV 459 0 5 24 0), (xV 91 0 1 13 0)])) 97 74)
noncomputable def t1691 : BT AObj := .n t573 o1690 t577
noncomputable def t1692 : BT AObj := .n t1691 o589 t588
noncomputable def t1693 : BT AObj := .n t1692 o611 t610
noncomputable def t1694 : BT AObj := .n t1437 o613 t1693
noncomputable def t1695 : BT AObj := .n t1694 o699 t1451
noncomputable def t1696 : BT AObj := .n t1433 o701 t1695
noncomputable def t1697 : BT AObj := .n t1689 o703 t1696
noncomputable def h1698 : Hp := Hp.lit t1697 m1468 462 25 (by kernel_rfl)
noncomputable def s1699 : St := { tmps := l1471, h := h1684, pc := ([]), marks := [], pan := none }
noncomputable def t1700 : BT AObj := .n t1480 ((oC (cs (ay [17])) 5 1)) t1674
noncomputable def t1701 : BT AObj := .n t1680 o699 t1486
noncomputable def t1702 : BT AObj := .n t1353 o701 t1701
noncomputable def t1703 : BT AObj := .n t1700 o703 t1702
noncomputable def h1704 : Hp := Hp.lit t1703 m1498 296 21 (by kernel_rfl)
noncomputable def s1705 : St := { tmps := l1473, h := h1704, pc := ([]), marks := [], pan := none }
set_option maxRecDepth 100000 in
theorem g77 : runCode Tryz.prog true (runCall Tryz.prog true none 300 58) none 299 none (sub B17 [false]) s1699 = some [(.normal, s1705)] := by kernel_rfl
noncomputable def s1706 : St := { tmps := l1501, h := h1704, pc := ([]), marks := [], pan := none }
set_option maxRecDepth 100000 in
theorem g78 : runCode Tryz.prog true (runCall Tryz.prog true none 300 58) none 298 none (sub B17 [true, false]) s1705 = some [(.normal, s1706)] := by kernel_rfl
noncomputable def t1707 : BT AObj := .n t1509 o701 t1701
noncomputable def t1708 : BT AObj := .n t1700 o703 t1707
noncomputable def h1709 : Hp := Hp.lit t1708 m1514 297 21 (by kernel_rfl)
noncomputable def s1710 : St := { tmps := l1503, h := h1709, pc := ([]), marks := [], pan := none }
set_option maxRecDepth 100000 in
theorem g79 : runCode Tryz.prog true (runCall Tryz.prog true none 300 58) none 297 none (sub B17 [true, true, false]) s1706 = some [(.normal, s1710)] := by kernel_rfl
noncomputable def s1711 : St := { tmps := l1517, h := h1709, pc := ([]), marks := [], pan := none }
set_option maxRecDepth 100000 in
theorem g80 : runCode Tryz.prog true (runCall Tryz.prog true none 300 58) none 296 none (sub B17 [true, true, true, false]) s1710 = some [(.normal, s1711)] := by kernel_rfl
noncomputable def s1712 : St := { tmps := l1519, h := h1709, pc := ([]), marks := [], pan := none }
set_option maxRecDepth 100000 in
theorem g81 : runCode Tryz.prog true (runCall Tryz.prog true none 300 58) none 295 none (sub B17 [true, true, true, true, false]) s1711 = some [(.normal, s1712)] := by kernel_rfl
noncomputable def t1713 : BT AObj := .n t1527 o349 t1673
noncomputable def t1714 : BT AObj := .n t1480 ((oC (cs (ay [17])) 5 1)) t1713
noncomputable def t1715 : BT AObj := .n t1714 o703 t1707
noncomputable def h1716 : Hp := Hp.lit t1715 m1533 298 21 (by kernel_rfl)
noncomputable def s1717 : St := { tmps := l1521, h := h1716, pc := ([]), marks := [], pan := none }
set_option maxRecDepth 100000 in
theorem g82 : runCode Tryz.prog true (runCall Tryz.prog true none 300 58) none 294 none (sub B17 [true, true, true, true, true, false]) s1712 = some [(.normal, s1717)] := by kernel_rfl
noncomputable def s1718 : St := { tmps := l1536, h := h1716, pc := ([]), marks := [], pan := none }
set_option maxRecDepth 100000 in
theorem g83 : runCode Tryz.prog true (runCall Tryz.prog true none 300 58) none 293 none (sub B17 [true, true, true, true, true, true, false]) s1717 = some [(.normal, s1718)] := by kernel_rfl
noncomputable def s1719 : St := { tmps := l1538, h := h1716, pc := ([]), marks := [], pan := none }
set_option maxRecDepth 100000 in
theorem g84 : runOps Tryz.prog (runCall Tryz.prog true none 300 58) none (arrOf (sub B17 [true, true, true, true, true, true, true, false])) (seg (sub B17 [true, true, true, true, true, true, true, false]) 0 2) s1718 = some [s1719] := by kernel_rfl
noncomputable def t1720 : BT AObj := .n t309 o729 t1551
noncomputable def t1721 : BT AObj := .n t1720 o324 t323
noncomputable def t1722 : BT AObj := .n t1721 o345 t344
noncomputable def t1723 : BT AObj := .n t1419 o347 t1722
noncomputable def t1724 : BT AObj := .n t1415 o349 t1723
noncomputable def t1725 : BT AObj := .n t1550 ((oC (cs (ay [17])) 5 1)) t1724
noncomputable def o1726 : AObj := (oC (cs ([(xP 40 0), (xV 73 0 1 9 0), (xV 77 1 0 10 1), .nilSlice, .nilSlice, .nilSlice, .nilSlice, .nilSlice, .nilSlice, .nilSlice, .nilPtr, .nilPtr, .nilPtr, .nilPtr, .nilPtr, .nilPtr, .nilPtr, .nilPtr] ++ ai [0, 0, 0, 0, 0, 0, 0, 0] ++ [(xV 290 0 4 20 0), (xV 91 0 1 13 0)])) 97 74)
noncomputable def t1727 : BT AObj := .n t573 o1726 t1564
noncomputable def t1728 : BT AObj := .n t1727 o589 t588
noncomputable def t1729 : BT AObj := .n t1728 o611 t610
noncomputable def t1730 : BT AObj := .n t1437 o613 t1729
noncomputable def t1731 : BT AObj := .n t1730 o699 t1451
noncomputable def t1732 : BT AObj := .n t1563 o701 t1731
noncomputable def t1733 : BT AObj := .n t1725 o703 t1732
noncomputable def h1734 : Hp := Hp.lit t1733 m1586 458 24 (by kernel_rfl)
noncomputable def s1735 : St := { tmps := l1588, h := h1716, pc := ([]), marks := [], pan := none }
noncomputable def s1736 : St := { tmps := l1590, h := h1716, pc := ([]), marks := [], pan := none }
set_option maxRecDepth 100000 in
theorem g85 : runCode Tryz.prog true (runCall Tryz.prog true none 300 57) none 299 none (sub B66 [false]) s1735 = some [(.normal, s1736)] := by kernel_rfl
noncomputable def s1737 : St := { tmps := l1592, h := h1716, pc := ([]), marks := [], pan := none }
set_option maxRecDepth 100000 in
theorem g86 : runCode Tryz.prog true (runCall Tryz.prog true none 300 57) none 298 none (sub B66 [true, false]) s1736 = some [(.normal, s1737)] := by kernel_rfl
noncomputable def t1738 : BT AObj := .n t1604 o349 t1723
noncomputable def t1739 : BT AObj := .n t1599 ((oC (cs (ay [17])) 5 1)) t1738
noncomputable def t1740 : BT AObj := .n t573 o1676 t1564
noncomputable def t1741 : BT AObj := .n t1740 o589 t588
noncomputable def t1742 : BT AObj := .n t1741 o611 t610
noncomputable def t1743 : BT AObj := .n t1437 o613 t1742
noncomputable def t1744 : BT AObj := .n t1743 o699 t1451
noncomputable def t1745 : BT AObj := .n t1563 o701 t1744
noncomputable def t1746 : BT AObj := .n t1739 o703 t1745
noncomputable def h1747 : Hp := Hp.lit t1746 m1586 458 24 (by kernel_rfl)
noncomputable def s1748 : St := { tmps := l1594, h := h1747, pc := ([]), marks := [], pan := none }
set_option maxRecDepth 100000 in
theorem g87 : runCode Tryz.prog true (runCall Tryz.prog true none 300 57) none 297 none (sub B66 [true, true, false]) s1737 = some [(.normal, s1748)] := by kernel_rfl
noncomputable def s1749 : St := { tmps := l1616, h := h1734, pc := ([]), marks := [], pan := none }
set_option maxRecDepth 100000 in
theorem g88 : runCode Tryz.prog true (runCall Tryz.prog true none 300 57) none 297 none (sub B66 [true, true, true]) s1748 = some [(.normal, s1749)] := by kernel_rfl
set_option maxRecDepth 100000 in
theorem g89 : runCode Tryz.prog true (runCall Tryz.prog true none 300 57) none 298 none (sub B66 [true, true]) s1737 = some [(.normal, s1749)] := cut_seqs (x := (sub B66 [true, true, false])) (y := (sub B66 [true, true, true])) (n := 297) (by kernel_rfl) g87 (then_go g88 then_nil)
set_option maxRecDepth 100000 in
theorem g90 : runCode Tryz.prog true (runCall Tryz.prog true none 300 57) none 299 none (sub B66 [true]) s1736 = some [(.normal, s1749)] := cut_seqs (x := (sub B66 [true, false])) (y := (sub B66 [true, true])) (n := 298) (by kernel_rfl) g86 (then_go g89 then_nil)
set_option maxRecDepth 100000 in
theorem g91 : runCode Tryz.prog true (runCall Tryz.prog true none 300 57) none 300 none (sub B66 []) s1735 = some [(.normal, s1749)] := cut_seqs (x := (sub B66 [false])) (y := (sub B66 [true])) (n := 299) (by kernel_rfl) g85 (then_go g90 then_nil)
set_option maxRecDepth 100000 in
theorem g92 : (runCall Tryz.prog true none 300 58) false 66 ([(xP 74 0), (xP 297 0)]) s1719.h s1719.pc = some [(undefA, h1734, ([]))] := cut_call (d := 57) (fn := Tryz.f66) (c := sub B66 []) (l := [(.normal, s1749)]) (by kernel_rfl) Tryz.func66 (by kernel_rfl) g91 (by kernel_rfl)
noncomputable def s1750 : St := { tmps := l1538, h := h1734, pc := ([]), marks := [], pan := none }
set_option maxRecDepth 100000 in
theorem g93 : runOps Tryz.prog (runCall Tryz.prog true none 300 58) none (arrOf (sub B17 [true, true, true, true, true, true, true, false])) (seg (sub B17 [true, true, true, true, true, true, true, false]) 2 1) s1719 = some [s1750] := (cut_callseg (f := 66) (by kernel_rfl) (by kernel_rfl) g92).trans (by kernel_rfl)
set_option maxRecDepth 100000 in
theorem g94 : runOps Tryz.prog (runCall Tryz.prog true none 300 58) none (arrOf (sub B17 [true, true, true, true, true, true, true, false])) ((arrOf (sub B17 [true, true, true, true, true, true, true, false])).toList.drop 3) s1750 = some [s1750] := by kernel_rfl
set_option maxRecDepth 100000 in
theorem g95 : runOps Tryz.prog (runCall Tryz.prog true none 300 58) none (arrOf (sub B17 [true, true, true, true, true, true, true, false])) ((arrOf (sub B17 [true, true, true, true, true, true, true, false])).toList.drop 2) s1719 = some [s1750] := cut_ops (i := 2) (k := 1) (j := 3) rfl g93 (by kernel_rfl) (each_go g94 each_nil)
set_option maxRecDepth 100000 in
theorem g96 : runOps Tryz.prog (runCall Tryz.prog true none 300 58) none (arrOf (sub B17 [true, true, true, true, true, true, true, false])) ((arrOf (sub B17 [true, true, true, true, true, true, true, false])).toList.drop 0) s1718 = some [s1750] := cut_ops (i := 0) (k := 2) (j := 2) rfl g84 (by kernel_rfl) (each_go g95 each_nil)
set_option maxRecDepth 100000 in
theorem g97 : runCode Tryz.prog true (runCall Tryz.prog true none 300 58) none 292 none (sub B17 [true, true, true, true, true, true, true, false]) s1718 = some [(.normal, s1750)] := (cut_region (id := 10) (by kernel_rfl) g96).trans (by kernel_rfl)
noncomputable def s1751 : St := { tmps := l1619, h := h1698, pc := ([]), marks := [], pan := none }
set_option maxRecDepth 100000 in
theorem g98 : runCode Tryz.prog true (runCall Tryz.prog true none 300 58) none 292 none (sub B17 [true, true, true, true, true, true, true, true]) s1750 = some [(.ret, s1751)] := by kernel_rfl
set_option maxRecDepth 100000 in
theorem g99 : runCode Tryz.prog true (runCall Tryz.prog true none 300 58) none 293 none (sub B17 [true, true, true, true, true, true, true]) s1718 = some [(.ret, s1751)] := cut_seqs (x := (sub B17 [true, true, true, true, true, true, true, false])) (y := (sub B17 [true, true, true, true, true, true, true, true])) (n := 292) (by kernel_rfl) g97 (then_go g98 then_nil)
set_option maxRecDepth 100000 in
theorem g100 : runCode Tryz.prog true (runCall Tryz.prog true none 300 58) none 294 none (sub B17 [true, true, true, true, true, true]) s1717 = some [(.ret, s1751)] := cut_seqs (x := (sub B17 [true, true, true, true, true, true, false])) (y := (sub B17 [true, true, true, true, true, true, true])) (n := 293) (by kernel_rfl) g83 (then_go g99 then_nil)
set_option maxRecDepth 100000 in
theorem g101 : runCode Tryz.prog true (runCall Tryz.prog true none 300 58) none 295 none (sub B17 [true, true, true, true, true]) s1712 = some [(.ret, s1751)] := cut_seqs (x := (sub B17 [true, true, true, true, true, false])) (y := (sub B17 [true, true, true, true, true, true])) (n := 294) (by kernel_rfl) g82 (then_go g100 then_nil)
set_option maxRecDepth 100000 in
theorem g102 : runCode Tryz.prog true (runCall Tryz.prog true none 300 58) none 296 none (sub B17 [true, true, true, true]) s1711 = some [(.ret, s1751)] := cut_seqs (x := (sub B17 [true, true, true, true, false])) (y := (sub B17 [true, true, true, true, true])) (n := 295) (by kernel_rfl) g81 (then_go g101 then_nil)
set_option maxRecDepth 100000 in
theorem g103 : runCode Tryz.prog true (runCall Tryz.prog true none 300 58) none 297 none (sub B17 [true, true, true]) s1710 = some [(.ret, s1751)] := cut_seqs (x := (sub B17 [true, true, true, false])) (y := (sub B17 [true, true, true, true])) (n := 296) (by kernel_rfl) g80 (then_go g102 then_nil)
set_option maxRecDepth 100000 in
theorem g104 : runCode Tryz.prog true (runCall Tryz.prog true none 300 58) none 298 none (sub B17 [true, true]) s1706 = some [(.ret, s1751)] := cut_seqs (x := (sub B17 [true, true, false])) (y := (sub B17 [true, true, true])) (n := 297) (by kernel_rfl) g79 (then_go g103 then_nil)
set_option maxRecDepth 100000 in
theorem g105 : runCode Tryz.prog true (runCall Tryz.prog true none 300 58) none 299 none (sub B17 [true]) s1705 = some [(.ret, s1751)] := cut_seqs (x := (sub B17 [true, false])) (y := (sub B17 [true, true])) (n := 298) (by kernel_rfl) g78 (then_go g104 then_nil)
set_option maxRecDepth 100000 in
theorem g106 : runCode Tryz.prog true (runCall Tryz.prog true none 300 58) none 300 none (sub B17 []) s1699 = some [(.ret, s1751)] := cut_seqs (x := (sub B17 [false])) (y := (sub B17 [true])) (n := 299) (by kernel_rfl) g77 (then_go g105 then_nil)
set_option maxRecDepth 100000 in
theorem g107 : (runCall Tryz.prog true none 300 59) false 17 l1470 s1686.h s1686.pc = some [((.tuple ([(xA (ai [4] ++ au [0] ++ ai [1, 0, 0, 14] ++ [xF, xF, xT] ++ ai [0, 5] ++ [(xS []), .nilSlice] ++ ai [0, 0, 0]))] ++ ai [0])), h1698, ([]))] := cut_call (d := 58) (fn := Tryz.f17) (c := sub B17 []) (l := [(.ret, s1751)]) (by kernel_rfl) Tryz.func17 (by kernel_rfl) g106 (by kernel_rfl)
noncomputable def s1752 : St := { tmps := l1621, h := h1698, pc := ([]), marks := [], pan := none }
set_option maxRecDepth 100000 in
theorem g108 : runOps Tryz.prog (runCall Tryz.prog true none 300 59) none (arrOf (sub B28 [true, true, true, true, true, false, true, false, false, true, false, false, false])) (seg (sub B28 [true, true, true, true, true, false, true, false, false, true, false, false, false]) 2 1) s1686 = some [s1752] := (cut_callseg (f := 17) (by kernel_rfl) (by kernel_rfl) g107).trans (by kernel_rfl)
noncomputable def t1753 : BT AObj := .n t1694 o699 t1624
noncomputable def t1754 : BT AObj := .n t1433 o701 t1753
noncomputable def t1755 : BT AObj := .n t1689 o703 t1754
noncomputable def h1756 : Hp := Hp.lit t1755 m1631 463 25 (by kernel_rfl)
noncomputable def s1757 : St := { tmps := l1623, h := h1756, pc := ([]), marks := [], pan := none }
set_option maxRecDepth 100000 in
theorem g109 : runOps Tryz.prog (runCall Tryz.prog true none 300 59) none (arrOf (sub B28 [true, true, true, true, true, false, true, false, false, true, false, false, false])) ((arrOf (sub B28 [true, true, true, true, true, false, true, false, false, true, false, false, false])).toList.drop 3) s1752 = some [s1757] := by kernel_rfl
set_option maxRecDepth 100000 in
theorem g110 : runOps Tryz.prog (runCall Tryz.prog true none 300 59) none (arrOf (sub B28 [true, true, true, true, true, false, true, false, false, true, false, false, false])) ((arrOf (sub B28 [true, true, true, true, true, false, true, false, false, true, false, false, false])).toList.drop 2) s1686 = some [s1757] := cut_ops (i := 2) (k := 1) (j := 3) rfl g108 (by kernel_rfl) (each_go g109 each_nil)
set_option maxRecDepth 100000 in
theorem g111 : runOps Tryz.prog (runCall Tryz.prog true none 300 59) none (arrOf (sub B28 [true, true, true, true, true, false, true, false, false, true, false, false, false])) ((arrOf (sub B28 [true, true, true, true, true, false, true, false, false, true, false, false, false])).toList.drop 0) s1686 = some [s1757] := cut_ops (i := 0) (k := 2) (j := 2) rfl g76 (by kernel_rfl) (each_go g110 each_nil)
set_option maxRecDepth 100000 in
theorem g112 : runCode Tryz.prog true (runCall Tryz.prog true none 300 59) none 283 none (sub B28 [true, true, true, true, true, false, true, false, false, true, false, false, false]) s1686 = some [(.normal, s1757)] := (cut_region (id := 9) (by kernel_rfl) g111).trans (by kernel_rfl)
noncomputable def s1758 : St := { tmps := l1634, h := h1756, pc := ([]), marks := [], pan := none }
set_option maxRecDepth 100000 in
theorem g113 : runCode Tryz.prog true (runCall Tryz.prog true none 300 59) none 283 none (sub B28 [true, true, true, true, true, false, true, false, false, true, false, false, true]) s1757 = some [(.normal, s1758)] := by kernel_rfl
set_option maxRecDepth 100000 in
theorem g114 : runCode Tryz.prog true (runCall Tryz.prog true none 300 59) none 284 none (sub B28 [true, true, true, true, true, false, true, false, false, true, false, false]) s1686 = some [(.normal, s1758)] := cut_seqs (x := (sub B28 [true, true, true, true, true, false, true, false, false, true, false, false, false])) (y := (sub B28 [true, true, true, true, true, false, true, false, false, true, false, false, true])) (n := 283) (by kernel_rfl) g112 (then_go g113 then_nil)
set_option maxRecDepth 100000 in
theorem g115 : runCode Tryz.prog true (runCall Tryz.prog true none 300 59) none 285 none (sub B28 [true, true, true, true, true, false, true, false, false, true, false]) s1686 = some [(.normal, s1758)] := cut_block (id := 1) (x := (sub B28 [true, true, true, true, true, false, true, false, false, true, false, false])) (n := 284) (by kernel_rfl) g114
noncomputable def s1759 : St := { tmps := l1636, h := h1756, pc := ([]), marks := [], pan := none }
set_option maxRecDepth 100000 in
theorem g116 : runCode Tryz.prog true (runCall Tryz.prog true none 300 59) none 285 none (sub B28 [true, true, true, true, true, false, true, false, false, true, true]) s1758 = some [(.normal, s1759)] := by kernel_rfl
set_option maxRecDepth 100000 in
theorem g117 : runCode Tryz.prog true (runCall Tryz.prog true none 300 59) none 286 none (sub B28 [true, true, true, true, true, false, true, false, false, true]) s1686 = some [(.normal, s1759)] := cut_seqs (x := (sub B28 [true, true, true, true, true, false, true, false, false, true, false])) (y := (sub B28 [true, true, true, true, true, false, true, false, false, true, true])) (n := 285) (by kernel_rfl) g115 (then_go g116 then_nil)
set_option maxRecDepth 100000 in
theorem g118 : runCode Tryz.prog true (runCall Tryz.prog true none 300 59) none 287 none (sub B28 [true, true, true, true, true, false, true, false, false]) s1685 = some [(.normal, s1759)] := cut_seqs (x := (sub B28 [true, true, true, true, true, false, true, false, false, false])) (y := (sub B28 [true, true, true, true, true, false, true, false, false, true])) (n := 286) (by kernel_rfl) g75 (then_go g117 then_nil)
noncomputable def s1760 : St := { tmps := l1638, h := h744, pc := ([]), marks := [], pan := none }
set_option maxRecDepth 100000 in
theorem g119 : runCode Tryz.prog true (runCall Tryz.prog true none 300 59) none 287 none (sub B28 [true, true, true, true, true, false, true, false]) s1759 = some [((.exit 0), s1760)] := by kernel_rfl
set_option maxRecDepth 100000 in
theorem g120 : runCode Tryz.prog true (runCall Tryz.prog true none 300 59) none 288 none (sub B28 [true, true, true, true, true, false, true, false]) s1685 = some [((.exit 0), s1760)] := cut_loops (x := (sub B28 [true, true, true, true, true, false, true, false, false])) (n := 287) (by kernel_rfl) g118 (then_go g119 then_nil)
set_option maxRecDepth 100000 in
theorem g121 : runCode Tryz.prog true (runCall Tryz.prog true none 300 59) none 289 none (sub B28 [true, true, true, true, true, false, true, false]) s1671 = some [((.exit 0), s1760)] := cut_loops (x := (sub B28 [true, true, true, true, true, false, true, false, false])) (n := 288) (by kernel_rfl) g74 (then_go g120 then_nil)
set_option maxRecDepth 100000 in
theorem g122 : runCode Tryz.prog true (runCall Tryz.prog true none 300 59) none 290 none (sub B28 [true, true, true, true, true, false, true, false]) s1655 = some [((.exit 0), s1760)] := cut_loops (x := (sub B28 [true, true, true, true, true, false, true, false, false])) (n := 289) (by kernel_rfl) g73 (then_go g121 then_nil)
set_option maxRecDepth 100000 in
theorem g123 : runCode Tryz.prog true (runCall Tryz.prog true none 300 59) none 291 none (sub B28 [true, true, true, true, true, false, true, false]) s1032 = some [((.exit 0), s1760)] := cut_loops (x := (sub B28 [true, true, true, true, true, false, true, false, false])) (n := 290) (by kernel_rfl) g72 (then_go g122 then_nil)
set_option maxRecDepth 100000 in
theorem g124 : runCode Tryz.prog true (runCall Tryz.prog true none 300 59) none 292 none (sub B28 [true, true, true, true, true, false, true, false]) s845 = some [((.exit 0), s1639), ((.exit 0), s1760)] := cut_loops (x := (sub B28 [true, true, true, true, true, false, true, false, false])) (n := 291) (by kernel_rfl) g19 (then_go g71 (then_go g123 then_nil))
set_option maxRecDepth 100000 in
theorem g125 : runCode Tryz.prog true (runCall Tryz.prog true none 300 59) none 293 none (sub B28 [true, true, true, true, true, false, true]) s845 = some [(.normal, s1639), (.normal, s1760)] := cut_block (id := 0) (x := (sub B28 [true, true, true, true, true, false, true, false])) (n := 292) (by kernel_rfl) g124
set_option maxRecDepth 100000 in
theorem g126 : runCode Tryz.prog true (runCall Tryz.prog true none 300 59) none 294 none (sub B28 [true, true, true, true, true, false]) s843 = some [(.normal, s1639), (.normal, s1760)] := cut_seqs (x := (sub B28 [true, true, true, true, true, false, false])) (y := (sub B28 [true, true, true, true, true, false, true])) (n := 293) (by kernel_rfl) g5 (then_go g125 then_nil)
noncomputable def l1761 : List AV := [xT, (xV 13 0 6 5 0), (xP 74 0)] ++ ai [0] ++ [(xL 78 0 6 6)] ++ ai [6] ++ [(xP 471 0)] ++ ai [0] ++ [(xA (ai [17] ++ [(xJ 2)] ++ ai [0, 0, 0] ++ [(xS []), (xS []), (.int .u32 (.lit (.ofNat 0)))] ++ ai [0, 0] ++ au [0] ++ ai [0] ++ [xT])), (xV 13 0 6 5 0), (.tuple ([(xP 74 0)] ++ ai [0])), (xA ([(xL 15 0 1 1)] ++ ai [4, 8, 8] ++ au [9, 99])), (xV 13 0 6 5 0), (xS [17, 253, 255, 255, 255, 1]), (xA (ai [0] ++ au [4] ++ [(xS [17, 253, 255, 255, 255, 1])])), (xL 16 0 1 1), (.tuple ([(xP 74 0)] ++ ai [0])), (xP 74 0)] ++ ai [0, 0] ++ [xF, xF, (xP 74 0), xF, xF, (xL 78 0 6 6)] ++ ai [6] ++ [(xL 78 0 6 6)] ++ ai [6] ++ [xF] ++ ai [5, 6] ++ [(.tuple ([(xA (ai [5] ++ au [0] ++ ai [1, 0] ++ [(xJ 0)] ++ ai [0] ++ [xF, xF, xF] ++ ai [0, 0] ++ [(xS []), .nilSlice] ++ ai [0, 0, 0]))] ++ ai [0])), (xP 74 0), (xA (ai [1, 0])), (.tuple ([(xA (ai [5] ++ au [0] ++ ai [1, 0] ++ [(xJ 0)] ++ ai [0] ++ [xF, xF, xF] ++ ai [0, 0] ++ [(xS []), .nilSlice] ++ ai [0, 0, 0]))] ++ ai [0])), (xA (ai [5] ++ au [0] ++ ai [1, 0] ++ [(xJ 0)] ++ ai [0] ++ [xF, xF, xF] ++ ai [0, 0] ++ [(xS []), .nilSlice] ++ ai [0, 0, 0]))] ++ ai [0, 0] ++ [xF, xF, (xP 471 5), (xP 471 5)] ++ ai [0] ++ [(xL 78 0 6 6)] ++ ai [5] ++ [(xP 78 5)] ++ ai [0] ++ [xF, xF, xF, (xP 471 5), (xP 471 8), xF] ++ ai [5] ++ [xF, xF, xF, xF] ++ ai [5] ++ [xF, xF] ++ us 5 ++ [xF, xF, xF, (xP 471 4), (xJ 0), xF, xF] ++ us 2 ++ [xF, xF]
noncomputable def s1762 : St := { tmps := l1761, h := h728, pc := ([]), marks := [], pan := none }
set_option maxRecDepth 100000 in
theorem g127 : runCode Tryz.prog true (runCall Tryz.prog true none 300 59) none 294 none (sub B28 [true, true, true, true, true, true]) s1639 = some [(.ret, s1762)] := by kernel_rfl
noncomputable def s1763 : St := { tmps := l1761, h := h744, pc := ([]), marks := [], pan := none }
set_option maxRecDepth 100000 in
theorem g128 : runCode Tryz.prog true (runCall Tryz.prog true none 300 59) none 294 none (sub B28 [true, true, true, true, true, true]) s1760 = some [(.ret, s1763)] := by kernel_rfl
set_option maxRecDepth 100000 in
theorem g129 : runCode Tryz.prog true (runCall Tryz.prog true none 300 59) none 295 none (sub B28 [true, true, true, true, true]) s843 = some [(.ret, s1762), (.ret, s1763)] := cut_seqs (x := (sub B28 [true, true, true, true, true, false])) (y := (sub B28 [true, true, true, true, true, true])) (n := 294) (by kernel_rfl) g126 (then_go g127 (then_go g128 then_nil))
set_option maxRecDepth 100000 in
theorem g130 : runCode Tryz.prog true (runCall Tryz.prog true none 300 59) none 296 none (sub B28 [true, true, true, true]) s832 = some [(.ret, s1762), (.ret, s1763)] := cut_seqs (x := (sub B28 [true, true, true, true, false])) (y := (sub B28 [true, true, true, true, true])) (n := 295) (by kernel_rfl) g4 (then_go g129 then_nil)
set_option maxRecDepth 100000 in
theorem g131 : runCode Tryz.prog true (runCall Tryz.prog true none 300 59) none 297 none (sub B28 [true, true, true]) s830 = some [(.ret, s1762), (.ret, s1763)] := cut_seqs (x := (sub B28 [true, true, true, false])) (y := (sub B28 [true, true, true, true])) (n := 296) (by kernel_rfl) g3 (then_go g130 then_nil)
set_option maxRecDepth 100000 in
theorem g132 : runCode Tryz.prog true (runCall Tryz.prog true none 300 59) none 298 none (sub B28 [true, true]) s762 = some [(.ret, s1762), (.ret, s1763)] := cut_seqs (x := (sub B28 [true, true, false])) (y := (sub B28 [true, true, true])) (n := 297) (by kernel_rfl) g2 (then_go g131 then_nil)
set_option maxRecDepth 100000 in
theorem g133 : runCode Tryz.prog true (runCall Tryz.prog true none 300 59) none 299 none (sub B28 [true]) s746 = some [(.ret, s1762), (.ret, s1763)] := cut_seqs (x := (sub B28 [true, false])) (y := (sub B28 [true, true])) (n := 298) (by kernel_rfl) g1 (then_go g132 then_nil)
set_option maxRecDepth 100000 in
theorem g134 : runCode Tryz.prog true (runCall Tryz.prog true none 300 59) none 300 none (sub B28 []) s745 = some [(.ret, s1762), (.ret, s1763)] := cut_seqs (x := (sub B28 [false])) (y := (sub B28 [true])) (n := 299) (by kernel_rfl) g0 (then_go g133 then_nil)
set_option maxRecDepth 100000 in
theorem g135 : (runCall Tryz.prog true none 300 60) false 28 ([]) s1.h s1.pc = some [(xT, h728, ([])), (xT, h744, ([]))] := cut_call (d := 59) (fn := Tryz.f28) (c := sub B28 []) (l := [(.ret, s1762), (.ret, s1763)]) (by kernel_rfl) Tryz.func28 (by kernel_rfl) g134 (by kernel_rfl)
theorem ranCut : allTrue (runCall Tryz.prog true none 300 60 false 28 [] Hp.nil []) = true := (congrArg allTrue g135).trans (by kernel_rfl)

end Go.Proofs.YtobmdlcdemolpaaGreatDoor.machineNilCutK
