/-
  SeenNil: a run, cut into parts, each of which the kernel looks at alone (part 1).
-/
import Derived.Test.YtimmkbfnhdcaoaaDoorRows
import Derived.Test.YtimmkbfnhdcaoaaDoorSxY
namespace Go.Proofs.YtimmkbfnhdcaoaaDoor.seenNilCutM
open Go.Sx
set_option linter.unusedVariables false

noncomputable def o0 : AObj := (.given (au [1, 10, 100, 1000, 10000, 100000, 1000000, 10000000, 100000000, 1000000000, 10000000000, 100000000000, 1000000000000, 10000000000000, 100000000000000, 1000000000000000, 10000000000000000, 100000000000000000, 1000000000000000000, 10000000000000000000]) 0)
noncomputable def h1 : Hp := Hp.lit (.n .e o0 .e) (.n .e [] .e) 1 0 (by kernel_rfl) [0]
noncomputable def s2 : St := { tmps := ([]), h := h1, pc := ([]), marks := [], pan := none }
noncomputable def o3 : AObj := (oC (cs (ai [3] ++ [(xJ 2)] ++ ai [3] ++ [xF] ++ ai [0] ++ au [4] ++ ai [0])) 32 63)
noncomputable def o4 : AObj := (oC (cs (ai [0, 0, 0] ++ [xF] ++ ai [0] ++ au [0] ++ ai [0])) 32 31)
noncomputable def t5 : BT AObj := .n (.n .e o3 .e) o4 .e
noncomputable def o6 : AObj := (oC (cs ([(xS [117, 115, 101, 114])])) 9 79)
noncomputable def o7 : AObj := (oM (cs (ai [1, 5, 0] ++ [xT] ++ ai [0] ++ au [2] ++ ai [1, 2, 5, 0] ++ [xT] ++ ai [0] ++ au [1] ++ ai [0])) 32 3 7 2 0 36)
noncomputable def t8 : BT AObj := .n (.n .e o6 .e) o7 .e
noncomputable def o9 : AObj := (oC (cs (ai [0, 0, 0] ++ [xF] ++ ai [0] ++ au [0] ++ ai [0])) 32 15)
noncomputable def t10 : BT AObj := .n t5 o9 t8
noncomputable def o11 : AObj := (loopAt .exhausted none ([.nilSlice, (.func 42 ([]) ([(xP 68 0)])), (xP 69 0)] ++ us 1 ++ [.nilSlice] ++ us 1 ++ [(.func 42 ([]) ([(xP 68 0)]))] ++ us 6) 70 (sub (Tryd.f50.body.getD .skip) [true, false, true, false]))
noncomputable def o12 : AObj := (oC (cs (ai [2, 5, 0] ++ [xT] ++ ai [0] ++ au [1] ++ ai [0])) 32 39)
noncomputable def t13 : BT AObj := .n (.n .e o11 .e) o12 .e
noncomputable def o14 : AObj := (oC (cs (ai [1, 5, 0] ++ [xT] ++ ai [0] ++ au [3] ++ ai [1])) 32 55)
noncomputable def t15 : BT AObj := .n (.n .e ((.gone 87)) .e) o14 .e
noncomputable def o16 : AObj := (oC (cs ([(.map 32), (xV 47 0 2 3 0), xT])) 26 23)
noncomputable def t17 : BT AObj := .n t13 o16 t15
noncomputable def o18 : AObj := (oC (cs (ai [1, 1, 0] ++ [xF] ++ ai [0] ++ au [0] ++ ai [0])) 32 7)
noncomputable def t19 : BT AObj := .n t10 o18 t17
noncomputable def o20 : AObj := (.map [((xS [116, 104, 114, 101, 97, 100]), (xJ 0), 0), ((xS [112, 114, 111, 99, 101, 115, 115]), (xJ 1), 1), ((xS [115, 101, 115, 115, 105, 111, 110]), (xJ 2), 2), ((xS [117, 115, 101, 114]), (xJ 3), 3)] 4)
noncomputable def o21 : AObj := (oC (cs (ai [1, 5, 0] ++ [xT] ++ ai [0] ++ au [2] ++ ai [1])) 32 35)
noncomputable def t22 : BT AObj := .n (.n .e o20 .e) o21 .e
noncomputable def o23 : AObj := (oM (cs ([(xS [99, 101, 108, 108]), (xS [51]), (xS [115, 101, 115, 115, 105, 111, 110]), (xS [110, 111, 110, 101])])) 9 8 1 4 0 83)
noncomputable def o24 : AObj := (oC (cs (ai [1, 5, 0] ++ [xT] ++ ai [0] ++ au [2] ++ ai [1])) 32 51)
noncomputable def t25 : BT AObj := .n (.n .e o23 .e) o24 .e
noncomputable def o26 : AObj := (oC (cs (ai [1, 1, 0] ++ [xF] ++ ai [0] ++ au [0] ++ ai [0])) 32 19)
noncomputable def t27 : BT AObj := .n t22 o26 t25
noncomputable def o28 : AObj := (oC (cs ([(xS [112, 114, 111, 99, 101, 115, 115])])) 9 75)
noncomputable def o29 : AObj := (oC (cs (ai [0, 0, 0] ++ [xF] ++ ai [0] ++ au [0] ++ ai [0])) 32 43)
noncomputable def t30 : BT AObj := .n (.n .e o28 .e) o29 .e
noncomputable def o31 : AObj := (oC (cs ([(xS [110, 111, 110, 101])])) 9 91)
noncomputable def o32 : AObj := (oC (cs (ai [1, 5, 0] ++ [xT] ++ ai [0] ++ au [3] ++ ai [1])) 32 59)
noncomputable def t33 : BT AObj := .n (.n .e o31 .e) o32 .e
noncomputable def o34 : AObj := (oC (cs (ai [1, 5, 0] ++ [xT] ++ ai [0] ++ au [2] ++ ai [1])) 32 27)
noncomputable def t35 : BT AObj := .n t30 o34 t33
noncomputable def o36 : AObj := (oC (cs (ai [1, 1, 0] ++ [xF] ++ ai [0] ++ au [0] ++ ai [0])) 32 11)
noncomputable def t37 : BT AObj := .n t27 o36 t35
noncomputable def o38 : AObj := (oC (cs (ai [1, 1, 0] ++ [xF] ++ ai [0] ++ au [0] ++ ai [0])) 32 3)
noncomputable def t39 : BT AObj := .n t19 o38 t37
noncomputable def o40 : AObj := (oC (cs (ay [45, 51, 0, 0, 0, 0, 0, 0, 0, 0, 0, 0, 0, 0, 0, 0, 0, 0, 0, 0, 0, 0, 0, 0])) 84 65)
noncomputable def o41 : AObj := (oC (cs (ai [1, 5, 0] ++ [xT] ++ ai [0] ++ au [2] ++ ai [1])) 32 33)
noncomputable def t42 : BT AObj := .n (.n .e o40 .e) o41 .e
noncomputable def o43 : AObj := (oC (cs ([(xS [99, 101, 108, 108]), (xS [51]), (xS [115, 101, 115, 115, 105, 111, 110])])) 9 81)
noncomputable def o44 : AObj := (oC (cs (ai [1, 5, 0] ++ [xT] ++ ai [0] ++ au [2] ++ ai [1])) 32 49)
noncomputable def t45 : BT AObj := .n (.n .e o43 .e) o44 .e
noncomputable def o46 : AObj := (oC (cs (ai [1, 1, 0] ++ [xF] ++ ai [0] ++ au [0] ++ ai [0])) 32 17)
noncomputable def t47 : BT AObj := .n t42 o46 t45
noncomputable def o48 : AObj := (oC (cs ([(xS [116, 104, 114, 101, 97, 100])])) 9 73)
noncomputable def o49 : AObj := (oC (cs (ai [2, 5, 0] ++ [xT] ++ ai [0] ++ au [1] ++ ai [0])) 32 41)
noncomputable def t50 : BT AObj := .n (.n .e o48 .e) o49 .e
noncomputable def o51 : AObj := (oC (cs (ai [1, 7, 0] ++ [xF] ++ ai [0] ++ au [0] ++ ai [0])) 32 89)
noncomputable def o52 : AObj := (oC (cs (ai [1, 5, 0] ++ [xT] ++ ai [0] ++ au [3] ++ ai [1])) 32 57)
noncomputable def t53 : BT AObj := .n (.n .e o51 .e) o52 .e
noncomputable def o54 : AObj := (oC (cs (ai [1, 5, 0] ++ [xT] ++ ai [0] ++ au [2] ++ ai [1])) 32 25)
noncomputable def t55 : BT AObj := .n t50 o54 t53
noncomputable def o56 : AObj := (oC (cs (ai [1, 1, 0] ++ [xF] ++ ai [0] ++ au [0] ++ ai [0])) 32 9)
noncomputable def t57 : BT AObj := .n t47 o56 t55
noncomputable def o58 : AObj := (oC (cs ([(xV 80 0 4 7 0)])) 57 69)
noncomputable def o59 : AObj := (oC (cs (ai [2, 5, 0] ++ [xT] ++ ai [0] ++ au [1] ++ ai [0])) 32 37)
noncomputable def t60 : BT AObj := .n (.n .e o58 .e) o59 .e
noncomputable def o61 : AObj := (oM (cs ([(xS [99, 101, 108, 108]), (xS [51]), (xS [115, 101, 115, 115, 105, 111, 110]), (xS [110, 111, 110, 101]), (xS [52])])) 9 9 1 5 0 83)
noncomputable def o62 : AObj := (oC (cs (ai [1, 5, 0])) 45 53)
noncomputable def t63 : BT AObj := .n (.n .e o61 .e) o62 .e
noncomputable def t64 : BT AObj := .n t60 ((oC [] 32 21)) t63
noncomputable def o65 : AObj := (oC (cs ([(xS [115, 101, 115, 115, 105, 111, 110])])) 9 77)
noncomputable def o66 : AObj := (oC (cs (ai [2, 5, 0])) 45 45)
noncomputable def t67 : BT AObj := .n (.n .e o65 .e) o66 .e
noncomputable def o68 : AObj := (oC (cs ([(xP 93 0), (xV 94 0 10 12 0)])) 74 93)
noncomputable def o69 : AObj := (oC (cs (ai [1, 5, 0] ++ [xT] ++ ai [0] ++ au [2] ++ ai [1])) 32 61)
noncomputable def t70 : BT AObj := .n (.n .e o68 .e) o69 .e
noncomputable def o71 : AObj := (oC (cs (ai [1, 5, 0] ++ [xT] ++ ai [0] ++ au [2] ++ ai [1])) 32 29)
noncomputable def t72 : BT AObj := .n t67 o71 t70
noncomputable def o73 : AObj := (oC (cs (ai [1, 1, 0] ++ [xF] ++ ai [0] ++ au [0] ++ ai [0])) 32 13)
noncomputable def t74 : BT AObj := .n t64 o73 t72
noncomputable def o75 : AObj := (oC (cs (ai [0, 0, 0] ++ [xF] ++ ai [0] ++ au [0] ++ ai [0])) 32 5)
noncomputable def t76 : BT AObj := .n t57 o75 t74
noncomputable def o77 : AObj := (oC (cs ([(.map 16), (xV 20 0 1 0 0), xF])) 26 1)
noncomputable def t78 : BT AObj := .n t39 o77 t76
noncomputable def o79 : AObj := (oC (cs (ai [3] ++ [(xJ 2)] ++ ai [3] ++ [xF] ++ ai [0] ++ au [4] ++ ai [0])) 32 64)
noncomputable def o80 : AObj := (.map [((xA (ai [1, 5, 0])), (xI 0), 0), ((xA (ai [2, 5, 0])), (xI 1), 1)] 2)
noncomputable def t81 : BT AObj := .n (.n .e o79 .e) o80 .e
noncomputable def o82 : AObj := (oM (cs ([(xS [112, 114, 111, 99, 101, 115, 115]), (xS [115, 101, 115, 115, 105, 111, 110]), (xS [116, 104, 114, 101, 97, 100]), (xS [117, 115, 101, 114])])) 9 7 1 4 0 74)
noncomputable def o83 : AObj := (oC (cs (ai [1, 5, 0] ++ [xT] ++ ai [0] ++ au [2] ++ ai [1])) 32 48)
noncomputable def t84 : BT AObj := .n (.n .e o82 .e) o83 .e
noncomputable def o85 : AObj := (.map [((xA (ai [1, 1, 0])), (xI 0), 0)] 1)
noncomputable def t86 : BT AObj := .n t81 o85 t84
noncomputable def o87 : AObj := (.mapIter (some 67) 4 [0, 1, 2, 3] 4)
noncomputable def o88 : AObj := (oC (cs (ai [0, 0, 0] ++ [xF] ++ ai [0] ++ au [0] ++ ai [0])) 32 40)
noncomputable def t89 : BT AObj := .n (.n .e o87 .e) o88 .e
noncomputable def o90 : AObj := (oC (cs (ai [1, 7, 0] ++ [xF] ++ ai [0] ++ au [0] ++ ai [0])) 32 88)
noncomputable def o91 : AObj := (oC (cs (ai [1, 5, 0] ++ [xT] ++ ai [0] ++ au [3] ++ ai [1])) 32 56)
noncomputable def t92 : BT AObj := .n (.n .e o90 .e) o91 .e
noncomputable def o93 : AObj := (oC (cs (ai [1, 5, 0] ++ [xT] ++ ai [0] ++ au [3] ++ ai [1])) 32 24)
noncomputable def t94 : BT AObj := .n t89 o93 t92
noncomputable def o95 : AObj := (oC (cs ([.nilMap, .nilSlice, xF])) 26 8)
noncomputable def t96 : BT AObj := .n t86 o95 t94
noncomputable def o97 : AObj := (oC (cs ([(.map 67)])) 59 68)
noncomputable def o98 : AObj := (oM (cs (ai [1, 5, 0] ++ [xT] ++ ai [0] ++ au [2] ++ ai [1])) 32 2 7 1 0 36)
noncomputable def t99 : BT AObj := .n (.n .e o97 .e) o98 .e
noncomputable def o100 : AObj := (oC (cs ([(xS [52])])) 9 84)
noncomputable def o101 : AObj := (oC (cs (ai [1, 5, 0] ++ [xT] ++ ai [0] ++ au [2] ++ ai [1])) 32 52)
noncomputable def t102 : BT AObj := .n (.n .e o100 .e) o101 .e
noncomputable def o103 : AObj := (oM (cs (ai [1, 1, 0] ++ [xF] ++ ai [0] ++ au [0] ++ ai [0])) 32 0 7 1 0 20)
noncomputable def t104 : BT AObj := .n t99 o103 t102
noncomputable def o105 : AObj := (oM (cn 2) 9 5 1 2 0 74)
noncomputable def o106 : AObj := (oC (cs (ai [2, 5, 0] ++ [xT] ++ ai [0] ++ au [1] ++ ai [0])) 32 44)
noncomputable def t107 : BT AObj := .n (.n .e o105 .e) o106 .e
noncomputable def o108 : AObj := (oM (cs ([(xS [107, 101, 121]), (xS [55]), (xS [110, 111, 110, 101])])) 9 11 1 3 0 92)
noncomputable def o109 : AObj := (oC (cs (ai [1, 5, 0])) 45 60)
noncomputable def t110 : BT AObj := .n (.n .e o108 .e) o109 .e
noncomputable def o111 : AObj := (oC (cs (ai [0, 0, 0] ++ [xF] ++ ai [0] ++ au [0] ++ ai [0])) 32 28)
noncomputable def t112 : BT AObj := .n t107 o111 t110
noncomputable def o113 : AObj := (oC (cs (ai [0, 0, 0] ++ [xF] ++ ai [0] ++ au [0] ++ ai [0])) 32 12)
noncomputable def t114 : BT AObj := .n t104 o113 t112
noncomputable def o115 : AObj := (oC (cs (ai [0, 0, 0] ++ [xF] ++ ai [0] ++ au [0] ++ ai [0])) 32 4)
noncomputable def t116 : BT AObj := .n t96 o115 t114
noncomputable def o117 : AObj := (oC (cs ([(xS [107, 101, 121]), (xS [45, 51])])) 9 66)
noncomputable def o118 : AObj := (oC (cs (ai [1, 5, 0])) 45 34)
noncomputable def t119 : BT AObj := .n (.n .e o117 .e) o118 .e
noncomputable def o120 : AObj := (oC (cs ([(xS [110, 111, 110, 101])])) 9 82)
noncomputable def o121 : AObj := (oC (cs (ai [1, 5, 0] ++ [xT] ++ ai [0] ++ au [2] ++ ai [1])) 32 50)
noncomputable def t122 : BT AObj := .n (.n .e o120 .e) o121 .e
noncomputable def o123 : AObj := (oC (cs (ai [1, 1, 0])) 45 18)
noncomputable def t124 : BT AObj := .n t119 o123 t122
noncomputable def o125 : AObj := (oM (cn 1) 9 4 1 1 0 74)
noncomputable def o126 : AObj := (oC (cs (ai [2, 5, 0])) 45 42)
noncomputable def t127 : BT AObj := .n (.n .e o125 .e) o126 .e
noncomputable def o128 : AObj := (oC (cs ([(xS [107, 101, 121]), (xS [55])])) 9 90)
noncomputable def o129 : AObj := (oC (cs (ai [1, 5, 0] ++ [xT] ++ ai [0] ++ au [2] ++ ai [1])) 32 58)
noncomputable def t130 : BT AObj := .n (.n .e o128 .e) o129 .e
noncomputable def o131 : AObj := (oC (cs (ai [1, 5, 0] ++ [xT] ++ ai [0] ++ au [2] ++ ai [1])) 32 26)
noncomputable def t132 : BT AObj := .n t127 o131 t130
noncomputable def o133 : AObj := (oC (cs (ai [1, 1, 0] ++ [xF] ++ ai [0] ++ au [0] ++ ai [0])) 32 10)
noncomputable def t134 : BT AObj := .n t124 o133 t132
noncomputable def t135 : BT AObj := .n .e ((.deferred false)) .e
noncomputable def o136 : AObj := (oC (cs (ai [2, 5, 0] ++ [xT] ++ ai [0] ++ au [1] ++ ai [0])) 32 38)
noncomputable def t137 : BT AObj := .n t135 o136 .e
noncomputable def o138 : AObj := (oC (cs ([(xP 86 0), (xV 87 0 21 10 0)])) 74 86)
noncomputable def o139 : AObj := (oC (cs (ai [1, 5, 0] ++ [xT] ++ ai [0] ++ au [2] ++ ai [1])) 32 54)
noncomputable def t140 : BT AObj := .n (.n .e o138 .e) o139 .e
noncomputable def o141 : AObj := (oM (cs (ai [1, 1, 0] ++ [xF] ++ ai [0] ++ au [0] ++ ai [0])) 32 1 7 1 0 22)
noncomputable def t142 : BT AObj := .n t137 o141 t140
noncomputable def o143 : AObj := (oM (cn 3) 9 6 1 3 0 74)
noncomputable def o144 : AObj := (oC (cs (ai [2, 5, 0] ++ [xT] ++ ai [0] ++ au [1] ++ ai [0])) 32 46)
noncomputable def t145 : BT AObj := .n (.n .e o143 .e) o144 .e
noncomputable def o146 : AObj := (oC (cs (ai [3] ++ [(xJ 2)] ++ ai [3] ++ [xF] ++ ai [0] ++ au [4] ++ ai [0])) 32 62)
noncomputable def t147 : BT AObj := .n (.n .e ((.gone 94)) .e) o146 .e
noncomputable def o148 : AObj := (oC (cs (ai [1, 5, 0])) 45 30)
noncomputable def t149 : BT AObj := .n t145 o148 t147
noncomputable def o150 : AObj := (oC (cs (ai [1, 1, 0])) 45 14)
noncomputable def t151 : BT AObj := .n t142 o150 t149
noncomputable def o152 : AObj := (oC (cs (ai [1, 1, 0] ++ [xF] ++ ai [0] ++ au [0] ++ ai [0])) 32 6)
noncomputable def t153 : BT AObj := .n t134 o152 t151
noncomputable def o154 : AObj := (oC (cs (ai [1, 1, 0] ++ [xF] ++ ai [0] ++ au [0] ++ ai [0])) 32 2)
noncomputable def t155 : BT AObj := .n t116 o154 t153
noncomputable def t156 : BT AObj := .n t78 o0 t155
noncomputable def m157 : BT (List Nat) := .n (.n .e [] .e) [] .e
noncomputable def m158 : BT (List Nat) := .n m157 [] m157
noncomputable def m159 : BT (List Nat) := .n m158 [] m158
noncomputable def m160 : BT (List Nat) := .n (.n .e [85] .e) [] .e
noncomputable def m161 : BT (List Nat) := .n m157 [] m160
noncomputable def m162 : BT (List Nat) := .n m161 [] m158
noncomputable def m163 : BT (List Nat) := .n m159 [] m162
noncomputable def m164 : BT (List Nat) := .n m159 [] m159
noncomputable def m165 : BT (List Nat) := .n m163 [] m164
noncomputable def m166 : BT (List Nat) := .n (.n .e [] .e) [47] .e
noncomputable def m167 : BT (List Nat) := .n m166 [] m157
noncomputable def m168 : BT (List Nat) := .n m167 [] m158
noncomputable def m169 : BT (List Nat) := .n m159 [] m168
noncomputable def m170 : BT (List Nat) := .n (.n .e [80, 78, 76] .e) [] .e
noncomputable def m171 : BT (List Nat) := .n m170 [] m157
noncomputable def m172 : BT (List Nat) := .n m158 [] m171
noncomputable def m173 : BT (List Nat) := .n m172 [] m159
noncomputable def m174 : BT (List Nat) := .n m169 [] m173
noncomputable def m175 : BT (List Nat) := .n m165 [] m174
noncomputable def h176 : Hp := Hp.lit t156 m175 95 13 (by kernel_rfl) [0]
noncomputable def o177 : AObj := (oC (cs ([(xS [115, 101, 115, 115, 105, 111, 110])])) 9 79)
noncomputable def t178 : BT AObj := .n (.n .e o177 .e) o7 .e
noncomputable def t179 : BT AObj := .n t5 o9 t178
noncomputable def t180 : BT AObj := .n t179 o18 t17
noncomputable def t181 : BT AObj := .n t180 o38 t37
noncomputable def o182 : AObj := (oC (cs ([(xS [117, 115, 101, 114])])) 9 77)
noncomputable def t183 : BT AObj := .n (.n .e o182 .e) o66 .e
noncomputable def t184 : BT AObj := .n t183 o71 t70
noncomputable def t185 : BT AObj := .n t64 o73 t184
noncomputable def t186 : BT AObj := .n t57 o75 t185
noncomputable def t187 : BT AObj := .n t181 o77 t186
noncomputable def o188 : AObj := (.mapIter (some 67) 4 [0, 1, 3, 2] 4)
noncomputable def t189 : BT AObj := .n (.n .e o188 .e) o88 .e
noncomputable def t190 : BT AObj := .n t189 o93 t92
noncomputable def t191 : BT AObj := .n t86 o95 t190
noncomputable def t192 : BT AObj := .n t191 o115 t114
noncomputable def t193 : BT AObj := .n t192 o154 t153
noncomputable def t194 : BT AObj := .n t187 o0 t193
noncomputable def h195 : Hp := Hp.lit t194 m175 95 13 (by kernel_rfl) [0]
noncomputable def o196 : AObj := (oC (cs ([(xS [115, 101, 115, 115, 105, 111, 110])])) 9 75)
noncomputable def t197 : BT AObj := .n (.n .e o196 .e) o29 .e
noncomputable def t198 : BT AObj := .n t197 o34 t33
noncomputable def t199 : BT AObj := .n t27 o36 t198
noncomputable def t200 : BT AObj := .n t19 o38 t199
noncomputable def o201 : AObj := (oC (cs ([(xS [112, 114, 111, 99, 101, 115, 115])])) 9 77)
noncomputable def t202 : BT AObj := .n (.n .e o201 .e) o66 .e
noncomputable def t203 : BT AObj := .n t202 o71 t70
noncomputable def t204 : BT AObj := .n t64 o73 t203
noncomputable def t205 : BT AObj := .n t57 o75 t204
noncomputable def t206 : BT AObj := .n t200 o77 t205
noncomputable def o207 : AObj := (.mapIter (some 67) 4 [0, 2, 1, 3] 4)
noncomputable def t208 : BT AObj := .n (.n .e o207 .e) o88 .e
noncomputable def t209 : BT AObj := .n t208 o93 t92
noncomputable def t210 : BT AObj := .n t86 o95 t209
noncomputable def t211 : BT AObj := .n t210 o115 t114
noncomputable def t212 : BT AObj := .n t211 o154 t153
noncomputable def t213 : BT AObj := .n t206 o0 t212
noncomputable def h214 : Hp := Hp.lit t213 m175 95 13 (by kernel_rfl) [0]
noncomputable def o215 : AObj := (oC (cs ([(xS [112, 114, 111, 99, 101, 115, 115])])) 9 79)
noncomputable def t216 : BT AObj := .n (.n .e o215 .e) o7 .e
noncomputable def t217 : BT AObj := .n t5 o9 t216
noncomputable def t218 : BT AObj := .n t217 o18 t17
noncomputable def t219 : BT AObj := .n t218 o38 t199
noncomputable def t220 : BT AObj := .n t219 o77 t186
noncomputable def o221 : AObj := (.mapIter (some 67) 4 [0, 2, 3, 1] 4)
noncomputable def t222 : BT AObj := .n (.n .e o221 .e) o88 .e
noncomputable def t223 : BT AObj := .n t222 o93 t92
noncomputable def t224 : BT AObj := .n t86 o95 t223
noncomputable def t225 : BT AObj := .n t224 o115 t114
noncomputable def t226 : BT AObj := .n t225 o154 t153
noncomputable def t227 : BT AObj := .n t220 o0 t226
noncomputable def h228 : Hp := Hp.lit t227 m175 95 13 (by kernel_rfl) [0]
noncomputable def o229 : AObj := (oC (cs ([(xS [117, 115, 101, 114])])) 9 75)
noncomputable def t230 : BT AObj := .n (.n .e o229 .e) o29 .e
noncomputable def t231 : BT AObj := .n t230 o34 t33
noncomputable def t232 : BT AObj := .n t27 o36 t231
noncomputable def t233 : BT AObj := .n t180 o38 t232
noncomputable def t234 : BT AObj := .n t233 o77 t205
noncomputable def o235 : AObj := (.mapIter (some 67) 4 [0, 3, 1, 2] 4)
noncomputable def t236 : BT AObj := .n (.n .e o235 .e) o88 .e
noncomputable def t237 : BT AObj := .n t236 o93 t92
noncomputable def t238 : BT AObj := .n t86 o95 t237
noncomputable def t239 : BT AObj := .n t238 o115 t114
noncomputable def t240 : BT AObj := .n t239 o154 t153
noncomputable def t241 : BT AObj := .n t234 o0 t240
noncomputable def h242 : Hp := Hp.lit t241 m175 95 13 (by kernel_rfl) [0]
noncomputable def t243 : BT AObj := .n t218 o38 t232
noncomputable def t244 : BT AObj := .n t243 o77 t76
noncomputable def o245 : AObj := (.mapIter (some 67) 4 [0, 3, 2, 1] 4)
noncomputable def t246 : BT AObj := .n (.n .e o245 .e) o88 .e
noncomputable def t247 : BT AObj := .n t246 o93 t92
noncomputable def t248 : BT AObj := .n t86 o95 t247
noncomputable def t249 : BT AObj := .n t248 o115 t114
noncomputable def t250 : BT AObj := .n t249 o154 t153
noncomputable def t251 : BT AObj := .n t244 o0 t250
noncomputable def h252 : Hp := Hp.lit t251 m175 95 13 (by kernel_rfl) [0]
noncomputable def o253 : AObj := (oC (cs ([(xS [116, 104, 114, 101, 97, 100])])) 9 75)
noncomputable def t254 : BT AObj := .n (.n .e o253 .e) o29 .e
noncomputable def t255 : BT AObj := .n t254 o34 t33
noncomputable def t256 : BT AObj := .n t27 o36 t255
noncomputable def t257 : BT AObj := .n t19 o38 t256
noncomputable def o258 : AObj := (oC (cs ([(xS [112, 114, 111, 99, 101, 115, 115])])) 9 73)
noncomputable def t259 : BT AObj := .n (.n .e o258 .e) o49 .e
noncomputable def t260 : BT AObj := .n t259 o54 t53
noncomputable def t261 : BT AObj := .n t47 o56 t260
noncomputable def t262 : BT AObj := .n t261 o75 t74
noncomputable def t263 : BT AObj := .n t257 o77 t262
noncomputable def o264 : AObj := (.mapIter (some 67) 4 [1, 0, 2, 3] 4)
noncomputable def t265 : BT AObj := .n (.n .e o264 .e) o88 .e
noncomputable def t266 : BT AObj := .n t265 o93 t92
noncomputable def t267 : BT AObj := .n t86 o95 t266
noncomputable def o268 : AObj := (oM (cs ([(xS [112, 114, 111, 99, 101, 115, 115])]) ++ cn 1) 9 5 1 2 0 74)
noncomputable def t269 : BT AObj := .n (.n .e o268 .e) o106 .e
noncomputable def t270 : BT AObj := .n t269 o111 t110
noncomputable def t271 : BT AObj := .n t104 o113 t270
noncomputable def t272 : BT AObj := .n t267 o115 t271
noncomputable def o273 : AObj := (oM (cs ([(xS [112, 114, 111, 99, 101, 115, 115])])) 9 4 1 1 0 74)
noncomputable def t274 : BT AObj := .n (.n .e o273 .e) o126 .e
noncomputable def t275 : BT AObj := .n t274 o131 t130
noncomputable def t276 : BT AObj := .n t124 o133 t275
noncomputable def o277 : AObj := (oM (cs ([(xS [112, 114, 111, 99, 101, 115, 115])]) ++ cn 2) 9 6 1 3 0 74)
noncomputable def t278 : BT AObj := .n (.n .e o277 .e) o144 .e
noncomputable def t279 : BT AObj := .n t278 o148 t147
noncomputable def t280 : BT AObj := .n t142 o150 t279
noncomputable def t281 : BT AObj := .n t276 o152 t280
noncomputable def t282 : BT AObj := .n t272 o154 t281
noncomputable def t283 : BT AObj := .n t263 o0 t282
noncomputable def h284 : Hp := Hp.lit t283 m175 95 13 (by kernel_rfl) [0]
noncomputable def t285 : BT AObj := .n t180 o38 t256
noncomputable def t286 : BT AObj := .n t261 o75 t185
noncomputable def t287 : BT AObj := .n t285 o77 t286
noncomputable def o288 : AObj := (.mapIter (some 67) 4 [1, 0, 3, 2] 4)
noncomputable def t289 : BT AObj := .n (.n .e o288 .e) o88 .e
noncomputable def t290 : BT AObj := .n t289 o93 t92
noncomputable def t291 : BT AObj := .n t86 o95 t290
noncomputable def t292 : BT AObj := .n t291 o115 t271
noncomputable def t293 : BT AObj := .n t292 o154 t281
noncomputable def t294 : BT AObj := .n t287 o0 t293
noncomputable def h295 : Hp := Hp.lit t294 m175 95 13 (by kernel_rfl) [0]
noncomputable def o296 : AObj := (oC (cs ([(xS [116, 104, 114, 101, 97, 100])])) 9 77)
noncomputable def t297 : BT AObj := .n (.n .e o296 .e) o66 .e
noncomputable def t298 : BT AObj := .n t297 o71 t70
noncomputable def t299 : BT AObj := .n t64 o73 t298
noncomputable def t300 : BT AObj := .n t261 o75 t299
noncomputable def t301 : BT AObj := .n t200 o77 t300
noncomputable def o302 : AObj := (.mapIter (some 67) 4 [1, 2, 0, 3] 4)
noncomputable def t303 : BT AObj := .n (.n .e o302 .e) o88 .e
noncomputable def t304 : BT AObj := .n t303 o93 t92
noncomputable def t305 : BT AObj := .n t86 o95 t304
noncomputable def o306 : AObj := (oM (cs ([(xS [112, 114, 111, 99, 101, 115, 115]), (xS [115, 101, 115, 115, 105, 111, 110])])) 9 5 1 2 0 74)
noncomputable def t307 : BT AObj := .n (.n .e o306 .e) o106 .e
noncomputable def t308 : BT AObj := .n t307 o111 t110
noncomputable def t309 : BT AObj := .n t104 o113 t308
noncomputable def t310 : BT AObj := .n t305 o115 t309
noncomputable def o311 : AObj := (oM (cs ([(xS [112, 114, 111, 99, 101, 115, 115]), (xS [115, 101, 115, 115, 105, 111, 110]), (xS [116, 104, 114, 101, 97, 100])])) 9 6 1 3 0 74)
noncomputable def t312 : BT AObj := .n (.n .e o311 .e) o144 .e
noncomputable def t313 : BT AObj := .n t312 o148 t147
noncomputable def t314 : BT AObj := .n t142 o150 t313
noncomputable def t315 : BT AObj := .n t276 o152 t314
noncomputable def t316 : BT AObj := .n t310 o154 t315
noncomputable def t317 : BT AObj := .n t301 o0 t316
noncomputable def h318 : Hp := Hp.lit t317 m175 95 13 (by kernel_rfl) [0]
noncomputable def o319 : AObj := (oC (cs ([(xS [116, 104, 114, 101, 97, 100])])) 9 79)
noncomputable def t320 : BT AObj := .n (.n .e o319 .e) o7 .e
noncomputable def t321 : BT AObj := .n t5 o9 t320
noncomputable def t322 : BT AObj := .n t321 o18 t17
noncomputable def t323 : BT AObj := .n t322 o38 t199
noncomputable def t324 : BT AObj := .n t323 o77 t286
noncomputable def o325 : AObj := (.mapIter (some 67) 4 [1, 2, 3, 0] 4)
noncomputable def t326 : BT AObj := .n (.n .e o325 .e) o88 .e
noncomputable def t327 : BT AObj := .n t326 o93 t92
noncomputable def t328 : BT AObj := .n t86 o95 t327
noncomputable def t329 : BT AObj := .n t328 o115 t309
noncomputable def o330 : AObj := (oM (cs ([(xS [112, 114, 111, 99, 101, 115, 115]), (xS [115, 101, 115, 115, 105, 111, 110])]) ++ cn 1) 9 6 1 3 0 74)
noncomputable def t331 : BT AObj := .n (.n .e o330 .e) o144 .e
noncomputable def t332 : BT AObj := .n t331 o148 t147
noncomputable def t333 : BT AObj := .n t142 o150 t332
noncomputable def t334 : BT AObj := .n t276 o152 t333
noncomputable def t335 : BT AObj := .n t329 o154 t334
noncomputable def t336 : BT AObj := .n t324 o0 t335
noncomputable def h337 : Hp := Hp.lit t336 m175 95 13 (by kernel_rfl) [0]
noncomputable def t338 : BT AObj := .n t233 o77 t300
noncomputable def o339 : AObj := (.mapIter (some 67) 4 [1, 3, 0, 2] 4)
noncomputable def t340 : BT AObj := .n (.n .e o339 .e) o88 .e
noncomputable def t341 : BT AObj := .n t340 o93 t92
noncomputable def t342 : BT AObj := .n t86 o95 t341
noncomputable def t343 : BT AObj := .n t342 o115 t271
noncomputable def t344 : BT AObj := .n t343 o154 t281
noncomputable def t345 : BT AObj := .n t338 o0 t344
noncomputable def h346 : Hp := Hp.lit t345 m175 95 13 (by kernel_rfl) [0]
noncomputable def t347 : BT AObj := .n t322 o38 t232
noncomputable def t348 : BT AObj := .n t347 o77 t262
noncomputable def o349 : AObj := (.mapIter (some 67) 4 [1, 3, 2, 0] 4)
noncomputable def t350 : BT AObj := .n (.n .e o349 .e) o88 .e
noncomputable def t351 : BT AObj := .n t350 o93 t92
noncomputable def t352 : BT AObj := .n t86 o95 t351
noncomputable def t353 : BT AObj := .n t352 o115 t271
noncomputable def t354 : BT AObj := .n t353 o154 t281
noncomputable def t355 : BT AObj := .n t348 o0 t354
noncomputable def h356 : Hp := Hp.lit t355 m175 95 13 (by kernel_rfl) [0]
noncomputable def o357 : AObj := (oC (cs ([(xS [115, 101, 115, 115, 105, 111, 110])])) 9 73)
noncomputable def t358 : BT AObj := .n (.n .e o357 .e) o49 .e
noncomputable def t359 : BT AObj := .n t358 o54 t53
noncomputable def t360 : BT AObj := .n t47 o56 t359
noncomputable def t361 : BT AObj := .n t360 o75 t204
noncomputable def t362 : BT AObj := .n t257 o77 t361
noncomputable def o363 : AObj := (.mapIter (some 67) 4 [2, 0, 1, 3] 4)
noncomputable def t364 : BT AObj := .n (.n .e o363 .e) o88 .e
noncomputable def t365 : BT AObj := .n t364 o93 t92
noncomputable def t366 : BT AObj := .n t86 o95 t365
noncomputable def t367 : BT AObj := .n t366 o115 t114
noncomputable def t368 : BT AObj := .n t367 o154 t153
noncomputable def t369 : BT AObj := .n t362 o0 t368
noncomputable def h370 : Hp := Hp.lit t369 m175 95 13 (by kernel_rfl) [0]
noncomputable def t371 : BT AObj := .n t218 o38 t256
noncomputable def t372 : BT AObj := .n t360 o75 t185
noncomputable def t373 : BT AObj := .n t371 o77 t372
noncomputable def o374 : AObj := (.mapIter (some 67) 4 [2, 0, 3, 1] 4)
noncomputable def t375 : BT AObj := .n (.n .e o374 .e) o88 .e
noncomputable def t376 : BT AObj := .n t375 o93 t92
noncomputable def t377 : BT AObj := .n t86 o95 t376
noncomputable def t378 : BT AObj := .n t377 o115 t114
noncomputable def t379 : BT AObj := .n t378 o154 t153
noncomputable def t380 : BT AObj := .n t373 o0 t379
noncomputable def h381 : Hp := Hp.lit t380 m175 95 13 (by kernel_rfl) [0]
noncomputable def t382 : BT AObj := .n t360 o75 t299
noncomputable def t383 : BT AObj := .n t39 o77 t382
noncomputable def o384 : AObj := (.mapIter (some 67) 4 [2, 1, 0, 3] 4)
noncomputable def t385 : BT AObj := .n (.n .e o384 .e) o88 .e
noncomputable def t386 : BT AObj := .n t385 o93 t92
noncomputable def t387 : BT AObj := .n t86 o95 t386
noncomputable def t388 : BT AObj := .n t387 o115 t114
noncomputable def o389 : AObj := (oM (cn 2 ++ cs ([(xS [116, 104, 114, 101, 97, 100])])) 9 6 1 3 0 74)
noncomputable def t390 : BT AObj := .n (.n .e o389 .e) o144 .e
noncomputable def t391 : BT AObj := .n t390 o148 t147
noncomputable def t392 : BT AObj := .n t142 o150 t391
noncomputable def t393 : BT AObj := .n t134 o152 t392
noncomputable def t394 : BT AObj := .n t388 o154 t393
noncomputable def t395 : BT AObj := .n t383 o0 t394
noncomputable def h396 : Hp := Hp.lit t395 m175 95 13 (by kernel_rfl) [0]
noncomputable def t397 : BT AObj := .n t322 o38 t37
noncomputable def t398 : BT AObj := .n t397 o77 t372
noncomputable def o399 : AObj := (.mapIter (some 67) 4 [2, 1, 3, 0] 4)
noncomputable def t400 : BT AObj := .n (.n .e o399 .e) o88 .e
noncomputable def t401 : BT AObj := .n t400 o93 t92
noncomputable def t402 : BT AObj := .n t86 o95 t401
noncomputable def t403 : BT AObj := .n t402 o115 t114
noncomputable def t404 : BT AObj := .n t403 o154 t153
noncomputable def t405 : BT AObj := .n t398 o0 t404
noncomputable def h406 : Hp := Hp.lit t405 m175 95 13 (by kernel_rfl) [0]
noncomputable def t407 : BT AObj := .n t243 o77 t382
noncomputable def o408 : AObj := (.mapIter (some 67) 4 [2, 3, 0, 1] 4)
noncomputable def t409 : BT AObj := .n (.n .e o408 .e) o88 .e
noncomputable def t410 : BT AObj := .n t409 o93 t92
noncomputable def t411 : BT AObj := .n t86 o95 t410
noncomputable def t412 : BT AObj := .n t411 o115 t114
noncomputable def t413 : BT AObj := .n t412 o154 t153
noncomputable def t414 : BT AObj := .n t407 o0 t413
noncomputable def h415 : Hp := Hp.lit t414 m175 95 13 (by kernel_rfl) [0]
noncomputable def t416 : BT AObj := .n t347 o77 t361
noncomputable def o417 : AObj := (.mapIter (some 67) 4 [2, 3, 1, 0] 4)
noncomputable def t418 : BT AObj := .n (.n .e o417 .e) o88 .e
noncomputable def t419 : BT AObj := .n t418 o93 t92
noncomputable def t420 : BT AObj := .n t86 o95 t419
noncomputable def t421 : BT AObj := .n t420 o115 t114
noncomputable def t422 : BT AObj := .n t421 o154 t153
noncomputable def t423 : BT AObj := .n t416 o0 t422
noncomputable def h424 : Hp := Hp.lit t423 m175 95 13 (by kernel_rfl) [0]
noncomputable def o425 : AObj := (oC (cs ([(xS [117, 115, 101, 114])])) 9 73)
noncomputable def t426 : BT AObj := .n (.n .e o425 .e) o49 .e
noncomputable def t427 : BT AObj := .n t426 o54 t53
noncomputable def t428 : BT AObj := .n t47 o56 t427
noncomputable def t429 : BT AObj := .n t428 o75 t204
noncomputable def t430 : BT AObj := .n t285 o77 t429
noncomputable def o431 : AObj := (.mapIter (some 67) 4 [3, 0, 1, 2] 4)
noncomputable def t432 : BT AObj := .n (.n .e o431 .e) o88 .e
noncomputable def t433 : BT AObj := .n t432 o93 t92
noncomputable def t434 : BT AObj := .n t86 o95 t433
noncomputable def t435 : BT AObj := .n t434 o115 t114
noncomputable def t436 : BT AObj := .n t435 o154 t153
noncomputable def t437 : BT AObj := .n t430 o0 t436
noncomputable def h438 : Hp := Hp.lit t437 m175 95 13 (by kernel_rfl) [0]
noncomputable def t439 : BT AObj := .n t428 o75 t74
noncomputable def t440 : BT AObj := .n t371 o77 t439
noncomputable def o441 : AObj := (.mapIter (some 67) 4 [3, 0, 2, 1] 4)
noncomputable def t442 : BT AObj := .n (.n .e o441 .e) o88 .e
noncomputable def t443 : BT AObj := .n t442 o93 t92
noncomputable def t444 : BT AObj := .n t86 o95 t443
noncomputable def t445 : BT AObj := .n t444 o115 t114
noncomputable def t446 : BT AObj := .n t445 o154 t153
noncomputable def t447 : BT AObj := .n t440 o0 t446
noncomputable def h448 : Hp := Hp.lit t447 m175 95 13 (by kernel_rfl) [0]
noncomputable def t449 : BT AObj := .n t428 o75 t299
noncomputable def t450 : BT AObj := .n t181 o77 t449
noncomputable def o451 : AObj := (.mapIter (some 67) 4 [3, 1, 0, 2] 4)
noncomputable def t452 : BT AObj := .n (.n .e o451 .e) o88 .e
noncomputable def t453 : BT AObj := .n t452 o93 t92
noncomputable def t454 : BT AObj := .n t86 o95 t453
noncomputable def t455 : BT AObj := .n t454 o115 t114
noncomputable def t456 : BT AObj := .n t455 o154 t153
noncomputable def t457 : BT AObj := .n t450 o0 t456
noncomputable def h458 : Hp := Hp.lit t457 m175 95 13 (by kernel_rfl) [0]
noncomputable def t459 : BT AObj := .n t397 o77 t439
noncomputable def o460 : AObj := (.mapIter (some 67) 4 [3, 1, 2, 0] 4)
noncomputable def t461 : BT AObj := .n (.n .e o460 .e) o88 .e
noncomputable def t462 : BT AObj := .n t461 o93 t92
noncomputable def t463 : BT AObj := .n t86 o95 t462
noncomputable def t464 : BT AObj := .n t463 o115 t114
noncomputable def t465 : BT AObj := .n t464 o154 t153
noncomputable def t466 : BT AObj := .n t459 o0 t465
noncomputable def h467 : Hp := Hp.lit t466 m175 95 13 (by kernel_rfl) [0]
noncomputable def t468 : BT AObj := .n t219 o77 t449
noncomputable def o469 : AObj := (.mapIter (some 67) 4 [3, 2, 0, 1] 4)
noncomputable def t470 : BT AObj := .n (.n .e o469 .e) o88 .e
noncomputable def t471 : BT AObj := .n t470 o93 t92
noncomputable def t472 : BT AObj := .n t86 o95 t471
noncomputable def t473 : BT AObj := .n t472 o115 t114
noncomputable def t474 : BT AObj := .n t473 o154 t153
noncomputable def t475 : BT AObj := .n t468 o0 t474
noncomputable def h476 : Hp := Hp.lit t475 m175 95 13 (by kernel_rfl) [0]
noncomputable def t477 : BT AObj := .n t323 o77 t429
noncomputable def o478 : AObj := (.mapIter (some 67) 4 [3, 2, 1, 0] 4)
noncomputable def t479 : BT AObj := .n (.n .e o478 .e) o88 .e
noncomputable def t480 : BT AObj := .n t479 o93 t92
noncomputable def t481 : BT AObj := .n t86 o95 t480
noncomputable def t482 : BT AObj := .n t481 o115 t114
noncomputable def t483 : BT AObj := .n t482 o154 t153
noncomputable def t484 : BT AObj := .n t477 o0 t483
noncomputable def h485 : Hp := Hp.lit t484 m175 95 13 (by kernel_rfl) [0]
noncomputable def B3 : Code := Tryd.f3.body.getD .skip
noncomputable def s486 : St := { tmps := (us 83), h := h1, pc := ([]), marks := [], pan := none }
noncomputable def s487 : St := { tmps := ([xF] ++ us 82), h := h1, pc := ([]), marks := [], pan := none }
set_option maxRecDepth 100000 in
theorem g0 : runCode Tryd.prog true (runCall Tryd.prog true none 300 59) none 299 none (sub B3 [false]) s486 = some [(.normal, s487)] := by kernel_rfl
noncomputable def s488 : St := { tmps := ([xF, .nilPtr] ++ us 81), h := h1, pc := ([]), marks := [], pan := none }
set_option maxRecDepth 100000 in
theorem g1 : runCode Tryd.prog true (runCall Tryd.prog true none 300 59) none 298 none (sub B3 [true, false]) s487 = some [(.normal, s488)] := by kernel_rfl
noncomputable def l489 : List AV := [xF, .nilPtr, (xP 1 0)] ++ us 80
noncomputable def o490 : AObj := (oC (cs ([.nilMap, .nilSlice, xF])) 26 1)
noncomputable def t491 : BT AObj := .n (.n .e o490 .e) o0 .e
noncomputable def h492 : Hp := Hp.lit t491 m157 2 0 (by kernel_rfl) [0]
noncomputable def s493 : St := { tmps := l489, h := h492, pc := ([]), marks := [], pan := none }
set_option maxRecDepth 100000 in
theorem g2 : runCode Tryd.prog true (runCall Tryd.prog true none 300 59) none 297 none (sub B3 [true, true, false]) s488 = some [(.normal, s493)] := by kernel_rfl
noncomputable def l494 : List AV := [xF, .nilPtr, (xP 1 0), (xP 2 0)] ++ us 2 ++ [(xA (ai [1, 1, 0] ++ [xF] ++ ai [0] ++ au [0] ++ ai [0]))] ++ us 76
noncomputable def t495 : BT AObj := .n (.n .e o490 .e) o0 (.n .e o154 .e)
noncomputable def m496 : BT (List Nat) := .n (.n .e [] .e) [] (.n .e [] .e)
noncomputable def h497 : Hp := Hp.lit t495 m496 3 0 (by kernel_rfl) [0]
noncomputable def s498 : St := { tmps := l494, h := h497, pc := ([]), marks := [], pan := none }
set_option maxRecDepth 100000 in
theorem g3 : runCode Tryd.prog true (runCall Tryd.prog true none 300 59) none 296 none (sub B3 [true, true, true, false]) s493 = some [(.normal, s498)] := by kernel_rfl
noncomputable def l499 : List AV := [xF, .nilPtr, (xP 1 0), (xP 2 0), (xP 5 0), xF, (xA (ai [1, 1, 0] ++ [xF] ++ ai [0] ++ au [0] ++ ai [0])), (.tuple ([(xA (ai [0, 0, 0] ++ [xF] ++ ai [0] ++ au [0] ++ ai [0])), xF])), .nilPtr, (xA (ai [1, 1, 0] ++ [xF] ++ ai [0] ++ au [0] ++ ai [0])), (.tuple ([(xA (ai [0, 0, 0] ++ [xF] ++ ai [0] ++ au [0] ++ ai [0])), xF])), (xA (ai [0, 0, 0] ++ [xF] ++ ai [0] ++ au [0] ++ ai [0])), xF] ++ us 70
noncomputable def t500 : BT AObj := .n (.n .e o38 .e) o490 (.n .e o75 .e)
noncomputable def t501 : BT AObj := .n (.n .e o115 .e) o154 .e
noncomputable def t502 : BT AObj := .n t500 o0 t501
noncomputable def m503 : BT (List Nat) := .n m496 [] m157
noncomputable def h504 : Hp := Hp.lit t502 m503 6 0 (by kernel_rfl) [0]
noncomputable def s505 : St := { tmps := l499, h := h504, pc := ([]), marks := [], pan := none }
set_option maxRecDepth 100000 in
theorem g4 : runCode Tryd.prog true (runCall Tryd.prog true none 300 59) none 295 none (sub B3 [true, true, true, true, false]) s498 = some [(.normal, s505)] := by kernel_rfl
noncomputable def l506 : List AV := [xF, .nilPtr, (xP 1 0), (xP 2 0), (xP 5 0), xF, (xA (ai [1, 1, 0] ++ [xF] ++ ai [0] ++ au [0] ++ ai [0])), (.tuple ([(xA (ai [0, 0, 0] ++ [xF] ++ ai [0] ++ au [0] ++ ai [0])), xF])), .nilPtr, (xA (ai [1, 1, 0] ++ [xF] ++ ai [0] ++ au [0] ++ ai [0])), (.tuple ([(xA (ai [0, 0, 0] ++ [xF] ++ ai [0] ++ au [0] ++ ai [0])), xF])), (xA (ai [0, 0, 0] ++ [xF] ++ ai [0] ++ au [0] ++ ai [0])), xF, xF, xF, .nilPtr, (xA (ai [1, 1, 0] ++ [xF] ++ ai [0] ++ au [0] ++ ai [0]))] ++ ai [1] ++ [xF, xF, xF, .nilPtr, xF, xF, xF, .nilPtr] ++ ai [0] ++ [.nilPtr, .nilSlice] ++ ai [0, 0, 0, 0] ++ [xF, xF, xF, .nilPtr, xT, xF, xF, xF, .nilPtr, (xA (ai [1, 1, 0] ++ [xF] ++ ai [0] ++ au [0] ++ ai [0])), (xL 7 0 1 1), xF, xF, xF, xT, xF, xF, xF, .nilPtr, .nilPtr, xF, xF, xF, .nilPtr, xT, xF, xF, xF, xT, xF, xF, xF, (xP 8 0), xT, xF, xF] ++ us 14
noncomputable def t507 : BT AObj := .n (.n .e o18 .e) o38 .e
noncomputable def t508 : BT AObj := .n t507 o490 (.n .e o75 .e)
noncomputable def t509 : BT AObj := .n (.n .e o95 .e) o115 .e
noncomputable def t510 : BT AObj := .n t509 o154 (.n .e o152 .e)
noncomputable def t511 : BT AObj := .n t508 o0 t510
noncomputable def m512 : BT (List Nat) := .n m157 [] (.n .e [] .e)
noncomputable def m513 : BT (List Nat) := .n m512 [] m512
noncomputable def h514 : Hp := Hp.lit t511 m513 9 0 (by kernel_rfl) [0]
noncomputable def s515 : St := { tmps := l506, h := h514, pc := ([]), marks := [], pan := none }
set_option maxRecDepth 100000 in
theorem g5 : runCode Tryd.prog true (runCall Tryd.prog true none 300 59) none 294 none (sub B3 [true, true, true, true, true, false]) s505 = some [(.normal, s515)] := by kernel_rfl
noncomputable def l516 : List AV := [xF, .nilPtr, (xP 1 0), (xP 2 0), (xP 5 0), xF, (xA (ai [1, 1, 0] ++ [xF] ++ ai [0] ++ au [0] ++ ai [0])), (.tuple ([(xA (ai [0, 0, 0] ++ [xF] ++ ai [0] ++ au [0] ++ ai [0])), xF])), .nilPtr, (xA (ai [1, 1, 0] ++ [xF] ++ ai [0] ++ au [0] ++ ai [0])), (.tuple ([(xA (ai [0, 0, 0] ++ [xF] ++ ai [0] ++ au [0] ++ ai [0])), xF])), (xA (ai [0, 0, 0] ++ [xF] ++ ai [0] ++ au [0] ++ ai [0])), xF, xF, xF, .nilPtr, (xA (ai [1, 1, 0] ++ [xF] ++ ai [0] ++ au [0] ++ ai [0]))] ++ ai [1] ++ [xF, xF, xF, .nilPtr, xF, xF, xF, .nilPtr] ++ ai [0] ++ [.nilPtr, .nilSlice] ++ ai [0, 0, 0, 0] ++ [xF, xF, xF, .nilPtr, xT, xF, xF, xF, .nilPtr, (xA (ai [1, 1, 0] ++ [xF] ++ ai [0] ++ au [0] ++ ai [0])), (xL 7 0 1 1), xF, xF, xF, xT, xF, xF, xF, .nilPtr, .nilPtr, xF, xF, xF, .nilPtr, xT, xF, xF, xF, xT, xF, xF, xF, (xP 8 0), xT, xF, xF, (xA (ai [1, 1, 0] ++ [xF] ++ ai [0] ++ au [0] ++ ai [0]))] ++ ai [0] ++ [xT, xT] ++ ai [1] ++ [xT, xT, xT, xF, xT, xT, xT] ++ us 2
noncomputable def t517 : BT AObj := .n (.n .e o9 .e) o18 .e
noncomputable def t518 : BT AObj := .n (.n .e o26 .e) o36 .e
noncomputable def t519 : BT AObj := .n t517 o38 t518
noncomputable def t520 : BT AObj := .n (.n .e o46 .e) o56 .e
noncomputable def t521 : BT AObj := .n .e ((oC [] 32 21)) .e
noncomputable def t522 : BT AObj := .n t521 o73 .e
noncomputable def t523 : BT AObj := .n t520 o75 t522
noncomputable def t524 : BT AObj := .n t519 o77 t523
noncomputable def t525 : BT AObj := .n (.n .e o85 .e) o95 .e
noncomputable def t526 : BT AObj := .n (.n .e o103 .e) o113 .e
noncomputable def t527 : BT AObj := .n t525 o115 t526
noncomputable def t528 : BT AObj := .n (.n .e o123 .e) o133 .e
noncomputable def t529 : BT AObj := .n (.n .e o141 .e) o150 .e
noncomputable def t530 : BT AObj := .n t528 o152 t529
noncomputable def t531 : BT AObj := .n t527 o154 t530
noncomputable def t532 : BT AObj := .n t524 o0 t531
noncomputable def h533 : Hp := Hp.lit t532 m164 23 2 (by kernel_rfl) [0]
noncomputable def s534 : St := { tmps := l516, h := h533, pc := ([]), marks := [], pan := none }
set_option maxRecDepth 100000 in
theorem g6 : runOps Tryd.prog (runCall Tryd.prog true none 300 59) none (arrOf (sub B3 [true, true, true, true, true, true, false])) (seg (sub B3 [true, true, true, true, true, true, false]) 0 12) s515 = some [s534] := by kernel_rfl
noncomputable def B13 : Code := Tryd.f13.body.getD .skip
noncomputable def s535 : St := { tmps := (us 63), h := h533, pc := ([]), marks := [], pan := none }
noncomputable def s536 : St := { tmps := ([xF] ++ us 62), h := h533, pc := ([]), marks := [], pan := none }
set_option maxRecDepth 100000 in
theorem g7 : runCode Tryd.prog true (runCall Tryd.prog true none 300 58) none 299 none (sub B13 [false]) s535 = some [(.normal, s536)] := by kernel_rfl
noncomputable def l537 : List AV := [xF, (xP 23 0)] ++ us 7 ++ [(xP 23 0)] ++ us 53
noncomputable def o538 : AObj := (oC (cs ([.nilMap, .nilSlice, xF])) 26 23)
noncomputable def t539 : BT AObj := .n (.n .e o9 .e) o18 (.n .e o538 .e)
noncomputable def t540 : BT AObj := .n t539 o38 t518
noncomputable def t541 : BT AObj := .n t540 o77 t523
noncomputable def t542 : BT AObj := .n t541 o0 t531
noncomputable def m543 : BT (List Nat) := .n m503 [] m158
noncomputable def m544 : BT (List Nat) := .n m543 [] m159
noncomputable def h545 : Hp := Hp.lit t542 m544 24 2 (by kernel_rfl) [0]
noncomputable def s546 : St := { tmps := l537, h := h545, pc := ([]), marks := [], pan := none }
set_option maxRecDepth 100000 in
theorem g8 : runCode Tryd.prog true (runCall Tryd.prog true none 300 58) none 298 none (sub B13 [true, false]) s536 = some [(.normal, s546)] := by kernel_rfl
noncomputable def l547 : List AV := [xF, (xP 23 0)] ++ us 7 ++ [(xP 23 0), (xP 23 0), xF] ++ us 51
noncomputable def s548 : St := { tmps := l547, h := h545, pc := ([]), marks := [], pan := none }
set_option maxRecDepth 100000 in
theorem g9 : runCode Tryd.prog true (runCall Tryd.prog true none 300 58) none 297 none (sub B13 [true, true, false]) s546 = some [(.normal, s548)] := by kernel_rfl
noncomputable def l549 : List AV := [xF, (xP 23 0), (xP 24 0)] ++ us 6 ++ [(xP 23 0), (xP 23 0), xF, (xA (ai [1, 5, 0] ++ [xT] ++ ai [0] ++ au [2] ++ ai [1]))] ++ us 50
noncomputable def o550 : AObj := (oC (cs (ai [1, 5, 0] ++ [xT] ++ ai [0] ++ au [2] ++ ai [1])) 32 24)
noncomputable def t551 : BT AObj := .n (.n .e o85 .e) o95 (.n .e o550 .e)
noncomputable def t552 : BT AObj := .n t551 o115 t526
noncomputable def t553 : BT AObj := .n t552 o154 t530
noncomputable def t554 : BT AObj := .n t541 o0 t553
noncomputable def m555 : BT (List Nat) := .n m543 [] m543
noncomputable def h556 : Hp := Hp.lit t554 m555 25 2 (by kernel_rfl) [0]
noncomputable def s557 : St := { tmps := l549, h := h556, pc := ([]), marks := [], pan := none }
set_option maxRecDepth 100000 in
theorem g10 : runCode Tryd.prog true (runCall Tryd.prog true none 300 58) none 296 none (sub B13 [true, true, true, false]) s548 = some [(.normal, s557)] := by kernel_rfl
noncomputable def l558 : List AV := [xF, (xP 23 0), (xP 24 0)] ++ us 6 ++ [(xP 23 0), (xP 23 0), xF, (xA (ai [1, 5, 0] ++ [xT] ++ ai [0] ++ au [2] ++ ai [1])), (xP 23 0), (xA (ai [1, 5, 0] ++ [xT] ++ ai [0] ++ au [2] ++ ai [1]))] ++ ai [0] ++ us 47
noncomputable def t559 : BT AObj := .n (.n .e o4 .e) o9 .e
noncomputable def o560 : AObj := (oC (cs ([(.map 32), (xV 36 0 1 2 0), xF])) 26 23)
noncomputable def t561 : BT AObj := .n t559 o18 (.n .e o560 .e)
noncomputable def t562 : BT AObj := .n (.n .e o21 .e) o26 .e
noncomputable def t563 : BT AObj := .n t562 o36 (.n .e o34 .e)
noncomputable def t564 : BT AObj := .n t561 o38 t563
noncomputable def t565 : BT AObj := .n (.n .e o41 .e) o46 .e
noncomputable def t566 : BT AObj := .n t565 o56 (.n .e o54 .e)
noncomputable def t567 : BT AObj := .n t521 o73 (.n .e o71 .e)
noncomputable def t568 : BT AObj := .n t566 o75 t567
noncomputable def t569 : BT AObj := .n t564 o77 t568
noncomputable def o570 : AObj := (.map [((xA (ai [1, 5, 0])), (xI 0), 0)] 1)
noncomputable def t571 : BT AObj := .n (.n .e o570 .e) o85 .e
noncomputable def t572 : BT AObj := .n t571 o95 (.n .e o550 .e)
noncomputable def t573 : BT AObj := .n (.n .e o98 .e) o103 .e
noncomputable def t574 : BT AObj := .n t573 o113 (.n .e o111 .e)
noncomputable def t575 : BT AObj := .n t572 o115 t574
noncomputable def t576 : BT AObj := .n (.n .e o118 .e) o123 .e
noncomputable def t577 : BT AObj := .n t576 o133 (.n .e o131 .e)
noncomputable def t578 : BT AObj := .n (.n .e o141 .e) o150 (.n .e o148 .e)
noncomputable def t579 : BT AObj := .n t577 o152 t578
noncomputable def t580 : BT AObj := .n t575 o154 t579
noncomputable def t581 : BT AObj := .n t569 o0 t580
noncomputable def m582 : BT (List Nat) := .n m512 [] m496
noncomputable def m583 : BT (List Nat) := .n m513 [] m582
noncomputable def m584 : BT (List Nat) := .n m583 [] m583
noncomputable def h585 : Hp := Hp.lit t581 m584 37 3 (by kernel_rfl) [0]
noncomputable def s586 : St := { tmps := l558, h := h585, pc := ([]), marks := [], pan := none }
set_option maxRecDepth 100000 in
theorem g11 : runCode Tryd.prog true (runCall Tryd.prog true none 300 58) none 295 none (sub B13 [true, true, true, true, false]) s557 = some [(.normal, s586)] := by kernel_rfl
noncomputable def l587 : List AV := [xF, (xP 23 0), (xP 24 0)] ++ us 6 ++ [(xP 23 0), (xP 23 0), xF, (xA (ai [1, 5, 0] ++ [xT] ++ ai [0] ++ au [2] ++ ai [1])), (xP 23 0), (xA (ai [1, 5, 0] ++ [xT] ++ ai [0] ++ au [2] ++ ai [1]))] ++ ai [0] ++ [(xP 23 0), (xA (ai [2, 5, 0] ++ [xT] ++ ai [0] ++ au [1] ++ ai [0]))] ++ ai [0] ++ us 44
noncomputable def t588 : BT AObj := .n (.n .e o4 .e) o9 (.n .e o7 .e)
noncomputable def o589 : AObj := (oC (cs ([(.map 32), (xV 47 0 2 3 0), xF])) 26 23)
noncomputable def t590 : BT AObj := .n (.n .e o12 .e) o589 .e
noncomputable def t591 : BT AObj := .n t588 o18 t590
noncomputable def t592 : BT AObj := .n (.n .e o29 .e) o34 .e
noncomputable def t593 : BT AObj := .n t562 o36 t592
noncomputable def t594 : BT AObj := .n t591 o38 t593
noncomputable def t595 : BT AObj := .n (.n .e o49 .e) o54 .e
noncomputable def t596 : BT AObj := .n t565 o56 t595
noncomputable def t597 : BT AObj := .n (.n .e o59 .e) ((oC [] 32 21)) .e
noncomputable def t598 : BT AObj := .n (.n .e o66 .e) o71 .e
noncomputable def t599 : BT AObj := .n t597 o73 t598
noncomputable def t600 : BT AObj := .n t596 o75 t599
noncomputable def t601 : BT AObj := .n t594 o77 t600
noncomputable def t602 : BT AObj := .n (.n .e o80 .e) o85 .e
noncomputable def t603 : BT AObj := .n (.n .e o88 .e) o550 .e
noncomputable def t604 : BT AObj := .n t602 o95 t603
noncomputable def t605 : BT AObj := .n (.n .e o106 .e) o111 .e
noncomputable def t606 : BT AObj := .n t573 o113 t605
noncomputable def t607 : BT AObj := .n t604 o115 t606
noncomputable def t608 : BT AObj := .n (.n .e o126 .e) o131 .e
noncomputable def t609 : BT AObj := .n t576 o133 t608
noncomputable def t610 : BT AObj := .n (.n .e o136 .e) o141 .e
noncomputable def t611 : BT AObj := .n (.n .e o144 .e) o148 .e
noncomputable def t612 : BT AObj := .n t610 o150 t611
noncomputable def t613 : BT AObj := .n t609 o152 t612
noncomputable def t614 : BT AObj := .n t607 o154 t613
noncomputable def t615 : BT AObj := .n t601 o0 t614
noncomputable def m616 : BT (List Nat) := .n (.n .e [47] .e) [] .e
noncomputable def m617 : BT (List Nat) := .n m616 [] m157
noncomputable def m618 : BT (List Nat) := .n m158 [] m617
noncomputable def m619 : BT (List Nat) := .n m618 [] m159
noncomputable def m620 : BT (List Nat) := .n m544 [] m619
noncomputable def h621 : Hp := Hp.lit t615 m620 48 4 (by kernel_rfl) [0]
noncomputable def s622 : St := { tmps := l587, h := h621, pc := ([]), marks := [], pan := none }
set_option maxRecDepth 100000 in
theorem g12 : runCode Tryd.prog true (runCall Tryd.prog true none 300 58) none 294 none (sub B13 [true, true, true, true, true, false]) s586 = some [(.normal, s622)] := by kernel_rfl
noncomputable def l623 : List AV := [xF, (xP 23 0), (xP 24 0)] ++ us 6 ++ [(xP 23 0), (xP 23 0), xF, (xA (ai [1, 5, 0] ++ [xT] ++ ai [0] ++ au [2] ++ ai [1])), (xP 23 0), (xA (ai [1, 5, 0] ++ [xT] ++ ai [0] ++ au [2] ++ ai [1]))] ++ ai [0] ++ [(xP 23 0), (xA (ai [2, 5, 0] ++ [xT] ++ ai [0] ++ au [1] ++ ai [0]))] ++ ai [0] ++ [(xP 23 0), (xA (ai [1, 5, 0] ++ [xT] ++ ai [0] ++ au [2] ++ ai [1]))] ++ ai [0] ++ us 41
noncomputable def t624 : BT AObj := .n (.n .e o21 .e) o26 (.n .e o24 .e)
noncomputable def t625 : BT AObj := .n t624 o36 t592
noncomputable def t626 : BT AObj := .n t591 o38 t625
noncomputable def t627 : BT AObj := .n (.n .e o41 .e) o46 (.n .e o44 .e)
noncomputable def t628 : BT AObj := .n t627 o56 t595
noncomputable def t629 : BT AObj := .n (.n .e o59 .e) ((oC [] 32 21)) (.n .e o62 .e)
noncomputable def t630 : BT AObj := .n t629 o73 t598
noncomputable def t631 : BT AObj := .n t628 o75 t630
noncomputable def t632 : BT AObj := .n t626 o77 t631
noncomputable def t633 : BT AObj := .n (.n .e o80 .e) o85 (.n .e o83 .e)
noncomputable def t634 : BT AObj := .n t633 o95 t603
noncomputable def t635 : BT AObj := .n (.n .e o98 .e) o103 (.n .e o101 .e)
noncomputable def t636 : BT AObj := .n t635 o113 t605
noncomputable def t637 : BT AObj := .n t634 o115 t636
noncomputable def t638 : BT AObj := .n (.n .e o118 .e) o123 (.n .e o121 .e)
noncomputable def t639 : BT AObj := .n t638 o133 t608
noncomputable def t640 : BT AObj := .n (.n .e o136 .e) o141 (.n .e o139 .e)
noncomputable def t641 : BT AObj := .n t640 o150 t611
noncomputable def t642 : BT AObj := .n t639 o152 t641
noncomputable def t643 : BT AObj := .n t637 o154 t642
noncomputable def t644 : BT AObj := .n t632 o0 t643
noncomputable def m645 : BT (List Nat) := .n m503 [] m503
noncomputable def m646 : BT (List Nat) := .n m645 [] m645
noncomputable def m647 : BT (List Nat) := .n (.n .e [47] .e) [] (.n .e [] .e)
noncomputable def m648 : BT (List Nat) := .n m647 [] m157
noncomputable def m649 : BT (List Nat) := .n m503 [] m648
noncomputable def m650 : BT (List Nat) := .n m649 [] m645
noncomputable def m651 : BT (List Nat) := .n m646 [] m650
noncomputable def h652 : Hp := Hp.lit t644 m651 55 4 (by kernel_rfl) [0]
noncomputable def s653 : St := { tmps := l623, h := h652, pc := ([]), marks := [], pan := none }
set_option maxRecDepth 100000 in
theorem g13 : runCode Tryd.prog true (runCall Tryd.prog true none 300 58) none 293 none (sub B13 [true, true, true, true, true, true, false]) s622 = some [(.normal, s653)] := by kernel_rfl
noncomputable def l654 : List AV := [xF, (xP 23 0), (xP 24 0)] ++ ai [2] ++ [xF] ++ us 4 ++ [(xP 23 0), (xP 23 0), xF, (xA (ai [1, 5, 0] ++ [xT] ++ ai [0] ++ au [2] ++ ai [1])), (xP 23 0), (xA (ai [1, 5, 0] ++ [xT] ++ ai [0] ++ au [2] ++ ai [1]))] ++ ai [0] ++ [(xP 23 0), (xA (ai [2, 5, 0] ++ [xT] ++ ai [0] ++ au [1] ++ ai [0]))] ++ ai [0] ++ [(xP 23 0), (xA (ai [1, 5, 0] ++ [xT] ++ ai [0] ++ au [2] ++ ai [1]))] ++ ai [0] ++ [(xP 23 0)] ++ ai [2] ++ [(xP 23 0), xF] ++ us 37
noncomputable def s655 : St := { tmps := l654, h := h652, pc := ([]), marks := [], pan := none }
set_option maxRecDepth 100000 in
theorem g14 : runCode Tryd.prog true (runCall Tryd.prog true none 300 58) none 292 none (sub B13 [true, true, true, true, true, true, true, false]) s653 = some [(.normal, s655)] := by kernel_rfl
noncomputable def l656 : List AV := [xF, (xP 23 0), (xP 24 0)] ++ ai [2] ++ [xF] ++ us 4 ++ [(xP 23 0), (xP 23 0), xF, (xA (ai [1, 5, 0] ++ [xT] ++ ai [0] ++ au [2] ++ ai [1])), (xP 23 0), (xA (ai [1, 5, 0] ++ [xT] ++ ai [0] ++ au [2] ++ ai [1]))] ++ ai [0] ++ [(xP 23 0), (xA (ai [2, 5, 0] ++ [xT] ++ ai [0] ++ au [1] ++ ai [0]))] ++ ai [0] ++ [(xP 23 0), (xA (ai [1, 5, 0] ++ [xT] ++ ai [0] ++ au [2] ++ ai [1]))] ++ ai [0] ++ [(xP 23 0)] ++ ai [2] ++ [(xP 23 0), xF, (xP 24 5)] ++ us 36
noncomputable def t657 : BT AObj := .n (.n .e o88 .e) o93 .e
noncomputable def t658 : BT AObj := .n t633 o95 t657
noncomputable def t659 : BT AObj := .n t658 o115 t636
noncomputable def t660 : BT AObj := .n t659 o154 t642
noncomputable def t661 : BT AObj := .n t632 o0 t660
noncomputable def h662 : Hp := Hp.lit t661 m651 55 4 (by kernel_rfl) [0]
noncomputable def s663 : St := { tmps := l656, h := h662, pc := ([]), marks := [], pan := none }
set_option maxRecDepth 100000 in
theorem g15 : runCode Tryd.prog true (runCall Tryd.prog true none 300 58) none 291 none (sub B13 [true, true, true, true, true, true, true, true, false]) s655 = some [(.normal, s663)] := by kernel_rfl
noncomputable def l664 : List AV := [xF, (xP 23 0), (xP 24 0)] ++ ai [2] ++ [xF] ++ us 4 ++ [(xP 23 0), (xP 23 0), xF, (xA (ai [1, 5, 0] ++ [xT] ++ ai [0] ++ au [2] ++ ai [1])), (xP 23 0), (xA (ai [1, 5, 0] ++ [xT] ++ ai [0] ++ au [2] ++ ai [1]))] ++ ai [0] ++ [(xP 23 0), (xA (ai [2, 5, 0] ++ [xT] ++ ai [0] ++ au [1] ++ ai [0]))] ++ ai [0] ++ [(xP 23 0), (xA (ai [1, 5, 0] ++ [xT] ++ ai [0] ++ au [2] ++ ai [1]))] ++ ai [0] ++ [(xP 23 0)] ++ ai [2] ++ [(xP 23 0), xF, (xP 24 5), (xP 23 0), (xA (ai [1, 5, 0] ++ [xT] ++ ai [0] ++ au [3] ++ ai [1]))] ++ ai [0] ++ us 33
noncomputable def t665 : BT AObj := .n (.n .e o12 .e) o16 (.n .e o14 .e)
noncomputable def t666 : BT AObj := .n t588 o18 t665
noncomputable def t667 : BT AObj := .n (.n .e o29 .e) o34 (.n .e o32 .e)
noncomputable def t668 : BT AObj := .n t624 o36 t667
noncomputable def t669 : BT AObj := .n t666 o38 t668
noncomputable def t670 : BT AObj := .n (.n .e o49 .e) o54 (.n .e o52 .e)
noncomputable def t671 : BT AObj := .n t627 o56 t670
noncomputable def t672 : BT AObj := .n (.n .e o66 .e) o71 (.n .e o69 .e)
noncomputable def t673 : BT AObj := .n t629 o73 t672
noncomputable def t674 : BT AObj := .n t671 o75 t673
noncomputable def t675 : BT AObj := .n t669 o77 t674
noncomputable def t676 : BT AObj := .n (.n .e o88 .e) o93 (.n .e o91 .e)
noncomputable def t677 : BT AObj := .n t633 o95 t676
noncomputable def t678 : BT AObj := .n (.n .e o106 .e) o111 (.n .e o109 .e)
noncomputable def t679 : BT AObj := .n t635 o113 t678
noncomputable def t680 : BT AObj := .n t677 o115 t679
noncomputable def t681 : BT AObj := .n (.n .e o126 .e) o131 (.n .e o129 .e)
noncomputable def t682 : BT AObj := .n t638 o133 t681
noncomputable def t683 : BT AObj := .n t682 o152 t641
noncomputable def t684 : BT AObj := .n t680 o154 t683
noncomputable def t685 : BT AObj := .n t675 o0 t684
noncomputable def m686 : BT (List Nat) := .n m496 [] m496
noncomputable def m687 : BT (List Nat) := .n m686 [] m686
noncomputable def m688 : BT (List Nat) := .n m687 [] m687
noncomputable def m689 : BT (List Nat) := .n m647 [] m496
noncomputable def m690 : BT (List Nat) := .n m686 [] m689
noncomputable def m691 : BT (List Nat) := .n m686 [] m503
noncomputable def m692 : BT (List Nat) := .n m690 [] m691
noncomputable def m693 : BT (List Nat) := .n m688 [] m692
noncomputable def h694 : Hp := Hp.lit t685 m693 62 4 (by kernel_rfl) [0]
noncomputable def s695 : St := { tmps := l664, h := h694, pc := ([]), marks := [], pan := none }
set_option maxRecDepth 100000 in
theorem g16 : runCode Tryd.prog true (runCall Tryd.prog true none 300 58) none 290 none (sub B13 [true, true, true, true, true, true, true, true, true, false]) s663 = some [(.normal, s695)] := by kernel_rfl
noncomputable def l696 : List AV := [xF, (xP 23 0), (xP 24 0)] ++ ai [2] ++ [xF] ++ us 4 ++ [(xP 23 0), (xP 23 0), xF, (xA (ai [1, 5, 0] ++ [xT] ++ ai [0] ++ au [2] ++ ai [1])), (xP 23 0), (xA (ai [1, 5, 0] ++ [xT] ++ ai [0] ++ au [2] ++ ai [1]))] ++ ai [0] ++ [(xP 23 0), (xA (ai [2, 5, 0] ++ [xT] ++ ai [0] ++ au [1] ++ ai [0]))] ++ ai [0] ++ [(xP 23 0), (xA (ai [1, 5, 0] ++ [xT] ++ ai [0] ++ au [2] ++ ai [1]))] ++ ai [0] ++ [(xP 23 0)] ++ ai [2] ++ [(xP 23 0), xF, (xP 24 5), (xP 23 0), (xA (ai [1, 5, 0] ++ [xT] ++ ai [0] ++ au [3] ++ ai [1]))] ++ ai [0] ++ us 1 ++ [(xA (ai [3] ++ [(xJ 2)] ++ ai [3] ++ [xF] ++ ai [0] ++ au [4] ++ ai [0]))] ++ us 31
noncomputable def s697 : St := { tmps := l696, h := h694, pc := ([]), marks := [], pan := none }
set_option maxRecDepth 100000 in
theorem g17 : runOps Tryd.prog (runCall Tryd.prog true none 300 58) none (arrOf (sub B13 [true, true, true, true, true, true, true, true, true, true, false])) (seg (sub B13 [true, true, true, true, true, true, true, true, true, true, false]) 0 1) s695 = some [s697] := by kernel_rfl
noncomputable def t698 : BT AObj := .n t30 o34 (.n .e o32 .e)
noncomputable def t699 : BT AObj := .n t27 o36 t698
noncomputable def t700 : BT AObj := .n t19 o38 t699
noncomputable def t701 : BT AObj := .n t50 o54 (.n .e o52 .e)
noncomputable def t702 : BT AObj := .n t47 o56 t701
noncomputable def t703 : BT AObj := .n t67 o71 (.n .e o69 .e)
noncomputable def t704 : BT AObj := .n t64 o73 t703
noncomputable def t705 : BT AObj := .n t702 o75 t704
noncomputable def t706 : BT AObj := .n t700 o77 t705
noncomputable def t707 : BT AObj := .n t89 o93 (.n .e o91 .e)
noncomputable def t708 : BT AObj := .n t86 o95 t707
noncomputable def t709 : BT AObj := .n t107 o111 (.n .e o109 .e)
noncomputable def t710 : BT AObj := .n t104 o113 t709
noncomputable def t711 : BT AObj := .n t708 o115 t710
noncomputable def t712 : BT AObj := .n t127 o131 (.n .e o129 .e)
noncomputable def t713 : BT AObj := .n t124 o133 t712
noncomputable def t714 : BT AObj := .n t145 o148 (.n .e o146 .e)
noncomputable def t715 : BT AObj := .n t142 o150 t714
noncomputable def t716 : BT AObj := .n t713 o152 t715
noncomputable def t717 : BT AObj := .n t711 o154 t716
noncomputable def t718 : BT AObj := .n t706 o0 t717
noncomputable def m719 : BT (List Nat) := .n m161 [] m512
noncomputable def m720 : BT (List Nat) := .n m159 [] m719
noncomputable def m721 : BT (List Nat) := .n m158 [] m512
noncomputable def m722 : BT (List Nat) := .n m721 [] m721
noncomputable def m723 : BT (List Nat) := .n m720 [] m722
noncomputable def m724 : BT (List Nat) := .n m167 [] m512
noncomputable def m725 : BT (List Nat) := .n m721 [] m724
noncomputable def m726 : BT (List Nat) := .n m170 [] (.n .e [] .e)
noncomputable def m727 : BT (List Nat) := .n m158 [] m726
noncomputable def m728 : BT (List Nat) := .n m727 [] m721
noncomputable def m729 : BT (List Nat) := .n m725 [] m728
noncomputable def m730 : BT (List Nat) := .n m723 [] m729
noncomputable def h731 : Hp := Hp.lit t718 m730 88 11 (by kernel_rfl) [0]
noncomputable def t732 : BT AObj := .n t180 o38 t699
noncomputable def t733 : BT AObj := .n t183 o71 (.n .e o69 .e)
noncomputable def t734 : BT AObj := .n t64 o73 t733
noncomputable def t735 : BT AObj := .n t702 o75 t734
noncomputable def t736 : BT AObj := .n t732 o77 t735
noncomputable def t737 : BT AObj := .n t189 o93 (.n .e o91 .e)
noncomputable def t738 : BT AObj := .n t86 o95 t737
noncomputable def t739 : BT AObj := .n t738 o115 t710
noncomputable def t740 : BT AObj := .n t739 o154 t716
noncomputable def t741 : BT AObj := .n t736 o0 t740
noncomputable def h742 : Hp := Hp.lit t741 m730 88 11 (by kernel_rfl) [0]
noncomputable def t743 : BT AObj := .n t197 o34 (.n .e o32 .e)
noncomputable def t744 : BT AObj := .n t27 o36 t743
noncomputable def t745 : BT AObj := .n t19 o38 t744
noncomputable def t746 : BT AObj := .n t202 o71 (.n .e o69 .e)
noncomputable def t747 : BT AObj := .n t64 o73 t746
noncomputable def t748 : BT AObj := .n t702 o75 t747
noncomputable def t749 : BT AObj := .n t745 o77 t748
noncomputable def t750 : BT AObj := .n t208 o93 (.n .e o91 .e)
noncomputable def t751 : BT AObj := .n t86 o95 t750
noncomputable def t752 : BT AObj := .n t751 o115 t710
noncomputable def t753 : BT AObj := .n t752 o154 t716
noncomputable def t754 : BT AObj := .n t749 o0 t753
noncomputable def h755 : Hp := Hp.lit t754 m730 88 11 (by kernel_rfl) [0]
noncomputable def t756 : BT AObj := .n t218 o38 t744
noncomputable def t757 : BT AObj := .n t756 o77 t735
noncomputable def t758 : BT AObj := .n t222 o93 (.n .e o91 .e)
noncomputable def t759 : BT AObj := .n t86 o95 t758
noncomputable def t760 : BT AObj := .n t759 o115 t710
noncomputable def t761 : BT AObj := .n t760 o154 t716
noncomputable def t762 : BT AObj := .n t757 o0 t761
noncomputable def h763 : Hp := Hp.lit t762 m730 88 11 (by kernel_rfl) [0]
noncomputable def t764 : BT AObj := .n t230 o34 (.n .e o32 .e)
noncomputable def t765 : BT AObj := .n t27 o36 t764
noncomputable def t766 : BT AObj := .n t180 o38 t765
noncomputable def t767 : BT AObj := .n t766 o77 t748
noncomputable def t768 : BT AObj := .n t236 o93 (.n .e o91 .e)
noncomputable def t769 : BT AObj := .n t86 o95 t768
noncomputable def t770 : BT AObj := .n t769 o115 t710
noncomputable def t771 : BT AObj := .n t770 o154 t716
noncomputable def t772 : BT AObj := .n t767 o0 t771
noncomputable def h773 : Hp := Hp.lit t772 m730 88 11 (by kernel_rfl) [0]
noncomputable def t774 : BT AObj := .n t218 o38 t765
noncomputable def t775 : BT AObj := .n t774 o77 t705
noncomputable def t776 : BT AObj := .n t246 o93 (.n .e o91 .e)
noncomputable def t777 : BT AObj := .n t86 o95 t776
noncomputable def t778 : BT AObj := .n t777 o115 t710
noncomputable def t779 : BT AObj := .n t778 o154 t716
noncomputable def t780 : BT AObj := .n t775 o0 t779
noncomputable def h781 : Hp := Hp.lit t780 m730 88 11 (by kernel_rfl) [0]
noncomputable def t782 : BT AObj := .n t254 o34 (.n .e o32 .e)
noncomputable def t783 : BT AObj := .n t27 o36 t782
noncomputable def t784 : BT AObj := .n t19 o38 t783
noncomputable def t785 : BT AObj := .n t259 o54 (.n .e o52 .e)
noncomputable def t786 : BT AObj := .n t47 o56 t785
noncomputable def t787 : BT AObj := .n t786 o75 t704
noncomputable def t788 : BT AObj := .n t784 o77 t787
noncomputable def t789 : BT AObj := .n t265 o93 (.n .e o91 .e)
noncomputable def t790 : BT AObj := .n t86 o95 t789
noncomputable def t791 : BT AObj := .n t269 o111 (.n .e o109 .e)
noncomputable def t792 : BT AObj := .n t104 o113 t791
noncomputable def t793 : BT AObj := .n t790 o115 t792
noncomputable def t794 : BT AObj := .n t274 o131 (.n .e o129 .e)
noncomputable def t795 : BT AObj := .n t124 o133 t794
noncomputable def t796 : BT AObj := .n t278 o148 (.n .e o146 .e)
noncomputable def t797 : BT AObj := .n t142 o150 t796
noncomputable def t798 : BT AObj := .n t795 o152 t797
noncomputable def t799 : BT AObj := .n t793 o154 t798
noncomputable def t800 : BT AObj := .n t788 o0 t799
noncomputable def h801 : Hp := Hp.lit t800 m730 88 11 (by kernel_rfl) [0]
noncomputable def t802 : BT AObj := .n t180 o38 t783
noncomputable def t803 : BT AObj := .n t786 o75 t734
noncomputable def t804 : BT AObj := .n t802 o77 t803
noncomputable def t805 : BT AObj := .n t289 o93 (.n .e o91 .e)
noncomputable def t806 : BT AObj := .n t86 o95 t805
noncomputable def t807 : BT AObj := .n t806 o115 t792
noncomputable def t808 : BT AObj := .n t807 o154 t798
noncomputable def t809 : BT AObj := .n t804 o0 t808
noncomputable def h810 : Hp := Hp.lit t809 m730 88 11 (by kernel_rfl) [0]
noncomputable def t811 : BT AObj := .n t297 o71 (.n .e o69 .e)
noncomputable def t812 : BT AObj := .n t64 o73 t811
noncomputable def t813 : BT AObj := .n t786 o75 t812
noncomputable def t814 : BT AObj := .n t745 o77 t813
noncomputable def t815 : BT AObj := .n t303 o93 (.n .e o91 .e)
noncomputable def t816 : BT AObj := .n t86 o95 t815
noncomputable def t817 : BT AObj := .n t307 o111 (.n .e o109 .e)
noncomputable def t818 : BT AObj := .n t104 o113 t817
noncomputable def t819 : BT AObj := .n t816 o115 t818
noncomputable def t820 : BT AObj := .n t312 o148 (.n .e o146 .e)
noncomputable def t821 : BT AObj := .n t142 o150 t820
noncomputable def t822 : BT AObj := .n t795 o152 t821
noncomputable def t823 : BT AObj := .n t819 o154 t822
noncomputable def t824 : BT AObj := .n t814 o0 t823
noncomputable def h825 : Hp := Hp.lit t824 m730 88 11 (by kernel_rfl) [0]
noncomputable def t826 : BT AObj := .n t322 o38 t744
noncomputable def t827 : BT AObj := .n t826 o77 t803
noncomputable def t828 : BT AObj := .n t326 o93 (.n .e o91 .e)
noncomputable def t829 : BT AObj := .n t86 o95 t828
noncomputable def t830 : BT AObj := .n t829 o115 t818
noncomputable def t831 : BT AObj := .n t331 o148 (.n .e o146 .e)
noncomputable def t832 : BT AObj := .n t142 o150 t831
noncomputable def t833 : BT AObj := .n t795 o152 t832
noncomputable def t834 : BT AObj := .n t830 o154 t833
noncomputable def t835 : BT AObj := .n t827 o0 t834
noncomputable def h836 : Hp := Hp.lit t835 m730 88 11 (by kernel_rfl) [0]
noncomputable def t837 : BT AObj := .n t766 o77 t813
noncomputable def t838 : BT AObj := .n t340 o93 (.n .e o91 .e)
noncomputable def t839 : BT AObj := .n t86 o95 t838
noncomputable def t840 : BT AObj := .n t839 o115 t792
noncomputable def t841 : BT AObj := .n t840 o154 t798
noncomputable def t842 : BT AObj := .n t837 o0 t841
noncomputable def h843 : Hp := Hp.lit t842 m730 88 11 (by kernel_rfl) [0]
noncomputable def t844 : BT AObj := .n t322 o38 t765
noncomputable def t845 : BT AObj := .n t844 o77 t787
noncomputable def t846 : BT AObj := .n t350 o93 (.n .e o91 .e)
noncomputable def t847 : BT AObj := .n t86 o95 t846
noncomputable def t848 : BT AObj := .n t847 o115 t792
noncomputable def t849 : BT AObj := .n t848 o154 t798
noncomputable def t850 : BT AObj := .n t845 o0 t849
noncomputable def h851 : Hp := Hp.lit t850 m730 88 11 (by kernel_rfl) [0]
noncomputable def t852 : BT AObj := .n t358 o54 (.n .e o52 .e)
noncomputable def t853 : BT AObj := .n t47 o56 t852
noncomputable def t854 : BT AObj := .n t853 o75 t747
noncomputable def t855 : BT AObj := .n t784 o77 t854
noncomputable def t856 : BT AObj := .n t364 o93 (.n .e o91 .e)
noncomputable def t857 : BT AObj := .n t86 o95 t856
noncomputable def t858 : BT AObj := .n t857 o115 t710
noncomputable def t859 : BT AObj := .n t858 o154 t716
noncomputable def t860 : BT AObj := .n t855 o0 t859
noncomputable def h861 : Hp := Hp.lit t860 m730 88 11 (by kernel_rfl) [0]
noncomputable def t862 : BT AObj := .n t218 o38 t783
noncomputable def t863 : BT AObj := .n t853 o75 t734
noncomputable def t864 : BT AObj := .n t862 o77 t863
noncomputable def t865 : BT AObj := .n t375 o93 (.n .e o91 .e)
noncomputable def t866 : BT AObj := .n t86 o95 t865
noncomputable def t867 : BT AObj := .n t866 o115 t710
noncomputable def t868 : BT AObj := .n t867 o154 t716
noncomputable def t869 : BT AObj := .n t864 o0 t868
noncomputable def h870 : Hp := Hp.lit t869 m730 88 11 (by kernel_rfl) [0]
noncomputable def t871 : BT AObj := .n t853 o75 t812
noncomputable def t872 : BT AObj := .n t700 o77 t871
noncomputable def t873 : BT AObj := .n t385 o93 (.n .e o91 .e)
noncomputable def t874 : BT AObj := .n t86 o95 t873
noncomputable def t875 : BT AObj := .n t874 o115 t710
noncomputable def t876 : BT AObj := .n t390 o148 (.n .e o146 .e)
noncomputable def t877 : BT AObj := .n t142 o150 t876
noncomputable def t878 : BT AObj := .n t713 o152 t877
noncomputable def t879 : BT AObj := .n t875 o154 t878
noncomputable def t880 : BT AObj := .n t872 o0 t879
noncomputable def h881 : Hp := Hp.lit t880 m730 88 11 (by kernel_rfl) [0]
noncomputable def t882 : BT AObj := .n t322 o38 t699
noncomputable def t883 : BT AObj := .n t882 o77 t863
noncomputable def t884 : BT AObj := .n t400 o93 (.n .e o91 .e)
noncomputable def t885 : BT AObj := .n t86 o95 t884
noncomputable def t886 : BT AObj := .n t885 o115 t710
noncomputable def t887 : BT AObj := .n t886 o154 t716
noncomputable def t888 : BT AObj := .n t883 o0 t887
noncomputable def h889 : Hp := Hp.lit t888 m730 88 11 (by kernel_rfl) [0]
noncomputable def t890 : BT AObj := .n t774 o77 t871
noncomputable def t891 : BT AObj := .n t409 o93 (.n .e o91 .e)
noncomputable def t892 : BT AObj := .n t86 o95 t891
noncomputable def t893 : BT AObj := .n t892 o115 t710
noncomputable def t894 : BT AObj := .n t893 o154 t716
noncomputable def t895 : BT AObj := .n t890 o0 t894
noncomputable def h896 : Hp := Hp.lit t895 m730 88 11 (by kernel_rfl) [0]
noncomputable def t897 : BT AObj := .n t844 o77 t854
noncomputable def t898 : BT AObj := .n t418 o93 (.n .e o91 .e)
noncomputable def t899 : BT AObj := .n t86 o95 t898
noncomputable def t900 : BT AObj := .n t899 o115 t710
noncomputable def t901 : BT AObj := .n t900 o154 t716
noncomputable def t902 : BT AObj := .n t897 o0 t901
noncomputable def h903 : Hp := Hp.lit t902 m730 88 11 (by kernel_rfl) [0]
noncomputable def t904 : BT AObj := .n t426 o54 (.n .e o52 .e)
noncomputable def t905 : BT AObj := .n t47 o56 t904
noncomputable def t906 : BT AObj := .n t905 o75 t747
noncomputable def t907 : BT AObj := .n t802 o77 t906
noncomputable def t908 : BT AObj := .n t432 o93 (.n .e o91 .e)
noncomputable def t909 : BT AObj := .n t86 o95 t908
noncomputable def t910 : BT AObj := .n t909 o115 t710
noncomputable def t911 : BT AObj := .n t910 o154 t716
noncomputable def t912 : BT AObj := .n t907 o0 t911
noncomputable def h913 : Hp := Hp.lit t912 m730 88 11 (by kernel_rfl) [0]
noncomputable def t914 : BT AObj := .n t905 o75 t704
noncomputable def t915 : BT AObj := .n t862 o77 t914
noncomputable def t916 : BT AObj := .n t442 o93 (.n .e o91 .e)
noncomputable def t917 : BT AObj := .n t86 o95 t916
noncomputable def t918 : BT AObj := .n t917 o115 t710
noncomputable def t919 : BT AObj := .n t918 o154 t716
noncomputable def t920 : BT AObj := .n t915 o0 t919
noncomputable def h921 : Hp := Hp.lit t920 m730 88 11 (by kernel_rfl) [0]
noncomputable def t922 : BT AObj := .n t905 o75 t812
noncomputable def t923 : BT AObj := .n t732 o77 t922
noncomputable def t924 : BT AObj := .n t452 o93 (.n .e o91 .e)
noncomputable def t925 : BT AObj := .n t86 o95 t924
noncomputable def t926 : BT AObj := .n t925 o115 t710
noncomputable def t927 : BT AObj := .n t926 o154 t716
noncomputable def t928 : BT AObj := .n t923 o0 t927
noncomputable def h929 : Hp := Hp.lit t928 m730 88 11 (by kernel_rfl) [0]
noncomputable def t930 : BT AObj := .n t882 o77 t914
noncomputable def t931 : BT AObj := .n t461 o93 (.n .e o91 .e)
noncomputable def t932 : BT AObj := .n t86 o95 t931
noncomputable def t933 : BT AObj := .n t932 o115 t710
noncomputable def t934 : BT AObj := .n t933 o154 t716
noncomputable def t935 : BT AObj := .n t930 o0 t934
noncomputable def h936 : Hp := Hp.lit t935 m730 88 11 (by kernel_rfl) [0]
noncomputable def t937 : BT AObj := .n t756 o77 t922
noncomputable def t938 : BT AObj := .n t470 o93 (.n .e o91 .e)
noncomputable def t939 : BT AObj := .n t86 o95 t938
noncomputable def t940 : BT AObj := .n t939 o115 t710
noncomputable def t941 : BT AObj := .n t940 o154 t716
noncomputable def t942 : BT AObj := .n t937 o0 t941
noncomputable def h943 : Hp := Hp.lit t942 m730 88 11 (by kernel_rfl) [0]
noncomputable def t944 : BT AObj := .n t826 o77 t906
noncomputable def t945 : BT AObj := .n t479 o93 (.n .e o91 .e)
noncomputable def t946 : BT AObj := .n t86 o95 t945
noncomputable def t947 : BT AObj := .n t946 o115 t710
noncomputable def t948 : BT AObj := .n t947 o154 t716
noncomputable def t949 : BT AObj := .n t944 o0 t948
noncomputable def h950 : Hp := Hp.lit t949 m730 88 11 (by kernel_rfl) [0]
noncomputable def l951 : List AV := [(xA (ai [3] ++ [(xJ 2)] ++ ai [3] ++ [xF] ++ ai [0] ++ au [4] ++ ai [0]))]
noncomputable def B19 : Code := Tryd.f19.body.getD .skip
noncomputable def l952 : List AV := [(xA (ai [3] ++ [(xJ 2)] ++ ai [3] ++ [xF] ++ ai [0] ++ au [4] ++ ai [0]))] ++ us 63
noncomputable def s953 : St := { tmps := l952, h := h694, pc := ([]), marks := [], pan := none }
noncomputable def l954 : List AV := [(xA (ai [3] ++ [(xJ 2)] ++ ai [3] ++ [xF] ++ ai [0] ++ au [4] ++ ai [0])), (xP 62 0), (xS [])] ++ ai [0] ++ us 60
noncomputable def t955 : BT AObj := .n (.n .e o144 .e) o148 (.n .e o146 .e)
noncomputable def t956 : BT AObj := .n t640 o150 t955
noncomputable def t957 : BT AObj := .n t682 o152 t956
noncomputable def t958 : BT AObj := .n t680 o154 t957
noncomputable def t959 : BT AObj := .n t675 o0 t958
noncomputable def m960 : BT (List Nat) := .n m690 [] m687
noncomputable def m961 : BT (List Nat) := .n m688 [] m960
noncomputable def h962 : Hp := Hp.lit t959 m961 63 4 (by kernel_rfl) [0]
noncomputable def s963 : St := { tmps := l954, h := h962, pc := ([]), marks := [], pan := none }
set_option maxRecDepth 100000 in
theorem g18 : runCode Tryd.prog true (runCall Tryd.prog true none 300 57) none 299 none (sub B19 [false]) s953 = some [(.normal, s963)] := by kernel_rfl
noncomputable def l964 : List AV := [(xA (ai [3] ++ [(xJ 2)] ++ ai [3] ++ [xF] ++ ai [0] ++ au [4] ++ ai [0])), (xP 62 0), (xS [])] ++ ai [0] ++ us 1 ++ [(xA (ai [3] ++ [(xJ 2)] ++ ai [3] ++ [xF] ++ ai [0] ++ au [4] ++ ai [0])), xT, xF] ++ us 56
noncomputable def t965 : BT AObj := .n t5 o9 (.n .e o7 .e)
noncomputable def t966 : BT AObj := .n t965 o18 t665
noncomputable def t967 : BT AObj := .n t966 o38 t668
noncomputable def t968 : BT AObj := .n t967 o77 t674
noncomputable def t969 : BT AObj := .n t81 o85 (.n .e o83 .e)
noncomputable def t970 : BT AObj := .n t969 o95 t676
noncomputable def t971 : BT AObj := .n t970 o115 t679
noncomputable def t972 : BT AObj := .n t971 o154 t957
noncomputable def t973 : BT AObj := .n t968 o0 t972
noncomputable def m974 : BT (List Nat) := .n m582 [] m686
noncomputable def m975 : BT (List Nat) := .n m974 [] m687
noncomputable def m976 : BT (List Nat) := .n m582 [] m689
noncomputable def m977 : BT (List Nat) := .n m976 [] m687
noncomputable def m978 : BT (List Nat) := .n m975 [] m977
noncomputable def h979 : Hp := Hp.lit t973 m978 65 4 (by kernel_rfl) [0]
noncomputable def s980 : St := { tmps := l964, h := h979, pc := ([]), marks := [], pan := none }
set_option maxRecDepth 100000 in
theorem g19 : runCode Tryd.prog true (runCall Tryd.prog true none 300 57) none 298 none (sub B19 [true, false]) s963 = some [(.normal, s980)] := by kernel_rfl
noncomputable def l981 : List AV := [(xA (ai [3] ++ [(xJ 2)] ++ ai [3] ++ [xF] ++ ai [0] ++ au [4] ++ ai [0])), (xP 62 0), (xS [])] ++ ai [0] ++ [(xL 66 0 2 2), (xA (ai [3] ++ [(xJ 2)] ++ ai [3] ++ [xF] ++ ai [0] ++ au [4] ++ ai [0])), xT, xF, (xP 62 1), (xJ 2), (xS [45, 51]), (xL 66 0 2 2)] ++ us 52
noncomputable def t982 : BT AObj := .n t42 o46 (.n .e o44 .e)
noncomputable def t983 : BT AObj := .n t982 o56 t670
noncomputable def t984 : BT AObj := .n t983 o75 t673
noncomputable def t985 : BT AObj := .n t967 o77 t984
noncomputable def t986 : BT AObj := .n t119 o123 (.n .e o121 .e)
noncomputable def t987 : BT AObj := .n t986 o133 t681
noncomputable def t988 : BT AObj := .n t987 o152 t956
noncomputable def t989 : BT AObj := .n t971 o154 t988
noncomputable def t990 : BT AObj := .n t985 o0 t989
noncomputable def m991 : BT (List Nat) := .n m974 [] m974
noncomputable def m992 : BT (List Nat) := .n m976 [] m974
noncomputable def m993 : BT (List Nat) := .n m991 [] m992
noncomputable def h994 : Hp := Hp.lit t990 m993 67 4 (by kernel_rfl) [0]
noncomputable def s995 : St := { tmps := l981, h := h994, pc := ([]), marks := [], pan := none }
set_option maxRecDepth 100000 in
theorem g20 : runCode Tryd.prog true (runCall Tryd.prog true none 300 57) none 297 none (sub B19 [true, true, false]) s980 = some [(.normal, s995)] := by kernel_rfl
noncomputable def l996 : List AV := [(xA (ai [3] ++ [(xJ 2)] ++ ai [3] ++ [xF] ++ ai [0] ++ au [4] ++ ai [0])), (xP 62 0), (xS [])] ++ ai [0] ++ [(xL 66 0 2 2), (xA (ai [3] ++ [(xJ 2)] ++ ai [3] ++ [xF] ++ ai [0] ++ au [4] ++ ai [0])), xT, xF, (xP 62 1), (xJ 2), (xS [45, 51]), (xL 66 0 2 2), (xP 62 0)] ++ ai [3] ++ us 50
noncomputable def s997 : St := { tmps := l996, h := h994, pc := ([]), marks := [], pan := none }
set_option maxRecDepth 100000 in
theorem g21 : runCode Tryd.prog true (runCall Tryd.prog true none 300 57) none 295 none (sub B19 [true, true, true, false, false]) s995 = some [(.normal, s997)] := by kernel_rfl
noncomputable def l998 : List AV := [(xA (ai [3] ++ [(xJ 2)] ++ ai [3] ++ [xF] ++ ai [0] ++ au [4] ++ ai [0])), (xP 62 0), (xS [])] ++ ai [0] ++ [(xL 66 0 2 2), (xA (ai [3] ++ [(xJ 2)] ++ ai [3] ++ [xF] ++ ai [0] ++ au [4] ++ ai [0])), xT, xF, (xP 62 1), (xJ 2), (xS [45, 51]), (xL 66 0 2 2), (xP 62 0)] ++ ai [3] ++ [xF, xF] ++ us 48
noncomputable def s999 : St := { tmps := l998, h := h994, pc := ([]), marks := [], pan := none }
set_option maxRecDepth 100000 in
theorem g22 : runCode Tryd.prog true (runCall Tryd.prog true none 300 57) none 293 none (sub B19 [true, true, true, false, true, false, false]) s997 = some [(.normal, s999)] := by kernel_rfl
noncomputable def l1000 : List AV := [(xA (ai [3] ++ [(xJ 2)] ++ ai [3] ++ [xF] ++ ai [0] ++ au [4] ++ ai [0])), (xP 62 0), (xS [])] ++ ai [0] ++ [(xL 66 0 2 2), (xA (ai [3] ++ [(xJ 2)] ++ ai [3] ++ [xF] ++ ai [0] ++ au [4] ++ ai [0])), xT, xF, (xP 62 1), (xJ 2), (xS [45, 51]), (xL 66 0 2 2), (xP 62 0)] ++ ai [3] ++ [xF, xF] ++ us 2 ++ [xT, xT] ++ us 44
noncomputable def s1001 : St := { tmps := l1000, h := h994, pc := ([]), marks := [], pan := none }
set_option maxRecDepth 100000 in
theorem g23 : runCode Tryd.prog true (runCall Tryd.prog true none 300 57) none 291 none (sub B19 [true, true, true, false, true, false, true, true, false]) s999 = some [(.normal, s1001)] := by kernel_rfl
noncomputable def l1002 : List AV := [(xA (ai [3] ++ [(xJ 2)] ++ ai [3] ++ [xF] ++ ai [0] ++ au [4] ++ ai [0])), (xP 62 0), (xS [])] ++ ai [0] ++ [(xL 81 0 3 3), (xA (ai [3] ++ [(xJ 2)] ++ ai [3] ++ [xF] ++ ai [0] ++ au [4] ++ ai [0])), xT, xF, (xP 62 1), (xJ 2), (xS [45, 51]), (xL 66 0 2 2), (xP 62 0)] ++ ai [3] ++ [xF, xF] ++ us 2 ++ [xT, xT, (xP 62 2)] ++ ai [3] ++ [(xS [51]), (.map 67), (xP 62 1), (xJ 2), (xS [115, 101, 115, 115, 105, 111, 110]), (xL 81 0 3 3)] ++ us 36
noncomputable def t1003 : BT AObj := .n t13 o16 (.n .e o14 .e)
noncomputable def t1004 : BT AObj := .n t10 o18 t1003
noncomputable def t1005 : BT AObj := .n t22 o26 (.n .e o24 .e)
noncomputable def t1006 : BT AObj := .n t1005 o36 t698
noncomputable def t1007 : BT AObj := .n t1004 o38 t1006
noncomputable def t1008 : BT AObj := .n t60 ((oC [] 32 21)) (.n .e o62 .e)
noncomputable def t1009 : BT AObj := .n t1008 o73 t703
noncomputable def t1010 : BT AObj := .n t702 o75 t1009
noncomputable def t1011 : BT AObj := .n t1007 o77 t1010
noncomputable def t1012 : BT AObj := .n t99 o103 (.n .e o101 .e)
noncomputable def t1013 : BT AObj := .n t1012 o113 t709
noncomputable def t1014 : BT AObj := .n t708 o115 t1013
noncomputable def t1015 : BT AObj := .n t986 o133 t712
noncomputable def t1016 : BT AObj := .n t137 o141 (.n .e o139 .e)
noncomputable def t1017 : BT AObj := .n t1016 o150 t714
noncomputable def t1018 : BT AObj := .n t1015 o152 t1017
noncomputable def t1019 : BT AObj := .n t1014 o154 t1018
noncomputable def t1020 : BT AObj := .n t1011 o0 t1019
noncomputable def m1021 : BT (List Nat) := .n m721 [] m513
noncomputable def m1022 : BT (List Nat) := .n m1021 [] m1021
noncomputable def m1023 : BT (List Nat) := .n m166 [] (.n .e [] .e)
noncomputable def m1024 : BT (List Nat) := .n m1023 [] m512
noncomputable def m1025 : BT (List Nat) := .n m721 [] m1024
noncomputable def m1026 : BT (List Nat) := .n m512 [] m726
noncomputable def m1027 : BT (List Nat) := .n m1026 [] m513
noncomputable def m1028 : BT (List Nat) := .n m1025 [] m1027
noncomputable def m1029 : BT (List Nat) := .n m1022 [] m1028
noncomputable def h1030 : Hp := Hp.lit t1020 m1029 82 8 (by kernel_rfl) [0]
noncomputable def s1031 : St := { tmps := l1002, h := h1030, pc := ([]), marks := [], pan := none }
noncomputable def t1032 : BT AObj := .n t179 o18 t1003
noncomputable def t1033 : BT AObj := .n t1032 o38 t1006
noncomputable def t1034 : BT AObj := .n t1008 o73 t733
noncomputable def t1035 : BT AObj := .n t702 o75 t1034
noncomputable def t1036 : BT AObj := .n t1033 o77 t1035
noncomputable def t1037 : BT AObj := .n t738 o115 t1013
noncomputable def t1038 : BT AObj := .n t1037 o154 t1018
noncomputable def t1039 : BT AObj := .n t1036 o0 t1038
noncomputable def h1040 : Hp := Hp.lit t1039 m1029 82 8 (by kernel_rfl) [0]
noncomputable def s1041 : St := { tmps := l1002, h := h1040, pc := ([]), marks := [], pan := none }
noncomputable def t1042 : BT AObj := .n t1005 o36 t743
noncomputable def t1043 : BT AObj := .n t1004 o38 t1042
noncomputable def t1044 : BT AObj := .n t1008 o73 t746
noncomputable def t1045 : BT AObj := .n t702 o75 t1044
noncomputable def t1046 : BT AObj := .n t1043 o77 t1045
noncomputable def t1047 : BT AObj := .n t751 o115 t1013
noncomputable def t1048 : BT AObj := .n t1047 o154 t1018
noncomputable def t1049 : BT AObj := .n t1046 o0 t1048
noncomputable def h1050 : Hp := Hp.lit t1049 m1029 82 8 (by kernel_rfl) [0]
noncomputable def s1051 : St := { tmps := l1002, h := h1050, pc := ([]), marks := [], pan := none }
noncomputable def t1052 : BT AObj := .n t217 o18 t1003
noncomputable def t1053 : BT AObj := .n t1052 o38 t1042
noncomputable def t1054 : BT AObj := .n t1053 o77 t1035
noncomputable def t1055 : BT AObj := .n t759 o115 t1013
noncomputable def t1056 : BT AObj := .n t1055 o154 t1018
noncomputable def t1057 : BT AObj := .n t1054 o0 t1056
noncomputable def h1058 : Hp := Hp.lit t1057 m1029 82 8 (by kernel_rfl) [0]
noncomputable def s1059 : St := { tmps := l1002, h := h1058, pc := ([]), marks := [], pan := none }
noncomputable def t1060 : BT AObj := .n t1005 o36 t764
noncomputable def t1061 : BT AObj := .n t1032 o38 t1060
noncomputable def t1062 : BT AObj := .n t1061 o77 t1045
noncomputable def t1063 : BT AObj := .n t769 o115 t1013
noncomputable def t1064 : BT AObj := .n t1063 o154 t1018
noncomputable def t1065 : BT AObj := .n t1062 o0 t1064
noncomputable def h1066 : Hp := Hp.lit t1065 m1029 82 8 (by kernel_rfl) [0]
noncomputable def s1067 : St := { tmps := l1002, h := h1066, pc := ([]), marks := [], pan := none }
noncomputable def t1068 : BT AObj := .n t1052 o38 t1060
noncomputable def t1069 : BT AObj := .n t1068 o77 t1010
noncomputable def t1070 : BT AObj := .n t777 o115 t1013
noncomputable def t1071 : BT AObj := .n t1070 o154 t1018
noncomputable def t1072 : BT AObj := .n t1069 o0 t1071
noncomputable def h1073 : Hp := Hp.lit t1072 m1029 82 8 (by kernel_rfl) [0]
noncomputable def s1074 : St := { tmps := l1002, h := h1073, pc := ([]), marks := [], pan := none }
noncomputable def t1075 : BT AObj := .n t1005 o36 t782
noncomputable def t1076 : BT AObj := .n t1004 o38 t1075
noncomputable def t1077 : BT AObj := .n t786 o75 t1009
noncomputable def t1078 : BT AObj := .n t1076 o77 t1077
noncomputable def t1079 : BT AObj := .n t1012 o113 t791
noncomputable def t1080 : BT AObj := .n t790 o115 t1079
noncomputable def t1081 : BT AObj := .n t986 o133 t794
noncomputable def t1082 : BT AObj := .n t1016 o150 t796
noncomputable def t1083 : BT AObj := .n t1081 o152 t1082
noncomputable def t1084 : BT AObj := .n t1080 o154 t1083
noncomputable def t1085 : BT AObj := .n t1078 o0 t1084
noncomputable def h1086 : Hp := Hp.lit t1085 m1029 82 8 (by kernel_rfl) [0]
noncomputable def s1087 : St := { tmps := l1002, h := h1086, pc := ([]), marks := [], pan := none }
noncomputable def t1088 : BT AObj := .n t1032 o38 t1075
noncomputable def t1089 : BT AObj := .n t786 o75 t1034
noncomputable def t1090 : BT AObj := .n t1088 o77 t1089
noncomputable def t1091 : BT AObj := .n t806 o115 t1079
noncomputable def t1092 : BT AObj := .n t1091 o154 t1083
noncomputable def t1093 : BT AObj := .n t1090 o0 t1092
noncomputable def h1094 : Hp := Hp.lit t1093 m1029 82 8 (by kernel_rfl) [0]
noncomputable def s1095 : St := { tmps := l1002, h := h1094, pc := ([]), marks := [], pan := none }
noncomputable def t1096 : BT AObj := .n t1008 o73 t811
noncomputable def t1097 : BT AObj := .n t786 o75 t1096
noncomputable def t1098 : BT AObj := .n t1043 o77 t1097
noncomputable def t1099 : BT AObj := .n t1012 o113 t817
noncomputable def t1100 : BT AObj := .n t816 o115 t1099
noncomputable def t1101 : BT AObj := .n t1016 o150 t820
noncomputable def t1102 : BT AObj := .n t1081 o152 t1101
noncomputable def t1103 : BT AObj := .n t1100 o154 t1102
noncomputable def t1104 : BT AObj := .n t1098 o0 t1103
noncomputable def h1105 : Hp := Hp.lit t1104 m1029 82 8 (by kernel_rfl) [0]
noncomputable def s1106 : St := { tmps := l1002, h := h1105, pc := ([]), marks := [], pan := none }
noncomputable def t1107 : BT AObj := .n t321 o18 t1003
noncomputable def t1108 : BT AObj := .n t1107 o38 t1042
noncomputable def t1109 : BT AObj := .n t1108 o77 t1089
noncomputable def t1110 : BT AObj := .n t829 o115 t1099
noncomputable def t1111 : BT AObj := .n t1016 o150 t831
noncomputable def t1112 : BT AObj := .n t1081 o152 t1111
noncomputable def t1113 : BT AObj := .n t1110 o154 t1112
noncomputable def t1114 : BT AObj := .n t1109 o0 t1113
noncomputable def h1115 : Hp := Hp.lit t1114 m1029 82 8 (by kernel_rfl) [0]
noncomputable def s1116 : St := { tmps := l1002, h := h1115, pc := ([]), marks := [], pan := none }
noncomputable def t1117 : BT AObj := .n t1061 o77 t1097
noncomputable def t1118 : BT AObj := .n t839 o115 t1079
noncomputable def t1119 : BT AObj := .n t1118 o154 t1083
noncomputable def t1120 : BT AObj := .n t1117 o0 t1119
noncomputable def h1121 : Hp := Hp.lit t1120 m1029 82 8 (by kernel_rfl) [0]
noncomputable def s1122 : St := { tmps := l1002, h := h1121, pc := ([]), marks := [], pan := none }
noncomputable def t1123 : BT AObj := .n t1107 o38 t1060
noncomputable def t1124 : BT AObj := .n t1123 o77 t1077
noncomputable def t1125 : BT AObj := .n t847 o115 t1079
noncomputable def t1126 : BT AObj := .n t1125 o154 t1083
noncomputable def t1127 : BT AObj := .n t1124 o0 t1126
noncomputable def h1128 : Hp := Hp.lit t1127 m1029 82 8 (by kernel_rfl) [0]
noncomputable def s1129 : St := { tmps := l1002, h := h1128, pc := ([]), marks := [], pan := none }
noncomputable def t1130 : BT AObj := .n t853 o75 t1044
noncomputable def t1131 : BT AObj := .n t1076 o77 t1130
noncomputable def t1132 : BT AObj := .n t857 o115 t1013
noncomputable def t1133 : BT AObj := .n t1132 o154 t1018
noncomputable def t1134 : BT AObj := .n t1131 o0 t1133
noncomputable def h1135 : Hp := Hp.lit t1134 m1029 82 8 (by kernel_rfl) [0]
noncomputable def s1136 : St := { tmps := l1002, h := h1135, pc := ([]), marks := [], pan := none }
noncomputable def t1137 : BT AObj := .n t1052 o38 t1075
noncomputable def t1138 : BT AObj := .n t853 o75 t1034
noncomputable def t1139 : BT AObj := .n t1137 o77 t1138
noncomputable def t1140 : BT AObj := .n t866 o115 t1013
noncomputable def t1141 : BT AObj := .n t1140 o154 t1018
noncomputable def t1142 : BT AObj := .n t1139 o0 t1141
noncomputable def h1143 : Hp := Hp.lit t1142 m1029 82 8 (by kernel_rfl) [0]
noncomputable def s1144 : St := { tmps := l1002, h := h1143, pc := ([]), marks := [], pan := none }
noncomputable def t1145 : BT AObj := .n t853 o75 t1096
noncomputable def t1146 : BT AObj := .n t1007 o77 t1145
noncomputable def t1147 : BT AObj := .n t874 o115 t1013
noncomputable def t1148 : BT AObj := .n t1016 o150 t876
noncomputable def t1149 : BT AObj := .n t1015 o152 t1148
noncomputable def t1150 : BT AObj := .n t1147 o154 t1149
noncomputable def t1151 : BT AObj := .n t1146 o0 t1150
noncomputable def h1152 : Hp := Hp.lit t1151 m1029 82 8 (by kernel_rfl) [0]
noncomputable def s1153 : St := { tmps := l1002, h := h1152, pc := ([]), marks := [], pan := none }
noncomputable def t1154 : BT AObj := .n t1107 o38 t1006
noncomputable def t1155 : BT AObj := .n t1154 o77 t1138
noncomputable def t1156 : BT AObj := .n t885 o115 t1013
noncomputable def t1157 : BT AObj := .n t1156 o154 t1018
noncomputable def t1158 : BT AObj := .n t1155 o0 t1157
noncomputable def h1159 : Hp := Hp.lit t1158 m1029 82 8 (by kernel_rfl) [0]
noncomputable def s1160 : St := { tmps := l1002, h := h1159, pc := ([]), marks := [], pan := none }
noncomputable def t1161 : BT AObj := .n t1068 o77 t1145
noncomputable def t1162 : BT AObj := .n t892 o115 t1013
noncomputable def t1163 : BT AObj := .n t1162 o154 t1018
noncomputable def t1164 : BT AObj := .n t1161 o0 t1163
noncomputable def h1165 : Hp := Hp.lit t1164 m1029 82 8 (by kernel_rfl) [0]
noncomputable def s1166 : St := { tmps := l1002, h := h1165, pc := ([]), marks := [], pan := none }
noncomputable def t1167 : BT AObj := .n t1123 o77 t1130
noncomputable def t1168 : BT AObj := .n t899 o115 t1013
noncomputable def t1169 : BT AObj := .n t1168 o154 t1018
noncomputable def t1170 : BT AObj := .n t1167 o0 t1169
noncomputable def h1171 : Hp := Hp.lit t1170 m1029 82 8 (by kernel_rfl) [0]
noncomputable def s1172 : St := { tmps := l1002, h := h1171, pc := ([]), marks := [], pan := none }
noncomputable def t1173 : BT AObj := .n t905 o75 t1044
noncomputable def t1174 : BT AObj := .n t1088 o77 t1173
noncomputable def t1175 : BT AObj := .n t909 o115 t1013
noncomputable def t1176 : BT AObj := .n t1175 o154 t1018
noncomputable def t1177 : BT AObj := .n t1174 o0 t1176
noncomputable def h1178 : Hp := Hp.lit t1177 m1029 82 8 (by kernel_rfl) [0]
noncomputable def s1179 : St := { tmps := l1002, h := h1178, pc := ([]), marks := [], pan := none }
noncomputable def t1180 : BT AObj := .n t905 o75 t1009
noncomputable def t1181 : BT AObj := .n t1137 o77 t1180
noncomputable def t1182 : BT AObj := .n t917 o115 t1013
noncomputable def t1183 : BT AObj := .n t1182 o154 t1018
noncomputable def t1184 : BT AObj := .n t1181 o0 t1183
noncomputable def h1185 : Hp := Hp.lit t1184 m1029 82 8 (by kernel_rfl) [0]
noncomputable def s1186 : St := { tmps := l1002, h := h1185, pc := ([]), marks := [], pan := none }
noncomputable def t1187 : BT AObj := .n t905 o75 t1096
noncomputable def t1188 : BT AObj := .n t1033 o77 t1187
noncomputable def t1189 : BT AObj := .n t925 o115 t1013
noncomputable def t1190 : BT AObj := .n t1189 o154 t1018
noncomputable def t1191 : BT AObj := .n t1188 o0 t1190
noncomputable def h1192 : Hp := Hp.lit t1191 m1029 82 8 (by kernel_rfl) [0]
noncomputable def s1193 : St := { tmps := l1002, h := h1192, pc := ([]), marks := [], pan := none }
noncomputable def t1194 : BT AObj := .n t1154 o77 t1180
noncomputable def t1195 : BT AObj := .n t932 o115 t1013
noncomputable def t1196 : BT AObj := .n t1195 o154 t1018
noncomputable def t1197 : BT AObj := .n t1194 o0 t1196
noncomputable def h1198 : Hp := Hp.lit t1197 m1029 82 8 (by kernel_rfl) [0]
noncomputable def s1199 : St := { tmps := l1002, h := h1198, pc := ([]), marks := [], pan := none }
noncomputable def t1200 : BT AObj := .n t1053 o77 t1187
noncomputable def t1201 : BT AObj := .n t939 o115 t1013
noncomputable def t1202 : BT AObj := .n t1201 o154 t1018
noncomputable def t1203 : BT AObj := .n t1200 o0 t1202
noncomputable def h1204 : Hp := Hp.lit t1203 m1029 82 8 (by kernel_rfl) [0]
noncomputable def s1205 : St := { tmps := l1002, h := h1204, pc := ([]), marks := [], pan := none }
noncomputable def t1206 : BT AObj := .n t1108 o77 t1173
noncomputable def t1207 : BT AObj := .n t946 o115 t1013
noncomputable def t1208 : BT AObj := .n t1207 o154 t1018
noncomputable def t1209 : BT AObj := .n t1206 o0 t1208
noncomputable def h1210 : Hp := Hp.lit t1209 m1029 82 8 (by kernel_rfl) [0]
noncomputable def s1211 : St := { tmps := l1002, h := h1210, pc := ([]), marks := [], pan := none }
set_option maxRecDepth 100000 in
theorem g24 : runCode Tryd.prog true (runCall Tryd.prog true none 300 57) none 290 none (sub B19 [true, true, true, false, true, false, true, true, true, false]) s1001 = some [(.normal, s1031), (.normal, s1041), (.normal, s1051), (.normal, s1059), (.normal, s1067), (.normal, s1074), (.normal, s1087), (.normal, s1095), (.normal, s1106), (.normal, s1116), (.normal, s1122), (.normal, s1129), (.normal, s1136), (.normal, s1144), (.normal, s1153), (.normal, s1160), (.normal, s1166), (.normal, s1172), (.normal, s1179), (.normal, s1186), (.normal, s1193), (.normal, s1199), (.normal, s1205), (.normal, s1211)] := by kernel_rfl
set_option maxRecDepth 100000 in
theorem g25 : runCode Tryd.prog true (runCall Tryd.prog true none 300 57) none 291 none (sub B19 [true, true, true, false, true, false, true, true, true]) s1001 = some [(.normal, s1031), (.normal, s1041), (.normal, s1051), (.normal, s1059), (.normal, s1067), (.normal, s1074), (.normal, s1087), (.normal, s1095), (.normal, s1106), (.normal, s1116), (.normal, s1122), (.normal, s1129), (.normal, s1136), (.normal, s1144), (.normal, s1153), (.normal, s1160), (.normal, s1166), (.normal, s1172), (.normal, s1179), (.normal, s1186), (.normal, s1193), (.normal, s1199), (.normal, s1205), (.normal, s1211)] := cut_yes (t := (.tmp 18)) (x := (sub B19 [true, true, true, false, true, false, true, true, true, false])) (y := (sub B19 [true, true, true, false, true, false, true, true, true, true])) (n := 290) (by kernel_rfl) (by kernel_rfl) g24
set_option maxRecDepth 100000 in
theorem g26 : runCode Tryd.prog true (runCall Tryd.prog true none 300 57) none 292 none (sub B19 [true, true, true, false, true, false, true, true]) s999 = some [(.normal, s1031), (.normal, s1041), (.normal, s1051), (.normal, s1059), (.normal, s1067), (.normal, s1074), (.normal, s1087), (.normal, s1095), (.normal, s1106), (.normal, s1116), (.normal, s1122), (.normal, s1129), (.normal, s1136), (.normal, s1144), (.normal, s1153), (.normal, s1160), (.normal, s1166), (.normal, s1172), (.normal, s1179), (.normal, s1186), (.normal, s1193), (.normal, s1199), (.normal, s1205), (.normal, s1211)] := cut_seqs (x := (sub B19 [true, true, true, false, true, false, true, true, false])) (y := (sub B19 [true, true, true, false, true, false, true, true, true])) (n := 291) (by kernel_rfl) g23 (then_go g25 then_nil)
set_option maxRecDepth 100000 in
theorem g27 : runCode Tryd.prog true (runCall Tryd.prog true none 300 57) none 293 none (sub B19 [true, true, true, false, true, false, true]) s999 = some [(.normal, s1031), (.normal, s1041), (.normal, s1051), (.normal, s1059), (.normal, s1067), (.normal, s1074), (.normal, s1087), (.normal, s1095), (.normal, s1106), (.normal, s1116), (.normal, s1122), (.normal, s1129), (.normal, s1136), (.normal, s1144), (.normal, s1153), (.normal, s1160), (.normal, s1166), (.normal, s1172), (.normal, s1179), (.normal, s1186), (.normal, s1193), (.normal, s1199), (.normal, s1205), (.normal, s1211)] := cut_no (t := (.tmp 14)) (x := (sub B19 [true, true, true, false, true, false, true, false])) (y := (sub B19 [true, true, true, false, true, false, true, true])) (n := 292) (by kernel_rfl) (by kernel_rfl) g26
set_option maxRecDepth 100000 in
theorem g28 : runCode Tryd.prog true (runCall Tryd.prog true none 300 57) none 294 none (sub B19 [true, true, true, false, true, false]) s997 = some [(.normal, s1031), (.normal, s1041), (.normal, s1051), (.normal, s1059), (.normal, s1067), (.normal, s1074), (.normal, s1087), (.normal, s1095), (.normal, s1106), (.normal, s1116), (.normal, s1122), (.normal, s1129), (.normal, s1136), (.normal, s1144), (.normal, s1153), (.normal, s1160), (.normal, s1166), (.normal, s1172), (.normal, s1179), (.normal, s1186), (.normal, s1193), (.normal, s1199), (.normal, s1205), (.normal, s1211)] := cut_seqs (x := (sub B19 [true, true, true, false, true, false, false])) (y := (sub B19 [true, true, true, false, true, false, true])) (n := 293) (by kernel_rfl) g22 (then_go g27 then_nil)
set_option maxRecDepth 100000 in
theorem g29 : runCode Tryd.prog true (runCall Tryd.prog true none 300 57) none 295 none (sub B19 [true, true, true, false, true]) s997 = some [(.normal, s1031), (.normal, s1041), (.normal, s1051), (.normal, s1059), (.normal, s1067), (.normal, s1074), (.normal, s1087), (.normal, s1095), (.normal, s1106), (.normal, s1116), (.normal, s1122), (.normal, s1129), (.normal, s1136), (.normal, s1144), (.normal, s1153), (.normal, s1160), (.normal, s1166), (.normal, s1172), (.normal, s1179), (.normal, s1186), (.normal, s1193), (.normal, s1199), (.normal, s1205), (.normal, s1211)] := cut_block (id := 0) (x := (sub B19 [true, true, true, false, true, false])) (n := 294) (by kernel_rfl) g28
set_option maxRecDepth 100000 in
theorem g30 : runCode Tryd.prog true (runCall Tryd.prog true none 300 57) none 296 none (sub B19 [true, true, true, false]) s995 = some [(.normal, s1031), (.normal, s1041), (.normal, s1051), (.normal, s1059), (.normal, s1067), (.normal, s1074), (.normal, s1087), (.normal, s1095), (.normal, s1106), (.normal, s1116), (.normal, s1122), (.normal, s1129), (.normal, s1136), (.normal, s1144), (.normal, s1153), (.normal, s1160), (.normal, s1166), (.normal, s1172), (.normal, s1179), (.normal, s1186), (.normal, s1193), (.normal, s1199), (.normal, s1205), (.normal, s1211)] := cut_seqs (x := (sub B19 [true, true, true, false, false])) (y := (sub B19 [true, true, true, false, true])) (n := 295) (by kernel_rfl) g21 (then_go g29 then_nil)
noncomputable def l1212 : List AV := [(xA (ai [3] ++ [(xJ 2)] ++ ai [3] ++ [xF] ++ ai [0] ++ au [4] ++ ai [0])), (xP 62 0), (xS [99, 101, 108, 108, 32, 51, 32, 115, 101, 115, 115, 105, 111, 110, 32, 110, 111, 110, 101, 32, 52])] ++ ai [0] ++ [(xV 85 0 5 9 0), (xA (ai [3] ++ [(xJ 2)] ++ ai [3] ++ [xF] ++ ai [0] ++ au [4] ++ ai [0])), xT, xF, (xP 62 1), (xJ 2), (xS [45, 51]), (xL 66 0 2 2), (xP 62 0)] ++ ai [3] ++ [xF, xF] ++ us 2 ++ [xT, xT, (xP 62 2)] ++ ai [3] ++ [(xS [51]), (.map 67), (xP 62 1), (xJ 2), (xS [115, 101, 115, 115, 105, 111, 110]), (xL 81 0 3 3), (xP 62 3), xF, xT, (xL 81 0 3 3), (xL 82 0 1 1), (xV 83 0 4 8 0)] ++ us 19 ++ [(xP 62 5)] ++ au [4] ++ [xT, (xV 83 0 4 8 0), (xP 62 5)] ++ au [4] ++ [(xS [52]), (xL 84 0 1 1), (xV 85 0 5 9 0), (xV 85 0 5 9 0), (xS [99, 101, 108, 108, 32, 51, 32, 115, 101, 115, 115, 105, 111, 110, 32, 110, 111, 110, 101, 32, 52])]
noncomputable def s1213 : St := { tmps := l1212, h := h731, pc := ([]), marks := [], pan := none }
set_option maxRecDepth 100000 in
theorem g31 : runCode Tryd.prog true (runCall Tryd.prog true none 300 57) none 296 none (sub B19 [true, true, true, true]) s1031 = some [(.ret, s1213)] := by kernel_rfl
noncomputable def s1214 : St := { tmps := l1212, h := h742, pc := ([]), marks := [], pan := none }
set_option maxRecDepth 100000 in
theorem g32 : runCode Tryd.prog true (runCall Tryd.prog true none 300 57) none 296 none (sub B19 [true, true, true, true]) s1041 = some [(.ret, s1214)] := by kernel_rfl
noncomputable def s1215 : St := { tmps := l1212, h := h755, pc := ([]), marks := [], pan := none }
set_option maxRecDepth 100000 in
theorem g33 : runCode Tryd.prog true (runCall Tryd.prog true none 300 57) none 296 none (sub B19 [true, true, true, true]) s1051 = some [(.ret, s1215)] := by kernel_rfl
noncomputable def s1216 : St := { tmps := l1212, h := h763, pc := ([]), marks := [], pan := none }
set_option maxRecDepth 100000 in
theorem g34 : runCode Tryd.prog true (runCall Tryd.prog true none 300 57) none 296 none (sub B19 [true, true, true, true]) s1059 = some [(.ret, s1216)] := by kernel_rfl
noncomputable def s1217 : St := { tmps := l1212, h := h773, pc := ([]), marks := [], pan := none }
set_option maxRecDepth 100000 in
theorem g35 : runCode Tryd.prog true (runCall Tryd.prog true none 300 57) none 296 none (sub B19 [true, true, true, true]) s1067 = some [(.ret, s1217)] := by kernel_rfl
noncomputable def s1218 : St := { tmps := l1212, h := h781, pc := ([]), marks := [], pan := none }
set_option maxRecDepth 100000 in
theorem g36 : runCode Tryd.prog true (runCall Tryd.prog true none 300 57) none 296 none (sub B19 [true, true, true, true]) s1074 = some [(.ret, s1218)] := by kernel_rfl
noncomputable def s1219 : St := { tmps := l1212, h := h801, pc := ([]), marks := [], pan := none }
set_option maxRecDepth 100000 in
theorem g37 : runCode Tryd.prog true (runCall Tryd.prog true none 300 57) none 296 none (sub B19 [true, true, true, true]) s1087 = some [(.ret, s1219)] := by kernel_rfl
noncomputable def s1220 : St := { tmps := l1212, h := h810, pc := ([]), marks := [], pan := none }
set_option maxRecDepth 100000 in
theorem g38 : runCode Tryd.prog true (runCall Tryd.prog true none 300 57) none 296 none (sub B19 [true, true, true, true]) s1095 = some [(.ret, s1220)] := by kernel_rfl
noncomputable def s1221 : St := { tmps := l1212, h := h825, pc := ([]), marks := [], pan := none }
set_option maxRecDepth 100000 in
theorem g39 : runCode Tryd.prog true (runCall Tryd.prog true none 300 57) none 296 none (sub B19 [true, true, true, true]) s1106 = some [(.ret, s1221)] := by kernel_rfl
noncomputable def s1222 : St := { tmps := l1212, h := h836, pc := ([]), marks := [], pan := none }
set_option maxRecDepth 100000 in
theorem g40 : runCode Tryd.prog true (runCall Tryd.prog true none 300 57) none 296 none (sub B19 [true, true, true, true]) s1116 = some [(.ret, s1222)] := by kernel_rfl
noncomputable def s1223 : St := { tmps := l1212, h := h843, pc := ([]), marks := [], pan := none }
set_option maxRecDepth 100000 in
theorem g41 : runCode Tryd.prog true (runCall Tryd.prog true none 300 57) none 296 none (sub B19 [true, true, true, true]) s1122 = some [(.ret, s1223)] := by kernel_rfl
noncomputable def s1224 : St := { tmps := l1212, h := h851, pc := ([]), marks := [], pan := none }
set_option maxRecDepth 100000 in
theorem g42 : runCode Tryd.prog true (runCall Tryd.prog true none 300 57) none 296 none (sub B19 [true, true, true, true]) s1129 = some [(.ret, s1224)] := by kernel_rfl
noncomputable def s1225 : St := { tmps := l1212, h := h861, pc := ([]), marks := [], pan := none }
set_option maxRecDepth 100000 in
theorem g43 : runCode Tryd.prog true (runCall Tryd.prog true none 300 57) none 296 none (sub B19 [true, true, true, true]) s1136 = some [(.ret, s1225)] := by kernel_rfl
noncomputable def s1226 : St := { tmps := l1212, h := h870, pc := ([]), marks := [], pan := none }
set_option maxRecDepth 100000 in
theorem g44 : runCode Tryd.prog true (runCall Tryd.prog true none 300 57) none 296 none (sub B19 [true, true, true, true]) s1144 = some [(.ret, s1226)] := by kernel_rfl
noncomputable def s1227 : St := { tmps := l1212, h := h881, pc := ([]), marks := [], pan := none }
set_option maxRecDepth 100000 in
theorem g45 : runCode Tryd.prog true (runCall Tryd.prog true none 300 57) none 296 none (sub B19 [true, true, true, true]) s1153 = some [(.ret, s1227)] := by kernel_rfl
noncomputable def s1228 : St := { tmps := l1212, h := h889, pc := ([]), marks := [], pan := none }
set_option maxRecDepth 100000 in
theorem g46 : runCode Tryd.prog true (runCall Tryd.prog true none 300 57) none 296 none (sub B19 [true, true, true, true]) s1160 = some [(.ret, s1228)] := by kernel_rfl
noncomputable def s1229 : St := { tmps := l1212, h := h896, pc := ([]), marks := [], pan := none }
set_option maxRecDepth 100000 in
theorem g47 : runCode Tryd.prog true (runCall Tryd.prog true none 300 57) none 296 none (sub B19 [true, true, true, true]) s1166 = some [(.ret, s1229)] := by kernel_rfl
noncomputable def s1230 : St := { tmps := l1212, h := h903, pc := ([]), marks := [], pan := none }
set_option maxRecDepth 100000 in
theorem g48 : runCode Tryd.prog true (runCall Tryd.prog true none 300 57) none 296 none (sub B19 [true, true, true, true]) s1172 = some [(.ret, s1230)] := by kernel_rfl
noncomputable def s1231 : St := { tmps := l1212, h := h913, pc := ([]), marks := [], pan := none }
set_option maxRecDepth 100000 in
theorem g49 : runCode Tryd.prog true (runCall Tryd.prog true none 300 57) none 296 none (sub B19 [true, true, true, true]) s1179 = some [(.ret, s1231)] := by kernel_rfl
noncomputable def s1232 : St := { tmps := l1212, h := h921, pc := ([]), marks := [], pan := none }
set_option maxRecDepth 100000 in
theorem g50 : runCode Tryd.prog true (runCall Tryd.prog true none 300 57) none 296 none (sub B19 [true, true, true, true]) s1186 = some [(.ret, s1232)] := by kernel_rfl
noncomputable def s1233 : St := { tmps := l1212, h := h929, pc := ([]), marks := [], pan := none }
set_option maxRecDepth 100000 in
theorem g51 : runCode Tryd.prog true (runCall Tryd.prog true none 300 57) none 296 none (sub B19 [true, true, true, true]) s1193 = some [(.ret, s1233)] := by kernel_rfl
noncomputable def s1234 : St := { tmps := l1212, h := h936, pc := ([]), marks := [], pan := none }
set_option maxRecDepth 100000 in
theorem g52 : runCode Tryd.prog true (runCall Tryd.prog true none 300 57) none 296 none (sub B19 [true, true, true, true]) s1199 = some [(.ret, s1234)] := by kernel_rfl
noncomputable def s1235 : St := { tmps := l1212, h := h943, pc := ([]), marks := [], pan := none }
set_option maxRecDepth 100000 in
theorem g53 : runCode Tryd.prog true (runCall Tryd.prog true none 300 57) none 296 none (sub B19 [true, true, true, true]) s1205 = some [(.ret, s1235)] := by kernel_rfl
noncomputable def s1236 : St := { tmps := l1212, h := h950, pc := ([]), marks := [], pan := none }
set_option maxRecDepth 100000 in
theorem g54 : runCode Tryd.prog true (runCall Tryd.prog true none 300 57) none 296 none (sub B19 [true, true, true, true]) s1211 = some [(.ret, s1236)] := by kernel_rfl
set_option maxRecDepth 100000 in
theorem g55 : runCode Tryd.prog true (runCall Tryd.prog true none 300 57) none 297 none (sub B19 [true, true, true]) s995 = some [(.ret, s1213), (.ret, s1214), (.ret, s1215), (.ret, s1216), (.ret, s1217), (.ret, s1218), (.ret, s1219), (.ret, s1220), (.ret, s1221), (.ret, s1222), (.ret, s1223), (.ret, s1224), (.ret, s1225), (.ret, s1226), (.ret, s1227), (.ret, s1228), (.ret, s1229), (.ret, s1230), (.ret, s1231), (.ret, s1232), (.ret, s1233), (.ret, s1234), (.ret, s1235), (.ret, s1236)] := cut_seqs (x := (sub B19 [true, true, true, false])) (y := (sub B19 [true, true, true, true])) (n := 296) (by kernel_rfl) g30 (then_go g31 (then_go g32 (then_go g33 (then_go g34 (then_go g35 (then_go g36 (then_go g37 (then_go g38 (then_go g39 (then_go g40 (then_go g41 (then_go g42 (then_go g43 (then_go g44 (then_go g45 (then_go g46 (then_go g47 (then_go g48 (then_go g49 (then_go g50 (then_go g51 (then_go g52 (then_go g53 (then_go g54 then_nil))))))))))))))))))))))))
set_option maxRecDepth 100000 in
theorem g56 : runCode Tryd.prog true (runCall Tryd.prog true none 300 57) none 298 none (sub B19 [true, true]) s980 = some [(.ret, s1213), (.ret, s1214), (.ret, s1215), (.ret, s1216), (.ret, s1217), (.ret, s1218), (.ret, s1219), (.ret, s1220), (.ret, s1221), (.ret, s1222), (.ret, s1223), (.ret, s1224), (.ret, s1225), (.ret, s1226), (.ret, s1227), (.ret, s1228), (.ret, s1229), (.ret, s1230), (.ret, s1231), (.ret, s1232), (.ret, s1233), (.ret, s1234), (.ret, s1235), (.ret, s1236)] := cut_seqs (x := (sub B19 [true, true, false])) (y := (sub B19 [true, true, true])) (n := 297) (by kernel_rfl) g20 (then_go g55 then_nil)
set_option maxRecDepth 100000 in
theorem g57 : runCode Tryd.prog true (runCall Tryd.prog true none 300 57) none 299 none (sub B19 [true]) s963 = some [(.ret, s1213), (.ret, s1214), (.ret, s1215), (.ret, s1216), (.ret, s1217), (.ret, s1218), (.ret, s1219), (.ret, s1220), (.ret, s1221), (.ret, s1222), (.ret, s1223), (.ret, s1224), (.ret, s1225), (.ret, s1226), (.ret, s1227), (.ret, s1228), (.ret, s1229), (.ret, s1230), (.ret, s1231), (.ret, s1232), (.ret, s1233), (.ret, s1234), (.ret, s1235), (.ret, s1236)] := cut_seqs (x := (sub B19 [true, false])) (y := (sub B19 [true, true])) (n := 298) (by kernel_rfl) g19 (then_go g56 then_nil)
set_option maxRecDepth 100000 in
theorem g58 : runCode Tryd.prog true (runCall Tryd.prog true none 300 57) none 300 none (sub B19 []) s953 = some [(.ret, s1213), (.ret, s1214), (.ret, s1215), (.ret, s1216), (.ret, s1217), (.ret, s1218), (.ret, s1219), (.ret, s1220), (.ret, s1221), (.ret, s1222), (.ret, s1223), (.ret, s1224), (.ret, s1225), (.ret, s1226), (.ret, s1227), (.ret, s1228), (.ret, s1229), (.ret, s1230), (.ret, s1231), (.ret, s1232), (.ret, s1233), (.ret, s1234), (.ret, s1235), (.ret, s1236)] := cut_seqs (x := (sub B19 [false])) (y := (sub B19 [true])) (n := 299) (by kernel_rfl) g18 (then_go g57 then_nil)
set_option maxRecDepth 100000 in
theorem g59 : (runCall Tryd.prog true none 300 58) false 19 l951 s697.h s697.pc = some [((.tuple ([(xS [99, 101, 108, 108, 32, 51, 32, 115, 101, 115, 115, 105, 111, 110, 32, 110, 111, 110, 101, 32, 52])] ++ ai [0])), h731, ([])), ((.tuple ([(xS [99, 101, 108, 108, 32, 51, 32, 115, 101, 115, 115, 105, 111, 110, 32, 110, 111, 110, 101, 32, 52])] ++ ai [0])), h742, ([])), ((.tuple ([(xS [99, 101, 108, 108, 32, 51, 32, 115, 101, 115, 115, 105, 111, 110, 32, 110, 111, 110, 101, 32, 52])] ++ ai [0])), h755, ([])), ((.tuple ([(xS [99, 101, 108, 108, 32, 51, 32, 115, 101, 115, 115, 105, 111, 110, 32, 110, 111, 110, 101, 32, 52])] ++ ai [0])), h763, ([])), ((.tuple ([(xS [99, 101, 108, 108, 32, 51, 32, 115, 101, 115, 115, 105, 111, 110, 32, 110, 111, 110, 101, 32, 52])] ++ ai [0])), h773, ([])), ((.tuple ([(xS [99, 101, 108, 108, 32, 51, 32, 115, 101, 115, 115, 105, 111, 110, 32, 110, 111, 110, 101, 32, 52])] ++ ai [0])), h781, ([])), ((.tuple ([(xS [99, 101, 108, 108, 32, 51, 32, 115, 101, 115, 115, 105, 111, 110, 32, 110, 111, 110, 101, 32, 52])] ++ ai [0])), h801, ([])), ((.tuple ([(xS [99, 101, 108, 108, 32, 51, 32, 115, 101, 115, 115, 105, 111, 110, 32, 110, 111, 110, 101, 32, 52])] ++ ai [0])), h810, ([])), ((.tuple ([(xS [99, 101, 108, 108, 32, 51, 32, 115, 101, 115, 115, 105, 111, 110, 32, 110, 111, 110, 101, 32, 52])] ++ ai [0])), h825, ([])), ((.tuple ([(xS [99, 101, 108, 108, 32, 51, 32, 115, 101, 115, 115, 105, 111, 110, 32, 110, 111, 110, 101, 32, 52])] ++ ai [0])), h836, ([])), ((.tuple ([(xS [99, 101, 108, 108, 32, 51, 32, 115, 101, 115, 115, 105, 111, 110, 32, 110, 111, 110, 101, 32, 52])] ++ ai [0])), h843, ([])), ((.tuple ([(xS [99, 101, 108, 108, 32, 51, 32, 115, 101, 115, 115, 105, 111, 110, 32, 110, 111, 110, 101, 32, 52])] ++ ai [0])), h851, ([])), ((.tuple ([(xS [99, 101, 108, 108, 32, 51, 32, 115, 101, 115, 115, 105, 111, 110, 32, 110, 111, 110, 101, 32, 52])] ++ ai [0])), h861, ([])), ((.tuple ([(xS [99, 101, 108, 108, 32, 51, 32, 115, 101, 115, 115, 105, 111, 110, 32, 110, 111, 110, 101, 32, 52])] ++ ai [0])), h870, ([])), ((.tuple ([(xS [99, 101, 108, 108, 32, 51, 32, 115, 101, 115, 115, 105, 111, 110, 32, 110, 111, 110, 101, 32, 52])] ++ ai [0])), h881, ([])), ((.tuple ([(xS [99, 101, 108, 108, 32, 51, 32, 115, 101, 115, 115, 105, 111, 110, 32, 110, 111, 110, 101, 32, 52])] ++ ai [0])), h889, ([])), ((.tuple ([(xS [99, 101, 108, 108, 32, 51, 32, 115, 101, 115, 115, 105, 111, 110, 32, 110, 111, 110, 101, 32, 52])] ++ ai [0])), h896, ([])), ((.tuple ([(xS [99, 101, 108, 108, 32, 51, 32, 115, 101, 115, 115, 105, 111, 110, 32, 110, 111, 110, 101, 32, 52])] ++ ai [0])), h903, ([])), ((.tuple ([(xS [99, 101, 108, 108, 32, 51, 32, 115, 101, 115, 115, 105, 111, 110, 32, 110, 111, 110, 101, 32, 52])] ++ ai [0])), h913, ([])), ((.tuple ([(xS [99, 101, 108, 108, 32, 51, 32, 115, 101, 115, 115, 105, 111, 110, 32, 110, 111, 110, 101, 32, 52])] ++ ai [0])), h921, ([])), ((.tuple ([(xS [99, 101, 108, 108, 32, 51, 32, 115, 101, 115, 115, 105, 111, 110, 32, 110, 111, 110, 101, 32, 52])] ++ ai [0])), h929, ([])), ((.tuple ([(xS [99, 101, 108, 108, 32, 51, 32, 115, 101, 115, 115, 105, 111, 110, 32, 110, 111, 110, 101, 32, 52])] ++ ai [0])), h936, ([])), ((.tuple ([(xS [99, 101, 108, 108, 32, 51, 32, 115, 101, 115, 115, 105, 111, 110, 32, 110, 111, 110, 101, 32, 52])] ++ ai [0])), h943, ([])), ((.tuple ([(xS [99, 101, 108, 108, 32, 51, 32, 115, 101, 115, 115, 105, 111, 110, 32, 110, 111, 110, 101, 32, 52])] ++ ai [0])), h950, ([]))] := cut_call (d := 57) (fn := Tryd.f19) (c := sub B19 []) (l := [(.ret, s1213), (.ret, s1214), (.ret, s1215), (.ret, s1216), (.ret, s1217), (.ret, s1218), (.ret, s1219), (.ret, s1220), (.ret, s1221), (.ret, s1222), (.ret, s1223), (.ret, s1224), (.ret, s1225), (.ret, s1226), (.ret, s1227), (.ret, s1228), (.ret, s1229), (.ret, s1230), (.ret, s1231), (.ret, s1232), (.ret, s1233), (.ret, s1234), (.ret, s1235), (.ret, s1236)]) (by kernel_rfl) Tryd.func19 (by kernel_rfl) g58 (by kernel_rfl)
noncomputable def l1237 : List AV := [xF, (xP 23 0), (xP 24 0)] ++ ai [2] ++ [xF] ++ us 4 ++ [(xP 23 0), (xP 23 0), xF, (xA (ai [1, 5, 0] ++ [xT] ++ ai [0] ++ au [2] ++ ai [1])), (xP 23 0), (xA (ai [1, 5, 0] ++ [xT] ++ ai [0] ++ au [2] ++ ai [1]))] ++ ai [0] ++ [(xP 23 0), (xA (ai [2, 5, 0] ++ [xT] ++ ai [0] ++ au [1] ++ ai [0]))] ++ ai [0] ++ [(xP 23 0), (xA (ai [1, 5, 0] ++ [xT] ++ ai [0] ++ au [2] ++ ai [1]))] ++ ai [0] ++ [(xP 23 0)] ++ ai [2] ++ [(xP 23 0), xF, (xP 24 5), (xP 23 0), (xA (ai [1, 5, 0] ++ [xT] ++ ai [0] ++ au [3] ++ ai [1]))] ++ ai [0] ++ us 1 ++ [(xA (ai [3] ++ [(xJ 2)] ++ ai [3] ++ [xF] ++ ai [0] ++ au [4] ++ ai [0])), (.tuple ([(xS [99, 101, 108, 108, 32, 51, 32, 115, 101, 115, 115, 105, 111, 110, 32, 110, 111, 110, 101, 32, 52])] ++ ai [0]))] ++ us 30
noncomputable def s1238 : St := { tmps := l1237, h := h731, pc := ([]), marks := [], pan := none }
noncomputable def s1239 : St := { tmps := l1237, h := h742, pc := ([]), marks := [], pan := none }
noncomputable def s1240 : St := { tmps := l1237, h := h755, pc := ([]), marks := [], pan := none }
noncomputable def s1241 : St := { tmps := l1237, h := h763, pc := ([]), marks := [], pan := none }
noncomputable def s1242 : St := { tmps := l1237, h := h773, pc := ([]), marks := [], pan := none }
noncomputable def s1243 : St := { tmps := l1237, h := h781, pc := ([]), marks := [], pan := none }
noncomputable def s1244 : St := { tmps := l1237, h := h801, pc := ([]), marks := [], pan := none }
noncomputable def s1245 : St := { tmps := l1237, h := h810, pc := ([]), marks := [], pan := none }
noncomputable def s1246 : St := { tmps := l1237, h := h825, pc := ([]), marks := [], pan := none }
noncomputable def s1247 : St := { tmps := l1237, h := h836, pc := ([]), marks := [], pan := none }
noncomputable def s1248 : St := { tmps := l1237, h := h843, pc := ([]), marks := [], pan := none }
noncomputable def s1249 : St := { tmps := l1237, h := h851, pc := ([]), marks := [], pan := none }
noncomputable def s1250 : St := { tmps := l1237, h := h861, pc := ([]), marks := [], pan := none }
noncomputable def s1251 : St := { tmps := l1237, h := h870, pc := ([]), marks := [], pan := none }
noncomputable def s1252 : St := { tmps := l1237, h := h881, pc := ([]), marks := [], pan := none }
noncomputable def s1253 : St := { tmps := l1237, h := h889, pc := ([]), marks := [], pan := none }
noncomputable def s1254 : St := { tmps := l1237, h := h896, pc := ([]), marks := [], pan := none }
noncomputable def s1255 : St := { tmps := l1237, h := h903, pc := ([]), marks := [], pan := none }
noncomputable def s1256 : St := { tmps := l1237, h := h913, pc := ([]), marks := [], pan := none }
noncomputable def s1257 : St := { tmps := l1237, h := h921, pc := ([]), marks := [], pan := none }
noncomputable def s1258 : St := { tmps := l1237, h := h929, pc := ([]), marks := [], pan := none }
noncomputable def s1259 : St := { tmps := l1237, h := h936, pc := ([]), marks := [], pan := none }
noncomputable def s1260 : St := { tmps := l1237, h := h943, pc := ([]), marks := [], pan := none }
noncomputable def s1261 : St := { tmps := l1237, h := h950, pc := ([]), marks := [], pan := none }
set_option maxRecDepth 100000 in
theorem g60 : runOps Tryd.prog (runCall Tryd.prog true none 300 58) none (arrOf (sub B13 [true, true, true, true, true, true, true, true, true, true, false])) (seg (sub B13 [true, true, true, true, true, true, true, true, true, true, false]) 1 1) s697 = some [s1238, s1239, s1240, s1241, s1242, s1243, s1244, s1245, s1246, s1247, s1248, s1249, s1250, s1251, s1252, s1253, s1254, s1255, s1256, s1257, s1258, s1259, s1260, s1261] := (cut_callseg (f := 19) (by kernel_rfl) (by kernel_rfl) g59).trans (by kernel_rfl)
noncomputable def l1262 : List AV := [xF, (xP 23 0), (xP 24 0)] ++ ai [2] ++ [xF, (xS [99, 101, 108, 108, 32, 51, 32, 115, 101, 115, 115, 105, 111, 110, 32, 110, 111, 110, 101, 32, 52])] ++ ai [0] ++ us 2 ++ [(xP 23 0), (xP 23 0), xF, (xA (ai [1, 5, 0] ++ [xT] ++ ai [0] ++ au [2] ++ ai [1])), (xP 23 0), (xA (ai [1, 5, 0] ++ [xT] ++ ai [0] ++ au [2] ++ ai [1]))] ++ ai [0] ++ [(xP 23 0), (xA (ai [2, 5, 0] ++ [xT] ++ ai [0] ++ au [1] ++ ai [0]))] ++ ai [0] ++ [(xP 23 0), (xA (ai [1, 5, 0] ++ [xT] ++ ai [0] ++ au [2] ++ ai [1]))] ++ ai [0] ++ [(xP 23 0)] ++ ai [2] ++ [(xP 23 0), xF, (xP 24 5), (xP 23 0), (xA (ai [1, 5, 0] ++ [xT] ++ ai [0] ++ au [3] ++ ai [1]))] ++ ai [0] ++ [(.tuple ([(xS [99, 101, 108, 108, 32, 51, 32, 115, 101, 115, 115, 105, 111, 110, 32, 110, 111, 110, 101, 32, 52])] ++ ai [0])), (xA (ai [3] ++ [(xJ 2)] ++ ai [3] ++ [xF] ++ ai [0] ++ au [4] ++ ai [0])), (.tuple ([(xS [99, 101, 108, 108, 32, 51, 32, 115, 101, 115, 115, 105, 111, 110, 32, 110, 111, 110, 101, 32, 52])] ++ ai [0])), (xS [99, 101, 108, 108, 32, 51, 32, 115, 101, 115, 115, 105, 111, 110, 32, 110, 111, 110, 101, 32, 52])] ++ ai [0] ++ us 28
noncomputable def s1263 : St := { tmps := l1262, h := h731, pc := ([]), marks := [], pan := none }
set_option maxRecDepth 100000 in
theorem g61 : runOps Tryd.prog (runCall Tryd.prog true none 300 58) none (arrOf (sub B13 [true, true, true, true, true, true, true, true, true, true, false])) ((arrOf (sub B13 [true, true, true, true, true, true, true, true, true, true, false])).toList.drop 2) s1238 = some [s1263] := by kernel_rfl
noncomputable def s1264 : St := { tmps := l1262, h := h742, pc := ([]), marks := [], pan := none }
set_option maxRecDepth 100000 in
theorem g62 : runOps Tryd.prog (runCall Tryd.prog true none 300 58) none (arrOf (sub B13 [true, true, true, true, true, true, true, true, true, true, false])) ((arrOf (sub B13 [true, true, true, true, true, true, true, true, true, true, false])).toList.drop 2) s1239 = some [s1264] := by kernel_rfl
noncomputable def s1265 : St := { tmps := l1262, h := h755, pc := ([]), marks := [], pan := none }
set_option maxRecDepth 100000 in
theorem g63 : runOps Tryd.prog (runCall Tryd.prog true none 300 58) none (arrOf (sub B13 [true, true, true, true, true, true, true, true, true, true, false])) ((arrOf (sub B13 [true, true, true, true, true, true, true, true, true, true, false])).toList.drop 2) s1240 = some [s1265] := by kernel_rfl
noncomputable def s1266 : St := { tmps := l1262, h := h763, pc := ([]), marks := [], pan := none }
set_option maxRecDepth 100000 in
theorem g64 : runOps Tryd.prog (runCall Tryd.prog true none 300 58) none (arrOf (sub B13 [true, true, true, true, true, true, true, true, true, true, false])) ((arrOf (sub B13 [true, true, true, true, true, true, true, true, true, true, false])).toList.drop 2) s1241 = some [s1266] := by kernel_rfl
noncomputable def s1267 : St := { tmps := l1262, h := h773, pc := ([]), marks := [], pan := none }
set_option maxRecDepth 100000 in
theorem g65 : runOps Tryd.prog (runCall Tryd.prog true none 300 58) none (arrOf (sub B13 [true, true, true, true, true, true, true, true, true, true, false])) ((arrOf (sub B13 [true, true, true, true, true, true, true, true, true, true, false])).toList.drop 2) s1242 = some [s1267] := by kernel_rfl
noncomputable def s1268 : St := { tmps := l1262, h := h781, pc := ([]), marks := [], pan := none }
set_option maxRecDepth 100000 in
theorem g66 : runOps Tryd.prog (runCall Tryd.prog true none 300 58) none (arrOf (sub B13 [true, true, true, true, true, true, true, true, true, true, false])) ((arrOf (sub B13 [true, true, true, true, true, true, true, true, true, true, false])).toList.drop 2) s1243 = some [s1268] := by kernel_rfl
noncomputable def s1269 : St := { tmps := l1262, h := h801, pc := ([]), marks := [], pan := none }
set_option maxRecDepth 100000 in
theorem g67 : runOps Tryd.prog (runCall Tryd.prog true none 300 58) none (arrOf (sub B13 [true, true, true, true, true, true, true, true, true, true, false])) ((arrOf (sub B13 [true, true, true, true, true, true, true, true, true, true, false])).toList.drop 2) s1244 = some [s1269] := by kernel_rfl
noncomputable def s1270 : St := { tmps := l1262, h := h810, pc := ([]), marks := [], pan := none }
set_option maxRecDepth 100000 in
theorem g68 : runOps Tryd.prog (runCall Tryd.prog true none 300 58) none (arrOf (sub B13 [true, true, true, true, true, true, true, true, true, true, false])) ((arrOf (sub B13 [true, true, true, true, true, true, true, true, true, true, false])).toList.drop 2) s1245 = some [s1270] := by kernel_rfl
noncomputable def s1271 : St := { tmps := l1262, h := h825, pc := ([]), marks := [], pan := none }
set_option maxRecDepth 100000 in
theorem g69 : runOps Tryd.prog (runCall Tryd.prog true none 300 58) none (arrOf (sub B13 [true, true, true, true, true, true, true, true, true, true, false])) ((arrOf (sub B13 [true, true, true, true, true, true, true, true, true, true, false])).toList.drop 2) s1246 = some [s1271] := by kernel_rfl
noncomputable def s1272 : St := { tmps := l1262, h := h836, pc := ([]), marks := [], pan := none }
set_option maxRecDepth 100000 in
theorem g70 : runOps Tryd.prog (runCall Tryd.prog true none 300 58) none (arrOf (sub B13 [true, true, true, true, true, true, true, true, true, true, false])) ((arrOf (sub B13 [true, true, true, true, true, true, true, true, true, true, false])).toList.drop 2) s1247 = some [s1272] := by kernel_rfl
noncomputable def s1273 : St := { tmps := l1262, h := h843, pc := ([]), marks := [], pan := none }
set_option maxRecDepth 100000 in
theorem g71 : runOps Tryd.prog (runCall Tryd.prog true none 300 58) none (arrOf (sub B13 [true, true, true, true, true, true, true, true, true, true, false])) ((arrOf (sub B13 [true, true, true, true, true, true, true, true, true, true, false])).toList.drop 2) s1248 = some [s1273] := by kernel_rfl
noncomputable def s1274 : St := { tmps := l1262, h := h851, pc := ([]), marks := [], pan := none }
set_option maxRecDepth 100000 in
theorem g72 : runOps Tryd.prog (runCall Tryd.prog true none 300 58) none (arrOf (sub B13 [true, true, true, true, true, true, true, true, true, true, false])) ((arrOf (sub B13 [true, true, true, true, true, true, true, true, true, true, false])).toList.drop 2) s1249 = some [s1274] := by kernel_rfl
noncomputable def s1275 : St := { tmps := l1262, h := h861, pc := ([]), marks := [], pan := none }
set_option maxRecDepth 100000 in
theorem g73 : runOps Tryd.prog (runCall Tryd.prog true none 300 58) none (arrOf (sub B13 [true, true, true, true, true, true, true, true, true, true, false])) ((arrOf (sub B13 [true, true, true, true, true, true, true, true, true, true, false])).toList.drop 2) s1250 = some [s1275] := by kernel_rfl
noncomputable def s1276 : St := { tmps := l1262, h := h870, pc := ([]), marks := [], pan := none }
set_option maxRecDepth 100000 in
theorem g74 : runOps Tryd.prog (runCall Tryd.prog true none 300 58) none (arrOf (sub B13 [true, true, true, true, true, true, true, true, true, true, false])) ((arrOf (sub B13 [true, true, true, true, true, true, true, true, true, true, false])).toList.drop 2) s1251 = some [s1276] := by kernel_rfl
noncomputable def s1277 : St := { tmps := l1262, h := h881, pc := ([]), marks := [], pan := none }
set_option maxRecDepth 100000 in
theorem g75 : runOps Tryd.prog (runCall Tryd.prog true none 300 58) none (arrOf (sub B13 [true, true, true, true, true, true, true, true, true, true, false])) ((arrOf (sub B13 [true, true, true, true, true, true, true, true, true, true, false])).toList.drop 2) s1252 = some [s1277] := by kernel_rfl
noncomputable def s1278 : St := { tmps := l1262, h := h889, pc := ([]), marks := [], pan := none }
set_option maxRecDepth 100000 in
theorem g76 : runOps Tryd.prog (runCall Tryd.prog true none 300 58) none (arrOf (sub B13 [true, true, true, true, true, true, true, true, true, true, false])) ((arrOf (sub B13 [true, true, true, true, true, true, true, true, true, true, false])).toList.drop 2) s1253 = some [s1278] := by kernel_rfl
noncomputable def s1279 : St := { tmps := l1262, h := h896, pc := ([]), marks := [], pan := none }
set_option maxRecDepth 100000 in
theorem g77 : runOps Tryd.prog (runCall Tryd.prog true none 300 58) none (arrOf (sub B13 [true, true, true, true, true, true, true, true, true, true, false])) ((arrOf (sub B13 [true, true, true, true, true, true, true, true, true, true, false])).toList.drop 2) s1254 = some [s1279] := by kernel_rfl
noncomputable def s1280 : St := { tmps := l1262, h := h903, pc := ([]), marks := [], pan := none }
set_option maxRecDepth 100000 in
theorem g78 : runOps Tryd.prog (runCall Tryd.prog true none 300 58) none (arrOf (sub B13 [true, true, true, true, true, true, true, true, true, true, false])) ((arrOf (sub B13 [true, true, true, true, true, true, true, true, true, true, false])).toList.drop 2) s1255 = some [s1280] := by kernel_rfl
noncomputable def s1281 : St := { tmps := l1262, h := h913, pc := ([]), marks := [], pan := none }
set_option maxRecDepth 100000 in
theorem g79 : runOps Tryd.prog (runCall Tryd.prog true none 300 58) none (arrOf (sub B13 [true, true, true, true, true, true, true, true, true, true, false])) ((arrOf (sub B13 [true, true, true, true, true, true, true, true, true, true, false])).toList.drop 2) s1256 = some [s1281] := by kernel_rfl
noncomputable def s1282 : St := { tmps := l1262, h := h921, pc := ([]), marks := [], pan := none }
set_option maxRecDepth 100000 in
theorem g80 : runOps Tryd.prog (runCall Tryd.prog true none 300 58) none (arrOf (sub B13 [true, true, true, true, true, true, true, true, true, true, false])) ((arrOf (sub B13 [true, true, true, true, true, true, true, true, true, true, false])).toList.drop 2) s1257 = some [s1282] := by kernel_rfl
noncomputable def s1283 : St := { tmps := l1262, h := h929, pc := ([]), marks := [], pan := none }
set_option maxRecDepth 100000 in
theorem g81 : runOps Tryd.prog (runCall Tryd.prog true none 300 58) none (arrOf (sub B13 [true, true, true, true, true, true, true, true, true, true, false])) ((arrOf (sub B13 [true, true, true, true, true, true, true, true, true, true, false])).toList.drop 2) s1258 = some [s1283] := by kernel_rfl
noncomputable def s1284 : St := { tmps := l1262, h := h936, pc := ([]), marks := [], pan := none }
set_option maxRecDepth 100000 in
theorem g82 : runOps Tryd.prog (runCall Tryd.prog true none 300 58) none (arrOf (sub B13 [true, true, true, true, true, true, true, true, true, true, false])) ((arrOf (sub B13 [true, true, true, true, true, true, true, true, true, true, false])).toList.drop 2) s1259 = some [s1284] := by kernel_rfl
noncomputable def s1285 : St := { tmps := l1262, h := h943, pc := ([]), marks := [], pan := none }
set_option maxRecDepth 100000 in
theorem g83 : runOps Tryd.prog (runCall Tryd.prog true none 300 58) none (arrOf (sub B13 [true, true, true, true, true, true, true, true, true, true, false])) ((arrOf (sub B13 [true, true, true, true, true, true, true, true, true, true, false])).toList.drop 2) s1260 = some [s1285] := by kernel_rfl
noncomputable def s1286 : St := { tmps := l1262, h := h950, pc := ([]), marks := [], pan := none }
set_option maxRecDepth 100000 in
theorem g84 : runOps Tryd.prog (runCall Tryd.prog true none 300 58) none (arrOf (sub B13 [true, true, true, true, true, true, true, true, true, true, false])) ((arrOf (sub B13 [true, true, true, true, true, true, true, true, true, true, false])).toList.drop 2) s1261 = some [s1286] := by kernel_rfl
set_option maxRecDepth 100000 in
theorem g85 : runOps Tryd.prog (runCall Tryd.prog true none 300 58) none (arrOf (sub B13 [true, true, true, true, true, true, true, true, true, true, false])) ((arrOf (sub B13 [true, true, true, true, true, true, true, true, true, true, false])).toList.drop 1) s697 = some [s1263, s1264, s1265, s1266, s1267, s1268, s1269, s1270, s1271, s1272, s1273, s1274, s1275, s1276, s1277, s1278, s1279, s1280, s1281, s1282, s1283, s1284, s1285, s1286] := cut_ops (i := 1) (k := 1) (j := 2) rfl g60 (by kernel_rfl) (each_go g61 (each_go g62 (each_go g63 (each_go g64 (each_go g65 (each_go g66 (each_go g67 (each_go g68 (each_go g69 (each_go g70 (each_go g71 (each_go g72 (each_go g73 (each_go g74 (each_go g75 (each_go g76 (each_go g77 (each_go g78 (each_go g79 (each_go g80 (each_go g81 (each_go g82 (each_go g83 (each_go g84 each_nil))))))))))))))))))))))))
set_option maxRecDepth 100000 in
theorem g86 : runOps Tryd.prog (runCall Tryd.prog true none 300 58) none (arrOf (sub B13 [true, true, true, true, true, true, true, true, true, true, false])) ((arrOf (sub B13 [true, true, true, true, true, true, true, true, true, true, false])).toList.drop 0) s695 = some [s1263, s1264, s1265, s1266, s1267, s1268, s1269, s1270, s1271, s1272, s1273, s1274, s1275, s1276, s1277, s1278, s1279, s1280, s1281, s1282, s1283, s1284, s1285, s1286] := cut_ops (i := 0) (k := 1) (j := 1) rfl g17 (by kernel_rfl) (each_go g85 each_nil)
set_option maxRecDepth 100000 in
theorem g87 : runCode Tryd.prog true (runCall Tryd.prog true none 300 58) none 289 none (sub B13 [true, true, true, true, true, true, true, true, true, true, false]) s695 = some [(.normal, s1263), (.normal, s1264), (.normal, s1265), (.normal, s1266), (.normal, s1267), (.normal, s1268), (.normal, s1269), (.normal, s1270), (.normal, s1271), (.normal, s1272), (.normal, s1273), (.normal, s1274), (.normal, s1275), (.normal, s1276), (.normal, s1277), (.normal, s1278), (.normal, s1279), (.normal, s1280), (.normal, s1281), (.normal, s1282), (.normal, s1283), (.normal, s1284), (.normal, s1285), (.normal, s1286)] := (cut_region (id := 11) (by kernel_rfl) g86).trans (by kernel_rfl)
noncomputable def l1287 : List AV := [xT, (xP 23 0), (xP 24 0)] ++ ai [2] ++ [xF, (xS [99, 101, 108, 108, 32, 51, 32, 115, 101, 115, 115, 105, 111, 110, 32, 110, 111, 110, 101, 32, 52])] ++ ai [0] ++ [(xS [107, 101, 121, 32, 55, 32, 110, 111, 110, 101])] ++ ai [0] ++ [(xP 23 0), (xP 23 0), xF, (xA (ai [1, 5, 0] ++ [xT] ++ ai [0] ++ au [2] ++ ai [1])), (xP 23 0), (xA (ai [1, 5, 0] ++ [xT] ++ ai [0] ++ au [2] ++ ai [1]))] ++ ai [0] ++ [(xP 23 0), (xA (ai [2, 5, 0] ++ [xT] ++ ai [0] ++ au [1] ++ ai [0]))] ++ ai [0] ++ [(xP 23 0), (xA (ai [1, 5, 0] ++ [xT] ++ ai [0] ++ au [2] ++ ai [1]))] ++ ai [0] ++ [(xP 23 0)] ++ ai [2] ++ [(xP 23 0), xF, (xP 24 5), (xP 23 0), (xA (ai [1, 5, 0] ++ [xT] ++ ai [0] ++ au [3] ++ ai [1]))] ++ ai [0] ++ [(.tuple ([(xS [99, 101, 108, 108, 32, 51, 32, 115, 101, 115, 115, 105, 111, 110, 32, 110, 111, 110, 101, 32, 52])] ++ ai [0])), (xA (ai [3] ++ [(xJ 2)] ++ ai [3] ++ [xF] ++ ai [0] ++ au [4] ++ ai [0])), (.tuple ([(xS [99, 101, 108, 108, 32, 51, 32, 115, 101, 115, 115, 105, 111, 110, 32, 110, 111, 110, 101, 32, 52])] ++ ai [0])), (xS [99, 101, 108, 108, 32, 51, 32, 115, 101, 115, 115, 105, 111, 110, 32, 110, 111, 110, 101, 32, 52])] ++ ai [0] ++ [(.tuple ([(xS [107, 101, 121, 32, 55, 32, 110, 111, 110, 101])] ++ ai [0])), (xA (ai [1, 7, 0] ++ [xF] ++ ai [0] ++ au [0] ++ ai [0])), (.tuple ([(xS [107, 101, 121, 32, 55, 32, 110, 111, 110, 101])] ++ ai [0])), (xS [107, 101, 121, 32, 55, 32, 110, 111, 110, 101])] ++ ai [0, 2] ++ [xT, xT, xF, xT, xT, xT, (xP 23 0), xT, xT, xT, (xP 23 0)] ++ ai [2] ++ [xT, xT, xT, (xS [99, 101, 108, 108, 32, 51, 32, 115, 101, 115, 115, 105, 111, 110, 32, 110, 111, 110, 101, 32, 52]), xT, xT, xT, (xS [107, 101, 121, 32, 55, 32, 110, 111, 110, 101]), xT, xT]
noncomputable def s1288 : St := { tmps := l1287, h := h176, pc := ([]), marks := [], pan := none }
set_option maxRecDepth 100000 in
theorem g88 : runCode Tryd.prog true (runCall Tryd.prog true none 300 58) none 289 none (sub B13 [true, true, true, true, true, true, true, true, true, true, true]) s1263 = some [(.ret, s1288)] := by kernel_rfl
noncomputable def s1289 : St := { tmps := l1287, h := h195, pc := ([]), marks := [], pan := none }
set_option maxRecDepth 100000 in
theorem g89 : runCode Tryd.prog true (runCall Tryd.prog true none 300 58) none 289 none (sub B13 [true, true, true, true, true, true, true, true, true, true, true]) s1264 = some [(.ret, s1289)] := by kernel_rfl
noncomputable def s1290 : St := { tmps := l1287, h := h214, pc := ([]), marks := [], pan := none }
set_option maxRecDepth 100000 in
theorem g90 : runCode Tryd.prog true (runCall Tryd.prog true none 300 58) none 289 none (sub B13 [true, true, true, true, true, true, true, true, true, true, true]) s1265 = some [(.ret, s1290)] := by kernel_rfl
noncomputable def s1291 : St := { tmps := l1287, h := h228, pc := ([]), marks := [], pan := none }
set_option maxRecDepth 100000 in
theorem g91 : runCode Tryd.prog true (runCall Tryd.prog true none 300 58) none 289 none (sub B13 [true, true, true, true, true, true, true, true, true, true, true]) s1266 = some [(.ret, s1291)] := by kernel_rfl
noncomputable def s1292 : St := { tmps := l1287, h := h242, pc := ([]), marks := [], pan := none }
set_option maxRecDepth 100000 in
theorem g92 : runCode Tryd.prog true (runCall Tryd.prog true none 300 58) none 289 none (sub B13 [true, true, true, true, true, true, true, true, true, true, true]) s1267 = some [(.ret, s1292)] := by kernel_rfl
noncomputable def s1293 : St := { tmps := l1287, h := h252, pc := ([]), marks := [], pan := none }
set_option maxRecDepth 100000 in
theorem g93 : runCode Tryd.prog true (runCall Tryd.prog true none 300 58) none 289 none (sub B13 [true, true, true, true, true, true, true, true, true, true, true]) s1268 = some [(.ret, s1293)] := by kernel_rfl
noncomputable def s1294 : St := { tmps := l1287, h := h284, pc := ([]), marks := [], pan := none }
set_option maxRecDepth 100000 in
theorem g94 : runCode Tryd.prog true (runCall Tryd.prog true none 300 58) none 289 none (sub B13 [true, true, true, true, true, true, true, true, true, true, true]) s1269 = some [(.ret, s1294)] := by kernel_rfl
noncomputable def s1295 : St := { tmps := l1287, h := h295, pc := ([]), marks := [], pan := none }
set_option maxRecDepth 100000 in
theorem g95 : runCode Tryd.prog true (runCall Tryd.prog true none 300 58) none 289 none (sub B13 [true, true, true, true, true, true, true, true, true, true, true]) s1270 = some [(.ret, s1295)] := by kernel_rfl
noncomputable def s1296 : St := { tmps := l1287, h := h318, pc := ([]), marks := [], pan := none }
set_option maxRecDepth 100000 in
theorem g96 : runCode Tryd.prog true (runCall Tryd.prog true none 300 58) none 289 none (sub B13 [true, true, true, true, true, true, true, true, true, true, true]) s1271 = some [(.ret, s1296)] := by kernel_rfl
noncomputable def s1297 : St := { tmps := l1287, h := h337, pc := ([]), marks := [], pan := none }
set_option maxRecDepth 100000 in
theorem g97 : runCode Tryd.prog true (runCall Tryd.prog true none 300 58) none 289 none (sub B13 [true, true, true, true, true, true, true, true, true, true, true]) s1272 = some [(.ret, s1297)] := by kernel_rfl
noncomputable def s1298 : St := { tmps := l1287, h := h346, pc := ([]), marks := [], pan := none }
set_option maxRecDepth 100000 in
theorem g98 : runCode Tryd.prog true (runCall Tryd.prog true none 300 58) none 289 none (sub B13 [true, true, true, true, true, true, true, true, true, true, true]) s1273 = some [(.ret, s1298)] := by kernel_rfl
noncomputable def s1299 : St := { tmps := l1287, h := h356, pc := ([]), marks := [], pan := none }
set_option maxRecDepth 100000 in
theorem g99 : runCode Tryd.prog true (runCall Tryd.prog true none 300 58) none 289 none (sub B13 [true, true, true, true, true, true, true, true, true, true, true]) s1274 = some [(.ret, s1299)] := by kernel_rfl
noncomputable def s1300 : St := { tmps := l1287, h := h370, pc := ([]), marks := [], pan := none }
set_option maxRecDepth 100000 in
theorem g100 : runCode Tryd.prog true (runCall Tryd.prog true none 300 58) none 289 none (sub B13 [true, true, true, true, true, true, true, true, true, true, true]) s1275 = some [(.ret, s1300)] := by kernel_rfl
noncomputable def s1301 : St := { tmps := l1287, h := h381, pc := ([]), marks := [], pan := none }
set_option maxRecDepth 100000 in
theorem g101 : runCode Tryd.prog true (runCall Tryd.prog true none 300 58) none 289 none (sub B13 [true, true, true, true, true, true, true, true, true, true, true]) s1276 = some [(.ret, s1301)] := by kernel_rfl
noncomputable def s1302 : St := { tmps := l1287, h := h396, pc := ([]), marks := [], pan := none }
set_option maxRecDepth 100000 in
theorem g102 : runCode Tryd.prog true (runCall Tryd.prog true none 300 58) none 289 none (sub B13 [true, true, true, true, true, true, true, true, true, true, true]) s1277 = some [(.ret, s1302)] := by kernel_rfl
noncomputable def s1303 : St := { tmps := l1287, h := h406, pc := ([]), marks := [], pan := none }
set_option maxRecDepth 100000 in
theorem g103 : runCode Tryd.prog true (runCall Tryd.prog true none 300 58) none 289 none (sub B13 [true, true, true, true, true, true, true, true, true, true, true]) s1278 = some [(.ret, s1303)] := by kernel_rfl
noncomputable def s1304 : St := { tmps := l1287, h := h415, pc := ([]), marks := [], pan := none }
set_option maxRecDepth 100000 in
theorem g104 : runCode Tryd.prog true (runCall Tryd.prog true none 300 58) none 289 none (sub B13 [true, true, true, true, true, true, true, true, true, true, true]) s1279 = some [(.ret, s1304)] := by kernel_rfl
noncomputable def s1305 : St := { tmps := l1287, h := h424, pc := ([]), marks := [], pan := none }
set_option maxRecDepth 100000 in
theorem g105 : runCode Tryd.prog true (runCall Tryd.prog true none 300 58) none 289 none (sub B13 [true, true, true, true, true, true, true, true, true, true, true]) s1280 = some [(.ret, s1305)] := by kernel_rfl
noncomputable def s1306 : St := { tmps := l1287, h := h438, pc := ([]), marks := [], pan := none }
set_option maxRecDepth 100000 in
theorem g106 : runCode Tryd.prog true (runCall Tryd.prog true none 300 58) none 289 none (sub B13 [true, true, true, true, true, true, true, true, true, true, true]) s1281 = some [(.ret, s1306)] := by kernel_rfl
noncomputable def s1307 : St := { tmps := l1287, h := h448, pc := ([]), marks := [], pan := none }
set_option maxRecDepth 100000 in
theorem g107 : runCode Tryd.prog true (runCall Tryd.prog true none 300 58) none 289 none (sub B13 [true, true, true, true, true, true, true, true, true, true, true]) s1282 = some [(.ret, s1307)] := by kernel_rfl
noncomputable def s1308 : St := { tmps := l1287, h := h458, pc := ([]), marks := [], pan := none }
set_option maxRecDepth 100000 in
theorem g108 : runCode Tryd.prog true (runCall Tryd.prog true none 300 58) none 289 none (sub B13 [true, true, true, true, true, true, true, true, true, true, true]) s1283 = some [(.ret, s1308)] := by kernel_rfl
noncomputable def s1309 : St := { tmps := l1287, h := h467, pc := ([]), marks := [], pan := none }
set_option maxRecDepth 100000 in
theorem g109 : runCode Tryd.prog true (runCall Tryd.prog true none 300 58) none 289 none (sub B13 [true, true, true, true, true, true, true, true, true, true, true]) s1284 = some [(.ret, s1309)] := by kernel_rfl
noncomputable def s1310 : St := { tmps := l1287, h := h476, pc := ([]), marks := [], pan := none }
set_option maxRecDepth 100000 in
theorem g110 : runCode Tryd.prog true (runCall Tryd.prog true none 300 58) none 289 none (sub B13 [true, true, true, true, true, true, true, true, true, true, true]) s1285 = some [(.ret, s1310)] := by kernel_rfl
noncomputable def s1311 : St := { tmps := l1287, h := h485, pc := ([]), marks := [], pan := none }
set_option maxRecDepth 100000 in
theorem g111 : runCode Tryd.prog true (runCall Tryd.prog true none 300 58) none 289 none (sub B13 [true, true, true, true, true, true, true, true, true, true, true]) s1286 = some [(.ret, s1311)] := by kernel_rfl
set_option maxRecDepth 100000 in
theorem g112 : runCode Tryd.prog true (runCall Tryd.prog true none 300 58) none 290 none (sub B13 [true, true, true, true, true, true, true, true, true, true]) s695 = some [(.ret, s1288), (.ret, s1289), (.ret, s1290), (.ret, s1291), (.ret, s1292), (.ret, s1293), (.ret, s1294), (.ret, s1295), (.ret, s1296), (.ret, s1297), (.ret, s1298), (.ret, s1299), (.ret, s1300), (.ret, s1301), (.ret, s1302), (.ret, s1303), (.ret, s1304), (.ret, s1305), (.ret, s1306), (.ret, s1307), (.ret, s1308), (.ret, s1309), (.ret, s1310), (.ret, s1311)] := cut_seqs (x := (sub B13 [true, true, true, true, true, true, true, true, true, true, false])) (y := (sub B13 [true, true, true, true, true, true, true, true, true, true, true])) (n := 289) (by kernel_rfl) g87 (then_go g88 (then_go g89 (then_go g90 (then_go g91 (then_go g92 (then_go g93 (then_go g94 (then_go g95 (then_go g96 (then_go g97 (then_go g98 (then_go g99 (then_go g100 (then_go g101 (then_go g102 (then_go g103 (then_go g104 (then_go g105 (then_go g106 (then_go g107 (then_go g108 (then_go g109 (then_go g110 (then_go g111 then_nil))))))))))))))))))))))))
set_option maxRecDepth 100000 in
theorem g113 : runCode Tryd.prog true (runCall Tryd.prog true none 300 58) none 291 none (sub B13 [true, true, true, true, true, true, true, true, true]) s663 = some [(.ret, s1288), (.ret, s1289), (.ret, s1290), (.ret, s1291), (.ret, s1292), (.ret, s1293), (.ret, s1294), (.ret, s1295), (.ret, s1296), (.ret, s1297), (.ret, s1298), (.ret, s1299), (.ret, s1300), (.ret, s1301), (.ret, s1302), (.ret, s1303), (.ret, s1304), (.ret, s1305), (.ret, s1306), (.ret, s1307), (.ret, s1308), (.ret, s1309), (.ret, s1310), (.ret, s1311)] := cut_seqs (x := (sub B13 [true, true, true, true, true, true, true, true, true, false])) (y := (sub B13 [true, true, true, true, true, true, true, true, true, true])) (n := 290) (by kernel_rfl) g16 (then_go g112 then_nil)
set_option maxRecDepth 100000 in
theorem g114 : runCode Tryd.prog true (runCall Tryd.prog true none 300 58) none 292 none (sub B13 [true, true, true, true, true, true, true, true]) s655 = some [(.ret, s1288), (.ret, s1289), (.ret, s1290), (.ret, s1291), (.ret, s1292), (.ret, s1293), (.ret, s1294), (.ret, s1295), (.ret, s1296), (.ret, s1297), (.ret, s1298), (.ret, s1299), (.ret, s1300), (.ret, s1301), (.ret, s1302), (.ret, s1303), (.ret, s1304), (.ret, s1305), (.ret, s1306), (.ret, s1307), (.ret, s1308), (.ret, s1309), (.ret, s1310), (.ret, s1311)] := cut_seqs (x := (sub B13 [true, true, true, true, true, true, true, true, false])) (y := (sub B13 [true, true, true, true, true, true, true, true, true])) (n := 291) (by kernel_rfl) g15 (then_go g113 then_nil)
set_option maxRecDepth 100000 in
theorem g115 : runCode Tryd.prog true (runCall Tryd.prog true none 300 58) none 293 none (sub B13 [true, true, true, true, true, true, true]) s653 = some [(.ret, s1288), (.ret, s1289), (.ret, s1290), (.ret, s1291), (.ret, s1292), (.ret, s1293), (.ret, s1294), (.ret, s1295), (.ret, s1296), (.ret, s1297), (.ret, s1298), (.ret, s1299), (.ret, s1300), (.ret, s1301), (.ret, s1302), (.ret, s1303), (.ret, s1304), (.ret, s1305), (.ret, s1306), (.ret, s1307), (.ret, s1308), (.ret, s1309), (.ret, s1310), (.ret, s1311)] := cut_seqs (x := (sub B13 [true, true, true, true, true, true, true, false])) (y := (sub B13 [true, true, true, true, true, true, true, true])) (n := 292) (by kernel_rfl) g14 (then_go g114 then_nil)
set_option maxRecDepth 100000 in
theorem g116 : runCode Tryd.prog true (runCall Tryd.prog true none 300 58) none 294 none (sub B13 [true, true, true, true, true, true]) s622 = some [(.ret, s1288), (.ret, s1289), (.ret, s1290), (.ret, s1291), (.ret, s1292), (.ret, s1293), (.ret, s1294), (.ret, s1295), (.ret, s1296), (.ret, s1297), (.ret, s1298), (.ret, s1299), (.ret, s1300), (.ret, s1301), (.ret, s1302), (.ret, s1303), (.ret, s1304), (.ret, s1305), (.ret, s1306), (.ret, s1307), (.ret, s1308), (.ret, s1309), (.ret, s1310), (.ret, s1311)] := cut_seqs (x := (sub B13 [true, true, true, true, true, true, false])) (y := (sub B13 [true, true, true, true, true, true, true])) (n := 293) (by kernel_rfl) g13 (then_go g115 then_nil)
set_option maxRecDepth 100000 in
theorem g117 : runCode Tryd.prog true (runCall Tryd.prog true none 300 58) none 295 none (sub B13 [true, true, true, true, true]) s586 = some [(.ret, s1288), (.ret, s1289), (.ret, s1290), (.ret, s1291), (.ret, s1292), (.ret, s1293), (.ret, s1294), (.ret, s1295), (.ret, s1296), (.ret, s1297), (.ret, s1298), (.ret, s1299), (.ret, s1300), (.ret, s1301), (.ret, s1302), (.ret, s1303), (.ret, s1304), (.ret, s1305), (.ret, s1306), (.ret, s1307), (.ret, s1308), (.ret, s1309), (.ret, s1310), (.ret, s1311)] := cut_seqs (x := (sub B13 [true, true, true, true, true, false])) (y := (sub B13 [true, true, true, true, true, true])) (n := 294) (by kernel_rfl) g12 (then_go g116 then_nil)
set_option maxRecDepth 100000 in
theorem g118 : runCode Tryd.prog true (runCall Tryd.prog true none 300 58) none 296 none (sub B13 [true, true, true, true]) s557 = some [(.ret, s1288), (.ret, s1289), (.ret, s1290), (.ret, s1291), (.ret, s1292), (.ret, s1293), (.ret, s1294), (.ret, s1295), (.ret, s1296), (.ret, s1297), (.ret, s1298), (.ret, s1299), (.ret, s1300), (.ret, s1301), (.ret, s1302), (.ret, s1303), (.ret, s1304), (.ret, s1305), (.ret, s1306), (.ret, s1307), (.ret, s1308), (.ret, s1309), (.ret, s1310), (.ret, s1311)] := cut_seqs (x := (sub B13 [true, true, true, true, false])) (y := (sub B13 [true, true, true, true, true])) (n := 295) (by kernel_rfl) g11 (then_go g117 then_nil)
set_option maxRecDepth 100000 in
theorem g119 : runCode Tryd.prog true (runCall Tryd.prog true none 300 58) none 297 none (sub B13 [true, true, true]) s548 = some [(.ret, s1288), (.ret, s1289), (.ret, s1290), (.ret, s1291), (.ret, s1292), (.ret, s1293), (.ret, s1294), (.ret, s1295), (.ret, s1296), (.ret, s1297), (.ret, s1298), (.ret, s1299), (.ret, s1300), (.ret, s1301), (.ret, s1302), (.ret, s1303), (.ret, s1304), (.ret, s1305), (.ret, s1306), (.ret, s1307), (.ret, s1308), (.ret, s1309), (.ret, s1310), (.ret, s1311)] := cut_seqs (x := (sub B13 [true, true, true, false])) (y := (sub B13 [true, true, true, true])) (n := 296) (by kernel_rfl) g10 (then_go g118 then_nil)
set_option maxRecDepth 100000 in
theorem g120 : runCode Tryd.prog true (runCall Tryd.prog true none 300 58) none 298 none (sub B13 [true, true]) s546 = some [(.ret, s1288), (.ret, s1289), (.ret, s1290), (.ret, s1291), (.ret, s1292), (.ret, s1293), (.ret, s1294), (.ret, s1295), (.ret, s1296), (.ret, s1297), (.ret, s1298), (.ret, s1299), (.ret, s1300), (.ret, s1301), (.ret, s1302), (.ret, s1303), (.ret, s1304), (.ret, s1305), (.ret, s1306), (.ret, s1307), (.ret, s1308), (.ret, s1309), (.ret, s1310), (.ret, s1311)] := cut_seqs (x := (sub B13 [true, true, false])) (y := (sub B13 [true, true, true])) (n := 297) (by kernel_rfl) g9 (then_go g119 then_nil)
set_option maxRecDepth 100000 in
theorem g121 : runCode Tryd.prog true (runCall Tryd.prog true none 300 58) none 299 none (sub B13 [true]) s536 = some [(.ret, s1288), (.ret, s1289), (.ret, s1290), (.ret, s1291), (.ret, s1292), (.ret, s1293), (.ret, s1294), (.ret, s1295), (.ret, s1296), (.ret, s1297), (.ret, s1298), (.ret, s1299), (.ret, s1300), (.ret, s1301), (.ret, s1302), (.ret, s1303), (.ret, s1304), (.ret, s1305), (.ret, s1306), (.ret, s1307), (.ret, s1308), (.ret, s1309), (.ret, s1310), (.ret, s1311)] := cut_seqs (x := (sub B13 [true, false])) (y := (sub B13 [true, true])) (n := 298) (by kernel_rfl) g8 (then_go g120 then_nil)
set_option maxRecDepth 100000 in
theorem g122 : runCode Tryd.prog true (runCall Tryd.prog true none 300 58) none 300 none (sub B13 []) s535 = some [(.ret, s1288), (.ret, s1289), (.ret, s1290), (.ret, s1291), (.ret, s1292), (.ret, s1293), (.ret, s1294), (.ret, s1295), (.ret, s1296), (.ret, s1297), (.ret, s1298), (.ret, s1299), (.ret, s1300), (.ret, s1301), (.ret, s1302), (.ret, s1303), (.ret, s1304), (.ret, s1305), (.ret, s1306), (.ret, s1307), (.ret, s1308), (.ret, s1309), (.ret, s1310), (.ret, s1311)] := cut_seqs (x := (sub B13 [false])) (y := (sub B13 [true])) (n := 299) (by kernel_rfl) g7 (then_go g121 then_nil)
set_option maxRecDepth 100000 in
theorem g123 : (runCall Tryd.prog true none 300 59) false 13 ([]) s534.h s534.pc = some [(xT, h176, ([])), (xT, h195, ([])), (xT, h214, ([])), (xT, h228, ([])), (xT, h242, ([])), (xT, h252, ([])), (xT, h284, ([])), (xT, h295, ([])), (xT, h318, ([])), (xT, h337, ([])), (xT, h346, ([])), (xT, h356, ([])), (xT, h370, ([])), (xT, h381, ([])), (xT, h396, ([])), (xT, h406, ([])), (xT, h415, ([])), (xT, h424, ([])), (xT, h438, ([])), (xT, h448, ([])), (xT, h458, ([])), (xT, h467, ([])), (xT, h476, ([])), (xT, h485, ([]))] := cut_call (d := 58) (fn := Tryd.f13) (c := sub B13 []) (l := [(.ret, s1288), (.ret, s1289), (.ret, s1290), (.ret, s1291), (.ret, s1292), (.ret, s1293), (.ret, s1294), (.ret, s1295), (.ret, s1296), (.ret, s1297), (.ret, s1298), (.ret, s1299), (.ret, s1300), (.ret, s1301), (.ret, s1302), (.ret, s1303), (.ret, s1304), (.ret, s1305), (.ret, s1306), (.ret, s1307), (.ret, s1308), (.ret, s1309), (.ret, s1310), (.ret, s1311)]) (by kernel_rfl) Tryd.func13 (by kernel_rfl) g122 (by kernel_rfl)
noncomputable def l1312 : List AV := [xF, .nilPtr, (xP 1 0), (xP 2 0), (xP 5 0), xF, (xA (ai [1, 1, 0] ++ [xF] ++ ai [0] ++ au [0] ++ ai [0])), (.tuple ([(xA (ai [0, 0, 0] ++ [xF] ++ ai [0] ++ au [0] ++ ai [0])), xF])), .nilPtr, (xA (ai [1, 1, 0] ++ [xF] ++ ai [0] ++ au [0] ++ ai [0])), (.tuple ([(xA (ai [0, 0, 0] ++ [xF] ++ ai [0] ++ au [0] ++ ai [0])), xF])), (xA (ai [0, 0, 0] ++ [xF] ++ ai [0] ++ au [0] ++ ai [0])), xF, xF, xF, .nilPtr, (xA (ai [1, 1, 0] ++ [xF] ++ ai [0] ++ au [0] ++ ai [0]))] ++ ai [1] ++ [xF, xF, xF, .nilPtr, xF, xF, xF, .nilPtr] ++ ai [0] ++ [.nilPtr, .nilSlice] ++ ai [0, 0, 0, 0] ++ [xF, xF, xF, .nilPtr, xT, xF, xF, xF, .nilPtr, (xA (ai [1, 1, 0] ++ [xF] ++ ai [0] ++ au [0] ++ ai [0])), (xL 7 0 1 1), xF, xF, xF, xT, xF, xF, xF, .nilPtr, .nilPtr, xF, xF, xF, .nilPtr, xT, xF, xF, xF, xT, xF, xF, xF, (xP 8 0), xT, xF, xF, (xA (ai [1, 1, 0] ++ [xF] ++ ai [0] ++ au [0] ++ ai [0]))] ++ ai [0] ++ [xT, xT] ++ ai [1] ++ [xT, xT, xT, xF, xT, xT, xT, xT] ++ us 1
noncomputable def s1313 : St := { tmps := l1312, h := h176, pc := ([]), marks := [], pan := none }
noncomputable def s1314 : St := { tmps := l1312, h := h195, pc := ([]), marks := [], pan := none }
noncomputable def s1315 : St := { tmps := l1312, h := h214, pc := ([]), marks := [], pan := none }
noncomputable def s1316 : St := { tmps := l1312, h := h228, pc := ([]), marks := [], pan := none }
noncomputable def s1317 : St := { tmps := l1312, h := h242, pc := ([]), marks := [], pan := none }
noncomputable def s1318 : St := { tmps := l1312, h := h252, pc := ([]), marks := [], pan := none }
noncomputable def s1319 : St := { tmps := l1312, h := h284, pc := ([]), marks := [], pan := none }
noncomputable def s1320 : St := { tmps := l1312, h := h295, pc := ([]), marks := [], pan := none }
noncomputable def s1321 : St := { tmps := l1312, h := h318, pc := ([]), marks := [], pan := none }
noncomputable def s1322 : St := { tmps := l1312, h := h337, pc := ([]), marks := [], pan := none }
noncomputable def s1323 : St := { tmps := l1312, h := h346, pc := ([]), marks := [], pan := none }
noncomputable def s1324 : St := { tmps := l1312, h := h356, pc := ([]), marks := [], pan := none }
noncomputable def s1325 : St := { tmps := l1312, h := h370, pc := ([]), marks := [], pan := none }
noncomputable def s1326 : St := { tmps := l1312, h := h381, pc := ([]), marks := [], pan := none }
noncomputable def s1327 : St := { tmps := l1312, h := h396, pc := ([]), marks := [], pan := none }
noncomputable def s1328 : St := { tmps := l1312, h := h406, pc := ([]), marks := [], pan := none }
noncomputable def s1329 : St := { tmps := l1312, h := h415, pc := ([]), marks := [], pan := none }
noncomputable def s1330 : St := { tmps := l1312, h := h424, pc := ([]), marks := [], pan := none }
noncomputable def s1331 : St := { tmps := l1312, h := h438, pc := ([]), marks := [], pan := none }
noncomputable def s1332 : St := { tmps := l1312, h := h448, pc := ([]), marks := [], pan := none }
noncomputable def s1333 : St := { tmps := l1312, h := h458, pc := ([]), marks := [], pan := none }
noncomputable def s1334 : St := { tmps := l1312, h := h467, pc := ([]), marks := [], pan := none }
noncomputable def s1335 : St := { tmps := l1312, h := h476, pc := ([]), marks := [], pan := none }
noncomputable def s1336 : St := { tmps := l1312, h := h485, pc := ([]), marks := [], pan := none }
set_option maxRecDepth 100000 in
theorem g124 : runOps Tryd.prog (runCall Tryd.prog true none 300 59) none (arrOf (sub B3 [true, true, true, true, true, true, false])) (seg (sub B3 [true, true, true, true, true, true, false]) 12 1) s534 = some [s1313, s1314, s1315, s1316, s1317, s1318, s1319, s1320, s1321, s1322, s1323, s1324, s1325, s1326, s1327, s1328, s1329, s1330, s1331, s1332, s1333, s1334, s1335, s1336] := (cut_callsegG (f := 13) (by kernel_rfl) (by kernel_rfl) g123).trans (by kernel_rfl)
noncomputable def l1337 : List AV := [xT, .nilPtr, (xP 1 0), (xP 2 0), (xP 5 0), xF, (xA (ai [1, 1, 0] ++ [xF] ++ ai [0] ++ au [0] ++ ai [0])), (.tuple ([(xA (ai [0, 0, 0] ++ [xF] ++ ai [0] ++ au [0] ++ ai [0])), xF])), .nilPtr, (xA (ai [1, 1, 0] ++ [xF] ++ ai [0] ++ au [0] ++ ai [0])), (.tuple ([(xA (ai [0, 0, 0] ++ [xF] ++ ai [0] ++ au [0] ++ ai [0])), xF])), (xA (ai [0, 0, 0] ++ [xF] ++ ai [0] ++ au [0] ++ ai [0])), xF, xF, xF, .nilPtr, (xA (ai [1, 1, 0] ++ [xF] ++ ai [0] ++ au [0] ++ ai [0]))] ++ ai [1] ++ [xF, xF, xF, .nilPtr, xF, xF, xF, .nilPtr] ++ ai [0] ++ [.nilPtr, .nilSlice] ++ ai [0, 0, 0, 0] ++ [xF, xF, xF, .nilPtr, xT, xF, xF, xF, .nilPtr, (xA (ai [1, 1, 0] ++ [xF] ++ ai [0] ++ au [0] ++ ai [0])), (xL 7 0 1 1), xF, xF, xF, xT, xF, xF, xF, .nilPtr, .nilPtr, xF, xF, xF, .nilPtr, xT, xF, xF, xF, xT, xF, xF, xF, (xP 8 0), xT, xF, xF, (xA (ai [1, 1, 0] ++ [xF] ++ ai [0] ++ au [0] ++ ai [0]))] ++ ai [0] ++ [xT, xT] ++ ai [1] ++ [xT, xT, xT, xF, xT, xT, xT, xT, xT]
noncomputable def s1338 : St := { tmps := l1337, h := h176, pc := ([]), marks := [], pan := none }
set_option maxRecDepth 100000 in
theorem g125 : runOps Tryd.prog (runCall Tryd.prog true none 300 59) none (arrOf (sub B3 [true, true, true, true, true, true, false])) ((arrOf (sub B3 [true, true, true, true, true, true, false])).toList.drop 13) s1313 = some [s1338] := by kernel_rfl
noncomputable def s1339 : St := { tmps := l1337, h := h195, pc := ([]), marks := [], pan := none }
set_option maxRecDepth 100000 in
theorem g126 : runOps Tryd.prog (runCall Tryd.prog true none 300 59) none (arrOf (sub B3 [true, true, true, true, true, true, false])) ((arrOf (sub B3 [true, true, true, true, true, true, false])).toList.drop 13) s1314 = some [s1339] := by kernel_rfl
noncomputable def s1340 : St := { tmps := l1337, h := h214, pc := ([]), marks := [], pan := none }
set_option maxRecDepth 100000 in
theorem g127 : runOps Tryd.prog (runCall Tryd.prog true none 300 59) none (arrOf (sub B3 [true, true, true, true, true, true, false])) ((arrOf (sub B3 [true, true, true, true, true, true, false])).toList.drop 13) s1315 = some [s1340] := by kernel_rfl
noncomputable def s1341 : St := { tmps := l1337, h := h228, pc := ([]), marks := [], pan := none }
set_option maxRecDepth 100000 in
theorem g128 : runOps Tryd.prog (runCall Tryd.prog true none 300 59) none (arrOf (sub B3 [true, true, true, true, true, true, false])) ((arrOf (sub B3 [true, true, true, true, true, true, false])).toList.drop 13) s1316 = some [s1341] := by kernel_rfl
noncomputable def s1342 : St := { tmps := l1337, h := h242, pc := ([]), marks := [], pan := none }
set_option maxRecDepth 100000 in
theorem g129 : runOps Tryd.prog (runCall Tryd.prog true none 300 59) none (arrOf (sub B3 [true, true, true, true, true, true, false])) ((arrOf (sub B3 [true, true, true, true, true, true, false])).toList.drop 13) s1317 = some [s1342] := by kernel_rfl
noncomputable def s1343 : St := { tmps := l1337, h := h252, pc := ([]), marks := [], pan := none }
set_option maxRecDepth 100000 in
theorem g130 : runOps Tryd.prog (runCall Tryd.prog true none 300 59) none (arrOf (sub B3 [true, true, true, true, true, true, false])) ((arrOf (sub B3 [true, true, true, true, true, true, false])).toList.drop 13) s1318 = some [s1343] := by kernel_rfl
noncomputable def s1344 : St := { tmps := l1337, h := h284, pc := ([]), marks := [], pan := none }
set_option maxRecDepth 100000 in
theorem g131 : runOps Tryd.prog (runCall Tryd.prog true none 300 59) none (arrOf (sub B3 [true, true, true, true, true, true, false])) ((arrOf (sub B3 [true, true, true, true, true, true, false])).toList.drop 13) s1319 = some [s1344] := by kernel_rfl
noncomputable def s1345 : St := { tmps := l1337, h := h295, pc := ([]), marks := [], pan := none }
set_option maxRecDepth 100000 in
theorem g132 : runOps Tryd.prog (runCall Tryd.prog true none 300 59) none (arrOf (sub B3 [true, true, true, true, true, true, false])) ((arrOf (sub B3 [true, true, true, true, true, true, false])).toList.drop 13) s1320 = some [s1345] := by kernel_rfl
noncomputable def s1346 : St := { tmps := l1337, h := h318, pc := ([]), marks := [], pan := none }
set_option maxRecDepth 100000 in
theorem g133 : runOps Tryd.prog (runCall Tryd.prog true none 300 59) none (arrOf (sub B3 [true, true, true, true, true, true, false])) ((arrOf (sub B3 [true, true, true, true, true, true, false])).toList.drop 13) s1321 = some [s1346] := by kernel_rfl
noncomputable def s1347 : St := { tmps := l1337, h := h337, pc := ([]), marks := [], pan := none }
set_option maxRecDepth 100000 in
theorem g134 : runOps Tryd.prog (runCall Tryd.prog true none 300 59) none (arrOf (sub B3 [true, true, true, true, true, true, false])) ((arrOf (sub B3 [true, true, true, true, true, true, false])).toList.drop 13) s1322 = some [s1347] := by kernel_rfl
noncomputable def s1348 : St := { tmps := l1337, h := h346, pc := ([]), marks := [], pan := none }
set_option maxRecDepth 100000 in
theorem g135 : runOps Tryd.prog (runCall Tryd.prog true none 300 59) none (arrOf (sub B3 [true, true, true, true, true, true, false])) ((arrOf (sub B3 [true, true, true, true, true, true, false])).toList.drop 13) s1323 = some [s1348] := by kernel_rfl
noncomputable def s1349 : St := { tmps := l1337, h := h356, pc := ([]), marks := [], pan := none }
set_option maxRecDepth 100000 in
theorem g136 : runOps Tryd.prog (runCall Tryd.prog true none 300 59) none (arrOf (sub B3 [true, true, true, true, true, true, false])) ((arrOf (sub B3 [true, true, true, true, true, true, false])).toList.drop 13) s1324 = some [s1349] := by kernel_rfl
noncomputable def s1350 : St := { tmps := l1337, h := h370, pc := ([]), marks := [], pan := none }
set_option maxRecDepth 100000 in
theorem g137 : runOps Tryd.prog (runCall Tryd.prog true none 300 59) none (arrOf (sub B3 [true, true, true, true, true, true, false])) ((arrOf (sub B3 [true, true, true, true, true, true, false])).toList.drop 13) s1325 = some [s1350] := by kernel_rfl
noncomputable def s1351 : St := { tmps := l1337, h := h381, pc := ([]), marks := [], pan := none }
set_option maxRecDepth 100000 in
theorem g138 : runOps Tryd.prog (runCall Tryd.prog true none 300 59) none (arrOf (sub B3 [true, true, true, true, true, true, false])) ((arrOf (sub B3 [true, true, true, true, true, true, false])).toList.drop 13) s1326 = some [s1351] := by kernel_rfl
noncomputable def s1352 : St := { tmps := l1337, h := h396, pc := ([]), marks := [], pan := none }
set_option maxRecDepth 100000 in
theorem g139 : runOps Tryd.prog (runCall Tryd.prog true none 300 59) none (arrOf (sub B3 [true, true, true, true, true, true, false])) ((arrOf (sub B3 [true, true, true, true, true, true, false])).toList.drop 13) s1327 = some [s1352] := by kernel_rfl
noncomputable def s1353 : St := { tmps := l1337, h := h406, pc := ([]), marks := [], pan := none }
set_option maxRecDepth 100000 in
theorem g140 : runOps Tryd.prog (runCall Tryd.prog true none 300 59) none (arrOf (sub B3 [true, true, true, true, true, true, false])) ((arrOf (sub B3 [true, true, true, true, true, true, false])).toList.drop 13) s1328 = some [s1353] := by kernel_rfl
noncomputable def s1354 : St := { tmps := l1337, h := h415, pc := ([]), marks := [], pan := none }
set_option maxRecDepth 100000 in
theorem g141 : runOps Tryd.prog (runCall Tryd.prog true none 300 59) none (arrOf (sub B3 [true, true, true, true, true, true, false])) ((arrOf (sub B3 [true, true, true, true, true, true, false])).toList.drop 13) s1329 = some [s1354] := by kernel_rfl
noncomputable def s1355 : St := { tmps := l1337, h := h424, pc := ([]), marks := [], pan := none }
set_option maxRecDepth 100000 in
theorem g142 : runOps Tryd.prog (runCall Tryd.prog true none 300 59) none (arrOf (sub B3 [true, true, true, true, true, true, false])) ((arrOf (sub B3 [true, true, true, true, true, true, false])).toList.drop 13) s1330 = some [s1355] := by kernel_rfl
noncomputable def s1356 : St := { tmps := l1337, h := h438, pc := ([]), marks := [], pan := none }
set_option maxRecDepth 100000 in
theorem g143 : runOps Tryd.prog (runCall Tryd.prog true none 300 59) none (arrOf (sub B3 [true, true, true, true, true, true, false])) ((arrOf (sub B3 [true, true, true, true, true, true, false])).toList.drop 13) s1331 = some [s1356] := by kernel_rfl
noncomputable def s1357 : St := { tmps := l1337, h := h448, pc := ([]), marks := [], pan := none }
set_option maxRecDepth 100000 in
theorem g144 : runOps Tryd.prog (runCall Tryd.prog true none 300 59) none (arrOf (sub B3 [true, true, true, true, true, true, false])) ((arrOf (sub B3 [true, true, true, true, true, true, false])).toList.drop 13) s1332 = some [s1357] := by kernel_rfl
noncomputable def s1358 : St := { tmps := l1337, h := h458, pc := ([]), marks := [], pan := none }
set_option maxRecDepth 100000 in
theorem g145 : runOps Tryd.prog (runCall Tryd.prog true none 300 59) none (arrOf (sub B3 [true, true, true, true, true, true, false])) ((arrOf (sub B3 [true, true, true, true, true, true, false])).toList.drop 13) s1333 = some [s1358] := by kernel_rfl
noncomputable def s1359 : St := { tmps := l1337, h := h467, pc := ([]), marks := [], pan := none }
set_option maxRecDepth 100000 in
theorem g146 : runOps Tryd.prog (runCall Tryd.prog true none 300 59) none (arrOf (sub B3 [true, true, true, true, true, true, false])) ((arrOf (sub B3 [true, true, true, true, true, true, false])).toList.drop 13) s1334 = some [s1359] := by kernel_rfl
noncomputable def s1360 : St := { tmps := l1337, h := h476, pc := ([]), marks := [], pan := none }
set_option maxRecDepth 100000 in
theorem g147 : runOps Tryd.prog (runCall Tryd.prog true none 300 59) none (arrOf (sub B3 [true, true, true, true, true, true, false])) ((arrOf (sub B3 [true, true, true, true, true, true, false])).toList.drop 13) s1335 = some [s1360] := by kernel_rfl
noncomputable def s1361 : St := { tmps := l1337, h := h485, pc := ([]), marks := [], pan := none }
set_option maxRecDepth 100000 in
theorem g148 : runOps Tryd.prog (runCall Tryd.prog true none 300 59) none (arrOf (sub B3 [true, true, true, true, true, true, false])) ((arrOf (sub B3 [true, true, true, true, true, true, false])).toList.drop 13) s1336 = some [s1361] := by kernel_rfl
set_option maxRecDepth 100000 in
theorem g149 : runOps Tryd.prog (runCall Tryd.prog true none 300 59) none (arrOf (sub B3 [true, true, true, true, true, true, false])) ((arrOf (sub B3 [true, true, true, true, true, true, false])).toList.drop 12) s534 = some [s1338, s1339, s1340, s1341, s1342, s1343, s1344, s1345, s1346, s1347, s1348, s1349, s1350, s1351, s1352, s1353, s1354, s1355, s1356, s1357, s1358, s1359, s1360, s1361] := cut_ops (i := 12) (k := 1) (j := 13) rfl g124 (by kernel_rfl) (each_go g125 (each_go g126 (each_go g127 (each_go g128 (each_go g129 (each_go g130 (each_go g131 (each_go g132 (each_go g133 (each_go g134 (each_go g135 (each_go g136 (each_go g137 (each_go g138 (each_go g139 (each_go g140 (each_go g141 (each_go g142 (each_go g143 (each_go g144 (each_go g145 (each_go g146 (each_go g147 (each_go g148 each_nil))))))))))))))))))))))))
set_option maxRecDepth 100000 in
theorem g150 : runOps Tryd.prog (runCall Tryd.prog true none 300 59) none (arrOf (sub B3 [true, true, true, true, true, true, false])) ((arrOf (sub B3 [true, true, true, true, true, true, false])).toList.drop 0) s515 = some [s1338, s1339, s1340, s1341, s1342, s1343, s1344, s1345, s1346, s1347, s1348, s1349, s1350, s1351, s1352, s1353, s1354, s1355, s1356, s1357, s1358, s1359, s1360, s1361] := cut_ops (i := 0) (k := 12) (j := 12) rfl g6 (by kernel_rfl) (each_go g149 each_nil)
set_option maxRecDepth 100000 in
theorem g151 : runCode Tryd.prog true (runCall Tryd.prog true none 300 59) none 293 none (sub B3 [true, true, true, true, true, true, false]) s515 = some [(.normal, s1338), (.normal, s1339), (.normal, s1340), (.normal, s1341), (.normal, s1342), (.normal, s1343), (.normal, s1344), (.normal, s1345), (.normal, s1346), (.normal, s1347), (.normal, s1348), (.normal, s1349), (.normal, s1350), (.normal, s1351), (.normal, s1352), (.normal, s1353), (.normal, s1354), (.normal, s1355), (.normal, s1356), (.normal, s1357), (.normal, s1358), (.normal, s1359), (.normal, s1360), (.normal, s1361)] := (cut_region (id := 7) (by kernel_rfl) g150).trans (by kernel_rfl)
set_option maxRecDepth 100000 in
theorem g152 : runCode Tryd.prog true (runCall Tryd.prog true none 300 59) none 293 none (sub B3 [true, true, true, true, true, true, true]) s1338 = some [(.ret, s1338)] := by kernel_rfl
set_option maxRecDepth 100000 in
theorem g153 : runCode Tryd.prog true (runCall Tryd.prog true none 300 59) none 293 none (sub B3 [true, true, true, true, true, true, true]) s1339 = some [(.ret, s1339)] := by kernel_rfl
set_option maxRecDepth 100000 in
theorem g154 : runCode Tryd.prog true (runCall Tryd.prog true none 300 59) none 293 none (sub B3 [true, true, true, true, true, true, true]) s1340 = some [(.ret, s1340)] := by kernel_rfl
set_option maxRecDepth 100000 in
theorem g155 : runCode Tryd.prog true (runCall Tryd.prog true none 300 59) none 293 none (sub B3 [true, true, true, true, true, true, true]) s1341 = some [(.ret, s1341)] := by kernel_rfl
set_option maxRecDepth 100000 in
theorem g156 : runCode Tryd.prog true (runCall Tryd.prog true none 300 59) none 293 none (sub B3 [true, true, true, true, true, true, true]) s1342 = some [(.ret, s1342)] := by kernel_rfl
set_option maxRecDepth 100000 in
theorem g157 : runCode Tryd.prog true (runCall Tryd.prog true none 300 59) none 293 none (sub B3 [true, true, true, true, true, true, true]) s1343 = some [(.ret, s1343)] := by kernel_rfl
set_option maxRecDepth 100000 in
theorem g158 : runCode Tryd.prog true (runCall Tryd.prog true none 300 59) none 293 none (sub B3 [true, true, true, true, true, true, true]) s1344 = some [(.ret, s1344)] := by kernel_rfl
set_option maxRecDepth 100000 in
theorem g159 : runCode Tryd.prog true (runCall Tryd.prog true none 300 59) none 293 none (sub B3 [true, true, true, true, true, true, true]) s1345 = some [(.ret, s1345)] := by kernel_rfl
set_option maxRecDepth 100000 in
theorem g160 : runCode Tryd.prog true (runCall Tryd.prog true none 300 59) none 293 none (sub B3 [true, true, true, true, true, true, true]) s1346 = some [(.ret, s1346)] := by kernel_rfl
set_option maxRecDepth 100000 in
theorem g161 : runCode Tryd.prog true (runCall Tryd.prog true none 300 59) none 293 none (sub B3 [true, true, true, true, true, true, true]) s1347 = some [(.ret, s1347)] := by kernel_rfl
set_option maxRecDepth 100000 in
theorem g162 : runCode Tryd.prog true (runCall Tryd.prog true none 300 59) none 293 none (sub B3 [true, true, true, true, true, true, true]) s1348 = some [(.ret, s1348)] := by kernel_rfl
set_option maxRecDepth 100000 in
theorem g163 : runCode Tryd.prog true (runCall Tryd.prog true none 300 59) none 293 none (sub B3 [true, true, true, true, true, true, true]) s1349 = some [(.ret, s1349)] := by kernel_rfl
set_option maxRecDepth 100000 in
theorem g164 : runCode Tryd.prog true (runCall Tryd.prog true none 300 59) none 293 none (sub B3 [true, true, true, true, true, true, true]) s1350 = some [(.ret, s1350)] := by kernel_rfl
set_option maxRecDepth 100000 in
theorem g165 : runCode Tryd.prog true (runCall Tryd.prog true none 300 59) none 293 none (sub B3 [true, true, true, true, true, true, true]) s1351 = some [(.ret, s1351)] := by kernel_rfl
set_option maxRecDepth 100000 in
theorem g166 : runCode Tryd.prog true (runCall Tryd.prog true none 300 59) none 293 none (sub B3 [true, true, true, true, true, true, true]) s1352 = some [(.ret, s1352)] := by kernel_rfl
set_option maxRecDepth 100000 in
theorem g167 : runCode Tryd.prog true (runCall Tryd.prog true none 300 59) none 293 none (sub B3 [true, true, true, true, true, true, true]) s1353 = some [(.ret, s1353)] := by kernel_rfl
set_option maxRecDepth 100000 in
theorem g168 : runCode Tryd.prog true (runCall Tryd.prog true none 300 59) none 293 none (sub B3 [true, true, true, true, true, true, true]) s1354 = some [(.ret, s1354)] := by kernel_rfl
set_option maxRecDepth 100000 in
theorem g169 : runCode Tryd.prog true (runCall Tryd.prog true none 300 59) none 293 none (sub B3 [true, true, true, true, true, true, true]) s1355 = some [(.ret, s1355)] := by kernel_rfl
set_option maxRecDepth 100000 in
theorem g170 : runCode Tryd.prog true (runCall Tryd.prog true none 300 59) none 293 none (sub B3 [true, true, true, true, true, true, true]) s1356 = some [(.ret, s1356)] := by kernel_rfl
set_option maxRecDepth 100000 in
theorem g171 : runCode Tryd.prog true (runCall Tryd.prog true none 300 59) none 293 none (sub B3 [true, true, true, true, true, true, true]) s1357 = some [(.ret, s1357)] := by kernel_rfl
set_option maxRecDepth 100000 in
theorem g172 : runCode Tryd.prog true (runCall Tryd.prog true none 300 59) none 293 none (sub B3 [true, true, true, true, true, true, true]) s1358 = some [(.ret, s1358)] := by kernel_rfl
set_option maxRecDepth 100000 in
theorem g173 : runCode Tryd.prog true (runCall Tryd.prog true none 300 59) none 293 none (sub B3 [true, true, true, true, true, true, true]) s1359 = some [(.ret, s1359)] := by kernel_rfl
set_option maxRecDepth 100000 in
theorem g174 : runCode Tryd.prog true (runCall Tryd.prog true none 300 59) none 293 none (sub B3 [true, true, true, true, true, true, true]) s1360 = some [(.ret, s1360)] := by kernel_rfl
set_option maxRecDepth 100000 in
theorem g175 : runCode Tryd.prog true (runCall Tryd.prog true none 300 59) none 293 none (sub B3 [true, true, true, true, true, true, true]) s1361 = some [(.ret, s1361)] := by kernel_rfl
set_option maxRecDepth 100000 in
theorem g176 : runCode Tryd.prog true (runCall Tryd.prog true none 300 59) none 294 none (sub B3 [true, true, true, true, true, true]) s515 = some [(.ret, s1338), (.ret, s1339), (.ret, s1340), (.ret, s1341), (.ret, s1342), (.ret, s1343), (.ret, s1344), (.ret, s1345), (.ret, s1346), (.ret, s1347), (.ret, s1348), (.ret, s1349), (.ret, s1350), (.ret, s1351), (.ret, s1352), (.ret, s1353), (.ret, s1354), (.ret, s1355), (.ret, s1356), (.ret, s1357), (.ret, s1358), (.ret, s1359), (.ret, s1360), (.ret, s1361)] := cut_seqs (x := (sub B3 [true, true, true, true, true, true, false])) (y := (sub B3 [true, true, true, true, true, true, true])) (n := 293) (by kernel_rfl) g151 (then_go g152 (then_go g153 (then_go g154 (then_go g155 (then_go g156 (then_go g157 (then_go g158 (then_go g159 (then_go g160 (then_go g161 (then_go g162 (then_go g163 (then_go g164 (then_go g165 (then_go g166 (then_go g167 (then_go g168 (then_go g169 (then_go g170 (then_go g171 (then_go g172 (then_go g173 (then_go g174 (then_go g175 then_nil))))))))))))))))))))))))
set_option maxRecDepth 100000 in
theorem g177 : runCode Tryd.prog true (runCall Tryd.prog true none 300 59) none 295 none (sub B3 [true, true, true, true, true]) s505 = some [(.ret, s1338), (.ret, s1339), (.ret, s1340), (.ret, s1341), (.ret, s1342), (.ret, s1343), (.ret, s1344), (.ret, s1345), (.ret, s1346), (.ret, s1347), (.ret, s1348), (.ret, s1349), (.ret, s1350), (.ret, s1351), (.ret, s1352), (.ret, s1353), (.ret, s1354), (.ret, s1355), (.ret, s1356), (.ret, s1357), (.ret, s1358), (.ret, s1359), (.ret, s1360), (.ret, s1361)] := cut_seqs (x := (sub B3 [true, true, true, true, true, false])) (y := (sub B3 [true, true, true, true, true, true])) (n := 294) (by kernel_rfl) g5 (then_go g176 then_nil)
set_option maxRecDepth 100000 in
theorem g178 : runCode Tryd.prog true (runCall Tryd.prog true none 300 59) none 296 none (sub B3 [true, true, true, true]) s498 = some [(.ret, s1338), (.ret, s1339), (.ret, s1340), (.ret, s1341), (.ret, s1342), (.ret, s1343), (.ret, s1344), (.ret, s1345), (.ret, s1346), (.ret, s1347), (.ret, s1348), (.ret, s1349), (.ret, s1350), (.ret, s1351), (.ret, s1352), (.ret, s1353), (.ret, s1354), (.ret, s1355), (.ret, s1356), (.ret, s1357), (.ret, s1358), (.ret, s1359), (.ret, s1360), (.ret, s1361)] := cut_seqs (x := (sub B3 [true, true, true, true, false])) (y := (sub B3 [true, true, true, true, true])) (n := 295) (by kernel_rfl) g4 (then_go g177 then_nil)
set_option maxRecDepth 100000 in
theorem g179 : runCode Tryd.prog true (runCall Tryd.prog true none 300 59) none 297 none (sub B3 [true, true, true]) s493 = some [(.ret, s1338), (.ret, s1339), (.ret, s1340), (.ret, s1341), (.ret, s1342), (.ret, s1343), (.ret, s1344), (.ret, s1345), (.ret, s1346), (.ret, s1347), (.ret, s1348), (.ret, s1349), (.ret, s1350), (.ret, s1351), (.ret, s1352), (.ret, s1353), (.ret, s1354), (.ret, s1355), (.ret, s1356), (.ret, s1357), (.ret, s1358), (.ret, s1359), (.ret, s1360), (.ret, s1361)] := cut_seqs (x := (sub B3 [true, true, true, false])) (y := (sub B3 [true, true, true, true])) (n := 296) (by kernel_rfl) g3 (then_go g178 then_nil)
set_option maxRecDepth 100000 in
theorem g180 : runCode Tryd.prog true (runCall Tryd.prog true none 300 59) none 298 none (sub B3 [true, true]) s488 = some [(.ret, s1338), (.ret, s1339), (.ret, s1340), (.ret, s1341), (.ret, s1342), (.ret, s1343), (.ret, s1344), (.ret, s1345), (.ret, s1346), (.ret, s1347), (.ret, s1348), (.ret, s1349), (.ret, s1350), (.ret, s1351), (.ret, s1352), (.ret, s1353), (.ret, s1354), (.ret, s1355), (.ret, s1356), (.ret, s1357), (.ret, s1358), (.ret, s1359), (.ret, s1360), (.ret, s1361)] := cut_seqs (x := (sub B3 [true, true, false])) (y := (sub B3 [true, true, true])) (n := 297) (by kernel_rfl) g2 (then_go g179 then_nil)
set_option maxRecDepth 100000 in
theorem g181 : runCode Tryd.prog true (runCall Tryd.prog true none 300 59) none 299 none (sub B3 [true]) s487 = some [(.ret, s1338), (.ret, s1339), (.ret, s1340), (.ret, s1341), (.ret, s1342), (.ret, s1343), (.ret, s1344), (.ret, s1345), (.ret, s1346), (.ret, s1347), (.ret, s1348), (.ret, s1349), (.ret, s1350), (.ret, s1351), (.ret, s1352), (.ret, s1353), (.ret, s1354), (.ret, s1355), (.ret, s1356), (.ret, s1357), (.ret, s1358), (.ret, s1359), (.ret, s1360), (.ret, s1361)] := cut_seqs (x := (sub B3 [true, false])) (y := (sub B3 [true, true])) (n := 298) (by kernel_rfl) g1 (then_go g180 then_nil)
set_option maxRecDepth 100000 in
theorem g182 : runCode Tryd.prog true (runCall Tryd.prog true none 300 59) none 300 none (sub B3 []) s486 = some [(.ret, s1338), (.ret, s1339), (.ret, s1340), (.ret, s1341), (.ret, s1342), (.ret, s1343), (.ret, s1344), (.ret, s1345), (.ret, s1346), (.ret, s1347), (.ret, s1348), (.ret, s1349), (.ret, s1350), (.ret, s1351), (.ret, s1352), (.ret, s1353), (.ret, s1354), (.ret, s1355), (.ret, s1356), (.ret, s1357), (.ret, s1358), (.ret, s1359), (.ret, s1360), (.ret, s1361)] := cut_seqs (x := (sub B3 [false])) (y := (sub B3 [true])) (n := 299) (by kernel_rfl) g0 (then_go g181 then_nil)
set_option maxRecDepth 100000 in
theorem g183 : (runCall Tryd.prog true none 300 60) false 3 ([]) s2.h s2.pc = some [(xT, h176, ([])), (xT, h195, ([])), (xT, h214, ([])), (xT, h228, ([])), (xT, h242, ([])), (xT, h252, ([])), (xT, h284, ([])), (xT, h295, ([])), (xT, h318, ([])), (xT, h337, ([])), (xT, h346, ([])), (xT, h356, ([])), (xT, h370, ([])), (xT, h381, ([])), (xT, h396, ([])), (xT, h406, ([])), (xT, h415, ([])), (xT, h424, ([])), (xT, h438, ([])), (xT, h448, ([])), (xT, h458, ([])), (xT, h467, ([])), (xT, h476, ([])), (xT, h485, ([]))] := cut_call (d := 59) (fn := Tryd.f3) (c := sub B3 []) (l := [(.ret, s1338), (.ret, s1339), (.ret, s1340), (.ret, s1341), (.ret, s1342), (.ret, s1343), (.ret, s1344), (.ret, s1345), (.ret, s1346), (.ret, s1347), (.ret, s1348), (.ret, s1349), (.ret, s1350), (.ret, s1351), (.ret, s1352), (.ret, s1353), (.ret, s1354), (.ret, s1355), (.ret, s1356), (.ret, s1357), (.ret, s1358), (.ret, s1359), (.ret, s1360), (.ret, s1361)]) (by kernel_rfl) Tryd.func3 (by kernel_rfl) g182 (by kernel_rfl)
theorem ranCut : allStay 1 (runCall Tryd.prog true none 300 60 false 3 [] (Hp.given [0] [au [1, 10, 100, 1000, 10000, 100000, 1000000, 10000000, 100000000, 1000000000, 10000000000, 100000000000, 1000000000000, 10000000000000, 100000000000000, 1000000000000000, 10000000000000000, 100000000000000000, 1000000000000000000, 10000000000000000000]]) []) = true := (congrArg (allStay 1) g183).trans (by kernel_rfl)

end Go.Proofs.YtimmkbfnhdcaoaaDoor.seenNilCutM
