/-
  CallNil: a run, cut into parts, each of which the kernel looks at alone (part 2).
-/
import Derived.Test.YtobmdlcdemolpaaGreatDoorCutCallNilK1
namespace Go.Proofs.YtobmdlcdemolpaaGreatDoor.callNilCutK
open Go.Sx
set_option linter.unusedVariables false

noncomputable def l2297 : List AV := [xF, (xP 24 0)] ++ ai [0] ++ [(xV 419 0 5 21 0), (xP 421 0)] ++ us 2 ++ [(.tuple ([(xP 24 0)] ++ ai [0])), (xA ([(xL 1 0 1 1)] ++ ai [4, 8, 8] ++ au [9, 99])), (.tuple ([(xP 24 0)] ++ ai [0])), (xP 24 0)] ++ ai [0, 0] ++ [xF, xF, (xP 24 0), xF, xF, (.tuple ([(xV 419 0 5 21 0), (xA (ai [0, 7] ++ [(xS [])]))])), (xP 24 0), (xA (ai [17] ++ [(xJ 2)] ++ ai [0, 0, 0] ++ [(xS []), (xS []), (.int .u32 (.lit (.ofNat 0)))] ++ ai [0, 0] ++ au [0] ++ ai [0] ++ [xT])), (xA (ai [0] ++ au [6] ++ [(xS [17, 253, 255, 255, 255, 1])])), (.tuple ([(xV 419 0 5 21 0), (xA (ai [0, 7] ++ [(xS [])]))])), (xV 419 0 5 21 0), (xA (ai [0, 7] ++ [(xS [])]))] ++ us 25
noncomputable def t2298 : BT AObj := .n (.n .e o420 .e) o423 (.n .e o422 .e)
noncomputable def t2299 : BT AObj := .n t2298 o431 t1321
noncomputable def t2300 : BT AObj := .n t1319 o433 t2299
noncomputable def t2301 : BT AObj := .n t2300 ((oC [] 155 21)) t1330
noncomputable def t2302 : BT AObj := .n t2301 o530 t1347
noncomputable def t2303 : BT AObj := .n t1316 o532 t2302
noncomputable def t2304 : BT AObj := .n t1284 o534 t2303
noncomputable def t2305 : BT AObj := .n t2304 o1069 t1478
noncomputable def m2306 : BT (List Nat) := .n m1485 [] m1155
noncomputable def m2307 : BT (List Nat) := .n m2306 [] m1480
noncomputable def m2308 : BT (List Nat) := .n m2307 [] m1482
noncomputable def m2309 : BT (List Nat) := .n m1483 [] m2308
noncomputable def m2310 : BT (List Nat) := .n m1484 [] m2309
noncomputable def m2311 : BT (List Nat) := .n m2310 [] m1500
noncomputable def h2312 : Hp := Hp.lit t2305 m2311 422 22 (by kernel_rfl)
noncomputable def s2313 : St := { tmps := l2297, h := h2312, pc := ([]), marks := [], pan := none }
set_option maxRecDepth 100000 in
theorem g71 : runOps Tryz.prog (runCall Tryz.prog true none 300 59) none (arrOf (sub B16 [true, true, true, false])) ((arrOf (sub B16 [true, true, true, false])).toList.drop 4) s2296 = some [s2313] := by kernel_rfl
set_option maxRecDepth 100000 in
theorem g72 : runOps Tryz.prog (runCall Tryz.prog true none 300 59) none (arrOf (sub B16 [true, true, true, false])) ((arrOf (sub B16 [true, true, true, false])).toList.drop 3) s1221 = some [s2313] := cut_ops (i := 3) (k := 1) (j := 4) rfl g70 (by kernel_rfl) (each_go g71 each_nil)
set_option maxRecDepth 100000 in
theorem g73 : runOps Tryz.prog (runCall Tryz.prog true none 300 59) none (arrOf (sub B16 [true, true, true, false])) ((arrOf (sub B16 [true, true, true, false])).toList.drop 0) s1164 = some [s2313] := cut_ops (i := 0) (k := 3) (j := 3) rfl g3 (by kernel_rfl) (each_go g72 each_nil)
set_option maxRecDepth 100000 in
theorem g74 : runCode Tryz.prog true (runCall Tryz.prog true none 300 59) none 296 none (sub B16 [true, true, true, false]) s1164 = some [(.normal, s2313)] := (cut_region (id := 4) (by kernel_rfl) g73).trans (by kernel_rfl)
noncomputable def l2314 : List AV := [xF, (xP 24 0)] ++ ai [0] ++ [(xV 419 0 5 21 0), (xP 421 0)] ++ us 2 ++ [(.tuple ([(xP 24 0)] ++ ai [0])), (xA ([(xL 1 0 1 1)] ++ ai [4, 8, 8] ++ au [9, 99])), (.tuple ([(xP 24 0)] ++ ai [0])), (xP 24 0)] ++ ai [0, 0] ++ [xF, xF, (xP 24 0), xF, xF, (.tuple ([(xV 419 0 5 21 0), (xA (ai [0, 7] ++ [(xS [])]))])), (xP 24 0), (xA (ai [17] ++ [(xJ 2)] ++ ai [0, 0, 0] ++ [(xS []), (xS []), (.int .u32 (.lit (.ofNat 0)))] ++ ai [0, 0] ++ au [0] ++ ai [0] ++ [xT])), (xA (ai [0] ++ au [6] ++ [(xS [17, 253, 255, 255, 255, 1])])), (.tuple ([(xV 419 0 5 21 0), (xA (ai [0, 7] ++ [(xS [])]))])), (xV 419 0 5 21 0), (xA (ai [0, 7] ++ [(xS [])]))] ++ us 1 ++ [(xP 24 0), (xA (ai [4, 99, 0, 0, 0] ++ [(xS []), (xS []), (.int .u32 (.lit (.ofNat 0)))] ++ ai [0, 0] ++ au [0] ++ ai [0] ++ [xF])), (xA (ai [0] ++ au [0] ++ [(xS [4, 99, 0, 0, 0])]))] ++ us 21
noncomputable def t2315 : BT AObj := .n (.n .e o52 .e) o55 (.n .e o54 .e)
noncomputable def t2316 : BT AObj := .n t2315 o63 t1233
noncomputable def t2317 : BT AObj := .n t1231 o65 t2316
noncomputable def t2318 : BT AObj := .n t1228 o67 t2317
noncomputable def t2319 : BT AObj := .n (.n .e o86 .e) o89 (.n .e o88 .e)
noncomputable def t2320 : BT AObj := .n t2319 o97 t1241
noncomputable def t2321 : BT AObj := .n t1239 o99 t2320
noncomputable def t2322 : BT AObj := .n t2321 o133 t1250
noncomputable def t2323 : BT AObj := .n t2318 o135 t2322
noncomputable def t2324 : BT AObj := .n (.n .e o188 .e) o191 (.n .e o190 .e)
noncomputable def t2325 : BT AObj := .n t2324 o199 t1264
noncomputable def t2326 : BT AObj := .n t1262 ((oC (cs (ai [0])) 3 51)) t2325
noncomputable def t2327 : BT AObj := .n t1259 o202 t2326
noncomputable def t2328 : BT AObj := .n (.n .e o221 .e) o224 (.n .e o223 .e)
noncomputable def t2329 : BT AObj := .n t2328 o232 t1272
noncomputable def t2330 : BT AObj := .n t1270 o234 t2329
noncomputable def t2331 : BT AObj := .n t2330 o267 t1281
noncomputable def t2332 : BT AObj := .n t2327 o269 t2331
noncomputable def t2333 : BT AObj := .n t2323 o271 t2332
noncomputable def t2334 : BT AObj := .n (.n .e o322 .e) o325 (.n .e o324 .e)
noncomputable def t2335 : BT AObj := .n t2334 o332 t1297
noncomputable def t2336 : BT AObj := .n t1294 o334 t2335
noncomputable def t2337 : BT AObj := .n t1291 o336 t2336
noncomputable def t2338 : BT AObj := .n (.n .e o354 .e) o357 (.n .e o356 .e)
noncomputable def t2339 : BT AObj := .n t2338 o365 t1305
noncomputable def t2340 : BT AObj := .n t1303 o367 t2339
noncomputable def t2341 : BT AObj := .n t2340 o400 t1314
noncomputable def t2342 : BT AObj := .n t2337 o402 t2341
noncomputable def t2343 : BT AObj := .n (.n .e o481 .e) o484 (.n .e o483 .e)
noncomputable def t2344 : BT AObj := .n t2343 o492 t1337
noncomputable def t2345 : BT AObj := .n t1335 o494 t2344
noncomputable def t2346 : BT AObj := .n t2345 o528 t1346
noncomputable def t2347 : BT AObj := .n t2301 o530 t2346
noncomputable def t2348 : BT AObj := .n t2342 o532 t2347
noncomputable def t2349 : BT AObj := .n t2333 o534 t2348
noncomputable def t2350 : BT AObj := .n (.n .e o585 .e) o588 (.n .e o587 .e)
noncomputable def t2351 : BT AObj := .n t2350 o596 t1362
noncomputable def t2352 : BT AObj := .n t1360 o598 t2351
noncomputable def t2353 : BT AObj := .n t1357 o600 t2352
noncomputable def t2354 : BT AObj := .n (.n .e o619 .e) o622 (.n .e o621 .e)
noncomputable def t2355 : BT AObj := .n t2354 o630 t1370
noncomputable def t2356 : BT AObj := .n t1368 o632 t2355
noncomputable def t2357 : BT AObj := .n t2356 o665 t1379
noncomputable def t2358 : BT AObj := .n t2353 o667 t2357
noncomputable def t2359 : BT AObj := .n (.n .e o753 .e) o756 (.n .e o755 .e)
noncomputable def t2360 : BT AObj := .n t2359 o764 t1401
noncomputable def t2361 : BT AObj := .n t1399 o766 t2360
noncomputable def t2362 : BT AObj := .n t2361 o800 t1410
noncomputable def t2363 : BT AObj := .n t1396 o802 t2362
noncomputable def t2364 : BT AObj := .n t2358 o804 t2363
noncomputable def t2365 : BT AObj := .n (.n .e o856 .e) o859 (.n .e o858 .e)
noncomputable def t2366 : BT AObj := .n t2365 o866 t1425
noncomputable def t2367 : BT AObj := .n t1423 o868 t2366
noncomputable def t2368 : BT AObj := .n t1420 o870 t2367
noncomputable def t2369 : BT AObj := .n (.n .e o889 .e) o892 (.n .e o891 .e)
noncomputable def t2370 : BT AObj := .n t2369 o900 t1433
noncomputable def t2371 : BT AObj := .n t1431 o902 t2370
noncomputable def t2372 : BT AObj := .n t2371 o936 t1442
noncomputable def t2373 : BT AObj := .n t2368 o938 t2372
noncomputable def t2374 : BT AObj := .n (.n .e o955 .e) o958 (.n .e o957 .e)
noncomputable def t2375 : BT AObj := .n t2374 o966 t1450
noncomputable def t2376 : BT AObj := .n t1448 ((oC [] 155 38)) t2375
noncomputable def t2377 : BT AObj := .n t2376 o999 t1459
noncomputable def t2378 : BT AObj := .n (.n .e o1017 .e) o1020 (.n .e o1019 .e)
noncomputable def t2379 : BT AObj := .n t2378 o1028 t1465
noncomputable def t2380 : BT AObj := .n t1463 o1030 t2379
noncomputable def t2381 : BT AObj := .n t2380 o1062 t1474
noncomputable def t2382 : BT AObj := .n t2377 o1064 t2381
noncomputable def t2383 : BT AObj := .n t2373 ((oC [] 155 6)) t2382
noncomputable def t2384 : BT AObj := .n t2364 o1067 t2383
noncomputable def t2385 : BT AObj := .n t2349 o1069 t2384
noncomputable def m2386 : BT (List Nat) := .n m1159 [] m1481
noncomputable def m2387 : BT (List Nat) := .n m2386 [] m2386
noncomputable def m2388 : BT (List Nat) := .n m2307 [] m1481
noncomputable def m2389 : BT (List Nat) := .n m2386 [] m2388
noncomputable def m2390 : BT (List Nat) := .n m2387 [] m2389
noncomputable def m2391 : BT (List Nat) := .n (.n .e [] .e) [] m1095
noncomputable def m2392 : BT (List Nat) := .n m2391 [] m1071
noncomputable def m2393 : BT (List Nat) := .n m1155 [] m2392
noncomputable def m2394 : BT (List Nat) := .n m2393 [] m1480
noncomputable def m2395 : BT (List Nat) := .n m1481 [] m2394
noncomputable def m2396 : BT (List Nat) := .n m2386 [] m2395
noncomputable def m2397 : BT (List Nat) := .n m1157 [] m1493
noncomputable def m2398 : BT (List Nat) := .n m1159 [] m2397
noncomputable def m2399 : BT (List Nat) := .n m1157 [] m1496
noncomputable def m2400 : BT (List Nat) := .n m1481 [] m2399
noncomputable def m2401 : BT (List Nat) := .n m2398 [] m2400
noncomputable def m2402 : BT (List Nat) := .n m2396 [] m2401
noncomputable def m2403 : BT (List Nat) := .n m2390 [] m2402
noncomputable def h2404 : Hp := Hp.lit t2385 m2403 436 27 (by kernel_rfl)
noncomputable def s2405 : St := { tmps := l2314, h := h2404, pc := ([]), marks := [], pan := none }
set_option maxRecDepth 100000 in
theorem g75 : runOps Tryz.prog (runCall Tryz.prog true none 300 59) none (arrOf (sub B16 [true, true, true, true, false])) (seg (sub B16 [true, true, true, true, false]) 0 3) s2313 = some [s2405] := by kernel_rfl
noncomputable def t2406 : BT AObj := .n t155 o159 (.n .e o157 .e)
noncomputable def t2407 : BT AObj := .n t2406 o167 t166
noncomputable def t2408 : BT AObj := .n t152 o169 t2407
noncomputable def t2409 : BT AObj := .n t2408 o202 t201
noncomputable def t2410 : BT AObj := .n t2409 o269 t268
noncomputable def t2411 : BT AObj := .n t136 o271 t2410
noncomputable def t2412 : BT AObj := .n t2411 o534 t533
noncomputable def t2413 : BT AObj := .n t686 o690 (.n .e o688 .e)
noncomputable def t2414 : BT AObj := .n t2413 o698 t697
noncomputable def t2415 : BT AObj := .n t684 o700 t2414
noncomputable def t2416 : BT AObj := .n t2415 o734 t733
noncomputable def t2417 : BT AObj := .n t2416 o802 t801
noncomputable def t2418 : BT AObj := .n t668 o804 t2417
noncomputable def t2419 : BT AObj := .n t824 o828 (.n .e o826 .e)
noncomputable def t2420 : BT AObj := .n t2419 o836 t835
noncomputable def t2421 : BT AObj := .n t821 o838 t2420
noncomputable def t2422 : BT AObj := .n t2421 o870 t869
noncomputable def t2423 : BT AObj := .n t2422 o938 t937
noncomputable def t2424 : BT AObj := .n t2423 ((oC [] 155 6)) t1065
noncomputable def t2425 : BT AObj := .n t2418 o1067 t2424
noncomputable def t2426 : BT AObj := .n t2412 o1069 t2425
noncomputable def m2427 : BT (List Nat) := .n m1079 [] m1079
noncomputable def m2428 : BT (List Nat) := .n m1080 [] m2427
noncomputable def m2429 : BT (List Nat) := .n m2428 [] m1086
noncomputable def m2430 : BT (List Nat) := .n m1079 [] m1099
noncomputable def m2431 : BT (List Nat) := .n m1094 [] m2430
noncomputable def m2432 : BT (List Nat) := .n m1079 [] m1105
noncomputable def m2433 : BT (List Nat) := .n m2432 [] m1109
noncomputable def m2434 : BT (List Nat) := .n m2431 [] m2433
noncomputable def m2435 : BT (List Nat) := .n m2429 [] m2434
noncomputable def h2436 : Hp := Hp.lit t2426 m2435 674 39 (by kernel_rfl)
noncomputable def l2437 : List AV := [(xP 24 0), (xA (ai [0] ++ au [0] ++ [(xS [4, 99, 0, 0, 0])]))]
noncomputable def l2438 : List AV := [(xP 24 0), (xA (ai [0] ++ au [0] ++ [(xS [4, 99, 0, 0, 0])]))] ++ us 54
noncomputable def s2439 : St := { tmps := l2438, h := h2404, pc := ([]), marks := [], pan := none }
noncomputable def l2440 : List AV := [(xP 24 0), (xA (ai [0] ++ au [0] ++ [(xS [4, 99, 0, 0, 0])]))] ++ us 1 ++ [(xP 436 0), .nilSlice, (xP 437 0)] ++ us 50
noncomputable def o2441 : AObj := (oC (cs (ai [0, 0] ++ [(xS [])])) 45 437)
noncomputable def t2442 : BT AObj := .n (.n .e o451 .e) o454 (.n .e o2441 .e)
noncomputable def t2443 : BT AObj := .n t2442 o462 t1328
noncomputable def t2444 : BT AObj := .n t1326 ((.map [] 0)) t2443
noncomputable def t2445 : BT AObj := .n t2300 ((oC [] 155 21)) t2444
noncomputable def t2446 : BT AObj := .n t2445 o530 t2346
noncomputable def t2447 : BT AObj := .n t2342 o532 t2446
noncomputable def t2448 : BT AObj := .n t2333 o534 t2447
noncomputable def t2449 : BT AObj := .n (.n .e o719 .e) o722 (.n .e o721 .e)
noncomputable def t2450 : BT AObj := .n t2449 o730 t1393
noncomputable def t2451 : BT AObj := .n t1391 o732 t2450
noncomputable def t2452 : BT AObj := .n t1388 o734 t2451
noncomputable def t2453 : BT AObj := .n t2452 o802 t2362
noncomputable def t2454 : BT AObj := .n t2358 o804 t2453
noncomputable def t2455 : BT AObj := .n t2454 o1067 t2383
noncomputable def t2456 : BT AObj := .n t2448 o1069 t2455
noncomputable def m2457 : BT (List Nat) := .n m2306 [] m1157
noncomputable def m2458 : BT (List Nat) := .n m2457 [] m1481
noncomputable def m2459 : BT (List Nat) := .n m2386 [] m2458
noncomputable def m2460 : BT (List Nat) := .n m2387 [] m2459
noncomputable def m2461 : BT (List Nat) := .n m1159 [] m2394
noncomputable def m2462 : BT (List Nat) := .n m2386 [] m2461
noncomputable def m2463 : BT (List Nat) := .n m2462 [] m2401
noncomputable def m2464 : BT (List Nat) := .n m2460 [] m2463
noncomputable def h2465 : Hp := Hp.lit t2456 m2464 438 27 (by kernel_rfl)
noncomputable def s2466 : St := { tmps := l2440, h := h2465, pc := ([]), marks := [], pan := none }
set_option maxRecDepth 100000 in
theorem g76 : runCode Tryz.prog true (runCall Tryz.prog true none 300 58) none 299 none (sub B62 [false]) s2439 = some [(.normal, s2466)] := by kernel_rfl
noncomputable def l2467 : List AV := [(xP 24 0), (xA (ai [0] ++ au [0] ++ [(xS [4, 99, 0, 0, 0])]))] ++ us 1 ++ [(xP 436 0), .nilSlice, (xP 437 0), (xP 443 0)] ++ ai [0] ++ us 4 ++ [(.tuple ([(xP 443 0)] ++ ai [0])), (xP 24 0), (xP 436 0)] ++ ai [0] ++ [(xP 436 2), (xS [4, 99, 0, 0, 0]), (xV 438 0 5 27 0), (xP 436 1)] ++ au [0] ++ [(.tuple ([(xP 443 0)] ++ ai [0])), (xP 443 0)] ++ ai [0] ++ us 32
noncomputable def t2468 : BT AObj := .n (.n .e o118 .e) o121 (.n .e o120 .e)
noncomputable def t2469 : BT AObj := .n t2468 o129 t1248
noncomputable def t2470 : BT AObj := .n t1246 o131 t2469
noncomputable def t2471 : BT AObj := .n t2321 o133 t2470
noncomputable def t2472 : BT AObj := .n t2318 o135 t2471
noncomputable def o2473 : AObj := (oC (cs ([(xP 24 0)] ++ ai [0] ++ [(xV 442 0 5 28 0)] ++ au [0] ++ ai [1, 0, 0, 0, 0, 0] ++ [(xS []), (xS []), (.int .u32 (.lit (.ofNat 0)))] ++ ai [0, 0] ++ au [0] ++ ai [0] ++ [xF, xF] ++ ai [0] ++ [xF] ++ ai [0] ++ [xF, xF, xF] ++ ai [0, 0] ++ [(xS [])] ++ ai [0, 0] ++ [(xS []), .nilPtr, .nilMap] ++ ai [0] ++ [.nilSlice] ++ ai [0] ++ [.nilFunc, .nilFunc] ++ ai [0] ++ [.nilSlice, .nilPtr, .nilPtr, .nilPtr, .nilPtr, .nilPtr, .nilPtr, .nilPtr, .nilFunc, .nilSlice] ++ ai [0, 0, 0, 0, 0] ++ [(xS []), (.int .u32 (.lit (.ofNat 0)))] ++ ai [0, 0] ++ au [0] ++ ai [0, 0] ++ au [0] ++ ai [0] ++ au [0] ++ [.nilSlice] ++ ai [0, 0, 0, 0] ++ au [0] ++ [.nilSlice, .nilSlice] ++ ai [0] ++ au [0] ++ ai [0, 0, 0, 0] ++ au [0] ++ [.nilSlice, .nilSlice] ++ ai [0] ++ au [0] ++ ai [0, 0, 0] ++ [.nilSlice])) 75 443)
noncomputable def t2474 : BT AObj := .n (.n .e o253 .e) o256 (.n .e o2473 .e)
noncomputable def t2475 : BT AObj := .n t2474 o263 t1279
noncomputable def t2476 : BT AObj := .n t1277 o265 t2475
noncomputable def t2477 : BT AObj := .n t2330 o267 t2476
noncomputable def t2478 : BT AObj := .n t2327 o269 t2477
noncomputable def t2479 : BT AObj := .n t2472 o271 t2478
noncomputable def t2480 : BT AObj := .n (.n .e o385 .e) o388 t387
noncomputable def t2481 : BT AObj := .n t2480 o396 t1312
noncomputable def t2482 : BT AObj := .n t1310 o398 t2481
noncomputable def t2483 : BT AObj := .n t2340 o400 t2482
noncomputable def t2484 : BT AObj := .n t2337 o402 t2483
noncomputable def t2485 : BT AObj := .n t2484 o532 t2446
noncomputable def t2486 : BT AObj := .n t2479 o534 t2485
noncomputable def t2487 : BT AObj := .n (.n .e o650 .e) o653 (.n .e o652 .e)
noncomputable def t2488 : BT AObj := .n t2487 o661 t1377
noncomputable def t2489 : BT AObj := .n t1375 o663 t2488
noncomputable def t2490 : BT AObj := .n t2356 o665 t2489
noncomputable def t2491 : BT AObj := .n t2353 o667 t2490
noncomputable def t2492 : BT AObj := .n t2491 o804 t2453
noncomputable def t2493 : BT AObj := .n (.n .e o921 .e) o924 (.n .e o923 .e)
noncomputable def t2494 : BT AObj := .n t2493 o932 t1440
noncomputable def t2495 : BT AObj := .n t1438 o934 t2494
noncomputable def t2496 : BT AObj := .n t2371 o936 t2495
noncomputable def t2497 : BT AObj := .n t2368 o938 t2496
noncomputable def t2498 : BT AObj := .n (.n .e o985 .e) o988 (.n .e o987 .e)
noncomputable def t2499 : BT AObj := .n t2498 o996 t1457
noncomputable def t2500 : BT AObj := .n t1455 ((.map [] 0)) t2499
noncomputable def t2501 : BT AObj := .n t2376 o999 t2500
noncomputable def t2502 : BT AObj := .n t2501 o1064 t2381
noncomputable def t2503 : BT AObj := .n t2497 ((oC [] 155 6)) t2502
noncomputable def t2504 : BT AObj := .n t2492 o1067 t2503
noncomputable def t2505 : BT AObj := .n t2486 o1069 t2504
noncomputable def m2506 : BT (List Nat) := .n m1159 [] m1159
noncomputable def m2507 : BT (List Nat) := .n m2506 [] m2506
noncomputable def m2508 : BT (List Nat) := .n m2506 [] m2458
noncomputable def m2509 : BT (List Nat) := .n m2507 [] m2508
noncomputable def m2510 : BT (List Nat) := .n m2506 [] m2461
noncomputable def m2511 : BT (List Nat) := .n (.n .e [] .e) [419, 257, 247, 197] (.n .e [] .e)
noncomputable def m2512 : BT (List Nat) := .n m2511 [] m1071
noncomputable def m2513 : BT (List Nat) := .n m1155 [] m2512
noncomputable def m2514 : BT (List Nat) := .n m1157 [] m2513
noncomputable def m2515 : BT (List Nat) := .n m1159 [] m2514
noncomputable def m2516 : BT (List Nat) := .n m1159 [] m2399
noncomputable def m2517 : BT (List Nat) := .n m2515 [] m2516
noncomputable def m2518 : BT (List Nat) := .n m2510 [] m2517
noncomputable def m2519 : BT (List Nat) := .n m2509 [] m2518
noncomputable def h2520 : Hp := Hp.lit t2505 m2519 444 29 (by kernel_rfl)
noncomputable def s2521 : St := { tmps := l2467, h := h2520, pc := ([]), marks := [], pan := none }
set_option maxRecDepth 100000 in
theorem g77 : runCode Tryz.prog true (runCall Tryz.prog true none 300 58) none 298 none (sub B62 [true, false]) s2466 = some [(.normal, s2521)] := by kernel_rfl
noncomputable def l2522 : List AV := [(xP 24 0), (xA (ai [0] ++ au [0] ++ [(xS [4, 99, 0, 0, 0])]))] ++ us 1 ++ [(xP 436 0), .nilSlice, (xP 437 0), (xP 443 0)] ++ ai [0] ++ us 4 ++ [(.tuple ([(xP 443 0)] ++ ai [0])), (xP 24 0), (xP 436 0)] ++ ai [0] ++ [(xP 436 2), (xS [4, 99, 0, 0, 0]), (xV 438 0 5 27 0), (xP 436 1)] ++ au [0] ++ [(.tuple ([(xP 443 0)] ++ ai [0])), (xP 443 0)] ++ ai [0, 0] ++ [xF, xF, (xP 443 0), xF, xF] ++ us 26
noncomputable def s2523 : St := { tmps := l2522, h := h2520, pc := ([]), marks := [], pan := none }
set_option maxRecDepth 100000 in
theorem g78 : runCode Tryz.prog true (runCall Tryz.prog true none 300 58) none 297 none (sub B62 [true, true, false]) s2521 = some [(.normal, s2523)] := by kernel_rfl
noncomputable def l2524 : List AV := [(xP 24 0), (xA (ai [0] ++ au [0] ++ [(xS [4, 99, 0, 0, 0])]))] ++ us 1 ++ [(xP 436 0), .nilSlice, (xP 437 0), (xP 443 0)] ++ ai [0] ++ [.nilSlice] ++ us 3 ++ [(.tuple ([(xP 443 0)] ++ ai [0])), (xP 24 0), (xP 436 0)] ++ ai [0] ++ [(xP 436 2), (xS [4, 99, 0, 0, 0]), (xV 438 0 5 27 0), (xP 436 1)] ++ au [0] ++ [(.tuple ([(xP 443 0)] ++ ai [0])), (xP 443 0)] ++ ai [0, 0] ++ [xF, xF, (xP 443 0), xF, xF] ++ us 26
noncomputable def s2525 : St := { tmps := l2524, h := h2520, pc := ([]), marks := [], pan := none }
set_option maxRecDepth 100000 in
theorem g79 : runCode Tryz.prog true (runCall Tryz.prog true none 300 58) none 296 none (sub B62 [true, true, true, false]) s2523 = some [(.normal, s2525)] := by kernel_rfl
noncomputable def l2526 : List AV := [(xP 24 0), (xA (ai [0] ++ au [0] ++ [(xS [4, 99, 0, 0, 0])]))] ++ us 1 ++ [(xP 436 0), .nilSlice, (xP 437 0), (xP 443 0)] ++ ai [0] ++ [.nilSlice] ++ ai [0] ++ us 2 ++ [(.tuple ([(xP 443 0)] ++ ai [0])), (xP 24 0), (xP 436 0)] ++ ai [0] ++ [(xP 436 2), (xS [4, 99, 0, 0, 0]), (xV 438 0 5 27 0), (xP 436 1)] ++ au [0] ++ [(.tuple ([(xP 443 0)] ++ ai [0])), (xP 443 0)] ++ ai [0, 0] ++ [xF, xF, (xP 443 0), xF, xF] ++ us 26
noncomputable def s2527 : St := { tmps := l2526, h := h2520, pc := ([]), marks := [], pan := none }
set_option maxRecDepth 100000 in
theorem g80 : runCode Tryz.prog true (runCall Tryz.prog true none 300 58) none 294 none (sub B62 [true, true, true, true, false, false]) s2525 = some [(.normal, s2527)] := by kernel_rfl
noncomputable def l2528 : List AV := [(xP 24 0), (xA (ai [0] ++ au [0] ++ [(xS [4, 99, 0, 0, 0])]))] ++ us 1 ++ [(xP 436 0), .nilSlice, (xP 437 0), (xP 443 0)] ++ ai [0] ++ [(xV 544 0 1 29 0)] ++ ai [1] ++ [(xP 542 0)] ++ ai [0] ++ [(.tuple ([(xP 443 0)] ++ ai [0])), (xP 24 0), (xP 436 0)] ++ ai [0] ++ [(xP 436 2), (xS [4, 99, 0, 0, 0]), (xV 438 0 5 27 0), (xP 436 1)] ++ au [0] ++ [(.tuple ([(xP 443 0)] ++ ai [0])), (xP 443 0)] ++ ai [0, 0] ++ [xF, xF, (xP 443 0), xF, xF] ++ us 1 ++ ai [0] ++ [xT, xT, (xP 443 0), xF, xT, xT] ++ ai [0, 1] ++ [(.tuple ([(xA (ai [1] ++ [xF, xF, xF] ++ ai [0, 0] ++ [(xS [])]))] ++ ai [0])), (xP 443 0), (.tuple ([(xA (ai [1] ++ [xF, xF, xF] ++ ai [0, 0] ++ [(xS [])]))] ++ ai [0])), (xA (ai [1] ++ [xF, xF, xF] ++ ai [0, 0] ++ [(xS [])]))] ++ ai [0, 0] ++ [xF] ++ us 1 ++ [.nilSlice, (xP 542 0)] ++ ai [1] ++ [(xL 543 0 1 1), (xV 544 0 1 29 0)] ++ us 3
noncomputable def t2529 : BT AObj := .n t4 o8 (.n .e o6 .e)
noncomputable def t2530 : BT AObj := .n (.n .e o11 .e) o14 (.n .e o13 .e)
noncomputable def t2531 : BT AObj := .n t2529 o16 t2530
noncomputable def t2532 : BT AObj := .n t20 o24 (.n .e o22 .e)
noncomputable def t2533 : BT AObj := .n (.n .e o27 .e) o30 (.n .e o29 .e)
noncomputable def t2534 : BT AObj := .n t2532 o32 t2533
noncomputable def t2535 : BT AObj := .n t2531 o34 t2534
noncomputable def t2536 : BT AObj := .n t38 o42 (.n .e o40 .e)
noncomputable def t2537 : BT AObj := .n (.n .e o45 .e) o48 (.n .e o47 .e)
noncomputable def t2538 : BT AObj := .n t2536 o50 t2537
noncomputable def t2539 : BT AObj := .n (.n .e o58 .e) o61 (.n .e o60 .e)
noncomputable def t2540 : BT AObj := .n t2315 o63 t2539
noncomputable def t2541 : BT AObj := .n t2538 o65 t2540
noncomputable def t2542 : BT AObj := .n t2535 o67 t2541
noncomputable def t2543 : BT AObj := .n t71 o75 (.n .e o73 .e)
noncomputable def t2544 : BT AObj := .n (.n .e o78 .e) o81 (.n .e o80 .e)
noncomputable def t2545 : BT AObj := .n t2543 o83 t2544
noncomputable def t2546 : BT AObj := .n (.n .e o92 .e) o95 (.n .e o94 .e)
noncomputable def t2547 : BT AObj := .n t2319 o97 t2546
noncomputable def t2548 : BT AObj := .n t2545 o99 t2547
noncomputable def t2549 : BT AObj := .n t103 o107 (.n .e o105 .e)
noncomputable def t2550 : BT AObj := .n (.n .e o110 .e) o113 (.n .e o112 .e)
noncomputable def t2551 : BT AObj := .n t2549 o115 t2550
noncomputable def t2552 : BT AObj := .n (.n .e o124 .e) o127 (.n .e o126 .e)
noncomputable def t2553 : BT AObj := .n t2468 o129 t2552
noncomputable def t2554 : BT AObj := .n t2551 o131 t2553
noncomputable def t2555 : BT AObj := .n t2548 o133 t2554
noncomputable def t2556 : BT AObj := .n t2542 o135 t2555
noncomputable def t2557 : BT AObj := .n t139 o143 (.n .e o141 .e)
noncomputable def t2558 : BT AObj := .n (.n .e o146 .e) o149 (.n .e o148 .e)
noncomputable def t2559 : BT AObj := .n t2557 o151 t2558
noncomputable def t2560 : BT AObj := .n (.n .e o162 .e) o165 (.n .e o164 .e)
noncomputable def t2561 : BT AObj := .n t1256 o167 t2560
noncomputable def t2562 : BT AObj := .n t2559 o169 t2561
noncomputable def t2563 : BT AObj := .n t173 o177 (.n .e o175 .e)
noncomputable def t2564 : BT AObj := .n (.n .e o180 .e) o183 (.n .e o182 .e)
noncomputable def t2565 : BT AObj := .n t2563 o185 t2564
noncomputable def t2566 : BT AObj := .n (.n .e o194 .e) o197 (.n .e o196 .e)
noncomputable def t2567 : BT AObj := .n t2324 o199 t2566
noncomputable def t2568 : BT AObj := .n t2565 ((oC (cs (ai [0])) 3 51)) t2567
noncomputable def t2569 : BT AObj := .n t2562 o202 t2568
noncomputable def t2570 : BT AObj := .n t206 o210 (.n .e o208 .e)
noncomputable def t2571 : BT AObj := .n (.n .e o213 .e) o216 (.n .e o215 .e)
noncomputable def t2572 : BT AObj := .n t2570 o218 t2571
noncomputable def t2573 : BT AObj := .n (.n .e o227 .e) o230 (.n .e o229 .e)
noncomputable def t2574 : BT AObj := .n t2328 o232 t2573
noncomputable def t2575 : BT AObj := .n t2572 o234 t2574
noncomputable def t2576 : BT AObj := .n t238 o242 (.n .e o240 .e)
noncomputable def t2577 : BT AObj := .n (.n .e o245 .e) o248 (.n .e o247 .e)
noncomputable def t2578 : BT AObj := .n t2576 o250 t2577
noncomputable def o2579 : AObj := (oC (cs ([(xP 24 0)] ++ ai [0] ++ [(xV 442 0 5 28 0)] ++ au [0] ++ ai [2, 4, 99, 0, 0, 0] ++ [(xS []), (xS []), (.int .u32 (.lit (.ofNat 0)))] ++ ai [0, 0] ++ au [0] ++ ai [0] ++ [xF, xT] ++ ai [0] ++ [xF] ++ ai [1] ++ [xF, xF, xF] ++ ai [0, 0] ++ [(xS [])] ++ ai [0, 0] ++ [(xS []), .nilPtr, .nilMap] ++ ai [0] ++ [.nilSlice] ++ ai [0] ++ [.nilFunc, .nilFunc] ++ ai [0] ++ [.nilSlice, .nilPtr, .nilPtr, .nilPtr, .nilPtr, .nilPtr, .nilPtr, .nilPtr, .nilFunc, .nilSlice] ++ ai [0, 0, 0, 0, 0] ++ [(xS []), (.int .u32 (.lit (.ofNat 0)))] ++ ai [0, 0] ++ au [0] ++ ai [0, 0] ++ au [0] ++ ai [0] ++ au [0] ++ [.nilSlice] ++ ai [0, 0, 0, 0] ++ au [0] ++ [.nilSlice, .nilSlice] ++ ai [0] ++ au [0] ++ ai [0, 0, 0, 0] ++ au [0] ++ [.nilSlice, .nilSlice] ++ ai [0] ++ au [0] ++ ai [0, 0, 0] ++ [.nilSlice])) 75 443)
noncomputable def t2580 : BT AObj := .n (.n .e o253 .e) o256 (.n .e o2579 .e)
noncomputable def t2581 : BT AObj := .n (.n .e o259 .e) o185 (.n .e o261 .e)
noncomputable def t2582 : BT AObj := .n t2580 o263 t2581
noncomputable def t2583 : BT AObj := .n t2578 o265 t2582
noncomputable def t2584 : BT AObj := .n t2575 o267 t2583
noncomputable def t2585 : BT AObj := .n t2569 o269 t2584
noncomputable def t2586 : BT AObj := .n t2556 o271 t2585
noncomputable def t2587 : BT AObj := .n t275 o279 (.n .e o277 .e)
noncomputable def t2588 : BT AObj := .n (.n .e o282 .e) o285 (.n .e o284 .e)
noncomputable def t2589 : BT AObj := .n t2587 o287 t2588
noncomputable def t2590 : BT AObj := .n (.n .e o297 .e) o300 (.n .e o299 .e)
noncomputable def t2591 : BT AObj := .n t1288 o302 t2590
noncomputable def t2592 : BT AObj := .n t2589 o304 t2591
noncomputable def t2593 : BT AObj := .n t308 o311 t239
noncomputable def t2594 : BT AObj := .n (.n .e o314 .e) o317 (.n .e o316 .e)
noncomputable def t2595 : BT AObj := .n t2593 o319 t2594
noncomputable def t2596 : BT AObj := .n t1296 o330 (.n .e o329 .e)
noncomputable def t2597 : BT AObj := .n t2334 o332 t2596
noncomputable def t2598 : BT AObj := .n t2595 o334 t2597
noncomputable def t2599 : BT AObj := .n t2592 o336 t2598
noncomputable def t2600 : BT AObj := .n t340 o344 (.n .e o342 .e)
noncomputable def t2601 : BT AObj := .n (.n .e o347 .e) o185 (.n .e o349 .e)
noncomputable def t2602 : BT AObj := .n t2600 o351 t2601
noncomputable def t2603 : BT AObj := .n (.n .e o360 .e) o363 (.n .e o362 .e)
noncomputable def t2604 : BT AObj := .n t2338 o365 t2603
noncomputable def t2605 : BT AObj := .n t2602 o367 t2604
noncomputable def t2606 : BT AObj := .n t371 o374 t239
noncomputable def t2607 : BT AObj := .n (.n .e o377 .e) o380 (.n .e o379 .e)
noncomputable def t2608 : BT AObj := .n t2606 o382 t2607
noncomputable def t2609 : BT AObj := .n (.n .e o391 .e) o394 (.n .e o393 .e)
noncomputable def t2610 : BT AObj := .n t2480 o396 t2609
noncomputable def t2611 : BT AObj := .n t2608 o398 t2610
noncomputable def t2612 : BT AObj := .n t2605 o400 t2611
noncomputable def t2613 : BT AObj := .n t2599 o402 t2612
noncomputable def t2614 : BT AObj := .n t405 o409 (.n .e o407 .e)
noncomputable def t2615 : BT AObj := .n (.n .e o412 .e) o415 (.n .e o414 .e)
noncomputable def t2616 : BT AObj := .n t2614 o417 t2615
noncomputable def t2617 : BT AObj := .n (.n .e o426 .e) o429 (.n .e o428 .e)
noncomputable def t2618 : BT AObj := .n t2298 o431 t2617
noncomputable def t2619 : BT AObj := .n t2616 o433 t2618
noncomputable def t2620 : BT AObj := .n t437 o440 t239
noncomputable def t2621 : BT AObj := .n (.n .e o443 .e) o446 (.n .e o445 .e)
noncomputable def t2622 : BT AObj := .n t2620 o448 t2621
noncomputable def t2623 : BT AObj := .n (.n .e o457 .e) o460 (.n .e o459 .e)
noncomputable def t2624 : BT AObj := .n t2442 o462 t2623
noncomputable def t2625 : BT AObj := .n t2622 ((.map [] 0)) t2624
noncomputable def t2626 : BT AObj := .n t2619 ((oC [] 155 21)) t2625
noncomputable def t2627 : BT AObj := .n t467 o471 (.n .e o469 .e)
noncomputable def t2628 : BT AObj := .n (.n .e o474 .e) o477 (.n .e o476 .e)
noncomputable def t2629 : BT AObj := .n t2627 ((oC [] 5 77)) t2628
noncomputable def t2630 : BT AObj := .n (.n .e o487 .e) o490 (.n .e o489 .e)
noncomputable def t2631 : BT AObj := .n t2343 o492 t2630
noncomputable def t2632 : BT AObj := .n t2629 o494 t2631
noncomputable def t2633 : BT AObj := .n t498 o502 (.n .e o500 .e)
noncomputable def t2634 : BT AObj := .n (.n .e o505 .e) o508 (.n .e o507 .e)
noncomputable def t2635 : BT AObj := .n t2633 o510 t2634
noncomputable def t2636 : BT AObj := .n (.n .e o513 .e) o516 (.n .e o515 .e)
noncomputable def t2637 : BT AObj := .n (.n .e o519 .e) o522 (.n .e o521 .e)
noncomputable def t2638 : BT AObj := .n t2636 o524 t2637
noncomputable def t2639 : BT AObj := .n t2635 o526 t2638
noncomputable def t2640 : BT AObj := .n t2632 o528 t2639
noncomputable def t2641 : BT AObj := .n t2626 o530 t2640
noncomputable def t2642 : BT AObj := .n t2613 o532 t2641
noncomputable def t2643 : BT AObj := .n t2586 o534 t2642
noncomputable def t2644 : BT AObj := .n t538 o542 (.n .e o540 .e)
noncomputable def t2645 : BT AObj := .n (.n .e o545 .e) ((.map [] 0)) (.n .e o547 .e)
noncomputable def t2646 : BT AObj := .n t2644 o549 t2645
noncomputable def t2647 : BT AObj := .n t553 o556 (.n .e o499 .e)
noncomputable def t2648 : BT AObj := .n (.n .e o559 .e) o562 (.n .e o561 .e)
noncomputable def t2649 : BT AObj := .n t2647 o564 t2648
noncomputable def t2650 : BT AObj := .n t2646 o566 t2649
noncomputable def t2651 : BT AObj := .n t570 o574 (.n .e o572 .e)
noncomputable def t2652 : BT AObj := .n (.n .e o577 .e) o580 (.n .e o579 .e)
noncomputable def t2653 : BT AObj := .n t2651 o582 t2652
noncomputable def t2654 : BT AObj := .n (.n .e o591 .e) o594 (.n .e o593 .e)
noncomputable def t2655 : BT AObj := .n t2350 o596 t2654
noncomputable def t2656 : BT AObj := .n t2653 o598 t2655
noncomputable def t2657 : BT AObj := .n t2650 o600 t2656
noncomputable def t2658 : BT AObj := .n t604 o608 (.n .e o606 .e)
noncomputable def t2659 : BT AObj := .n (.n .e o611 .e) o614 (.n .e o613 .e)
noncomputable def t2660 : BT AObj := .n t2658 o616 t2659
noncomputable def t2661 : BT AObj := .n (.n .e o625 .e) o628 (.n .e o627 .e)
noncomputable def t2662 : BT AObj := .n t2354 o630 t2661
noncomputable def t2663 : BT AObj := .n t2660 o632 t2662
noncomputable def t2664 : BT AObj := .n t636 o639 (.n .e o637 .e)
noncomputable def t2665 : BT AObj := .n (.n .e o642 .e) o645 (.n .e o644 .e)
noncomputable def t2666 : BT AObj := .n t2664 o647 t2665
noncomputable def t2667 : BT AObj := .n (.n .e o656 .e) o659 (.n .e o658 .e)
noncomputable def t2668 : BT AObj := .n t2487 o661 t2667
noncomputable def t2669 : BT AObj := .n t2666 o663 t2668
noncomputable def t2670 : BT AObj := .n t2663 o665 t2669
noncomputable def t2671 : BT AObj := .n t2657 o667 t2670
noncomputable def t2672 : BT AObj := .n t671 o675 (.n .e o673 .e)
noncomputable def t2673 : BT AObj := .n (.n .e o678 .e) o681 (.n .e o680 .e)
noncomputable def t2674 : BT AObj := .n t2672 o683 t2673
noncomputable def t2675 : BT AObj := .n (.n .e o693 .e) o696 (.n .e o695 .e)
noncomputable def t2676 : BT AObj := .n t1385 o698 t2675
noncomputable def t2677 : BT AObj := .n t2674 o700 t2676
noncomputable def t2678 : BT AObj := .n t704 o708 (.n .e o706 .e)
noncomputable def t2679 : BT AObj := .n (.n .e o711 .e) o714 (.n .e o713 .e)
noncomputable def t2680 : BT AObj := .n t2678 o716 t2679
noncomputable def t2681 : BT AObj := .n (.n .e o725 .e) o728 (.n .e o727 .e)
noncomputable def t2682 : BT AObj := .n t2449 o730 t2681
noncomputable def t2683 : BT AObj := .n t2680 o732 t2682
noncomputable def t2684 : BT AObj := .n t2677 o734 t2683
noncomputable def t2685 : BT AObj := .n t738 o742 (.n .e o740 .e)
noncomputable def t2686 : BT AObj := .n (.n .e o745 .e) o748 (.n .e o747 .e)
noncomputable def t2687 : BT AObj := .n t2685 o750 t2686
noncomputable def t2688 : BT AObj := .n (.n .e o759 .e) o762 (.n .e o761 .e)
noncomputable def t2689 : BT AObj := .n t2359 o764 t2688
noncomputable def t2690 : BT AObj := .n t2687 o766 t2689
noncomputable def t2691 : BT AObj := .n t770 o774 (.n .e o772 .e)
noncomputable def t2692 : BT AObj := .n (.n .e o777 .e) o780 (.n .e o779 .e)
noncomputable def t2693 : BT AObj := .n t2691 o782 t2692
noncomputable def t2694 : BT AObj := .n (.n .e o785 .e) o788 (.n .e o787 .e)
noncomputable def t2695 : BT AObj := .n (.n .e o791 .e) o794 (.n .e o793 .e)
noncomputable def t2696 : BT AObj := .n t2694 o796 t2695
noncomputable def t2697 : BT AObj := .n t2693 o798 t2696
noncomputable def t2698 : BT AObj := .n t2690 o800 t2697
noncomputable def t2699 : BT AObj := .n t2684 o802 t2698
noncomputable def t2700 : BT AObj := .n t2671 o804 t2699
noncomputable def t2701 : BT AObj := .n t808 o812 (.n .e o810 .e)
noncomputable def t2702 : BT AObj := .n (.n .e o815 .e) o818 (.n .e o817 .e)
noncomputable def t2703 : BT AObj := .n t2701 o820 t2702
noncomputable def t2704 : BT AObj := .n (.n .e o831 .e) o834 (.n .e o833 .e)
noncomputable def t2705 : BT AObj := .n t1417 o836 t2704
noncomputable def t2706 : BT AObj := .n t2703 o838 t2705
noncomputable def t2707 : BT AObj := .n t842 o845 (.n .e o843 .e)
noncomputable def t2708 : BT AObj := .n (.n .e o848 .e) o851 (.n .e o850 .e)
noncomputable def t2709 : BT AObj := .n t2707 o853 t2708
noncomputable def t2710 : BT AObj := .n (.n .e o862 .e) ((oC [] 246 242)) (.n .e o864 .e)
noncomputable def t2711 : BT AObj := .n t2365 o866 t2710
noncomputable def t2712 : BT AObj := .n t2709 o868 t2711
noncomputable def t2713 : BT AObj := .n t2706 o870 t2712
noncomputable def t2714 : BT AObj := .n t874 o878 (.n .e o876 .e)
noncomputable def t2715 : BT AObj := .n (.n .e o881 .e) o884 (.n .e o883 .e)
noncomputable def t2716 : BT AObj := .n t2714 o886 t2715
noncomputable def t2717 : BT AObj := .n (.n .e o895 .e) o898 (.n .e o897 .e)
noncomputable def t2718 : BT AObj := .n t2369 o900 t2717
noncomputable def t2719 : BT AObj := .n t2716 o902 t2718
noncomputable def t2720 : BT AObj := .n t906 o910 (.n .e o908 .e)
noncomputable def t2721 : BT AObj := .n (.n .e o913 .e) o916 (.n .e o915 .e)
noncomputable def t2722 : BT AObj := .n t2720 o918 t2721
noncomputable def t2723 : BT AObj := .n (.n .e o927 .e) o930 (.n .e o929 .e)
noncomputable def t2724 : BT AObj := .n t2493 o932 t2723
noncomputable def t2725 : BT AObj := .n t2722 o934 t2724
noncomputable def t2726 : BT AObj := .n t2719 o936 t2725
noncomputable def t2727 : BT AObj := .n t2713 o938 t2726
noncomputable def t2728 : BT AObj := .n t941 o945 (.n .e o943 .e)
noncomputable def t2729 : BT AObj := .n (.n .e o948 .e) o951 (.n .e o950 .e)
noncomputable def t2730 : BT AObj := .n t2728 ((oC (cs (ay [1])) 5 70)) t2729
noncomputable def t2731 : BT AObj := .n (.n .e o961 .e) o964 (.n .e o963 .e)
noncomputable def t2732 : BT AObj := .n t2374 o966 t2731
noncomputable def t2733 : BT AObj := .n t2730 ((oC [] 155 38)) t2732
noncomputable def t2734 : BT AObj := .n t971 o974 (.n .e o972 .e)
noncomputable def t2735 : BT AObj := .n (.n .e o977 .e) o980 (.n .e o979 .e)
noncomputable def t2736 : BT AObj := .n t2734 o982 t2735
noncomputable def t2737 : BT AObj := .n (.n .e o991 .e) o994 (.n .e o993 .e)
noncomputable def t2738 : BT AObj := .n t2498 o996 t2737
noncomputable def t2739 : BT AObj := .n t2736 ((.map [] 0)) t2738
noncomputable def t2740 : BT AObj := .n t2733 o999 t2739
noncomputable def t2741 : BT AObj := .n t1003 o1006 (.n .e o1004 .e)
noncomputable def t2742 : BT AObj := .n (.n .e o1009 .e) o1012 (.n .e o1011 .e)
noncomputable def t2743 : BT AObj := .n t2741 o1014 t2742
noncomputable def t2744 : BT AObj := .n (.n .e o1023 .e) o1026 (.n .e o1025 .e)
noncomputable def t2745 : BT AObj := .n t2378 o1028 t2744
noncomputable def t2746 : BT AObj := .n t2743 o1030 t2745
noncomputable def t2747 : BT AObj := .n t1034 o1037 t239
noncomputable def t2748 : BT AObj := .n (.n .e o1040 .e) o1043 (.n .e o1042 .e)
noncomputable def t2749 : BT AObj := .n t2747 o1045 t2748
noncomputable def t2750 : BT AObj := .n (.n .e o1048 .e) o185 (.n .e o1050 .e)
noncomputable def t2751 : BT AObj := .n (.n .e o1053 .e) o1056 (.n .e o1055 .e)
noncomputable def t2752 : BT AObj := .n t2750 o1058 t2751
noncomputable def t2753 : BT AObj := .n t2749 o1060 t2752
noncomputable def t2754 : BT AObj := .n t2746 o1062 t2753
noncomputable def t2755 : BT AObj := .n t2740 o1064 t2754
noncomputable def t2756 : BT AObj := .n t2727 ((oC [] 155 6)) t2755
noncomputable def t2757 : BT AObj := .n t2700 o1067 t2756
noncomputable def t2758 : BT AObj := .n t2643 o1069 t2757
noncomputable def m2759 : BT (List Nat) := .n m1214 [] m1980
noncomputable def m2760 : BT (List Nat) := .n m1980 [] m1980
noncomputable def m2761 : BT (List Nat) := .n m2759 [] m2760
noncomputable def m2762 : BT (List Nat) := .n m2760 [] m2760
noncomputable def m2763 : BT (List Nat) := .n m2761 [] m2762
noncomputable def m2764 : BT (List Nat) := .n m1073 [71] m1153
noncomputable def m2765 : BT (List Nat) := .n m2764 [] m1154
noncomputable def m2766 : BT (List Nat) := .n m2765 [] m1980
noncomputable def m2767 : BT (List Nat) := .n m2766 [] m2760
noncomputable def m2768 : BT (List Nat) := .n m2762 [] m2767
noncomputable def m2769 : BT (List Nat) := .n m2763 [] m2768
noncomputable def m2770 : BT (List Nat) := .n m2391 [] m1153
noncomputable def m2771 : BT (List Nat) := .n m1207 [] m2770
noncomputable def m2772 : BT (List Nat) := .n m2771 [] m1980
noncomputable def m2773 : BT (List Nat) := .n m2760 [] m2772
noncomputable def m2774 : BT (List Nat) := .n m2761 [] m2773
noncomputable def m2775 : BT (List Nat) := .n m2511 [] m1153
noncomputable def m2776 : BT (List Nat) := .n m1207 [] m2775
noncomputable def m2777 : BT (List Nat) := .n m1980 [] m2776
noncomputable def m2778 : BT (List Nat) := .n m2760 [] m2777
noncomputable def m2779 : BT (List Nat) := .n m1207 [68, 66, 64] m1154
noncomputable def m2780 : BT (List Nat) := .n m1980 [] m2779
noncomputable def m2781 : BT (List Nat) := .n m2760 [] m2780
noncomputable def m2782 : BT (List Nat) := .n m2778 [] m2781
noncomputable def m2783 : BT (List Nat) := .n m2774 [] m2782
noncomputable def m2784 : BT (List Nat) := .n m2769 [] m2783
noncomputable def h2785 : Hp := Hp.lit t2758 m2784 545 30 (by kernel_rfl)
noncomputable def s2786 : St := { tmps := l2528, h := h2785, pc := ([]), marks := [], pan := none }
set_option maxRecDepth 100000 in
theorem g81 : runCode Tryz.prog true (runCall Tryz.prog true none 300 58) none 292 none (sub B62 [true, true, true, true, false, true, false, false]) s2527 = some [(.normal, s2786)] := by kernel_rfl
noncomputable def l2787 : List AV := [(xP 24 0), (xA (ai [0] ++ au [0] ++ [(xS [4, 99, 0, 0, 0])]))] ++ us 1 ++ [(xP 436 0), .nilSlice, (xP 437 0), (xP 443 0)] ++ ai [0] ++ [(xV 672 0 4 38 0)] ++ ai [4] ++ [(xP 670 0)] ++ ai [0] ++ [(.tuple ([(xP 443 0)] ++ ai [0])), (xP 24 0), (xP 436 0)] ++ ai [0] ++ [(xP 436 2), (xS [4, 99, 0, 0, 0]), (xV 438 0 5 27 0), (xP 436 1)] ++ au [0] ++ [(.tuple ([(xP 443 0)] ++ ai [0])), (xP 443 0)] ++ ai [0, 0] ++ [xF, xF, (xP 443 0), xF, xF] ++ us 1 ++ ai [4] ++ [xT, xT, (xP 443 0), xT, xF, xF] ++ ai [3, 4] ++ [(.tuple ([(xA (ai [14] ++ [xF, xF, xT] ++ ai [4, 0] ++ [(xS [])]))] ++ ai [0])), (xP 443 0), (.tuple ([(xA (ai [14] ++ [xF, xF, xT] ++ ai [4, 0] ++ [(xS [])]))] ++ ai [0])), (xA (ai [14] ++ [xF, xF, xT] ++ ai [4, 0] ++ [(xS [])]))] ++ ai [0, 0] ++ [xF] ++ us 1 ++ [(xV 605 0 3 34 0), (xP 670 0)] ++ ai [14] ++ [(xL 671 0 1 1), (xV 672 0 4 38 0)] ++ us 3
noncomputable def t2788 : BT AObj := .n t291 o295 (.n .e o293 .e)
noncomputable def t2789 : BT AObj := .n t2788 o302 t301
noncomputable def t2790 : BT AObj := .n t288 o304 t2789
noncomputable def t2791 : BT AObj := .n t2790 o336 t335
noncomputable def t2792 : BT AObj := .n t2791 o402 t401
noncomputable def t2793 : BT AObj := .n t452 o454 (.n .e o2441 .e)
noncomputable def t2794 : BT AObj := .n t2793 o462 t461
noncomputable def t2795 : BT AObj := .n t449 ((.map [] 0)) t2794
noncomputable def t2796 : BT AObj := .n t434 ((oC [] 155 21)) t2795
noncomputable def t2797 : BT AObj := .n t2796 o530 t529
noncomputable def t2798 : BT AObj := .n t2792 o532 t2797
noncomputable def t2799 : BT AObj := .n t2411 o534 t2798
noncomputable def t2800 : BT AObj := .n t2799 o1069 t2425
noncomputable def m2801 : BT (List Nat) := .n m2427 [] m1085
noncomputable def m2802 : BT (List Nat) := .n m2428 [] m2801
noncomputable def m2803 : BT (List Nat) := .n m2802 [] m2434
noncomputable def h2804 : Hp := Hp.lit t2800 m2803 673 39 (by kernel_rfl)
noncomputable def s2805 : St := { tmps := l2787, h := h2804, pc := ([]), marks := [], pan := none }
set_option maxRecDepth 100000 in
theorem g82 : runCode Tryz.prog true (runCall Tryz.prog true none 300 58) none 292 none (sub B62 [true, true, true, true, false, true, false]) s2786 = some [((.exit 0), s2805)] := by kernel_rfl
set_option maxRecDepth 100000 in
theorem g83 : runCode Tryz.prog true (runCall Tryz.prog true none 300 58) none 293 none (sub B62 [true, true, true, true, false, true, false]) s2527 = some [((.exit 0), s2805)] := cut_loops (x := (sub B62 [true, true, true, true, false, true, false, false])) (n := 292) (by kernel_rfl) g81 (then_go g82 then_nil)
set_option maxRecDepth 100000 in
theorem g84 : runCode Tryz.prog true (runCall Tryz.prog true none 300 58) none 294 none (sub B62 [true, true, true, true, false, true]) s2527 = some [(.normal, s2805)] := cut_block (id := 0) (x := (sub B62 [true, true, true, true, false, true, false])) (n := 293) (by kernel_rfl) g83
set_option maxRecDepth 100000 in
theorem g85 : runCode Tryz.prog true (runCall Tryz.prog true none 300 58) none 295 none (sub B62 [true, true, true, true, false]) s2525 = some [(.normal, s2805)] := cut_seqs (x := (sub B62 [true, true, true, true, false, false])) (y := (sub B62 [true, true, true, true, false, true])) (n := 294) (by kernel_rfl) g80 (then_go g84 then_nil)
noncomputable def l2806 : List AV := [(xP 24 0), (xA (ai [0] ++ au [0] ++ [(xS [4, 99, 0, 0, 0])]))] ++ us 1 ++ [(xP 436 0), (xV 672 0 4 38 0), (xP 437 0), (xP 443 0)] ++ ai [0] ++ [(xV 672 0 4 38 0)] ++ ai [4] ++ [(xP 670 0)] ++ ai [0] ++ [(.tuple ([(xP 443 0)] ++ ai [0])), (xP 24 0), (xP 436 0)] ++ ai [0] ++ [(xP 436 2), (xS [4, 99, 0, 0, 0]), (xV 438 0 5 27 0), (xP 436 1)] ++ au [0] ++ [(.tuple ([(xP 443 0)] ++ ai [0])), (xP 443 0)] ++ ai [0, 0] ++ [xF, xF, (xP 443 0), xF, xF] ++ us 1 ++ ai [4] ++ [xT, xT, (xP 443 0), xT, xF, xF] ++ ai [3, 4] ++ [(.tuple ([(xA (ai [14] ++ [xF, xF, xT] ++ ai [4, 0] ++ [(xS [])]))] ++ ai [0])), (xP 443 0), (.tuple ([(xA (ai [14] ++ [xF, xF, xT] ++ ai [4, 0] ++ [(xS [])]))] ++ ai [0])), (xA (ai [14] ++ [xF, xF, xT] ++ ai [4, 0] ++ [(xS [])]))] ++ ai [0, 0] ++ [xF] ++ us 1 ++ [(xV 605 0 3 34 0), (xP 670 0)] ++ ai [14] ++ [(xL 671 0 1 1), (xV 672 0 4 38 0), (xV 672 0 4 38 0), (xP 443 0), (xA (ai [4, 0] ++ [(xS [])]))]
noncomputable def s2807 : St := { tmps := l2806, h := h2436, pc := ([]), marks := [], pan := none }
set_option maxRecDepth 100000 in
theorem g86 : runCode Tryz.prog true (runCall Tryz.prog true none 300 58) none 295 none (sub B62 [true, true, true, true, true]) s2805 = some [(.ret, s2807)] := by kernel_rfl
set_option maxRecDepth 100000 in
theorem g87 : runCode Tryz.prog true (runCall Tryz.prog true none 300 58) none 296 none (sub B62 [true, true, true, true]) s2525 = some [(.ret, s2807)] := cut_seqs (x := (sub B62 [true, true, true, true, false])) (y := (sub B62 [true, true, true, true, true])) (n := 295) (by kernel_rfl) g85 (then_go g86 then_nil)
set_option maxRecDepth 100000 in
theorem g88 : runCode Tryz.prog true (runCall Tryz.prog true none 300 58) none 297 none (sub B62 [true, true, true]) s2523 = some [(.ret, s2807)] := cut_seqs (x := (sub B62 [true, true, true, false])) (y := (sub B62 [true, true, true, true])) (n := 296) (by kernel_rfl) g79 (then_go g87 then_nil)
set_option maxRecDepth 100000 in
theorem g89 : runCode Tryz.prog true (runCall Tryz.prog true none 300 58) none 298 none (sub B62 [true, true]) s2521 = some [(.ret, s2807)] := cut_seqs (x := (sub B62 [true, true, false])) (y := (sub B62 [true, true, true])) (n := 297) (by kernel_rfl) g78 (then_go g88 then_nil)
set_option maxRecDepth 100000 in
theorem g90 : runCode Tryz.prog true (runCall Tryz.prog true none 300 58) none 299 none (sub B62 [true]) s2466 = some [(.ret, s2807)] := cut_seqs (x := (sub B62 [true, false])) (y := (sub B62 [true, true])) (n := 298) (by kernel_rfl) g77 (then_go g89 then_nil)
set_option maxRecDepth 100000 in
theorem g91 : runCode Tryz.prog true (runCall Tryz.prog true none 300 58) none 300 none (sub B62 []) s2439 = some [(.ret, s2807)] := cut_seqs (x := (sub B62 [false])) (y := (sub B62 [true])) (n := 299) (by kernel_rfl) g76 (then_go g90 then_nil)
set_option maxRecDepth 100000 in
theorem g92 : (runCall Tryz.prog true none 300 59) false 62 l2437 s2405.h s2405.pc = some [((.tuple ([(xV 672 0 4 38 0), (xA (ai [4, 0] ++ [(xS [])]))])), h2436, ([]))] := cut_call (d := 58) (fn := Tryz.f62) (c := sub B62 []) (l := [(.ret, s2807)]) (by kernel_rfl) Tryz.func62 (by kernel_rfl) g91 (by kernel_rfl)
noncomputable def l2808 : List AV := [xF, (xP 24 0)] ++ ai [0] ++ [(xV 419 0 5 21 0), (xP 421 0)] ++ us 2 ++ [(.tuple ([(xP 24 0)] ++ ai [0])), (xA ([(xL 1 0 1 1)] ++ ai [4, 8, 8] ++ au [9, 99])), (.tuple ([(xP 24 0)] ++ ai [0])), (xP 24 0)] ++ ai [0, 0] ++ [xF, xF, (xP 24 0), xF, xF, (.tuple ([(xV 419 0 5 21 0), (xA (ai [0, 7] ++ [(xS [])]))])), (xP 24 0), (xA (ai [17] ++ [(xJ 2)] ++ ai [0, 0, 0] ++ [(xS []), (xS []), (.int .u32 (.lit (.ofNat 0)))] ++ ai [0, 0] ++ au [0] ++ ai [0] ++ [xT])), (xA (ai [0] ++ au [6] ++ [(xS [17, 253, 255, 255, 255, 1])])), (.tuple ([(xV 419 0 5 21 0), (xA (ai [0, 7] ++ [(xS [])]))])), (xV 419 0 5 21 0), (xA (ai [0, 7] ++ [(xS [])]))] ++ us 1 ++ [(xP 24 0), (xA (ai [4, 99, 0, 0, 0] ++ [(xS []), (xS []), (.int .u32 (.lit (.ofNat 0)))] ++ ai [0, 0] ++ au [0] ++ ai [0] ++ [xF])), (xA (ai [0] ++ au [0] ++ [(xS [4, 99, 0, 0, 0])])), (.tuple ([(xV 672 0 4 38 0), (xA (ai [4, 0] ++ [(xS [])]))]))] ++ us 20
noncomputable def s2809 : St := { tmps := l2808, h := h2436, pc := ([]), marks := [], pan := none }
set_option maxRecDepth 100000 in
theorem g93 : runOps Tryz.prog (runCall Tryz.prog true none 300 59) none (arrOf (sub B16 [true, true, true, true, false])) (seg (sub B16 [true, true, true, true, false]) 3 1) s2405 = some [s2809] := (cut_callseg (f := 62) (by kernel_rfl) (by kernel_rfl) g92).trans (by kernel_rfl)
noncomputable def l2810 : List AV := [xF, (xP 24 0)] ++ ai [0] ++ [(xV 419 0 5 21 0), (xP 421 0), (xV 672 0 4 38 0), (xP 674 0), (.tuple ([(xP 24 0)] ++ ai [0])), (xA ([(xL 1 0 1 1)] ++ ai [4, 8, 8] ++ au [9, 99])), (.tuple ([(xP 24 0)] ++ ai [0])), (xP 24 0)] ++ ai [0, 0] ++ [xF, xF, (xP 24 0), xF, xF, (.tuple ([(xV 419 0 5 21 0), (xA (ai [0, 7] ++ [(xS [])]))])), (xP 24 0), (xA (ai [17] ++ [(xJ 2)] ++ ai [0, 0, 0] ++ [(xS []), (xS []), (.int .u32 (.lit (.ofNat 0)))] ++ ai [0, 0] ++ au [0] ++ ai [0] ++ [xT])), (xA (ai [0] ++ au [6] ++ [(xS [17, 253, 255, 255, 255, 1])])), (.tuple ([(xV 419 0 5 21 0), (xA (ai [0, 7] ++ [(xS [])]))])), (xV 419 0 5 21 0), (xA (ai [0, 7] ++ [(xS [])])), (.tuple ([(xV 672 0 4 38 0), (xA (ai [4, 0] ++ [(xS [])]))])), (xP 24 0), (xA (ai [4, 99, 0, 0, 0] ++ [(xS []), (xS []), (.int .u32 (.lit (.ofNat 0)))] ++ ai [0, 0] ++ au [0] ++ ai [0] ++ [xF])), (xA (ai [0] ++ au [0] ++ [(xS [4, 99, 0, 0, 0])])), (.tuple ([(xV 672 0 4 38 0), (xA (ai [4, 0] ++ [(xS [])]))])), (xV 672 0 4 38 0), (xA (ai [4, 0] ++ [(xS [])]))] ++ us 18
noncomputable def t2811 : BT AObj := .n t2418 o1067 t1066
noncomputable def t2812 : BT AObj := .n t2412 o1069 t2811
noncomputable def m2813 : BT (List Nat) := .n m2431 [] m1110
noncomputable def m2814 : BT (List Nat) := .n m2429 [] m2813
noncomputable def h2815 : Hp := Hp.lit t2812 m2814 675 39 (by kernel_rfl)
noncomputable def s2816 : St := { tmps := l2810, h := h2815, pc := ([]), marks := [], pan := none }
set_option maxRecDepth 100000 in
theorem g94 : runOps Tryz.prog (runCall Tryz.prog true none 300 59) none (arrOf (sub B16 [true, true, true, true, false])) ((arrOf (sub B16 [true, true, true, true, false])).toList.drop 4) s2809 = some [s2816] := by kernel_rfl
set_option maxRecDepth 100000 in
theorem g95 : runOps Tryz.prog (runCall Tryz.prog true none 300 59) none (arrOf (sub B16 [true, true, true, true, false])) ((arrOf (sub B16 [true, true, true, true, false])).toList.drop 3) s2405 = some [s2816] := cut_ops (i := 3) (k := 1) (j := 4) rfl g93 (by kernel_rfl) (each_go g94 each_nil)
set_option maxRecDepth 100000 in
theorem g96 : runOps Tryz.prog (runCall Tryz.prog true none 300 59) none (arrOf (sub B16 [true, true, true, true, false])) ((arrOf (sub B16 [true, true, true, true, false])).toList.drop 0) s2313 = some [s2816] := cut_ops (i := 0) (k := 3) (j := 3) rfl g75 (by kernel_rfl) (each_go g95 each_nil)
set_option maxRecDepth 100000 in
theorem g97 : runCode Tryz.prog true (runCall Tryz.prog true none 300 59) none 295 none (sub B16 [true, true, true, true, false]) s2313 = some [(.normal, s2816)] := (cut_region (id := 5) (by kernel_rfl) g96).trans (by kernel_rfl)
noncomputable def l2817 : List AV := [xT, (xP 24 0)] ++ ai [0] ++ [(xV 419 0 5 21 0), (xP 421 0), (xV 672 0 4 38 0), (xP 674 0), (.tuple ([(xP 24 0)] ++ ai [0])), (xA ([(xL 1 0 1 1)] ++ ai [4, 8, 8] ++ au [9, 99])), (.tuple ([(xP 24 0)] ++ ai [0])), (xP 24 0)] ++ ai [0, 0] ++ [xF, xF, (xP 24 0), xF, xF, (.tuple ([(xV 419 0 5 21 0), (xA (ai [0, 7] ++ [(xS [])]))])), (xP 24 0), (xA (ai [17] ++ [(xJ 2)] ++ ai [0, 0, 0] ++ [(xS []), (xS []), (.int .u32 (.lit (.ofNat 0)))] ++ ai [0, 0] ++ au [0] ++ ai [0] ++ [xT])), (xA (ai [0] ++ au [6] ++ [(xS [17, 253, 255, 255, 255, 1])])), (.tuple ([(xV 419 0 5 21 0), (xA (ai [0, 7] ++ [(xS [])]))])), (xV 419 0 5 21 0), (xA (ai [0, 7] ++ [(xS [])])), (.tuple ([(xV 672 0 4 38 0), (xA (ai [4, 0] ++ [(xS [])]))])), (xP 24 0), (xA (ai [4, 99, 0, 0, 0] ++ [(xS []), (xS []), (.int .u32 (.lit (.ofNat 0)))] ++ ai [0, 0] ++ au [0] ++ ai [0] ++ [xF])), (xA (ai [0] ++ au [0] ++ [(xS [4, 99, 0, 0, 0])])), (.tuple ([(xV 672 0 4 38 0), (xA (ai [4, 0] ++ [(xS [])]))])), (xV 672 0 4 38 0), (xA (ai [4, 0] ++ [(xS [])])), (xV 419 0 5 21 0), (xL 675 0 5 5), xT, xT, (xA (ai [0, 7] ++ [(xS [])])), (xA (ai [0, 7] ++ [(xS [])])), xT, xT, xT, (xV 672 0 4 38 0), (xL 676 0 4 4), xT, xT, xT, (xA (ai [4, 0] ++ [(xS [])])), (xA (ai [4, 0] ++ [(xS [])])), xT, xT]
noncomputable def s2818 : St := { tmps := l2817, h := h1113, pc := ([]), marks := [], pan := none }
set_option maxRecDepth 100000 in
theorem g98 : runCode Tryz.prog true (runCall Tryz.prog true none 300 59) none 295 none (sub B16 [true, true, true, true, true]) s2816 = some [(.ret, s2818)] := by kernel_rfl
set_option maxRecDepth 100000 in
theorem g99 : runCode Tryz.prog true (runCall Tryz.prog true none 300 59) none 296 none (sub B16 [true, true, true, true]) s2313 = some [(.ret, s2818)] := cut_seqs (x := (sub B16 [true, true, true, true, false])) (y := (sub B16 [true, true, true, true, true])) (n := 295) (by kernel_rfl) g97 (then_go g98 then_nil)
set_option maxRecDepth 100000 in
theorem g100 : runCode Tryz.prog true (runCall Tryz.prog true none 300 59) none 297 none (sub B16 [true, true, true]) s1164 = some [(.ret, s2818)] := cut_seqs (x := (sub B16 [true, true, true, false])) (y := (sub B16 [true, true, true, true])) (n := 296) (by kernel_rfl) g74 (then_go g99 then_nil)
set_option maxRecDepth 100000 in
theorem g101 : runCode Tryz.prog true (runCall Tryz.prog true none 300 59) none 298 none (sub B16 [true, true]) s1162 = some [(.ret, s2818)] := cut_seqs (x := (sub B16 [true, true, false])) (y := (sub B16 [true, true, true])) (n := 297) (by kernel_rfl) g2 (then_go g100 then_nil)
set_option maxRecDepth 100000 in
theorem g102 : runCode Tryz.prog true (runCall Tryz.prog true none 300 59) none 299 none (sub B16 [true]) s1115 = some [(.ret, s2818)] := cut_seqs (x := (sub B16 [true, false])) (y := (sub B16 [true, true])) (n := 298) (by kernel_rfl) g1 (then_go g101 then_nil)
set_option maxRecDepth 100000 in
theorem g103 : runCode Tryz.prog true (runCall Tryz.prog true none 300 59) none 300 none (sub B16 []) s1114 = some [(.ret, s2818)] := cut_seqs (x := (sub B16 [false])) (y := (sub B16 [true])) (n := 299) (by kernel_rfl) g0 (then_go g102 then_nil)
set_option maxRecDepth 100000 in
theorem g104 : (runCall Tryz.prog true none 300 60) false 16 ([]) s1.h s1.pc = some [(xT, h1113, ([]))] := cut_call (d := 59) (fn := Tryz.f16) (c := sub B16 []) (l := [(.ret, s2818)]) (by kernel_rfl) Tryz.func16 (by kernel_rfl) g103 (by kernel_rfl)
theorem ranCut : allTrue (runCall Tryz.prog true none 300 60 false 16 [] Hp.nil []) = true := (congrArg allTrue g104).trans (by kernel_rfl)

end Go.Proofs.YtobmdlcdemolpaaGreatDoor.callNilCutK
