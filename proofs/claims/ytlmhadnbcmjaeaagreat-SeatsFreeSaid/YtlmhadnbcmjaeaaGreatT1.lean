/-
  A part of the proofs over this seat.
  (The texts KqT KqW, one behind the other.)
-/
import Derived.Test.YtlmhadnbcmjaeaaGreatA0
import Derived.Test.YtlmhadnbcmjaeaaGreatB1
set_option linter.unusedSimpArgs false
set_option linter.unusedVariables false
set_option linter.unusedSectionVars false
section
namespace Go.Ab.T
def c4 : ACode := Sq [Ob 3 (.box (.t 0) 2),Ob 5 (.box (.t 2) 3),Ob 6 (.mov (.c (.bool false)))]
 (.seq (Sq [Ls 23 3 2,Mv 24 1,Ob 25 (.call 5 [.t 23,.t 24])]
 (.cond (.t 25) (Sq [Ob 26 (.call 6 []),Mv 6 26]
 (.ret))
 (.skip)))
 (Sq [Ls 28 3 2,Mv 29 1,Ob 30 (.call 7 [.t 28,.t 29]),Mv 27 30,Xt 31 27 0,Xt 32 27 1,Ob 7 (.new (.agg [.sl [] .tight,.int .i64 0]) 2),Sv 7 31 2,Mv 8 32]
 (Sq [Ls 34 7 2,Mv 35 8,Oa 36 5 0,Ld 37 36,Oa 38 5 2,Ld 39 38,Ob 40 (.call 19 [.t 34,.t 35,.t 37,.t 39]),Mv 33 40,Xt 41 33 0,Xt 42 33 1,Xt 43 33 2,Mv 9 41,Mv 10 42,Mv 11 43]
 (Sq [Ls 45 3 2,Mv 46 1,Oa 47 5 0,Ld 48 47,Oa 49 5 2,Ld 50 49,Ob 51 (.call 20 [.t 45,.t 46,.t 48,.t 50]),Mv 44 51,Xt 52 44 0,Xt 53 44 1,Xt 54 44 2,Mv 12 52,Mv 13 53,Mv 14 54]
 (Sq [Ls 56 7 2,Mv 57 8,Oa 58 5 0,Ld 59 58,Ob 60 (.call 21 [.t 56,.t 57,.t 59]),Mv 55 60,Xt 61 55 0,Xt 62 55 1,Mv 15 61,Mv 16 62]
 (Sq [Ls 64 3 2,Mv 65 1,Oa 66 5 0,Ld 67 66,Ob 68 (.call 22 [.t 64,.t 65,.t 67]),Mv 63 68,Xt 69 63 0,Xt 70 63 1,Mv 17 69,Mv 18 70]
 (Sq [Ls 72 7 2,Mv 73 8,Oa 74 5 0,Ld 75 74,Oa 76 5 2,Ld 77 76,Ob 78 (.call 23 [.t 72,.t 73,.t 75,.t 77]),Mv 71 78,Xt 79 71 0,Xt 80 71 1,Mv 19 79,Mv 20 80]
 (Sq [Ls 82 3 2,Mv 83 1,Oa 84 5 0,Ld 85 84,Oa 86 5 2,Ld 87 86,Ob 88 (.call 24 [.t 82,.t 83,.t 85,.t 87]),Mv 81 88,Xt 89 81 0,Xt 90 81 1,Mv 21 89,Mv 22 90]
 (Sq [Mv 91 9,Mv 92 12,Bn .eql 93 91 92,Mv 94 93,Og 95 94 true (.mov (.t 10)),Og 96 94 true (.mov (.t 13)),Og 97 94 true (.bin .eql (.t 95) (.t 96)),Ob 98 (.pick (.t 94) (.t 97) (.c (.bool false))),Mv 99 98,Og 100 99 true (.mov (.t 11)),Og 101 99 true (.mov (.t 14)),Og 102 99 true (.bin .eql (.t 100) (.t 101)),Ob 103 (.pick (.t 99) (.t 102) (.c (.bool false))),Mv 104 103,Og 105 104 true (.mov (.t 15)),Og 106 104 true (.mov (.t 17)),Og 107 104 true (.bin .eql (.t 105) (.t 106)),Ob 108 (.pick (.t 104) (.t 107) (.c (.bool false))),Mv 109 108,Og 110 109 true (.mov (.t 16)),Og 111 109 true (.mov (.t 18)),Og 112 109 true (.bin .eql (.t 110) (.t 111)),Ob 113 (.pick (.t 109) (.t 112) (.c (.bool false))),Mv 114 113,Og 115 114 true (.mov (.t 19)),Og 116 114 true (.mov (.t 21)),Og 117 114 true (.bin .eql (.t 115) (.t 116)),Ob 118 (.pick (.t 114) (.t 117) (.c (.bool false))),Mv 119 118,Og 120 119 true (.mov (.t 20)),Og 121 119 true (.mov (.t 22)),Og 122 119 true (.bin .eql (.t 120) (.t 121)),Ob 123 (.pick (.t 119) (.t 122) (.c (.bool false))),Mv 124 123,Og 125 124 true (.call 6 []),Ob 126 (.pick (.t 124) (.t 125) (.c (.bool false))),Mv 6 126]
 (.ret))))))))))
def r4 : List Res := [.t 6]
def a4 : AFn := ⟨3, c4, r4,.v⟩
def c5 : ACode := Sq [Ob 2 (.box (.t 0) 2),Ob 4 (.mov (.c (.bool false)))]
 (Sq [Oa 5 2 0,Ld 6 5,Ob 7 (.len (.t 6)),Bc .gtr 8 7 30,Mv 9 8,Og 10 9 false (.mov (.t 1)),Og 11 9 false (.len (.t 10)),Og 12 9 false (.bin .gtr (.t 11) (Ci 60)),Ob 13 (.pick (.t 9) (.c (.bool true)) (.t 12)),Mv 4 13]
 (.ret))
def r5 : List Res := [.t 4]
def a5 : AFn := ⟨2, c5, r5,.v⟩
def c6 : ACode := Sq [Ob 0 (.mov (.c (.bool false)))]
 (Sq [Ob 11 (.call 25 []),Mv 10 11,Xt 12 10 0,Xt 13 10 1,Ob 1 (.new (.agg [.sl [] .tight,.int .i64 0]) 2),Sv 1 12 2,Mv 2 13]
 (Sq [Ls 15 1 2,Mv 16 2,Ob 17 (.call 10 [.t 15,.t 16,Ci 12,Ci 2]),Mv 14 17,Xt 18 14 0,Xt 19 14 1,Ob 3 (.new (.agg [.int .i64 0,.int .i64 0,.int .i64 0,.int .i64 0]) 4),Sv 3 18 4,Mv 4 19]
 (Sq [Ls 21 1 2,Mv 22 2,Ob 23 (.call 19 [.t 21,.t 22,Ci 1,Ci 1]),Mv 20 23,Xt 24 20 0,Xt 25 20 1,Xt 26 20 2,Mv 5 24,Mv 6 25,Mv 7 26]
 (Sq [Ls 28 1 2,Mv 29 2,Ob 30 (.call 15 [.t 28,.t 29,Ci 12]),Mv 27 30,Xt 31 27 0,Xt 32 27 1,Mv 8 31,Mv 9 32]
 (Sq [Mv 33 4,Bc .eql 34 33 0,Mv 35 34,Og 36 35 true (.mov (.t 7)),Og 37 35 true (.bin .eql (.t 36) (Ci 0)),Ob 38 (.pick (.t 35) (.t 37) (.c (.bool false))),Mv 39 38,Og 40 39 true (.mov (.t 9)),Og 41 39 true (.bin .eql (.t 40) (Ci 0)),Ob 42 (.pick (.t 39) (.t 41) (.c (.bool false))),Mv 43 42,Og 44 43 true (.load (.t 3) (some 4)),Og 45 43 true (.build [.int .i64 0,.int .i64 0,.int .i64 0,.int .i64 0] [(0, 1, (Ci 4)), (1, 1, (Ci (-1))), (2, 1, (Ci (-1))), (3, 1, (Ci 2))]),Og 46 43 true (.eqv false true [.i,.i,.i,.i] (.t 44) (.t 45)),Ob 47 (.pick (.t 43) (.t 46) (.c (.bool false))),Mv 48 47,Og 49 48 true (.mov (.t 5)),Og 50 48 true (.bin .eql (.t 49) (Ci 0)),Ob 51 (.pick (.t 48) (.t 50) (.c (.bool false))),Mv 52 51,Og 53 52 true (.mov (.t 6)),Og 54 52 true (.bin .eql (.t 53) (Ci 4)),Ob 55 (.pick (.t 52) (.t 54) (.c (.bool false))),Mv 56 55,Og 57 56 true (.mov (.t 8)),Og 58 56 true (.lit false 3 1 [Ci 2]),Og 59 56 true (.call 17 [.t 57,.t 58]),Ob 60 (.pick (.t 56) (.t 59) (.c (.bool false))),Mv 0 60]
 (.ret))))))
def r6 : List Res := [.t 0]
def a6 : AFn := ⟨0, c6, r6,.v⟩
def c7 : ACode := Sq [Ob 2 (.box (.t 0) 2),Ob 4 (.new (.agg [.sl [] .tight,.int .i64 0]) 2),Ob 5 (.mov (.c (.sl [] .tight)))]
 (Sq [Ob 6 (.lit false 3 1 []),Oa 7 2 0,Ld 8 7,Ob 9 (.app false (.t 6) (.t 8) 3 1 8),Oa 10 2 0,Sv 10 9 1]
 (.seq (.regionD [Ls 11 2 2,Ob 12 (.lit false 57 5 []),Mv 13 1,Ob 14 (.app false (.t 12) (.t 13) 57 5 40),Sv 4 11 2,Mv 5 14] [(2, 12)])
 (.ret)))
def r7 : List Res := [.cell 4 (some 2),.t 5]
def a7 : AFn := ⟨2, c7, r7,.v⟩
def c8 : ACode := Sq [Ob 2 (.box (.t 0) 2),Mc 4 0]
 (.seq (.block 0 (Sq [Ls 6 2 2,Ob 7 (.call 26 [.t 6]),Ob 8 (.not (.t 7)),Mv 5 8]
 (.cond (.t 5) (Sq [Mc 4 40]
 (.ret))
 (Sq [Mv 10 1,Ob 11 (.call 27 [.t 10]),Ob 12 (.not (.t 11)),Mv 13 12,Og 14 13 false (.mov (.t 1)),Og 15 13 false (.call 28 [.t 14]),Ob 16 (.pick (.t 13) (.c (.bool true)) (.t 15)),Mv 9 16]
 (.cond (.t 9) (Sq [Mc 4 41]
 (.ret))
 (.skip))))))
 (Sq [Mc 4 0]
 (.ret)))
def r8 : List Res := [.t 4]
def a8 : AFn := ⟨2, c8, r8,.v⟩
def c9 : ACode := Sq [Ob 2 (.box (.t 0) 2),Mc 4 0]
 (.seq (Sq [Ls 7 2 2,Ob 8 (.call 29 [.t 7]),Ob 9 (.not (.t 8))]
 (.cond (.t 9) (Sq [Mc 4 40]
 (.ret))
 (.skip)))
 (.seq (Sq [Mv 10 1,Ob 11 (.len (.t 10)),Bc .gtr 12 11 40]
 (.cond (.t 12) (Sq [Mc 4 41]
 (.ret))
 (.skip)))
 (.seq (Sq [Mc 5 0]
 (.block 0 (.loop (.seq (Sq [Mv 13 5,Mv 14 1,Ob 15 (.len (.t 14)),Bn .lss 16 13 15]
 (.cond (.t 16) (.skip)
 (.exit 0)))
 (.seq (.block 1 (.seq (Sq [Mv 19 1,Mv 20 5,Oi 21 19 20 5,Ls 22 21 5,Ob 23 (.call 30 [.t 22]),Ob 24 (.not (.t 23))]
 (.cond (.t 24) (Sq [Mc 4 41]
 (.ret))
 (.skip)))
 (Sq [Mc 6 0]
 (.block 2 (.loop (.seq (Sq [Mv 25 6,Mv 26 5,Bn .lss 27 25 26]
 (.cond (.t 27) (.skip)
 (.exit 2)))
 (.seq (.block 3 (Sq [Mv 30 1,Mv 31 6,Oi 32 30 31 5,Oa 33 32 0,Ld 34 33,Mv 35 1,Mv 36 5,Oi 37 35 36 5,Oa 38 37 0,Ld 39 38,Bn .eql 40 34 39,Mv 41 40,Og 42 41 true (.mov (.t 1)),Og 43 41 true (.mov (.t 6)),Og 44 41 true (.idx (.t 42) (.t 43) 5),Og 45 41 true (.load (.t 44) (some 5)),Og 46 41 true (.mov (.t 1)),Og 47 41 true (.mov (.t 5)),Og 48 41 true (.idx (.t 46) (.t 47) 5),Og 49 41 true (.load (.t 48) (some 5)),Og 50 41 true (.eqv true true [.i,.i,.i,.i,.i] (.t 45) (.t 49)),Ob 51 (.pick (.t 41) (.t 50) (.c (.bool false)))]
 (.cond (.t 51) (Sq [Mc 4 41]
 (.ret))
 (.skip))))
 (.region [Mv 28 6,Bc .add 29 28 1,Mv 6 29]))))))))
 (.region [Mv 17 5,Bc .add 18 17 1,Mv 5 18]))))))
 (Sq [Mc 4 0]
 (.ret)))))
def r9 : List Res := [.t 4]
def a9 : AFn := ⟨2, c9, r9,.v⟩
def c10 : ACode := Sq [Ob 4 (.box (.t 0) 2),Ob 8 (.new (.agg [.int .i64 0,.int .i64 0,.int .i64 0,.int .i64 0]) 4),Mc 9 0]
 (Sq [Ls 13 4 2,Mv 14 1,Mv 15 2,Ob 16 (.call 31 [.t 13,.t 14,.t 15]),Mv 12 16,Xt 17 12 0,Xt 18 12 1,Ob 10 (.new (.agg [.sl [] .tight,.int .i64 0,.sl [] .tight,.nilm,.sl [] .tight]) 5),Sv 10 17 5,Mv 11 18]
 (.seq (Sq [Mv 19 11,Bc .neq 20 19 0]
 (.cond (.t 20) (Sq [Ob 21 (.build [.int .i64 0,.int .i64 0,.int .i64 0,.int .i64 0] []),Mv 22 11,Sv 8 21 4,Mv 9 22]
 (.ret))
 (.skip)))
 (.seq (Sq [Mv 23 3,Ob 24 (.call 32 [.t 23]),Ob 25 (.not (.t 24))]
 (.cond (.t 25) (Sq [Ob 26 (.build [.int .i64 0,.int .i64 0,.int .i64 0,.int .i64 0] []),Sv 8 26 4,Mc 9 1]
 (.ret))
 (.skip)))
 (Sq [Mv 27 3,Ob 28 (.call 33 [.t 10,.t 27]),Sv 8 28 4,Mc 9 0]
 (.ret)))))
def r10 : List Res := [.cell 8 (some 4),.t 9]
def a10 : AFn := ⟨4, c10, r10,.v⟩
def c15 : ACode := Sq [Ob 3 (.box (.t 0) 2),Ob 6 (.mov (.c (.sl [] .tight))),Mc 7 0]
 (Sq [Ls 11 3 2,Mv 12 1,Mv 13 2,Ob 14 (.call 31 [.t 11,.t 12,.t 13]),Mv 10 14,Xt 15 10 0,Xt 16 10 1,Ob 8 (.new (.agg [.sl [] .tight,.int .i64 0,.sl [] .tight,.nilm,.sl [] .tight]) 5),Sv 8 15 5,Mv 9 16]
 (.seq (Sq [Mv 17 9,Bc .neq 18 17 0]
 (.cond (.t 18) (Sq [Mv 19 9,Ob 6 (.mov (.c (.sl [] .tight))),Mv 7 19]
 (.ret))
 (.skip)))
 (Sq [Oa 20 8 4,Ld 21 20,Ob 22 (.call 36 [.t 21])]
 (Sq [Oa 23 8 4,Ld 24 23,Ob 25 (.call 37 [.t 24]),Mv 6 25,Mc 7 0]
 (.ret)))))
def r15 : List Res := [.t 6,.t 7]
def a15 : AFn := ⟨3, c15, r15,.v⟩
def c17 : ACode := Sq [Ob 4 (.mov (.c (.bool false)))]
 (.seq (Sq [Mv 6 0,Ob 7 (.len (.t 6)),Mv 8 1,Ob 9 (.len (.t 8)),Bn .neq 10 7 9]
 (.cond (.t 10) (Sq [Ob 4 (.mov (.c (.bool false)))]
 (.ret))
 (.skip)))
 (.seq (Sq [Mc 5 0]
 (.block 0 (.loop (.seq (Sq [Mv 11 5,Mv 12 0,Ob 13 (.len (.t 12)),Bn .lss 14 11 13]
 (.cond (.t 14) (.skip)
 (.exit 0)))
 (.seq (.block 1 (Sq [Mv 17 0,Mv 18 5,Oi 19 17 18 1,Ld 20 19,Mv 21 1,Mv 22 5,Oi 23 21 22 1,Ld 24 23,Bn .neq 25 20 24]
 (.cond (.t 25) (Sq [Ob 4 (.mov (.c (.bool false)))]
 (.ret))
 (.skip))))
 (.region [Mv 15 5,Bc .add 16 15 1,Mv 5 16]))))))
 (Sq [Ob 4 (.mov (.c (.bool true)))]
 (.ret))))
def r17 : List Res := [.t 4]
def a17 : AFn := ⟨2, c17, r17,.v⟩
def c19 : ACode := Sq [Ob 4 (.box (.t 0) 2),Mc 8 0,Mc 9 0,Mc 10 0]
 (Sq [Ls 14 4 2,Mv 15 1,Mv 16 2,Ob 17 (.call 31 [.t 14,.t 15,.t 16]),Mv 13 17,Xt 18 13 0,Xt 19 13 1,Ob 11 (.new (.agg [.sl [] .tight,.int .i64 0,.sl [] .tight,.nilm,.sl [] .tight]) 5),Sv 11 18 5,Mv 10 19]
 (.seq (Sq [Mv 20 10,Bc .neq 21 20 0]
 (.cond (.t 21) (Sq [Mv 22 10,Mc 8 0,Mc 9 0,Mv 10 22]
 (.ret))
 (.skip)))
 (.seq (Sq [Mv 23 3,Ob 24 (.call 39 [.t 23]),Ob 25 (.not (.t 24))]
 (.cond (.t 25) (Sq [Mc 8 0,Mc 9 0,Mc 10 1]
 (.ret))
 (.skip)))
 (Sq [Mv 27 3,Ob 28 (.call 40 [.t 11,.t 27]),Mv 26 28,Xt 29 26 0,Xt 30 26 1,Xt 31 26 2,Mv 8 29,Mv 9 30,Mv 12 31]
 (.seq (Sq [Mv 32 12,Ob 33 (.not (.t 32))]
 (.cond (.t 33) (Sq [Mc 8 0,Mc 9 0,Mc 10 3]
 (.ret))
 (.skip)))
 (Sq [Mv 34 8,Mv 35 9,Mv 8 34,Mv 9 35,Mc 10 0]
 (.ret)))))))
def r19 : List Res := [.t 8,.t 9,.t 10]
def a19 : AFn := ⟨4, c19, r19,.v⟩
def c20 : ACode := Sq [Ob 4 (.box (.t 0) 2),Mc 8 0,Mc 9 0,Mc 10 0]
 (.seq (Sq [Ls 15 4 2,Mv 16 1,Mv 17 2,Mv 18 3,Ob 19 (.call 34 [.t 15,.t 16,.t 17,Ci 0,.t 18]),Mv 11 19]
 (Sq [Mv 20 11,Bc .neq 21 20 0]
 (.cond (.t 21) (Sq [Mv 22 11,Mc 8 0,Mc 9 0,Mv 10 22]
 (.ret))
 (.skip))))
 (Sq [Ls 24 4 2,Mv 25 1,Mv 26 2,Ob 27 (.call 35 [.t 24,.t 25,.t 26]),Ob 28 (.fld (.t 27) 0 none),Mv 29 3,Ob 30 (.call 41 [.t 28,.t 29]),Mv 23 30,Xt 31 23 0,Xt 32 23 1,Xt 33 23 2,Mv 12 31,Mv 13 32,Mv 14 33]
 (.seq (Sq [Mv 34 14,Ob 35 (.not (.t 34))]
 (.cond (.t 35) (Sq [Mc 8 0,Mc 9 0,Mc 10 3]
 (.ret))
 (.skip)))
 (Sq [Mv 36 12,Mv 37 13,Mv 8 36,Mv 9 37,Mc 10 0]
 (.ret)))))
def r20 : List Res := [.t 8,.t 9,.t 10]
def a20 : AFn := ⟨4, c20, r20,.v⟩
def c21 : ACode := Sq [Ob 3 (.box (.t 0) 2),Mc 6 0,Mc 7 0]
 (Sq [Ls 15 3 2,Mv 16 1,Mv 17 2,Ob 18 (.call 31 [.t 15,.t 16,.t 17]),Mv 14 18,Xt 19 14 0,Xt 20 14 1,Ob 8 (.new (.agg [.sl [] .tight,.int .i64 0,.sl [] .tight,.nilm,.sl [] .tight]) 5),Sv 8 19 5,Mv 9 20]
 (.seq (Sq [Mv 21 9,Bc .neq 22 21 0]
 (.cond (.t 22) (Sq [Mv 23 9,Mc 6 0,Mv 7 23]
 (.ret))
 (.skip)))
 (.seq (Sq [Mc 10 12]
 (.block 0 (.loop (.seq (Sq [Mv 24 10,Bc .gtr 25 24 0]
 (.cond (.t 25) (.skip)
 (.exit 0)))
 (.seq (.block 1 (Sq [Mv 29 10,Ob 30 (.call 40 [.t 8,.t 29]),Mv 28 30,Xt 31 28 0,Xt 32 28 1,Xt 33 28 2,Mv 11 31,Mv 12 32,Mv 13 33]
 (Sq [Mv 34 13]
 (.cond (.t 34) (Sq [Mv 35 10,Mv 6 35,Mc 7 0]
 (.ret))
 (.skip)))))
 (.region [Mv 26 10,Bc .sub 27 26 1,Mv 10 27]))))))
 (Sq [Mc 6 0,Mc 7 0]
 (.ret)))))
def r21 : List Res := [.t 6,.t 7]
def a21 : AFn := ⟨3, c21, r21,.v⟩
def c22 : ACode := Sq [Ob 3 (.box (.t 0) 2),Mc 6 0,Mc 7 0]
 (.seq (Sq [Ls 14 3 2,Mv 15 1,Mv 16 2,Ob 17 (.call 34 [.t 14,.t 15,.t 16,Ci 0,Ci 1]),Mv 8 17]
 (Sq [Mv 18 8,Bc .neq 19 18 0]
 (.cond (.t 19) (Sq [Mv 20 8,Mc 6 0,Mv 7 20]
 (.ret))
 (.skip))))
 (Sq [Ls 21 3 2,Mv 22 1,Mv 23 2,Ob 24 (.call 35 [.t 21,.t 22,.t 23]),Ob 9 (.new (.agg [.sl [] .tight,.sl [] .tight,.sl [] .tight,.sl [] .tight]) 4),Sv 9 24 4]
 (.seq (Sq [Mc 10 12]
 (.block 0 (.loop (.seq (Sq [Mv 25 10,Bc .gtr 26 25 0]
 (.cond (.t 26) (.skip)
 (.exit 0)))
 (.seq (.block 1 (Sq [Oa 30 9 0,Ld 31 30,Mv 32 10,Ob 33 (.call 41 [.t 31,.t 32]),Mv 29 33,Xt 34 29 0,Xt 35 29 1,Xt 36 29 2,Mv 11 34,Mv 12 35,Mv 13 36]
 (Sq [Mv 37 13]
 (.cond (.t 37) (Sq [Mv 38 10,Mv 6 38,Mc 7 0]
 (.ret))
 (.skip)))))
 (.region [Mv 27 10,Bc .sub 28 27 1,Mv 10 28]))))))
 (Sq [Mc 6 0,Mc 7 0]
 (.ret)))))
def r22 : List Res := [.t 6,.t 7]
def a22 : AFn := ⟨3, c22, r22,.v⟩
def c23 : ACode := Sq [Ob 4 (.box (.t 0) 2),Mc 8 0,Mc 9 0]
 (Sq [Ls 13 4 2,Mv 14 1,Mv 15 2,Ob 16 (.call 31 [.t 13,.t 14,.t 15]),Mv 12 16,Xt 17 12 0,Xt 18 12 1,Ob 10 (.new (.agg [.sl [] .tight,.int .i64 0,.sl [] .tight,.nilm,.sl [] .tight]) 5),Sv 10 17 5,Mv 11 18]
 (.seq (Sq [Mv 19 11,Bc .neq 20 19 0]
 (.cond (.t 20) (Sq [Mv 21 11,Mc 8 0,Mv 9 21]
 (.ret))
 (.skip)))
 (.seq (Sq [Mv 22 3,Ob 23 (.call 39 [.t 22]),Ob 24 (.not (.t 23))]
 (.cond (.t 24) (Sq [Mc 8 0,Mc 9 1]
 (.ret))
 (.skip)))
 (Sq [Mv 25 3,Ob 26 (.call 42 [.t 10,.t 25]),Mv 8 26,Mc 9 0]
 (.ret)))))
def r23 : List Res := [.t 8,.t 9]
def a23 : AFn := ⟨4, c23, r23,.v⟩
def c24 : ACode := Sq [Ob 4 (.box (.t 0) 2),Mc 8 0,Mc 9 0]
 (.seq (Sq [Ls 15 4 2,Mv 16 1,Mv 17 2,Mv 18 3,Ob 19 (.call 34 [.t 15,.t 16,.t 17,Ci 0,.t 18]),Mv 10 19]
 (Sq [Mv 20 10,Bc .neq 21 20 0]
 (.cond (.t 21) (Sq [Mv 22 10,Mc 8 0,Mv 9 22]
 (.ret))
 (.skip))))
 (Sq [Ls 23 4 2,Mv 24 1,Mv 25 2,Ob 26 (.call 35 [.t 23,.t 24,.t 25]),Ob 11 (.new (.agg [.sl [] .tight,.sl [] .tight,.sl [] .tight,.sl [] .tight]) 4),Sv 11 26 4]
 (Sq [Mc 12 0]
 (.seq (Sq [Mc 13 0]
 (.block 0 (.loop (.seq (Sq [Mv 27 13,Oa 28 11 0,Ld 29 28,Ob 30 (.len (.t 29)),Bn .lss 31 27 30]
 (.cond (.t 31) (.skip)
 (.exit 0)))
 (.seq (.block 1 (Sq [Mc 14 0]
 (.block 2 (.loop (.seq (Sq [Mv 34 14,Oa 35 11 0,Ld 36 35,Mv 37 13,Oi 38 36 37 1,Ld 39 38,Ob 40 (.len (.t 39)),Bn .lss 41 34 40]
 (.cond (.t 41) (.skip)
 (.exit 2)))
 (.seq (.block 3 (Sq [Oa 44 11 0,Ld 45 44,Mv 46 13,Oi 47 45 46 1,Ld 48 47,Mv 49 14,Mv 50 3,Ob 51 (.call 43 [.t 48,.t 49,.t 50])]
 (.cond (.t 51) (Sq [Mv 52 12,Bc .add 53 52 1,Mv 12 53]
 (.region [Mv 54 14,Mv 55 3,Bc .sub 56 55 1,Bn .add 57 54 56,Mv 14 57]))
 (.skip))))
 (.region [Mv 42 14,Bc .add 43 42 1,Mv 14 43])))))))
 (.region [Mv 32 13,Bc .add 33 32 1,Mv 13 33]))))))
 (Sq [Mv 58 12,Mv 8 58,Mc 9 0]
 (.ret))))))
def r24 : List Res := [.t 8,.t 9]
def a24 : AFn := ⟨4, c24, r24,.v⟩
def c25 : ACode := Sq [Ob 0 (.new (.agg [.sl [] .tight,.int .i64 0]) 2),Ob 1 (.mov (.c (.sl [] .tight)))]
 (Sq [Ob 2 (.lit false 3 1 [Ci 5,Ci 3]),Ob 3 (.build [.sl [] .tight,.int .i64 0] [(0, 1, (.t 2)), (1, 1, (Ci 10))]),Ob 4 (.build [.int .i64 0,.int .i64 0,.int .i64 0,.int .i64 0,.int .i64 0] [(0, 1, (Ci 1)), (2, 1, (Ci 1)), (3, 1, (Ci 1)), (4, 1, (Ci 2))]),Ob 5 (.build [.int .i64 0,.int .i64 0,.int .i64 0,.int .i64 0,.int .i64 0] [(0, 1, (Ci 2)), (1, 1, (Ci 1)), (2, 1, (Ci 1)), (3, 1, (Ci 2)), (4, 1, (Ci 2))]),Ob 6 (.build [.int .i64 0,.int .i64 0,.int .i64 0,.int .i64 0,.int .i64 0] [(0, 1, (Ci 3)), (1, 1, (Ci 5)), (2, 1, (Ci 2)), (3, 1, (Ci 1))]),Ob 7 (.build [.int .i64 0,.int .i64 0,.int .i64 0,.int .i64 0,.int .i64 0] [(0, 1, (Ci 4)), (1, 1, (Ci 12)), (2, 1, (Ci 1)), (3, 1, (Ci 3)), (4, 1, (Ci 3))]),Ob 8 (.build [.int .i64 0,.int .i64 0,.int .i64 0,.int .i64 0,.int .i64 0] [(0, 1, (Ci 5)), (1, 1, (Ci 11)), (2, 1, (Ci 2)), (3, 1, (Ci 2))]),Ob 9 (.lit false 57 5 [.t 4,.t 5,.t 6,.t 7,.t 8]),Sv 0 3 2,Mv 1 9]
 (.ret))
def r25 : List Res := [.cell 0 (some 2),.t 1]
def a25 : AFn := ⟨0, c25, r25,.v⟩
def c26 : ACode := Sq [Ob 1 (.box (.t 0) 2),Ob 2 (.mov (.c (.bool false)))]
 (Sq [Oa 3 1 0,Ld 4 3,Ob 5 (.len (.t 4)),Ob 6 (.call 44 [.t 5,Ci 1,Ci 6]),Mv 7 6,Og 8 7 true (.addr (.t 1) 0),Og 9 7 true (.load (.t 8) none),Og 10 7 true (.call 45 [.t 9, (.c (.fn 39 [] []))]),Ob 11 (.pick (.t 7) (.t 10) (.c (.bool false))),Mv 12 11,Og 13 12 true (.addr (.t 1) 1),Og 14 12 true (.load (.t 13) none),Og 15 12 true (.call 44 [.t 14,Ci 1,Ci 600]),Ob 16 (.pick (.t 12) (.t 15) (.c (.bool false))),Mv 2 16]
 (.ret))
def r26 : List Res := [.t 2]
def a26 : AFn := ⟨1, c26, r26,.v⟩
def c27 : ACode := Sq [Ob 2 (.mov (.c (.bool false)))]
 (Sq [Mv 3 0,Ob 4 (.len (.t 3)),Bc .leq 5 4 40,Mv 6 5,Og 7 6 true (.mov (.t 0)),Og 8 6 true (.call 46 [.t 7, (.c (.fn 47 [] []))]),Ob 9 (.pick (.t 6) (.t 8) (.c (.bool false))),Mv 2 9]
 (.ret))
def r27 : List Res := [.t 2]
def a27 : AFn := ⟨1, c27, r27,.v⟩
def c28 : ACode := Sq [Ob 2 (.mov (.c (.bool false)))]
 (Sq [Ob 8 (.mkmap .i),Mv 3 8]
 (.seq (Sq [Mv 9 0,Ob 10 (.len (.t 9)),Mc 11 0]
 (.block 0 (.loop (Sq [Bn .lss 12 11 10]
 (.seq (.cond (.t 12) (.skip)
 (.exit 0))
 (.seq (.block 1 (Sq [Oi 13 9 11 5,Ls 14 13 5,Ob 5 (.new (.agg [.int .i64 0,.int .i64 0,.int .i64 0,.int .i64 0,.int .i64 0]) 5),Sv 5 14 5]
 (.seq (Sq [Mv 16 3,Oa 17 5 0,Ld 18 17,Ob 19 (.mget .i (.agg [.int .i64 0,.int .i64 0,.int .i64 0,.int .i64 0,.int .i64 0]) true (.t 16) (.t 18)),Mv 15 19,Xt 20 15 0,Xt 21 15 1,Ob 6 (.new (.agg [.int .i64 0,.int .i64 0,.int .i64 0,.int .i64 0,.int .i64 0]) 5),Sv 6 20 5,Mv 7 21]
 (Sq [Mv 22 7,Mv 23 22,Og 24 23 true (.load (.t 5) (some 5)),Og 25 23 true (.load (.t 6) (some 5)),Og 26 23 true (.eqv true true [.i,.i,.i,.i,.i] (.t 24) (.t 25)),Ob 27 (.pick (.t 23) (.t 26) (.c (.bool false)))]
 (.cond (.t 27) (Sq [Ob 2 (.mov (.c (.bool true)))]
 (.ret))
 (.skip))))
 (.region [Mv 28 3,Oa 29 5 0,Ld 30 29,Ls 31 5 5,On (.mput .i (.t 28) (.t 30) (.t 31))]))))
 (.region [Bc .add 32 11 1,Mv 11 32])))))))
 (Sq [Ob 2 (.mov (.c (.bool false)))]
 (.ret))))
def r28 : List Res := [.t 2]
def a28 : AFn := ⟨1, c28, r28,.v⟩
def c29 : ACode := Sq [Ob 1 (.box (.t 0) 2),Ob 2 (.mov (.c (.bool false)))]
 (.seq (Sq [Mc 3 0]
 (.block 0 (.loop (.seq (Sq [Mv 4 3,Oa 5 1 0,Ld 6 5,Ob 7 (.len (.t 6)),Bn .lss 8 4 7]
 (.cond (.t 8) (.skip)
 (.exit 0)))
 (.seq (.block 1 (Sq [Oa 11 1 0,Ld 12 11,Mv 13 3,Oi 14 12 13 1,Ld 15 14,Ob 16 (.call 48 [.t 15,Ci 1,Ci 12]),Ob 17 (.not (.t 16))]
 (.cond (.t 17) (Sq [Ob 2 (.mov (.c (.bool false)))]
 (.ret))
 (.skip))))
 (.region [Mv 9 3,Bc .add 10 9 1,Mv 3 10]))))))
 (Sq [Oa 18 1 0,Ld 19 18,Ob 20 (.len (.t 19)),Ob 21 (.call 48 [.t 20,Ci 1,Ci 6]),Mv 22 21,Og 23 22 true (.addr (.t 1) 1),Og 24 22 true (.load (.t 23) none),Og 25 22 true (.call 48 [.t 24,Ci 1,Ci 600]),Ob 26 (.pick (.t 22) (.t 25) (.c (.bool false))),Mv 2 26]
 (.ret)))
def r29 : List Res := [.t 2]
def a29 : AFn := ⟨1, c29, r29,.v⟩
def c30 : ACode := Sq [Ob 1 (.box (.t 0) 5),Ob 2 (.mov (.c (.bool false)))]
 (.seq (Sq [Oa 3 1 0,Ld 4 3,Ob 5 (.call 48 [.t 4,Ci 0,Ci 99]),Ob 6 (.not (.t 5)),Mv 7 6,Og 8 7 false (.addr (.t 1) 1),Og 9 7 false (.load (.t 8) none),Og 10 7 false (.call 48 [.t 9,Ci 0,Ci 9999]),Og 11 7 false (.not (.t 10)),Ob 12 (.pick (.t 7) (.c (.bool true)) (.t 11)),Mv 13 12,Og 14 13 false (.addr (.t 1) 3),Og 15 13 false (.load (.t 14) none),Og 16 13 false (.call 48 [.t 15,Ci 0,Ci 99]),Og 17 13 false (.not (.t 16)),Ob 18 (.pick (.t 13) (.c (.bool true)) (.t 17))]
 (.cond (.t 18) (Sq [Ob 2 (.mov (.c (.bool false)))]
 (.ret))
 (.skip)))
 (.seq (Sq [Oa 19 1 2,Ld 20 19,Bc .eql 21 20 1]
 (.cond (.t 21) (Sq [Oa 22 1 4,Ld 23 22,Ob 24 (.call 48 [.t 23,Ci 1,Ci 12]),Mv 2 24]
 (.ret))
 (.skip)))
 (Sq [Oa 25 1 2,Ld 26 25,Bc .eql 27 26 2,Mv 28 27,Og 29 28 false (.addr (.t 1) 2),Og 30 28 false (.load (.t 29) none),Og 31 28 false (.bin .eql (.t 30) (Ci 3)),Ob 32 (.pick (.t 28) (.c (.bool true)) (.t 31)),Mv 33 32,Og 34 33 true (.addr (.t 1) 4),Og 35 33 true (.load (.t 34) none),Og 36 33 true (.bin .eql (.t 35) (Ci 0)),Ob 37 (.pick (.t 33) (.t 36) (.c (.bool false))),Mv 2 37]
 (.ret))))
def r30 : List Res := [.t 2]
def a30 : AFn := ⟨1, c30, r30,.v⟩
def c31 : ACode := Sq [Ob 3 (.box (.t 0) 2),Ob 6 (.new (.agg [.sl [] .tight,.int .i64 0,.sl [] .tight,.nilm,.sl [] .tight]) 5),Mc 7 0]
 (.seq (Sq [Ls 14 3 2,Mv 15 1,Ob 16 (.call 8 [.t 14,.t 15]),Mv 8 16]
 (Sq [Mv 17 8,Bc .neq 18 17 0]
 (.cond (.t 18) (Sq [Ob 19 (.build [.sl [] .tight,.int .i64 0,.sl [] .tight,.nilm,.sl [] .tight] []),Mv 20 8,Sv 6 19 5,Mv 7 20]
 (.ret))
 (.skip))))
 (.seq (Sq [Mv 21 2,Ob 22 (.call 49 [.t 21]),Ob 23 (.not (.t 22))]
 (.cond (.t 23) (Sq [Ob 24 (.build [.sl [] .tight,.int .i64 0,.sl [] .tight,.nilm,.sl [] .tight] []),Sv 6 24 5,Mc 7 1]
 (.ret))
 (.skip)))
 (Sq [Ls 25 3 2,Ob 26 (.mkmap .i),Ob 27 (.build [.sl [] .tight,.int .i64 0,.sl [] .tight,.nilm,.sl [] .tight] [(0, 2, (.t 25)), (3, 1, (.t 26))]),Ob 9 (.new (.agg [.sl [] .tight,.int .i64 0,.sl [] .tight,.nilm,.sl [] .tight]) 5),Sv 9 27 5]
 (.seq (Sq [Oa 28 9 0,Oa 29 28 0,Ld 30 29,Ob 31 (.len (.t 30)),Mc 32 0]
 (.block 0 (.loop (Sq [Bn .lss 33 32 31]
 (.seq (.cond (.t 33) (.skip)
 (.exit 0))
 (.seq (.block 1 (Sq [Oi 34 30 32 1,Ld 35 34,Mv 11 35]
 (.region [Oa 36 9 2,Ld 37 36,Ob 38 (.lit false 3 1 [(Ci (-1))]),Mv 39 11,Ob 40 (.call 50 [.t 38,.t 39]),Ob 41 (.lit false 22 1 [.t 40]),Ob 42 (.app false (.t 37) (.t 41) 22 1 24),Oa 43 9 2,Sv 43 42 1])))
 (.region [Bc .add 44 32 1,Mv 32 44])))))))
 (.seq (Sq [Mv 45 1,Ob 46 (.call 51 [.t 45]),Ob 47 (.len (.t 46)),Mc 48 0]
 (.block 2 (.loop (Sq [Bn .lss 49 48 47]
 (.seq (.cond (.t 49) (.skip)
 (.exit 2))
 (.seq (.block 3 (Sq [Oi 50 46 48 5,Ls 51 50 5,Ob 13 (.new (.agg [.int .i64 0,.int .i64 0,.int .i64 0,.int .i64 0,.int .i64 0]) 5),Sv 13 51 5]
 (Sq [Oa 52 13 1,Ld 53 52,Mv 54 2,Bn .leq 55 53 54]
 (.cond (.t 55) (.region [Ls 56 13 5,Ob 57 (.call 52 [.t 9,.t 56])])
 (.skip)))))
 (.region [Bc .add 58 48 1,Mv 48 58])))))))
 (Sq [Mv 59 2,Ob 60 (.call 53 [.t 9,.t 59])]
 (Sq [Ls 61 9 5,Sv 6 61 5,Mc 7 0]
 (.ret))))))))
def r31 : List Res := [.cell 6 (some 5),.t 7]
def a31 : AFn := ⟨3, c31, r31,.r⟩
def c32 : ACode := Sq [Ob 2 (.mov (.c (.bool false)))]
 (Sq [Mv 3 0,Ob 4 (.call 44 [.t 3,Ci 0,Ci 99]),Mv 2 4]
 (.ret))
def r32 : List Res := [.t 2]
def a32 : AFn := ⟨1, c32, r32,.v⟩
def c33 : ACode := Sq [Ob 4 (.new (.agg [.int .i64 0,.int .i64 0,.int .i64 0,.int .i64 0]) 4)]
 (.seq (Sq [Mv 8 0,Oa 9 8 0,Oa 10 9 3,Ld 11 10,Mv 12 1,Ob 13 (.mget .i .nilp true (.t 11) (.t 12)),Mv 7 13,Xt 14 7 0,Xt 15 7 1,Mv 5 14,Mv 6 15]
 (Sq [Mv 16 6]
 (.cond (.t 16) (Sq [Mv 17 5,Oa 18 17 0,Oa 19 18 0,Ls 20 19 4,Sv 4 20 4]
 (.ret))
 (.skip))))
 (Sq [Ob 21 (.build [.int .i64 0,.int .i64 0,.int .i64 0,.int .i64 0] [(0, 1, (Ci 0)), (1, 1, (Ci (-1))), (2, 1, (Ci (-1)))]),Sv 4 21 4]
 (.ret)))
def r33 : List Res := [.cell 4 (some 4)]
def a33 : AFn := ⟨2, c33, r33,.r⟩
def c34 : ACode := Sq [Ob 5 (.box (.t 0) 2),Mc 10 0]
 (.seq (Sq [Ls 12 5 2,Mv 13 1,Ob 14 (.call 9 [.t 12,.t 13]),Mv 11 14]
 (Sq [Mv 15 11,Bc .neq 16 15 0]
 (.cond (.t 16) (Sq [Mv 17 11,Mv 10 17]
 (.ret))
 (.skip))))
 (.seq (Sq [Mv 18 2,Ob 19 (.call 48 [.t 18,Ci 0,Ci 9999]),Ob 20 (.not (.t 19)),Mv 21 20,Og 22 21 false (.mov (.t 3)),Og 23 21 false (.call 48 [.t 22,Ci 0,Ci 99]),Og 24 21 false (.not (.t 23)),Ob 25 (.pick (.t 21) (.c (.bool true)) (.t 24)),Mv 26 25,Og 27 26 false (.mov (.t 4)),Og 28 26 false (.call 48 [.t 27,Ci 1,Ci 12]),Og 29 26 false (.not (.t 28)),Ob 30 (.pick (.t 26) (.c (.bool true)) (.t 29))]
 (.cond (.t 30) (Sq [Mc 10 1]
 (.ret))
 (.skip)))
 (Sq [Mc 10 0]
 (.ret))))
def r34 : List Res := [.t 10]
def a34 : AFn := ⟨5, c34, r34,.v⟩
def c35 : ACode := Sq [Ob 3 (.box (.t 0) 2),Ob 6 (.new (.agg [.sl [] .tight,.sl [] .tight,.sl [] .tight,.sl [] .tight]) 4)]
 (Sq [Ls 16 3 2,Ob 17 (.call 54 [.t 16]),Ob 7 (.new (.agg [.sl [] .tight,.sl [] .tight,.sl [] .tight,.sl [] .tight]) 4),Sv 7 17 4]
 (Sq [Mv 18 1,Ob 19 (.call 55 [.t 18]),Mv 8 19]
 (.seq (Sq [Mc 9 0]
 (.block 0 (.loop (.seq (Sq [Mv 20 9,Mv 21 8,Ob 22 (.len (.t 21)),Bn .lss 23 20 22]
 (.cond (.t 23) (.skip)
 (.exit 0)))
 (.seq (.block 1 (Sq [Mv 26 8,Mv 27 9,Oi 28 26 27 5,Ls 29 28 5,Ob 10 (.new (.agg [.int .i64 0,.int .i64 0,.int .i64 0,.int .i64 0,.int .i64 0]) 5),Sv 10 29 5]
 (.seq (Sq [Oa 30 10 1,Ld 31 30,Mv 32 2,Bn .gtr 33 31 32]
 (.cond (.t 33) (.exit 0)
 (.skip)))
 (Sq [Ls 34 3 2,Ls 35 7 4,Oa 36 10 1,Ld 37 36,Ob 38 (.call 56 [.t 34,.t 35,.t 37])]
 (Sq [Oa 39 7 1,Ld 40 39,Oa 41 10 3,Ld 42 41,Oi 43 40 42 4,Ls 44 43 4,Ob 11 (.new (.agg [.int .i64 0,.int .i64 0,.int .i64 0,.int .i64 0]) 4),Sv 11 44 4]
 (Sq [Oa 45 10 2,Ld 46 45]
 (.block 2 (Sq [Bc .eql 48 46 1,Mv 47 48]
 (.cond (.t 47) (.seq (Sq [Oa 49 11 0,Ld 50 49,Bc .neq 51 50 0]
 (.cond (.t 51) (.exit 1)
 (.skip)))
 (Sq [Oa 53 7 0,Ld 54 53,Oa 55 10 4,Ld 56 55,Ob 57 (.call 41 [.t 54,.t 56]),Mv 52 57,Xt 58 52 0,Xt 59 52 1,Xt 60 52 2,Mv 12 58,Mv 13 59,Mv 14 60]
 (.seq (Sq [Mv 61 14,Ob 62 (.not (.t 61))]
 (.cond (.t 62) (Sq [Oa 63 7 1,Ld 64 63,Oa 65 10 3,Ld 66 65,Oa 67 10 4,Ld 68 67,Ob 69 (.build [.int .i64 0,.int .i64 0,.int .i64 0,.int .i64 0] [(0, 1, (Ci 1)), (1, 1, (Ci (-1))), (2, 1, (Ci (-1))), (3, 1, (.t 68))]),Oi 70 64 66 4,Sv 70 69 4]
 (.exit 1))
 (.skip)))
 (.seq (Sq [Mv 71 13,Mv 15 71]
 (.block 3 (.loop (.seq (Sq [Mv 72 15,Mv 73 13,Oa 74 10 4,Ld 75 74,Bn .add 76 73 75,Bn .lss 77 72 76]
 (.cond (.t 77) (.skip)
 (.exit 3)))
 (.seq (.block 4 (.region [Oa 80 7 0,Ld 81 80,Mv 82 12,Oi 83 81 82 1,Ld 84 83,Mv 85 15,Oa 86 10 3,Ld 87 86,Oi 88 84 85 1,Sv 88 87 1]))
 (.region [Mv 78 15,Bc .add 79 78 1,Mv 15 79]))))))
 (Sq [Oa 89 7 1,Ld 90 89,Oa 91 10 3,Ld 92 91,Mv 93 12,Mv 94 13,Oa 95 10 4,Ld 96 95,Ob 97 (.build [.int .i64 0,.int .i64 0,.int .i64 0,.int .i64 0] [(0, 1, (Ci 2)), (1, 1, (.t 93)), (2, 1, (.t 94)), (3, 1, (.t 96))]),Oi 98 90 92 4,Sv 98 97 4]
 (.region [Oa 99 7 2,Ld 100 99,Oa 101 10 3,Ld 102 101,Oa 103 10 1,Ld 104 103,Oi 105 100 102 1,Sv 105 104 1]))))))
 (Sq [Bc .eql 107 46 2,Mv 106 107]
 (.cond (.t 106) (Sq [Oa 108 11 0,Ld 109 108,Bc .eql 110 109 2]
 (.cond (.t 110) (.region [Oa 111 7 1,Ld 112 111,Oa 113 10 3,Ld 114 113,Oi 115 112 114 4,Oa 116 115 0,On (.store (.t 116) (Ci 3) 1)])
 (.region [Oa 117 7 3,Ld 118 117,Oa 119 10 3,Ld 120 119,Ob 121 (.lit false 3 1 [.t 120]),Ob 122 (.app false (.t 118) (.t 121) 3 1 8),Oa 123 7 3,Sv 123 122 1])))
 (Sq [Bc .eql 125 46 3,Mv 124 125]
 (.cond (.t 124) (Sq [Oa 126 11 0,Ld 127 126,Bc .eql 128 127 2,Mv 129 128,Og 130 129 false (.addr (.t 11) 0),Og 131 129 false (.load (.t 130) none),Og 132 129 false (.bin .eql (.t 131) (Ci 3)),Ob 133 (.pick (.t 129) (.c (.bool true)) (.t 132))]
 (.cond (.t 133) (.region [Ls 134 7 4,Oa 135 10 3,Ld 136 135,Ob 137 (.call 57 [.t 134,.t 136,Ci 5])])
 (.skip)))
 (.skip))))))))))))))
 (.region [Mv 24 9,Bc .add 25 24 1,Mv 9 25]))))))
 (Sq [Ls 138 3 2,Ls 139 7 4,Mv 140 2,Ob 141 (.call 56 [.t 138,.t 139,.t 140])]
 (Sq [Ls 142 7 4,Sv 6 142 4]
 (.ret))))))
def r35 : List Res := [.cell 6 (some 4)]
def a35 : AFn := ⟨3, c35, r35,.v⟩
def c36 : ACode := Sq [Mv 3 0,Ob 4 (.len (.t 3)),Mv 2 4]
 (.region [Mv 5 0,Mv 6 2,Mv 7 2,Ob 8 (.conv .u64 (.t 7)),Ob 9 (.call 59 [.t 8]),Ob 10 (.call 58 [.t 5,Ci 0,.t 6,.t 9])])
def r36 : List Res := []
def a36 : AFn := ⟨1, c36, r36,.r⟩
def c37 : ACode := Sq [Ob 2 (.mov (.c (.sl [] .tight)))]
 (.seq (Sq [Mv 6 0,Ob 7 (.len (.t 6)),Bc .lss 8 7 2]
 (.cond (.t 8) (Sq [Mv 9 0,Mv 2 9]
 (.ret))
 (.skip)))
 (.seq (Sq [Mc 3 1]
 (.block 0 (.loop (.seq (Sq [Mv 10 3,Mv 11 0,Ob 12 (.len (.t 11)),Bn .lss 13 10 12]
 (.cond (.t 13) (.skip)
 (.exit 0)))
 (.seq (.block 1 (Sq [Mv 16 0,Mv 17 3,Oi 18 16 17 1,Ld 19 18,Mv 20 0,Mv 21 3,Bc .sub 22 21 1,Oi 23 20 22 1,Ld 24 23,Bn .eql 25 19 24]
 (.cond (.t 25) (Sq [Mv 26 0,Mv 27 3,Ob 28 (.slice (.t 26) (some (.t 27)) none 1),Mv 4 28]
 (.seq (Sq [Mc 5 1]
 (.block 2 (.loop (.seq (Sq [Mv 29 5,Mv 30 4,Ob 31 (.len (.t 30)),Bn .lss 32 29 31]
 (.cond (.t 32) (.skip)
 (.exit 2)))
 (.seq (.block 3 (Sq [Mv 35 4,Mv 36 5,Oi 37 35 36 1,Ld 38 37,Mv 39 4,Mv 40 5,Bc .sub 41 40 1,Oi 42 39 41 1,Ld 43 42,Bn .neq 44 38 43]
 (.cond (.t 44) (Sq [Mv 45 0,Mv 46 3,Mv 47 4,Mv 48 5,Oi 49 47 48 1,Ld 50 49,Oi 51 45 46 1,Sv 51 50 1]
 (.region [Mv 52 3,Bc .add 53 52 1,Mv 3 53]))
 (.skip))))
 (.region [Mv 33 5,Bc .add 34 33 1,Mv 5 34]))))))
 (Sq [Mv 54 0,Mv 55 3,Ob 56 (.slice (.t 54) (some (.t 55)) none 1),On (.clr (.t 56) (.int .i64 0) 1)]
 (Sq [Mv 57 0,Mv 58 3,Ob 59 (.slice (.t 57) none (some (.t 58)) 1),Mv 2 59]
 (.ret)))))
 (.skip))))
 (.region [Mv 14 3,Bc .add 15 14 1,Mv 3 15]))))))
 (Sq [Mv 60 0,Mv 2 60]
 (.ret))))
def r37 : List Res := [.t 2]
def a37 : AFn := ⟨1, c37, r37,.r⟩
def c39 : ACode := Sq [Ob 2 (.mov (.c (.bool false)))]
 (Sq [Mv 3 0,Ob 4 (.call 44 [.t 3,Ci 1,Ci 12]),Mv 2 4]
 (.ret))
def r39 : List Res := [.t 2]
def a39 : AFn := ⟨1, c39, r39,.v⟩
def c40 : ACode := Sq [Ob 2 (.box (.t 0) 1),Ob 3 (.box (.t 1) 1),Ob 4 (.new (.int .i64 0) 1),Ob 5 (.new (.int .i64 0) 1),Ob 6 (.new (.bool false) 1)]
 (.seq (Sq [Ld 9 2,Ld 10 3,Ob 11 (.call 60 [.t 9,.t 10])]
 (.block 0 (.range (.t 11) [12, 13] (Sq [Mv 7 12]
 (.region [Mv 8 13]))
 (.block 1 (.seq (Sq [Ld 14 2,Oa 15 14 0,Oa 16 15 2,Ld 17 16,Mv 18 7,Oi 19 17 18 1,Ld 20 19,Mv 21 8,Ld 22 3,Ob 23 (.call 61 [.t 20,.t 21,.t 22]),Ob 24 (.not (.t 23))]
 (.cond (.t 24) (Sq [Mv 25 7,Mv 26 8,Sv 4 25 1,Sv 5 26 1,On (.store (.t 6) (.c (.bool true)) 1)]
 (.ret))
 (.skip)))
 (Sq [Ld 27 6,Ob 28 (.not (.t 27))]
 (.cond (.t 28) (.region [Mv 29 7,Mv 30 8,Sv 4 29 1,Sv 5 30 1,On (.store (.t 6) (.c (.bool true)) 1)])
 (.skip))))))))
 (.seq (.regionD [Ld 31 4,Ld 32 5,Ld 33 6,Sv 4 31 1,Sv 5 32 1,Sv 6 33 1] [(5, 4), (6, 4), (6, 5)])
 (.ret)))
def r40 : List Res := [.cell 4 none,.cell 5 none,.cell 6 none]
def a40 : AFn := ⟨2, c40, r40,.r⟩
def c41 : ACode := Sq [Mc 4 0,Mc 5 0,Ob 6 (.mov (.c (.bool false)))]
 (.seq (Sq [Mc 7 0]
 (.block 0 (.loop (.seq (Sq [Mv 10 7,Bc .lss 11 10 2]
 (.cond (.t 11) (.skip)
 (.exit 0)))
 (.seq (.block 1 (Sq [Mc 8 0]
 (.block 2 (.loop (.seq (Sq [Mv 14 8,Mv 15 0,Ob 16 (.len (.t 15)),Bn .lss 17 14 16]
 (.cond (.t 17) (.skip)
 (.exit 2)))
 (.seq (.block 3 (Sq [Mc 9 0]
 (.block 4 (.loop (.seq (Sq [Mv 20 9,Mv 21 1,Bn .add 22 20 21,Mv 23 0,Mv 24 8,Oi 25 23 24 1,Ld 26 25,Ob 27 (.len (.t 26)),Bn .leq 28 22 27]
 (.cond (.t 28) (.skip)
 (.exit 4)))
 (.seq (.block 5 (Sq [Mv 31 0,Mv 32 8,Oi 33 31 32 1,Ld 34 33,Mv 35 9,Mv 36 1,Ob 37 (.call 43 [.t 34,.t 35,.t 36]),Mv 38 37,Og 39 38 true (.mov (.t 7)),Og 40 38 true (.bin .eql (.t 39) (Ci 1)),Og 41 38 true (.mov (.t 40)),Og 42 41 false (.mov (.t 0)),Og 43 41 false (.mov (.t 8)),Og 44 41 false (.idx (.t 42) (.t 43) 1),Og 45 41 false (.load (.t 44) none),Og 46 41 false (.mov (.t 9)),Og 47 41 false (.mov (.t 1)),Og 48 41 false (.call 62 [.t 45,.t 46,.t 47]),Og 49 41 false (.not (.t 48)),Og 50 38 true (.pick (.t 41) (.c (.bool true)) (.t 49)),Ob 51 (.pick (.t 38) (.t 50) (.c (.bool false)))]
 (.cond (.t 51) (Sq [Mv 52 8,Mv 53 9,Mv 4 52,Mv 5 53,Ob 6 (.mov (.c (.bool true)))]
 (.ret))
 (.skip))))
 (.region [Mv 29 9,Bc .add 30 29 1,Mv 9 30])))))))
 (.region [Mv 18 8,Bc .add 19 18 1,Mv 8 19])))))))
 (.region [Mv 12 7,Bc .add 13 12 1,Mv 7 13]))))))
 (Sq [Mc 4 0,Mc 5 0,Ob 6 (.mov (.c (.bool false)))]
 (.ret)))
def r41 : List Res := [.t 4,.t 5,.t 6]
def a41 : AFn := ⟨2, c41, r41,.v⟩
def c42 : ACode := Sq [Ob 3 (.box (.t 1) 1),Mc 4 0]
 (Sq [Ob 5 (.new (.int .i64 0) 1),Ob 6 (.new (.int .i64 0) 1),Ob 7 (.new (.int .i64 0) 1),On (.store (.t 5) (Ci 0) 1),On (.store (.t 6) (Ci (-1)) 1),On (.store (.t 7) (Ci 0) 1)]
 (.seq (Sq [Mv 10 0,Ld 11 3,Ob 12 (.call 60 [.t 10,.t 11])]
 (.block 0 (.range (.t 12) [13, 14] (Sq [Mv 8 13]
 (.region [Mv 9 14]))
 (.block 1 (Sq [Mv 15 8,Ld 16 6,Bn .neq 17 15 16,Mv 18 17,Og 19 18 false (.mov (.t 9)),Og 20 18 false (.load (.t 7) none),Og 21 18 false (.bin .geq (.t 19) (.t 20)),Ob 22 (.pick (.t 18) (.c (.bool true)) (.t 21))]
 (.cond (.t 22) (.regionD [Ld 23 5,Bc .add 24 23 1,Mv 25 8,Mv 26 9,Ld 27 3,Bn .add 28 26 27,Sv 5 24 1,Sv 6 25 1,Sv 7 28 1] [(3, 5), (3, 6)])
 (.skip)))))))
 (Sq [Ld 29 5,Mv 4 29]
 (.ret))))
def r42 : List Res := [.t 4]
def a42 : AFn := ⟨2, c42, r42,.r⟩
def c43 : ACode := Sq [Ob 6 (.mov (.c (.bool false)))]
 (.seq (Sq [Mv 8 1,Mv 7 8]
 (.block 0 (.loop (.seq (Sq [Mv 9 7,Mv 10 1,Mv 11 2,Bn .add 12 10 11,Bn .lss 13 9 12]
 (.cond (.t 13) (.skip)
 (.exit 0)))
 (.seq (.block 1 (Sq [Mv 16 0,Mv 17 7,Ob 18 (.call 63 [.t 16,.t 17]),Ob 19 (.not (.t 18))]
 (.cond (.t 19) (Sq [Ob 6 (.mov (.c (.bool false)))]
 (.ret))
 (.skip))))
 (.region [Mv 14 7,Bc .add 15 14 1,Mv 7 15]))))))
 (Sq [Ob 6 (.mov (.c (.bool true)))]
 (.ret)))
def r43 : List Res := [.t 6]
def a43 : AFn := ⟨3, c43, r43,.v⟩
def c44 : ACode := Sq [Ob 6 (.mov (.c (.bool false)))]
 (Sq [Mv 7 1,Mv 8 0,Bn .leq 9 7 8,Mv 10 9,Og 11 10 true (.mov (.t 0)),Og 12 10 true (.mov (.t 2)),Og 13 10 true (.bin .leq (.t 11) (.t 12)),Ob 14 (.pick (.t 10) (.t 13) (.c (.bool false))),Mv 6 14]
 (.ret))
def r44 : List Res := [.t 6]
def a44 : AFn := ⟨3, c44, r44,.v⟩
def c45 : ACode := Sq [Ob 3 (.box (.t 1) 1),Ob 4 (.mov (.c (.bool false)))]
 (Sq [Mv 5 0,Ob 6 (.clo 65 [] [.t 3]),Ob 7 (.call 64 [.t 5,.t 6]),Ob 8 (.not (.t 7)),Mv 4 8]
 (.ret))
def r45 : List Res := [.t 4]
def a45 : AFn := ⟨2, c45, r45,.v⟩
def c46 : ACode := Sq [Ob 3 (.box (.t 1) 1),Ob 4 (.mov (.c (.bool false)))]
 (Sq [Mv 5 0,Ob 6 (.clo 67 [] [.t 3]),Ob 7 (.call 66 [.t 5,.t 6]),Ob 8 (.not (.t 7)),Mv 4 8]
 (.ret))
def r46 : List Res := [.t 4]
def a46 : AFn := ⟨2, c46, r46,.v⟩
def c47 : ACode := Sq [Ob 1 (.box (.t 0) 5),Ob 2 (.mov (.c (.bool false)))]
 (Sq [Oa 3 1 0,Ld 4 3,Ob 5 (.call 32 [.t 4]),Mv 6 5,Og 7 6 true (.addr (.t 1) 3),Og 8 6 true (.load (.t 7) none),Og 9 6 true (.call 32 [.t 8]),Ob 10 (.pick (.t 6) (.t 9) (.c (.bool false))),Mv 11 10,Og 12 11 true (.addr (.t 1) 1),Og 13 11 true (.load (.t 12) none),Og 14 11 true (.call 49 [.t 13]),Ob 15 (.pick (.t 11) (.t 14) (.c (.bool false))),Mv 16 15,Og 17 16 true (.load (.t 1) (some 5)),Og 18 16 true (.call 68 [.t 17]),Ob 19 (.pick (.t 16) (.t 18) (.c (.bool false))),Mv 2 19]
 (.ret))
def r47 : List Res := [.t 2]
def a47 : AFn := ⟨1, c47, r47,.v⟩
def c48 : ACode := Sq [Ob 6 (.mov (.c (.bool false)))]
 (Sq [Mv 7 0,Mv 8 1,Bn .geq 9 7 8,Mv 10 9,Og 11 10 true (.mov (.t 0)),Og 12 10 true (.mov (.t 2)),Og 13 10 true (.bin .leq (.t 11) (.t 12)),Ob 14 (.pick (.t 10) (.t 13) (.c (.bool false))),Mv 6 14]
 (.ret))
def r48 : List Res := [.t 6]
def a48 : AFn := ⟨3, c48, r48,.v⟩
def c49 : ACode := Sq [Ob 2 (.mov (.c (.bool false)))]
 (Sq [Mv 3 0,Ob 4 (.call 44 [.t 3,Ci 0,Ci 9999]),Mv 2 4]
 (.ret))
def r49 : List Res := [.t 2]
def a49 : AFn := ⟨1, c49, r49,.v⟩
def c50 : ACode := Sq [Ob 4 (.mov (.c (.sl [] .tight)))]
 (.seq (Sq [Mv 9 1,Bc .lss 10 9 0]
 (.cond (.t 10) (.region [Ob 11 (.bad),On (.bad)])
 (.skip)))
 (Sq [Mv 13 0,Ob 14 (.len (.t 13)),Ob 15 (.conv .u64 (.t 14)),Mv 16 1,Ob 17 (.conv .u64 (.t 16)),Ob 18 (.call 69 [.t 15,.t 17]),Mv 12 18,Xt 19 12 0,Xt 20 12 1,Mv 5 19,Mv 6 20]
 (.seq (Sq [Mv 21 5,Ob 22 (.bin .gtr (.t 21) (.c (.int .u64 0))),Mv 23 22,Og 24 23 false (.mov (.t 6)),Og 25 23 false (.bin .gtr (.t 24) (.c (.int .u64 9223372036854775807))),Ob 26 (.pick (.t 23) (.c (.bool true)) (.t 25))]
 (.cond (.t 26) (.region [Ob 27 (.bad),On (.bad)])
 (.skip)))
 (Sq [Mv 28 6,Ob 29 (.conv .i64 (.t 28)),Ob 30 (.make (.int .i64 0) 3 1 8 (.t 29) (.t 29)),Mv 7 30]
 (Sq [Mv 31 7,Mv 32 0,Ob 33 (.cpy (.t 31) (.t 32) 1),Mv 8 33]
 (.seq (.block 0 (.loop (.seq (Sq [Mv 34 8,Mv 35 7,Ob 36 (.len (.t 35)),Bn .lss 37 34 36]
 (.cond (.t 37) (.skip)
 (.exit 0)))
 (.block 1 (.region [Mv 38 8,Mv 39 7,Mv 40 8,Ob 41 (.slice (.t 39) (some (.t 40)) none 1),Mv 42 7,Mv 43 8,Ob 44 (.slice (.t 42) none (some (.t 43)) 1),Ob 45 (.cpy (.t 41) (.t 44) 1),Bn .add 46 38 45,Mv 8 46])))))
 (Sq [Mv 47 7,Mv 4 47]
 (.ret))))))))
def r50 : List Res := [.t 4]
def a50 : AFn := ⟨2, c50, r50,.o⟩
def c51 : ACode := Sq [Ob 2 (.mov (.c (.sl [] .tight)))]
 (Sq [Mv 3 0,Ob 4 (.call 70 [.t 3]),Mv 0 4]
 (Sq [Mv 5 0,Ob 6 (.call 71 [.t 5, (.c (.fn 72 [] []))])]
 (Sq [Mv 7 0,Ob 8 (.call 75 [.t 7]),Mv 2 8]
 (.ret))))
def r51 : List Res := [.t 2]
def a51 : AFn := ⟨1, c51, r51,.v⟩
def c52 : ACode := Sq [Ob 3 (.box (.t 1) 5)]
 (Sq [Mv 4 0,Oa 5 3 1,Ld 6 5,Ob 7 (.call 53 [.t 4,.t 6])]
 (Sq [Oa 8 3 2,Ld 9 8]
 (.block 0 (Sq [Bc .eql 11 9 1,Mv 10 11]
 (.cond (.t 10) (.region [Mv 12 0,Ls 13 3 5,Ob 14 (.call 76 [.t 12,.t 13])])
 (Sq [Bc .eql 16 9 2,Mv 15 16]
 (.cond (.t 15) (.region [Mv 17 0,Oa 18 3 3,Ld 19 18,Ob 20 (.call 77 [.t 17,.t 19])])
 (Sq [Bc .eql 22 9 3,Mv 21 22]
 (.cond (.t 21) (.region [Mv 23 0,Oa 24 3 3,Ld 25 24,Ob 26 (.call 78 [.t 23,.t 25])])
 (.skip))))))))))
def r52 : List Res := []
def a52 : AFn := ⟨2, c52, r52,.r⟩
def c53 : ACode := .rngm (.t 9) 10 11 12 13 [Mv 6 0, Oa 7 6 0, Oa 8 7 3, Ld 9 8] [Xt 14 13 1, Mv 5 14] 0 1 (Sq [Mv 15 5,Oa 16 15 0,Oa 17 16 0,Oa 18 17 0,Ld 19 18,Bc .eql 20 19 2,Mv 21 20,Og 22 21 true (.mov (.t 5)),Og 23 21 true (.addr (.t 22) 0),Og 24 21 true (.addr (.t 23) 4),Og 25 21 true (.load (.t 24) none),Og 26 21 true (.mov (.t 0)),Og 27 21 true (.addr (.t 26) 0),Og 28 21 true (.addr (.t 27) 0),Og 29 21 true (.addr (.t 28) 1),Og 30 21 true (.load (.t 29) none),Og 31 21 true (.bin .add (.t 25) (.t 30)),Og 32 21 true (.mov (.t 1)),Og 33 21 true (.bin .leq (.t 31) (.t 32)),Ob 34 (.pick (.t 21) (.t 33) (.c (.bool false)))]
 (.cond (.t 34) (.region [Mv 35 0,Mv 36 5,Ob 37 (.call 79 [.t 35,.t 36,Ci 4])])
 (.skip))) [5, 14, 15, 16, 17, 18, 19, 20, 21, 22, 23, 24, 25, 26, 27, 28, 29, 30, 31, 32, 33, 34, 35, 36, 37]
def r53 : List Res := []
def a53 : AFn := ⟨2, c53, r53,.r⟩
def c54 : ACode := Sq [Ob 1 (.box (.t 0) 2),Ob 2 (.new (.agg [.sl [] .tight,.sl [] .tight,.sl [] .tight,.sl [] .tight]) 4)]
 (Sq [Ob 3 (.new (.agg [.sl [] .tight,.sl [] .tight,.sl [] .tight,.sl [] .tight]) 4)]
 (.seq (Sq [Mc 4 0]
 (.block 0 (.loop (.seq (Sq [Mv 8 4,Oa 9 1 0,Ld 10 9,Ob 11 (.len (.t 10)),Bn .lss 12 8 11]
 (.cond (.t 12) (.skip)
 (.exit 0)))
 (.seq (.block 1 (Sq [Oa 15 1 0,Ld 16 15,Mv 17 4,Oi 18 16 17 1,Ld 19 18,Ob 20 (.make (.int .i64 0) 3 1 8 (.t 19) (.t 19)),Mv 5 20]
 (.seq (Sq [Mc 6 0]
 (.block 2 (.loop (.seq (Sq [Mv 21 6,Mv 22 5,Ob 23 (.len (.t 22)),Bn .lss 24 21 23]
 (.cond (.t 24) (.skip)
 (.exit 2)))
 (.seq (.block 3 (.region [Mv 27 5,Mv 28 6,Oi 29 27 28 1,On (.store (.t 29) (Ci (-1)) 1)]))
 (.region [Mv 25 6,Bc .add 26 25 1,Mv 6 26]))))))
 (.region [Oa 30 3 0,Ld 31 30,Mv 32 5,Ob 33 (.lit true 22 1 [.t 32]),Ob 34 (.app true (.t 31) (.t 33) 22 1 24),Oa 35 3 0,Sv 35 34 1]))))
 (.region [Mv 13 4,Bc .add 14 13 1,Mv 4 14]))))))
 (.seq (Sq [Mc 7 0]
 (.block 4 (.loop (.seq (Sq [Mv 36 7,Bc .leq 37 36 99]
 (.cond (.t 37) (.skip)
 (.exit 4)))
 (.seq (.block 5 (Sq [Oa 40 3 1,Ld 41 40,Ob 42 (.build [.int .i64 0,.int .i64 0,.int .i64 0,.int .i64 0] [(1, 1, (Ci (-1))), (2, 1, (Ci (-1)))]),Ob 43 (.lit true 35 4 [.t 42]),Ob 44 (.app true (.t 41) (.t 43) 35 4 32),Oa 45 3 1,Sv 45 44 1]
 (.region [Oa 46 3 2,Ld 47 46,Ob 48 (.lit true 3 1 [Ci 0]),Ob 49 (.app true (.t 47) (.t 48) 3 1 8),Oa 50 3 2,Sv 50 49 1])))
 (.region [Mv 38 7,Bc .add 39 38 1,Mv 7 39]))))))
 (Sq [Ls 51 3 4,Sv 2 51 4]
 (.ret)))))
def r54 : List Res := [.cell 2 (some 4)]
def a54 : AFn := ⟨1, c54, r54,.r⟩
def c55 : ACode := Sq [Ob 2 (.mov (.c (.sl [] .tight)))]
 (Sq [Ob 3 (.mov (.c (.sl [] .tight)))]
 (.seq (Sq [Mc 4 0]
 (.block 0 (.loop (.seq (Sq [Mv 9 4,Mv 10 0,Ob 11 (.len (.t 10)),Bn .lss 12 9 11]
 (.cond (.t 12) (.skip)
 (.exit 0)))
 (.seq (.block 1 (Sq [Mc 5 0,Ob 6 (.mov (.c (.bool false)))]
 (.seq (Sq [Mc 7 0]
 (.block 2 (.loop (.seq (Sq [Mv 15 7,Mv 16 3,Ob 17 (.len (.t 16)),Bn .lss 18 15 17]
 (.cond (.t 18) (.skip)
 (.exit 2)))
 (.seq (.block 3 (Sq [Mv 21 6,Mv 22 21,Og 23 22 false (.mov (.t 3)),Og 24 22 false (.mov (.t 7)),Og 25 22 false (.idx (.t 23) (.t 24) 5),Og 26 22 false (.load (.t 25) (some 5)),Og 27 22 false (.mov (.t 0)),Og 28 22 false (.mov (.t 4)),Og 29 22 false (.idx (.t 27) (.t 28) 5),Og 30 22 false (.load (.t 29) (some 5)),Og 31 22 false (.eqv false true [.i,.i,.i,.i,.i] (.t 26) (.t 30)),Ob 32 (.pick (.t 22) (.c (.bool true)) (.t 31)),Mv 6 32]
 (Sq [Mv 33 3,Mv 34 7,Oi 35 33 34 5,Oa 36 35 1,Ld 37 36,Mv 38 0,Mv 39 4,Oi 40 38 39 5,Oa 41 40 1,Ld 42 41,Bn .lss 43 37 42,Mv 44 43,Og 45 44 false (.mov (.t 3)),Og 46 44 false (.mov (.t 7)),Og 47 44 false (.idx (.t 45) (.t 46) 5),Og 48 44 false (.addr (.t 47) 1),Og 49 44 false (.load (.t 48) none),Og 50 44 false (.mov (.t 0)),Og 51 44 false (.mov (.t 4)),Og 52 44 false (.idx (.t 50) (.t 51) 5),Og 53 44 false (.addr (.t 52) 1),Og 54 44 false (.load (.t 53) none),Og 55 44 false (.bin .eql (.t 49) (.t 54)),Og 56 44 false (.mov (.t 55)),Og 57 56 true (.mov (.t 3)),Og 58 56 true (.mov (.t 7)),Og 59 56 true (.idx (.t 57) (.t 58) 5),Og 60 56 true (.addr (.t 59) 0),Og 61 56 true (.load (.t 60) none),Og 62 56 true (.mov (.t 0)),Og 63 56 true (.mov (.t 4)),Og 64 56 true (.idx (.t 62) (.t 63) 5),Og 65 56 true (.addr (.t 64) 0),Og 66 56 true (.load (.t 65) none),Og 67 56 true (.bin .lss (.t 61) (.t 66)),Og 68 44 false (.pick (.t 56) (.t 67) (.c (.bool false))),Ob 69 (.pick (.t 44) (.c (.bool true)) (.t 68))]
 (.cond (.t 69) (.region [Mv 70 7,Bc .add 71 70 1,Mv 5 71])
 (.skip)))))
 (.region [Mv 19 7,Bc .add 20 19 1,Mv 7 20]))))))
 (Sq [Mv 72 6,Ob 73 (.not (.t 72))]
 (.cond (.t 73) (Sq [Mv 74 0,Mv 75 4,Oi 76 74 75 5,Ls 77 76 5,Ob 78 (.lit false 57 5 [.t 77]),Mv 79 3,Mv 80 5,Ob 81 (.slice (.t 79) (some (.t 80)) none 5),Ob 82 (.app false (.t 78) (.t 81) 57 5 40),Mv 8 82]
 (.region [Ob 83 (.lit false 57 5 []),Mv 84 3,Mv 85 5,Ob 86 (.slice (.t 84) none (some (.t 85)) 5),Ob 87 (.app false (.t 83) (.t 86) 57 5 40),Mv 88 8,Ob 89 (.app false (.t 87) (.t 88) 57 5 40),Mv 3 89]))
 (.skip))))))
 (.region [Mv 13 4,Bc .add 14 13 1,Mv 4 14]))))))
 (Sq [Mv 90 3,Mv 2 90]
 (.ret))))
def r55 : List Res := [.t 2]
def a55 : AFn := ⟨1, c55, r55,.v⟩
def c56 : ACode := Sq [Ob 3 (.box (.t 0) 2),Ob 4 (.box (.t 1) 4)]
 (Sq [Mc 6 0]
 (.block 0 (.loop (.seq (Sq [Mv 7 6,Oa 8 4 1,Ld 9 8,Ob 10 (.len (.t 9)),Bn .lss 11 7 10]
 (.cond (.t 11) (.skip)
 (.exit 0)))
 (.seq (.block 1 (Sq [Oa 14 4 1,Ld 15 14,Mv 16 6,Oi 17 15 16 4,Oa 18 17 0,Ld 19 18,Bc .eql 20 19 2,Mv 21 20,Og 22 21 true (.mov (.t 2)),Og 23 21 true (.addr (.t 4) 2),Og 24 21 true (.load (.t 23) none),Og 25 21 true (.mov (.t 6)),Og 26 21 true (.idx (.t 24) (.t 25) 1),Og 27 21 true (.load (.t 26) none),Og 28 21 true (.addr (.t 3) 1),Og 29 21 true (.load (.t 28) none),Og 30 21 true (.bin .add (.t 27) (.t 29)),Og 31 21 true (.bin .geq (.t 22) (.t 30)),Ob 32 (.pick (.t 21) (.t 31) (.c (.bool false)))]
 (.cond (.t 32) (.region [Ls 33 4 4,Mv 34 6,Ob 35 (.call 57 [.t 33,.t 34,Ci 4])])
 (.skip))))
 (.region [Mv 12 6,Bc .add 13 12 1,Mv 6 13]))))))
def r56 : List Res := []
def a56 : AFn := ⟨3, c56, r56,.r⟩
def c57 : ACode := Sq [Ob 3 (.box (.t 0) 4)]
 (.seq (Sq [Mc 6 0]
 (.block 0 (.loop (.seq (Sq [Mv 8 6,Oa 9 3 0,Ld 10 9,Ob 11 (.len (.t 10)),Bn .lss 12 8 11]
 (.cond (.t 12) (.skip)
 (.exit 0)))
 (.seq (.block 1 (Sq [Mc 7 0]
 (.block 2 (.loop (.seq (Sq [Mv 15 7,Oa 16 3 0,Ld 17 16,Mv 18 6,Oi 19 17 18 1,Ld 20 19,Ob 21 (.len (.t 20)),Bn .lss 22 15 21]
 (.cond (.t 22) (.skip)
 (.exit 2)))
 (.seq (.block 3 (Sq [Oa 25 3 0,Ld 26 25,Mv 27 6,Oi 28 26 27 1,Ld 29 28,Mv 30 7,Oi 31 29 30 1,Ld 32 31,Mv 33 1,Bn .eql 34 32 33]
 (.cond (.t 34) (.region [Oa 35 3 0,Ld 36 35,Mv 37 6,Oi 38 36 37 1,Ld 39 38,Mv 40 7,Oi 41 39 40 1,On (.store (.t 41) (Ci (-1)) 1)])
 (.skip))))
 (.region [Mv 23 7,Bc .add 24 23 1,Mv 7 24])))))))
 (.region [Mv 13 6,Bc .add 14 13 1,Mv 6 14]))))))
 (.region [Oa 42 3 1,Ld 43 42,Mv 44 1,Mv 45 2,Oa 46 3 1,Ld 47 46,Mv 48 1,Oi 49 47 48 4,Oa 50 49 3,Ld 51 50,Ob 52 (.build [.int .i64 0,.int .i64 0,.int .i64 0,.int .i64 0] [(0, 1, (.t 45)), (1, 1, (Ci (-1))), (2, 1, (Ci (-1))), (3, 1, (.t 51))]),Oi 53 43 44 4,Sv 53 52 4]))
def r57 : List Res := []
def a57 : AFn := ⟨3, c57, r57,.r⟩
def c58 : ACode := Sq [Ob 8 (.mov (.c (.bool true)))]
 (Sq [Ob 9 (.mov (.c (.bool true)))]
 (.block 0 (.loop (.block 1 (Sq [Mv 19 2,Mv 20 1,Bn .sub 21 19 20,Mv 10 21]
 (.seq (Sq [Mv 22 10,Bc .leq 23 22 12]
 (.cond (.t 23) (Sq [Mv 24 0,Mv 25 1,Mv 26 2,Ob 27 (.call 80 [.t 24,.t 25,.t 26])]
 (.ret))
 (.skip)))
 (.seq (Sq [Mv 28 3,Bc .eql 29 28 0]
 (.cond (.t 29) (Sq [Mv 30 0,Mv 31 1,Mv 32 2,Ob 33 (.call 81 [.t 30,.t 31,.t 32])]
 (.ret))
 (.skip)))
 (.seq (Sq [Mv 34 8,Ob 35 (.not (.t 34))]
 (.cond (.t 35) (Sq [Mv 36 0,Mv 37 1,Mv 38 2,Ob 39 (.call 82 [.t 36,.t 37,.t 38])]
 (.region [Mv 40 3,Bc .sub 41 40 1,Mv 3 41]))
 (.skip)))
 (Sq [Mv 43 0,Mv 44 1,Mv 45 2,Ob 46 (.call 83 [.t 43,.t 44,.t 45]),Mv 42 46,Xt 47 42 0,Xt 48 42 1,Mv 11 47,Mv 12 48]
 (.seq (Sq [Mv 49 12,Bc .eql 50 49 2]
 (.cond (.t 50) (Sq [Mv 51 0,Mv 52 1,Mv 53 2,Ob 54 (.call 84 [.t 51,.t 52,.t 53])]
 (Sq [Mv 55 2,Bc .sub 56 55 1,Mv 57 11,Mv 58 1,Bn .sub 59 57 58,Bn .sub 60 56 59,Mv 11 60]
 (.region [Mc 12 1])))
 (.skip)))
 (.seq (Sq [Mv 61 8,Mv 62 61,Og 63 62 true (.mov (.t 9)),Ob 64 (.pick (.t 62) (.t 63) (.c (.bool false))),Mv 65 64,Og 66 65 true (.mov (.t 12)),Og 67 65 true (.bin .eql (.t 66) (Ci 1)),Ob 68 (.pick (.t 65) (.t 67) (.c (.bool false)))]
 (.cond (.t 68) (Sq [Mv 69 0,Mv 70 1,Mv 71 2,Ob 72 (.call 85 [.t 69,.t 70,.t 71])]
 (.cond (.t 72) (.ret)
 (.skip)))
 (.skip)))
 (.seq (Sq [Mv 73 1,Bc .gtr 74 73 0,Mv 75 74,Og 76 75 true (.mov (.t 0)),Og 77 75 true (.mov (.t 1)),Og 78 75 true (.bin .sub (.t 77) (Ci 1)),Og 79 75 true (.idx (.t 76) (.t 78) 1),Og 80 75 true (.load (.t 79) none),Og 81 75 true (.mov (.t 0)),Og 82 75 true (.mov (.t 11)),Og 83 75 true (.idx (.t 81) (.t 82) 1),Og 84 75 true (.load (.t 83) none),Og 85 75 true (.call 86 [.t 80,.t 84]),Og 86 75 true (.not (.t 85)),Ob 87 (.pick (.t 75) (.t 86) (.c (.bool false)))]
 (.cond (.t 87) (Sq [Mv 88 0,Mv 89 1,Mv 90 2,Mv 91 11,Ob 92 (.call 87 [.t 88,.t 89,.t 90,.t 91]),Mv 13 92]
 (Sq [Mv 93 13,Mv 1 93]
 (.exit 1)))
 (.skip)))
 (Sq [Mv 95 0,Mv 96 1,Mv 97 2,Mv 98 11,Ob 99 (.call 88 [.t 95,.t 96,.t 97,.t 98]),Mv 94 99,Xt 100 94 0,Xt 101 94 1,Mv 14 100,Mv 15 101]
 (Sq [Mv 102 15,Mv 9 102]
 (Sq [Mv 103 14,Mv 104 1,Bn .sub 105 103 104,Mv 106 2,Mv 107 14,Bn .sub 108 106 107,Mv 16 105,Mv 17 108]
 (Sq [Mv 109 10,Bc .quo 110 109 8,Mv 18 110]
 (Sq [Mv 111 16,Mv 112 17,Bn .lss 113 111 112]
 (.cond (.t 113) (Sq [Mv 114 16,Mv 115 18,Bn .geq 116 114 115,Mv 8 116]
 (Sq [Mv 117 0,Mv 118 1,Mv 119 14,Mv 120 3,Ob 121 (.call 58 [.t 117,.t 118,.t 119,.t 120])]
 (.region [Mv 122 14,Bc .add 123 122 1,Mv 1 123])))
 (Sq [Mv 124 17,Mv 125 18,Bn .geq 126 124 125,Mv 8 126]
 (Sq [Mv 127 0,Mv 128 14,Bc .add 129 128 1,Mv 130 2,Mv 131 3,Ob 132 (.call 58 [.t 127,.t 129,.t 130,.t 131])]
 (.region [Mv 133 14,Mv 2 133])))))))))))))))))))))
def r58 : List Res := []
def a58 : AFn := ⟨4, c58, r58,.r⟩
def c59 : ACode := Srt.bitsLenC 89 90
def r59 : List Res := [.t 2]
def a59 : AFn := ⟨1, c59, r59,.v⟩
def c60 : ACode := Sq [Ob 2 (.box (.t 0) 1),Ob 3 (.box (.t 1) 1),Ob 4 (.mov (.c .nilf))]
 (Sq [Ob 5 (.clo 91 [] [.t 2,.t 3]),Mv 4 5]
 (.ret))
def r60 : List Res := [.t 4]
def a60 : AFn := ⟨2, c60, r60,.r⟩
def c61 : ACode := Sq [Ob 3 (.box (.t 0) 1),Ob 6 (.mov (.c (.bool false)))]
 (Sq [Ob 10 (.clo 92 [] [.t 3]),Mv 7 10]
 (Sq [Mv 11 1,Bc .sub 12 11 1,Mv 13 1,Mv 14 2,Bn .add 15 13 14,Mv 8 12,Mv 9 15]
 (Sq [Mv 16 7,Mv 17 8,Ob 18 (.callv (.t 16) [.t 17]),Mv 19 18,Og 20 19 true (.mov (.t 7)),Og 21 19 true (.mov (.t 8)),Og 22 19 true (.bin .sub (.t 21) (Ci 1)),Og 23 19 true (.callv (.t 20) [.t 22]),Og 24 19 true (.not (.t 23)),Ob 25 (.pick (.t 19) (.t 24) (.c (.bool false))),Mv 26 25,Og 27 26 false (.mov (.t 7)),Og 28 26 false (.mov (.t 9)),Og 29 26 false (.callv (.t 27) [.t 28]),Og 30 26 false (.mov (.t 29)),Og 31 30 true (.mov (.t 7)),Og 32 30 true (.mov (.t 9)),Og 33 30 true (.bin .add (.t 32) (Ci 1)),Og 34 30 true (.callv (.t 31) [.t 33]),Og 35 30 true (.not (.t 34)),Og 36 26 false (.pick (.t 30) (.t 35) (.c (.bool false))),Ob 37 (.pick (.t 26) (.c (.bool true)) (.t 36)),Mv 6 37]
 (.ret))))
def r61 : List Res := [.t 6]
def a61 : AFn := ⟨3, c61, r61,.v⟩
def c62 : ACode := Sq [Ob 6 (.mov (.c (.bool false)))]
 (Sq [Mv 9 1,Bc .sub 10 9 1,Mv 11 1,Mv 12 2,Bn .add 13 11 12,Mv 7 10,Mv 8 13]
 (Sq [Mv 14 0,Mv 15 7,Ob 16 (.call 63 [.t 14,.t 15]),Mv 17 16,Og 18 17 true (.mov (.t 0)),Og 19 17 true (.mov (.t 7)),Og 20 17 true (.bin .sub (.t 19) (Ci 1)),Og 21 17 true (.call 63 [.t 18,.t 20]),Og 22 17 true (.not (.t 21)),Ob 23 (.pick (.t 17) (.t 22) (.c (.bool false))),Mv 24 23,Og 25 24 false (.mov (.t 0)),Og 26 24 false (.mov (.t 8)),Og 27 24 false (.call 63 [.t 25,.t 26]),Og 28 24 false (.mov (.t 27)),Og 29 28 true (.mov (.t 0)),Og 30 28 true (.mov (.t 8)),Og 31 28 true (.bin .add (.t 30) (Ci 1)),Og 32 28 true (.call 63 [.t 29,.t 31]),Og 33 28 true (.not (.t 32)),Og 34 24 false (.pick (.t 28) (.t 33) (.c (.bool false))),Ob 35 (.pick (.t 24) (.c (.bool true)) (.t 34)),Mv 6 35]
 (.ret)))
def r62 : List Res := [.t 6]
def a62 : AFn := ⟨3, c62, r62,.v⟩
def c63 : ACode := Sq [Ob 4 (.mov (.c (.bool false)))]
 (Sq [Mv 5 1,Bc .geq 6 5 0,Mv 7 6,Og 8 7 true (.mov (.t 1)),Og 9 7 true (.mov (.t 0)),Og 10 7 true (.len (.t 9)),Og 11 7 true (.bin .lss (.t 8) (.t 10)),Ob 12 (.pick (.t 7) (.t 11) (.c (.bool false))),Mv 13 12,Og 14 13 true (.mov (.t 0)),Og 15 13 true (.mov (.t 1)),Og 16 13 true (.idx (.t 14) (.t 15) 1),Og 17 13 true (.load (.t 16) none),Og 18 13 true (.bin .eql (.t 17) (Ci (-1))),Ob 19 (.pick (.t 13) (.t 18) (.c (.bool false))),Mv 4 19]
 (.ret))
def r63 : List Res := [.t 4]
def a63 : AFn := ⟨2, c63, r63,.v⟩
def c64 : ACode := Sq [Ob 4 (.mov (.c (.bool false)))]
 (Sq [Mv 5 0,Mv 6 1,Ob 7 (.call 93 [.t 5,.t 6]),Bc .geq 8 7 0,Mv 4 8]
 (.ret))
def r64 : List Res := [.t 4]
def a64 : AFn := ⟨2, c64, r64,.v⟩
def c65 : ACode := Sq [Ob 3 (.mov (.c (.bool false)))]
 (Sq [Ld 4 1,Mv 5 0,Ob 6 (.callv (.t 4) [.t 5]),Ob 7 (.not (.t 6)),Mv 3 7]
 (.ret))
def r65 : List Res := [.t 3]
def a65 : AFn := ⟨2, c65, r65,.v⟩
def c66 : ACode := Sq [Ob 4 (.mov (.c (.bool false)))]
 (Sq [Mv 5 0,Mv 6 1,Ob 7 (.call 94 [.t 5,.t 6]),Bc .geq 8 7 0,Mv 4 8]
 (.ret))
def r66 : List Res := [.t 4]
def a66 : AFn := ⟨2, c66, r66,.v⟩
def c67 : ACode := Sq [Ob 2 (.box (.t 0) 5),Ob 3 (.mov (.c (.bool false)))]
 (Sq [Ld 4 1,Ls 5 2 5,Ob 6 (.callv (.t 4) [.t 5]),Ob 7 (.not (.t 6)),Mv 3 7]
 (.ret))
def r67 : List Res := [.t 3]
def a67 : AFn := ⟨2, c67, r67,.v⟩
def c68 : ACode := Sq [Ob 1 (.box (.t 0) 5),Ob 2 (.mov (.c (.bool false)))]
 (.seq (Sq [Oa 3 1 2,Ld 4 3]
 (.block 0 (Sq [Bc .eql 6 4 1,Mv 5 6]
 (.cond (.t 5) (Sq [Oa 7 1 4,Ld 8 7,Ob 9 (.call 39 [.t 8]),Mv 2 9]
 (.ret))
 (.seq (Sq [Bc .eql 11 4 2,Mv 10 11]
 (.cond (.t 10) (.skip)
 (.region [Bc .eql 12 4 3,Mv 10 12])))
 (.cond (.t 10) (Sq [Oa 13 1 4,Ld 14 13,Bc .eql 15 14 0,Mv 2 15]
 (.ret))
 (.skip)))))))
 (Sq [Ob 2 (.mov (.c (.bool false)))]
 (.ret)))
def r68 : List Res := [.t 2]
def a68 : AFn := ⟨1, c68, r68,.v⟩
def c69 : ACode := Sq [Ob 4 (.mov (.c (.int .u64 0))),Ob 5 (.mov (.c (.int .u64 0)))]
 (.seq (.cond (.c (.bool false)) (Sq [Mv 11 0,Ob 12 (.conv .u32 (.t 11)),Mv 13 1,Ob 14 (.conv .u32 (.t 13)),Ob 15 (.call 95 [.t 12,.t 14]),Mv 10 15,Xt 16 10 0,Xt 17 10 1,Mv 6 16,Mv 7 17]
 (Sq [Mv 18 6,Ob 19 (.conv .u64 (.t 18)),Mv 20 7,Ob 21 (.conv .u64 (.t 20)),Mv 4 19,Mv 5 21]
 (.ret)))
 (.skip))
 (Sq [Mv 23 0,Mv 24 1,Ob 25 (.call 96 [.t 23,.t 24]),Mv 22 25,Xt 26 22 0,Xt 27 22 1,Mv 8 26,Mv 9 27]
 (Sq [Mv 28 8,Mv 29 9,Mv 4 28,Mv 5 29]
 (.ret))))
def r69 : List Res := [.t 4,.t 5]
def a69 : AFn := ⟨2, c69, r69,.v⟩
def c70 : ACode := Sq [Ob 2 (.mov (.c (.sl [] .tight)))]
 (.nilq [Mv 3 0] (.t 3) 4 (.seq (.cond (.t 4) (Sq [Ob 2 (.mov (.c (.sl [] .tight)))]
 (.ret))
 (.skip))
 (Sq [Ob 5 (.lit false 57 5 []),Mv 6 0,Ob 7 (.app0 (.t 5) (.t 6) 57 5 40),Mv 2 7]
 (.ret))) [3, 4, 5, 6, 7])
def r70 : List Res := [.t 2]
def a70 : AFn := ⟨1, c70, r70,.o⟩
def c71 : ACode := Sq [Mv 5 0,Ob 6 (.len (.t 5)),Mv 4 6]
 (.region [Mv 7 0,Mv 8 4,Mv 9 4,Ob 10 (.conv .u64 (.t 9)),Ob 11 (.call 59 [.t 10]),Mv 12 1,Ob 13 (.call 97 [.t 7,Ci 0,.t 8,.t 11,.t 12])])
def r71 : List Res := []
def a71 : AFn := ⟨2, c71, r71,.r⟩
def c72 : ACode := Sq [Ob 2 (.box (.t 0) 5),Ob 3 (.box (.t 1) 5),Mc 4 0]
 (Sq [Oa 5 2 1,Ld 6 5,Oa 7 3 1,Ld 8 7,Ob 9 (.call 74 [.t 6,.t 8]),Oa 10 2 0,Ld 11 10,Oa 12 3 0,Ld 13 12,Ob 14 (.call 74 [.t 11,.t 13]),Ob 15 (.lit false 3 1 [.t 9,.t 14]),Ob 16 (.call 73 [.t 15]),Mv 4 16]
 (.ret))
def r72 : List Res := [.t 4]
def a72 : AFn := ⟨2, c72, r72,.v⟩
def c73 : ACode := Sq [Mc 2 0]
 (Sq [Mc 3 0]
 (.seq (Sq [Mv 6 0,Ob 7 (.len (.t 6)),Mc 8 0]
 (.block 0 (.loop (Sq [Bn .lss 9 8 7]
 (.seq (.cond (.t 9) (.skip)
 (.exit 0))
 (.seq (.block 1 (Sq [Oi 10 6 8 1,Ld 11 10,Mv 5 11]
 (Sq [Mv 12 5,Mv 13 3,Bn .neq 14 12 13]
 (.cond (.t 14) (Sq [Mv 15 5,Mv 2 15]
 (.ret))
 (.skip)))))
 (.region [Bc .add 16 8 1,Mv 8 16])))))))
 (Sq [Mv 17 3,Mv 2 17]
 (.ret))))
def r73 : List Res := [.t 2]
def a73 : AFn := ⟨1, c73, r73,.v⟩
def c74 : ACode := Sq [Mc 4 0]
 (Sq [Mv 7 0,Ob 8 (.call 98 [.t 7]),Mv 5 8]
 (Sq [Mv 9 1,Ob 10 (.call 98 [.t 9]),Mv 6 10]
 (.seq (Sq [Mv 11 5]
 (.cond (.t 11) (.seq (Sq [Mv 12 6]
 (.cond (.t 12) (Sq [Mc 4 0]
 (.ret))
 (.skip)))
 (Sq [Mc 4 (-1)]
 (.ret)))
 (.skip)))
 (.seq (Sq [Mv 13 6]
 (.cond (.t 13) (Sq [Mc 4 1]
 (.ret))
 (.skip)))
 (.seq (Sq [Mv 14 0,Mv 15 1,Bn .lss 16 14 15]
 (.cond (.t 16) (Sq [Mc 4 (-1)]
 (.ret))
 (.skip)))
 (.seq (Sq [Mv 17 0,Mv 18 1,Bn .gtr 19 17 18]
 (.cond (.t 19) (Sq [Mc 4 1]
 (.ret))
 (.skip)))
 (Sq [Mc 4 0]
 (.ret))))))))
def r74 : List Res := [.t 4]
def a74 : AFn := ⟨2, c74, r74,.v⟩
def c75 : ACode := Sq [Ob 2 (.mov (.c (.sl [] .tight)))]
 (.seq (Sq [Mv 6 0,Ob 7 (.len (.t 6)),Bc .lss 8 7 2]
 (.cond (.t 8) (Sq [Mv 9 0,Mv 2 9]
 (.ret))
 (.skip)))
 (.seq (Sq [Mc 3 1]
 (.block 0 (.loop (.seq (Sq [Mv 10 3,Mv 11 0,Ob 12 (.len (.t 11)),Bn .lss 13 10 12]
 (.cond (.t 13) (.skip)
 (.exit 0)))
 (.seq (.block 1 (Sq [Mv 16 0,Mv 17 3,Oi 18 16 17 5,Ls 19 18 5,Mv 20 0,Mv 21 3,Bc .sub 22 21 1,Oi 23 20 22 5,Ls 24 23 5,Ob 25 (.eqv false true [.i,.i,.i,.i,.i] (.t 19) (.t 24))]
 (.cond (.t 25) (Sq [Mv 26 0,Mv 27 3,Ob 28 (.slice (.t 26) (some (.t 27)) none 5),Mv 4 28]
 (.seq (Sq [Mc 5 1]
 (.block 2 (.loop (.seq (Sq [Mv 29 5,Mv 30 4,Ob 31 (.len (.t 30)),Bn .lss 32 29 31]
 (.cond (.t 32) (.skip)
 (.exit 2)))
 (.seq (.block 3 (Sq [Mv 35 4,Mv 36 5,Oi 37 35 36 5,Ls 38 37 5,Mv 39 4,Mv 40 5,Bc .sub 41 40 1,Oi 42 39 41 5,Ls 43 42 5,Ob 44 (.eqv true true [.i,.i,.i,.i,.i] (.t 38) (.t 43))]
 (.cond (.t 44) (Sq [Mv 45 0,Mv 46 3,Mv 47 4,Mv 48 5,Oi 49 47 48 5,Ls 50 49 5,Oi 51 45 46 5,Sv 51 50 5]
 (.region [Mv 52 3,Bc .add 53 52 1,Mv 3 53]))
 (.skip))))
 (.region [Mv 33 5,Bc .add 34 33 1,Mv 5 34]))))))
 (Sq [Mv 54 0,Mv 55 3,Ob 56 (.slice (.t 54) (some (.t 55)) none 5),On (.clr (.t 56) (.agg [.int .i64 0,.int .i64 0,.int .i64 0,.int .i64 0,.int .i64 0]) 5)]
 (Sq [Mv 57 0,Mv 58 3,Ob 59 (.slice (.t 57) none (some (.t 58)) 5),Mv 2 59]
 (.ret)))))
 (.skip))))
 (.region [Mv 14 3,Bc .add 15 14 1,Mv 3 15]))))))
 (Sq [Mv 60 0,Mv 2 60]
 (.ret))))
def r75 : List Res := [.t 2]
def a75 : AFn := ⟨1, c75, r75,.r⟩
def c76 : ACode := Sq [Ob 3 (.box (.t 1) 5)]
 (.seq (Sq [Mv 11 0,Oa 12 11 0,Oa 13 12 3,Ld 14 13,Oa 15 3 3,Ld 16 15,Ob 17 (.mget .i .nilp true (.t 14) (.t 16)),Mv 10 17,Xt 18 10 0,Xt 19 10 1,Mv 4 18,Mv 5 19]
 (Sq [Mv 20 5]
 (.cond (.t 20) (.ret)
 (.skip))))
 (Sq [Oa 21 3 4,Ld 22 21,Ob 23 (.build [.int .i64 0,.int .i64 0,.int .i64 0,.int .i64 0] [(0, 1, (Ci 1)), (1, 1, (Ci (-1))), (2, 1, (Ci (-1))), (3, 1, (.t 22))]),Oa 24 3 1,Ld 25 24,Ob 26 (.build [.int .i64 0,.int .i64 0,.int .i64 0,.int .i64 0,.int .i64 0] [(0, 4, (.t 23)), (4, 1, (.t 25))]),Ob 27 (.box (.t 26) 5),Mv 6 27]
 (Sq [Mv 28 0,Oa 29 28 0,Oa 30 29 3,Ld 31 30,Oa 32 3 3,Ld 33 32,Mv 34 6,On (.mput .i (.t 31) (.t 33) (.t 34))]
 (Sq [Mv 36 0,Oa 37 3 4,Ld 38 37,Ob 39 (.call 40 [.t 36,.t 38]),Mv 35 39,Xt 40 35 0,Xt 41 35 1,Xt 42 35 2,Mv 7 40,Mv 8 41,Mv 9 42]
 (Sq [Mv 43 9]
 (.cond (.t 43) (Sq [Mv 44 6,Mv 45 6,Mv 46 6,Mv 47 7,Mv 48 8,Oa 49 44 0,Oa 50 49 0,Oa 51 50 0,On (.store (.t 51) (Ci 2) 1),Oa 52 45 0,Oa 53 52 0,Oa 54 53 1,Sv 54 47 1,Oa 55 46 0,Oa 56 55 0,Oa 57 56 2,Sv 57 48 1]
 (.region [Mv 58 0,Mv 59 6,Oa 60 59 0,Oa 61 60 0,Ls 62 61 4,Oa 63 3 3,Ld 64 63,Ob 65 (.call 99 [.t 58,.t 62,.t 64])]))
 (.skip)))))))
def r76 : List Res := []
def a76 : AFn := ⟨2, c76, r76,.r⟩
def c77 : ACode := Sq [Mv 7 0,Oa 8 7 0,Oa 9 8 3,Ld 10 9,Mv 11 1,Ob 12 (.mget .i .nilp true (.t 10) (.t 11)),Mv 6 12,Xt 13 6 0,Xt 14 6 1,Mv 4 13,Mv 5 14]
 (.seq (Sq [Mv 15 5,Ob 16 (.not (.t 15)),Mv 17 16,Og 18 17 false (.mov (.t 4)),Og 19 17 false (.addr (.t 18) 0),Og 20 17 false (.addr (.t 19) 0),Og 21 17 false (.addr (.t 20) 0),Og 22 17 false (.load (.t 21) none),Og 23 17 false (.bin .neq (.t 22) (Ci 2)),Ob 24 (.pick (.t 17) (.c (.bool true)) (.t 23))]
 (.cond (.t 24) (Sq [Mv 25 0,Mv 26 0,Oa 27 26 0,Oa 28 27 4,Ld 29 28,Mv 30 1,Ob 31 (.lit true 3 1 [.t 30]),Ob 32 (.app true (.t 29) (.t 31) 3 1 8),Oa 33 25 0,Oa 34 33 4,Sv 34 32 1]
 (.ret))
 (.skip)))
 (.region [Mv 35 4,Oa 36 35 0,Oa 37 36 0,Oa 38 37 0,On (.store (.t 38) (Ci 3) 1)]))
def r77 : List Res := []
def a77 : AFn := ⟨2, c77, r77,.r⟩
def c78 : ACode := Sq [Mv 7 0,Oa 8 7 0,Oa 9 8 3,Ld 10 9,Mv 11 1,Ob 12 (.mget .i .nilp true (.t 10) (.t 11)),Mv 6 12,Xt 13 6 0,Xt 14 6 1,Mv 4 13,Mv 5 14]
 (Sq [Mv 15 5,Mv 16 15,Og 17 16 true (.mov (.t 4)),Og 18 16 true (.addr (.t 17) 0),Og 19 16 true (.addr (.t 18) 0),Og 20 16 true (.addr (.t 19) 0),Og 21 16 true (.load (.t 20) none),Og 22 16 true (.bin .eql (.t 21) (Ci 2)),Og 23 16 true (.mov (.t 22)),Og 24 23 false (.mov (.t 4)),Og 25 23 false (.addr (.t 24) 0),Og 26 23 false (.addr (.t 25) 0),Og 27 23 false (.addr (.t 26) 0),Og 28 23 false (.load (.t 27) none),Og 29 23 false (.bin .eql (.t 28) (Ci 3)),Og 30 16 true (.pick (.t 23) (.c (.bool true)) (.t 29)),Ob 31 (.pick (.t 16) (.t 30) (.c (.bool false)))]
 (.cond (.t 31) (.region [Mv 32 0,Mv 33 4,Ob 34 (.call 79 [.t 32,.t 33,Ci 5])])
 (.skip)))
def r78 : List Res := []
def a78 : AFn := ⟨2, c78, r78,.r⟩
def c79 : ACode := Sq [Mv 6 0,Mv 7 1,Oa 8 7 0,Oa 9 8 0,Ls 10 9 4,Ob 11 (.call 99 [.t 6,.t 10, (Ci (-1))])]
 (.region [Mv 12 1,Mv 13 1,Mv 14 1,Mv 15 2,Oa 16 12 0,Oa 17 16 0,Oa 18 17 0,Sv 18 15 1,Oa 19 13 0,Oa 20 19 0,Oa 21 20 1,On (.store (.t 21) (Ci (-1)) 1),Oa 22 14 0,Oa 23 22 0,Oa 24 23 2,On (.store (.t 24) (Ci (-1)) 1)])
def r79 : List Res := []
def a79 : AFn := ⟨3, c79, r79,.r⟩
def c80 : ACode := Sq [Mv 8 1,Bc .add 9 8 1,Mv 6 9]
 (.block 0 (.loop (.seq (Sq [Mv 10 6,Mv 11 2,Bn .lss 12 10 11]
 (.cond (.t 12) (.skip)
 (.exit 0)))
 (.seq (.block 1 (Sq [Mv 15 6,Mv 7 15]
 (.block 2 (.loop (.seq (Sq [Mv 16 7,Mv 17 1,Bn .gtr 18 16 17,Mv 19 18,Og 20 19 true (.mov (.t 0)),Og 21 19 true (.mov (.t 7)),Og 22 19 true (.idx (.t 20) (.t 21) 1),Og 23 19 true (.load (.t 22) none),Og 24 19 true (.mov (.t 0)),Og 25 19 true (.mov (.t 7)),Og 26 19 true (.bin .sub (.t 25) (Ci 1)),Og 27 19 true (.idx (.t 24) (.t 26) 1),Og 28 19 true (.load (.t 27) none),Og 29 19 true (.call 86 [.t 23,.t 28]),Ob 30 (.pick (.t 19) (.t 29) (.c (.bool false)))]
 (.cond (.t 30) (.skip)
 (.exit 2)))
 (.seq (.block 3 (.region [Mv 33 0,Mv 34 7,Mv 35 0,Mv 36 7,Bc .sub 37 36 1,Mv 38 0,Mv 39 7,Bc .sub 40 39 1,Oi 41 38 40 1,Ld 42 41,Mv 43 0,Mv 44 7,Oi 45 43 44 1,Ld 46 45,Oi 47 33 34 1,Sv 47 42 1,Oi 48 35 37 1,Sv 48 46 1]))
 (.region [Mv 31 7,Bc .sub 32 31 1,Mv 7 32])))))))
 (.region [Mv 13 6,Bc .add 14 13 1,Mv 6 14])))))
def r80 : List Res := []
def a80 : AFn := ⟨3, c80, r80,.r⟩
def c86 : ACode := Sq [Ob 4 (.mov (.c (.bool false)))]
 (Sq [Mv 5 0,Ob 6 (.call 98 [.t 5]),Mv 7 6,Og 8 7 true (.mov (.t 1)),Og 9 7 true (.call 98 [.t 8]),Og 10 7 true (.not (.t 9)),Ob 11 (.pick (.t 7) (.t 10) (.c (.bool false))),Mv 12 11,Og 13 12 false (.mov (.t 0)),Og 14 12 false (.mov (.t 1)),Og 15 12 false (.bin .lss (.t 13) (.t 14)),Ob 16 (.pick (.t 12) (.c (.bool true)) (.t 15)),Mv 4 16]
 (.ret))
def r86 : List Res := [.t 4]
def a86 : AFn := ⟨2, c86, r86,.v⟩
def c90 : ACode := Srt.len64C
def r90 : List Res := [.t 2]
def a90 : AFn := ⟨1, c90, r90,.v⟩
def c91 : ACode := Sq [Ld 8 1,Oa 9 8 0,Oa 10 9 2,Ld 11 10,Ob 12 (.len (.t 11)),Mc 13 0]
 (.block 0 (.loop (Sq [Bn .lss 14 13 12]
 (.seq (.cond (.t 14) (.skip)
 (.exit 0))
 (.seq (.block 1 (Sq [Mv 15 13,Oi 16 11 13 1,Ld 17 16,Mv 4 15,Mv 5 17]
 (.seq (.skip)
 (Sq [Mv 18 5,Ob 19 (.len (.t 18)),Ld 20 2,Bn .sub 21 19 20,Bc .add 22 21 1,Mc 23 0]
 (.block 2 (.loop (Sq [Bn .lss 24 23 22]
 (.seq (.cond (.t 24) (.skip)
 (.exit 2))
 (.seq (.block 3 (Sq [Mv 25 23,Mv 6 25]
 (.seq (Sq [Ld 26 2,Mc 27 0]
 (.block 4 (.loop (Sq [Bn .lss 28 27 26]
 (.seq (.cond (.t 28) (.skip)
 (.exit 4))
 (.seq (.block 5 (Sq [Mv 29 27,Mv 7 29]
 (Sq [Mv 30 5,Mv 31 6,Mv 32 7,Bn .add 33 31 32,Oi 34 30 33 1,Ld 35 34,Bc .neq 36 35 (-1)]
 (.cond (.t 36) (.exit 3)
 (.skip)))))
 (.region [Bc .add 37 27 1,Mv 27 37])))))))
 (Sq [Mv 38 0,Mv 39 4,Mv 40 6,Ob 41 (.callv (.t 38) [.t 39,.t 40]),Ob 42 (.not (.t 41))]
 (.cond (.t 42) (.ret)
 (.skip))))))
 (.region [Bc .add 43 23 1,Mv 23 43]))))))))))
 (.region [Bc .add 44 13 1,Mv 13 44]))))))
def r91 : List Res := []
def a91 : AFn := ⟨3, c91, r91,.v⟩
def c92 : ACode := Sq [Ob 3 (.mov (.c (.bool false)))]
 (Sq [Mv 4 0,Ob 5 (.bin .leq (Ci 0) (.t 4)),Mv 6 5,Og 7 6 true (.mov (.t 0)),Og 8 6 true (.load (.t 1) none),Og 9 6 true (.len (.t 8)),Og 10 6 true (.bin .lss (.t 7) (.t 9)),Ob 11 (.pick (.t 6) (.t 10) (.c (.bool false))),Mv 12 11,Og 13 12 true (.load (.t 1) none),Og 14 12 true (.mov (.t 0)),Og 15 12 true (.idx (.t 13) (.t 14) 1),Og 16 12 true (.load (.t 15) none),Og 17 12 true (.bin .eql (.t 16) (Ci (-1))),Ob 18 (.pick (.t 12) (.t 17) (.c (.bool false))),Mv 3 18]
 (.ret))
def r92 : List Res := [.t 3]
def a92 : AFn := ⟨2, c92, r92,.v⟩
def c93 : ACode := Sq [Mc 4 0]
 (.seq (Sq [Mv 6 0,Ob 7 (.len (.t 6)),Mc 8 0]
 (.block 0 (.loop (Sq [Bn .lss 9 8 7]
 (.seq (.cond (.t 9) (.skip)
 (.exit 0))
 (.seq (.block 1 (Sq [Mv 10 8,Mv 5 10]
 (Sq [Mv 11 1,Mv 12 0,Mv 13 5,Oi 14 12 13 1,Ld 15 14,Ob 16 (.callv (.t 11) [.t 15])]
 (.cond (.t 16) (Sq [Mv 17 5,Mv 4 17]
 (.ret))
 (.skip)))))
 (.region [Bc .add 18 8 1,Mv 8 18])))))))
 (Sq [Mc 4 (-1)]
 (.ret)))
def r93 : List Res := [.t 4]
def a93 : AFn := ⟨2, c93, r93,.v⟩
def c94 : ACode := Sq [Mc 4 0]
 (.seq (Sq [Mv 6 0,Ob 7 (.len (.t 6)),Mc 8 0]
 (.block 0 (.loop (Sq [Bn .lss 9 8 7]
 (.seq (.cond (.t 9) (.skip)
 (.exit 0))
 (.seq (.block 1 (Sq [Mv 10 8,Mv 5 10]
 (Sq [Mv 11 1,Mv 12 0,Mv 13 5,Oi 14 12 13 5,Ls 15 14 5,Ob 16 (.callv (.t 11) [.t 15])]
 (.cond (.t 16) (Sq [Mv 17 5,Mv 4 17]
 (.ret))
 (.skip)))))
 (.region [Bc .add 18 8 1,Mv 8 18])))))))
 (Sq [Mc 4 (-1)]
 (.ret)))
def r94 : List Res := [.t 4]
def a94 : AFn := ⟨2, c94, r94,.v⟩
def c95 : ACode := Sq [Ob 4 (.mov (.c (.int .u32 0))),Ob 5 (.mov (.c (.int .u32 0)))]
 (Sq [Mv 7 0,Ob 8 (.conv .u64 (.t 7)),Mv 9 1,Ob 10 (.conv .u64 (.t 9)),Bn .mul 11 8 10,Mv 6 11]
 (Sq [Mv 12 6,Ob 13 (.bin .shr (.t 12) (.c (.int .u64 32))),Ob 14 (.conv .u32 (.t 13)),Mv 15 6,Ob 16 (.conv .u32 (.t 15)),Mv 4 14,Mv 5 16]
 (.ret)))
def r95 : List Res := [.t 4,.t 5]
def a95 : AFn := ⟨2, c95, r95,.v⟩
def c96 : ACode := Sq [Ob 4 (.mov (.c (.int .u64 0))),Ob 5 (.mov (.c (.int .u64 0)))]
 (Sq [Mv 14 0,Ob 15 (.bin .and (.t 14) (.c (.int .u64 4294967295))),Mv 6 15]
 (Sq [Mv 16 0,Ob 17 (.bin .shr (.t 16) (.c (.int .u64 32))),Mv 7 17]
 (Sq [Mv 18 1,Ob 19 (.bin .and (.t 18) (.c (.int .u64 4294967295))),Mv 8 19]
 (Sq [Mv 20 1,Ob 21 (.bin .shr (.t 20) (.c (.int .u64 32))),Mv 9 21]
 (Sq [Mv 22 6,Mv 23 8,Bn .mul 24 22 23,Mv 10 24]
 (Sq [Mv 25 7,Mv 26 8,Bn .mul 27 25 26,Mv 28 10,Ob 29 (.bin .shr (.t 28) (.c (.int .u64 32))),Bn .add 30 27 29,Mv 11 30]
 (Sq [Mv 31 11,Ob 32 (.bin .and (.t 31) (.c (.int .u64 4294967295))),Mv 12 32]
 (Sq [Mv 33 11,Ob 34 (.bin .shr (.t 33) (.c (.int .u64 32))),Mv 13 34]
 (Sq [Mv 35 12,Mv 36 6,Mv 37 9,Bn .mul 38 36 37,Bn .add 39 35 38,Mv 12 39]
 (Sq [Mv 40 7,Mv 41 9,Bn .mul 42 40 41,Mv 43 13,Bn .add 44 42 43,Mv 45 12,Ob 46 (.bin .shr (.t 45) (.c (.int .u64 32))),Bn .add 47 44 46,Mv 4 47]
 (Sq [Mv 48 0,Mv 49 1,Bn .mul 50 48 49,Mv 5 50]
 (.ret))))))))))))
def r96 : List Res := [.t 4,.t 5]
def a96 : AFn := ⟨2, c96, r96,.v⟩
def c97 : ACode := Srt.pdqsortF 5 (some 5) 107 108 106 105 110 112 111 97 109
def r97 : List Res := []
def a97 : AFn := ⟨5, c97, r97,.r⟩
def c98 : ACode := Sq [Ob 2 (.mov (.c (.bool false)))]
 (Sq [Mv 3 0,Mv 4 0,Bn .neq 5 3 4,Mv 2 5]
 (.ret))
def r98 : List Res := [.t 2]
def a98 : AFn := ⟨1, c98, r98,.v⟩
def c99 : ACode := Sq [Ob 4 (.box (.t 1) 4)]
 (Sq [Mv 8 0,Oa 9 8 0,Oa 10 9 2,Ld 11 10,Oa 12 4 1,Ld 13 12,Oi 14 11 13 1,Ld 15 14,Mv 6 15]
 (Sq [Oa 16 4 3,Ld 17 16,Mc 18 0]
 (.block 0 (.loop (Sq [Bn .lss 19 18 17]
 (.seq (.cond (.t 19) (.skip)
 (.exit 0))
 (.seq (.block 1 (Sq [Mv 20 18,Mv 7 20]
 (.region [Mv 21 6,Oa 22 4 2,Ld 23 22,Mv 24 7,Bn .add 25 23 24,Mv 26 2,Oi 27 21 25 1,Sv 27 26 1])))
 (.region [Bc .add 28 18 1,Mv 18 28]))))))))
def r99 : List Res := []
def a99 : AFn := ⟨3, c99, r99,.r⟩
def c101 : ACode := Srt.nextPowC 59
def r101 : List Res := [.t 2]
def a101 : AFn := ⟨1, c101, r101,.v⟩
def c102 : ACode := Srt.xorNextC
def r102 : List Res := [.t 2]
def a102 : AFn := ⟨1, c102, r102,.r⟩
def c105 : ACode := Srt.insertionSortF 5 (some 5)
def r105 : List Res := []
def a105 : AFn := ⟨4, c105, r105,.r⟩
def c106 : ACode := Srt.heapSortF 5 (some 5) 114
def r106 : List Res := []
def a106 : AFn := ⟨4, c106, r106,.r⟩
def c107 : ACode := Srt.breakPatternsF 5 (some 5) 101 102
def r107 : List Res := []
def a107 : AFn := ⟨4, c107, r107,.r⟩
def c108 : ACode := Srt.choosePivotF 5 (some 5) 116 115
def r108 : List Res := [.t 8,.t 9]
def a108 : AFn := ⟨4, c108, r108,.r⟩
def c109 : ACode := Srt.reverseRangeF 5 (some 5)
def r109 : List Res := []
def a109 : AFn := ⟨4, c109, r109,.r⟩
def c110 : ACode := Srt.partialInsertionSortF 5 (some 5)
def r110 : List Res := [.t 8]
def a110 : AFn := ⟨4, c110, r110,.r⟩
def c111 : ACode := Srt.partitionEqualF 5 (some 5)
def r111 : List Res := [.t 10]
def a111 : AFn := ⟨5, c111, r111,.r⟩
def c112 : ACode := Srt.partitionF 5 (some 5)
def r112 : List Res := [.t 10,.t 11]
def a112 : AFn := ⟨5, c112, r112,.r⟩
def c114 : ACode := Srt.siftDownF 5 (some 5)
def r114 : List Res := []
def a114 : AFn := ⟨5, c114, r114,.r⟩
def c115 : ACode := Srt.medianAdjacentF 5 (some 5) 116
def r115 : List Res := [.t 8]
def a115 : AFn := ⟨4, c115, r115,.r⟩
def c116 : ACode := Srt.medianF 5 (some 5) 117
def r116 : List Res := [.t 12]
def a116 : AFn := ⟨6, c116, r116,.r⟩
def c117 : ACode := Srt.order2F 5 (some 5)
def r117 : List Res := [.t 10,.t 11]
def a117 : AFn := ⟨5, c117, r117,.r⟩
def ft : FuncId → Option AFn
  | 4 => some a4
  | 5 => some a5
  | 6 => some a6
  | 7 => some a7
  | 8 => some a8
  | 9 => some a9
  | 10 => some a10
  | 15 => some a15
  | 17 => some a17
  | 19 => some a19
  | 20 => some a20
  | 21 => some a21
  | 22 => some a22
  | 23 => some a23
  | 24 => some a24
  | 25 => some a25
  | 26 => some a26
  | 27 => some a27
  | 28 => some a28
  | 29 => some a29
  | 30 => some a30
  | 31 => some a31
  | 32 => some a32
  | 33 => some a33
  | 34 => some a34
  | 35 => some a35
  | 36 => some a36
  | 37 => some a37
  | 39 => some a39
  | 40 => some a40
  | 41 => some a41
  | 42 => some a42
  | 43 => some a43
  | 44 => some a44
  | 45 => some a45
  | 46 => some a46
  | 47 => some a47
  | 48 => some a48
  | 49 => some a49
  | 50 => some a50
  | 51 => some a51
  | 52 => some a52
  | 53 => some a53
  | 54 => some a54
  | 55 => some a55
  | 56 => some a56
  | 57 => some a57
  | 58 => some a58
  | 59 => some a59
  | 60 => some a60
  | 61 => some a61
  | 62 => some a62
  | 63 => some a63
  | 64 => some a64
  | 65 => some a65
  | 66 => some a66
  | 67 => some a67
  | 68 => some a68
  | 69 => some a69
  | 70 => some a70
  | 71 => some a71
  | 72 => some a72
  | 73 => some a73
  | 74 => some a74
  | 75 => some a75
  | 76 => some a76
  | 77 => some a77
  | 78 => some a78
  | 79 => some a79
  | 80 => some a80
  | 86 => some a86
  | 90 => some a90
  | 91 => some a91
  | 92 => some a92
  | 93 => some a93
  | 94 => some a94
  | 95 => some a95
  | 96 => some a96
  | 97 => some a97
  | 98 => some a98
  | 99 => some a99
  | 101 => some a101
  | 102 => some a102
  | 105 => some a105
  | 106 => some a106
  | 107 => some a107
  | 108 => some a108
  | 109 => some a109
  | 110 => some a110
  | 111 => some a111
  | 112 => some a112
  | 114 => some a114
  | 115 => some a115
  | 116 => some a116
  | 117 => some a117
  | _ => none
theorem ft4 : ft 4 = some a4 := rfl
theorem ft5 : ft 5 = some a5 := rfl
theorem ft6 : ft 6 = some a6 := rfl
theorem ft7 : ft 7 = some a7 := rfl
theorem ft8 : ft 8 = some a8 := rfl
theorem ft9 : ft 9 = some a9 := rfl
theorem ft19 : ft 19 = some a19 := rfl
theorem ft20 : ft 20 = some a20 := rfl
theorem ft21 : ft 21 = some a21 := rfl
theorem ft22 : ft 22 = some a22 := rfl
theorem ft23 : ft 23 = some a23 := rfl
theorem ft24 : ft 24 = some a24 := rfl
theorem ft26 : ft 26 = some a26 := rfl
theorem ft27 : ft 27 = some a27 := rfl
theorem ft28 : ft 28 = some a28 := rfl
theorem ft29 : ft 29 = some a29 := rfl
theorem ft30 : ft 30 = some a30 := rfl
theorem ft31 : ft 31 = some a31 := rfl
theorem ft32 : ft 32 = some a32 := rfl
theorem ft34 : ft 34 = some a34 := rfl
theorem ft35 : ft 35 = some a35 := rfl
theorem ft39 : ft 39 = some a39 := rfl
theorem ft40 : ft 40 = some a40 := rfl
theorem ft41 : ft 41 = some a41 := rfl
theorem ft42 : ft 42 = some a42 := rfl
theorem ft43 : ft 43 = some a43 := rfl
theorem ft44 : ft 44 = some a44 := rfl
theorem ft45 : ft 45 = some a45 := rfl
theorem ft46 : ft 46 = some a46 := rfl
theorem ft47 : ft 47 = some a47 := rfl
theorem ft48 : ft 48 = some a48 := rfl
theorem ft49 : ft 49 = some a49 := rfl
theorem ft50 : ft 50 = some a50 := rfl
theorem ft51 : ft 51 = some a51 := rfl
theorem ft52 : ft 52 = some a52 := rfl
theorem ft53 : ft 53 = some a53 := rfl
theorem ft54 : ft 54 = some a54 := rfl
theorem ft55 : ft 55 = some a55 := rfl
theorem ft56 : ft 56 = some a56 := rfl
theorem ft57 : ft 57 = some a57 := rfl
theorem ft60 : ft 60 = some a60 := rfl
theorem ft61 : ft 61 = some a61 := rfl
theorem ft62 : ft 62 = some a62 := rfl
theorem ft63 : ft 63 = some a63 := rfl
theorem ft64 : ft 64 = some a64 := rfl
theorem ft65 : ft 65 = some a65 := rfl
theorem ft66 : ft 66 = some a66 := rfl
theorem ft67 : ft 67 = some a67 := rfl
theorem ft68 : ft 68 = some a68 := rfl
theorem ft70 : ft 70 = some a70 := rfl
theorem ft71 : ft 71 = some a71 := rfl
theorem ft72 : ft 72 = some a72 := rfl
theorem ft73 : ft 73 = some a73 := rfl
theorem ft74 : ft 74 = some a74 := rfl
theorem ft75 : ft 75 = some a75 := rfl
theorem ft76 : ft 76 = some a76 := rfl
theorem ft77 : ft 77 = some a77 := rfl
theorem ft78 : ft 78 = some a78 := rfl
theorem ft79 : ft 79 = some a79 := rfl
theorem ft91 : ft 91 = some a91 := rfl
theorem ft92 : ft 92 = some a92 := rfl
theorem ft93 : ft 93 = some a93 := rfl
theorem ft94 : ft 94 = some a94 := rfl
theorem ft98 : ft 98 = some a98 := rfl
theorem ft99 : ft 99 = some a99 := rfl
end Go.Ab.T
end
section
namespace Go.Ab.T
abbrev WBv (f : FuncId) : Prop := ∀ (s : St) (as : List AV) (K : AV → St → Prop), WB ft f as s K = WV ft f (as.map (snap s.mem dep)) fun v => (as.all (fun a => !hot dep a) || plain dep v) = true ∧ K v s
theorem WB5 : WBv 5 := fun s as K => WB_v ft5 rfl as s K
theorem WB6 : WBv 6 := fun s as K => WB_v ft6 rfl as s K
theorem WB7 : WBv 7 := fun s as K => WB_v ft7 rfl as s K
theorem WB8 : WBv 8 := fun s as K => WB_v ft8 rfl as s K
theorem WB9 : WBv 9 := fun s as K => WB_v ft9 rfl as s K
theorem WB19 : WBv 19 := fun s as K => WB_v ft19 rfl as s K
theorem WB20 : WBv 20 := fun s as K => WB_v ft20 rfl as s K
theorem WB21 : WBv 21 := fun s as K => WB_v ft21 rfl as s K
theorem WB22 : WBv 22 := fun s as K => WB_v ft22 rfl as s K
theorem WB23 : WBv 23 := fun s as K => WB_v ft23 rfl as s K
theorem WB24 : WBv 24 := fun s as K => WB_v ft24 rfl as s K
theorem WB26 : WBv 26 := fun s as K => WB_v ft26 rfl as s K
theorem WB27 : WBv 27 := fun s as K => WB_v ft27 rfl as s K
theorem WB28 : WBv 28 := fun s as K => WB_v ft28 rfl as s K
theorem WB29 : WBv 29 := fun s as K => WB_v ft29 rfl as s K
theorem WB30 : WBv 30 := fun s as K => WB_v ft30 rfl as s K
theorem WB31 (s : St) (as : List AV) (K : AV → St → Prop) : WB ft 31 as s K = WR ft (.f 31) as s.mem fun v m => K v (s.setMem m) := WB_r ft31 rfl as s K
theorem WB32 : WBv 32 := fun s as K => WB_v ft32 rfl as s K
theorem WB34 : WBv 34 := fun s as K => WB_v ft34 rfl as s K
theorem WB35 : WBv 35 := fun s as K => WB_v ft35 rfl as s K
theorem WB39 : WBv 39 := fun s as K => WB_v ft39 rfl as s K
theorem WB40 (s : St) (as : List AV) (K : AV → St → Prop) : WB ft 40 as s K = WR ft (.f 40) as s.mem fun v m => K v (s.setMem m) := WB_r ft40 rfl as s K
theorem WB41 : WBv 41 := fun s as K => WB_v ft41 rfl as s K
theorem WB42 (s : St) (as : List AV) (K : AV → St → Prop) : WB ft 42 as s K = WR ft (.f 42) as s.mem fun v m => K v (s.setMem m) := WB_r ft42 rfl as s K
theorem WB43 : WBv 43 := fun s as K => WB_v ft43 rfl as s K
theorem WB44 : WBv 44 := fun s as K => WB_v ft44 rfl as s K
theorem WB45 : WBv 45 := fun s as K => WB_v ft45 rfl as s K
theorem WB46 : WBv 46 := fun s as K => WB_v ft46 rfl as s K
theorem WB47 : WBv 47 := fun s as K => WB_v ft47 rfl as s K
theorem WB48 : WBv 48 := fun s as K => WB_v ft48 rfl as s K
theorem WB49 : WBv 49 := fun s as K => WB_v ft49 rfl as s K
theorem WB50 (s : St) (as : List AV) (K : AV → St → Prop) : WB ft 50 as s K = WR ft (.f 50) (as.map (snap s.mem dep)) .nil fun v m => (as.all (fun a => !hot dep a) || (ownly dep v && m.blks.all Blk.ownly)) = true ∧
      K (shift s.mem.blks.length s.mem.toks.length dep v) (s.setMem (joinMem s.mem m dep)) := WB_o ft50 rfl as s K
theorem WB51 : WBv 51 := fun s as K => WB_v ft51 rfl as s K
theorem WB52 (s : St) (as : List AV) (K : AV → St → Prop) : WB ft 52 as s K = WR ft (.f 52) as s.mem fun v m => K v (s.setMem m) := WB_r ft52 rfl as s K
theorem WB53 (s : St) (as : List AV) (K : AV → St → Prop) : WB ft 53 as s K = WR ft (.f 53) as s.mem fun v m => K v (s.setMem m) := WB_r ft53 rfl as s K
theorem WB54 (s : St) (as : List AV) (K : AV → St → Prop) : WB ft 54 as s K = WR ft (.f 54) as s.mem fun v m => K v (s.setMem m) := WB_r ft54 rfl as s K
theorem WB55 : WBv 55 := fun s as K => WB_v ft55 rfl as s K
theorem WB56 (s : St) (as : List AV) (K : AV → St → Prop) : WB ft 56 as s K = WR ft (.f 56) as s.mem fun v m => K v (s.setMem m) := WB_r ft56 rfl as s K
theorem WB57 (s : St) (as : List AV) (K : AV → St → Prop) : WB ft 57 as s K = WR ft (.f 57) as s.mem fun v m => K v (s.setMem m) := WB_r ft57 rfl as s K
theorem WB60 (s : St) (as : List AV) (K : AV → St → Prop) : WB ft 60 as s K = WR ft (.f 60) as s.mem fun v m => K v (s.setMem m) := WB_r ft60 rfl as s K
theorem WB61 : WBv 61 := fun s as K => WB_v ft61 rfl as s K
theorem WB62 : WBv 62 := fun s as K => WB_v ft62 rfl as s K
theorem WB63 : WBv 63 := fun s as K => WB_v ft63 rfl as s K
theorem WB64 : WBv 64 := fun s as K => WB_v ft64 rfl as s K
theorem WB65 : WBv 65 := fun s as K => WB_v ft65 rfl as s K
theorem WB66 : WBv 66 := fun s as K => WB_v ft66 rfl as s K
theorem WB67 : WBv 67 := fun s as K => WB_v ft67 rfl as s K
theorem WB68 : WBv 68 := fun s as K => WB_v ft68 rfl as s K
theorem WB70 (s : St) (as : List AV) (K : AV → St → Prop) : WB ft 70 as s K = WR ft (.f 70) (as.map (snap s.mem dep)) .nil fun v m => (as.all (fun a => !hot dep a) || (ownly dep v && m.blks.all Blk.ownly)) = true ∧
      K (shift s.mem.blks.length s.mem.toks.length dep v) (s.setMem (joinMem s.mem m dep)) := WB_o ft70 rfl as s K
theorem WB71 (s : St) (as : List AV) (K : AV → St → Prop) : WB ft 71 as s K = WR ft (.f 71) as s.mem fun v m => K v (s.setMem m) := WB_r ft71 rfl as s K
theorem WB72 : WBv 72 := fun s as K => WB_v ft72 rfl as s K
theorem WB73 : WBv 73 := fun s as K => WB_v ft73 rfl as s K
theorem WB74 : WBv 74 := fun s as K => WB_v ft74 rfl as s K
theorem WB75 (s : St) (as : List AV) (K : AV → St → Prop) : WB ft 75 as s K = WR ft (.f 75) as s.mem fun v m => K v (s.setMem m) := WB_r ft75 rfl as s K
theorem WB76 (s : St) (as : List AV) (K : AV → St → Prop) : WB ft 76 as s K = WR ft (.f 76) as s.mem fun v m => K v (s.setMem m) := WB_r ft76 rfl as s K
theorem WB77 (s : St) (as : List AV) (K : AV → St → Prop) : WB ft 77 as s K = WR ft (.f 77) as s.mem fun v m => K v (s.setMem m) := WB_r ft77 rfl as s K
theorem WB78 (s : St) (as : List AV) (K : AV → St → Prop) : WB ft 78 as s K = WR ft (.f 78) as s.mem fun v m => K v (s.setMem m) := WB_r ft78 rfl as s K
theorem WB79 (s : St) (as : List AV) (K : AV → St → Prop) : WB ft 79 as s K = WR ft (.f 79) as s.mem fun v m => K v (s.setMem m) := WB_r ft79 rfl as s K
theorem WB92 : WBv 92 := fun s as K => WB_v ft92 rfl as s K
theorem WB93 : WBv 93 := fun s as K => WB_v ft93 rfl as s K
theorem WB94 : WBv 94 := fun s as K => WB_v ft94 rfl as s K
theorem WB98 : WBv 98 := fun s as K => WB_v ft98 rfl as s K
theorem WB99 (s : St) (as : List AV) (K : AV → St → Prop) : WB ft 99 as s K = WR ft (.f 99) as s.mem fun v m => K v (s.setMem m) := WB_r ft99 rfl as s K
end Go.Ab.T
end
