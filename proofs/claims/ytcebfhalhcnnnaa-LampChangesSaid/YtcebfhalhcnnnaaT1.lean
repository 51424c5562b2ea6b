/-
  A part of the proofs over this seat.
  (The texts KlT KlW, one behind the other.)
-/
import Derived.Test.YtcebfhalhcnnnaaA0
set_option linter.unusedSimpArgs false
set_option linter.unusedVariables false
set_option linter.unusedSectionVars false
section
namespace Go.Ab.T
def c2 : ACode := .region [Ob 0 (.call 1 [])]
def r2 : List Res := []
def a2 : AFn := ⟨0, c2, r2,.v⟩

def c3 : ACode := .seq (.region [Ob 1 (.box (.t 0) 9),Ob 2 (.mov (.c (.bool false)))])
 (.seq (.seq (.region [Ob 17 (.load (.t 1) (some 9)),Ob 18 (.call 12 [(.t 17)])])
 (.cond (.t 18) (.seq (.region [Ob 19 (.call 13 []),Ob 2 (.mov (.t 19))])
 (.ret))
 (.skip)))
 (.seq (.region [Ob 20 (.load (.t 1) (some 9)),Ob 21 (.callf 14 [(.t 20)]),Ob 3 (.new (.agg [(.int .i64 0), (.int .i64 0), (.int .i64 0), (.int .i64 0), (.int .i64 0), (.int .i64 0), (.int .i64 0), (.sl [] .tight), (.int .i64 0)]) 9),On (.store (.t 3) (.t 21) 9)])
 (.seq (.region [Ob 23 (.load (.t 3) (some 9)),Ob 24 (.call 15 [(.t 23)]),Ob 22 (.mov (.t 24)),Ob 25 (.ext (.t 22) 0),Ob 26 (.ext (.t 22) 1),Ob 4 (.mov (.t 25)),Ob 5 (.mov (.t 26))])
 (.seq (.region [Ob 28 (.load (.t 1) (some 9)),Ob 29 (.call 16 [(.t 28)]),Ob 27 (.mov (.t 29)),Ob 30 (.ext (.t 27) 0),Ob 31 (.ext (.t 27) 1),Ob 6 (.mov (.t 30)),Ob 7 (.mov (.t 31))])
 (.seq (.region [Ob 33 (.load (.t 3) (some 9)),Ob 34 (.call 17 [(.t 33)]),Ob 32 (.mov (.t 34)),Ob 35 (.ext (.t 32) 0),Ob 36 (.ext (.t 32) 1),Ob 8 (.mov (.t 35)),Ob 9 (.mov (.t 36))])
 (.seq (.region [Ob 38 (.load (.t 1) (some 9)),Ob 39 (.call 18 [(.t 38)]),Ob 37 (.mov (.t 39)),Ob 40 (.ext (.t 37) 0),Ob 41 (.ext (.t 37) 1),Ob 10 (.mov (.t 40)),Ob 11 (.mov (.t 41))])
 (.seq (.region [Ob 43 (.load (.t 3) (some 9)),Ob 44 (.call 19 [(.t 43)]),Ob 42 (.mov (.t 44)),Ob 45 (.ext (.t 42) 0),Ob 46 (.ext (.t 42) 1),Ob 12 (.mov (.t 45)),Ob 13 (.mov (.t 46))])
 (.seq (.region [Ob 48 (.load (.t 1) (some 9)),Ob 49 (.call 20 [(.t 48)]),Ob 47 (.mov (.t 49)),Ob 50 (.ext (.t 47) 0),Ob 51 (.ext (.t 47) 1),Ob 14 (.mov (.t 50)),Ob 15 (.mov (.t 51))])
 (.seq (.seq (.region [Ob 52 (.load (.t 3) (some 9)),Ob 53 (.call 21 [(.t 52)]),Ob 54 (.load (.t 1) (some 9)),Ob 55 (.call 22 [(.t 54)]),Ob 56 (.bin .neq (.t 53) (.t 55)),Ob 57 (.mov (.t 56)),Og 58 57 false (.mov (.t 4)),Og 59 57 false (.mov (.t 6)),Og 60 57 false (.bin .neq (.t 58) (.t 59)),Ob 61 (.pick (.t 57) (.c (.bool true)) (.t 60)),Ob 62 (.mov (.t 61)),Og 63 62 false (.mov (.t 5)),Og 64 62 false (.mov (.t 7)),Og 65 62 false (.bin .neq (.t 63) (.t 64)),Ob 66 (.pick (.t 62) (.c (.bool true)) (.t 65)),Ob 67 (.mov (.t 66)),Og 68 67 false (.mov (.t 8)),Og 69 67 false (.mov (.t 10)),Og 70 67 false (.bin .neq (.t 68) (.t 69)),Ob 71 (.pick (.t 67) (.c (.bool true)) (.t 70)),Ob 72 (.mov (.t 71)),Og 73 72 false (.mov (.t 9)),Og 74 72 false (.mov (.t 11)),Og 75 72 false (.bin .neq (.t 73) (.t 74)),Ob 76 (.pick (.t 72) (.c (.bool true)) (.t 75)),Ob 77 (.mov (.t 76)),Og 78 77 false (.mov (.t 12)),Og 79 77 false (.mov (.t 14)),Og 80 77 false (.call 23 [(.t 78), (.t 79)]),Og 81 77 false (.not (.t 80)),Ob 82 (.pick (.t 77) (.c (.bool true)) (.t 81)),Ob 83 (.mov (.t 82)),Og 84 83 false (.mov (.t 13)),Og 85 83 false (.mov (.t 15)),Og 86 83 false (.bin .neq (.t 84) (.t 85)),Ob 87 (.pick (.t 83) (.c (.bool true)) (.t 86))])
 (.cond (.t 87) (.seq (.region [Ob 2 (.mov (.c (.bool false)))])
 (.ret))
 (.skip)))
 (.seq (.seq (.region [Ob 16 (.mov (Ci 0))])
 (.block 0 (.loop (.seq (.seq (.region [Ob 88 (.mov (.t 16)),Ob 89 (.addr (.t 1) 7),Ob 90 (.load (.t 89) none),Ob 91 (.len (.t 90)),Ob 92 (.bin .lss (.t 88) (.t 91))])
 (.cond (.t 92) (.skip)
 (.exit 0)))
 (.seq (.block 1 (.seq (.region [Ob 95 (.addr (.t 3) 7),Ob 96 (.load (.t 95) none),Ob 97 (.mov (.t 16)),Ob 98 (.idx (.t 96) (.t 97) 3),Ob 99 (.load (.t 98) (some 3)),Ob 100 (.addr (.t 1) 7),Ob 101 (.load (.t 100) none),Ob 102 (.mov (.t 16)),Ob 103 (.idx (.t 101) (.t 102) 3),Ob 104 (.load (.t 103) (some 3)),Ob 105 (.eqv true true [.i,.i,.i] (.t 99) (.t 104))])
 (.cond (.t 105) (.seq (.region [Ob 2 (.mov (.c (.bool false)))])
 (.ret))
 (.skip))))
 (.region [Ob 93 (.mov (.t 16)),Ob 94 (.bin .add (.t 93) (Ci 1)),Ob 16 (.mov (.t 94))]))))))
 (.seq (.region [Ob 106 (.call 13 []),Ob 2 (.mov (.t 106))])
 (.ret))))))))))))
def r3 : List Res := [.t 2]
def a3 : AFn := ⟨1, c3, r3,.v⟩

def c4 : ACode := .seq (.region [Ob 2 (.box (.t 0) 9),Ob 4 (.mov (.c (.bool false)))])
 (.seq (.seq (.region [Ob 20 (.load (.t 2) (some 9)),Ob 21 (.call 12 [(.t 20)])])
 (.cond (.t 21) (.seq (.region [Ob 22 (.call 13 []),Ob 4 (.mov (.t 22))])
 (.ret))
 (.skip)))
 (.seq (.region [Ob 23 (.load (.t 2) (some 9)),Ob 24 (.callf 14 [(.t 23)]),Ob 5 (.new (.agg [(.int .i64 0), (.int .i64 0), (.int .i64 0), (.int .i64 0), (.int .i64 0), (.int .i64 0), (.int .i64 0), (.sl [] .tight), (.int .i64 0)]) 9),On (.store (.t 5) (.t 24) 9)])
 (.seq (.region [Ob 26 (.load (.t 5) (some 9)),Ob 27 (.mov (.t 1)),Ob 28 (.call 24 [(.t 26), (.t 27)]),Ob 25 (.mov (.t 28)),Ob 29 (.ext (.t 25) 0),Ob 30 (.ext (.t 25) 1),Ob 6 (.new (.agg [(.int .i64 0), (.int .i64 0)]) 2),On (.store (.t 6) (.t 29) 2),Ob 7 (.mov (.t 30))])
 (.seq (.region [Ob 32 (.load (.t 2) (some 9)),Ob 33 (.mov (.t 1)),Ob 34 (.call 25 [(.t 32), (.t 33)]),Ob 31 (.mov (.t 34)),Ob 35 (.ext (.t 31) 0),Ob 36 (.ext (.t 31) 1),Ob 8 (.new (.agg [(.int .i64 0), (.int .i64 0)]) 2),On (.store (.t 8) (.t 35) 2),Ob 9 (.mov (.t 36))])
 (.seq (.region [Ob 38 (.load (.t 5) (some 9)),Ob 39 (.mov (.t 1)),Ob 40 (.call 26 [(.t 38), (.t 39)]),Ob 37 (.mov (.t 40)),Ob 41 (.ext (.t 37) 0),Ob 42 (.ext (.t 37) 1),Ob 10 (.mov (.t 41)),Ob 11 (.mov (.t 42))])
 (.seq (.region [Ob 44 (.load (.t 2) (some 9)),Ob 45 (.mov (.t 1)),Ob 46 (.call 27 [(.t 44), (.t 45)]),Ob 43 (.mov (.t 46)),Ob 47 (.ext (.t 43) 0),Ob 48 (.ext (.t 43) 1),Ob 12 (.mov (.t 47)),Ob 13 (.mov (.t 48))])
 (.seq (.region [Ob 50 (.load (.t 5) (some 9)),Ob 51 (.mov (.t 1)),Ob 52 (.call 28 [(.t 50), (.t 51)]),Ob 49 (.mov (.t 52)),Ob 53 (.ext (.t 49) 0),Ob 54 (.ext (.t 49) 1),Ob 55 (.ext (.t 49) 2),Ob 14 (.mov (.t 53)),Ob 15 (.mov (.t 54)),Ob 16 (.mov (.t 55))])
 (.seq (.region [Ob 57 (.load (.t 2) (some 9)),Ob 58 (.mov (.t 1)),Ob 59 (.call 29 [(.t 57), (.t 58)]),Ob 56 (.mov (.t 59)),Ob 60 (.ext (.t 56) 0),Ob 61 (.ext (.t 56) 1),Ob 62 (.ext (.t 56) 2),Ob 17 (.mov (.t 60)),Ob 18 (.mov (.t 61)),Ob 19 (.mov (.t 62))])
 (.seq (.region [Ob 63 (.load (.t 6) (some 2)),Ob 64 (.load (.t 8) (some 2)),Ob 65 (.eqv false true [.i,.i] (.t 63) (.t 64)),Ob 66 (.mov (.t 65)),Og 67 66 true (.mov (.t 7)),Og 68 66 true (.mov (.t 9)),Og 69 66 true (.bin .eql (.t 67) (.t 68)),Ob 70 (.pick (.t 66) (.t 69) (.c (.bool false))),Ob 71 (.mov (.t 70)),Og 72 71 true (.mov (.t 10)),Og 73 71 true (.mov (.t 12)),Og 74 71 true (.bin .eql (.t 72) (.t 73)),Ob 75 (.pick (.t 71) (.t 74) (.c (.bool false))),Ob 76 (.mov (.t 75)),Og 77 76 true (.mov (.t 11)),Og 78 76 true (.mov (.t 13)),Og 79 76 true (.bin .eql (.t 77) (.t 78)),Ob 80 (.pick (.t 76) (.t 79) (.c (.bool false))),Ob 81 (.mov (.t 80)),Og 82 81 true (.mov (.t 14)),Og 83 81 true (.mov (.t 17)),Og 84 81 true (.bin .eql (.t 82) (.t 83)),Ob 85 (.pick (.t 81) (.t 84) (.c (.bool false))),Ob 86 (.mov (.t 85)),Og 87 86 true (.mov (.t 15)),Og 88 86 true (.mov (.t 18)),Og 89 86 true (.bin .eql (.t 87) (.t 88)),Ob 90 (.pick (.t 86) (.t 89) (.c (.bool false))),Ob 91 (.mov (.t 90)),Og 92 91 true (.mov (.t 16)),Og 93 91 true (.mov (.t 19)),Og 94 91 true (.bin .eql (.t 92) (.t 93)),Ob 95 (.pick (.t 91) (.t 94) (.c (.bool false))),Ob 96 (.mov (.t 95)),Og 97 96 true (.call 13 []),Ob 98 (.pick (.t 96) (.t 97) (.c (.bool false))),Ob 4 (.mov (.t 98))])
 (.ret))))))))))
def r4 : List Res := [.t 4]
def a4 : AFn := ⟨2, c4, r4,.v⟩

def c5 : ACode := .seq (.region [Ob 3 (.box (.t 0) 9),Ob 6 (.mov (.c (.bool false)))])
 (.seq (.seq (.region [Ob 11 (.load (.t 3) (some 9)),Ob 12 (.call 12 [(.t 11)]),Ob 13 (.mov (.t 12)),Og 14 13 false (.mov (.t 2)),Og 15 13 false (.len (.t 14)),Og 16 13 false (.bin .gtr (.t 15) (Ci 60)),Ob 17 (.pick (.t 13) (.c (.bool true)) (.t 16))])
 (.cond (.t 17) (.seq (.region [Ob 18 (.call 13 []),Ob 6 (.mov (.t 18))])
 (.ret))
 (.skip)))
 (.seq (.region [Ob 20 (.load (.t 3) (some 9)),Ob 21 (.callf 14 [(.t 20)]),Ob 22 (.mov (.t 1)),Ob 23 (.lit false 3 1 []),Ob 24 (.mov (.t 2)),Ob 25 (.app false (.t 23) (.t 24) 3 1 8),Ob 26 (.call 30 [(.t 21), (.t 22), (.t 25)]),Ob 19 (.mov (.t 26)),Ob 27 (.ext (.t 19) 0),Ob 28 (.ext (.t 19) 1),Ob 7 (.mov (.t 27)),Ob 8 (.mov (.t 28))])
 (.seq (.region [Ob 30 (.load (.t 3) (some 9)),Ob 31 (.mov (.t 1)),Ob 32 (.mov (.t 2)),Ob 33 (.call 31 [(.t 30), (.t 31), (.t 32)]),Ob 29 (.mov (.t 33)),Ob 34 (.ext (.t 29) 0),Ob 35 (.ext (.t 29) 1),Ob 9 (.mov (.t 34)),Ob 10 (.mov (.t 35))])
 (.seq (.region [Ob 36 (.mov (.t 7)),Ob 37 (.mov (.t 9)),Ob 38 (.call 23 [(.t 36), (.t 37)]),Ob 39 (.mov (.t 38)),Og 40 39 true (.mov (.t 8)),Og 41 39 true (.mov (.t 10)),Og 42 39 true (.bin .eql (.t 40) (.t 41)),Ob 43 (.pick (.t 39) (.t 42) (.c (.bool false))),Ob 44 (.mov (.t 43)),Og 45 44 true (.call 13 []),Ob 46 (.pick (.t 44) (.t 45) (.c (.bool false))),Ob 6 (.mov (.t 46))])
 (.ret)))))
def r5 : List Res := [.t 6]
def a5 : AFn := ⟨3, c5, r5,.v⟩

def c6 : ACode := .seq (.region [Ob 3 (.box (.t 0) 9),Ob 4 (.box (.t 1) 2),Ob 6 (.mov (.c (.bool false)))])
 (.seq (.seq (.region [Ob 17 (.load (.t 3) (some 9)),Ob 18 (.call 32 [(.t 17)]),Ob 19 (.not (.t 18)),Ob 20 (.mov (.t 19)),Og 21 20 false (.mov (.t 2)),Og 22 20 false (.call 33 [(.t 21)]),Og 23 20 false (.not (.t 22)),Ob 24 (.pick (.t 20) (.c (.bool true)) (.t 23)),Ob 25 (.mov (.t 24)),Og 26 25 false (.load (.t 3) (some 9)),Og 27 25 false (.load (.t 4) (some 2)),Og 28 25 false (.call 34 [(.t 26), (.t 27)]),Og 29 25 false (.not (.t 28)),Ob 30 (.pick (.t 25) (.c (.bool true)) (.t 29))])
 (.cond (.t 30) (.seq (.region [Ob 31 (.call 13 []),Ob 6 (.mov (.t 31))])
 (.ret))
 (.skip)))
 (.seq (.region [Ob 33 (.load (.t 3) (some 9)),Ob 34 (.mov (.t 2)),Ob 35 (.call 24 [(.t 33), (.t 34)]),Ob 32 (.mov (.t 35)),Ob 36 (.ext (.t 32) 0),Ob 37 (.ext (.t 32) 1),Ob 7 (.new (.agg [(.int .i64 0), (.int .i64 0)]) 2),On (.store (.t 7) (.t 36) 2),Ob 8 (.mov (.t 37))])
 (.seq (.region [Ob 39 (.load (.t 3) (some 9)),Ob 40 (.mov (.t 2)),Ob 41 (.call 26 [(.t 39), (.t 40)]),Ob 38 (.mov (.t 41)),Ob 42 (.ext (.t 38) 0),Ob 43 (.ext (.t 38) 1),Ob 9 (.mov (.t 42)),Ob 10 (.mov (.t 43))])
 (.seq (.region [Ob 45 (.load (.t 3) (some 9)),Ob 46 (.mov (.t 2)),Ob 47 (.call 28 [(.t 45), (.t 46)]),Ob 44 (.mov (.t 47)),Ob 48 (.ext (.t 44) 0),Ob 49 (.ext (.t 44) 1),Ob 50 (.ext (.t 44) 2),Ob 11 (.mov (.t 48)),Ob 12 (.mov (.t 49)),Ob 13 (.mov (.t 50))])
 (.seq (.region [Ob 51 (.load (.t 4) (some 2)),Ob 52 (.mov (.t 2)),Ob 53 (.call 35 [(.t 51), (.t 52)]),Ob 14 (.mov (.t 53))])
 (.seq (.seq (.region [Ob 54 (.mov (.t 8)),Ob 55 (.bin .neq (.t 54) (Ci 0)),Ob 56 (.mov (.t 55)),Og 57 56 false (.mov (.t 10)),Og 58 56 false (.bin .neq (.t 57) (Ci 0)),Ob 59 (.pick (.t 56) (.c (.bool true)) (.t 58)),Ob 60 (.mov (.t 59)),Og 61 60 false (.mov (.t 13)),Og 62 60 false (.bin .neq (.t 61) (Ci 0)),Ob 63 (.pick (.t 60) (.c (.bool true)) (.t 62)),Ob 64 (.mov (.t 63)),Og 65 64 false (.mov (.t 14)),Og 66 64 false (.addr (.t 7) 0),Og 67 64 false (.load (.t 66) none),Og 68 64 false (.bin .lss (.t 65) (.t 67)),Ob 69 (.pick (.t 64) (.c (.bool true)) (.t 68)),Ob 70 (.mov (.t 69)),Og 71 70 false (.mov (.t 14)),Og 72 70 false (.addr (.t 7) 1),Og 73 70 false (.load (.t 72) none),Og 74 70 false (.bin .gtr (.t 71) (.t 73)),Ob 75 (.pick (.t 70) (.c (.bool true)) (.t 74))])
 (.cond (.t 75) (.seq (.region [Ob 6 (.mov (.c (.bool false)))])
 (.ret))
 (.skip)))
 (.seq (.region [Ob 76 (.mov (.t 14)),Ob 77 (.addr (.t 3) 4),Ob 78 (.addr (.t 77) 0),Ob 79 (.load (.t 78) none),Ob 80 (.bin .geq (.t 76) (.t 79)),Ob 81 (.mov (.t 80)),Og 82 81 true (.mov (.t 14)),Og 83 81 true (.addr (.t 3) 4),Og 84 81 true (.addr (.t 83) 1),Og 85 81 true (.load (.t 84) none),Og 86 81 true (.bin .leq (.t 82) (.t 85)),Ob 87 (.pick (.t 81) (.t 86) (.c (.bool false))),Ob 15 (.mov (.t 87))])
 (.seq (.seq (.region [Ob 88 (.mov (.t 15)),Ob 89 (.mov (.t 88)),Og 90 89 true (.mov (.t 9)),Og 91 89 true (.bin .eql (.t 90) (Ci 2)),Ob 92 (.pick (.t 89) (.t 91) (.c (.bool false))),Ob 93 (.mov (.t 92)),Og 94 93 false (.mov (.t 15)),Og 95 93 false (.not (.t 94)),Og 96 93 false (.mov (.t 95)),Og 97 96 true (.mov (.t 9)),Og 98 96 true (.bin .eql (.t 97) (Ci 1)),Og 99 93 false (.pick (.t 96) (.t 98) (.c (.bool false))),Ob 100 (.pick (.t 93) (.c (.bool true)) (.t 99)),Ob 101 (.mov (.t 100)),Og 102 101 false (.mov (.t 9)),Og 103 101 false (.bin .lss (.t 102) (Ci 1)),Ob 104 (.pick (.t 101) (.c (.bool true)) (.t 103)),Ob 105 (.mov (.t 104)),Og 106 105 false (.mov (.t 9)),Og 107 105 false (.bin .gtr (.t 106) (Ci 3)),Ob 108 (.pick (.t 105) (.c (.bool true)) (.t 107))])
 (.cond (.t 108) (.seq (.region [Ob 6 (.mov (.c (.bool false)))])
 (.ret))
 (.skip)))
 (.seq (.seq (.region [Ob 109 (.mov (.t 11)),Ob 110 (.addr (.t 3) 6),Ob 111 (.load (.t 110) none),Ob 112 (.bin .gtr (.t 109) (.t 111)),Ob 113 (.mov (.t 112)),Og 114 113 false (.mov (.t 12)),Og 115 113 false (.addr (.t 3) 6),Og 116 113 false (.load (.t 115) none),Og 117 113 false (.bin .gtr (.t 114) (.t 116)),Ob 118 (.pick (.t 113) (.c (.bool true)) (.t 117)),Ob 119 (.mov (.t 118)),Og 120 119 false (.mov (.t 11)),Og 121 119 false (.bin .geq (.t 120) (Ci 0)),Og 122 119 false (.mov (.t 121)),Og 123 122 true (.mov (.t 11)),Og 124 122 true (.mov (.t 2)),Og 125 122 true (.bin .lss (.t 123) (.t 124)),Og 126 122 true (.mov (.t 125)),Og 127 126 false (.load (.t 3) (some 9)),Og 128 126 false (.load (.t 4) (some 2)),Og 129 126 false (.mov (.t 2)),Og 130 126 false (.mov (.t 11)),Og 131 126 false (.call 36 [(.t 127), (.t 128), (.t 129), (.t 130)]),Og 132 126 false (.not (.t 131)),Og 133 122 true (.pick (.t 126) (.c (.bool true)) (.t 132)),Og 134 119 false (.pick (.t 122) (.t 133) (.c (.bool false))),Ob 135 (.pick (.t 119) (.c (.bool true)) (.t 134))])
 (.cond (.t 135) (.seq (.region [Ob 6 (.mov (.c (.bool false)))])
 (.ret))
 (.skip)))
 (.seq (.region [Ob 136 (.mov (.t 12)),Ob 137 (.mov (.t 2)),Ob 138 (.bin .sub (.t 137) (Ci 1)),Ob 139 (.mnx true (.t 136) (.t 138)),Ob 16 (.mov (.t 139))])
 (.seq (.region [Ob 140 (.mov (.t 16)),Ob 141 (.bin .add (.t 140) (Ci 1)),Ob 142 (.addr (.t 3) 6),Ob 143 (.load (.t 142) none),Ob 144 (.bin .gtr (.t 141) (.t 143)),Ob 145 (.mov (.t 144)),Og 146 145 false (.load (.t 3) (some 9)),Og 147 145 false (.load (.t 4) (some 2)),Og 148 145 false (.mov (.t 2)),Og 149 145 false (.mov (.t 16)),Og 150 145 false (.bin .add (.t 149) (Ci 1)),Og 151 145 false (.call 36 [(.t 146), (.t 147), (.t 148), (.t 150)]),Og 152 145 false (.not (.t 151)),Ob 153 (.pick (.t 145) (.c (.bool true)) (.t 152)),Ob 154 (.mov (.t 153)),Og 155 154 true (.call 13 []),Ob 156 (.pick (.t 154) (.t 155) (.c (.bool false))),Ob 6 (.mov (.t 156))])
 (.ret))))))))))))
def r6 : List Res := [.t 6]
def a6 : AFn := ⟨3, c6, r6,.v⟩

def c7 : ACode := .seq (.region [Ob 3 (.box (.t 0) 9),Ob 4 (.box (.t 1) 4),Ob 6 (.mov (.c (.bool false)))])
 (.seq (.seq (.region [Ob 20 (.load (.t 3) (some 9)),Ob 21 (.call 32 [(.t 20)]),Ob 22 (.not (.t 21)),Ob 23 (.mov (.t 22)),Og 24 23 false (.mov (.t 2)),Og 25 23 false (.call 33 [(.t 24)]),Og 26 23 false (.not (.t 25)),Ob 27 (.pick (.t 23) (.c (.bool true)) (.t 26)),Ob 28 (.mov (.t 27)),Og 29 28 false (.addr (.t 4) 1),Og 30 28 false (.load (.t 29) none),Og 31 28 false (.bin .lss (.t 30) (Ci 0)),Ob 32 (.pick (.t 28) (.c (.bool true)) (.t 31)),Ob 33 (.mov (.t 32)),Og 34 33 false (.addr (.t 4) 1),Og 35 33 false (.load (.t 34) none),Og 36 33 false (.bin .gtr (.t 35) (Ci 3)),Ob 37 (.pick (.t 33) (.c (.bool true)) (.t 36)),Ob 38 (.mov (.t 37)),Og 39 38 false (.addr (.t 4) 2),Og 40 38 false (.load (.t 39) none),Og 41 38 false (.bin .lss (.t 40) (Ci 0)),Ob 42 (.pick (.t 38) (.c (.bool true)) (.t 41)),Ob 43 (.mov (.t 42)),Og 44 43 false (.addr (.t 4) 2),Og 45 43 false (.load (.t 44) none),Og 46 43 false (.bin .gtr (.t 45) (Ci 400)),Ob 47 (.pick (.t 43) (.c (.bool true)) (.t 46)),Ob 48 (.mov (.t 47)),Og 49 48 false (.addr (.t 4) 3),Og 50 48 false (.load (.t 49) none),Og 51 48 false (.bin .lss (.t 50) (Ci 0)),Ob 52 (.pick (.t 48) (.c (.bool true)) (.t 51)),Ob 53 (.mov (.t 52)),Og 54 53 false (.addr (.t 4) 3),Og 55 53 false (.load (.t 54) none),Og 56 53 false (.bin .gtr (.t 55) (Ci 9)),Ob 57 (.pick (.t 53) (.c (.bool true)) (.t 56))])
 (.cond (.t 57) (.seq (.region [Ob 58 (.call 13 []),Ob 6 (.mov (.t 58))])
 (.ret))
 (.skip)))
 (.seq (.region [Ob 59 (.load (.t 3) (some 9)),Ob 60 (.call 14 [(.t 59)]),Ob 7 (.new (.agg [(.int .i64 0), (.int .i64 0), (.int .i64 0), (.int .i64 0), (.int .i64 0), (.int .i64 0), (.int .i64 0), (.sl [] .tight), (.int .i64 0)]) 9),On (.store (.t 7) (.t 60) 9)])
 (.seq (.seq (.region [Ob 61 (.addr (.t 4) 0),Ob 62 (.load (.t 61) none),Ob 63 (.bin .geq (.t 62) (Ci 0)),Ob 64 (.mov (.t 63)),Og 65 64 true (.addr (.t 4) 0),Og 66 64 true (.load (.t 65) none),Og 67 64 true (.addr (.t 7) 7),Og 68 64 true (.load (.t 67) none),Og 69 64 true (.len (.t 68)),Og 70 64 true (.bin .lss (.t 66) (.t 69)),Ob 71 (.pick (.t 64) (.t 70) (.c (.bool false)))])
 (.cond (.t 71) (.region [Ob 72 (.addr (.t 7) 7),Ob 73 (.load (.t 72) none),Ob 74 (.addr (.t 4) 0),Ob 75 (.load (.t 74) none),Ob 76 (.slice (.t 73) none (some (.t 75)) 3),Ob 77 (.addr (.t 3) 7),Ob 78 (.load (.t 77) none),Ob 79 (.addr (.t 4) 0),Ob 80 (.load (.t 79) none),Ob 81 (.bin .add (.t 80) (Ci 1)),Ob 82 (.slice (.t 78) (some (.t 81)) none 3),Ob 83 (.app false (.t 76) (.t 82) 39 3 24),Ob 84 (.addr (.t 7) 7),On (.store (.t 84) (.t 83) 1)])
 (.skip)))
 (.seq (.region [Ob 85 (.addr (.t 3) 8),Ob 86 (.load (.t 85) none),Ob 87 (.addr (.t 4) 1),Ob 88 (.load (.t 87) none),Ob 89 (.bin .add (.t 86) (.t 88)),Ob 90 (.mnx false (Ci 3) (.t 89)),Ob 91 (.addr (.t 7) 8),On (.store (.t 91) (.t 90) 1)])
 (.seq (.region [Ob 92 (.addr (.t 3) 0),Ob 93 (.addr (.t 92) 0),Ob 94 (.load (.t 93) none),Ob 95 (.addr (.t 4) 2),Ob 96 (.load (.t 95) none),Ob 97 (.bin .sub (.t 94) (.t 96)),Ob 98 (.mnx true (Ci 0) (.t 97)),Ob 99 (.addr (.t 3) 0),Ob 100 (.addr (.t 99) 1),Ob 101 (.load (.t 100) none),Ob 102 (.addr (.t 4) 2),Ob 103 (.load (.t 102) none),Ob 104 (.bin .add (.t 101) (.t 103)),Ob 105 (.mnx false (Ci 400) (.t 104)),Ob 106 (.build [(.int .i64 0), (.int .i64 0)] [(0, 1, (.t 98)), (1, 1, (.t 105))]),Ob 107 (.addr (.t 7) 0),On (.store (.t 107) (.t 106) 2)])
 (.seq (.region [Ob 108 (.addr (.t 3) 2),Ob 109 (.addr (.t 108) 0),Ob 110 (.load (.t 109) none),Ob 111 (.addr (.t 4) 3),Ob 112 (.load (.t 111) none),Ob 113 (.bin .sub (.t 110) (.t 112)),Ob 114 (.mnx true (Ci 0) (.t 113)),Ob 115 (.addr (.t 3) 2),Ob 116 (.addr (.t 115) 1),Ob 117 (.load (.t 116) none),Ob 118 (.addr (.t 4) 3),Ob 119 (.load (.t 118) none),Ob 120 (.bin .add (.t 117) (.t 119)),Ob 121 (.mnx false (Ci 9) (.t 120)),Ob 122 (.build [(.int .i64 0), (.int .i64 0)] [(0, 1, (.t 114)), (1, 1, (.t 121))]),Ob 123 (.addr (.t 7) 2),On (.store (.t 123) (.t 122) 2)])
 (.seq (.seq (.seq (.frz)
 (.region [Ob 124 (.load (.t 7) (some 9)),Ob 125 (.call 32 [(.t 124)]),Ob 126 (.not (.t 125))]))
 (.cond (.t 126) (.seq (.region [Ob 127 (.call 13 []),Ob 6 (.mov (.t 127))])
 (.ret))
 (.skip)))
 (.seq (.region [Ob 129 (.load (.t 3) (some 9)),Ob 130 (.call 15 [(.t 129)]),Ob 128 (.mov (.t 130)),Ob 131 (.ext (.t 128) 0),Ob 132 (.ext (.t 128) 1),Ob 8 (.mov (.t 131)),Ob 9 (.mov (.t 132))])
 (.seq (.region [Ob 134 (.load (.t 7) (some 9)),Ob 135 (.call 15 [(.t 134)]),Ob 133 (.mov (.t 135)),Ob 136 (.ext (.t 133) 0),Ob 137 (.ext (.t 133) 1),Ob 10 (.mov (.t 136)),Ob 11 (.mov (.t 137))])
 (.seq (.seq (.region [Ob 138 (.mov (.t 9)),Ob 139 (.bin .neq (.t 138) (Ci 0)),Ob 140 (.mov (.t 139)),Og 141 140 false (.mov (.t 11)),Og 142 140 false (.bin .neq (.t 141) (Ci 0)),Ob 143 (.pick (.t 140) (.c (.bool true)) (.t 142)),Ob 144 (.mov (.t 143)),Og 145 144 false (.mov (.t 8)),Og 146 144 false (.bin .lss (.t 145) (Ci 0)),Ob 147 (.pick (.t 144) (.c (.bool true)) (.t 146)),Ob 148 (.mov (.t 147)),Og 149 148 false (.mov (.t 10)),Og 150 148 false (.mov (.t 8)),Og 151 148 false (.bin .lss (.t 149) (.t 150)),Ob 152 (.pick (.t 148) (.c (.bool true)) (.t 151))])
 (.cond (.t 152) (.seq (.region [Ob 6 (.mov (.c (.bool false)))])
 (.ret))
 (.skip)))
 (.seq (.seq (.region [Ob 153 (.mov (.t 8)),Ob 154 (.bin .eql (.t 153) (Ci 0))])
 (.cond (.t 154) (.seq (.region [Ob 155 (.call 13 []),Ob 6 (.mov (.t 155))])
 (.ret))
 (.skip)))
 (.seq (.region [Ob 157 (.load (.t 3) (some 9)),Ob 158 (.mov (.t 2)),Ob 159 (.call 24 [(.t 157), (.t 158)]),Ob 156 (.mov (.t 159)),Ob 160 (.ext (.t 156) 0),Ob 161 (.ext (.t 156) 1),Ob 12 (.new (.agg [(.int .i64 0), (.int .i64 0)]) 2),On (.store (.t 12) (.t 160) 2),Ob 13 (.mov (.t 161))])
 (.seq (.region [Ob 163 (.load (.t 7) (some 9)),Ob 164 (.mov (.t 2)),Ob 165 (.call 24 [(.t 163), (.t 164)]),Ob 162 (.mov (.t 165)),Ob 166 (.ext (.t 162) 0),Ob 167 (.ext (.t 162) 1),Ob 14 (.new (.agg [(.int .i64 0), (.int .i64 0)]) 2),On (.store (.t 14) (.t 166) 2),Ob 15 (.mov (.t 167))])
 (.seq (.region [Ob 169 (.load (.t 3) (some 9)),Ob 170 (.mov (.t 2)),Ob 171 (.call 26 [(.t 169), (.t 170)]),Ob 168 (.mov (.t 171)),Ob 172 (.ext (.t 168) 0),Ob 173 (.ext (.t 168) 1),Ob 16 (.mov (.t 172)),Ob 17 (.mov (.t 173))])
 (.seq (.region [Ob 175 (.load (.t 7) (some 9)),Ob 176 (.mov (.t 2)),Ob 177 (.call 26 [(.t 175), (.t 176)]),Ob 174 (.mov (.t 177)),Ob 178 (.ext (.t 174) 0),Ob 179 (.ext (.t 174) 1),Ob 18 (.mov (.t 178)),Ob 19 (.mov (.t 179))])
 (.seq (.region [Ob 180 (.mov (.t 13)),Ob 181 (.bin .eql (.t 180) (Ci 0)),Ob 182 (.mov (.t 181)),Og 183 182 true (.mov (.t 15)),Og 184 182 true (.bin .eql (.t 183) (Ci 0)),Ob 185 (.pick (.t 182) (.t 184) (.c (.bool false))),Ob 186 (.mov (.t 185)),Og 187 186 true (.mov (.t 17)),Og 188 186 true (.bin .eql (.t 187) (Ci 0)),Ob 189 (.pick (.t 186) (.t 188) (.c (.bool false))),Ob 190 (.mov (.t 189)),Og 191 190 true (.mov (.t 19)),Og 192 190 true (.bin .eql (.t 191) (Ci 0)),Ob 193 (.pick (.t 190) (.t 192) (.c (.bool false))),Ob 194 (.mov (.t 193)),Og 195 194 true (.addr (.t 14) 0),Og 196 194 true (.load (.t 195) none),Og 197 194 true (.addr (.t 12) 0),Og 198 194 true (.load (.t 197) none),Og 199 194 true (.bin .leq (.t 196) (.t 198)),Ob 200 (.pick (.t 194) (.t 199) (.c (.bool false))),Ob 201 (.mov (.t 200)),Og 202 201 true (.addr (.t 12) 1),Og 203 201 true (.load (.t 202) none),Og 204 201 true (.addr (.t 14) 1),Og 205 201 true (.load (.t 204) none),Og 206 201 true (.bin .leq (.t 203) (.t 205)),Ob 207 (.pick (.t 201) (.t 206) (.c (.bool false))),Ob 208 (.mov (.t 207)),Og 209 208 true (.mov (.t 18)),Og 210 208 true (.mov (.t 16)),Og 211 208 true (.bin .eql (.t 209) (.t 210)),Og 212 208 true (.mov (.t 211)),Og 213 212 false (.mov (.t 18)),Og 214 212 false (.bin .eql (.t 213) (Ci 3)),Og 215 208 true (.pick (.t 212) (.c (.bool true)) (.t 214)),Ob 216 (.pick (.t 208) (.t 215) (.c (.bool false))),Ob 217 (.mov (.t 216)),Og 218 217 true (.call 13 []),Ob 219 (.pick (.t 217) (.t 218) (.c (.bool false))),Ob 6 (.mov (.t 219))])
 (.ret)))))))))))))))))
def r7 : List Res := [.t 6]
def a7 : AFn := ⟨3, c7, r7,.v⟩

def c8 : ACode := .seq (.region [Ob 3 (.box (.t 0) 9),Ob 6 (.mov (.c (.bool false)))])
 (.seq (.seq (.region [Ob 17 (.load (.t 3) (some 9)),Ob 18 (.call 32 [(.t 17)]),Ob 19 (.not (.t 18)),Ob 20 (.mov (.t 19)),Og 21 20 false (.mov (.t 1)),Og 22 20 false (.call 33 [(.t 21)]),Og 23 20 false (.not (.t 22)),Ob 24 (.pick (.t 20) (.c (.bool true)) (.t 23)),Ob 25 (.mov (.t 24)),Og 26 25 false (.mov (.t 2)),Og 27 25 false (.call 33 [(.t 26)]),Og 28 25 false (.not (.t 27)),Ob 29 (.pick (.t 25) (.c (.bool true)) (.t 28)),Ob 30 (.mov (.t 29)),Og 31 30 false (.mov (.t 2)),Og 32 30 false (.mov (.t 1)),Og 33 30 false (.bin .lss (.t 31) (.t 32)),Ob 34 (.pick (.t 30) (.c (.bool true)) (.t 33))])
 (.cond (.t 34) (.seq (.region [Ob 35 (.call 13 []),Ob 6 (.mov (.t 35))])
 (.ret))
 (.skip)))
 (.seq (.region [Ob 37 (.load (.t 3) (some 9)),Ob 38 (.mov (.t 1)),Ob 39 (.call 24 [(.t 37), (.t 38)]),Ob 36 (.mov (.t 39)),Ob 40 (.ext (.t 36) 0),Ob 41 (.ext (.t 36) 1),Ob 7 (.new (.agg [(.int .i64 0), (.int .i64 0)]) 2),On (.store (.t 7) (.t 40) 2),Ob 8 (.mov (.t 41))])
 (.seq (.region [Ob 43 (.load (.t 3) (some 9)),Ob 44 (.mov (.t 2)),Ob 45 (.call 24 [(.t 43), (.t 44)]),Ob 42 (.mov (.t 45)),Ob 46 (.ext (.t 42) 0),Ob 47 (.ext (.t 42) 1),Ob 9 (.new (.agg [(.int .i64 0), (.int .i64 0)]) 2),On (.store (.t 9) (.t 46) 2),Ob 10 (.mov (.t 47))])
 (.seq (.seq (.region [Ob 48 (.mov (.t 8)),Ob 49 (.mov (.t 10)),Ob 50 (.bin .neq (.t 48) (.t 49))])
 (.cond (.t 50) (.seq (.region [Ob 6 (.mov (.c (.bool false)))])
 (.ret))
 (.skip)))
 (.seq (.seq (.region [Ob 51 (.mov (.t 8)),Ob 52 (.bin .neq (.t 51) (Ci 0))])
 (.cond (.t 52) (.seq (.region [Ob 53 (.mov (.t 8)),Ob 54 (.bin .eql (.t 53) (Ci 3)),Ob 55 (.mov (.t 54)),Og 56 55 true (.call 13 []),Ob 57 (.pick (.t 55) (.t 56) (.c (.bool false))),Ob 6 (.mov (.t 57))])
 (.ret))
 (.skip)))
 (.seq (.region [Ob 59 (.load (.t 3) (some 9)),Ob 60 (.mov (.t 1)),Ob 61 (.call 28 [(.t 59), (.t 60)]),Ob 58 (.mov (.t 61)),Ob 62 (.ext (.t 58) 0),Ob 63 (.ext (.t 58) 1),Ob 64 (.ext (.t 58) 2),Ob 11 (.mov (.t 62)),Ob 12 (.mov (.t 63)),Ob 13 (.mov (.t 64))])
 (.seq (.seq (.region [Ob 65 (.mov (.t 13)),Ob 66 (.bin .neq (.t 65) (Ci 0)),Ob 67 (.mov (.t 66)),Og 68 67 false (.addr (.t 9) 0),Og 69 67 false (.load (.t 68) none),Og 70 67 false (.addr (.t 7) 0),Og 71 67 false (.load (.t 70) none),Og 72 67 false (.bin .gtr (.t 69) (.t 71)),Ob 73 (.pick (.t 67) (.c (.bool true)) (.t 72)),Ob 74 (.mov (.t 73)),Og 75 74 false (.addr (.t 9) 1),Og 76 74 false (.load (.t 75) none),Og 77 74 false (.addr (.t 7) 1),Og 78 74 false (.load (.t 77) none),Og 79 74 false (.bin .gtr (.t 76) (.t 78)),Ob 80 (.pick (.t 74) (.c (.bool true)) (.t 79)),Ob 81 (.mov (.t 80)),Og 82 81 false (.addr (.t 7) 0),Og 83 81 false (.load (.t 82) none),Og 84 81 false (.addr (.t 7) 1),Og 85 81 false (.load (.t 84) none),Og 86 81 false (.bin .gtr (.t 83) (.t 85)),Ob 87 (.pick (.t 81) (.c (.bool true)) (.t 86)),Ob 88 (.mov (.t 87)),Og 89 88 false (.mov (.t 11)),Og 90 88 false (.mov (.t 12)),Og 91 88 false (.bin .gtr (.t 89) (.t 90)),Ob 92 (.pick (.t 88) (.c (.bool true)) (.t 91)),Ob 93 (.mov (.t 92)),Og 94 93 false (.mov (.t 11)),Og 95 93 false (.bin .geq (.t 94) (Ci 0)),Og 96 93 false (.mov (.t 95)),Og 97 96 true (.mov (.t 12)),Og 98 96 true (.bin .lss (.t 97) (Ci 0)),Og 99 93 false (.pick (.t 96) (.t 98) (.c (.bool false))),Ob 100 (.pick (.t 93) (.c (.bool true)) (.t 99))])
 (.cond (.t 100) (.seq (.region [Ob 6 (.mov (.c (.bool false)))])
 (.ret))
 (.skip)))
 (.seq (.seq (.region [Ob 101 (.mov (.t 2)),Ob 102 (.mov (.t 11)),Ob 103 (.bin .gtr (.t 101) (.t 102))])
 (.cond (.t 103) (.seq (.region [Ob 104 (.call 13 []),Ob 6 (.mov (.t 104))])
 (.ret))
 (.skip)))
 (.seq (.region [Ob 106 (.load (.t 3) (some 9)),Ob 107 (.mov (.t 2)),Ob 108 (.call 28 [(.t 106), (.t 107)]),Ob 105 (.mov (.t 108)),Ob 109 (.ext (.t 105) 0),Ob 110 (.ext (.t 105) 1),Ob 111 (.ext (.t 105) 2),Ob 14 (.mov (.t 109)),Ob 15 (.mov (.t 110)),Ob 16 (.mov (.t 111))])
 (.seq (.region [Ob 112 (.mov (.t 16)),Ob 113 (.bin .eql (.t 112) (Ci 0)),Ob 114 (.mov (.t 113)),Og 115 114 true (.mov (.t 14)),Og 116 114 true (.mov (.t 11)),Og 117 114 true (.bin .eql (.t 115) (.t 116)),Ob 118 (.pick (.t 114) (.t 117) (.c (.bool false))),Ob 119 (.mov (.t 118)),Og 120 119 true (.call 13 []),Ob 121 (.pick (.t 119) (.t 120) (.c (.bool false))),Ob 6 (.mov (.t 121))])
 (.ret)))))))))))
def r8 : List Res := [.t 6]
def a8 : AFn := ⟨3, c8, r8,.v⟩

def c9 : ACode := .seq (.region [Ob 2 (.box (.t 0) 9),Ob 3 (.box (.t 1) 2),Ob 4 (.mov (.c (.bool false)))])
 (.seq (.seq (.region [Ob 15 (.load (.t 2) (some 9)),Ob 16 (.call 32 [(.t 15)]),Ob 17 (.not (.t 16))])
 (.cond (.t 17) (.seq (.region [Ob 18 (.call 13 []),Ob 4 (.mov (.t 18))])
 (.ret))
 (.skip)))
 (.seq (.region [Ob 20 (.load (.t 2) (some 9)),Ob 21 (.call 17 [(.t 20)]),Ob 19 (.mov (.t 21)),Ob 22 (.ext (.t 19) 0),Ob 23 (.ext (.t 19) 1),Ob 5 (.mov (.t 22)),Ob 6 (.mov (.t 23))])
 (.seq (.region [Ob 25 (.load (.t 2) (some 9)),Ob 26 (.call 15 [(.t 25)]),Ob 24 (.mov (.t 26)),Ob 27 (.ext (.t 24) 0),Ob 28 (.ext (.t 24) 1),Ob 7 (.mov (.t 27)),Ob 8 (.mov (.t 28))])
 (.seq (.region [Ob 30 (.load (.t 2) (some 9)),Ob 31 (.call 19 [(.t 30)]),Ob 29 (.mov (.t 31)),Ob 32 (.ext (.t 29) 0),Ob 33 (.ext (.t 29) 1),Ob 9 (.mov (.t 32)),Ob 10 (.mov (.t 33))])
 (.seq (.seq (.region [Ob 34 (.mov (.t 6)),Ob 35 (.bin .neq (.t 34) (Ci 0)),Ob 36 (.mov (.t 35)),Og 37 36 false (.mov (.t 8)),Og 38 36 false (.bin .neq (.t 37) (Ci 0)),Ob 39 (.pick (.t 36) (.c (.bool true)) (.t 38)),Ob 40 (.mov (.t 39)),Og 41 40 false (.mov (.t 7)),Og 42 40 false (.bin .gtr (.t 41) (Ci 0)),Og 43 40 false (.mov (.t 5)),Og 44 40 false (.addr (.t 2) 8),Og 45 40 false (.load (.t 44) none),Og 46 40 false (.bin .leq (.t 43) (.t 45)),Og 47 40 false (.eqv true false [.b] (.t 42) (.t 46)),Ob 48 (.pick (.t 40) (.c (.bool true)) (.t 47)),Ob 49 (.mov (.t 48)),Og 50 49 false (.mov (.t 10)),Og 51 49 false (.bin .eql (.t 50) (Ci 0)),Og 52 49 false (.mov (.t 7)),Og 53 49 false (.bin .gtr (.t 52) (Ci 0)),Og 54 49 false (.eqv true false [.b] (.t 51) (.t 53)),Ob 55 (.pick (.t 49) (.c (.bool true)) (.t 54)),Ob 56 (.mov (.t 55)),Og 57 56 false (.mov (.t 10)),Og 58 56 false (.bin .neq (.t 57) (Ci 0)),Og 59 56 false (.mov (.t 58)),Og 60 59 true (.mov (.t 10)),Og 61 59 true (.bin .neq (.t 60) (Ci 3)),Og 62 56 false (.pick (.t 59) (.t 61) (.c (.bool false))),Ob 63 (.pick (.t 56) (.c (.bool true)) (.t 62)),Ob 64 (.mov (.t 63)),Og 65 64 false (.mov (.t 9)),Og 66 64 false (.len (.t 65)),Og 67 64 false (.addr (.t 2) 7),Og 68 64 false (.load (.t 67) none),Og 69 64 false (.len (.t 68)),Og 70 64 false (.bin .gtr (.t 66) (.t 69)),Ob 71 (.pick (.t 64) (.c (.bool true)) (.t 70))])
 (.cond (.t 71) (.seq (.region [Ob 4 (.mov (.c (.bool false)))])
 (.ret))
 (.skip)))
 (.seq (.seq (.region [Ob 72 (.load (.t 2) (some 9)),Ob 73 (.load (.t 3) (some 2)),Ob 74 (.call 34 [(.t 72), (.t 73)]),Ob 75 (.not (.t 74))])
 (.cond (.t 75) (.seq (.region [Ob 76 (.call 13 []),Ob 4 (.mov (.t 76))])
 (.ret))
 (.skip)))
 (.seq (.region [Ob 77 (.load (.t 2) (some 9)),Ob 78 (.load (.t 3) (some 2)),Ob 79 (.call 37 [(.t 77), (.t 78)]),Ob 11 (.mov (.t 79))])
 (.seq (.seq (.region [Ob 80 (.mov (.t 11)),Ob 81 (.len (.t 80)),Ob 82 (.mov (.t 5)),Ob 83 (.bin .lss (.t 81) (.t 82))])
 (.cond (.t 83) (.seq (.region [Ob 4 (.mov (.c (.bool false)))])
 (.ret))
 (.skip)))
 (.seq (.seq (.region [Ob 12 (.mov (Ci 0))])
 (.block 0 (.loop (.seq (.seq (.region [Ob 84 (.mov (.t 12)),Ob 85 (.mov (.t 9)),Ob 86 (.len (.t 85)),Ob 87 (.bin .lss (.t 84) (.t 86))])
 (.cond (.t 87) (.skip)
 (.exit 0)))
 (.seq (.block 1 (.seq (.region [Ob 13 (.mov (.c (.bool false)))])
 (.seq (.seq (.region [Ob 14 (.mov (Ci 0))])
 (.block 2 (.loop (.seq (.seq (.region [Ob 90 (.mov (.t 14)),Ob 91 (.mov (.t 11)),Ob 92 (.len (.t 91)),Ob 93 (.bin .lss (.t 90) (.t 92))])
 (.cond (.t 93) (.skip)
 (.exit 2)))
 (.seq (.block 3 (.region [Ob 96 (.mov (.t 13)),Ob 97 (.mov (.t 96)),Og 98 97 false (.mov (.t 11)),Og 99 97 false (.mov (.t 14)),Og 100 97 false (.idx (.t 98) (.t 99) 1),Og 101 97 false (.load (.t 100) none),Og 102 97 false (.mov (.t 9)),Og 103 97 false (.mov (.t 12)),Og 104 97 false (.idx (.t 102) (.t 103) 1),Og 105 97 false (.load (.t 104) none),Og 106 97 false (.bin .eql (.t 101) (.t 105)),Ob 107 (.pick (.t 97) (.c (.bool true)) (.t 106)),Ob 13 (.mov (.t 107))]))
 (.region [Ob 94 (.mov (.t 14)),Ob 95 (.bin .add (.t 94) (Ci 1)),Ob 14 (.mov (.t 95))]))))))
 (.seq (.region [Ob 108 (.mov (.t 13)),Ob 109 (.not (.t 108))])
 (.cond (.t 109) (.seq (.region [Ob 4 (.mov (.c (.bool false)))])
 (.ret))
 (.skip))))))
 (.region [Ob 88 (.mov (.t 12)),Ob 89 (.bin .add (.t 88) (Ci 1)),Ob 12 (.mov (.t 89))]))))))
 (.seq (.region [Ob 110 (.call 13 []),Ob 4 (.mov (.t 110))])
 (.ret)))))))))))
def r9 : List Res := [.t 4]
def a9 : AFn := ⟨2, c9, r9,.v⟩

def c10 : ACode := .seq (.region [Ob 2 (.box (.t 0) 9),Ob 3 (.box (.t 1) 3),Ob 4 (.mov (.c (.bool false)))])
 (.seq (.seq (.region [Ob 10 (.load (.t 2) (some 9)),Ob 11 (.call 32 [(.t 10)]),Ob 12 (.not (.t 11)),Ob 13 (.mov (.t 12)),Og 14 13 false (.load (.t 2) (some 9)),Og 15 13 false (.addr (.t 3) 0),Og 16 13 false (.load (.t 15) none),Og 17 13 false (.addr (.t 3) 1),Og 18 13 false (.load (.t 17) none),Og 19 13 false (.call 38 [(.t 14), (.t 16), (.t 18)]),Og 20 13 false (.bin .neq (.t 19) (Ci 0)),Ob 21 (.pick (.t 13) (.c (.bool true)) (.t 20)),Ob 22 (.mov (.t 21)),Og 23 22 false (.addr (.t 3) 1),Og 24 22 false (.load (.t 23) none),Og 25 22 false (.len (.t 24)),Og 26 22 false (.bin .gtr (.t 25) (Ci 12)),Ob 27 (.pick (.t 22) (.c (.bool true)) (.t 26)),Ob 28 (.mov (.t 27)),Og 29 28 false (.addr (.t 3) 2),Og 30 28 false (.load (.t 29) none),Og 31 28 false (.len (.t 30)),Og 32 28 false (.bin .gtr (.t 31) (Ci 20)),Ob 33 (.pick (.t 28) (.c (.bool true)) (.t 32))])
 (.cond (.t 33) (.seq (.region [Ob 34 (.call 13 []),Ob 4 (.mov (.t 34))])
 (.ret))
 (.skip)))
 (.seq (.region [Ob 36 (.load (.t 2) (some 9)),Ob 37 (.addr (.t 3) 0),Ob 38 (.load (.t 37) none),Ob 39 (.addr (.t 3) 1),Ob 40 (.load (.t 39) none),Ob 41 (.call 30 [(.t 36), (.t 38), (.t 40)]),Ob 35 (.mov (.t 41)),Ob 42 (.ext (.t 35) 0),Ob 43 (.ext (.t 35) 1),Ob 5 (.mov (.t 42)),Ob 6 (.mov (.t 43))])
 (.seq (.seq (.region [Ob 44 (.mov (.t 6)),Ob 45 (.bin .eql (.t 44) (Ci 3))])
 (.cond (.t 45) (.seq (.seq (.region [Ob 7 (.mov (Ci 0))])
 (.block 0 (.loop (.seq (.seq (.region [Ob 46 (.mov (.t 7)),Ob 47 (.addr (.t 3) 1),Ob 48 (.load (.t 47) none),Ob 49 (.len (.t 48)),Ob 50 (.bin .lss (.t 46) (.t 49))])
 (.cond (.t 50) (.skip)
 (.exit 0)))
 (.seq (.block 1 (.seq (.region [Ob 53 (.load (.t 2) (some 9)),Ob 54 (.load (.t 2) (some 9)),Ob 55 (.call 40 [(.t 54)]),Ob 56 (.addr (.t 3) 1),Ob 57 (.load (.t 56) none),Ob 58 (.mov (.t 7)),Ob 59 (.idx (.t 57) (.t 58) 1),Ob 60 (.load (.t 59) none),Ob 61 (.call 39 [(.t 53), (.t 55), (Ci 0), (.t 60)]),Ob 62 (.not (.t 61))])
 (.cond (.t 62) (.seq (.region [Ob 63 (.mov (.t 5)),Ob 64 (.len (.t 63)),Ob 65 (.bin .eql (.t 64) (Ci 0)),Ob 66 (.mov (.t 65)),Og 67 66 true (.call 13 []),Ob 68 (.pick (.t 66) (.t 67) (.c (.bool false))),Ob 4 (.mov (.t 68))])
 (.ret))
 (.skip))))
 (.region [Ob 51 (.mov (.t 7)),Ob 52 (.bin .add (.t 51) (Ci 1)),Ob 7 (.mov (.t 52))]))))))
 (.seq (.region [Ob 4 (.mov (.c (.bool false)))])
 (.ret)))
 (.skip)))
 (.seq (.seq (.region [Ob 69 (.mov (.t 6)),Ob 70 (.bin .neq (.t 69) (Ci 0)),Ob 71 (.mov (.t 70)),Og 72 71 false (.mov (.t 5)),Og 73 71 false (.len (.t 72)),Og 74 71 false (.addr (.t 3) 1),Og 75 71 false (.load (.t 74) none),Og 76 71 false (.len (.t 75)),Og 77 71 false (.bin .gtr (.t 73) (.t 76)),Ob 78 (.pick (.t 71) (.c (.bool true)) (.t 77)),Ob 79 (.mov (.t 78)),Og 80 79 false (.load (.t 2) (some 9)),Og 81 79 false (.load (.t 3) (some 3)),Og 82 79 false (.mov (.t 5)),Og 83 79 false (.call 41 [(.t 80), (.t 81), (.t 82)]),Og 84 79 false (.not (.t 83)),Ob 85 (.pick (.t 79) (.c (.bool true)) (.t 84)),Ob 86 (.mov (.t 85)),Og 87 86 false (.load (.t 2) (some 9)),Og 88 86 false (.load (.t 3) (some 3)),Og 89 86 false (.addr (.t 3) 2),Og 90 86 false (.load (.t 89) none),Og 91 86 false (.call 41 [(.t 87), (.t 88), (.t 90)]),Og 92 86 false (.mov (.t 91)),Og 93 92 true (.addr (.t 3) 2),Og 94 92 true (.load (.t 93) none),Og 95 92 true (.len (.t 94)),Og 96 92 true (.mov (.t 5)),Og 97 92 true (.len (.t 96)),Og 98 92 true (.bin .lss (.t 95) (.t 97)),Og 99 86 false (.pick (.t 92) (.t 98) (.c (.bool false))),Ob 100 (.pick (.t 86) (.c (.bool true)) (.t 99))])
 (.cond (.t 100) (.seq (.region [Ob 4 (.mov (.c (.bool false)))])
 (.ret))
 (.skip)))
 (.seq (.seq (.region [Ob 8 (.mov (Ci 0))])
 (.block 2 (.loop (.seq (.seq (.region [Ob 101 (.mov (.t 8)),Ob 102 (.mov (.t 5)),Ob 103 (.len (.t 102)),Ob 104 (.bin .lss (.t 101) (.t 103))])
 (.cond (.t 104) (.skip)
 (.exit 2)))
 (.seq (.block 3 (.seq (.region [Ob 107 (.lit false 3 1 []),Ob 108 (.mov (.t 5)),Ob 109 (.app0 (.t 107) (.t 108) 3 1 8),Ob 9 (.mov (.t 109))])
 (.seq (.region [Ob 110 (.mov (.t 9)),Ob 111 (.mov (.t 8)),Ob 112 (.idx (.t 110) (.t 111) 1),Ob 113 (.load (.t 112) none),Ob 114 (.bin .add (.t 113) (Ci 1)),Ob 115 (.idx (.t 110) (.t 111) 1),On (.store (.t 115) (.t 114) 1)])
 (.seq (.region [Ob 116 (.mov (.t 8)),Ob 117 (.bin .add (.t 116) (Ci 1)),Ob 118 (.mov (.t 5)),Ob 119 (.len (.t 118)),Ob 120 (.bin .eql (.t 117) (.t 119)),Ob 121 (.mov (.t 120)),Og 122 121 false (.mov (.t 9)),Og 123 121 false (.mov (.t 8)),Og 124 121 false (.idx (.t 122) (.t 123) 1),Og 125 121 false (.load (.t 124) none),Og 126 121 false (.mov (.t 5)),Og 127 121 false (.mov (.t 8)),Og 128 121 false (.bin .add (.t 127) (Ci 1)),Og 129 121 false (.idx (.t 126) (.t 128) 1),Og 130 121 false (.load (.t 129) none),Og 131 121 false (.bin .lss (.t 125) (.t 130)),Ob 132 (.pick (.t 121) (.c (.bool true)) (.t 131)),Ob 133 (.mov (.t 132)),Og 134 133 true (.mov (.t 9)),Og 135 133 true (.mov (.t 8)),Og 136 133 true (.idx (.t 134) (.t 135) 1),Og 137 133 true (.load (.t 136) none),Og 138 133 true (.addr (.t 3) 1),Og 139 133 true (.load (.t 138) none),Og 140 133 true (.len (.t 139)),Og 141 133 true (.bin .lss (.t 137) (.t 140)),Ob 142 (.pick (.t 133) (.t 141) (.c (.bool false))),Ob 143 (.mov (.t 142)),Og 144 143 true (.load (.t 2) (some 9)),Og 145 143 true (.load (.t 3) (some 3)),Og 146 143 true (.mov (.t 9)),Og 147 143 true (.call 41 [(.t 144), (.t 145), (.t 146)]),Ob 148 (.pick (.t 143) (.t 147) (.c (.bool false)))])
 (.cond (.t 148) (.seq (.region [Ob 4 (.mov (.c (.bool false)))])
 (.ret))
 (.skip))))))
 (.region [Ob 105 (.mov (.t 8)),Ob 106 (.bin .add (.t 105) (Ci 1)),Ob 8 (.mov (.t 106))]))))))
 (.seq (.region [Ob 149 (.call 13 []),Ob 4 (.mov (.t 149))])
 (.ret)))))))
def r10 : List Res := [.t 4]
def a10 : AFn := ⟨2, c10, r10,.v⟩

def c11 : ACode := .seq (.region [Ob 3 (.box (.t 0) 9),Ob 6 (.mov (.c (.bool false)))])
 (.seq (.seq (.region [Ob 27 (.load (.t 3) (some 9)),Ob 28 (.call 32 [(.t 27)]),Ob 29 (.not (.t 28)),Ob 30 (.mov (.t 29)),Og 31 30 false (.mov (.t 2)),Og 32 30 false (.call 33 [(.t 31)]),Og 33 30 false (.not (.t 32)),Ob 34 (.pick (.t 30) (.c (.bool true)) (.t 33)),Ob 35 (.mov (.t 34)),Og 36 35 false (.mov (.t 1)),Og 37 35 false (.bin .lss (.t 36) (Ci (-400))),Ob 38 (.pick (.t 35) (.c (.bool true)) (.t 37)),Ob 39 (.mov (.t 38)),Og 40 39 false (.mov (.t 1)),Og 41 39 false (.bin .gtr (.t 40) (Ci 400)),Ob 42 (.pick (.t 39) (.c (.bool true)) (.t 41))])
 (.cond (.t 42) (.seq (.region [Ob 43 (.call 13 []),Ob 6 (.mov (.t 43))])
 (.ret))
 (.skip)))
 (.seq (.region [Ob 44 (.load (.t 3) (some 9)),Ob 45 (.call 14 [(.t 44)]),Ob 7 (.new (.agg [(.int .i64 0), (.int .i64 0), (.int .i64 0), (.int .i64 0), (.int .i64 0), (.int .i64 0), (.int .i64 0), (.sl [] .tight), (.int .i64 0)]) 9),On (.store (.t 7) (.t 45) 9)])
 (.seq (.region [Ob 46 (.addr (.t 3) 0),Ob 47 (.addr (.t 46) 0),Ob 48 (.load (.t 47) none),Ob 49 (.mov (.t 1)),Ob 50 (.bin .add (.t 48) (.t 49)),Ob 51 (.addr (.t 3) 0),Ob 52 (.addr (.t 51) 1),Ob 53 (.load (.t 52) none),Ob 54 (.mov (.t 1)),Ob 55 (.bin .add (.t 53) (.t 54)),Ob 56 (.build [(.int .i64 0), (.int .i64 0)] [(0, 1, (.t 50)), (1, 1, (.t 55))]),Ob 57 (.addr (.t 7) 0),On (.store (.t 57) (.t 56) 2)])
 (.seq (.region [Ob 58 (.addr (.t 3) 4),Ob 59 (.addr (.t 58) 0),Ob 60 (.load (.t 59) none),Ob 61 (.mov (.t 1)),Ob 62 (.bin .add (.t 60) (.t 61)),Ob 63 (.addr (.t 3) 4),Ob 64 (.addr (.t 63) 1),Ob 65 (.load (.t 64) none),Ob 66 (.mov (.t 1)),Ob 67 (.bin .add (.t 65) (.t 66)),Ob 68 (.build [(.int .i64 0), (.int .i64 0)] [(0, 1, (.t 62)), (1, 1, (.t 67))]),Ob 69 (.addr (.t 7) 4),On (.store (.t 69) (.t 68) 2)])
 (.seq (.seq (.region [Ob 8 (.mov (Ci 0))])
 (.block 0 (.loop (.seq (.seq (.region [Ob 70 (.mov (.t 8)),Ob 71 (.addr (.t 7) 7),Ob 72 (.load (.t 71) none),Ob 73 (.len (.t 72)),Ob 74 (.bin .lss (.t 70) (.t 73))])
 (.cond (.t 74) (.skip)
 (.exit 0)))
 (.seq (.block 1 (.seq (.region [Ob 77 (.addr (.t 7) 7),Ob 78 (.load (.t 77) none),Ob 79 (.mov (.t 8)),Ob 80 (.idx (.t 78) (.t 79) 3),Ob 81 (.addr (.t 80) 1),Ob 82 (.load (.t 81) none),Ob 83 (.mov (.t 1)),Ob 84 (.bin .add (.t 82) (.t 83)),Ob 85 (.idx (.t 78) (.t 79) 3),Ob 86 (.addr (.t 85) 1),On (.store (.t 86) (.t 84) 1)])
 (.region [Ob 87 (.addr (.t 7) 7),Ob 88 (.load (.t 87) none),Ob 89 (.mov (.t 8)),Ob 90 (.idx (.t 88) (.t 89) 3),Ob 91 (.addr (.t 90) 2),Ob 92 (.load (.t 91) none),Ob 93 (.mov (.t 1)),Ob 94 (.bin .add (.t 92) (.t 93)),Ob 95 (.idx (.t 88) (.t 89) 3),Ob 96 (.addr (.t 95) 2),On (.store (.t 96) (.t 94) 1)])))
 (.region [Ob 75 (.mov (.t 8)),Ob 76 (.bin .add (.t 75) (Ci 1)),Ob 8 (.mov (.t 76))]))))))
 (.seq (.seq (.seq (.frz)
 (.region [Ob 97 (.load (.t 7) (some 9)),Ob 98 (.call 32 [(.t 97)]),Ob 99 (.not (.t 98))]))
 (.cond (.t 99) (.seq (.region [Ob 100 (.call 13 []),Ob 6 (.mov (.t 100))])
 (.ret))
 (.skip)))
 (.seq (.region [Ob 102 (.load (.t 3) (some 9)),Ob 103 (.call 15 [(.t 102)]),Ob 101 (.mov (.t 103)),Ob 104 (.ext (.t 101) 0),Ob 105 (.ext (.t 101) 1),Ob 9 (.mov (.t 104)),Ob 10 (.mov (.t 105))])
 (.seq (.region [Ob 107 (.load (.t 7) (some 9)),Ob 108 (.call 15 [(.t 107)]),Ob 106 (.mov (.t 108)),Ob 109 (.ext (.t 106) 0),Ob 110 (.ext (.t 106) 1),Ob 11 (.mov (.t 109)),Ob 12 (.mov (.t 110))])
 (.seq (.region [Ob 112 (.load (.t 3) (some 9)),Ob 113 (.call 19 [(.t 112)]),Ob 111 (.mov (.t 113)),Ob 114 (.ext (.t 111) 0),Ob 115 (.ext (.t 111) 1),Ob 13 (.mov (.t 114)),Ob 14 (.mov (.t 115))])
 (.seq (.region [Ob 117 (.load (.t 7) (some 9)),Ob 118 (.call 19 [(.t 117)]),Ob 116 (.mov (.t 118)),Ob 119 (.ext (.t 116) 0),Ob 120 (.ext (.t 116) 1),Ob 15 (.mov (.t 119)),Ob 16 (.mov (.t 120))])
 (.seq (.seq (.region [Ob 121 (.mov (.t 10)),Ob 122 (.bin .neq (.t 121) (Ci 0)),Ob 123 (.mov (.t 122)),Og 124 123 false (.mov (.t 12)),Og 125 123 false (.bin .neq (.t 124) (Ci 0)),Ob 126 (.pick (.t 123) (.c (.bool true)) (.t 125)),Ob 127 (.mov (.t 126)),Og 128 127 false (.mov (.t 9)),Og 129 127 false (.mov (.t 11)),Og 130 127 false (.bin .neq (.t 128) (.t 129)),Ob 131 (.pick (.t 127) (.c (.bool true)) (.t 130)),Ob 132 (.mov (.t 131)),Og 133 132 false (.mov (.t 14)),Og 134 132 false (.mov (.t 16)),Og 135 132 false (.bin .neq (.t 133) (.t 134)),Ob 136 (.pick (.t 132) (.c (.bool true)) (.t 135)),Ob 137 (.mov (.t 136)),Og 138 137 false (.mov (.t 13)),Og 139 137 false (.mov (.t 15)),Og 140 137 false (.call 23 [(.t 138), (.t 139)]),Og 141 137 false (.not (.t 140)),Ob 142 (.pick (.t 137) (.c (.bool true)) (.t 141))])
 (.cond (.t 142) (.seq (.region [Ob 6 (.mov (.c (.bool false)))])
 (.ret))
 (.skip)))
 (.seq (.region [Ob 144 (.load (.t 3) (some 9)),Ob 145 (.mov (.t 2)),Ob 146 (.call 24 [(.t 144), (.t 145)]),Ob 143 (.mov (.t 146)),Ob 147 (.ext (.t 143) 0),Ob 148 (.ext (.t 143) 1),Ob 17 (.new (.agg [(.int .i64 0), (.int .i64 0)]) 2),On (.store (.t 17) (.t 147) 2),Ob 18 (.mov (.t 148))])
 (.seq (.region [Ob 150 (.load (.t 7) (some 9)),Ob 151 (.mov (.t 2)),Ob 152 (.call 24 [(.t 150), (.t 151)]),Ob 149 (.mov (.t 152)),Ob 153 (.ext (.t 149) 0),Ob 154 (.ext (.t 149) 1),Ob 19 (.new (.agg [(.int .i64 0), (.int .i64 0)]) 2),On (.store (.t 19) (.t 153) 2),Ob 20 (.mov (.t 154))])
 (.seq (.region [Ob 156 (.load (.t 3) (some 9)),Ob 157 (.mov (.t 2)),Ob 158 (.call 28 [(.t 156), (.t 157)]),Ob 155 (.mov (.t 158)),Ob 159 (.ext (.t 155) 0),Ob 160 (.ext (.t 155) 1),Ob 161 (.ext (.t 155) 2),Ob 21 (.mov (.t 159)),Ob 22 (.mov (.t 160)),Ob 23 (.mov (.t 161))])
 (.seq (.region [Ob 163 (.load (.t 7) (some 9)),Ob 164 (.mov (.t 2)),Ob 165 (.call 28 [(.t 163), (.t 164)]),Ob 162 (.mov (.t 165)),Ob 166 (.ext (.t 162) 0),Ob 167 (.ext (.t 162) 1),Ob 168 (.ext (.t 162) 2),Ob 24 (.mov (.t 166)),Ob 25 (.mov (.t 167)),Ob 26 (.mov (.t 168))])
 (.seq (.seq (.region [Ob 169 (.mov (.t 18)),Ob 170 (.mov (.t 20)),Ob 171 (.bin .neq (.t 169) (.t 170)),Ob 172 (.mov (.t 171)),Og 173 172 false (.mov (.t 23)),Og 174 172 false (.mov (.t 26)),Og 175 172 false (.bin .neq (.t 173) (.t 174)),Ob 176 (.pick (.t 172) (.c (.bool true)) (.t 175)),Ob 177 (.mov (.t 176)),Og 178 177 false (.mov (.t 21)),Og 179 177 false (.mov (.t 24)),Og 180 177 false (.bin .neq (.t 178) (.t 179)),Ob 181 (.pick (.t 177) (.c (.bool true)) (.t 180)),Ob 182 (.mov (.t 181)),Og 183 182 false (.mov (.t 22)),Og 184 182 false (.mov (.t 25)),Og 185 182 false (.bin .neq (.t 183) (.t 184)),Ob 186 (.pick (.t 182) (.c (.bool true)) (.t 185))])
 (.cond (.t 186) (.seq (.region [Ob 6 (.mov (.c (.bool false)))])
 (.ret))
 (.skip)))
 (.seq (.region [Ob 187 (.mov (.t 18)),Ob 188 (.bin .neq (.t 187) (Ci 0)),Ob 189 (.mov (.t 188)),Og 190 189 false (.load (.t 19) (some 2)),Og 191 189 false (.addr (.t 17) 0),Og 192 189 false (.load (.t 191) none),Og 193 189 false (.mov (.t 1)),Og 194 189 false (.bin .add (.t 192) (.t 193)),Og 195 189 false (.addr (.t 17) 1),Og 196 189 false (.load (.t 195) none),Og 197 189 false (.mov (.t 1)),Og 198 189 false (.bin .add (.t 196) (.t 197)),Og 199 189 false (.build [(.int .i64 0), (.int .i64 0)] [(0, 1, (.t 194)), (1, 1, (.t 198))]),Og 200 189 false (.eqv false true [.i,.i] (.t 190) (.t 199)),Ob 201 (.pick (.t 189) (.c (.bool true)) (.t 200)),Ob 202 (.mov (.t 201)),Og 203 202 true (.call 13 []),Ob 204 (.pick (.t 202) (.t 203) (.c (.bool false))),Ob 6 (.mov (.t 204))])
 (.ret))))))))))))))))))
def r11 : List Res := [.t 6]
def a11 : AFn := ⟨3, c11, r11,.v⟩

def c12 : ACode := .seq (.region [Ob 1 (.box (.t 0) 9),Ob 2 (.mov (.c (.bool false)))])
 (.seq (.region [Ob 3 (.addr (.t 1) 7),Ob 4 (.load (.t 3) none),Ob 5 (.len (.t 4)),Ob 6 (.bin .gtr (.t 5) (Ci 40)),Ob 7 (.mov (.t 6)),Og 8 7 false (.load (.t 1) (some 9)),Og 9 7 false (.call 22 [(.t 8)]),Og 10 7 false (.bin .eql (.t 9) (Ci 0)),Og 11 7 false (.mov (.t 10)),Og 12 11 true (.addr (.t 1) 0),Og 13 11 true (.addr (.t 12) 1),Og 14 11 true (.load (.t 13) none),Og 15 11 true (.addr (.t 1) 0),Og 16 11 true (.addr (.t 15) 0),Og 17 11 true (.load (.t 16) none),Og 18 11 true (.bin .sub (.t 14) (.t 17)),Og 19 11 true (.bin .gtr (.t 18) (Ci 11)),Og 20 7 false (.pick (.t 11) (.t 19) (.c (.bool false))),Ob 21 (.pick (.t 7) (.c (.bool true)) (.t 20)),Ob 2 (.mov (.t 21))])
 (.ret))
def r12 : List Res := [.t 2]
def a12 : AFn := ⟨1, c12, r12,.v⟩

def c13 : ACode := .seq (.region [Ob 0 (.mov (.c (.bool false)))])
 (.seq (.region [Ob 11 (.call 42 []),Ob 1 (.new (.agg [(.int .i64 0), (.int .i64 0), (.int .i64 0), (.int .i64 0), (.int .i64 0), (.int .i64 0), (.int .i64 0), (.sl [] .tight), (.int .i64 0)]) 9),On (.store (.t 1) (.t 11) 9)])
 (.seq (.region [Ob 13 (.load (.t 1) (some 9)),Ob 14 (.call 15 [(.t 13)]),Ob 12 (.mov (.t 14)),Ob 15 (.ext (.t 12) 0),Ob 16 (.ext (.t 12) 1),Ob 2 (.mov (.t 15)),Ob 3 (.mov (.t 16))])
 (.seq (.region [Ob 18 (.load (.t 1) (some 9)),Ob 19 (.call 24 [(.t 18), (Ci 12)]),Ob 17 (.mov (.t 19)),Ob 20 (.ext (.t 17) 0),Ob 21 (.ext (.t 17) 1),Ob 4 (.new (.agg [(.int .i64 0), (.int .i64 0)]) 2),On (.store (.t 4) (.t 20) 2),Ob 5 (.mov (.t 21))])
 (.seq (.region [Ob 23 (.load (.t 1) (some 9)),Ob 24 (.call 28 [(.t 23), (Ci 3)]),Ob 22 (.mov (.t 24)),Ob 25 (.ext (.t 22) 0),Ob 26 (.ext (.t 22) 1),Ob 27 (.ext (.t 22) 2),Ob 6 (.mov (.t 25)),Ob 7 (.mov (.t 26)),Ob 8 (.mov (.t 27))])
 (.seq (.region [Ob 29 (.load (.t 1) (some 9)),Ob 30 (.lit false 3 1 [(Ci 5), (Ci 3), (Ci 5), (Ci 4)]),Ob 31 (.call 30 [(.t 29), (Ci 4), (.t 30)]),Ob 28 (.mov (.t 31)),Ob 32 (.ext (.t 28) 0),Ob 33 (.ext (.t 28) 1),Ob 9 (.mov (.t 32)),Ob 10 (.mov (.t 33))])
 (.seq (.region [Ob 34 (.mov (.t 3)),Ob 35 (.bin .eql (.t 34) (Ci 0)),Ob 36 (.mov (.t 35)),Og 37 36 true (.mov (.t 5)),Og 38 36 true (.bin .eql (.t 37) (Ci 0)),Ob 39 (.pick (.t 36) (.t 38) (.c (.bool false))),Ob 40 (.mov (.t 39)),Og 41 40 true (.mov (.t 8)),Og 42 40 true (.bin .eql (.t 41) (Ci 0)),Ob 43 (.pick (.t 40) (.t 42) (.c (.bool false))),Ob 44 (.mov (.t 43)),Og 45 44 true (.mov (.t 10)),Og 46 44 true (.bin .eql (.t 45) (Ci 0)),Ob 47 (.pick (.t 44) (.t 46) (.c (.bool false))),Ob 48 (.mov (.t 47)),Og 49 48 true (.mov (.t 2)),Og 50 48 true (.bin .eql (.t 49) (Ci 3)),Ob 51 (.pick (.t 48) (.t 50) (.c (.bool false))),Ob 52 (.mov (.t 51)),Og 53 52 true (.load (.t 4) (some 2)),Og 54 52 true (.build [(.int .i64 0), (.int .i64 0)] [(0, 1, (Ci 56)), (1, 1, (Ci 65))]),Og 55 52 true (.eqv false true [.i,.i] (.t 53) (.t 54)),Ob 56 (.pick (.t 52) (.t 55) (.c (.bool false))),Ob 57 (.mov (.t 56)),Og 58 57 true (.mov (.t 6)),Og 59 57 true (.bin .eql (.t 58) (Ci 11)),Ob 60 (.pick (.t 57) (.t 59) (.c (.bool false))),Ob 61 (.mov (.t 60)),Og 62 61 true (.mov (.t 7)),Og 63 61 true (.bin .eql (.t 62) (Ci 12)),Ob 64 (.pick (.t 61) (.t 63) (.c (.bool false))),Ob 65 (.mov (.t 64)),Og 66 65 true (.mov (.t 9)),Og 67 65 true (.lit false 3 1 [(Ci 1), (Ci 3)]),Og 68 65 true (.call 23 [(.t 66), (.t 67)]),Ob 69 (.pick (.t 65) (.t 68) (.c (.bool false))),Ob 0 (.mov (.t 69))])
 (.ret)))))))
def r13 : List Res := [.t 0]
def a13 : AFn := ⟨0, c13, r13,.v⟩

def c14 : ACode := .seq (.region [Ob 1 (.box (.t 0) 9),Ob 2 (.new (.agg [(.int .i64 0), (.int .i64 0), (.int .i64 0), (.int .i64 0), (.int .i64 0), (.int .i64 0), (.int .i64 0), (.sl [] .tight), (.int .i64 0)]) 9)])
 (.seq (.region [Ob 4 (.load (.t 1) (some 9)),Ob 3 (.new (.agg [(.int .i64 0), (.int .i64 0), (.int .i64 0), (.int .i64 0), (.int .i64 0), (.int .i64 0), (.int .i64 0), (.sl [] .tight), (.int .i64 0)]) 9),On (.store (.t 3) (.t 4) 9)])
 (.seq (.region [Ob 5 (.lit false 39 3 []),Ob 6 (.addr (.t 1) 7),Ob 7 (.load (.t 6) none),Ob 8 (.app0 (.t 5) (.t 7) 39 3 24),Ob 9 (.addr (.t 3) 7),On (.store (.t 9) (.t 8) 1)])
 (.seq (.region [Ob 10 (.load (.t 3) (some 9)),On (.store (.t 2) (.t 10) 9)])
 (.ret))))
def r14 : List Res := [.cell 2 (some 9)]
def a14 : AFn := ⟨1, c14, r14,.o⟩

def c15 : ACode := .seq (.region [Ob 1 (.box (.t 0) 9),Ob 2 (.mov (Ci 0)),Ob 3 (.mov (Ci 0))])
 (.seq (.seq (.region [Ob 6 (.load (.t 1) (some 9)),Ob 7 (.call 21 [(.t 6)]),Ob 4 (.mov (.t 7))])
 (.seq (.region [Ob 8 (.mov (.t 4)),Ob 9 (.bin .neq (.t 8) (Ci 0))])
 (.cond (.t 9) (.seq (.region [Ob 10 (.mov (.t 4)),Ob 2 (.mov (Ci 0)),Ob 3 (.mov (.t 10))])
 (.ret))
 (.skip))))
 (.seq (.region [Ob 5 (.new (.int .i64 0) 1),On (.store (.t 5) (Ci 0) 1)])
 (.seq (.seq (.region [Ob 11 (.load (.t 1) (some 9)),Ob 12 (.call 43 [(.t 11)])])
 (.block 0 (.range (.t 12) [13] (.skip)
 (.block 1 (.region [Ob 14 (.load (.t 5) none),Ob 15 (.bin .add (.t 14) (Ci 1)),On (.store (.t 5) (.t 15) 1)])))))
 (.seq (.region [Ob 16 (.load (.t 5) none),Ob 2 (.mov (.t 16)),Ob 3 (.mov (Ci 0))])
 (.ret)))))
def r15 : List Res := [.t 2,.t 3]
def a15 : AFn := ⟨1, c15, r15,.v⟩

def c16 : ACode := .seq (.region [Ob 1 (.box (.t 0) 9),Ob 2 (.mov (Ci 0)),Ob 3 (.mov (Ci 0))])
 (.seq (.seq (.region [Ob 4 (.load (.t 1) (some 9)),Ob 5 (.call 22 [(.t 4)]),Ob 6 (.bin .neq (.t 5) (Ci 0))])
 (.cond (.t 6) (.seq (.region [Ob 2 (.mov (Ci 0)),Ob 3 (.mov (Ci 90))])
 (.ret))
 (.skip)))
 (.seq (.region [Ob 7 (.load (.t 1) (some 9)),Ob 8 (.call 44 [(.t 7)]),Ob 9 (.len (.t 8)),Ob 2 (.mov (.t 9)),Ob 3 (.mov (Ci 0))])
 (.ret)))
def r16 : List Res := [.t 2,.t 3]
def a16 : AFn := ⟨1, c16, r16,.v⟩

def c17 : ACode := .seq (.region [Ob 1 (.box (.t 0) 9),Ob 2 (.mov (Ci 0)),Ob 3 (.mov (Ci 0))])
 (.seq (.seq (.region [Ob 7 (.load (.t 1) (some 9)),Ob 8 (.call 21 [(.t 7)]),Ob 4 (.mov (.t 8))])
 (.seq (.region [Ob 9 (.mov (.t 4)),Ob 10 (.bin .neq (.t 9) (Ci 0))])
 (.cond (.t 10) (.seq (.region [Ob 11 (.mov (.t 4)),Ob 2 (.mov (Ci 0)),Ob 3 (.mov (.t 11))])
 (.ret))
 (.skip))))
 (.seq (.region [Ob 13 (.load (.t 1) (some 9)),Ob 15 (.addr (.t 1) 7),Ob 16 (.load (.t 15) none),On (.mov (.c .undef)),Ob 14 (.call 46 [(.t 13)]),Ob 17 (.call 47 [(.t 16)]),Ob 18 (.call 45 [(.t 14), (.t 17)]),Ob 12 (.mov (.t 18)),Ob 19 (.ext (.t 12) 0),Ob 20 (.ext (.t 12) 1),Ob 5 (.box (.t 19) 2),Ob 6 (.mov (.t 20))])
 (.seq (.region [Ob 21 (.addr (.t 5) 0),Ob 22 (.load (.t 21) none),Ob 2 (.mov (.t 22)),Ob 3 (.mov (Ci 0))])
 (.ret))))
def r17 : List Res := [.t 2,.t 3]
def a17 : AFn := ⟨1, c17, r17,.v⟩

def c18 : ACode := .seq (.region [Ob 1 (.box (.t 0) 9),Ob 2 (.mov (Ci 0)),Ob 3 (.mov (Ci 0))])
 (.seq (.seq (.region [Ob 7 (.load (.t 1) (some 9)),Ob 8 (.call 22 [(.t 7)]),Ob 9 (.bin .neq (.t 8) (Ci 0))])
 (.cond (.t 9) (.seq (.region [Ob 2 (.mov (Ci 0)),Ob 3 (.mov (Ci 90))])
 (.ret))
 (.skip)))
 (.seq (.region [Ob 10 (.addr (.t 1) 7),Ob 11 (.load (.t 10) none),Ob 12 (.len (.t 11)),Ob 4 (.mov (.t 12))])
 (.seq (.region [Ob 13 (.load (.t 1) (some 9)),Ob 14 (.call 48 [(.t 13)]),Ob 5 (.mov (.t 14))])
 (.seq (.seq (.region [Ob 6 (.mov (Ci 0))])
 (.block 0 (.loop (.seq (.seq (.region [Ob 15 (.mov (.t 6)),Ob 16 (.mov (.t 5)),Ob 17 (.len (.t 16)),Ob 18 (.bin .lss (.t 15) (.t 17))])
 (.cond (.t 18) (.skip)
 (.exit 0)))
 (.seq (.block 1 (.region [Ob 21 (.mov (.t 4)),Ob 22 (.load (.t 1) (some 9)),Ob 23 (.mov (.t 5)),Ob 24 (.mov (.t 6)),Ob 25 (.idx (.t 23) (.t 24) 2),Ob 26 (.load (.t 25) (some 2)),Ob 27 (.call 37 [(.t 22), (.t 26)]),Ob 28 (.len (.t 27)),Ob 29 (.mnx false (.t 21) (.t 28)),Ob 4 (.mov (.t 29))]))
 (.region [Ob 19 (.mov (.t 6)),Ob 20 (.bin .add (.t 19) (Ci 1)),Ob 6 (.mov (.t 20))]))))))
 (.seq (.region [Ob 30 (.mov (.t 4)),Ob 2 (.mov (.t 30)),Ob 3 (.mov (Ci 0))])
 (.ret))))))
def r18 : List Res := [.t 2,.t 3]
def a18 : AFn := ⟨1, c18, r18,.v⟩

def c19 : ACode := .seq (.region [Ob 1 (.box (.t 0) 9),Ob 2 (.mov (.c (.sl [] .tight))),Ob 3 (.mov (Ci 0))])
 (.seq (.block 0 (.seq (.region [Ob 8 (.load (.t 1) (some 9)),Ob 9 (.call 49 [(.t 8)]),Ob 10 (.not (.t 9)),Ob 7 (.mov (.t 10))])
 (.cond (.t 7) (.seq (.region [Ob 2 (.mov (.c (.sl [] .tight))),Ob 3 (.mov (Ci 90))])
 (.ret))
 (.seq (.region [Ob 12 (.load (.t 1) (some 9)),Ob 13 (.call 50 [(.t 12)]),Ob 14 (.not (.t 13)),Ob 11 (.mov (.t 14))])
 (.cond (.t 11) (.seq (.region [Ob 2 (.mov (.c (.sl [] .tight))),Ob 3 (.mov (Ci 3))])
 (.ret))
 (.skip))))))
 (.seq (.region [Ob 4 (.mov (.c (.sl [] .tight)))])
 (.seq (.seq (.region [Ob 15 (.addr (.t 1) 7),Ob 16 (.load (.t 15) none),Ob 17 (.len (.t 16)),Ob 18 (.mov (Ci 0))])
 (.block 1 (.loop (.seq (.region [Ob 19 (.bin .lss (.t 18) (.t 17))])
 (.seq (.cond (.t 19) (.skip)
 (.exit 1))
 (.seq (.block 2 (.seq (.region [Ob 20 (.mov (.t 18)),Ob 21 (.idx (.t 16) (.t 18) 3),Ob 22 (.load (.t 21) (some 3)),Ob 6 (.new (.agg [(.int .i64 0), (.int .i64 0), (.int .i64 0)]) 3),Ob 5 (.mov (.t 20)),On (.store (.t 6) (.t 22) 3)])
 (.seq (.region [Ob 23 (.load (.t 1) (some 9)),Ob 24 (.load (.t 6) (some 3)),Ob 25 (.call 52 [(.t 24)]),Ob 26 (.call 51 [(.t 23), (.t 25)]),Ob 27 (.not (.t 26))])
 (.cond (.t 27) (.region [Ob 28 (.mov (.t 4)),Ob 29 (.mov (.t 5)),Ob 30 (.lit false 3 1 [(.t 29)]),Ob 31 (.app false (.t 28) (.t 30) 3 1 8),Ob 4 (.mov (.t 31))])
 (.skip)))))
 (.region [Ob 32 (.bin .add (.t 18) (Ci 1)),Ob 18 (.mov (.t 32))])))))))
 (.seq (.region [Ob 33 (.mov (.t 4)),Ob 2 (.mov (.t 33)),Ob 3 (.mov (Ci 0))])
 (.ret)))))
def r19 : List Res := [.t 2,.t 3]
def a19 : AFn := ⟨1, c19, r19,.v⟩

def c20 : ACode := .seq (.region [Ob 1 (.box (.t 0) 9),Ob 2 (.mov (.c (.sl [] .tight))),Ob 3 (.mov (Ci 0))])
 (.seq (.seq (.region [Ob 9 (.load (.t 1) (some 9)),Ob 10 (.call 22 [(.t 9)]),Ob 11 (.bin .neq (.t 10) (Ci 0))])
 (.cond (.t 11) (.seq (.region [Ob 2 (.mov (.c (.sl [] .tight))),Ob 3 (.mov (Ci 90))])
 (.ret))
 (.skip)))
 (.seq (.region [Ob 12 (.load (.t 1) (some 9)),Ob 13 (.call 44 [(.t 12)]),Ob 4 (.mov (.t 13))])
 (.seq (.seq (.region [Ob 14 (.mov (.t 4)),Ob 15 (.len (.t 14)),Ob 16 (.bin .eql (.t 15) (Ci 0))])
 (.cond (.t 16) (.seq (.region [Ob 2 (.mov (.c (.sl [] .tight))),Ob 3 (.mov (Ci 3))])
 (.ret))
 (.skip)))
 (.seq (.region [Ob 5 (.mov (.c (.sl [] .tight)))])
 (.seq (.seq (.region [Ob 6 (.mov (Ci 0))])
 (.block 0 (.loop (.seq (.seq (.region [Ob 17 (.mov (.t 6)),Ob 18 (.addr (.t 1) 7),Ob 19 (.load (.t 18) none),Ob 20 (.len (.t 19)),Ob 21 (.bin .lss (.t 17) (.t 20))])
 (.cond (.t 21) (.skip)
 (.exit 0)))
 (.seq (.block 1 (.seq (.region [Ob 7 (.mov (.c (.bool true)))])
 (.seq (.seq (.region [Ob 8 (.mov (Ci 0))])
 (.block 2 (.loop (.seq (.seq (.region [Ob 24 (.mov (.t 8)),Ob 25 (.mov (.t 4)),Ob 26 (.len (.t 25)),Ob 27 (.bin .lss (.t 24) (.t 26))])
 (.cond (.t 27) (.skip)
 (.exit 2)))
 (.seq (.block 3 (.region [Ob 30 (.mov (.t 7)),Ob 31 (.mov (.t 30)),Og 32 31 true (.load (.t 1) (some 9)),Og 33 31 true (.mov (.t 4)),Og 34 31 true (.mov (.t 8)),Og 35 31 true (.idx (.t 33) (.t 34) 2),Og 36 31 true (.load (.t 35) (some 2)),Og 37 31 true (.call 37 [(.t 32), (.t 36)]),Og 38 31 true (.mov (.t 6)),Og 39 31 true (.call 53 [(.t 37), (.t 38)]),Ob 40 (.pick (.t 31) (.t 39) (.c (.bool false))),Ob 7 (.mov (.t 40))]))
 (.region [Ob 28 (.mov (.t 8)),Ob 29 (.bin .add (.t 28) (Ci 1)),Ob 8 (.mov (.t 29))]))))))
 (.seq (.region [Ob 41 (.mov (.t 7))])
 (.cond (.t 41) (.region [Ob 42 (.mov (.t 5)),Ob 43 (.mov (.t 6)),Ob 44 (.lit false 3 1 [(.t 43)]),Ob 45 (.app false (.t 42) (.t 44) 3 1 8),Ob 5 (.mov (.t 45))])
 (.skip))))))
 (.region [Ob 22 (.mov (.t 6)),Ob 23 (.bin .add (.t 22) (Ci 1)),Ob 6 (.mov (.t 23))]))))))
 (.seq (.region [Ob 46 (.mov (.t 5)),Ob 2 (.mov (.t 46)),Ob 3 (.mov (Ci 0))])
 (.ret)))))))
def r20 : List Res := [.t 2,.t 3]
def a20 : AFn := ⟨1, c20, r20,.v⟩

def c21 : ACode := .seq (.region [Ob 1 (.box (.t 0) 9),Ob 2 (.mov (Ci 0))])
 (.seq (.seq (.region [Ob 3 (.load (.t 1) (some 9)),Ob 4 (.call 49 [(.t 3)]),Ob 5 (.not (.t 4))])
 (.cond (.t 5) (.seq (.region [Ob 2 (.mov (Ci 90))])
 (.ret))
 (.skip)))
 (.seq (.region [Ob 2 (.mov (Ci 0))])
 (.ret)))
def r21 : List Res := [.t 2]
def a21 : AFn := ⟨1, c21, r21,.v⟩

def c22 : ACode := .seq (.region [Ob 1 (.box (.t 0) 9),Ob 2 (.mov (Ci 0))])
 (.seq (.seq (.region [Ob 5 (.addr (.t 1) 0),Ob 6 (.load (.t 5) (some 2)),Ob 7 (.call 54 [(.t 6), (Ci 400)]),Ob 8 (.not (.t 7)),Ob 9 (.mov (.t 8)),Og 10 9 false (.addr (.t 1) 2),Og 11 9 false (.load (.t 10) (some 2)),Og 12 9 false (.call 54 [(.t 11), (Ci 9)]),Og 13 9 false (.not (.t 12)),Ob 14 (.pick (.t 9) (.c (.bool true)) (.t 13)),Ob 15 (.mov (.t 14)),Og 16 15 false (.addr (.t 1) 4),Og 17 15 false (.load (.t 16) (some 2)),Og 18 15 false (.call 54 [(.t 17), (Ci 400)]),Og 19 15 false (.not (.t 18)),Ob 20 (.pick (.t 15) (.c (.bool true)) (.t 19)),Ob 21 (.mov (.t 20)),Og 22 21 false (.addr (.t 1) 6),Og 23 21 false (.load (.t 22) none),Og 24 21 false (.call 55 [(.t 23), (Ci 0), (Ci 40)]),Og 25 21 false (.not (.t 24)),Ob 26 (.pick (.t 21) (.c (.bool true)) (.t 25)),Ob 27 (.mov (.t 26)),Og 28 27 false (.addr (.t 1) 7),Og 29 27 false (.load (.t 28) none),Og 30 27 false (.len (.t 29)),Og 31 27 false (.bin .gtr (.t 30) (Ci 10)),Ob 32 (.pick (.t 27) (.c (.bool true)) (.t 31)),Ob 33 (.mov (.t 32)),Og 34 33 false (.addr (.t 1) 8),Og 35 33 false (.load (.t 34) none),Og 36 33 false (.call 55 [(.t 35), (Ci 0), (Ci 3)]),Og 37 33 false (.not (.t 36)),Ob 38 (.pick (.t 33) (.c (.bool true)) (.t 37))])
 (.cond (.t 38) (.seq (.region [Ob 2 (.mov (Ci 90))])
 (.ret))
 (.skip)))
 (.seq (.seq (.region [Ob 3 (.mov (Ci 0))])
 (.block 0 (.loop (.seq (.seq (.region [Ob 39 (.mov (.t 3)),Ob 40 (.addr (.t 1) 7),Ob 41 (.load (.t 40) none),Ob 42 (.len (.t 41)),Ob 43 (.bin .lss (.t 39) (.t 42))])
 (.cond (.t 43) (.skip)
 (.exit 0)))
 (.seq (.block 1 (.seq (.region [Ob 46 (.addr (.t 1) 7),Ob 47 (.load (.t 46) none),Ob 48 (.mov (.t 3)),Ob 49 (.idx (.t 47) (.t 48) 3),Ob 50 (.load (.t 49) (some 3)),Ob 4 (.new (.agg [(.int .i64 0), (.int .i64 0), (.int .i64 0)]) 3),On (.store (.t 4) (.t 50) 3)])
 (.seq (.region [Ob 51 (.addr (.t 4) 0),Ob 52 (.load (.t 51) none),Ob 53 (.call 55 [(.t 52), (Ci 0), (Ci 40)]),Ob 54 (.not (.t 53)),Ob 55 (.mov (.t 54)),Og 56 55 false (.addr (.t 4) 1),Og 57 55 false (.load (.t 56) none),Og 58 55 false (.addr (.t 4) 2),Og 59 55 false (.load (.t 58) none),Og 60 55 false (.call 55 [(.t 57), (Ci (-400)), (.t 59)]),Og 61 55 false (.not (.t 60)),Ob 62 (.pick (.t 55) (.c (.bool true)) (.t 61)),Ob 63 (.mov (.t 62)),Og 64 63 false (.addr (.t 4) 2),Og 65 63 false (.load (.t 64) none),Og 66 63 false (.bin .gtr (.t 65) (Ci 400)),Ob 67 (.pick (.t 63) (.c (.bool true)) (.t 66))])
 (.cond (.t 67) (.seq (.region [Ob 2 (.mov (Ci 90))])
 (.ret))
 (.skip)))))
 (.region [Ob 44 (.mov (.t 3)),Ob 45 (.bin .add (.t 44) (Ci 1)),Ob 3 (.mov (.t 45))]))))))
 (.seq (.region [Ob 2 (.mov (Ci 0))])
 (.ret))))
def r22 : List Res := [.t 2]
def a22 : AFn := ⟨1, c22, r22,.v⟩

def c23 : ACode := .seq (.region [Ob 4 (.mov (.c (.bool false)))])
 (.seq (.seq (.region [Ob 6 (.mov (.t 0)),Ob 7 (.len (.t 6)),Ob 8 (.mov (.t 1)),Ob 9 (.len (.t 8)),Ob 10 (.bin .neq (.t 7) (.t 9))])
 (.cond (.t 10) (.seq (.region [Ob 4 (.mov (.c (.bool false)))])
 (.ret))
 (.skip)))
 (.seq (.seq (.region [Ob 5 (.mov (Ci 0))])
 (.block 0 (.loop (.seq (.seq (.region [Ob 11 (.mov (.t 5)),Ob 12 (.mov (.t 0)),Ob 13 (.len (.t 12)),Ob 14 (.bin .lss (.t 11) (.t 13))])
 (.cond (.t 14) (.skip)
 (.exit 0)))
 (.seq (.block 1 (.seq (.region [Ob 17 (.mov (.t 0)),Ob 18 (.mov (.t 5)),Ob 19 (.idx (.t 17) (.t 18) 1),Ob 20 (.load (.t 19) none),Ob 21 (.mov (.t 1)),Ob 22 (.mov (.t 5)),Ob 23 (.idx (.t 21) (.t 22) 1),Ob 24 (.load (.t 23) none),Ob 25 (.bin .neq (.t 20) (.t 24))])
 (.cond (.t 25) (.seq (.region [Ob 4 (.mov (.c (.bool false)))])
 (.ret))
 (.skip))))
 (.region [Ob 15 (.mov (.t 5)),Ob 16 (.bin .add (.t 15) (Ci 1)),Ob 5 (.mov (.t 16))]))))))
 (.seq (.region [Ob 4 (.mov (.c (.bool true)))])
 (.ret))))
def r23 : List Res := [.t 4]
def a23 : AFn := ⟨2, c23, r23,.v⟩

def c24 : ACode := .seq (.region [Ob 2 (.box (.t 0) 9),Ob 4 (.new (.agg [(.int .i64 0), (.int .i64 0)]) 2),Ob 5 (.mov (Ci 0))])
 (.seq (.seq (.region [Ob 9 (.load (.t 2) (some 9)),Ob 10 (.mov (.t 1)),Ob 11 (.call 56 [(.t 9), (.t 10)]),Ob 6 (.mov (.t 11))])
 (.seq (.region [Ob 12 (.mov (.t 6)),Ob 13 (.bin .neq (.t 12) (Ci 0))])
 (.cond (.t 13) (.seq (.region [Ob 14 (.build [(.int .i64 0), (.int .i64 0)] []),Ob 15 (.mov (.t 6)),On (.store (.t 4) (.t 14) 2),Ob 5 (.mov (.t 15))])
 (.ret))
 (.skip))))
 (.seq (.region [Ob 17 (.load (.t 2) (some 9)),Ob 18 (.call 43 [(.t 17)]),Ob 19 (.mov (.t 1)),Ob 20 (.call 57 [(.t 19)]),Ob 21 (.call 45 [(.t 18), (.t 20)]),Ob 16 (.mov (.t 21)),Ob 22 (.ext (.t 16) 0),Ob 23 (.ext (.t 16) 1),Ob 7 (.new (.agg [(.int .i64 0), (.int .i64 0)]) 2),On (.store (.t 7) (.t 22) 2),Ob 8 (.mov (.t 23))])
 (.seq (.region [Ob 24 (.load (.t 7) (some 2)),On (.store (.t 4) (.t 24) 2),Ob 5 (.mov (Ci 0))])
 (.ret))))
def r24 : List Res := [.cell 4 (some 2),.t 5]
def a24 : AFn := ⟨2, c24, r24,.v⟩

def c25 : ACode := .seq (.region [Ob 2 (.box (.t 0) 9),Ob 4 (.new (.agg [(.int .i64 0), (.int .i64 0)]) 2),Ob 5 (.mov (Ci 0))])
 (.seq (.region [Ob 11 (.load (.t 2) (some 9)),Ob 12 (.mov (.t 1)),Ob 13 (.call 58 [(.t 11), (.t 12)]),Ob 10 (.mov (.t 13)),Ob 14 (.ext (.t 10) 0),Ob 15 (.ext (.t 10) 1),Ob 6 (.mov (.t 14)),Ob 7 (.mov (.t 15))])
 (.seq (.seq (.region [Ob 16 (.mov (.t 7)),Ob 17 (.bin .neq (.t 16) (Ci 0))])
 (.cond (.t 17) (.seq (.region [Ob 18 (.build [(.int .i64 0), (.int .i64 0)] []),Ob 19 (.mov (.t 7)),On (.store (.t 4) (.t 18) 2),Ob 5 (.mov (.t 19))])
 (.ret))
 (.skip)))
 (.seq (.region [Ob 20 (.mov (.t 6)),Ob 21 (.idx (.t 20) (Ci 0) 2),Ob 22 (.load (.t 21) (some 2)),Ob 23 (.mov (.t 1)),Ob 25 (.mov (.t 6)),Ob 26 (.idx (.t 25) (Ci 0) 2),Ob 27 (.load (.t 26) (some 2)),Ob 28 (.mov (.t 1)),On (.mov (.c .undef)),Ob 24 (.call 35 [(.t 22), (.t 23)]),Ob 29 (.call 35 [(.t 27), (.t 28)]),Ob 30 (.build [(.int .i64 0), (.int .i64 0)] [(0, 1, (.t 24)), (1, 1, (.t 29))]),Ob 8 (.box (.t 30) 2)])
 (.seq (.seq (.region [Ob 9 (.mov (Ci 0))])
 (.block 0 (.loop (.seq (.seq (.region [Ob 31 (.mov (.t 9)),Ob 32 (.mov (.t 6)),Ob 33 (.len (.t 32)),Ob 34 (.bin .lss (.t 31) (.t 33))])
 (.cond (.t 34) (.skip)
 (.exit 0)))
 (.seq (.block 1 (.region [Ob 37 (.addr (.t 8) 0),Ob 38 (.load (.t 37) none),Ob 39 (.mov (.t 6)),Ob 40 (.mov (.t 9)),Ob 41 (.idx (.t 39) (.t 40) 2),Ob 42 (.load (.t 41) (some 2)),Ob 43 (.mov (.t 1)),Ob 44 (.call 35 [(.t 42), (.t 43)]),Ob 45 (.mnx false (.t 38) (.t 44)),Ob 46 (.addr (.t 8) 1),Ob 47 (.load (.t 46) none),Ob 48 (.mov (.t 6)),Ob 49 (.mov (.t 9)),Ob 50 (.idx (.t 48) (.t 49) 2),Ob 51 (.load (.t 50) (some 2)),Ob 52 (.mov (.t 1)),Ob 53 (.call 35 [(.t 51), (.t 52)]),Ob 54 (.mnx true (.t 47) (.t 53)),Ob 55 (.build [(.int .i64 0), (.int .i64 0)] [(0, 1, (.t 45)), (1, 1, (.t 54))]),On (.store (.t 8) (.t 55) 2)]))
 (.region [Ob 35 (.mov (.t 9)),Ob 36 (.bin .add (.t 35) (Ci 1)),Ob 9 (.mov (.t 36))]))))))
 (.seq (.region [Ob 56 (.load (.t 8) (some 2)),On (.store (.t 4) (.t 56) 2),Ob 5 (.mov (Ci 0))])
 (.ret))))))
def r25 : List Res := [.cell 4 (some 2),.t 5]
def a25 : AFn := ⟨2, c25, r25,.v⟩

def c26 : ACode := .seq (.region [Ob 2 (.box (.t 0) 9),Ob 4 (.mov (Ci 0)),Ob 5 (.mov (Ci 0))])
 (.seq (.seq (.region [Ob 8 (.load (.t 2) (some 9)),Ob 9 (.mov (.t 1)),Ob 10 (.call 56 [(.t 8), (.t 9)]),Ob 6 (.mov (.t 10))])
 (.seq (.region [Ob 11 (.mov (.t 6)),Ob 12 (.bin .neq (.t 11) (Ci 0))])
 (.cond (.t 12) (.seq (.region [Ob 13 (.mov (.t 6)),Ob 4 (.mov (Ci 0)),Ob 5 (.mov (.t 13))])
 (.ret))
 (.skip))))
 (.seq (.region [Ob 14 (.addr (.t 2) 4),Ob 15 (.load (.t 14) (some 2)),Ob 16 (.mov (.t 1)),Ob 17 (.call 59 [(.t 15), (.t 16)]),Ob 7 (.mov (.t 17))])
 (.seq (.block 0 (.seq (.region [Ob 19 (.load (.t 2) (some 9)),Ob 20 (.mov (.t 7)),Ob 21 (.call 60 [(.t 19), (.t 20)]),Ob 18 (.mov (.t 21))])
 (.cond (.t 18) (.seq (.region [Ob 4 (.mov (Ci 1)),Ob 5 (.mov (Ci 0))])
 (.ret))
 (.seq (.region [Ob 23 (.load (.t 2) (some 9)),Ob 24 (.mov (.t 7)),Ob 25 (.call 51 [(.t 23), (.t 24)]),Ob 26 (.not (.t 25)),Ob 22 (.mov (.t 26))])
 (.cond (.t 22) (.seq (.region [Ob 4 (.mov (Ci 2)),Ob 5 (.mov (Ci 0))])
 (.ret))
 (.skip))))))
 (.seq (.region [Ob 4 (.mov (Ci 3)),Ob 5 (.mov (Ci 0))])
 (.ret)))))
def r26 : List Res := [.t 4,.t 5]
def a26 : AFn := ⟨2, c26, r26,.v⟩

def c27 : ACode := .seq (.region [Ob 2 (.box (.t 0) 9),Ob 4 (.mov (Ci 0)),Ob 5 (.mov (Ci 0))])
 (.seq (.region [Ob 9 (.load (.t 2) (some 9)),Ob 10 (.mov (.t 1)),Ob 11 (.call 58 [(.t 9), (.t 10)]),Ob 8 (.mov (.t 11)),Ob 12 (.ext (.t 8) 0),Ob 13 (.ext (.t 8) 1),Ob 6 (.mov (.t 12)),Ob 7 (.mov (.t 13))])
 (.seq (.seq (.region [Ob 14 (.mov (.t 7)),Ob 15 (.bin .neq (.t 14) (Ci 0))])
 (.cond (.t 15) (.seq (.region [Ob 16 (.mov (.t 7)),Ob 4 (.mov (Ci 0)),Ob 5 (.mov (.t 16))])
 (.ret))
 (.skip)))
 (.seq (.seq (.region [Ob 17 (.load (.t 2) (some 9)),Ob 18 (.mov (.t 6)),Ob 19 (.mov (.t 1)),Ob 20 (.mov (.t 1)),Ob 21 (.call 61 [(.t 17), (.t 18), (.t 19), (.t 20)])])
 (.block 0 (.seq (.region [Ob 23 (.mov (.t 6)),Ob 24 (.len (.t 23)),Ob 25 (.bin .eql (.t 21) (.t 24)),Ob 22 (.mov (.t 25))])
 (.cond (.t 22) (.seq (.region [Ob 4 (.mov (Ci 1)),Ob 5 (.mov (Ci 0))])
 (.ret))
 (.seq (.region [Ob 27 (.bin .eql (.t 21) (Ci 0)),Ob 26 (.mov (.t 27))])
 (.cond (.t 26) (.seq (.region [Ob 4 (.mov (Ci 2)),Ob 5 (.mov (Ci 0))])
 (.ret))
 (.skip)))))))
 (.seq (.region [Ob 4 (.mov (Ci 3)),Ob 5 (.mov (Ci 0))])
 (.ret)))))
def r27 : List Res := [.t 4,.t 5]
def a27 : AFn := ⟨2, c27, r27,.v⟩

def c28 : ACode := .seq (.region [Ob 2 (.box (.t 0) 9),Ob 4 (.mov (Ci 0)),Ob 5 (.mov (Ci 0)),Ob 6 (.mov (Ci 0))])
 (.seq (.seq (.region [Ob 10 (.load (.t 2) (some 9)),Ob 11 (.mov (.t 1)),Ob 12 (.call 56 [(.t 10), (.t 11)]),Ob 7 (.mov (.t 12))])
 (.seq (.region [Ob 13 (.mov (.t 7)),Ob 14 (.bin .neq (.t 13) (Ci 0))])
 (.cond (.t 14) (.seq (.region [Ob 15 (.mov (.t 7)),Ob 4 (.mov (Ci 0)),Ob 5 (.mov (Ci 0)),Ob 6 (.mov (.t 15))])
 (.ret))
 (.skip))))
 (.seq (.region [Ob 17 (.load (.t 2) (some 9)),Ob 19 (.load (.t 2) (some 9)),Ob 20 (.mov (.t 1)),On (.mov (.c .undef)),Ob 18 (.call 43 [(.t 17)]),Ob 21 (.call 62 [(.t 19), (.t 20)]),Ob 22 (.call 45 [(.t 18), (.t 21)]),Ob 16 (.mov (.t 22)),Ob 23 (.ext (.t 16) 0),Ob 24 (.ext (.t 16) 1),Ob 8 (.box (.t 23) 2),Ob 9 (.mov (.t 24))])
 (.seq (.region [Ob 25 (.addr (.t 8) 0),Ob 26 (.load (.t 25) none),Ob 27 (.addr (.t 8) 1),Ob 28 (.load (.t 27) none),Ob 4 (.mov (.t 26)),Ob 5 (.mov (.t 28)),Ob 6 (.mov (Ci 0))])
 (.ret))))
def r28 : List Res := [.t 4,.t 5,.t 6]
def a28 : AFn := ⟨2, c28, r28,.v⟩

def c29 : ACode := .seq (.region [Ob 2 (.box (.t 0) 9),Ob 4 (.mov (Ci 0)),Ob 5 (.mov (Ci 0)),Ob 6 (.mov (Ci 0))])
 (.seq (.region [Ob 11 (.load (.t 2) (some 9)),Ob 12 (.mov (.t 1)),Ob 13 (.call 58 [(.t 11), (.t 12)]),Ob 10 (.mov (.t 13)),Ob 14 (.ext (.t 10) 0),Ob 15 (.ext (.t 10) 1),Ob 7 (.mov (.t 14)),Ob 6 (.mov (.t 15))])
 (.seq (.seq (.region [Ob 16 (.mov (.t 6)),Ob 17 (.bin .neq (.t 16) (Ci 0))])
 (.cond (.t 17) (.seq (.region [Ob 18 (.mov (.t 6)),Ob 4 (.mov (Ci 0)),Ob 5 (.mov (Ci 0)),Ob 6 (.mov (.t 18))])
 (.ret))
 (.skip)))
 (.seq (.region [Ob 4 (.mov (Ci (-1))),Ob 5 (.mov (Ci (-1)))])
 (.seq (.seq (.region [Ob 19 (.mov (.t 1)),Ob 8 (.mov (.t 19))])
 (.block 0 (.loop (.seq (.seq (.region [Ob 20 (.mov (.t 8)),Ob 21 (.addr (.t 2) 6),Ob 22 (.load (.t 21) none),Ob 23 (.bin .leq (.t 20) (.t 22))])
 (.cond (.t 23) (.skip)
 (.exit 0)))
 (.seq (.block 1 (.seq (.region [Ob 26 (.load (.t 2) (some 9)),Ob 27 (.mov (.t 7)),Ob 28 (.mov (.t 1)),Ob 29 (.mov (.t 8)),Ob 30 (.call 61 [(.t 26), (.t 27), (.t 28), (.t 29)]),Ob 9 (.mov (.t 30))])
 (.seq (.seq (.region [Ob 31 (.mov (.t 9)),Ob 32 (.mov (.t 7)),Ob 33 (.len (.t 32)),Ob 34 (.bin .eql (.t 31) (.t 33))])
 (.cond (.t 34) (.region [Ob 35 (.mov (.t 8)),Ob 4 (.mov (.t 35))])
 (.skip)))
 (.seq (.region [Ob 36 (.mov (.t 9)),Ob 37 (.bin .gtr (.t 36) (Ci 0))])
 (.cond (.t 37) (.region [Ob 38 (.mov (.t 8)),Ob 5 (.mov (.t 38))])
 (.skip))))))
 (.region [Ob 24 (.mov (.t 8)),Ob 25 (.bin .add (.t 24) (Ci 1)),Ob 8 (.mov (.t 25))]))))))
 (.seq (.region [Ob 39 (.mov (.t 4)),Ob 40 (.mov (.t 5)),Ob 4 (.mov (.t 39)),Ob 5 (.mov (.t 40)),Ob 6 (.mov (Ci 0))])
 (.ret))))))
def r29 : List Res := [.t 4,.t 5,.t 6]
def a29 : AFn := ⟨2, c29, r29,.v⟩

def c30 : ACode := .seq (.region [Ob 3 (.box (.t 0) 9),Ob 6 (.mov (.c (.sl [] .tight))),Ob 7 (.mov (Ci 0))])
 (.seq (.block 0 (.seq (.region [Ob 10 (.load (.t 3) (some 9)),Ob 11 (.call 49 [(.t 10)]),Ob 12 (.not (.t 11)),Ob 9 (.mov (.t 12))])
 (.cond (.t 9) (.seq (.region [Ob 6 (.mov (.c (.sl [] .tight))),Ob 7 (.mov (Ci 90))])
 (.ret))
 (.seq (.region [Ob 14 (.mov (.t 1)),Ob 15 (.call 63 [(.t 14)]),Ob 16 (.not (.t 15)),Ob 17 (.mov (.t 16)),Og 18 17 false (.mov (.t 2)),Og 19 17 false (.call 64 [(.t 18)]),Og 20 17 false (.not (.t 19)),Ob 21 (.pick (.t 17) (.c (.bool true)) (.t 20)),Ob 13 (.mov (.t 21))])
 (.cond (.t 13) (.seq (.region [Ob 6 (.mov (.c (.sl [] .tight))),Ob 7 (.mov (Ci 1))])
 (.ret))
 (.skip))))))
 (.seq (.region [Ob 22 (.load (.t 3) (some 9)),Ob 23 (.call 46 [(.t 22)]),Ob 24 (.load (.t 3) (some 9)),Ob 25 (.call 65 [(.t 23), (.t 24), (Ci 0)]),Ob 8 (.mov (.t 25))])
 (.seq (.seq (.region [Ob 26 (.mov (.t 2)),Ob 27 (.mov (.t 8)),Ob 28 (.call 67 [(.t 27)]),Ob 29 (.call 66 [(.t 26), (.t 28)]),Ob 30 (.not (.t 29))])
 (.cond (.t 30) (.seq (.region [Ob 6 (.mov (.c (.sl [] .tight))),Ob 7 (.mov (Ci 3))])
 (.ret))
 (.skip)))
 (.seq (.region [Ob 31 (.mov (.t 2)),Ob 32 (.mov (.t 1)),Ob 33 (.load (.t 3) (some 9)),Ob 34 (.call 43 [(.t 33)]),Ob 35 (.load (.t 3) (some 9)),Ob 36 (.mov (.t 1)),Ob 37 (.call 65 [(.t 34), (.t 35), (.t 36)]),Ob 38 (.mov (.t 8)),Ob 39 (.call 68 [(.t 31), (.t 32), (.t 37), (.t 38)]),Ob 6 (.mov (.t 39)),Ob 7 (.mov (Ci 0))])
 (.ret)))))
def r30 : List Res := [.t 6,.t 7]
def a30 : AFn := ⟨3, c30, r30,.v⟩

def c31 : ACode := .seq (.region [Ob 3 (.box (.t 0) 9),Ob 6 (.mov (.c (.sl [] .tight))),Ob 7 (.mov (Ci 0))])
 (.seq (.seq (.region [Ob 12 (.load (.t 3) (some 9)),Ob 13 (.mov (.t 1)),Ob 14 (.mov (.t 2)),Ob 15 (.call 38 [(.t 12), (.t 13), (.t 14)]),Ob 8 (.mov (.t 15))])
 (.seq (.region [Ob 16 (.mov (.t 8)),Ob 17 (.bin .neq (.t 16) (Ci 0))])
 (.cond (.t 17) (.seq (.region [Ob 18 (.mov (.t 8)),Ob 6 (.mov (.c (.sl [] .tight))),Ob 7 (.mov (.t 18))])
 (.ret))
 (.skip))))
 (.seq (.region [Ob 19 (.load (.t 3) (some 9)),Ob 20 (.call 69 [(.t 19)]),Ob 9 (.mov (.t 20))])
 (.seq (.region [Ob 10 (.mov (.c (.sl [] .tight)))])
 (.seq (.seq (.region [Ob 11 (.mov (Ci 0))])
 (.block 0 (.loop (.seq (.seq (.region [Ob 21 (.mov (.t 11)),Ob 22 (.mov (.t 2)),Ob 23 (.len (.t 22)),Ob 24 (.bin .lss (.t 21) (.t 23))])
 (.cond (.t 24) (.skip)
 (.exit 0)))
 (.seq (.block 1 (.seq (.seq (.region [Ob 27 (.load (.t 3) (some 9)),Ob 28 (.load (.t 3) (some 9)),Ob 29 (.call 40 [(.t 28)]),Ob 30 (.mov (.t 2)),Ob 31 (.mov (.t 11)),Ob 32 (.idx (.t 30) (.t 31) 1),Ob 33 (.load (.t 32) none),Ob 34 (.call 39 [(.t 27), (.t 29), (Ci 0), (.t 33)]),Ob 35 (.not (.t 34))])
 (.cond (.t 35) (.seq (.region [Ob 6 (.mov (.c (.sl [] .tight))),Ob 7 (.mov (Ci 3))])
 (.ret))
 (.skip)))
 (.seq (.seq (.region [Ob 36 (.load (.t 3) (some 9)),Ob 37 (.mov (.t 9)),Ob 38 (.mov (.t 1)),Ob 39 (.mov (.t 2)),Ob 40 (.mov (.t 11)),Ob 41 (.idx (.t 39) (.t 40) 1),Ob 42 (.load (.t 41) none),Ob 43 (.call 39 [(.t 36), (.t 37), (.t 38), (.t 42)]),Ob 44 (.not (.t 43))])
 (.cond (.t 44) (.seq (.region [Ob 45 (.mov (.t 10)),Ob 46 (.mov (.t 11)),Ob 47 (.lit false 3 1 [(.t 46)]),Ob 48 (.app false (.t 45) (.t 47) 3 1 8),Ob 10 (.mov (.t 48))])
 (.region [Ob 49 (.load (.t 3) (some 9)),Ob 50 (.call 40 [(.t 49)]),Ob 9 (.mov (.t 50)),Ob 1 (.mov (Ci 0))]))
 (.skip)))
 (.region [Ob 51 (.mov (.t 1)),Ob 52 (.mov (.t 2)),Ob 53 (.mov (.t 11)),Ob 54 (.idx (.t 52) (.t 53) 1),Ob 55 (.load (.t 54) none),Ob 56 (.bin .add (.t 51) (.t 55)),Ob 1 (.mov (.t 56))]))))
 (.region [Ob 25 (.mov (.t 11)),Ob 26 (.bin .add (.t 25) (Ci 1)),Ob 11 (.mov (.t 26))]))))))
 (.seq (.region [Ob 57 (.mov (.t 10)),Ob 6 (.mov (.t 57)),Ob 7 (.mov (Ci 0))])
 (.ret))))))
def r31 : List Res := [.t 6,.t 7]
def a31 : AFn := ⟨3, c31, r31,.v⟩

def c32 : ACode := .seq (.region [Ob 1 (.box (.t 0) 9),Ob 2 (.mov (.c (.bool false)))])
 (.seq (.region [Ob 3 (.load (.t 1) (some 9)),Ob 4 (.call 12 [(.t 3)]),Ob 5 (.not (.t 4)),Ob 6 (.mov (.t 5)),Og 7 6 true (.load (.t 1) (some 9)),Og 8 6 true (.call 22 [(.t 7)]),Og 9 6 true (.bin .eql (.t 8) (Ci 0)),Ob 10 (.pick (.t 6) (.t 9) (.c (.bool false))),Ob 2 (.mov (.t 10))])
 (.ret))
def r32 : List Res := [.t 2]
def a32 : AFn := ⟨1, c32, r32,.v⟩

def c33 : ACode := .seq (.region [Ob 2 (.mov (.c (.bool false)))])
 (.seq (.region [Ob 3 (.mov (.t 0)),Ob 4 (.bin .geq (.t 3) (Ci 0)),Ob 5 (.mov (.t 4)),Og 6 5 true (.mov (.t 0)),Og 7 5 true (.bin .leq (.t 6) (Ci 40)),Ob 8 (.pick (.t 5) (.t 7) (.c (.bool false))),Ob 2 (.mov (.t 8))])
 (.ret))
def r33 : List Res := [.t 2]
def a33 : AFn := ⟨1, c33, r33,.v⟩

def c34 : ACode := .seq (.region [Ob 2 (.box (.t 0) 9),Ob 3 (.box (.t 1) 2),Ob 4 (.mov (.c (.bool false)))])
 (.seq (.region [Ob 5 (.addr (.t 3) 0),Ob 6 (.load (.t 5) none),Ob 7 (.addr (.t 2) 0),Ob 8 (.addr (.t 7) 0),Ob 9 (.load (.t 8) none),Ob 10 (.addr (.t 2) 0),Ob 11 (.addr (.t 10) 1),Ob 12 (.load (.t 11) none),Ob 13 (.call 55 [(.t 6), (.t 9), (.t 12)]),Ob 14 (.mov (.t 13)),Og 15 14 true (.addr (.t 3) 1),Og 16 14 true (.load (.t 15) none),Og 17 14 true (.addr (.t 2) 2),Og 18 14 true (.addr (.t 17) 0),Og 19 14 true (.load (.t 18) none),Og 20 14 true (.addr (.t 2) 2),Og 21 14 true (.addr (.t 20) 1),Og 22 14 true (.load (.t 21) none),Og 23 14 true (.call 55 [(.t 16), (.t 19), (.t 22)]),Ob 24 (.pick (.t 14) (.t 23) (.c (.bool false))),Ob 25 (.mov (.t 24)),Og 26 25 true (.load (.t 2) (some 9)),Og 27 25 true (.load (.t 3) (some 2)),Og 28 25 true (.call 37 [(.t 26), (.t 27)]),Og 29 25 true (.len (.t 28)),Og 30 25 true (.addr (.t 2) 8),Og 31 25 true (.load (.t 30) none),Og 32 25 true (.bin .leq (.t 29) (.t 31)),Ob 33 (.pick (.t 25) (.t 32) (.c (.bool false))),Ob 4 (.mov (.t 33))])
 (.ret))
def r34 : List Res := [.t 4]
def a34 : AFn := ⟨2, c34, r34,.v⟩

def c35 : ACode := .seq (.region [Ob 2 (.box (.t 0) 2),Ob 4 (.mov (Ci 0))])
 (.seq (.region [Ob 5 (.addr (.t 2) 0),Ob 6 (.load (.t 5) none),Ob 7 (.mov (.t 1)),Ob 8 (.addr (.t 2) 1),Ob 9 (.load (.t 8) none),Ob 10 (.bin .mul (.t 7) (.t 9)),Ob 11 (.bin .sub (.t 6) (.t 10)),Ob 4 (.mov (.t 11))])
 (.ret))
def r35 : List Res := [.t 4]
def a35 : AFn := ⟨2, c35, r35,.v⟩

def c36 : ACode := .seq (.region [Ob 4 (.box (.t 0) 9),Ob 5 (.box (.t 1) 2),Ob 8 (.mov (.c (.bool false)))])
 (.seq (.seq (.region [Ob 10 (.mov (.t 2)),Ob 9 (.mov (.t 10))])
 (.block 0 (.loop (.seq (.seq (.region [Ob 11 (.mov (.t 9)),Ob 12 (.mov (.t 3)),Ob 13 (.bin .leq (.t 11) (.t 12))])
 (.cond (.t 13) (.skip)
 (.exit 0)))
 (.seq (.block 1 (.seq (.region [Ob 16 (.load (.t 5) (some 2)),Ob 17 (.mov (.t 9)),Ob 18 (.call 35 [(.t 16), (.t 17)]),Ob 19 (.addr (.t 4) 4),Ob 20 (.addr (.t 19) 0),Ob 21 (.load (.t 20) none),Ob 22 (.addr (.t 4) 4),Ob 23 (.addr (.t 22) 1),Ob 24 (.load (.t 23) none),Ob 25 (.call 55 [(.t 18), (.t 21), (.t 24)]),Ob 26 (.not (.t 25))])
 (.cond (.t 26) (.seq (.region [Ob 8 (.mov (.c (.bool false)))])
 (.ret))
 (.skip))))
 (.region [Ob 14 (.mov (.t 9)),Ob 15 (.bin .add (.t 14) (Ci 1)),Ob 9 (.mov (.t 15))]))))))
 (.seq (.region [Ob 8 (.mov (.c (.bool true)))])
 (.ret)))
def r36 : List Res := [.t 8]
def a36 : AFn := ⟨4, c36, r36,.v⟩

def c37 : ACode := .seq (.region [Ob 2 (.box (.t 0) 9),Ob 3 (.box (.t 1) 2),Ob 4 (.mov (.c (.sl [] .tight)))])
 (.seq (.region [Ob 5 (.mov (.c (.sl [] .tight)))])
 (.seq (.seq (.region [Ob 6 (.mov (Ci 0))])
 (.block 0 (.loop (.seq (.seq (.region [Ob 7 (.mov (.t 6)),Ob 8 (.addr (.t 2) 7),Ob 9 (.load (.t 8) none),Ob 10 (.len (.t 9)),Ob 11 (.bin .lss (.t 7) (.t 10))])
 (.cond (.t 11) (.skip)
 (.exit 0)))
 (.seq (.block 1 (.seq (.region [Ob 14 (.load (.t 3) (some 2)),Ob 15 (.addr (.t 2) 7),Ob 16 (.load (.t 15) none),Ob 17 (.mov (.t 6)),Ob 18 (.idx (.t 16) (.t 17) 3),Ob 19 (.addr (.t 18) 0),Ob 20 (.load (.t 19) none),Ob 21 (.call 35 [(.t 14), (.t 20)]),Ob 22 (.addr (.t 2) 7),Ob 23 (.load (.t 22) none),Ob 24 (.mov (.t 6)),Ob 25 (.idx (.t 23) (.t 24) 3),Ob 26 (.addr (.t 25) 1),Ob 27 (.load (.t 26) none),Ob 28 (.addr (.t 2) 7),Ob 29 (.load (.t 28) none),Ob 30 (.mov (.t 6)),Ob 31 (.idx (.t 29) (.t 30) 3),Ob 32 (.addr (.t 31) 2),Ob 33 (.load (.t 32) none),Ob 34 (.call 55 [(.t 21), (.t 27), (.t 33)]),Ob 35 (.not (.t 34))])
 (.cond (.t 35) (.region [Ob 36 (.mov (.t 5)),Ob 37 (.mov (.t 6)),Ob 38 (.lit false 3 1 [(.t 37)]),Ob 39 (.app false (.t 36) (.t 38) 3 1 8),Ob 5 (.mov (.t 39))])
 (.skip))))
 (.region [Ob 12 (.mov (.t 6)),Ob 13 (.bin .add (.t 12) (Ci 1)),Ob 6 (.mov (.t 13))]))))))
 (.seq (.region [Ob 40 (.mov (.t 5)),Ob 4 (.mov (.t 40))])
 (.ret))))
def r37 : List Res := [.t 4]
def a37 : AFn := ⟨2, c37, r37,.v⟩

def c38 : ACode := .seq (.region [Ob 3 (.box (.t 0) 9),Ob 6 (.mov (Ci 0))])
 (.seq (.seq (.region [Ob 8 (.load (.t 3) (some 9)),Ob 9 (.call 22 [(.t 8)]),Ob 10 (.bin .neq (.t 9) (Ci 0))])
 (.cond (.t 10) (.seq (.region [Ob 6 (.mov (Ci 90))])
 (.ret))
 (.skip)))
 (.seq (.seq (.region [Ob 11 (.mov (.t 1)),Ob 12 (.call 55 [(.t 11), (Ci 0), (Ci 40)]),Ob 13 (.not (.t 12)),Ob 14 (.mov (.t 13)),Og 15 14 false (.mov (.t 2)),Og 16 14 false (.len (.t 15)),Og 17 14 false (.bin .gtr (.t 16) (Ci 30)),Ob 18 (.pick (.t 14) (.c (.bool true)) (.t 17))])
 (.cond (.t 18) (.seq (.region [Ob 6 (.mov (Ci 1))])
 (.ret))
 (.skip)))
 (.seq (.seq (.region [Ob 7 (.mov (Ci 0))])
 (.block 0 (.loop (.seq (.seq (.region [Ob 19 (.mov (.t 7)),Ob 20 (.mov (.t 2)),Ob 21 (.len (.t 20)),Ob 22 (.bin .lss (.t 19) (.t 21))])
 (.cond (.t 22) (.skip)
 (.exit 0)))
 (.seq (.block 1 (.seq (.region [Ob 25 (.mov (.t 2)),Ob 26 (.mov (.t 7)),Ob 27 (.idx (.t 25) (.t 26) 1),Ob 28 (.load (.t 27) none),Ob 29 (.call 55 [(.t 28), (Ci 0), (Ci 40)]),Ob 30 (.not (.t 29))])
 (.cond (.t 30) (.seq (.region [Ob 6 (.mov (Ci 1))])
 (.ret))
 (.skip))))
 (.region [Ob 23 (.mov (.t 7)),Ob 24 (.bin .add (.t 23) (Ci 1)),Ob 7 (.mov (.t 24))]))))))
 (.seq (.region [Ob 6 (.mov (Ci 0))])
 (.ret)))))
def r38 : List Res := [.t 6]
def a38 : AFn := ⟨3, c38, r38,.v⟩

def c39 : ACode := .seq (.region [Ob 4 (.box (.t 0) 9),Ob 8 (.mov (.c (.bool false)))])
 (.seq (.region [Ob 9 (.mov (.t 1)),Ob 10 (.len (.t 9)),Ob 11 (.bin .gtr (.t 10) (Ci 0)),Ob 12 (.mov (.t 11)),Og 13 12 true (.mov (.t 2)),Og 14 12 true (.mov (.t 3)),Og 15 12 true (.bin .add (.t 13) (.t 14)),Og 16 12 true (.addr (.t 4) 6),Og 17 12 true (.load (.t 16) none),Og 18 12 true (.bin .leq (.t 15) (.t 17)),Ob 19 (.pick (.t 12) (.t 18) (.c (.bool false))),Ob 20 (.mov (.t 19)),Og 21 20 true (.load (.t 4) (some 9)),Og 22 20 true (.mov (.t 1)),Og 23 20 true (.mov (.t 2)),Og 24 20 true (.mov (.t 2)),Og 25 20 true (.mov (.t 3)),Og 26 20 true (.bin .add (.t 24) (.t 25)),Og 27 20 true (.call 61 [(.t 21), (.t 22), (.t 23), (.t 26)]),Og 28 20 true (.mov (.t 1)),Og 29 20 true (.len (.t 28)),Og 30 20 true (.bin .eql (.t 27) (.t 29)),Ob 31 (.pick (.t 20) (.t 30) (.c (.bool false))),Ob 8 (.mov (.t 31))])
 (.ret))
def r39 : List Res := [.t 8]
def a39 : AFn := ⟨4, c39, r39,.v⟩

def c40 : ACode := .seq (.region [Ob 1 (.box (.t 0) 9),Ob 2 (.mov (.c (.sl [] .tight)))])
 (.seq (.region [Ob 3 (.load (.t 1) (some 9)),Ob 4 (.call 48 [(.t 3)]),Ob 2 (.mov (.t 4))])
 (.ret))
def r40 : List Res := [.t 2]
def a40 : AFn := ⟨1, c40, r40,.v⟩

def c41 : ACode := .seq (.region [Ob 3 (.box (.t 0) 9),Ob 4 (.box (.t 1) 3),Ob 6 (.mov (.c (.bool false)))])
 (.seq (.region [Ob 11 (.load (.t 3) (some 9)),Ob 12 (.call 69 [(.t 11)]),Ob 13 (.addr (.t 4) 0),Ob 14 (.load (.t 13) none),Ob 7 (.mov (.t 12)),Ob 8 (.mov (.t 14)),Ob 9 (.mov (Ci 0))])
 (.seq (.seq (.region [Ob 10 (.mov (Ci 0))])
 (.block 0 (.loop (.seq (.seq (.region [Ob 15 (.mov (.t 10)),Ob 16 (.addr (.t 4) 1),Ob 17 (.load (.t 16) none),Ob 18 (.len (.t 17)),Ob 19 (.bin .lss (.t 15) (.t 18))])
 (.cond (.t 19) (.skip)
 (.exit 0)))
 (.seq (.block 1 (.seq (.seq (.region [Ob 22 (.mov (.t 9)),Ob 23 (.mov (.t 2)),Ob 24 (.len (.t 23)),Ob 25 (.bin .lss (.t 22) (.t 24)),Ob 26 (.mov (.t 25)),Og 27 26 true (.mov (.t 2)),Og 28 26 true (.mov (.t 9)),Og 29 26 true (.idx (.t 27) (.t 28) 1),Og 30 26 true (.load (.t 29) none),Og 31 26 true (.mov (.t 10)),Og 32 26 true (.bin .eql (.t 30) (.t 31)),Ob 33 (.pick (.t 26) (.t 32) (.c (.bool false)))])
 (.cond (.t 33) (.seq (.region [Ob 34 (.load (.t 3) (some 9)),Ob 35 (.call 40 [(.t 34)]),Ob 7 (.mov (.t 35)),Ob 8 (.mov (Ci 0))])
 (.region [Ob 36 (.mov (.t 9)),Ob 37 (.bin .add (.t 36) (Ci 1)),Ob 9 (.mov (.t 37))]))
 (.skip)))
 (.seq (.seq (.region [Ob 38 (.load (.t 3) (some 9)),Ob 39 (.mov (.t 7)),Ob 40 (.mov (.t 8)),Ob 41 (.addr (.t 4) 1),Ob 42 (.load (.t 41) none),Ob 43 (.mov (.t 10)),Ob 44 (.idx (.t 42) (.t 43) 1),Ob 45 (.load (.t 44) none),Ob 46 (.call 39 [(.t 38), (.t 39), (.t 40), (.t 45)]),Ob 47 (.not (.t 46))])
 (.cond (.t 47) (.seq (.region [Ob 6 (.mov (.c (.bool false)))])
 (.ret))
 (.skip)))
 (.region [Ob 48 (.mov (.t 8)),Ob 49 (.addr (.t 4) 1),Ob 50 (.load (.t 49) none),Ob 51 (.mov (.t 10)),Ob 52 (.idx (.t 50) (.t 51) 1),Ob 53 (.load (.t 52) none),Ob 54 (.bin .add (.t 48) (.t 53)),Ob 8 (.mov (.t 54))]))))
 (.region [Ob 20 (.mov (.t 10)),Ob 21 (.bin .add (.t 20) (Ci 1)),Ob 10 (.mov (.t 21))]))))))
 (.seq (.region [Ob 55 (.mov (.t 9)),Ob 56 (.mov (.t 2)),Ob 57 (.len (.t 56)),Ob 58 (.bin .eql (.t 55) (.t 57)),Ob 6 (.mov (.t 58))])
 (.ret))))
def r41 : List Res := [.t 6]
def a41 : AFn := ⟨3, c41, r41,.v⟩

def c42 : ACode := .seq (.region [Ob 0 (.new (.agg [(.int .i64 0), (.int .i64 0), (.int .i64 0), (.int .i64 0), (.int .i64 0), (.int .i64 0), (.int .i64 0), (.sl [] .tight), (.int .i64 0)]) 9)])
 (.seq (.region [Ob 1 (.build [(.int .i64 0), (.int .i64 0)] [(0, 1, (Ci 100)), (1, 1, (Ci 104))]),Ob 2 (.build [(.int .i64 0), (.int .i64 0)] [(0, 1, (Ci 2)), (1, 1, (Ci 4))]),Ob 3 (.build [(.int .i64 0), (.int .i64 0)] [(0, 1, (Ci 60)), (1, 1, (Ci 110))]),Ob 4 (.build [(.int .i64 0), (.int .i64 0), (.int .i64 0)] [(0, 1, (Ci 5)), (1, 1, (Ci 84)), (2, 1, (Ci 92))]),Ob 5 (.build [(.int .i64 0), (.int .i64 0), (.int .i64 0)] [(0, 1, (Ci 10)), (1, 1, (Ci 60)), (2, 1, (Ci 71))]),Ob 6 (.lit false 39 3 [(.t 4), (.t 5)]),Ob 7 (.build [(.int .i64 0), (.int .i64 0), (.int .i64 0), (.int .i64 0), (.int .i64 0), (.int .i64 0), (.int .i64 0), (.sl [] .tight), (.int .i64 0)] [(0, 2, (.t 1)), (2, 2, (.t 2)), (4, 2, (.t 3)), (6, 1, (Ci 12)), (7, 1, (.t 6))]),On (.store (.t 0) (.t 7) 9)])
 (.ret))
def r42 : List Res := [.cell 0 (some 9)]
def a42 : AFn := ⟨0, c42, r42,.v⟩

def c43 : ACode := .seq (.region [Ob 1 (.box (.t 0) 9),Ob 2 (.mov (.c .nilf))])
 (.seq (.region [Ob 4 (.addr (.t 1) 7),Ob 5 (.load (.t 4) none),Ob 6 (.call 47 [(.t 5)]),Ob 3 (.new .nilf 1),On (.store (.t 3) (.t 6) 1)])
 (.seq (.region [Ob 7 (.clo 70 [] [(.t 1), (.t 3)]),Ob 2 (.mov (.t 7))])
 (.ret)))
def r43 : List Res := [.t 2]
def a43 : AFn := ⟨1, c43, r43,.v⟩

def c44 : ACode := .seq (.region [Ob 1 (.box (.t 0) 9),Ob 2 (.mov (.c (.sl [] .tight)))])
 (.seq (.region [Ob 3 (.mov (.c (.sl [] .tight)))])
 (.seq (.region [Ob 6 (.load (.t 1) (some 9)),Ob 7 (.call 48 [(.t 6)]),Ob 4 (.mov (.t 7))])
 (.seq (.seq (.region [Ob 5 (.mov (Ci 0))])
 (.block 0 (.loop (.seq (.seq (.region [Ob 8 (.mov (.t 5)),Ob 9 (.mov (.t 4)),Ob 10 (.len (.t 9)),Ob 11 (.bin .lss (.t 8) (.t 10))])
 (.cond (.t 11) (.skip)
 (.exit 0)))
 (.seq (.block 1 (.seq (.region [Ob 14 (.load (.t 1) (some 9)),Ob 15 (.mov (.t 4)),Ob 16 (.mov (.t 5)),Ob 17 (.idx (.t 15) (.t 16) 2),Ob 18 (.load (.t 17) (some 2)),Ob 19 (.call 37 [(.t 14), (.t 18)]),Ob 20 (.len (.t 19)),Ob 21 (.addr (.t 1) 8),Ob 22 (.load (.t 21) none),Ob 23 (.bin .leq (.t 20) (.t 22))])
 (.cond (.t 23) (.region [Ob 24 (.mov (.t 3)),Ob 25 (.mov (.t 4)),Ob 26 (.mov (.t 5)),Ob 27 (.idx (.t 25) (.t 26) 2),Ob 28 (.load (.t 27) (some 2)),Ob 29 (.lit false 49 2 [(.t 28)]),Ob 30 (.app false (.t 24) (.t 29) 49 2 16),Ob 3 (.mov (.t 30))])
 (.skip))))
 (.region [Ob 12 (.mov (.t 5)),Ob 13 (.bin .add (.t 12) (Ci 1)),Ob 5 (.mov (.t 13))]))))))
 (.seq (.region [Ob 31 (.mov (.t 3)),Ob 2 (.mov (.t 31))])
 (.ret)))))
def r44 : List Res := [.t 2]
def a44 : AFn := ⟨1, c44, r44,.v⟩

def c45 : ACode := .seq (.region [Ob 3 (.box (.t 1) 1),Ob 4 (.new (.agg [(.int .i64 0), (.int .i64 0)]) 2),Ob 5 (.new (.bool false) 1)])
 (.seq (.seq (.region [Ob 8 (.mov (.t 0))])
 (.block 0 (.range (.t 8) [9] (.region [Ob 6 (.new (.agg [(.int .i64 0), (.int .i64 0)]) 2),On (.store (.t 6) (.t 9) 2)])
 (.block 1 (.seq (.region [Ob 10 (.load (.t 3) none),Ob 11 (.load (.t 6) (some 2)),Ob 12 (.callv (.t 10) [(.t 11)]),Ob 7 (.mov (.t 12))])
 (.seq (.seq (.region [Ob 13 (.load (.t 5) none),Ob 14 (.not (.t 13))])
 (.cond (.t 14) (.region [Ob 15 (.mov (.t 7)),Ob 16 (.mov (.t 7)),Ob 17 (.build [(.int .i64 0), (.int .i64 0)] [(0, 1, (.t 15)), (1, 1, (.t 16))]),On (.store (.t 4) (.t 17) 2),On (.store (.t 5) (.c (.bool true)) 1)])
 (.skip)))
 (.region [Ob 18 (.addr (.t 4) 0),Ob 19 (.load (.t 18) none),Ob 20 (.mov (.t 7)),Ob 21 (.mnx false (.t 19) (.t 20)),Ob 22 (.addr (.t 4) 1),Ob 23 (.load (.t 22) none),Ob 24 (.mov (.t 7)),Ob 25 (.mnx true (.t 23) (.t 24)),Ob 26 (.addr (.t 4) 0),On (.store (.t 26) (.t 21) 1),Ob 27 (.addr (.t 4) 1),On (.store (.t 27) (.t 25) 1)])))))))
 (.seq (.regionD [Ob 28 (.load (.t 4) (some 2)),Ob 29 (.load (.t 5) none),On (.store (.t 4) (.t 28) 2),On (.store (.t 5) (.t 29) 1)] [(5, 4)])
 (.ret)))
def r45 : List Res := [.cell 4 (some 2),.cell 5 none]
def a45 : AFn := ⟨2, c45, r45,.v⟩

def c46 : ACode := .seq (.region [Ob 1 (.box (.t 0) 9),Ob 2 (.mov (.c .nilf))])
 (.seq (.region [Ob 3 (.clo 71 [] [(.t 1)]),Ob 2 (.mov (.t 3))])
 (.ret))
def r46 : List Res := [.t 2]
def a46 : AFn := ⟨1, c46, r46,.v⟩

def c47 : ACode := .seq (.region [Ob 1 (.box (.t 0) 1),Ob 2 (.mov (.c .nilf))])
 (.seq (.region [Ob 3 (.clo 72 [] [(.t 1)]),Ob 2 (.mov (.t 3))])
 (.ret))
def r47 : List Res := [.t 2]
def a47 : AFn := ⟨1, c47, r47,.v⟩

def c48 : ACode := .seq (.region [Ob 1 (.box (.t 0) 9),Ob 2 (.mov (.c (.sl [] .tight)))])
 (.seq (.region [Ob 3 (.mov (.c (.sl [] .tight)))])
 (.seq (.seq (.region [Ob 6 (.addr (.t 1) 0),Ob 7 (.addr (.t 6) 0),Ob 8 (.load (.t 7) none),Ob 4 (.mov (.t 8))])
 (.block 0 (.loop (.seq (.seq (.region [Ob 9 (.mov (.t 4)),Ob 10 (.addr (.t 1) 0),Ob 11 (.addr (.t 10) 1),Ob 12 (.load (.t 11) none),Ob 13 (.bin .leq (.t 9) (.t 12))])
 (.cond (.t 13) (.skip)
 (.exit 0)))
 (.seq (.block 1 (.seq (.region [Ob 16 (.addr (.t 1) 2),Ob 17 (.addr (.t 16) 0),Ob 18 (.load (.t 17) none),Ob 5 (.mov (.t 18))])
 (.block 2 (.loop (.seq (.seq (.region [Ob 19 (.mov (.t 5)),Ob 20 (.addr (.t 1) 2),Ob 21 (.addr (.t 20) 1),Ob 22 (.load (.t 21) none),Ob 23 (.bin .leq (.t 19) (.t 22))])
 (.cond (.t 23) (.skip)
 (.exit 2)))
 (.seq (.block 3 (.region [Ob 26 (.mov (.t 3)),Ob 27 (.mov (.t 4)),Ob 28 (.mov (.t 5)),Ob 29 (.build [(.int .i64 0), (.int .i64 0)] [(0, 1, (.t 27)), (1, 1, (.t 28))]),Ob 30 (.lit false 49 2 [(.t 29)]),Ob 31 (.app false (.t 26) (.t 30) 49 2 16),Ob 3 (.mov (.t 31))]))
 (.region [Ob 24 (.mov (.t 5)),Ob 25 (.bin .add (.t 24) (Ci 1)),Ob 5 (.mov (.t 25))])))))))
 (.region [Ob 14 (.mov (.t 4)),Ob 15 (.bin .add (.t 14) (Ci 1)),Ob 4 (.mov (.t 15))]))))))
 (.seq (.region [Ob 32 (.mov (.t 3)),Ob 2 (.mov (.t 32))])
 (.ret))))
def r48 : List Res := [.t 2]
def a48 : AFn := ⟨1, c48, r48,.v⟩

def c49 : ACode := .seq (.region [Ob 1 (.box (.t 0) 9),Ob 2 (.mov (.c (.bool false)))])
 (.seq (.region [Ob 3 (.addr (.t 1) 0),Ob 4 (.load (.t 3) (some 2)),Ob 5 (.call 73 [(.t 4), (Ci 0), (Ci 400)]),Ob 6 (.mov (.t 5)),Og 7 6 true (.addr (.t 1) 4),Og 8 6 true (.load (.t 7) (some 2)),Og 9 6 true (.call 73 [(.t 8), (Ci 0), (Ci 400)]),Ob 10 (.pick (.t 6) (.t 9) (.c (.bool false))),Ob 11 (.mov (.t 10)),Og 12 11 true (.addr (.t 1) 2),Og 13 11 true (.load (.t 12) (some 2)),Og 14 11 true (.call 73 [(.t 13), (Ci 0), (Ci 9)]),Ob 15 (.pick (.t 11) (.t 14) (.c (.bool false))),Ob 16 (.mov (.t 15)),Og 17 16 true (.addr (.t 1) 6),Og 18 16 true (.load (.t 17) none),Og 19 16 true (.call 63 [(.t 18)]),Ob 20 (.pick (.t 16) (.t 19) (.c (.bool false))),Ob 21 (.mov (.t 20)),Og 22 21 true (.addr (.t 1) 7),Og 23 21 true (.load (.t 22) none),Og 24 21 true (.len (.t 23)),Og 25 21 true (.bin .leq (.t 24) (Ci 10)),Ob 26 (.pick (.t 21) (.t 25) (.c (.bool false))),Ob 27 (.mov (.t 26)),Og 28 27 true (.addr (.t 1) 7),Og 29 27 true (.load (.t 28) none),Og 30 27 true (.call 74 [(.t 29), (.c (.fn 75 [] []))]),Ob 31 (.pick (.t 27) (.t 30) (.c (.bool false))),Ob 32 (.mov (.t 31)),Og 33 32 true (.addr (.t 1) 8),Og 34 32 true (.load (.t 33) none),Og 35 32 true (.call 76 [(.t 34), (Ci 0), (Ci 3)]),Ob 36 (.pick (.t 32) (.t 35) (.c (.bool false))),Ob 2 (.mov (.t 36))])
 (.ret))
def r49 : List Res := [.t 2]
def a49 : AFn := ⟨1, c49, r49,.v⟩

def c50 : ACode := .seq (.region [Ob 1 (.box (.t 0) 9),Ob 2 (.mov (.c (.bool false)))])
 (.seq (.region [Ob 3 (.load (.t 1) (some 9)),Ob 4 (.call 51 [(.t 3), (.c (.fn 77 [] []))]),Ob 2 (.mov (.t 4))])
 (.ret))
def r50 : List Res := [.t 2]
def a50 : AFn := ⟨1, c50, r50,.v⟩

def c51 : ACode := .seq (.region [Ob 2 (.box (.t 0) 9),Ob 3 (.box (.t 1) 1),Ob 4 (.new (.bool false) 1)])
 (.seq (.seq (.region [Ob 6 (.load (.t 2) (some 9)),Ob 7 (.call 43 [(.t 6)])])
 (.block 0 (.range (.t 7) [8] (.region [Ob 5 (.new (.agg [(.int .i64 0), (.int .i64 0)]) 2),On (.store (.t 5) (.t 8) 2)])
 (.block 1 (.seq (.region [Ob 9 (.load (.t 3) none),Ob 10 (.load (.t 5) (some 2)),Ob 11 (.callv (.t 9) [(.t 10)])])
 (.cond (.t 11) (.seq (.region [On (.store (.t 4) (.c (.bool true)) 1)])
 (.ret))
 (.skip)))))))
 (.seq (.region [On (.store (.t 4) (.c (.bool false)) 1)])
 (.ret)))
def r51 : List Res := [.cell 4 none]
def a51 : AFn := ⟨2, c51, r51,.v⟩

def c52 : ACode := .seq (.region [Ob 1 (.box (.t 0) 3),Ob 2 (.mov (.c .nilf))])
 (.seq (.region [Ob 3 (.addr (.t 1) 1),Ob 4 (.load (.t 3) none),Ob 5 (.addr (.t 1) 2),Ob 6 (.load (.t 5) none),Ob 7 (.build [(.int .i64 0), (.int .i64 0)] [(0, 1, (.t 4)), (1, 1, (.t 6))]),Ob 8 (.addr (.t 1) 0),Ob 9 (.load (.t 8) none),Ob 10 (.call 59 [(.t 7), (.t 9)]),Ob 2 (.mov (.t 10))])
 (.ret))
def r52 : List Res := [.t 2]
def a52 : AFn := ⟨1, c52, r52,.v⟩

def c53 : ACode := .seq (.region [Ob 4 (.mov (.c (.bool false)))])
 (.seq (.seq (.region [Ob 5 (.mov (Ci 0))])
 (.block 0 (.loop (.seq (.seq (.region [Ob 6 (.mov (.t 5)),Ob 7 (.mov (.t 0)),Ob 8 (.len (.t 7)),Ob 9 (.bin .lss (.t 6) (.t 8))])
 (.cond (.t 9) (.skip)
 (.exit 0)))
 (.seq (.block 1 (.seq (.region [Ob 12 (.mov (.t 0)),Ob 13 (.mov (.t 5)),Ob 14 (.idx (.t 12) (.t 13) 1),Ob 15 (.load (.t 14) none),Ob 16 (.mov (.t 1)),Ob 17 (.bin .eql (.t 15) (.t 16))])
 (.cond (.t 17) (.seq (.region [Ob 4 (.mov (.c (.bool true)))])
 (.ret))
 (.skip))))
 (.region [Ob 10 (.mov (.t 5)),Ob 11 (.bin .add (.t 10) (Ci 1)),Ob 5 (.mov (.t 11))]))))))
 (.seq (.region [Ob 4 (.mov (.c (.bool false)))])
 (.ret)))
def r53 : List Res := [.t 4]
def a53 : AFn := ⟨2, c53, r53,.v⟩

def c54 : ACode := .seq (.region [Ob 2 (.box (.t 0) 2),Ob 4 (.mov (.c (.bool false)))])
 (.seq (.region [Ob 5 (.addr (.t 2) 0),Ob 6 (.load (.t 5) none),Ob 7 (.addr (.t 2) 1),Ob 8 (.load (.t 7) none),Ob 9 (.call 55 [(.t 6), (Ci 0), (.t 8)]),Ob 10 (.mov (.t 9)),Og 11 10 true (.addr (.t 2) 1),Og 12 10 true (.load (.t 11) none),Og 13 10 true (.mov (.t 1)),Og 14 10 true (.bin .leq (.t 12) (.t 13)),Ob 15 (.pick (.t 10) (.t 14) (.c (.bool false))),Ob 4 (.mov (.t 15))])
 (.ret))
def r54 : List Res := [.t 4]
def a54 : AFn := ⟨2, c54, r54,.v⟩

def c55 : ACode := .seq (.region [Ob 6 (.mov (.c (.bool false)))])
 (.seq (.region [Ob 7 (.mov (.t 0)),Ob 8 (.mov (.t 1)),Ob 9 (.bin .geq (.t 7) (.t 8)),Ob 10 (.mov (.t 9)),Og 11 10 true (.mov (.t 0)),Og 12 10 true (.mov (.t 2)),Og 13 10 true (.bin .leq (.t 11) (.t 12)),Ob 14 (.pick (.t 10) (.t 13) (.c (.bool false))),Ob 6 (.mov (.t 14))])
 (.ret))
def r55 : List Res := [.t 6]
def a55 : AFn := ⟨3, c55, r55,.v⟩

def c56 : ACode := .seq (.region [Ob 2 (.box (.t 0) 9),Ob 4 (.mov (Ci 0))])
 (.seq (.block 0 (.seq (.region [Ob 6 (.load (.t 2) (some 9)),Ob 7 (.call 49 [(.t 6)]),Ob 8 (.not (.t 7)),Ob 5 (.mov (.t 8))])
 (.cond (.t 5) (.seq (.region [Ob 4 (.mov (Ci 90))])
 (.ret))
 (.seq (.region [Ob 10 (.mov (.t 1)),Ob 11 (.call 63 [(.t 10)]),Ob 12 (.not (.t 11)),Ob 9 (.mov (.t 12))])
 (.cond (.t 9) (.seq (.region [Ob 4 (.mov (Ci 1))])
 (.ret))
 (.seq (.region [Ob 14 (.load (.t 2) (some 9)),Ob 15 (.call 50 [(.t 14)]),Ob 16 (.not (.t 15)),Ob 13 (.mov (.t 16))])
 (.cond (.t 13) (.seq (.region [Ob 4 (.mov (Ci 3))])
 (.ret))
 (.skip))))))))
 (.seq (.region [Ob 4 (.mov (Ci 0))])
 (.ret)))
def r56 : List Res := [.t 4]
def a56 : AFn := ⟨2, c56, r56,.v⟩

def c57 : ACode := .seq (.region [Ob 1 (.box (.t 0) 1),Ob 2 (.mov (.c .nilf))])
 (.seq (.region [Ob 3 (.clo 78 [] [(.t 1)]),Ob 2 (.mov (.t 3))])
 (.ret))
def r57 : List Res := [.t 2]
def a57 : AFn := ⟨1, c57, r57,.v⟩

def c58 : ACode := .seq (.region [Ob 2 (.box (.t 0) 9),Ob 4 (.mov (.c (.sl [] .tight))),Ob 5 (.mov (Ci 0))])
 (.seq (.seq (.region [Ob 7 (.load (.t 2) (some 9)),Ob 8 (.call 22 [(.t 7)]),Ob 9 (.bin .neq (.t 8) (Ci 0))])
 (.cond (.t 9) (.seq (.region [Ob 4 (.mov (.c (.sl [] .tight))),Ob 5 (.mov (Ci 90))])
 (.ret))
 (.skip)))
 (.seq (.seq (.region [Ob 10 (.mov (.t 1)),Ob 11 (.call 55 [(.t 10), (Ci 0), (Ci 40)]),Ob 12 (.not (.t 11))])
 (.cond (.t 12) (.seq (.region [Ob 4 (.mov (.c (.sl [] .tight))),Ob 5 (.mov (Ci 1))])
 (.ret))
 (.skip)))
 (.seq (.region [Ob 13 (.load (.t 2) (some 9)),Ob 14 (.call 44 [(.t 13)]),Ob 6 (.mov (.t 14))])
 (.seq (.seq (.region [Ob 15 (.mov (.t 6)),Ob 16 (.len (.t 15)),Ob 17 (.bin .eql (.t 16) (Ci 0))])
 (.cond (.t 17) (.seq (.region [Ob 4 (.mov (.c (.sl [] .tight))),Ob 5 (.mov (Ci 3))])
 (.ret))
 (.skip)))
 (.seq (.region [Ob 18 (.mov (.t 6)),Ob 4 (.mov (.t 18)),Ob 5 (.mov (Ci 0))])
 (.ret))))))
def r58 : List Res := [.t 4,.t 5]
def a58 : AFn := ⟨2, c58, r58,.v⟩

def c59 : ACode := .seq (.region [Ob 2 (.box (.t 0) 2),Ob 3 (.box (.t 1) 1),Ob 4 (.mov (.c .nilf))])
 (.seq (.region [Ob 5 (.clo 80 [] [(.t 3), (.t 2)]),Ob 4 (.mov (.t 5))])
 (.ret))
def r59 : List Res := [.t 4]
def a59 : AFn := ⟨2, c59, r59,.v⟩

def c60 : ACode := .seq (.region [Ob 2 (.box (.t 0) 9),Ob 3 (.box (.t 1) 1),Ob 4 (.mov (.c (.bool false)))])
 (.seq (.region [Ob 5 (.load (.t 2) (some 9)),Ob 6 (.clo 81 [] [(.t 3)]),Ob 7 (.call 51 [(.t 5), (.t 6)]),Ob 8 (.not (.t 7)),Ob 4 (.mov (.t 8))])
 (.ret))
def r60 : List Res := [.t 4]
def a60 : AFn := ⟨2, c60, r60,.v⟩

def c61 : ACode := .seq (.region [Ob 4 (.box (.t 0) 9),Ob 8 (.mov (Ci 0))])
 (.seq (.region [Ob 9 (.mov (Ci 0))])
 (.seq (.seq (.region [Ob 10 (.mov (Ci 0))])
 (.block 0 (.loop (.seq (.seq (.region [Ob 11 (.mov (.t 10)),Ob 12 (.mov (.t 1)),Ob 13 (.len (.t 12)),Ob 14 (.bin .lss (.t 11) (.t 13))])
 (.cond (.t 14) (.skip)
 (.exit 0)))
 (.seq (.block 1 (.seq (.region [Ob 17 (.load (.t 4) (some 9)),Ob 18 (.mov (.t 1)),Ob 19 (.mov (.t 10)),Ob 20 (.idx (.t 18) (.t 19) 2),Ob 21 (.load (.t 20) (some 2)),Ob 22 (.mov (.t 2)),Ob 23 (.mov (.t 3)),Ob 24 (.call 36 [(.t 17), (.t 21), (.t 22), (.t 23)])])
 (.cond (.t 24) (.region [Ob 25 (.mov (.t 9)),Ob 26 (.bin .add (.t 25) (Ci 1)),Ob 9 (.mov (.t 26))])
 (.skip))))
 (.region [Ob 15 (.mov (.t 10)),Ob 16 (.bin .add (.t 15) (Ci 1)),Ob 10 (.mov (.t 16))]))))))
 (.seq (.region [Ob 27 (.mov (.t 9)),Ob 8 (.mov (.t 27))])
 (.ret))))
def r61 : List Res := [.t 8]
def a61 : AFn := ⟨4, c61, r61,.v⟩

def c62 : ACode := .seq (.region [Ob 2 (.box (.t 0) 9),Ob 3 (.box (.t 1) 1),Ob 4 (.mov (.c .nilf))])
 (.seq (.region [Ob 5 (.clo 82 [] [(.t 3), (.t 2)]),Ob 4 (.mov (.t 5))])
 (.ret))
def r62 : List Res := [.t 4]
def a62 : AFn := ⟨2, c62, r62,.v⟩

def c63 : ACode := .seq (.region [Ob 2 (.mov (.c (.bool false)))])
 (.seq (.region [Ob 3 (.mov (.t 0)),Ob 4 (.call 76 [(.t 3), (Ci 0), (Ci 40)]),Ob 2 (.mov (.t 4))])
 (.ret))
def r63 : List Res := [.t 2]
def a63 : AFn := ⟨1, c63, r63,.v⟩

def c64 : ACode := .seq (.region [Ob 2 (.mov (.c (.bool false)))])
 (.seq (.region [Ob 3 (.mov (.t 0)),Ob 4 (.len (.t 3)),Ob 5 (.bin .leq (.t 4) (Ci 30)),Ob 6 (.mov (.t 5)),Og 7 6 true (.mov (.t 0)),Og 8 6 true (.call 66 [(.t 7), (.c (.fn 63 [] []))]),Ob 9 (.pick (.t 6) (.t 8) (.c (.bool false))),Ob 2 (.mov (.t 9))])
 (.ret))
def r64 : List Res := [.t 2]
def a64 : AFn := ⟨1, c64, r64,.v⟩

def c65 : ACode := .seq (.region [Ob 4 (.box (.t 1) 9),Ob 6 (.mov (Ci 0))])
 (.seq (.region [Ob 10 (.mov (.t 0)),Ob 11 (.load (.t 4) (some 9)),Ob 12 (.mov (.t 2)),Ob 13 (.call 62 [(.t 11), (.t 12)]),Ob 14 (.call 45 [(.t 10), (.t 13)]),Ob 9 (.mov (.t 14)),Ob 15 (.ext (.t 9) 0),Ob 16 (.ext (.t 9) 1),Ob 7 (.new (.agg [(.int .i64 0), (.int .i64 0)]) 2),On (.store (.t 7) (.t 15) 2),Ob 8 (.mov (.t 16))])
 (.seq (.seq (.region [Ob 17 (.mov (.t 8)),Ob 18 (.not (.t 17))])
 (.cond (.t 18) (.seq (.region [Ob 6 (.mov (Ci (-1)))])
 (.ret))
 (.skip)))
 (.seq (.region [Ob 19 (.addr (.t 7) 0),Ob 20 (.load (.t 19) none),Ob 6 (.mov (.t 20))])
 (.ret))))
def r65 : List Res := [.t 6]
def a65 : AFn := ⟨3, c65, r65,.v⟩

def c66 : ACode := .seq (.region [Ob 3 (.box (.t 1) 1),Ob 4 (.mov (.c (.bool false)))])
 (.seq (.region [Ob 5 (.mov (.t 0)),Ob 6 (.clo 84 [] [(.t 3)]),Ob 7 (.call 83 [(.t 5), (.t 6)]),Ob 8 (.not (.t 7)),Ob 4 (.mov (.t 8))])
 (.ret))
def r66 : List Res := [.t 4]
def a66 : AFn := ⟨2, c66, r66,.v⟩

def c67 : ACode := .seq (.region [Ob 1 (.box (.t 0) 1),Ob 2 (.mov (.c .nilf))])
 (.seq (.region [Ob 3 (.clo 85 [] [(.t 1)]),Ob 2 (.mov (.t 3))])
 (.ret))
def r67 : List Res := [.t 2]
def a67 : AFn := ⟨1, c67, r67,.v⟩

def c68 : ACode := .seq (.region [Ob 8 (.mov (.c (.sl [] .tight)))])
 (.seq (.region [Ob 9 (.mov (.c (.sl [] .tight)))])
 (.seq (.seq (.region [Ob 12 (.mov (.t 0)),Ob 13 (.len (.t 12)),Ob 14 (.mov (Ci 0))])
 (.block 0 (.loop (.seq (.region [Ob 15 (.bin .lss (.t 14) (.t 13))])
 (.seq (.cond (.t 15) (.skip)
 (.exit 0))
 (.seq (.block 1 (.seq (.region [Ob 16 (.mov (.t 14)),Ob 17 (.idx (.t 12) (.t 14) 1),Ob 18 (.load (.t 17) none),Ob 10 (.mov (.t 16)),Ob 11 (.mov (.t 18))])
 (.seq (.seq (.region [Ob 19 (.mov (.t 1)),Ob 20 (.mov (.t 11)),Ob 21 (.bin .add (.t 19) (.t 20)),Ob 22 (.mov (.t 2)),Ob 23 (.bin .gtr (.t 21) (.t 22))])
 (.cond (.t 23) (.seq (.region [Ob 24 (.mov (.t 9)),Ob 25 (.mov (.t 10)),Ob 26 (.lit false 3 1 [(.t 25)]),Ob 27 (.app false (.t 24) (.t 26) 3 1 8),Ob 9 (.mov (.t 27))])
 (.region [Ob 28 (.mov (.t 3)),Ob 1 (.mov (Ci 0)),Ob 2 (.mov (.t 28))]))
 (.skip)))
 (.region [Ob 29 (.mov (.t 1)),Ob 30 (.mov (.t 11)),Ob 31 (.bin .add (.t 29) (.t 30)),Ob 1 (.mov (.t 31))]))))
 (.region [Ob 32 (.bin .add (.t 14) (Ci 1)),Ob 14 (.mov (.t 32))])))))))
 (.seq (.region [Ob 33 (.mov (.t 9)),Ob 8 (.mov (.t 33))])
 (.ret))))
def r68 : List Res := [.t 8]
def a68 : AFn := ⟨4, c68, r68,.v⟩

def c69 : ACode := .seq (.region [Ob 1 (.box (.t 0) 9),Ob 2 (.mov (.c (.sl [] .tight)))])
 (.seq (.region [Ob 3 (.load (.t 1) (some 9)),Ob 4 (.call 44 [(.t 3)]),Ob 2 (.mov (.t 4))])
 (.ret))
def r69 : List Res := [.t 2]
def a69 : AFn := ⟨1, c69, r69,.v⟩

def c70 : ACode := .seq (.region [Ob 3 (.box (.t 0) 1)])
 (.seq (.region [Ob 5 (.load (.t 1) (some 9)),Ob 6 (.call 46 [(.t 5)])])
 (.block 0 (.range (.t 6) [7] (.region [Ob 4 (.new (.agg [(.int .i64 0), (.int .i64 0)]) 2),On (.store (.t 4) (.t 7) 2)])
 (.block 1 (.seq (.region [Ob 8 (.load (.t 2) none),Ob 9 (.load (.t 4) (some 2)),Ob 10 (.callz (.t 8) [(.t 9)]),Ob 11 (.addr (.t 1) 8),Ob 12 (.load (.t 11) none),Ob 13 (.bin .leq (.t 10) (.t 12)),Ob 14 (.mov (.t 13)),Og 15 14 true (.load (.t 3) none),Og 16 14 true (.load (.t 4) (some 2)),Og 17 14 true (.callv (.t 15) [(.t 16)]),Og 18 14 true (.not (.t 17)),Ob 19 (.pick (.t 14) (.t 18) (.c (.bool false)))])
 (.cond (.t 19) (.ret)
 (.skip)))))))
def r70 : List Res := []
def a70 : AFn := ⟨3, c70, r70,.v⟩

def c71 : ACode := .seq (.region [Ob 5 (.addr (.t 1) 0),Ob 6 (.addr (.t 5) 0),Ob 7 (.load (.t 6) none),Ob 3 (.mov (.t 7))])
 (.block 0 (.loop (.seq (.seq (.region [Ob 8 (.mov (.t 3)),Ob 9 (.addr (.t 1) 0),Ob 10 (.addr (.t 9) 1),Ob 11 (.load (.t 10) none),Ob 12 (.bin .leq (.t 8) (.t 11))])
 (.cond (.t 12) (.skip)
 (.exit 0)))
 (.seq (.block 1 (.seq (.region [Ob 15 (.addr (.t 1) 2),Ob 16 (.addr (.t 15) 0),Ob 17 (.load (.t 16) none),Ob 4 (.mov (.t 17))])
 (.block 2 (.loop (.seq (.seq (.region [Ob 18 (.mov (.t 4)),Ob 19 (.addr (.t 1) 2),Ob 20 (.addr (.t 19) 1),Ob 21 (.load (.t 20) none),Ob 22 (.bin .leq (.t 18) (.t 21))])
 (.cond (.t 22) (.skip)
 (.exit 2)))
 (.seq (.block 3 (.seq (.region [Ob 25 (.mov (.t 0)),Ob 26 (.mov (.t 3)),Ob 27 (.mov (.t 4)),Ob 28 (.build [(.int .i64 0), (.int .i64 0)] [(0, 1, (.t 26)), (1, 1, (.t 27))]),Ob 29 (.callv (.t 25) [(.t 28)]),Ob 30 (.not (.t 29))])
 (.cond (.t 30) (.ret)
 (.skip))))
 (.region [Ob 23 (.mov (.t 4)),Ob 24 (.bin .add (.t 23) (Ci 1)),Ob 4 (.mov (.t 24))])))))))
 (.region [Ob 13 (.mov (.t 3)),Ob 14 (.bin .add (.t 13) (Ci 1)),Ob 3 (.mov (.t 14))])))))
def r71 : List Res := []
def a71 : AFn := ⟨2, c71, r71,.v⟩

def c72 : ACode := .seq (.region [Ob 2 (.box (.t 0) 2),Ob 3 (.mov (Ci 0))])
 (.seq (.region [Ob 4 (.mov (Ci 0))])
 (.seq (.seq (.region [Ob 7 (.load (.t 1) none),Ob 8 (.len (.t 7)),Ob 9 (.mov (Ci 0))])
 (.block 0 (.loop (.seq (.region [Ob 10 (.bin .lss (.t 9) (.t 8))])
 (.seq (.cond (.t 10) (.skip)
 (.exit 0))
 (.seq (.block 1 (.seq (.region [Ob 11 (.idx (.t 7) (.t 9) 3),Ob 12 (.load (.t 11) (some 3)),Ob 6 (.new (.agg [(.int .i64 0), (.int .i64 0), (.int .i64 0)]) 3),On (.store (.t 6) (.t 12) 3)])
 (.seq (.region [Ob 13 (.load (.t 6) (some 3)),Ob 14 (.call 52 [(.t 13)]),Ob 15 (.load (.t 2) (some 2)),Ob 16 (.callv (.t 14) [(.t 15)]),Ob 17 (.not (.t 16))])
 (.cond (.t 17) (.region [Ob 18 (.mov (.t 4)),Ob 19 (.bin .add (.t 18) (Ci 1)),Ob 4 (.mov (.t 19))])
 (.skip)))))
 (.region [Ob 20 (.bin .add (.t 9) (Ci 1)),Ob 9 (.mov (.t 20))])))))))
 (.seq (.region [Ob 21 (.mov (.t 4)),Ob 3 (.mov (.t 21))])
 (.ret))))
def r72 : List Res := [.t 3]
def a72 : AFn := ⟨2, c72, r72,.v⟩

def c73 : ACode := .seq (.region [Ob 3 (.box (.t 0) 2),Ob 6 (.mov (.c (.bool false)))])
 (.seq (.region [Ob 7 (.mov (.t 1)),Ob 8 (.addr (.t 3) 0),Ob 9 (.load (.t 8) none),Ob 10 (.bin .leq (.t 7) (.t 9)),Ob 11 (.mov (.t 10)),Og 12 11 true (.addr (.t 3) 0),Og 13 11 true (.load (.t 12) none),Og 14 11 true (.addr (.t 3) 1),Og 15 11 true (.load (.t 14) none),Og 16 11 true (.bin .leq (.t 13) (.t 15)),Ob 17 (.pick (.t 11) (.t 16) (.c (.bool false))),Ob 18 (.mov (.t 17)),Og 19 18 true (.addr (.t 3) 1),Og 20 18 true (.load (.t 19) none),Og 21 18 true (.mov (.t 2)),Og 22 18 true (.bin .leq (.t 20) (.t 21)),Ob 23 (.pick (.t 18) (.t 22) (.c (.bool false))),Ob 6 (.mov (.t 23))])
 (.ret))
def r73 : List Res := [.t 6]
def a73 : AFn := ⟨3, c73, r73,.v⟩

def c74 : ACode := .seq (.region [Ob 3 (.box (.t 1) 1),Ob 4 (.mov (.c (.bool false)))])
 (.seq (.region [Ob 5 (.mov (.t 0)),Ob 6 (.clo 87 [] [(.t 3)]),Ob 7 (.call 86 [(.t 5), (.t 6)]),Ob 8 (.not (.t 7)),Ob 4 (.mov (.t 8))])
 (.ret))
def r74 : List Res := [.t 4]
def a74 : AFn := ⟨2, c74, r74,.v⟩

def c75 : ACode := .seq (.region [Ob 1 (.box (.t 0) 3),Ob 2 (.mov (.c (.bool false)))])
 (.seq (.region [Ob 3 (.addr (.t 1) 0),Ob 4 (.load (.t 3) none),Ob 5 (.call 63 [(.t 4)]),Ob 6 (.mov (.t 5)),Og 7 6 true (.addr (.t 1) 1),Og 8 6 true (.load (.t 7) none),Og 9 6 true (.addr (.t 1) 2),Og 10 6 true (.load (.t 9) none),Og 11 6 true (.build [(.int .i64 0), (.int .i64 0)] [(0, 1, (.t 8)), (1, 1, (.t 10))]),Og 12 6 true (.call 73 [(.t 11), (Ci (-400)), (Ci 400)]),Ob 13 (.pick (.t 6) (.t 12) (.c (.bool false))),Ob 2 (.mov (.t 13))])
 (.ret))
def r75 : List Res := [.t 2]
def a75 : AFn := ⟨1, c75, r75,.v⟩

def c76 : ACode := .seq (.region [Ob 6 (.mov (.c (.bool false)))])
 (.seq (.region [Ob 7 (.mov (.t 1)),Ob 8 (.mov (.t 0)),Ob 9 (.bin .leq (.t 7) (.t 8)),Ob 10 (.mov (.t 9)),Og 11 10 true (.mov (.t 0)),Og 12 10 true (.mov (.t 2)),Og 13 10 true (.bin .leq (.t 11) (.t 12)),Ob 14 (.pick (.t 10) (.t 13) (.c (.bool false))),Ob 6 (.mov (.t 14))])
 (.ret))
def r76 : List Res := [.t 6]
def a76 : AFn := ⟨3, c76, r76,.v⟩

def c77 : ACode := .seq (.region [Ob 1 (.box (.t 0) 2),Ob 2 (.mov (.c (.bool false)))])
 (.seq (.region [Ob 2 (.mov (.c (.bool true)))])
 (.ret))
def r77 : List Res := [.t 2]
def a77 : AFn := ⟨1, c77, r77,.v⟩

def c78 : ACode := .seq (.region [Ob 2 (.box (.t 0) 2),Ob 3 (.mov (Ci 0))])
 (.seq (.region [Ob 4 (.load (.t 2) (some 2)),Ob 5 (.load (.t 1) none),Ob 6 (.call 79 [(.t 4), (.t 5)]),Ob 3 (.mov (.t 6))])
 (.ret))
def r78 : List Res := [.t 3]
def a78 : AFn := ⟨2, c78, r78,.v⟩

def c79 : ACode := .seq (.region [Ob 2 (.box (.t 0) 2),Ob 4 (.mov (Ci 0))])
 (.seq (.region [Ob 5 (.addr (.t 2) 0),Ob 6 (.load (.t 5) none),Ob 7 (.mov (.t 1)),Ob 8 (.addr (.t 2) 1),Ob 9 (.load (.t 8) none),Ob 10 (.bin .mul (.t 7) (.t 9)),Ob 11 (.bin .sub (.t 6) (.t 10)),Ob 4 (.mov (.t 11))])
 (.ret))
def r79 : List Res := [.t 4]
def a79 : AFn := ⟨2, c79, r79,.v⟩

def c80 : ACode := .seq (.region [Ob 3 (.box (.t 0) 2),Ob 4 (.mov (.c (.bool false)))])
 (.seq (.region [Ob 5 (.load (.t 3) (some 2)),Ob 6 (.load (.t 1) none),Ob 7 (.call 79 [(.t 5), (.t 6)]),Ob 8 (.addr (.t 2) 0),Ob 9 (.load (.t 8) none),Ob 10 (.addr (.t 2) 1),Ob 11 (.load (.t 10) none),Ob 12 (.call 76 [(.t 7), (.t 9), (.t 11)]),Ob 4 (.mov (.t 12))])
 (.ret))
def r80 : List Res := [.t 4]
def a80 : AFn := ⟨3, c80, r80,.v⟩

def c81 : ACode := .seq (.region [Ob 2 (.box (.t 0) 2),Ob 3 (.mov (.c (.bool false)))])
 (.seq (.region [Ob 4 (.load (.t 1) none),Ob 5 (.load (.t 2) (some 2)),Ob 6 (.callv (.t 4) [(.t 5)]),Ob 7 (.not (.t 6)),Ob 3 (.mov (.t 7))])
 (.ret))
def r81 : List Res := [.t 3]
def a81 : AFn := ⟨2, c81, r81,.v⟩

def c82 : ACode := .seq (.region [Ob 3 (.box (.t 0) 2),Ob 4 (.mov (Ci 0))])
 (.seq (.region [Ob 5 (.mov (Ci (-1)))])
 (.seq (.seq (.region [Ob 7 (.load (.t 1) none),Ob 6 (.mov (.t 7))])
 (.block 0 (.loop (.seq (.seq (.region [Ob 8 (.mov (.t 6)),Ob 9 (.addr (.t 2) 6),Ob 10 (.load (.t 9) none),Ob 11 (.bin .leq (.t 8) (.t 10)),Ob 12 (.mov (.t 11)),Og 13 12 true (.addr (.t 2) 4),Og 14 12 true (.load (.t 13) (some 2)),Og 15 12 true (.mov (.t 6)),Og 16 12 true (.call 59 [(.t 14), (.t 15)]),Og 17 12 true (.load (.t 3) (some 2)),Og 18 12 true (.callv (.t 16) [(.t 17)]),Ob 19 (.pick (.t 12) (.t 18) (.c (.bool false)))])
 (.cond (.t 19) (.skip)
 (.exit 0)))
 (.seq (.block 1 (.region [Ob 22 (.mov (.t 6)),Ob 5 (.mov (.t 22))]))
 (.region [Ob 20 (.mov (.t 6)),Ob 21 (.bin .add (.t 20) (Ci 1)),Ob 6 (.mov (.t 21))]))))))
 (.seq (.region [Ob 23 (.mov (.t 5)),Ob 4 (.mov (.t 23))])
 (.ret))))
def r82 : List Res := [.t 4]
def a82 : AFn := ⟨3, c82, r82,.v⟩

def c83 : ACode := .seq (.region [Ob 4 (.mov (.c (.bool false)))])
 (.seq (.region [Ob 5 (.mov (.t 0)),Ob 6 (.mov (.t 1)),Ob 7 (.call 88 [(.t 5), (.t 6)]),Ob 8 (.bin .geq (.t 7) (Ci 0)),Ob 4 (.mov (.t 8))])
 (.ret))
def r83 : List Res := [.t 4]
def a83 : AFn := ⟨2, c83, r83,.v⟩

def c84 : ACode := .seq (.region [Ob 3 (.mov (.c (.bool false)))])
 (.seq (.region [Ob 4 (.load (.t 1) none),Ob 5 (.mov (.t 0)),Ob 6 (.callv (.t 4) [(.t 5)]),Ob 7 (.not (.t 6)),Ob 3 (.mov (.t 7))])
 (.ret))
def r84 : List Res := [.t 3]
def a84 : AFn := ⟨2, c84, r84,.v⟩

def c85 : ACode := .seq (.region [Ob 3 (.mov (.c (.bool false)))])
 (.seq (.region [Ob 4 (.mov (.t 0)),Ob 5 (.load (.t 1) none),Ob 6 (.bin .leq (.t 4) (.t 5)),Ob 3 (.mov (.t 6))])
 (.ret))
def r85 : List Res := [.t 3]
def a85 : AFn := ⟨2, c85, r85,.v⟩

def c86 : ACode := .seq (.region [Ob 4 (.mov (.c (.bool false)))])
 (.seq (.region [Ob 5 (.mov (.t 0)),Ob 6 (.mov (.t 1)),Ob 7 (.call 89 [(.t 5), (.t 6)]),Ob 8 (.bin .geq (.t 7) (Ci 0)),Ob 4 (.mov (.t 8))])
 (.ret))
def r86 : List Res := [.t 4]
def a86 : AFn := ⟨2, c86, r86,.v⟩

def c87 : ACode := .seq (.region [Ob 2 (.box (.t 0) 3),Ob 3 (.mov (.c (.bool false)))])
 (.seq (.region [Ob 4 (.load (.t 1) none),Ob 5 (.load (.t 2) (some 3)),Ob 6 (.callv (.t 4) [(.t 5)]),Ob 7 (.not (.t 6)),Ob 3 (.mov (.t 7))])
 (.ret))
def r87 : List Res := [.t 3]
def a87 : AFn := ⟨2, c87, r87,.v⟩

def c88 : ACode := .seq (.region [Ob 4 (.mov (Ci 0))])
 (.seq (.seq (.region [Ob 6 (.mov (.t 0)),Ob 7 (.len (.t 6)),Ob 8 (.mov (Ci 0))])
 (.block 0 (.loop (.seq (.region [Ob 9 (.bin .lss (.t 8) (.t 7))])
 (.seq (.cond (.t 9) (.skip)
 (.exit 0))
 (.seq (.block 1 (.seq (.region [Ob 10 (.mov (.t 8)),Ob 5 (.mov (.t 10))])
 (.seq (.region [Ob 11 (.mov (.t 1)),Ob 12 (.mov (.t 0)),Ob 13 (.mov (.t 5)),Ob 14 (.idx (.t 12) (.t 13) 1),Ob 15 (.load (.t 14) none),Ob 16 (.callv (.t 11) [(.t 15)])])
 (.cond (.t 16) (.seq (.region [Ob 17 (.mov (.t 5)),Ob 4 (.mov (.t 17))])
 (.ret))
 (.skip)))))
 (.region [Ob 18 (.bin .add (.t 8) (Ci 1)),Ob 8 (.mov (.t 18))])))))))
 (.seq (.region [Ob 4 (.mov (Ci (-1)))])
 (.ret)))
def r88 : List Res := [.t 4]
def a88 : AFn := ⟨2, c88, r88,.v⟩

def c89 : ACode := .seq (.region [Ob 4 (.mov (Ci 0))])
 (.seq (.seq (.region [Ob 6 (.mov (.t 0)),Ob 7 (.len (.t 6)),Ob 8 (.mov (Ci 0))])
 (.block 0 (.loop (.seq (.region [Ob 9 (.bin .lss (.t 8) (.t 7))])
 (.seq (.cond (.t 9) (.skip)
 (.exit 0))
 (.seq (.block 1 (.seq (.region [Ob 10 (.mov (.t 8)),Ob 5 (.mov (.t 10))])
 (.seq (.region [Ob 11 (.mov (.t 1)),Ob 12 (.mov (.t 0)),Ob 13 (.mov (.t 5)),Ob 14 (.idx (.t 12) (.t 13) 3),Ob 15 (.load (.t 14) (some 3)),Ob 16 (.callv (.t 11) [(.t 15)])])
 (.cond (.t 16) (.seq (.region [Ob 17 (.mov (.t 5)),Ob 4 (.mov (.t 17))])
 (.ret))
 (.skip)))))
 (.region [Ob 18 (.bin .add (.t 8) (Ci 1)),Ob 8 (.mov (.t 18))])))))))
 (.seq (.region [Ob 4 (.mov (Ci (-1)))])
 (.ret)))
def r89 : List Res := [.t 4]
def a89 : AFn := ⟨2, c89, r89,.v⟩


def ft : FuncId → Option AFn
  | 3 => some a3
  | 4 => some a4
  | 5 => some a5
  | 6 => some a6
  | 7 => some a7
  | 8 => some a8
  | 9 => some a9
  | 10 => some a10
  | 11 => some a11
  | 12 => some a12
  | 13 => some a13
  | 14 => some a14
  | 15 => some a15
  | 16 => some a16
  | 17 => some a17
  | 18 => some a18
  | 19 => some a19
  | 20 => some a20
  | 21 => some a21
  | 22 => some a22
  | 23 => some a23
  | 24 => some a24
  | 25 => some a25
  | 26 => some a26
  | 27 => some a27
  | 28 => some a28
  | 29 => some a29
  | 30 => some a30
  | 31 => some a31
  | 32 => some a32
  | 33 => some a33
  | 34 => some a34
  | 35 => some a35
  | 36 => some a36
  | 37 => some a37
  | 38 => some a38
  | 39 => some a39
  | 40 => some a40
  | 41 => some a41
  | 42 => some a42
  | 43 => some a43
  | 44 => some a44
  | 45 => some a45
  | 46 => some a46
  | 47 => some a47
  | 48 => some a48
  | 49 => some a49
  | 50 => some a50
  | 51 => some a51
  | 52 => some a52
  | 53 => some a53
  | 54 => some a54
  | 55 => some a55
  | 56 => some a56
  | 57 => some a57
  | 58 => some a58
  | 59 => some a59
  | 60 => some a60
  | 61 => some a61
  | 62 => some a62
  | 63 => some a63
  | 64 => some a64
  | 65 => some a65
  | 66 => some a66
  | 67 => some a67
  | 68 => some a68
  | 69 => some a69
  | 70 => some a70
  | 71 => some a71
  | 72 => some a72
  | 73 => some a73
  | 74 => some a74
  | 75 => some a75
  | 76 => some a76
  | 77 => some a77
  | 78 => some a78
  | 79 => some a79
  | 80 => some a80
  | 81 => some a81
  | 82 => some a82
  | 83 => some a83
  | 84 => some a84
  | 85 => some a85
  | 86 => some a86
  | 87 => some a87
  | 88 => some a88
  | 89 => some a89
  | _ => none
theorem ft3 : ft 3 = some a3 := rfl
theorem ft4 : ft 4 = some a4 := rfl
theorem ft5 : ft 5 = some a5 := rfl
theorem ft6 : ft 6 = some a6 := rfl
theorem ft7 : ft 7 = some a7 := rfl
theorem ft8 : ft 8 = some a8 := rfl
theorem ft9 : ft 9 = some a9 := rfl
theorem ft10 : ft 10 = some a10 := rfl
theorem ft11 : ft 11 = some a11 := rfl
theorem ft12 : ft 12 = some a12 := rfl
theorem ft13 : ft 13 = some a13 := rfl
theorem ft14 : ft 14 = some a14 := rfl
theorem ft15 : ft 15 = some a15 := rfl
theorem ft16 : ft 16 = some a16 := rfl
theorem ft17 : ft 17 = some a17 := rfl
theorem ft18 : ft 18 = some a18 := rfl
theorem ft19 : ft 19 = some a19 := rfl
theorem ft20 : ft 20 = some a20 := rfl
theorem ft21 : ft 21 = some a21 := rfl
theorem ft22 : ft 22 = some a22 := rfl
theorem ft23 : ft 23 = some a23 := rfl
theorem ft24 : ft 24 = some a24 := rfl
theorem ft25 : ft 25 = some a25 := rfl
theorem ft26 : ft 26 = some a26 := rfl
theorem ft27 : ft 27 = some a27 := rfl
theorem ft28 : ft 28 = some a28 := rfl
theorem ft29 : ft 29 = some a29 := rfl
theorem ft30 : ft 30 = some a30 := rfl
theorem ft31 : ft 31 = some a31 := rfl
theorem ft32 : ft 32 = some a32 := rfl
theorem ft33 : ft 33 = some a33 := rfl
theorem ft34 : ft 34 = some a34 := rfl
theorem ft35 : ft 35 = some a35 := rfl
theorem ft36 : ft 36 = some a36 := rfl
theorem ft37 : ft 37 = some a37 := rfl
theorem ft38 : ft 38 = some a38 := rfl
theorem ft39 : ft 39 = some a39 := rfl
theorem ft40 : ft 40 = some a40 := rfl
theorem ft41 : ft 41 = some a41 := rfl
theorem ft42 : ft 42 = some a42 := rfl
theorem ft43 : ft 43 = some a43 := rfl
theorem ft44 : ft 44 = some a44 := rfl
theorem ft45 : ft 45 = some a45 := rfl
theorem ft46 : ft 46 = some a46 := rfl
theorem ft47 : ft 47 = some a47 := rfl
theorem ft48 : ft 48 = some a48 := rfl
theorem ft49 : ft 49 = some a49 := rfl
theorem ft50 : ft 50 = some a50 := rfl
theorem ft51 : ft 51 = some a51 := rfl
theorem ft52 : ft 52 = some a52 := rfl
theorem ft53 : ft 53 = some a53 := rfl
theorem ft54 : ft 54 = some a54 := rfl
theorem ft55 : ft 55 = some a55 := rfl
theorem ft56 : ft 56 = some a56 := rfl
theorem ft57 : ft 57 = some a57 := rfl
theorem ft58 : ft 58 = some a58 := rfl
theorem ft59 : ft 59 = some a59 := rfl
theorem ft60 : ft 60 = some a60 := rfl
theorem ft61 : ft 61 = some a61 := rfl
theorem ft62 : ft 62 = some a62 := rfl
theorem ft63 : ft 63 = some a63 := rfl
theorem ft64 : ft 64 = some a64 := rfl
theorem ft65 : ft 65 = some a65 := rfl
theorem ft66 : ft 66 = some a66 := rfl
theorem ft67 : ft 67 = some a67 := rfl
theorem ft68 : ft 68 = some a68 := rfl
theorem ft69 : ft 69 = some a69 := rfl
theorem ft70 : ft 70 = some a70 := rfl
theorem ft71 : ft 71 = some a71 := rfl
theorem ft72 : ft 72 = some a72 := rfl
theorem ft73 : ft 73 = some a73 := rfl
theorem ft74 : ft 74 = some a74 := rfl
theorem ft75 : ft 75 = some a75 := rfl
theorem ft76 : ft 76 = some a76 := rfl
theorem ft77 : ft 77 = some a77 := rfl
theorem ft78 : ft 78 = some a78 := rfl
theorem ft79 : ft 79 = some a79 := rfl
theorem ft80 : ft 80 = some a80 := rfl
theorem ft81 : ft 81 = some a81 := rfl
theorem ft82 : ft 82 = some a82 := rfl
theorem ft83 : ft 83 = some a83 := rfl
theorem ft84 : ft 84 = some a84 := rfl
theorem ft85 : ft 85 = some a85 := rfl
theorem ft86 : ft 86 = some a86 := rfl
theorem ft87 : ft 87 = some a87 := rfl
theorem ft88 : ft 88 = some a88 := rfl
theorem ft89 : ft 89 = some a89 := rfl
end Go.Ab.T
end

section
namespace Go.Ab.T
theorem WB3 (s : St) (as : List AV) (K : AV → St → Prop) : WB ft 3 as s K = WV ft 3 (as.map (snap s.mem dep)) fun v => (as.all (fun a => !hot dep a) || plain dep v) = true ∧ K v s := WB_v ft3 rfl as s K
theorem WB4 (s : St) (as : List AV) (K : AV → St → Prop) : WB ft 4 as s K = WV ft 4 (as.map (snap s.mem dep)) fun v => (as.all (fun a => !hot dep a) || plain dep v) = true ∧ K v s := WB_v ft4 rfl as s K
theorem WB5 (s : St) (as : List AV) (K : AV → St → Prop) : WB ft 5 as s K = WV ft 5 (as.map (snap s.mem dep)) fun v => (as.all (fun a => !hot dep a) || plain dep v) = true ∧ K v s := WB_v ft5 rfl as s K
theorem WB6 (s : St) (as : List AV) (K : AV → St → Prop) : WB ft 6 as s K = WV ft 6 (as.map (snap s.mem dep)) fun v => (as.all (fun a => !hot dep a) || plain dep v) = true ∧ K v s := WB_v ft6 rfl as s K
theorem WB7 (s : St) (as : List AV) (K : AV → St → Prop) : WB ft 7 as s K = WV ft 7 (as.map (snap s.mem dep)) fun v => (as.all (fun a => !hot dep a) || plain dep v) = true ∧ K v s := WB_v ft7 rfl as s K
theorem WB8 (s : St) (as : List AV) (K : AV → St → Prop) : WB ft 8 as s K = WV ft 8 (as.map (snap s.mem dep)) fun v => (as.all (fun a => !hot dep a) || plain dep v) = true ∧ K v s := WB_v ft8 rfl as s K
theorem WB9 (s : St) (as : List AV) (K : AV → St → Prop) : WB ft 9 as s K = WV ft 9 (as.map (snap s.mem dep)) fun v => (as.all (fun a => !hot dep a) || plain dep v) = true ∧ K v s := WB_v ft9 rfl as s K
theorem WB10 (s : St) (as : List AV) (K : AV → St → Prop) : WB ft 10 as s K = WV ft 10 (as.map (snap s.mem dep)) fun v => (as.all (fun a => !hot dep a) || plain dep v) = true ∧ K v s := WB_v ft10 rfl as s K
theorem WB11 (s : St) (as : List AV) (K : AV → St → Prop) : WB ft 11 as s K = WV ft 11 (as.map (snap s.mem dep)) fun v => (as.all (fun a => !hot dep a) || plain dep v) = true ∧ K v s := WB_v ft11 rfl as s K
theorem WB12 (s : St) (as : List AV) (K : AV → St → Prop) : WB ft 12 as s K = WV ft 12 (as.map (snap s.mem dep)) fun v => (as.all (fun a => !hot dep a) || plain dep v) = true ∧ K v s := WB_v ft12 rfl as s K
theorem WB13 (s : St) (as : List AV) (K : AV → St → Prop) : WB ft 13 as s K = WV ft 13 (as.map (snap s.mem dep)) fun v => (as.all (fun a => !hot dep a) || plain dep v) = true ∧ K v s := WB_v ft13 rfl as s K
theorem WB14 (s : St) (as : List AV) (K : AV → St → Prop) : WB ft 14 as s K = WR ft (.f 14) (as.map (snap s.mem dep)) .nil fun v m => (as.all (fun a => !hot dep a) || (ownly dep v && m.blks.all Blk.ownly)) = true ∧
      K (shift s.mem.blks.length s.mem.toks.length dep v) (s.setMem (joinMem s.mem m dep)) := WB_o ft14 rfl as s K
theorem WB15 (s : St) (as : List AV) (K : AV → St → Prop) : WB ft 15 as s K = WV ft 15 (as.map (snap s.mem dep)) fun v => (as.all (fun a => !hot dep a) || plain dep v) = true ∧ K v s := WB_v ft15 rfl as s K
theorem WB16 (s : St) (as : List AV) (K : AV → St → Prop) : WB ft 16 as s K = WV ft 16 (as.map (snap s.mem dep)) fun v => (as.all (fun a => !hot dep a) || plain dep v) = true ∧ K v s := WB_v ft16 rfl as s K
theorem WB17 (s : St) (as : List AV) (K : AV → St → Prop) : WB ft 17 as s K = WV ft 17 (as.map (snap s.mem dep)) fun v => (as.all (fun a => !hot dep a) || plain dep v) = true ∧ K v s := WB_v ft17 rfl as s K
theorem WB18 (s : St) (as : List AV) (K : AV → St → Prop) : WB ft 18 as s K = WV ft 18 (as.map (snap s.mem dep)) fun v => (as.all (fun a => !hot dep a) || plain dep v) = true ∧ K v s := WB_v ft18 rfl as s K
theorem WB19 (s : St) (as : List AV) (K : AV → St → Prop) : WB ft 19 as s K = WV ft 19 (as.map (snap s.mem dep)) fun v => (as.all (fun a => !hot dep a) || plain dep v) = true ∧ K v s := WB_v ft19 rfl as s K
theorem WB20 (s : St) (as : List AV) (K : AV → St → Prop) : WB ft 20 as s K = WV ft 20 (as.map (snap s.mem dep)) fun v => (as.all (fun a => !hot dep a) || plain dep v) = true ∧ K v s := WB_v ft20 rfl as s K
theorem WB21 (s : St) (as : List AV) (K : AV → St → Prop) : WB ft 21 as s K = WV ft 21 (as.map (snap s.mem dep)) fun v => (as.all (fun a => !hot dep a) || plain dep v) = true ∧ K v s := WB_v ft21 rfl as s K
theorem WB22 (s : St) (as : List AV) (K : AV → St → Prop) : WB ft 22 as s K = WV ft 22 (as.map (snap s.mem dep)) fun v => (as.all (fun a => !hot dep a) || plain dep v) = true ∧ K v s := WB_v ft22 rfl as s K
theorem WB23 (s : St) (as : List AV) (K : AV → St → Prop) : WB ft 23 as s K = WV ft 23 (as.map (snap s.mem dep)) fun v => (as.all (fun a => !hot dep a) || plain dep v) = true ∧ K v s := WB_v ft23 rfl as s K
theorem WB24 (s : St) (as : List AV) (K : AV → St → Prop) : WB ft 24 as s K = WV ft 24 (as.map (snap s.mem dep)) fun v => (as.all (fun a => !hot dep a) || plain dep v) = true ∧ K v s := WB_v ft24 rfl as s K
theorem WB25 (s : St) (as : List AV) (K : AV → St → Prop) : WB ft 25 as s K = WV ft 25 (as.map (snap s.mem dep)) fun v => (as.all (fun a => !hot dep a) || plain dep v) = true ∧ K v s := WB_v ft25 rfl as s K
theorem WB26 (s : St) (as : List AV) (K : AV → St → Prop) : WB ft 26 as s K = WV ft 26 (as.map (snap s.mem dep)) fun v => (as.all (fun a => !hot dep a) || plain dep v) = true ∧ K v s := WB_v ft26 rfl as s K
theorem WB27 (s : St) (as : List AV) (K : AV → St → Prop) : WB ft 27 as s K = WV ft 27 (as.map (snap s.mem dep)) fun v => (as.all (fun a => !hot dep a) || plain dep v) = true ∧ K v s := WB_v ft27 rfl as s K
theorem WB28 (s : St) (as : List AV) (K : AV → St → Prop) : WB ft 28 as s K = WV ft 28 (as.map (snap s.mem dep)) fun v => (as.all (fun a => !hot dep a) || plain dep v) = true ∧ K v s := WB_v ft28 rfl as s K
theorem WB29 (s : St) (as : List AV) (K : AV → St → Prop) : WB ft 29 as s K = WV ft 29 (as.map (snap s.mem dep)) fun v => (as.all (fun a => !hot dep a) || plain dep v) = true ∧ K v s := WB_v ft29 rfl as s K
theorem WB30 (s : St) (as : List AV) (K : AV → St → Prop) : WB ft 30 as s K = WV ft 30 (as.map (snap s.mem dep)) fun v => (as.all (fun a => !hot dep a) || plain dep v) = true ∧ K v s := WB_v ft30 rfl as s K
theorem WB31 (s : St) (as : List AV) (K : AV → St → Prop) : WB ft 31 as s K = WV ft 31 (as.map (snap s.mem dep)) fun v => (as.all (fun a => !hot dep a) || plain dep v) = true ∧ K v s := WB_v ft31 rfl as s K
theorem WB32 (s : St) (as : List AV) (K : AV → St → Prop) : WB ft 32 as s K = WV ft 32 (as.map (snap s.mem dep)) fun v => (as.all (fun a => !hot dep a) || plain dep v) = true ∧ K v s := WB_v ft32 rfl as s K
theorem WB33 (s : St) (as : List AV) (K : AV → St → Prop) : WB ft 33 as s K = WV ft 33 (as.map (snap s.mem dep)) fun v => (as.all (fun a => !hot dep a) || plain dep v) = true ∧ K v s := WB_v ft33 rfl as s K
theorem WB34 (s : St) (as : List AV) (K : AV → St → Prop) : WB ft 34 as s K = WV ft 34 (as.map (snap s.mem dep)) fun v => (as.all (fun a => !hot dep a) || plain dep v) = true ∧ K v s := WB_v ft34 rfl as s K
theorem WB35 (s : St) (as : List AV) (K : AV → St → Prop) : WB ft 35 as s K = WV ft 35 (as.map (snap s.mem dep)) fun v => (as.all (fun a => !hot dep a) || plain dep v) = true ∧ K v s := WB_v ft35 rfl as s K
theorem WB36 (s : St) (as : List AV) (K : AV → St → Prop) : WB ft 36 as s K = WV ft 36 (as.map (snap s.mem dep)) fun v => (as.all (fun a => !hot dep a) || plain dep v) = true ∧ K v s := WB_v ft36 rfl as s K
theorem WB37 (s : St) (as : List AV) (K : AV → St → Prop) : WB ft 37 as s K = WV ft 37 (as.map (snap s.mem dep)) fun v => (as.all (fun a => !hot dep a) || plain dep v) = true ∧ K v s := WB_v ft37 rfl as s K
theorem WB38 (s : St) (as : List AV) (K : AV → St → Prop) : WB ft 38 as s K = WV ft 38 (as.map (snap s.mem dep)) fun v => (as.all (fun a => !hot dep a) || plain dep v) = true ∧ K v s := WB_v ft38 rfl as s K
theorem WB39 (s : St) (as : List AV) (K : AV → St → Prop) : WB ft 39 as s K = WV ft 39 (as.map (snap s.mem dep)) fun v => (as.all (fun a => !hot dep a) || plain dep v) = true ∧ K v s := WB_v ft39 rfl as s K
theorem WB40 (s : St) (as : List AV) (K : AV → St → Prop) : WB ft 40 as s K = WV ft 40 (as.map (snap s.mem dep)) fun v => (as.all (fun a => !hot dep a) || plain dep v) = true ∧ K v s := WB_v ft40 rfl as s K
theorem WB41 (s : St) (as : List AV) (K : AV → St → Prop) : WB ft 41 as s K = WV ft 41 (as.map (snap s.mem dep)) fun v => (as.all (fun a => !hot dep a) || plain dep v) = true ∧ K v s := WB_v ft41 rfl as s K
theorem WB42 (s : St) (as : List AV) (K : AV → St → Prop) : WB ft 42 as s K = WV ft 42 (as.map (snap s.mem dep)) fun v => (as.all (fun a => !hot dep a) || plain dep v) = true ∧ K v s := WB_v ft42 rfl as s K
theorem WB43 (s : St) (as : List AV) (K : AV → St → Prop) : WB ft 43 as s K = WV ft 43 (as.map (snap s.mem dep)) fun v => (as.all (fun a => !hot dep a) || plain dep v) = true ∧ K v s := WB_v ft43 rfl as s K
theorem WB44 (s : St) (as : List AV) (K : AV → St → Prop) : WB ft 44 as s K = WV ft 44 (as.map (snap s.mem dep)) fun v => (as.all (fun a => !hot dep a) || plain dep v) = true ∧ K v s := WB_v ft44 rfl as s K
theorem WB45 (s : St) (as : List AV) (K : AV → St → Prop) : WB ft 45 as s K = WV ft 45 (as.map (snap s.mem dep)) fun v => (as.all (fun a => !hot dep a) || plain dep v) = true ∧ K v s := WB_v ft45 rfl as s K
theorem WB46 (s : St) (as : List AV) (K : AV → St → Prop) : WB ft 46 as s K = WV ft 46 (as.map (snap s.mem dep)) fun v => (as.all (fun a => !hot dep a) || plain dep v) = true ∧ K v s := WB_v ft46 rfl as s K
theorem WB47 (s : St) (as : List AV) (K : AV → St → Prop) : WB ft 47 as s K = WV ft 47 (as.map (snap s.mem dep)) fun v => (as.all (fun a => !hot dep a) || plain dep v) = true ∧ K v s := WB_v ft47 rfl as s K
theorem WB48 (s : St) (as : List AV) (K : AV → St → Prop) : WB ft 48 as s K = WV ft 48 (as.map (snap s.mem dep)) fun v => (as.all (fun a => !hot dep a) || plain dep v) = true ∧ K v s := WB_v ft48 rfl as s K
theorem WB49 (s : St) (as : List AV) (K : AV → St → Prop) : WB ft 49 as s K = WV ft 49 (as.map (snap s.mem dep)) fun v => (as.all (fun a => !hot dep a) || plain dep v) = true ∧ K v s := WB_v ft49 rfl as s K
theorem WB50 (s : St) (as : List AV) (K : AV → St → Prop) : WB ft 50 as s K = WV ft 50 (as.map (snap s.mem dep)) fun v => (as.all (fun a => !hot dep a) || plain dep v) = true ∧ K v s := WB_v ft50 rfl as s K
theorem WB51 (s : St) (as : List AV) (K : AV → St → Prop) : WB ft 51 as s K = WV ft 51 (as.map (snap s.mem dep)) fun v => (as.all (fun a => !hot dep a) || plain dep v) = true ∧ K v s := WB_v ft51 rfl as s K
theorem WB52 (s : St) (as : List AV) (K : AV → St → Prop) : WB ft 52 as s K = WV ft 52 (as.map (snap s.mem dep)) fun v => (as.all (fun a => !hot dep a) || plain dep v) = true ∧ K v s := WB_v ft52 rfl as s K
theorem WB53 (s : St) (as : List AV) (K : AV → St → Prop) : WB ft 53 as s K = WV ft 53 (as.map (snap s.mem dep)) fun v => (as.all (fun a => !hot dep a) || plain dep v) = true ∧ K v s := WB_v ft53 rfl as s K
theorem WB54 (s : St) (as : List AV) (K : AV → St → Prop) : WB ft 54 as s K = WV ft 54 (as.map (snap s.mem dep)) fun v => (as.all (fun a => !hot dep a) || plain dep v) = true ∧ K v s := WB_v ft54 rfl as s K
theorem WB55 (s : St) (as : List AV) (K : AV → St → Prop) : WB ft 55 as s K = WV ft 55 (as.map (snap s.mem dep)) fun v => (as.all (fun a => !hot dep a) || plain dep v) = true ∧ K v s := WB_v ft55 rfl as s K
theorem WB56 (s : St) (as : List AV) (K : AV → St → Prop) : WB ft 56 as s K = WV ft 56 (as.map (snap s.mem dep)) fun v => (as.all (fun a => !hot dep a) || plain dep v) = true ∧ K v s := WB_v ft56 rfl as s K
theorem WB57 (s : St) (as : List AV) (K : AV → St → Prop) : WB ft 57 as s K = WV ft 57 (as.map (snap s.mem dep)) fun v => (as.all (fun a => !hot dep a) || plain dep v) = true ∧ K v s := WB_v ft57 rfl as s K
theorem WB58 (s : St) (as : List AV) (K : AV → St → Prop) : WB ft 58 as s K = WV ft 58 (as.map (snap s.mem dep)) fun v => (as.all (fun a => !hot dep a) || plain dep v) = true ∧ K v s := WB_v ft58 rfl as s K
theorem WB59 (s : St) (as : List AV) (K : AV → St → Prop) : WB ft 59 as s K = WV ft 59 (as.map (snap s.mem dep)) fun v => (as.all (fun a => !hot dep a) || plain dep v) = true ∧ K v s := WB_v ft59 rfl as s K
theorem WB60 (s : St) (as : List AV) (K : AV → St → Prop) : WB ft 60 as s K = WV ft 60 (as.map (snap s.mem dep)) fun v => (as.all (fun a => !hot dep a) || plain dep v) = true ∧ K v s := WB_v ft60 rfl as s K
theorem WB61 (s : St) (as : List AV) (K : AV → St → Prop) : WB ft 61 as s K = WV ft 61 (as.map (snap s.mem dep)) fun v => (as.all (fun a => !hot dep a) || plain dep v) = true ∧ K v s := WB_v ft61 rfl as s K
theorem WB62 (s : St) (as : List AV) (K : AV → St → Prop) : WB ft 62 as s K = WV ft 62 (as.map (snap s.mem dep)) fun v => (as.all (fun a => !hot dep a) || plain dep v) = true ∧ K v s := WB_v ft62 rfl as s K
theorem WB63 (s : St) (as : List AV) (K : AV → St → Prop) : WB ft 63 as s K = WV ft 63 (as.map (snap s.mem dep)) fun v => (as.all (fun a => !hot dep a) || plain dep v) = true ∧ K v s := WB_v ft63 rfl as s K
theorem WB64 (s : St) (as : List AV) (K : AV → St → Prop) : WB ft 64 as s K = WV ft 64 (as.map (snap s.mem dep)) fun v => (as.all (fun a => !hot dep a) || plain dep v) = true ∧ K v s := WB_v ft64 rfl as s K
theorem WB65 (s : St) (as : List AV) (K : AV → St → Prop) : WB ft 65 as s K = WV ft 65 (as.map (snap s.mem dep)) fun v => (as.all (fun a => !hot dep a) || plain dep v) = true ∧ K v s := WB_v ft65 rfl as s K
theorem WB66 (s : St) (as : List AV) (K : AV → St → Prop) : WB ft 66 as s K = WV ft 66 (as.map (snap s.mem dep)) fun v => (as.all (fun a => !hot dep a) || plain dep v) = true ∧ K v s := WB_v ft66 rfl as s K
theorem WB67 (s : St) (as : List AV) (K : AV → St → Prop) : WB ft 67 as s K = WV ft 67 (as.map (snap s.mem dep)) fun v => (as.all (fun a => !hot dep a) || plain dep v) = true ∧ K v s := WB_v ft67 rfl as s K
theorem WB68 (s : St) (as : List AV) (K : AV → St → Prop) : WB ft 68 as s K = WV ft 68 (as.map (snap s.mem dep)) fun v => (as.all (fun a => !hot dep a) || plain dep v) = true ∧ K v s := WB_v ft68 rfl as s K
theorem WB69 (s : St) (as : List AV) (K : AV → St → Prop) : WB ft 69 as s K = WV ft 69 (as.map (snap s.mem dep)) fun v => (as.all (fun a => !hot dep a) || plain dep v) = true ∧ K v s := WB_v ft69 rfl as s K
theorem WB70 (s : St) (as : List AV) (K : AV → St → Prop) : WB ft 70 as s K = WV ft 70 (as.map (snap s.mem dep)) fun v => (as.all (fun a => !hot dep a) || plain dep v) = true ∧ K v s := WB_v ft70 rfl as s K
theorem WB71 (s : St) (as : List AV) (K : AV → St → Prop) : WB ft 71 as s K = WV ft 71 (as.map (snap s.mem dep)) fun v => (as.all (fun a => !hot dep a) || plain dep v) = true ∧ K v s := WB_v ft71 rfl as s K
theorem WB72 (s : St) (as : List AV) (K : AV → St → Prop) : WB ft 72 as s K = WV ft 72 (as.map (snap s.mem dep)) fun v => (as.all (fun a => !hot dep a) || plain dep v) = true ∧ K v s := WB_v ft72 rfl as s K
theorem WB73 (s : St) (as : List AV) (K : AV → St → Prop) : WB ft 73 as s K = WV ft 73 (as.map (snap s.mem dep)) fun v => (as.all (fun a => !hot dep a) || plain dep v) = true ∧ K v s := WB_v ft73 rfl as s K
theorem WB74 (s : St) (as : List AV) (K : AV → St → Prop) : WB ft 74 as s K = WV ft 74 (as.map (snap s.mem dep)) fun v => (as.all (fun a => !hot dep a) || plain dep v) = true ∧ K v s := WB_v ft74 rfl as s K
theorem WB75 (s : St) (as : List AV) (K : AV → St → Prop) : WB ft 75 as s K = WV ft 75 (as.map (snap s.mem dep)) fun v => (as.all (fun a => !hot dep a) || plain dep v) = true ∧ K v s := WB_v ft75 rfl as s K
theorem WB76 (s : St) (as : List AV) (K : AV → St → Prop) : WB ft 76 as s K = WV ft 76 (as.map (snap s.mem dep)) fun v => (as.all (fun a => !hot dep a) || plain dep v) = true ∧ K v s := WB_v ft76 rfl as s K
theorem WB77 (s : St) (as : List AV) (K : AV → St → Prop) : WB ft 77 as s K = WV ft 77 (as.map (snap s.mem dep)) fun v => (as.all (fun a => !hot dep a) || plain dep v) = true ∧ K v s := WB_v ft77 rfl as s K
theorem WB78 (s : St) (as : List AV) (K : AV → St → Prop) : WB ft 78 as s K = WV ft 78 (as.map (snap s.mem dep)) fun v => (as.all (fun a => !hot dep a) || plain dep v) = true ∧ K v s := WB_v ft78 rfl as s K
theorem WB79 (s : St) (as : List AV) (K : AV → St → Prop) : WB ft 79 as s K = WV ft 79 (as.map (snap s.mem dep)) fun v => (as.all (fun a => !hot dep a) || plain dep v) = true ∧ K v s := WB_v ft79 rfl as s K
theorem WB80 (s : St) (as : List AV) (K : AV → St → Prop) : WB ft 80 as s K = WV ft 80 (as.map (snap s.mem dep)) fun v => (as.all (fun a => !hot dep a) || plain dep v) = true ∧ K v s := WB_v ft80 rfl as s K
theorem WB81 (s : St) (as : List AV) (K : AV → St → Prop) : WB ft 81 as s K = WV ft 81 (as.map (snap s.mem dep)) fun v => (as.all (fun a => !hot dep a) || plain dep v) = true ∧ K v s := WB_v ft81 rfl as s K
theorem WB82 (s : St) (as : List AV) (K : AV → St → Prop) : WB ft 82 as s K = WV ft 82 (as.map (snap s.mem dep)) fun v => (as.all (fun a => !hot dep a) || plain dep v) = true ∧ K v s := WB_v ft82 rfl as s K
theorem WB83 (s : St) (as : List AV) (K : AV → St → Prop) : WB ft 83 as s K = WV ft 83 (as.map (snap s.mem dep)) fun v => (as.all (fun a => !hot dep a) || plain dep v) = true ∧ K v s := WB_v ft83 rfl as s K
theorem WB84 (s : St) (as : List AV) (K : AV → St → Prop) : WB ft 84 as s K = WV ft 84 (as.map (snap s.mem dep)) fun v => (as.all (fun a => !hot dep a) || plain dep v) = true ∧ K v s := WB_v ft84 rfl as s K
theorem WB85 (s : St) (as : List AV) (K : AV → St → Prop) : WB ft 85 as s K = WV ft 85 (as.map (snap s.mem dep)) fun v => (as.all (fun a => !hot dep a) || plain dep v) = true ∧ K v s := WB_v ft85 rfl as s K
theorem WB86 (s : St) (as : List AV) (K : AV → St → Prop) : WB ft 86 as s K = WV ft 86 (as.map (snap s.mem dep)) fun v => (as.all (fun a => !hot dep a) || plain dep v) = true ∧ K v s := WB_v ft86 rfl as s K
theorem WB87 (s : St) (as : List AV) (K : AV → St → Prop) : WB ft 87 as s K = WV ft 87 (as.map (snap s.mem dep)) fun v => (as.all (fun a => !hot dep a) || plain dep v) = true ∧ K v s := WB_v ft87 rfl as s K
theorem WB88 (s : St) (as : List AV) (K : AV → St → Prop) : WB ft 88 as s K = WV ft 88 (as.map (snap s.mem dep)) fun v => (as.all (fun a => !hot dep a) || plain dep v) = true ∧ K v s := WB_v ft88 rfl as s K
theorem WB89 (s : St) (as : List AV) (K : AV → St → Prop) : WB ft 89 as s K = WV ft 89 (as.map (snap s.mem dep)) fun v => (as.all (fun a => !hot dep a) || plain dep v) = true ∧ K v s := WB_v ft89 rfl as s K
theorem WF14 (s : St) (as : List AV) (K : AV → St → Prop) : WF ft 14 as s K = WV ft 14 (as.map (snap s.mem dep)) fun v => (as.all (fun a => !hot dep a) || plain dep v) = true ∧ K v s := WF_v ft14 as s K
end Go.Ab.T
end
