/-
  A part of the proofs over this seat.
  (The texts KsT KsW, one behind the other.)
-/
import Derived.Test.YtapkbaihdcabnaaA0
set_option linter.unusedSimpArgs false
set_option linter.unusedVariables false
set_option linter.unusedSectionVars false
section
namespace Go.Ab.T
def c2 : ACode := .region [Ob 0 (.call 1 [])]
def r2 : List Res := []
def a2 : AFn := ⟨0, c2, r2,.v⟩

def c3 : ACode := .seq (.region [Ob 2 (.box (.t 0) 3),Ob 4 (.mov (.c (.bool false)))])
 (.seq (.seq (.region [Ob 11 (.load (.t 2) (some 3)),Ob 12 (.call 14 [(.t 11)]),Ob 13 (.mov (.t 12)),Og 14 13 false (.load (.t 2) (some 3)),Og 15 13 false (.call 15 [(.t 14)]),Og 16 13 false (.bin .neq (.t 15) (Ci 0)),Ob 17 (.pick (.t 13) (.c (.bool true)) (.t 16)),Ob 18 (.mov (.t 17)),Og 19 18 false (.mov (.t 1)),Og 20 18 false (.bin .lss (.t 19) (Ci 0)),Ob 21 (.pick (.t 18) (.c (.bool true)) (.t 20)),Ob 22 (.mov (.t 21)),Og 23 22 false (.mov (.t 1)),Og 24 22 false (.bin .gtr (.t 23) (Ci 99)),Ob 25 (.pick (.t 22) (.c (.bool true)) (.t 24))])
 (.cond (.t 25) (.seq (.region [Ob 26 (.call 16 []),Ob 4 (.mov (.t 26))])
 (.ret))
 (.skip)))
 (.seq (.region [Ob 28 (.load (.t 2) (some 3)),Ob 29 (.mov (.t 1)),Ob 30 (.call 17 [(.t 28), (.t 29)]),Ob 27 (.mov (.t 30)),Ob 31 (.ext (.t 27) 0),Ob 32 (.ext (.t 27) 1),Ob 5 (.new (.agg [(.int .i64 0), (.int .i64 0), (.int .i64 0), (.int .i64 0), (.int .i64 0), (.int .i64 0)]) 6),On (.store (.t 5) (.t 31) 6),Ob 6 (.mov (.t 32))])
 (.seq (.seq (.region [Ob 33 (.mov (.t 6)),Ob 34 (.bin .neq (.t 33) (Ci 0)),Ob 35 (.mov (.t 34)),Og 36 35 false (.load (.t 5) (some 6)),Og 37 35 false (.call 18 [(.t 36)]),Og 38 35 false (.not (.t 37)),Ob 39 (.pick (.t 35) (.c (.bool true)) (.t 38)),Ob 40 (.mov (.t 39)),Og 41 40 false (.addr (.t 5) 5),Og 42 40 false (.load (.t 41) none),Og 43 40 false (.bin .neq (.t 42) (Ci 0)),Ob 44 (.pick (.t 40) (.c (.bool true)) (.t 43))])
 (.cond (.t 44) (.seq (.region [Ob 4 (.mov (.c (.bool false)))])
 (.ret))
 (.skip)))
 (.seq (.region [Ob 7 (.new (.agg [(.int .i64 0), (.int .i64 0), (.int .i64 0), (.int .i64 0), (.int .i64 0), (.int .i64 0)]) 6)])
 (.seq (.seq (.region [Ob 8 (.mov (Ci 0))])
 (.block 0 (.loop (.seq (.seq (.region [Ob 45 (.mov (.t 8)),Ob 46 (.addr (.t 2) 1),Ob 47 (.load (.t 46) none),Ob 48 (.len (.t 47)),Ob 49 (.bin .lss (.t 45) (.t 48))])
 (.cond (.t 49) (.skip)
 (.exit 0)))
 (.seq (.block 1 (.seq (.region [Ob 53 (.load (.t 2) (some 3)),Ob 54 (.addr (.t 2) 1),Ob 55 (.load (.t 54) none),Ob 56 (.mov (.t 8)),Ob 57 (.idx (.t 55) (.t 56) 9),Ob 58 (.addr (.t 57) 0),Ob 59 (.load (.t 58) none),Ob 60 (.mov (.t 1)),On (.mov (.c .undef)),Ob 61 (.call 19 [(.t 53), (.t 59), (.t 60)]),Ob 52 (.mov (.t 61)),Ob 62 (.ext (.t 52) 0),Ob 63 (.ext (.t 52) 1),Ob 9 (.box (.t 62) 6),Ob 10 (.mov (.t 63))])
 (.seq (.seq (.region [Ob 64 (.mov (.t 1)),Ob 65 (.addr (.t 2) 1),Ob 66 (.load (.t 65) none),Ob 67 (.mov (.t 8)),Ob 68 (.idx (.t 66) (.t 67) 9),Ob 69 (.addr (.t 68) 1),Ob 70 (.load (.t 69) none),Ob 71 (.bin .lss (.t 64) (.t 70)),Ob 72 (.mov (.t 71)),Og 73 72 false (.mov (.t 1)),Og 74 72 false (.addr (.t 2) 1),Og 75 72 false (.load (.t 74) none),Og 76 72 false (.mov (.t 8)),Og 77 72 false (.idx (.t 75) (.t 76) 9),Og 78 72 false (.addr (.t 77) 2),Og 79 72 false (.load (.t 78) none),Og 80 72 false (.bin .gtr (.t 73) (.t 79)),Ob 81 (.pick (.t 72) (.c (.bool true)) (.t 80))])
 (.cond (.t 81) (.seq (.seq (.region [Ob 82 (.mov (.t 10)),Ob 83 (.bin .neq (.t 82) (Ci 1))])
 (.cond (.t 83) (.seq (.region [Ob 4 (.mov (.c (.bool false)))])
 (.ret))
 (.skip)))
 (.exit 1))
 (.skip)))
 (.seq (.seq (.region [Ob 84 (.mov (.t 10)),Ob 85 (.bin .neq (.t 84) (Ci 0)),Ob 86 (.mov (.t 85)),Og 87 86 false (.load (.t 9) (some 6)),Og 88 86 false (.call 18 [(.t 87)]),Og 89 86 false (.not (.t 88)),Ob 90 (.pick (.t 86) (.c (.bool true)) (.t 89))])
 (.cond (.t 90) (.seq (.region [Ob 4 (.mov (.c (.bool false)))])
 (.ret))
 (.skip)))
 (.seq (.region [Ob 91 (.addr (.t 7) 0),Ob 92 (.load (.t 91) none),Ob 93 (.addr (.t 9) 0),Ob 94 (.load (.t 93) none),Ob 95 (.bin .add (.t 92) (.t 94)),Ob 96 (.addr (.t 7) 0),On (.store (.t 96) (.t 95) 1)])
 (.seq (.region [Ob 97 (.addr (.t 7) 1),Ob 98 (.load (.t 97) none),Ob 99 (.addr (.t 9) 1),Ob 100 (.load (.t 99) none),Ob 101 (.bin .add (.t 98) (.t 100)),Ob 102 (.addr (.t 7) 1),On (.store (.t 102) (.t 101) 1)])
 (.seq (.region [Ob 103 (.addr (.t 7) 2),Ob 104 (.load (.t 103) none),Ob 105 (.addr (.t 9) 2),Ob 106 (.load (.t 105) none),Ob 107 (.bin .add (.t 104) (.t 106)),Ob 108 (.addr (.t 7) 2),On (.store (.t 108) (.t 107) 1)])
 (.seq (.region [Ob 109 (.addr (.t 7) 3),Ob 110 (.load (.t 109) none),Ob 111 (.addr (.t 9) 3),Ob 112 (.load (.t 111) none),Ob 113 (.bin .add (.t 110) (.t 112)),Ob 114 (.addr (.t 7) 3),On (.store (.t 114) (.t 113) 1)])
 (.region [Ob 115 (.addr (.t 7) 4),Ob 116 (.load (.t 115) none),Ob 117 (.addr (.t 9) 4),Ob 118 (.load (.t 117) none),Ob 119 (.bin .add (.t 116) (.t 118)),Ob 120 (.addr (.t 7) 4),On (.store (.t 120) (.t 119) 1)])))))))))
 (.region [Ob 50 (.mov (.t 8)),Ob 51 (.bin .add (.t 50) (Ci 1)),Ob 8 (.mov (.t 51))]))))))
 (.seq (.region [Ob 121 (.load (.t 5) (some 6)),Ob 122 (.load (.t 7) (some 6)),Ob 123 (.eqv false true [.i,.i,.i,.i,.i,.i] (.t 121) (.t 122)),Ob 124 (.mov (.t 123)),Og 125 124 true (.call 16 []),Ob 126 (.pick (.t 124) (.t 125) (.c (.bool false))),Ob 4 (.mov (.t 126))])
 (.ret)))))))
def r3 : List Res := [.t 4]
def a3 : AFn := ⟨2, c3, r3,.v⟩

def c4 : ACode := .seq (.region [Ob 2 (.box (.t 0) 3),Ob 3 (.box (.t 1) 3),Ob 4 (.mov (.c (.bool false)))])
 (.seq (.seq (.region [Ob 14 (.load (.t 2) (some 3)),Ob 15 (.load (.t 3) (some 3)),Ob 16 (.call 20 [(.t 14), (.t 15)]),Ob 17 (.not (.t 16))])
 (.cond (.t 17) (.seq (.region [Ob 18 (.call 16 []),Ob 4 (.mov (.t 18))])
 (.ret))
 (.skip)))
 (.seq (.region [Ob 20 (.load (.t 2) (some 3)),Ob 21 (.addr (.t 3) 0),Ob 22 (.load (.t 21) none),Ob 23 (.call 21 [(.t 20), (.t 22)]),Ob 19 (.mov (.t 23)),Ob 24 (.ext (.t 19) 0),Ob 25 (.ext (.t 19) 1),Ob 5 (.new (.agg [(.int .i64 0), (.int .i64 0), (.int .i64 0), (.sl [] .tight), (.sl [] .tight), (.int .i64 0), (.int .i64 0), (.int .i64 0), (.int .i64 0)]) 9),On (.store (.t 5) (.t 24) 9),Ob 6 (.mov (.t 25))])
 (.seq (.region [Ob 27 (.load (.t 2) (some 3)),Ob 28 (.addr (.t 3) 0),Ob 29 (.load (.t 28) none),Ob 30 (.addr (.t 3) 1),Ob 31 (.load (.t 30) none),Ob 32 (.call 19 [(.t 27), (.t 29), (.t 31)]),Ob 26 (.mov (.t 32)),Ob 33 (.ext (.t 26) 0),Ob 34 (.ext (.t 26) 1),Ob 7 (.new (.agg [(.int .i64 0), (.int .i64 0), (.int .i64 0), (.int .i64 0), (.int .i64 0), (.int .i64 0)]) 6),On (.store (.t 7) (.t 33) 6),Ob 8 (.mov (.t 34))])
 (.seq (.seq (.region [Ob 35 (.mov (.t 8)),Ob 36 (.bin .neq (.t 35) (Ci 0)),Ob 37 (.mov (.t 36)),Og 38 37 false (.load (.t 7) (some 6)),Og 39 37 false (.call 18 [(.t 38)]),Og 40 37 false (.not (.t 39)),Ob 41 (.pick (.t 37) (.c (.bool true)) (.t 40)),Ob 42 (.mov (.t 41)),Og 43 42 false (.addr (.t 7) 2),Og 44 42 false (.load (.t 43) none),Og 45 42 false (.bin .gtr (.t 44) (Ci 1000000000)),Ob 46 (.pick (.t 42) (.c (.bool true)) (.t 45))])
 (.cond (.t 46) (.seq (.region [Ob 4 (.mov (.c (.bool false)))])
 (.ret))
 (.skip)))
 (.seq (.region [Ob 47 (.addr (.t 3) 1),Ob 48 (.load (.t 47) none),Ob 49 (.addr (.t 5) 1),Ob 50 (.load (.t 49) none),Ob 51 (.bin .sub (.t 48) (.t 50)),Ob 9 (.mov (.t 51))])
 (.seq (.seq (.region [Ob 52 (.mov (.t 9)),Ob 53 (.addr (.t 5) 3),Ob 54 (.load (.t 53) none),Ob 55 (.len (.t 54)),Ob 56 (.bin .geq (.t 52) (.t 55))])
 (.cond (.t 56) (.region [Ob 57 (.addr (.t 5) 3),Ob 58 (.load (.t 57) none),Ob 59 (.len (.t 58)),Ob 60 (.bin .sub (.t 59) (Ci 1)),Ob 9 (.mov (.t 60))])
 (.skip)))
 (.seq (.region [Ob 61 (.addr (.t 5) 3),Ob 62 (.load (.t 61) none),Ob 63 (.mov (.t 9)),Ob 64 (.idx (.t 62) (.t 63) 1),Ob 65 (.load (.t 64) none),Ob 10 (.mov (.t 65))])
 (.seq (.seq (.region [Ob 11 (.mov (Ci 0))])
 (.block 0 (.loop (.seq (.seq (.region [Ob 66 (.mov (.t 11)),Ob 67 (.addr (.t 5) 4),Ob 68 (.load (.t 67) none),Ob 69 (.len (.t 68)),Ob 70 (.bin .lss (.t 66) (.t 69))])
 (.cond (.t 70) (.skip)
 (.exit 0)))
 (.seq (.block 1 (.seq (.region [Ob 73 (.addr (.t 7) 2),Ob 74 (.load (.t 73) none),Ob 75 (.addr (.t 5) 4),Ob 76 (.load (.t 75) none),Ob 77 (.mov (.t 11)),Ob 78 (.idx (.t 76) (.t 77) 2),Ob 79 (.addr (.t 78) 0),Ob 80 (.load (.t 79) none),Ob 81 (.bin .geq (.t 74) (.t 80)),Ob 82 (.mov (.t 81)),Og 83 82 true (.addr (.t 5) 4),Og 84 82 true (.load (.t 83) none),Og 85 82 true (.mov (.t 11)),Og 86 82 true (.idx (.t 84) (.t 85) 2),Og 87 82 true (.addr (.t 86) 1),Og 88 82 true (.load (.t 87) none),Og 89 82 true (.mov (.t 10)),Og 90 82 true (.bin .gtr (.t 88) (.t 89)),Ob 91 (.pick (.t 82) (.t 90) (.c (.bool false)))])
 (.cond (.t 91) (.region [Ob 92 (.addr (.t 5) 4),Ob 93 (.load (.t 92) none),Ob 94 (.mov (.t 11)),Ob 95 (.idx (.t 93) (.t 94) 2),Ob 96 (.addr (.t 95) 1),Ob 97 (.load (.t 96) none),Ob 10 (.mov (.t 97))])
 (.skip))))
 (.region [Ob 71 (.mov (.t 11)),Ob 72 (.bin .add (.t 71) (Ci 1)),Ob 11 (.mov (.t 72))]))))))
 (.seq (.region [Ob 98 (.addr (.t 7) 2),Ob 99 (.load (.t 98) none),Ob 100 (.mov (.t 10)),Ob 101 (.bin .mul (.t 99) (.t 100)),Ob 102 (.bin .quo (.t 101) (Ci 1000)),Ob 103 (.addr (.t 5) 7),Ob 104 (.load (.t 103) none),Ob 105 (.lit true 3 1 [(Ci 0), (.t 102), (Ci 0), (.t 104)]),Ob 12 (.mov (.t 105))])
 (.seq (.seq (.region [Ob 106 (.addr (.t 7) 2),Ob 107 (.load (.t 106) none),Ob 108 (.addr (.t 5) 5),Ob 109 (.load (.t 108) none),Ob 110 (.bin .gtr (.t 107) (.t 109))])
 (.cond (.t 110) (.region [Ob 111 (.mov (.t 12)),Ob 112 (.addr (.t 7) 2),Ob 113 (.load (.t 112) none),Ob 114 (.addr (.t 5) 5),Ob 115 (.load (.t 114) none),Ob 116 (.bin .sub (.t 113) (.t 115)),Ob 117 (.addr (.t 5) 6),Ob 118 (.load (.t 117) none),Ob 119 (.bin .mul (.t 116) (.t 118)),Ob 120 (.bin .quo (.t 119) (Ci 1000)),Ob 121 (.idx (.t 111) (Ci 2) 1),On (.store (.t 121) (.t 120) 1)])
 (.skip)))
 (.seq (.seq (.region [Ob 122 (.addr (.t 7) 5),Ob 123 (.load (.t 122) none),Ob 124 (.bin .lss (.t 123) (Ci 1)),Ob 125 (.mov (.t 124)),Og 126 125 false (.addr (.t 7) 5),Og 127 125 false (.load (.t 126) none),Og 128 125 false (.bin .gtr (.t 127) (Ci 3)),Ob 129 (.pick (.t 125) (.c (.bool true)) (.t 128)),Ob 130 (.mov (.t 129)),Og 131 130 false (.addr (.t 7) 3),Og 132 130 false (.load (.t 131) none),Og 133 130 false (.addr (.t 7) 2),Og 134 130 false (.load (.t 133) none),Og 135 130 false (.mov (.t 12)),Og 136 130 false (.addr (.t 7) 5),Og 137 130 false (.load (.t 136) none),Og 138 130 false (.idx (.t 135) (.t 137) 1),Og 139 130 false (.load (.t 138) none),Og 140 130 false (.mnx false (.t 134) (.t 139)),Og 141 130 false (.bin .neq (.t 132) (.t 140)),Ob 142 (.pick (.t 130) (.c (.bool true)) (.t 141))])
 (.cond (.t 142) (.seq (.region [Ob 4 (.mov (.c (.bool false)))])
 (.ret))
 (.skip)))
 (.seq (.seq (.region [Ob 13 (.mov (Ci 1))])
 (.block 2 (.loop (.seq (.seq (.region [Ob 143 (.mov (.t 13)),Ob 144 (.bin .leq (.t 143) (Ci 3))])
 (.cond (.t 144) (.skip)
 (.exit 2)))
 (.seq (.block 3 (.seq (.region [Ob 147 (.mov (.t 12)),Ob 148 (.mov (.t 13)),Ob 149 (.idx (.t 147) (.t 148) 1),Ob 150 (.load (.t 149) none),Ob 151 (.mov (.t 12)),Ob 152 (.addr (.t 7) 5),Ob 153 (.load (.t 152) none),Ob 154 (.idx (.t 151) (.t 153) 1),Ob 155 (.load (.t 154) none),Ob 156 (.bin .gtr (.t 150) (.t 155)),Ob 157 (.mov (.t 156)),Og 158 157 false (.mov (.t 13)),Og 159 157 false (.addr (.t 7) 5),Og 160 157 false (.load (.t 159) none),Og 161 157 false (.bin .lss (.t 158) (.t 160)),Og 162 157 false (.mov (.t 161)),Og 163 162 true (.mov (.t 12)),Og 164 162 true (.mov (.t 13)),Og 165 162 true (.idx (.t 163) (.t 164) 1),Og 166 162 true (.load (.t 165) none),Og 167 162 true (.mov (.t 12)),Og 168 162 true (.addr (.t 7) 5),Og 169 162 true (.load (.t 168) none),Og 170 162 true (.idx (.t 167) (.t 169) 1),Og 171 162 true (.load (.t 170) none),Og 172 162 true (.bin .eql (.t 166) (.t 171)),Og 173 157 false (.pick (.t 162) (.t 172) (.c (.bool false))),Ob 174 (.pick (.t 157) (.c (.bool true)) (.t 173))])
 (.cond (.t 174) (.seq (.region [Ob 4 (.mov (.c (.bool false)))])
 (.ret))
 (.skip))))
 (.region [Ob 145 (.mov (.t 13)),Ob 146 (.bin .add (.t 145) (Ci 1)),Ob 13 (.mov (.t 146))]))))))
 (.seq (.region [Ob 175 (.call 16 []),Ob 4 (.mov (.t 175))])
 (.ret))))))))))))))
def r4 : List Res := [.t 4]
def a4 : AFn := ⟨2, c4, r4,.v⟩

def c5 : ACode := .seq (.region [Ob 3 (.box (.t 0) 3),Ob 4 (.box (.t 1) 3),Ob 5 (.box (.t 2) 2),Ob 6 (.mov (.c (.bool false)))])
 (.seq (.seq (.region [Ob 23 (.load (.t 3) (some 3)),Ob 24 (.load (.t 4) (some 3)),Ob 25 (.call 20 [(.t 23), (.t 24)]),Ob 26 (.not (.t 25)),Ob 27 (.mov (.t 26)),Og 28 27 false (.addr (.t 3) 2),Og 29 27 false (.load (.t 28) none),Og 30 27 false (.len (.t 29)),Og 31 27 false (.bin .gtr (.t 30) (Ci 20)),Ob 32 (.pick (.t 27) (.c (.bool true)) (.t 31)),Ob 33 (.mov (.t 32)),Og 34 33 false (.addr (.t 5) 0),Og 35 33 false (.load (.t 34) none),Og 36 33 false (.bin .lss (.t 35) (Ci 0)),Ob 37 (.pick (.t 33) (.c (.bool true)) (.t 36)),Ob 38 (.mov (.t 37)),Og 39 38 false (.addr (.t 5) 0),Og 40 38 false (.load (.t 39) none),Og 41 38 false (.bin .gtr (.t 40) (Ci 100)),Ob 42 (.pick (.t 38) (.c (.bool true)) (.t 41)),Ob 43 (.mov (.t 42)),Og 44 43 false (.addr (.t 5) 1),Og 45 43 false (.load (.t 44) none),Og 46 43 false (.bin .lss (.t 45) (Ci 0)),Ob 47 (.pick (.t 43) (.c (.bool true)) (.t 46)),Ob 48 (.mov (.t 47)),Og 49 48 false (.addr (.t 5) 1),Og 50 48 false (.load (.t 49) none),Og 51 48 false (.addr (.t 3) 2),Og 52 48 false (.load (.t 51) none),Og 53 48 false (.len (.t 52)),Og 54 48 false (.bin .gtr (.t 50) (.t 53)),Ob 55 (.pick (.t 48) (.c (.bool true)) (.t 54))])
 (.cond (.t 55) (.seq (.region [Ob 56 (.call 16 []),Ob 6 (.mov (.t 56))])
 (.ret))
 (.skip)))
 (.seq (.region [Ob 57 (.load (.t 3) (some 3)),Ob 58 (.callf 22 [(.t 57)]),Ob 7 (.new (.agg [(.int .i64 0), (.sl [] .tight), (.sl [] .tight)]) 3),On (.store (.t 7) (.t 58) 3)])
 (.seq (.region [Ob 59 (.addr (.t 7) 2),On (.store (.t 59) (.c (.sl [] .tight)) 1),Ob 60 (.addr (.t 7) 1),On (.store (.t 60) (.c (.sl [] .tight)) 1)])
 (.seq (.seq (.region [Ob 8 (.mov (Ci 0))])
 (.block 0 (.loop (.seq (.seq (.region [Ob 61 (.mov (.t 8)),Ob 62 (.addr (.t 3) 2),Ob 63 (.load (.t 62) none),Ob 64 (.len (.t 63)),Ob 65 (.bin .lss (.t 61) (.t 64))])
 (.cond (.t 65) (.skip)
 (.exit 0)))
 (.seq (.block 1 (.region [Ob 68 (.addr (.t 7) 2),Ob 69 (.load (.t 68) none),Ob 70 (.addr (.t 3) 2),Ob 71 (.load (.t 70) none),Ob 72 (.mov (.t 8)),Ob 73 (.addr (.t 5) 0),Ob 74 (.load (.t 73) none),Ob 75 (.bin .add (.t 72) (.t 74)),Ob 76 (.addr (.t 3) 2),Ob 77 (.load (.t 76) none),Ob 78 (.len (.t 77)),Ob 79 (.bin .rem (.t 75) (.t 78)),Ob 80 (.idx (.t 71) (.t 79) 6),Ob 81 (.load (.t 80) (some 6)),Ob 82 (.addr (.t 3) 2),Ob 83 (.load (.t 82) none),Ob 84 (.mov (.t 8)),Ob 85 (.idx (.t 83) (.t 84) 6),Ob 86 (.load (.t 85) (some 6)),Ob 87 (.lit false 52 6 [(.t 81), (.t 86)]),Ob 88 (.app false (.t 69) (.t 87) 52 6 48),Ob 89 (.addr (.t 7) 2),On (.store (.t 89) (.t 88) 1)]))
 (.region [Ob 66 (.mov (.t 8)),Ob 67 (.bin .add (.t 66) (Ci 1)),Ob 8 (.mov (.t 67))]))))))
 (.seq (.seq (.region [Ob 9 (.mov (Ci 0))])
 (.block 2 (.loop (.seq (.seq (.region [Ob 90 (.mov (.t 9)),Ob 91 (.addr (.t 3) 1),Ob 92 (.load (.t 91) none),Ob 93 (.len (.t 92)),Ob 94 (.bin .lss (.t 90) (.t 93))])
 (.cond (.t 94) (.skip)
 (.exit 2)))
 (.seq (.block 3 (.region [Ob 97 (.addr (.t 7) 1),Ob 98 (.load (.t 97) none),Ob 99 (.addr (.t 3) 1),Ob 100 (.load (.t 99) none),Ob 101 (.mov (.t 9)),Ob 102 (.addr (.t 5) 0),Ob 103 (.load (.t 102) none),Ob 104 (.bin .add (.t 101) (.t 103)),Ob 105 (.addr (.t 3) 1),Ob 106 (.load (.t 105) none),Ob 107 (.len (.t 106)),Ob 108 (.bin .rem (.t 104) (.t 107)),Ob 109 (.idx (.t 100) (.t 108) 9),Ob 110 (.load (.t 109) (some 9)),Ob 111 (.lit false 39 9 [(.t 110)]),Ob 112 (.app false (.t 98) (.t 111) 39 9 104),Ob 113 (.addr (.t 7) 1),On (.store (.t 113) (.t 112) 1)]))
 (.region [Ob 95 (.mov (.t 9)),Ob 96 (.bin .add (.t 95) (Ci 1)),Ob 9 (.mov (.t 96))]))))))
 (.seq (.region [Ob 115 (.load (.t 3) (some 3)),Ob 116 (.addr (.t 4) 0),Ob 117 (.load (.t 116) none),Ob 118 (.addr (.t 4) 1),Ob 119 (.load (.t 118) none),Ob 120 (.call 19 [(.t 115), (.t 117), (.t 119)]),Ob 114 (.mov (.t 120)),Ob 121 (.ext (.t 114) 0),Ob 122 (.ext (.t 114) 1),Ob 10 (.new (.agg [(.int .i64 0), (.int .i64 0), (.int .i64 0), (.int .i64 0), (.int .i64 0), (.int .i64 0)]) 6),On (.store (.t 10) (.t 121) 6),Ob 11 (.mov (.t 122))])
 (.seq (.region [Ob 124 (.load (.t 7) (some 3)),Ob 125 (.addr (.t 4) 0),Ob 126 (.load (.t 125) none),Ob 127 (.addr (.t 4) 1),Ob 128 (.load (.t 127) none),Ob 129 (.call 19 [(.t 124), (.t 126), (.t 128)]),Ob 123 (.mov (.t 129)),Ob 130 (.ext (.t 123) 0),Ob 131 (.ext (.t 123) 1),Ob 12 (.new (.agg [(.int .i64 0), (.int .i64 0), (.int .i64 0), (.int .i64 0), (.int .i64 0), (.int .i64 0)]) 6),On (.store (.t 12) (.t 130) 6),Ob 13 (.mov (.t 131))])
 (.seq (.region [Ob 133 (.load (.t 3) (some 3)),Ob 134 (.addr (.t 4) 0),Ob 135 (.load (.t 134) none),Ob 136 (.addr (.t 4) 1),Ob 137 (.load (.t 136) none),Ob 138 (.call 23 [(.t 133), (.t 135), (.t 137)]),Ob 132 (.mov (.t 138)),Ob 139 (.ext (.t 132) 0),Ob 140 (.ext (.t 132) 1),Ob 14 (.mov (.t 139)),Ob 15 (.mov (.t 140))])
 (.seq (.region [Ob 142 (.load (.t 7) (some 3)),Ob 143 (.addr (.t 4) 0),Ob 144 (.load (.t 143) none),Ob 145 (.addr (.t 4) 1),Ob 146 (.load (.t 145) none),Ob 147 (.call 23 [(.t 142), (.t 144), (.t 146)]),Ob 141 (.mov (.t 147)),Ob 148 (.ext (.t 141) 0),Ob 149 (.ext (.t 141) 1),Ob 16 (.mov (.t 148)),Ob 17 (.mov (.t 149))])
 (.seq (.region [Ob 151 (.load (.t 3) (some 3)),Ob 152 (.call 24 [(.t 151), (.c (.sl [] .tight))]),Ob 150 (.mov (.t 152)),Ob 153 (.ext (.t 150) 0),Ob 154 (.ext (.t 150) 1),Ob 18 (.new (.agg [(.int .i64 0), (.sl [] .tight), (.sl [] .tight)]) 3),On (.store (.t 18) (.t 153) 3),Ob 19 (.mov (.t 154))])
 (.seq (.region [Ob 155 (.load (.t 3) (some 3)),Ob 156 (.callf 22 [(.t 155)]),Ob 20 (.new (.agg [(.int .i64 0), (.sl [] .tight), (.sl [] .tight)]) 3),On (.store (.t 20) (.t 156) 3)])
 (.seq (.region [Ob 157 (.addr (.t 3) 2),Ob 158 (.load (.t 157) none),Ob 159 (.addr (.t 5) 1),Ob 160 (.load (.t 159) none),Ob 161 (.slice (.t 158) none (some (.t 160)) 6),Ob 162 (.addr (.t 20) 2),On (.store (.t 162) (.t 161) 1)])
 (.seq (.region [Ob 164 (.load (.t 20) (some 3)),Ob 165 (.addr (.t 3) 2),Ob 166 (.load (.t 165) none),Ob 167 (.addr (.t 5) 1),Ob 168 (.load (.t 167) none),Ob 169 (.slice (.t 166) (some (.t 168)) none 6),On (.mov (.c .undef)),Ob 170 (.call 24 [(.t 164), (.t 169)]),Ob 163 (.mov (.t 170)),Ob 171 (.ext (.t 163) 0),Ob 172 (.ext (.t 163) 1),Ob 21 (.box (.t 171) 3),Ob 22 (.mov (.t 172))])
 (.seq (.region [Ob 173 (.mov (.t 11)),Ob 174 (.bin .eql (.t 173) (Ci 0)),Ob 175 (.mov (.t 174)),Og 176 175 true (.mov (.t 13)),Og 177 175 true (.bin .eql (.t 176) (Ci 0)),Ob 178 (.pick (.t 175) (.t 177) (.c (.bool false))),Ob 179 (.mov (.t 178)),Og 180 179 true (.mov (.t 15)),Og 181 179 true (.bin .eql (.t 180) (Ci 0)),Ob 182 (.pick (.t 179) (.t 181) (.c (.bool false))),Ob 183 (.mov (.t 182)),Og 184 183 true (.mov (.t 17)),Og 185 183 true (.bin .eql (.t 184) (Ci 0)),Ob 186 (.pick (.t 183) (.t 185) (.c (.bool false))),Ob 187 (.mov (.t 186)),Og 188 187 true (.mov (.t 19)),Og 189 187 true (.bin .eql (.t 188) (Ci 0)),Ob 190 (.pick (.t 187) (.t 189) (.c (.bool false))),Ob 191 (.mov (.t 190)),Og 192 191 true (.mov (.t 22)),Og 193 191 true (.bin .eql (.t 192) (Ci 0)),Ob 194 (.pick (.t 191) (.t 193) (.c (.bool false))),Ob 195 (.mov (.t 194)),Og 196 195 true (.load (.t 10) (some 6)),Og 197 195 true (.load (.t 12) (some 6)),Og 198 195 true (.eqv false true [.i,.i,.i,.i,.i,.i] (.t 196) (.t 197)),Ob 199 (.pick (.t 195) (.t 198) (.c (.bool false))),Ob 200 (.mov (.t 199)),Og 201 200 true (.mov (.t 14)),Og 202 200 true (.mov (.t 16)),Og 203 200 true (.bin .eql (.t 201) (.t 202)),Ob 204 (.pick (.t 200) (.t 203) (.c (.bool false))),Ob 205 (.mov (.t 204)),Og 206 205 true (.load (.t 18) (some 3)),Og 207 205 true (.load (.t 21) (some 3)),Og 208 205 true (.call 25 [(.t 206), (.t 207)]),Ob 209 (.pick (.t 205) (.t 208) (.c (.bool false))),Ob 210 (.mov (.t 209)),Og 211 210 true (.call 16 []),Ob 212 (.pick (.t 210) (.t 211) (.c (.bool false))),Ob 6 (.mov (.t 212))])
 (.ret)))))))))))))))
def r5 : List Res := [.t 6]
def a5 : AFn := ⟨3, c5, r5,.v⟩

def c6 : ACode := .seq (.region [Ob 2 (.box (.t 0) 3),Ob 3 (.box (.t 1) 6),Ob 4 (.mov (.c (.bool false)))])
 (.seq (.seq (.region [Ob 15 (.load (.t 2) (some 3)),Ob 16 (.addr (.t 3) 2),Ob 17 (.load (.t 16) none),Ob 18 (.addr (.t 3) 3),Ob 19 (.load (.t 18) none),Ob 20 (.build [(.int .i64 0), (.int .i64 0), (.int .i64 0)] [(0, 1, (.t 17)), (1, 1, (.t 19))]),Ob 21 (.call 20 [(.t 15), (.t 20)]),Ob 22 (.not (.t 21)),Ob 23 (.mov (.t 22)),Og 24 23 false (.addr (.t 2) 2),Og 25 23 false (.load (.t 24) none),Og 26 23 false (.len (.t 25)),Og 27 23 false (.bin .geq (.t 26) (Ci 40)),Ob 28 (.pick (.t 23) (.c (.bool true)) (.t 27))])
 (.cond (.t 28) (.seq (.region [Ob 29 (.call 16 []),Ob 4 (.mov (.t 29))])
 (.ret))
 (.skip)))
 (.seq (.region [Ob 30 (.load (.t 2) (some 3)),Ob 31 (.load (.t 3) (some 6)),Ob 32 (.call 26 [(.t 30), (.t 31)]),Ob 5 (.new (.agg [(.int .i64 0), (.sl [] .tight), (.sl [] .tight)]) 3),On (.store (.t 5) (.t 32) 3)])
 (.seq (.seq (.region [Ob 33 (.load (.t 5) (some 3)),Ob 34 (.call 15 [(.t 33)]),Ob 35 (.bin .neq (.t 34) (Ci 0))])
 (.cond (.t 35) (.seq (.region [Ob 36 (.call 16 []),Ob 4 (.mov (.t 36))])
 (.ret))
 (.skip)))
 (.seq (.region [Ob 38 (.load (.t 2) (some 3)),Ob 39 (.addr (.t 3) 2),Ob 40 (.load (.t 39) none),Ob 41 (.addr (.t 3) 3),Ob 42 (.load (.t 41) none),Ob 43 (.call 19 [(.t 38), (.t 40), (.t 42)]),Ob 37 (.mov (.t 43)),Ob 44 (.ext (.t 37) 0),Ob 45 (.ext (.t 37) 1),Ob 6 (.new (.agg [(.int .i64 0), (.int .i64 0), (.int .i64 0), (.int .i64 0), (.int .i64 0), (.int .i64 0)]) 6),On (.store (.t 6) (.t 44) 6),Ob 7 (.mov (.t 45))])
 (.seq (.region [Ob 47 (.load (.t 5) (some 3)),Ob 48 (.addr (.t 3) 2),Ob 49 (.load (.t 48) none),Ob 50 (.addr (.t 3) 3),Ob 51 (.load (.t 50) none),Ob 52 (.call 19 [(.t 47), (.t 49), (.t 51)]),Ob 46 (.mov (.t 52)),Ob 53 (.ext (.t 46) 0),Ob 54 (.ext (.t 46) 1),Ob 8 (.new (.agg [(.int .i64 0), (.int .i64 0), (.int .i64 0), (.int .i64 0), (.int .i64 0), (.int .i64 0)]) 6),On (.store (.t 8) (.t 53) 6),Ob 9 (.mov (.t 54))])
 (.seq (.seq (.region [Ob 55 (.mov (.t 7)),Ob 56 (.bin .neq (.t 55) (Ci 0)),Ob 57 (.mov (.t 56)),Og 58 57 false (.mov (.t 9)),Og 59 57 false (.bin .neq (.t 58) (Ci 0)),Ob 60 (.pick (.t 57) (.c (.bool true)) (.t 59))])
 (.cond (.t 60) (.seq (.region [Ob 4 (.mov (.c (.bool false)))])
 (.ret))
 (.skip)))
 (.seq (.region [Ob 10 (.mov (.c (.bool false))),Ob 11 (.mov (Ci 0)),Ob 12 (.mov (Ci (-1)))])
 (.seq (.seq (.region [Ob 13 (.mov (Ci 0))])
 (.block 0 (.loop (.seq (.seq (.region [Ob 61 (.mov (.t 13)),Ob 62 (.addr (.t 2) 2),Ob 63 (.load (.t 62) none),Ob 64 (.len (.t 63)),Ob 65 (.bin .lss (.t 61) (.t 64))])
 (.cond (.t 65) (.skip)
 (.exit 0)))
 (.seq (.block 1 (.seq (.region [Ob 68 (.addr (.t 2) 2),Ob 69 (.load (.t 68) none),Ob 70 (.mov (.t 13)),Ob 71 (.idx (.t 69) (.t 70) 6),Ob 72 (.load (.t 71) (some 6)),Ob 14 (.new (.agg [(.int .i64 0), (.int .i64 0), (.int .i64 0), (.int .i64 0), (.int .i64 0), (.int .i64 0)]) 6),On (.store (.t 14) (.t 72) 6)])
 (.seq (.seq (.region [Ob 73 (.addr (.t 14) 2),Ob 74 (.load (.t 73) none),Ob 75 (.addr (.t 3) 2),Ob 76 (.load (.t 75) none),Ob 77 (.bin .neq (.t 74) (.t 76)),Ob 78 (.mov (.t 77)),Og 79 78 false (.addr (.t 14) 3),Og 80 78 false (.load (.t 79) none),Og 81 78 false (.addr (.t 3) 3),Og 82 78 false (.load (.t 81) none),Og 83 78 false (.bin .neq (.t 80) (.t 82)),Ob 84 (.pick (.t 78) (.c (.bool true)) (.t 83))])
 (.cond (.t 84) (.exit 1)
 (.skip)))
 (.seq (.region [Ob 85 (.mov (.t 10)),Ob 86 (.mov (.t 85)),Og 87 86 false (.addr (.t 14) 1),Og 88 86 false (.load (.t 87) none),Og 89 86 false (.bin .eql (.t 88) (Ci 2)),Ob 90 (.pick (.t 86) (.c (.bool true)) (.t 89)),Ob 10 (.mov (.t 90))])
 (.seq (.region [Ob 91 (.addr (.t 14) 1),Ob 92 (.load (.t 91) none),Ob 93 (.bin .eql (.t 92) (Ci 1)),Ob 94 (.mov (.t 93)),Og 95 94 true (.addr (.t 14) 4),Og 96 94 true (.load (.t 95) none),Og 97 94 true (.addr (.t 3) 4),Og 98 94 true (.load (.t 97) none),Og 99 94 true (.bin .eql (.t 96) (.t 98)),Ob 100 (.pick (.t 94) (.t 99) (.c (.bool false))),Ob 101 (.mov (.t 100)),Og 102 101 true (.addr (.t 14) 0),Og 103 101 true (.load (.t 102) none),Og 104 101 true (.mov (.t 12)),Og 105 101 true (.bin .gtr (.t 103) (.t 104)),Ob 106 (.pick (.t 101) (.t 105) (.c (.bool false)))])
 (.cond (.t 106) (.region [Ob 107 (.addr (.t 14) 5),Ob 108 (.load (.t 107) none),Ob 109 (.addr (.t 14) 0),Ob 110 (.load (.t 109) none),Ob 11 (.mov (.t 108)),Ob 12 (.mov (.t 110))])
 (.skip)))))))
 (.region [Ob 66 (.mov (.t 13)),Ob 67 (.bin .add (.t 66) (Ci 1)),Ob 13 (.mov (.t 67))]))))))
 (.seq (.block 2 (.seq (.region [Ob 112 (.addr (.t 3) 1),Ob 113 (.load (.t 112) none),Ob 114 (.bin .eql (.t 113) (Ci 2)),Ob 111 (.mov (.t 114))])
 (.cond (.t 111) (.seq (.region [Ob 115 (.addr (.t 8) 0),Ob 116 (.load (.t 115) none),Ob 117 (.addr (.t 3) 5),Ob 118 (.load (.t 117) none),Ob 119 (.bin .eql (.t 116) (.t 118)),Ob 120 (.mov (.t 119)),Og 121 120 true (.call 16 []),Ob 122 (.pick (.t 120) (.t 121) (.c (.bool false))),Ob 4 (.mov (.t 122))])
 (.ret))
 (.seq (.region [Ob 124 (.mov (.t 10)),Ob 123 (.mov (.t 124))])
 (.cond (.t 123) (.seq (.region [Ob 125 (.load (.t 8) (some 6)),Ob 126 (.load (.t 6) (some 6)),Ob 127 (.eqv false true [.i,.i,.i,.i,.i,.i] (.t 125) (.t 126)),Ob 128 (.mov (.t 127)),Og 129 128 true (.call 16 []),Ob 130 (.pick (.t 128) (.t 129) (.c (.bool false))),Ob 4 (.mov (.t 130))])
 (.ret))
 (.skip))))))
 (.seq (.region [Ob 131 (.addr (.t 8) 0),Ob 132 (.load (.t 131) none),Ob 133 (.addr (.t 6) 0),Ob 134 (.load (.t 133) none),Ob 135 (.mov (.t 11)),Ob 136 (.bin .sub (.t 134) (.t 135)),Ob 137 (.addr (.t 3) 5),Ob 138 (.load (.t 137) none),Ob 139 (.bin .add (.t 136) (.t 138)),Ob 140 (.bin .eql (.t 132) (.t 139)),Ob 141 (.mov (.t 140)),Og 142 141 true (.addr (.t 3) 5),Og 143 141 true (.load (.t 142) none),Og 144 141 true (.mov (.t 11)),Og 145 141 true (.bin .lss (.t 143) (.t 144)),Og 146 141 true (.mov (.t 145)),Og 147 146 false (.addr (.t 8) 3),Og 148 146 false (.load (.t 147) none),Og 149 146 false (.addr (.t 6) 3),Og 150 146 false (.load (.t 149) none),Og 151 146 false (.bin .geq (.t 148) (.t 150)),Og 152 141 true (.pick (.t 146) (.c (.bool true)) (.t 151)),Ob 153 (.pick (.t 141) (.t 152) (.c (.bool false))),Ob 154 (.mov (.t 153)),Og 155 154 true (.call 16 []),Ob 156 (.pick (.t 154) (.t 155) (.c (.bool false))),Ob 4 (.mov (.t 156))])
 (.ret)))))))))))
def r6 : List Res := [.t 4]
def a6 : AFn := ⟨2, c6, r6,.v⟩

def c7 : ACode := .seq (.region [Ob 3 (.box (.t 0) 3),Ob 6 (.mov (.c (.bool false)))])
 (.seq (.seq (.region [Ob 21 (.load (.t 3) (some 3)),Ob 22 (.call 14 [(.t 21)]),Ob 23 (.mov (.t 22)),Og 24 23 false (.load (.t 3) (some 3)),Og 25 23 false (.call 15 [(.t 24)]),Og 26 23 false (.bin .neq (.t 25) (Ci 0)),Ob 27 (.pick (.t 23) (.c (.bool true)) (.t 26)),Ob 28 (.mov (.t 27)),Og 29 28 false (.mov (.t 1)),Og 30 28 false (.bin .lss (.t 29) (Ci 0)),Ob 31 (.pick (.t 28) (.c (.bool true)) (.t 30)),Ob 32 (.mov (.t 31)),Og 33 32 false (.mov (.t 1)),Og 34 32 false (.bin .gtr (.t 33) (Ci 99)),Ob 35 (.pick (.t 32) (.c (.bool true)) (.t 34)),Ob 36 (.mov (.t 35)),Og 37 36 false (.mov (.t 2)),Og 38 36 false (.len (.t 37)),Og 39 36 false (.bin .gtr (.t 38) (Ci 80)),Ob 40 (.pick (.t 36) (.c (.bool true)) (.t 39)),Ob 41 (.mov (.t 40)),Og 42 41 false (.load (.t 3) (some 3)),Og 43 41 false (.mov (.t 2)),Og 44 41 false (.call 27 [(.t 42), (.t 43)]),Og 45 41 false (.not (.t 44)),Ob 46 (.pick (.t 41) (.c (.bool true)) (.t 45))])
 (.cond (.t 46) (.seq (.region [Ob 47 (.call 16 []),Ob 6 (.mov (.t 47))])
 (.ret))
 (.skip)))
 (.seq (.region [Ob 49 (.load (.t 3) (some 3)),Ob 50 (.mov (.t 1)),Ob 51 (.mov (.t 2)),Ob 52 (.call 28 [(.t 49), (.t 50), (.t 51)]),Ob 48 (.mov (.t 52)),Ob 53 (.ext (.t 48) 0),Ob 54 (.ext (.t 48) 1),Ob 55 (.ext (.t 48) 2),Ob 7 (.mov (.t 53)),Ob 8 (.mov (.t 54)),Ob 9 (.mov (.t 55))])
 (.seq (.seq (.region [Ob 56 (.mov (.t 9)),Ob 57 (.bin .neq (.t 56) (Ci 0)),Ob 58 (.mov (.t 57)),Og 59 58 false (.mov (.t 7)),Og 60 58 false (.len (.t 59)),Og 61 58 false (.mov (.t 8)),Og 62 58 false (.len (.t 61)),Og 63 58 false (.bin .add (.t 60) (.t 62)),Og 64 58 false (.addr (.t 3) 1),Og 65 58 false (.load (.t 64) none),Og 66 58 false (.len (.t 65)),Og 67 58 false (.bin .gtr (.t 63) (.t 66)),Ob 68 (.pick (.t 58) (.c (.bool true)) (.t 67))])
 (.cond (.t 68) (.seq (.region [Ob 6 (.mov (.c (.bool false)))])
 (.ret))
 (.skip)))
 (.seq (.region [Ob 69 (.lit false 67 2 []),Ob 70 (.mov (.t 2)),Ob 71 (.app false (.t 69) (.t 70) 67 2 16),Ob 72 (.mov (.t 7)),Ob 73 (.app false (.t 71) (.t 72) 67 2 16),Ob 10 (.mov (.t 73))])
 (.seq (.seq (.region [Ob 74 (.load (.t 3) (some 3)),Ob 75 (.mov (.t 10)),Ob 76 (.call 27 [(.t 74), (.t 75)]),Ob 77 (.not (.t 76))])
 (.cond (.t 77) (.seq (.region [Ob 6 (.mov (.c (.bool false)))])
 (.ret))
 (.skip)))
 (.seq (.region [Ob 79 (.load (.t 3) (some 3)),Ob 80 (.mov (.t 1)),Ob 81 (.mov (.t 10)),Ob 82 (.call 28 [(.t 79), (.t 80), (.t 81)]),Ob 78 (.mov (.t 82)),Ob 83 (.ext (.t 78) 0),Ob 84 (.ext (.t 78) 1),Ob 85 (.ext (.t 78) 2),Ob 11 (.mov (.t 83)),Ob 12 (.mov (.t 84)),Ob 13 (.mov (.t 85))])
 (.seq (.seq (.region [Ob 86 (.mov (.t 13)),Ob 87 (.bin .neq (.t 86) (Ci 0)),Ob 88 (.mov (.t 87)),Og 89 88 false (.mov (.t 11)),Og 90 88 false (.len (.t 89)),Og 91 88 false (.bin .gtr (.t 90) (Ci 0)),Ob 92 (.pick (.t 88) (.c (.bool true)) (.t 91)),Ob 93 (.mov (.t 92)),Og 94 93 false (.mov (.t 12)),Og 95 93 false (.mov (.t 8)),Og 96 93 false (.call 29 [(.t 94), (.t 95)]),Og 97 93 false (.not (.t 96)),Ob 98 (.pick (.t 93) (.c (.bool true)) (.t 97))])
 (.cond (.t 98) (.seq (.region [Ob 6 (.mov (.c (.bool false)))])
 (.ret))
 (.skip)))
 (.seq (.seq (.region [Ob 14 (.mov (Ci 0))])
 (.block 0 (.loop (.seq (.seq (.region [Ob 99 (.mov (.t 14)),Ob 100 (.addr (.t 3) 1),Ob 101 (.load (.t 100) none),Ob 102 (.len (.t 101)),Ob 103 (.bin .lss (.t 99) (.t 102))])
 (.cond (.t 103) (.skip)
 (.exit 0)))
 (.seq (.block 1 (.seq (.region [Ob 106 (.addr (.t 3) 1),Ob 107 (.load (.t 106) none),Ob 108 (.mov (.t 14)),Ob 109 (.idx (.t 107) (.t 108) 9),Ob 110 (.addr (.t 109) 0),Ob 111 (.load (.t 110) none),Ob 15 (.mov (.t 111))])
 (.seq (.region [Ob 16 (.mov (Ci 0))])
 (.seq (.seq (.region [Ob 17 (.mov (Ci 0))])
 (.block 2 (.loop (.seq (.seq (.region [Ob 112 (.mov (.t 17)),Ob 113 (.mov (.t 10)),Ob 114 (.len (.t 113)),Ob 115 (.bin .lss (.t 112) (.t 114))])
 (.cond (.t 115) (.skip)
 (.exit 2)))
 (.seq (.block 3 (.seq (.region [Ob 118 (.mov (.t 10)),Ob 119 (.mov (.t 17)),Ob 120 (.idx (.t 118) (.t 119) 2),Ob 121 (.addr (.t 120) 0),Ob 122 (.load (.t 121) none),Ob 123 (.mov (.t 15)),Ob 124 (.bin .eql (.t 122) (.t 123))])
 (.cond (.t 124) (.region [Ob 125 (.mov (.t 16)),Ob 126 (.mov (.t 10)),Ob 127 (.mov (.t 17)),Ob 128 (.idx (.t 126) (.t 127) 2),Ob 129 (.addr (.t 128) 1),Ob 130 (.load (.t 129) none),Ob 131 (.bin .add (.t 125) (.t 130)),Ob 16 (.mov (.t 131))])
 (.skip))))
 (.region [Ob 116 (.mov (.t 17)),Ob 117 (.bin .add (.t 116) (Ci 1)),Ob 17 (.mov (.t 117))]))))))
 (.seq (.seq (.region [Ob 18 (.mov (Ci 0))])
 (.block 4 (.loop (.seq (.seq (.region [Ob 132 (.mov (.t 18)),Ob 133 (.mov (.t 8)),Ob 134 (.len (.t 133)),Ob 135 (.bin .lss (.t 132) (.t 134))])
 (.cond (.t 135) (.skip)
 (.exit 4)))
 (.seq (.block 5 (.seq (.region [Ob 138 (.mov (.t 8)),Ob 139 (.mov (.t 18)),Ob 140 (.idx (.t 138) (.t 139) 2),Ob 141 (.addr (.t 140) 0),Ob 142 (.load (.t 141) none),Ob 143 (.mov (.t 15)),Ob 144 (.bin .eql (.t 142) (.t 143))])
 (.cond (.t 144) (.region [Ob 145 (.mov (.t 16)),Ob 146 (.mov (.t 8)),Ob 147 (.mov (.t 18)),Ob 148 (.idx (.t 146) (.t 147) 2),Ob 149 (.addr (.t 148) 1),Ob 150 (.load (.t 149) none),Ob 151 (.bin .sub (.t 145) (.t 150)),Ob 16 (.mov (.t 151))])
 (.skip))))
 (.region [Ob 136 (.mov (.t 18)),Ob 137 (.bin .add (.t 136) (Ci 1)),Ob 18 (.mov (.t 137))]))))))
 (.seq (.region [Ob 153 (.load (.t 3) (some 3)),Ob 154 (.mov (.t 15)),Ob 155 (.mov (.t 1)),Ob 156 (.call 23 [(.t 153), (.t 154), (.t 155)]),Ob 152 (.mov (.t 156)),Ob 157 (.ext (.t 152) 0),Ob 158 (.ext (.t 152) 1),Ob 19 (.mov (.t 157)),Ob 20 (.mov (.t 158))])
 (.seq (.region [Ob 159 (.mov (.t 20)),Ob 160 (.bin .neq (.t 159) (Ci 0)),Ob 161 (.mov (.t 160)),Og 162 161 false (.mov (.t 16)),Og 163 161 false (.mov (.t 19)),Og 164 161 false (.bin .neq (.t 162) (.t 163)),Ob 165 (.pick (.t 161) (.c (.bool true)) (.t 164))])
 (.cond (.t 165) (.seq (.region [Ob 6 (.mov (.c (.bool false)))])
 (.ret))
 (.skip)))))))))
 (.region [Ob 104 (.mov (.t 14)),Ob 105 (.bin .add (.t 104) (Ci 1)),Ob 14 (.mov (.t 105))]))))))
 (.seq (.region [Ob 166 (.call 16 []),Ob 6 (.mov (.t 166))])
 (.ret))))))))))
def r7 : List Res := [.t 6]
def a7 : AFn := ⟨3, c7, r7,.v⟩

def c8 : ACode := .seq (.region [Ob 2 (.box (.t 0) 3),Ob 3 (.box (.t 1) 3),Ob 4 (.mov (.c (.bool false)))])
 (.seq (.seq (.region [Ob 16 (.load (.t 2) (some 3)),Ob 17 (.load (.t 3) (some 3)),Ob 18 (.call 20 [(.t 16), (.t 17)]),Ob 19 (.not (.t 18))])
 (.cond (.t 19) (.seq (.region [Ob 20 (.call 16 []),Ob 4 (.mov (.t 20))])
 (.ret))
 (.skip)))
 (.seq (.region [Ob 22 (.load (.t 2) (some 3)),Ob 23 (.addr (.t 3) 0),Ob 24 (.load (.t 23) none),Ob 25 (.call 21 [(.t 22), (.t 24)]),Ob 21 (.mov (.t 25)),Ob 26 (.ext (.t 21) 0),Ob 27 (.ext (.t 21) 1),Ob 5 (.new (.agg [(.int .i64 0), (.int .i64 0), (.int .i64 0), (.sl [] .tight), (.sl [] .tight), (.int .i64 0), (.int .i64 0), (.int .i64 0), (.int .i64 0)]) 9),On (.store (.t 5) (.t 26) 9),Ob 6 (.mov (.t 27))])
 (.seq (.region [Ob 29 (.load (.t 2) (some 3)),Ob 30 (.addr (.t 3) 0),Ob 31 (.load (.t 30) none),Ob 32 (.addr (.t 3) 1),Ob 33 (.load (.t 32) none),Ob 34 (.call 19 [(.t 29), (.t 31), (.t 33)]),Ob 28 (.mov (.t 34)),Ob 35 (.ext (.t 28) 0),Ob 36 (.ext (.t 28) 1),Ob 7 (.new (.agg [(.int .i64 0), (.int .i64 0), (.int .i64 0), (.int .i64 0), (.int .i64 0), (.int .i64 0)]) 6),On (.store (.t 7) (.t 35) 6),Ob 8 (.mov (.t 36))])
 (.seq (.region [Ob 38 (.load (.t 2) (some 3)),Ob 39 (.addr (.t 3) 0),Ob 40 (.load (.t 39) none),Ob 41 (.addr (.t 3) 1),Ob 42 (.load (.t 41) none),Ob 43 (.call 23 [(.t 38), (.t 40), (.t 42)]),Ob 37 (.mov (.t 43)),Ob 44 (.ext (.t 37) 0),Ob 45 (.ext (.t 37) 1),Ob 9 (.mov (.t 44)),Ob 10 (.mov (.t 45))])
 (.seq (.region [Ob 11 (.mov (Ci 0))])
 (.seq (.seq (.region [Ob 46 (.addr (.t 3) 1),Ob 47 (.load (.t 46) none),Ob 48 (.bin .gtr (.t 47) (Ci 0))])
 (.cond (.t 48) (.seq (.region [Ob 50 (.load (.t 2) (some 3)),Ob 51 (.addr (.t 3) 0),Ob 52 (.load (.t 51) none),Ob 53 (.addr (.t 3) 1),Ob 54 (.load (.t 53) none),Ob 55 (.bin .sub (.t 54) (Ci 1)),Ob 56 (.call 23 [(.t 50), (.t 52), (.t 55)]),Ob 49 (.mov (.t 56)),Ob 57 (.ext (.t 49) 0),Ob 58 (.ext (.t 49) 1),Ob 12 (.mov (.t 57)),Ob 13 (.mov (.t 58))])
 (.seq (.seq (.region [Ob 59 (.mov (.t 13)),Ob 60 (.bin .neq (.t 59) (Ci 0))])
 (.cond (.t 60) (.seq (.region [Ob 4 (.mov (.c (.bool false)))])
 (.ret))
 (.skip)))
 (.region [Ob 61 (.mov (.t 12)),Ob 11 (.mov (.t 61))])))
 (.skip)))
 (.seq (.seq (.region [Ob 62 (.mov (.t 8)),Ob 63 (.bin .neq (.t 62) (Ci 0)),Ob 64 (.mov (.t 63)),Og 65 64 false (.mov (.t 10)),Og 66 64 false (.bin .neq (.t 65) (Ci 0)),Ob 67 (.pick (.t 64) (.c (.bool true)) (.t 66)),Ob 68 (.mov (.t 67)),Og 69 68 false (.mov (.t 9)),Og 70 68 false (.mov (.t 11)),Og 71 68 false (.bin .lss (.t 69) (.t 70)),Ob 72 (.pick (.t 68) (.c (.bool true)) (.t 71)),Ob 73 (.mov (.t 72)),Og 74 73 false (.addr (.t 3) 1),Og 75 73 false (.load (.t 74) none),Og 76 73 false (.addr (.t 5) 1),Og 77 73 false (.load (.t 76) none),Og 78 73 false (.bin .eql (.t 75) (.t 77)),Og 79 73 false (.mov (.t 78)),Og 80 79 true (.mov (.t 11)),Og 81 79 true (.bin .neq (.t 80) (Ci 0)),Og 82 73 false (.pick (.t 79) (.t 81) (.c (.bool false))),Ob 83 (.pick (.t 73) (.c (.bool true)) (.t 82))])
 (.cond (.t 83) (.seq (.region [Ob 4 (.mov (.c (.bool false)))])
 (.ret))
 (.skip)))
 (.seq (.seq (.region [Ob 84 (.addr (.t 3) 1),Ob 85 (.load (.t 84) none),Ob 86 (.addr (.t 5) 2),Ob 87 (.load (.t 86) none),Ob 88 (.bin .lss (.t 85) (.t 87))])
 (.cond (.t 88) (.seq (.region [Ob 89 (.mov (.t 9)),Ob 90 (.mov (.t 11)),Ob 91 (.addr (.t 7) 3),Ob 92 (.load (.t 91) none),Ob 93 (.bin .add (.t 90) (.t 92)),Ob 94 (.bin .eql (.t 89) (.t 93)),Ob 95 (.mov (.t 94)),Og 96 95 true (.call 16 []),Ob 97 (.pick (.t 95) (.t 96) (.c (.bool false))),Ob 4 (.mov (.t 97))])
 (.ret))
 (.skip)))
 (.seq (.region [Ob 99 (.load (.t 2) (some 3)),Ob 100 (.addr (.t 3) 0),Ob 101 (.load (.t 100) none),Ob 102 (.call 23 [(.t 99), (.t 101), (Ci 99)]),Ob 98 (.mov (.t 102)),Ob 103 (.ext (.t 98) 0),Ob 104 (.ext (.t 98) 1),Ob 14 (.mov (.t 103)),Ob 15 (.mov (.t 104))])
 (.seq (.region [Ob 105 (.mov (.t 15)),Ob 106 (.bin .eql (.t 105) (Ci 0)),Ob 107 (.mov (.t 106)),Og 108 107 true (.mov (.t 9)),Og 109 107 true (.mov (.t 11)),Og 110 107 true (.addr (.t 7) 3),Og 111 107 true (.load (.t 110) none),Og 112 107 true (.bin .add (.t 109) (.t 111)),Og 113 107 true (.addr (.t 5) 8),Og 114 107 true (.load (.t 113) none),Og 115 107 true (.mnx true (.t 112) (.t 114)),Og 116 107 true (.bin .eql (.t 108) (.t 115)),Ob 117 (.pick (.t 107) (.t 116) (.c (.bool false))),Ob 118 (.mov (.t 117)),Og 119 118 true (.mov (.t 14)),Og 120 118 true (.mov (.t 9)),Og 121 118 true (.bin .eql (.t 119) (.t 120)),Ob 122 (.pick (.t 118) (.t 121) (.c (.bool false))),Ob 123 (.mov (.t 122)),Og 124 123 true (.call 16 []),Ob 125 (.pick (.t 123) (.t 124) (.c (.bool false))),Ob 4 (.mov (.t 125))])
 (.ret)))))))))))
def r8 : List Res := [.t 4]
def a8 : AFn := ⟨2, c8, r8,.v⟩

def c9 : ACode := .seq (.region [Ob 2 (.box (.t 0) 3),Ob 3 (.box (.t 1) 3),Ob 4 (.mov (.c (.bool false)))])
 (.seq (.seq (.region [Ob 13 (.load (.t 2) (some 3)),Ob 14 (.load (.t 3) (some 3)),Ob 15 (.call 20 [(.t 13), (.t 14)]),Ob 16 (.not (.t 15)),Ob 17 (.mov (.t 16)),Og 18 17 false (.addr (.t 2) 2),Og 19 17 false (.load (.t 18) none),Og 20 17 false (.len (.t 19)),Og 21 17 false (.bin .geq (.t 20) (Ci 40)),Ob 22 (.pick (.t 17) (.c (.bool true)) (.t 21)),Ob 23 (.mov (.t 22)),Og 24 23 false (.addr (.t 3) 2),Og 25 23 false (.load (.t 24) none),Og 26 23 false (.bin .lss (.t 25) (Ci 0)),Ob 27 (.pick (.t 23) (.c (.bool true)) (.t 26)),Ob 28 (.mov (.t 27)),Og 29 28 false (.addr (.t 3) 2),Og 30 28 false (.load (.t 29) none),Og 31 28 false (.bin .gtr (.t 30) (Ci 10000000)),Ob 32 (.pick (.t 28) (.c (.bool true)) (.t 31))])
 (.cond (.t 32) (.seq (.region [Ob 33 (.call 16 []),Ob 4 (.mov (.t 33))])
 (.ret))
 (.skip)))
 (.seq (.region [Ob 35 (.load (.t 2) (some 3)),Ob 36 (.addr (.t 3) 0),Ob 37 (.load (.t 36) none),Ob 38 (.addr (.t 3) 1),Ob 39 (.load (.t 38) none),Ob 40 (.addr (.t 3) 2),Ob 41 (.load (.t 40) none),Ob 42 (.call 30 [(.t 35), (.t 37), (.t 39), (.t 41)]),Ob 34 (.mov (.t 42)),Ob 43 (.ext (.t 34) 0),Ob 44 (.ext (.t 34) 1),Ob 5 (.mov (.t 43)),Ob 6 (.mov (.t 44))])
 (.seq (.seq (.region [Ob 45 (.mov (.t 6)),Ob 46 (.bin .neq (.t 45) (Ci 0)),Ob 47 (.mov (.t 46)),Og 48 47 true (.mov (.t 6)),Og 49 47 true (.bin .neq (.t 48) (Ci 3)),Ob 50 (.pick (.t 47) (.t 49) (.c (.bool false))),Ob 51 (.mov (.t 50)),Og 52 51 false (.mov (.t 6)),Og 53 51 false (.bin .eql (.t 52) (Ci 0)),Og 54 51 false (.mov (.t 53)),Og 55 54 true (.mov (.t 5)),Og 56 54 true (.bin .lss (.t 55) (Ci 0)),Og 57 54 true (.mov (.t 56)),Og 58 57 false (.mov (.t 5)),Og 59 57 false (.bin .gtr (.t 58) (Ci 10000000)),Og 60 54 true (.pick (.t 57) (.c (.bool true)) (.t 59)),Og 61 51 false (.pick (.t 54) (.t 60) (.c (.bool false))),Ob 62 (.pick (.t 51) (.c (.bool true)) (.t 61))])
 (.cond (.t 62) (.seq (.region [Ob 4 (.mov (.c (.bool false)))])
 (.ret))
 (.skip)))
 (.seq (.region [Ob 63 (.addr (.t 3) 0),Ob 64 (.load (.t 63) none),Ob 65 (.addr (.t 3) 1),Ob 66 (.load (.t 65) none),Ob 67 (.build [(.int .i64 0), (.int .i64 0), (.int .i64 0), (.int .i64 0), (.int .i64 0), (.int .i64 0)] [(1, 1, (Ci 2)), (2, 1, (.t 64)), (3, 1, (.t 66)), (5, 1, (Ci 10000000))]),Ob 7 (.new (.agg [(.int .i64 0), (.int .i64 0), (.int .i64 0), (.int .i64 0), (.int .i64 0), (.int .i64 0)]) 6),On (.store (.t 7) (.t 67) 6)])
 (.seq (.seq (.region [Ob 68 (.mov (.t 6)),Ob 69 (.bin .eql (.t 68) (Ci 0))])
 (.cond (.t 69) (.region [Ob 70 (.mov (.t 5)),Ob 71 (.addr (.t 7) 5),On (.store (.t 71) (.t 70) 1)])
 (.skip)))
 (.seq (.region [Ob 72 (.load (.t 2) (some 3)),Ob 73 (.load (.t 7) (some 6)),Ob 74 (.call 26 [(.t 72), (.t 73)]),Ob 8 (.new (.agg [(.int .i64 0), (.sl [] .tight), (.sl [] .tight)]) 3),On (.store (.t 8) (.t 74) 3)])
 (.seq (.seq (.region [Ob 75 (.load (.t 8) (some 3)),Ob 76 (.call 15 [(.t 75)]),Ob 77 (.bin .neq (.t 76) (Ci 0))])
 (.cond (.t 77) (.seq (.region [Ob 78 (.call 16 []),Ob 4 (.mov (.t 78))])
 (.ret))
 (.skip)))
 (.seq (.region [Ob 80 (.load (.t 8) (some 3)),Ob 81 (.addr (.t 3) 0),Ob 82 (.load (.t 81) none),Ob 83 (.addr (.t 3) 1),Ob 84 (.load (.t 83) none),Ob 85 (.call 19 [(.t 80), (.t 82), (.t 84)]),Ob 79 (.mov (.t 85)),Ob 86 (.ext (.t 79) 0),Ob 87 (.ext (.t 79) 1),Ob 9 (.new (.agg [(.int .i64 0), (.int .i64 0), (.int .i64 0), (.int .i64 0), (.int .i64 0), (.int .i64 0)]) 6),On (.store (.t 9) (.t 86) 6),Ob 10 (.mov (.t 87))])
 (.seq (.seq (.region [Ob 88 (.mov (.t 10)),Ob 89 (.bin .neq (.t 88) (Ci 0)),Ob 90 (.mov (.t 89)),Og 91 90 false (.addr (.t 9) 3),Og 92 90 false (.load (.t 91) none),Og 93 90 false (.addr (.t 3) 2),Og 94 90 false (.load (.t 93) none),Og 95 90 false (.bin .geq (.t 92) (.t 94)),Og 96 90 false (.mov (.t 6)),Og 97 90 false (.bin .eql (.t 96) (Ci 0)),Og 98 90 false (.eqv true false [.b] (.t 95) (.t 97)),Ob 99 (.pick (.t 90) (.c (.bool true)) (.t 98))])
 (.cond (.t 99) (.seq (.region [Ob 4 (.mov (.c (.bool false)))])
 (.ret))
 (.skip)))
 (.seq (.seq (.region [Ob 100 (.mov (.t 6)),Ob 101 (.bin .neq (.t 100) (Ci 0)),Ob 102 (.mov (.t 101)),Og 103 102 false (.mov (.t 5)),Og 104 102 false (.bin .eql (.t 103) (Ci 0)),Ob 105 (.pick (.t 102) (.c (.bool true)) (.t 104))])
 (.cond (.t 105) (.seq (.region [Ob 106 (.call 16 []),Ob 4 (.mov (.t 106))])
 (.ret))
 (.skip)))
 (.seq (.region [Ob 107 (.mov (.t 5)),Ob 108 (.bin .sub (.t 107) (Ci 1)),Ob 109 (.addr (.t 7) 5),On (.store (.t 109) (.t 108) 1)])
 (.seq (.region [Ob 111 (.load (.t 2) (some 3)),Ob 112 (.load (.t 7) (some 6)),Ob 114 (.addr (.t 3) 0),Ob 115 (.load (.t 114) none),Ob 116 (.addr (.t 3) 1),Ob 117 (.load (.t 116) none),On (.mov (.c .undef)),Ob 113 (.call 26 [(.t 111), (.t 112)]),Ob 118 (.call 19 [(.t 113), (.t 115), (.t 117)]),Ob 110 (.mov (.t 118)),Ob 119 (.ext (.t 110) 0),Ob 120 (.ext (.t 110) 1),Ob 11 (.box (.t 119) 6),Ob 12 (.mov (.t 120))])
 (.seq (.region [Ob 121 (.mov (.t 12)),Ob 122 (.bin .eql (.t 121) (Ci 0)),Ob 123 (.mov (.t 122)),Og 124 123 true (.addr (.t 11) 3),Og 125 123 true (.load (.t 124) none),Og 126 123 true (.addr (.t 3) 2),Og 127 123 true (.load (.t 126) none),Og 128 123 true (.bin .lss (.t 125) (.t 127)),Ob 129 (.pick (.t 123) (.t 128) (.c (.bool false))),Ob 130 (.mov (.t 129)),Og 131 130 true (.call 16 []),Ob 132 (.pick (.t 130) (.t 131) (.c (.bool false))),Ob 4 (.mov (.t 132))])
 (.ret))))))))))))))
def r9 : List Res := [.t 4]
def a9 : AFn := ⟨2, c9, r9,.v⟩

def c10 : ACode := .seq (.region [Ob 2 (.box (.t 0) 3),Ob 3 (.box (.t 1) 3),Ob 4 (.mov (.c (.bool false)))])
 (.seq (.seq (.region [Ob 18 (.load (.t 2) (some 3)),Ob 19 (.call 14 [(.t 18)])])
 (.cond (.t 19) (.seq (.region [Ob 20 (.call 16 []),Ob 4 (.mov (.t 20))])
 (.ret))
 (.skip)))
 (.seq (.region [Ob 21 (.load (.t 2) (some 3)),Ob 22 (.callf 22 [(.t 21)]),Ob 5 (.new (.agg [(.int .i64 0), (.sl [] .tight), (.sl [] .tight)]) 3),On (.store (.t 5) (.t 22) 3)])
 (.seq (.seq (.region [Ob 23 (.load (.t 5) (some 3)),Ob 24 (.call 31 [(.t 23)]),Ob 25 (.load (.t 2) (some 3)),Ob 26 (.call 15 [(.t 25)]),Ob 27 (.bin .neq (.t 24) (.t 26))])
 (.cond (.t 27) (.seq (.region [Ob 4 (.mov (.c (.bool false)))])
 (.ret))
 (.skip)))
 (.seq (.region [Ob 29 (.load (.t 5) (some 3)),Ob 30 (.addr (.t 3) 0),Ob 31 (.load (.t 30) none),Ob 32 (.addr (.t 3) 1),Ob 33 (.load (.t 32) none),Ob 34 (.call 19 [(.t 29), (.t 31), (.t 33)]),Ob 28 (.mov (.t 34)),Ob 35 (.ext (.t 28) 0),Ob 36 (.ext (.t 28) 1),Ob 6 (.new (.agg [(.int .i64 0), (.int .i64 0), (.int .i64 0), (.int .i64 0), (.int .i64 0), (.int .i64 0)]) 6),On (.store (.t 6) (.t 35) 6),Ob 7 (.mov (.t 36))])
 (.seq (.region [Ob 38 (.load (.t 2) (some 3)),Ob 39 (.addr (.t 3) 0),Ob 40 (.load (.t 39) none),Ob 41 (.addr (.t 3) 1),Ob 42 (.load (.t 41) none),Ob 43 (.call 32 [(.t 38), (.t 40), (.t 42)]),Ob 37 (.mov (.t 43)),Ob 44 (.ext (.t 37) 0),Ob 45 (.ext (.t 37) 1),Ob 8 (.new (.agg [(.int .i64 0), (.int .i64 0), (.int .i64 0), (.int .i64 0), (.int .i64 0), (.int .i64 0)]) 6),On (.store (.t 8) (.t 44) 6),Ob 9 (.mov (.t 45))])
 (.seq (.region [Ob 47 (.load (.t 5) (some 3)),Ob 48 (.addr (.t 3) 0),Ob 49 (.load (.t 48) none),Ob 50 (.addr (.t 3) 1),Ob 51 (.load (.t 50) none),Ob 52 (.call 23 [(.t 47), (.t 49), (.t 51)]),Ob 46 (.mov (.t 52)),Ob 53 (.ext (.t 46) 0),Ob 54 (.ext (.t 46) 1),Ob 10 (.mov (.t 53)),Ob 11 (.mov (.t 54))])
 (.seq (.region [Ob 56 (.load (.t 2) (some 3)),Ob 57 (.addr (.t 3) 0),Ob 58 (.load (.t 57) none),Ob 59 (.addr (.t 3) 1),Ob 60 (.load (.t 59) none),Ob 61 (.call 33 [(.t 56), (.t 58), (.t 60)]),Ob 55 (.mov (.t 61)),Ob 62 (.ext (.t 55) 0),Ob 63 (.ext (.t 55) 1),Ob 12 (.mov (.t 62)),Ob 13 (.mov (.t 63))])
 (.seq (.region [Ob 65 (.load (.t 5) (some 3)),Ob 66 (.addr (.t 3) 1),Ob 67 (.load (.t 66) none),Ob 68 (.call 17 [(.t 65), (.t 67)]),Ob 64 (.mov (.t 68)),Ob 69 (.ext (.t 64) 0),Ob 70 (.ext (.t 64) 1),Ob 14 (.new (.agg [(.int .i64 0), (.int .i64 0), (.int .i64 0), (.int .i64 0), (.int .i64 0), (.int .i64 0)]) 6),On (.store (.t 14) (.t 69) 6),Ob 15 (.mov (.t 70))])
 (.seq (.region [Ob 72 (.load (.t 2) (some 3)),Ob 73 (.addr (.t 3) 1),Ob 74 (.load (.t 73) none),Ob 75 (.call 34 [(.t 72), (.t 74)]),Ob 71 (.mov (.t 75)),Ob 76 (.ext (.t 71) 0),Ob 77 (.ext (.t 71) 1),Ob 16 (.new (.agg [(.int .i64 0), (.int .i64 0), (.int .i64 0), (.int .i64 0), (.int .i64 0), (.int .i64 0)]) 6),On (.store (.t 16) (.t 76) 6),Ob 17 (.mov (.t 77))])
 (.seq (.region [Ob 78 (.load (.t 6) (some 6)),Ob 79 (.load (.t 8) (some 6)),Ob 80 (.eqv false true [.i,.i,.i,.i,.i,.i] (.t 78) (.t 79)),Ob 81 (.mov (.t 80)),Og 82 81 true (.mov (.t 7)),Og 83 81 true (.mov (.t 9)),Og 84 81 true (.bin .eql (.t 82) (.t 83)),Ob 85 (.pick (.t 81) (.t 84) (.c (.bool false))),Ob 86 (.mov (.t 85)),Og 87 86 true (.mov (.t 10)),Og 88 86 true (.mov (.t 12)),Og 89 86 true (.bin .eql (.t 87) (.t 88)),Ob 90 (.pick (.t 86) (.t 89) (.c (.bool false))),Ob 91 (.mov (.t 90)),Og 92 91 true (.mov (.t 11)),Og 93 91 true (.mov (.t 13)),Og 94 91 true (.bin .eql (.t 92) (.t 93)),Ob 95 (.pick (.t 91) (.t 94) (.c (.bool false))),Ob 96 (.mov (.t 95)),Og 97 96 true (.load (.t 14) (some 6)),Og 98 96 true (.load (.t 16) (some 6)),Og 99 96 true (.eqv false true [.i,.i,.i,.i,.i,.i] (.t 97) (.t 98)),Ob 100 (.pick (.t 96) (.t 99) (.c (.bool false))),Ob 101 (.mov (.t 100)),Og 102 101 true (.mov (.t 15)),Og 103 101 true (.mov (.t 17)),Og 104 101 true (.bin .eql (.t 102) (.t 103)),Ob 105 (.pick (.t 101) (.t 104) (.c (.bool false))),Ob 106 (.mov (.t 105)),Og 107 106 true (.load (.t 5) (some 3)),Og 108 106 true (.load (.t 2) (some 3)),Og 109 106 true (.call 25 [(.t 107), (.t 108)]),Ob 110 (.pick (.t 106) (.t 109) (.c (.bool false))),Ob 111 (.mov (.t 110)),Og 112 111 true (.call 16 []),Ob 113 (.pick (.t 111) (.t 112) (.c (.bool false))),Ob 4 (.mov (.t 113))])
 (.ret)))))))))))
def r10 : List Res := [.t 4]
def a10 : AFn := ⟨2, c10, r10,.v⟩

def c11 : ACode := .seq (.region [Ob 2 (.box (.t 0) 3),Ob 4 (.mov (.c (.bool false)))])
 (.seq (.seq (.region [Ob 9 (.load (.t 2) (some 3)),Ob 10 (.call 14 [(.t 9)]),Ob 11 (.mov (.t 10)),Og 12 11 false (.mov (.t 1)),Og 13 11 false (.len (.t 12)),Og 14 11 false (.bin .gtr (.t 13) (Ci 60)),Ob 15 (.pick (.t 11) (.c (.bool true)) (.t 14))])
 (.cond (.t 15) (.seq (.region [Ob 16 (.call 16 []),Ob 4 (.mov (.t 16))])
 (.ret))
 (.skip)))
 (.seq (.region [Ob 18 (.load (.t 2) (some 3)),Ob 19 (.callf 22 [(.t 18)]),Ob 20 (.lit false 52 6 []),Ob 21 (.mov (.t 1)),Ob 22 (.app false (.t 20) (.t 21) 52 6 48),Ob 23 (.call 24 [(.t 19), (.t 22)]),Ob 17 (.mov (.t 23)),Ob 24 (.ext (.t 17) 0),Ob 25 (.ext (.t 17) 1),Ob 5 (.new (.agg [(.int .i64 0), (.sl [] .tight), (.sl [] .tight)]) 3),On (.store (.t 5) (.t 24) 3),Ob 6 (.mov (.t 25))])
 (.seq (.region [Ob 27 (.load (.t 2) (some 3)),Ob 28 (.mov (.t 1)),Ob 29 (.call 35 [(.t 27), (.t 28)]),Ob 26 (.mov (.t 29)),Ob 30 (.ext (.t 26) 0),Ob 31 (.ext (.t 26) 1),Ob 7 (.new (.agg [(.int .i64 0), (.sl [] .tight), (.sl [] .tight)]) 3),On (.store (.t 7) (.t 30) 3),Ob 8 (.mov (.t 31))])
 (.seq (.region [Ob 32 (.load (.t 5) (some 3)),Ob 33 (.load (.t 7) (some 3)),Ob 34 (.call 25 [(.t 32), (.t 33)]),Ob 35 (.mov (.t 34)),Og 36 35 true (.mov (.t 6)),Og 37 35 true (.mov (.t 8)),Og 38 35 true (.bin .eql (.t 36) (.t 37)),Ob 39 (.pick (.t 35) (.t 38) (.c (.bool false))),Ob 40 (.mov (.t 39)),Og 41 40 true (.call 16 []),Ob 42 (.pick (.t 40) (.t 41) (.c (.bool false))),Ob 4 (.mov (.t 42))])
 (.ret)))))
def r11 : List Res := [.t 4]
def a11 : AFn := ⟨2, c11, r11,.v⟩

def c12 : ACode := .seq (.region [Ob 3 (.box (.t 0) 3),Ob 6 (.mov (.c (.bool false)))])
 (.seq (.seq (.region [Ob 13 (.load (.t 3) (some 3)),Ob 14 (.call 14 [(.t 13)]),Ob 15 (.mov (.t 14)),Og 16 15 false (.mov (.t 2)),Og 17 15 false (.len (.t 16)),Og 18 15 false (.bin .gtr (.t 17) (Ci 150)),Ob 19 (.pick (.t 15) (.c (.bool true)) (.t 18))])
 (.cond (.t 19) (.seq (.region [Ob 20 (.call 16 []),Ob 6 (.mov (.t 20))])
 (.ret))
 (.skip)))
 (.seq (.region [Ob 22 (.load (.t 3) (some 3)),Ob 23 (.callf 22 [(.t 22)]),Ob 24 (.mov (.t 1)),Ob 25 (.lit false 67 2 []),Ob 26 (.mov (.t 2)),Ob 27 (.app false (.t 25) (.t 26) 67 2 16),Ob 28 (.call 28 [(.t 23), (.t 24), (.t 27)]),Ob 21 (.mov (.t 28)),Ob 29 (.ext (.t 21) 0),Ob 30 (.ext (.t 21) 1),Ob 31 (.ext (.t 21) 2),Ob 7 (.mov (.t 29)),Ob 8 (.mov (.t 30)),Ob 9 (.mov (.t 31))])
 (.seq (.region [Ob 33 (.load (.t 3) (some 3)),Ob 34 (.mov (.t 1)),Ob 35 (.mov (.t 2)),Ob 36 (.call 36 [(.t 33), (.t 34), (.t 35)]),Ob 32 (.mov (.t 36)),Ob 37 (.ext (.t 32) 0),Ob 38 (.ext (.t 32) 1),Ob 39 (.ext (.t 32) 2),Ob 10 (.mov (.t 37)),Ob 11 (.mov (.t 38)),Ob 12 (.mov (.t 39))])
 (.seq (.region [Ob 40 (.mov (.t 7)),Ob 41 (.mov (.t 10)),Ob 42 (.call 29 [(.t 40), (.t 41)]),Ob 43 (.mov (.t 42)),Og 44 43 true (.mov (.t 8)),Og 45 43 true (.mov (.t 11)),Og 46 43 true (.call 29 [(.t 44), (.t 45)]),Ob 47 (.pick (.t 43) (.t 46) (.c (.bool false))),Ob 48 (.mov (.t 47)),Og 49 48 true (.mov (.t 9)),Og 50 48 true (.mov (.t 12)),Og 51 48 true (.bin .eql (.t 49) (.t 50)),Ob 52 (.pick (.t 48) (.t 51) (.c (.bool false))),Ob 53 (.mov (.t 52)),Og 54 53 true (.call 16 []),Ob 55 (.pick (.t 53) (.t 54) (.c (.bool false))),Ob 6 (.mov (.t 55))])
 (.ret)))))
def r12 : List Res := [.t 6]
def a12 : AFn := ⟨3, c12, r12,.v⟩

def c13 : ACode := .seq (.region [Ob 2 (.box (.t 0) 3),Ob 3 (.box (.t 1) 3),Ob 4 (.mov (.c (.bool false)))])
 (.seq (.seq (.region [Ob 9 (.load (.t 2) (some 3)),Ob 10 (.call 14 [(.t 9)])])
 (.cond (.t 10) (.seq (.region [Ob 11 (.call 16 []),Ob 4 (.mov (.t 11))])
 (.ret))
 (.skip)))
 (.seq (.region [Ob 13 (.load (.t 2) (some 3)),Ob 14 (.callf 22 [(.t 13)]),Ob 15 (.addr (.t 3) 0),Ob 16 (.load (.t 15) none),Ob 17 (.addr (.t 3) 1),Ob 18 (.load (.t 17) none),Ob 19 (.addr (.t 3) 2),Ob 20 (.load (.t 19) none),Ob 21 (.call 30 [(.t 14), (.t 16), (.t 18), (.t 20)]),Ob 12 (.mov (.t 21)),Ob 22 (.ext (.t 12) 0),Ob 23 (.ext (.t 12) 1),Ob 5 (.mov (.t 22)),Ob 6 (.mov (.t 23))])
 (.seq (.region [Ob 25 (.load (.t 2) (some 3)),Ob 26 (.addr (.t 3) 0),Ob 27 (.load (.t 26) none),Ob 28 (.addr (.t 3) 1),Ob 29 (.load (.t 28) none),Ob 30 (.addr (.t 3) 2),Ob 31 (.load (.t 30) none),Ob 32 (.call 37 [(.t 25), (.t 27), (.t 29), (.t 31)]),Ob 24 (.mov (.t 32)),Ob 33 (.ext (.t 24) 0),Ob 34 (.ext (.t 24) 1),Ob 7 (.mov (.t 33)),Ob 8 (.mov (.t 34))])
 (.seq (.region [Ob 35 (.mov (.t 5)),Ob 36 (.mov (.t 7)),Ob 37 (.bin .eql (.t 35) (.t 36)),Ob 38 (.mov (.t 37)),Og 39 38 true (.mov (.t 6)),Og 40 38 true (.mov (.t 8)),Og 41 38 true (.bin .eql (.t 39) (.t 40)),Ob 42 (.pick (.t 38) (.t 41) (.c (.bool false))),Ob 43 (.mov (.t 42)),Og 44 43 true (.call 16 []),Ob 45 (.pick (.t 43) (.t 44) (.c (.bool false))),Ob 4 (.mov (.t 45))])
 (.ret)))))
def r13 : List Res := [.t 4]
def a13 : AFn := ⟨2, c13, r13,.v⟩

def c14 : ACode := .seq (.region [Ob 1 (.box (.t 0) 3),Ob 2 (.mov (.c (.bool false)))])
 (.seq (.seq (.region [Ob 4 (.addr (.t 1) 1),Ob 5 (.load (.t 4) none),Ob 6 (.len (.t 5)),Ob 7 (.bin .gtr (.t 6) (Ci 20)),Ob 8 (.mov (.t 7)),Og 9 8 false (.addr (.t 1) 2),Og 10 8 false (.load (.t 9) none),Og 11 8 false (.len (.t 10)),Og 12 8 false (.bin .gtr (.t 11) (Ci 60)),Ob 13 (.pick (.t 8) (.c (.bool true)) (.t 12))])
 (.cond (.t 13) (.seq (.region [Ob 2 (.mov (.c (.bool true)))])
 (.ret))
 (.skip)))
 (.seq (.seq (.region [Ob 3 (.mov (Ci 0))])
 (.block 0 (.loop (.seq (.seq (.region [Ob 14 (.mov (.t 3)),Ob 15 (.addr (.t 1) 1),Ob 16 (.load (.t 15) none),Ob 17 (.len (.t 16)),Ob 18 (.bin .lss (.t 14) (.t 17))])
 (.cond (.t 18) (.skip)
 (.exit 0)))
 (.seq (.block 1 (.seq (.region [Ob 21 (.addr (.t 1) 1),Ob 22 (.load (.t 21) none),Ob 23 (.mov (.t 3)),Ob 24 (.idx (.t 22) (.t 23) 9),Ob 25 (.addr (.t 24) 3),Ob 26 (.load (.t 25) none),Ob 27 (.len (.t 26)),Ob 28 (.bin .gtr (.t 27) (Ci 30)),Ob 29 (.mov (.t 28)),Og 30 29 false (.addr (.t 1) 1),Og 31 29 false (.load (.t 30) none),Og 32 29 false (.mov (.t 3)),Og 33 29 false (.idx (.t 31) (.t 32) 9),Og 34 29 false (.addr (.t 33) 4),Og 35 29 false (.load (.t 34) none),Og 36 29 false (.len (.t 35)),Og 37 29 false (.bin .gtr (.t 36) (Ci 30)),Ob 38 (.pick (.t 29) (.c (.bool true)) (.t 37))])
 (.cond (.t 38) (.seq (.region [Ob 2 (.mov (.c (.bool true)))])
 (.ret))
 (.skip))))
 (.region [Ob 19 (.mov (.t 3)),Ob 20 (.bin .add (.t 19) (Ci 1)),Ob 3 (.mov (.t 20))]))))))
 (.seq (.region [Ob 2 (.mov (.c (.bool false)))])
 (.ret))))
def r14 : List Res := [.t 2]
def a14 : AFn := ⟨1, c14, r14,.v⟩

def c15 : ACode := .seq (.region [Ob 1 (.box (.t 0) 3),Ob 2 (.mov (Ci 0))])
 (.seq (.seq (.region [Ob 3 (.load (.t 1) (some 3)),Ob 4 (.call 38 [(.t 3)]),Ob 5 (.not (.t 4))])
 (.cond (.t 5) (.seq (.region [Ob 2 (.mov (Ci 80))])
 (.ret))
 (.skip)))
 (.seq (.seq (.region [Ob 6 (.addr (.t 1) 2),Ob 7 (.load (.t 6) none),Ob 8 (.len (.t 7)),Ob 9 (.bin .gtr (.t 8) (Ci 40)),Ob 10 (.mov (.t 9)),Og 11 10 false (.load (.t 1) (some 3)),Og 12 10 false (.addr (.t 1) 2),Og 13 10 false (.load (.t 12) none),Og 14 10 false (.call 39 [(.t 11), (.t 13)]),Og 15 10 false (.not (.t 14)),Ob 16 (.pick (.t 10) (.c (.bool true)) (.t 15))])
 (.cond (.t 16) (.seq (.region [Ob 2 (.mov (Ci 81))])
 (.ret))
 (.skip)))
 (.seq (.region [Ob 2 (.mov (Ci 0))])
 (.ret))))
def r15 : List Res := [.t 2]
def a15 : AFn := ⟨1, c15, r15,.v⟩

def c16 : ACode := .seq (.region [Ob 0 (.mov (.c (.bool false)))])
 (.seq (.region [Ob 8 (.call 40 []),Ob 1 (.new (.agg [(.int .i64 0), (.sl [] .tight), (.sl [] .tight)]) 3),On (.store (.t 1) (.t 8) 3)])
 (.seq (.region [Ob 10 (.load (.t 1) (some 3)),Ob 11 (.call 19 [(.t 10), (Ci 5), (Ci 10)]),Ob 9 (.mov (.t 11)),Ob 12 (.ext (.t 9) 0),Ob 13 (.ext (.t 9) 1),Ob 2 (.new (.agg [(.int .i64 0), (.int .i64 0), (.int .i64 0), (.int .i64 0), (.int .i64 0), (.int .i64 0)]) 6),On (.store (.t 2) (.t 12) 6),Ob 3 (.mov (.t 13))])
 (.seq (.region [Ob 15 (.load (.t 1) (some 3)),Ob 16 (.call 23 [(.t 15), (Ci 5), (Ci 12)]),Ob 14 (.mov (.t 16)),Ob 17 (.ext (.t 14) 0),Ob 18 (.ext (.t 14) 1),Ob 4 (.mov (.t 17)),Ob 5 (.mov (.t 18))])
 (.seq (.region [Ob 20 (.load (.t 1) (some 3)),Ob 21 (.call 30 [(.t 20), (Ci 5), (Ci 11), (Ci 3000)]),Ob 19 (.mov (.t 21)),Ob 22 (.ext (.t 19) 0),Ob 23 (.ext (.t 19) 1),Ob 6 (.mov (.t 22)),Ob 7 (.mov (.t 23))])
 (.seq (.region [Ob 24 (.mov (.t 3)),Ob 25 (.bin .eql (.t 24) (Ci 0)),Ob 26 (.mov (.t 25)),Og 27 26 true (.mov (.t 5)),Og 28 26 true (.bin .eql (.t 27) (Ci 0)),Ob 29 (.pick (.t 26) (.t 28) (.c (.bool false))),Ob 30 (.mov (.t 29)),Og 31 30 true (.mov (.t 7)),Og 32 30 true (.bin .eql (.t 31) (Ci 0)),Ob 33 (.pick (.t 30) (.t 32) (.c (.bool false))),Ob 34 (.mov (.t 33)),Og 35 34 true (.load (.t 2) (some 6)),Og 36 34 true (.build [(.int .i64 0), (.int .i64 0), (.int .i64 0), (.int .i64 0), (.int .i64 0), (.int .i64 0)] [(0, 1, (Ci 30000)), (1, 1, (Ci 3000)), (2, 1, (Ci 27000)), (3, 1, (Ci 18900)), (4, 1, (Ci 8100)), (5, 1, (Ci 1))]),Og 37 34 true (.eqv false true [.i,.i,.i,.i,.i,.i] (.t 35) (.t 36)),Ob 38 (.pick (.t 34) (.t 37) (.c (.bool false))),Ob 39 (.mov (.t 38)),Og 40 39 true (.mov (.t 4)),Og 41 39 true (.bin .eql (.t 40) (Ci 40000)),Ob 42 (.pick (.t 39) (.t 41) (.c (.bool false))),Ob 43 (.mov (.t 42)),Og 44 43 true (.mov (.t 6)),Og 45 43 true (.bin .eql (.t 44) (Ci 3333)),Ob 46 (.pick (.t 43) (.t 45) (.c (.bool false))),Ob 0 (.mov (.t 46))])
 (.ret))))))
def r16 : List Res := [.t 0]
def a16 : AFn := ⟨0, c16, r16,.v⟩

def c17 : ACode := .seq (.region [Ob 2 (.box (.t 0) 3),Ob 4 (.new (.agg [(.int .i64 0), (.int .i64 0), (.int .i64 0), (.int .i64 0), (.int .i64 0), (.int .i64 0)]) 6),Ob 5 (.mov (Ci 0))])
 (.seq (.seq (.region [Ob 10 (.load (.t 2) (some 3)),Ob 11 (.mov (.t 1)),Ob 12 (.call 41 [(.t 10), (.t 11)]),Ob 6 (.mov (.t 12))])
 (.seq (.region [Ob 13 (.mov (.t 6)),Ob 14 (.bin .neq (.t 13) (Ci 0))])
 (.cond (.t 14) (.seq (.region [Ob 15 (.build [(.int .i64 0), (.int .i64 0), (.int .i64 0), (.int .i64 0), (.int .i64 0), (.int .i64 0)] []),Ob 16 (.mov (.t 6)),On (.store (.t 4) (.t 15) 6),Ob 5 (.mov (.t 16))])
 (.ret))
 (.skip))))
 (.seq (.region [Ob 7 (.new (.agg [(.int .i64 0), (.int .i64 0), (.int .i64 0), (.int .i64 0), (.int .i64 0), (.int .i64 0)]) 6)])
 (.seq (.seq (.region [Ob 17 (.addr (.t 2) 1),Ob 18 (.load (.t 17) none),Ob 19 (.len (.t 18)),Ob 20 (.mov (Ci 0))])
 (.block 0 (.loop (.seq (.region [Ob 21 (.bin .lss (.t 20) (.t 19))])
 (.seq (.cond (.t 21) (.skip)
 (.exit 0))
 (.seq (.block 1 (.seq (.region [Ob 22 (.idx (.t 18) (.t 20) 9),Ob 23 (.load (.t 22) (some 9)),Ob 9 (.new (.agg [(.int .i64 0), (.int .i64 0), (.int .i64 0), (.sl [] .tight), (.sl [] .tight), (.int .i64 0), (.int .i64 0), (.int .i64 0), (.int .i64 0)]) 9),On (.store (.t 9) (.t 23) 9)])
 (.seq (.region [Ob 24 (.load (.t 9) (some 9)),Ob 25 (.mov (.t 1)),Ob 26 (.call 42 [(.t 24), (.t 25)])])
 (.cond (.t 26) (.region [Ob 27 (.load (.t 7) (some 6)),Ob 28 (.load (.t 2) (some 3)),Ob 29 (.load (.t 9) (some 9)),Ob 30 (.mov (.t 1)),Ob 31 (.call 44 [(.t 28), (.t 29), (.t 30)]),Ob 32 (.call 43 [(.t 27), (.t 31)]),On (.store (.t 7) (.t 32) 6)])
 (.skip)))))
 (.region [Ob 33 (.bin .add (.t 20) (Ci 1)),Ob 20 (.mov (.t 33))])))))))
 (.seq (.region [Ob 34 (.load (.t 7) (some 6)),On (.store (.t 4) (.t 34) 6),Ob 5 (.mov (Ci 0))])
 (.ret)))))
def r17 : List Res := [.cell 4 (some 6),.t 5]
def a17 : AFn := ⟨2, c17, r17,.v⟩

def c18 : ACode := .seq (.region [Ob 1 (.box (.t 0) 6),Ob 2 (.mov (.c (.bool false)))])
 (.seq (.region [Ob 3 (.addr (.t 1) 0),Ob 4 (.load (.t 3) none),Ob 5 (.addr (.t 1) 1),Ob 6 (.load (.t 5) none),Ob 7 (.addr (.t 1) 2),Ob 8 (.load (.t 7) none),Ob 9 (.bin .add (.t 6) (.t 8)),Ob 10 (.bin .eql (.t 4) (.t 9)),Ob 11 (.mov (.t 10)),Og 12 11 true (.addr (.t 1) 2),Og 13 11 true (.load (.t 12) none),Og 14 11 true (.addr (.t 1) 3),Og 15 11 true (.load (.t 14) none),Og 16 11 true (.addr (.t 1) 4),Og 17 11 true (.load (.t 16) none),Og 18 11 true (.bin .add (.t 15) (.t 17)),Og 19 11 true (.bin .eql (.t 13) (.t 18)),Ob 20 (.pick (.t 11) (.t 19) (.c (.bool false))),Ob 21 (.mov (.t 20)),Og 22 21 true (.addr (.t 1) 0),Og 23 21 true (.load (.t 22) none),Og 24 21 true (.addr (.t 1) 1),Og 25 21 true (.load (.t 24) none),Og 26 21 true (.addr (.t 1) 2),Og 27 21 true (.load (.t 26) none),Og 28 21 true (.addr (.t 1) 3),Og 29 21 true (.load (.t 28) none),Og 30 21 true (.addr (.t 1) 4),Og 31 21 true (.load (.t 30) none),Og 32 21 true (.mnl false (.t 23) [(.t 25), (.t 27), (.t 29), (.t 31)]),Og 33 21 true (.bin .geq (.t 32) (Ci 0)),Ob 34 (.pick (.t 21) (.t 33) (.c (.bool false))),Ob 2 (.mov (.t 34))])
 (.ret))
def r18 : List Res := [.t 2]
def a18 : AFn := ⟨1, c18, r18,.v⟩

def c19 : ACode := .seq (.region [Ob 3 (.box (.t 0) 3),Ob 6 (.new (.agg [(.int .i64 0), (.int .i64 0), (.int .i64 0), (.int .i64 0), (.int .i64 0), (.int .i64 0)]) 6),Ob 7 (.mov (Ci 0))])
 (.seq (.region [Ob 11 (.load (.t 3) (some 3)),Ob 12 (.mov (.t 1)),Ob 13 (.mov (.t 2)),Ob 14 (.call 45 [(.t 11), (.t 12), (.t 13)]),Ob 10 (.mov (.t 14)),Ob 15 (.ext (.t 10) 0),Ob 16 (.ext (.t 10) 1),Ob 8 (.new (.agg [(.int .i64 0), (.int .i64 0), (.int .i64 0), (.sl [] .tight), (.sl [] .tight), (.int .i64 0), (.int .i64 0), (.int .i64 0), (.int .i64 0)]) 9),On (.store (.t 8) (.t 15) 9),Ob 9 (.mov (.t 16))])
 (.seq (.seq (.region [Ob 17 (.mov (.t 9)),Ob 18 (.bin .neq (.t 17) (Ci 0))])
 (.cond (.t 18) (.seq (.region [Ob 19 (.build [(.int .i64 0), (.int .i64 0), (.int .i64 0), (.int .i64 0), (.int .i64 0), (.int .i64 0)] []),Ob 20 (.mov (.t 9)),On (.store (.t 6) (.t 19) 6),Ob 7 (.mov (.t 20))])
 (.ret))
 (.skip)))
 (.seq (.region [Ob 21 (.load (.t 3) (some 3)),Ob 22 (.load (.t 8) (some 9)),Ob 23 (.mov (.t 2)),Ob 24 (.call 44 [(.t 21), (.t 22), (.t 23)]),On (.store (.t 6) (.t 24) 6),Ob 7 (.mov (Ci 0))])
 (.ret))))
def r19 : List Res := [.cell 6 (some 6),.t 7]
def a19 : AFn := ⟨3, c19, r19,.v⟩

def c20 : ACode := .seq (.region [Ob 2 (.box (.t 0) 3),Ob 3 (.box (.t 1) 3),Ob 4 (.mov (.c (.bool false)))])
 (.seq (.seq (.region [Ob 7 (.load (.t 2) (some 3)),Ob 8 (.call 14 [(.t 7)]),Ob 9 (.mov (.t 8)),Og 10 9 false (.load (.t 2) (some 3)),Og 11 9 false (.call 15 [(.t 10)]),Og 12 9 false (.bin .neq (.t 11) (Ci 0)),Ob 13 (.pick (.t 9) (.c (.bool true)) (.t 12))])
 (.cond (.t 13) (.seq (.region [Ob 4 (.mov (.c (.bool false)))])
 (.ret))
 (.skip)))
 (.seq (.region [Ob 15 (.load (.t 2) (some 3)),Ob 16 (.addr (.t 3) 0),Ob 17 (.load (.t 16) none),Ob 18 (.call 21 [(.t 15), (.t 17)]),Ob 14 (.mov (.t 18)),Ob 19 (.ext (.t 14) 0),Ob 20 (.ext (.t 14) 1),Ob 5 (.new (.agg [(.int .i64 0), (.int .i64 0), (.int .i64 0), (.sl [] .tight), (.sl [] .tight), (.int .i64 0), (.int .i64 0), (.int .i64 0), (.int .i64 0)]) 9),On (.store (.t 5) (.t 19) 9),Ob 6 (.mov (.t 20))])
 (.seq (.region [Ob 21 (.mov (.t 6)),Ob 22 (.mov (.t 21)),Og 23 22 true (.addr (.t 5) 1),Og 24 22 true (.load (.t 23) none),Og 25 22 true (.addr (.t 3) 1),Og 26 22 true (.load (.t 25) none),Og 27 22 true (.bin .leq (.t 24) (.t 26)),Ob 28 (.pick (.t 22) (.t 27) (.c (.bool false))),Ob 29 (.mov (.t 28)),Og 30 29 true (.addr (.t 3) 1),Og 31 29 true (.load (.t 30) none),Og 32 29 true (.addr (.t 5) 2),Og 33 29 true (.load (.t 32) none),Og 34 29 true (.bin .leq (.t 31) (.t 33)),Ob 35 (.pick (.t 29) (.t 34) (.c (.bool false))),Ob 4 (.mov (.t 35))])
 (.ret))))
def r20 : List Res := [.t 4]
def a20 : AFn := ⟨2, c20, r20,.v⟩

def c21 : ACode := .seq (.region [Ob 2 (.box (.t 0) 3),Ob 4 (.new (.agg [(.int .i64 0), (.int .i64 0), (.int .i64 0), (.sl [] .tight), (.sl [] .tight), (.int .i64 0), (.int .i64 0), (.int .i64 0), (.int .i64 0)]) 9),Ob 5 (.mov (.c (.bool false)))])
 (.seq (.seq (.region [Ob 6 (.mov (Ci 0))])
 (.block 0 (.loop (.seq (.seq (.region [Ob 7 (.mov (.t 6)),Ob 8 (.addr (.t 2) 1),Ob 9 (.load (.t 8) none),Ob 10 (.len (.t 9)),Ob 11 (.bin .lss (.t 7) (.t 10))])
 (.cond (.t 11) (.skip)
 (.exit 0)))
 (.seq (.block 1 (.seq (.region [Ob 14 (.addr (.t 2) 1),Ob 15 (.load (.t 14) none),Ob 16 (.mov (.t 6)),Ob 17 (.idx (.t 15) (.t 16) 9),Ob 18 (.addr (.t 17) 0),Ob 19 (.load (.t 18) none),Ob 20 (.mov (.t 1)),Ob 21 (.bin .eql (.t 19) (.t 20))])
 (.cond (.t 21) (.seq (.region [Ob 22 (.addr (.t 2) 1),Ob 23 (.load (.t 22) none),Ob 24 (.mov (.t 6)),Ob 25 (.idx (.t 23) (.t 24) 9),Ob 26 (.load (.t 25) (some 9)),On (.store (.t 4) (.t 26) 9),Ob 5 (.mov (.c (.bool true)))])
 (.ret))
 (.skip))))
 (.region [Ob 12 (.mov (.t 6)),Ob 13 (.bin .add (.t 12) (Ci 1)),Ob 6 (.mov (.t 13))]))))))
 (.seq (.region [Ob 27 (.build [(.int .i64 0), (.int .i64 0), (.int .i64 0), (.sl [] .tight), (.sl [] .tight), (.int .i64 0), (.int .i64 0), (.int .i64 0), (.int .i64 0)] []),On (.store (.t 4) (.t 27) 9),Ob 5 (.mov (.c (.bool false)))])
 (.ret)))
def r21 : List Res := [.cell 4 (some 9),.t 5]
def a21 : AFn := ⟨2, c21, r21,.v⟩

def c22 : ACode := .seq (.region [Ob 1 (.box (.t 0) 3),Ob 2 (.new (.agg [(.int .i64 0), (.sl [] .tight), (.sl [] .tight)]) 3)])
 (.seq (.regionD [Ob 6 (.addr (.t 1) 0),Ob 7 (.load (.t 6) none),Ob 8 (.lit false 52 6 []),Ob 9 (.addr (.t 1) 2),Ob 10 (.load (.t 9) none),On (.mov (.c .undef)),Ob 11 (.app false (.t 8) (.t 10) 52 6 48),Ob 12 (.build [(.int .i64 0), (.sl [] .tight), (.sl [] .tight)] [(0, 1, (.t 7)), (2, 1, (.t 11))]),Ob 3 (.box (.t 12) 3)] [(1, 8), (6, 8)])
 (.seq (.seq (.region [Ob 4 (.mov (Ci 0))])
 (.block 0 (.loop (.seq (.seq (.region [Ob 13 (.mov (.t 4)),Ob 14 (.addr (.t 1) 1),Ob 15 (.load (.t 14) none),Ob 16 (.len (.t 15)),Ob 17 (.bin .lss (.t 13) (.t 16))])
 (.cond (.t 17) (.skip)
 (.exit 0)))
 (.seq (.block 1 (.seq (.region [Ob 20 (.addr (.t 1) 1),Ob 21 (.load (.t 20) none),Ob 22 (.mov (.t 4)),Ob 23 (.idx (.t 21) (.t 22) 9),Ob 24 (.load (.t 23) (some 9)),Ob 5 (.new (.agg [(.int .i64 0), (.int .i64 0), (.int .i64 0), (.sl [] .tight), (.sl [] .tight), (.int .i64 0), (.int .i64 0), (.int .i64 0), (.int .i64 0)]) 9),On (.store (.t 5) (.t 24) 9)])
 (.seq (.regionD [Ob 25 (.lit false 3 1 []),Ob 26 (.addr (.t 5) 3),Ob 27 (.load (.t 26) none),Ob 29 (.lit false 47 2 []),Ob 30 (.addr (.t 5) 4),Ob 31 (.load (.t 30) none),Ob 28 (.app false (.t 25) (.t 27) 3 1 8),Ob 33 (.addr (.t 5) 3),Ob 32 (.app false (.t 29) (.t 31) 47 2 16),On (.store (.t 33) (.t 28) 1),Ob 34 (.addr (.t 5) 4),On (.store (.t 34) (.t 32) 1)] [(5, 25), (30, 25), (5, 29)])
 (.region [Ob 35 (.addr (.t 3) 1),Ob 36 (.load (.t 35) none),Ob 37 (.load (.t 5) (some 9)),Ob 38 (.lit false 39 9 [(.t 37)]),Ob 39 (.app false (.t 36) (.t 38) 39 9 104),Ob 40 (.addr (.t 3) 1),On (.store (.t 40) (.t 39) 1)]))))
 (.region [Ob 18 (.mov (.t 4)),Ob 19 (.bin .add (.t 18) (Ci 1)),Ob 4 (.mov (.t 19))]))))))
 (.seq (.region [Ob 41 (.load (.t 3) (some 3)),On (.store (.t 2) (.t 41) 3)])
 (.ret))))
def r22 : List Res := [.cell 2 (some 3)]
def a22 : AFn := ⟨1, c22, r22,.o⟩

def c23 : ACode := .seq (.region [Ob 3 (.box (.t 0) 3),Ob 6 (.mov (Ci 0)),Ob 7 (.mov (Ci 0))])
 (.seq (.seq (.region [Ob 11 (.load (.t 3) (some 3)),Ob 12 (.call 31 [(.t 11)]),Ob 8 (.mov (.t 12))])
 (.seq (.region [Ob 13 (.mov (.t 8)),Ob 14 (.bin .neq (.t 13) (Ci 0))])
 (.cond (.t 14) (.seq (.region [Ob 15 (.mov (.t 8)),Ob 6 (.mov (Ci 0)),Ob 7 (.mov (.t 15))])
 (.ret))
 (.skip))))
 (.seq (.region [Ob 17 (.addr (.t 3) 1),Ob 18 (.load (.t 17) none),Ob 19 (.mov (.t 1)),Ob 20 (.call 46 [(.t 18), (.t 19)]),Ob 16 (.mov (.t 20)),Ob 21 (.ext (.t 16) 0),Ob 22 (.ext (.t 16) 1),Ob 9 (.new (.agg [(.int .i64 0), (.int .i64 0), (.int .i64 0), (.sl [] .tight), (.sl [] .tight), (.int .i64 0), (.int .i64 0), (.int .i64 0), (.int .i64 0)]) 9),On (.store (.t 9) (.t 21) 9),Ob 10 (.mov (.t 22))])
 (.seq (.seq (.region [Ob 23 (.mov (.t 10)),Ob 24 (.not (.t 23)),Ob 25 (.mov (.t 24)),Og 26 25 false (.mov (.t 2)),Og 27 25 false (.call 47 [(.t 26)]),Og 28 25 false (.not (.t 27)),Ob 29 (.pick (.t 25) (.c (.bool true)) (.t 28))])
 (.cond (.t 29) (.seq (.region [Ob 6 (.mov (Ci 0)),Ob 7 (.mov (Ci 1))])
 (.ret))
 (.skip)))
 (.seq (.region [Ob 30 (.load (.t 3) (some 3)),Ob 31 (.load (.t 9) (some 9)),Ob 32 (.mov (.t 2)),Ob 33 (.call 48 [(.t 30), (.t 31), (.t 32)]),Ob 6 (.mov (.t 33)),Ob 7 (.mov (Ci 0))])
 (.ret)))))
def r23 : List Res := [.t 6,.t 7]
def a23 : AFn := ⟨3, c23, r23,.v⟩

def c24 : ACode := .seq (.region [Ob 2 (.box (.t 0) 3),Ob 4 (.new (.agg [(.int .i64 0), (.sl [] .tight), (.sl [] .tight)]) 3),Ob 5 (.mov (Ci 0))])
 (.seq (.seq (.region [Ob 8 (.load (.t 2) (some 3)),Ob 9 (.call 31 [(.t 8)]),Ob 6 (.mov (.t 9))])
 (.seq (.region [Ob 10 (.mov (.t 6)),Ob 11 (.bin .neq (.t 10) (Ci 0))])
 (.cond (.t 11) (.seq (.region [Ob 12 (.build [(.int .i64 0), (.sl [] .tight), (.sl [] .tight)] []),Ob 13 (.mov (.t 6)),On (.store (.t 4) (.t 12) 3),Ob 5 (.mov (.t 13))])
 (.ret))
 (.skip))))
 (.seq (.seq (.region [Ob 14 (.load (.t 2) (some 3)),Ob 15 (.mov (.t 1)),Ob 16 (.call 49 [(.t 14), (.t 15)]),Ob 17 (.not (.t 16))])
 (.cond (.t 17) (.seq (.region [Ob 18 (.build [(.int .i64 0), (.sl [] .tight), (.sl [] .tight)] []),On (.store (.t 4) (.t 18) 3),Ob 5 (.mov (Ci 81))])
 (.ret))
 (.skip)))
 (.seq (.region [Ob 19 (.addr (.t 2) 2),Ob 20 (.load (.t 19) none),Ob 21 (.mov (.t 1)),Ob 22 (.call 50 [(.t 20), (.t 21)]),Ob 7 (.mov (.t 22))])
 (.seq (.seq (.region [Ob 23 (.mov (.t 7)),Ob 24 (.len (.t 23)),Ob 25 (.bin .gtr (.t 24) (Ci 40)),Ob 26 (.mov (.t 25)),Og 27 26 false (.mov (.t 7)),Og 28 26 false (.call 51 [(.t 27)]),Ob 29 (.pick (.t 26) (.c (.bool true)) (.t 28))])
 (.cond (.t 29) (.seq (.region [Ob 30 (.build [(.int .i64 0), (.sl [] .tight), (.sl [] .tight)] []),On (.store (.t 4) (.t 30) 3),Ob 5 (.mov (Ci 81))])
 (.ret))
 (.skip)))
 (.seq (.region [Ob 31 (.addr (.t 2) 0),Ob 32 (.load (.t 31) none),Ob 33 (.addr (.t 2) 1),Ob 34 (.load (.t 33) none),Ob 35 (.call 52 [(.t 34)]),Ob 36 (.mov (.t 7)),Ob 37 (.build [(.int .i64 0), (.sl [] .tight), (.sl [] .tight)] [(0, 1, (.t 32)), (1, 1, (.t 35)), (2, 1, (.t 36))]),On (.store (.t 4) (.t 37) 3),Ob 5 (.mov (Ci 0))])
 (.ret))))))
def r24 : List Res := [.cell 4 (some 3),.t 5]
def a24 : AFn := ⟨2, c24, r24,.v⟩

def c25 : ACode := .seq (.region [Ob 2 (.box (.t 0) 3),Ob 3 (.box (.t 1) 3),Ob 4 (.mov (.c (.bool false)))])
 (.seq (.seq (.region [Ob 6 (.addr (.t 2) 0),Ob 7 (.load (.t 6) none),Ob 8 (.addr (.t 3) 0),Ob 9 (.load (.t 8) none),Ob 10 (.bin .neq (.t 7) (.t 9)),Ob 11 (.mov (.t 10)),Og 12 11 false (.addr (.t 2) 1),Og 13 11 false (.load (.t 12) none),Og 14 11 false (.len (.t 13)),Og 15 11 false (.addr (.t 3) 1),Og 16 11 false (.load (.t 15) none),Og 17 11 false (.len (.t 16)),Og 18 11 false (.bin .neq (.t 14) (.t 17)),Ob 19 (.pick (.t 11) (.c (.bool true)) (.t 18)),Ob 20 (.mov (.t 19)),Og 21 20 false (.addr (.t 2) 2),Og 22 20 false (.load (.t 21) none),Og 23 20 false (.addr (.t 3) 2),Og 24 20 false (.load (.t 23) none),Og 25 20 false (.call 53 [(.t 22), (.t 24)]),Og 26 20 false (.not (.t 25)),Ob 27 (.pick (.t 20) (.c (.bool true)) (.t 26))])
 (.cond (.t 27) (.seq (.region [Ob 4 (.mov (.c (.bool false)))])
 (.ret))
 (.skip)))
 (.seq (.seq (.region [Ob 5 (.mov (Ci 0))])
 (.block 0 (.loop (.seq (.seq (.region [Ob 28 (.mov (.t 5)),Ob 29 (.addr (.t 2) 1),Ob 30 (.load (.t 29) none),Ob 31 (.len (.t 30)),Ob 32 (.bin .lss (.t 28) (.t 31))])
 (.cond (.t 32) (.skip)
 (.exit 0)))
 (.seq (.block 1 (.seq (.region [Ob 35 (.addr (.t 2) 1),Ob 36 (.load (.t 35) none),Ob 37 (.mov (.t 5)),Ob 38 (.idx (.t 36) (.t 37) 9),Ob 39 (.load (.t 38) (some 9)),Ob 40 (.addr (.t 3) 1),Ob 41 (.load (.t 40) none),Ob 42 (.mov (.t 5)),Ob 43 (.idx (.t 41) (.t 42) 9),Ob 44 (.load (.t 43) (some 9)),Ob 45 (.call 54 [(.t 39), (.t 44)]),Ob 46 (.not (.t 45))])
 (.cond (.t 46) (.seq (.region [Ob 4 (.mov (.c (.bool false)))])
 (.ret))
 (.skip))))
 (.region [Ob 33 (.mov (.t 5)),Ob 34 (.bin .add (.t 33) (Ci 1)),Ob 5 (.mov (.t 34))]))))))
 (.seq (.region [Ob 4 (.mov (.c (.bool true)))])
 (.ret))))
def r25 : List Res := [.t 4]
def a25 : AFn := ⟨2, c25, r25,.v⟩

def c26 : ACode := .seq (.region [Ob 2 (.box (.t 0) 3),Ob 3 (.box (.t 1) 6),Ob 4 (.new (.agg [(.int .i64 0), (.sl [] .tight), (.sl [] .tight)]) 3)])
 (.seq (.region [Ob 7 (.load (.t 2) (some 3)),Ob 8 (.call 22 [(.t 7)]),Ob 5 (.new (.agg [(.int .i64 0), (.sl [] .tight), (.sl [] .tight)]) 3),On (.store (.t 5) (.t 8) 3)])
 (.seq (.region [Ob 9 (.addr (.t 3) 0),On (.store (.t 9) (Ci 0) 1)])
 (.seq (.seq (.region [Ob 6 (.mov (Ci 0))])
 (.block 0 (.loop (.seq (.seq (.region [Ob 10 (.mov (.t 6)),Ob 11 (.addr (.t 2) 2),Ob 12 (.load (.t 11) none),Ob 13 (.len (.t 12)),Ob 14 (.bin .lss (.t 10) (.t 13))])
 (.cond (.t 14) (.skip)
 (.exit 0)))
 (.seq (.block 1 (.region [Ob 17 (.addr (.t 3) 0),Ob 18 (.load (.t 17) none),Ob 19 (.addr (.t 2) 2),Ob 20 (.load (.t 19) none),Ob 21 (.mov (.t 6)),Ob 22 (.idx (.t 20) (.t 21) 6),Ob 23 (.addr (.t 22) 0),Ob 24 (.load (.t 23) none),Ob 25 (.bin .add (.t 24) (Ci 1)),Ob 26 (.mnx true (.t 18) (.t 25)),Ob 27 (.addr (.t 3) 0),On (.store (.t 27) (.t 26) 1)]))
 (.region [Ob 15 (.mov (.t 6)),Ob 16 (.bin .add (.t 15) (Ci 1)),Ob 6 (.mov (.t 16))]))))))
 (.seq (.region [Ob 28 (.addr (.t 5) 2),Ob 29 (.load (.t 28) none),Ob 30 (.load (.t 3) (some 6)),Ob 31 (.lit false 52 6 [(.t 30)]),Ob 32 (.app false (.t 29) (.t 31) 52 6 48),Ob 33 (.addr (.t 5) 2),On (.store (.t 33) (.t 32) 1)])
 (.seq (.region [Ob 34 (.load (.t 5) (some 3)),On (.store (.t 4) (.t 34) 3)])
 (.ret))))))
def r26 : List Res := [.cell 4 (some 3)]
def a26 : AFn := ⟨2, c26, r26,.v⟩

def c27 : ACode := .seq (.region [Ob 2 (.box (.t 0) 3),Ob 4 (.mov (.c (.bool false)))])
 (.seq (.seq (.region [Ob 5 (.mov (Ci 0))])
 (.block 0 (.loop (.seq (.seq (.region [Ob 8 (.mov (.t 5)),Ob 9 (.mov (.t 1)),Ob 10 (.len (.t 9)),Ob 11 (.bin .lss (.t 8) (.t 10))])
 (.cond (.t 11) (.skip)
 (.exit 0)))
 (.seq (.block 1 (.seq (.region [Ob 15 (.load (.t 2) (some 3)),Ob 16 (.mov (.t 1)),Ob 17 (.mov (.t 5)),Ob 18 (.idx (.t 16) (.t 17) 2),Ob 19 (.addr (.t 18) 0),Ob 20 (.load (.t 19) none),On (.mov (.c .undef)),Ob 21 (.call 21 [(.t 15), (.t 20)]),Ob 14 (.mov (.t 21)),Ob 22 (.ext (.t 14) 0),Ob 23 (.ext (.t 14) 1),Ob 6 (.box (.t 22) 9),Ob 7 (.mov (.t 23))])
 (.seq (.region [Ob 24 (.mov (.t 7)),Ob 25 (.not (.t 24)),Ob 26 (.mov (.t 25)),Og 27 26 false (.mov (.t 1)),Og 28 26 false (.mov (.t 5)),Og 29 26 false (.idx (.t 27) (.t 28) 2),Og 30 26 false (.addr (.t 29) 1),Og 31 26 false (.load (.t 30) none),Og 32 26 false (.call 55 [(.t 31), (Ci 0), (Ci 1000000000)]),Og 33 26 false (.not (.t 32)),Ob 34 (.pick (.t 26) (.c (.bool true)) (.t 33))])
 (.cond (.t 34) (.seq (.region [Ob 4 (.mov (.c (.bool false)))])
 (.ret))
 (.skip)))))
 (.region [Ob 12 (.mov (.t 5)),Ob 13 (.bin .add (.t 12) (Ci 1)),Ob 5 (.mov (.t 13))]))))))
 (.seq (.region [Ob 35 (.mov (.t 1)),Ob 36 (.len (.t 35)),Ob 37 (.bin .leq (.t 36) (Ci 100)),Ob 4 (.mov (.t 37))])
 (.ret)))
def r27 : List Res := [.t 4]
def a27 : AFn := ⟨2, c27, r27,.v⟩

def c28 : ACode := .seq (.region [Ob 3 (.box (.t 0) 3),Ob 6 (.mov (.c (.sl [] .tight))),Ob 7 (.mov (.c (.sl [] .tight))),Ob 8 (.mov (Ci 0))])
 (.seq (.seq (.region [Ob 13 (.load (.t 3) (some 3)),Ob 14 (.mov (.t 1)),Ob 15 (.call 41 [(.t 13), (.t 14)]),Ob 9 (.mov (.t 15))])
 (.seq (.region [Ob 16 (.mov (.t 9)),Ob 17 (.bin .neq (.t 16) (Ci 0))])
 (.cond (.t 17) (.seq (.region [Ob 18 (.mov (.t 9)),Ob 6 (.mov (.c (.sl [] .tight))),Ob 7 (.mov (.c (.sl [] .tight))),Ob 8 (.mov (.t 18))])
 (.ret))
 (.skip))))
 (.seq (.seq (.region [Ob 19 (.load (.t 3) (some 3)),Ob 20 (.mov (.t 2)),Ob 21 (.call 56 [(.t 19), (.t 20)]),Ob 22 (.not (.t 21))])
 (.cond (.t 22) (.seq (.region [Ob 6 (.mov (.c (.sl [] .tight))),Ob 7 (.mov (.c (.sl [] .tight))),Ob 8 (.mov (Ci 82))])
 (.ret))
 (.skip)))
 (.seq (.seq (.region [Ob 23 (.addr (.t 3) 1),Ob 24 (.load (.t 23) none),Ob 25 (.call 57 [(.t 24)]),Ob 26 (.len (.t 25)),Ob 27 (.mov (Ci 0))])
 (.block 0 (.loop (.seq (.region [Ob 28 (.bin .lss (.t 27) (.t 26))])
 (.seq (.cond (.t 28) (.skip)
 (.exit 0))
 (.seq (.block 1 (.seq (.region [Ob 29 (.idx (.t 25) (.t 27) 9),Ob 30 (.load (.t 29) (some 9)),Ob 11 (.new (.agg [(.int .i64 0), (.int .i64 0), (.int .i64 0), (.sl [] .tight), (.sl [] .tight), (.int .i64 0), (.int .i64 0), (.int .i64 0), (.int .i64 0)]) 9),On (.store (.t 11) (.t 30) 9)])
 (.seq (.region [Ob 31 (.load (.t 3) (some 3)),Ob 32 (.load (.t 11) (some 9)),Ob 33 (.mov (.t 1)),Ob 34 (.call 48 [(.t 31), (.t 32), (.t 33)]),Ob 35 (.mov (.t 2)),Ob 36 (.addr (.t 11) 0),Ob 37 (.load (.t 36) none),Ob 38 (.call 58 [(.t 35), (.t 37)]),Ob 39 (.bin .sub (.t 34) (.t 38)),Ob 12 (.mov (.t 39))])
 (.block 2 (.seq (.region [Ob 41 (.mov (.t 12)),Ob 42 (.bin .gtr (.t 41) (Ci 0)),Ob 40 (.mov (.t 42))])
 (.cond (.t 40) (.region [Ob 43 (.mov (.t 6)),Ob 44 (.addr (.t 11) 0),Ob 45 (.load (.t 44) none),Ob 46 (.mov (.t 12)),Ob 47 (.build [(.int .i64 0), (.int .i64 0)] [(0, 1, (.t 45)), (1, 1, (.t 46))]),Ob 48 (.lit false 67 2 [(.t 47)]),Ob 49 (.app false (.t 43) (.t 48) 67 2 16),Ob 6 (.mov (.t 49))])
 (.seq (.region [Ob 51 (.mov (.t 12)),Ob 52 (.bin .lss (.t 51) (Ci 0)),Ob 50 (.mov (.t 52))])
 (.cond (.t 50) (.region [Ob 53 (.mov (.t 7)),Ob 54 (.addr (.t 11) 0),Ob 55 (.load (.t 54) none),Ob 56 (.mov (.t 12)),Ob 57 (.neg (.t 56)),Ob 58 (.build [(.int .i64 0), (.int .i64 0)] [(0, 1, (.t 55)), (1, 1, (.t 57))]),Ob 59 (.lit false 67 2 [(.t 58)]),Ob 60 (.app false (.t 53) (.t 59) 67 2 16),Ob 7 (.mov (.t 60))])
 (.skip)))))))))
 (.region [Ob 61 (.bin .add (.t 27) (Ci 1)),Ob 27 (.mov (.t 61))])))))))
 (.seq (.region [Ob 62 (.mov (.t 6)),Ob 63 (.mov (.t 7)),Ob 6 (.mov (.t 62)),Ob 7 (.mov (.t 63)),Ob 8 (.mov (Ci 0))])
 (.ret)))))
def r28 : List Res := [.t 6,.t 7,.t 8]
def a28 : AFn := ⟨3, c28, r28,.v⟩

def c29 : ACode := .seq (.region [Ob 4 (.mov (.c (.bool false)))])
 (.seq (.seq (.region [Ob 6 (.mov (.t 0)),Ob 7 (.len (.t 6)),Ob 8 (.mov (.t 1)),Ob 9 (.len (.t 8)),Ob 10 (.bin .neq (.t 7) (.t 9))])
 (.cond (.t 10) (.seq (.region [Ob 4 (.mov (.c (.bool false)))])
 (.ret))
 (.skip)))
 (.seq (.seq (.region [Ob 5 (.mov (Ci 0))])
 (.block 0 (.loop (.seq (.seq (.region [Ob 11 (.mov (.t 5)),Ob 12 (.mov (.t 0)),Ob 13 (.len (.t 12)),Ob 14 (.bin .lss (.t 11) (.t 13))])
 (.cond (.t 14) (.skip)
 (.exit 0)))
 (.seq (.block 1 (.seq (.region [Ob 17 (.mov (.t 0)),Ob 18 (.mov (.t 5)),Ob 19 (.idx (.t 17) (.t 18) 2),Ob 20 (.load (.t 19) (some 2)),Ob 21 (.mov (.t 1)),Ob 22 (.mov (.t 5)),Ob 23 (.idx (.t 21) (.t 22) 2),Ob 24 (.load (.t 23) (some 2)),Ob 25 (.eqv true true [.i,.i] (.t 20) (.t 24))])
 (.cond (.t 25) (.seq (.region [Ob 4 (.mov (.c (.bool false)))])
 (.ret))
 (.skip))))
 (.region [Ob 15 (.mov (.t 5)),Ob 16 (.bin .add (.t 15) (Ci 1)),Ob 5 (.mov (.t 16))]))))))
 (.seq (.region [Ob 4 (.mov (.c (.bool true)))])
 (.ret))))
def r29 : List Res := [.t 4]
def a29 : AFn := ⟨2, c29, r29,.v⟩

def c30 : ACode := .seq (.region [Ob 4 (.box (.t 0) 3),Ob 6 (.box (.t 2) 1),Ob 7 (.box (.t 3) 1),Ob 8 (.mov (Ci 0)),Ob 9 (.mov (Ci 0))])
 (.seq (.region [Ob 14 (.load (.t 4) (some 3)),Ob 15 (.mov (.t 1)),Ob 16 (.load (.t 6) none),Ob 17 (.call 45 [(.t 14), (.t 15), (.t 16)]),Ob 13 (.mov (.t 17)),Ob 18 (.ext (.t 13) 0),Ob 19 (.ext (.t 13) 1),Ob 10 (.new (.agg [(.int .i64 0), (.int .i64 0), (.int .i64 0), (.sl [] .tight), (.sl [] .tight), (.int .i64 0), (.int .i64 0), (.int .i64 0), (.int .i64 0)]) 9),On (.store (.t 10) (.t 18) 9),Ob 11 (.mov (.t 19))])
 (.seq (.seq (.region [Ob 20 (.mov (.t 11)),Ob 21 (.bin .neq (.t 20) (Ci 0))])
 (.cond (.t 21) (.seq (.region [Ob 22 (.mov (.t 11)),Ob 8 (.mov (Ci 0)),Ob 9 (.mov (.t 22))])
 (.ret))
 (.skip)))
 (.seq (.seq (.region [Ob 23 (.load (.t 7) none),Ob 24 (.call 59 [(.t 23)]),Ob 25 (.not (.t 24))])
 (.cond (.t 25) (.seq (.region [Ob 8 (.mov (Ci 0)),Ob 9 (.mov (Ci 1))])
 (.ret))
 (.skip)))
 (.seq (.region [Ob 26 (.clo 61 [] [(.t 4), (.t 10), (.t 6), (.t 7)]),Ob 27 (.call 60 [(Ci 10000001), (.t 26)]),Ob 12 (.mov (.t 27))])
 (.seq (.seq (.region [Ob 28 (.mov (.t 12)),Ob 29 (.bin .gtr (.t 28) (Ci 10000000))])
 (.cond (.t 29) (.seq (.region [Ob 8 (.mov (Ci 0)),Ob 9 (.mov (Ci 3))])
 (.ret))
 (.skip)))
 (.seq (.region [Ob 30 (.mov (.t 12)),Ob 8 (.mov (.t 30)),Ob 9 (.mov (Ci 0))])
 (.ret)))))))
def r30 : List Res := [.t 8,.t 9]
def a30 : AFn := ⟨4, c30, r30,.v⟩

def c31 : ACode := .seq (.region [Ob 1 (.box (.t 0) 3),Ob 2 (.mov (Ci 0))])
 (.seq (.block 0 (.seq (.region [Ob 4 (.load (.t 1) (some 3)),Ob 5 (.call 63 [(.t 4)]),Ob 6 (.not (.t 5)),Ob 3 (.mov (.t 6))])
 (.cond (.t 3) (.seq (.region [Ob 2 (.mov (Ci 80))])
 (.ret))
 (.seq (.region [Ob 8 (.load (.t 1) (some 3)),Ob 9 (.addr (.t 1) 2),Ob 10 (.load (.t 9) none),Ob 11 (.call 49 [(.t 8), (.t 10)]),Ob 12 (.not (.t 11)),Ob 13 (.mov (.t 12)),Og 14 13 false (.addr (.t 1) 2),Og 15 13 false (.load (.t 14) none),Og 16 13 false (.call 51 [(.t 15)]),Ob 17 (.pick (.t 13) (.c (.bool true)) (.t 16)),Ob 7 (.mov (.t 17))])
 (.cond (.t 7) (.seq (.region [Ob 2 (.mov (Ci 81))])
 (.ret))
 (.skip))))))
 (.seq (.region [Ob 2 (.mov (Ci 0))])
 (.ret)))
def r31 : List Res := [.t 2]
def a31 : AFn := ⟨1, c31, r31,.v⟩

def c32 : ACode := .seq (.region [Ob 3 (.box (.t 0) 3),Ob 6 (.new (.agg [(.int .i64 0), (.int .i64 0), (.int .i64 0), (.int .i64 0), (.int .i64 0), (.int .i64 0)]) 6),Ob 7 (.mov (Ci 0))])
 (.seq (.seq (.region [Ob 11 (.load (.t 3) (some 3)),Ob 12 (.call 15 [(.t 11)]),Ob 8 (.mov (.t 12))])
 (.seq (.region [Ob 13 (.mov (.t 8)),Ob 14 (.bin .neq (.t 13) (Ci 0))])
 (.cond (.t 14) (.seq (.region [Ob 15 (.build [(.int .i64 0), (.int .i64 0), (.int .i64 0), (.int .i64 0), (.int .i64 0), (.int .i64 0)] []),Ob 16 (.mov (.t 8)),On (.store (.t 6) (.t 15) 6),Ob 7 (.mov (.t 16))])
 (.ret))
 (.skip))))
 (.seq (.region [Ob 18 (.load (.t 3) (some 3)),Ob 19 (.mov (.t 1)),Ob 20 (.call 21 [(.t 18), (.t 19)]),Ob 17 (.mov (.t 20)),Ob 21 (.ext (.t 17) 0),Ob 22 (.ext (.t 17) 1),Ob 9 (.new (.agg [(.int .i64 0), (.int .i64 0), (.int .i64 0), (.sl [] .tight), (.sl [] .tight), (.int .i64 0), (.int .i64 0), (.int .i64 0), (.int .i64 0)]) 9),On (.store (.t 9) (.t 21) 9),Ob 10 (.mov (.t 22))])
 (.seq (.seq (.region [Ob 23 (.mov (.t 10)),Ob 24 (.not (.t 23)),Ob 25 (.mov (.t 24)),Og 26 25 false (.mov (.t 2)),Og 27 25 false (.addr (.t 9) 1),Og 28 25 false (.load (.t 27) none),Og 29 25 false (.addr (.t 9) 2),Og 30 25 false (.load (.t 29) none),Og 31 25 false (.call 55 [(.t 26), (.t 28), (.t 30)]),Og 32 25 false (.not (.t 31)),Ob 33 (.pick (.t 25) (.c (.bool true)) (.t 32))])
 (.cond (.t 33) (.seq (.region [Ob 34 (.build [(.int .i64 0), (.int .i64 0), (.int .i64 0), (.int .i64 0), (.int .i64 0), (.int .i64 0)] []),On (.store (.t 6) (.t 34) 6),Ob 7 (.mov (Ci 1))])
 (.ret))
 (.skip)))
 (.seq (.region [Ob 35 (.load (.t 3) (some 3)),Ob 36 (.load (.t 9) (some 9)),Ob 37 (.mov (.t 2)),Ob 38 (.call 64 [(.t 35), (.t 36), (.t 37)]),On (.store (.t 6) (.t 38) 6),Ob 7 (.mov (Ci 0))])
 (.ret)))))
def r32 : List Res := [.cell 6 (some 6),.t 7]
def a32 : AFn := ⟨3, c32, r32,.v⟩

def c33 : ACode := .seq (.region [Ob 3 (.box (.t 0) 3),Ob 6 (.mov (Ci 0)),Ob 7 (.mov (Ci 0))])
 (.seq (.seq (.region [Ob 11 (.load (.t 3) (some 3)),Ob 12 (.call 15 [(.t 11)]),Ob 8 (.mov (.t 12))])
 (.seq (.region [Ob 13 (.mov (.t 8)),Ob 14 (.bin .neq (.t 13) (Ci 0))])
 (.cond (.t 14) (.seq (.region [Ob 15 (.mov (.t 8)),Ob 6 (.mov (Ci 0)),Ob 7 (.mov (.t 15))])
 (.ret))
 (.skip))))
 (.seq (.region [Ob 17 (.load (.t 3) (some 3)),Ob 18 (.mov (.t 1)),Ob 19 (.call 21 [(.t 17), (.t 18)]),Ob 16 (.mov (.t 19)),Ob 20 (.ext (.t 16) 0),Ob 21 (.ext (.t 16) 1),Ob 9 (.new (.agg [(.int .i64 0), (.int .i64 0), (.int .i64 0), (.sl [] .tight), (.sl [] .tight), (.int .i64 0), (.int .i64 0), (.int .i64 0), (.int .i64 0)]) 9),On (.store (.t 9) (.t 20) 9),Ob 10 (.mov (.t 21))])
 (.seq (.seq (.region [Ob 22 (.mov (.t 10)),Ob 23 (.not (.t 22)),Ob 24 (.mov (.t 23)),Og 25 24 false (.mov (.t 2)),Og 26 24 false (.call 55 [(.t 25), (Ci 0), (Ci 99)]),Og 27 24 false (.not (.t 26)),Ob 28 (.pick (.t 24) (.c (.bool true)) (.t 27))])
 (.cond (.t 28) (.seq (.region [Ob 6 (.mov (Ci 0)),Ob 7 (.mov (Ci 1))])
 (.ret))
 (.skip)))
 (.seq (.region [Ob 29 (.load (.t 3) (some 3)),Ob 30 (.load (.t 9) (some 9)),Ob 31 (.mov (.t 2)),Ob 32 (.call 65 [(.t 29), (.t 30), (.t 31)]),Ob 6 (.mov (.t 32)),Ob 7 (.mov (Ci 0))])
 (.ret)))))
def r33 : List Res := [.t 6,.t 7]
def a33 : AFn := ⟨3, c33, r33,.v⟩

def c34 : ACode := .seq (.region [Ob 2 (.box (.t 0) 3),Ob 4 (.new (.agg [(.int .i64 0), (.int .i64 0), (.int .i64 0), (.int .i64 0), (.int .i64 0), (.int .i64 0)]) 6),Ob 5 (.mov (Ci 0))])
 (.seq (.seq (.region [Ob 11 (.load (.t 2) (some 3)),Ob 12 (.call 15 [(.t 11)]),Ob 6 (.mov (.t 12))])
 (.seq (.region [Ob 13 (.mov (.t 6)),Ob 14 (.bin .neq (.t 13) (Ci 0))])
 (.cond (.t 14) (.seq (.region [Ob 15 (.build [(.int .i64 0), (.int .i64 0), (.int .i64 0), (.int .i64 0), (.int .i64 0), (.int .i64 0)] []),Ob 16 (.mov (.t 6)),On (.store (.t 4) (.t 15) 6),Ob 5 (.mov (.t 16))])
 (.ret))
 (.skip))))
 (.seq (.seq (.region [Ob 17 (.mov (.t 1)),Ob 18 (.call 55 [(.t 17), (Ci 0), (Ci 99)]),Ob 19 (.not (.t 18))])
 (.cond (.t 19) (.seq (.region [Ob 20 (.build [(.int .i64 0), (.int .i64 0), (.int .i64 0), (.int .i64 0), (.int .i64 0), (.int .i64 0)] []),On (.store (.t 4) (.t 20) 6),Ob 5 (.mov (Ci 1))])
 (.ret))
 (.skip)))
 (.seq (.region [Ob 7 (.new (.agg [(.int .i64 0), (.int .i64 0), (.int .i64 0), (.int .i64 0), (.int .i64 0), (.int .i64 0)]) 6)])
 (.seq (.seq (.region [Ob 8 (.mov (Ci 0))])
 (.block 0 (.loop (.seq (.seq (.region [Ob 21 (.mov (.t 8)),Ob 22 (.addr (.t 2) 1),Ob 23 (.load (.t 22) none),Ob 24 (.len (.t 23)),Ob 25 (.bin .lss (.t 21) (.t 24))])
 (.cond (.t 25) (.skip)
 (.exit 0)))
 (.seq (.block 1 (.seq (.region [Ob 28 (.addr (.t 2) 1),Ob 29 (.load (.t 28) none),Ob 30 (.mov (.t 8)),Ob 31 (.idx (.t 29) (.t 30) 9),Ob 32 (.load (.t 31) (some 9)),Ob 9 (.new (.agg [(.int .i64 0), (.int .i64 0), (.int .i64 0), (.sl [] .tight), (.sl [] .tight), (.int .i64 0), (.int .i64 0), (.int .i64 0), (.int .i64 0)]) 9),On (.store (.t 9) (.t 32) 9)])
 (.seq (.seq (.region [Ob 33 (.mov (.t 1)),Ob 34 (.addr (.t 9) 1),Ob 35 (.load (.t 34) none),Ob 36 (.addr (.t 9) 2),Ob 37 (.load (.t 36) none),Ob 38 (.call 55 [(.t 33), (.t 35), (.t 37)]),Ob 39 (.not (.t 38))])
 (.cond (.t 39) (.exit 1)
 (.skip)))
 (.seq (.region [Ob 40 (.load (.t 2) (some 3)),Ob 41 (.load (.t 9) (some 9)),Ob 42 (.mov (.t 1)),Ob 43 (.call 64 [(.t 40), (.t 41), (.t 42)]),Ob 10 (.new (.agg [(.int .i64 0), (.int .i64 0), (.int .i64 0), (.int .i64 0), (.int .i64 0), (.int .i64 0)]) 6),On (.store (.t 10) (.t 43) 6)])
 (.seq (.region [Ob 44 (.addr (.t 7) 0),Ob 45 (.load (.t 44) none),Ob 46 (.addr (.t 10) 0),Ob 47 (.load (.t 46) none),Ob 48 (.bin .add (.t 45) (.t 47)),Ob 49 (.addr (.t 7) 0),On (.store (.t 49) (.t 48) 1)])
 (.seq (.region [Ob 50 (.addr (.t 7) 1),Ob 51 (.load (.t 50) none),Ob 52 (.addr (.t 10) 1),Ob 53 (.load (.t 52) none),Ob 54 (.bin .add (.t 51) (.t 53)),Ob 55 (.addr (.t 7) 1),On (.store (.t 55) (.t 54) 1)])
 (.seq (.region [Ob 56 (.addr (.t 7) 2),Ob 57 (.load (.t 56) none),Ob 58 (.addr (.t 10) 2),Ob 59 (.load (.t 58) none),Ob 60 (.bin .add (.t 57) (.t 59)),Ob 61 (.addr (.t 7) 2),On (.store (.t 61) (.t 60) 1)])
 (.seq (.region [Ob 62 (.addr (.t 7) 3),Ob 63 (.load (.t 62) none),Ob 64 (.addr (.t 10) 3),Ob 65 (.load (.t 64) none),Ob 66 (.bin .add (.t 63) (.t 65)),Ob 67 (.addr (.t 7) 3),On (.store (.t 67) (.t 66) 1)])
 (.region [Ob 68 (.addr (.t 7) 4),Ob 69 (.load (.t 68) none),Ob 70 (.addr (.t 10) 4),Ob 71 (.load (.t 70) none),Ob 72 (.bin .add (.t 69) (.t 71)),Ob 73 (.addr (.t 7) 4),On (.store (.t 73) (.t 72) 1)])))))))))
 (.region [Ob 26 (.mov (.t 8)),Ob 27 (.bin .add (.t 26) (Ci 1)),Ob 8 (.mov (.t 27))]))))))
 (.seq (.region [Ob 74 (.load (.t 7) (some 6)),On (.store (.t 4) (.t 74) 6),Ob 5 (.mov (Ci 0))])
 (.ret))))))
def r34 : List Res := [.cell 4 (some 6),.t 5]
def a34 : AFn := ⟨2, c34, r34,.v⟩

def c35 : ACode := .seq (.region [Ob 2 (.box (.t 0) 3),Ob 4 (.new (.agg [(.int .i64 0), (.sl [] .tight), (.sl [] .tight)]) 3),Ob 5 (.mov (Ci 0))])
 (.seq (.seq (.region [Ob 10 (.load (.t 2) (some 3)),Ob 11 (.call 15 [(.t 10)]),Ob 6 (.mov (.t 11))])
 (.seq (.region [Ob 12 (.mov (.t 6)),Ob 13 (.bin .neq (.t 12) (Ci 0))])
 (.cond (.t 13) (.seq (.region [Ob 14 (.build [(.int .i64 0), (.sl [] .tight), (.sl [] .tight)] []),Ob 15 (.mov (.t 6)),On (.store (.t 4) (.t 14) 3),Ob 5 (.mov (.t 15))])
 (.ret))
 (.skip))))
 (.seq (.region [Ob 16 (.load (.t 2) (some 3)),Ob 17 (.callf 22 [(.t 16)]),Ob 7 (.new (.agg [(.int .i64 0), (.sl [] .tight), (.sl [] .tight)]) 3),On (.store (.t 7) (.t 17) 3)])
 (.seq (.region [Ob 18 (.mov (.t 1)),Ob 19 (.addr (.t 7) 2),On (.store (.t 19) (.t 18) 1)])
 (.seq (.seq (.region [Ob 20 (.load (.t 7) (some 3)),Ob 21 (.call 15 [(.t 20)]),Ob 8 (.mov (.t 21))])
 (.seq (.region [Ob 22 (.mov (.t 8)),Ob 23 (.bin .neq (.t 22) (Ci 0))])
 (.cond (.t 23) (.seq (.region [Ob 24 (.build [(.int .i64 0), (.sl [] .tight), (.sl [] .tight)] []),Ob 25 (.mov (.t 8)),On (.store (.t 4) (.t 24) 3),Ob 5 (.mov (.t 25))])
 (.ret))
 (.skip))))
 (.seq (.region [Ob 26 (.lit false 52 6 []),Ob 27 (.addr (.t 2) 2),Ob 28 (.load (.t 27) none),Ob 29 (.app false (.t 26) (.t 28) 52 6 48),Ob 30 (.mov (.t 1)),Ob 31 (.app false (.t 29) (.t 30) 52 6 48),Ob 32 (.call 66 [(.t 31)]),Ob 33 (.addr (.t 7) 2),On (.store (.t 33) (.t 32) 1)])
 (.seq (.seq (.region [Ob 34 (.load (.t 7) (some 3)),Ob 35 (.call 15 [(.t 34)]),Ob 9 (.mov (.t 35))])
 (.seq (.region [Ob 36 (.mov (.t 9)),Ob 37 (.bin .neq (.t 36) (Ci 0))])
 (.cond (.t 37) (.seq (.region [Ob 38 (.build [(.int .i64 0), (.sl [] .tight), (.sl [] .tight)] []),Ob 39 (.mov (.t 9)),On (.store (.t 4) (.t 38) 3),Ob 5 (.mov (.t 39))])
 (.ret))
 (.skip))))
 (.seq (.region [Ob 40 (.load (.t 7) (some 3)),On (.store (.t 4) (.t 40) 3),Ob 5 (.mov (Ci 0))])
 (.ret))))))))
def r35 : List Res := [.cell 4 (some 3),.t 5]
def a35 : AFn := ⟨2, c35, r35,.v⟩

def c36 : ACode := .seq (.region [Ob 3 (.box (.t 0) 3),Ob 6 (.mov (.c (.sl [] .tight))),Ob 7 (.mov (.c (.sl [] .tight))),Ob 8 (.mov (Ci 0))])
 (.seq (.seq (.region [Ob 15 (.load (.t 3) (some 3)),Ob 16 (.call 15 [(.t 15)]),Ob 9 (.mov (.t 16))])
 (.seq (.region [Ob 17 (.mov (.t 9)),Ob 18 (.bin .neq (.t 17) (Ci 0))])
 (.cond (.t 18) (.seq (.region [Ob 19 (.mov (.t 9)),Ob 6 (.mov (.c (.sl [] .tight))),Ob 7 (.mov (.c (.sl [] .tight))),Ob 8 (.mov (.t 19))])
 (.ret))
 (.skip))))
 (.seq (.seq (.region [Ob 20 (.mov (.t 1)),Ob 21 (.call 55 [(.t 20), (Ci 0), (Ci 99)]),Ob 22 (.not (.t 21))])
 (.cond (.t 22) (.seq (.region [Ob 6 (.mov (.c (.sl [] .tight))),Ob 7 (.mov (.c (.sl [] .tight))),Ob 8 (.mov (Ci 1))])
 (.ret))
 (.skip)))
 (.seq (.seq (.region [Ob 23 (.load (.t 3) (some 3)),Ob 24 (.mov (.t 2)),Ob 25 (.call 27 [(.t 23), (.t 24)]),Ob 26 (.not (.t 25))])
 (.cond (.t 26) (.seq (.region [Ob 6 (.mov (.c (.sl [] .tight))),Ob 7 (.mov (.c (.sl [] .tight))),Ob 8 (.mov (Ci 82))])
 (.ret))
 (.skip)))
 (.seq (.seq (.region [Ob 10 (.mov (Ci 0))])
 (.block 0 (.loop (.seq (.seq (.region [Ob 27 (.mov (.t 10)),Ob 28 (.bin .leq (.t 27) (Ci 99))])
 (.cond (.t 28) (.skip)
 (.exit 0)))
 (.seq (.block 1 (.seq (.region [Ob 32 (.load (.t 3) (some 3)),Ob 33 (.mov (.t 10)),Ob 34 (.call 21 [(.t 32), (.t 33)]),Ob 31 (.mov (.t 34)),Ob 35 (.ext (.t 31) 0),Ob 36 (.ext (.t 31) 1),Ob 11 (.new (.agg [(.int .i64 0), (.int .i64 0), (.int .i64 0), (.sl [] .tight), (.sl [] .tight), (.int .i64 0), (.int .i64 0), (.int .i64 0), (.int .i64 0)]) 9),On (.store (.t 11) (.t 35) 9),Ob 12 (.mov (.t 36))])
 (.seq (.seq (.region [Ob 37 (.mov (.t 12)),Ob 38 (.not (.t 37))])
 (.cond (.t 38) (.exit 1)
 (.skip)))
 (.seq (.region [Ob 39 (.load (.t 3) (some 3)),Ob 40 (.load (.t 11) (some 9)),Ob 41 (.mov (.t 1)),Ob 42 (.call 65 [(.t 39), (.t 40), (.t 41)]),Ob 13 (.mov (.t 42))])
 (.seq (.seq (.region [Ob 14 (.mov (Ci 0))])
 (.block 2 (.loop (.seq (.seq (.region [Ob 43 (.mov (.t 14)),Ob 44 (.mov (.t 2)),Ob 45 (.len (.t 44)),Ob 46 (.bin .lss (.t 43) (.t 45))])
 (.cond (.t 46) (.skip)
 (.exit 2)))
 (.seq (.block 3 (.seq (.region [Ob 49 (.mov (.t 2)),Ob 50 (.mov (.t 14)),Ob 51 (.idx (.t 49) (.t 50) 2),Ob 52 (.addr (.t 51) 0),Ob 53 (.load (.t 52) none),Ob 54 (.mov (.t 10)),Ob 55 (.bin .eql (.t 53) (.t 54))])
 (.cond (.t 55) (.region [Ob 56 (.mov (.t 13)),Ob 57 (.mov (.t 2)),Ob 58 (.mov (.t 14)),Ob 59 (.idx (.t 57) (.t 58) 2),Ob 60 (.addr (.t 59) 1),Ob 61 (.load (.t 60) none),Ob 62 (.bin .sub (.t 56) (.t 61)),Ob 13 (.mov (.t 62))])
 (.skip))))
 (.region [Ob 47 (.mov (.t 14)),Ob 48 (.bin .add (.t 47) (Ci 1)),Ob 14 (.mov (.t 48))]))))))
 (.seq (.seq (.region [Ob 63 (.mov (.t 13)),Ob 64 (.bin .gtr (.t 63) (Ci 0))])
 (.cond (.t 64) (.region [Ob 65 (.mov (.t 6)),Ob 66 (.mov (.t 10)),Ob 67 (.mov (.t 13)),Ob 68 (.build [(.int .i64 0), (.int .i64 0)] [(0, 1, (.t 66)), (1, 1, (.t 67))]),Ob 69 (.lit false 67 2 [(.t 68)]),Ob 70 (.app false (.t 65) (.t 69) 67 2 16),Ob 6 (.mov (.t 70))])
 (.skip)))
 (.seq (.region [Ob 71 (.mov (.t 13)),Ob 72 (.bin .lss (.t 71) (Ci 0))])
 (.cond (.t 72) (.region [Ob 73 (.mov (.t 7)),Ob 74 (.mov (.t 10)),Ob 75 (.mov (.t 13)),Ob 76 (.neg (.t 75)),Ob 77 (.build [(.int .i64 0), (.int .i64 0)] [(0, 1, (.t 74)), (1, 1, (.t 76))]),Ob 78 (.lit false 67 2 [(.t 77)]),Ob 79 (.app false (.t 73) (.t 78) 67 2 16),Ob 7 (.mov (.t 79))])
 (.skip)))))))))
 (.region [Ob 29 (.mov (.t 10)),Ob 30 (.bin .add (.t 29) (Ci 1)),Ob 10 (.mov (.t 30))]))))))
 (.seq (.region [Ob 80 (.mov (.t 6)),Ob 81 (.mov (.t 7)),Ob 6 (.mov (.t 80)),Ob 7 (.mov (.t 81)),Ob 8 (.mov (Ci 0))])
 (.ret))))))
def r36 : List Res := [.t 6,.t 7,.t 8]
def a36 : AFn := ⟨3, c36, r36,.v⟩

def c37 : ACode := .seq (.region [Ob 4 (.box (.t 0) 3),Ob 8 (.mov (Ci 0)),Ob 9 (.mov (Ci 0))])
 (.seq (.seq (.region [Ob 16 (.load (.t 4) (some 3)),Ob 17 (.call 15 [(.t 16)]),Ob 10 (.mov (.t 17))])
 (.seq (.region [Ob 18 (.mov (.t 10)),Ob 19 (.bin .neq (.t 18) (Ci 0))])
 (.cond (.t 19) (.seq (.region [Ob 20 (.mov (.t 10)),Ob 8 (.mov (Ci 0)),Ob 9 (.mov (.t 20))])
 (.ret))
 (.skip))))
 (.seq (.region [Ob 22 (.load (.t 4) (some 3)),Ob 23 (.mov (.t 1)),Ob 24 (.call 21 [(.t 22), (.t 23)]),Ob 21 (.mov (.t 24)),Ob 25 (.ext (.t 21) 0),Ob 26 (.ext (.t 21) 1),Ob 11 (.new (.agg [(.int .i64 0), (.int .i64 0), (.int .i64 0), (.sl [] .tight), (.sl [] .tight), (.int .i64 0), (.int .i64 0), (.int .i64 0), (.int .i64 0)]) 9),On (.store (.t 11) (.t 25) 9),Ob 12 (.mov (.t 26))])
 (.seq (.seq (.region [Ob 27 (.mov (.t 12)),Ob 28 (.not (.t 27)),Ob 29 (.mov (.t 28)),Og 30 29 false (.mov (.t 2)),Og 31 29 false (.addr (.t 11) 1),Og 32 29 false (.load (.t 31) none),Og 33 29 false (.addr (.t 11) 2),Og 34 29 false (.load (.t 33) none),Og 35 29 false (.call 55 [(.t 30), (.t 32), (.t 34)]),Og 36 29 false (.not (.t 35)),Ob 37 (.pick (.t 29) (.c (.bool true)) (.t 36)),Ob 38 (.mov (.t 37)),Og 39 38 false (.mov (.t 3)),Og 40 38 false (.call 55 [(.t 39), (Ci 0), (Ci 10000000)]),Og 41 38 false (.not (.t 40)),Ob 42 (.pick (.t 38) (.c (.bool true)) (.t 41))])
 (.cond (.t 42) (.seq (.region [Ob 8 (.mov (Ci 0)),Ob 9 (.mov (Ci 1))])
 (.ret))
 (.skip)))
 (.seq (.region [Ob 13 (.mov (Ci 0)),Ob 14 (.mov (Ci 10000001))])
 (.seq (.block 0 (.loop (.seq (.seq (.region [Ob 43 (.mov (.t 13)),Ob 44 (.mov (.t 14)),Ob 45 (.bin .lss (.t 43) (.t 44))])
 (.cond (.t 45) (.skip)
 (.exit 0)))
 (.block 1 (.seq (.region [Ob 46 (.mov (.t 13)),Ob 47 (.mov (.t 14)),Ob 48 (.bin .add (.t 46) (.t 47)),Ob 49 (.bin .quo (.t 48) (Ci 2)),Ob 15 (.mov (.t 49))])
 (.seq (.region [Ob 50 (.mov (.t 15)),Ob 51 (.bin .gtr (.t 50) (Ci 10000000)),Ob 52 (.mov (.t 51)),Og 53 52 false (.addr (.t 4) 0),Og 54 52 false (.load (.t 53) none),Og 55 52 false (.load (.t 11) (some 9)),Og 56 52 false (.mov (.t 2)),Og 57 52 false (.mov (.t 15)),Og 58 52 false (.call 67 [(.t 54), (.t 55), (.t 56), (.t 57)]),Og 59 52 false (.fld (.t 58) 3 none),Og 60 52 false (.mov (.t 3)),Og 61 52 false (.bin .geq (.t 59) (.t 60)),Ob 62 (.pick (.t 52) (.c (.bool true)) (.t 61))])
 (.cond (.t 62) (.region [Ob 63 (.mov (.t 15)),Ob 14 (.mov (.t 63))])
 (.region [Ob 64 (.mov (.t 15)),Ob 65 (.bin .add (.t 64) (Ci 1)),Ob 13 (.mov (.t 65))]))))))))
 (.seq (.seq (.region [Ob 66 (.mov (.t 13)),Ob 67 (.bin .gtr (.t 66) (Ci 10000000))])
 (.cond (.t 67) (.seq (.region [Ob 8 (.mov (Ci 0)),Ob 9 (.mov (Ci 3))])
 (.ret))
 (.skip)))
 (.seq (.region [Ob 68 (.mov (.t 13)),Ob 8 (.mov (.t 68)),Ob 9 (.mov (Ci 0))])
 (.ret))))))))
def r37 : List Res := [.t 8,.t 9]
def a37 : AFn := ⟨4, c37, r37,.v⟩

def c38 : ACode := .seq (.region [Ob 1 (.box (.t 0) 3),Ob 2 (.mov (.c (.bool false)))])
 (.seq (.seq (.region [Ob 3 (.mov (Ci 0))])
 (.block 0 (.loop (.seq (.seq (.region [Ob 5 (.mov (.t 3)),Ob 6 (.addr (.t 1) 1),Ob 7 (.load (.t 6) none),Ob 8 (.len (.t 7)),Ob 9 (.bin .lss (.t 5) (.t 8))])
 (.cond (.t 9) (.skip)
 (.exit 0)))
 (.seq (.block 1 (.seq (.seq (.region [Ob 12 (.addr (.t 1) 1),Ob 13 (.load (.t 12) none),Ob 14 (.mov (.t 3)),Ob 15 (.idx (.t 13) (.t 14) 9),Ob 16 (.load (.t 15) (some 9)),Ob 17 (.call 68 [(.t 16)]),Ob 18 (.not (.t 17))])
 (.cond (.t 18) (.seq (.region [Ob 2 (.mov (.c (.bool false)))])
 (.ret))
 (.skip)))
 (.seq (.region [Ob 4 (.mov (Ci 0))])
 (.block 2 (.loop (.seq (.seq (.region [Ob 19 (.mov (.t 4)),Ob 20 (.mov (.t 3)),Ob 21 (.bin .lss (.t 19) (.t 20))])
 (.cond (.t 21) (.skip)
 (.exit 2)))
 (.seq (.block 3 (.seq (.region [Ob 24 (.addr (.t 1) 1),Ob 25 (.load (.t 24) none),Ob 26 (.mov (.t 4)),Ob 27 (.idx (.t 25) (.t 26) 9),Ob 28 (.addr (.t 27) 0),Ob 29 (.load (.t 28) none),Ob 30 (.addr (.t 1) 1),Ob 31 (.load (.t 30) none),Ob 32 (.mov (.t 3)),Ob 33 (.idx (.t 31) (.t 32) 9),Ob 34 (.addr (.t 33) 0),Ob 35 (.load (.t 34) none),Ob 36 (.bin .eql (.t 29) (.t 35))])
 (.cond (.t 36) (.seq (.region [Ob 2 (.mov (.c (.bool false)))])
 (.ret))
 (.skip))))
 (.region [Ob 22 (.mov (.t 4)),Ob 23 (.bin .add (.t 22) (Ci 1)),Ob 4 (.mov (.t 23))]))))))))
 (.region [Ob 10 (.mov (.t 3)),Ob 11 (.bin .add (.t 10) (Ci 1)),Ob 3 (.mov (.t 11))]))))))
 (.seq (.region [Ob 37 (.addr (.t 1) 0),Ob 38 (.load (.t 37) none),Ob 39 (.call 55 [(.t 38), (Ci 0), (Ci 500)]),Ob 40 (.mov (.t 39)),Og 41 40 true (.addr (.t 1) 1),Og 42 40 true (.load (.t 41) none),Og 43 40 true (.len (.t 42)),Og 44 40 true (.bin .leq (.t 43) (Ci 6)),Ob 45 (.pick (.t 40) (.t 44) (.c (.bool false))),Ob 2 (.mov (.t 45))])
 (.ret)))
def r38 : List Res := [.t 2]
def a38 : AFn := ⟨1, c38, r38,.v⟩

def c39 : ACode := .seq (.region [Ob 2 (.box (.t 0) 3),Ob 4 (.mov (.c (.bool false)))])
 (.seq (.seq (.region [Ob 5 (.mov (Ci 0))])
 (.block 0 (.loop (.seq (.seq (.region [Ob 10 (.mov (.t 5)),Ob 11 (.mov (.t 1)),Ob 12 (.len (.t 11)),Ob 13 (.bin .lss (.t 10) (.t 12))])
 (.cond (.t 13) (.skip)
 (.exit 0)))
 (.seq (.block 1 (.seq (.region [Ob 16 (.mov (.t 1)),Ob 17 (.mov (.t 5)),Ob 18 (.idx (.t 16) (.t 17) 6),Ob 19 (.load (.t 18) (some 6)),Ob 6 (.new (.agg [(.int .i64 0), (.int .i64 0), (.int .i64 0), (.int .i64 0), (.int .i64 0), (.int .i64 0)]) 6),On (.store (.t 6) (.t 19) 6)])
 (.seq (.region [Ob 21 (.load (.t 2) (some 3)),Ob 22 (.addr (.t 6) 2),Ob 23 (.load (.t 22) none),Ob 24 (.call 21 [(.t 21), (.t 23)]),Ob 20 (.mov (.t 24)),Ob 25 (.ext (.t 20) 0),Ob 26 (.ext (.t 20) 1),Ob 7 (.new (.agg [(.int .i64 0), (.int .i64 0), (.int .i64 0), (.sl [] .tight), (.sl [] .tight), (.int .i64 0), (.int .i64 0), (.int .i64 0), (.int .i64 0)]) 9),On (.store (.t 7) (.t 25) 9),Ob 8 (.mov (.t 26))])
 (.seq (.seq (.region [Ob 27 (.mov (.t 8)),Ob 28 (.not (.t 27)),Ob 29 (.mov (.t 28)),Og 30 29 false (.addr (.t 6) 0),Og 31 29 false (.load (.t 30) none),Og 32 29 false (.call 55 [(.t 31), (Ci 0), (Ci 99)]),Og 33 29 false (.not (.t 32)),Ob 34 (.pick (.t 29) (.c (.bool true)) (.t 33)),Ob 35 (.mov (.t 34)),Og 36 35 false (.addr (.t 6) 1),Og 37 35 false (.load (.t 36) none),Og 38 35 false (.bin .neq (.t 37) (Ci 1)),Og 39 35 false (.mov (.t 38)),Og 40 39 true (.addr (.t 6) 1),Og 41 39 true (.load (.t 40) none),Og 42 39 true (.bin .neq (.t 41) (Ci 2)),Og 43 35 false (.pick (.t 39) (.t 42) (.c (.bool false))),Ob 44 (.pick (.t 35) (.c (.bool true)) (.t 43)),Ob 45 (.mov (.t 44)),Og 46 45 false (.addr (.t 6) 3),Og 47 45 false (.load (.t 46) none),Og 48 45 false (.addr (.t 7) 1),Og 49 45 false (.load (.t 48) none),Og 50 45 false (.addr (.t 7) 2),Og 51 45 false (.load (.t 50) none),Og 52 45 false (.call 55 [(.t 47), (.t 49), (.t 51)]),Og 53 45 false (.not (.t 52)),Ob 54 (.pick (.t 45) (.c (.bool true)) (.t 53)),Ob 55 (.mov (.t 54)),Og 56 55 false (.addr (.t 6) 4),Og 57 55 false (.load (.t 56) none),Og 58 55 false (.call 55 [(.t 57), (Ci 0), (Ci 9)]),Og 59 55 false (.not (.t 58)),Ob 60 (.pick (.t 55) (.c (.bool true)) (.t 59)),Ob 61 (.mov (.t 60)),Og 62 61 false (.addr (.t 6) 5),Og 63 61 false (.load (.t 62) none),Og 64 61 false (.call 55 [(.t 63), (Ci 0), (Ci 10000000)]),Og 65 61 false (.not (.t 64)),Ob 66 (.pick (.t 61) (.c (.bool true)) (.t 65))])
 (.cond (.t 66) (.seq (.region [Ob 4 (.mov (.c (.bool false)))])
 (.ret))
 (.skip)))
 (.seq (.region [Ob 9 (.mov (Ci 0))])
 (.block 2 (.loop (.seq (.seq (.region [Ob 67 (.mov (.t 9)),Ob 68 (.mov (.t 5)),Ob 69 (.bin .lss (.t 67) (.t 68))])
 (.cond (.t 69) (.skip)
 (.exit 2)))
 (.seq (.block 3 (.seq (.region [Ob 72 (.mov (.t 1)),Ob 73 (.mov (.t 9)),Ob 74 (.idx (.t 72) (.t 73) 6),Ob 75 (.addr (.t 74) 0),Ob 76 (.load (.t 75) none),Ob 77 (.addr (.t 6) 0),Ob 78 (.load (.t 77) none),Ob 79 (.bin .eql (.t 76) (.t 78)),Ob 80 (.mov (.t 79)),Og 81 80 true (.mov (.t 1)),Og 82 80 true (.mov (.t 9)),Og 83 80 true (.idx (.t 81) (.t 82) 6),Og 84 80 true (.load (.t 83) (some 6)),Og 85 80 true (.load (.t 6) (some 6)),Og 86 80 true (.eqv true true [.i,.i,.i,.i,.i,.i] (.t 84) (.t 85)),Ob 87 (.pick (.t 80) (.t 86) (.c (.bool false)))])
 (.cond (.t 87) (.seq (.region [Ob 4 (.mov (.c (.bool false)))])
 (.ret))
 (.skip))))
 (.region [Ob 70 (.mov (.t 9)),Ob 71 (.bin .add (.t 70) (Ci 1)),Ob 9 (.mov (.t 71))]))))))))))
 (.region [Ob 14 (.mov (.t 5)),Ob 15 (.bin .add (.t 14) (Ci 1)),Ob 5 (.mov (.t 15))]))))))
 (.seq (.region [Ob 4 (.mov (.c (.bool true)))])
 (.ret)))
def r39 : List Res := [.t 4]
def a39 : AFn := ⟨2, c39, r39,.v⟩

def c40 : ACode := .seq (.region [Ob 0 (.new (.agg [(.int .i64 0), (.sl [] .tight), (.sl [] .tight)]) 3)])
 (.seq (.region [Ob 1 (.lit false 3 1 [(Ci 600), (Ci 500)]),Ob 2 (.build [(.int .i64 0), (.int .i64 0)] [(0, 1, (Ci 20000)), (1, 1, (Ci 700))]),Ob 3 (.lit false 47 2 [(.t 2)]),Ob 4 (.build [(.int .i64 0), (.int .i64 0), (.int .i64 0), (.sl [] .tight), (.sl [] .tight), (.int .i64 0), (.int .i64 0), (.int .i64 0), (.int .i64 0)] [(0, 1, (Ci 5)), (1, 1, (Ci 10)), (2, 1, (Ci 12)), (3, 1, (.t 1)), (4, 1, (.t 3)), (5, 1, (Ci 8000)), (6, 1, (Ci 900)), (7, 1, (Ci 3000)), (8, 1, (Ci 40000))]),Ob 5 (.lit false 39 9 [(.t 4)]),Ob 6 (.build [(.int .i64 0), (.int .i64 0), (.int .i64 0), (.int .i64 0), (.int .i64 0), (.int .i64 0)] [(0, 1, (Ci 1)), (1, 1, (Ci 1)), (2, 1, (Ci 5)), (3, 1, (Ci 10)), (5, 1, (Ci 20000))]),Ob 7 (.build [(.int .i64 0), (.int .i64 0), (.int .i64 0), (.int .i64 0), (.int .i64 0), (.int .i64 0)] [(0, 1, (Ci 2)), (1, 1, (Ci 1)), (2, 1, (Ci 5)), (3, 1, (Ci 10)), (4, 1, (Ci 1)), (5, 1, (Ci 10000))]),Ob 8 (.build [(.int .i64 0), (.int .i64 0), (.int .i64 0), (.int .i64 0), (.int .i64 0), (.int .i64 0)] [(0, 1, (Ci 3)), (1, 1, (Ci 1)), (2, 1, (Ci 5)), (3, 1, (Ci 11)), (5, 1, (Ci 5000))]),Ob 9 (.build [(.int .i64 0), (.int .i64 0), (.int .i64 0), (.int .i64 0), (.int .i64 0), (.int .i64 0)] [(0, 1, (Ci 4)), (1, 1, (Ci 1)), (2, 1, (Ci 5)), (3, 1, (Ci 11)), (5, 1, (Ci 4000))]),Ob 10 (.build [(.int .i64 0), (.int .i64 0), (.int .i64 0), (.int .i64 0), (.int .i64 0), (.int .i64 0)] [(0, 1, (Ci 5)), (1, 1, (Ci 2)), (2, 1, (Ci 5)), (3, 1, (Ci 12)), (5, 1, (Ci 10001))]),Ob 11 (.lit false 52 6 [(.t 6), (.t 7), (.t 8), (.t 9), (.t 10)]),Ob 12 (.build [(.int .i64 0), (.sl [] .tight), (.sl [] .tight)] [(0, 1, (Ci 100)), (1, 1, (.t 5)), (2, 1, (.t 11))]),On (.store (.t 0) (.t 12) 3)])
 (.ret))
def r40 : List Res := [.cell 0 (some 3)]
def a40 : AFn := ⟨0, c40, r40,.v⟩

def c41 : ACode := .seq (.region [Ob 2 (.box (.t 0) 3),Ob 4 (.mov (Ci 0))])
 (.seq (.seq (.region [Ob 6 (.load (.t 2) (some 3)),Ob 7 (.call 31 [(.t 6)]),Ob 5 (.mov (.t 7))])
 (.seq (.region [Ob 8 (.mov (.t 5)),Ob 9 (.bin .neq (.t 8) (Ci 0))])
 (.cond (.t 9) (.seq (.region [Ob 10 (.mov (.t 5)),Ob 4 (.mov (.t 10))])
 (.ret))
 (.skip))))
 (.seq (.seq (.region [Ob 11 (.mov (.t 1)),Ob 12 (.call 47 [(.t 11)]),Ob 13 (.not (.t 12))])
 (.cond (.t 13) (.seq (.region [Ob 4 (.mov (Ci 1))])
 (.ret))
 (.skip)))
 (.seq (.region [Ob 4 (.mov (Ci 0))])
 (.ret))))
def r41 : List Res := [.t 4]
def a41 : AFn := ⟨2, c41, r41,.v⟩

def c42 : ACode := .seq (.region [Ob 2 (.box (.t 0) 9),Ob 4 (.mov (.c (.bool false)))])
 (.seq (.region [Ob 5 (.mov (.t 1)),Ob 6 (.addr (.t 2) 1),Ob 7 (.load (.t 6) none),Ob 8 (.addr (.t 2) 2),Ob 9 (.load (.t 8) none),Ob 10 (.call 69 [(.t 5), (.t 7), (.t 9)]),Ob 4 (.mov (.t 10))])
 (.ret))
def r42 : List Res := [.t 4]
def a42 : AFn := ⟨2, c42, r42,.v⟩

def c43 : ACode := .seq (.region [Ob 2 (.box (.t 0) 6),Ob 3 (.box (.t 1) 6),Ob 4 (.new (.agg [(.int .i64 0), (.int .i64 0), (.int .i64 0), (.int .i64 0), (.int .i64 0), (.int .i64 0)]) 6)])
 (.seq (.region [Ob 5 (.addr (.t 2) 0),Ob 6 (.load (.t 5) none),Ob 7 (.addr (.t 3) 0),Ob 8 (.load (.t 7) none),Ob 9 (.bin .add (.t 6) (.t 8)),Ob 10 (.addr (.t 2) 1),Ob 11 (.load (.t 10) none),Ob 12 (.addr (.t 3) 1),Ob 13 (.load (.t 12) none),Ob 14 (.bin .add (.t 11) (.t 13)),Ob 15 (.addr (.t 2) 2),Ob 16 (.load (.t 15) none),Ob 17 (.addr (.t 3) 2),Ob 18 (.load (.t 17) none),Ob 19 (.bin .add (.t 16) (.t 18)),Ob 20 (.addr (.t 2) 3),Ob 21 (.load (.t 20) none),Ob 22 (.addr (.t 3) 3),Ob 23 (.load (.t 22) none),Ob 24 (.bin .add (.t 21) (.t 23)),Ob 25 (.addr (.t 2) 4),Ob 26 (.load (.t 25) none),Ob 27 (.addr (.t 3) 4),Ob 28 (.load (.t 27) none),Ob 29 (.bin .add (.t 26) (.t 28)),Ob 30 (.build [(.int .i64 0), (.int .i64 0), (.int .i64 0), (.int .i64 0), (.int .i64 0), (.int .i64 0)] [(0, 1, (.t 9)), (1, 1, (.t 14)), (2, 1, (.t 19)), (3, 1, (.t 24)), (4, 1, (.t 29))]),On (.store (.t 4) (.t 30) 6)])
 (.ret))
def r43 : List Res := [.cell 4 (some 6)]
def a43 : AFn := ⟨2, c43, r43,.v⟩

def c44 : ACode := .seq (.region [Ob 3 (.box (.t 0) 3),Ob 4 (.box (.t 1) 9),Ob 6 (.new (.agg [(.int .i64 0), (.int .i64 0), (.int .i64 0), (.int .i64 0), (.int .i64 0), (.int .i64 0)]) 6)])
 (.seq (.region [Ob 7 (.addr (.t 3) 0),Ob 8 (.load (.t 7) none),Ob 9 (.load (.t 4) (some 9)),Ob 10 (.mov (.t 2)),Ob 11 (.addr (.t 3) 2),Ob 12 (.load (.t 11) none),Ob 13 (.addr (.t 4) 0),Ob 14 (.load (.t 13) none),Ob 15 (.mov (.t 2)),Ob 16 (.call 70 [(.t 12), (.t 14), (.t 15)]),Ob 17 (.call 62 [(.t 8), (.t 9), (.t 10), (.t 16)]),On (.store (.t 6) (.t 17) 6)])
 (.ret))
def r44 : List Res := [.cell 6 (some 6)]
def a44 : AFn := ⟨3, c44, r44,.v⟩

def c45 : ACode := .seq (.region [Ob 3 (.box (.t 0) 3),Ob 6 (.new (.agg [(.int .i64 0), (.int .i64 0), (.int .i64 0), (.sl [] .tight), (.sl [] .tight), (.int .i64 0), (.int .i64 0), (.int .i64 0), (.int .i64 0)]) 9),Ob 7 (.mov (Ci 0))])
 (.seq (.seq (.region [Ob 11 (.load (.t 3) (some 3)),Ob 12 (.call 31 [(.t 11)]),Ob 8 (.mov (.t 12))])
 (.seq (.region [Ob 13 (.mov (.t 8)),Ob 14 (.bin .neq (.t 13) (Ci 0))])
 (.cond (.t 14) (.seq (.region [Ob 15 (.build [(.int .i64 0), (.int .i64 0), (.int .i64 0), (.sl [] .tight), (.sl [] .tight), (.int .i64 0), (.int .i64 0), (.int .i64 0), (.int .i64 0)] []),Ob 16 (.mov (.t 8)),On (.store (.t 6) (.t 15) 9),Ob 7 (.mov (.t 16))])
 (.ret))
 (.skip))))
 (.seq (.region [Ob 18 (.addr (.t 3) 1),Ob 19 (.load (.t 18) none),Ob 20 (.mov (.t 1)),Ob 21 (.call 46 [(.t 19), (.t 20)]),Ob 17 (.mov (.t 21)),Ob 22 (.ext (.t 17) 0),Ob 23 (.ext (.t 17) 1),Ob 9 (.new (.agg [(.int .i64 0), (.int .i64 0), (.int .i64 0), (.sl [] .tight), (.sl [] .tight), (.int .i64 0), (.int .i64 0), (.int .i64 0), (.int .i64 0)]) 9),On (.store (.t 9) (.t 22) 9),Ob 10 (.mov (.t 23))])
 (.seq (.seq (.region [Ob 24 (.mov (.t 10)),Ob 25 (.not (.t 24)),Ob 26 (.mov (.t 25)),Og 27 26 false (.load (.t 9) (some 9)),Og 28 26 false (.mov (.t 2)),Og 29 26 false (.call 42 [(.t 27), (.t 28)]),Og 30 26 false (.not (.t 29)),Ob 31 (.pick (.t 26) (.c (.bool true)) (.t 30))])
 (.cond (.t 31) (.seq (.region [Ob 32 (.build [(.int .i64 0), (.int .i64 0), (.int .i64 0), (.sl [] .tight), (.sl [] .tight), (.int .i64 0), (.int .i64 0), (.int .i64 0), (.int .i64 0)] []),On (.store (.t 6) (.t 32) 9),Ob 7 (.mov (Ci 1))])
 (.ret))
 (.skip)))
 (.seq (.region [Ob 33 (.load (.t 9) (some 9)),On (.store (.t 6) (.t 33) 9),Ob 7 (.mov (Ci 0))])
 (.ret)))))
def r45 : List Res := [.cell 6 (some 9),.t 7]
def a45 : AFn := ⟨3, c45, r45,.v⟩

def c46 : ACode := .seq (.region [Ob 3 (.box (.t 1) 1),Ob 4 (.new (.agg [(.int .i64 0), (.int .i64 0), (.int .i64 0), (.sl [] .tight), (.sl [] .tight), (.int .i64 0), (.int .i64 0), (.int .i64 0), (.int .i64 0)]) 9),Ob 5 (.mov (.c (.bool false)))])
 (.seq (.region [Ob 7 (.mov (.t 0)),Ob 8 (.clo 72 [] [(.t 3)]),Ob 9 (.call 71 [(.t 7), (.t 8)]),Ob 6 (.mov (.t 9))])
 (.seq (.seq (.region [Ob 10 (.mov (.t 6)),Ob 11 (.bin .lss (.t 10) (Ci 0))])
 (.cond (.t 11) (.seq (.region [Ob 12 (.build [(.int .i64 0), (.int .i64 0), (.int .i64 0), (.sl [] .tight), (.sl [] .tight), (.int .i64 0), (.int .i64 0), (.int .i64 0), (.int .i64 0)] []),On (.store (.t 4) (.t 12) 9),Ob 5 (.mov (.c (.bool false)))])
 (.ret))
 (.skip)))
 (.seq (.region [Ob 13 (.mov (.t 0)),Ob 14 (.mov (.t 6)),Ob 15 (.idx (.t 13) (.t 14) 9),Ob 16 (.load (.t 15) (some 9)),On (.store (.t 4) (.t 16) 9),Ob 5 (.mov (.c (.bool true)))])
 (.ret))))
def r46 : List Res := [.cell 4 (some 9),.t 5]
def a46 : AFn := ⟨2, c46, r46,.v⟩

def c47 : ACode := .seq (.region [Ob 2 (.mov (.c (.bool false)))])
 (.seq (.region [Ob 3 (.mov (.t 0)),Ob 4 (.call 69 [(.t 3), (Ci 0), (Ci 99)]),Ob 2 (.mov (.t 4))])
 (.ret))
def r47 : List Res := [.t 2]
def a47 : AFn := ⟨1, c47, r47,.v⟩

def c48 : ACode := .seq (.region [Ob 3 (.box (.t 0) 3),Ob 4 (.box (.t 1) 9),Ob 6 (.mov (Ci 0))])
 (.seq (.region [Ob 7 (.mov (Ci 0))])
 (.seq (.seq (.region [Ob 9 (.addr (.t 4) 1),Ob 10 (.load (.t 9) none),Ob 8 (.mov (.t 10))])
 (.block 0 (.loop (.seq (.seq (.region [Ob 11 (.mov (.t 8)),Ob 12 (.mov (.t 2)),Ob 13 (.addr (.t 4) 2),Ob 14 (.load (.t 13) none),Ob 15 (.mnx false (.t 12) (.t 14)),Ob 16 (.bin .leq (.t 11) (.t 15))])
 (.cond (.t 16) (.skip)
 (.exit 0)))
 (.seq (.block 1 (.region [Ob 19 (.mov (.t 7)),Ob 20 (.load (.t 3) (some 3)),Ob 21 (.load (.t 4) (some 9)),Ob 22 (.mov (.t 8)),Ob 23 (.call 44 [(.t 20), (.t 21), (.t 22)]),Ob 24 (.fld (.t 23) 3 none),Ob 25 (.bin .add (.t 19) (.t 24)),Ob 7 (.mov (.t 25))]))
 (.region [Ob 17 (.mov (.t 8)),Ob 18 (.bin .add (.t 17) (Ci 1)),Ob 8 (.mov (.t 18))]))))))
 (.seq (.seq (.region [Ob 26 (.mov (.t 2)),Ob 27 (.addr (.t 4) 2),Ob 28 (.load (.t 27) none),Ob 29 (.bin .lss (.t 26) (.t 28))])
 (.cond (.t 29) (.seq (.region [Ob 30 (.mov (.t 7)),Ob 6 (.mov (.t 30))])
 (.ret))
 (.skip)))
 (.seq (.region [Ob 31 (.mov (.t 7)),Ob 32 (.addr (.t 4) 8),Ob 33 (.load (.t 32) none),Ob 34 (.mnx true (.t 31) (.t 33)),Ob 6 (.mov (.t 34))])
 (.ret)))))
def r48 : List Res := [.t 6]
def a48 : AFn := ⟨3, c48, r48,.v⟩

def c49 : ACode := .seq (.region [Ob 2 (.box (.t 0) 3),Ob 4 (.mov (.c (.bool false)))])
 (.seq (.region [Ob 5 (.mov (.t 1)),Ob 6 (.len (.t 5)),Ob 7 (.bin .leq (.t 6) (Ci 40)),Ob 8 (.mov (.t 7)),Og 9 8 true (.mov (.t 1)),Og 10 8 true (.clo 74 [] [(.t 2)]),Og 11 8 true (.call 73 [(.t 9), (.t 10)]),Ob 12 (.pick (.t 8) (.t 11) (.c (.bool false))),Ob 4 (.mov (.t 12))])
 (.ret))
def r49 : List Res := [.t 4]
def a49 : AFn := ⟨2, c49, r49,.v⟩

def c50 : ACode := .seq (.region [Ob 4 (.mov (.c (.sl [] .tight)))])
 (.seq (.region [Ob 6 (.mov (.t 0)),Ob 7 (.mov (.t 1)),Ob 8 (.lit false 23 1 [(.t 6), (.t 7)]),Ob 9 (.call 76 [(.t 8)]),Ob 5 (.mov (.t 9))])
 (.seq (.region [Ob 10 (.mov (.t 5)),Ob 11 (.call 77 [(.t 10), (.c (.fn 78 [] []))])])
 (.seq (.region [Ob 12 (.mov (.t 5)),Ob 13 (.call 80 [(.t 12)]),Ob 4 (.mov (.t 13))])
 (.ret))))
def r50 : List Res := [.t 4]
def a50 : AFn := ⟨2, c50, r50,.v⟩

def c51 : ACode := .seq (.region [Ob 2 (.mov (.c (.bool false)))])
 (.seq (.region [Ob 8 (.mkmap .i),Ob 3 (.mov (.t 8))])
 (.seq (.seq (.region [Ob 9 (.mov (.t 0)),Ob 10 (.len (.t 9)),Ob 11 (.mov (Ci 0))])
 (.block 0 (.loop (.seq (.region [Ob 12 (.bin .lss (.t 11) (.t 10))])
 (.seq (.cond (.t 12) (.skip)
 (.exit 0))
 (.seq (.block 1 (.seq (.region [Ob 13 (.idx (.t 9) (.t 11) 6),Ob 14 (.load (.t 13) (some 6)),Ob 5 (.new (.agg [(.int .i64 0), (.int .i64 0), (.int .i64 0), (.int .i64 0), (.int .i64 0), (.int .i64 0)]) 6),On (.store (.t 5) (.t 14) 6)])
 (.seq (.seq (.region [Ob 16 (.mov (.t 3)),Ob 17 (.addr (.t 5) 0),Ob 18 (.load (.t 17) none),Ob 19 (.mget .i (.agg [(.int .i64 0), (.int .i64 0), (.int .i64 0), (.int .i64 0), (.int .i64 0), (.int .i64 0)]) true (.t 16) (.t 18)),Ob 15 (.mov (.t 19)),Ob 20 (.ext (.t 15) 0),Ob 21 (.ext (.t 15) 1),Ob 6 (.new (.agg [(.int .i64 0), (.int .i64 0), (.int .i64 0), (.int .i64 0), (.int .i64 0), (.int .i64 0)]) 6),On (.store (.t 6) (.t 20) 6),Ob 7 (.mov (.t 21))])
 (.seq (.region [Ob 22 (.mov (.t 7)),Ob 23 (.mov (.t 22)),Og 24 23 true (.load (.t 5) (some 6)),Og 25 23 true (.load (.t 6) (some 6)),Og 26 23 true (.eqv true true [.i,.i,.i,.i,.i,.i] (.t 24) (.t 25)),Ob 27 (.pick (.t 23) (.t 26) (.c (.bool false)))])
 (.cond (.t 27) (.seq (.region [Ob 2 (.mov (.c (.bool true)))])
 (.ret))
 (.skip))))
 (.region [Ob 28 (.mov (.t 3)),Ob 29 (.addr (.t 5) 0),Ob 30 (.load (.t 29) none),Ob 31 (.load (.t 5) (some 6)),On (.mput .i (.t 28) (.t 30) (.t 31))]))))
 (.region [Ob 32 (.bin .add (.t 11) (Ci 1)),Ob 11 (.mov (.t 32))])))))))
 (.seq (.region [Ob 2 (.mov (.c (.bool false)))])
 (.ret))))
def r51 : List Res := [.t 2]
def a51 : AFn := ⟨1, c51, r51,.v⟩

def c52 : ACode := .seq (.region [Ob 2 (.mov (.c (.sl [] .tight)))])
 (.seq (.region [Ob 4 (.mov (.t 0)),Ob 5 (.call 81 [(.t 4)]),Ob 0 (.mov (.t 5))])
 (.seq (.seq (.region [Ob 6 (.mov (.t 0)),Ob 7 (.len (.t 6)),Ob 8 (.mov (Ci 0))])
 (.block 0 (.loop (.seq (.region [Ob 9 (.bin .lss (.t 8) (.t 7))])
 (.seq (.cond (.t 9) (.skip)
 (.exit 0))
 (.seq (.block 1 (.seq (.region [Ob 10 (.mov (.t 8)),Ob 3 (.mov (.t 10))])
 (.seq (.region [Ob 11 (.mov (.t 0)),Ob 12 (.mov (.t 3)),Ob 13 (.mov (.t 0)),Ob 14 (.mov (.t 3)),Ob 15 (.idx (.t 13) (.t 14) 9),Ob 16 (.addr (.t 15) 3),Ob 17 (.load (.t 16) none),Ob 18 (.call 82 [(.t 17)]),Ob 19 (.idx (.t 11) (.t 12) 9),Ob 20 (.addr (.t 19) 3),On (.store (.t 20) (.t 18) 1)])
 (.region [Ob 21 (.mov (.t 0)),Ob 22 (.mov (.t 3)),Ob 23 (.mov (.t 0)),Ob 24 (.mov (.t 3)),Ob 25 (.idx (.t 23) (.t 24) 9),Ob 26 (.addr (.t 25) 4),Ob 27 (.load (.t 26) none),Ob 28 (.call 83 [(.t 27)]),Ob 29 (.idx (.t 21) (.t 22) 9),Ob 30 (.addr (.t 29) 4),On (.store (.t 30) (.t 28) 1)]))))
 (.region [Ob 31 (.bin .add (.t 8) (Ci 1)),Ob 8 (.mov (.t 31))])))))))
 (.seq (.region [Ob 32 (.mov (.t 0)),Ob 2 (.mov (.t 32))])
 (.ret))))
def r52 : List Res := [.t 2]
def a52 : AFn := ⟨1, c52, r52,.v⟩

def c53 : ACode := .seq (.region [Ob 4 (.mov (.c (.bool false)))])
 (.seq (.seq (.region [Ob 6 (.mov (.t 0)),Ob 7 (.len (.t 6)),Ob 8 (.mov (.t 1)),Ob 9 (.len (.t 8)),Ob 10 (.bin .neq (.t 7) (.t 9))])
 (.cond (.t 10) (.seq (.region [Ob 4 (.mov (.c (.bool false)))])
 (.ret))
 (.skip)))
 (.seq (.seq (.region [Ob 5 (.mov (Ci 0))])
 (.block 0 (.loop (.seq (.seq (.region [Ob 11 (.mov (.t 5)),Ob 12 (.mov (.t 0)),Ob 13 (.len (.t 12)),Ob 14 (.bin .lss (.t 11) (.t 13))])
 (.cond (.t 14) (.skip)
 (.exit 0)))
 (.seq (.block 1 (.seq (.region [Ob 17 (.mov (.t 0)),Ob 18 (.mov (.t 5)),Ob 19 (.idx (.t 17) (.t 18) 6),Ob 20 (.load (.t 19) (some 6)),Ob 21 (.mov (.t 1)),Ob 22 (.mov (.t 5)),Ob 23 (.idx (.t 21) (.t 22) 6),Ob 24 (.load (.t 23) (some 6)),Ob 25 (.eqv true true [.i,.i,.i,.i,.i,.i] (.t 20) (.t 24))])
 (.cond (.t 25) (.seq (.region [Ob 4 (.mov (.c (.bool false)))])
 (.ret))
 (.skip))))
 (.region [Ob 15 (.mov (.t 5)),Ob 16 (.bin .add (.t 15) (Ci 1)),Ob 5 (.mov (.t 16))]))))))
 (.seq (.region [Ob 4 (.mov (.c (.bool true)))])
 (.ret))))
def r53 : List Res := [.t 4]
def a53 : AFn := ⟨2, c53, r53,.v⟩

def c54 : ACode := .seq (.region [Ob 2 (.box (.t 0) 9),Ob 3 (.box (.t 1) 9),Ob 4 (.mov (.c (.bool false)))])
 (.seq (.seq (.region [Ob 7 (.addr (.t 2) 0),Ob 8 (.load (.t 7) none),Ob 9 (.addr (.t 3) 0),Ob 10 (.load (.t 9) none),Ob 11 (.bin .neq (.t 8) (.t 10)),Ob 12 (.mov (.t 11)),Og 13 12 false (.addr (.t 2) 1),Og 14 12 false (.load (.t 13) none),Og 15 12 false (.addr (.t 3) 1),Og 16 12 false (.load (.t 15) none),Og 17 12 false (.bin .neq (.t 14) (.t 16)),Ob 18 (.pick (.t 12) (.c (.bool true)) (.t 17)),Ob 19 (.mov (.t 18)),Og 20 19 false (.addr (.t 2) 2),Og 21 19 false (.load (.t 20) none),Og 22 19 false (.addr (.t 3) 2),Og 23 19 false (.load (.t 22) none),Og 24 19 false (.bin .neq (.t 21) (.t 23)),Ob 25 (.pick (.t 19) (.c (.bool true)) (.t 24)),Ob 26 (.mov (.t 25)),Og 27 26 false (.addr (.t 2) 3),Og 28 26 false (.load (.t 27) none),Og 29 26 false (.len (.t 28)),Og 30 26 false (.addr (.t 3) 3),Og 31 26 false (.load (.t 30) none),Og 32 26 false (.len (.t 31)),Og 33 26 false (.bin .neq (.t 29) (.t 32)),Ob 34 (.pick (.t 26) (.c (.bool true)) (.t 33)),Ob 35 (.mov (.t 34)),Og 36 35 false (.addr (.t 2) 4),Og 37 35 false (.load (.t 36) none),Og 38 35 false (.len (.t 37)),Og 39 35 false (.addr (.t 3) 4),Og 40 35 false (.load (.t 39) none),Og 41 35 false (.len (.t 40)),Og 42 35 false (.bin .neq (.t 38) (.t 41)),Ob 43 (.pick (.t 35) (.c (.bool true)) (.t 42)),Ob 44 (.mov (.t 43)),Og 45 44 false (.addr (.t 2) 5),Og 46 44 false (.load (.t 45) none),Og 47 44 false (.addr (.t 3) 5),Og 48 44 false (.load (.t 47) none),Og 49 44 false (.bin .neq (.t 46) (.t 48)),Ob 50 (.pick (.t 44) (.c (.bool true)) (.t 49)),Ob 51 (.mov (.t 50)),Og 52 51 false (.addr (.t 2) 6),Og 53 51 false (.load (.t 52) none),Og 54 51 false (.addr (.t 3) 6),Og 55 51 false (.load (.t 54) none),Og 56 51 false (.bin .neq (.t 53) (.t 55)),Ob 57 (.pick (.t 51) (.c (.bool true)) (.t 56)),Ob 58 (.mov (.t 57)),Og 59 58 false (.addr (.t 2) 7),Og 60 58 false (.load (.t 59) none),Og 61 58 false (.addr (.t 3) 7),Og 62 58 false (.load (.t 61) none),Og 63 58 false (.bin .neq (.t 60) (.t 62)),Ob 64 (.pick (.t 58) (.c (.bool true)) (.t 63)),Ob 65 (.mov (.t 64)),Og 66 65 false (.addr (.t 2) 8),Og 67 65 false (.load (.t 66) none),Og 68 65 false (.addr (.t 3) 8),Og 69 65 false (.load (.t 68) none),Og 70 65 false (.bin .neq (.t 67) (.t 69)),Ob 71 (.pick (.t 65) (.c (.bool true)) (.t 70))])
 (.cond (.t 71) (.seq (.region [Ob 4 (.mov (.c (.bool false)))])
 (.ret))
 (.skip)))
 (.seq (.seq (.region [Ob 5 (.mov (Ci 0))])
 (.block 0 (.loop (.seq (.seq (.region [Ob 72 (.mov (.t 5)),Ob 73 (.addr (.t 2) 3),Ob 74 (.load (.t 73) none),Ob 75 (.len (.t 74)),Ob 76 (.bin .lss (.t 72) (.t 75))])
 (.cond (.t 76) (.skip)
 (.exit 0)))
 (.seq (.block 1 (.seq (.region [Ob 79 (.addr (.t 2) 3),Ob 80 (.load (.t 79) none),Ob 81 (.mov (.t 5)),Ob 82 (.idx (.t 80) (.t 81) 1),Ob 83 (.load (.t 82) none),Ob 84 (.addr (.t 3) 3),Ob 85 (.load (.t 84) none),Ob 86 (.mov (.t 5)),Ob 87 (.idx (.t 85) (.t 86) 1),Ob 88 (.load (.t 87) none),Ob 89 (.bin .neq (.t 83) (.t 88))])
 (.cond (.t 89) (.seq (.region [Ob 4 (.mov (.c (.bool false)))])
 (.ret))
 (.skip))))
 (.region [Ob 77 (.mov (.t 5)),Ob 78 (.bin .add (.t 77) (Ci 1)),Ob 5 (.mov (.t 78))]))))))
 (.seq (.seq (.region [Ob 6 (.mov (Ci 0))])
 (.block 2 (.loop (.seq (.seq (.region [Ob 90 (.mov (.t 6)),Ob 91 (.addr (.t 2) 4),Ob 92 (.load (.t 91) none),Ob 93 (.len (.t 92)),Ob 94 (.bin .lss (.t 90) (.t 93))])
 (.cond (.t 94) (.skip)
 (.exit 2)))
 (.seq (.block 3 (.seq (.region [Ob 97 (.addr (.t 2) 4),Ob 98 (.load (.t 97) none),Ob 99 (.mov (.t 6)),Ob 100 (.idx (.t 98) (.t 99) 2),Ob 101 (.load (.t 100) (some 2)),Ob 102 (.addr (.t 3) 4),Ob 103 (.load (.t 102) none),Ob 104 (.mov (.t 6)),Ob 105 (.idx (.t 103) (.t 104) 2),Ob 106 (.load (.t 105) (some 2)),Ob 107 (.eqv true true [.i,.i] (.t 101) (.t 106))])
 (.cond (.t 107) (.seq (.region [Ob 4 (.mov (.c (.bool false)))])
 (.ret))
 (.skip))))
 (.region [Ob 95 (.mov (.t 6)),Ob 96 (.bin .add (.t 95) (Ci 1)),Ob 6 (.mov (.t 96))]))))))
 (.seq (.region [Ob 4 (.mov (.c (.bool true)))])
 (.ret)))))
def r54 : List Res := [.t 4]
def a54 : AFn := ⟨2, c54, r54,.v⟩

def c55 : ACode := .seq (.region [Ob 6 (.mov (.c (.bool false)))])
 (.seq (.region [Ob 7 (.mov (.t 0)),Ob 8 (.mov (.t 1)),Ob 9 (.bin .geq (.t 7) (.t 8)),Ob 10 (.mov (.t 9)),Og 11 10 true (.mov (.t 0)),Og 12 10 true (.mov (.t 2)),Og 13 10 true (.bin .leq (.t 11) (.t 12)),Ob 14 (.pick (.t 10) (.t 13) (.c (.bool false))),Ob 6 (.mov (.t 14))])
 (.ret))
def r55 : List Res := [.t 6]
def a55 : AFn := ⟨3, c55, r55,.v⟩

def c56 : ACode := .seq (.region [Ob 2 (.box (.t 0) 3),Ob 4 (.mov (.c (.bool false)))])
 (.seq (.region [Ob 5 (.mov (.t 1)),Ob 6 (.len (.t 5)),Ob 7 (.bin .leq (.t 6) (Ci 100)),Ob 8 (.mov (.t 7)),Og 9 8 true (.mov (.t 1)),Og 10 8 true (.clo 85 [] [(.t 2)]),Og 11 8 true (.call 84 [(.t 9), (.t 10)]),Ob 12 (.pick (.t 8) (.t 11) (.c (.bool false))),Ob 4 (.mov (.t 12))])
 (.ret))
def r56 : List Res := [.t 4]
def a56 : AFn := ⟨2, c56, r56,.v⟩

def c57 : ACode := .seq (.region [Ob 2 (.mov (.c (.sl [] .tight)))])
 (.seq (.region [Ob 3 (.mov (.t 0)),Ob 4 (.call 81 [(.t 3)]),Ob 0 (.mov (.t 4))])
 (.seq (.region [Ob 5 (.mov (.t 0)),Ob 6 (.call 86 [(.t 5), (.c (.fn 87 [] []))])])
 (.seq (.region [Ob 7 (.mov (.t 0)),Ob 2 (.mov (.t 7))])
 (.ret))))
def r57 : List Res := [.t 2]
def a57 : AFn := ⟨1, c57, r57,.v⟩

def c58 : ACode := .seq (.region [Ob 4 (.mov (Ci 0))])
 (.seq (.region [Ob 5 (.mov (Ci 0))])
 (.seq (.seq (.region [Ob 8 (.mov (.t 0)),Ob 9 (.len (.t 8)),Ob 10 (.mov (Ci 0))])
 (.block 0 (.loop (.seq (.region [Ob 11 (.bin .lss (.t 10) (.t 9))])
 (.seq (.cond (.t 11) (.skip)
 (.exit 0))
 (.seq (.block 1 (.seq (.region [Ob 12 (.idx (.t 8) (.t 10) 2),Ob 13 (.load (.t 12) (some 2)),Ob 7 (.new (.agg [(.int .i64 0), (.int .i64 0)]) 2),On (.store (.t 7) (.t 13) 2)])
 (.seq (.region [Ob 14 (.addr (.t 7) 0),Ob 15 (.load (.t 14) none),Ob 16 (.mov (.t 1)),Ob 17 (.bin .eql (.t 15) (.t 16))])
 (.cond (.t 17) (.region [Ob 18 (.mov (.t 5)),Ob 19 (.addr (.t 7) 1),Ob 20 (.load (.t 19) none),Ob 21 (.bin .add (.t 18) (.t 20)),Ob 5 (.mov (.t 21))])
 (.skip)))))
 (.region [Ob 22 (.bin .add (.t 10) (Ci 1)),Ob 10 (.mov (.t 22))])))))))
 (.seq (.region [Ob 23 (.mov (.t 5)),Ob 4 (.mov (.t 23))])
 (.ret))))
def r58 : List Res := [.t 4]
def a58 : AFn := ⟨2, c58, r58,.v⟩

def c59 : ACode := .seq (.region [Ob 2 (.mov (.c (.bool false)))])
 (.seq (.region [Ob 3 (.mov (.t 0)),Ob 4 (.call 69 [(.t 3), (Ci 0), (Ci 10000000)]),Ob 2 (.mov (.t 4))])
 (.ret))
def r59 : List Res := [.t 2]
def a59 : AFn := ⟨1, c59, r59,.v⟩

def c60 : ACode := .seq (.region [Ob 4 (.mov (Ci 0))])
 (.seq (.region [Ob 8 (.mov (.t 0)),Ob 5 (.mov (Ci 0)),Ob 6 (.mov (.t 8))])
 (.seq (.block 0 (.loop (.seq (.seq (.region [Ob 9 (.mov (.t 5)),Ob 10 (.mov (.t 6)),Ob 11 (.bin .lss (.t 9) (.t 10))])
 (.cond (.t 11) (.skip)
 (.exit 0)))
 (.block 1 (.seq (.region [Ob 12 (.mov (.t 5)),Ob 13 (.mov (.t 6)),Ob 14 (.bin .add (.t 12) (.t 13)),Ob 15 (.conv .u64 (.t 14)),Ob 16 (.bin .shr (.t 15) (.c (.int .u64 1))),Ob 17 (.conv .i64 (.t 16)),Ob 7 (.mov (.t 17))])
 (.seq (.region [Ob 18 (.mov (.t 1)),Ob 19 (.mov (.t 7)),Ob 20 (.callv (.t 18) [(.t 19)]),Ob 21 (.not (.t 20))])
 (.cond (.t 21) (.region [Ob 22 (.mov (.t 7)),Ob 23 (.bin .add (.t 22) (Ci 1)),Ob 5 (.mov (.t 23))])
 (.region [Ob 24 (.mov (.t 7)),Ob 6 (.mov (.t 24))]))))))))
 (.seq (.region [Ob 25 (.mov (.t 5)),Ob 4 (.mov (.t 25))])
 (.ret))))
def r60 : List Res := [.t 4]
def a60 : AFn := ⟨2, c60, r60,.v⟩

def c61 : ACode := .seq (.region [Ob 6 (.mov (.c (.bool false)))])
 (.seq (.region [Ob 7 (.addr (.t 1) 0),Ob 8 (.load (.t 7) none),Ob 9 (.load (.t 2) (some 9)),Ob 10 (.load (.t 3) none),Ob 11 (.mov (.t 0)),Ob 12 (.call 62 [(.t 8), (.t 9), (.t 10), (.t 11)]),Ob 13 (.fld (.t 12) 3 none),Ob 14 (.load (.t 4) none),Ob 15 (.bin .geq (.t 13) (.t 14)),Ob 6 (.mov (.t 15))])
 (.ret))
def r61 : List Res := [.t 6]
def a61 : AFn := ⟨5, c61, r61,.v⟩

def c62 : ACode := .seq (.region [Ob 5 (.box (.t 1) 9),Ob 8 (.new (.agg [(.int .i64 0), (.int .i64 0), (.int .i64 0), (.int .i64 0), (.int .i64 0), (.int .i64 0)]) 6)])
 (.seq (.region [Ob 12 (.mov (.t 3)),Ob 13 (.mov (.t 3)),Ob 14 (.mov (.t 0)),Ob 15 (.call 88 [(.t 13), (.t 14)]),Ob 16 (.build [(.int .i64 0), (.int .i64 0), (.int .i64 0), (.int .i64 0), (.int .i64 0), (.int .i64 0)] [(0, 1, (.t 12)), (1, 1, (.t 15))]),Ob 9 (.new (.agg [(.int .i64 0), (.int .i64 0), (.int .i64 0), (.int .i64 0), (.int .i64 0), (.int .i64 0)]) 6),On (.store (.t 9) (.t 16) 6)])
 (.seq (.region [Ob 17 (.addr (.t 9) 0),Ob 18 (.load (.t 17) none),Ob 19 (.addr (.t 9) 1),Ob 20 (.load (.t 19) none),Ob 21 (.bin .sub (.t 18) (.t 20)),Ob 22 (.addr (.t 9) 2),On (.store (.t 22) (.t 21) 1)])
 (.seq (.region [Ob 23 (.load (.t 5) (some 9)),Ob 24 (.mov (.t 2)),Ob 25 (.addr (.t 9) 2),Ob 26 (.load (.t 25) none),Ob 27 (.call 89 [(.t 23), (.t 24), (.t 26)]),Ob 10 (.new (.agg [(.int .i64 0), (.int .i64 0), (.int .i64 0)]) 3),On (.store (.t 10) (.t 27) 3)])
 (.seq (.seq (.frzs 10)
 (.region [Ob 28 (.aslc (.t 10) none none 3),Ob 29 (.call 90 [(.t 28)]),Ob 11 (.mov (.t 29))]))
 (.seq (.region [Ob 30 (.mov (.t 11)),Ob 31 (.addr (.t 9) 2),Ob 32 (.load (.t 31) none),Ob 33 (.mnx false (.t 30) (.t 32)),Ob 34 (.addr (.t 9) 3),On (.store (.t 34) (.t 33) 1)])
 (.seq (.region [Ob 35 (.aslc (.t 10) none none 3),Ob 36 (.mov (.t 11)),Ob 37 (.call 91 [(.t 35), (.t 36)]),Ob 38 (.bin .add (Ci 1) (.t 37)),Ob 39 (.addr (.t 9) 5),On (.store (.t 39) (.t 38) 1)])
 (.seq (.region [Ob 40 (.addr (.t 9) 2),Ob 41 (.load (.t 40) none),Ob 42 (.addr (.t 9) 3),Ob 43 (.load (.t 42) none),Ob 44 (.bin .sub (.t 41) (.t 43)),Ob 45 (.addr (.t 9) 4),On (.store (.t 45) (.t 44) 1)])
 (.seq (.region [Ob 46 (.load (.t 9) (some 6)),On (.store (.t 8) (.t 46) 6)])
 (.ret)))))))))
def r62 : List Res := [.cell 8 (some 6)]
def a62 : AFn := ⟨4, c62, r62,.v⟩

def c63 : ACode := .seq (.region [Ob 1 (.box (.t 0) 3),Ob 2 (.mov (.c (.bool false)))])
 (.seq (.region [Ob 3 (.addr (.t 1) 0),Ob 4 (.load (.t 3) none),Ob 5 (.call 69 [(.t 4), (Ci 0), (Ci 500)]),Ob 6 (.mov (.t 5)),Og 7 6 true (.addr (.t 1) 1),Og 8 6 true (.load (.t 7) none),Og 9 6 true (.len (.t 8)),Og 10 6 true (.bin .leq (.t 9) (Ci 6)),Ob 11 (.pick (.t 6) (.t 10) (.c (.bool false))),Ob 12 (.mov (.t 11)),Og 13 12 true (.addr (.t 1) 1),Og 14 12 true (.load (.t 13) none),Og 15 12 true (.call 92 [(.t 14), (.c (.fn 93 [] []))]),Ob 16 (.pick (.t 12) (.t 15) (.c (.bool false))),Ob 17 (.mov (.t 16)),Og 18 17 true (.addr (.t 1) 1),Og 19 17 true (.load (.t 18) none),Og 20 17 true (.call 94 [(.t 19)]),Ob 21 (.pick (.t 17) (.t 20) (.c (.bool false))),Ob 2 (.mov (.t 21))])
 (.ret))
def r63 : List Res := [.t 2]
def a63 : AFn := ⟨1, c63, r63,.v⟩

def c64 : ACode := .seq (.region [Ob 3 (.box (.t 0) 3),Ob 4 (.box (.t 1) 9),Ob 6 (.new (.agg [(.int .i64 0), (.int .i64 0), (.int .i64 0), (.int .i64 0), (.int .i64 0), (.int .i64 0)]) 6)])
 (.seq (.region [Ob 7 (.addr (.t 3) 0),Ob 8 (.load (.t 7) none),Ob 9 (.load (.t 4) (some 9)),Ob 10 (.mov (.t 2)),Ob 11 (.load (.t 3) (some 3)),Ob 12 (.addr (.t 4) 0),Ob 13 (.load (.t 12) none),Ob 14 (.mov (.t 2)),Ob 15 (.call 95 [(.t 11), (.t 13), (.t 14)]),Ob 16 (.call 67 [(.t 8), (.t 9), (.t 10), (.t 15)]),On (.store (.t 6) (.t 16) 6)])
 (.ret))
def r64 : List Res := [.cell 6 (some 6)]
def a64 : AFn := ⟨3, c64, r64,.v⟩

def c65 : ACode := .seq (.region [Ob 3 (.box (.t 0) 3),Ob 4 (.box (.t 1) 9),Ob 6 (.mov (Ci 0))])
 (.seq (.region [Ob 7 (.mov (Ci 0))])
 (.seq (.seq (.region [Ob 9 (.addr (.t 4) 1),Ob 10 (.load (.t 9) none),Ob 8 (.mov (.t 10))])
 (.block 0 (.loop (.seq (.seq (.region [Ob 11 (.mov (.t 8)),Ob 12 (.mov (.t 2)),Ob 13 (.addr (.t 4) 2),Ob 14 (.load (.t 13) none),Ob 15 (.mnx false (.t 12) (.t 14)),Ob 16 (.bin .leq (.t 11) (.t 15))])
 (.cond (.t 16) (.skip)
 (.exit 0)))
 (.seq (.block 1 (.region [Ob 19 (.mov (.t 7)),Ob 20 (.load (.t 3) (some 3)),Ob 21 (.load (.t 4) (some 9)),Ob 22 (.mov (.t 8)),Ob 23 (.call 64 [(.t 20), (.t 21), (.t 22)]),Ob 24 (.fld (.t 23) 3 none),Ob 25 (.bin .add (.t 19) (.t 24)),Ob 7 (.mov (.t 25))]))
 (.region [Ob 17 (.mov (.t 8)),Ob 18 (.bin .add (.t 17) (Ci 1)),Ob 8 (.mov (.t 18))]))))))
 (.seq (.seq (.region [Ob 26 (.mov (.t 2)),Ob 27 (.addr (.t 4) 2),Ob 28 (.load (.t 27) none),Ob 29 (.bin .geq (.t 26) (.t 28))])
 (.cond (.t 29) (.region [Ob 30 (.mov (.t 7)),Ob 31 (.addr (.t 4) 8),Ob 32 (.load (.t 31) none),Ob 33 (.mnx true (.t 30) (.t 32)),Ob 7 (.mov (.t 33))])
 (.skip)))
 (.seq (.region [Ob 34 (.mov (.t 7)),Ob 6 (.mov (.t 34))])
 (.ret)))))
def r65 : List Res := [.t 6]
def a65 : AFn := ⟨3, c65, r65,.v⟩

def c66 : ACode := .seq (.region [Ob 2 (.mov (.c (.sl [] .tight)))])
 (.seq (.region [Ob 3 (.mov (.c (.sl [] .tight)))])
 (.seq (.seq (.region [Ob 4 (.mov (Ci 0))])
 (.block 0 (.loop (.seq (.seq (.region [Ob 9 (.mov (.t 4)),Ob 10 (.bin .leq (.t 9) (Ci 99))])
 (.cond (.t 10) (.skip)
 (.exit 0)))
 (.seq (.block 1 (.seq (.region [Ob 13 (.mov (.t 3)),Ob 14 (.len (.t 13)),Ob 5 (.mov (.t 14))])
 (.seq (.region [Ob 6 (.mov (Ci 0))])
 (.block 2 (.loop (.seq (.seq (.region [Ob 15 (.mov (.t 6)),Ob 16 (.mov (.t 0)),Ob 17 (.len (.t 16)),Ob 18 (.bin .lss (.t 15) (.t 17))])
 (.cond (.t 18) (.skip)
 (.exit 2)))
 (.seq (.block 3 (.seq (.region [Ob 21 (.mov (.t 0)),Ob 22 (.mov (.t 6)),Ob 23 (.idx (.t 21) (.t 22) 6),Ob 24 (.addr (.t 23) 0),Ob 25 (.load (.t 24) none),Ob 26 (.mov (.t 4)),Ob 27 (.bin .neq (.t 25) (.t 26)),Ob 7 (.mov (.t 27))])
 (.seq (.seq (.region [Ob 28 (.mov (.t 5)),Ob 8 (.mov (.t 28))])
 (.block 4 (.loop (.seq (.seq (.region [Ob 29 (.mov (.t 8)),Ob 30 (.mov (.t 3)),Ob 31 (.len (.t 30)),Ob 32 (.bin .lss (.t 29) (.t 31))])
 (.cond (.t 32) (.skip)
 (.exit 4)))
 (.seq (.block 5 (.region [Ob 35 (.mov (.t 7)),Ob 36 (.mov (.t 35)),Og 37 36 false (.mov (.t 3)),Og 38 36 false (.mov (.t 8)),Og 39 36 false (.idx (.t 37) (.t 38) 6),Og 40 36 false (.load (.t 39) (some 6)),Og 41 36 false (.mov (.t 0)),Og 42 36 false (.mov (.t 6)),Og 43 36 false (.idx (.t 41) (.t 42) 6),Og 44 36 false (.load (.t 43) (some 6)),Og 45 36 false (.eqv false true [.i,.i,.i,.i,.i,.i] (.t 40) (.t 44)),Ob 46 (.pick (.t 36) (.c (.bool true)) (.t 45)),Ob 7 (.mov (.t 46))]))
 (.region [Ob 33 (.mov (.t 8)),Ob 34 (.bin .add (.t 33) (Ci 1)),Ob 8 (.mov (.t 34))]))))))
 (.seq (.region [Ob 47 (.mov (.t 7)),Ob 48 (.not (.t 47))])
 (.cond (.t 48) (.region [Ob 49 (.mov (.t 3)),Ob 50 (.mov (.t 0)),Ob 51 (.mov (.t 6)),Ob 52 (.idx (.t 50) (.t 51) 6),Ob 53 (.load (.t 52) (some 6)),Ob 54 (.lit false 52 6 [(.t 53)]),Ob 55 (.app false (.t 49) (.t 54) 52 6 48),Ob 3 (.mov (.t 55))])
 (.skip))))))
 (.region [Ob 19 (.mov (.t 6)),Ob 20 (.bin .add (.t 19) (Ci 1)),Ob 6 (.mov (.t 20))]))))))))
 (.region [Ob 11 (.mov (.t 4)),Ob 12 (.bin .add (.t 11) (Ci 1)),Ob 4 (.mov (.t 12))]))))))
 (.seq (.region [Ob 56 (.mov (.t 3)),Ob 2 (.mov (.t 56))])
 (.ret))))
def r66 : List Res := [.t 2]
def a66 : AFn := ⟨1, c66, r66,.v⟩

def c67 : ACode := .seq (.region [Ob 5 (.box (.t 1) 9),Ob 8 (.new (.agg [(.int .i64 0), (.int .i64 0), (.int .i64 0), (.int .i64 0), (.int .i64 0), (.int .i64 0)]) 6)])
 (.seq (.region [Ob 15 (.mov (.t 3)),Ob 16 (.mov (.t 3)),Ob 17 (.mov (.t 0)),Ob 18 (.bin .mul (.t 16) (.t 17)),Ob 19 (.bin .quo (.t 18) (Ci 1000)),Ob 20 (.build [(.int .i64 0), (.int .i64 0), (.int .i64 0), (.int .i64 0), (.int .i64 0), (.int .i64 0)] [(0, 1, (.t 15)), (1, 1, (.t 19))]),Ob 9 (.new (.agg [(.int .i64 0), (.int .i64 0), (.int .i64 0), (.int .i64 0), (.int .i64 0), (.int .i64 0)]) 6),On (.store (.t 9) (.t 20) 6)])
 (.seq (.region [Ob 21 (.addr (.t 9) 0),Ob 22 (.load (.t 21) none),Ob 23 (.addr (.t 9) 1),Ob 24 (.load (.t 23) none),Ob 25 (.bin .sub (.t 22) (.t 24)),Ob 26 (.addr (.t 9) 2),On (.store (.t 26) (.t 25) 1)])
 (.seq (.region [Ob 27 (.addr (.t 5) 3),Ob 28 (.load (.t 27) none),Ob 29 (.mov (.t 2)),Ob 30 (.addr (.t 5) 1),Ob 31 (.load (.t 30) none),Ob 32 (.bin .sub (.t 29) (.t 31)),Ob 33 (.addr (.t 5) 3),Ob 34 (.load (.t 33) none),Ob 35 (.len (.t 34)),Ob 36 (.bin .sub (.t 35) (Ci 1)),Ob 37 (.mnx false (.t 32) (.t 36)),Ob 38 (.idx (.t 28) (.t 37) 1),Ob 39 (.load (.t 38) none),Ob 10 (.mov (.t 39))])
 (.seq (.seq (.region [Ob 11 (.mov (Ci 0))])
 (.block 0 (.loop (.seq (.seq (.region [Ob 40 (.mov (.t 11)),Ob 41 (.addr (.t 5) 4),Ob 42 (.load (.t 41) none),Ob 43 (.len (.t 42)),Ob 44 (.bin .lss (.t 40) (.t 43))])
 (.cond (.t 44) (.skip)
 (.exit 0)))
 (.seq (.block 1 (.seq (.region [Ob 47 (.addr (.t 5) 4),Ob 48 (.load (.t 47) none),Ob 49 (.mov (.t 11)),Ob 50 (.idx (.t 48) (.t 49) 2),Ob 51 (.addr (.t 50) 0),Ob 52 (.load (.t 51) none),Ob 53 (.addr (.t 9) 2),Ob 54 (.load (.t 53) none),Ob 55 (.bin .leq (.t 52) (.t 54))])
 (.cond (.t 55) (.region [Ob 56 (.mov (.t 10)),Ob 57 (.addr (.t 5) 4),Ob 58 (.load (.t 57) none),Ob 59 (.mov (.t 11)),Ob 60 (.idx (.t 58) (.t 59) 2),Ob 61 (.addr (.t 60) 1),Ob 62 (.load (.t 61) none),Ob 63 (.mnx true (.t 56) (.t 62)),Ob 10 (.mov (.t 63))])
 (.skip))))
 (.region [Ob 45 (.mov (.t 11)),Ob 46 (.bin .add (.t 45) (Ci 1)),Ob 11 (.mov (.t 46))]))))))
 (.seq (.region [Ob 64 (.addr (.t 9) 2),Ob 65 (.load (.t 64) none),Ob 66 (.mov (.t 10)),Ob 67 (.bin .mul (.t 65) (.t 66)),Ob 68 (.bin .quo (.t 67) (Ci 1000)),Ob 69 (.addr (.t 9) 2),Ob 70 (.load (.t 69) none),Ob 71 (.addr (.t 5) 5),Ob 72 (.load (.t 71) none),Ob 73 (.bin .sub (.t 70) (.t 72)),Ob 74 (.mnx true (Ci 0) (.t 73)),Ob 75 (.addr (.t 5) 6),Ob 76 (.load (.t 75) none),Ob 77 (.bin .mul (.t 74) (.t 76)),Ob 78 (.bin .quo (.t 77) (Ci 1000)),Ob 12 (.mov (.t 68)),Ob 13 (.mov (.t 78))])
 (.seq (.region [Ob 79 (.mov (.t 12)),Ob 80 (.mov (.t 13)),Ob 81 (.addr (.t 5) 7),Ob 82 (.load (.t 81) none),Ob 83 (.mnl true (.t 79) [(.t 80), (.t 82)]),Ob 14 (.mov (.t 83))])
 (.seq (.seq (.region [Ob 84 (.mov (.t 14))])
 (.block 2 (.seq (.region [Ob 87 (.mov (.t 12)),Ob 88 (.bin .eql (.t 84) (.t 87)),Ob 86 (.mov (.t 88))])
 (.cond (.t 86) (.region [Ob 89 (.addr (.t 9) 5),On (.store (.t 89) (Ci 1) 1)])
 (.seq (.region [Ob 91 (.mov (.t 13)),Ob 92 (.bin .eql (.t 84) (.t 91)),Ob 90 (.mov (.t 92))])
 (.cond (.t 90) (.region [Ob 93 (.addr (.t 9) 5),On (.store (.t 93) (Ci 2) 1)])
 (.region [Ob 85 (.addr (.t 9) 5),On (.store (.t 85) (Ci 3) 1)])))))))
 (.seq (.region [Ob 94 (.addr (.t 9) 2),Ob 95 (.load (.t 94) none),Ob 96 (.mov (.t 14)),Ob 97 (.mnx false (.t 95) (.t 96)),Ob 98 (.addr (.t 9) 3),On (.store (.t 98) (.t 97) 1)])
 (.seq (.region [Ob 99 (.addr (.t 9) 2),Ob 100 (.load (.t 99) none),Ob 101 (.addr (.t 9) 3),Ob 102 (.load (.t 101) none),Ob 103 (.bin .sub (.t 100) (.t 102)),Ob 104 (.addr (.t 9) 4),On (.store (.t 104) (.t 103) 1)])
 (.seq (.region [Ob 105 (.load (.t 9) (some 6)),On (.store (.t 8) (.t 105) 6)])
 (.ret)))))))))))
def r67 : List Res := [.cell 8 (some 6)]
def a67 : AFn := ⟨4, c67, r67,.v⟩

def c68 : ACode := .seq (.region [Ob 1 (.box (.t 0) 9),Ob 2 (.mov (.c (.bool false)))])
 (.seq (.seq (.region [Ob 5 (.addr (.t 1) 0),Ob 6 (.load (.t 5) none),Ob 7 (.call 55 [(.t 6), (Ci 0), (Ci 99)]),Ob 8 (.not (.t 7)),Ob 9 (.mov (.t 8)),Og 10 9 false (.addr (.t 1) 1),Og 11 9 false (.load (.t 10) none),Og 12 9 false (.bin .lss (.t 11) (Ci 0)),Ob 13 (.pick (.t 9) (.c (.bool true)) (.t 12)),Ob 14 (.mov (.t 13)),Og 15 14 false (.addr (.t 1) 1),Og 16 14 false (.load (.t 15) none),Og 17 14 false (.addr (.t 1) 2),Og 18 14 false (.load (.t 17) none),Og 19 14 false (.bin .gtr (.t 16) (.t 18)),Ob 20 (.pick (.t 14) (.c (.bool true)) (.t 19)),Ob 21 (.mov (.t 20)),Og 22 21 false (.addr (.t 1) 2),Og 23 21 false (.load (.t 22) none),Og 24 21 false (.bin .gtr (.t 23) (Ci 99)),Ob 25 (.pick (.t 21) (.c (.bool true)) (.t 24)),Ob 26 (.mov (.t 25)),Og 27 26 false (.addr (.t 1) 3),Og 28 26 false (.load (.t 27) none),Og 29 26 false (.len (.t 28)),Og 30 26 false (.call 55 [(.t 29), (Ci 1), (Ci 6)]),Og 31 26 false (.not (.t 30)),Ob 32 (.pick (.t 26) (.c (.bool true)) (.t 31)),Ob 33 (.mov (.t 32)),Og 34 33 false (.addr (.t 1) 4),Og 35 33 false (.load (.t 34) none),Og 36 33 false (.len (.t 35)),Og 37 33 false (.bin .gtr (.t 36) (Ci 4)),Ob 38 (.pick (.t 33) (.c (.bool true)) (.t 37)),Ob 39 (.mov (.t 38)),Og 40 39 false (.addr (.t 1) 5),Og 41 39 false (.load (.t 40) none),Og 42 39 false (.call 55 [(.t 41), (Ci 0), (Ci 10000000)]),Og 43 39 false (.not (.t 42)),Ob 44 (.pick (.t 39) (.c (.bool true)) (.t 43)),Ob 45 (.mov (.t 44)),Og 46 45 false (.addr (.t 1) 7),Og 47 45 false (.load (.t 46) none),Og 48 45 false (.call 55 [(.t 47), (Ci 0), (Ci 10000000)]),Og 49 45 false (.not (.t 48)),Ob 50 (.pick (.t 45) (.c (.bool true)) (.t 49)),Ob 51 (.mov (.t 50)),Og 52 51 false (.addr (.t 1) 6),Og 53 51 false (.load (.t 52) none),Og 54 51 false (.call 55 [(.t 53), (Ci 0), (Ci 1000)]),Og 55 51 false (.not (.t 54)),Ob 56 (.pick (.t 51) (.c (.bool true)) (.t 55)),Ob 57 (.mov (.t 56)),Og 58 57 false (.addr (.t 1) 8),Og 59 57 false (.load (.t 58) none),Og 60 57 false (.call 55 [(.t 59), (Ci 0), (Ci 100000000)]),Og 61 57 false (.not (.t 60)),Ob 62 (.pick (.t 57) (.c (.bool true)) (.t 61))])
 (.cond (.t 62) (.seq (.region [Ob 2 (.mov (.c (.bool false)))])
 (.ret))
 (.skip)))
 (.seq (.seq (.region [Ob 3 (.mov (Ci 0))])
 (.block 0 (.loop (.seq (.seq (.region [Ob 63 (.mov (.t 3)),Ob 64 (.addr (.t 1) 3),Ob 65 (.load (.t 64) none),Ob 66 (.len (.t 65)),Ob 67 (.bin .lss (.t 63) (.t 66))])
 (.cond (.t 67) (.skip)
 (.exit 0)))
 (.seq (.block 1 (.seq (.region [Ob 70 (.addr (.t 1) 3),Ob 71 (.load (.t 70) none),Ob 72 (.mov (.t 3)),Ob 73 (.idx (.t 71) (.t 72) 1),Ob 74 (.load (.t 73) none),Ob 75 (.call 55 [(.t 74), (Ci 0), (Ci 1000)]),Ob 76 (.not (.t 75))])
 (.cond (.t 76) (.seq (.region [Ob 2 (.mov (.c (.bool false)))])
 (.ret))
 (.skip))))
 (.region [Ob 68 (.mov (.t 3)),Ob 69 (.bin .add (.t 68) (Ci 1)),Ob 3 (.mov (.t 69))]))))))
 (.seq (.seq (.region [Ob 4 (.mov (Ci 0))])
 (.block 2 (.loop (.seq (.seq (.region [Ob 77 (.mov (.t 4)),Ob 78 (.addr (.t 1) 4),Ob 79 (.load (.t 78) none),Ob 80 (.len (.t 79)),Ob 81 (.bin .lss (.t 77) (.t 80))])
 (.cond (.t 81) (.skip)
 (.exit 2)))
 (.seq (.block 3 (.seq (.region [Ob 84 (.addr (.t 1) 4),Ob 85 (.load (.t 84) none),Ob 86 (.mov (.t 4)),Ob 87 (.idx (.t 85) (.t 86) 2),Ob 88 (.addr (.t 87) 0),Ob 89 (.load (.t 88) none),Ob 90 (.call 55 [(.t 89), (Ci 0), (Ci 10000000)]),Ob 91 (.not (.t 90)),Ob 92 (.mov (.t 91)),Og 93 92 false (.addr (.t 1) 4),Og 94 92 false (.load (.t 93) none),Og 95 92 false (.mov (.t 4)),Og 96 92 false (.idx (.t 94) (.t 95) 2),Og 97 92 false (.addr (.t 96) 1),Og 98 92 false (.load (.t 97) none),Og 99 92 false (.call 55 [(.t 98), (Ci 0), (Ci 1000)]),Og 100 92 false (.not (.t 99)),Ob 101 (.pick (.t 92) (.c (.bool true)) (.t 100)),Ob 102 (.mov (.t 101)),Og 103 102 false (.mov (.t 4)),Og 104 102 false (.bin .gtr (.t 103) (Ci 0)),Og 105 102 false (.mov (.t 104)),Og 106 105 true (.addr (.t 1) 4),Og 107 105 true (.load (.t 106) none),Og 108 105 true (.mov (.t 4)),Og 109 105 true (.idx (.t 107) (.t 108) 2),Og 110 105 true (.addr (.t 109) 0),Og 111 105 true (.load (.t 110) none),Og 112 105 true (.addr (.t 1) 4),Og 113 105 true (.load (.t 112) none),Og 114 105 true (.mov (.t 4)),Og 115 105 true (.bin .sub (.t 114) (Ci 1)),Og 116 105 true (.idx (.t 113) (.t 115) 2),Og 117 105 true (.addr (.t 116) 0),Og 118 105 true (.load (.t 117) none),Og 119 105 true (.bin .leq (.t 111) (.t 118)),Og 120 102 false (.pick (.t 105) (.t 119) (.c (.bool false))),Ob 121 (.pick (.t 102) (.c (.bool true)) (.t 120))])
 (.cond (.t 121) (.seq (.region [Ob 2 (.mov (.c (.bool false)))])
 (.ret))
 (.skip))))
 (.region [Ob 82 (.mov (.t 4)),Ob 83 (.bin .add (.t 82) (Ci 1)),Ob 4 (.mov (.t 83))]))))))
 (.seq (.region [Ob 2 (.mov (.c (.bool true)))])
 (.ret)))))
def r68 : List Res := [.t 2]
def a68 : AFn := ⟨1, c68, r68,.v⟩

def c69 : ACode := .seq (.region [Ob 6 (.mov (.c (.bool false)))])
 (.seq (.region [Ob 7 (.mov (.t 1)),Ob 8 (.mov (.t 0)),Ob 9 (.bin .leq (.t 7) (.t 8)),Ob 10 (.mov (.t 9)),Og 11 10 true (.mov (.t 0)),Og 12 10 true (.mov (.t 2)),Og 13 10 true (.bin .leq (.t 11) (.t 12)),Ob 14 (.pick (.t 10) (.t 13) (.c (.bool false))),Ob 6 (.mov (.t 14))])
 (.ret))
def r69 : List Res := [.t 6]
def a69 : AFn := ⟨3, c69, r69,.v⟩

def c70 : ACode := .seq (.region [Ob 6 (.mov (Ci 0))])
 (.seq (.region [Ob 13 (.mov (.t 0)),Ob 14 (.mov (.t 1)),Ob 15 (.mov (.t 2)),Ob 16 (.call 96 [(.t 13), (.t 14), (.t 15)]),Ob 7 (.mov (.t 16))])
 (.seq (.seq (.region [Ob 18 (.mov (.t 7)),Ob 19 (.mget .i (.agg [(.int .i64 0), (.int .i64 0), (.int .i64 0), (.int .i64 0), (.int .i64 0), (.int .i64 0)]) true (.t 18) (Ci (-1))),Ob 17 (.mov (.t 19)),Ob 20 (.ext (.t 17) 0),Ob 21 (.ext (.t 17) 1),Ob 8 (.new (.agg [(.int .i64 0), (.int .i64 0), (.int .i64 0), (.int .i64 0), (.int .i64 0), (.int .i64 0)]) 6),On (.store (.t 8) (.t 20) 6),Ob 9 (.mov (.t 21))])
 (.seq (.region [Ob 22 (.mov (.t 9))])
 (.cond (.t 22) (.seq (.region [Ob 23 (.addr (.t 8) 5),Ob 24 (.load (.t 23) none),Ob 6 (.mov (.t 24))])
 (.ret))
 (.skip))))
 (.seq (.region [Ob 10 (.mov (Ci 0))])
 (.seq (.rngm (.t 25) 26 27 28 29 [Ob 25 (.mov (.t 7))] [Ob 30 (.ext (.t 29) 1), Ob 12 (.new (.agg [(.int .i64 0), (.int .i64 0), (.int .i64 0), (.int .i64 0), (.int .i64 0), (.int .i64 0)]) 6), On (.store (.t 12) (.t 30) 6)] 0 1 (.region [Ob 31 (.mov (.t 10)),Ob 32 (.addr (.t 12) 5),Ob 33 (.load (.t 32) none),Ob 34 (.bin .add (.t 31) (.t 33)),Ob 10 (.mov (.t 34))]) [12, 30, 31, 32, 33, 34])
 (.seq (.region [Ob 35 (.mov (.t 10)),Ob 6 (.mov (.t 35))])
 (.ret))))))
def r70 : List Res := [.t 6]
def a70 : AFn := ⟨3, c70, r70,.v⟩

def c71 : ACode := .seq (.region [Ob 4 (.mov (Ci 0))])
 (.seq (.seq (.region [Ob 6 (.mov (.t 0)),Ob 7 (.len (.t 6)),Ob 8 (.mov (Ci 0))])
 (.block 0 (.loop (.seq (.region [Ob 9 (.bin .lss (.t 8) (.t 7))])
 (.seq (.cond (.t 9) (.skip)
 (.exit 0))
 (.seq (.block 1 (.seq (.region [Ob 10 (.mov (.t 8)),Ob 5 (.mov (.t 10))])
 (.seq (.region [Ob 11 (.mov (.t 1)),Ob 12 (.mov (.t 0)),Ob 13 (.mov (.t 5)),Ob 14 (.idx (.t 12) (.t 13) 9),Ob 15 (.load (.t 14) (some 9)),Ob 16 (.callv (.t 11) [(.t 15)])])
 (.cond (.t 16) (.seq (.region [Ob 17 (.mov (.t 5)),Ob 4 (.mov (.t 17))])
 (.ret))
 (.skip)))))
 (.region [Ob 18 (.bin .add (.t 8) (Ci 1)),Ob 8 (.mov (.t 18))])))))))
 (.seq (.region [Ob 4 (.mov (Ci (-1)))])
 (.ret)))
def r71 : List Res := [.t 4]
def a71 : AFn := ⟨2, c71, r71,.v⟩

def c72 : ACode := .seq (.region [Ob 2 (.box (.t 0) 9),Ob 3 (.mov (.c (.bool false)))])
 (.seq (.region [Ob 4 (.addr (.t 2) 0),Ob 5 (.load (.t 4) none),Ob 6 (.load (.t 1) none),Ob 7 (.bin .eql (.t 5) (.t 6)),Ob 3 (.mov (.t 7))])
 (.ret))
def r72 : List Res := [.t 3]
def a72 : AFn := ⟨2, c72, r72,.v⟩

def c73 : ACode := .seq (.region [Ob 3 (.box (.t 1) 1),Ob 4 (.mov (.c (.bool false)))])
 (.seq (.region [Ob 5 (.mov (.t 0)),Ob 6 (.clo 98 [] [(.t 3)]),Ob 7 (.call 97 [(.t 5), (.t 6)]),Ob 8 (.not (.t 7)),Ob 4 (.mov (.t 8))])
 (.ret))
def r73 : List Res := [.t 4]
def a73 : AFn := ⟨2, c73, r73,.v⟩

def c74 : ACode := .seq (.region [Ob 2 (.box (.t 0) 6),Ob 3 (.mov (.c (.bool false)))])
 (.seq (.region [Ob 4 (.load (.t 1) (some 3)),Ob 5 (.load (.t 2) (some 6)),Ob 6 (.call 75 [(.t 4), (.t 5)]),Ob 3 (.mov (.t 6))])
 (.ret))
def r74 : List Res := [.t 3]
def a74 : AFn := ⟨2, c74, r74,.v⟩

def c75 : ACode := .seq (.region [Ob 2 (.box (.t 0) 3),Ob 3 (.box (.t 1) 6),Ob 4 (.mov (.c (.bool false)))])
 (.seq (.region [Ob 8 (.addr (.t 2) 1),Ob 9 (.load (.t 8) none),Ob 10 (.addr (.t 3) 2),Ob 11 (.load (.t 10) none),Ob 12 (.call 46 [(.t 9), (.t 11)]),Ob 7 (.mov (.t 12)),Ob 13 (.ext (.t 7) 0),Ob 14 (.ext (.t 7) 1),Ob 5 (.new (.agg [(.int .i64 0), (.int .i64 0), (.int .i64 0), (.sl [] .tight), (.sl [] .tight), (.int .i64 0), (.int .i64 0), (.int .i64 0), (.int .i64 0)]) 9),On (.store (.t 5) (.t 13) 9),Ob 6 (.mov (.t 14))])
 (.seq (.region [Ob 15 (.mov (.t 6)),Ob 16 (.mov (.t 15)),Og 17 16 true (.load (.t 5) (some 9)),Og 18 16 true (.addr (.t 3) 3),Og 19 16 true (.load (.t 18) none),Og 20 16 true (.call 42 [(.t 17), (.t 19)]),Ob 21 (.pick (.t 16) (.t 20) (.c (.bool false))),Ob 22 (.mov (.t 21)),Og 23 22 true (.addr (.t 3) 0),Og 24 22 true (.load (.t 23) none),Og 25 22 true (.call 69 [(.t 24), (Ci 0), (Ci 99)]),Ob 26 (.pick (.t 22) (.t 25) (.c (.bool false))),Ob 27 (.mov (.t 26)),Og 28 27 true (.addr (.t 3) 1),Og 29 27 true (.load (.t 28) none),Og 30 27 true (.bin .eql (.t 29) (Ci 1)),Og 31 27 true (.mov (.t 30)),Og 32 31 false (.addr (.t 3) 1),Og 33 31 false (.load (.t 32) none),Og 34 31 false (.bin .eql (.t 33) (Ci 2)),Og 35 27 true (.pick (.t 31) (.c (.bool true)) (.t 34)),Ob 36 (.pick (.t 27) (.t 35) (.c (.bool false))),Ob 37 (.mov (.t 36)),Og 38 37 true (.addr (.t 3) 4),Og 39 37 true (.load (.t 38) none),Og 40 37 true (.call 69 [(.t 39), (Ci 0), (Ci 9)]),Ob 41 (.pick (.t 37) (.t 40) (.c (.bool false))),Ob 42 (.mov (.t 41)),Og 43 42 true (.addr (.t 3) 5),Og 44 42 true (.load (.t 43) none),Og 45 42 true (.call 59 [(.t 44)]),Ob 46 (.pick (.t 42) (.t 45) (.c (.bool false))),Ob 4 (.mov (.t 46))])
 (.ret)))
def r75 : List Res := [.t 4]
def a75 : AFn := ⟨2, c75, r75,.v⟩

def c76 : ACode := .seq (.region [Ob 2 (.mov (.c (.sl [] .tight)))])
 (.seq (.region [Ob 3 (.mov (Ci 0))])
 (.seq (.seq (.region [Ob 9 (.mov (.t 0)),Ob 10 (.len (.t 9)),Ob 11 (.mov (Ci 0))])
 (.block 0 (.loop (.seq (.region [Ob 12 (.bin .lss (.t 11) (.t 10))])
 (.seq (.cond (.t 12) (.skip)
 (.exit 0))
 (.seq (.block 1 (.seq (.region [Ob 13 (.idx (.t 9) (.t 11) 1),Ob 14 (.load (.t 13) none),Ob 5 (.mov (.t 14))])
 (.seq (.region [Ob 15 (.mov (.t 3)),Ob 16 (.mov (.t 5)),Ob 17 (.len (.t 16)),Ob 18 (.bin .add (.t 15) (.t 17)),Ob 3 (.mov (.t 18))])
 (.seq (.region [Ob 19 (.mov (.t 3)),Ob 20 (.bin .lss (.t 19) (Ci 0))])
 (.cond (.t 20) (.region [Ob 21 (.bad),On (.bad)])
 (.skip))))))
 (.region [Ob 22 (.bin .add (.t 11) (Ci 1)),Ob 11 (.mov (.t 22))])))))))
 (.seq (.region [Ob 23 (.mov (.t 3)),Ob 24 (.call 99 [(.c (.sl [] .tight)), (.t 23)]),Ob 6 (.mov (.t 24))])
 (.seq (.seq (.region [Ob 25 (.mov (.t 0)),Ob 26 (.len (.t 25)),Ob 27 (.mov (Ci 0))])
 (.block 2 (.loop (.seq (.region [Ob 28 (.bin .lss (.t 27) (.t 26))])
 (.seq (.cond (.t 28) (.skip)
 (.exit 2))
 (.seq (.block 3 (.seq (.region [Ob 29 (.idx (.t 25) (.t 27) 1),Ob 30 (.load (.t 29) none),Ob 8 (.mov (.t 30))])
 (.region [Ob 31 (.mov (.t 6)),Ob 32 (.mov (.t 8)),Ob 33 (.app true (.t 31) (.t 32) 52 6 48),Ob 6 (.mov (.t 33))])))
 (.region [Ob 34 (.bin .add (.t 27) (Ci 1)),Ob 27 (.mov (.t 34))])))))))
 (.seq (.region [Ob 35 (.mov (.t 6)),Ob 2 (.mov (.t 35))])
 (.ret))))))
def r76 : List Res := [.t 2]
def a76 : AFn := ⟨1, c76, r76,.o⟩

def c77 : ACode := .seq (.region [Ob 5 (.mov (.t 0)),Ob 6 (.len (.t 5)),Ob 4 (.mov (.t 6))])
 (.region [Ob 7 (.mov (.t 0)),Ob 8 (.mov (.t 4)),Ob 9 (.mov (.t 4)),Ob 10 (.conv .u64 (.t 9)),Ob 11 (.call 101 [(.t 10)]),Ob 12 (.mov (.t 1)),Ob 13 (.call 100 [(.t 7), (Ci 0), (.t 8), (.t 11), (.t 12)])])
def r77 : List Res := []
def a77 : AFn := ⟨2, c77, r77,.r⟩

def c78 : ACode := .seq (.region [Ob 2 (.box (.t 0) 6),Ob 3 (.box (.t 1) 6),Ob 4 (.mov (Ci 0))])
 (.seq (.region [Ob 5 (.addr (.t 2) 0),Ob 6 (.load (.t 5) none),Ob 7 (.addr (.t 3) 0),Ob 8 (.load (.t 7) none),Ob 9 (.call 79 [(.t 6), (.t 8)]),Ob 4 (.mov (.t 9))])
 (.ret))
def r78 : List Res := [.t 4]
def a78 : AFn := ⟨2, c78, r78,.v⟩

def c79 : ACode := .seq (.region [Ob 4 (.mov (Ci 0))])
 (.seq (.region [Ob 7 (.mov (.t 0)),Ob 8 (.call 102 [(.t 7)]),Ob 5 (.mov (.t 8))])
 (.seq (.region [Ob 9 (.mov (.t 1)),Ob 10 (.call 102 [(.t 9)]),Ob 6 (.mov (.t 10))])
 (.seq (.seq (.region [Ob 11 (.mov (.t 5))])
 (.cond (.t 11) (.seq (.seq (.region [Ob 12 (.mov (.t 6))])
 (.cond (.t 12) (.seq (.region [Ob 4 (.mov (Ci 0))])
 (.ret))
 (.skip)))
 (.seq (.region [Ob 4 (.mov (Ci (-1)))])
 (.ret)))
 (.skip)))
 (.seq (.seq (.region [Ob 13 (.mov (.t 6))])
 (.cond (.t 13) (.seq (.region [Ob 4 (.mov (Ci 1))])
 (.ret))
 (.skip)))
 (.seq (.seq (.region [Ob 14 (.mov (.t 0)),Ob 15 (.mov (.t 1)),Ob 16 (.bin .lss (.t 14) (.t 15))])
 (.cond (.t 16) (.seq (.region [Ob 4 (.mov (Ci (-1)))])
 (.ret))
 (.skip)))
 (.seq (.seq (.region [Ob 17 (.mov (.t 0)),Ob 18 (.mov (.t 1)),Ob 19 (.bin .gtr (.t 17) (.t 18))])
 (.cond (.t 19) (.seq (.region [Ob 4 (.mov (Ci 1))])
 (.ret))
 (.skip)))
 (.seq (.region [Ob 4 (.mov (Ci 0))])
 (.ret))))))))
def r79 : List Res := [.t 4]
def a79 : AFn := ⟨2, c79, r79,.v⟩

def c80 : ACode := .seq (.region [Ob 2 (.mov (.c (.sl [] .tight)))])
 (.seq (.seq (.region [Ob 6 (.mov (.t 0)),Ob 7 (.len (.t 6)),Ob 8 (.bin .lss (.t 7) (Ci 2))])
 (.cond (.t 8) (.seq (.region [Ob 9 (.mov (.t 0)),Ob 2 (.mov (.t 9))])
 (.ret))
 (.skip)))
 (.seq (.seq (.region [Ob 3 (.mov (Ci 1))])
 (.block 0 (.loop (.seq (.seq (.region [Ob 10 (.mov (.t 3)),Ob 11 (.mov (.t 0)),Ob 12 (.len (.t 11)),Ob 13 (.bin .lss (.t 10) (.t 12))])
 (.cond (.t 13) (.skip)
 (.exit 0)))
 (.seq (.block 1 (.seq (.region [Ob 16 (.mov (.t 0)),Ob 17 (.mov (.t 3)),Ob 18 (.idx (.t 16) (.t 17) 6),Ob 19 (.load (.t 18) (some 6)),Ob 20 (.mov (.t 0)),Ob 21 (.mov (.t 3)),Ob 22 (.bin .sub (.t 21) (Ci 1)),Ob 23 (.idx (.t 20) (.t 22) 6),Ob 24 (.load (.t 23) (some 6)),Ob 25 (.eqv false true [.i,.i,.i,.i,.i,.i] (.t 19) (.t 24))])
 (.cond (.t 25) (.seq (.region [Ob 26 (.mov (.t 0)),Ob 27 (.mov (.t 3)),Ob 28 (.slice (.t 26) (some (.t 27)) none 6),Ob 4 (.mov (.t 28))])
 (.seq (.seq (.region [Ob 5 (.mov (Ci 1))])
 (.block 2 (.loop (.seq (.seq (.region [Ob 29 (.mov (.t 5)),Ob 30 (.mov (.t 4)),Ob 31 (.len (.t 30)),Ob 32 (.bin .lss (.t 29) (.t 31))])
 (.cond (.t 32) (.skip)
 (.exit 2)))
 (.seq (.block 3 (.seq (.region [Ob 35 (.mov (.t 4)),Ob 36 (.mov (.t 5)),Ob 37 (.idx (.t 35) (.t 36) 6),Ob 38 (.load (.t 37) (some 6)),Ob 39 (.mov (.t 4)),Ob 40 (.mov (.t 5)),Ob 41 (.bin .sub (.t 40) (Ci 1)),Ob 42 (.idx (.t 39) (.t 41) 6),Ob 43 (.load (.t 42) (some 6)),Ob 44 (.eqv true true [.i,.i,.i,.i,.i,.i] (.t 38) (.t 43))])
 (.cond (.t 44) (.seq (.region [Ob 45 (.mov (.t 0)),Ob 46 (.mov (.t 3)),Ob 47 (.mov (.t 4)),Ob 48 (.mov (.t 5)),Ob 49 (.idx (.t 47) (.t 48) 6),Ob 50 (.load (.t 49) (some 6)),Ob 51 (.idx (.t 45) (.t 46) 6),On (.store (.t 51) (.t 50) 6)])
 (.region [Ob 52 (.mov (.t 3)),Ob 53 (.bin .add (.t 52) (Ci 1)),Ob 3 (.mov (.t 53))]))
 (.skip))))
 (.region [Ob 33 (.mov (.t 5)),Ob 34 (.bin .add (.t 33) (Ci 1)),Ob 5 (.mov (.t 34))]))))))
 (.seq (.region [Ob 54 (.mov (.t 0)),Ob 55 (.mov (.t 3)),Ob 56 (.slice (.t 54) (some (.t 55)) none 6),On (.clr (.t 56) (.agg [(.int .i64 0), (.int .i64 0), (.int .i64 0), (.int .i64 0), (.int .i64 0), (.int .i64 0)]) 6)])
 (.seq (.region [Ob 57 (.mov (.t 0)),Ob 58 (.mov (.t 3)),Ob 59 (.slice (.t 57) none (some (.t 58)) 6),Ob 2 (.mov (.t 59))])
 (.ret)))))
 (.skip))))
 (.region [Ob 14 (.mov (.t 3)),Ob 15 (.bin .add (.t 14) (Ci 1)),Ob 3 (.mov (.t 15))]))))))
 (.seq (.region [Ob 60 (.mov (.t 0)),Ob 2 (.mov (.t 60))])
 (.ret))))
def r80 : List Res := [.t 2]
def a80 : AFn := ⟨1, c80, r80,.r⟩

def c81 : ACode := .seq (.region [Ob 2 (.mov (.c (.sl [] .tight)))])
 (.nilq [Ob 3 (.mov (.t 0))] (.t 3) 4 (.seq (.cond (.t 4) (.seq (.region [Ob 2 (.mov (.c (.sl [] .tight)))])
 (.ret))
 (.skip))
 (.seq (.region [Ob 5 (.lit false 39 9 []),Ob 6 (.mov (.t 0)),Ob 7 (.app0 (.t 5) (.t 6) 39 9 104),Ob 2 (.mov (.t 7))])
 (.ret))) [3, 4, 5, 6, 7])
def r81 : List Res := [.t 2]
def a81 : AFn := ⟨1, c81, r81,.o⟩

def c82 : ACode := .seq (.region [Ob 2 (.mov (.c (.sl [] .tight)))])
 (.nilq [Ob 3 (.mov (.t 0))] (.t 3) 4 (.seq (.cond (.t 4) (.seq (.region [Ob 2 (.mov (.c (.sl [] .tight)))])
 (.ret))
 (.skip))
 (.seq (.region [Ob 5 (.lit false 3 1 []),Ob 6 (.mov (.t 0)),Ob 7 (.app false (.t 5) (.t 6) 3 1 8),Ob 2 (.mov (.t 7))])
 (.ret))) [3, 4, 5, 6, 7])
def r82 : List Res := [.t 2]
def a82 : AFn := ⟨1, c82, r82,.v⟩

def c83 : ACode := .seq (.region [Ob 2 (.mov (.c (.sl [] .tight)))])
 (.nilq [Ob 3 (.mov (.t 0))] (.t 3) 4 (.seq (.cond (.t 4) (.seq (.region [Ob 2 (.mov (.c (.sl [] .tight)))])
 (.ret))
 (.skip))
 (.seq (.region [Ob 5 (.lit false 47 2 []),Ob 6 (.mov (.t 0)),Ob 7 (.app false (.t 5) (.t 6) 47 2 16),Ob 2 (.mov (.t 7))])
 (.ret))) [3, 4, 5, 6, 7])
def r83 : List Res := [.t 2]
def a83 : AFn := ⟨1, c83, r83,.v⟩

def c84 : ACode := .seq (.region [Ob 3 (.box (.t 1) 1),Ob 4 (.mov (.c (.bool false)))])
 (.seq (.region [Ob 5 (.mov (.t 0)),Ob 6 (.clo 104 [] [(.t 3)]),Ob 7 (.call 103 [(.t 5), (.t 6)]),Ob 8 (.not (.t 7)),Ob 4 (.mov (.t 8))])
 (.ret))
def r84 : List Res := [.t 4]
def a84 : AFn := ⟨2, c84, r84,.v⟩

def c85 : ACode := .seq (.region [Ob 2 (.box (.t 0) 2),Ob 3 (.mov (.c (.bool false)))])
 (.seq (.region [Ob 7 (.addr (.t 1) 1),Ob 8 (.load (.t 7) none),Ob 9 (.addr (.t 2) 0),Ob 10 (.load (.t 9) none),Ob 11 (.call 46 [(.t 8), (.t 10)]),Ob 6 (.mov (.t 11)),Ob 12 (.ext (.t 6) 0),Ob 13 (.ext (.t 6) 1),Ob 4 (.new (.agg [(.int .i64 0), (.int .i64 0), (.int .i64 0), (.sl [] .tight), (.sl [] .tight), (.int .i64 0), (.int .i64 0), (.int .i64 0), (.int .i64 0)]) 9),On (.store (.t 4) (.t 12) 9),Ob 5 (.mov (.t 13))])
 (.seq (.region [Ob 14 (.mov (.t 5)),Ob 15 (.mov (.t 14)),Og 16 15 true (.addr (.t 2) 1),Og 17 15 true (.load (.t 16) none),Og 18 15 true (.call 69 [(.t 17), (Ci 0), (Ci 1000000000)]),Ob 19 (.pick (.t 15) (.t 18) (.c (.bool false))),Ob 3 (.mov (.t 19))])
 (.ret)))
def r85 : List Res := [.t 3]
def a85 : AFn := ⟨2, c85, r85,.v⟩

def c86 : ACode := .seq (.region [Ob 5 (.mov (.t 0)),Ob 6 (.len (.t 5)),Ob 4 (.mov (.t 6))])
 (.region [Ob 7 (.mov (.t 0)),Ob 8 (.mov (.t 4)),Ob 9 (.mov (.t 4)),Ob 10 (.conv .u64 (.t 9)),Ob 11 (.call 101 [(.t 10)]),Ob 12 (.mov (.t 1)),Ob 13 (.call 105 [(.t 7), (Ci 0), (.t 8), (.t 11), (.t 12)])])
def r86 : List Res := []
def a86 : AFn := ⟨2, c86, r86,.r⟩

def c87 : ACode := .seq (.region [Ob 2 (.box (.t 0) 9),Ob 3 (.box (.t 1) 9),Ob 4 (.mov (Ci 0))])
 (.seq (.region [Ob 5 (.addr (.t 2) 0),Ob 6 (.load (.t 5) none),Ob 7 (.addr (.t 3) 0),Ob 8 (.load (.t 7) none),Ob 9 (.call 79 [(.t 6), (.t 8)]),Ob 4 (.mov (.t 9))])
 (.ret))
def r87 : List Res := [.t 4]
def a87 : AFn := ⟨2, c87, r87,.v⟩

def c88 : ACode := .seq (.region [Ob 4 (.mov (Ci 0))])
 (.seq (.region [Ob 5 (.mov (.t 0)),Ob 6 (.mov (.t 1)),Ob 7 (.bin .mul (.t 5) (.t 6)),Ob 8 (.bin .quo (.t 7) (Ci 1000)),Ob 4 (.mov (.t 8))])
 (.ret))
def r88 : List Res := [.t 4]
def a88 : AFn := ⟨2, c88, r88,.v⟩

def c89 : ACode := .seq (.region [Ob 3 (.box (.t 0) 9),Ob 6 (.new (.agg [(.int .i64 0), (.int .i64 0), (.int .i64 0)]) 3)])
 (.seq (.region [Ob 7 (.mov (.t 2)),Ob 8 (.load (.t 3) (some 9)),Ob 9 (.mov (.t 1)),Ob 10 (.mov (.t 2)),Ob 11 (.call 106 [(.t 8), (.t 9), (.t 10)]),Ob 12 (.call 88 [(.t 7), (.t 11)]),Ob 13 (.mov (.t 2)),Ob 14 (.addr (.t 3) 5),Ob 15 (.load (.t 14) none),Ob 16 (.bin .sub (.t 13) (.t 15)),Ob 17 (.mnx true (Ci 0) (.t 16)),Ob 18 (.addr (.t 3) 6),Ob 19 (.load (.t 18) none),Ob 20 (.call 88 [(.t 17), (.t 19)]),Ob 21 (.addr (.t 3) 7),Ob 22 (.load (.t 21) none),Ob 23 (.build [(.int .i64 0), (.int .i64 0), (.int .i64 0)] [(0, 1, (.t 12)), (1, 1, (.t 20)), (2, 1, (.t 22))]),On (.store (.t 6) (.t 23) 3)])
 (.ret))
def r89 : List Res := [.cell 6 (some 3)]
def a89 : AFn := ⟨3, c89, r89,.v⟩

def c90 : ACode := .seq (.region [Ob 2 (.mov (Ci 0))])
 (.seq (.seq (.region [Ob 5 (.mov (.t 0)),Ob 6 (.len (.t 5)),Ob 7 (.bin .lss (.t 6) (Ci 1))])
 (.cond (.t 7) (.region [Ob 8 (.bad),On (.bad)])
 (.skip)))
 (.seq (.region [Ob 9 (.mov (.t 0)),Ob 10 (.idx (.t 9) (Ci 0) 1),Ob 11 (.load (.t 10) none),Ob 3 (.mov (.t 11))])
 (.seq (.seq (.region [Ob 4 (.mov (Ci 1))])
 (.block 0 (.loop (.seq (.seq (.region [Ob 12 (.mov (.t 4)),Ob 13 (.mov (.t 0)),Ob 14 (.len (.t 13)),Ob 15 (.bin .lss (.t 12) (.t 14))])
 (.cond (.t 15) (.skip)
 (.exit 0)))
 (.seq (.block 1 (.region [Ob 18 (.mov (.t 3)),Ob 19 (.mov (.t 0)),Ob 20 (.mov (.t 4)),Ob 21 (.idx (.t 19) (.t 20) 1),Ob 22 (.load (.t 21) none),Ob 23 (.mnx true (.t 18) (.t 22)),Ob 3 (.mov (.t 23))]))
 (.region [Ob 16 (.mov (.t 4)),Ob 17 (.bin .add (.t 16) (Ci 1)),Ob 4 (.mov (.t 17))]))))))
 (.seq (.region [Ob 24 (.mov (.t 3)),Ob 2 (.mov (.t 24))])
 (.ret)))))
def r90 : List Res := [.t 2]
def a90 : AFn := ⟨1, c90, r90,.v⟩

def c91 : ACode := .seq (.region [Ob 4 (.mov (Ci 0))])
 (.seq (.seq (.region [Ob 6 (.mov (.t 0)),Ob 7 (.len (.t 6)),Ob 8 (.mov (Ci 0))])
 (.block 0 (.loop (.seq (.region [Ob 9 (.bin .lss (.t 8) (.t 7))])
 (.seq (.cond (.t 9) (.skip)
 (.exit 0))
 (.seq (.block 1 (.seq (.region [Ob 10 (.mov (.t 8)),Ob 5 (.mov (.t 10))])
 (.seq (.region [Ob 11 (.mov (.t 1)),Ob 12 (.mov (.t 0)),Ob 13 (.mov (.t 5)),Ob 14 (.idx (.t 12) (.t 13) 1),Ob 15 (.load (.t 14) none),Ob 16 (.bin .eql (.t 11) (.t 15))])
 (.cond (.t 16) (.seq (.region [Ob 17 (.mov (.t 5)),Ob 4 (.mov (.t 17))])
 (.ret))
 (.skip)))))
 (.region [Ob 18 (.bin .add (.t 8) (Ci 1)),Ob 8 (.mov (.t 18))])))))))
 (.seq (.region [Ob 4 (.mov (Ci (-1)))])
 (.ret)))
def r91 : List Res := [.t 4]
def a91 : AFn := ⟨2, c91, r91,.v⟩

def c92 : ACode := .seq (.region [Ob 3 (.box (.t 1) 1),Ob 4 (.mov (.c (.bool false)))])
 (.seq (.region [Ob 5 (.mov (.t 0)),Ob 6 (.clo 108 [] [(.t 3)]),Ob 7 (.call 107 [(.t 5), (.t 6)]),Ob 8 (.not (.t 7)),Ob 4 (.mov (.t 8))])
 (.ret))
def r92 : List Res := [.t 4]
def a92 : AFn := ⟨2, c92, r92,.v⟩

def c93 : ACode := .seq (.region [Ob 1 (.box (.t 0) 9),Ob 2 (.mov (.c (.bool false)))])
 (.seq (.region [Ob 3 (.addr (.t 1) 0),Ob 4 (.load (.t 3) none),Ob 5 (.call 69 [(.t 4), (Ci 0), (Ci 99)]),Ob 6 (.mov (.t 5)),Og 7 6 true (.addr (.t 1) 1),Og 8 6 true (.load (.t 7) none),Og 9 6 true (.call 47 [(.t 8)]),Ob 10 (.pick (.t 6) (.t 9) (.c (.bool false))),Ob 11 (.mov (.t 10)),Og 12 11 true (.addr (.t 1) 2),Og 13 11 true (.load (.t 12) none),Og 14 11 true (.call 47 [(.t 13)]),Ob 15 (.pick (.t 11) (.t 14) (.c (.bool false))),Ob 16 (.mov (.t 15)),Og 17 16 true (.addr (.t 1) 1),Og 18 16 true (.load (.t 17) none),Og 19 16 true (.addr (.t 1) 2),Og 20 16 true (.load (.t 19) none),Og 21 16 true (.bin .leq (.t 18) (.t 20)),Ob 22 (.pick (.t 16) (.t 21) (.c (.bool false))),Ob 23 (.mov (.t 22)),Og 24 23 true (.addr (.t 1) 3),Og 25 23 true (.load (.t 24) none),Og 26 23 true (.len (.t 25)),Og 27 23 true (.call 69 [(.t 26), (Ci 1), (Ci 6)]),Ob 28 (.pick (.t 23) (.t 27) (.c (.bool false))),Ob 29 (.mov (.t 28)),Og 30 29 true (.addr (.t 1) 3),Og 31 29 true (.load (.t 30) none),Og 32 29 true (.call 109 [(.t 31), (.c (.fn 110 [] []))]),Ob 33 (.pick (.t 29) (.t 32) (.c (.bool false))),Ob 34 (.mov (.t 33)),Og 35 34 true (.addr (.t 1) 4),Og 36 34 true (.load (.t 35) none),Og 37 34 true (.len (.t 36)),Og 38 34 true (.bin .leq (.t 37) (Ci 4)),Ob 39 (.pick (.t 34) (.t 38) (.c (.bool false))),Ob 40 (.mov (.t 39)),Og 41 40 true (.addr (.t 1) 4),Og 42 40 true (.load (.t 41) none),Og 43 40 true (.call 111 [(.t 42), (.c (.fn 112 [] []))]),Ob 44 (.pick (.t 40) (.t 43) (.c (.bool false))),Ob 45 (.mov (.t 44)),Og 46 45 true (.addr (.t 1) 4),Og 47 45 true (.load (.t 46) none),Og 48 45 true (.call 113 [(.t 47)]),Ob 49 (.pick (.t 45) (.t 48) (.c (.bool false))),Ob 50 (.mov (.t 49)),Og 51 50 true (.addr (.t 1) 5),Og 52 50 true (.load (.t 51) none),Og 53 50 true (.call 59 [(.t 52)]),Ob 54 (.pick (.t 50) (.t 53) (.c (.bool false))),Ob 55 (.mov (.t 54)),Og 56 55 true (.addr (.t 1) 7),Og 57 55 true (.load (.t 56) none),Og 58 55 true (.call 59 [(.t 57)]),Ob 59 (.pick (.t 55) (.t 58) (.c (.bool false))),Ob 60 (.mov (.t 59)),Og 61 60 true (.addr (.t 1) 6),Og 62 60 true (.load (.t 61) none),Og 63 60 true (.call 110 [(.t 62)]),Ob 64 (.pick (.t 60) (.t 63) (.c (.bool false))),Ob 65 (.mov (.t 64)),Og 66 65 true (.addr (.t 1) 8),Og 67 65 true (.load (.t 66) none),Og 68 65 true (.call 69 [(.t 67), (Ci 0), (Ci 100000000)]),Ob 69 (.pick (.t 65) (.t 68) (.c (.bool false))),Ob 2 (.mov (.t 69))])
 (.ret))
def r93 : List Res := [.t 2]
def a93 : AFn := ⟨1, c93, r93,.v⟩

def c94 : ACode := .seq (.region [Ob 2 (.mov (.c (.bool false)))])
 (.seq (.seq (.region [Ob 7 (.mov (.t 0)),Ob 8 (.len (.t 7)),Ob 9 (.mov (Ci 0))])
 (.block 0 (.loop (.seq (.region [Ob 10 (.bin .lss (.t 9) (.t 8))])
 (.seq (.cond (.t 10) (.skip)
 (.exit 0))
 (.seq (.block 1 (.seq (.region [Ob 11 (.mov (.t 9)),Ob 12 (.idx (.t 7) (.t 9) 9),Ob 13 (.load (.t 12) (some 9)),Ob 4 (.new (.agg [(.int .i64 0), (.int .i64 0), (.int .i64 0), (.sl [] .tight), (.sl [] .tight), (.int .i64 0), (.int .i64 0), (.int .i64 0), (.int .i64 0)]) 9),Ob 3 (.mov (.t 11)),On (.store (.t 4) (.t 13) 9)])
 (.seq (.region [Ob 15 (.mov (.t 0)),Ob 16 (.mov (.t 3)),Ob 17 (.slice (.t 15) none (some (.t 16)) 9),Ob 18 (.addr (.t 4) 0),Ob 19 (.load (.t 18) none),On (.mov (.c .undef)),Ob 20 (.call 46 [(.t 17), (.t 19)]),Ob 14 (.mov (.t 20)),Ob 21 (.ext (.t 14) 0),Ob 22 (.ext (.t 14) 1),Ob 5 (.box (.t 21) 9),Ob 6 (.mov (.t 22))])
 (.seq (.region [Ob 23 (.mov (.t 6))])
 (.cond (.t 23) (.seq (.region [Ob 2 (.mov (.c (.bool false)))])
 (.ret))
 (.skip))))))
 (.region [Ob 24 (.bin .add (.t 9) (Ci 1)),Ob 9 (.mov (.t 24))])))))))
 (.seq (.region [Ob 2 (.mov (.c (.bool true)))])
 (.ret)))
def r94 : List Res := [.t 2]
def a94 : AFn := ⟨1, c94, r94,.v⟩

def c95 : ACode := .seq (.region [Ob 3 (.box (.t 0) 3),Ob 6 (.mov (Ci 0))])
 (.seq (.region [Ob 7 (.mov (Ci (-1)))])
 (.seq (.region [Ob 8 (.new (.agg [(.int .i64 0), (.int .i64 0), (.int .i64 0), (.int .i64 0), (.int .i64 0), (.int .i64 0), (.int .i64 0), (.int .i64 0), (.int .i64 0), (.int .i64 0)]) 10)])
 (.seq (.seq (.region [Ob 9 (.mov (Ci 0))])
 (.block 0 (.loop (.seq (.seq (.region [Ob 14 (.mov (.t 9)),Ob 15 (.bin .lss (.t 14) (Ci 10))])
 (.cond (.t 15) (.skip)
 (.exit 0)))
 (.seq (.block 1 (.region [Ob 18 (.mov (.t 9)),Ob 19 (.aidx (.t 8) (.t 18) 10 1),On (.store (.t 19) (Ci (-1)) 1)]))
 (.region [Ob 16 (.mov (.t 9)),Ob 17 (.bin .add (.t 16) (Ci 1)),Ob 9 (.mov (.t 17))]))))))
 (.seq (.seq (.region [Ob 10 (.mov (Ci 0))])
 (.block 2 (.loop (.seq (.seq (.region [Ob 20 (.mov (.t 10)),Ob 21 (.addr (.t 3) 2),Ob 22 (.load (.t 21) none),Ob 23 (.len (.t 22)),Ob 24 (.bin .lss (.t 20) (.t 23))])
 (.cond (.t 24) (.skip)
 (.exit 2)))
 (.seq (.block 3 (.seq (.region [Ob 27 (.addr (.t 3) 2),Ob 28 (.load (.t 27) none),Ob 29 (.mov (.t 10)),Ob 30 (.idx (.t 28) (.t 29) 6),Ob 31 (.load (.t 30) (some 6)),Ob 11 (.new (.agg [(.int .i64 0), (.int .i64 0), (.int .i64 0), (.int .i64 0), (.int .i64 0), (.int .i64 0)]) 6),On (.store (.t 11) (.t 31) 6)])
 (.seq (.seq (.region [Ob 32 (.addr (.t 11) 2),Ob 33 (.load (.t 32) none),Ob 34 (.mov (.t 1)),Ob 35 (.bin .neq (.t 33) (.t 34)),Ob 36 (.mov (.t 35)),Og 37 36 false (.addr (.t 11) 3),Og 38 36 false (.load (.t 37) none),Og 39 36 false (.mov (.t 2)),Og 40 36 false (.bin .neq (.t 38) (.t 39)),Ob 41 (.pick (.t 36) (.c (.bool true)) (.t 40))])
 (.cond (.t 41) (.exit 3)
 (.skip)))
 (.seq (.region [Ob 42 (.addr (.t 11) 1),Ob 43 (.load (.t 42) none),Ob 44 (.bin .eql (.t 43) (Ci 2))])
 (.cond (.t 44) (.seq (.region [Ob 45 (.mov (.t 7)),Ob 46 (.bin .lss (.t 45) (Ci 0)),Ob 47 (.mov (.t 46)),Og 48 47 false (.addr (.t 11) 0),Og 49 47 false (.load (.t 48) none),Og 50 47 false (.addr (.t 3) 2),Og 51 47 false (.load (.t 50) none),Og 52 47 false (.mov (.t 7)),Og 53 47 false (.idx (.t 51) (.t 52) 6),Og 54 47 false (.addr (.t 53) 0),Og 55 47 false (.load (.t 54) none),Og 56 47 false (.bin .gtr (.t 49) (.t 55)),Ob 57 (.pick (.t 47) (.c (.bool true)) (.t 56))])
 (.cond (.t 57) (.region [Ob 58 (.mov (.t 10)),Ob 7 (.mov (.t 58))])
 (.skip)))
 (.seq (.region [Ob 59 (.addr (.t 11) 4),Ob 60 (.load (.t 59) none),Ob 61 (.aidx (.t 8) (.t 60) 10 1),Ob 62 (.load (.t 61) none),Ob 63 (.bin .lss (.t 62) (Ci 0)),Ob 64 (.mov (.t 63)),Og 65 64 false (.addr (.t 11) 0),Og 66 64 false (.load (.t 65) none),Og 67 64 false (.addr (.t 3) 2),Og 68 64 false (.load (.t 67) none),Og 69 64 false (.addr (.t 11) 4),Og 70 64 false (.load (.t 69) none),Og 71 64 false (.aidx (.t 8) (.t 70) 10 1),Og 72 64 false (.load (.t 71) none),Og 73 64 false (.idx (.t 68) (.t 72) 6),Og 74 64 false (.addr (.t 73) 0),Og 75 64 false (.load (.t 74) none),Og 76 64 false (.bin .gtr (.t 66) (.t 75)),Ob 77 (.pick (.t 64) (.c (.bool true)) (.t 76))])
 (.cond (.t 77) (.region [Ob 78 (.addr (.t 11) 4),Ob 79 (.load (.t 78) none),Ob 80 (.mov (.t 10)),Ob 81 (.aidx (.t 8) (.t 79) 10 1),On (.store (.t 81) (.t 80) 1)])
 (.skip))))))))
 (.region [Ob 25 (.mov (.t 10)),Ob 26 (.bin .add (.t 25) (Ci 1)),Ob 10 (.mov (.t 26))]))))))
 (.seq (.seq (.region [Ob 82 (.mov (.t 7)),Ob 83 (.bin .geq (.t 82) (Ci 0))])
 (.cond (.t 83) (.seq (.region [Ob 84 (.addr (.t 3) 2),Ob 85 (.load (.t 84) none),Ob 86 (.mov (.t 7)),Ob 87 (.idx (.t 85) (.t 86) 6),Ob 88 (.addr (.t 87) 5),Ob 89 (.load (.t 88) none),Ob 6 (.mov (.t 89))])
 (.ret))
 (.skip)))
 (.seq (.region [Ob 12 (.mov (Ci 0))])
 (.seq (.seq (.region [Ob 13 (.mov (Ci 0))])
 (.block 4 (.loop (.seq (.seq (.region [Ob 90 (.mov (.t 13)),Ob 91 (.bin .lss (.t 90) (Ci 10))])
 (.cond (.t 91) (.skip)
 (.exit 4)))
 (.seq (.block 5 (.seq (.region [Ob 94 (.mov (.t 13)),Ob 95 (.aidx (.t 8) (.t 94) 10 1),Ob 96 (.load (.t 95) none),Ob 97 (.bin .geq (.t 96) (Ci 0))])
 (.cond (.t 97) (.region [Ob 98 (.mov (.t 12)),Ob 99 (.addr (.t 3) 2),Ob 100 (.load (.t 99) none),Ob 101 (.mov (.t 13)),Ob 102 (.aidx (.t 8) (.t 101) 10 1),Ob 103 (.load (.t 102) none),Ob 104 (.idx (.t 100) (.t 103) 6),Ob 105 (.addr (.t 104) 5),Ob 106 (.load (.t 105) none),Ob 107 (.bin .add (.t 98) (.t 106)),Ob 12 (.mov (.t 107))])
 (.skip))))
 (.region [Ob 92 (.mov (.t 13)),Ob 93 (.bin .add (.t 92) (Ci 1)),Ob 13 (.mov (.t 93))]))))))
 (.seq (.region [Ob 108 (.mov (.t 12)),Ob 6 (.mov (.t 108))])
 (.ret)))))))))
def r95 : List Res := [.t 6]
def a95 : AFn := ⟨3, c95, r95,.v⟩

def c96 : ACode := .seq (.region [Ob 6 (.mov (.c .nilm))])
 (.seq (.region [Ob 13 (.mkmap .i),Ob 7 (.mov (.t 13))])
 (.seq (.seq (.region [Ob 14 (.mov (.t 0)),Ob 15 (.len (.t 14)),Ob 16 (.mov (Ci 0))])
 (.block 0 (.loop (.seq (.region [Ob 17 (.bin .lss (.t 16) (.t 15))])
 (.seq (.cond (.t 17) (.skip)
 (.exit 0))
 (.seq (.block 1 (.seq (.region [Ob 18 (.idx (.t 14) (.t 16) 6),Ob 19 (.load (.t 18) (some 6)),Ob 9 (.new (.agg [(.int .i64 0), (.int .i64 0), (.int .i64 0), (.int .i64 0), (.int .i64 0), (.int .i64 0)]) 6),On (.store (.t 9) (.t 19) 6)])
 (.seq (.seq (.region [Ob 20 (.addr (.t 9) 2),Ob 21 (.load (.t 20) none),Ob 22 (.mov (.t 1)),Ob 23 (.bin .neq (.t 21) (.t 22)),Ob 24 (.mov (.t 23)),Og 25 24 false (.addr (.t 9) 3),Og 26 24 false (.load (.t 25) none),Og 27 24 false (.mov (.t 2)),Og 28 24 false (.bin .neq (.t 26) (.t 27)),Ob 29 (.pick (.t 24) (.c (.bool true)) (.t 28))])
 (.cond (.t 29) (.exit 1)
 (.skip)))
 (.seq (.region [Ob 30 (.addr (.t 9) 4),Ob 31 (.load (.t 30) none),Ob 10 (.mov (.t 31))])
 (.seq (.seq (.region [Ob 32 (.addr (.t 9) 1),Ob 33 (.load (.t 32) none),Ob 34 (.bin .eql (.t 33) (Ci 2))])
 (.cond (.t 34) (.region [Ob 10 (.mov (Ci (-1)))])
 (.skip)))
 (.seq (.region [Ob 36 (.mov (.t 7)),Ob 37 (.mov (.t 10)),Ob 38 (.mget .i (.agg [(.int .i64 0), (.int .i64 0), (.int .i64 0), (.int .i64 0), (.int .i64 0), (.int .i64 0)]) true (.t 36) (.t 37)),Ob 35 (.mov (.t 38)),Ob 39 (.ext (.t 35) 0),Ob 40 (.ext (.t 35) 1),Ob 11 (.new (.agg [(.int .i64 0), (.int .i64 0), (.int .i64 0), (.int .i64 0), (.int .i64 0), (.int .i64 0)]) 6),On (.store (.t 11) (.t 39) 6),Ob 12 (.mov (.t 40))])
 (.seq (.region [Ob 41 (.mov (.t 12)),Ob 42 (.not (.t 41)),Ob 43 (.mov (.t 42)),Og 44 43 false (.addr (.t 9) 0),Og 45 43 false (.load (.t 44) none),Og 46 43 false (.addr (.t 11) 0),Og 47 43 false (.load (.t 46) none),Og 48 43 false (.bin .gtr (.t 45) (.t 47)),Ob 49 (.pick (.t 43) (.c (.bool true)) (.t 48))])
 (.cond (.t 49) (.region [Ob 50 (.mov (.t 7)),Ob 51 (.mov (.t 10)),Ob 52 (.load (.t 9) (some 6)),On (.mput .i (.t 50) (.t 51) (.t 52))])
 (.skip)))))))))
 (.region [Ob 53 (.bin .add (.t 16) (Ci 1)),Ob 16 (.mov (.t 53))])))))))
 (.seq (.region [Ob 54 (.mov (.t 7)),Ob 6 (.mov (.t 54))])
 (.ret))))
def r96 : List Res := [.t 6]
def a96 : AFn := ⟨3, c96, r96,.r⟩

def c97 : ACode := .seq (.region [Ob 4 (.mov (.c (.bool false)))])
 (.seq (.region [Ob 5 (.mov (.t 0)),Ob 6 (.mov (.t 1)),Ob 7 (.call 114 [(.t 5), (.t 6)]),Ob 8 (.bin .geq (.t 7) (Ci 0)),Ob 4 (.mov (.t 8))])
 (.ret))
def r97 : List Res := [.t 4]
def a97 : AFn := ⟨2, c97, r97,.v⟩

def c98 : ACode := .seq (.region [Ob 2 (.box (.t 0) 6),Ob 3 (.mov (.c (.bool false)))])
 (.seq (.region [Ob 4 (.load (.t 1) none),Ob 5 (.load (.t 2) (some 6)),Ob 6 (.callv (.t 4) [(.t 5)]),Ob 7 (.not (.t 6)),Ob 3 (.mov (.t 7))])
 (.ret))
def r98 : List Res := [.t 3]
def a98 : AFn := ⟨2, c98, r98,.v⟩

def c99 : ACode := .seq (.region [Ob 4 (.mov (.c (.sl [] .tight)))])
 (.seq (.seq (.region [Ob 5 (.mov (.t 1)),Ob 6 (.bin .lss (.t 5) (Ci 0))])
 (.cond (.t 6) (.region [Ob 7 (.bad),On (.bad)])
 (.skip)))
 (.seq (.seq (.region [Ob 8 (.mov (.t 1)),Ob 9 (.mov (.t 0)),Ob 10 (.cap (.t 9)),Ob 11 (.mov (.t 0)),Ob 12 (.len (.t 11)),Ob 13 (.bin .sub (.t 10) (.t 12)),Ob 14 (.bin .sub (.t 8) (.t 13)),Ob 1 (.mov (.t 14))])
 (.seq (.region [Ob 15 (.mov (.t 1)),Ob 16 (.bin .gtr (.t 15) (Ci 0))])
 (.cond (.t 16) (.region [Ob 17 (.mov (.t 0)),Ob 18 (.mov (.t 0)),Ob 19 (.cap (.t 18)),Ob 20 (.slice (.t 17) none (some (.t 19)) 6),Ob 21 (.mov (.t 1)),Ob 22 (.appz (.t 20) (.t 21) (.agg [(.int .i64 0), (.int .i64 0), (.int .i64 0), (.int .i64 0), (.int .i64 0), (.int .i64 0)]) 52 6 48),Ob 23 (.mov (.t 0)),Ob 24 (.len (.t 23)),Ob 25 (.slice (.t 22) none (some (.t 24)) 6),Ob 0 (.mov (.t 25))])
 (.skip))))
 (.seq (.region [Ob 26 (.mov (.t 0)),Ob 4 (.mov (.t 26))])
 (.ret))))
def r99 : List Res := [.t 4]
def a99 : AFn := ⟨2, c99, r99,.o⟩

def c100 : ACode := .seq (.region [Ob 10 (.mov (.c (.bool true)))])
 (.seq (.region [Ob 11 (.mov (.c (.bool true)))])
 (.block 0 (.loop (.block 1 (.seq (.region [Ob 21 (.mov (.t 2)),Ob 22 (.mov (.t 1)),Ob 23 (.bin .sub (.t 21) (.t 22)),Ob 12 (.mov (.t 23))])
 (.seq (.seq (.region [Ob 24 (.mov (.t 12)),Ob 25 (.bin .leq (.t 24) (Ci 12))])
 (.cond (.t 25) (.seq (.region [Ob 26 (.mov (.t 0)),Ob 27 (.mov (.t 1)),Ob 28 (.mov (.t 2)),Ob 29 (.mov (.t 4)),Ob 30 (.call 115 [(.t 26), (.t 27), (.t 28), (.t 29)])])
 (.ret))
 (.skip)))
 (.seq (.seq (.region [Ob 31 (.mov (.t 3)),Ob 32 (.bin .eql (.t 31) (Ci 0))])
 (.cond (.t 32) (.seq (.region [Ob 33 (.mov (.t 0)),Ob 34 (.mov (.t 1)),Ob 35 (.mov (.t 2)),Ob 36 (.mov (.t 4)),Ob 37 (.call 116 [(.t 33), (.t 34), (.t 35), (.t 36)])])
 (.ret))
 (.skip)))
 (.seq (.seq (.region [Ob 38 (.mov (.t 10)),Ob 39 (.not (.t 38))])
 (.cond (.t 39) (.seq (.region [Ob 40 (.mov (.t 0)),Ob 41 (.mov (.t 1)),Ob 42 (.mov (.t 2)),Ob 43 (.mov (.t 4)),Ob 44 (.call 117 [(.t 40), (.t 41), (.t 42), (.t 43)])])
 (.region [Ob 45 (.mov (.t 3)),Ob 46 (.bin .sub (.t 45) (Ci 1)),Ob 3 (.mov (.t 46))]))
 (.skip)))
 (.seq (.region [Ob 48 (.mov (.t 0)),Ob 49 (.mov (.t 1)),Ob 50 (.mov (.t 2)),Ob 51 (.mov (.t 4)),Ob 52 (.call 118 [(.t 48), (.t 49), (.t 50), (.t 51)]),Ob 47 (.mov (.t 52)),Ob 53 (.ext (.t 47) 0),Ob 54 (.ext (.t 47) 1),Ob 13 (.mov (.t 53)),Ob 14 (.mov (.t 54))])
 (.seq (.seq (.region [Ob 55 (.mov (.t 14)),Ob 56 (.bin .eql (.t 55) (Ci 2))])
 (.cond (.t 56) (.seq (.region [Ob 57 (.mov (.t 0)),Ob 58 (.mov (.t 1)),Ob 59 (.mov (.t 2)),Ob 60 (.mov (.t 4)),Ob 61 (.call 119 [(.t 57), (.t 58), (.t 59), (.t 60)])])
 (.seq (.region [Ob 62 (.mov (.t 2)),Ob 63 (.bin .sub (.t 62) (Ci 1)),Ob 64 (.mov (.t 13)),Ob 65 (.mov (.t 1)),Ob 66 (.bin .sub (.t 64) (.t 65)),Ob 67 (.bin .sub (.t 63) (.t 66)),Ob 13 (.mov (.t 67))])
 (.region [Ob 14 (.mov (Ci 1))])))
 (.skip)))
 (.seq (.seq (.region [Ob 68 (.mov (.t 10)),Ob 69 (.mov (.t 68)),Og 70 69 true (.mov (.t 11)),Ob 71 (.pick (.t 69) (.t 70) (.c (.bool false))),Ob 72 (.mov (.t 71)),Og 73 72 true (.mov (.t 14)),Og 74 72 true (.bin .eql (.t 73) (Ci 1)),Ob 75 (.pick (.t 72) (.t 74) (.c (.bool false)))])
 (.cond (.t 75) (.seq (.region [Ob 76 (.mov (.t 0)),Ob 77 (.mov (.t 1)),Ob 78 (.mov (.t 2)),Ob 79 (.mov (.t 4)),Ob 80 (.call 120 [(.t 76), (.t 77), (.t 78), (.t 79)])])
 (.cond (.t 80) (.ret)
 (.skip)))
 (.skip)))
 (.seq (.seq (.region [Ob 81 (.mov (.t 1)),Ob 82 (.bin .gtr (.t 81) (Ci 0)),Ob 83 (.mov (.t 82)),Og 84 83 true (.mov (.t 4)),Og 85 83 true (.mov (.t 0)),Og 86 83 true (.mov (.t 1)),Og 87 83 true (.bin .sub (.t 86) (Ci 1)),Og 88 83 true (.idx (.t 85) (.t 87) 6),Og 89 83 true (.load (.t 88) (some 6)),Og 90 83 true (.mov (.t 0)),Og 91 83 true (.mov (.t 13)),Og 92 83 true (.idx (.t 90) (.t 91) 6),Og 93 83 true (.load (.t 92) (some 6)),Og 94 83 true (.callv (.t 84) [(.t 89), (.t 93)]),Og 95 83 true (.bin .lss (.t 94) (Ci 0)),Og 96 83 true (.not (.t 95)),Ob 97 (.pick (.t 83) (.t 96) (.c (.bool false)))])
 (.cond (.t 97) (.seq (.region [Ob 98 (.mov (.t 0)),Ob 99 (.mov (.t 1)),Ob 100 (.mov (.t 2)),Ob 101 (.mov (.t 13)),Ob 102 (.mov (.t 4)),Ob 103 (.call 121 [(.t 98), (.t 99), (.t 100), (.t 101), (.t 102)]),Ob 15 (.mov (.t 103))])
 (.seq (.region [Ob 104 (.mov (.t 15)),Ob 1 (.mov (.t 104))])
 (.exit 1)))
 (.skip)))
 (.seq (.region [Ob 106 (.mov (.t 0)),Ob 107 (.mov (.t 1)),Ob 108 (.mov (.t 2)),Ob 109 (.mov (.t 13)),Ob 110 (.mov (.t 4)),Ob 111 (.call 122 [(.t 106), (.t 107), (.t 108), (.t 109), (.t 110)]),Ob 105 (.mov (.t 111)),Ob 112 (.ext (.t 105) 0),Ob 113 (.ext (.t 105) 1),Ob 16 (.mov (.t 112)),Ob 17 (.mov (.t 113))])
 (.seq (.region [Ob 114 (.mov (.t 17)),Ob 11 (.mov (.t 114))])
 (.seq (.region [Ob 115 (.mov (.t 16)),Ob 116 (.mov (.t 1)),Ob 117 (.bin .sub (.t 115) (.t 116)),Ob 118 (.mov (.t 2)),Ob 119 (.mov (.t 16)),Ob 120 (.bin .sub (.t 118) (.t 119)),Ob 18 (.mov (.t 117)),Ob 19 (.mov (.t 120))])
 (.seq (.region [Ob 121 (.mov (.t 12)),Ob 122 (.bin .quo (.t 121) (Ci 8)),Ob 20 (.mov (.t 122))])
 (.seq (.region [Ob 123 (.mov (.t 18)),Ob 124 (.mov (.t 19)),Ob 125 (.bin .lss (.t 123) (.t 124))])
 (.cond (.t 125) (.seq (.region [Ob 126 (.mov (.t 18)),Ob 127 (.mov (.t 20)),Ob 128 (.bin .geq (.t 126) (.t 127)),Ob 10 (.mov (.t 128))])
 (.seq (.region [Ob 129 (.mov (.t 0)),Ob 130 (.mov (.t 1)),Ob 131 (.mov (.t 16)),Ob 132 (.mov (.t 3)),Ob 133 (.mov (.t 4)),Ob 134 (.call 100 [(.t 129), (.t 130), (.t 131), (.t 132), (.t 133)])])
 (.region [Ob 135 (.mov (.t 16)),Ob 136 (.bin .add (.t 135) (Ci 1)),Ob 1 (.mov (.t 136))])))
 (.seq (.region [Ob 137 (.mov (.t 19)),Ob 138 (.mov (.t 20)),Ob 139 (.bin .geq (.t 137) (.t 138)),Ob 10 (.mov (.t 139))])
 (.seq (.region [Ob 140 (.mov (.t 0)),Ob 141 (.mov (.t 16)),Ob 142 (.bin .add (.t 141) (Ci 1)),Ob 143 (.mov (.t 2)),Ob 144 (.mov (.t 3)),Ob 145 (.mov (.t 4)),Ob 146 (.call 100 [(.t 140), (.t 142), (.t 143), (.t 144), (.t 145)])])
 (.region [Ob 147 (.mov (.t 16)),Ob 2 (.mov (.t 147))])))))))))))))))))))))
def r100 : List Res := []
def a100 : AFn := ⟨5, c100, r100,.r⟩

def c101 : ACode := .seq (.region [Ob 2 (.mov (Ci 0))])
 (.seq (.cond (.c (.bool false)) (.seq (.region [Ob 3 (.mov (.t 0)),Ob 4 (.conv .u32 (.t 3)),Ob 5 (.call 123 [(.t 4)]),Ob 2 (.mov (.t 5))])
 (.ret))
 (.skip))
 (.seq (.region [Ob 6 (.mov (.t 0)),Ob 7 (.call 124 [(.t 6)]),Ob 2 (.mov (.t 7))])
 (.ret)))
def r101 : List Res := [.t 2]
def a101 : AFn := ⟨1, c101, r101,.v⟩

def c102 : ACode := .seq (.region [Ob 2 (.mov (.c (.bool false)))])
 (.seq (.region [Ob 3 (.mov (.t 0)),Ob 4 (.mov (.t 0)),Ob 5 (.bin .neq (.t 3) (.t 4)),Ob 2 (.mov (.t 5))])
 (.ret))
def r102 : List Res := [.t 2]
def a102 : AFn := ⟨1, c102, r102,.v⟩

def c103 : ACode := .seq (.region [Ob 4 (.mov (.c (.bool false)))])
 (.seq (.region [Ob 5 (.mov (.t 0)),Ob 6 (.mov (.t 1)),Ob 7 (.call 125 [(.t 5), (.t 6)]),Ob 8 (.bin .geq (.t 7) (Ci 0)),Ob 4 (.mov (.t 8))])
 (.ret))
def r103 : List Res := [.t 4]
def a103 : AFn := ⟨2, c103, r103,.v⟩

def c104 : ACode := .seq (.region [Ob 2 (.box (.t 0) 2),Ob 3 (.mov (.c (.bool false)))])
 (.seq (.region [Ob 4 (.load (.t 1) none),Ob 5 (.load (.t 2) (some 2)),Ob 6 (.callv (.t 4) [(.t 5)]),Ob 7 (.not (.t 6)),Ob 3 (.mov (.t 7))])
 (.ret))
def r104 : List Res := [.t 3]
def a104 : AFn := ⟨2, c104, r104,.v⟩

def c105 : ACode := .seq (.region [Ob 10 (.mov (.c (.bool true)))])
 (.seq (.region [Ob 11 (.mov (.c (.bool true)))])
 (.block 0 (.loop (.block 1 (.seq (.region [Ob 21 (.mov (.t 2)),Ob 22 (.mov (.t 1)),Ob 23 (.bin .sub (.t 21) (.t 22)),Ob 12 (.mov (.t 23))])
 (.seq (.seq (.region [Ob 24 (.mov (.t 12)),Ob 25 (.bin .leq (.t 24) (Ci 12))])
 (.cond (.t 25) (.seq (.region [Ob 26 (.mov (.t 0)),Ob 27 (.mov (.t 1)),Ob 28 (.mov (.t 2)),Ob 29 (.mov (.t 4)),Ob 30 (.call 126 [(.t 26), (.t 27), (.t 28), (.t 29)])])
 (.ret))
 (.skip)))
 (.seq (.seq (.region [Ob 31 (.mov (.t 3)),Ob 32 (.bin .eql (.t 31) (Ci 0))])
 (.cond (.t 32) (.seq (.region [Ob 33 (.mov (.t 0)),Ob 34 (.mov (.t 1)),Ob 35 (.mov (.t 2)),Ob 36 (.mov (.t 4)),Ob 37 (.call 127 [(.t 33), (.t 34), (.t 35), (.t 36)])])
 (.ret))
 (.skip)))
 (.seq (.seq (.region [Ob 38 (.mov (.t 10)),Ob 39 (.not (.t 38))])
 (.cond (.t 39) (.seq (.region [Ob 40 (.mov (.t 0)),Ob 41 (.mov (.t 1)),Ob 42 (.mov (.t 2)),Ob 43 (.mov (.t 4)),Ob 44 (.call 128 [(.t 40), (.t 41), (.t 42), (.t 43)])])
 (.region [Ob 45 (.mov (.t 3)),Ob 46 (.bin .sub (.t 45) (Ci 1)),Ob 3 (.mov (.t 46))]))
 (.skip)))
 (.seq (.region [Ob 48 (.mov (.t 0)),Ob 49 (.mov (.t 1)),Ob 50 (.mov (.t 2)),Ob 51 (.mov (.t 4)),Ob 52 (.call 129 [(.t 48), (.t 49), (.t 50), (.t 51)]),Ob 47 (.mov (.t 52)),Ob 53 (.ext (.t 47) 0),Ob 54 (.ext (.t 47) 1),Ob 13 (.mov (.t 53)),Ob 14 (.mov (.t 54))])
 (.seq (.seq (.region [Ob 55 (.mov (.t 14)),Ob 56 (.bin .eql (.t 55) (Ci 2))])
 (.cond (.t 56) (.seq (.region [Ob 57 (.mov (.t 0)),Ob 58 (.mov (.t 1)),Ob 59 (.mov (.t 2)),Ob 60 (.mov (.t 4)),Ob 61 (.call 130 [(.t 57), (.t 58), (.t 59), (.t 60)])])
 (.seq (.region [Ob 62 (.mov (.t 2)),Ob 63 (.bin .sub (.t 62) (Ci 1)),Ob 64 (.mov (.t 13)),Ob 65 (.mov (.t 1)),Ob 66 (.bin .sub (.t 64) (.t 65)),Ob 67 (.bin .sub (.t 63) (.t 66)),Ob 13 (.mov (.t 67))])
 (.region [Ob 14 (.mov (Ci 1))])))
 (.skip)))
 (.seq (.seq (.region [Ob 68 (.mov (.t 10)),Ob 69 (.mov (.t 68)),Og 70 69 true (.mov (.t 11)),Ob 71 (.pick (.t 69) (.t 70) (.c (.bool false))),Ob 72 (.mov (.t 71)),Og 73 72 true (.mov (.t 14)),Og 74 72 true (.bin .eql (.t 73) (Ci 1)),Ob 75 (.pick (.t 72) (.t 74) (.c (.bool false)))])
 (.cond (.t 75) (.seq (.region [Ob 76 (.mov (.t 0)),Ob 77 (.mov (.t 1)),Ob 78 (.mov (.t 2)),Ob 79 (.mov (.t 4)),Ob 80 (.call 131 [(.t 76), (.t 77), (.t 78), (.t 79)])])
 (.cond (.t 80) (.ret)
 (.skip)))
 (.skip)))
 (.seq (.seq (.region [Ob 81 (.mov (.t 1)),Ob 82 (.bin .gtr (.t 81) (Ci 0)),Ob 83 (.mov (.t 82)),Og 84 83 true (.mov (.t 4)),Og 85 83 true (.mov (.t 0)),Og 86 83 true (.mov (.t 1)),Og 87 83 true (.bin .sub (.t 86) (Ci 1)),Og 88 83 true (.idx (.t 85) (.t 87) 9),Og 89 83 true (.load (.t 88) (some 9)),Og 90 83 true (.mov (.t 0)),Og 91 83 true (.mov (.t 13)),Og 92 83 true (.idx (.t 90) (.t 91) 9),Og 93 83 true (.load (.t 92) (some 9)),Og 94 83 true (.callv (.t 84) [(.t 89), (.t 93)]),Og 95 83 true (.bin .lss (.t 94) (Ci 0)),Og 96 83 true (.not (.t 95)),Ob 97 (.pick (.t 83) (.t 96) (.c (.bool false)))])
 (.cond (.t 97) (.seq (.region [Ob 98 (.mov (.t 0)),Ob 99 (.mov (.t 1)),Ob 100 (.mov (.t 2)),Ob 101 (.mov (.t 13)),Ob 102 (.mov (.t 4)),Ob 103 (.call 132 [(.t 98), (.t 99), (.t 100), (.t 101), (.t 102)]),Ob 15 (.mov (.t 103))])
 (.seq (.region [Ob 104 (.mov (.t 15)),Ob 1 (.mov (.t 104))])
 (.exit 1)))
 (.skip)))
 (.seq (.region [Ob 106 (.mov (.t 0)),Ob 107 (.mov (.t 1)),Ob 108 (.mov (.t 2)),Ob 109 (.mov (.t 13)),Ob 110 (.mov (.t 4)),Ob 111 (.call 133 [(.t 106), (.t 107), (.t 108), (.t 109), (.t 110)]),Ob 105 (.mov (.t 111)),Ob 112 (.ext (.t 105) 0),Ob 113 (.ext (.t 105) 1),Ob 16 (.mov (.t 112)),Ob 17 (.mov (.t 113))])
 (.seq (.region [Ob 114 (.mov (.t 17)),Ob 11 (.mov (.t 114))])
 (.seq (.region [Ob 115 (.mov (.t 16)),Ob 116 (.mov (.t 1)),Ob 117 (.bin .sub (.t 115) (.t 116)),Ob 118 (.mov (.t 2)),Ob 119 (.mov (.t 16)),Ob 120 (.bin .sub (.t 118) (.t 119)),Ob 18 (.mov (.t 117)),Ob 19 (.mov (.t 120))])
 (.seq (.region [Ob 121 (.mov (.t 12)),Ob 122 (.bin .quo (.t 121) (Ci 8)),Ob 20 (.mov (.t 122))])
 (.seq (.region [Ob 123 (.mov (.t 18)),Ob 124 (.mov (.t 19)),Ob 125 (.bin .lss (.t 123) (.t 124))])
 (.cond (.t 125) (.seq (.region [Ob 126 (.mov (.t 18)),Ob 127 (.mov (.t 20)),Ob 128 (.bin .geq (.t 126) (.t 127)),Ob 10 (.mov (.t 128))])
 (.seq (.region [Ob 129 (.mov (.t 0)),Ob 130 (.mov (.t 1)),Ob 131 (.mov (.t 16)),Ob 132 (.mov (.t 3)),Ob 133 (.mov (.t 4)),Ob 134 (.call 105 [(.t 129), (.t 130), (.t 131), (.t 132), (.t 133)])])
 (.region [Ob 135 (.mov (.t 16)),Ob 136 (.bin .add (.t 135) (Ci 1)),Ob 1 (.mov (.t 136))])))
 (.seq (.region [Ob 137 (.mov (.t 19)),Ob 138 (.mov (.t 20)),Ob 139 (.bin .geq (.t 137) (.t 138)),Ob 10 (.mov (.t 139))])
 (.seq (.region [Ob 140 (.mov (.t 0)),Ob 141 (.mov (.t 16)),Ob 142 (.bin .add (.t 141) (Ci 1)),Ob 143 (.mov (.t 2)),Ob 144 (.mov (.t 3)),Ob 145 (.mov (.t 4)),Ob 146 (.call 105 [(.t 140), (.t 142), (.t 143), (.t 144), (.t 145)])])
 (.region [Ob 147 (.mov (.t 16)),Ob 2 (.mov (.t 147))])))))))))))))))))))))
def r105 : List Res := []
def a105 : AFn := ⟨5, c105, r105,.r⟩

def c106 : ACode := .seq (.region [Ob 3 (.box (.t 0) 9),Ob 6 (.mov (Ci 0))])
 (.seq (.region [Ob 10 (.addr (.t 3) 3),Ob 11 (.load (.t 10) none),Ob 12 (.mov (.t 1)),Ob 13 (.addr (.t 3) 1),Ob 14 (.load (.t 13) none),Ob 15 (.bin .sub (.t 12) (.t 14)),Ob 16 (.addr (.t 3) 3),Ob 17 (.load (.t 16) none),Ob 18 (.len (.t 17)),Ob 19 (.bin .sub (.t 18) (Ci 1)),Ob 20 (.mnx false (.t 15) (.t 19)),Ob 21 (.idx (.t 11) (.t 20) 1),Ob 22 (.load (.t 21) none),Ob 7 (.mov (.t 22))])
 (.seq (.seq (.region [Ob 23 (.addr (.t 3) 4),Ob 24 (.load (.t 23) none),Ob 25 (.len (.t 24)),Ob 26 (.mov (Ci 0))])
 (.block 0 (.loop (.seq (.region [Ob 27 (.bin .lss (.t 26) (.t 25))])
 (.seq (.cond (.t 27) (.skip)
 (.exit 0))
 (.seq (.block 1 (.seq (.region [Ob 28 (.idx (.t 24) (.t 26) 2),Ob 29 (.load (.t 28) (some 2)),Ob 9 (.new (.agg [(.int .i64 0), (.int .i64 0)]) 2),On (.store (.t 9) (.t 29) 2)])
 (.seq (.region [Ob 30 (.addr (.t 9) 0),Ob 31 (.load (.t 30) none),Ob 32 (.mov (.t 2)),Ob 33 (.bin .leq (.t 31) (.t 32))])
 (.cond (.t 33) (.region [Ob 34 (.mov (.t 7)),Ob 35 (.addr (.t 9) 1),Ob 36 (.load (.t 35) none),Ob 37 (.mnx true (.t 34) (.t 36)),Ob 7 (.mov (.t 37))])
 (.skip)))))
 (.region [Ob 38 (.bin .add (.t 26) (Ci 1)),Ob 26 (.mov (.t 38))])))))))
 (.seq (.region [Ob 39 (.mov (.t 7)),Ob 6 (.mov (.t 39))])
 (.ret))))
def r106 : List Res := [.t 6]
def a106 : AFn := ⟨3, c106, r106,.v⟩

def c107 : ACode := .seq (.region [Ob 4 (.mov (.c (.bool false)))])
 (.seq (.region [Ob 5 (.mov (.t 0)),Ob 6 (.mov (.t 1)),Ob 7 (.call 71 [(.t 5), (.t 6)]),Ob 8 (.bin .geq (.t 7) (Ci 0)),Ob 4 (.mov (.t 8))])
 (.ret))
def r107 : List Res := [.t 4]
def a107 : AFn := ⟨2, c107, r107,.v⟩

def c108 : ACode := .seq (.region [Ob 2 (.box (.t 0) 9),Ob 3 (.mov (.c (.bool false)))])
 (.seq (.region [Ob 4 (.load (.t 1) none),Ob 5 (.load (.t 2) (some 9)),Ob 6 (.callv (.t 4) [(.t 5)]),Ob 7 (.not (.t 6)),Ob 3 (.mov (.t 7))])
 (.ret))
def r108 : List Res := [.t 3]
def a108 : AFn := ⟨2, c108, r108,.v⟩

def c109 : ACode := .seq (.region [Ob 3 (.box (.t 1) 1),Ob 4 (.mov (.c (.bool false)))])
 (.seq (.region [Ob 5 (.mov (.t 0)),Ob 6 (.clo 135 [] [(.t 3)]),Ob 7 (.call 134 [(.t 5), (.t 6)]),Ob 8 (.not (.t 7)),Ob 4 (.mov (.t 8))])
 (.ret))
def r109 : List Res := [.t 4]
def a109 : AFn := ⟨2, c109, r109,.v⟩

def c110 : ACode := .seq (.region [Ob 2 (.mov (.c (.bool false)))])
 (.seq (.region [Ob 3 (.mov (.t 0)),Ob 4 (.call 69 [(.t 3), (Ci 0), (Ci 1000)]),Ob 2 (.mov (.t 4))])
 (.ret))
def r110 : List Res := [.t 2]
def a110 : AFn := ⟨1, c110, r110,.v⟩

def c111 : ACode := .seq (.region [Ob 3 (.box (.t 1) 1),Ob 4 (.mov (.c (.bool false)))])
 (.seq (.region [Ob 5 (.mov (.t 0)),Ob 6 (.clo 137 [] [(.t 3)]),Ob 7 (.call 136 [(.t 5), (.t 6)]),Ob 8 (.not (.t 7)),Ob 4 (.mov (.t 8))])
 (.ret))
def r111 : List Res := [.t 4]
def a111 : AFn := ⟨2, c111, r111,.v⟩

def c112 : ACode := .seq (.region [Ob 1 (.box (.t 0) 2),Ob 2 (.mov (.c (.bool false)))])
 (.seq (.region [Ob 3 (.addr (.t 1) 0),Ob 4 (.load (.t 3) none),Ob 5 (.call 59 [(.t 4)]),Ob 6 (.mov (.t 5)),Og 7 6 true (.addr (.t 1) 1),Og 8 6 true (.load (.t 7) none),Og 9 6 true (.call 110 [(.t 8)]),Ob 10 (.pick (.t 6) (.t 9) (.c (.bool false))),Ob 2 (.mov (.t 10))])
 (.ret))
def r112 : List Res := [.t 2]
def a112 : AFn := ⟨1, c112, r112,.v⟩

def c113 : ACode := .seq (.region [Ob 2 (.mov (.c (.bool false)))])
 (.seq (.seq (.region [Ob 5 (.mov (.t 0)),Ob 6 (.len (.t 5)),Ob 7 (.mov (Ci 0))])
 (.block 0 (.loop (.seq (.region [Ob 8 (.bin .lss (.t 7) (.t 6))])
 (.seq (.cond (.t 8) (.skip)
 (.exit 0))
 (.seq (.block 1 (.seq (.region [Ob 9 (.mov (.t 7)),Ob 10 (.idx (.t 5) (.t 7) 2),Ob 11 (.load (.t 10) (some 2)),Ob 4 (.new (.agg [(.int .i64 0), (.int .i64 0)]) 2),Ob 3 (.mov (.t 9)),On (.store (.t 4) (.t 11) 2)])
 (.seq (.region [Ob 12 (.mov (.t 3)),Ob 13 (.bin .gtr (.t 12) (Ci 0)),Ob 14 (.mov (.t 13)),Og 15 14 true (.addr (.t 4) 0),Og 16 14 true (.load (.t 15) none),Og 17 14 true (.mov (.t 0)),Og 18 14 true (.mov (.t 3)),Og 19 14 true (.bin .sub (.t 18) (Ci 1)),Og 20 14 true (.idx (.t 17) (.t 19) 2),Og 21 14 true (.addr (.t 20) 0),Og 22 14 true (.load (.t 21) none),Og 23 14 true (.bin .leq (.t 16) (.t 22)),Ob 24 (.pick (.t 14) (.t 23) (.c (.bool false)))])
 (.cond (.t 24) (.seq (.region [Ob 2 (.mov (.c (.bool false)))])
 (.ret))
 (.skip)))))
 (.region [Ob 25 (.bin .add (.t 7) (Ci 1)),Ob 7 (.mov (.t 25))])))))))
 (.seq (.region [Ob 2 (.mov (.c (.bool true)))])
 (.ret)))
def r113 : List Res := [.t 2]
def a113 : AFn := ⟨1, c113, r113,.v⟩

def c114 : ACode := .seq (.region [Ob 4 (.mov (Ci 0))])
 (.seq (.seq (.region [Ob 6 (.mov (.t 0)),Ob 7 (.len (.t 6)),Ob 8 (.mov (Ci 0))])
 (.block 0 (.loop (.seq (.region [Ob 9 (.bin .lss (.t 8) (.t 7))])
 (.seq (.cond (.t 9) (.skip)
 (.exit 0))
 (.seq (.block 1 (.seq (.region [Ob 10 (.mov (.t 8)),Ob 5 (.mov (.t 10))])
 (.seq (.region [Ob 11 (.mov (.t 1)),Ob 12 (.mov (.t 0)),Ob 13 (.mov (.t 5)),Ob 14 (.idx (.t 12) (.t 13) 6),Ob 15 (.load (.t 14) (some 6)),Ob 16 (.callv (.t 11) [(.t 15)])])
 (.cond (.t 16) (.seq (.region [Ob 17 (.mov (.t 5)),Ob 4 (.mov (.t 17))])
 (.ret))
 (.skip)))))
 (.region [Ob 18 (.bin .add (.t 8) (Ci 1)),Ob 8 (.mov (.t 18))])))))))
 (.seq (.region [Ob 4 (.mov (Ci (-1)))])
 (.ret)))
def r114 : List Res := [.t 4]
def a114 : AFn := ⟨2, c114, r114,.v⟩

def c115 : ACode := .seq (.region [Ob 10 (.mov (.t 1)),Ob 11 (.bin .add (.t 10) (Ci 1)),Ob 8 (.mov (.t 11))])
 (.block 0 (.loop (.seq (.seq (.region [Ob 12 (.mov (.t 8)),Ob 13 (.mov (.t 2)),Ob 14 (.bin .lss (.t 12) (.t 13))])
 (.cond (.t 14) (.skip)
 (.exit 0)))
 (.seq (.block 1 (.seq (.region [Ob 17 (.mov (.t 8)),Ob 9 (.mov (.t 17))])
 (.block 2 (.loop (.seq (.seq (.region [Ob 18 (.mov (.t 9)),Ob 19 (.mov (.t 1)),Ob 20 (.bin .gtr (.t 18) (.t 19)),Ob 21 (.mov (.t 20)),Og 22 21 true (.mov (.t 3)),Og 23 21 true (.mov (.t 0)),Og 24 21 true (.mov (.t 9)),Og 25 21 true (.idx (.t 23) (.t 24) 6),Og 26 21 true (.load (.t 25) (some 6)),Og 27 21 true (.mov (.t 0)),Og 28 21 true (.mov (.t 9)),Og 29 21 true (.bin .sub (.t 28) (Ci 1)),Og 30 21 true (.idx (.t 27) (.t 29) 6),Og 31 21 true (.load (.t 30) (some 6)),Og 32 21 true (.callv (.t 22) [(.t 26), (.t 31)]),Og 33 21 true (.bin .lss (.t 32) (Ci 0)),Ob 34 (.pick (.t 21) (.t 33) (.c (.bool false)))])
 (.cond (.t 34) (.skip)
 (.exit 2)))
 (.seq (.block 3 (.region [Ob 37 (.mov (.t 0)),Ob 38 (.mov (.t 9)),Ob 39 (.mov (.t 0)),Ob 40 (.mov (.t 9)),Ob 41 (.bin .sub (.t 40) (Ci 1)),Ob 42 (.mov (.t 0)),Ob 43 (.mov (.t 9)),Ob 44 (.bin .sub (.t 43) (Ci 1)),Ob 45 (.idx (.t 42) (.t 44) 6),Ob 46 (.load (.t 45) (some 6)),Ob 47 (.mov (.t 0)),Ob 48 (.mov (.t 9)),Ob 49 (.idx (.t 47) (.t 48) 6),Ob 50 (.load (.t 49) (some 6)),Ob 51 (.idx (.t 37) (.t 38) 6),On (.store (.t 51) (.t 46) 6),Ob 52 (.idx (.t 39) (.t 41) 6),On (.store (.t 52) (.t 50) 6)]))
 (.region [Ob 35 (.mov (.t 9)),Ob 36 (.bin .sub (.t 35) (Ci 1)),Ob 9 (.mov (.t 36))])))))))
 (.region [Ob 15 (.mov (.t 8)),Ob 16 (.bin .add (.t 15) (Ci 1)),Ob 8 (.mov (.t 16))])))))
def r115 : List Res := []
def a115 : AFn := ⟨4, c115, r115,.r⟩

def c116 : ACode := .seq (.region [Ob 13 (.mov (.t 1)),Ob 8 (.mov (.t 13))])
 (.seq (.region [Ob 9 (.mov (Ci 0))])
 (.seq (.region [Ob 14 (.mov (.t 2)),Ob 15 (.mov (.t 1)),Ob 16 (.bin .sub (.t 14) (.t 15)),Ob 10 (.mov (.t 16))])
 (.seq (.seq (.region [Ob 17 (.mov (.t 10)),Ob 18 (.bin .sub (.t 17) (Ci 1)),Ob 19 (.bin .quo (.t 18) (Ci 2)),Ob 11 (.mov (.t 19))])
 (.block 0 (.loop (.seq (.seq (.region [Ob 20 (.mov (.t 11)),Ob 21 (.bin .geq (.t 20) (Ci 0))])
 (.cond (.t 21) (.skip)
 (.exit 0)))
 (.seq (.block 1 (.region [Ob 24 (.mov (.t 0)),Ob 25 (.mov (.t 11)),Ob 26 (.mov (.t 10)),Ob 27 (.mov (.t 8)),Ob 28 (.mov (.t 3)),Ob 29 (.call 138 [(.t 24), (.t 25), (.t 26), (.t 27), (.t 28)])]))
 (.region [Ob 22 (.mov (.t 11)),Ob 23 (.bin .sub (.t 22) (Ci 1)),Ob 11 (.mov (.t 23))]))))))
 (.seq (.region [Ob 30 (.mov (.t 10)),Ob 31 (.bin .sub (.t 30) (Ci 1)),Ob 12 (.mov (.t 31))])
 (.block 2 (.loop (.seq (.seq (.region [Ob 32 (.mov (.t 12)),Ob 33 (.bin .geq (.t 32) (Ci 0))])
 (.cond (.t 33) (.skip)
 (.exit 2)))
 (.seq (.block 3 (.seq (.region [Ob 36 (.mov (.t 0)),Ob 37 (.mov (.t 8)),Ob 38 (.mov (.t 0)),Ob 39 (.mov (.t 8)),Ob 40 (.mov (.t 12)),Ob 41 (.bin .add (.t 39) (.t 40)),Ob 42 (.mov (.t 0)),Ob 43 (.mov (.t 8)),Ob 44 (.mov (.t 12)),Ob 45 (.bin .add (.t 43) (.t 44)),Ob 46 (.idx (.t 42) (.t 45) 6),Ob 47 (.load (.t 46) (some 6)),Ob 48 (.mov (.t 0)),Ob 49 (.mov (.t 8)),Ob 50 (.idx (.t 48) (.t 49) 6),Ob 51 (.load (.t 50) (some 6)),Ob 52 (.idx (.t 36) (.t 37) 6),On (.store (.t 52) (.t 47) 6),Ob 53 (.idx (.t 38) (.t 41) 6),On (.store (.t 53) (.t 51) 6)])
 (.region [Ob 54 (.mov (.t 0)),Ob 55 (.mov (.t 9)),Ob 56 (.mov (.t 12)),Ob 57 (.mov (.t 8)),Ob 58 (.mov (.t 3)),Ob 59 (.call 138 [(.t 54), (.t 55), (.t 56), (.t 57), (.t 58)])])))
 (.region [Ob 34 (.mov (.t 12)),Ob 35 (.bin .sub (.t 34) (Ci 1)),Ob 12 (.mov (.t 35))])))))))))
def r116 : List Res := []
def a116 : AFn := ⟨4, c116, r116,.r⟩

def c117 : ACode := .seq (.region [Ob 13 (.mov (.t 2)),Ob 14 (.mov (.t 1)),Ob 15 (.bin .sub (.t 13) (.t 14)),Ob 8 (.mov (.t 15))])
 (.seq (.region [Ob 16 (.mov (.t 8)),Ob 17 (.bin .geq (.t 16) (Ci 8))])
 (.cond (.t 17) (.seq (.region [Ob 18 (.mov (.t 8)),Ob 19 (.conv .u64 (.t 18)),Ob 9 (.new (.int .u64 0) 1),On (.store (.t 9) (.t 19) 1)])
 (.seq (.region [Ob 20 (.mov (.t 8)),Ob 21 (.call 139 [(.t 20)]),Ob 10 (.mov (.t 21))])
 (.seq (.region [Ob 22 (.mov (.t 1)),Ob 23 (.mov (.t 8)),Ob 24 (.bin .quo (.t 23) (Ci 4)),Ob 25 (.bin .mul (.t 24) (Ci 2)),Ob 26 (.bin .add (.t 22) (.t 25)),Ob 27 (.bin .sub (.t 26) (Ci 1)),Ob 11 (.mov (.t 27))])
 (.block 0 (.loop (.seq (.seq (.region [Ob 28 (.mov (.t 11)),Ob 29 (.mov (.t 1)),Ob 30 (.mov (.t 8)),Ob 31 (.bin .quo (.t 30) (Ci 4)),Ob 32 (.bin .mul (.t 31) (Ci 2)),Ob 33 (.bin .add (.t 29) (.t 32)),Ob 34 (.bin .add (.t 33) (Ci 1)),Ob 35 (.bin .leq (.t 28) (.t 34))])
 (.cond (.t 35) (.skip)
 (.exit 0)))
 (.seq (.block 1 (.seq (.region [Ob 38 (.call 140 [(.t 9)]),Ob 39 (.mov (.t 10)),Ob 40 (.bin .sub (.t 39) (.c (.int .u64 1))),Ob 41 (.bin .and (.t 38) (.t 40)),Ob 42 (.conv .i64 (.t 41)),Ob 12 (.mov (.t 42))])
 (.seq (.seq (.region [Ob 43 (.mov (.t 12)),Ob 44 (.mov (.t 8)),Ob 45 (.bin .geq (.t 43) (.t 44))])
 (.cond (.t 45) (.region [Ob 46 (.mov (.t 12)),Ob 47 (.mov (.t 8)),Ob 48 (.bin .sub (.t 46) (.t 47)),Ob 12 (.mov (.t 48))])
 (.skip)))
 (.region [Ob 49 (.mov (.t 0)),Ob 50 (.mov (.t 11)),Ob 51 (.mov (.t 0)),Ob 52 (.mov (.t 1)),Ob 53 (.mov (.t 12)),Ob 54 (.bin .add (.t 52) (.t 53)),Ob 55 (.mov (.t 0)),Ob 56 (.mov (.t 1)),Ob 57 (.mov (.t 12)),Ob 58 (.bin .add (.t 56) (.t 57)),Ob 59 (.idx (.t 55) (.t 58) 6),Ob 60 (.load (.t 59) (some 6)),Ob 61 (.mov (.t 0)),Ob 62 (.mov (.t 11)),Ob 63 (.idx (.t 61) (.t 62) 6),Ob 64 (.load (.t 63) (some 6)),Ob 65 (.idx (.t 49) (.t 50) 6),On (.store (.t 65) (.t 60) 6),Ob 66 (.idx (.t 51) (.t 54) 6),On (.store (.t 66) (.t 64) 6)]))))
 (.region [Ob 36 (.mov (.t 11)),Ob 37 (.bin .add (.t 36) (Ci 1)),Ob 11 (.mov (.t 37))]))))))))
 (.skip)))
def r117 : List Res := []
def a117 : AFn := ⟨4, c117, r117,.r⟩

def c118 : ACode := .seq (.region [Ob 8 (.mov (Ci 0)),Ob 9 (.mov (Ci 0))])
 (.seq (.region [Ob 15 (.mov (.t 2)),Ob 16 (.mov (.t 1)),Ob 17 (.bin .sub (.t 15) (.t 16)),Ob 10 (.mov (.t 17))])
 (.seq (.region [Ob 11 (.new (.int .i64 0) 1)])
 (.seq (.region [Ob 18 (.mov (.t 1)),Ob 19 (.mov (.t 10)),Ob 20 (.bin .quo (.t 19) (Ci 4)),Ob 21 (.bin .mul (.t 20) (Ci 1)),Ob 22 (.bin .add (.t 18) (.t 21)),Ob 12 (.mov (.t 22))])
 (.seq (.region [Ob 23 (.mov (.t 1)),Ob 24 (.mov (.t 10)),Ob 25 (.bin .quo (.t 24) (Ci 4)),Ob 26 (.bin .mul (.t 25) (Ci 2)),Ob 27 (.bin .add (.t 23) (.t 26)),Ob 13 (.mov (.t 27))])
 (.seq (.region [Ob 28 (.mov (.t 1)),Ob 29 (.mov (.t 10)),Ob 30 (.bin .quo (.t 29) (Ci 4)),Ob 31 (.bin .mul (.t 30) (Ci 3)),Ob 32 (.bin .add (.t 28) (.t 31)),Ob 14 (.mov (.t 32))])
 (.seq (.seq (.region [Ob 33 (.mov (.t 10)),Ob 34 (.bin .geq (.t 33) (Ci 8))])
 (.cond (.t 34) (.seq (.seq (.region [Ob 35 (.mov (.t 10)),Ob 36 (.bin .geq (.t 35) (Ci 50))])
 (.cond (.t 36) (.seq (.region [Ob 37 (.mov (.t 0)),Ob 38 (.mov (.t 12)),Ob 39 (.mov (.t 3)),Ob 40 (.call 141 [(.t 37), (.t 38), (.t 11), (.t 39)]),Ob 12 (.mov (.t 40))])
 (.seq (.region [Ob 41 (.mov (.t 0)),Ob 42 (.mov (.t 13)),Ob 43 (.mov (.t 3)),Ob 44 (.call 141 [(.t 41), (.t 42), (.t 11), (.t 43)]),Ob 13 (.mov (.t 44))])
 (.region [Ob 45 (.mov (.t 0)),Ob 46 (.mov (.t 14)),Ob 47 (.mov (.t 3)),Ob 48 (.call 141 [(.t 45), (.t 46), (.t 11), (.t 47)]),Ob 14 (.mov (.t 48))])))
 (.skip)))
 (.region [Ob 49 (.mov (.t 0)),Ob 50 (.mov (.t 12)),Ob 51 (.mov (.t 13)),Ob 52 (.mov (.t 14)),Ob 53 (.mov (.t 3)),Ob 54 (.call 142 [(.t 49), (.t 50), (.t 51), (.t 52), (.t 11), (.t 53)]),Ob 13 (.mov (.t 54))]))
 (.skip)))
 (.seq (.region [Ob 55 (.load (.t 11) none)])
 (.block 0 (.seq (.region [Ob 58 (.bin .eql (.t 55) (Ci 0)),Ob 57 (.mov (.t 58))])
 (.cond (.t 57) (.seq (.region [Ob 59 (.mov (.t 13)),Ob 8 (.mov (.t 59)),Ob 9 (.mov (Ci 1))])
 (.ret))
 (.seq (.region [Ob 61 (.bin .eql (.t 55) (Ci 12)),Ob 60 (.mov (.t 61))])
 (.cond (.t 60) (.seq (.region [Ob 62 (.mov (.t 13)),Ob 8 (.mov (.t 62)),Ob 9 (.mov (Ci 2))])
 (.ret))
 (.seq (.region [Ob 56 (.mov (.t 13)),Ob 8 (.mov (.t 56)),Ob 9 (.mov (Ci 0))])
 (.ret))))))))))))))
def r118 : List Res := [.t 8,.t 9]
def a118 : AFn := ⟨4, c118, r118,.r⟩

def c119 : ACode := .seq (.region [Ob 10 (.mov (.t 1)),Ob 8 (.mov (.t 10))])
 (.seq (.region [Ob 11 (.mov (.t 2)),Ob 12 (.bin .sub (.t 11) (Ci 1)),Ob 9 (.mov (.t 12))])
 (.block 0 (.loop (.seq (.seq (.region [Ob 13 (.mov (.t 8)),Ob 14 (.mov (.t 9)),Ob 15 (.bin .lss (.t 13) (.t 14))])
 (.cond (.t 15) (.skip)
 (.exit 0)))
 (.block 1 (.seq (.region [Ob 16 (.mov (.t 0)),Ob 17 (.mov (.t 8)),Ob 18 (.mov (.t 0)),Ob 19 (.mov (.t 9)),Ob 20 (.mov (.t 0)),Ob 21 (.mov (.t 9)),Ob 22 (.idx (.t 20) (.t 21) 6),Ob 23 (.load (.t 22) (some 6)),Ob 24 (.mov (.t 0)),Ob 25 (.mov (.t 8)),Ob 26 (.idx (.t 24) (.t 25) 6),Ob 27 (.load (.t 26) (some 6)),Ob 28 (.idx (.t 16) (.t 17) 6),On (.store (.t 28) (.t 23) 6),Ob 29 (.idx (.t 18) (.t 19) 6),On (.store (.t 29) (.t 27) 6)])
 (.seq (.region [Ob 30 (.mov (.t 8)),Ob 31 (.bin .add (.t 30) (Ci 1)),Ob 8 (.mov (.t 31))])
 (.region [Ob 32 (.mov (.t 9)),Ob 33 (.bin .sub (.t 32) (Ci 1)),Ob 9 (.mov (.t 33))]))))))))
def r119 : List Res := []
def a119 : AFn := ⟨4, c119, r119,.r⟩

def c120 : ACode := .seq (.region [Ob 8 (.mov (.c (.bool false)))])
 (.seq (.region [Ob 13 (.mov (.t 1)),Ob 14 (.bin .add (.t 13) (Ci 1)),Ob 9 (.mov (.t 14))])
 (.seq (.seq (.region [Ob 10 (.mov (Ci 0))])
 (.block 0 (.loop (.seq (.seq (.region [Ob 15 (.mov (.t 10)),Ob 16 (.bin .lss (.t 15) (Ci 5))])
 (.cond (.t 16) (.skip)
 (.exit 0)))
 (.seq (.block 1 (.seq (.block 2 (.loop (.seq (.seq (.region [Ob 19 (.mov (.t 9)),Ob 20 (.mov (.t 2)),Ob 21 (.bin .lss (.t 19) (.t 20)),Ob 22 (.mov (.t 21)),Og 23 22 true (.mov (.t 3)),Og 24 22 true (.mov (.t 0)),Og 25 22 true (.mov (.t 9)),Og 26 22 true (.idx (.t 24) (.t 25) 6),Og 27 22 true (.load (.t 26) (some 6)),Og 28 22 true (.mov (.t 0)),Og 29 22 true (.mov (.t 9)),Og 30 22 true (.bin .sub (.t 29) (Ci 1)),Og 31 22 true (.idx (.t 28) (.t 30) 6),Og 32 22 true (.load (.t 31) (some 6)),Og 33 22 true (.callv (.t 23) [(.t 27), (.t 32)]),Og 34 22 true (.bin .lss (.t 33) (Ci 0)),Og 35 22 true (.not (.t 34)),Ob 36 (.pick (.t 22) (.t 35) (.c (.bool false)))])
 (.cond (.t 36) (.skip)
 (.exit 2)))
 (.block 3 (.region [Ob 37 (.mov (.t 9)),Ob 38 (.bin .add (.t 37) (Ci 1)),Ob 9 (.mov (.t 38))])))))
 (.seq (.seq (.region [Ob 39 (.mov (.t 9)),Ob 40 (.mov (.t 2)),Ob 41 (.bin .eql (.t 39) (.t 40))])
 (.cond (.t 41) (.seq (.region [Ob 8 (.mov (.c (.bool true)))])
 (.ret))
 (.skip)))
 (.seq (.seq (.region [Ob 42 (.mov (.t 2)),Ob 43 (.mov (.t 1)),Ob 44 (.bin .sub (.t 42) (.t 43)),Ob 45 (.bin .lss (.t 44) (Ci 50))])
 (.cond (.t 45) (.seq (.region [Ob 8 (.mov (.c (.bool false)))])
 (.ret))
 (.skip)))
 (.seq (.region [Ob 46 (.mov (.t 0)),Ob 47 (.mov (.t 9)),Ob 48 (.mov (.t 0)),Ob 49 (.mov (.t 9)),Ob 50 (.bin .sub (.t 49) (Ci 1)),Ob 51 (.mov (.t 0)),Ob 52 (.mov (.t 9)),Ob 53 (.bin .sub (.t 52) (Ci 1)),Ob 54 (.idx (.t 51) (.t 53) 6),Ob 55 (.load (.t 54) (some 6)),Ob 56 (.mov (.t 0)),Ob 57 (.mov (.t 9)),Ob 58 (.idx (.t 56) (.t 57) 6),Ob 59 (.load (.t 58) (some 6)),Ob 60 (.idx (.t 46) (.t 47) 6),On (.store (.t 60) (.t 55) 6),Ob 61 (.idx (.t 48) (.t 50) 6),On (.store (.t 61) (.t 59) 6)])
 (.seq (.seq (.region [Ob 62 (.mov (.t 9)),Ob 63 (.mov (.t 1)),Ob 64 (.bin .sub (.t 62) (.t 63)),Ob 65 (.bin .geq (.t 64) (Ci 2))])
 (.cond (.t 65) (.seq (.region [Ob 66 (.mov (.t 9)),Ob 67 (.bin .sub (.t 66) (Ci 1)),Ob 11 (.mov (.t 67))])
 (.block 4 (.loop (.seq (.seq (.region [Ob 68 (.mov (.t 11)),Ob 69 (.bin .geq (.t 68) (Ci 1))])
 (.cond (.t 69) (.skip)
 (.exit 4)))
 (.seq (.block 5 (.seq (.seq (.region [Ob 72 (.mov (.t 3)),Ob 73 (.mov (.t 0)),Ob 74 (.mov (.t 11)),Ob 75 (.idx (.t 73) (.t 74) 6),Ob 76 (.load (.t 75) (some 6)),Ob 77 (.mov (.t 0)),Ob 78 (.mov (.t 11)),Ob 79 (.bin .sub (.t 78) (Ci 1)),Ob 80 (.idx (.t 77) (.t 79) 6),Ob 81 (.load (.t 80) (some 6)),Ob 82 (.callv (.t 72) [(.t 76), (.t 81)]),Ob 83 (.bin .lss (.t 82) (Ci 0)),Ob 84 (.not (.t 83))])
 (.cond (.t 84) (.exit 4)
 (.skip)))
 (.region [Ob 85 (.mov (.t 0)),Ob 86 (.mov (.t 11)),Ob 87 (.mov (.t 0)),Ob 88 (.mov (.t 11)),Ob 89 (.bin .sub (.t 88) (Ci 1)),Ob 90 (.mov (.t 0)),Ob 91 (.mov (.t 11)),Ob 92 (.bin .sub (.t 91) (Ci 1)),Ob 93 (.idx (.t 90) (.t 92) 6),Ob 94 (.load (.t 93) (some 6)),Ob 95 (.mov (.t 0)),Ob 96 (.mov (.t 11)),Ob 97 (.idx (.t 95) (.t 96) 6),Ob 98 (.load (.t 97) (some 6)),Ob 99 (.idx (.t 85) (.t 86) 6),On (.store (.t 99) (.t 94) 6),Ob 100 (.idx (.t 87) (.t 89) 6),On (.store (.t 100) (.t 98) 6)])))
 (.region [Ob 70 (.mov (.t 11)),Ob 71 (.bin .sub (.t 70) (Ci 1)),Ob 11 (.mov (.t 71))]))))))
 (.skip)))
 (.seq (.region [Ob 101 (.mov (.t 2)),Ob 102 (.mov (.t 9)),Ob 103 (.bin .sub (.t 101) (.t 102)),Ob 104 (.bin .geq (.t 103) (Ci 2))])
 (.cond (.t 104) (.seq (.region [Ob 105 (.mov (.t 9)),Ob 106 (.bin .add (.t 105) (Ci 1)),Ob 12 (.mov (.t 106))])
 (.block 6 (.loop (.seq (.seq (.region [Ob 107 (.mov (.t 12)),Ob 108 (.mov (.t 2)),Ob 109 (.bin .lss (.t 107) (.t 108))])
 (.cond (.t 109) (.skip)
 (.exit 6)))
 (.seq (.block 7 (.seq (.seq (.region [Ob 112 (.mov (.t 3)),Ob 113 (.mov (.t 0)),Ob 114 (.mov (.t 12)),Ob 115 (.idx (.t 113) (.t 114) 6),Ob 116 (.load (.t 115) (some 6)),Ob 117 (.mov (.t 0)),Ob 118 (.mov (.t 12)),Ob 119 (.bin .sub (.t 118) (Ci 1)),Ob 120 (.idx (.t 117) (.t 119) 6),Ob 121 (.load (.t 120) (some 6)),Ob 122 (.callv (.t 112) [(.t 116), (.t 121)]),Ob 123 (.bin .lss (.t 122) (Ci 0)),Ob 124 (.not (.t 123))])
 (.cond (.t 124) (.exit 6)
 (.skip)))
 (.region [Ob 125 (.mov (.t 0)),Ob 126 (.mov (.t 12)),Ob 127 (.mov (.t 0)),Ob 128 (.mov (.t 12)),Ob 129 (.bin .sub (.t 128) (Ci 1)),Ob 130 (.mov (.t 0)),Ob 131 (.mov (.t 12)),Ob 132 (.bin .sub (.t 131) (Ci 1)),Ob 133 (.idx (.t 130) (.t 132) 6),Ob 134 (.load (.t 133) (some 6)),Ob 135 (.mov (.t 0)),Ob 136 (.mov (.t 12)),Ob 137 (.idx (.t 135) (.t 136) 6),Ob 138 (.load (.t 137) (some 6)),Ob 139 (.idx (.t 125) (.t 126) 6),On (.store (.t 139) (.t 134) 6),Ob 140 (.idx (.t 127) (.t 129) 6),On (.store (.t 140) (.t 138) 6)])))
 (.region [Ob 110 (.mov (.t 12)),Ob 111 (.bin .add (.t 110) (Ci 1)),Ob 12 (.mov (.t 111))]))))))
 (.skip)))))))))
 (.region [Ob 17 (.mov (.t 10)),Ob 18 (.bin .add (.t 17) (Ci 1)),Ob 10 (.mov (.t 18))]))))))
 (.seq (.region [Ob 8 (.mov (.c (.bool false)))])
 (.ret))))
def r120 : List Res := [.t 8]
def a120 : AFn := ⟨4, c120, r120,.r⟩

def c121 : ACode := .seq (.region [Ob 10 (.mov (Ci 0))])
 (.seq (.region [Ob 13 (.mov (.t 0)),Ob 14 (.mov (.t 1)),Ob 15 (.mov (.t 0)),Ob 16 (.mov (.t 3)),Ob 17 (.mov (.t 0)),Ob 18 (.mov (.t 3)),Ob 19 (.idx (.t 17) (.t 18) 6),Ob 20 (.load (.t 19) (some 6)),Ob 21 (.mov (.t 0)),Ob 22 (.mov (.t 1)),Ob 23 (.idx (.t 21) (.t 22) 6),Ob 24 (.load (.t 23) (some 6)),Ob 25 (.idx (.t 13) (.t 14) 6),On (.store (.t 25) (.t 20) 6),Ob 26 (.idx (.t 15) (.t 16) 6),On (.store (.t 26) (.t 24) 6)])
 (.seq (.region [Ob 27 (.mov (.t 1)),Ob 28 (.bin .add (.t 27) (Ci 1)),Ob 29 (.mov (.t 2)),Ob 30 (.bin .sub (.t 29) (Ci 1)),Ob 11 (.mov (.t 28)),Ob 12 (.mov (.t 30))])
 (.seq (.block 0 (.loop (.block 1 (.seq (.block 2 (.loop (.seq (.seq (.region [Ob 31 (.mov (.t 11)),Ob 32 (.mov (.t 12)),Ob 33 (.bin .leq (.t 31) (.t 32)),Ob 34 (.mov (.t 33)),Og 35 34 true (.mov (.t 4)),Og 36 34 true (.mov (.t 0)),Og 37 34 true (.mov (.t 1)),Og 38 34 true (.idx (.t 36) (.t 37) 6),Og 39 34 true (.load (.t 38) (some 6)),Og 40 34 true (.mov (.t 0)),Og 41 34 true (.mov (.t 11)),Og 42 34 true (.idx (.t 40) (.t 41) 6),Og 43 34 true (.load (.t 42) (some 6)),Og 44 34 true (.callv (.t 35) [(.t 39), (.t 43)]),Og 45 34 true (.bin .lss (.t 44) (Ci 0)),Og 46 34 true (.not (.t 45)),Ob 47 (.pick (.t 34) (.t 46) (.c (.bool false)))])
 (.cond (.t 47) (.skip)
 (.exit 2)))
 (.block 3 (.region [Ob 48 (.mov (.t 11)),Ob 49 (.bin .add (.t 48) (Ci 1)),Ob 11 (.mov (.t 49))])))))
 (.seq (.block 4 (.loop (.seq (.seq (.region [Ob 50 (.mov (.t 11)),Ob 51 (.mov (.t 12)),Ob 52 (.bin .leq (.t 50) (.t 51)),Ob 53 (.mov (.t 52)),Og 54 53 true (.mov (.t 4)),Og 55 53 true (.mov (.t 0)),Og 56 53 true (.mov (.t 1)),Og 57 53 true (.idx (.t 55) (.t 56) 6),Og 58 53 true (.load (.t 57) (some 6)),Og 59 53 true (.mov (.t 0)),Og 60 53 true (.mov (.t 12)),Og 61 53 true (.idx (.t 59) (.t 60) 6),Og 62 53 true (.load (.t 61) (some 6)),Og 63 53 true (.callv (.t 54) [(.t 58), (.t 62)]),Og 64 53 true (.bin .lss (.t 63) (Ci 0)),Ob 65 (.pick (.t 53) (.t 64) (.c (.bool false)))])
 (.cond (.t 65) (.skip)
 (.exit 4)))
 (.block 5 (.region [Ob 66 (.mov (.t 12)),Ob 67 (.bin .sub (.t 66) (Ci 1)),Ob 12 (.mov (.t 67))])))))
 (.seq (.seq (.region [Ob 68 (.mov (.t 11)),Ob 69 (.mov (.t 12)),Ob 70 (.bin .gtr (.t 68) (.t 69))])
 (.cond (.t 70) (.exit 0)
 (.skip)))
 (.seq (.region [Ob 71 (.mov (.t 0)),Ob 72 (.mov (.t 11)),Ob 73 (.mov (.t 0)),Ob 74 (.mov (.t 12)),Ob 75 (.mov (.t 0)),Ob 76 (.mov (.t 12)),Ob 77 (.idx (.t 75) (.t 76) 6),Ob 78 (.load (.t 77) (some 6)),Ob 79 (.mov (.t 0)),Ob 80 (.mov (.t 11)),Ob 81 (.idx (.t 79) (.t 80) 6),Ob 82 (.load (.t 81) (some 6)),Ob 83 (.idx (.t 71) (.t 72) 6),On (.store (.t 83) (.t 78) 6),Ob 84 (.idx (.t 73) (.t 74) 6),On (.store (.t 84) (.t 82) 6)])
 (.seq (.region [Ob 85 (.mov (.t 11)),Ob 86 (.bin .add (.t 85) (Ci 1)),Ob 11 (.mov (.t 86))])
 (.region [Ob 87 (.mov (.t 12)),Ob 88 (.bin .sub (.t 87) (Ci 1)),Ob 12 (.mov (.t 88))])))))))))
 (.seq (.region [Ob 89 (.mov (.t 11)),Ob 10 (.mov (.t 89))])
 (.ret)))))
def r121 : List Res := [.t 10]
def a121 : AFn := ⟨5, c121, r121,.r⟩

def c122 : ACode := .seq (.region [Ob 10 (.mov (Ci 0)),Ob 11 (.mov (.c (.bool false)))])
 (.seq (.region [Ob 14 (.mov (.t 0)),Ob 15 (.mov (.t 1)),Ob 16 (.mov (.t 0)),Ob 17 (.mov (.t 3)),Ob 18 (.mov (.t 0)),Ob 19 (.mov (.t 3)),Ob 20 (.idx (.t 18) (.t 19) 6),Ob 21 (.load (.t 20) (some 6)),Ob 22 (.mov (.t 0)),Ob 23 (.mov (.t 1)),Ob 24 (.idx (.t 22) (.t 23) 6),Ob 25 (.load (.t 24) (some 6)),Ob 26 (.idx (.t 14) (.t 15) 6),On (.store (.t 26) (.t 21) 6),Ob 27 (.idx (.t 16) (.t 17) 6),On (.store (.t 27) (.t 25) 6)])
 (.seq (.region [Ob 28 (.mov (.t 1)),Ob 29 (.bin .add (.t 28) (Ci 1)),Ob 30 (.mov (.t 2)),Ob 31 (.bin .sub (.t 30) (Ci 1)),Ob 12 (.mov (.t 29)),Ob 13 (.mov (.t 31))])
 (.seq (.block 0 (.loop (.seq (.seq (.region [Ob 32 (.mov (.t 12)),Ob 33 (.mov (.t 13)),Ob 34 (.bin .leq (.t 32) (.t 33)),Ob 35 (.mov (.t 34)),Og 36 35 true (.mov (.t 4)),Og 37 35 true (.mov (.t 0)),Og 38 35 true (.mov (.t 12)),Og 39 35 true (.idx (.t 37) (.t 38) 6),Og 40 35 true (.load (.t 39) (some 6)),Og 41 35 true (.mov (.t 0)),Og 42 35 true (.mov (.t 1)),Og 43 35 true (.idx (.t 41) (.t 42) 6),Og 44 35 true (.load (.t 43) (some 6)),Og 45 35 true (.callv (.t 36) [(.t 40), (.t 44)]),Og 46 35 true (.bin .lss (.t 45) (Ci 0)),Ob 47 (.pick (.t 35) (.t 46) (.c (.bool false)))])
 (.cond (.t 47) (.skip)
 (.exit 0)))
 (.block 1 (.region [Ob 48 (.mov (.t 12)),Ob 49 (.bin .add (.t 48) (Ci 1)),Ob 12 (.mov (.t 49))])))))
 (.seq (.block 2 (.loop (.seq (.seq (.region [Ob 50 (.mov (.t 12)),Ob 51 (.mov (.t 13)),Ob 52 (.bin .leq (.t 50) (.t 51)),Ob 53 (.mov (.t 52)),Og 54 53 true (.mov (.t 4)),Og 55 53 true (.mov (.t 0)),Og 56 53 true (.mov (.t 13)),Og 57 53 true (.idx (.t 55) (.t 56) 6),Og 58 53 true (.load (.t 57) (some 6)),Og 59 53 true (.mov (.t 0)),Og 60 53 true (.mov (.t 1)),Og 61 53 true (.idx (.t 59) (.t 60) 6),Og 62 53 true (.load (.t 61) (some 6)),Og 63 53 true (.callv (.t 54) [(.t 58), (.t 62)]),Og 64 53 true (.bin .lss (.t 63) (Ci 0)),Og 65 53 true (.not (.t 64)),Ob 66 (.pick (.t 53) (.t 65) (.c (.bool false)))])
 (.cond (.t 66) (.skip)
 (.exit 2)))
 (.block 3 (.region [Ob 67 (.mov (.t 13)),Ob 68 (.bin .sub (.t 67) (Ci 1)),Ob 13 (.mov (.t 68))])))))
 (.seq (.seq (.region [Ob 69 (.mov (.t 12)),Ob 70 (.mov (.t 13)),Ob 71 (.bin .gtr (.t 69) (.t 70))])
 (.cond (.t 71) (.seq (.region [Ob 72 (.mov (.t 0)),Ob 73 (.mov (.t 13)),Ob 74 (.mov (.t 0)),Ob 75 (.mov (.t 1)),Ob 76 (.mov (.t 0)),Ob 77 (.mov (.t 1)),Ob 78 (.idx (.t 76) (.t 77) 6),Ob 79 (.load (.t 78) (some 6)),Ob 80 (.mov (.t 0)),Ob 81 (.mov (.t 13)),Ob 82 (.idx (.t 80) (.t 81) 6),Ob 83 (.load (.t 82) (some 6)),Ob 84 (.idx (.t 72) (.t 73) 6),On (.store (.t 84) (.t 79) 6),Ob 85 (.idx (.t 74) (.t 75) 6),On (.store (.t 85) (.t 83) 6)])
 (.seq (.region [Ob 86 (.mov (.t 13)),Ob 10 (.mov (.t 86)),Ob 11 (.mov (.c (.bool true)))])
 (.ret)))
 (.skip)))
 (.seq (.region [Ob 87 (.mov (.t 0)),Ob 88 (.mov (.t 12)),Ob 89 (.mov (.t 0)),Ob 90 (.mov (.t 13)),Ob 91 (.mov (.t 0)),Ob 92 (.mov (.t 13)),Ob 93 (.idx (.t 91) (.t 92) 6),Ob 94 (.load (.t 93) (some 6)),Ob 95 (.mov (.t 0)),Ob 96 (.mov (.t 12)),Ob 97 (.idx (.t 95) (.t 96) 6),Ob 98 (.load (.t 97) (some 6)),Ob 99 (.idx (.t 87) (.t 88) 6),On (.store (.t 99) (.t 94) 6),Ob 100 (.idx (.t 89) (.t 90) 6),On (.store (.t 100) (.t 98) 6)])
 (.seq (.region [Ob 101 (.mov (.t 12)),Ob 102 (.bin .add (.t 101) (Ci 1)),Ob 12 (.mov (.t 102))])
 (.seq (.region [Ob 103 (.mov (.t 13)),Ob 104 (.bin .sub (.t 103) (Ci 1)),Ob 13 (.mov (.t 104))])
 (.seq (.block 4 (.loop (.block 5 (.seq (.block 6 (.loop (.seq (.seq (.region [Ob 105 (.mov (.t 12)),Ob 106 (.mov (.t 13)),Ob 107 (.bin .leq (.t 105) (.t 106)),Ob 108 (.mov (.t 107)),Og 109 108 true (.mov (.t 4)),Og 110 108 true (.mov (.t 0)),Og 111 108 true (.mov (.t 12)),Og 112 108 true (.idx (.t 110) (.t 111) 6),Og 113 108 true (.load (.t 112) (some 6)),Og 114 108 true (.mov (.t 0)),Og 115 108 true (.mov (.t 1)),Og 116 108 true (.idx (.t 114) (.t 115) 6),Og 117 108 true (.load (.t 116) (some 6)),Og 118 108 true (.callv (.t 109) [(.t 113), (.t 117)]),Og 119 108 true (.bin .lss (.t 118) (Ci 0)),Ob 120 (.pick (.t 108) (.t 119) (.c (.bool false)))])
 (.cond (.t 120) (.skip)
 (.exit 6)))
 (.block 7 (.region [Ob 121 (.mov (.t 12)),Ob 122 (.bin .add (.t 121) (Ci 1)),Ob 12 (.mov (.t 122))])))))
 (.seq (.block 8 (.loop (.seq (.seq (.region [Ob 123 (.mov (.t 12)),Ob 124 (.mov (.t 13)),Ob 125 (.bin .leq (.t 123) (.t 124)),Ob 126 (.mov (.t 125)),Og 127 126 true (.mov (.t 4)),Og 128 126 true (.mov (.t 0)),Og 129 126 true (.mov (.t 13)),Og 130 126 true (.idx (.t 128) (.t 129) 6),Og 131 126 true (.load (.t 130) (some 6)),Og 132 126 true (.mov (.t 0)),Og 133 126 true (.mov (.t 1)),Og 134 126 true (.idx (.t 132) (.t 133) 6),Og 135 126 true (.load (.t 134) (some 6)),Og 136 126 true (.callv (.t 127) [(.t 131), (.t 135)]),Og 137 126 true (.bin .lss (.t 136) (Ci 0)),Og 138 126 true (.not (.t 137)),Ob 139 (.pick (.t 126) (.t 138) (.c (.bool false)))])
 (.cond (.t 139) (.skip)
 (.exit 8)))
 (.block 9 (.region [Ob 140 (.mov (.t 13)),Ob 141 (.bin .sub (.t 140) (Ci 1)),Ob 13 (.mov (.t 141))])))))
 (.seq (.seq (.region [Ob 142 (.mov (.t 12)),Ob 143 (.mov (.t 13)),Ob 144 (.bin .gtr (.t 142) (.t 143))])
 (.cond (.t 144) (.exit 4)
 (.skip)))
 (.seq (.region [Ob 145 (.mov (.t 0)),Ob 146 (.mov (.t 12)),Ob 147 (.mov (.t 0)),Ob 148 (.mov (.t 13)),Ob 149 (.mov (.t 0)),Ob 150 (.mov (.t 13)),Ob 151 (.idx (.t 149) (.t 150) 6),Ob 152 (.load (.t 151) (some 6)),Ob 153 (.mov (.t 0)),Ob 154 (.mov (.t 12)),Ob 155 (.idx (.t 153) (.t 154) 6),Ob 156 (.load (.t 155) (some 6)),Ob 157 (.idx (.t 145) (.t 146) 6),On (.store (.t 157) (.t 152) 6),Ob 158 (.idx (.t 147) (.t 148) 6),On (.store (.t 158) (.t 156) 6)])
 (.seq (.region [Ob 159 (.mov (.t 12)),Ob 160 (.bin .add (.t 159) (Ci 1)),Ob 12 (.mov (.t 160))])
 (.region [Ob 161 (.mov (.t 13)),Ob 162 (.bin .sub (.t 161) (Ci 1)),Ob 13 (.mov (.t 162))])))))))))
 (.seq (.region [Ob 163 (.mov (.t 0)),Ob 164 (.mov (.t 13)),Ob 165 (.mov (.t 0)),Ob 166 (.mov (.t 1)),Ob 167 (.mov (.t 0)),Ob 168 (.mov (.t 1)),Ob 169 (.idx (.t 167) (.t 168) 6),Ob 170 (.load (.t 169) (some 6)),Ob 171 (.mov (.t 0)),Ob 172 (.mov (.t 13)),Ob 173 (.idx (.t 171) (.t 172) 6),Ob 174 (.load (.t 173) (some 6)),Ob 175 (.idx (.t 163) (.t 164) 6),On (.store (.t 175) (.t 170) 6),Ob 176 (.idx (.t 165) (.t 166) 6),On (.store (.t 176) (.t 174) 6)])
 (.seq (.region [Ob 177 (.mov (.t 13)),Ob 10 (.mov (.t 177)),Ob 11 (.mov (.c (.bool false)))])
 (.ret))))))))))))
def r122 : List Res := [.t 10,.t 11]
def a122 : AFn := ⟨5, c122, r122,.r⟩

def c123 : ACode := .seq (.region [Ob 2 (.mov (Ci 0))])
 (.seq (.seq (.region [Ob 3 (.mov (.t 0)),Ob 4 (.bin .geq (.t 3) (.c (.int .u32 65536)))])
 (.cond (.t 4) (.seq (.region [Ob 5 (.mov (.t 0)),Ob 6 (.bin .shr (.t 5) (.c (.int .u64 16))),Ob 0 (.mov (.t 6))])
 (.region [Ob 2 (.mov (Ci 16))]))
 (.skip)))
 (.seq (.seq (.region [Ob 7 (.mov (.t 0)),Ob 8 (.bin .geq (.t 7) (.c (.int .u32 256)))])
 (.cond (.t 8) (.seq (.region [Ob 9 (.mov (.t 0)),Ob 10 (.bin .shr (.t 9) (.c (.int .u64 8))),Ob 0 (.mov (.t 10))])
 (.region [Ob 11 (.mov (.t 2)),Ob 12 (.bin .add (.t 11) (Ci 8)),Ob 2 (.mov (.t 12))]))
 (.skip)))
 (.seq (.region [Ob 13 (.mov (.t 2)),Ob 14 (.mov (.t 0)),Ob 15 (.conv .u8 (.t 14)),⟨some 16,none,.sidx (.c (.str ⟨#[0, 1, 2, 2, 3, 3, 3, 3, 4, 4, 4, 4, 4, 4, 4, 4, 5, 5, 5, 5, 5, 5, 5, 5, 5, 5, 5, 5, 5, 5, 5, 5, 6, 6, 6, 6, 6, 6, 6, 6, 6, 6, 6, 6, 6, 6, 6, 6, 6, 6, 6, 6, 6, 6, 6, 6, 6, 6, 6, 6, 6, 6, 6, 6, 7, 7, 7, 7, 7, 7, 7, 7, 7, 7, 7, 7, 7, 7, 7, 7, 7, 7, 7, 7, 7, 7, 7, 7, 7, 7, 7, 7, 7, 7, 7, 7, 7, 7, 7, 7, 7, 7, 7, 7, 7, 7, 7, 7, 7, 7, 7, 7, 7, 7, 7, 7, 7, 7, 7, 7, 7, 7, 7, 7, 7, 7, 7, 7, 8, 8, 8, 8, 8, 8, 8, 8, 8, 8, 8, 8, 8, 8, 8, 8, 8, 8, 8, 8, 8, 8, 8, 8, 8, 8, 8, 8, 8, 8, 8, 8, 8, 8, 8, 8, 8, 8, 8, 8, 8, 8, 8, 8, 8, 8, 8, 8, 8, 8, 8, 8, 8, 8, 8, 8, 8, 8, 8, 8, 8, 8, 8, 8, 8, 8, 8, 8, 8, 8, 8, 8, 8, 8, 8, 8, 8, 8, 8, 8, 8, 8, 8, 8, 8, 8, 8, 8, 8, 8, 8, 8, 8, 8, 8, 8, 8, 8, 8, 8, 8, 8, 8, 8, 8, 8, 8, 8, 8, 8, 8, 8, 8, 8, 8, 8, 8, 8, 8, 8, 8, 8, 8, 8, 8, 8, 8, 8]⟩)) (.t 15)⟩,Ob 17 (.conv .i64 (.t 16)),Ob 18 (.bin .add (.t 13) (.t 17)),Ob 2 (.mov (.t 18))])
 (.ret))))
def r123 : List Res := [.t 2]
def a123 : AFn := ⟨1, c123, r123,.v⟩

def c124 : ACode := .seq (.region [Ob 2 (.mov (Ci 0))])
 (.seq (.seq (.region [Ob 3 (.mov (.t 0)),Ob 4 (.bin .geq (.t 3) (.c (.int .u64 4294967296)))])
 (.cond (.t 4) (.seq (.region [Ob 5 (.mov (.t 0)),Ob 6 (.bin .shr (.t 5) (.c (.int .u64 32))),Ob 0 (.mov (.t 6))])
 (.region [Ob 2 (.mov (Ci 32))]))
 (.skip)))
 (.seq (.seq (.region [Ob 7 (.mov (.t 0)),Ob 8 (.bin .geq (.t 7) (.c (.int .u64 65536)))])
 (.cond (.t 8) (.seq (.region [Ob 9 (.mov (.t 0)),Ob 10 (.bin .shr (.t 9) (.c (.int .u64 16))),Ob 0 (.mov (.t 10))])
 (.region [Ob 11 (.mov (.t 2)),Ob 12 (.bin .add (.t 11) (Ci 16)),Ob 2 (.mov (.t 12))]))
 (.skip)))
 (.seq (.seq (.region [Ob 13 (.mov (.t 0)),Ob 14 (.bin .geq (.t 13) (.c (.int .u64 256)))])
 (.cond (.t 14) (.seq (.region [Ob 15 (.mov (.t 0)),Ob 16 (.bin .shr (.t 15) (.c (.int .u64 8))),Ob 0 (.mov (.t 16))])
 (.region [Ob 17 (.mov (.t 2)),Ob 18 (.bin .add (.t 17) (Ci 8)),Ob 2 (.mov (.t 18))]))
 (.skip)))
 (.seq (.region [Ob 19 (.mov (.t 2)),Ob 20 (.mov (.t 0)),Ob 21 (.conv .u8 (.t 20)),⟨some 22,none,.sidx (.c (.str ⟨#[0, 1, 2, 2, 3, 3, 3, 3, 4, 4, 4, 4, 4, 4, 4, 4, 5, 5, 5, 5, 5, 5, 5, 5, 5, 5, 5, 5, 5, 5, 5, 5, 6, 6, 6, 6, 6, 6, 6, 6, 6, 6, 6, 6, 6, 6, 6, 6, 6, 6, 6, 6, 6, 6, 6, 6, 6, 6, 6, 6, 6, 6, 6, 6, 7, 7, 7, 7, 7, 7, 7, 7, 7, 7, 7, 7, 7, 7, 7, 7, 7, 7, 7, 7, 7, 7, 7, 7, 7, 7, 7, 7, 7, 7, 7, 7, 7, 7, 7, 7, 7, 7, 7, 7, 7, 7, 7, 7, 7, 7, 7, 7, 7, 7, 7, 7, 7, 7, 7, 7, 7, 7, 7, 7, 7, 7, 7, 7, 8, 8, 8, 8, 8, 8, 8, 8, 8, 8, 8, 8, 8, 8, 8, 8, 8, 8, 8, 8, 8, 8, 8, 8, 8, 8, 8, 8, 8, 8, 8, 8, 8, 8, 8, 8, 8, 8, 8, 8, 8, 8, 8, 8, 8, 8, 8, 8, 8, 8, 8, 8, 8, 8, 8, 8, 8, 8, 8, 8, 8, 8, 8, 8, 8, 8, 8, 8, 8, 8, 8, 8, 8, 8, 8, 8, 8, 8, 8, 8, 8, 8, 8, 8, 8, 8, 8, 8, 8, 8, 8, 8, 8, 8, 8, 8, 8, 8, 8, 8, 8, 8, 8, 8, 8, 8, 8, 8, 8, 8, 8, 8, 8, 8, 8, 8, 8, 8, 8, 8, 8, 8, 8, 8, 8, 8, 8, 8]⟩)) (.t 21)⟩,Ob 23 (.conv .i64 (.t 22)),Ob 24 (.bin .add (.t 19) (.t 23)),Ob 2 (.mov (.t 24))])
 (.ret)))))
def r124 : List Res := [.t 2]
def a124 : AFn := ⟨1, c124, r124,.v⟩

def c125 : ACode := .seq (.region [Ob 4 (.mov (Ci 0))])
 (.seq (.seq (.region [Ob 6 (.mov (.t 0)),Ob 7 (.len (.t 6)),Ob 8 (.mov (Ci 0))])
 (.block 0 (.loop (.seq (.region [Ob 9 (.bin .lss (.t 8) (.t 7))])
 (.seq (.cond (.t 9) (.skip)
 (.exit 0))
 (.seq (.block 1 (.seq (.region [Ob 10 (.mov (.t 8)),Ob 5 (.mov (.t 10))])
 (.seq (.region [Ob 11 (.mov (.t 1)),Ob 12 (.mov (.t 0)),Ob 13 (.mov (.t 5)),Ob 14 (.idx (.t 12) (.t 13) 2),Ob 15 (.load (.t 14) (some 2)),Ob 16 (.callv (.t 11) [(.t 15)])])
 (.cond (.t 16) (.seq (.region [Ob 17 (.mov (.t 5)),Ob 4 (.mov (.t 17))])
 (.ret))
 (.skip)))))
 (.region [Ob 18 (.bin .add (.t 8) (Ci 1)),Ob 8 (.mov (.t 18))])))))))
 (.seq (.region [Ob 4 (.mov (Ci (-1)))])
 (.ret)))
def r125 : List Res := [.t 4]
def a125 : AFn := ⟨2, c125, r125,.v⟩

def c126 : ACode := .seq (.region [Ob 10 (.mov (.t 1)),Ob 11 (.bin .add (.t 10) (Ci 1)),Ob 8 (.mov (.t 11))])
 (.block 0 (.loop (.seq (.seq (.region [Ob 12 (.mov (.t 8)),Ob 13 (.mov (.t 2)),Ob 14 (.bin .lss (.t 12) (.t 13))])
 (.cond (.t 14) (.skip)
 (.exit 0)))
 (.seq (.block 1 (.seq (.region [Ob 17 (.mov (.t 8)),Ob 9 (.mov (.t 17))])
 (.block 2 (.loop (.seq (.seq (.region [Ob 18 (.mov (.t 9)),Ob 19 (.mov (.t 1)),Ob 20 (.bin .gtr (.t 18) (.t 19)),Ob 21 (.mov (.t 20)),Og 22 21 true (.mov (.t 3)),Og 23 21 true (.mov (.t 0)),Og 24 21 true (.mov (.t 9)),Og 25 21 true (.idx (.t 23) (.t 24) 9),Og 26 21 true (.load (.t 25) (some 9)),Og 27 21 true (.mov (.t 0)),Og 28 21 true (.mov (.t 9)),Og 29 21 true (.bin .sub (.t 28) (Ci 1)),Og 30 21 true (.idx (.t 27) (.t 29) 9),Og 31 21 true (.load (.t 30) (some 9)),Og 32 21 true (.callv (.t 22) [(.t 26), (.t 31)]),Og 33 21 true (.bin .lss (.t 32) (Ci 0)),Ob 34 (.pick (.t 21) (.t 33) (.c (.bool false)))])
 (.cond (.t 34) (.skip)
 (.exit 2)))
 (.seq (.block 3 (.region [Ob 37 (.mov (.t 0)),Ob 38 (.mov (.t 9)),Ob 39 (.mov (.t 0)),Ob 40 (.mov (.t 9)),Ob 41 (.bin .sub (.t 40) (Ci 1)),Ob 42 (.mov (.t 0)),Ob 43 (.mov (.t 9)),Ob 44 (.bin .sub (.t 43) (Ci 1)),Ob 45 (.idx (.t 42) (.t 44) 9),Ob 46 (.load (.t 45) (some 9)),Ob 47 (.mov (.t 0)),Ob 48 (.mov (.t 9)),Ob 49 (.idx (.t 47) (.t 48) 9),Ob 50 (.load (.t 49) (some 9)),Ob 51 (.idx (.t 37) (.t 38) 9),On (.store (.t 51) (.t 46) 9),Ob 52 (.idx (.t 39) (.t 41) 9),On (.store (.t 52) (.t 50) 9)]))
 (.region [Ob 35 (.mov (.t 9)),Ob 36 (.bin .sub (.t 35) (Ci 1)),Ob 9 (.mov (.t 36))])))))))
 (.region [Ob 15 (.mov (.t 8)),Ob 16 (.bin .add (.t 15) (Ci 1)),Ob 8 (.mov (.t 16))])))))
def r126 : List Res := []
def a126 : AFn := ⟨4, c126, r126,.r⟩

def c127 : ACode := .seq (.region [Ob 13 (.mov (.t 1)),Ob 8 (.mov (.t 13))])
 (.seq (.region [Ob 9 (.mov (Ci 0))])
 (.seq (.region [Ob 14 (.mov (.t 2)),Ob 15 (.mov (.t 1)),Ob 16 (.bin .sub (.t 14) (.t 15)),Ob 10 (.mov (.t 16))])
 (.seq (.seq (.region [Ob 17 (.mov (.t 10)),Ob 18 (.bin .sub (.t 17) (Ci 1)),Ob 19 (.bin .quo (.t 18) (Ci 2)),Ob 11 (.mov (.t 19))])
 (.block 0 (.loop (.seq (.seq (.region [Ob 20 (.mov (.t 11)),Ob 21 (.bin .geq (.t 20) (Ci 0))])
 (.cond (.t 21) (.skip)
 (.exit 0)))
 (.seq (.block 1 (.region [Ob 24 (.mov (.t 0)),Ob 25 (.mov (.t 11)),Ob 26 (.mov (.t 10)),Ob 27 (.mov (.t 8)),Ob 28 (.mov (.t 3)),Ob 29 (.call 143 [(.t 24), (.t 25), (.t 26), (.t 27), (.t 28)])]))
 (.region [Ob 22 (.mov (.t 11)),Ob 23 (.bin .sub (.t 22) (Ci 1)),Ob 11 (.mov (.t 23))]))))))
 (.seq (.region [Ob 30 (.mov (.t 10)),Ob 31 (.bin .sub (.t 30) (Ci 1)),Ob 12 (.mov (.t 31))])
 (.block 2 (.loop (.seq (.seq (.region [Ob 32 (.mov (.t 12)),Ob 33 (.bin .geq (.t 32) (Ci 0))])
 (.cond (.t 33) (.skip)
 (.exit 2)))
 (.seq (.block 3 (.seq (.region [Ob 36 (.mov (.t 0)),Ob 37 (.mov (.t 8)),Ob 38 (.mov (.t 0)),Ob 39 (.mov (.t 8)),Ob 40 (.mov (.t 12)),Ob 41 (.bin .add (.t 39) (.t 40)),Ob 42 (.mov (.t 0)),Ob 43 (.mov (.t 8)),Ob 44 (.mov (.t 12)),Ob 45 (.bin .add (.t 43) (.t 44)),Ob 46 (.idx (.t 42) (.t 45) 9),Ob 47 (.load (.t 46) (some 9)),Ob 48 (.mov (.t 0)),Ob 49 (.mov (.t 8)),Ob 50 (.idx (.t 48) (.t 49) 9),Ob 51 (.load (.t 50) (some 9)),Ob 52 (.idx (.t 36) (.t 37) 9),On (.store (.t 52) (.t 47) 9),Ob 53 (.idx (.t 38) (.t 41) 9),On (.store (.t 53) (.t 51) 9)])
 (.region [Ob 54 (.mov (.t 0)),Ob 55 (.mov (.t 9)),Ob 56 (.mov (.t 12)),Ob 57 (.mov (.t 8)),Ob 58 (.mov (.t 3)),Ob 59 (.call 143 [(.t 54), (.t 55), (.t 56), (.t 57), (.t 58)])])))
 (.region [Ob 34 (.mov (.t 12)),Ob 35 (.bin .sub (.t 34) (Ci 1)),Ob 12 (.mov (.t 35))])))))))))
def r127 : List Res := []
def a127 : AFn := ⟨4, c127, r127,.r⟩

def c128 : ACode := .seq (.region [Ob 13 (.mov (.t 2)),Ob 14 (.mov (.t 1)),Ob 15 (.bin .sub (.t 13) (.t 14)),Ob 8 (.mov (.t 15))])
 (.seq (.region [Ob 16 (.mov (.t 8)),Ob 17 (.bin .geq (.t 16) (Ci 8))])
 (.cond (.t 17) (.seq (.region [Ob 18 (.mov (.t 8)),Ob 19 (.conv .u64 (.t 18)),Ob 9 (.new (.int .u64 0) 1),On (.store (.t 9) (.t 19) 1)])
 (.seq (.region [Ob 20 (.mov (.t 8)),Ob 21 (.call 139 [(.t 20)]),Ob 10 (.mov (.t 21))])
 (.seq (.region [Ob 22 (.mov (.t 1)),Ob 23 (.mov (.t 8)),Ob 24 (.bin .quo (.t 23) (Ci 4)),Ob 25 (.bin .mul (.t 24) (Ci 2)),Ob 26 (.bin .add (.t 22) (.t 25)),Ob 27 (.bin .sub (.t 26) (Ci 1)),Ob 11 (.mov (.t 27))])
 (.block 0 (.loop (.seq (.seq (.region [Ob 28 (.mov (.t 11)),Ob 29 (.mov (.t 1)),Ob 30 (.mov (.t 8)),Ob 31 (.bin .quo (.t 30) (Ci 4)),Ob 32 (.bin .mul (.t 31) (Ci 2)),Ob 33 (.bin .add (.t 29) (.t 32)),Ob 34 (.bin .add (.t 33) (Ci 1)),Ob 35 (.bin .leq (.t 28) (.t 34))])
 (.cond (.t 35) (.skip)
 (.exit 0)))
 (.seq (.block 1 (.seq (.region [Ob 38 (.call 140 [(.t 9)]),Ob 39 (.mov (.t 10)),Ob 40 (.bin .sub (.t 39) (.c (.int .u64 1))),Ob 41 (.bin .and (.t 38) (.t 40)),Ob 42 (.conv .i64 (.t 41)),Ob 12 (.mov (.t 42))])
 (.seq (.seq (.region [Ob 43 (.mov (.t 12)),Ob 44 (.mov (.t 8)),Ob 45 (.bin .geq (.t 43) (.t 44))])
 (.cond (.t 45) (.region [Ob 46 (.mov (.t 12)),Ob 47 (.mov (.t 8)),Ob 48 (.bin .sub (.t 46) (.t 47)),Ob 12 (.mov (.t 48))])
 (.skip)))
 (.region [Ob 49 (.mov (.t 0)),Ob 50 (.mov (.t 11)),Ob 51 (.mov (.t 0)),Ob 52 (.mov (.t 1)),Ob 53 (.mov (.t 12)),Ob 54 (.bin .add (.t 52) (.t 53)),Ob 55 (.mov (.t 0)),Ob 56 (.mov (.t 1)),Ob 57 (.mov (.t 12)),Ob 58 (.bin .add (.t 56) (.t 57)),Ob 59 (.idx (.t 55) (.t 58) 9),Ob 60 (.load (.t 59) (some 9)),Ob 61 (.mov (.t 0)),Ob 62 (.mov (.t 11)),Ob 63 (.idx (.t 61) (.t 62) 9),Ob 64 (.load (.t 63) (some 9)),Ob 65 (.idx (.t 49) (.t 50) 9),On (.store (.t 65) (.t 60) 9),Ob 66 (.idx (.t 51) (.t 54) 9),On (.store (.t 66) (.t 64) 9)]))))
 (.region [Ob 36 (.mov (.t 11)),Ob 37 (.bin .add (.t 36) (Ci 1)),Ob 11 (.mov (.t 37))]))))))))
 (.skip)))
def r128 : List Res := []
def a128 : AFn := ⟨4, c128, r128,.r⟩

def c129 : ACode := .seq (.region [Ob 8 (.mov (Ci 0)),Ob 9 (.mov (Ci 0))])
 (.seq (.region [Ob 15 (.mov (.t 2)),Ob 16 (.mov (.t 1)),Ob 17 (.bin .sub (.t 15) (.t 16)),Ob 10 (.mov (.t 17))])
 (.seq (.region [Ob 11 (.new (.int .i64 0) 1)])
 (.seq (.region [Ob 18 (.mov (.t 1)),Ob 19 (.mov (.t 10)),Ob 20 (.bin .quo (.t 19) (Ci 4)),Ob 21 (.bin .mul (.t 20) (Ci 1)),Ob 22 (.bin .add (.t 18) (.t 21)),Ob 12 (.mov (.t 22))])
 (.seq (.region [Ob 23 (.mov (.t 1)),Ob 24 (.mov (.t 10)),Ob 25 (.bin .quo (.t 24) (Ci 4)),Ob 26 (.bin .mul (.t 25) (Ci 2)),Ob 27 (.bin .add (.t 23) (.t 26)),Ob 13 (.mov (.t 27))])
 (.seq (.region [Ob 28 (.mov (.t 1)),Ob 29 (.mov (.t 10)),Ob 30 (.bin .quo (.t 29) (Ci 4)),Ob 31 (.bin .mul (.t 30) (Ci 3)),Ob 32 (.bin .add (.t 28) (.t 31)),Ob 14 (.mov (.t 32))])
 (.seq (.seq (.region [Ob 33 (.mov (.t 10)),Ob 34 (.bin .geq (.t 33) (Ci 8))])
 (.cond (.t 34) (.seq (.seq (.region [Ob 35 (.mov (.t 10)),Ob 36 (.bin .geq (.t 35) (Ci 50))])
 (.cond (.t 36) (.seq (.region [Ob 37 (.mov (.t 0)),Ob 38 (.mov (.t 12)),Ob 39 (.mov (.t 3)),Ob 40 (.call 144 [(.t 37), (.t 38), (.t 11), (.t 39)]),Ob 12 (.mov (.t 40))])
 (.seq (.region [Ob 41 (.mov (.t 0)),Ob 42 (.mov (.t 13)),Ob 43 (.mov (.t 3)),Ob 44 (.call 144 [(.t 41), (.t 42), (.t 11), (.t 43)]),Ob 13 (.mov (.t 44))])
 (.region [Ob 45 (.mov (.t 0)),Ob 46 (.mov (.t 14)),Ob 47 (.mov (.t 3)),Ob 48 (.call 144 [(.t 45), (.t 46), (.t 11), (.t 47)]),Ob 14 (.mov (.t 48))])))
 (.skip)))
 (.region [Ob 49 (.mov (.t 0)),Ob 50 (.mov (.t 12)),Ob 51 (.mov (.t 13)),Ob 52 (.mov (.t 14)),Ob 53 (.mov (.t 3)),Ob 54 (.call 145 [(.t 49), (.t 50), (.t 51), (.t 52), (.t 11), (.t 53)]),Ob 13 (.mov (.t 54))]))
 (.skip)))
 (.seq (.region [Ob 55 (.load (.t 11) none)])
 (.block 0 (.seq (.region [Ob 58 (.bin .eql (.t 55) (Ci 0)),Ob 57 (.mov (.t 58))])
 (.cond (.t 57) (.seq (.region [Ob 59 (.mov (.t 13)),Ob 8 (.mov (.t 59)),Ob 9 (.mov (Ci 1))])
 (.ret))
 (.seq (.region [Ob 61 (.bin .eql (.t 55) (Ci 12)),Ob 60 (.mov (.t 61))])
 (.cond (.t 60) (.seq (.region [Ob 62 (.mov (.t 13)),Ob 8 (.mov (.t 62)),Ob 9 (.mov (Ci 2))])
 (.ret))
 (.seq (.region [Ob 56 (.mov (.t 13)),Ob 8 (.mov (.t 56)),Ob 9 (.mov (Ci 0))])
 (.ret))))))))))))))
def r129 : List Res := [.t 8,.t 9]
def a129 : AFn := ⟨4, c129, r129,.r⟩

def c130 : ACode := .seq (.region [Ob 10 (.mov (.t 1)),Ob 8 (.mov (.t 10))])
 (.seq (.region [Ob 11 (.mov (.t 2)),Ob 12 (.bin .sub (.t 11) (Ci 1)),Ob 9 (.mov (.t 12))])
 (.block 0 (.loop (.seq (.seq (.region [Ob 13 (.mov (.t 8)),Ob 14 (.mov (.t 9)),Ob 15 (.bin .lss (.t 13) (.t 14))])
 (.cond (.t 15) (.skip)
 (.exit 0)))
 (.block 1 (.seq (.region [Ob 16 (.mov (.t 0)),Ob 17 (.mov (.t 8)),Ob 18 (.mov (.t 0)),Ob 19 (.mov (.t 9)),Ob 20 (.mov (.t 0)),Ob 21 (.mov (.t 9)),Ob 22 (.idx (.t 20) (.t 21) 9),Ob 23 (.load (.t 22) (some 9)),Ob 24 (.mov (.t 0)),Ob 25 (.mov (.t 8)),Ob 26 (.idx (.t 24) (.t 25) 9),Ob 27 (.load (.t 26) (some 9)),Ob 28 (.idx (.t 16) (.t 17) 9),On (.store (.t 28) (.t 23) 9),Ob 29 (.idx (.t 18) (.t 19) 9),On (.store (.t 29) (.t 27) 9)])
 (.seq (.region [Ob 30 (.mov (.t 8)),Ob 31 (.bin .add (.t 30) (Ci 1)),Ob 8 (.mov (.t 31))])
 (.region [Ob 32 (.mov (.t 9)),Ob 33 (.bin .sub (.t 32) (Ci 1)),Ob 9 (.mov (.t 33))]))))))))
def r130 : List Res := []
def a130 : AFn := ⟨4, c130, r130,.r⟩

def c131 : ACode := .seq (.region [Ob 8 (.mov (.c (.bool false)))])
 (.seq (.region [Ob 13 (.mov (.t 1)),Ob 14 (.bin .add (.t 13) (Ci 1)),Ob 9 (.mov (.t 14))])
 (.seq (.seq (.region [Ob 10 (.mov (Ci 0))])
 (.block 0 (.loop (.seq (.seq (.region [Ob 15 (.mov (.t 10)),Ob 16 (.bin .lss (.t 15) (Ci 5))])
 (.cond (.t 16) (.skip)
 (.exit 0)))
 (.seq (.block 1 (.seq (.block 2 (.loop (.seq (.seq (.region [Ob 19 (.mov (.t 9)),Ob 20 (.mov (.t 2)),Ob 21 (.bin .lss (.t 19) (.t 20)),Ob 22 (.mov (.t 21)),Og 23 22 true (.mov (.t 3)),Og 24 22 true (.mov (.t 0)),Og 25 22 true (.mov (.t 9)),Og 26 22 true (.idx (.t 24) (.t 25) 9),Og 27 22 true (.load (.t 26) (some 9)),Og 28 22 true (.mov (.t 0)),Og 29 22 true (.mov (.t 9)),Og 30 22 true (.bin .sub (.t 29) (Ci 1)),Og 31 22 true (.idx (.t 28) (.t 30) 9),Og 32 22 true (.load (.t 31) (some 9)),Og 33 22 true (.callv (.t 23) [(.t 27), (.t 32)]),Og 34 22 true (.bin .lss (.t 33) (Ci 0)),Og 35 22 true (.not (.t 34)),Ob 36 (.pick (.t 22) (.t 35) (.c (.bool false)))])
 (.cond (.t 36) (.skip)
 (.exit 2)))
 (.block 3 (.region [Ob 37 (.mov (.t 9)),Ob 38 (.bin .add (.t 37) (Ci 1)),Ob 9 (.mov (.t 38))])))))
 (.seq (.seq (.region [Ob 39 (.mov (.t 9)),Ob 40 (.mov (.t 2)),Ob 41 (.bin .eql (.t 39) (.t 40))])
 (.cond (.t 41) (.seq (.region [Ob 8 (.mov (.c (.bool true)))])
 (.ret))
 (.skip)))
 (.seq (.seq (.region [Ob 42 (.mov (.t 2)),Ob 43 (.mov (.t 1)),Ob 44 (.bin .sub (.t 42) (.t 43)),Ob 45 (.bin .lss (.t 44) (Ci 50))])
 (.cond (.t 45) (.seq (.region [Ob 8 (.mov (.c (.bool false)))])
 (.ret))
 (.skip)))
 (.seq (.region [Ob 46 (.mov (.t 0)),Ob 47 (.mov (.t 9)),Ob 48 (.mov (.t 0)),Ob 49 (.mov (.t 9)),Ob 50 (.bin .sub (.t 49) (Ci 1)),Ob 51 (.mov (.t 0)),Ob 52 (.mov (.t 9)),Ob 53 (.bin .sub (.t 52) (Ci 1)),Ob 54 (.idx (.t 51) (.t 53) 9),Ob 55 (.load (.t 54) (some 9)),Ob 56 (.mov (.t 0)),Ob 57 (.mov (.t 9)),Ob 58 (.idx (.t 56) (.t 57) 9),Ob 59 (.load (.t 58) (some 9)),Ob 60 (.idx (.t 46) (.t 47) 9),On (.store (.t 60) (.t 55) 9),Ob 61 (.idx (.t 48) (.t 50) 9),On (.store (.t 61) (.t 59) 9)])
 (.seq (.seq (.region [Ob 62 (.mov (.t 9)),Ob 63 (.mov (.t 1)),Ob 64 (.bin .sub (.t 62) (.t 63)),Ob 65 (.bin .geq (.t 64) (Ci 2))])
 (.cond (.t 65) (.seq (.region [Ob 66 (.mov (.t 9)),Ob 67 (.bin .sub (.t 66) (Ci 1)),Ob 11 (.mov (.t 67))])
 (.block 4 (.loop (.seq (.seq (.region [Ob 68 (.mov (.t 11)),Ob 69 (.bin .geq (.t 68) (Ci 1))])
 (.cond (.t 69) (.skip)
 (.exit 4)))
 (.seq (.block 5 (.seq (.seq (.region [Ob 72 (.mov (.t 3)),Ob 73 (.mov (.t 0)),Ob 74 (.mov (.t 11)),Ob 75 (.idx (.t 73) (.t 74) 9),Ob 76 (.load (.t 75) (some 9)),Ob 77 (.mov (.t 0)),Ob 78 (.mov (.t 11)),Ob 79 (.bin .sub (.t 78) (Ci 1)),Ob 80 (.idx (.t 77) (.t 79) 9),Ob 81 (.load (.t 80) (some 9)),Ob 82 (.callv (.t 72) [(.t 76), (.t 81)]),Ob 83 (.bin .lss (.t 82) (Ci 0)),Ob 84 (.not (.t 83))])
 (.cond (.t 84) (.exit 4)
 (.skip)))
 (.region [Ob 85 (.mov (.t 0)),Ob 86 (.mov (.t 11)),Ob 87 (.mov (.t 0)),Ob 88 (.mov (.t 11)),Ob 89 (.bin .sub (.t 88) (Ci 1)),Ob 90 (.mov (.t 0)),Ob 91 (.mov (.t 11)),Ob 92 (.bin .sub (.t 91) (Ci 1)),Ob 93 (.idx (.t 90) (.t 92) 9),Ob 94 (.load (.t 93) (some 9)),Ob 95 (.mov (.t 0)),Ob 96 (.mov (.t 11)),Ob 97 (.idx (.t 95) (.t 96) 9),Ob 98 (.load (.t 97) (some 9)),Ob 99 (.idx (.t 85) (.t 86) 9),On (.store (.t 99) (.t 94) 9),Ob 100 (.idx (.t 87) (.t 89) 9),On (.store (.t 100) (.t 98) 9)])))
 (.region [Ob 70 (.mov (.t 11)),Ob 71 (.bin .sub (.t 70) (Ci 1)),Ob 11 (.mov (.t 71))]))))))
 (.skip)))
 (.seq (.region [Ob 101 (.mov (.t 2)),Ob 102 (.mov (.t 9)),Ob 103 (.bin .sub (.t 101) (.t 102)),Ob 104 (.bin .geq (.t 103) (Ci 2))])
 (.cond (.t 104) (.seq (.region [Ob 105 (.mov (.t 9)),Ob 106 (.bin .add (.t 105) (Ci 1)),Ob 12 (.mov (.t 106))])
 (.block 6 (.loop (.seq (.seq (.region [Ob 107 (.mov (.t 12)),Ob 108 (.mov (.t 2)),Ob 109 (.bin .lss (.t 107) (.t 108))])
 (.cond (.t 109) (.skip)
 (.exit 6)))
 (.seq (.block 7 (.seq (.seq (.region [Ob 112 (.mov (.t 3)),Ob 113 (.mov (.t 0)),Ob 114 (.mov (.t 12)),Ob 115 (.idx (.t 113) (.t 114) 9),Ob 116 (.load (.t 115) (some 9)),Ob 117 (.mov (.t 0)),Ob 118 (.mov (.t 12)),Ob 119 (.bin .sub (.t 118) (Ci 1)),Ob 120 (.idx (.t 117) (.t 119) 9),Ob 121 (.load (.t 120) (some 9)),Ob 122 (.callv (.t 112) [(.t 116), (.t 121)]),Ob 123 (.bin .lss (.t 122) (Ci 0)),Ob 124 (.not (.t 123))])
 (.cond (.t 124) (.exit 6)
 (.skip)))
 (.region [Ob 125 (.mov (.t 0)),Ob 126 (.mov (.t 12)),Ob 127 (.mov (.t 0)),Ob 128 (.mov (.t 12)),Ob 129 (.bin .sub (.t 128) (Ci 1)),Ob 130 (.mov (.t 0)),Ob 131 (.mov (.t 12)),Ob 132 (.bin .sub (.t 131) (Ci 1)),Ob 133 (.idx (.t 130) (.t 132) 9),Ob 134 (.load (.t 133) (some 9)),Ob 135 (.mov (.t 0)),Ob 136 (.mov (.t 12)),Ob 137 (.idx (.t 135) (.t 136) 9),Ob 138 (.load (.t 137) (some 9)),Ob 139 (.idx (.t 125) (.t 126) 9),On (.store (.t 139) (.t 134) 9),Ob 140 (.idx (.t 127) (.t 129) 9),On (.store (.t 140) (.t 138) 9)])))
 (.region [Ob 110 (.mov (.t 12)),Ob 111 (.bin .add (.t 110) (Ci 1)),Ob 12 (.mov (.t 111))]))))))
 (.skip)))))))))
 (.region [Ob 17 (.mov (.t 10)),Ob 18 (.bin .add (.t 17) (Ci 1)),Ob 10 (.mov (.t 18))]))))))
 (.seq (.region [Ob 8 (.mov (.c (.bool false)))])
 (.ret))))
def r131 : List Res := [.t 8]
def a131 : AFn := ⟨4, c131, r131,.r⟩

def c132 : ACode := .seq (.region [Ob 10 (.mov (Ci 0))])
 (.seq (.region [Ob 13 (.mov (.t 0)),Ob 14 (.mov (.t 1)),Ob 15 (.mov (.t 0)),Ob 16 (.mov (.t 3)),Ob 17 (.mov (.t 0)),Ob 18 (.mov (.t 3)),Ob 19 (.idx (.t 17) (.t 18) 9),Ob 20 (.load (.t 19) (some 9)),Ob 21 (.mov (.t 0)),Ob 22 (.mov (.t 1)),Ob 23 (.idx (.t 21) (.t 22) 9),Ob 24 (.load (.t 23) (some 9)),Ob 25 (.idx (.t 13) (.t 14) 9),On (.store (.t 25) (.t 20) 9),Ob 26 (.idx (.t 15) (.t 16) 9),On (.store (.t 26) (.t 24) 9)])
 (.seq (.region [Ob 27 (.mov (.t 1)),Ob 28 (.bin .add (.t 27) (Ci 1)),Ob 29 (.mov (.t 2)),Ob 30 (.bin .sub (.t 29) (Ci 1)),Ob 11 (.mov (.t 28)),Ob 12 (.mov (.t 30))])
 (.seq (.block 0 (.loop (.block 1 (.seq (.block 2 (.loop (.seq (.seq (.region [Ob 31 (.mov (.t 11)),Ob 32 (.mov (.t 12)),Ob 33 (.bin .leq (.t 31) (.t 32)),Ob 34 (.mov (.t 33)),Og 35 34 true (.mov (.t 4)),Og 36 34 true (.mov (.t 0)),Og 37 34 true (.mov (.t 1)),Og 38 34 true (.idx (.t 36) (.t 37) 9),Og 39 34 true (.load (.t 38) (some 9)),Og 40 34 true (.mov (.t 0)),Og 41 34 true (.mov (.t 11)),Og 42 34 true (.idx (.t 40) (.t 41) 9),Og 43 34 true (.load (.t 42) (some 9)),Og 44 34 true (.callv (.t 35) [(.t 39), (.t 43)]),Og 45 34 true (.bin .lss (.t 44) (Ci 0)),Og 46 34 true (.not (.t 45)),Ob 47 (.pick (.t 34) (.t 46) (.c (.bool false)))])
 (.cond (.t 47) (.skip)
 (.exit 2)))
 (.block 3 (.region [Ob 48 (.mov (.t 11)),Ob 49 (.bin .add (.t 48) (Ci 1)),Ob 11 (.mov (.t 49))])))))
 (.seq (.block 4 (.loop (.seq (.seq (.region [Ob 50 (.mov (.t 11)),Ob 51 (.mov (.t 12)),Ob 52 (.bin .leq (.t 50) (.t 51)),Ob 53 (.mov (.t 52)),Og 54 53 true (.mov (.t 4)),Og 55 53 true (.mov (.t 0)),Og 56 53 true (.mov (.t 1)),Og 57 53 true (.idx (.t 55) (.t 56) 9),Og 58 53 true (.load (.t 57) (some 9)),Og 59 53 true (.mov (.t 0)),Og 60 53 true (.mov (.t 12)),Og 61 53 true (.idx (.t 59) (.t 60) 9),Og 62 53 true (.load (.t 61) (some 9)),Og 63 53 true (.callv (.t 54) [(.t 58), (.t 62)]),Og 64 53 true (.bin .lss (.t 63) (Ci 0)),Ob 65 (.pick (.t 53) (.t 64) (.c (.bool false)))])
 (.cond (.t 65) (.skip)
 (.exit 4)))
 (.block 5 (.region [Ob 66 (.mov (.t 12)),Ob 67 (.bin .sub (.t 66) (Ci 1)),Ob 12 (.mov (.t 67))])))))
 (.seq (.seq (.region [Ob 68 (.mov (.t 11)),Ob 69 (.mov (.t 12)),Ob 70 (.bin .gtr (.t 68) (.t 69))])
 (.cond (.t 70) (.exit 0)
 (.skip)))
 (.seq (.region [Ob 71 (.mov (.t 0)),Ob 72 (.mov (.t 11)),Ob 73 (.mov (.t 0)),Ob 74 (.mov (.t 12)),Ob 75 (.mov (.t 0)),Ob 76 (.mov (.t 12)),Ob 77 (.idx (.t 75) (.t 76) 9),Ob 78 (.load (.t 77) (some 9)),Ob 79 (.mov (.t 0)),Ob 80 (.mov (.t 11)),Ob 81 (.idx (.t 79) (.t 80) 9),Ob 82 (.load (.t 81) (some 9)),Ob 83 (.idx (.t 71) (.t 72) 9),On (.store (.t 83) (.t 78) 9),Ob 84 (.idx (.t 73) (.t 74) 9),On (.store (.t 84) (.t 82) 9)])
 (.seq (.region [Ob 85 (.mov (.t 11)),Ob 86 (.bin .add (.t 85) (Ci 1)),Ob 11 (.mov (.t 86))])
 (.region [Ob 87 (.mov (.t 12)),Ob 88 (.bin .sub (.t 87) (Ci 1)),Ob 12 (.mov (.t 88))])))))))))
 (.seq (.region [Ob 89 (.mov (.t 11)),Ob 10 (.mov (.t 89))])
 (.ret)))))
def r132 : List Res := [.t 10]
def a132 : AFn := ⟨5, c132, r132,.r⟩

def c133 : ACode := .seq (.region [Ob 10 (.mov (Ci 0)),Ob 11 (.mov (.c (.bool false)))])
 (.seq (.region [Ob 14 (.mov (.t 0)),Ob 15 (.mov (.t 1)),Ob 16 (.mov (.t 0)),Ob 17 (.mov (.t 3)),Ob 18 (.mov (.t 0)),Ob 19 (.mov (.t 3)),Ob 20 (.idx (.t 18) (.t 19) 9),Ob 21 (.load (.t 20) (some 9)),Ob 22 (.mov (.t 0)),Ob 23 (.mov (.t 1)),Ob 24 (.idx (.t 22) (.t 23) 9),Ob 25 (.load (.t 24) (some 9)),Ob 26 (.idx (.t 14) (.t 15) 9),On (.store (.t 26) (.t 21) 9),Ob 27 (.idx (.t 16) (.t 17) 9),On (.store (.t 27) (.t 25) 9)])
 (.seq (.region [Ob 28 (.mov (.t 1)),Ob 29 (.bin .add (.t 28) (Ci 1)),Ob 30 (.mov (.t 2)),Ob 31 (.bin .sub (.t 30) (Ci 1)),Ob 12 (.mov (.t 29)),Ob 13 (.mov (.t 31))])
 (.seq (.block 0 (.loop (.seq (.seq (.region [Ob 32 (.mov (.t 12)),Ob 33 (.mov (.t 13)),Ob 34 (.bin .leq (.t 32) (.t 33)),Ob 35 (.mov (.t 34)),Og 36 35 true (.mov (.t 4)),Og 37 35 true (.mov (.t 0)),Og 38 35 true (.mov (.t 12)),Og 39 35 true (.idx (.t 37) (.t 38) 9),Og 40 35 true (.load (.t 39) (some 9)),Og 41 35 true (.mov (.t 0)),Og 42 35 true (.mov (.t 1)),Og 43 35 true (.idx (.t 41) (.t 42) 9),Og 44 35 true (.load (.t 43) (some 9)),Og 45 35 true (.callv (.t 36) [(.t 40), (.t 44)]),Og 46 35 true (.bin .lss (.t 45) (Ci 0)),Ob 47 (.pick (.t 35) (.t 46) (.c (.bool false)))])
 (.cond (.t 47) (.skip)
 (.exit 0)))
 (.block 1 (.region [Ob 48 (.mov (.t 12)),Ob 49 (.bin .add (.t 48) (Ci 1)),Ob 12 (.mov (.t 49))])))))
 (.seq (.block 2 (.loop (.seq (.seq (.region [Ob 50 (.mov (.t 12)),Ob 51 (.mov (.t 13)),Ob 52 (.bin .leq (.t 50) (.t 51)),Ob 53 (.mov (.t 52)),Og 54 53 true (.mov (.t 4)),Og 55 53 true (.mov (.t 0)),Og 56 53 true (.mov (.t 13)),Og 57 53 true (.idx (.t 55) (.t 56) 9),Og 58 53 true (.load (.t 57) (some 9)),Og 59 53 true (.mov (.t 0)),Og 60 53 true (.mov (.t 1)),Og 61 53 true (.idx (.t 59) (.t 60) 9),Og 62 53 true (.load (.t 61) (some 9)),Og 63 53 true (.callv (.t 54) [(.t 58), (.t 62)]),Og 64 53 true (.bin .lss (.t 63) (Ci 0)),Og 65 53 true (.not (.t 64)),Ob 66 (.pick (.t 53) (.t 65) (.c (.bool false)))])
 (.cond (.t 66) (.skip)
 (.exit 2)))
 (.block 3 (.region [Ob 67 (.mov (.t 13)),Ob 68 (.bin .sub (.t 67) (Ci 1)),Ob 13 (.mov (.t 68))])))))
 (.seq (.seq (.region [Ob 69 (.mov (.t 12)),Ob 70 (.mov (.t 13)),Ob 71 (.bin .gtr (.t 69) (.t 70))])
 (.cond (.t 71) (.seq (.region [Ob 72 (.mov (.t 0)),Ob 73 (.mov (.t 13)),Ob 74 (.mov (.t 0)),Ob 75 (.mov (.t 1)),Ob 76 (.mov (.t 0)),Ob 77 (.mov (.t 1)),Ob 78 (.idx (.t 76) (.t 77) 9),Ob 79 (.load (.t 78) (some 9)),Ob 80 (.mov (.t 0)),Ob 81 (.mov (.t 13)),Ob 82 (.idx (.t 80) (.t 81) 9),Ob 83 (.load (.t 82) (some 9)),Ob 84 (.idx (.t 72) (.t 73) 9),On (.store (.t 84) (.t 79) 9),Ob 85 (.idx (.t 74) (.t 75) 9),On (.store (.t 85) (.t 83) 9)])
 (.seq (.region [Ob 86 (.mov (.t 13)),Ob 10 (.mov (.t 86)),Ob 11 (.mov (.c (.bool true)))])
 (.ret)))
 (.skip)))
 (.seq (.region [Ob 87 (.mov (.t 0)),Ob 88 (.mov (.t 12)),Ob 89 (.mov (.t 0)),Ob 90 (.mov (.t 13)),Ob 91 (.mov (.t 0)),Ob 92 (.mov (.t 13)),Ob 93 (.idx (.t 91) (.t 92) 9),Ob 94 (.load (.t 93) (some 9)),Ob 95 (.mov (.t 0)),Ob 96 (.mov (.t 12)),Ob 97 (.idx (.t 95) (.t 96) 9),Ob 98 (.load (.t 97) (some 9)),Ob 99 (.idx (.t 87) (.t 88) 9),On (.store (.t 99) (.t 94) 9),Ob 100 (.idx (.t 89) (.t 90) 9),On (.store (.t 100) (.t 98) 9)])
 (.seq (.region [Ob 101 (.mov (.t 12)),Ob 102 (.bin .add (.t 101) (Ci 1)),Ob 12 (.mov (.t 102))])
 (.seq (.region [Ob 103 (.mov (.t 13)),Ob 104 (.bin .sub (.t 103) (Ci 1)),Ob 13 (.mov (.t 104))])
 (.seq (.block 4 (.loop (.block 5 (.seq (.block 6 (.loop (.seq (.seq (.region [Ob 105 (.mov (.t 12)),Ob 106 (.mov (.t 13)),Ob 107 (.bin .leq (.t 105) (.t 106)),Ob 108 (.mov (.t 107)),Og 109 108 true (.mov (.t 4)),Og 110 108 true (.mov (.t 0)),Og 111 108 true (.mov (.t 12)),Og 112 108 true (.idx (.t 110) (.t 111) 9),Og 113 108 true (.load (.t 112) (some 9)),Og 114 108 true (.mov (.t 0)),Og 115 108 true (.mov (.t 1)),Og 116 108 true (.idx (.t 114) (.t 115) 9),Og 117 108 true (.load (.t 116) (some 9)),Og 118 108 true (.callv (.t 109) [(.t 113), (.t 117)]),Og 119 108 true (.bin .lss (.t 118) (Ci 0)),Ob 120 (.pick (.t 108) (.t 119) (.c (.bool false)))])
 (.cond (.t 120) (.skip)
 (.exit 6)))
 (.block 7 (.region [Ob 121 (.mov (.t 12)),Ob 122 (.bin .add (.t 121) (Ci 1)),Ob 12 (.mov (.t 122))])))))
 (.seq (.block 8 (.loop (.seq (.seq (.region [Ob 123 (.mov (.t 12)),Ob 124 (.mov (.t 13)),Ob 125 (.bin .leq (.t 123) (.t 124)),Ob 126 (.mov (.t 125)),Og 127 126 true (.mov (.t 4)),Og 128 126 true (.mov (.t 0)),Og 129 126 true (.mov (.t 13)),Og 130 126 true (.idx (.t 128) (.t 129) 9),Og 131 126 true (.load (.t 130) (some 9)),Og 132 126 true (.mov (.t 0)),Og 133 126 true (.mov (.t 1)),Og 134 126 true (.idx (.t 132) (.t 133) 9),Og 135 126 true (.load (.t 134) (some 9)),Og 136 126 true (.callv (.t 127) [(.t 131), (.t 135)]),Og 137 126 true (.bin .lss (.t 136) (Ci 0)),Og 138 126 true (.not (.t 137)),Ob 139 (.pick (.t 126) (.t 138) (.c (.bool false)))])
 (.cond (.t 139) (.skip)
 (.exit 8)))
 (.block 9 (.region [Ob 140 (.mov (.t 13)),Ob 141 (.bin .sub (.t 140) (Ci 1)),Ob 13 (.mov (.t 141))])))))
 (.seq (.seq (.region [Ob 142 (.mov (.t 12)),Ob 143 (.mov (.t 13)),Ob 144 (.bin .gtr (.t 142) (.t 143))])
 (.cond (.t 144) (.exit 4)
 (.skip)))
 (.seq (.region [Ob 145 (.mov (.t 0)),Ob 146 (.mov (.t 12)),Ob 147 (.mov (.t 0)),Ob 148 (.mov (.t 13)),Ob 149 (.mov (.t 0)),Ob 150 (.mov (.t 13)),Ob 151 (.idx (.t 149) (.t 150) 9),Ob 152 (.load (.t 151) (some 9)),Ob 153 (.mov (.t 0)),Ob 154 (.mov (.t 12)),Ob 155 (.idx (.t 153) (.t 154) 9),Ob 156 (.load (.t 155) (some 9)),Ob 157 (.idx (.t 145) (.t 146) 9),On (.store (.t 157) (.t 152) 9),Ob 158 (.idx (.t 147) (.t 148) 9),On (.store (.t 158) (.t 156) 9)])
 (.seq (.region [Ob 159 (.mov (.t 12)),Ob 160 (.bin .add (.t 159) (Ci 1)),Ob 12 (.mov (.t 160))])
 (.region [Ob 161 (.mov (.t 13)),Ob 162 (.bin .sub (.t 161) (Ci 1)),Ob 13 (.mov (.t 162))])))))))))
 (.seq (.region [Ob 163 (.mov (.t 0)),Ob 164 (.mov (.t 13)),Ob 165 (.mov (.t 0)),Ob 166 (.mov (.t 1)),Ob 167 (.mov (.t 0)),Ob 168 (.mov (.t 1)),Ob 169 (.idx (.t 167) (.t 168) 9),Ob 170 (.load (.t 169) (some 9)),Ob 171 (.mov (.t 0)),Ob 172 (.mov (.t 13)),Ob 173 (.idx (.t 171) (.t 172) 9),Ob 174 (.load (.t 173) (some 9)),Ob 175 (.idx (.t 163) (.t 164) 9),On (.store (.t 175) (.t 170) 9),Ob 176 (.idx (.t 165) (.t 166) 9),On (.store (.t 176) (.t 174) 9)])
 (.seq (.region [Ob 177 (.mov (.t 13)),Ob 10 (.mov (.t 177)),Ob 11 (.mov (.c (.bool false)))])
 (.ret))))))))))))
def r133 : List Res := [.t 10,.t 11]
def a133 : AFn := ⟨5, c133, r133,.r⟩

def c134 : ACode := .seq (.region [Ob 4 (.mov (.c (.bool false)))])
 (.seq (.region [Ob 5 (.mov (.t 0)),Ob 6 (.mov (.t 1)),Ob 7 (.call 146 [(.t 5), (.t 6)]),Ob 8 (.bin .geq (.t 7) (Ci 0)),Ob 4 (.mov (.t 8))])
 (.ret))
def r134 : List Res := [.t 4]
def a134 : AFn := ⟨2, c134, r134,.v⟩

def c135 : ACode := .seq (.region [Ob 3 (.mov (.c (.bool false)))])
 (.seq (.region [Ob 4 (.load (.t 1) none),Ob 5 (.mov (.t 0)),Ob 6 (.callv (.t 4) [(.t 5)]),Ob 7 (.not (.t 6)),Ob 3 (.mov (.t 7))])
 (.ret))
def r135 : List Res := [.t 3]
def a135 : AFn := ⟨2, c135, r135,.v⟩

def c136 : ACode := .seq (.region [Ob 4 (.mov (.c (.bool false)))])
 (.seq (.region [Ob 5 (.mov (.t 0)),Ob 6 (.mov (.t 1)),Ob 7 (.call 147 [(.t 5), (.t 6)]),Ob 8 (.bin .geq (.t 7) (Ci 0)),Ob 4 (.mov (.t 8))])
 (.ret))
def r136 : List Res := [.t 4]
def a136 : AFn := ⟨2, c136, r136,.v⟩

def c137 : ACode := .seq (.region [Ob 2 (.box (.t 0) 2),Ob 3 (.mov (.c (.bool false)))])
 (.seq (.region [Ob 4 (.load (.t 1) none),Ob 5 (.load (.t 2) (some 2)),Ob 6 (.callv (.t 4) [(.t 5)]),Ob 7 (.not (.t 6)),Ob 3 (.mov (.t 7))])
 (.ret))
def r137 : List Res := [.t 3]
def a137 : AFn := ⟨2, c137, r137,.v⟩

def c138 : ACode := .seq (.region [Ob 12 (.mov (.t 1)),Ob 10 (.mov (.t 12))])
 (.block 0 (.loop (.block 1 (.seq (.region [Ob 13 (.mov (.t 10)),Ob 14 (.bin .mul (Ci 2) (.t 13)),Ob 15 (.bin .add (.t 14) (Ci 1)),Ob 11 (.mov (.t 15))])
 (.seq (.seq (.region [Ob 16 (.mov (.t 11)),Ob 17 (.mov (.t 2)),Ob 18 (.bin .geq (.t 16) (.t 17))])
 (.cond (.t 18) (.exit 0)
 (.skip)))
 (.seq (.seq (.region [Ob 19 (.mov (.t 11)),Ob 20 (.bin .add (.t 19) (Ci 1)),Ob 21 (.mov (.t 2)),Ob 22 (.bin .lss (.t 20) (.t 21)),Ob 23 (.mov (.t 22)),Og 24 23 true (.mov (.t 4)),Og 25 23 true (.mov (.t 0)),Og 26 23 true (.mov (.t 3)),Og 27 23 true (.mov (.t 11)),Og 28 23 true (.bin .add (.t 26) (.t 27)),Og 29 23 true (.idx (.t 25) (.t 28) 6),Og 30 23 true (.load (.t 29) (some 6)),Og 31 23 true (.mov (.t 0)),Og 32 23 true (.mov (.t 3)),Og 33 23 true (.mov (.t 11)),Og 34 23 true (.bin .add (.t 32) (.t 33)),Og 35 23 true (.bin .add (.t 34) (Ci 1)),Og 36 23 true (.idx (.t 31) (.t 35) 6),Og 37 23 true (.load (.t 36) (some 6)),Og 38 23 true (.callv (.t 24) [(.t 30), (.t 37)]),Og 39 23 true (.bin .lss (.t 38) (Ci 0)),Ob 40 (.pick (.t 23) (.t 39) (.c (.bool false)))])
 (.cond (.t 40) (.region [Ob 41 (.mov (.t 11)),Ob 42 (.bin .add (.t 41) (Ci 1)),Ob 11 (.mov (.t 42))])
 (.skip)))
 (.seq (.seq (.region [Ob 43 (.mov (.t 4)),Ob 44 (.mov (.t 0)),Ob 45 (.mov (.t 3)),Ob 46 (.mov (.t 10)),Ob 47 (.bin .add (.t 45) (.t 46)),Ob 48 (.idx (.t 44) (.t 47) 6),Ob 49 (.load (.t 48) (some 6)),Ob 50 (.mov (.t 0)),Ob 51 (.mov (.t 3)),Ob 52 (.mov (.t 11)),Ob 53 (.bin .add (.t 51) (.t 52)),Ob 54 (.idx (.t 50) (.t 53) 6),Ob 55 (.load (.t 54) (some 6)),Ob 56 (.callv (.t 43) [(.t 49), (.t 55)]),Ob 57 (.bin .lss (.t 56) (Ci 0)),Ob 58 (.not (.t 57))])
 (.cond (.t 58) (.ret)
 (.skip)))
 (.seq (.region [Ob 59 (.mov (.t 0)),Ob 60 (.mov (.t 3)),Ob 61 (.mov (.t 10)),Ob 62 (.bin .add (.t 60) (.t 61)),Ob 63 (.mov (.t 0)),Ob 64 (.mov (.t 3)),Ob 65 (.mov (.t 11)),Ob 66 (.bin .add (.t 64) (.t 65)),Ob 67 (.mov (.t 0)),Ob 68 (.mov (.t 3)),Ob 69 (.mov (.t 11)),Ob 70 (.bin .add (.t 68) (.t 69)),Ob 71 (.idx (.t 67) (.t 70) 6),Ob 72 (.load (.t 71) (some 6)),Ob 73 (.mov (.t 0)),Ob 74 (.mov (.t 3)),Ob 75 (.mov (.t 10)),Ob 76 (.bin .add (.t 74) (.t 75)),Ob 77 (.idx (.t 73) (.t 76) 6),Ob 78 (.load (.t 77) (some 6)),Ob 79 (.idx (.t 59) (.t 62) 6),On (.store (.t 79) (.t 72) 6),Ob 80 (.idx (.t 63) (.t 66) 6),On (.store (.t 80) (.t 78) 6)])
 (.region [Ob 81 (.mov (.t 11)),Ob 10 (.mov (.t 81))])))))))))
def r138 : List Res := []
def a138 : AFn := ⟨5, c138, r138,.r⟩

def c139 : ACode := .seq (.region [Ob 2 (.mov (.c (.int .u64 0)))])
 (.seq (.region [Ob 3 (.mov (.t 0)),Ob 4 (.conv .u64 (.t 3)),Ob 5 (.call 101 [(.t 4)]),Ob 6 (.bin .shl (.c (.int .u64 1)) (.t 5)),Ob 2 (.mov (.t 6))])
 (.ret))
def r139 : List Res := [.t 2]
def a139 : AFn := ⟨1, c139, r139,.v⟩

def c140 : ACode := .seq (.region [Ob 2 (.mov (.c (.int .u64 0)))])
 (.seq (.region [Ob 3 (.mov (.t 0)),Ob 4 (.addr (.t 3) 0),Ob 5 (.load (.t 4) none),Ob 6 (.mov (.t 0)),Ob 7 (.addr (.t 6) 0),Ob 8 (.load (.t 7) none),Ob 9 (.bin .shl (.t 8) (.c (.int .u64 13))),Ob 10 (.bin .xor (.t 5) (.t 9)),Ob 11 (.addr (.t 3) 0),On (.store (.t 11) (.t 10) 1)])
 (.seq (.region [Ob 12 (.mov (.t 0)),Ob 13 (.addr (.t 12) 0),Ob 14 (.load (.t 13) none),Ob 15 (.mov (.t 0)),Ob 16 (.addr (.t 15) 0),Ob 17 (.load (.t 16) none),Ob 18 (.bin .shr (.t 17) (.c (.int .u64 7))),Ob 19 (.bin .xor (.t 14) (.t 18)),Ob 20 (.addr (.t 12) 0),On (.store (.t 20) (.t 19) 1)])
 (.seq (.region [Ob 21 (.mov (.t 0)),Ob 22 (.addr (.t 21) 0),Ob 23 (.load (.t 22) none),Ob 24 (.mov (.t 0)),Ob 25 (.addr (.t 24) 0),Ob 26 (.load (.t 25) none),Ob 27 (.bin .shl (.t 26) (.c (.int .u64 17))),Ob 28 (.bin .xor (.t 23) (.t 27)),Ob 29 (.addr (.t 21) 0),On (.store (.t 29) (.t 28) 1)])
 (.seq (.region [Ob 30 (.mov (.t 0)),Ob 31 (.addr (.t 30) 0),Ob 32 (.load (.t 31) none),Ob 2 (.mov (.t 32))])
 (.ret)))))
def r140 : List Res := [.t 2]
def a140 : AFn := ⟨1, c140, r140,.r⟩

def c141 : ACode := .seq (.region [Ob 8 (.mov (Ci 0))])
 (.seq (.region [Ob 9 (.mov (.t 0)),Ob 10 (.mov (.t 1)),Ob 11 (.bin .sub (.t 10) (Ci 1)),Ob 12 (.mov (.t 1)),Ob 13 (.mov (.t 1)),Ob 14 (.bin .add (.t 13) (Ci 1)),Ob 15 (.mov (.t 2)),Ob 16 (.mov (.t 3)),Ob 17 (.call 142 [(.t 9), (.t 11), (.t 12), (.t 14), (.t 15), (.t 16)]),Ob 8 (.mov (.t 17))])
 (.ret))
def r141 : List Res := [.t 8]
def a141 : AFn := ⟨4, c141, r141,.r⟩

def c142 : ACode := .seq (.region [Ob 12 (.mov (Ci 0))])
 (.seq (.region [Ob 14 (.mov (.t 0)),Ob 15 (.mov (.t 1)),Ob 16 (.mov (.t 2)),Ob 17 (.mov (.t 4)),Ob 18 (.mov (.t 5)),Ob 19 (.call 148 [(.t 14), (.t 15), (.t 16), (.t 17), (.t 18)]),Ob 13 (.mov (.t 19)),Ob 20 (.ext (.t 13) 0),Ob 21 (.ext (.t 13) 1),Ob 1 (.mov (.t 20)),Ob 2 (.mov (.t 21))])
 (.seq (.region [Ob 23 (.mov (.t 0)),Ob 24 (.mov (.t 2)),Ob 25 (.mov (.t 3)),Ob 26 (.mov (.t 4)),Ob 27 (.mov (.t 5)),Ob 28 (.call 148 [(.t 23), (.t 24), (.t 25), (.t 26), (.t 27)]),Ob 22 (.mov (.t 28)),Ob 29 (.ext (.t 22) 0),Ob 30 (.ext (.t 22) 1),Ob 2 (.mov (.t 29)),Ob 3 (.mov (.t 30))])
 (.seq (.region [Ob 32 (.mov (.t 0)),Ob 33 (.mov (.t 1)),Ob 34 (.mov (.t 2)),Ob 35 (.mov (.t 4)),Ob 36 (.mov (.t 5)),Ob 37 (.call 148 [(.t 32), (.t 33), (.t 34), (.t 35), (.t 36)]),Ob 31 (.mov (.t 37)),Ob 38 (.ext (.t 31) 0),Ob 39 (.ext (.t 31) 1),Ob 1 (.mov (.t 38)),Ob 2 (.mov (.t 39))])
 (.seq (.region [Ob 40 (.mov (.t 2)),Ob 12 (.mov (.t 40))])
 (.ret)))))
def r142 : List Res := [.t 12]
def a142 : AFn := ⟨6, c142, r142,.r⟩

def c143 : ACode := .seq (.region [Ob 12 (.mov (.t 1)),Ob 10 (.mov (.t 12))])
 (.block 0 (.loop (.block 1 (.seq (.region [Ob 13 (.mov (.t 10)),Ob 14 (.bin .mul (Ci 2) (.t 13)),Ob 15 (.bin .add (.t 14) (Ci 1)),Ob 11 (.mov (.t 15))])
 (.seq (.seq (.region [Ob 16 (.mov (.t 11)),Ob 17 (.mov (.t 2)),Ob 18 (.bin .geq (.t 16) (.t 17))])
 (.cond (.t 18) (.exit 0)
 (.skip)))
 (.seq (.seq (.region [Ob 19 (.mov (.t 11)),Ob 20 (.bin .add (.t 19) (Ci 1)),Ob 21 (.mov (.t 2)),Ob 22 (.bin .lss (.t 20) (.t 21)),Ob 23 (.mov (.t 22)),Og 24 23 true (.mov (.t 4)),Og 25 23 true (.mov (.t 0)),Og 26 23 true (.mov (.t 3)),Og 27 23 true (.mov (.t 11)),Og 28 23 true (.bin .add (.t 26) (.t 27)),Og 29 23 true (.idx (.t 25) (.t 28) 9),Og 30 23 true (.load (.t 29) (some 9)),Og 31 23 true (.mov (.t 0)),Og 32 23 true (.mov (.t 3)),Og 33 23 true (.mov (.t 11)),Og 34 23 true (.bin .add (.t 32) (.t 33)),Og 35 23 true (.bin .add (.t 34) (Ci 1)),Og 36 23 true (.idx (.t 31) (.t 35) 9),Og 37 23 true (.load (.t 36) (some 9)),Og 38 23 true (.callv (.t 24) [(.t 30), (.t 37)]),Og 39 23 true (.bin .lss (.t 38) (Ci 0)),Ob 40 (.pick (.t 23) (.t 39) (.c (.bool false)))])
 (.cond (.t 40) (.region [Ob 41 (.mov (.t 11)),Ob 42 (.bin .add (.t 41) (Ci 1)),Ob 11 (.mov (.t 42))])
 (.skip)))
 (.seq (.seq (.region [Ob 43 (.mov (.t 4)),Ob 44 (.mov (.t 0)),Ob 45 (.mov (.t 3)),Ob 46 (.mov (.t 10)),Ob 47 (.bin .add (.t 45) (.t 46)),Ob 48 (.idx (.t 44) (.t 47) 9),Ob 49 (.load (.t 48) (some 9)),Ob 50 (.mov (.t 0)),Ob 51 (.mov (.t 3)),Ob 52 (.mov (.t 11)),Ob 53 (.bin .add (.t 51) (.t 52)),Ob 54 (.idx (.t 50) (.t 53) 9),Ob 55 (.load (.t 54) (some 9)),Ob 56 (.callv (.t 43) [(.t 49), (.t 55)]),Ob 57 (.bin .lss (.t 56) (Ci 0)),Ob 58 (.not (.t 57))])
 (.cond (.t 58) (.ret)
 (.skip)))
 (.seq (.region [Ob 59 (.mov (.t 0)),Ob 60 (.mov (.t 3)),Ob 61 (.mov (.t 10)),Ob 62 (.bin .add (.t 60) (.t 61)),Ob 63 (.mov (.t 0)),Ob 64 (.mov (.t 3)),Ob 65 (.mov (.t 11)),Ob 66 (.bin .add (.t 64) (.t 65)),Ob 67 (.mov (.t 0)),Ob 68 (.mov (.t 3)),Ob 69 (.mov (.t 11)),Ob 70 (.bin .add (.t 68) (.t 69)),Ob 71 (.idx (.t 67) (.t 70) 9),Ob 72 (.load (.t 71) (some 9)),Ob 73 (.mov (.t 0)),Ob 74 (.mov (.t 3)),Ob 75 (.mov (.t 10)),Ob 76 (.bin .add (.t 74) (.t 75)),Ob 77 (.idx (.t 73) (.t 76) 9),Ob 78 (.load (.t 77) (some 9)),Ob 79 (.idx (.t 59) (.t 62) 9),On (.store (.t 79) (.t 72) 9),Ob 80 (.idx (.t 63) (.t 66) 9),On (.store (.t 80) (.t 78) 9)])
 (.region [Ob 81 (.mov (.t 11)),Ob 10 (.mov (.t 81))])))))))))
def r143 : List Res := []
def a143 : AFn := ⟨5, c143, r143,.r⟩

def c144 : ACode := .seq (.region [Ob 8 (.mov (Ci 0))])
 (.seq (.region [Ob 9 (.mov (.t 0)),Ob 10 (.mov (.t 1)),Ob 11 (.bin .sub (.t 10) (Ci 1)),Ob 12 (.mov (.t 1)),Ob 13 (.mov (.t 1)),Ob 14 (.bin .add (.t 13) (Ci 1)),Ob 15 (.mov (.t 2)),Ob 16 (.mov (.t 3)),Ob 17 (.call 145 [(.t 9), (.t 11), (.t 12), (.t 14), (.t 15), (.t 16)]),Ob 8 (.mov (.t 17))])
 (.ret))
def r144 : List Res := [.t 8]
def a144 : AFn := ⟨4, c144, r144,.r⟩

def c145 : ACode := .seq (.region [Ob 12 (.mov (Ci 0))])
 (.seq (.region [Ob 14 (.mov (.t 0)),Ob 15 (.mov (.t 1)),Ob 16 (.mov (.t 2)),Ob 17 (.mov (.t 4)),Ob 18 (.mov (.t 5)),Ob 19 (.call 149 [(.t 14), (.t 15), (.t 16), (.t 17), (.t 18)]),Ob 13 (.mov (.t 19)),Ob 20 (.ext (.t 13) 0),Ob 21 (.ext (.t 13) 1),Ob 1 (.mov (.t 20)),Ob 2 (.mov (.t 21))])
 (.seq (.region [Ob 23 (.mov (.t 0)),Ob 24 (.mov (.t 2)),Ob 25 (.mov (.t 3)),Ob 26 (.mov (.t 4)),Ob 27 (.mov (.t 5)),Ob 28 (.call 149 [(.t 23), (.t 24), (.t 25), (.t 26), (.t 27)]),Ob 22 (.mov (.t 28)),Ob 29 (.ext (.t 22) 0),Ob 30 (.ext (.t 22) 1),Ob 2 (.mov (.t 29)),Ob 3 (.mov (.t 30))])
 (.seq (.region [Ob 32 (.mov (.t 0)),Ob 33 (.mov (.t 1)),Ob 34 (.mov (.t 2)),Ob 35 (.mov (.t 4)),Ob 36 (.mov (.t 5)),Ob 37 (.call 149 [(.t 32), (.t 33), (.t 34), (.t 35), (.t 36)]),Ob 31 (.mov (.t 37)),Ob 38 (.ext (.t 31) 0),Ob 39 (.ext (.t 31) 1),Ob 1 (.mov (.t 38)),Ob 2 (.mov (.t 39))])
 (.seq (.region [Ob 40 (.mov (.t 2)),Ob 12 (.mov (.t 40))])
 (.ret)))))
def r145 : List Res := [.t 12]
def a145 : AFn := ⟨6, c145, r145,.r⟩

def c146 : ACode := .seq (.region [Ob 4 (.mov (Ci 0))])
 (.seq (.seq (.region [Ob 6 (.mov (.t 0)),Ob 7 (.len (.t 6)),Ob 8 (.mov (Ci 0))])
 (.block 0 (.loop (.seq (.region [Ob 9 (.bin .lss (.t 8) (.t 7))])
 (.seq (.cond (.t 9) (.skip)
 (.exit 0))
 (.seq (.block 1 (.seq (.region [Ob 10 (.mov (.t 8)),Ob 5 (.mov (.t 10))])
 (.seq (.region [Ob 11 (.mov (.t 1)),Ob 12 (.mov (.t 0)),Ob 13 (.mov (.t 5)),Ob 14 (.idx (.t 12) (.t 13) 1),Ob 15 (.load (.t 14) none),Ob 16 (.callv (.t 11) [(.t 15)])])
 (.cond (.t 16) (.seq (.region [Ob 17 (.mov (.t 5)),Ob 4 (.mov (.t 17))])
 (.ret))
 (.skip)))))
 (.region [Ob 18 (.bin .add (.t 8) (Ci 1)),Ob 8 (.mov (.t 18))])))))))
 (.seq (.region [Ob 4 (.mov (Ci (-1)))])
 (.ret)))
def r146 : List Res := [.t 4]
def a146 : AFn := ⟨2, c146, r146,.v⟩

def c147 : ACode := .seq (.region [Ob 4 (.mov (Ci 0))])
 (.seq (.seq (.region [Ob 6 (.mov (.t 0)),Ob 7 (.len (.t 6)),Ob 8 (.mov (Ci 0))])
 (.block 0 (.loop (.seq (.region [Ob 9 (.bin .lss (.t 8) (.t 7))])
 (.seq (.cond (.t 9) (.skip)
 (.exit 0))
 (.seq (.block 1 (.seq (.region [Ob 10 (.mov (.t 8)),Ob 5 (.mov (.t 10))])
 (.seq (.region [Ob 11 (.mov (.t 1)),Ob 12 (.mov (.t 0)),Ob 13 (.mov (.t 5)),Ob 14 (.idx (.t 12) (.t 13) 2),Ob 15 (.load (.t 14) (some 2)),Ob 16 (.callv (.t 11) [(.t 15)])])
 (.cond (.t 16) (.seq (.region [Ob 17 (.mov (.t 5)),Ob 4 (.mov (.t 17))])
 (.ret))
 (.skip)))))
 (.region [Ob 18 (.bin .add (.t 8) (Ci 1)),Ob 8 (.mov (.t 18))])))))))
 (.seq (.region [Ob 4 (.mov (Ci (-1)))])
 (.ret)))
def r147 : List Res := [.t 4]
def a147 : AFn := ⟨2, c147, r147,.v⟩

def c148 : ACode := .seq (.region [Ob 10 (.mov (Ci 0)),Ob 11 (.mov (Ci 0))])
 (.seq (.seq (.region [Ob 12 (.mov (.t 4)),Ob 13 (.mov (.t 0)),Ob 14 (.mov (.t 2)),Ob 15 (.idx (.t 13) (.t 14) 6),Ob 16 (.load (.t 15) (some 6)),Ob 17 (.mov (.t 0)),Ob 18 (.mov (.t 1)),Ob 19 (.idx (.t 17) (.t 18) 6),Ob 20 (.load (.t 19) (some 6)),Ob 21 (.callv (.t 12) [(.t 16), (.t 20)]),Ob 22 (.bin .lss (.t 21) (Ci 0))])
 (.cond (.t 22) (.seq (.region [Ob 23 (.mov (.t 3)),Ob 24 (.addr (.t 23) 0),Ob 25 (.load (.t 24) none),Ob 26 (.bin .add (.t 25) (Ci 1)),Ob 27 (.addr (.t 23) 0),On (.store (.t 27) (.t 26) 1)])
 (.seq (.region [Ob 28 (.mov (.t 2)),Ob 29 (.mov (.t 1)),Ob 10 (.mov (.t 28)),Ob 11 (.mov (.t 29))])
 (.ret)))
 (.skip)))
 (.seq (.region [Ob 30 (.mov (.t 1)),Ob 31 (.mov (.t 2)),Ob 10 (.mov (.t 30)),Ob 11 (.mov (.t 31))])
 (.ret)))
def r148 : List Res := [.t 10,.t 11]
def a148 : AFn := ⟨5, c148, r148,.r⟩

def c149 : ACode := .seq (.region [Ob 10 (.mov (Ci 0)),Ob 11 (.mov (Ci 0))])
 (.seq (.seq (.region [Ob 12 (.mov (.t 4)),Ob 13 (.mov (.t 0)),Ob 14 (.mov (.t 2)),Ob 15 (.idx (.t 13) (.t 14) 9),Ob 16 (.load (.t 15) (some 9)),Ob 17 (.mov (.t 0)),Ob 18 (.mov (.t 1)),Ob 19 (.idx (.t 17) (.t 18) 9),Ob 20 (.load (.t 19) (some 9)),Ob 21 (.callv (.t 12) [(.t 16), (.t 20)]),Ob 22 (.bin .lss (.t 21) (Ci 0))])
 (.cond (.t 22) (.seq (.region [Ob 23 (.mov (.t 3)),Ob 24 (.addr (.t 23) 0),Ob 25 (.load (.t 24) none),Ob 26 (.bin .add (.t 25) (Ci 1)),Ob 27 (.addr (.t 23) 0),On (.store (.t 27) (.t 26) 1)])
 (.seq (.region [Ob 28 (.mov (.t 2)),Ob 29 (.mov (.t 1)),Ob 10 (.mov (.t 28)),Ob 11 (.mov (.t 29))])
 (.ret)))
 (.skip)))
 (.seq (.region [Ob 30 (.mov (.t 1)),Ob 31 (.mov (.t 2)),Ob 10 (.mov (.t 30)),Ob 11 (.mov (.t 31))])
 (.ret)))
def r149 : List Res := [.t 10,.t 11]
def a149 : AFn := ⟨5, c149, r149,.r⟩


def ft : FuncId → Option AFn
  | 3 => some a3
  | 4 => some a4
  | 5 => some a5
  | 6 => some a6
  | 7 => some a7
  | 8 => some a8
  | 9 => some a9
  | 10 => some a10
  | 11 => some a11
  | 12 => some a12
  | 13 => some a13
  | 14 => some a14
  | 15 => some a15
  | 16 => some a16
  | 17 => some a17
  | 18 => some a18
  | 19 => some a19
  | 20 => some a20
  | 21 => some a21
  | 22 => some a22
  | 23 => some a23
  | 24 => some a24
  | 25 => some a25
  | 26 => some a26
  | 27 => some a27
  | 28 => some a28
  | 29 => some a29
  | 30 => some a30
  | 31 => some a31
  | 32 => some a32
  | 33 => some a33
  | 34 => some a34
  | 35 => some a35
  | 36 => some a36
  | 37 => some a37
  | 38 => some a38
  | 39 => some a39
  | 40 => some a40
  | 41 => some a41
  | 42 => some a42
  | 43 => some a43
  | 44 => some a44
  | 45 => some a45
  | 46 => some a46
  | 47 => some a47
  | 48 => some a48
  | 49 => some a49
  | 50 => some a50
  | 51 => some a51
  | 52 => some a52
  | 53 => some a53
  | 54 => some a54
  | 55 => some a55
  | 56 => some a56
  | 57 => some a57
  | 58 => some a58
  | 59 => some a59
  | 60 => some a60
  | 61 => some a61
  | 62 => some a62
  | 63 => some a63
  | 64 => some a64
  | 65 => some a65
  | 66 => some a66
  | 67 => some a67
  | 68 => some a68
  | 69 => some a69
  | 70 => some a70
  | 71 => some a71
  | 72 => some a72
  | 73 => some a73
  | 74 => some a74
  | 75 => some a75
  | 76 => some a76
  | 77 => some a77
  | 78 => some a78
  | 79 => some a79
  | 80 => some a80
  | 81 => some a81
  | 82 => some a82
  | 83 => some a83
  | 84 => some a84
  | 85 => some a85
  | 86 => some a86
  | 87 => some a87
  | 88 => some a88
  | 89 => some a89
  | 90 => some a90
  | 91 => some a91
  | 92 => some a92
  | 93 => some a93
  | 94 => some a94
  | 95 => some a95
  | 96 => some a96
  | 97 => some a97
  | 98 => some a98
  | 99 => some a99
  | 100 => some a100
  | 101 => some a101
  | 102 => some a102
  | 103 => some a103
  | 104 => some a104
  | 105 => some a105
  | 106 => some a106
  | 107 => some a107
  | 108 => some a108
  | 109 => some a109
  | 110 => some a110
  | 111 => some a111
  | 112 => some a112
  | 113 => some a113
  | 114 => some a114
  | 115 => some a115
  | 116 => some a116
  | 117 => some a117
  | 118 => some a118
  | 119 => some a119
  | 120 => some a120
  | 121 => some a121
  | 122 => some a122
  | 123 => some a123
  | 124 => some a124
  | 125 => some a125
  | 126 => some a126
  | 127 => some a127
  | 128 => some a128
  | 129 => some a129
  | 130 => some a130
  | 131 => some a131
  | 132 => some a132
  | 133 => some a133
  | 134 => some a134
  | 135 => some a135
  | 136 => some a136
  | 137 => some a137
  | 138 => some a138
  | 139 => some a139
  | 140 => some a140
  | 141 => some a141
  | 142 => some a142
  | 143 => some a143
  | 144 => some a144
  | 145 => some a145
  | 146 => some a146
  | 147 => some a147
  | 148 => some a148
  | 149 => some a149
  | _ => none
theorem ft3 : ft 3 = some a3 := rfl
theorem ft4 : ft 4 = some a4 := rfl
theorem ft5 : ft 5 = some a5 := rfl
theorem ft6 : ft 6 = some a6 := rfl
theorem ft7 : ft 7 = some a7 := rfl
theorem ft8 : ft 8 = some a8 := rfl
theorem ft9 : ft 9 = some a9 := rfl
theorem ft10 : ft 10 = some a10 := rfl
theorem ft11 : ft 11 = some a11 := rfl
theorem ft12 : ft 12 = some a12 := rfl
theorem ft13 : ft 13 = some a13 := rfl
theorem ft14 : ft 14 = some a14 := rfl
theorem ft15 : ft 15 = some a15 := rfl
theorem ft16 : ft 16 = some a16 := rfl
theorem ft17 : ft 17 = some a17 := rfl
theorem ft18 : ft 18 = some a18 := rfl
theorem ft19 : ft 19 = some a19 := rfl
theorem ft20 : ft 20 = some a20 := rfl
theorem ft21 : ft 21 = some a21 := rfl
theorem ft22 : ft 22 = some a22 := rfl
theorem ft23 : ft 23 = some a23 := rfl
theorem ft24 : ft 24 = some a24 := rfl
theorem ft25 : ft 25 = some a25 := rfl
theorem ft26 : ft 26 = some a26 := rfl
theorem ft27 : ft 27 = some a27 := rfl
theorem ft28 : ft 28 = some a28 := rfl
theorem ft29 : ft 29 = some a29 := rfl
theorem ft30 : ft 30 = some a30 := rfl
theorem ft31 : ft 31 = some a31 := rfl
theorem ft32 : ft 32 = some a32 := rfl
theorem ft33 : ft 33 = some a33 := rfl
theorem ft34 : ft 34 = some a34 := rfl
theorem ft35 : ft 35 = some a35 := rfl
theorem ft36 : ft 36 = some a36 := rfl
theorem ft37 : ft 37 = some a37 := rfl
theorem ft38 : ft 38 = some a38 := rfl
theorem ft39 : ft 39 = some a39 := rfl
theorem ft40 : ft 40 = some a40 := rfl
theorem ft41 : ft 41 = some a41 := rfl
theorem ft42 : ft 42 = some a42 := rfl
theorem ft43 : ft 43 = some a43 := rfl
theorem ft44 : ft 44 = some a44 := rfl
theorem ft45 : ft 45 = some a45 := rfl
theorem ft46 : ft 46 = some a46 := rfl
theorem ft47 : ft 47 = some a47 := rfl
theorem ft48 : ft 48 = some a48 := rfl
theorem ft49 : ft 49 = some a49 := rfl
theorem ft50 : ft 50 = some a50 := rfl
theorem ft51 : ft 51 = some a51 := rfl
theorem ft52 : ft 52 = some a52 := rfl
theorem ft53 : ft 53 = some a53 := rfl
theorem ft54 : ft 54 = some a54 := rfl
theorem ft55 : ft 55 = some a55 := rfl
theorem ft56 : ft 56 = some a56 := rfl
theorem ft57 : ft 57 = some a57 := rfl
theorem ft58 : ft 58 = some a58 := rfl
theorem ft59 : ft 59 = some a59 := rfl
theorem ft60 : ft 60 = some a60 := rfl
theorem ft61 : ft 61 = some a61 := rfl
theorem ft62 : ft 62 = some a62 := rfl
theorem ft63 : ft 63 = some a63 := rfl
theorem ft64 : ft 64 = some a64 := rfl
theorem ft65 : ft 65 = some a65 := rfl
theorem ft66 : ft 66 = some a66 := rfl
theorem ft67 : ft 67 = some a67 := rfl
theorem ft68 : ft 68 = some a68 := rfl
theorem ft69 : ft 69 = some a69 := rfl
theorem ft70 : ft 70 = some a70 := rfl
theorem ft71 : ft 71 = some a71 := rfl
theorem ft72 : ft 72 = some a72 := rfl
theorem ft73 : ft 73 = some a73 := rfl
theorem ft74 : ft 74 = some a74 := rfl
theorem ft75 : ft 75 = some a75 := rfl
theorem ft76 : ft 76 = some a76 := rfl
theorem ft77 : ft 77 = some a77 := rfl
theorem ft78 : ft 78 = some a78 := rfl
theorem ft79 : ft 79 = some a79 := rfl
theorem ft80 : ft 80 = some a80 := rfl
theorem ft81 : ft 81 = some a81 := rfl
theorem ft82 : ft 82 = some a82 := rfl
theorem ft83 : ft 83 = some a83 := rfl
theorem ft84 : ft 84 = some a84 := rfl
theorem ft85 : ft 85 = some a85 := rfl
theorem ft86 : ft 86 = some a86 := rfl
theorem ft87 : ft 87 = some a87 := rfl
theorem ft88 : ft 88 = some a88 := rfl
theorem ft89 : ft 89 = some a89 := rfl
theorem ft90 : ft 90 = some a90 := rfl
theorem ft91 : ft 91 = some a91 := rfl
theorem ft92 : ft 92 = some a92 := rfl
theorem ft93 : ft 93 = some a93 := rfl
theorem ft94 : ft 94 = some a94 := rfl
theorem ft95 : ft 95 = some a95 := rfl
theorem ft96 : ft 96 = some a96 := rfl
theorem ft97 : ft 97 = some a97 := rfl
theorem ft98 : ft 98 = some a98 := rfl
theorem ft99 : ft 99 = some a99 := rfl
theorem ft100 : ft 100 = some a100 := rfl
theorem ft101 : ft 101 = some a101 := rfl
theorem ft102 : ft 102 = some a102 := rfl
theorem ft103 : ft 103 = some a103 := rfl
theorem ft104 : ft 104 = some a104 := rfl
theorem ft105 : ft 105 = some a105 := rfl
theorem ft106 : ft 106 = some a106 := rfl
theorem ft107 : ft 107 = some a107 := rfl
theorem ft108 : ft 108 = some a108 := rfl
theorem ft109 : ft 109 = some a109 := rfl
theorem ft110 : ft 110 = some a110 := rfl
theorem ft111 : ft 111 = some a111 := rfl
theorem ft112 : ft 112 = some a112 := rfl
theorem ft113 : ft 113 = some a113 := rfl
theorem ft114 : ft 114 = some a114 := rfl
theorem ft115 : ft 115 = some a115 := rfl
theorem ft116 : ft 116 = some a116 := rfl
theorem ft117 : ft 117 = some a117 := rfl
theorem ft118 : ft 118 = some a118 := rfl
theorem ft119 : ft 119 = some a119 := rfl
theorem ft120 : ft 120 = some a120 := rfl
theorem ft121 : ft 121 = some a121 := rfl
theorem ft122 : ft 122 = some a122 := rfl
theorem ft123 : ft 123 = some a123 := rfl
theorem ft124 : ft 124 = some a124 := rfl
theorem ft125 : ft 125 = some a125 := rfl
theorem ft126 : ft 126 = some a126 := rfl
theorem ft127 : ft 127 = some a127 := rfl
theorem ft128 : ft 128 = some a128 := rfl
theorem ft129 : ft 129 = some a129 := rfl
theorem ft130 : ft 130 = some a130 := rfl
theorem ft131 : ft 131 = some a131 := rfl
theorem ft132 : ft 132 = some a132 := rfl
theorem ft133 : ft 133 = some a133 := rfl
theorem ft134 : ft 134 = some a134 := rfl
theorem ft135 : ft 135 = some a135 := rfl
theorem ft136 : ft 136 = some a136 := rfl
theorem ft137 : ft 137 = some a137 := rfl
theorem ft138 : ft 138 = some a138 := rfl
theorem ft139 : ft 139 = some a139 := rfl
theorem ft140 : ft 140 = some a140 := rfl
theorem ft141 : ft 141 = some a141 := rfl
theorem ft142 : ft 142 = some a142 := rfl
theorem ft143 : ft 143 = some a143 := rfl
theorem ft144 : ft 144 = some a144 := rfl
theorem ft145 : ft 145 = some a145 := rfl
theorem ft146 : ft 146 = some a146 := rfl
theorem ft147 : ft 147 = some a147 := rfl
theorem ft148 : ft 148 = some a148 := rfl
theorem ft149 : ft 149 = some a149 := rfl
end Go.Ab.T
end

section
namespace Go.Ab.T
theorem WB3 (s : St) (as : List AV) (K : AV → St → Prop) : WB ft 3 as s K = WV ft 3 (as.map (snap s.mem dep)) fun v => (as.all (fun a => !hot dep a) || plain dep v) = true ∧ K v s := WB_v ft3 rfl as s K
theorem WB4 (s : St) (as : List AV) (K : AV → St → Prop) : WB ft 4 as s K = WV ft 4 (as.map (snap s.mem dep)) fun v => (as.all (fun a => !hot dep a) || plain dep v) = true ∧ K v s := WB_v ft4 rfl as s K
theorem WB5 (s : St) (as : List AV) (K : AV → St → Prop) : WB ft 5 as s K = WV ft 5 (as.map (snap s.mem dep)) fun v => (as.all (fun a => !hot dep a) || plain dep v) = true ∧ K v s := WB_v ft5 rfl as s K
theorem WB6 (s : St) (as : List AV) (K : AV → St → Prop) : WB ft 6 as s K = WV ft 6 (as.map (snap s.mem dep)) fun v => (as.all (fun a => !hot dep a) || plain dep v) = true ∧ K v s := WB_v ft6 rfl as s K
theorem WB7 (s : St) (as : List AV) (K : AV → St → Prop) : WB ft 7 as s K = WV ft 7 (as.map (snap s.mem dep)) fun v => (as.all (fun a => !hot dep a) || plain dep v) = true ∧ K v s := WB_v ft7 rfl as s K
theorem WB8 (s : St) (as : List AV) (K : AV → St → Prop) : WB ft 8 as s K = WV ft 8 (as.map (snap s.mem dep)) fun v => (as.all (fun a => !hot dep a) || plain dep v) = true ∧ K v s := WB_v ft8 rfl as s K
theorem WB9 (s : St) (as : List AV) (K : AV → St → Prop) : WB ft 9 as s K = WV ft 9 (as.map (snap s.mem dep)) fun v => (as.all (fun a => !hot dep a) || plain dep v) = true ∧ K v s := WB_v ft9 rfl as s K
theorem WB10 (s : St) (as : List AV) (K : AV → St → Prop) : WB ft 10 as s K = WV ft 10 (as.map (snap s.mem dep)) fun v => (as.all (fun a => !hot dep a) || plain dep v) = true ∧ K v s := WB_v ft10 rfl as s K
theorem WB11 (s : St) (as : List AV) (K : AV → St → Prop) : WB ft 11 as s K = WV ft 11 (as.map (snap s.mem dep)) fun v => (as.all (fun a => !hot dep a) || plain dep v) = true ∧ K v s := WB_v ft11 rfl as s K
theorem WB12 (s : St) (as : List AV) (K : AV → St → Prop) : WB ft 12 as s K = WV ft 12 (as.map (snap s.mem dep)) fun v => (as.all (fun a => !hot dep a) || plain dep v) = true ∧ K v s := WB_v ft12 rfl as s K
theorem WB13 (s : St) (as : List AV) (K : AV → St → Prop) : WB ft 13 as s K = WV ft 13 (as.map (snap s.mem dep)) fun v => (as.all (fun a => !hot dep a) || plain dep v) = true ∧ K v s := WB_v ft13 rfl as s K
theorem WB14 (s : St) (as : List AV) (K : AV → St → Prop) : WB ft 14 as s K = WV ft 14 (as.map (snap s.mem dep)) fun v => (as.all (fun a => !hot dep a) || plain dep v) = true ∧ K v s := WB_v ft14 rfl as s K
theorem WB15 (s : St) (as : List AV) (K : AV → St → Prop) : WB ft 15 as s K = WV ft 15 (as.map (snap s.mem dep)) fun v => (as.all (fun a => !hot dep a) || plain dep v) = true ∧ K v s := WB_v ft15 rfl as s K
theorem WB16 (s : St) (as : List AV) (K : AV → St → Prop) : WB ft 16 as s K = WV ft 16 (as.map (snap s.mem dep)) fun v => (as.all (fun a => !hot dep a) || plain dep v) = true ∧ K v s := WB_v ft16 rfl as s K
theorem WB17 (s : St) (as : List AV) (K : AV → St → Prop) : WB ft 17 as s K = WV ft 17 (as.map (snap s.mem dep)) fun v => (as.all (fun a => !hot dep a) || plain dep v) = true ∧ K v s := WB_v ft17 rfl as s K
theorem WB18 (s : St) (as : List AV) (K : AV → St → Prop) : WB ft 18 as s K = WV ft 18 (as.map (snap s.mem dep)) fun v => (as.all (fun a => !hot dep a) || plain dep v) = true ∧ K v s := WB_v ft18 rfl as s K
theorem WB19 (s : St) (as : List AV) (K : AV → St → Prop) : WB ft 19 as s K = WV ft 19 (as.map (snap s.mem dep)) fun v => (as.all (fun a => !hot dep a) || plain dep v) = true ∧ K v s := WB_v ft19 rfl as s K
theorem WB20 (s : St) (as : List AV) (K : AV → St → Prop) : WB ft 20 as s K = WV ft 20 (as.map (snap s.mem dep)) fun v => (as.all (fun a => !hot dep a) || plain dep v) = true ∧ K v s := WB_v ft20 rfl as s K
theorem WB21 (s : St) (as : List AV) (K : AV → St → Prop) : WB ft 21 as s K = WV ft 21 (as.map (snap s.mem dep)) fun v => (as.all (fun a => !hot dep a) || plain dep v) = true ∧ K v s := WB_v ft21 rfl as s K
theorem WB22 (s : St) (as : List AV) (K : AV → St → Prop) : WB ft 22 as s K = WR ft (.f 22) (as.map (snap s.mem dep)) .nil fun v m => (as.all (fun a => !hot dep a) || (ownly dep v && m.blks.all Blk.ownly)) = true ∧
      K (shift s.mem.blks.length s.mem.toks.length dep v) (s.setMem (joinMem s.mem m dep)) := WB_o ft22 rfl as s K
theorem WB23 (s : St) (as : List AV) (K : AV → St → Prop) : WB ft 23 as s K = WV ft 23 (as.map (snap s.mem dep)) fun v => (as.all (fun a => !hot dep a) || plain dep v) = true ∧ K v s := WB_v ft23 rfl as s K
theorem WB24 (s : St) (as : List AV) (K : AV → St → Prop) : WB ft 24 as s K = WV ft 24 (as.map (snap s.mem dep)) fun v => (as.all (fun a => !hot dep a) || plain dep v) = true ∧ K v s := WB_v ft24 rfl as s K
theorem WB25 (s : St) (as : List AV) (K : AV → St → Prop) : WB ft 25 as s K = WV ft 25 (as.map (snap s.mem dep)) fun v => (as.all (fun a => !hot dep a) || plain dep v) = true ∧ K v s := WB_v ft25 rfl as s K
theorem WB26 (s : St) (as : List AV) (K : AV → St → Prop) : WB ft 26 as s K = WV ft 26 (as.map (snap s.mem dep)) fun v => (as.all (fun a => !hot dep a) || plain dep v) = true ∧ K v s := WB_v ft26 rfl as s K
theorem WB27 (s : St) (as : List AV) (K : AV → St → Prop) : WB ft 27 as s K = WV ft 27 (as.map (snap s.mem dep)) fun v => (as.all (fun a => !hot dep a) || plain dep v) = true ∧ K v s := WB_v ft27 rfl as s K
theorem WB28 (s : St) (as : List AV) (K : AV → St → Prop) : WB ft 28 as s K = WV ft 28 (as.map (snap s.mem dep)) fun v => (as.all (fun a => !hot dep a) || plain dep v) = true ∧ K v s := WB_v ft28 rfl as s K
theorem WB29 (s : St) (as : List AV) (K : AV → St → Prop) : WB ft 29 as s K = WV ft 29 (as.map (snap s.mem dep)) fun v => (as.all (fun a => !hot dep a) || plain dep v) = true ∧ K v s := WB_v ft29 rfl as s K
theorem WB30 (s : St) (as : List AV) (K : AV → St → Prop) : WB ft 30 as s K = WV ft 30 (as.map (snap s.mem dep)) fun v => (as.all (fun a => !hot dep a) || plain dep v) = true ∧ K v s := WB_v ft30 rfl as s K
theorem WB31 (s : St) (as : List AV) (K : AV → St → Prop) : WB ft 31 as s K = WV ft 31 (as.map (snap s.mem dep)) fun v => (as.all (fun a => !hot dep a) || plain dep v) = true ∧ K v s := WB_v ft31 rfl as s K
theorem WB32 (s : St) (as : List AV) (K : AV → St → Prop) : WB ft 32 as s K = WV ft 32 (as.map (snap s.mem dep)) fun v => (as.all (fun a => !hot dep a) || plain dep v) = true ∧ K v s := WB_v ft32 rfl as s K
theorem WB33 (s : St) (as : List AV) (K : AV → St → Prop) : WB ft 33 as s K = WV ft 33 (as.map (snap s.mem dep)) fun v => (as.all (fun a => !hot dep a) || plain dep v) = true ∧ K v s := WB_v ft33 rfl as s K
theorem WB34 (s : St) (as : List AV) (K : AV → St → Prop) : WB ft 34 as s K = WV ft 34 (as.map (snap s.mem dep)) fun v => (as.all (fun a => !hot dep a) || plain dep v) = true ∧ K v s := WB_v ft34 rfl as s K
theorem WB35 (s : St) (as : List AV) (K : AV → St → Prop) : WB ft 35 as s K = WV ft 35 (as.map (snap s.mem dep)) fun v => (as.all (fun a => !hot dep a) || plain dep v) = true ∧ K v s := WB_v ft35 rfl as s K
theorem WB36 (s : St) (as : List AV) (K : AV → St → Prop) : WB ft 36 as s K = WV ft 36 (as.map (snap s.mem dep)) fun v => (as.all (fun a => !hot dep a) || plain dep v) = true ∧ K v s := WB_v ft36 rfl as s K
theorem WB37 (s : St) (as : List AV) (K : AV → St → Prop) : WB ft 37 as s K = WV ft 37 (as.map (snap s.mem dep)) fun v => (as.all (fun a => !hot dep a) || plain dep v) = true ∧ K v s := WB_v ft37 rfl as s K
theorem WB38 (s : St) (as : List AV) (K : AV → St → Prop) : WB ft 38 as s K = WV ft 38 (as.map (snap s.mem dep)) fun v => (as.all (fun a => !hot dep a) || plain dep v) = true ∧ K v s := WB_v ft38 rfl as s K
theorem WB39 (s : St) (as : List AV) (K : AV → St → Prop) : WB ft 39 as s K = WV ft 39 (as.map (snap s.mem dep)) fun v => (as.all (fun a => !hot dep a) || plain dep v) = true ∧ K v s := WB_v ft39 rfl as s K
theorem WB40 (s : St) (as : List AV) (K : AV → St → Prop) : WB ft 40 as s K = WV ft 40 (as.map (snap s.mem dep)) fun v => (as.all (fun a => !hot dep a) || plain dep v) = true ∧ K v s := WB_v ft40 rfl as s K
theorem WB41 (s : St) (as : List AV) (K : AV → St → Prop) : WB ft 41 as s K = WV ft 41 (as.map (snap s.mem dep)) fun v => (as.all (fun a => !hot dep a) || plain dep v) = true ∧ K v s := WB_v ft41 rfl as s K
theorem WB42 (s : St) (as : List AV) (K : AV → St → Prop) : WB ft 42 as s K = WV ft 42 (as.map (snap s.mem dep)) fun v => (as.all (fun a => !hot dep a) || plain dep v) = true ∧ K v s := WB_v ft42 rfl as s K
theorem WB43 (s : St) (as : List AV) (K : AV → St → Prop) : WB ft 43 as s K = WV ft 43 (as.map (snap s.mem dep)) fun v => (as.all (fun a => !hot dep a) || plain dep v) = true ∧ K v s := WB_v ft43 rfl as s K
theorem WB44 (s : St) (as : List AV) (K : AV → St → Prop) : WB ft 44 as s K = WV ft 44 (as.map (snap s.mem dep)) fun v => (as.all (fun a => !hot dep a) || plain dep v) = true ∧ K v s := WB_v ft44 rfl as s K
theorem WB45 (s : St) (as : List AV) (K : AV → St → Prop) : WB ft 45 as s K = WV ft 45 (as.map (snap s.mem dep)) fun v => (as.all (fun a => !hot dep a) || plain dep v) = true ∧ K v s := WB_v ft45 rfl as s K
theorem WB46 (s : St) (as : List AV) (K : AV → St → Prop) : WB ft 46 as s K = WV ft 46 (as.map (snap s.mem dep)) fun v => (as.all (fun a => !hot dep a) || plain dep v) = true ∧ K v s := WB_v ft46 rfl as s K
theorem WB47 (s : St) (as : List AV) (K : AV → St → Prop) : WB ft 47 as s K = WV ft 47 (as.map (snap s.mem dep)) fun v => (as.all (fun a => !hot dep a) || plain dep v) = true ∧ K v s := WB_v ft47 rfl as s K
theorem WB48 (s : St) (as : List AV) (K : AV → St → Prop) : WB ft 48 as s K = WV ft 48 (as.map (snap s.mem dep)) fun v => (as.all (fun a => !hot dep a) || plain dep v) = true ∧ K v s := WB_v ft48 rfl as s K
theorem WB49 (s : St) (as : List AV) (K : AV → St → Prop) : WB ft 49 as s K = WV ft 49 (as.map (snap s.mem dep)) fun v => (as.all (fun a => !hot dep a) || plain dep v) = true ∧ K v s := WB_v ft49 rfl as s K
theorem WB50 (s : St) (as : List AV) (K : AV → St → Prop) : WB ft 50 as s K = WV ft 50 (as.map (snap s.mem dep)) fun v => (as.all (fun a => !hot dep a) || plain dep v) = true ∧ K v s := WB_v ft50 rfl as s K
theorem WB51 (s : St) (as : List AV) (K : AV → St → Prop) : WB ft 51 as s K = WV ft 51 (as.map (snap s.mem dep)) fun v => (as.all (fun a => !hot dep a) || plain dep v) = true ∧ K v s := WB_v ft51 rfl as s K
theorem WB52 (s : St) (as : List AV) (K : AV → St → Prop) : WB ft 52 as s K = WV ft 52 (as.map (snap s.mem dep)) fun v => (as.all (fun a => !hot dep a) || plain dep v) = true ∧ K v s := WB_v ft52 rfl as s K
theorem WB53 (s : St) (as : List AV) (K : AV → St → Prop) : WB ft 53 as s K = WV ft 53 (as.map (snap s.mem dep)) fun v => (as.all (fun a => !hot dep a) || plain dep v) = true ∧ K v s := WB_v ft53 rfl as s K
theorem WB54 (s : St) (as : List AV) (K : AV → St → Prop) : WB ft 54 as s K = WV ft 54 (as.map (snap s.mem dep)) fun v => (as.all (fun a => !hot dep a) || plain dep v) = true ∧ K v s := WB_v ft54 rfl as s K
theorem WB55 (s : St) (as : List AV) (K : AV → St → Prop) : WB ft 55 as s K = WV ft 55 (as.map (snap s.mem dep)) fun v => (as.all (fun a => !hot dep a) || plain dep v) = true ∧ K v s := WB_v ft55 rfl as s K
theorem WB56 (s : St) (as : List AV) (K : AV → St → Prop) : WB ft 56 as s K = WV ft 56 (as.map (snap s.mem dep)) fun v => (as.all (fun a => !hot dep a) || plain dep v) = true ∧ K v s := WB_v ft56 rfl as s K
theorem WB57 (s : St) (as : List AV) (K : AV → St → Prop) : WB ft 57 as s K = WV ft 57 (as.map (snap s.mem dep)) fun v => (as.all (fun a => !hot dep a) || plain dep v) = true ∧ K v s := WB_v ft57 rfl as s K
theorem WB58 (s : St) (as : List AV) (K : AV → St → Prop) : WB ft 58 as s K = WV ft 58 (as.map (snap s.mem dep)) fun v => (as.all (fun a => !hot dep a) || plain dep v) = true ∧ K v s := WB_v ft58 rfl as s K
theorem WB59 (s : St) (as : List AV) (K : AV → St → Prop) : WB ft 59 as s K = WV ft 59 (as.map (snap s.mem dep)) fun v => (as.all (fun a => !hot dep a) || plain dep v) = true ∧ K v s := WB_v ft59 rfl as s K
theorem WB60 (s : St) (as : List AV) (K : AV → St → Prop) : WB ft 60 as s K = WV ft 60 (as.map (snap s.mem dep)) fun v => (as.all (fun a => !hot dep a) || plain dep v) = true ∧ K v s := WB_v ft60 rfl as s K
theorem WB61 (s : St) (as : List AV) (K : AV → St → Prop) : WB ft 61 as s K = WV ft 61 (as.map (snap s.mem dep)) fun v => (as.all (fun a => !hot dep a) || plain dep v) = true ∧ K v s := WB_v ft61 rfl as s K
theorem WB62 (s : St) (as : List AV) (K : AV → St → Prop) : WB ft 62 as s K = WV ft 62 (as.map (snap s.mem dep)) fun v => (as.all (fun a => !hot dep a) || plain dep v) = true ∧ K v s := WB_v ft62 rfl as s K
theorem WB63 (s : St) (as : List AV) (K : AV → St → Prop) : WB ft 63 as s K = WV ft 63 (as.map (snap s.mem dep)) fun v => (as.all (fun a => !hot dep a) || plain dep v) = true ∧ K v s := WB_v ft63 rfl as s K
theorem WB64 (s : St) (as : List AV) (K : AV → St → Prop) : WB ft 64 as s K = WV ft 64 (as.map (snap s.mem dep)) fun v => (as.all (fun a => !hot dep a) || plain dep v) = true ∧ K v s := WB_v ft64 rfl as s K
theorem WB65 (s : St) (as : List AV) (K : AV → St → Prop) : WB ft 65 as s K = WV ft 65 (as.map (snap s.mem dep)) fun v => (as.all (fun a => !hot dep a) || plain dep v) = true ∧ K v s := WB_v ft65 rfl as s K
theorem WB66 (s : St) (as : List AV) (K : AV → St → Prop) : WB ft 66 as s K = WV ft 66 (as.map (snap s.mem dep)) fun v => (as.all (fun a => !hot dep a) || plain dep v) = true ∧ K v s := WB_v ft66 rfl as s K
theorem WB67 (s : St) (as : List AV) (K : AV → St → Prop) : WB ft 67 as s K = WV ft 67 (as.map (snap s.mem dep)) fun v => (as.all (fun a => !hot dep a) || plain dep v) = true ∧ K v s := WB_v ft67 rfl as s K
theorem WB68 (s : St) (as : List AV) (K : AV → St → Prop) : WB ft 68 as s K = WV ft 68 (as.map (snap s.mem dep)) fun v => (as.all (fun a => !hot dep a) || plain dep v) = true ∧ K v s := WB_v ft68 rfl as s K
theorem WB69 (s : St) (as : List AV) (K : AV → St → Prop) : WB ft 69 as s K = WV ft 69 (as.map (snap s.mem dep)) fun v => (as.all (fun a => !hot dep a) || plain dep v) = true ∧ K v s := WB_v ft69 rfl as s K
theorem WB70 (s : St) (as : List AV) (K : AV → St → Prop) : WB ft 70 as s K = WV ft 70 (as.map (snap s.mem dep)) fun v => (as.all (fun a => !hot dep a) || plain dep v) = true ∧ K v s := WB_v ft70 rfl as s K
theorem WB71 (s : St) (as : List AV) (K : AV → St → Prop) : WB ft 71 as s K = WV ft 71 (as.map (snap s.mem dep)) fun v => (as.all (fun a => !hot dep a) || plain dep v) = true ∧ K v s := WB_v ft71 rfl as s K
theorem WB72 (s : St) (as : List AV) (K : AV → St → Prop) : WB ft 72 as s K = WV ft 72 (as.map (snap s.mem dep)) fun v => (as.all (fun a => !hot dep a) || plain dep v) = true ∧ K v s := WB_v ft72 rfl as s K
theorem WB73 (s : St) (as : List AV) (K : AV → St → Prop) : WB ft 73 as s K = WV ft 73 (as.map (snap s.mem dep)) fun v => (as.all (fun a => !hot dep a) || plain dep v) = true ∧ K v s := WB_v ft73 rfl as s K
theorem WB74 (s : St) (as : List AV) (K : AV → St → Prop) : WB ft 74 as s K = WV ft 74 (as.map (snap s.mem dep)) fun v => (as.all (fun a => !hot dep a) || plain dep v) = true ∧ K v s := WB_v ft74 rfl as s K
theorem WB75 (s : St) (as : List AV) (K : AV → St → Prop) : WB ft 75 as s K = WV ft 75 (as.map (snap s.mem dep)) fun v => (as.all (fun a => !hot dep a) || plain dep v) = true ∧ K v s := WB_v ft75 rfl as s K
theorem WB76 (s : St) (as : List AV) (K : AV → St → Prop) : WB ft 76 as s K = WR ft (.f 76) (as.map (snap s.mem dep)) .nil fun v m => (as.all (fun a => !hot dep a) || (ownly dep v && m.blks.all Blk.ownly)) = true ∧
      K (shift s.mem.blks.length s.mem.toks.length dep v) (s.setMem (joinMem s.mem m dep)) := WB_o ft76 rfl as s K
theorem WB77 (s : St) (as : List AV) (K : AV → St → Prop) : WB ft 77 as s K = WR ft (.f 77) as s.mem fun v m => K v (s.setMem m) := WB_r ft77 rfl as s K
theorem WB78 (s : St) (as : List AV) (K : AV → St → Prop) : WB ft 78 as s K = WV ft 78 (as.map (snap s.mem dep)) fun v => (as.all (fun a => !hot dep a) || plain dep v) = true ∧ K v s := WB_v ft78 rfl as s K
theorem WB79 (s : St) (as : List AV) (K : AV → St → Prop) : WB ft 79 as s K = WV ft 79 (as.map (snap s.mem dep)) fun v => (as.all (fun a => !hot dep a) || plain dep v) = true ∧ K v s := WB_v ft79 rfl as s K
theorem WB80 (s : St) (as : List AV) (K : AV → St → Prop) : WB ft 80 as s K = WR ft (.f 80) as s.mem fun v m => K v (s.setMem m) := WB_r ft80 rfl as s K
theorem WB81 (s : St) (as : List AV) (K : AV → St → Prop) : WB ft 81 as s K = WR ft (.f 81) (as.map (snap s.mem dep)) .nil fun v m => (as.all (fun a => !hot dep a) || (ownly dep v && m.blks.all Blk.ownly)) = true ∧
      K (shift s.mem.blks.length s.mem.toks.length dep v) (s.setMem (joinMem s.mem m dep)) := WB_o ft81 rfl as s K
theorem WB82 (s : St) (as : List AV) (K : AV → St → Prop) : WB ft 82 as s K = WV ft 82 (as.map (snap s.mem dep)) fun v => (as.all (fun a => !hot dep a) || plain dep v) = true ∧ K v s := WB_v ft82 rfl as s K
theorem WB83 (s : St) (as : List AV) (K : AV → St → Prop) : WB ft 83 as s K = WV ft 83 (as.map (snap s.mem dep)) fun v => (as.all (fun a => !hot dep a) || plain dep v) = true ∧ K v s := WB_v ft83 rfl as s K
theorem WB84 (s : St) (as : List AV) (K : AV → St → Prop) : WB ft 84 as s K = WV ft 84 (as.map (snap s.mem dep)) fun v => (as.all (fun a => !hot dep a) || plain dep v) = true ∧ K v s := WB_v ft84 rfl as s K
theorem WB85 (s : St) (as : List AV) (K : AV → St → Prop) : WB ft 85 as s K = WV ft 85 (as.map (snap s.mem dep)) fun v => (as.all (fun a => !hot dep a) || plain dep v) = true ∧ K v s := WB_v ft85 rfl as s K
theorem WB86 (s : St) (as : List AV) (K : AV → St → Prop) : WB ft 86 as s K = WR ft (.f 86) as s.mem fun v m => K v (s.setMem m) := WB_r ft86 rfl as s K
theorem WB87 (s : St) (as : List AV) (K : AV → St → Prop) : WB ft 87 as s K = WV ft 87 (as.map (snap s.mem dep)) fun v => (as.all (fun a => !hot dep a) || plain dep v) = true ∧ K v s := WB_v ft87 rfl as s K
theorem WB88 (s : St) (as : List AV) (K : AV → St → Prop) : WB ft 88 as s K = WV ft 88 (as.map (snap s.mem dep)) fun v => (as.all (fun a => !hot dep a) || plain dep v) = true ∧ K v s := WB_v ft88 rfl as s K
theorem WB89 (s : St) (as : List AV) (K : AV → St → Prop) : WB ft 89 as s K = WV ft 89 (as.map (snap s.mem dep)) fun v => (as.all (fun a => !hot dep a) || plain dep v) = true ∧ K v s := WB_v ft89 rfl as s K
theorem WB90 (s : St) (as : List AV) (K : AV → St → Prop) : WB ft 90 as s K = WV ft 90 (as.map (snap s.mem dep)) fun v => (as.all (fun a => !hot dep a) || plain dep v) = true ∧ K v s := WB_v ft90 rfl as s K
theorem WB91 (s : St) (as : List AV) (K : AV → St → Prop) : WB ft 91 as s K = WV ft 91 (as.map (snap s.mem dep)) fun v => (as.all (fun a => !hot dep a) || plain dep v) = true ∧ K v s := WB_v ft91 rfl as s K
theorem WB92 (s : St) (as : List AV) (K : AV → St → Prop) : WB ft 92 as s K = WV ft 92 (as.map (snap s.mem dep)) fun v => (as.all (fun a => !hot dep a) || plain dep v) = true ∧ K v s := WB_v ft92 rfl as s K
theorem WB93 (s : St) (as : List AV) (K : AV → St → Prop) : WB ft 93 as s K = WV ft 93 (as.map (snap s.mem dep)) fun v => (as.all (fun a => !hot dep a) || plain dep v) = true ∧ K v s := WB_v ft93 rfl as s K
theorem WB94 (s : St) (as : List AV) (K : AV → St → Prop) : WB ft 94 as s K = WV ft 94 (as.map (snap s.mem dep)) fun v => (as.all (fun a => !hot dep a) || plain dep v) = true ∧ K v s := WB_v ft94 rfl as s K
theorem WB95 (s : St) (as : List AV) (K : AV → St → Prop) : WB ft 95 as s K = WV ft 95 (as.map (snap s.mem dep)) fun v => (as.all (fun a => !hot dep a) || plain dep v) = true ∧ K v s := WB_v ft95 rfl as s K
theorem WB96 (s : St) (as : List AV) (K : AV → St → Prop) : WB ft 96 as s K = WR ft (.f 96) as s.mem fun v m => K v (s.setMem m) := WB_r ft96 rfl as s K
theorem WB97 (s : St) (as : List AV) (K : AV → St → Prop) : WB ft 97 as s K = WV ft 97 (as.map (snap s.mem dep)) fun v => (as.all (fun a => !hot dep a) || plain dep v) = true ∧ K v s := WB_v ft97 rfl as s K
theorem WB98 (s : St) (as : List AV) (K : AV → St → Prop) : WB ft 98 as s K = WV ft 98 (as.map (snap s.mem dep)) fun v => (as.all (fun a => !hot dep a) || plain dep v) = true ∧ K v s := WB_v ft98 rfl as s K
theorem WB99 (s : St) (as : List AV) (K : AV → St → Prop) : WB ft 99 as s K = WR ft (.f 99) (as.map (snap s.mem dep)) .nil fun v m => (as.all (fun a => !hot dep a) || (ownly dep v && m.blks.all Blk.ownly)) = true ∧
      K (shift s.mem.blks.length s.mem.toks.length dep v) (s.setMem (joinMem s.mem m dep)) := WB_o ft99 rfl as s K
theorem WB100 (s : St) (as : List AV) (K : AV → St → Prop) : WB ft 100 as s K = WR ft (.f 100) as s.mem fun v m => K v (s.setMem m) := WB_r ft100 rfl as s K
theorem WB101 (s : St) (as : List AV) (K : AV → St → Prop) : WB ft 101 as s K = WV ft 101 (as.map (snap s.mem dep)) fun v => (as.all (fun a => !hot dep a) || plain dep v) = true ∧ K v s := WB_v ft101 rfl as s K
theorem WB102 (s : St) (as : List AV) (K : AV → St → Prop) : WB ft 102 as s K = WV ft 102 (as.map (snap s.mem dep)) fun v => (as.all (fun a => !hot dep a) || plain dep v) = true ∧ K v s := WB_v ft102 rfl as s K
theorem WB103 (s : St) (as : List AV) (K : AV → St → Prop) : WB ft 103 as s K = WV ft 103 (as.map (snap s.mem dep)) fun v => (as.all (fun a => !hot dep a) || plain dep v) = true ∧ K v s := WB_v ft103 rfl as s K
theorem WB104 (s : St) (as : List AV) (K : AV → St → Prop) : WB ft 104 as s K = WV ft 104 (as.map (snap s.mem dep)) fun v => (as.all (fun a => !hot dep a) || plain dep v) = true ∧ K v s := WB_v ft104 rfl as s K
theorem WB105 (s : St) (as : List AV) (K : AV → St → Prop) : WB ft 105 as s K = WR ft (.f 105) as s.mem fun v m => K v (s.setMem m) := WB_r ft105 rfl as s K
theorem WB106 (s : St) (as : List AV) (K : AV → St → Prop) : WB ft 106 as s K = WV ft 106 (as.map (snap s.mem dep)) fun v => (as.all (fun a => !hot dep a) || plain dep v) = true ∧ K v s := WB_v ft106 rfl as s K
theorem WB107 (s : St) (as : List AV) (K : AV → St → Prop) : WB ft 107 as s K = WV ft 107 (as.map (snap s.mem dep)) fun v => (as.all (fun a => !hot dep a) || plain dep v) = true ∧ K v s := WB_v ft107 rfl as s K
theorem WB108 (s : St) (as : List AV) (K : AV → St → Prop) : WB ft 108 as s K = WV ft 108 (as.map (snap s.mem dep)) fun v => (as.all (fun a => !hot dep a) || plain dep v) = true ∧ K v s := WB_v ft108 rfl as s K
theorem WB109 (s : St) (as : List AV) (K : AV → St → Prop) : WB ft 109 as s K = WV ft 109 (as.map (snap s.mem dep)) fun v => (as.all (fun a => !hot dep a) || plain dep v) = true ∧ K v s := WB_v ft109 rfl as s K
theorem WB110 (s : St) (as : List AV) (K : AV → St → Prop) : WB ft 110 as s K = WV ft 110 (as.map (snap s.mem dep)) fun v => (as.all (fun a => !hot dep a) || plain dep v) = true ∧ K v s := WB_v ft110 rfl as s K
theorem WB111 (s : St) (as : List AV) (K : AV → St → Prop) : WB ft 111 as s K = WV ft 111 (as.map (snap s.mem dep)) fun v => (as.all (fun a => !hot dep a) || plain dep v) = true ∧ K v s := WB_v ft111 rfl as s K
theorem WB112 (s : St) (as : List AV) (K : AV → St → Prop) : WB ft 112 as s K = WV ft 112 (as.map (snap s.mem dep)) fun v => (as.all (fun a => !hot dep a) || plain dep v) = true ∧ K v s := WB_v ft112 rfl as s K
theorem WB113 (s : St) (as : List AV) (K : AV → St → Prop) : WB ft 113 as s K = WV ft 113 (as.map (snap s.mem dep)) fun v => (as.all (fun a => !hot dep a) || plain dep v) = true ∧ K v s := WB_v ft113 rfl as s K
theorem WB114 (s : St) (as : List AV) (K : AV → St → Prop) : WB ft 114 as s K = WV ft 114 (as.map (snap s.mem dep)) fun v => (as.all (fun a => !hot dep a) || plain dep v) = true ∧ K v s := WB_v ft114 rfl as s K
theorem WB115 (s : St) (as : List AV) (K : AV → St → Prop) : WB ft 115 as s K = WR ft (.f 115) as s.mem fun v m => K v (s.setMem m) := WB_r ft115 rfl as s K
theorem WB116 (s : St) (as : List AV) (K : AV → St → Prop) : WB ft 116 as s K = WR ft (.f 116) as s.mem fun v m => K v (s.setMem m) := WB_r ft116 rfl as s K
theorem WB117 (s : St) (as : List AV) (K : AV → St → Prop) : WB ft 117 as s K = WR ft (.f 117) as s.mem fun v m => K v (s.setMem m) := WB_r ft117 rfl as s K
theorem WB118 (s : St) (as : List AV) (K : AV → St → Prop) : WB ft 118 as s K = WR ft (.f 118) as s.mem fun v m => K v (s.setMem m) := WB_r ft118 rfl as s K
theorem WB119 (s : St) (as : List AV) (K : AV → St → Prop) : WB ft 119 as s K = WR ft (.f 119) as s.mem fun v m => K v (s.setMem m) := WB_r ft119 rfl as s K
theorem WB120 (s : St) (as : List AV) (K : AV → St → Prop) : WB ft 120 as s K = WR ft (.f 120) as s.mem fun v m => K v (s.setMem m) := WB_r ft120 rfl as s K
theorem WB121 (s : St) (as : List AV) (K : AV → St → Prop) : WB ft 121 as s K = WR ft (.f 121) as s.mem fun v m => K v (s.setMem m) := WB_r ft121 rfl as s K
theorem WB122 (s : St) (as : List AV) (K : AV → St → Prop) : WB ft 122 as s K = WR ft (.f 122) as s.mem fun v m => K v (s.setMem m) := WB_r ft122 rfl as s K
theorem WB123 (s : St) (as : List AV) (K : AV → St → Prop) : WB ft 123 as s K = WV ft 123 (as.map (snap s.mem dep)) fun v => (as.all (fun a => !hot dep a) || plain dep v) = true ∧ K v s := WB_v ft123 rfl as s K
theorem WB124 (s : St) (as : List AV) (K : AV → St → Prop) : WB ft 124 as s K = WV ft 124 (as.map (snap s.mem dep)) fun v => (as.all (fun a => !hot dep a) || plain dep v) = true ∧ K v s := WB_v ft124 rfl as s K
theorem WB125 (s : St) (as : List AV) (K : AV → St → Prop) : WB ft 125 as s K = WV ft 125 (as.map (snap s.mem dep)) fun v => (as.all (fun a => !hot dep a) || plain dep v) = true ∧ K v s := WB_v ft125 rfl as s K
theorem WB126 (s : St) (as : List AV) (K : AV → St → Prop) : WB ft 126 as s K = WR ft (.f 126) as s.mem fun v m => K v (s.setMem m) := WB_r ft126 rfl as s K
theorem WB127 (s : St) (as : List AV) (K : AV → St → Prop) : WB ft 127 as s K = WR ft (.f 127) as s.mem fun v m => K v (s.setMem m) := WB_r ft127 rfl as s K
theorem WB128 (s : St) (as : List AV) (K : AV → St → Prop) : WB ft 128 as s K = WR ft (.f 128) as s.mem fun v m => K v (s.setMem m) := WB_r ft128 rfl as s K
theorem WB129 (s : St) (as : List AV) (K : AV → St → Prop) : WB ft 129 as s K = WR ft (.f 129) as s.mem fun v m => K v (s.setMem m) := WB_r ft129 rfl as s K
theorem WB130 (s : St) (as : List AV) (K : AV → St → Prop) : WB ft 130 as s K = WR ft (.f 130) as s.mem fun v m => K v (s.setMem m) := WB_r ft130 rfl as s K
theorem WB131 (s : St) (as : List AV) (K : AV → St → Prop) : WB ft 131 as s K = WR ft (.f 131) as s.mem fun v m => K v (s.setMem m) := WB_r ft131 rfl as s K
theorem WB132 (s : St) (as : List AV) (K : AV → St → Prop) : WB ft 132 as s K = WR ft (.f 132) as s.mem fun v m => K v (s.setMem m) := WB_r ft132 rfl as s K
theorem WB133 (s : St) (as : List AV) (K : AV → St → Prop) : WB ft 133 as s K = WR ft (.f 133) as s.mem fun v m => K v (s.setMem m) := WB_r ft133 rfl as s K
theorem WB134 (s : St) (as : List AV) (K : AV → St → Prop) : WB ft 134 as s K = WV ft 134 (as.map (snap s.mem dep)) fun v => (as.all (fun a => !hot dep a) || plain dep v) = true ∧ K v s := WB_v ft134 rfl as s K
theorem WB135 (s : St) (as : List AV) (K : AV → St → Prop) : WB ft 135 as s K = WV ft 135 (as.map (snap s.mem dep)) fun v => (as.all (fun a => !hot dep a) || plain dep v) = true ∧ K v s := WB_v ft135 rfl as s K
theorem WB136 (s : St) (as : List AV) (K : AV → St → Prop) : WB ft 136 as s K = WV ft 136 (as.map (snap s.mem dep)) fun v => (as.all (fun a => !hot dep a) || plain dep v) = true ∧ K v s := WB_v ft136 rfl as s K
theorem WB137 (s : St) (as : List AV) (K : AV → St → Prop) : WB ft 137 as s K = WV ft 137 (as.map (snap s.mem dep)) fun v => (as.all (fun a => !hot dep a) || plain dep v) = true ∧ K v s := WB_v ft137 rfl as s K
theorem WB138 (s : St) (as : List AV) (K : AV → St → Prop) : WB ft 138 as s K = WR ft (.f 138) as s.mem fun v m => K v (s.setMem m) := WB_r ft138 rfl as s K
theorem WB139 (s : St) (as : List AV) (K : AV → St → Prop) : WB ft 139 as s K = WV ft 139 (as.map (snap s.mem dep)) fun v => (as.all (fun a => !hot dep a) || plain dep v) = true ∧ K v s := WB_v ft139 rfl as s K
theorem WB140 (s : St) (as : List AV) (K : AV → St → Prop) : WB ft 140 as s K = WR ft (.f 140) as s.mem fun v m => K v (s.setMem m) := WB_r ft140 rfl as s K
theorem WB141 (s : St) (as : List AV) (K : AV → St → Prop) : WB ft 141 as s K = WR ft (.f 141) as s.mem fun v m => K v (s.setMem m) := WB_r ft141 rfl as s K
theorem WB142 (s : St) (as : List AV) (K : AV → St → Prop) : WB ft 142 as s K = WR ft (.f 142) as s.mem fun v m => K v (s.setMem m) := WB_r ft142 rfl as s K
theorem WB143 (s : St) (as : List AV) (K : AV → St → Prop) : WB ft 143 as s K = WR ft (.f 143) as s.mem fun v m => K v (s.setMem m) := WB_r ft143 rfl as s K
theorem WB144 (s : St) (as : List AV) (K : AV → St → Prop) : WB ft 144 as s K = WR ft (.f 144) as s.mem fun v m => K v (s.setMem m) := WB_r ft144 rfl as s K
theorem WB145 (s : St) (as : List AV) (K : AV → St → Prop) : WB ft 145 as s K = WR ft (.f 145) as s.mem fun v m => K v (s.setMem m) := WB_r ft145 rfl as s K
theorem WB146 (s : St) (as : List AV) (K : AV → St → Prop) : WB ft 146 as s K = WV ft 146 (as.map (snap s.mem dep)) fun v => (as.all (fun a => !hot dep a) || plain dep v) = true ∧ K v s := WB_v ft146 rfl as s K
theorem WB147 (s : St) (as : List AV) (K : AV → St → Prop) : WB ft 147 as s K = WV ft 147 (as.map (snap s.mem dep)) fun v => (as.all (fun a => !hot dep a) || plain dep v) = true ∧ K v s := WB_v ft147 rfl as s K
theorem WB148 (s : St) (as : List AV) (K : AV → St → Prop) : WB ft 148 as s K = WR ft (.f 148) as s.mem fun v m => K v (s.setMem m) := WB_r ft148 rfl as s K
theorem WB149 (s : St) (as : List AV) (K : AV → St → Prop) : WB ft 149 as s K = WR ft (.f 149) as s.mem fun v m => K v (s.setMem m) := WB_r ft149 rfl as s K
theorem WF22 (s : St) (as : List AV) (K : AV → St → Prop) : WF ft 22 as s K = WV ft 22 (as.map (snap s.mem dep)) fun v => (as.all (fun a => !hot dep a) || plain dep v) = true ∧ K v s := WF_v ft22 as s K
end Go.Ab.T
end
