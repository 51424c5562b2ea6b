/-
  A part of the proofs over this seat.
  (The texts KsT KsW, one behind the other.)
-/
import Derived.Test.YtapkbaihdcabnaaA0
import Derived.Test.YtapkbaihdcabnaaB1
set_option linter.unusedSimpArgs false
set_option linter.unusedVariables false
set_option linter.unusedSectionVars false
section
namespace Go.Ab.T
def c5 : ACode := .seq (.region [Ob 3 (.box (.t 0) 3),Ob 4 (.box (.t 1) 3),Ob 5 (.box (.t 2) 2),Ob 6 (.mov (.c (.bool false)))])
 (.seq (.seq (.region [Ob 23 (.load (.t 3) (some 3)),Ob 24 (.load (.t 4) (some 3)),Ob 25 (.call 20 [(.t 23), (.t 24)]),Ob 26 (.not (.t 25)),Ob 27 (.mov (.t 26)),Og 28 27 false (.addr (.t 3) 2),Og 29 27 false (.load (.t 28) none),Og 30 27 false (.len (.t 29)),Og 31 27 false (.bin .gtr (.t 30) (Ci 20)),Ob 32 (.pick (.t 27) (.c (.bool true)) (.t 31)),Ob 33 (.mov (.t 32)),Og 34 33 false (.addr (.t 5) 0),Og 35 33 false (.load (.t 34) none),Og 36 33 false (.bin .lss (.t 35) (Ci 0)),Ob 37 (.pick (.t 33) (.c (.bool true)) (.t 36)),Ob 38 (.mov (.t 37)),Og 39 38 false (.addr (.t 5) 0),Og 40 38 false (.load (.t 39) none),Og 41 38 false (.bin .gtr (.t 40) (Ci 100)),Ob 42 (.pick (.t 38) (.c (.bool true)) (.t 41)),Ob 43 (.mov (.t 42)),Og 44 43 false (.addr (.t 5) 1),Og 45 43 false (.load (.t 44) none),Og 46 43 false (.bin .lss (.t 45) (Ci 0)),Ob 47 (.pick (.t 43) (.c (.bool true)) (.t 46)),Ob 48 (.mov (.t 47)),Og 49 48 false (.addr (.t 5) 1),Og 50 48 false (.load (.t 49) none),Og 51 48 false (.addr (.t 3) 2),Og 52 48 false (.load (.t 51) none),Og 53 48 false (.len (.t 52)),Og 54 48 false (.bin .gtr (.t 50) (.t 53)),Ob 55 (.pick (.t 48) (.c (.bool true)) (.t 54))])
 (.cond (.t 55) (.seq (.region [Ob 56 (.call 16 []),Ob 6 (.mov (.t 56))])
 (.ret))
 (.skip)))
 (.seq (.region [Ob 57 (.load (.t 3) (some 3)),Ob 58 (.callf 22 [(.t 57)]),Ob 7 (.new (.agg [(.int .i64 0), (.sl [] .tight), (.sl [] .tight)]) 3),On (.store (.t 7) (.t 58) 3)])
 (.seq (.region [Ob 59 (.addr (.t 7) 2),On (.store (.t 59) (.c (.sl [] .tight)) 1),Ob 60 (.addr (.t 7) 1),On (.store (.t 60) (.c (.sl [] .tight)) 1)])
 (.seq (.seq (.region [Ob 8 (.mov (Ci 0))])
 (.block 0 (.loop (.seq (.seq (.region [Ob 61 (.mov (.t 8)),Ob 62 (.addr (.t 3) 2),Ob 63 (.load (.t 62) none),Ob 64 (.len (.t 63)),Ob 65 (.bin .lss (.t 61) (.t 64))])
 (.cond (.t 65) (.skip)
 (.exit 0)))
 (.seq (.block 1 (.region [Ob 68 (.addr (.t 7) 2),Ob 69 (.load (.t 68) none),Ob 70 (.addr (.t 3) 2),Ob 71 (.load (.t 70) none),Ob 72 (.mov (.t 8)),Ob 73 (.addr (.t 5) 0),Ob 74 (.load (.t 73) none),Ob 75 (.bin .add (.t 72) (.t 74)),Ob 76 (.addr (.t 3) 2),Ob 77 (.load (.t 76) none),Ob 78 (.len (.t 77)),Ob 79 (.bin .rem (.t 75) (.t 78)),Ob 80 (.idx (.t 71) (.t 79) 6),Ob 81 (.load (.t 80) (some 6)),Ob 82 (.addr (.t 3) 2),Ob 83 (.load (.t 82) none),Ob 84 (.mov (.t 8)),Ob 85 (.idx (.t 83) (.t 84) 6),Ob 86 (.load (.t 85) (some 6)),Ob 87 (.lit false 52 6 [(.t 81), (.t 86)]),Ob 88 (.app false (.t 69) (.t 87) 52 6 48),Ob 89 (.addr (.t 7) 2),On (.store (.t 89) (.t 88) 1)]))
 (.region [Ob 66 (.mov (.t 8)),Ob 67 (.bin .add (.t 66) (Ci 1)),Ob 8 (.mov (.t 67))]))))))
 (.seq (.seq (.region [Ob 9 (.mov (Ci 0))])
 (.block 2 (.loop (.seq (.seq (.region [Ob 90 (.mov (.t 9)),Ob 91 (.addr (.t 3) 1),Ob 92 (.load (.t 91) none),Ob 93 (.len (.t 92)),Ob 94 (.bin .lss (.t 90) (.t 93))])
 (.cond (.t 94) (.skip)
 (.exit 2)))
 (.seq (.block 3 (.region [Ob 97 (.addr (.t 7) 1),Ob 98 (.load (.t 97) none),Ob 99 (.addr (.t 3) 1),Ob 100 (.load (.t 99) none),Ob 101 (.mov (.t 9)),Ob 102 (.addr (.t 5) 0),Ob 103 (.load (.t 102) none),Ob 104 (.bin .add (.t 101) (.t 103)),Ob 105 (.addr (.t 3) 1),Ob 106 (.load (.t 105) none),Ob 107 (.len (.t 106)),Ob 108 (.bin .rem (.t 104) (.t 107)),Ob 109 (.idx (.t 100) (.t 108) 9),Ob 110 (.load (.t 109) (some 9)),Ob 111 (.lit false 39 9 [(.t 110)]),Ob 112 (.app false (.t 98) (.t 111) 39 9 104),Ob 113 (.addr (.t 7) 1),On (.store (.t 113) (.t 112) 1)]))
 (.region [Ob 95 (.mov (.t 9)),Ob 96 (.bin .add (.t 95) (Ci 1)),Ob 9 (.mov (.t 96))]))))))
 (.seq (.region [Ob 115 (.load (.t 3) (some 3)),Ob 116 (.addr (.t 4) 0),Ob 117 (.load (.t 116) none),Ob 118 (.addr (.t 4) 1),Ob 119 (.load (.t 118) none),Ob 120 (.call 19 [(.t 115), (.t 117), (.t 119)]),Ob 114 (.mov (.t 120)),Ob 121 (.ext (.t 114) 0),Ob 122 (.ext (.t 114) 1),Ob 10 (.new (.agg [(.int .i64 0), (.int .i64 0), (.int .i64 0), (.int .i64 0), (.int .i64 0), (.int .i64 0)]) 6),On (.store (.t 10) (.t 121) 6),Ob 11 (.mov (.t 122))])
 (.seq (.region [Ob 124 (.load (.t 7) (some 3)),Ob 125 (.addr (.t 4) 0),Ob 126 (.load (.t 125) none),Ob 127 (.addr (.t 4) 1),Ob 128 (.load (.t 127) none),Ob 129 (.call 19 [(.t 124), (.t 126), (.t 128)]),Ob 123 (.mov (.t 129)),Ob 130 (.ext (.t 123) 0),Ob 131 (.ext (.t 123) 1),Ob 12 (.new (.agg [(.int .i64 0), (.int .i64 0), (.int .i64 0), (.int .i64 0), (.int .i64 0), (.int .i64 0)]) 6),On (.store (.t 12) (.t 130) 6),Ob 13 (.mov (.t 131))])
 (.seq (.region [Ob 133 (.load (.t 3) (some 3)),Ob 134 (.addr (.t 4) 0),Ob 135 (.load (.t 134) none),Ob 136 (.addr (.t 4) 1),Ob 137 (.load (.t 136) none),Ob 138 (.call 23 [(.t 133), (.t 135), (.t 137)]),Ob 132 (.mov (.t 138)),Ob 139 (.ext (.t 132) 0),Ob 140 (.ext (.t 132) 1),Ob 14 (.mov (.t 139)),Ob 15 (.mov (.t 140))])
 (.seq (.region [Ob 142 (.load (.t 7) (some 3)),Ob 143 (.addr (.t 4) 0),Ob 144 (.load (.t 143) none),Ob 145 (.addr (.t 4) 1),Ob 146 (.load (.t 145) none),Ob 147 (.call 23 [(.t 142), (.t 144), (.t 146)]),Ob 141 (.mov (.t 147)),Ob 148 (.ext (.t 141) 0),Ob 149 (.ext (.t 141) 1),Ob 16 (.mov (.t 148)),Ob 17 (.mov (.t 149))])
 (.seq (.region [Ob 151 (.load (.t 3) (some 3)),Ob 152 (.call 24 [(.t 151), (.c (.sl [] .tight))]),Ob 150 (.mov (.t 152)),Ob 153 (.ext (.t 150) 0),Ob 154 (.ext (.t 150) 1),Ob 18 (.new (.agg [(.int .i64 0), (.sl [] .tight), (.sl [] .tight)]) 3),On (.store (.t 18) (.t 153) 3),Ob 19 (.mov (.t 154))])
 (.seq (.region [Ob 155 (.load (.t 3) (some 3)),Ob 156 (.callf 22 [(.t 155)]),Ob 20 (.new (.agg [(.int .i64 0), (.sl [] .tight), (.sl [] .tight)]) 3),On (.store (.t 20) (.t 156) 3)])
 (.seq (.region [Ob 157 (.addr (.t 3) 2),Ob 158 (.load (.t 157) none),Ob 159 (.addr (.t 5) 1),Ob 160 (.load (.t 159) none),Ob 161 (.slice (.t 158) none (some (.t 160)) 6),Ob 162 (.addr (.t 20) 2),On (.store (.t 162) (.t 161) 1)])
 (.seq (.region [Ob 164 (.load (.t 20) (some 3)),Ob 165 (.addr (.t 3) 2),Ob 166 (.load (.t 165) none),Ob 167 (.addr (.t 5) 1),Ob 168 (.load (.t 167) none),Ob 169 (.slice (.t 166) (some (.t 168)) none 6),On (.mov (.c .undef)),Ob 170 (.call 24 [(.t 164), (.t 169)]),Ob 163 (.mov (.t 170)),Ob 171 (.ext (.t 163) 0),Ob 172 (.ext (.t 163) 1),Ob 21 (.box (.t 171) 3),Ob 22 (.mov (.t 172))])
 (.seq (.region [Ob 173 (.mov (.t 11)),Ob 174 (.bin .eql (.t 173) (Ci 0)),Ob 175 (.mov (.t 174)),Og 176 175 true (.mov (.t 13)),Og 177 175 true (.bin .eql (.t 176) (Ci 0)),Ob 178 (.pick (.t 175) (.t 177) (.c (.bool false))),Ob 179 (.mov (.t 178)),Og 180 179 true (.mov (.t 15)),Og 181 179 true (.bin .eql (.t 180) (Ci 0)),Ob 182 (.pick (.t 179) (.t 181) (.c (.bool false))),Ob 183 (.mov (.t 182)),Og 184 183 true (.mov (.t 17)),Og 185 183 true (.bin .eql (.t 184) (Ci 0)),Ob 186 (.pick (.t 183) (.t 185) (.c (.bool false))),Ob 187 (.mov (.t 186)),Og 188 187 true (.mov (.t 19)),Og 189 187 true (.bin .eql (.t 188) (Ci 0)),Ob 190 (.pick (.t 187) (.t 189) (.c (.bool false))),Ob 191 (.mov (.t 190)),Og 192 191 true (.mov (.t 22)),Og 193 191 true (.bin .eql (.t 192) (Ci 0)),Ob 194 (.pick (.t 191) (.t 193) (.c (.bool false))),Ob 195 (.mov (.t 194)),Og 196 195 true (.load (.t 10) (some 6)),Og 197 195 true (.load (.t 12) (some 6)),Og 198 195 true (.eqv false true [.i,.i,.i,.i,.i,.i] (.t 196) (.t 197)),Ob 199 (.pick (.t 195) (.t 198) (.c (.bool false))),Ob 200 (.mov (.t 199)),Og 201 200 true (.mov (.t 14)),Og 202 200 true (.mov (.t 16)),Og 203 200 true (.bin .eql (.t 201) (.t 202)),Ob 204 (.pick (.t 200) (.t 203) (.c (.bool false))),Ob 205 (.mov (.t 204)),Og 206 205 true (.load (.t 18) (some 3)),Og 207 205 true (.load (.t 21) (some 3)),Og 208 205 true (.call 25 [(.t 206), (.t 207)]),Ob 209 (.pick (.t 205) (.t 208) (.c (.bool false))),Ob 210 (.mov (.t 209)),Og 211 210 true (.call 16 []),Ob 212 (.pick (.t 210) (.t 211) (.c (.bool false))),Ob 6 (.mov (.t 212))])
 (.ret)))))))))))))))
def r5 : List Res := [.t 6]
def a5 : AFn := ⟨3, c5, r5,.v⟩
def c14 : ACode := .seq (.region [Ob 1 (.box (.t 0) 3),Ob 2 (.mov (.c (.bool false)))])
 (.seq (.seq (.region [Ob 4 (.addr (.t 1) 1),Ob 5 (.load (.t 4) none),Ob 6 (.len (.t 5)),Ob 7 (.bin .gtr (.t 6) (Ci 20)),Ob 8 (.mov (.t 7)),Og 9 8 false (.addr (.t 1) 2),Og 10 8 false (.load (.t 9) none),Og 11 8 false (.len (.t 10)),Og 12 8 false (.bin .gtr (.t 11) (Ci 60)),Ob 13 (.pick (.t 8) (.c (.bool true)) (.t 12))])
 (.cond (.t 13) (.seq (.region [Ob 2 (.mov (.c (.bool true)))])
 (.ret))
 (.skip)))
 (.seq (.seq (.region [Ob 3 (.mov (Ci 0))])
 (.block 0 (.loop (.seq (.seq (.region [Ob 14 (.mov (.t 3)),Ob 15 (.addr (.t 1) 1),Ob 16 (.load (.t 15) none),Ob 17 (.len (.t 16)),Ob 18 (.bin .lss (.t 14) (.t 17))])
 (.cond (.t 18) (.skip)
 (.exit 0)))
 (.seq (.block 1 (.seq (.region [Ob 21 (.addr (.t 1) 1),Ob 22 (.load (.t 21) none),Ob 23 (.mov (.t 3)),Ob 24 (.idx (.t 22) (.t 23) 9),Ob 25 (.addr (.t 24) 3),Ob 26 (.load (.t 25) none),Ob 27 (.len (.t 26)),Ob 28 (.bin .gtr (.t 27) (Ci 30)),Ob 29 (.mov (.t 28)),Og 30 29 false (.addr (.t 1) 1),Og 31 29 false (.load (.t 30) none),Og 32 29 false (.mov (.t 3)),Og 33 29 false (.idx (.t 31) (.t 32) 9),Og 34 29 false (.addr (.t 33) 4),Og 35 29 false (.load (.t 34) none),Og 36 29 false (.len (.t 35)),Og 37 29 false (.bin .gtr (.t 36) (Ci 30)),Ob 38 (.pick (.t 29) (.c (.bool true)) (.t 37))])
 (.cond (.t 38) (.seq (.region [Ob 2 (.mov (.c (.bool true)))])
 (.ret))
 (.skip))))
 (.region [Ob 19 (.mov (.t 3)),Ob 20 (.bin .add (.t 19) (Ci 1)),Ob 3 (.mov (.t 20))]))))))
 (.seq (.region [Ob 2 (.mov (.c (.bool false)))])
 (.ret))))
def r14 : List Res := [.t 2]
def a14 : AFn := ⟨1, c14, r14,.v⟩
def c15 : ACode := .seq (.region [Ob 1 (.box (.t 0) 3),Ob 2 (.mov (Ci 0))])
 (.seq (.seq (.region [Ob 3 (.load (.t 1) (some 3)),Ob 4 (.call 38 [(.t 3)]),Ob 5 (.not (.t 4))])
 (.cond (.t 5) (.seq (.region [Ob 2 (.mov (Ci 80))])
 (.ret))
 (.skip)))
 (.seq (.seq (.region [Ob 6 (.addr (.t 1) 2),Ob 7 (.load (.t 6) none),Ob 8 (.len (.t 7)),Ob 9 (.bin .gtr (.t 8) (Ci 40)),Ob 10 (.mov (.t 9)),Og 11 10 false (.load (.t 1) (some 3)),Og 12 10 false (.addr (.t 1) 2),Og 13 10 false (.load (.t 12) none),Og 14 10 false (.call 39 [(.t 11), (.t 13)]),Og 15 10 false (.not (.t 14)),Ob 16 (.pick (.t 10) (.c (.bool true)) (.t 15))])
 (.cond (.t 16) (.seq (.region [Ob 2 (.mov (Ci 81))])
 (.ret))
 (.skip)))
 (.seq (.region [Ob 2 (.mov (Ci 0))])
 (.ret))))
def r15 : List Res := [.t 2]
def a15 : AFn := ⟨1, c15, r15,.v⟩
def c16 : ACode := .seq (.region [Ob 0 (.mov (.c (.bool false)))])
 (.seq (.region [Ob 8 (.call 40 []),Ob 1 (.new (.agg [(.int .i64 0), (.sl [] .tight), (.sl [] .tight)]) 3),On (.store (.t 1) (.t 8) 3)])
 (.seq (.region [Ob 10 (.load (.t 1) (some 3)),Ob 11 (.call 19 [(.t 10), (Ci 5), (Ci 10)]),Ob 9 (.mov (.t 11)),Ob 12 (.ext (.t 9) 0),Ob 13 (.ext (.t 9) 1),Ob 2 (.new (.agg [(.int .i64 0), (.int .i64 0), (.int .i64 0), (.int .i64 0), (.int .i64 0), (.int .i64 0)]) 6),On (.store (.t 2) (.t 12) 6),Ob 3 (.mov (.t 13))])
 (.seq (.region [Ob 15 (.load (.t 1) (some 3)),Ob 16 (.call 23 [(.t 15), (Ci 5), (Ci 12)]),Ob 14 (.mov (.t 16)),Ob 17 (.ext (.t 14) 0),Ob 18 (.ext (.t 14) 1),Ob 4 (.mov (.t 17)),Ob 5 (.mov (.t 18))])
 (.seq (.region [Ob 20 (.load (.t 1) (some 3)),Ob 21 (.call 30 [(.t 20), (Ci 5), (Ci 11), (Ci 3000)]),Ob 19 (.mov (.t 21)),Ob 22 (.ext (.t 19) 0),Ob 23 (.ext (.t 19) 1),Ob 6 (.mov (.t 22)),Ob 7 (.mov (.t 23))])
 (.seq (.region [Ob 24 (.mov (.t 3)),Ob 25 (.bin .eql (.t 24) (Ci 0)),Ob 26 (.mov (.t 25)),Og 27 26 true (.mov (.t 5)),Og 28 26 true (.bin .eql (.t 27) (Ci 0)),Ob 29 (.pick (.t 26) (.t 28) (.c (.bool false))),Ob 30 (.mov (.t 29)),Og 31 30 true (.mov (.t 7)),Og 32 30 true (.bin .eql (.t 31) (Ci 0)),Ob 33 (.pick (.t 30) (.t 32) (.c (.bool false))),Ob 34 (.mov (.t 33)),Og 35 34 true (.load (.t 2) (some 6)),Og 36 34 true (.build [(.int .i64 0), (.int .i64 0), (.int .i64 0), (.int .i64 0), (.int .i64 0), (.int .i64 0)] [(0, 1, (Ci 30000)), (1, 1, (Ci 3000)), (2, 1, (Ci 27000)), (3, 1, (Ci 18900)), (4, 1, (Ci 8100)), (5, 1, (Ci 1))]),Og 37 34 true (.eqv false true [.i,.i,.i,.i,.i,.i] (.t 35) (.t 36)),Ob 38 (.pick (.t 34) (.t 37) (.c (.bool false))),Ob 39 (.mov (.t 38)),Og 40 39 true (.mov (.t 4)),Og 41 39 true (.bin .eql (.t 40) (Ci 40000)),Ob 42 (.pick (.t 39) (.t 41) (.c (.bool false))),Ob 43 (.mov (.t 42)),Og 44 43 true (.mov (.t 6)),Og 45 43 true (.bin .eql (.t 44) (Ci 3333)),Ob 46 (.pick (.t 43) (.t 45) (.c (.bool false))),Ob 0 (.mov (.t 46))])
 (.ret))))))
def r16 : List Res := [.t 0]
def a16 : AFn := ⟨0, c16, r16,.v⟩
def c19 : ACode := .seq (.region [Ob 3 (.box (.t 0) 3),Ob 6 (.new (.agg [(.int .i64 0), (.int .i64 0), (.int .i64 0), (.int .i64 0), (.int .i64 0), (.int .i64 0)]) 6),Ob 7 (.mov (Ci 0))])
 (.seq (.region [Ob 11 (.load (.t 3) (some 3)),Ob 12 (.mov (.t 1)),Ob 13 (.mov (.t 2)),Ob 14 (.call 45 [(.t 11), (.t 12), (.t 13)]),Ob 10 (.mov (.t 14)),Ob 15 (.ext (.t 10) 0),Ob 16 (.ext (.t 10) 1),Ob 8 (.new (.agg [(.int .i64 0), (.int .i64 0), (.int .i64 0), (.sl [] .tight), (.sl [] .tight), (.int .i64 0), (.int .i64 0), (.int .i64 0), (.int .i64 0)]) 9),On (.store (.t 8) (.t 15) 9),Ob 9 (.mov (.t 16))])
 (.seq (.seq (.region [Ob 17 (.mov (.t 9)),Ob 18 (.bin .neq (.t 17) (Ci 0))])
 (.cond (.t 18) (.seq (.region [Ob 19 (.build [(.int .i64 0), (.int .i64 0), (.int .i64 0), (.int .i64 0), (.int .i64 0), (.int .i64 0)] []),Ob 20 (.mov (.t 9)),On (.store (.t 6) (.t 19) 6),Ob 7 (.mov (.t 20))])
 (.ret))
 (.skip)))
 (.seq (.region [Ob 21 (.load (.t 3) (some 3)),Ob 22 (.load (.t 8) (some 9)),Ob 23 (.mov (.t 2)),Ob 24 (.call 44 [(.t 21), (.t 22), (.t 23)]),On (.store (.t 6) (.t 24) 6),Ob 7 (.mov (Ci 0))])
 (.ret))))
def r19 : List Res := [.cell 6 (some 6),.t 7]
def a19 : AFn := ⟨3, c19, r19,.v⟩
def c20 : ACode := .seq (.region [Ob 2 (.box (.t 0) 3),Ob 3 (.box (.t 1) 3),Ob 4 (.mov (.c (.bool false)))])
 (.seq (.seq (.region [Ob 7 (.load (.t 2) (some 3)),Ob 8 (.call 14 [(.t 7)]),Ob 9 (.mov (.t 8)),Og 10 9 false (.load (.t 2) (some 3)),Og 11 9 false (.call 15 [(.t 10)]),Og 12 9 false (.bin .neq (.t 11) (Ci 0)),Ob 13 (.pick (.t 9) (.c (.bool true)) (.t 12))])
 (.cond (.t 13) (.seq (.region [Ob 4 (.mov (.c (.bool false)))])
 (.ret))
 (.skip)))
 (.seq (.region [Ob 15 (.load (.t 2) (some 3)),Ob 16 (.addr (.t 3) 0),Ob 17 (.load (.t 16) none),Ob 18 (.call 21 [(.t 15), (.t 17)]),Ob 14 (.mov (.t 18)),Ob 19 (.ext (.t 14) 0),Ob 20 (.ext (.t 14) 1),Ob 5 (.new (.agg [(.int .i64 0), (.int .i64 0), (.int .i64 0), (.sl [] .tight), (.sl [] .tight), (.int .i64 0), (.int .i64 0), (.int .i64 0), (.int .i64 0)]) 9),On (.store (.t 5) (.t 19) 9),Ob 6 (.mov (.t 20))])
 (.seq (.region [Ob 21 (.mov (.t 6)),Ob 22 (.mov (.t 21)),Og 23 22 true (.addr (.t 5) 1),Og 24 22 true (.load (.t 23) none),Og 25 22 true (.addr (.t 3) 1),Og 26 22 true (.load (.t 25) none),Og 27 22 true (.bin .leq (.t 24) (.t 26)),Ob 28 (.pick (.t 22) (.t 27) (.c (.bool false))),Ob 29 (.mov (.t 28)),Og 30 29 true (.addr (.t 3) 1),Og 31 29 true (.load (.t 30) none),Og 32 29 true (.addr (.t 5) 2),Og 33 29 true (.load (.t 32) none),Og 34 29 true (.bin .leq (.t 31) (.t 33)),Ob 35 (.pick (.t 29) (.t 34) (.c (.bool false))),Ob 4 (.mov (.t 35))])
 (.ret))))
def r20 : List Res := [.t 4]
def a20 : AFn := ⟨2, c20, r20,.v⟩
def c21 : ACode := .seq (.region [Ob 2 (.box (.t 0) 3),Ob 4 (.new (.agg [(.int .i64 0), (.int .i64 0), (.int .i64 0), (.sl [] .tight), (.sl [] .tight), (.int .i64 0), (.int .i64 0), (.int .i64 0), (.int .i64 0)]) 9),Ob 5 (.mov (.c (.bool false)))])
 (.seq (.seq (.region [Ob 6 (.mov (Ci 0))])
 (.block 0 (.loop (.seq (.seq (.region [Ob 7 (.mov (.t 6)),Ob 8 (.addr (.t 2) 1),Ob 9 (.load (.t 8) none),Ob 10 (.len (.t 9)),Ob 11 (.bin .lss (.t 7) (.t 10))])
 (.cond (.t 11) (.skip)
 (.exit 0)))
 (.seq (.block 1 (.seq (.region [Ob 14 (.addr (.t 2) 1),Ob 15 (.load (.t 14) none),Ob 16 (.mov (.t 6)),Ob 17 (.idx (.t 15) (.t 16) 9),Ob 18 (.addr (.t 17) 0),Ob 19 (.load (.t 18) none),Ob 20 (.mov (.t 1)),Ob 21 (.bin .eql (.t 19) (.t 20))])
 (.cond (.t 21) (.seq (.region [Ob 22 (.addr (.t 2) 1),Ob 23 (.load (.t 22) none),Ob 24 (.mov (.t 6)),Ob 25 (.idx (.t 23) (.t 24) 9),Ob 26 (.load (.t 25) (some 9)),On (.store (.t 4) (.t 26) 9),Ob 5 (.mov (.c (.bool true)))])
 (.ret))
 (.skip))))
 (.region [Ob 12 (.mov (.t 6)),Ob 13 (.bin .add (.t 12) (Ci 1)),Ob 6 (.mov (.t 13))]))))))
 (.seq (.region [Ob 27 (.build [(.int .i64 0), (.int .i64 0), (.int .i64 0), (.sl [] .tight), (.sl [] .tight), (.int .i64 0), (.int .i64 0), (.int .i64 0), (.int .i64 0)] []),On (.store (.t 4) (.t 27) 9),Ob 5 (.mov (.c (.bool false)))])
 (.ret)))
def r21 : List Res := [.cell 4 (some 9),.t 5]
def a21 : AFn := ⟨2, c21, r21,.v⟩
def c22 : ACode := .seq (.region [Ob 1 (.box (.t 0) 3),Ob 2 (.new (.agg [(.int .i64 0), (.sl [] .tight), (.sl [] .tight)]) 3)])
 (.seq (.regionD [Ob 6 (.addr (.t 1) 0),Ob 7 (.load (.t 6) none),Ob 8 (.lit false 52 6 []),Ob 9 (.addr (.t 1) 2),Ob 10 (.load (.t 9) none),On (.mov (.c .undef)),Ob 11 (.app false (.t 8) (.t 10) 52 6 48),Ob 12 (.build [(.int .i64 0), (.sl [] .tight), (.sl [] .tight)] [(0, 1, (.t 7)), (2, 1, (.t 11))]),Ob 3 (.box (.t 12) 3)] [(1, 8), (6, 8)])
 (.seq (.seq (.region [Ob 4 (.mov (Ci 0))])
 (.block 0 (.loop (.seq (.seq (.region [Ob 13 (.mov (.t 4)),Ob 14 (.addr (.t 1) 1),Ob 15 (.load (.t 14) none),Ob 16 (.len (.t 15)),Ob 17 (.bin .lss (.t 13) (.t 16))])
 (.cond (.t 17) (.skip)
 (.exit 0)))
 (.seq (.block 1 (.seq (.region [Ob 20 (.addr (.t 1) 1),Ob 21 (.load (.t 20) none),Ob 22 (.mov (.t 4)),Ob 23 (.idx (.t 21) (.t 22) 9),Ob 24 (.load (.t 23) (some 9)),Ob 5 (.new (.agg [(.int .i64 0), (.int .i64 0), (.int .i64 0), (.sl [] .tight), (.sl [] .tight), (.int .i64 0), (.int .i64 0), (.int .i64 0), (.int .i64 0)]) 9),On (.store (.t 5) (.t 24) 9)])
 (.seq (.regionD [Ob 25 (.lit false 3 1 []),Ob 26 (.addr (.t 5) 3),Ob 27 (.load (.t 26) none),Ob 29 (.lit false 47 2 []),Ob 30 (.addr (.t 5) 4),Ob 31 (.load (.t 30) none),Ob 28 (.app false (.t 25) (.t 27) 3 1 8),Ob 33 (.addr (.t 5) 3),Ob 32 (.app false (.t 29) (.t 31) 47 2 16),On (.store (.t 33) (.t 28) 1),Ob 34 (.addr (.t 5) 4),On (.store (.t 34) (.t 32) 1)] [(5, 25), (30, 25), (5, 29)])
 (.region [Ob 35 (.addr (.t 3) 1),Ob 36 (.load (.t 35) none),Ob 37 (.load (.t 5) (some 9)),Ob 38 (.lit false 39 9 [(.t 37)]),Ob 39 (.app false (.t 36) (.t 38) 39 9 104),Ob 40 (.addr (.t 3) 1),On (.store (.t 40) (.t 39) 1)]))))
 (.region [Ob 18 (.mov (.t 4)),Ob 19 (.bin .add (.t 18) (Ci 1)),Ob 4 (.mov (.t 19))]))))))
 (.seq (.region [Ob 41 (.load (.t 3) (some 3)),On (.store (.t 2) (.t 41) 3)])
 (.ret))))
def r22 : List Res := [.cell 2 (some 3)]
def a22 : AFn := ⟨1, c22, r22,.o⟩
def c23 : ACode := .seq (.region [Ob 3 (.box (.t 0) 3),Ob 6 (.mov (Ci 0)),Ob 7 (.mov (Ci 0))])
 (.seq (.seq (.region [Ob 11 (.load (.t 3) (some 3)),Ob 12 (.call 31 [(.t 11)]),Ob 8 (.mov (.t 12))])
 (.seq (.region [Ob 13 (.mov (.t 8)),Ob 14 (.bin .neq (.t 13) (Ci 0))])
 (.cond (.t 14) (.seq (.region [Ob 15 (.mov (.t 8)),Ob 6 (.mov (Ci 0)),Ob 7 (.mov (.t 15))])
 (.ret))
 (.skip))))
 (.seq (.region [Ob 17 (.addr (.t 3) 1),Ob 18 (.load (.t 17) none),Ob 19 (.mov (.t 1)),Ob 20 (.call 46 [(.t 18), (.t 19)]),Ob 16 (.mov (.t 20)),Ob 21 (.ext (.t 16) 0),Ob 22 (.ext (.t 16) 1),Ob 9 (.new (.agg [(.int .i64 0), (.int .i64 0), (.int .i64 0), (.sl [] .tight), (.sl [] .tight), (.int .i64 0), (.int .i64 0), (.int .i64 0), (.int .i64 0)]) 9),On (.store (.t 9) (.t 21) 9),Ob 10 (.mov (.t 22))])
 (.seq (.seq (.region [Ob 23 (.mov (.t 10)),Ob 24 (.not (.t 23)),Ob 25 (.mov (.t 24)),Og 26 25 false (.mov (.t 2)),Og 27 25 false (.call 47 [(.t 26)]),Og 28 25 false (.not (.t 27)),Ob 29 (.pick (.t 25) (.c (.bool true)) (.t 28))])
 (.cond (.t 29) (.seq (.region [Ob 6 (.mov (Ci 0)),Ob 7 (.mov (Ci 1))])
 (.ret))
 (.skip)))
 (.seq (.region [Ob 30 (.load (.t 3) (some 3)),Ob 31 (.load (.t 9) (some 9)),Ob 32 (.mov (.t 2)),Ob 33 (.call 48 [(.t 30), (.t 31), (.t 32)]),Ob 6 (.mov (.t 33)),Ob 7 (.mov (Ci 0))])
 (.ret)))))
def r23 : List Res := [.t 6,.t 7]
def a23 : AFn := ⟨3, c23, r23,.v⟩
def c24 : ACode := .seq (.region [Ob 2 (.box (.t 0) 3),Ob 4 (.new (.agg [(.int .i64 0), (.sl [] .tight), (.sl [] .tight)]) 3),Ob 5 (.mov (Ci 0))])
 (.seq (.seq (.region [Ob 8 (.load (.t 2) (some 3)),Ob 9 (.call 31 [(.t 8)]),Ob 6 (.mov (.t 9))])
 (.seq (.region [Ob 10 (.mov (.t 6)),Ob 11 (.bin .neq (.t 10) (Ci 0))])
 (.cond (.t 11) (.seq (.region [Ob 12 (.build [(.int .i64 0), (.sl [] .tight), (.sl [] .tight)] []),Ob 13 (.mov (.t 6)),On (.store (.t 4) (.t 12) 3),Ob 5 (.mov (.t 13))])
 (.ret))
 (.skip))))
 (.seq (.seq (.region [Ob 14 (.load (.t 2) (some 3)),Ob 15 (.mov (.t 1)),Ob 16 (.call 49 [(.t 14), (.t 15)]),Ob 17 (.not (.t 16))])
 (.cond (.t 17) (.seq (.region [Ob 18 (.build [(.int .i64 0), (.sl [] .tight), (.sl [] .tight)] []),On (.store (.t 4) (.t 18) 3),Ob 5 (.mov (Ci 81))])
 (.ret))
 (.skip)))
 (.seq (.region [Ob 19 (.addr (.t 2) 2),Ob 20 (.load (.t 19) none),Ob 21 (.mov (.t 1)),Ob 22 (.call 50 [(.t 20), (.t 21)]),Ob 7 (.mov (.t 22))])
 (.seq (.seq (.region [Ob 23 (.mov (.t 7)),Ob 24 (.len (.t 23)),Ob 25 (.bin .gtr (.t 24) (Ci 40)),Ob 26 (.mov (.t 25)),Og 27 26 false (.mov (.t 7)),Og 28 26 false (.call 51 [(.t 27)]),Ob 29 (.pick (.t 26) (.c (.bool true)) (.t 28))])
 (.cond (.t 29) (.seq (.region [Ob 30 (.build [(.int .i64 0), (.sl [] .tight), (.sl [] .tight)] []),On (.store (.t 4) (.t 30) 3),Ob 5 (.mov (Ci 81))])
 (.ret))
 (.skip)))
 (.seq (.region [Ob 31 (.addr (.t 2) 0),Ob 32 (.load (.t 31) none),Ob 33 (.addr (.t 2) 1),Ob 34 (.load (.t 33) none),Ob 35 (.call 52 [(.t 34)]),Ob 36 (.mov (.t 7)),Ob 37 (.build [(.int .i64 0), (.sl [] .tight), (.sl [] .tight)] [(0, 1, (.t 32)), (1, 1, (.t 35)), (2, 1, (.t 36))]),On (.store (.t 4) (.t 37) 3),Ob 5 (.mov (Ci 0))])
 (.ret))))))
def r24 : List Res := [.cell 4 (some 3),.t 5]
def a24 : AFn := ⟨2, c24, r24,.v⟩
def c25 : ACode := .seq (.region [Ob 2 (.box (.t 0) 3),Ob 3 (.box (.t 1) 3),Ob 4 (.mov (.c (.bool false)))])
 (.seq (.seq (.region [Ob 6 (.addr (.t 2) 0),Ob 7 (.load (.t 6) none),Ob 8 (.addr (.t 3) 0),Ob 9 (.load (.t 8) none),Ob 10 (.bin .neq (.t 7) (.t 9)),Ob 11 (.mov (.t 10)),Og 12 11 false (.addr (.t 2) 1),Og 13 11 false (.load (.t 12) none),Og 14 11 false (.len (.t 13)),Og 15 11 false (.addr (.t 3) 1),Og 16 11 false (.load (.t 15) none),Og 17 11 false (.len (.t 16)),Og 18 11 false (.bin .neq (.t 14) (.t 17)),Ob 19 (.pick (.t 11) (.c (.bool true)) (.t 18)),Ob 20 (.mov (.t 19)),Og 21 20 false (.addr (.t 2) 2),Og 22 20 false (.load (.t 21) none),Og 23 20 false (.addr (.t 3) 2),Og 24 20 false (.load (.t 23) none),Og 25 20 false (.call 53 [(.t 22), (.t 24)]),Og 26 20 false (.not (.t 25)),Ob 27 (.pick (.t 20) (.c (.bool true)) (.t 26))])
 (.cond (.t 27) (.seq (.region [Ob 4 (.mov (.c (.bool false)))])
 (.ret))
 (.skip)))
 (.seq (.seq (.region [Ob 5 (.mov (Ci 0))])
 (.block 0 (.loop (.seq (.seq (.region [Ob 28 (.mov (.t 5)),Ob 29 (.addr (.t 2) 1),Ob 30 (.load (.t 29) none),Ob 31 (.len (.t 30)),Ob 32 (.bin .lss (.t 28) (.t 31))])
 (.cond (.t 32) (.skip)
 (.exit 0)))
 (.seq (.block 1 (.seq (.region [Ob 35 (.addr (.t 2) 1),Ob 36 (.load (.t 35) none),Ob 37 (.mov (.t 5)),Ob 38 (.idx (.t 36) (.t 37) 9),Ob 39 (.load (.t 38) (some 9)),Ob 40 (.addr (.t 3) 1),Ob 41 (.load (.t 40) none),Ob 42 (.mov (.t 5)),Ob 43 (.idx (.t 41) (.t 42) 9),Ob 44 (.load (.t 43) (some 9)),Ob 45 (.call 54 [(.t 39), (.t 44)]),Ob 46 (.not (.t 45))])
 (.cond (.t 46) (.seq (.region [Ob 4 (.mov (.c (.bool false)))])
 (.ret))
 (.skip))))
 (.region [Ob 33 (.mov (.t 5)),Ob 34 (.bin .add (.t 33) (Ci 1)),Ob 5 (.mov (.t 34))]))))))
 (.seq (.region [Ob 4 (.mov (.c (.bool true)))])
 (.ret))))
def r25 : List Res := [.t 4]
def a25 : AFn := ⟨2, c25, r25,.v⟩
def c30 : ACode := .seq (.region [Ob 4 (.box (.t 0) 3),Ob 6 (.box (.t 2) 1),Ob 7 (.box (.t 3) 1),Ob 8 (.mov (Ci 0)),Ob 9 (.mov (Ci 0))])
 (.seq (.region [Ob 14 (.load (.t 4) (some 3)),Ob 15 (.mov (.t 1)),Ob 16 (.load (.t 6) none),Ob 17 (.call 45 [(.t 14), (.t 15), (.t 16)]),Ob 13 (.mov (.t 17)),Ob 18 (.ext (.t 13) 0),Ob 19 (.ext (.t 13) 1),Ob 10 (.new (.agg [(.int .i64 0), (.int .i64 0), (.int .i64 0), (.sl [] .tight), (.sl [] .tight), (.int .i64 0), (.int .i64 0), (.int .i64 0), (.int .i64 0)]) 9),On (.store (.t 10) (.t 18) 9),Ob 11 (.mov (.t 19))])
 (.seq (.seq (.region [Ob 20 (.mov (.t 11)),Ob 21 (.bin .neq (.t 20) (Ci 0))])
 (.cond (.t 21) (.seq (.region [Ob 22 (.mov (.t 11)),Ob 8 (.mov (Ci 0)),Ob 9 (.mov (.t 22))])
 (.ret))
 (.skip)))
 (.seq (.seq (.region [Ob 23 (.load (.t 7) none),Ob 24 (.call 59 [(.t 23)]),Ob 25 (.not (.t 24))])
 (.cond (.t 25) (.seq (.region [Ob 8 (.mov (Ci 0)),Ob 9 (.mov (Ci 1))])
 (.ret))
 (.skip)))
 (.seq (.region [Ob 26 (.clo 61 [] [(.t 4), (.t 10), (.t 6), (.t 7)]),Ob 27 (.call 60 [(Ci 10000001), (.t 26)]),Ob 12 (.mov (.t 27))])
 (.seq (.seq (.region [Ob 28 (.mov (.t 12)),Ob 29 (.bin .gtr (.t 28) (Ci 10000000))])
 (.cond (.t 29) (.seq (.region [Ob 8 (.mov (Ci 0)),Ob 9 (.mov (Ci 3))])
 (.ret))
 (.skip)))
 (.seq (.region [Ob 30 (.mov (.t 12)),Ob 8 (.mov (.t 30)),Ob 9 (.mov (Ci 0))])
 (.ret)))))))
def r30 : List Res := [.t 8,.t 9]
def a30 : AFn := ⟨4, c30, r30,.v⟩
def c31 : ACode := .seq (.region [Ob 1 (.box (.t 0) 3),Ob 2 (.mov (Ci 0))])
 (.seq (.block 0 (.seq (.region [Ob 4 (.load (.t 1) (some 3)),Ob 5 (.call 63 [(.t 4)]),Ob 6 (.not (.t 5)),Ob 3 (.mov (.t 6))])
 (.cond (.t 3) (.seq (.region [Ob 2 (.mov (Ci 80))])
 (.ret))
 (.seq (.region [Ob 8 (.load (.t 1) (some 3)),Ob 9 (.addr (.t 1) 2),Ob 10 (.load (.t 9) none),Ob 11 (.call 49 [(.t 8), (.t 10)]),Ob 12 (.not (.t 11)),Ob 13 (.mov (.t 12)),Og 14 13 false (.addr (.t 1) 2),Og 15 13 false (.load (.t 14) none),Og 16 13 false (.call 51 [(.t 15)]),Ob 17 (.pick (.t 13) (.c (.bool true)) (.t 16)),Ob 7 (.mov (.t 17))])
 (.cond (.t 7) (.seq (.region [Ob 2 (.mov (Ci 81))])
 (.ret))
 (.skip))))))
 (.seq (.region [Ob 2 (.mov (Ci 0))])
 (.ret)))
def r31 : List Res := [.t 2]
def a31 : AFn := ⟨1, c31, r31,.v⟩
def c38 : ACode := .seq (.region [Ob 1 (.box (.t 0) 3),Ob 2 (.mov (.c (.bool false)))])
 (.seq (.seq (.region [Ob 3 (.mov (Ci 0))])
 (.block 0 (.loop (.seq (.seq (.region [Ob 5 (.mov (.t 3)),Ob 6 (.addr (.t 1) 1),Ob 7 (.load (.t 6) none),Ob 8 (.len (.t 7)),Ob 9 (.bin .lss (.t 5) (.t 8))])
 (.cond (.t 9) (.skip)
 (.exit 0)))
 (.seq (.block 1 (.seq (.seq (.region [Ob 12 (.addr (.t 1) 1),Ob 13 (.load (.t 12) none),Ob 14 (.mov (.t 3)),Ob 15 (.idx (.t 13) (.t 14) 9),Ob 16 (.load (.t 15) (some 9)),Ob 17 (.call 68 [(.t 16)]),Ob 18 (.not (.t 17))])
 (.cond (.t 18) (.seq (.region [Ob 2 (.mov (.c (.bool false)))])
 (.ret))
 (.skip)))
 (.seq (.region [Ob 4 (.mov (Ci 0))])
 (.block 2 (.loop (.seq (.seq (.region [Ob 19 (.mov (.t 4)),Ob 20 (.mov (.t 3)),Ob 21 (.bin .lss (.t 19) (.t 20))])
 (.cond (.t 21) (.skip)
 (.exit 2)))
 (.seq (.block 3 (.seq (.region [Ob 24 (.addr (.t 1) 1),Ob 25 (.load (.t 24) none),Ob 26 (.mov (.t 4)),Ob 27 (.idx (.t 25) (.t 26) 9),Ob 28 (.addr (.t 27) 0),Ob 29 (.load (.t 28) none),Ob 30 (.addr (.t 1) 1),Ob 31 (.load (.t 30) none),Ob 32 (.mov (.t 3)),Ob 33 (.idx (.t 31) (.t 32) 9),Ob 34 (.addr (.t 33) 0),Ob 35 (.load (.t 34) none),Ob 36 (.bin .eql (.t 29) (.t 35))])
 (.cond (.t 36) (.seq (.region [Ob 2 (.mov (.c (.bool false)))])
 (.ret))
 (.skip))))
 (.region [Ob 22 (.mov (.t 4)),Ob 23 (.bin .add (.t 22) (Ci 1)),Ob 4 (.mov (.t 23))]))))))))
 (.region [Ob 10 (.mov (.t 3)),Ob 11 (.bin .add (.t 10) (Ci 1)),Ob 3 (.mov (.t 11))]))))))
 (.seq (.region [Ob 37 (.addr (.t 1) 0),Ob 38 (.load (.t 37) none),Ob 39 (.call 55 [(.t 38), (Ci 0), (Ci 500)]),Ob 40 (.mov (.t 39)),Og 41 40 true (.addr (.t 1) 1),Og 42 40 true (.load (.t 41) none),Og 43 40 true (.len (.t 42)),Og 44 40 true (.bin .leq (.t 43) (Ci 6)),Ob 45 (.pick (.t 40) (.t 44) (.c (.bool false))),Ob 2 (.mov (.t 45))])
 (.ret)))
def r38 : List Res := [.t 2]
def a38 : AFn := ⟨1, c38, r38,.v⟩
def c39 : ACode := .seq (.region [Ob 2 (.box (.t 0) 3),Ob 4 (.mov (.c (.bool false)))])
 (.seq (.seq (.region [Ob 5 (.mov (Ci 0))])
 (.block 0 (.loop (.seq (.seq (.region [Ob 10 (.mov (.t 5)),Ob 11 (.mov (.t 1)),Ob 12 (.len (.t 11)),Ob 13 (.bin .lss (.t 10) (.t 12))])
 (.cond (.t 13) (.skip)
 (.exit 0)))
 (.seq (.block 1 (.seq (.region [Ob 16 (.mov (.t 1)),Ob 17 (.mov (.t 5)),Ob 18 (.idx (.t 16) (.t 17) 6),Ob 19 (.load (.t 18) (some 6)),Ob 6 (.new (.agg [(.int .i64 0), (.int .i64 0), (.int .i64 0), (.int .i64 0), (.int .i64 0), (.int .i64 0)]) 6),On (.store (.t 6) (.t 19) 6)])
 (.seq (.region [Ob 21 (.load (.t 2) (some 3)),Ob 22 (.addr (.t 6) 2),Ob 23 (.load (.t 22) none),Ob 24 (.call 21 [(.t 21), (.t 23)]),Ob 20 (.mov (.t 24)),Ob 25 (.ext (.t 20) 0),Ob 26 (.ext (.t 20) 1),Ob 7 (.new (.agg [(.int .i64 0), (.int .i64 0), (.int .i64 0), (.sl [] .tight), (.sl [] .tight), (.int .i64 0), (.int .i64 0), (.int .i64 0), (.int .i64 0)]) 9),On (.store (.t 7) (.t 25) 9),Ob 8 (.mov (.t 26))])
 (.seq (.seq (.region [Ob 27 (.mov (.t 8)),Ob 28 (.not (.t 27)),Ob 29 (.mov (.t 28)),Og 30 29 false (.addr (.t 6) 0),Og 31 29 false (.load (.t 30) none),Og 32 29 false (.call 55 [(.t 31), (Ci 0), (Ci 99)]),Og 33 29 false (.not (.t 32)),Ob 34 (.pick (.t 29) (.c (.bool true)) (.t 33)),Ob 35 (.mov (.t 34)),Og 36 35 false (.addr (.t 6) 1),Og 37 35 false (.load (.t 36) none),Og 38 35 false (.bin .neq (.t 37) (Ci 1)),Og 39 35 false (.mov (.t 38)),Og 40 39 true (.addr (.t 6) 1),Og 41 39 true (.load (.t 40) none),Og 42 39 true (.bin .neq (.t 41) (Ci 2)),Og 43 35 false (.pick (.t 39) (.t 42) (.c (.bool false))),Ob 44 (.pick (.t 35) (.c (.bool true)) (.t 43)),Ob 45 (.mov (.t 44)),Og 46 45 false (.addr (.t 6) 3),Og 47 45 false (.load (.t 46) none),Og 48 45 false (.addr (.t 7) 1),Og 49 45 false (.load (.t 48) none),Og 50 45 false (.addr (.t 7) 2),Og 51 45 false (.load (.t 50) none),Og 52 45 false (.call 55 [(.t 47), (.t 49), (.t 51)]),Og 53 45 false (.not (.t 52)),Ob 54 (.pick (.t 45) (.c (.bool true)) (.t 53)),Ob 55 (.mov (.t 54)),Og 56 55 false (.addr (.t 6) 4),Og 57 55 false (.load (.t 56) none),Og 58 55 false (.call 55 [(.t 57), (Ci 0), (Ci 9)]),Og 59 55 false (.not (.t 58)),Ob 60 (.pick (.t 55) (.c (.bool true)) (.t 59)),Ob 61 (.mov (.t 60)),Og 62 61 false (.addr (.t 6) 5),Og 63 61 false (.load (.t 62) none),Og 64 61 false (.call 55 [(.t 63), (Ci 0), (Ci 10000000)]),Og 65 61 false (.not (.t 64)),Ob 66 (.pick (.t 61) (.c (.bool true)) (.t 65))])
 (.cond (.t 66) (.seq (.region [Ob 4 (.mov (.c (.bool false)))])
 (.ret))
 (.skip)))
 (.seq (.region [Ob 9 (.mov (Ci 0))])
 (.block 2 (.loop (.seq (.seq (.region [Ob 67 (.mov (.t 9)),Ob 68 (.mov (.t 5)),Ob 69 (.bin .lss (.t 67) (.t 68))])
 (.cond (.t 69) (.skip)
 (.exit 2)))
 (.seq (.block 3 (.seq (.region [Ob 72 (.mov (.t 1)),Ob 73 (.mov (.t 9)),Ob 74 (.idx (.t 72) (.t 73) 6),Ob 75 (.addr (.t 74) 0),Ob 76 (.load (.t 75) none),Ob 77 (.addr (.t 6) 0),Ob 78 (.load (.t 77) none),Ob 79 (.bin .eql (.t 76) (.t 78)),Ob 80 (.mov (.t 79)),Og 81 80 true (.mov (.t 1)),Og 82 80 true (.mov (.t 9)),Og 83 80 true (.idx (.t 81) (.t 82) 6),Og 84 80 true (.load (.t 83) (some 6)),Og 85 80 true (.load (.t 6) (some 6)),Og 86 80 true (.eqv true true [.i,.i,.i,.i,.i,.i] (.t 84) (.t 85)),Ob 87 (.pick (.t 80) (.t 86) (.c (.bool false)))])
 (.cond (.t 87) (.seq (.region [Ob 4 (.mov (.c (.bool false)))])
 (.ret))
 (.skip))))
 (.region [Ob 70 (.mov (.t 9)),Ob 71 (.bin .add (.t 70) (Ci 1)),Ob 9 (.mov (.t 71))]))))))))))
 (.region [Ob 14 (.mov (.t 5)),Ob 15 (.bin .add (.t 14) (Ci 1)),Ob 5 (.mov (.t 15))]))))))
 (.seq (.region [Ob 4 (.mov (.c (.bool true)))])
 (.ret)))
def r39 : List Res := [.t 4]
def a39 : AFn := ⟨2, c39, r39,.v⟩
def c40 : ACode := .seq (.region [Ob 0 (.new (.agg [(.int .i64 0), (.sl [] .tight), (.sl [] .tight)]) 3)])
 (.seq (.region [Ob 1 (.lit false 3 1 [(Ci 600), (Ci 500)]),Ob 2 (.build [(.int .i64 0), (.int .i64 0)] [(0, 1, (Ci 20000)), (1, 1, (Ci 700))]),Ob 3 (.lit false 47 2 [(.t 2)]),Ob 4 (.build [(.int .i64 0), (.int .i64 0), (.int .i64 0), (.sl [] .tight), (.sl [] .tight), (.int .i64 0), (.int .i64 0), (.int .i64 0), (.int .i64 0)] [(0, 1, (Ci 5)), (1, 1, (Ci 10)), (2, 1, (Ci 12)), (3, 1, (.t 1)), (4, 1, (.t 3)), (5, 1, (Ci 8000)), (6, 1, (Ci 900)), (7, 1, (Ci 3000)), (8, 1, (Ci 40000))]),Ob 5 (.lit false 39 9 [(.t 4)]),Ob 6 (.build [(.int .i64 0), (.int .i64 0), (.int .i64 0), (.int .i64 0), (.int .i64 0), (.int .i64 0)] [(0, 1, (Ci 1)), (1, 1, (Ci 1)), (2, 1, (Ci 5)), (3, 1, (Ci 10)), (5, 1, (Ci 20000))]),Ob 7 (.build [(.int .i64 0), (.int .i64 0), (.int .i64 0), (.int .i64 0), (.int .i64 0), (.int .i64 0)] [(0, 1, (Ci 2)), (1, 1, (Ci 1)), (2, 1, (Ci 5)), (3, 1, (Ci 10)), (4, 1, (Ci 1)), (5, 1, (Ci 10000))]),Ob 8 (.build [(.int .i64 0), (.int .i64 0), (.int .i64 0), (.int .i64 0), (.int .i64 0), (.int .i64 0)] [(0, 1, (Ci 3)), (1, 1, (Ci 1)), (2, 1, (Ci 5)), (3, 1, (Ci 11)), (5, 1, (Ci 5000))]),Ob 9 (.build [(.int .i64 0), (.int .i64 0), (.int .i64 0), (.int .i64 0), (.int .i64 0), (.int .i64 0)] [(0, 1, (Ci 4)), (1, 1, (Ci 1)), (2, 1, (Ci 5)), (3, 1, (Ci 11)), (5, 1, (Ci 4000))]),Ob 10 (.build [(.int .i64 0), (.int .i64 0), (.int .i64 0), (.int .i64 0), (.int .i64 0), (.int .i64 0)] [(0, 1, (Ci 5)), (1, 1, (Ci 2)), (2, 1, (Ci 5)), (3, 1, (Ci 12)), (5, 1, (Ci 10001))]),Ob 11 (.lit false 52 6 [(.t 6), (.t 7), (.t 8), (.t 9), (.t 10)]),Ob 12 (.build [(.int .i64 0), (.sl [] .tight), (.sl [] .tight)] [(0, 1, (Ci 100)), (1, 1, (.t 5)), (2, 1, (.t 11))]),On (.store (.t 0) (.t 12) 3)])
 (.ret))
def r40 : List Res := [.cell 0 (some 3)]
def a40 : AFn := ⟨0, c40, r40,.v⟩
def c42 : ACode := .seq (.region [Ob 2 (.box (.t 0) 9),Ob 4 (.mov (.c (.bool false)))])
 (.seq (.region [Ob 5 (.mov (.t 1)),Ob 6 (.addr (.t 2) 1),Ob 7 (.load (.t 6) none),Ob 8 (.addr (.t 2) 2),Ob 9 (.load (.t 8) none),Ob 10 (.call 69 [(.t 5), (.t 7), (.t 9)]),Ob 4 (.mov (.t 10))])
 (.ret))
def r42 : List Res := [.t 4]
def a42 : AFn := ⟨2, c42, r42,.v⟩
def c44 : ACode := .seq (.region [Ob 3 (.box (.t 0) 3),Ob 4 (.box (.t 1) 9),Ob 6 (.new (.agg [(.int .i64 0), (.int .i64 0), (.int .i64 0), (.int .i64 0), (.int .i64 0), (.int .i64 0)]) 6)])
 (.seq (.region [Ob 7 (.addr (.t 3) 0),Ob 8 (.load (.t 7) none),Ob 9 (.load (.t 4) (some 9)),Ob 10 (.mov (.t 2)),Ob 11 (.addr (.t 3) 2),Ob 12 (.load (.t 11) none),Ob 13 (.addr (.t 4) 0),Ob 14 (.load (.t 13) none),Ob 15 (.mov (.t 2)),Ob 16 (.call 70 [(.t 12), (.t 14), (.t 15)]),Ob 17 (.call 62 [(.t 8), (.t 9), (.t 10), (.t 16)]),On (.store (.t 6) (.t 17) 6)])
 (.ret))
def r44 : List Res := [.cell 6 (some 6)]
def a44 : AFn := ⟨3, c44, r44,.v⟩
def c45 : ACode := .seq (.region [Ob 3 (.box (.t 0) 3),Ob 6 (.new (.agg [(.int .i64 0), (.int .i64 0), (.int .i64 0), (.sl [] .tight), (.sl [] .tight), (.int .i64 0), (.int .i64 0), (.int .i64 0), (.int .i64 0)]) 9),Ob 7 (.mov (Ci 0))])
 (.seq (.seq (.region [Ob 11 (.load (.t 3) (some 3)),Ob 12 (.call 31 [(.t 11)]),Ob 8 (.mov (.t 12))])
 (.seq (.region [Ob 13 (.mov (.t 8)),Ob 14 (.bin .neq (.t 13) (Ci 0))])
 (.cond (.t 14) (.seq (.region [Ob 15 (.build [(.int .i64 0), (.int .i64 0), (.int .i64 0), (.sl [] .tight), (.sl [] .tight), (.int .i64 0), (.int .i64 0), (.int .i64 0), (.int .i64 0)] []),Ob 16 (.mov (.t 8)),On (.store (.t 6) (.t 15) 9),Ob 7 (.mov (.t 16))])
 (.ret))
 (.skip))))
 (.seq (.region [Ob 18 (.addr (.t 3) 1),Ob 19 (.load (.t 18) none),Ob 20 (.mov (.t 1)),Ob 21 (.call 46 [(.t 19), (.t 20)]),Ob 17 (.mov (.t 21)),Ob 22 (.ext (.t 17) 0),Ob 23 (.ext (.t 17) 1),Ob 9 (.new (.agg [(.int .i64 0), (.int .i64 0), (.int .i64 0), (.sl [] .tight), (.sl [] .tight), (.int .i64 0), (.int .i64 0), (.int .i64 0), (.int .i64 0)]) 9),On (.store (.t 9) (.t 22) 9),Ob 10 (.mov (.t 23))])
 (.seq (.seq (.region [Ob 24 (.mov (.t 10)),Ob 25 (.not (.t 24)),Ob 26 (.mov (.t 25)),Og 27 26 false (.load (.t 9) (some 9)),Og 28 26 false (.mov (.t 2)),Og 29 26 false (.call 42 [(.t 27), (.t 28)]),Og 30 26 false (.not (.t 29)),Ob 31 (.pick (.t 26) (.c (.bool true)) (.t 30))])
 (.cond (.t 31) (.seq (.region [Ob 32 (.build [(.int .i64 0), (.int .i64 0), (.int .i64 0), (.sl [] .tight), (.sl [] .tight), (.int .i64 0), (.int .i64 0), (.int .i64 0), (.int .i64 0)] []),On (.store (.t 6) (.t 32) 9),Ob 7 (.mov (Ci 1))])
 (.ret))
 (.skip)))
 (.seq (.region [Ob 33 (.load (.t 9) (some 9)),On (.store (.t 6) (.t 33) 9),Ob 7 (.mov (Ci 0))])
 (.ret)))))
def r45 : List Res := [.cell 6 (some 9),.t 7]
def a45 : AFn := ⟨3, c45, r45,.v⟩
def c46 : ACode := .seq (.region [Ob 3 (.box (.t 1) 1),Ob 4 (.new (.agg [(.int .i64 0), (.int .i64 0), (.int .i64 0), (.sl [] .tight), (.sl [] .tight), (.int .i64 0), (.int .i64 0), (.int .i64 0), (.int .i64 0)]) 9),Ob 5 (.mov (.c (.bool false)))])
 (.seq (.region [Ob 7 (.mov (.t 0)),Ob 8 (.clo 72 [] [(.t 3)]),Ob 9 (.call 71 [(.t 7), (.t 8)]),Ob 6 (.mov (.t 9))])
 (.seq (.seq (.region [Ob 10 (.mov (.t 6)),Ob 11 (.bin .lss (.t 10) (Ci 0))])
 (.cond (.t 11) (.seq (.region [Ob 12 (.build [(.int .i64 0), (.int .i64 0), (.int .i64 0), (.sl [] .tight), (.sl [] .tight), (.int .i64 0), (.int .i64 0), (.int .i64 0), (.int .i64 0)] []),On (.store (.t 4) (.t 12) 9),Ob 5 (.mov (.c (.bool false)))])
 (.ret))
 (.skip)))
 (.seq (.region [Ob 13 (.mov (.t 0)),Ob 14 (.mov (.t 6)),Ob 15 (.idx (.t 13) (.t 14) 9),Ob 16 (.load (.t 15) (some 9)),On (.store (.t 4) (.t 16) 9),Ob 5 (.mov (.c (.bool true)))])
 (.ret))))
def r46 : List Res := [.cell 4 (some 9),.t 5]
def a46 : AFn := ⟨2, c46, r46,.v⟩
def c47 : ACode := .seq (.region [Ob 2 (.mov (.c (.bool false)))])
 (.seq (.region [Ob 3 (.mov (.t 0)),Ob 4 (.call 69 [(.t 3), (Ci 0), (Ci 99)]),Ob 2 (.mov (.t 4))])
 (.ret))
def r47 : List Res := [.t 2]
def a47 : AFn := ⟨1, c47, r47,.v⟩
def c48 : ACode := .seq (.region [Ob 3 (.box (.t 0) 3),Ob 4 (.box (.t 1) 9),Ob 6 (.mov (Ci 0))])
 (.seq (.region [Ob 7 (.mov (Ci 0))])
 (.seq (.seq (.region [Ob 9 (.addr (.t 4) 1),Ob 10 (.load (.t 9) none),Ob 8 (.mov (.t 10))])
 (.block 0 (.loop (.seq (.seq (.region [Ob 11 (.mov (.t 8)),Ob 12 (.mov (.t 2)),Ob 13 (.addr (.t 4) 2),Ob 14 (.load (.t 13) none),Ob 15 (.mnx false (.t 12) (.t 14)),Ob 16 (.bin .leq (.t 11) (.t 15))])
 (.cond (.t 16) (.skip)
 (.exit 0)))
 (.seq (.block 1 (.region [Ob 19 (.mov (.t 7)),Ob 20 (.load (.t 3) (some 3)),Ob 21 (.load (.t 4) (some 9)),Ob 22 (.mov (.t 8)),Ob 23 (.call 44 [(.t 20), (.t 21), (.t 22)]),Ob 24 (.fld (.t 23) 3 none),Ob 25 (.bin .add (.t 19) (.t 24)),Ob 7 (.mov (.t 25))]))
 (.region [Ob 17 (.mov (.t 8)),Ob 18 (.bin .add (.t 17) (Ci 1)),Ob 8 (.mov (.t 18))]))))))
 (.seq (.seq (.region [Ob 26 (.mov (.t 2)),Ob 27 (.addr (.t 4) 2),Ob 28 (.load (.t 27) none),Ob 29 (.bin .lss (.t 26) (.t 28))])
 (.cond (.t 29) (.seq (.region [Ob 30 (.mov (.t 7)),Ob 6 (.mov (.t 30))])
 (.ret))
 (.skip)))
 (.seq (.region [Ob 31 (.mov (.t 7)),Ob 32 (.addr (.t 4) 8),Ob 33 (.load (.t 32) none),Ob 34 (.mnx true (.t 31) (.t 33)),Ob 6 (.mov (.t 34))])
 (.ret)))))
def r48 : List Res := [.t 6]
def a48 : AFn := ⟨3, c48, r48,.v⟩
def c49 : ACode := .seq (.region [Ob 2 (.box (.t 0) 3),Ob 4 (.mov (.c (.bool false)))])
 (.seq (.region [Ob 5 (.mov (.t 1)),Ob 6 (.len (.t 5)),Ob 7 (.bin .leq (.t 6) (Ci 40)),Ob 8 (.mov (.t 7)),Og 9 8 true (.mov (.t 1)),Og 10 8 true (.clo 74 [] [(.t 2)]),Og 11 8 true (.call 73 [(.t 9), (.t 10)]),Ob 12 (.pick (.t 8) (.t 11) (.c (.bool false))),Ob 4 (.mov (.t 12))])
 (.ret))
def r49 : List Res := [.t 4]
def a49 : AFn := ⟨2, c49, r49,.v⟩
def c50 : ACode := .seq (.region [Ob 4 (.mov (.c (.sl [] .tight)))])
 (.seq (.region [Ob 6 (.mov (.t 0)),Ob 7 (.mov (.t 1)),Ob 8 (.lit false 23 1 [(.t 6), (.t 7)]),Ob 9 (.call 76 [(.t 8)]),Ob 5 (.mov (.t 9))])
 (.seq (.region [Ob 10 (.mov (.t 5)),Ob 11 (.call 77 [(.t 10), (.c (.fn 78 [] []))])])
 (.seq (.region [Ob 12 (.mov (.t 5)),Ob 13 (.call 80 [(.t 12)]),Ob 4 (.mov (.t 13))])
 (.ret))))
def r50 : List Res := [.t 4]
def a50 : AFn := ⟨2, c50, r50,.v⟩
def c51 : ACode := .seq (.region [Ob 2 (.mov (.c (.bool false)))])
 (.seq (.region [Ob 8 (.mkmap .i),Ob 3 (.mov (.t 8))])
 (.seq (.seq (.region [Ob 9 (.mov (.t 0)),Ob 10 (.len (.t 9)),Ob 11 (.mov (Ci 0))])
 (.block 0 (.loop (.seq (.region [Ob 12 (.bin .lss (.t 11) (.t 10))])
 (.seq (.cond (.t 12) (.skip)
 (.exit 0))
 (.seq (.block 1 (.seq (.region [Ob 13 (.idx (.t 9) (.t 11) 6),Ob 14 (.load (.t 13) (some 6)),Ob 5 (.new (.agg [(.int .i64 0), (.int .i64 0), (.int .i64 0), (.int .i64 0), (.int .i64 0), (.int .i64 0)]) 6),On (.store (.t 5) (.t 14) 6)])
 (.seq (.seq (.region [Ob 16 (.mov (.t 3)),Ob 17 (.addr (.t 5) 0),Ob 18 (.load (.t 17) none),Ob 19 (.mget .i (.agg [(.int .i64 0), (.int .i64 0), (.int .i64 0), (.int .i64 0), (.int .i64 0), (.int .i64 0)]) true (.t 16) (.t 18)),Ob 15 (.mov (.t 19)),Ob 20 (.ext (.t 15) 0),Ob 21 (.ext (.t 15) 1),Ob 6 (.new (.agg [(.int .i64 0), (.int .i64 0), (.int .i64 0), (.int .i64 0), (.int .i64 0), (.int .i64 0)]) 6),On (.store (.t 6) (.t 20) 6),Ob 7 (.mov (.t 21))])
 (.seq (.region [Ob 22 (.mov (.t 7)),Ob 23 (.mov (.t 22)),Og 24 23 true (.load (.t 5) (some 6)),Og 25 23 true (.load (.t 6) (some 6)),Og 26 23 true (.eqv true true [.i,.i,.i,.i,.i,.i] (.t 24) (.t 25)),Ob 27 (.pick (.t 23) (.t 26) (.c (.bool false)))])
 (.cond (.t 27) (.seq (.region [Ob 2 (.mov (.c (.bool true)))])
 (.ret))
 (.skip))))
 (.region [Ob 28 (.mov (.t 3)),Ob 29 (.addr (.t 5) 0),Ob 30 (.load (.t 29) none),Ob 31 (.load (.t 5) (some 6)),On (.mput .i (.t 28) (.t 30) (.t 31))]))))
 (.region [Ob 32 (.bin .add (.t 11) (Ci 1)),Ob 11 (.mov (.t 32))])))))))
 (.seq (.region [Ob 2 (.mov (.c (.bool false)))])
 (.ret))))
def r51 : List Res := [.t 2]
def a51 : AFn := ⟨1, c51, r51,.v⟩
def c52 : ACode := .seq (.region [Ob 2 (.mov (.c (.sl [] .tight)))])
 (.seq (.region [Ob 4 (.mov (.t 0)),Ob 5 (.call 81 [(.t 4)]),Ob 0 (.mov (.t 5))])
 (.seq (.seq (.region [Ob 6 (.mov (.t 0)),Ob 7 (.len (.t 6)),Ob 8 (.mov (Ci 0))])
 (.block 0 (.loop (.seq (.region [Ob 9 (.bin .lss (.t 8) (.t 7))])
 (.seq (.cond (.t 9) (.skip)
 (.exit 0))
 (.seq (.block 1 (.seq (.region [Ob 10 (.mov (.t 8)),Ob 3 (.mov (.t 10))])
 (.seq (.region [Ob 11 (.mov (.t 0)),Ob 12 (.mov (.t 3)),Ob 13 (.mov (.t 0)),Ob 14 (.mov (.t 3)),Ob 15 (.idx (.t 13) (.t 14) 9),Ob 16 (.addr (.t 15) 3),Ob 17 (.load (.t 16) none),Ob 18 (.call 82 [(.t 17)]),Ob 19 (.idx (.t 11) (.t 12) 9),Ob 20 (.addr (.t 19) 3),On (.store (.t 20) (.t 18) 1)])
 (.region [Ob 21 (.mov (.t 0)),Ob 22 (.mov (.t 3)),Ob 23 (.mov (.t 0)),Ob 24 (.mov (.t 3)),Ob 25 (.idx (.t 23) (.t 24) 9),Ob 26 (.addr (.t 25) 4),Ob 27 (.load (.t 26) none),Ob 28 (.call 83 [(.t 27)]),Ob 29 (.idx (.t 21) (.t 22) 9),Ob 30 (.addr (.t 29) 4),On (.store (.t 30) (.t 28) 1)]))))
 (.region [Ob 31 (.bin .add (.t 8) (Ci 1)),Ob 8 (.mov (.t 31))])))))))
 (.seq (.region [Ob 32 (.mov (.t 0)),Ob 2 (.mov (.t 32))])
 (.ret))))
def r52 : List Res := [.t 2]
def a52 : AFn := ⟨1, c52, r52,.v⟩
def c53 : ACode := .seq (.region [Ob 4 (.mov (.c (.bool false)))])
 (.seq (.seq (.region [Ob 6 (.mov (.t 0)),Ob 7 (.len (.t 6)),Ob 8 (.mov (.t 1)),Ob 9 (.len (.t 8)),Ob 10 (.bin .neq (.t 7) (.t 9))])
 (.cond (.t 10) (.seq (.region [Ob 4 (.mov (.c (.bool false)))])
 (.ret))
 (.skip)))
 (.seq (.seq (.region [Ob 5 (.mov (Ci 0))])
 (.block 0 (.loop (.seq (.seq (.region [Ob 11 (.mov (.t 5)),Ob 12 (.mov (.t 0)),Ob 13 (.len (.t 12)),Ob 14 (.bin .lss (.t 11) (.t 13))])
 (.cond (.t 14) (.skip)
 (.exit 0)))
 (.seq (.block 1 (.seq (.region [Ob 17 (.mov (.t 0)),Ob 18 (.mov (.t 5)),Ob 19 (.idx (.t 17) (.t 18) 6),Ob 20 (.load (.t 19) (some 6)),Ob 21 (.mov (.t 1)),Ob 22 (.mov (.t 5)),Ob 23 (.idx (.t 21) (.t 22) 6),Ob 24 (.load (.t 23) (some 6)),Ob 25 (.eqv true true [.i,.i,.i,.i,.i,.i] (.t 20) (.t 24))])
 (.cond (.t 25) (.seq (.region [Ob 4 (.mov (.c (.bool false)))])
 (.ret))
 (.skip))))
 (.region [Ob 15 (.mov (.t 5)),Ob 16 (.bin .add (.t 15) (Ci 1)),Ob 5 (.mov (.t 16))]))))))
 (.seq (.region [Ob 4 (.mov (.c (.bool true)))])
 (.ret))))
def r53 : List Res := [.t 4]
def a53 : AFn := ⟨2, c53, r53,.v⟩
def c54 : ACode := .seq (.region [Ob 2 (.box (.t 0) 9),Ob 3 (.box (.t 1) 9),Ob 4 (.mov (.c (.bool false)))])
 (.seq (.seq (.region [Ob 7 (.addr (.t 2) 0),Ob 8 (.load (.t 7) none),Ob 9 (.addr (.t 3) 0),Ob 10 (.load (.t 9) none),Ob 11 (.bin .neq (.t 8) (.t 10)),Ob 12 (.mov (.t 11)),Og 13 12 false (.addr (.t 2) 1),Og 14 12 false (.load (.t 13) none),Og 15 12 false (.addr (.t 3) 1),Og 16 12 false (.load (.t 15) none),Og 17 12 false (.bin .neq (.t 14) (.t 16)),Ob 18 (.pick (.t 12) (.c (.bool true)) (.t 17)),Ob 19 (.mov (.t 18)),Og 20 19 false (.addr (.t 2) 2),Og 21 19 false (.load (.t 20) none),Og 22 19 false (.addr (.t 3) 2),Og 23 19 false (.load (.t 22) none),Og 24 19 false (.bin .neq (.t 21) (.t 23)),Ob 25 (.pick (.t 19) (.c (.bool true)) (.t 24)),Ob 26 (.mov (.t 25)),Og 27 26 false (.addr (.t 2) 3),Og 28 26 false (.load (.t 27) none),Og 29 26 false (.len (.t 28)),Og 30 26 false (.addr (.t 3) 3),Og 31 26 false (.load (.t 30) none),Og 32 26 false (.len (.t 31)),Og 33 26 false (.bin .neq (.t 29) (.t 32)),Ob 34 (.pick (.t 26) (.c (.bool true)) (.t 33)),Ob 35 (.mov (.t 34)),Og 36 35 false (.addr (.t 2) 4),Og 37 35 false (.load (.t 36) none),Og 38 35 false (.len (.t 37)),Og 39 35 false (.addr (.t 3) 4),Og 40 35 false (.load (.t 39) none),Og 41 35 false (.len (.t 40)),Og 42 35 false (.bin .neq (.t 38) (.t 41)),Ob 43 (.pick (.t 35) (.c (.bool true)) (.t 42)),Ob 44 (.mov (.t 43)),Og 45 44 false (.addr (.t 2) 5),Og 46 44 false (.load (.t 45) none),Og 47 44 false (.addr (.t 3) 5),Og 48 44 false (.load (.t 47) none),Og 49 44 false (.bin .neq (.t 46) (.t 48)),Ob 50 (.pick (.t 44) (.c (.bool true)) (.t 49)),Ob 51 (.mov (.t 50)),Og 52 51 false (.addr (.t 2) 6),Og 53 51 false (.load (.t 52) none),Og 54 51 false (.addr (.t 3) 6),Og 55 51 false (.load (.t 54) none),Og 56 51 false (.bin .neq (.t 53) (.t 55)),Ob 57 (.pick (.t 51) (.c (.bool true)) (.t 56)),Ob 58 (.mov (.t 57)),Og 59 58 false (.addr (.t 2) 7),Og 60 58 false (.load (.t 59) none),Og 61 58 false (.addr (.t 3) 7),Og 62 58 false (.load (.t 61) none),Og 63 58 false (.bin .neq (.t 60) (.t 62)),Ob 64 (.pick (.t 58) (.c (.bool true)) (.t 63)),Ob 65 (.mov (.t 64)),Og 66 65 false (.addr (.t 2) 8),Og 67 65 false (.load (.t 66) none),Og 68 65 false (.addr (.t 3) 8),Og 69 65 false (.load (.t 68) none),Og 70 65 false (.bin .neq (.t 67) (.t 69)),Ob 71 (.pick (.t 65) (.c (.bool true)) (.t 70))])
 (.cond (.t 71) (.seq (.region [Ob 4 (.mov (.c (.bool false)))])
 (.ret))
 (.skip)))
 (.seq (.seq (.region [Ob 5 (.mov (Ci 0))])
 (.block 0 (.loop (.seq (.seq (.region [Ob 72 (.mov (.t 5)),Ob 73 (.addr (.t 2) 3),Ob 74 (.load (.t 73) none),Ob 75 (.len (.t 74)),Ob 76 (.bin .lss (.t 72) (.t 75))])
 (.cond (.t 76) (.skip)
 (.exit 0)))
 (.seq (.block 1 (.seq (.region [Ob 79 (.addr (.t 2) 3),Ob 80 (.load (.t 79) none),Ob 81 (.mov (.t 5)),Ob 82 (.idx (.t 80) (.t 81) 1),Ob 83 (.load (.t 82) none),Ob 84 (.addr (.t 3) 3),Ob 85 (.load (.t 84) none),Ob 86 (.mov (.t 5)),Ob 87 (.idx (.t 85) (.t 86) 1),Ob 88 (.load (.t 87) none),Ob 89 (.bin .neq (.t 83) (.t 88))])
 (.cond (.t 89) (.seq (.region [Ob 4 (.mov (.c (.bool false)))])
 (.ret))
 (.skip))))
 (.region [Ob 77 (.mov (.t 5)),Ob 78 (.bin .add (.t 77) (Ci 1)),Ob 5 (.mov (.t 78))]))))))
 (.seq (.seq (.region [Ob 6 (.mov (Ci 0))])
 (.block 2 (.loop (.seq (.seq (.region [Ob 90 (.mov (.t 6)),Ob 91 (.addr (.t 2) 4),Ob 92 (.load (.t 91) none),Ob 93 (.len (.t 92)),Ob 94 (.bin .lss (.t 90) (.t 93))])
 (.cond (.t 94) (.skip)
 (.exit 2)))
 (.seq (.block 3 (.seq (.region [Ob 97 (.addr (.t 2) 4),Ob 98 (.load (.t 97) none),Ob 99 (.mov (.t 6)),Ob 100 (.idx (.t 98) (.t 99) 2),Ob 101 (.load (.t 100) (some 2)),Ob 102 (.addr (.t 3) 4),Ob 103 (.load (.t 102) none),Ob 104 (.mov (.t 6)),Ob 105 (.idx (.t 103) (.t 104) 2),Ob 106 (.load (.t 105) (some 2)),Ob 107 (.eqv true true [.i,.i] (.t 101) (.t 106))])
 (.cond (.t 107) (.seq (.region [Ob 4 (.mov (.c (.bool false)))])
 (.ret))
 (.skip))))
 (.region [Ob 95 (.mov (.t 6)),Ob 96 (.bin .add (.t 95) (Ci 1)),Ob 6 (.mov (.t 96))]))))))
 (.seq (.region [Ob 4 (.mov (.c (.bool true)))])
 (.ret)))))
def r54 : List Res := [.t 4]
def a54 : AFn := ⟨2, c54, r54,.v⟩
def c55 : ACode := .seq (.region [Ob 6 (.mov (.c (.bool false)))])
 (.seq (.region [Ob 7 (.mov (.t 0)),Ob 8 (.mov (.t 1)),Ob 9 (.bin .geq (.t 7) (.t 8)),Ob 10 (.mov (.t 9)),Og 11 10 true (.mov (.t 0)),Og 12 10 true (.mov (.t 2)),Og 13 10 true (.bin .leq (.t 11) (.t 12)),Ob 14 (.pick (.t 10) (.t 13) (.c (.bool false))),Ob 6 (.mov (.t 14))])
 (.ret))
def r55 : List Res := [.t 6]
def a55 : AFn := ⟨3, c55, r55,.v⟩
def c59 : ACode := .seq (.region [Ob 2 (.mov (.c (.bool false)))])
 (.seq (.region [Ob 3 (.mov (.t 0)),Ob 4 (.call 69 [(.t 3), (Ci 0), (Ci 10000000)]),Ob 2 (.mov (.t 4))])
 (.ret))
def r59 : List Res := [.t 2]
def a59 : AFn := ⟨1, c59, r59,.v⟩
def c60 : ACode := .seq (.region [Ob 4 (.mov (Ci 0))])
 (.seq (.region [Ob 8 (.mov (.t 0)),Ob 5 (.mov (Ci 0)),Ob 6 (.mov (.t 8))])
 (.seq (.block 0 (.loop (.seq (.seq (.region [Ob 9 (.mov (.t 5)),Ob 10 (.mov (.t 6)),Ob 11 (.bin .lss (.t 9) (.t 10))])
 (.cond (.t 11) (.skip)
 (.exit 0)))
 (.block 1 (.seq (.region [Ob 12 (.mov (.t 5)),Ob 13 (.mov (.t 6)),Ob 14 (.bin .add (.t 12) (.t 13)),Ob 15 (.conv .u64 (.t 14)),Ob 16 (.bin .shr (.t 15) (.c (.int .u64 1))),Ob 17 (.conv .i64 (.t 16)),Ob 7 (.mov (.t 17))])
 (.seq (.region [Ob 18 (.mov (.t 1)),Ob 19 (.mov (.t 7)),Ob 20 (.callv (.t 18) [(.t 19)]),Ob 21 (.not (.t 20))])
 (.cond (.t 21) (.region [Ob 22 (.mov (.t 7)),Ob 23 (.bin .add (.t 22) (Ci 1)),Ob 5 (.mov (.t 23))])
 (.region [Ob 24 (.mov (.t 7)),Ob 6 (.mov (.t 24))]))))))))
 (.seq (.region [Ob 25 (.mov (.t 5)),Ob 4 (.mov (.t 25))])
 (.ret))))
def r60 : List Res := [.t 4]
def a60 : AFn := ⟨2, c60, r60,.v⟩
def c61 : ACode := .seq (.region [Ob 6 (.mov (.c (.bool false)))])
 (.seq (.region [Ob 7 (.addr (.t 1) 0),Ob 8 (.load (.t 7) none),Ob 9 (.load (.t 2) (some 9)),Ob 10 (.load (.t 3) none),Ob 11 (.mov (.t 0)),Ob 12 (.call 62 [(.t 8), (.t 9), (.t 10), (.t 11)]),Ob 13 (.fld (.t 12) 3 none),Ob 14 (.load (.t 4) none),Ob 15 (.bin .geq (.t 13) (.t 14)),Ob 6 (.mov (.t 15))])
 (.ret))
def r61 : List Res := [.t 6]
def a61 : AFn := ⟨5, c61, r61,.v⟩
def c62 : ACode := .seq (.region [Ob 5 (.box (.t 1) 9),Ob 8 (.new (.agg [(.int .i64 0), (.int .i64 0), (.int .i64 0), (.int .i64 0), (.int .i64 0), (.int .i64 0)]) 6)])
 (.seq (.region [Ob 12 (.mov (.t 3)),Ob 13 (.mov (.t 3)),Ob 14 (.mov (.t 0)),Ob 15 (.call 88 [(.t 13), (.t 14)]),Ob 16 (.build [(.int .i64 0), (.int .i64 0), (.int .i64 0), (.int .i64 0), (.int .i64 0), (.int .i64 0)] [(0, 1, (.t 12)), (1, 1, (.t 15))]),Ob 9 (.new (.agg [(.int .i64 0), (.int .i64 0), (.int .i64 0), (.int .i64 0), (.int .i64 0), (.int .i64 0)]) 6),On (.store (.t 9) (.t 16) 6)])
 (.seq (.region [Ob 17 (.addr (.t 9) 0),Ob 18 (.load (.t 17) none),Ob 19 (.addr (.t 9) 1),Ob 20 (.load (.t 19) none),Ob 21 (.bin .sub (.t 18) (.t 20)),Ob 22 (.addr (.t 9) 2),On (.store (.t 22) (.t 21) 1)])
 (.seq (.region [Ob 23 (.load (.t 5) (some 9)),Ob 24 (.mov (.t 2)),Ob 25 (.addr (.t 9) 2),Ob 26 (.load (.t 25) none),Ob 27 (.call 89 [(.t 23), (.t 24), (.t 26)]),Ob 10 (.new (.agg [(.int .i64 0), (.int .i64 0), (.int .i64 0)]) 3),On (.store (.t 10) (.t 27) 3)])
 (.seq (.seq (.frzs 10)
 (.region [Ob 28 (.aslc (.t 10) none none 3),Ob 29 (.call 90 [(.t 28)]),Ob 11 (.mov (.t 29))]))
 (.seq (.region [Ob 30 (.mov (.t 11)),Ob 31 (.addr (.t 9) 2),Ob 32 (.load (.t 31) none),Ob 33 (.mnx false (.t 30) (.t 32)),Ob 34 (.addr (.t 9) 3),On (.store (.t 34) (.t 33) 1)])
 (.seq (.region [Ob 35 (.aslc (.t 10) none none 3),Ob 36 (.mov (.t 11)),Ob 37 (.call 91 [(.t 35), (.t 36)]),Ob 38 (.bin .add (Ci 1) (.t 37)),Ob 39 (.addr (.t 9) 5),On (.store (.t 39) (.t 38) 1)])
 (.seq (.region [Ob 40 (.addr (.t 9) 2),Ob 41 (.load (.t 40) none),Ob 42 (.addr (.t 9) 3),Ob 43 (.load (.t 42) none),Ob 44 (.bin .sub (.t 41) (.t 43)),Ob 45 (.addr (.t 9) 4),On (.store (.t 45) (.t 44) 1)])
 (.seq (.region [Ob 46 (.load (.t 9) (some 6)),On (.store (.t 8) (.t 46) 6)])
 (.ret)))))))))
def r62 : List Res := [.cell 8 (some 6)]
def a62 : AFn := ⟨4, c62, r62,.v⟩
def c63 : ACode := .seq (.region [Ob 1 (.box (.t 0) 3),Ob 2 (.mov (.c (.bool false)))])
 (.seq (.region [Ob 3 (.addr (.t 1) 0),Ob 4 (.load (.t 3) none),Ob 5 (.call 69 [(.t 4), (Ci 0), (Ci 500)]),Ob 6 (.mov (.t 5)),Og 7 6 true (.addr (.t 1) 1),Og 8 6 true (.load (.t 7) none),Og 9 6 true (.len (.t 8)),Og 10 6 true (.bin .leq (.t 9) (Ci 6)),Ob 11 (.pick (.t 6) (.t 10) (.c (.bool false))),Ob 12 (.mov (.t 11)),Og 13 12 true (.addr (.t 1) 1),Og 14 12 true (.load (.t 13) none),Og 15 12 true (.call 92 [(.t 14), (.c (.fn 93 [] []))]),Ob 16 (.pick (.t 12) (.t 15) (.c (.bool false))),Ob 17 (.mov (.t 16)),Og 18 17 true (.addr (.t 1) 1),Og 19 17 true (.load (.t 18) none),Og 20 17 true (.call 94 [(.t 19)]),Ob 21 (.pick (.t 17) (.t 20) (.c (.bool false))),Ob 2 (.mov (.t 21))])
 (.ret))
def r63 : List Res := [.t 2]
def a63 : AFn := ⟨1, c63, r63,.v⟩
def c68 : ACode := .seq (.region [Ob 1 (.box (.t 0) 9),Ob 2 (.mov (.c (.bool false)))])
 (.seq (.seq (.region [Ob 5 (.addr (.t 1) 0),Ob 6 (.load (.t 5) none),Ob 7 (.call 55 [(.t 6), (Ci 0), (Ci 99)]),Ob 8 (.not (.t 7)),Ob 9 (.mov (.t 8)),Og 10 9 false (.addr (.t 1) 1),Og 11 9 false (.load (.t 10) none),Og 12 9 false (.bin .lss (.t 11) (Ci 0)),Ob 13 (.pick (.t 9) (.c (.bool true)) (.t 12)),Ob 14 (.mov (.t 13)),Og 15 14 false (.addr (.t 1) 1),Og 16 14 false (.load (.t 15) none),Og 17 14 false (.addr (.t 1) 2),Og 18 14 false (.load (.t 17) none),Og 19 14 false (.bin .gtr (.t 16) (.t 18)),Ob 20 (.pick (.t 14) (.c (.bool true)) (.t 19)),Ob 21 (.mov (.t 20)),Og 22 21 false (.addr (.t 1) 2),Og 23 21 false (.load (.t 22) none),Og 24 21 false (.bin .gtr (.t 23) (Ci 99)),Ob 25 (.pick (.t 21) (.c (.bool true)) (.t 24)),Ob 26 (.mov (.t 25)),Og 27 26 false (.addr (.t 1) 3),Og 28 26 false (.load (.t 27) none),Og 29 26 false (.len (.t 28)),Og 30 26 false (.call 55 [(.t 29), (Ci 1), (Ci 6)]),Og 31 26 false (.not (.t 30)),Ob 32 (.pick (.t 26) (.c (.bool true)) (.t 31)),Ob 33 (.mov (.t 32)),Og 34 33 false (.addr (.t 1) 4),Og 35 33 false (.load (.t 34) none),Og 36 33 false (.len (.t 35)),Og 37 33 false (.bin .gtr (.t 36) (Ci 4)),Ob 38 (.pick (.t 33) (.c (.bool true)) (.t 37)),Ob 39 (.mov (.t 38)),Og 40 39 false (.addr (.t 1) 5),Og 41 39 false (.load (.t 40) none),Og 42 39 false (.call 55 [(.t 41), (Ci 0), (Ci 10000000)]),Og 43 39 false (.not (.t 42)),Ob 44 (.pick (.t 39) (.c (.bool true)) (.t 43)),Ob 45 (.mov (.t 44)),Og 46 45 false (.addr (.t 1) 7),Og 47 45 false (.load (.t 46) none),Og 48 45 false (.call 55 [(.t 47), (Ci 0), (Ci 10000000)]),Og 49 45 false (.not (.t 48)),Ob 50 (.pick (.t 45) (.c (.bool true)) (.t 49)),Ob 51 (.mov (.t 50)),Og 52 51 false (.addr (.t 1) 6),Og 53 51 false (.load (.t 52) none),Og 54 51 false (.call 55 [(.t 53), (Ci 0), (Ci 1000)]),Og 55 51 false (.not (.t 54)),Ob 56 (.pick (.t 51) (.c (.bool true)) (.t 55)),Ob 57 (.mov (.t 56)),Og 58 57 false (.addr (.t 1) 8),Og 59 57 false (.load (.t 58) none),Og 60 57 false (.call 55 [(.t 59), (Ci 0), (Ci 100000000)]),Og 61 57 false (.not (.t 60)),Ob 62 (.pick (.t 57) (.c (.bool true)) (.t 61))])
 (.cond (.t 62) (.seq (.region [Ob 2 (.mov (.c (.bool false)))])
 (.ret))
 (.skip)))
 (.seq (.seq (.region [Ob 3 (.mov (Ci 0))])
 (.block 0 (.loop (.seq (.seq (.region [Ob 63 (.mov (.t 3)),Ob 64 (.addr (.t 1) 3),Ob 65 (.load (.t 64) none),Ob 66 (.len (.t 65)),Ob 67 (.bin .lss (.t 63) (.t 66))])
 (.cond (.t 67) (.skip)
 (.exit 0)))
 (.seq (.block 1 (.seq (.region [Ob 70 (.addr (.t 1) 3),Ob 71 (.load (.t 70) none),Ob 72 (.mov (.t 3)),Ob 73 (.idx (.t 71) (.t 72) 1),Ob 74 (.load (.t 73) none),Ob 75 (.call 55 [(.t 74), (Ci 0), (Ci 1000)]),Ob 76 (.not (.t 75))])
 (.cond (.t 76) (.seq (.region [Ob 2 (.mov (.c (.bool false)))])
 (.ret))
 (.skip))))
 (.region [Ob 68 (.mov (.t 3)),Ob 69 (.bin .add (.t 68) (Ci 1)),Ob 3 (.mov (.t 69))]))))))
 (.seq (.seq (.region [Ob 4 (.mov (Ci 0))])
 (.block 2 (.loop (.seq (.seq (.region [Ob 77 (.mov (.t 4)),Ob 78 (.addr (.t 1) 4),Ob 79 (.load (.t 78) none),Ob 80 (.len (.t 79)),Ob 81 (.bin .lss (.t 77) (.t 80))])
 (.cond (.t 81) (.skip)
 (.exit 2)))
 (.seq (.block 3 (.seq (.region [Ob 84 (.addr (.t 1) 4),Ob 85 (.load (.t 84) none),Ob 86 (.mov (.t 4)),Ob 87 (.idx (.t 85) (.t 86) 2),Ob 88 (.addr (.t 87) 0),Ob 89 (.load (.t 88) none),Ob 90 (.call 55 [(.t 89), (Ci 0), (Ci 10000000)]),Ob 91 (.not (.t 90)),Ob 92 (.mov (.t 91)),Og 93 92 false (.addr (.t 1) 4),Og 94 92 false (.load (.t 93) none),Og 95 92 false (.mov (.t 4)),Og 96 92 false (.idx (.t 94) (.t 95) 2),Og 97 92 false (.addr (.t 96) 1),Og 98 92 false (.load (.t 97) none),Og 99 92 false (.call 55 [(.t 98), (Ci 0), (Ci 1000)]),Og 100 92 false (.not (.t 99)),Ob 101 (.pick (.t 92) (.c (.bool true)) (.t 100)),Ob 102 (.mov (.t 101)),Og 103 102 false (.mov (.t 4)),Og 104 102 false (.bin .gtr (.t 103) (Ci 0)),Og 105 102 false (.mov (.t 104)),Og 106 105 true (.addr (.t 1) 4),Og 107 105 true (.load (.t 106) none),Og 108 105 true (.mov (.t 4)),Og 109 105 true (.idx (.t 107) (.t 108) 2),Og 110 105 true (.addr (.t 109) 0),Og 111 105 true (.load (.t 110) none),Og 112 105 true (.addr (.t 1) 4),Og 113 105 true (.load (.t 112) none),Og 114 105 true (.mov (.t 4)),Og 115 105 true (.bin .sub (.t 114) (Ci 1)),Og 116 105 true (.idx (.t 113) (.t 115) 2),Og 117 105 true (.addr (.t 116) 0),Og 118 105 true (.load (.t 117) none),Og 119 105 true (.bin .leq (.t 111) (.t 118)),Og 120 102 false (.pick (.t 105) (.t 119) (.c (.bool false))),Ob 121 (.pick (.t 102) (.c (.bool true)) (.t 120))])
 (.cond (.t 121) (.seq (.region [Ob 2 (.mov (.c (.bool false)))])
 (.ret))
 (.skip))))
 (.region [Ob 82 (.mov (.t 4)),Ob 83 (.bin .add (.t 82) (Ci 1)),Ob 4 (.mov (.t 83))]))))))
 (.seq (.region [Ob 2 (.mov (.c (.bool true)))])
 (.ret)))))
def r68 : List Res := [.t 2]
def a68 : AFn := ⟨1, c68, r68,.v⟩
def c69 : ACode := .seq (.region [Ob 6 (.mov (.c (.bool false)))])
 (.seq (.region [Ob 7 (.mov (.t 1)),Ob 8 (.mov (.t 0)),Ob 9 (.bin .leq (.t 7) (.t 8)),Ob 10 (.mov (.t 9)),Og 11 10 true (.mov (.t 0)),Og 12 10 true (.mov (.t 2)),Og 13 10 true (.bin .leq (.t 11) (.t 12)),Ob 14 (.pick (.t 10) (.t 13) (.c (.bool false))),Ob 6 (.mov (.t 14))])
 (.ret))
def r69 : List Res := [.t 6]
def a69 : AFn := ⟨3, c69, r69,.v⟩
def c70 : ACode := .seq (.region [Ob 6 (.mov (Ci 0))])
 (.seq (.region [Ob 13 (.mov (.t 0)),Ob 14 (.mov (.t 1)),Ob 15 (.mov (.t 2)),Ob 16 (.call 96 [(.t 13), (.t 14), (.t 15)]),Ob 7 (.mov (.t 16))])
 (.seq (.seq (.region [Ob 18 (.mov (.t 7)),Ob 19 (.mget .i (.agg [(.int .i64 0), (.int .i64 0), (.int .i64 0), (.int .i64 0), (.int .i64 0), (.int .i64 0)]) true (.t 18) (Ci (-1))),Ob 17 (.mov (.t 19)),Ob 20 (.ext (.t 17) 0),Ob 21 (.ext (.t 17) 1),Ob 8 (.new (.agg [(.int .i64 0), (.int .i64 0), (.int .i64 0), (.int .i64 0), (.int .i64 0), (.int .i64 0)]) 6),On (.store (.t 8) (.t 20) 6),Ob 9 (.mov (.t 21))])
 (.seq (.region [Ob 22 (.mov (.t 9))])
 (.cond (.t 22) (.seq (.region [Ob 23 (.addr (.t 8) 5),Ob 24 (.load (.t 23) none),Ob 6 (.mov (.t 24))])
 (.ret))
 (.skip))))
 (.seq (.region [Ob 10 (.mov (Ci 0))])
 (.seq (.rngm (.t 25) 26 27 28 29 [Ob 25 (.mov (.t 7))] [Ob 30 (.ext (.t 29) 1), Ob 12 (.new (.agg [(.int .i64 0), (.int .i64 0), (.int .i64 0), (.int .i64 0), (.int .i64 0), (.int .i64 0)]) 6), On (.store (.t 12) (.t 30) 6)] 0 1 (.region [Ob 31 (.mov (.t 10)),Ob 32 (.addr (.t 12) 5),Ob 33 (.load (.t 32) none),Ob 34 (.bin .add (.t 31) (.t 33)),Ob 10 (.mov (.t 34))]) [12, 30, 31, 32, 33, 34])
 (.seq (.region [Ob 35 (.mov (.t 10)),Ob 6 (.mov (.t 35))])
 (.ret))))))
def r70 : List Res := [.t 6]
def a70 : AFn := ⟨3, c70, r70,.v⟩
def c71 : ACode := .seq (.region [Ob 4 (.mov (Ci 0))])
 (.seq (.seq (.region [Ob 6 (.mov (.t 0)),Ob 7 (.len (.t 6)),Ob 8 (.mov (Ci 0))])
 (.block 0 (.loop (.seq (.region [Ob 9 (.bin .lss (.t 8) (.t 7))])
 (.seq (.cond (.t 9) (.skip)
 (.exit 0))
 (.seq (.block 1 (.seq (.region [Ob 10 (.mov (.t 8)),Ob 5 (.mov (.t 10))])
 (.seq (.region [Ob 11 (.mov (.t 1)),Ob 12 (.mov (.t 0)),Ob 13 (.mov (.t 5)),Ob 14 (.idx (.t 12) (.t 13) 9),Ob 15 (.load (.t 14) (some 9)),Ob 16 (.callv (.t 11) [(.t 15)])])
 (.cond (.t 16) (.seq (.region [Ob 17 (.mov (.t 5)),Ob 4 (.mov (.t 17))])
 (.ret))
 (.skip)))))
 (.region [Ob 18 (.bin .add (.t 8) (Ci 1)),Ob 8 (.mov (.t 18))])))))))
 (.seq (.region [Ob 4 (.mov (Ci (-1)))])
 (.ret)))
def r71 : List Res := [.t 4]
def a71 : AFn := ⟨2, c71, r71,.v⟩
def c72 : ACode := .seq (.region [Ob 2 (.box (.t 0) 9),Ob 3 (.mov (.c (.bool false)))])
 (.seq (.region [Ob 4 (.addr (.t 2) 0),Ob 5 (.load (.t 4) none),Ob 6 (.load (.t 1) none),Ob 7 (.bin .eql (.t 5) (.t 6)),Ob 3 (.mov (.t 7))])
 (.ret))
def r72 : List Res := [.t 3]
def a72 : AFn := ⟨2, c72, r72,.v⟩
def c73 : ACode := .seq (.region [Ob 3 (.box (.t 1) 1),Ob 4 (.mov (.c (.bool false)))])
 (.seq (.region [Ob 5 (.mov (.t 0)),Ob 6 (.clo 98 [] [(.t 3)]),Ob 7 (.call 97 [(.t 5), (.t 6)]),Ob 8 (.not (.t 7)),Ob 4 (.mov (.t 8))])
 (.ret))
def r73 : List Res := [.t 4]
def a73 : AFn := ⟨2, c73, r73,.v⟩
def c74 : ACode := .seq (.region [Ob 2 (.box (.t 0) 6),Ob 3 (.mov (.c (.bool false)))])
 (.seq (.region [Ob 4 (.load (.t 1) (some 3)),Ob 5 (.load (.t 2) (some 6)),Ob 6 (.call 75 [(.t 4), (.t 5)]),Ob 3 (.mov (.t 6))])
 (.ret))
def r74 : List Res := [.t 3]
def a74 : AFn := ⟨2, c74, r74,.v⟩
def c75 : ACode := .seq (.region [Ob 2 (.box (.t 0) 3),Ob 3 (.box (.t 1) 6),Ob 4 (.mov (.c (.bool false)))])
 (.seq (.region [Ob 8 (.addr (.t 2) 1),Ob 9 (.load (.t 8) none),Ob 10 (.addr (.t 3) 2),Ob 11 (.load (.t 10) none),Ob 12 (.call 46 [(.t 9), (.t 11)]),Ob 7 (.mov (.t 12)),Ob 13 (.ext (.t 7) 0),Ob 14 (.ext (.t 7) 1),Ob 5 (.new (.agg [(.int .i64 0), (.int .i64 0), (.int .i64 0), (.sl [] .tight), (.sl [] .tight), (.int .i64 0), (.int .i64 0), (.int .i64 0), (.int .i64 0)]) 9),On (.store (.t 5) (.t 13) 9),Ob 6 (.mov (.t 14))])
 (.seq (.region [Ob 15 (.mov (.t 6)),Ob 16 (.mov (.t 15)),Og 17 16 true (.load (.t 5) (some 9)),Og 18 16 true (.addr (.t 3) 3),Og 19 16 true (.load (.t 18) none),Og 20 16 true (.call 42 [(.t 17), (.t 19)]),Ob 21 (.pick (.t 16) (.t 20) (.c (.bool false))),Ob 22 (.mov (.t 21)),Og 23 22 true (.addr (.t 3) 0),Og 24 22 true (.load (.t 23) none),Og 25 22 true (.call 69 [(.t 24), (Ci 0), (Ci 99)]),Ob 26 (.pick (.t 22) (.t 25) (.c (.bool false))),Ob 27 (.mov (.t 26)),Og 28 27 true (.addr (.t 3) 1),Og 29 27 true (.load (.t 28) none),Og 30 27 true (.bin .eql (.t 29) (Ci 1)),Og 31 27 true (.mov (.t 30)),Og 32 31 false (.addr (.t 3) 1),Og 33 31 false (.load (.t 32) none),Og 34 31 false (.bin .eql (.t 33) (Ci 2)),Og 35 27 true (.pick (.t 31) (.c (.bool true)) (.t 34)),Ob 36 (.pick (.t 27) (.t 35) (.c (.bool false))),Ob 37 (.mov (.t 36)),Og 38 37 true (.addr (.t 3) 4),Og 39 37 true (.load (.t 38) none),Og 40 37 true (.call 69 [(.t 39), (Ci 0), (Ci 9)]),Ob 41 (.pick (.t 37) (.t 40) (.c (.bool false))),Ob 42 (.mov (.t 41)),Og 43 42 true (.addr (.t 3) 5),Og 44 42 true (.load (.t 43) none),Og 45 42 true (.call 59 [(.t 44)]),Ob 46 (.pick (.t 42) (.t 45) (.c (.bool false))),Ob 4 (.mov (.t 46))])
 (.ret)))
def r75 : List Res := [.t 4]
def a75 : AFn := ⟨2, c75, r75,.v⟩
def c76 : ACode := .seq (.region [Ob 2 (.mov (.c (.sl [] .tight)))])
 (.seq (.region [Ob 3 (.mov (Ci 0))])
 (.seq (.seq (.region [Ob 9 (.mov (.t 0)),Ob 10 (.len (.t 9)),Ob 11 (.mov (Ci 0))])
 (.block 0 (.loop (.seq (.region [Ob 12 (.bin .lss (.t 11) (.t 10))])
 (.seq (.cond (.t 12) (.skip)
 (.exit 0))
 (.seq (.block 1 (.seq (.region [Ob 13 (.idx (.t 9) (.t 11) 1),Ob 14 (.load (.t 13) none),Ob 5 (.mov (.t 14))])
 (.seq (.region [Ob 15 (.mov (.t 3)),Ob 16 (.mov (.t 5)),Ob 17 (.len (.t 16)),Ob 18 (.bin .add (.t 15) (.t 17)),Ob 3 (.mov (.t 18))])
 (.seq (.region [Ob 19 (.mov (.t 3)),Ob 20 (.bin .lss (.t 19) (Ci 0))])
 (.cond (.t 20) (.region [Ob 21 (.bad),On (.bad)])
 (.skip))))))
 (.region [Ob 22 (.bin .add (.t 11) (Ci 1)),Ob 11 (.mov (.t 22))])))))))
 (.seq (.region [Ob 23 (.mov (.t 3)),Ob 24 (.call 99 [(.c (.sl [] .tight)), (.t 23)]),Ob 6 (.mov (.t 24))])
 (.seq (.seq (.region [Ob 25 (.mov (.t 0)),Ob 26 (.len (.t 25)),Ob 27 (.mov (Ci 0))])
 (.block 2 (.loop (.seq (.region [Ob 28 (.bin .lss (.t 27) (.t 26))])
 (.seq (.cond (.t 28) (.skip)
 (.exit 2))
 (.seq (.block 3 (.seq (.region [Ob 29 (.idx (.t 25) (.t 27) 1),Ob 30 (.load (.t 29) none),Ob 8 (.mov (.t 30))])
 (.region [Ob 31 (.mov (.t 6)),Ob 32 (.mov (.t 8)),Ob 33 (.app true (.t 31) (.t 32) 52 6 48),Ob 6 (.mov (.t 33))])))
 (.region [Ob 34 (.bin .add (.t 27) (Ci 1)),Ob 27 (.mov (.t 34))])))))))
 (.seq (.region [Ob 35 (.mov (.t 6)),Ob 2 (.mov (.t 35))])
 (.ret))))))
def r76 : List Res := [.t 2]
def a76 : AFn := ⟨1, c76, r76,.o⟩
def c77 : ACode := .seq (.region [Ob 5 (.mov (.t 0)),Ob 6 (.len (.t 5)),Ob 4 (.mov (.t 6))])
 (.region [Ob 7 (.mov (.t 0)),Ob 8 (.mov (.t 4)),Ob 9 (.mov (.t 4)),Ob 10 (.conv .u64 (.t 9)),Ob 11 (.call 101 [(.t 10)]),Ob 12 (.mov (.t 1)),Ob 13 (.call 100 [(.t 7), (Ci 0), (.t 8), (.t 11), (.t 12)])])
def r77 : List Res := []
def a77 : AFn := ⟨2, c77, r77,.r⟩
def c78 : ACode := .seq (.region [Ob 2 (.box (.t 0) 6),Ob 3 (.box (.t 1) 6),Ob 4 (.mov (Ci 0))])
 (.seq (.region [Ob 5 (.addr (.t 2) 0),Ob 6 (.load (.t 5) none),Ob 7 (.addr (.t 3) 0),Ob 8 (.load (.t 7) none),Ob 9 (.call 79 [(.t 6), (.t 8)]),Ob 4 (.mov (.t 9))])
 (.ret))
def r78 : List Res := [.t 4]
def a78 : AFn := ⟨2, c78, r78,.v⟩
def c79 : ACode := .seq (.region [Ob 4 (.mov (Ci 0))])
 (.seq (.region [Ob 7 (.mov (.t 0)),Ob 8 (.call 102 [(.t 7)]),Ob 5 (.mov (.t 8))])
 (.seq (.region [Ob 9 (.mov (.t 1)),Ob 10 (.call 102 [(.t 9)]),Ob 6 (.mov (.t 10))])
 (.seq (.seq (.region [Ob 11 (.mov (.t 5))])
 (.cond (.t 11) (.seq (.seq (.region [Ob 12 (.mov (.t 6))])
 (.cond (.t 12) (.seq (.region [Ob 4 (.mov (Ci 0))])
 (.ret))
 (.skip)))
 (.seq (.region [Ob 4 (.mov (Ci (-1)))])
 (.ret)))
 (.skip)))
 (.seq (.seq (.region [Ob 13 (.mov (.t 6))])
 (.cond (.t 13) (.seq (.region [Ob 4 (.mov (Ci 1))])
 (.ret))
 (.skip)))
 (.seq (.seq (.region [Ob 14 (.mov (.t 0)),Ob 15 (.mov (.t 1)),Ob 16 (.bin .lss (.t 14) (.t 15))])
 (.cond (.t 16) (.seq (.region [Ob 4 (.mov (Ci (-1)))])
 (.ret))
 (.skip)))
 (.seq (.seq (.region [Ob 17 (.mov (.t 0)),Ob 18 (.mov (.t 1)),Ob 19 (.bin .gtr (.t 17) (.t 18))])
 (.cond (.t 19) (.seq (.region [Ob 4 (.mov (Ci 1))])
 (.ret))
 (.skip)))
 (.seq (.region [Ob 4 (.mov (Ci 0))])
 (.ret))))))))
def r79 : List Res := [.t 4]
def a79 : AFn := ⟨2, c79, r79,.v⟩
def c80 : ACode := .seq (.region [Ob 2 (.mov (.c (.sl [] .tight)))])
 (.seq (.seq (.region [Ob 6 (.mov (.t 0)),Ob 7 (.len (.t 6)),Ob 8 (.bin .lss (.t 7) (Ci 2))])
 (.cond (.t 8) (.seq (.region [Ob 9 (.mov (.t 0)),Ob 2 (.mov (.t 9))])
 (.ret))
 (.skip)))
 (.seq (.seq (.region [Ob 3 (.mov (Ci 1))])
 (.block 0 (.loop (.seq (.seq (.region [Ob 10 (.mov (.t 3)),Ob 11 (.mov (.t 0)),Ob 12 (.len (.t 11)),Ob 13 (.bin .lss (.t 10) (.t 12))])
 (.cond (.t 13) (.skip)
 (.exit 0)))
 (.seq (.block 1 (.seq (.region [Ob 16 (.mov (.t 0)),Ob 17 (.mov (.t 3)),Ob 18 (.idx (.t 16) (.t 17) 6),Ob 19 (.load (.t 18) (some 6)),Ob 20 (.mov (.t 0)),Ob 21 (.mov (.t 3)),Ob 22 (.bin .sub (.t 21) (Ci 1)),Ob 23 (.idx (.t 20) (.t 22) 6),Ob 24 (.load (.t 23) (some 6)),Ob 25 (.eqv false true [.i,.i,.i,.i,.i,.i] (.t 19) (.t 24))])
 (.cond (.t 25) (.seq (.region [Ob 26 (.mov (.t 0)),Ob 27 (.mov (.t 3)),Ob 28 (.slice (.t 26) (some (.t 27)) none 6),Ob 4 (.mov (.t 28))])
 (.seq (.seq (.region [Ob 5 (.mov (Ci 1))])
 (.block 2 (.loop (.seq (.seq (.region [Ob 29 (.mov (.t 5)),Ob 30 (.mov (.t 4)),Ob 31 (.len (.t 30)),Ob 32 (.bin .lss (.t 29) (.t 31))])
 (.cond (.t 32) (.skip)
 (.exit 2)))
 (.seq (.block 3 (.seq (.region [Ob 35 (.mov (.t 4)),Ob 36 (.mov (.t 5)),Ob 37 (.idx (.t 35) (.t 36) 6),Ob 38 (.load (.t 37) (some 6)),Ob 39 (.mov (.t 4)),Ob 40 (.mov (.t 5)),Ob 41 (.bin .sub (.t 40) (Ci 1)),Ob 42 (.idx (.t 39) (.t 41) 6),Ob 43 (.load (.t 42) (some 6)),Ob 44 (.eqv true true [.i,.i,.i,.i,.i,.i] (.t 38) (.t 43))])
 (.cond (.t 44) (.seq (.region [Ob 45 (.mov (.t 0)),Ob 46 (.mov (.t 3)),Ob 47 (.mov (.t 4)),Ob 48 (.mov (.t 5)),Ob 49 (.idx (.t 47) (.t 48) 6),Ob 50 (.load (.t 49) (some 6)),Ob 51 (.idx (.t 45) (.t 46) 6),On (.store (.t 51) (.t 50) 6)])
 (.region [Ob 52 (.mov (.t 3)),Ob 53 (.bin .add (.t 52) (Ci 1)),Ob 3 (.mov (.t 53))]))
 (.skip))))
 (.region [Ob 33 (.mov (.t 5)),Ob 34 (.bin .add (.t 33) (Ci 1)),Ob 5 (.mov (.t 34))]))))))
 (.seq (.region [Ob 54 (.mov (.t 0)),Ob 55 (.mov (.t 3)),Ob 56 (.slice (.t 54) (some (.t 55)) none 6),On (.clr (.t 56) (.agg [(.int .i64 0), (.int .i64 0), (.int .i64 0), (.int .i64 0), (.int .i64 0), (.int .i64 0)]) 6)])
 (.seq (.region [Ob 57 (.mov (.t 0)),Ob 58 (.mov (.t 3)),Ob 59 (.slice (.t 57) none (some (.t 58)) 6),Ob 2 (.mov (.t 59))])
 (.ret)))))
 (.skip))))
 (.region [Ob 14 (.mov (.t 3)),Ob 15 (.bin .add (.t 14) (Ci 1)),Ob 3 (.mov (.t 15))]))))))
 (.seq (.region [Ob 60 (.mov (.t 0)),Ob 2 (.mov (.t 60))])
 (.ret))))
def r80 : List Res := [.t 2]
def a80 : AFn := ⟨1, c80, r80,.r⟩
def c81 : ACode := .seq (.region [Ob 2 (.mov (.c (.sl [] .tight)))])
 (.nilq [Ob 3 (.mov (.t 0))] (.t 3) 4 (.seq (.cond (.t 4) (.seq (.region [Ob 2 (.mov (.c (.sl [] .tight)))])
 (.ret))
 (.skip))
 (.seq (.region [Ob 5 (.lit false 39 9 []),Ob 6 (.mov (.t 0)),Ob 7 (.app0 (.t 5) (.t 6) 39 9 104),Ob 2 (.mov (.t 7))])
 (.ret))) [3, 4, 5, 6, 7])
def r81 : List Res := [.t 2]
def a81 : AFn := ⟨1, c81, r81,.o⟩
def c82 : ACode := .seq (.region [Ob 2 (.mov (.c (.sl [] .tight)))])
 (.nilq [Ob 3 (.mov (.t 0))] (.t 3) 4 (.seq (.cond (.t 4) (.seq (.region [Ob 2 (.mov (.c (.sl [] .tight)))])
 (.ret))
 (.skip))
 (.seq (.region [Ob 5 (.lit false 3 1 []),Ob 6 (.mov (.t 0)),Ob 7 (.app false (.t 5) (.t 6) 3 1 8),Ob 2 (.mov (.t 7))])
 (.ret))) [3, 4, 5, 6, 7])
def r82 : List Res := [.t 2]
def a82 : AFn := ⟨1, c82, r82,.v⟩
def c83 : ACode := .seq (.region [Ob 2 (.mov (.c (.sl [] .tight)))])
 (.nilq [Ob 3 (.mov (.t 0))] (.t 3) 4 (.seq (.cond (.t 4) (.seq (.region [Ob 2 (.mov (.c (.sl [] .tight)))])
 (.ret))
 (.skip))
 (.seq (.region [Ob 5 (.lit false 47 2 []),Ob 6 (.mov (.t 0)),Ob 7 (.app false (.t 5) (.t 6) 47 2 16),Ob 2 (.mov (.t 7))])
 (.ret))) [3, 4, 5, 6, 7])
def r83 : List Res := [.t 2]
def a83 : AFn := ⟨1, c83, r83,.v⟩
def c88 : ACode := .seq (.region [Ob 4 (.mov (Ci 0))])
 (.seq (.region [Ob 5 (.mov (.t 0)),Ob 6 (.mov (.t 1)),Ob 7 (.bin .mul (.t 5) (.t 6)),Ob 8 (.bin .quo (.t 7) (Ci 1000)),Ob 4 (.mov (.t 8))])
 (.ret))
def r88 : List Res := [.t 4]
def a88 : AFn := ⟨2, c88, r88,.v⟩
def c89 : ACode := .seq (.region [Ob 3 (.box (.t 0) 9),Ob 6 (.new (.agg [(.int .i64 0), (.int .i64 0), (.int .i64 0)]) 3)])
 (.seq (.region [Ob 7 (.mov (.t 2)),Ob 8 (.load (.t 3) (some 9)),Ob 9 (.mov (.t 1)),Ob 10 (.mov (.t 2)),Ob 11 (.call 106 [(.t 8), (.t 9), (.t 10)]),Ob 12 (.call 88 [(.t 7), (.t 11)]),Ob 13 (.mov (.t 2)),Ob 14 (.addr (.t 3) 5),Ob 15 (.load (.t 14) none),Ob 16 (.bin .sub (.t 13) (.t 15)),Ob 17 (.mnx true (Ci 0) (.t 16)),Ob 18 (.addr (.t 3) 6),Ob 19 (.load (.t 18) none),Ob 20 (.call 88 [(.t 17), (.t 19)]),Ob 21 (.addr (.t 3) 7),Ob 22 (.load (.t 21) none),Ob 23 (.build [(.int .i64 0), (.int .i64 0), (.int .i64 0)] [(0, 1, (.t 12)), (1, 1, (.t 20)), (2, 1, (.t 22))]),On (.store (.t 6) (.t 23) 3)])
 (.ret))
def r89 : List Res := [.cell 6 (some 3)]
def a89 : AFn := ⟨3, c89, r89,.v⟩
def c90 : ACode := .seq (.region [Ob 2 (.mov (Ci 0))])
 (.seq (.seq (.region [Ob 5 (.mov (.t 0)),Ob 6 (.len (.t 5)),Ob 7 (.bin .lss (.t 6) (Ci 1))])
 (.cond (.t 7) (.region [Ob 8 (.bad),On (.bad)])
 (.skip)))
 (.seq (.region [Ob 9 (.mov (.t 0)),Ob 10 (.idx (.t 9) (Ci 0) 1),Ob 11 (.load (.t 10) none),Ob 3 (.mov (.t 11))])
 (.seq (.seq (.region [Ob 4 (.mov (Ci 1))])
 (.block 0 (.loop (.seq (.seq (.region [Ob 12 (.mov (.t 4)),Ob 13 (.mov (.t 0)),Ob 14 (.len (.t 13)),Ob 15 (.bin .lss (.t 12) (.t 14))])
 (.cond (.t 15) (.skip)
 (.exit 0)))
 (.seq (.block 1 (.region [Ob 18 (.mov (.t 3)),Ob 19 (.mov (.t 0)),Ob 20 (.mov (.t 4)),Ob 21 (.idx (.t 19) (.t 20) 1),Ob 22 (.load (.t 21) none),Ob 23 (.mnx true (.t 18) (.t 22)),Ob 3 (.mov (.t 23))]))
 (.region [Ob 16 (.mov (.t 4)),Ob 17 (.bin .add (.t 16) (Ci 1)),Ob 4 (.mov (.t 17))]))))))
 (.seq (.region [Ob 24 (.mov (.t 3)),Ob 2 (.mov (.t 24))])
 (.ret)))))
def r90 : List Res := [.t 2]
def a90 : AFn := ⟨1, c90, r90,.v⟩
def c91 : ACode := .seq (.region [Ob 4 (.mov (Ci 0))])
 (.seq (.seq (.region [Ob 6 (.mov (.t 0)),Ob 7 (.len (.t 6)),Ob 8 (.mov (Ci 0))])
 (.block 0 (.loop (.seq (.region [Ob 9 (.bin .lss (.t 8) (.t 7))])
 (.seq (.cond (.t 9) (.skip)
 (.exit 0))
 (.seq (.block 1 (.seq (.region [Ob 10 (.mov (.t 8)),Ob 5 (.mov (.t 10))])
 (.seq (.region [Ob 11 (.mov (.t 1)),Ob 12 (.mov (.t 0)),Ob 13 (.mov (.t 5)),Ob 14 (.idx (.t 12) (.t 13) 1),Ob 15 (.load (.t 14) none),Ob 16 (.bin .eql (.t 11) (.t 15))])
 (.cond (.t 16) (.seq (.region [Ob 17 (.mov (.t 5)),Ob 4 (.mov (.t 17))])
 (.ret))
 (.skip)))))
 (.region [Ob 18 (.bin .add (.t 8) (Ci 1)),Ob 8 (.mov (.t 18))])))))))
 (.seq (.region [Ob 4 (.mov (Ci (-1)))])
 (.ret)))
def r91 : List Res := [.t 4]
def a91 : AFn := ⟨2, c91, r91,.v⟩
def c92 : ACode := .seq (.region [Ob 3 (.box (.t 1) 1),Ob 4 (.mov (.c (.bool false)))])
 (.seq (.region [Ob 5 (.mov (.t 0)),Ob 6 (.clo 108 [] [(.t 3)]),Ob 7 (.call 107 [(.t 5), (.t 6)]),Ob 8 (.not (.t 7)),Ob 4 (.mov (.t 8))])
 (.ret))
def r92 : List Res := [.t 4]
def a92 : AFn := ⟨2, c92, r92,.v⟩
def c93 : ACode := .seq (.region [Ob 1 (.box (.t 0) 9),Ob 2 (.mov (.c (.bool false)))])
 (.seq (.region [Ob 3 (.addr (.t 1) 0),Ob 4 (.load (.t 3) none),Ob 5 (.call 69 [(.t 4), (Ci 0), (Ci 99)]),Ob 6 (.mov (.t 5)),Og 7 6 true (.addr (.t 1) 1),Og 8 6 true (.load (.t 7) none),Og 9 6 true (.call 47 [(.t 8)]),Ob 10 (.pick (.t 6) (.t 9) (.c (.bool false))),Ob 11 (.mov (.t 10)),Og 12 11 true (.addr (.t 1) 2),Og 13 11 true (.load (.t 12) none),Og 14 11 true (.call 47 [(.t 13)]),Ob 15 (.pick (.t 11) (.t 14) (.c (.bool false))),Ob 16 (.mov (.t 15)),Og 17 16 true (.addr (.t 1) 1),Og 18 16 true (.load (.t 17) none),Og 19 16 true (.addr (.t 1) 2),Og 20 16 true (.load (.t 19) none),Og 21 16 true (.bin .leq (.t 18) (.t 20)),Ob 22 (.pick (.t 16) (.t 21) (.c (.bool false))),Ob 23 (.mov (.t 22)),Og 24 23 true (.addr (.t 1) 3),Og 25 23 true (.load (.t 24) none),Og 26 23 true (.len (.t 25)),Og 27 23 true (.call 69 [(.t 26), (Ci 1), (Ci 6)]),Ob 28 (.pick (.t 23) (.t 27) (.c (.bool false))),Ob 29 (.mov (.t 28)),Og 30 29 true (.addr (.t 1) 3),Og 31 29 true (.load (.t 30) none),Og 32 29 true (.call 109 [(.t 31), (.c (.fn 110 [] []))]),Ob 33 (.pick (.t 29) (.t 32) (.c (.bool false))),Ob 34 (.mov (.t 33)),Og 35 34 true (.addr (.t 1) 4),Og 36 34 true (.load (.t 35) none),Og 37 34 true (.len (.t 36)),Og 38 34 true (.bin .leq (.t 37) (Ci 4)),Ob 39 (.pick (.t 34) (.t 38) (.c (.bool false))),Ob 40 (.mov (.t 39)),Og 41 40 true (.addr (.t 1) 4),Og 42 40 true (.load (.t 41) none),Og 43 40 true (.call 111 [(.t 42), (.c (.fn 112 [] []))]),Ob 44 (.pick (.t 40) (.t 43) (.c (.bool false))),Ob 45 (.mov (.t 44)),Og 46 45 true (.addr (.t 1) 4),Og 47 45 true (.load (.t 46) none),Og 48 45 true (.call 113 [(.t 47)]),Ob 49 (.pick (.t 45) (.t 48) (.c (.bool false))),Ob 50 (.mov (.t 49)),Og 51 50 true (.addr (.t 1) 5),Og 52 50 true (.load (.t 51) none),Og 53 50 true (.call 59 [(.t 52)]),Ob 54 (.pick (.t 50) (.t 53) (.c (.bool false))),Ob 55 (.mov (.t 54)),Og 56 55 true (.addr (.t 1) 7),Og 57 55 true (.load (.t 56) none),Og 58 55 true (.call 59 [(.t 57)]),Ob 59 (.pick (.t 55) (.t 58) (.c (.bool false))),Ob 60 (.mov (.t 59)),Og 61 60 true (.addr (.t 1) 6),Og 62 60 true (.load (.t 61) none),Og 63 60 true (.call 110 [(.t 62)]),Ob 64 (.pick (.t 60) (.t 63) (.c (.bool false))),Ob 65 (.mov (.t 64)),Og 66 65 true (.addr (.t 1) 8),Og 67 65 true (.load (.t 66) none),Og 68 65 true (.call 69 [(.t 67), (Ci 0), (Ci 100000000)]),Ob 69 (.pick (.t 65) (.t 68) (.c (.bool false))),Ob 2 (.mov (.t 69))])
 (.ret))
def r93 : List Res := [.t 2]
def a93 : AFn := ⟨1, c93, r93,.v⟩
def c94 : ACode := .seq (.region [Ob 2 (.mov (.c (.bool false)))])
 (.seq (.seq (.region [Ob 7 (.mov (.t 0)),Ob 8 (.len (.t 7)),Ob 9 (.mov (Ci 0))])
 (.block 0 (.loop (.seq (.region [Ob 10 (.bin .lss (.t 9) (.t 8))])
 (.seq (.cond (.t 10) (.skip)
 (.exit 0))
 (.seq (.block 1 (.seq (.region [Ob 11 (.mov (.t 9)),Ob 12 (.idx (.t 7) (.t 9) 9),Ob 13 (.load (.t 12) (some 9)),Ob 4 (.new (.agg [(.int .i64 0), (.int .i64 0), (.int .i64 0), (.sl [] .tight), (.sl [] .tight), (.int .i64 0), (.int .i64 0), (.int .i64 0), (.int .i64 0)]) 9),Ob 3 (.mov (.t 11)),On (.store (.t 4) (.t 13) 9)])
 (.seq (.region [Ob 15 (.mov (.t 0)),Ob 16 (.mov (.t 3)),Ob 17 (.slice (.t 15) none (some (.t 16)) 9),Ob 18 (.addr (.t 4) 0),Ob 19 (.load (.t 18) none),On (.mov (.c .undef)),Ob 20 (.call 46 [(.t 17), (.t 19)]),Ob 14 (.mov (.t 20)),Ob 21 (.ext (.t 14) 0),Ob 22 (.ext (.t 14) 1),Ob 5 (.box (.t 21) 9),Ob 6 (.mov (.t 22))])
 (.seq (.region [Ob 23 (.mov (.t 6))])
 (.cond (.t 23) (.seq (.region [Ob 2 (.mov (.c (.bool false)))])
 (.ret))
 (.skip))))))
 (.region [Ob 24 (.bin .add (.t 9) (Ci 1)),Ob 9 (.mov (.t 24))])))))))
 (.seq (.region [Ob 2 (.mov (.c (.bool true)))])
 (.ret)))
def r94 : List Res := [.t 2]
def a94 : AFn := ⟨1, c94, r94,.v⟩
def c96 : ACode := .seq (.region [Ob 6 (.mov (.c .nilm))])
 (.seq (.region [Ob 13 (.mkmap .i),Ob 7 (.mov (.t 13))])
 (.seq (.seq (.region [Ob 14 (.mov (.t 0)),Ob 15 (.len (.t 14)),Ob 16 (.mov (Ci 0))])
 (.block 0 (.loop (.seq (.region [Ob 17 (.bin .lss (.t 16) (.t 15))])
 (.seq (.cond (.t 17) (.skip)
 (.exit 0))
 (.seq (.block 1 (.seq (.region [Ob 18 (.idx (.t 14) (.t 16) 6),Ob 19 (.load (.t 18) (some 6)),Ob 9 (.new (.agg [(.int .i64 0), (.int .i64 0), (.int .i64 0), (.int .i64 0), (.int .i64 0), (.int .i64 0)]) 6),On (.store (.t 9) (.t 19) 6)])
 (.seq (.seq (.region [Ob 20 (.addr (.t 9) 2),Ob 21 (.load (.t 20) none),Ob 22 (.mov (.t 1)),Ob 23 (.bin .neq (.t 21) (.t 22)),Ob 24 (.mov (.t 23)),Og 25 24 false (.addr (.t 9) 3),Og 26 24 false (.load (.t 25) none),Og 27 24 false (.mov (.t 2)),Og 28 24 false (.bin .neq (.t 26) (.t 27)),Ob 29 (.pick (.t 24) (.c (.bool true)) (.t 28))])
 (.cond (.t 29) (.exit 1)
 (.skip)))
 (.seq (.region [Ob 30 (.addr (.t 9) 4),Ob 31 (.load (.t 30) none),Ob 10 (.mov (.t 31))])
 (.seq (.seq (.region [Ob 32 (.addr (.t 9) 1),Ob 33 (.load (.t 32) none),Ob 34 (.bin .eql (.t 33) (Ci 2))])
 (.cond (.t 34) (.region [Ob 10 (.mov (Ci (-1)))])
 (.skip)))
 (.seq (.region [Ob 36 (.mov (.t 7)),Ob 37 (.mov (.t 10)),Ob 38 (.mget .i (.agg [(.int .i64 0), (.int .i64 0), (.int .i64 0), (.int .i64 0), (.int .i64 0), (.int .i64 0)]) true (.t 36) (.t 37)),Ob 35 (.mov (.t 38)),Ob 39 (.ext (.t 35) 0),Ob 40 (.ext (.t 35) 1),Ob 11 (.new (.agg [(.int .i64 0), (.int .i64 0), (.int .i64 0), (.int .i64 0), (.int .i64 0), (.int .i64 0)]) 6),On (.store (.t 11) (.t 39) 6),Ob 12 (.mov (.t 40))])
 (.seq (.region [Ob 41 (.mov (.t 12)),Ob 42 (.not (.t 41)),Ob 43 (.mov (.t 42)),Og 44 43 false (.addr (.t 9) 0),Og 45 43 false (.load (.t 44) none),Og 46 43 false (.addr (.t 11) 0),Og 47 43 false (.load (.t 46) none),Og 48 43 false (.bin .gtr (.t 45) (.t 47)),Ob 49 (.pick (.t 43) (.c (.bool true)) (.t 48))])
 (.cond (.t 49) (.region [Ob 50 (.mov (.t 7)),Ob 51 (.mov (.t 10)),Ob 52 (.load (.t 9) (some 6)),On (.mput .i (.t 50) (.t 51) (.t 52))])
 (.skip)))))))))
 (.region [Ob 53 (.bin .add (.t 16) (Ci 1)),Ob 16 (.mov (.t 53))])))))))
 (.seq (.region [Ob 54 (.mov (.t 7)),Ob 6 (.mov (.t 54))])
 (.ret))))
def r96 : List Res := [.t 6]
def a96 : AFn := ⟨3, c96, r96,.r⟩
def c97 : ACode := .seq (.region [Ob 4 (.mov (.c (.bool false)))])
 (.seq (.region [Ob 5 (.mov (.t 0)),Ob 6 (.mov (.t 1)),Ob 7 (.call 114 [(.t 5), (.t 6)]),Ob 8 (.bin .geq (.t 7) (Ci 0)),Ob 4 (.mov (.t 8))])
 (.ret))
def r97 : List Res := [.t 4]
def a97 : AFn := ⟨2, c97, r97,.v⟩
def c98 : ACode := .seq (.region [Ob 2 (.box (.t 0) 6),Ob 3 (.mov (.c (.bool false)))])
 (.seq (.region [Ob 4 (.load (.t 1) none),Ob 5 (.load (.t 2) (some 6)),Ob 6 (.callv (.t 4) [(.t 5)]),Ob 7 (.not (.t 6)),Ob 3 (.mov (.t 7))])
 (.ret))
def r98 : List Res := [.t 3]
def a98 : AFn := ⟨2, c98, r98,.v⟩
def c99 : ACode := .seq (.region [Ob 4 (.mov (.c (.sl [] .tight)))])
 (.seq (.seq (.region [Ob 5 (.mov (.t 1)),Ob 6 (.bin .lss (.t 5) (Ci 0))])
 (.cond (.t 6) (.region [Ob 7 (.bad),On (.bad)])
 (.skip)))
 (.seq (.seq (.region [Ob 8 (.mov (.t 1)),Ob 9 (.mov (.t 0)),Ob 10 (.cap (.t 9)),Ob 11 (.mov (.t 0)),Ob 12 (.len (.t 11)),Ob 13 (.bin .sub (.t 10) (.t 12)),Ob 14 (.bin .sub (.t 8) (.t 13)),Ob 1 (.mov (.t 14))])
 (.seq (.region [Ob 15 (.mov (.t 1)),Ob 16 (.bin .gtr (.t 15) (Ci 0))])
 (.cond (.t 16) (.region [Ob 17 (.mov (.t 0)),Ob 18 (.mov (.t 0)),Ob 19 (.cap (.t 18)),Ob 20 (.slice (.t 17) none (some (.t 19)) 6),Ob 21 (.mov (.t 1)),Ob 22 (.appz (.t 20) (.t 21) (.agg [(.int .i64 0), (.int .i64 0), (.int .i64 0), (.int .i64 0), (.int .i64 0), (.int .i64 0)]) 52 6 48),Ob 23 (.mov (.t 0)),Ob 24 (.len (.t 23)),Ob 25 (.slice (.t 22) none (some (.t 24)) 6),Ob 0 (.mov (.t 25))])
 (.skip))))
 (.seq (.region [Ob 26 (.mov (.t 0)),Ob 4 (.mov (.t 26))])
 (.ret))))
def r99 : List Res := [.t 4]
def a99 : AFn := ⟨2, c99, r99,.r⟩
def c100 : ACode := Srt.pdqsortF 6 (some 6) 117 118 116 115 120 122 121 100 119
def r100 : List Res := []
def a100 : AFn := ⟨5, c100, r100,.r⟩
def c101 : ACode := .seq (.region [Ob 2 (.mov (Ci 0))])
 (.seq (.cond (.c (.bool false)) (.seq (.region [Ob 3 (.mov (.t 0)),Ob 4 (.conv .u32 (.t 3)),Ob 5 (.call 123 [(.t 4)]),Ob 2 (.mov (.t 5))])
 (.ret))
 (.skip))
 (.seq (.region [Ob 6 (.mov (.t 0)),Ob 7 (.call 124 [(.t 6)]),Ob 2 (.mov (.t 7))])
 (.ret)))
def r101 : List Res := [.t 2]
def a101 : AFn := ⟨1, c101, r101,.v⟩
def c102 : ACode := .seq (.region [Ob 2 (.mov (.c (.bool false)))])
 (.seq (.region [Ob 3 (.mov (.t 0)),Ob 4 (.mov (.t 0)),Ob 5 (.bin .neq (.t 3) (.t 4)),Ob 2 (.mov (.t 5))])
 (.ret))
def r102 : List Res := [.t 2]
def a102 : AFn := ⟨1, c102, r102,.v⟩
def c106 : ACode := .seq (.region [Ob 3 (.box (.t 0) 9),Ob 6 (.mov (Ci 0))])
 (.seq (.region [Ob 10 (.addr (.t 3) 3),Ob 11 (.load (.t 10) none),Ob 12 (.mov (.t 1)),Ob 13 (.addr (.t 3) 1),Ob 14 (.load (.t 13) none),Ob 15 (.bin .sub (.t 12) (.t 14)),Ob 16 (.addr (.t 3) 3),Ob 17 (.load (.t 16) none),Ob 18 (.len (.t 17)),Ob 19 (.bin .sub (.t 18) (Ci 1)),Ob 20 (.mnx false (.t 15) (.t 19)),Ob 21 (.idx (.t 11) (.t 20) 1),Ob 22 (.load (.t 21) none),Ob 7 (.mov (.t 22))])
 (.seq (.seq (.region [Ob 23 (.addr (.t 3) 4),Ob 24 (.load (.t 23) none),Ob 25 (.len (.t 24)),Ob 26 (.mov (Ci 0))])
 (.block 0 (.loop (.seq (.region [Ob 27 (.bin .lss (.t 26) (.t 25))])
 (.seq (.cond (.t 27) (.skip)
 (.exit 0))
 (.seq (.block 1 (.seq (.region [Ob 28 (.idx (.t 24) (.t 26) 2),Ob 29 (.load (.t 28) (some 2)),Ob 9 (.new (.agg [(.int .i64 0), (.int .i64 0)]) 2),On (.store (.t 9) (.t 29) 2)])
 (.seq (.region [Ob 30 (.addr (.t 9) 0),Ob 31 (.load (.t 30) none),Ob 32 (.mov (.t 2)),Ob 33 (.bin .leq (.t 31) (.t 32))])
 (.cond (.t 33) (.region [Ob 34 (.mov (.t 7)),Ob 35 (.addr (.t 9) 1),Ob 36 (.load (.t 35) none),Ob 37 (.mnx true (.t 34) (.t 36)),Ob 7 (.mov (.t 37))])
 (.skip)))))
 (.region [Ob 38 (.bin .add (.t 26) (Ci 1)),Ob 26 (.mov (.t 38))])))))))
 (.seq (.region [Ob 39 (.mov (.t 7)),Ob 6 (.mov (.t 39))])
 (.ret))))
def r106 : List Res := [.t 6]
def a106 : AFn := ⟨3, c106, r106,.v⟩
def c107 : ACode := .seq (.region [Ob 4 (.mov (.c (.bool false)))])
 (.seq (.region [Ob 5 (.mov (.t 0)),Ob 6 (.mov (.t 1)),Ob 7 (.call 71 [(.t 5), (.t 6)]),Ob 8 (.bin .geq (.t 7) (Ci 0)),Ob 4 (.mov (.t 8))])
 (.ret))
def r107 : List Res := [.t 4]
def a107 : AFn := ⟨2, c107, r107,.v⟩
def c108 : ACode := .seq (.region [Ob 2 (.box (.t 0) 9),Ob 3 (.mov (.c (.bool false)))])
 (.seq (.region [Ob 4 (.load (.t 1) none),Ob 5 (.load (.t 2) (some 9)),Ob 6 (.callv (.t 4) [(.t 5)]),Ob 7 (.not (.t 6)),Ob 3 (.mov (.t 7))])
 (.ret))
def r108 : List Res := [.t 3]
def a108 : AFn := ⟨2, c108, r108,.v⟩
def c109 : ACode := .seq (.region [Ob 3 (.box (.t 1) 1),Ob 4 (.mov (.c (.bool false)))])
 (.seq (.region [Ob 5 (.mov (.t 0)),Ob 6 (.clo 135 [] [(.t 3)]),Ob 7 (.call 134 [(.t 5), (.t 6)]),Ob 8 (.not (.t 7)),Ob 4 (.mov (.t 8))])
 (.ret))
def r109 : List Res := [.t 4]
def a109 : AFn := ⟨2, c109, r109,.v⟩
def c110 : ACode := .seq (.region [Ob 2 (.mov (.c (.bool false)))])
 (.seq (.region [Ob 3 (.mov (.t 0)),Ob 4 (.call 69 [(.t 3), (Ci 0), (Ci 1000)]),Ob 2 (.mov (.t 4))])
 (.ret))
def r110 : List Res := [.t 2]
def a110 : AFn := ⟨1, c110, r110,.v⟩
def c111 : ACode := .seq (.region [Ob 3 (.box (.t 1) 1),Ob 4 (.mov (.c (.bool false)))])
 (.seq (.region [Ob 5 (.mov (.t 0)),Ob 6 (.clo 137 [] [(.t 3)]),Ob 7 (.call 136 [(.t 5), (.t 6)]),Ob 8 (.not (.t 7)),Ob 4 (.mov (.t 8))])
 (.ret))
def r111 : List Res := [.t 4]
def a111 : AFn := ⟨2, c111, r111,.v⟩
def c112 : ACode := .seq (.region [Ob 1 (.box (.t 0) 2),Ob 2 (.mov (.c (.bool false)))])
 (.seq (.region [Ob 3 (.addr (.t 1) 0),Ob 4 (.load (.t 3) none),Ob 5 (.call 59 [(.t 4)]),Ob 6 (.mov (.t 5)),Og 7 6 true (.addr (.t 1) 1),Og 8 6 true (.load (.t 7) none),Og 9 6 true (.call 110 [(.t 8)]),Ob 10 (.pick (.t 6) (.t 9) (.c (.bool false))),Ob 2 (.mov (.t 10))])
 (.ret))
def r112 : List Res := [.t 2]
def a112 : AFn := ⟨1, c112, r112,.v⟩
def c113 : ACode := .seq (.region [Ob 2 (.mov (.c (.bool false)))])
 (.seq (.seq (.region [Ob 5 (.mov (.t 0)),Ob 6 (.len (.t 5)),Ob 7 (.mov (Ci 0))])
 (.block 0 (.loop (.seq (.region [Ob 8 (.bin .lss (.t 7) (.t 6))])
 (.seq (.cond (.t 8) (.skip)
 (.exit 0))
 (.seq (.block 1 (.seq (.region [Ob 9 (.mov (.t 7)),Ob 10 (.idx (.t 5) (.t 7) 2),Ob 11 (.load (.t 10) (some 2)),Ob 4 (.new (.agg [(.int .i64 0), (.int .i64 0)]) 2),Ob 3 (.mov (.t 9)),On (.store (.t 4) (.t 11) 2)])
 (.seq (.region [Ob 12 (.mov (.t 3)),Ob 13 (.bin .gtr (.t 12) (Ci 0)),Ob 14 (.mov (.t 13)),Og 15 14 true (.addr (.t 4) 0),Og 16 14 true (.load (.t 15) none),Og 17 14 true (.mov (.t 0)),Og 18 14 true (.mov (.t 3)),Og 19 14 true (.bin .sub (.t 18) (Ci 1)),Og 20 14 true (.idx (.t 17) (.t 19) 2),Og 21 14 true (.addr (.t 20) 0),Og 22 14 true (.load (.t 21) none),Og 23 14 true (.bin .leq (.t 16) (.t 22)),Ob 24 (.pick (.t 14) (.t 23) (.c (.bool false)))])
 (.cond (.t 24) (.seq (.region [Ob 2 (.mov (.c (.bool false)))])
 (.ret))
 (.skip)))))
 (.region [Ob 25 (.bin .add (.t 7) (Ci 1)),Ob 7 (.mov (.t 25))])))))))
 (.seq (.region [Ob 2 (.mov (.c (.bool true)))])
 (.ret)))
def r113 : List Res := [.t 2]
def a113 : AFn := ⟨1, c113, r113,.v⟩
def c114 : ACode := .seq (.region [Ob 4 (.mov (Ci 0))])
 (.seq (.seq (.region [Ob 6 (.mov (.t 0)),Ob 7 (.len (.t 6)),Ob 8 (.mov (Ci 0))])
 (.block 0 (.loop (.seq (.region [Ob 9 (.bin .lss (.t 8) (.t 7))])
 (.seq (.cond (.t 9) (.skip)
 (.exit 0))
 (.seq (.block 1 (.seq (.region [Ob 10 (.mov (.t 8)),Ob 5 (.mov (.t 10))])
 (.seq (.region [Ob 11 (.mov (.t 1)),Ob 12 (.mov (.t 0)),Ob 13 (.mov (.t 5)),Ob 14 (.idx (.t 12) (.t 13) 6),Ob 15 (.load (.t 14) (some 6)),Ob 16 (.callv (.t 11) [(.t 15)])])
 (.cond (.t 16) (.seq (.region [Ob 17 (.mov (.t 5)),Ob 4 (.mov (.t 17))])
 (.ret))
 (.skip)))))
 (.region [Ob 18 (.bin .add (.t 8) (Ci 1)),Ob 8 (.mov (.t 18))])))))))
 (.seq (.region [Ob 4 (.mov (Ci (-1)))])
 (.ret)))
def r114 : List Res := [.t 4]
def a114 : AFn := ⟨2, c114, r114,.v⟩
def c115 : ACode := Srt.insertionSortF 6 (some 6)
def r115 : List Res := []
def a115 : AFn := ⟨4, c115, r115,.r⟩
def c116 : ACode := Srt.heapSortF 6 (some 6) 138
def r116 : List Res := []
def a116 : AFn := ⟨4, c116, r116,.r⟩
def c117 : ACode := Srt.breakPatternsF 6 (some 6) 139 140
def r117 : List Res := []
def a117 : AFn := ⟨4, c117, r117,.r⟩
def c118 : ACode := Srt.choosePivotF 6 (some 6) 142 141
def r118 : List Res := [.t 8,.t 9]
def a118 : AFn := ⟨4, c118, r118,.r⟩
def c119 : ACode := Srt.reverseRangeF 6 (some 6)
def r119 : List Res := []
def a119 : AFn := ⟨4, c119, r119,.r⟩
def c120 : ACode := Srt.partialInsertionSortF 6 (some 6)
def r120 : List Res := [.t 8]
def a120 : AFn := ⟨4, c120, r120,.r⟩
def c121 : ACode := Srt.partitionEqualF 6 (some 6)
def r121 : List Res := [.t 10]
def a121 : AFn := ⟨5, c121, r121,.r⟩
def c122 : ACode := Srt.partitionF 6 (some 6)
def r122 : List Res := [.t 10,.t 11]
def a122 : AFn := ⟨5, c122, r122,.r⟩
def c123 : ACode := .seq (.region [Ob 2 (.mov (Ci 0))])
 (.seq (.seq (.region [Ob 3 (.mov (.t 0)),Ob 4 (.bin .geq (.t 3) (.c (.int .u32 65536)))])
 (.cond (.t 4) (.seq (.region [Ob 5 (.mov (.t 0)),Ob 6 (.bin .shr (.t 5) (.c (.int .u64 16))),Ob 0 (.mov (.t 6))])
 (.region [Ob 2 (.mov (Ci 16))]))
 (.skip)))
 (.seq (.seq (.region [Ob 7 (.mov (.t 0)),Ob 8 (.bin .geq (.t 7) (.c (.int .u32 256)))])
 (.cond (.t 8) (.seq (.region [Ob 9 (.mov (.t 0)),Ob 10 (.bin .shr (.t 9) (.c (.int .u64 8))),Ob 0 (.mov (.t 10))])
 (.region [Ob 11 (.mov (.t 2)),Ob 12 (.bin .add (.t 11) (Ci 8)),Ob 2 (.mov (.t 12))]))
 (.skip)))
 (.seq (.region [Ob 13 (.mov (.t 2)),Ob 14 (.mov (.t 0)),Ob 15 (.conv .u8 (.t 14)),⟨some 16,none,.sidx (.c (.str ⟨#[0, 1, 2, 2, 3, 3, 3, 3, 4, 4, 4, 4, 4, 4, 4, 4, 5, 5, 5, 5, 5, 5, 5, 5, 5, 5, 5, 5, 5, 5, 5, 5, 6, 6, 6, 6, 6, 6, 6, 6, 6, 6, 6, 6, 6, 6, 6, 6, 6, 6, 6, 6, 6, 6, 6, 6, 6, 6, 6, 6, 6, 6, 6, 6, 7, 7, 7, 7, 7, 7, 7, 7, 7, 7, 7, 7, 7, 7, 7, 7, 7, 7, 7, 7, 7, 7, 7, 7, 7, 7, 7, 7, 7, 7, 7, 7, 7, 7, 7, 7, 7, 7, 7, 7, 7, 7, 7, 7, 7, 7, 7, 7, 7, 7, 7, 7, 7, 7, 7, 7, 7, 7, 7, 7, 7, 7, 7, 7, 8, 8, 8, 8, 8, 8, 8, 8, 8, 8, 8, 8, 8, 8, 8, 8, 8, 8, 8, 8, 8, 8, 8, 8, 8, 8, 8, 8, 8, 8, 8, 8, 8, 8, 8, 8, 8, 8, 8, 8, 8, 8, 8, 8, 8, 8, 8, 8, 8, 8, 8, 8, 8, 8, 8, 8, 8, 8, 8, 8, 8, 8, 8, 8, 8, 8, 8, 8, 8, 8, 8, 8, 8, 8, 8, 8, 8, 8, 8, 8, 8, 8, 8, 8, 8, 8, 8, 8, 8, 8, 8, 8, 8, 8, 8, 8, 8, 8, 8, 8, 8, 8, 8, 8, 8, 8, 8, 8, 8, 8, 8, 8, 8, 8, 8, 8, 8, 8, 8, 8, 8, 8, 8, 8, 8, 8, 8, 8]⟩)) (.t 15)⟩,Ob 17 (.conv .i64 (.t 16)),Ob 18 (.bin .add (.t 13) (.t 17)),Ob 2 (.mov (.t 18))])
 (.ret))))
def r123 : List Res := [.t 2]
def a123 : AFn := ⟨1, c123, r123,.v⟩
def c124 : ACode := .seq (.region [Ob 2 (.mov (Ci 0))])
 (.seq (.seq (.region [Ob 3 (.mov (.t 0)),Ob 4 (.bin .geq (.t 3) (.c (.int .u64 4294967296)))])
 (.cond (.t 4) (.seq (.region [Ob 5 (.mov (.t 0)),Ob 6 (.bin .shr (.t 5) (.c (.int .u64 32))),Ob 0 (.mov (.t 6))])
 (.region [Ob 2 (.mov (Ci 32))]))
 (.skip)))
 (.seq (.seq (.region [Ob 7 (.mov (.t 0)),Ob 8 (.bin .geq (.t 7) (.c (.int .u64 65536)))])
 (.cond (.t 8) (.seq (.region [Ob 9 (.mov (.t 0)),Ob 10 (.bin .shr (.t 9) (.c (.int .u64 16))),Ob 0 (.mov (.t 10))])
 (.region [Ob 11 (.mov (.t 2)),Ob 12 (.bin .add (.t 11) (Ci 16)),Ob 2 (.mov (.t 12))]))
 (.skip)))
 (.seq (.seq (.region [Ob 13 (.mov (.t 0)),Ob 14 (.bin .geq (.t 13) (.c (.int .u64 256)))])
 (.cond (.t 14) (.seq (.region [Ob 15 (.mov (.t 0)),Ob 16 (.bin .shr (.t 15) (.c (.int .u64 8))),Ob 0 (.mov (.t 16))])
 (.region [Ob 17 (.mov (.t 2)),Ob 18 (.bin .add (.t 17) (Ci 8)),Ob 2 (.mov (.t 18))]))
 (.skip)))
 (.seq (.region [Ob 19 (.mov (.t 2)),Ob 20 (.mov (.t 0)),Ob 21 (.conv .u8 (.t 20)),⟨some 22,none,.sidx (.c (.str ⟨#[0, 1, 2, 2, 3, 3, 3, 3, 4, 4, 4, 4, 4, 4, 4, 4, 5, 5, 5, 5, 5, 5, 5, 5, 5, 5, 5, 5, 5, 5, 5, 5, 6, 6, 6, 6, 6, 6, 6, 6, 6, 6, 6, 6, 6, 6, 6, 6, 6, 6, 6, 6, 6, 6, 6, 6, 6, 6, 6, 6, 6, 6, 6, 6, 7, 7, 7, 7, 7, 7, 7, 7, 7, 7, 7, 7, 7, 7, 7, 7, 7, 7, 7, 7, 7, 7, 7, 7, 7, 7, 7, 7, 7, 7, 7, 7, 7, 7, 7, 7, 7, 7, 7, 7, 7, 7, 7, 7, 7, 7, 7, 7, 7, 7, 7, 7, 7, 7, 7, 7, 7, 7, 7, 7, 7, 7, 7, 7, 8, 8, 8, 8, 8, 8, 8, 8, 8, 8, 8, 8, 8, 8, 8, 8, 8, 8, 8, 8, 8, 8, 8, 8, 8, 8, 8, 8, 8, 8, 8, 8, 8, 8, 8, 8, 8, 8, 8, 8, 8, 8, 8, 8, 8, 8, 8, 8, 8, 8, 8, 8, 8, 8, 8, 8, 8, 8, 8, 8, 8, 8, 8, 8, 8, 8, 8, 8, 8, 8, 8, 8, 8, 8, 8, 8, 8, 8, 8, 8, 8, 8, 8, 8, 8, 8, 8, 8, 8, 8, 8, 8, 8, 8, 8, 8, 8, 8, 8, 8, 8, 8, 8, 8, 8, 8, 8, 8, 8, 8, 8, 8, 8, 8, 8, 8, 8, 8, 8, 8, 8, 8, 8, 8, 8, 8, 8, 8]⟩)) (.t 21)⟩,Ob 23 (.conv .i64 (.t 22)),Ob 24 (.bin .add (.t 19) (.t 23)),Ob 2 (.mov (.t 24))])
 (.ret)))))
def r124 : List Res := [.t 2]
def a124 : AFn := ⟨1, c124, r124,.v⟩
def c134 : ACode := .seq (.region [Ob 4 (.mov (.c (.bool false)))])
 (.seq (.region [Ob 5 (.mov (.t 0)),Ob 6 (.mov (.t 1)),Ob 7 (.call 146 [(.t 5), (.t 6)]),Ob 8 (.bin .geq (.t 7) (Ci 0)),Ob 4 (.mov (.t 8))])
 (.ret))
def r134 : List Res := [.t 4]
def a134 : AFn := ⟨2, c134, r134,.v⟩
def c135 : ACode := .seq (.region [Ob 3 (.mov (.c (.bool false)))])
 (.seq (.region [Ob 4 (.load (.t 1) none),Ob 5 (.mov (.t 0)),Ob 6 (.callv (.t 4) [(.t 5)]),Ob 7 (.not (.t 6)),Ob 3 (.mov (.t 7))])
 (.ret))
def r135 : List Res := [.t 3]
def a135 : AFn := ⟨2, c135, r135,.v⟩
def c136 : ACode := .seq (.region [Ob 4 (.mov (.c (.bool false)))])
 (.seq (.region [Ob 5 (.mov (.t 0)),Ob 6 (.mov (.t 1)),Ob 7 (.call 147 [(.t 5), (.t 6)]),Ob 8 (.bin .geq (.t 7) (Ci 0)),Ob 4 (.mov (.t 8))])
 (.ret))
def r136 : List Res := [.t 4]
def a136 : AFn := ⟨2, c136, r136,.v⟩
def c137 : ACode := .seq (.region [Ob 2 (.box (.t 0) 2),Ob 3 (.mov (.c (.bool false)))])
 (.seq (.region [Ob 4 (.load (.t 1) none),Ob 5 (.load (.t 2) (some 2)),Ob 6 (.callv (.t 4) [(.t 5)]),Ob 7 (.not (.t 6)),Ob 3 (.mov (.t 7))])
 (.ret))
def r137 : List Res := [.t 3]
def a137 : AFn := ⟨2, c137, r137,.v⟩
def c138 : ACode := Srt.siftDownF 6 (some 6)
def r138 : List Res := []
def a138 : AFn := ⟨5, c138, r138,.r⟩
def c139 : ACode := .seq (.region [Ob 2 (.mov (.c (.int .u64 0)))])
 (.seq (.region [Ob 3 (.mov (.t 0)),Ob 4 (.conv .u64 (.t 3)),Ob 5 (.call 101 [(.t 4)]),Ob 6 (.bin .shl (.c (.int .u64 1)) (.t 5)),Ob 2 (.mov (.t 6))])
 (.ret))
def r139 : List Res := [.t 2]
def a139 : AFn := ⟨1, c139, r139,.v⟩
def c140 : ACode := .seq (.region [Ob 2 (.mov (.c (.int .u64 0)))])
 (.seq (.region [Ob 3 (.mov (.t 0)),Ob 4 (.addr (.t 3) 0),Ob 5 (.load (.t 4) none),Ob 6 (.mov (.t 0)),Ob 7 (.addr (.t 6) 0),Ob 8 (.load (.t 7) none),Ob 9 (.bin .shl (.t 8) (.c (.int .u64 13))),Ob 10 (.bin .xor (.t 5) (.t 9)),Ob 11 (.addr (.t 3) 0),On (.store (.t 11) (.t 10) 1)])
 (.seq (.region [Ob 12 (.mov (.t 0)),Ob 13 (.addr (.t 12) 0),Ob 14 (.load (.t 13) none),Ob 15 (.mov (.t 0)),Ob 16 (.addr (.t 15) 0),Ob 17 (.load (.t 16) none),Ob 18 (.bin .shr (.t 17) (.c (.int .u64 7))),Ob 19 (.bin .xor (.t 14) (.t 18)),Ob 20 (.addr (.t 12) 0),On (.store (.t 20) (.t 19) 1)])
 (.seq (.region [Ob 21 (.mov (.t 0)),Ob 22 (.addr (.t 21) 0),Ob 23 (.load (.t 22) none),Ob 24 (.mov (.t 0)),Ob 25 (.addr (.t 24) 0),Ob 26 (.load (.t 25) none),Ob 27 (.bin .shl (.t 26) (.c (.int .u64 17))),Ob 28 (.bin .xor (.t 23) (.t 27)),Ob 29 (.addr (.t 21) 0),On (.store (.t 29) (.t 28) 1)])
 (.seq (.region [Ob 30 (.mov (.t 0)),Ob 31 (.addr (.t 30) 0),Ob 32 (.load (.t 31) none),Ob 2 (.mov (.t 32))])
 (.ret)))))
def r140 : List Res := [.t 2]
def a140 : AFn := ⟨1, c140, r140,.r⟩
def c141 : ACode := Srt.medianAdjacentF 6 (some 6) 142
def r141 : List Res := [.t 8]
def a141 : AFn := ⟨4, c141, r141,.r⟩
def c142 : ACode := Srt.medianF 6 (some 6) 148
def r142 : List Res := [.t 12]
def a142 : AFn := ⟨6, c142, r142,.r⟩
def c146 : ACode := .seq (.region [Ob 4 (.mov (Ci 0))])
 (.seq (.seq (.region [Ob 6 (.mov (.t 0)),Ob 7 (.len (.t 6)),Ob 8 (.mov (Ci 0))])
 (.block 0 (.loop (.seq (.region [Ob 9 (.bin .lss (.t 8) (.t 7))])
 (.seq (.cond (.t 9) (.skip)
 (.exit 0))
 (.seq (.block 1 (.seq (.region [Ob 10 (.mov (.t 8)),Ob 5 (.mov (.t 10))])
 (.seq (.region [Ob 11 (.mov (.t 1)),Ob 12 (.mov (.t 0)),Ob 13 (.mov (.t 5)),Ob 14 (.idx (.t 12) (.t 13) 1),Ob 15 (.load (.t 14) none),Ob 16 (.callv (.t 11) [(.t 15)])])
 (.cond (.t 16) (.seq (.region [Ob 17 (.mov (.t 5)),Ob 4 (.mov (.t 17))])
 (.ret))
 (.skip)))))
 (.region [Ob 18 (.bin .add (.t 8) (Ci 1)),Ob 8 (.mov (.t 18))])))))))
 (.seq (.region [Ob 4 (.mov (Ci (-1)))])
 (.ret)))
def r146 : List Res := [.t 4]
def a146 : AFn := ⟨2, c146, r146,.v⟩
def c147 : ACode := .seq (.region [Ob 4 (.mov (Ci 0))])
 (.seq (.seq (.region [Ob 6 (.mov (.t 0)),Ob 7 (.len (.t 6)),Ob 8 (.mov (Ci 0))])
 (.block 0 (.loop (.seq (.region [Ob 9 (.bin .lss (.t 8) (.t 7))])
 (.seq (.cond (.t 9) (.skip)
 (.exit 0))
 (.seq (.block 1 (.seq (.region [Ob 10 (.mov (.t 8)),Ob 5 (.mov (.t 10))])
 (.seq (.region [Ob 11 (.mov (.t 1)),Ob 12 (.mov (.t 0)),Ob 13 (.mov (.t 5)),Ob 14 (.idx (.t 12) (.t 13) 2),Ob 15 (.load (.t 14) (some 2)),Ob 16 (.callv (.t 11) [(.t 15)])])
 (.cond (.t 16) (.seq (.region [Ob 17 (.mov (.t 5)),Ob 4 (.mov (.t 17))])
 (.ret))
 (.skip)))))
 (.region [Ob 18 (.bin .add (.t 8) (Ci 1)),Ob 8 (.mov (.t 18))])))))))
 (.seq (.region [Ob 4 (.mov (Ci (-1)))])
 (.ret)))
def r147 : List Res := [.t 4]
def a147 : AFn := ⟨2, c147, r147,.v⟩
def c148 : ACode := Srt.order2F 6 (some 6)
def r148 : List Res := [.t 10,.t 11]
def a148 : AFn := ⟨5, c148, r148,.r⟩
def ft : FuncId → Option AFn
  | 5 => some a5
  | 14 => some a14
  | 15 => some a15
  | 16 => some a16
  | 19 => some a19
  | 20 => some a20
  | 21 => some a21
  | 22 => some a22
  | 23 => some a23
  | 24 => some a24
  | 25 => some a25
  | 30 => some a30
  | 31 => some a31
  | 38 => some a38
  | 39 => some a39
  | 40 => some a40
  | 42 => some a42
  | 44 => some a44
  | 45 => some a45
  | 46 => some a46
  | 47 => some a47
  | 48 => some a48
  | 49 => some a49
  | 50 => some a50
  | 51 => some a51
  | 52 => some a52
  | 53 => some a53
  | 54 => some a54
  | 55 => some a55
  | 59 => some a59
  | 60 => some a60
  | 61 => some a61
  | 62 => some a62
  | 63 => some a63
  | 68 => some a68
  | 69 => some a69
  | 70 => some a70
  | 71 => some a71
  | 72 => some a72
  | 73 => some a73
  | 74 => some a74
  | 75 => some a75
  | 76 => some a76
  | 77 => some a77
  | 78 => some a78
  | 79 => some a79
  | 80 => some a80
  | 81 => some a81
  | 82 => some a82
  | 83 => some a83
  | 88 => some a88
  | 89 => some a89
  | 90 => some a90
  | 91 => some a91
  | 92 => some a92
  | 93 => some a93
  | 94 => some a94
  | 96 => some a96
  | 97 => some a97
  | 98 => some a98
  | 99 => some a99
  | 100 => some a100
  | 101 => some a101
  | 102 => some a102
  | 106 => some a106
  | 107 => some a107
  | 108 => some a108
  | 109 => some a109
  | 110 => some a110
  | 111 => some a111
  | 112 => some a112
  | 113 => some a113
  | 114 => some a114
  | 115 => some a115
  | 116 => some a116
  | 117 => some a117
  | 118 => some a118
  | 119 => some a119
  | 120 => some a120
  | 121 => some a121
  | 122 => some a122
  | 123 => some a123
  | 124 => some a124
  | 134 => some a134
  | 135 => some a135
  | 136 => some a136
  | 137 => some a137
  | 138 => some a138
  | 139 => some a139
  | 140 => some a140
  | 141 => some a141
  | 142 => some a142
  | 146 => some a146
  | 147 => some a147
  | 148 => some a148
  | _ => none
theorem ft5 : ft 5 = some a5 := rfl
theorem ft14 : ft 14 = some a14 := rfl
theorem ft15 : ft 15 = some a15 := rfl
theorem ft16 : ft 16 = some a16 := rfl
theorem ft19 : ft 19 = some a19 := rfl
theorem ft20 : ft 20 = some a20 := rfl
theorem ft21 : ft 21 = some a21 := rfl
theorem ft22 : ft 22 = some a22 := rfl
theorem ft23 : ft 23 = some a23 := rfl
theorem ft24 : ft 24 = some a24 := rfl
theorem ft25 : ft 25 = some a25 := rfl
theorem ft30 : ft 30 = some a30 := rfl
theorem ft31 : ft 31 = some a31 := rfl
theorem ft38 : ft 38 = some a38 := rfl
theorem ft39 : ft 39 = some a39 := rfl
theorem ft40 : ft 40 = some a40 := rfl
theorem ft42 : ft 42 = some a42 := rfl
theorem ft44 : ft 44 = some a44 := rfl
theorem ft45 : ft 45 = some a45 := rfl
theorem ft46 : ft 46 = some a46 := rfl
theorem ft47 : ft 47 = some a47 := rfl
theorem ft48 : ft 48 = some a48 := rfl
theorem ft49 : ft 49 = some a49 := rfl
theorem ft50 : ft 50 = some a50 := rfl
theorem ft51 : ft 51 = some a51 := rfl
theorem ft52 : ft 52 = some a52 := rfl
theorem ft53 : ft 53 = some a53 := rfl
theorem ft54 : ft 54 = some a54 := rfl
theorem ft55 : ft 55 = some a55 := rfl
theorem ft59 : ft 59 = some a59 := rfl
theorem ft60 : ft 60 = some a60 := rfl
theorem ft61 : ft 61 = some a61 := rfl
theorem ft62 : ft 62 = some a62 := rfl
theorem ft63 : ft 63 = some a63 := rfl
theorem ft68 : ft 68 = some a68 := rfl
theorem ft69 : ft 69 = some a69 := rfl
theorem ft70 : ft 70 = some a70 := rfl
theorem ft71 : ft 71 = some a71 := rfl
theorem ft72 : ft 72 = some a72 := rfl
theorem ft73 : ft 73 = some a73 := rfl
theorem ft74 : ft 74 = some a74 := rfl
theorem ft75 : ft 75 = some a75 := rfl
theorem ft76 : ft 76 = some a76 := rfl
theorem ft77 : ft 77 = some a77 := rfl
theorem ft78 : ft 78 = some a78 := rfl
theorem ft79 : ft 79 = some a79 := rfl
theorem ft80 : ft 80 = some a80 := rfl
theorem ft81 : ft 81 = some a81 := rfl
theorem ft82 : ft 82 = some a82 := rfl
theorem ft83 : ft 83 = some a83 := rfl
theorem ft88 : ft 88 = some a88 := rfl
theorem ft89 : ft 89 = some a89 := rfl
theorem ft90 : ft 90 = some a90 := rfl
theorem ft91 : ft 91 = some a91 := rfl
theorem ft92 : ft 92 = some a92 := rfl
theorem ft93 : ft 93 = some a93 := rfl
theorem ft94 : ft 94 = some a94 := rfl
theorem ft96 : ft 96 = some a96 := rfl
theorem ft97 : ft 97 = some a97 := rfl
theorem ft98 : ft 98 = some a98 := rfl
theorem ft99 : ft 99 = some a99 := rfl
theorem ft102 : ft 102 = some a102 := rfl
theorem ft106 : ft 106 = some a106 := rfl
theorem ft107 : ft 107 = some a107 := rfl
theorem ft108 : ft 108 = some a108 := rfl
theorem ft109 : ft 109 = some a109 := rfl
theorem ft110 : ft 110 = some a110 := rfl
theorem ft111 : ft 111 = some a111 := rfl
theorem ft112 : ft 112 = some a112 := rfl
theorem ft113 : ft 113 = some a113 := rfl
theorem ft114 : ft 114 = some a114 := rfl
theorem ft134 : ft 134 = some a134 := rfl
theorem ft135 : ft 135 = some a135 := rfl
theorem ft136 : ft 136 = some a136 := rfl
theorem ft137 : ft 137 = some a137 := rfl
theorem ft146 : ft 146 = some a146 := rfl
theorem ft147 : ft 147 = some a147 := rfl
end Go.Ab.T
end

section
namespace Go.Ab.T
abbrev WBv (f : FuncId) : Prop := ∀ (s : St) (as : List AV) (K : AV → St → Prop), WB ft f as s K = WV ft f (as.map (snap s.mem dep)) fun v => (as.all (fun a => !hot dep a) || plain dep v) = true ∧ K v s
abbrev WFv (f : FuncId) : Prop := ∀ (s : St) (as : List AV) (K : AV → St → Prop), WF ft f as s K = WV ft f (as.map (snap s.mem dep)) fun v => (as.all (fun a => !hot dep a) || plain dep v) = true ∧ K v s
theorem WB14 : WBv 14 := fun s as K => WB_v ft14 rfl as s K
theorem WB15 : WBv 15 := fun s as K => WB_v ft15 rfl as s K
theorem WB16 : WBv 16 := fun s as K => WB_v ft16 rfl as s K
theorem WB19 : WBv 19 := fun s as K => WB_v ft19 rfl as s K
theorem WB20 : WBv 20 := fun s as K => WB_v ft20 rfl as s K
theorem WB21 : WBv 21 := fun s as K => WB_v ft21 rfl as s K
theorem WB23 : WBv 23 := fun s as K => WB_v ft23 rfl as s K
theorem WB24 : WBv 24 := fun s as K => WB_v ft24 rfl as s K
theorem WB25 : WBv 25 := fun s as K => WB_v ft25 rfl as s K
theorem WB30 : WBv 30 := fun s as K => WB_v ft30 rfl as s K
theorem WB31 : WBv 31 := fun s as K => WB_v ft31 rfl as s K
theorem WB38 : WBv 38 := fun s as K => WB_v ft38 rfl as s K
theorem WB39 : WBv 39 := fun s as K => WB_v ft39 rfl as s K
theorem WB40 : WBv 40 := fun s as K => WB_v ft40 rfl as s K
theorem WB42 : WBv 42 := fun s as K => WB_v ft42 rfl as s K
theorem WB44 : WBv 44 := fun s as K => WB_v ft44 rfl as s K
theorem WB45 : WBv 45 := fun s as K => WB_v ft45 rfl as s K
theorem WB46 : WBv 46 := fun s as K => WB_v ft46 rfl as s K
theorem WB47 : WBv 47 := fun s as K => WB_v ft47 rfl as s K
theorem WB48 : WBv 48 := fun s as K => WB_v ft48 rfl as s K
theorem WB49 : WBv 49 := fun s as K => WB_v ft49 rfl as s K
theorem WB50 : WBv 50 := fun s as K => WB_v ft50 rfl as s K
theorem WB51 : WBv 51 := fun s as K => WB_v ft51 rfl as s K
theorem WB52 : WBv 52 := fun s as K => WB_v ft52 rfl as s K
theorem WB53 : WBv 53 := fun s as K => WB_v ft53 rfl as s K
theorem WB54 : WBv 54 := fun s as K => WB_v ft54 rfl as s K
theorem WB55 : WBv 55 := fun s as K => WB_v ft55 rfl as s K
theorem WB59 : WBv 59 := fun s as K => WB_v ft59 rfl as s K
theorem WB60 : WBv 60 := fun s as K => WB_v ft60 rfl as s K
theorem WB61 : WBv 61 := fun s as K => WB_v ft61 rfl as s K
theorem WB62 : WBv 62 := fun s as K => WB_v ft62 rfl as s K
theorem WB63 : WBv 63 := fun s as K => WB_v ft63 rfl as s K
theorem WB68 : WBv 68 := fun s as K => WB_v ft68 rfl as s K
theorem WB69 : WBv 69 := fun s as K => WB_v ft69 rfl as s K
theorem WB70 : WBv 70 := fun s as K => WB_v ft70 rfl as s K
theorem WB71 : WBv 71 := fun s as K => WB_v ft71 rfl as s K
theorem WB72 : WBv 72 := fun s as K => WB_v ft72 rfl as s K
theorem WB73 : WBv 73 := fun s as K => WB_v ft73 rfl as s K
theorem WB74 : WBv 74 := fun s as K => WB_v ft74 rfl as s K
theorem WB75 : WBv 75 := fun s as K => WB_v ft75 rfl as s K
theorem WB76 (s : St) (as : List AV) (K : AV → St → Prop) : WB ft 76 as s K = WR ft (.f 76) (as.map (snap s.mem dep)) .nil fun v m => (as.all (fun a => !hot dep a) || (ownly dep v && m.blks.all Blk.ownly)) = true ∧
      K (shift s.mem.blks.length s.mem.toks.length dep v) (s.setMem (joinMem s.mem m dep)) := WB_o ft76 rfl as s K
theorem WB77 (s : St) (as : List AV) (K : AV → St → Prop) : WB ft 77 as s K = WR ft (.f 77) as s.mem fun v m => K v (s.setMem m) := WB_r ft77 rfl as s K
theorem WB78 : WBv 78 := fun s as K => WB_v ft78 rfl as s K
theorem WB79 : WBv 79 := fun s as K => WB_v ft79 rfl as s K
theorem WB80 (s : St) (as : List AV) (K : AV → St → Prop) : WB ft 80 as s K = WR ft (.f 80) as s.mem fun v m => K v (s.setMem m) := WB_r ft80 rfl as s K
theorem WB81 (s : St) (as : List AV) (K : AV → St → Prop) : WB ft 81 as s K = WR ft (.f 81) (as.map (snap s.mem dep)) .nil fun v m => (as.all (fun a => !hot dep a) || (ownly dep v && m.blks.all Blk.ownly)) = true ∧
      K (shift s.mem.blks.length s.mem.toks.length dep v) (s.setMem (joinMem s.mem m dep)) := WB_o ft81 rfl as s K
theorem WB82 : WBv 82 := fun s as K => WB_v ft82 rfl as s K
theorem WB83 : WBv 83 := fun s as K => WB_v ft83 rfl as s K
theorem WB88 : WBv 88 := fun s as K => WB_v ft88 rfl as s K
theorem WB89 : WBv 89 := fun s as K => WB_v ft89 rfl as s K
theorem WB90 : WBv 90 := fun s as K => WB_v ft90 rfl as s K
theorem WB91 : WBv 91 := fun s as K => WB_v ft91 rfl as s K
theorem WB92 : WBv 92 := fun s as K => WB_v ft92 rfl as s K
theorem WB93 : WBv 93 := fun s as K => WB_v ft93 rfl as s K
theorem WB94 : WBv 94 := fun s as K => WB_v ft94 rfl as s K
theorem WB96 (s : St) (as : List AV) (K : AV → St → Prop) : WB ft 96 as s K = WR ft (.f 96) as s.mem fun v m => K v (s.setMem m) := WB_r ft96 rfl as s K
theorem WB97 : WBv 97 := fun s as K => WB_v ft97 rfl as s K
theorem WB98 : WBv 98 := fun s as K => WB_v ft98 rfl as s K
theorem WB99 (s : St) (as : List AV) (K : AV → St → Prop) : WB ft 99 as s K = WR ft (.f 99) as s.mem fun v m => K v (s.setMem m) := WB_r ft99 rfl as s K
theorem WB102 : WBv 102 := fun s as K => WB_v ft102 rfl as s K
theorem WB106 : WBv 106 := fun s as K => WB_v ft106 rfl as s K
theorem WB107 : WBv 107 := fun s as K => WB_v ft107 rfl as s K
theorem WB108 : WBv 108 := fun s as K => WB_v ft108 rfl as s K
theorem WB109 : WBv 109 := fun s as K => WB_v ft109 rfl as s K
theorem WB110 : WBv 110 := fun s as K => WB_v ft110 rfl as s K
theorem WB111 : WBv 111 := fun s as K => WB_v ft111 rfl as s K
theorem WB112 : WBv 112 := fun s as K => WB_v ft112 rfl as s K
theorem WB113 : WBv 113 := fun s as K => WB_v ft113 rfl as s K
theorem WB114 : WBv 114 := fun s as K => WB_v ft114 rfl as s K
theorem WB134 : WBv 134 := fun s as K => WB_v ft134 rfl as s K
theorem WB135 : WBv 135 := fun s as K => WB_v ft135 rfl as s K
theorem WB136 : WBv 136 := fun s as K => WB_v ft136 rfl as s K
theorem WB137 : WBv 137 := fun s as K => WB_v ft137 rfl as s K
theorem WB146 : WBv 146 := fun s as K => WB_v ft146 rfl as s K
theorem WB147 : WBv 147 := fun s as K => WB_v ft147 rfl as s K
theorem WF22 : WFv 22 := fun s as K => WF_v ft22 as s K
end Go.Ab.T
end
